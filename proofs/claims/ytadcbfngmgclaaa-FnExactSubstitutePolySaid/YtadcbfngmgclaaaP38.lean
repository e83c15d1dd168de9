/-
  The law of 'SubstitutePoly', walked. Conditions: as the theorem states.
-/
import Derived.Test.YtadcbfngmgclaaaP35
import Derived.Test.YtadcbfngmgclaaaP27
import Derived.Test.YtadcbfngmgclaaaP36
import Derived.Deep.RegionWith
namespace Go.Proofs.Ytadcbfngmgclaaa
open Go.RowKit Go.Sort Go.Maps

set_option maxRecDepth 8000 in
set_option maxHeartbeats 16000000 in
theorem law_Sp (p d : Int) (v : Value) (xs : List Tm) (lv : Value) (G : List Pm) (w : World) (hn : xs.length ≤ 9223372036854775807) (hS : SliceT w v xs) (hby : ∀ t ∈ xs, tmByte t)
    (hnG : G.length ≤ 9223372036854775807) (hnr : ∀ g ∈ G, g.2.2.length ≤ 9223372036854775807) (hbG : ∀ g ∈ G, ∀ t ∈ g.2.2, tmByte t) (hG : SlP w lv G) :
    Calls Try.prog 3 #[.agg #[.int .i64 p, .int .i64 d, v], lv] w fun e w' => e = .returned (.bool true) ∧ Below w.heap.size w w' := by
  obtain ⟨a, cap, rfl, _⟩ := id hS
  obtain ⟨la, lc, rfl, _⟩ := id hG
  obtain ⟨W, hW, hbW, ⟨hWs1, hWs2⟩, rx⟩ := lbox1 w p d (.slice a xs.length cap)
  have hSW := hS.below hbW
  have hGW := hG.below hbW
  obtain ⟨⟨x0, x1, x2⟩, _⟩ := poly3 rx
  go_enter Try.func3, Try.ntmps3
  go_wp2_with fail
  rw [← hW]
  clear hW
  ((with_reducible refine (szPoly_any p d _ _ xs _ hn (by decide) (by decide) hSW).mono ?_); rintro e w0 ⟨rfl, hb0⟩)
  clear x0 x1 x2
  have rx0 := rowIs_below rx hb0 rx.lt
  have s0 := hb0.size
  have hbw0 := hbW.trans (hb0.mono hbW.size)
  by_cases hbig : 1048576 < xs.length
  · have HL : Hid (leftOf 1048576 xs.length = -1) := Lib.hid (by simp [leftOf]; omega)
    rw [HL.out]
    go_wp2
    go_ret
    exact ⟨rfl, hbw0⟩
  have hl : xs.length ≤ 1048576 := by omega
  have HL : Hid (leftOf 1048576 xs.length = 1048576 - (xs.length : Int)) := Lib.hid (by simp [leftOf]; omega)
  rw [HL.out]
  obtain ⟨lf, hlf⟩ : ∃ lf, 1048576 - (xs.length : Int) = lf := ⟨_, rfl⟩
  have hlf0 : 0 ≤ lf := by omega
  have hlf1 : lf ≤ 1048576 := by omega
  have hlf2 : ¬ lf < 0 := by omega
  rw [hlf]
  clear hbig HL rx hlf
  have hS0 := hSW.below hb0
  have hG0 := hGW.below hb0
  go_wp2_with fail
  ((with_reducible refine (szpolys _ G lf _ hlf0 hlf1 hnG hnr hG0).mono ?_); rintro e w1 ⟨rfl, hb1⟩)
  have rx1 := rowIs_below rx0 hb1 rx0.lt
  have s1 := hb1.size
  have hbw1 := hbw0.trans (hb1.mono hbw0.size)
  by_cases hbig : lf - ((G.length + totP G : Nat) : Int) < 0
  · have HL := Lib.hid (leftOf_lt hbig)
    rw [HL.out]
    go_wp2
    go_ret
    exact ⟨rfl, hbw1⟩
  have HL := Lib.hid (leftOf_ge hbig)
  have hlG : G.length ≤ 1048576 := by omega
  have htG : totP G ≤ 1048576 := by omega
  obtain ⟨lf2, hlf3⟩ : ∃ lf2, lf - ((G.length + totP G : Nat) : Int) = lf2 := ⟨_, rfl⟩
  rw [HL.out, hlf3]
  rw [hlf3] at hbig
  have HLR : Hid (∀ g ∈ G, g.2.2.length ≤ 1048576) := Lib.hid (fun g hg => Nat.le_trans (totP_of hg) htG)
  have HOK : Hid (∀ g ∈ G, PmOk g) := Lib.hid (fun g hg => ⟨hbG g hg, HLR.out g hg⟩)
  clear HL hlf3 hlf0 hlf1 hlf2 rx0 hnr hbG
  have hS1 := hS0.below hb1
  have hG1 := hG0.below hb1
  obtain ⟨o, ho⟩ := subO_ex (p := p) (d := d) (xs := xs) HOK.out hby
  have hso : o.S.length ≤ 1048576 := subO_len ho
  have HSP := Lib.hid (fun v' lv' w' h' k' => sSub p d v' lv' xs G w' hl h' hby hlG HOK.out k' o ho)
  have HIM := Lib.hid (fun v' lv' w' h' k' => iSub p d v' lv' xs G w' hl h' hby hlG HOK.out k' o ho)
  clear ho
  obtain ⟨P, D, S, c⟩ := o
  simp only at hso
  obtain ⟨⟨x0, x1, x2⟩, _⟩ := poly3 rx1
  go_wp2_with fail
  ((with_reducible refine (toPoly_any p d _ xs _ hl hS1).mono ?_); rintro e w2 ⟨v2, rfl, own2, hb2⟩)
  clear x0 x1 x2
  have s2 := hb2.size
  go_wp2_with fail
  ((with_reducible refine (topolys _ G _ hlG HLR.out (hG1.below hb2)).mono ?_); rintro e wa ⟨va, rfl, owna, hba⟩)
  have hb2a := hb2.trans (hba.mono s2)
  have sl2 := own2.slice.below hba
  have sa2 := hb2a.size
  clear own2 hb2 hba
  obtain ⟨ga, Fa, Ba, hva, _, _, _, _⟩ := owna.blocks
  subst hva
  obtain ⟨av2, cv2, hv2, _⟩ := id sl2
  subst hv2
  go_wp2_with fail
  ((with_reducible refine (HSP.out _ _ _ sl2 owna.slP).mono ?_); rintro e w3 ⟨sv3, rfl, ho3, hb3⟩)
  simp only at ho3
  obtain ⟨a3, c3, rfl, _⟩ := id ho3
  obtain ⟨V3, hV3, hbV3, ⟨hV3s1, hV3s2⟩, rb0⟩ := newbox w3 P D (.slice a3 S.length c3)
  have hbx := (hb2a.trans (hb3.mono sa2)).trans (hbV3.mono (Nat.le_trans sa2 hb3.size))
  have hS0 := ho3.below hbV3
  clear sl2 owna ho3 hb2a hb3 hbV3
  go_upto_region 9 with fail
  rw [← hV3]
  clear hV3
  have rx3 := rowIs_below rx1 hbx rx1.lt
  have hS3 := hS1.below hbx
  have hG3 := hG1.below hbx
  have hbw3 := hbw1.trans (hbx.mono hbw1.size)
  have sm3 := hS0.bound
  obtain ⟨N0, hN0⟩ : ∃ N0, V3.heap.size = N0 := ⟨_, rfl⟩
  have sz3 := hbw3.size
  have hB0lt := rb0.lt
  clear rx1 hS1 hG1 hb1 hbW hbw1 hbx
  obtain ⟨⟨x0, x1, x2⟩, _⟩ := poly3 rx3
  go_wp2_with fail
  ((with_reducible refine (toPoly_any p d _ xs _ hl hS3).mono ?_); rintro e w4 ⟨v4, rfl, own4, hb4⟩)
  clear x0 x1 x2
  obtain ⟨g4, f4, hv4, hgg, hgr4, _⟩ := id own4
  subst hv4
  have s4 := hb4.size
  obtain ⟨V4, hV4, hbV4, ⟨hV4s1, hV4s2⟩, rb1⟩ := newbox w4 p d (.slice (some ⟨g4, 0, none⟩) xs.length xs.length)
  have hbV := hb4.trans (hbV4.mono s4)
  have rxV := rowIs_below rx3 hbV rx3.lt
  have rb0V := rowIs_below rb0 hbV rb0.lt
  have own4V := own4.below hbV4
  have smV := sm3.kept (below_grown hbV) (Nat.le_refl _) (fun g e => by simp at e)
  have hbwV := hbw3.trans (hbV.mono hbw3.size)
  have hGV := hG3.below hbV
  have hg4lt : g4 < V4.heap.size := Nat.lt_of_lt_of_le hgr4.lt (by omega)
  clear rx3 rb0 own4 hgr4 hb4 hbV4 sm3
  go_upto_region 10 with fail
  rw [← hV4]
  clear hV4
  go_wp2_with fail
  ((with_reducible refine (topolys _ G _ hlG HLR.out hGV).mono ?_); rintro e w5 ⟨v5, rfl, own5, hb5⟩)
  obtain ⟨gb, FB, BB, hv5, hgbV, hPW, hgblt, hBBlt⟩ := own5.blocks
  subst hv5
  have s5 := hb5.size
  have rx5 := rowIs_below rxV hb5 rxV.lt
  have rb05 := rowIs_below rb0V hb5 rb0V.lt
  have rb15 := rowIs_below rb1 hb5 rb1.lt
  have own45 := own4V.below hb5
  have hS5 := own45.slice
  have hG5 := own5.slP
  have hB1lt := rb1.lt
  have sm5 := smV.kept (below_grown hb5) (by omega) (fun g e => by simp at e)
  have hbw5 := hbwV.trans (hb5.mono hbwV.size)
  clear rxV rb0V rb1 own4V smV hbwV hGV hb5 own5
  obtain ⟨⟨x0, x1, x2⟩, _⟩ := poly3 rb15
  go_wp2_with fail
  ((with_reducible refine (HIM.out _ _ _ hS5 hG5).mono ?_); rintro e wk ⟨sv5, rfl, ho5, hbk⟩)
  simp only at ho5
  obtain ⟨a5, c5, rfl⟩ := owns_slice ho5
  have sk := hbk.size
  obtain ⟨V6, hV6, hbV6, ⟨hV6s1, hV6s2⟩, rb2⟩ := newbox wk P D (.slice a5 S.length c5)
  have hbx := hbk.trans (hbV6.mono sk)
  have hg5 : OwnP V6 w5.heap.size (.slice a5 S.length c5) S := owns_belowT ho5 hbV6
  have hB2 : w5.heap.size ≤ wk.heap.size := sk
  clear x0 x1 x2 ho5 hbk hbV6
  go_upto_region 12 with fail
  rw [← hV6]
  clear hV6
  have hbw6 := hbw5.trans (hbx.mono hbw5.size)
  rw [hN0] at sm5 hgg hbV
  have sN : w.heap.size ≤ N0 := by omega
  have hNV : N0 ≤ w5.heap.size := by omega
  have hVs := hbx.size
  have st : LawSt w V6 w.heap.size w3.heap.size w4.heap.size wk.heap.size N0 p d P D (.slice a xs.length cap) (.slice a3 S.length c3) (.slice (some ⟨g4, 0, none⟩) xs.length xs.length) (.slice a5 S.length c5) xs S :=
    ⟨rowIs_below rx5 hbx rx5.lt, rowIs_below rb05 hbx rb05.lt, rowIs_below rb15 hbx rb15.lt, rb2, hS.bound.kept (below_grown hbw6) (Nat.le_refl _) (fun g e => by simp at e), sm5.kept (below_grown hbx) hNV (fun g e => by simp at e), hbw6, sN, by omega⟩
  have hx5 : OwnT V6 N0 (.slice (some ⟨g4, 0, none⟩) xs.length xs.length) xs := by
    have := own45.below hbx
    rwa [hN0] at this
  have hP6 := hPW.below hbx
  obtain ⟨⟨q0, q1, q2⟩, _⟩ := poly3 st.b2
  obtain ⟨⟨k0, k1, k2⟩, _⟩ := poly3 st.b0
  have hcc : (c != c) = false := by simp
  have hg4N : N0 ≤ g4 := by omega
  have hB0w : w3.heap.size < w4.heap.size := by omega
  clear rx5 rb05 rb15 rb2 hbx hbw5 hbw6 hbw3 hS3 hG3 hS5 hG5 sm5 own45 hS0 HSP hbV s4 hN0 hPW
  go_wp2_with fail
  ((with_reducible refine (eqPoly_same P D _ _ S _ hso (OwnP.slice hg5) (st.sm.slice st.n0.2)).mono ?_); rintro e w6 ⟨rfl, hb6⟩)
  clear q0 q1 q2 k0 k1 k2
  have st6 := st.on (hb6.drew)
  have stw := st.on hb6
  have hPw := hP6.below hb6
  have hxw := hx5.below hb6
  have hgw : OwnP w6 w5.heap.size (.slice a5 S.length c5) S := owns_belowT hg5 hb6
  obtain ⟨⟨x0, x1, x2⟩, _⟩ := poly3 stw.ax
  obtain ⟨⟨b0, b1, b2⟩, _⟩ := poly3 stw.b1
  have hA6 := st6.sa.slice st6.below.size
  have hz6 := st6.b1.lt
  have hX6 := (hx5.below (hb6.drew)).slice
  obtain ⟨⟨B0', B1', B2'⟩, _⟩ := poly3 st6.b1
  clear st hx5 hg5 hb6 hP6
  go_wp2_with fail
  go_cut [58] (fun s51 wx => s51 = .bool false ∧ Below w6.heap.size w6 wx)
  case first =>
    go_region_with (first
      | (go_at_call 8; (with_reducible refine (toPoly_any p d _ xs _ hl hA6).mono ?_); rintro e w7 ⟨v7, rfl, own7, hb7⟩; have Q0 := (hb7.cell (p := ⟨w4.heap.size, 0, none⟩) hz6).trans B0'; have Q1 := (hb7.cell (p := ⟨w4.heap.size, 1, none⟩) hz6).trans B1'; have Q2 := (hb7.cell (p := ⟨w4.heap.size, 2, none⟩) hz6).trans B2')
      | (go_at_call 11; (with_reducible refine (eqPoly_same p d _ _ xs _ hl (hX6.below hb7) own7.slice).mono ?_); rintro e w8 ⟨rfl, hb8⟩))
    all_goals
      go_wp2_with fail
      go_meet
      exact ⟨rfl, (Below.refl _ _).drew.trans (hb7.trans (hb8.mono hb7.size))⟩
  case rest =>
    obtain ⟨rfl, hb8⟩ := hcut
    have st8' := stw.on hb8
    have hP8' := hPw.below hb8
    have hx8' := hxw.below hb8
    have hg8' : OwnP _ w5.heap.size (.slice a5 S.length c5) S := owns_belowT hgw hb8
    clear x0 x1 x2 b0 b1 b2 B0' B1' B2' st6 stw hxw hgw hPw hA6 hz6 hX6 hb8
    have hGl : SlP _ (.slice la G.length lc) G := hG.below st8'.below
    go_wp2_with fail
    ((with_reducible refine (topolys _ G _ hlG HLR.out hGl).mono ?_); rintro e wt ⟨vt, rfl, ownt, hbt⟩)
    have stt := st8'.on hbt
    have hPt := hP8'.below hbt
    have hxt := hx8'.below hbt
    have hgt : OwnP _ w5.heap.size (.slice a5 S.length c5) S := owns_belowT hg8' hbt
    have hlt1 : SlP wt (.slice (some ⟨gb, 0, none⟩) G.length G.length) G := OwnPs.slP (base := 0) ⟨gb, FB, BB, rfl, Nat.zero_le _, hPt⟩
    clear st8' hP8' hx8' hg8' hGl hbt
    obtain ⟨gt, FT, BT, hvt, _, _, _, _⟩ := ownt.blocks
    subst hvt
    go_wp2_with fail
    ((with_reducible refine (eqpolys _ _ G _ hlG HLR.out hlt1 ownt.slP).mono ?_); rintro e wu ⟨rfl, hbu⟩)
    have st8 := stt.on hbu
    have hP8 := hPt.below hbu
    have hx8 := hxt.below hbu
    have hg8 : OwnP _ w5.heap.size (.slice a5 S.length c5) S := owns_belowT hgt hbu
    clear stt hPt hxt hgt hlt1 ownt hbu
    obtain ⟨⟨B0', B1', B2'⟩, _⟩ := poly3 st8.b1
    go_wp2_with fail
    ((with_reducible refine (markPoly_own p d 1 _ hx8.own hl (by decide) (by decide)).mono ?_); rintro e w9' ⟨rfl, _, hgr9⟩)
    have st9' := st8.step hgr9 (fun g e => by obtain ⟨h1, h2⟩ := hx8.own.row g e; exact ⟨by omega, h2⟩)
    have hg9' : OwnP w9' w5.heap.size (.slice a5 S.length c5) S := hg8.keep hgr9 (fun g e => by simp [Value.ownBlock] at e; omega)
    have hP9' : PolsW w9' gb G G.length FB BB := hP8.keepRow hgr9 (fun g e => by simp [Value.ownBlock] at e; omega)
    clear B0' B1' B2' st8 hx8 hg8 hgr9 hP8
    obtain ⟨kx, hkx⟩ : ∃ kx, (1 : Int) + 4 * (xs.length : Int) = kx := ⟨_, rfl⟩
    have hkx0 : 0 ≤ kx := by omega
    have hkx1 : kx ≤ 67108864 := by omega
    rw [hkx]
    clear hkx
    go_wp2_with fail
    ((with_reducible refine (markpolys gb w5.heap.size G FB BB kx _ hlG HLR.out htG hkx0 hkx1 hP9' hBBlt hgblt).mono ?_); rintro e w9 ⟨rfl, hgI⟩)
    have st9 := st9'.stepI hgI (by omega) (by omega) (by omega) hB2 (by omega)
    have hg9 : OwnP w9 w5.heap.size (.slice a5 S.length c5) S := hg9'.keepI hgI (Nat.le_refl _)
    clear st9' hg9' hP9' hgI
    obtain ⟨ky, hky⟩ : ∃ ky, kx + 2 * (G.length : Int) + 4 * (totP G : Int) = ky := ⟨_, rfl⟩
    have hq1 : ¬ ky < 0 := by omega
    rw [hky]
    clear hky hkx0 hkx1
    obtain ⟨⟨q0, q1, q2⟩, _⟩ := poly3 st9.b2
    obtain ⟨⟨k0, k1, k2⟩, _⟩ := poly3 st9.b0
    go_wp2_with fail
    ((with_reducible refine (eqPoly_same P D _ _ S _ hso (OwnP.slice hg9) (st9.sm.slice st9.n0.2)).mono ?_); rintro e w10 ⟨rfl, hb10⟩)
    have st10 := st9.on hb10
    have hg10 : OwnP w10 w5.heap.size (.slice a5 S.length c5) S := owns_belowT hg9 hb10
    clear q0 q1 q2 k0 k1 k2 st9 hg9 hb10
    obtain ⟨⟨q0, q1, q2⟩, _⟩ := poly3 st10.b2
    go_wp2_with fail
    ((with_reducible refine (markPoly_own P D 1 _ (OwnG.of_owns hg10) hso (by decide) (by decide)).mono ?_); rintro e w11 ⟨rfl, hM11, hgr11⟩)
    have st11 := st10.step hgr11 (fun g e => by obtain ⟨h1, h2⟩ := (OwnG.of_owns hg10).row g e; exact ⟨by omega, h2⟩)
    clear q0 q1 q2 st10 hg10 hgr11
    obtain ⟨⟨q0, q1, q2⟩, _⟩ := poly3 st11.b2
    go_wp2_with fail
    ((with_reducible refine (heldPoly_marks P D 1 _ hM11 hso (by decide) (by decide)).mono ?_); rintro e w12 ⟨rfl, hb12⟩)
    have st12 := st11.on hb12
    have hM12 := hM11.below hb12
    clear q0 q1 q2 st11 hM11 hb12
    have hq2 : ¬ (1 : Int) + 4 * (S.length : Int) < 0 := by omega
    have hq3 : ((1 : Int) + 4 * (S.length : Int) != 1 + 4 * (S.length : Int)) = false := by simp
    have hSa12 := st12.sa.slice st12.below.size
    have hGa12 : SlP w12 (.slice la G.length lc) G := hG.below st12.below
    have rx12 := st12.ax
    obtain ⟨⟨x0, x1, x2⟩, _⟩ := poly3 rx12
    go_wp2_with fail
    ((with_reducible refine (toPoly_any p d _ xs _ hl hSa12).mono ?_); rintro e w13 ⟨v13, rfl, own13, hb13⟩)
    clear x0 x1 x2
    have s13 := hb13.size
    go_wp2_with fail
    ((with_reducible refine (topolys _ G _ hlG HLR.out (hGa12.below hb13)).mono ?_); rintro e wb ⟨vb, rfl, ownb, hbb⟩)
    have hbx1 := hb13.trans (hbb.mono s13)
    have sl13 := own13.slice.below hbb
    have sb13 := hbx1.size
    clear own13 hb13 hbb
    obtain ⟨gb2, Fb2, Bb2, hvb, _, _, _, _⟩ := ownb.blocks
    subst hvb
    obtain ⟨av13, cv13, hv13, _⟩ := id sl13
    subst hv13
    go_wp2_with fail
    ((with_reducible refine (HIM.out _ _ _ sl13 ownb.slP).mono ?_); rintro e w14 ⟨sv14, rfl, ho14, hb14⟩)
    simp only at ho14
    obtain ⟨a14, c14, rfl⟩ := owns_slice ho14
    obtain ⟨V14, hV14, hbV14, ⟨hV14s1, hV14s2⟩, rh⟩ := newbox w14 P D (.slice a14 S.length c14)
    have hbx := (hbx1.trans (hb14.mono sb13)).trans (hbV14.mono (Nat.le_trans sb13 hb14.size))
    have hS14 := (OwnP.slice ho14).below hbV14
    have st14 := st12.on hbx
    have hM14 := hM12.below hbx
    clear st12 hM12 hbx rx12 hSa12 hGa12 hbx1 hb14 hbV14 ho14 sl13 ownb
    go_upto_region 32 with fail
    rw [← hV14]
    clear hV14
    obtain ⟨⟨q0, q1, q2⟩, _⟩ := poly3 rh
    obtain ⟨⟨k0, k1, k2⟩, _⟩ := poly3 st14.b0
    go_wp2_with fail
    ((with_reducible refine (eqPoly_same P D _ _ S _ hso hS14 (st14.sm.slice st14.n0.2)).mono ?_); rintro e w15 ⟨rfl, hb15⟩)
    have st15 := st14.on hb15
    have hM15 := hM14.below hb15
    clear q0 q1 q2 k0 k1 k2 st14 hM14 hS14 rh hb15
    obtain ⟨⟨q0, q1, q2⟩, _⟩ := poly3 st15.b2
    go_wp2_with fail
    ((with_reducible refine (heldPoly_marks P D 1 _ hM15 hso (by decide) (by decide)).mono ?_); rintro e w16 ⟨rfl, hb16⟩)
    have hend := (st15.on hb16).below
    clear q0 q1 q2 st15 hM15 hb16
    go_wp2
    go_ret
    exact ⟨rfl, hend⟩
end Go.Proofs.Ytadcbfngmgclaaa
