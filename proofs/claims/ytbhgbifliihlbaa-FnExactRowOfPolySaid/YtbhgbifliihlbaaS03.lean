/-
  The law of 'FnExactRowOfPoly', walked. Conditions: as the theorem states.
-/
import Derived.Test.YtbhgbifliihlbaaS02
import Derived.Test.YtbhgbifliihlbaaR06
import Derived.Test.YtbhgbifliihlbaaR11
import Derived.Test.YtbhgbifliihlbaaR07
import Derived.Deep.RegionWith
import Derived.Deep.DeepCutAuto
namespace Go.Proofs.Ytbhgbifliihlbaa
open Go.RowKit Go.Sort Go.Maps

set_option maxRecDepth 8000 in
set_option maxHeartbeats 16000000 in
theorem law_Rof (p d : Int) (v : Value) (ts : List Tm) (k0 : Int) (w : World) (hn : ts.length ≤ 9223372036854775807) (hS : SliceT w v ts) (hby : ∀ t ∈ ts, tmByte t) :
    Calls Try.prog 6 #[.agg #[.int .i64 p, .int .i64 d, v], .int .i64 k0] w fun e w' => e = .returned (.bool true) ∧ Below w.heap.size w w' := by
  obtain ⟨W, hW, hbW, ⟨hWs1, hWs2⟩, rx⟩ : ∃ W, W = w.alloc (.cells #[.int .i64 p, .int .i64 d, v] 51) ∧ Below w.heap.size w W ∧ (W.heap.size ≤ w.heap.size + 1 ∧ w.heap.size + 1 ≤ W.heap.size) ∧
      W.rowIs w.heap.size 51 3 (polyF p d v) :=
    ⟨_, rfl, box1 _ _, ⟨by simp, by simp⟩, World.rowIs_alloc w #[Value.int .i64 p, .int .i64 d, v] _ _ (fun i hi => by simp at hi; match i, hi with | 0, _ => rfl | 1, _ => rfl | 2, _ => rfl)⟩
  have hSW := hS.below hbW
  obtain ⟨a, cap, rfl, _⟩ := id hS
  obtain ⟨⟨x0, x1, x2⟩, _⟩ := poly3 rx
  go_enter Try.func6, Try.ntmps6
  go_wp2_with fail
  rw [← hW]
  clear hW
  ((with_reducible refine (szPoly_any p d _ _ ts _ hn (by decide) (by decide) hSW).mono ?_); rintro e w1 ⟨rfl, hb1⟩)
  clear x0 x1 x2
  have rx1 := rowIs_below rx hb1 rx.lt
  have hS1 := hSW.below hb1
  have hbw1 := hbW.trans (hb1.mono hbW.size)
  obtain ⟨⟨x0, x1, x2⟩, _⟩ := poly3 rx1
  by_cases hbig : 1048576 < ts.length
  · have HL : Hid (leftOf 1048576 ts.length = -1) := Lib.hid (by simp [leftOf]; omega)
    rw [HL.out]
    go_wp2
    go_ret
    exact ⟨rfl, hbw1⟩
  have hl : ts.length ≤ 1048576 := by omega
  have hlf : ¬ (1048576 - (ts.length : Int)) < 0 := by omega
  have HL : Hid (leftOf 1048576 ts.length = 1048576 - (ts.length : Int)) := Lib.hid (by simp [leftOf]; omega)
  obtain ⟨lf, hlf2⟩ : ∃ lf, 1048576 - (ts.length : Int) = lf := ⟨_, rfl⟩
  rw [HL.out, hlf2]
  rw [hlf2] at hlf
  clear hbig HL hlf2 hSW rx hb1 hbW
  obtain ⟨S, hSS⟩ : ∃ S : List Int, rowL p d ts k0 = S := ⟨_, rfl⟩
  obtain ⟨c, hc⟩ : ∃ c : Int, rowC p d ts k0 = c := ⟨_, rfl⟩
  have hso : S.length ≤ 1048576 := by rw [← hSS]; exact Nat.le_trans (rowL_len p d ts k0) (by decide)
  have HSP := Lib.hid (fun u' w' k' => srof p d u' ts k0 w' hl k' hby)
  have HIM := Lib.hid (fun u' w' k' => irof p d u' ts k0 w' hl k' hby)
  rw [hSS, hc] at HSP HIM
  clear hSS hc hby
  go_wp2_with fail
  ((with_reducible refine (toPoly_any p d _ ts _ hl hS1).mono ?_); rintro e w2 ⟨v2, rfl, own2, hb2⟩)
  obtain ⟨g2, f2, hv2, _⟩ := id own2
  subst hv2
  clear x0 x1 x2
  go_wp2_with fail
  ((with_reducible refine (HSP.out _ _ own2.slice).mono ?_); rintro e w3 ⟨v3, rfl, hs3, hb3⟩)
  obtain ⟨a3, c3, rfl, _⟩ := id hs3
  have hb13 := hb2.trans (hb3.mono hb2.size)
  have rx3 := rowIs_below rx1 hb13 rx1.lt
  have hS3 := hS1.below hb13
  have hbw3 := hbw1.trans (hb13.mono hbw1.size)
  clear own2 hb2 hb3 hb13 rx1 hS1 hbw1 HSP
  obtain ⟨⟨x0, x1, x2⟩, _⟩ := poly3 rx3
  go_wp2_with fail
  ((with_reducible refine (toPoly_any p d _ ts _ hl hS3).mono ?_); rintro e w4 ⟨v4, rfl, own4, hb4⟩)
  obtain ⟨g4, f4, hv4, hg4, hr4, _⟩ := id own4
  subst hv4
  obtain ⟨V5, hV5, hbV5, ⟨hV5s1, hV5s2⟩, rb2⟩ := newbox w4 p d (.slice (some ⟨g4, 0, none⟩) ts.length ts.length)
  have K' := hb4.trans (hbV5.mono hb4.size)
  have hx5 := own4.below hbV5
  have hg4lt : g4 < V5.heap.size := Nat.lt_of_lt_of_le hr4.lt hbV5.size
  have hw34 : w3.heap.size ≤ w4.heap.size := hb4.size
  clear own4 hr4 hbV5 hb4 x0 x1 x2
  go_upto_region 7 with fail
  rw [← hV5]
  clear hV5
  obtain ⟨⟨q0, q1, q2⟩, _⟩ := poly3 rb2
  go_wp2_with fail
  ((with_reducible refine (HIM.out _ _ hx5.slice).mono ?_); rintro e w6 ⟨v6, rfl, ho, hb6⟩)
  obtain ⟨a6, c6, rfl⟩ := ho.shape
  have hcc : (c != c) = false := by simp
  have rb26 := rowIs_below rb2 hb6 rb2.lt
  have hx6 := hx5.below hb6
  have K := K'.trans (hb6.mono K'.size)
  have hV5w6 : V5.heap.size ≤ w6.heap.size := hb6.size
  clear q0 q1 q2 rb2 hx5 K' hb6
  go_wp2_with fail
  ((with_reducible refine (neqI_same _ _ S _ hso ho.sl (hs3.below K)).mono ?_); rintro e w7 ⟨rfl, hb7⟩)
  have ho7 := ho.below hb7
  have rb27 := rowIs_below rb26 hb7 rb26.lt
  have hx7 := hx6.below hb7
  have K7 := K.trans (hb7.mono K.size)
  have hs7 := hb7.size
  clear ho rb26 hx6 K hb7
  obtain ⟨⟨x0, x1, x2⟩, _⟩ := poly3 (rowIs_below rx3 K7 rx3.lt)
  obtain ⟨⟨b0, b1, b2⟩, _⟩ := poly3 rb27
  have B0' : w7.drew.cell? ⟨w4.heap.size, 0, none⟩ = some (.int .i64 p) := b0
  have B1' : w7.drew.cell? ⟨w4.heap.size, 1, none⟩ = some (.int .i64 d) := b1
  have B2' : w7.drew.cell? ⟨w4.heap.size, 2, none⟩ = some (.slice (some ⟨g4, 0, none⟩) ts.length ts.length) := b2
  have hz7 : w4.heap.size < w7.drew.heap.size := rb27.lt
  have hA7 : SliceT w7.drew (.slice a ts.length cap) ts := (hS3.below K7).below (Below.refl _ _).drew
  have hX7 : SliceT w7.drew (.slice (some ⟨g4, 0, none⟩) ts.length ts.length) ts := hx7.slice.below (Below.refl _ _).drew
  go_wp2_with fail
  go_cut [49] (fun s wx => s = .bool false ∧ Below w7.heap.size w7 wx)
  case first =>
    go_region_with (first
      | (go_at_call 32; (with_reducible refine (toPoly_any p d _ ts _ hl hA7).mono ?_); rintro e w17 ⟨v17, rfl, own17, hb17⟩; have Q0 := (hb17.cell (p := ⟨w4.heap.size, 0, none⟩) hz7).trans B0'; have Q1 := (hb17.cell (p := ⟨w4.heap.size, 1, none⟩) hz7).trans B1'; have Q2 := (hb17.cell (p := ⟨w4.heap.size, 2, none⟩) hz7).trans B2')
      | (go_at_call 25; (with_reducible refine (eqPoly_same p d _ _ ts _ hl (hX7.below hb17) own17.slice).mono ?_); rintro e w18 ⟨rfl, hb18⟩))
    all_goals
      go_wp2_with fail
      go_meet
      exact ⟨rfl, (Below.refl _ _).drew.trans (hb17.trans (hb18.mono hb17.size))⟩
  case rest =>
  rename World => w9
  obtain ⟨rfl, hb9⟩ := hcut
  have K9 := K7.trans (hb9.mono K7.size)
  have rb29 := rowIs_below rb27 hb9 rb27.lt
  have hx9 := hx7.below hb9
  have ho9 := ho7.below hb9
  have s9 := hb9.size
  clear x0 x1 x2 b0 b1 b2 B0' B1' B2' hz7 hA7 hX7 rb27 hx7 ho7 K7 hb9
  obtain ⟨⟨b0, b1, b2⟩, _⟩ := poly3 rb29
  go_wp2_with fail
  ((with_reducible refine (markPoly_own p d 1 _ hx9.own hl (by decide) (by decide)).mono ?_); rintro e w11 ⟨rfl, _, hg11⟩)
  have hg11' : w9.grownBy w11 (some g4) := hg11
  have K11 := K9.grown hg11' K9.size (fun k hk => by simp at hk; omega)
  have ho11 := ho9.kept hg11' hg4lt
  have hV5w11 : w3.heap.size ≤ V5.heap.size := by omega
  clear b0 b1 b2 rb29 hx9 ho9 K9 hg11 hg11'
  have hnt : ¬ (1 + 4 * (ts.length : Int)) < 0 := by omega
  obtain ⟨kx, hkx⟩ : ∃ kx, (1 : Int) + 4 * (ts.length : Int) = kx := ⟨_, rfl⟩
  rw [hkx] at hnt ⊢
  clear hkx
  go_wp2_with fail
  ((with_reducible refine (neqI_same _ _ S _ hso ho11.sl (hs3.below K11)).mono ?_); rintro e w12 ⟨rfl, hb12⟩)
  have ho12 := (ho11.below hb12).mono hV5w11
  have K12 := K11.trans (hb12.mono K11.size)
  clear ho11 K11 hb12
  have hn1 : ¬ (1 + (S.length : Int)) < 0 := by omega
  have hn2 : ((1 + (S.length : Int)) != 1 + (S.length : Int)) = false := by simp
  go_wp2_with fail
  ((with_reducible refine (ho12.mark hso K12.size).mono ?_); rintro e w13 ⟨rfl, hM, hb13⟩)
  have K13 := K12.trans hb13
  clear ho12 K12 hb13
  go_wp2_with fail
  ((with_reducible refine (hM.held hso).mono ?_); rintro e w13' ⟨rfl, hw13⟩; have hw13 := hw13.symm; subst hw13)
  obtain ⟨⟨x0, x1, x2⟩, _⟩ := poly3 (rowIs_below rx3 K13 rx3.lt)
  go_wp2_with fail
  ((with_reducible refine (toPoly_any p d _ ts _ hl (hS3.below K13)).mono ?_); rintro e w14 ⟨v14, rfl, own14, hb14⟩)
  obtain ⟨g14, f14, hv14, _⟩ := id own14
  subst hv14
  have hM14 := hM.below hb14
  have K14 := K13.trans (hb14.mono K13.size)
  clear x0 x1 x2 hM K13 hb14
  go_wp2_with fail
  ((with_reducible refine (HIM.out _ _ own14.slice).mono ?_); rintro e w15 ⟨v15, rfl, ho15, hb15⟩)
  obtain ⟨a15, c15, rfl⟩ := ho15.shape
  have hM15 := hM14.below hb15
  have K15 := K14.trans (hb15.mono K14.size)
  clear own14 hM14 K14 hb15
  go_wp2_with fail
  ((with_reducible refine (neqI_same _ _ S _ hso ho15.sl (hs3.below K15)).mono ?_); rintro e w16 ⟨rfl, hb16⟩)
  have hM16 := hM15.below hb16
  have K16 := K15.trans (hb16.mono K15.size)
  clear ho15 hM15 K15 hb16
  go_wp2_with fail
  ((with_reducible refine (hM16.held hso).mono ?_); rintro e w17 ⟨rfl, rfl⟩)
  have hend := hbw3.trans (K16.mono hbw3.size)
  go_wp2
  go_ret
  exact ⟨rfl, hend⟩
end Go.Proofs.Ytbhgbifliihlbaa
