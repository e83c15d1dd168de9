/-
  The law of 'FnExactCharacterOf', walked. Conditions: as the theorem states.
-/
import Derived.Test.YtbhgbifliihlbaaGreatQ23
import Derived.Test.YtbhgbifliihlbaaGreatQ24
import Derived.Test.YtbhgbifliihlbaaGreatQ25
namespace Go.Proofs.YtbhgbifliihlbaaGreat
open Go.RowKit Go.Sort Go.Maps EchM

set_option maxRecDepth 8000 in
set_option maxHeartbeats 16000000 in
theorem law_Ch (p n : Int) (v : Value) (L : List (Nat → Nat → Int)) (q d : Int) (u : Value) (xs : List Tm) (w : World) (hn : L.length ≤ 9223372036854775807) (hS : SlM w v L) (hby : ∀ x ∈ L, Byt x) (hnx : xs.length ≤ 9223372036854775807) (hU : SliceT w u xs) (hxb : ∀ t ∈ xs, tmByte t) :
    Calls Tryz.prog 3 #[.agg #[.int .i64 p, .int .i64 n, v], .agg #[.int .i64 q, .int .i64 d, u]] w fun e w' => e = .returned (.bool true) ∧ Below w.heap.size w w' := by
  obtain ⟨W, hW, hbW, ⟨hWs1, hWs2⟩, rG, rx⟩ := boxLGP w p n v q d u
  have hSW := hS.below hbW
  have hUW := hU.below hbW
  obtain ⟨a, cap, rfl, _⟩ := id hS
  obtain ⟨ua, uc, rfl, _⟩ := id hU
  obtain ⟨y0, y1, y2⟩ := gcells rG
  by_cases hbig : 1048576 < L.length
  · go_enter Tryz.func3, Tryz.ntmps3
    go_wp2_with fail
    rw [← hW]
    clear hW
    ((with_reducible refine (szgrp_no p n a L.length cap _ hbig hn).mono ?_); rintro e w1 ⟨rfl, hb1⟩)
    go_wp2_with fail
    go_ret
    exact ⟨rfl, hbW.trans (hb1.mono hbW.size)⟩
  have hl : L.length ≤ 1048576 := by omega
  have hpos : ¬ (1048576 - (L.length : Int)) < 0 := by omega
  clear hbig
  go_enter Tryz.func3, Tryz.ntmps3
  go_wp2_with fail
  rw [← hW]
  clear hW
  ((with_reducible refine (szgrp_ok p n a L.length cap _ hl).mono ?_); rintro e w1 ⟨rfl, hb1⟩)
  have rG1 := rowIs_below rG hb1 rG.lt
  have rx1 := rowIs_below rx hb1 rx.lt
  have hS1 := hSW.below hb1
  have hU1 := hUW.below hb1
  have hbw1 := hbW.trans (hb1.mono hbW.size)
  clear y0 y1 y2 rG rx hSW hUW hb1 hbW
  obtain ⟨⟨x0, x1, x2⟩, _⟩ := poly3 rx1
  have hlf0 : (0 : Int) ≤ 1048576 - (L.length : Int) := by omega
  have hlf1 : 1048576 - (L.length : Int) ≤ 1048576 := by omega
  obtain ⟨lf, hlf⟩ : ∃ lf, 1048576 - (L.length : Int) = lf := ⟨_, rfl⟩
  rw [hlf] at hlf0 hlf1 hpos ⊢
  clear hlf
  go_wp2_with fail
  ((with_reducible refine (szPoly_any q d lf _ xs _ hnx hlf0 hlf1 hU1).mono ?_); rintro e w2 ⟨rfl, hb2⟩)
  have rG2 := rowIs_below rG1 hb2 rG1.lt
  have rx2 := rowIs_below rx1 hb2 rx1.lt
  have hS2 := hS1.below hb2
  have hU2 := hU1.below hb2
  have hbw2 := hbw1.trans (hb2.mono hbw1.size)
  clear x0 x1 x2 rG1 rx1 hS1 hU1 hb2 hbw1 hpos
  by_cases hbig : lf - (xs.length : Int) < 0
  · have HL := Lib.hid (fleft_lt hbig)
    rw [HL.out]
    go_wp2
    go_ret
    exact ⟨rfl, hbw2⟩
  have HL := Lib.hid (fleft_ge hbig)
  have hxl : xs.length ≤ 1048576 := by omega
  obtain ⟨lf2, hlf3⟩ : ∃ lf2, lf - (xs.length : Int) = lf2 := ⟨_, rfl⟩
  rw [HL.out, hlf3]
  rw [hlf3] at hbig
  clear HL hlf3 hlf0 hlf1
  obtain ⟨S, hSS⟩ : ∃ S : List Int, chL p n L q d xs = S := ⟨_, rfl⟩
  obtain ⟨c, hc⟩ : ∃ c : Int, chC p n L q d xs = c := ⟨_, rfl⟩
  have hso : S.length ≤ 1048576 := by rw [← hSS]; exact chL_len hl
  have HSP := Lib.hid (fun v' u' w' h' k' => schar p n v' L q d u' xs w' hl h' hby hxl k' hxb)
  have HIM := Lib.hid (fun v' u' w' h' k' => ichar p n v' L q d u' xs w' hl h' hby hxl k' hxb)
  rw [hSS, hc] at HSP HIM
  clear hSS hc
  have HBY := Lib.hid hby
  have HXB := Lib.hid hxb
  clear hby hxb
  obtain ⟨y0, y1, y2⟩ := gcells rG2
  obtain ⟨⟨x0, x1, x2⟩, _⟩ := poly3 rx2
  have X0 : w2.drew.cell? ⟨w.heap.size + 1, 0, none⟩ = some (.int .i64 q) := x0
  have X1 : w2.drew.cell? ⟨w.heap.size + 1, 1, none⟩ = some (.int .i64 d) := x1
  have X2 : w2.drew.cell? ⟨w.heap.size + 1, 2, none⟩ = some (.slice ua xs.length uc) := x2
  have hzx : w.heap.size + 1 < w2.drew.heap.size := rx2.lt
  have hSd : SlM w2.drew (.slice a L.length cap) L := hS2.below (Below.refl _ _).drew
  have hUd : SliceT w2.drew (.slice ua xs.length uc) xs := hU2.below (Below.refl _ _).drew
  go_wp2_with fail
  go_cut [6, 7] (fun s6 s7 wx => (∃ a3 c3, s6 = .slice a3 S.length c3 ∧ Sl wx (.slice a3 S.length c3) S) ∧ s7 = .int .i64 c ∧ Below w2.heap.size w2 wx)
  case first =>
    go_region_with (first
      | (go_at_call 7; (with_reducible refine (togrp p n _ L _ hl hSd).mono ?_); rintro e w13 ⟨v13, rfl, own13, hb13⟩; have Q0 := (hb13.cell (p := ⟨w.heap.size + 1, 0, none⟩) hzx).trans X0; have Q1 := (hb13.cell (p := ⟨w.heap.size + 1, 1, none⟩) hzx).trans X1; have Q2 := (hb13.cell (p := ⟨w.heap.size + 1, 2, none⟩) hzx).trans X2)
      | (go_at_call 8; (with_reducible refine (toPoly_any q d _ xs _ hxl (hUd.below hb13)).mono ?_); rintro e w14 ⟨v14, rfl, own14, hb14⟩)
      | (go_at_call 6; (with_reducible refine (HSP.out _ _ _ (own13.slice.below hb14) own14.slice).mono ?_); rintro e w15 ⟨v15, rfl, hs15, hb15⟩; (obtain ⟨a15, c15, rfl, _⟩ := id hs15)))
    all_goals
      go_wp2_with fail
      go_meet
      exact ⟨⟨_, _, rfl, hs15⟩, rfl, (Below.refl _ _).drew.trans (hb13.trans ((hb14.trans (hb15.mono hb14.size)).mono hb13.size))⟩
  case rest =>
    obtain ⟨⟨a3, c3, rfl, hs3⟩, rfl, hb3⟩ := hcut
    have rG3 := rowIs_below rG2 hb3 rG2.lt
    have rx3 := rowIs_below rx2 hb3 rx2.lt
    have hS3 := hS2.below hb3
    have hU3 := hU2.below hb3
    have hbw3 := hbw2.trans (hb3.mono hbw2.size)
    clear y0 y1 y2 x0 x1 x2 X0 X1 X2 hzx hSd hUd rG2 rx2 hS2 hU2 hb3 hbw2 HSP
    have hwc : w.heap.size + 1 < wc.heap.size := rx3.lt
    obtain ⟨y0, y1, y2⟩ := gcells rG3
    go_wp2_with fail
    ((with_reducible refine (togrp p n _ L _ hl hS3).mono ?_); rintro e w4 ⟨v4, rfl, own4, hb4⟩)
    clear y0 y1 y2
    obtain ⟨g4, f4, hv4, _⟩ := id own4
    subst hv4
    obtain ⟨V4, hV4, rb1, hbV4⟩ : ∃ V, V = w4.alloc (.cells #[.int .i64 p, .int .i64 n, .slice (some ⟨g4, 0, none⟩) L.length L.length] 35) ∧ V.rowIs w4.heap.size 35 3 (grpF p n (.slice (some ⟨g4, 0, none⟩) L.length L.length)) ∧ Below w4.heap.size w4 V := ⟨_, rfl, gbox w4 p n _ _, ebox1 _ _⟩
    have K := hb4.trans (hbV4.mono hb4.size)
    have hs4 := own4.slice.below hbV4
    have hB1 : w4.heap.size < V4.heap.size := rb1.lt
    clear own4 hbV4
    go_upto_region 10 with fail
    rw [← hV4]
    clear hV4
    obtain ⟨⟨x0, x1, x2⟩, _⟩ := poly3 (rowIs_below rx3 K rx3.lt)
    go_wp2_with fail
    ((with_reducible refine (toPoly_any q d _ xs _ hxl (hU3.below K)).mono ?_); rintro e w5 ⟨v5, rfl, own5, hb5⟩)
    clear x0 x1 x2
    obtain ⟨g5, f5, hv5, hg5, hr5, _⟩ := id own5
    subst hv5
    obtain ⟨V5, hV5, hbV5, ⟨hV5s1, hV5s2⟩, rb2⟩ := newbox w5 q d (.slice (some ⟨g5, 0, none⟩) xs.length xs.length)
    have hb5V := hb5.trans (hbV5.mono hb5.size)
    have K' := K.trans (hb5V.mono K.size)
    have rb1' := rowIs_below rb1 hb5V rb1.lt
    have hs4' := hs4.below hb5V
    have hx5 := own5.below hbV5
    have hg5lt : g5 < V5.heap.size := Nat.lt_of_lt_of_le hr5.lt hbV5.size
    have hwV4 : wc.heap.size ≤ V4.heap.size := K.size
    clear K rb1 hs4 own5 hr5 hbV5 hb5V hb5 hb4
    go_upto_region 11 with fail
    rw [← hV5]
    clear hV5
    obtain ⟨t0, t1, t2⟩ := gcells rb1'
    obtain ⟨⟨q0, q1, q2⟩, _⟩ := poly3 rb2
    go_wp2_with fail
    ((with_reducible refine (HIM.out _ _ _ hs4' hx5.slice).mono ?_); rintro e w6 ⟨v6, rfl, ho, hb6⟩)
    obtain ⟨a6, c6, rfl⟩ := ho.shape
    have hcc : (c != c) = false := by simp
    have rb1 := rowIs_below rb1' hb6 rb1'.lt
    have rb2' := rowIs_below rb2 hb6 rb2.lt
    have hs4 := hs4'.below hb6
    have hx6 := hx5.below hb6
    have K := K'.trans (hb6.mono K'.size)
    clear t0 t1 t2 q0 q1 q2 rb1' rb2 hs4' hx5 K'
    have hV5w6 : V5.heap.size ≤ w6.heap.size := hb6.size
    clear hb6
    go_wp2_with fail
    ((with_reducible refine (neqI_same _ _ S _ hso ho.sl (hs3.below K)).mono ?_); rintro e w7 ⟨rfl, hb7⟩)
    have ho7 := ho.below hb7
    have rb17 := rowIs_below rb1 hb7 rb1.lt
    have rb27 := rowIs_below rb2' hb7 rb2'.lt
    have hs47 := hs4.below hb7
    have hx7 := hx6.below hb7
    have K7 := K.trans (hb7.mono K.size)
    clear ho rb1 rb2' hs4 hx6 K
    clear hb7
    obtain ⟨y0, y1, y2⟩ := gcells (rowIs_below rG3 K7 rG3.lt)
    obtain ⟨t0, t1, t2⟩ := gcells rb17
    have T0 : w7.drew.cell? ⟨w4.heap.size, 0, none⟩ = some (.int .i64 p) := t0
    have T1 : w7.drew.cell? ⟨w4.heap.size, 1, none⟩ = some (.int .i64 n) := t1
    have T2 : w7.drew.cell? ⟨w4.heap.size, 2, none⟩ = some (.slice (some ⟨g4, 0, none⟩) L.length L.length) := t2
    have hz6 : w4.heap.size < w7.drew.heap.size := rb17.lt
    have hA6 : SlM w7.drew (.slice a L.length cap) L := (hS3.below K7).below (Below.refl _ _).drew
    have hX6 : SlM w7.drew (.slice (some ⟨g4, 0, none⟩) L.length L.length) L := hs47.below (Below.refl _ _).drew
    go_wp2_with fail
    go_cut [58] (fun s wx => s = .bool false ∧ Below w7.heap.size w7 wx)
    case first =>
      go_region_with (first
        | (go_at_call 7; (with_reducible refine (togrp p n _ L _ hl hA6).mono ?_); rintro e w17 ⟨v17, rfl, own17, hb17⟩; have Q0 := (hb17.cell (p := ⟨w4.heap.size, 0, none⟩) hz6).trans T0; have Q1 := (hb17.cell (p := ⟨w4.heap.size, 1, none⟩) hz6).trans T1; have Q2 := (hb17.cell (p := ⟨w4.heap.size, 2, none⟩) hz6).trans T2)
        | (go_at_call 11; (with_reducible refine (eqgrp p n _ _ L _ hl (hX6.below hb17) own17.slice).mono ?_); rintro e w18 ⟨rfl, hb18⟩))
      all_goals
        go_wp2_with fail
        go_meet
        exact ⟨rfl, (Below.refl _ _).drew.trans (hb17.trans (hb18.mono hb17.size))⟩
    case rest =>
    rename World => w8
    obtain ⟨rfl, hb8⟩ := hcut
    have rb18 := rowIs_below rb17 hb8 rb17.lt
    have rb28 := rowIs_below rb27 hb8 rb27.lt
    have hs48 := hs47.below hb8
    have hx8 := hx7.below hb8
    have K8 := K7.trans (hb8.mono K7.size)
    have ho8 := ho7.below hb8
    clear y0 y1 y2 t0 t1 t2 T0 T1 T2 hz6 hA6 hX6 rb17 rb27 hs47 hx7 K7 hb8 ho7
    obtain ⟨⟨x0, x1, x2⟩, _⟩ := poly3 (rowIs_below rx3 K8 rx3.lt)
    obtain ⟨⟨b0, b1, b2⟩, _⟩ := poly3 rb28
    have B0' : w8.drew.cell? ⟨w5.heap.size, 0, none⟩ = some (.int .i64 q) := b0
    have B1' : w8.drew.cell? ⟨w5.heap.size, 1, none⟩ = some (.int .i64 d) := b1
    have B2' : w8.drew.cell? ⟨w5.heap.size, 2, none⟩ = some (.slice (some ⟨g5, 0, none⟩) xs.length xs.length) := b2
    have hz8 : w5.heap.size < w8.drew.heap.size := rb28.lt
    have hA8 : SliceT w8.drew (.slice ua xs.length uc) xs := (hU3.below K8).below (Below.refl _ _).drew
    have hX8 : SliceT w8.drew (.slice (some ⟨g5, 0, none⟩) xs.length xs.length) xs := hx8.slice.below (Below.refl _ _).drew
    go_wp2_with fail
    go_cut [63] (fun s wx => s = .bool false ∧ Below w8.heap.size w8 wx)
    case first =>
      go_region_with (first
        | (go_at_call 8; (with_reducible refine (toPoly_any q d _ xs _ hxl hA8).mono ?_); rintro e w17 ⟨v17, rfl, own17, hb17⟩; have Q0 := (hb17.cell (p := ⟨w5.heap.size, 0, none⟩) hz8).trans B0'; have Q1 := (hb17.cell (p := ⟨w5.heap.size, 1, none⟩) hz8).trans B1'; have Q2 := (hb17.cell (p := ⟨w5.heap.size, 2, none⟩) hz8).trans B2')
        | (go_at_call 12; (with_reducible refine (eqPoly_same q d _ _ xs _ hxl (hX8.below hb17) own17.slice).mono ?_); rintro e w18 ⟨rfl, hb18⟩))
      all_goals
        go_wp2_with fail
        go_meet
        exact ⟨rfl, (Below.refl _ _).drew.trans (hb17.trans (hb18.mono hb17.size))⟩
    case rest =>
    rename World => w9
    obtain ⟨rfl, hb9⟩ := hcut
    have K9 := K8.trans (hb9.mono K8.size)
    have rb19 := rowIs_below rb18 hb9 rb18.lt
    have rb29 := rowIs_below rb28 hb9 rb28.lt
    have hx9 := hx8.below hb9
    have ho9 := ho8.below hb9
    have s9 := hb9.size
    clear x0 x1 x2 b0 b1 b2 B0' B1' B2' hz8 hA8 hX8 rb18 rb28 hs48 hx8 ho8 K8 hb9
    obtain ⟨t0, t1, t2⟩ := gcells rb19
    go_wp2_with fail
    ((with_reducible refine (markgrp p n _ _ _ 1 _ hl).mono ?_); rintro e w10 ⟨rfl, hb10⟩)
    have rb210 := rowIs_below rb29 hb10 rb29.lt
    have hx10 := hx9.below hb10
    have ho10 := ho9.below hb10
    have K10 := K9.trans (hb10.mono K9.size)
    clear t0 t1 t2 rb19 rb29 hx9 ho9 K9 hb10
    obtain ⟨⟨b0, b1, b2⟩, _⟩ := poly3 rb210
    go_wp2_with fail
    ((with_reducible refine (markPoly_own q d 1 _ hx10.own hxl (by decide) (by decide)).mono ?_); rintro e w11 ⟨rfl, _, hg11⟩)
    have hg11' : w10.grownBy w11 (some g5) := hg11
    have K11 := K10.grown hg11' K10.size (fun k hk => by simp at hk; omega)
    have ho11 := ho10.kept hg11' hg5lt
    have hV5w11 : wc.heap.size ≤ V5.heap.size := by omega
    clear b0 b1 b2 rb210 hx10 ho10 K10 hg11 hg11'
    have hnt : ¬ (1 + 4 * (xs.length : Int)) < 0 := by omega
    obtain ⟨kx, hkx⟩ : ∃ kx, (1 : Int) + 4 * (xs.length : Int) = kx := ⟨_, rfl⟩
    rw [hkx] at hnt ⊢
    clear hkx
    go_wp2_with fail
    ((with_reducible refine (neqI_same _ _ S _ hso ho11.sl (hs3.below K11)).mono ?_); rintro e w12 ⟨rfl, hb12⟩)
    have ho12 := (ho11.below hb12).mono hV5w11
    have K12 := K11.trans (hb12.mono K11.size)
    clear ho11 K11 hb12
    have hn1 : ¬ (1 + (S.length : Int)) < 0 := by omega
    have hn2 : ((1 + (S.length : Int)) != 1 + (S.length : Int)) = false := by simp
    go_wp2_with fail
    ((with_reducible refine (ho12.mark hso K12.size).mono ?_); rintro e w13 ⟨rfl, hM, hb13⟩)
    have K13 := K12.trans hb13
    clear ho12 K12 hb13
    go_wp2_with fail
    ((with_reducible refine (hM.held hso).mono ?_); rintro e w13' ⟨rfl, hw13⟩; have hw13 := hw13.symm; subst hw13)
    have rG4 := rowIs_below rG3 K13 rG3.lt
    have rx4 := rowIs_below rx3 K13 rx3.lt
    have hS4 := hS3.below K13
    have hU4 := hU3.below K13
    obtain ⟨y0, y1, y2⟩ := gcells rG4
    obtain ⟨⟨x0, x1, x2⟩, _⟩ := poly3 rx4
    have X0 : w13.drew.cell? ⟨w.heap.size + 1, 0, none⟩ = some (.int .i64 q) := x0
    have X1 : w13.drew.cell? ⟨w.heap.size + 1, 1, none⟩ = some (.int .i64 d) := x1
    have X2 : w13.drew.cell? ⟨w.heap.size + 1, 2, none⟩ = some (.slice ua xs.length uc) := x2
    have hzx : w.heap.size + 1 < w13.drew.heap.size := rx4.lt
    have hSd : SlM w13.drew (.slice a L.length cap) L := hS4.below (Below.refl _ _).drew
    have hUd : SliceT w13.drew (.slice ua xs.length uc) xs := hU4.below (Below.refl _ _).drew
    go_wp2_with fail
    go_cut [15, 16] (fun s6 s7 wx => (∃ a3 c3, s6 = .slice a3 S.length c3 ∧ Sl wx (.slice a3 S.length c3) S) ∧ s7 = .int .i64 c ∧ Below w13.heap.size w13 wx)
    case first =>
      go_region_with (first
        | (go_at_call 7; (with_reducible refine (togrp p n _ L _ hl hSd).mono ?_); rintro e w23 ⟨v23, rfl, own23, hb23⟩; have Q0 := (hb23.cell (p := ⟨w.heap.size + 1, 0, none⟩) hzx).trans X0; have Q1 := (hb23.cell (p := ⟨w.heap.size + 1, 1, none⟩) hzx).trans X1; have Q2 := (hb23.cell (p := ⟨w.heap.size + 1, 2, none⟩) hzx).trans X2)
        | (go_at_call 8; (with_reducible refine (toPoly_any q d _ xs _ hxl (hUd.below hb23)).mono ?_); rintro e w24 ⟨v24, rfl, own24, hb24⟩)
        | (go_at_call 9; (with_reducible refine (HIM.out _ _ _ (own23.slice.below hb24) own24.slice).mono ?_); rintro e w25 ⟨v25, rfl, ho25, hb25⟩; (obtain ⟨a25, c25, rfl⟩ := ho25.shape)))
      all_goals
        go_wp2_with fail
        go_meet
        exact ⟨⟨_, _, rfl, ho25.sl⟩, rfl, (Below.refl _ _).drew.trans (hb23.trans ((hb24.trans (hb25.mono hb24.size)).mono hb23.size))⟩
    case rest =>
    rename World => w14
    obtain ⟨⟨a14, c14, rfl, hs14⟩, rfl, hb14⟩ := hcut
    have hM14 := hM.below hb14
    have K14 := K13.trans (hb14.mono K13.size)
    clear y0 y1 y2 x0 x1 x2 X0 X1 X2 hzx hSd hUd rG4 rx4 hS4 hU4 hM K13 hb14
    go_wp2_with fail
    ((with_reducible refine (neqI_same _ _ S _ hso hs14 (hs3.below K14)).mono ?_); rintro e w15 ⟨rfl, hb15⟩)
    have hM15 := hM14.below hb15
    have K15 := K14.trans (hb15.mono K14.size)
    clear hM14 K14 hb15
    go_wp2_with fail
    ((with_reducible refine (hM15.held hso).mono ?_); rintro e w16 ⟨rfl, rfl⟩)
    have hend := hbw3.trans (K15.mono hbw3.size)
    go_wp2
    go_ret
    exact ⟨rfl, hend⟩
end Go.Proofs.YtbhgbifliihlbaaGreat
