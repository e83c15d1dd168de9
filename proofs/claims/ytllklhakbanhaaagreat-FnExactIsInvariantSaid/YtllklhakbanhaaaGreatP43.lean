/-
  The law of 'FnExactIsInvariant', walked. Conditions: as the theorem states.
-/
import Derived.Test.YtllklhakbanhaaaGreatP39
import Derived.Test.YtllklhakbanhaaaGreatP42
namespace Go.Proofs.YtllklhakbanhaaaGreat
open Go.RowKit Go.Sort Go.Maps EchM

set_option maxRecDepth 8000 in
set_option maxHeartbeats 16000000 in
theorem law_Inv (p n : Int) (v : Value) (L : List (Nat → Nat → Int)) (q d : Int) (u : Value) (xs : List Tm) (w : World) (hn : L.length ≤ 9223372036854775807) (hS : SlM w v L) (hby : ∀ x ∈ L, Byt x) (hnx : xs.length ≤ 9223372036854775807) (hU : SliceT w u xs) (hxb : ∀ t ∈ xs, tmByte t) :
    Calls Tryz.prog 4 #[.agg #[.int .i64 p, .int .i64 n, v], .agg #[.int .i64 q, .int .i64 d, u]] w fun e w' => e = .returned (.bool true) ∧ Below w.heap.size w w' := by
  obtain ⟨W, hW, hbW, ⟨hWs1, hWs2⟩, rG, rx⟩ := boxLGP w p n v q d u
  have hSW := hS.below hbW
  have hUW := hU.below hbW
  obtain ⟨a, cap, rfl, _⟩ := id hS
  obtain ⟨ua, uc, rfl, _⟩ := id hU
  obtain ⟨y0, y1, y2⟩ := gcells rG
  by_cases hbig : 1048576 < L.length
  · go_enter Tryz.func4, Tryz.ntmps4
    go_wp2_with fail
    rw [← hW]
    clear hW
    ((with_reducible refine (szgrp_no p n a L.length cap _ hbig hn).mono ?_); rintro e w1 ⟨rfl, hb1⟩)
    go_wp2_with fail
    go_ret
    exact ⟨rfl, hbW.trans (hb1.mono hbW.size)⟩
  have hl : L.length ≤ 1048576 := by omega
  have hpos : ¬ (1048576 - (L.length : Int)) < 0 := by omega
  clear hbig
  go_enter Tryz.func4, Tryz.ntmps4
  go_wp2_with fail
  rw [← hW]
  clear hW
  ((with_reducible refine (szgrp_ok p n a L.length cap _ hl).mono ?_); rintro e w1 ⟨rfl, hb1⟩)
  have rG1 := rowIs_below rG hb1 rG.lt
  have rx1 := rowIs_below rx hb1 rx.lt
  have hS1 := hSW.below hb1
  have hU1 := hUW.below hb1
  have hbw1 := hbW.trans (hb1.mono hbW.size)
  clear y0 y1 y2 rG rx hSW hUW hb1 hbW
  obtain ⟨⟨x0, x1, x2⟩, _⟩ := poly3 rx1
  have hlf0 : (0 : Int) ≤ 1048576 - (L.length : Int) := by omega
  have hlf1 : 1048576 - (L.length : Int) ≤ 1048576 := by omega
  obtain ⟨lf, hlf⟩ : ∃ lf, 1048576 - (L.length : Int) = lf := ⟨_, rfl⟩
  rw [hlf] at hlf0 hlf1 hpos ⊢
  clear hlf
  go_wp2_with fail
  ((with_reducible refine (szPoly_any q d lf _ xs _ hnx hlf0 hlf1 hU1).mono ?_); rintro e w2 ⟨rfl, hb2⟩)
  have rG2 := rowIs_below rG1 hb2 rG1.lt
  have rx2 := rowIs_below rx1 hb2 rx1.lt
  have hS2 := hS1.below hb2
  have hU2 := hU1.below hb2
  have hbw2 := hbw1.trans (hb2.mono hbw1.size)
  clear x0 x1 x2 rG1 rx1 hS1 hU1 hb2 hbw1 hpos
  by_cases hbig : lf - (xs.length : Int) < 0
  · have HL := Lib.hid (fleft_lt hbig)
    rw [HL.out]
    go_wp2
    go_ret
    exact ⟨rfl, hbw2⟩
  have HL := Lib.hid (fleft_ge hbig)
  have hxl : xs.length ≤ 1048576 := by omega
  obtain ⟨lf2, hlf3⟩ : ∃ lf2, lf - (xs.length : Int) = lf2 := ⟨_, rfl⟩
  rw [HL.out, hlf3]
  rw [hlf3] at hbig
  clear HL hlf3 hlf0 hlf1
  obtain ⟨B, hB⟩ : ∃ B : Bool, invO p n L q d xs = B := ⟨_, rfl⟩
  obtain ⟨c, hc⟩ : ∃ c : Int, actC p n L q d xs = c := ⟨_, rfl⟩
  have HSP := Lib.hid (fun v' u' w' h' k' => sinv p n v' L q d u' xs w' hl h' hby hxl k' hxb)
  have HIM := Lib.hid (fun v' u' w' h' k' => iinv p n v' L q d u' xs w' hl h' hby hxl k' hxb)
  rw [hB, hc] at HSP HIM
  clear hB hc
  have HBY := Lib.hid hby
  have HXB := Lib.hid hxb
  clear hby hxb
  obtain ⟨y0, y1, y2⟩ := gcells rG2
  obtain ⟨⟨x0, x1, x2⟩, _⟩ := poly3 rx2
  have X0 : w2.drew.cell? ⟨w.heap.size + 1, 0, none⟩ = some (.int .i64 q) := x0
  have X1 : w2.drew.cell? ⟨w.heap.size + 1, 1, none⟩ = some (.int .i64 d) := x1
  have X2 : w2.drew.cell? ⟨w.heap.size + 1, 2, none⟩ = some (.slice ua xs.length uc) := x2
  have hzx : w.heap.size + 1 < w2.drew.heap.size := rx2.lt
  have hSd : SlM w2.drew (.slice a L.length cap) L := hS2.below (Below.refl _ _).drew
  have hUd : SliceT w2.drew (.slice ua xs.length uc) xs := hU2.below (Below.refl _ _).drew
  go_wp2_with fail
  go_cut [6, 7] (fun s6 s7 wx => s6 = .bool B ∧ s7 = .int .i64 c ∧ Below w2.heap.size w2 wx)
  case first =>
    go_region_with (first
      | (go_at_call 15; (with_reducible refine (togrp p n _ L _ hl hSd).mono ?_); rintro e w13 ⟨v13, rfl, own13, hb13⟩; have Q0 := (hb13.cell (p := ⟨w.heap.size + 1, 0, none⟩) hzx).trans X0; have Q1 := (hb13.cell (p := ⟨w.heap.size + 1, 1, none⟩) hzx).trans X1; have Q2 := (hb13.cell (p := ⟨w.heap.size + 1, 2, none⟩) hzx).trans X2)
      | (go_at_call 16; (with_reducible refine (toPoly_any q d _ xs _ hxl (hUd.below hb13)).mono ?_); rintro e w14 ⟨v14, rfl, own14, hb14⟩)
      | (go_at_call 25; (with_reducible refine (HSP.out _ _ _ (own13.slice.below hb14) own14.slice).mono ?_); rintro e w15 ⟨rfl, hb15⟩))
    all_goals
      go_wp2_with fail
      go_meet
      exact ⟨rfl, rfl, (Below.refl _ _).drew.trans (hb13.trans ((hb14.trans (hb15.mono hb14.size)).mono hb13.size))⟩
  case rest =>
    obtain ⟨rfl, rfl, hb3⟩ := hcut
    have rG3 := rowIs_below rG2 hb3 rG2.lt
    have rx3 := rowIs_below rx2 hb3 rx2.lt
    have hS3 := hS2.below hb3
    have hU3 := hU2.below hb3
    have hbw3 := hbw2.trans (hb3.mono hbw2.size)
    clear y0 y1 y2 x0 x1 x2 X0 X1 X2 hzx hSd hUd rG2 rx2 hS2 hU2 hb3 hbw2 HSP
    have hwc : w.heap.size + 1 < wc.heap.size := rx3.lt
    obtain ⟨y0, y1, y2⟩ := gcells rG3
    go_wp2_with fail
    ((with_reducible refine (togrp p n _ L _ hl hS3).mono ?_); rintro e w4 ⟨v4, rfl, own4, hb4⟩)
    clear y0 y1 y2
    obtain ⟨g4, f4, hv4, _⟩ := id own4
    subst hv4
    obtain ⟨V4, hV4, rb1, hbV4⟩ : ∃ V, V = w4.alloc (.cells #[.int .i64 p, .int .i64 n, .slice (some ⟨g4, 0, none⟩) L.length L.length] 35) ∧ V.rowIs w4.heap.size 35 3 (grpF p n (.slice (some ⟨g4, 0, none⟩) L.length L.length)) ∧ Below w4.heap.size w4 V := ⟨_, rfl, gbox w4 p n _ _, ebox1 _ _⟩
    have K := hb4.trans (hbV4.mono hb4.size)
    have hs4 := own4.slice.below hbV4
    have hB1 : w4.heap.size < V4.heap.size := rb1.lt
    clear own4 hbV4
    go_upto_region 10 with fail
    rw [← hV4]
    clear hV4
    obtain ⟨⟨x0, x1, x2⟩, _⟩ := poly3 (rowIs_below rx3 K rx3.lt)
    go_wp2_with fail
    ((with_reducible refine (toPoly_any q d _ xs _ hxl (hU3.below K)).mono ?_); rintro e w5 ⟨v5, rfl, own5, hb5⟩)
    clear x0 x1 x2
    obtain ⟨g5, f5, hv5, hg5, hr5, _⟩ := id own5
    subst hv5
    obtain ⟨V5, hV5, hbV5, ⟨hV5s1, hV5s2⟩, rb2⟩ := newbox w5 q d (.slice (some ⟨g5, 0, none⟩) xs.length xs.length)
    have hb5V := hb5.trans (hbV5.mono hb5.size)
    have K' := K.trans (hb5V.mono K.size)
    have rb1' := rowIs_below rb1 hb5V rb1.lt
    have hs4' := hs4.below hb5V
    have hx5 := own5.below hbV5
    have hg5lt : g5 < V5.heap.size := Nat.lt_of_lt_of_le hr5.lt hbV5.size
    have hwV4 : wc.heap.size ≤ V4.heap.size := K.size
    clear K rb1 hs4 own5 hr5 hbV5 hb5V hb5 hb4
    go_upto_region 11 with fail
    rw [← hV5]
    clear hV5
    obtain ⟨t0, t1, t2⟩ := gcells rb1'
    obtain ⟨⟨q0, q1, q2⟩, _⟩ := poly3 rb2
    go_wp2_with fail
    ((with_reducible refine (HIM.out _ _ _ hs4' hx5.slice).mono ?_); rintro e w6 ⟨rfl, hb6⟩)
    have hBB : (B != B) = false := by simp
    have hcc : (c != c) = false := by simp
    have rb1 := rowIs_below rb1' hb6 rb1'.lt
    have rb2' := rowIs_below rb2 hb6 rb2.lt
    have hs4 := hs4'.below hb6
    have hx6 := hx5.below hb6
    have K := K'.trans (hb6.mono K'.size)
    clear t0 t1 t2 q0 q1 q2 rb1' rb2 hs4' hx5 K'
    clear hb6
    obtain ⟨y0, y1, y2⟩ := gcells (rowIs_below rG3 K rG3.lt)
    obtain ⟨t0, t1, t2⟩ := gcells rb1
    have T0 : w6.drew.cell? ⟨w4.heap.size, 0, none⟩ = some (.int .i64 p) := t0
    have T1 : w6.drew.cell? ⟨w4.heap.size, 1, none⟩ = some (.int .i64 n) := t1
    have T2 : w6.drew.cell? ⟨w4.heap.size, 2, none⟩ = some (.slice (some ⟨g4, 0, none⟩) L.length L.length) := t2
    have hz6 : w4.heap.size < w6.drew.heap.size := rb1.lt
    have hA6 : SlM w6.drew (.slice a L.length cap) L := (hS3.below K).below (Below.refl _ _).drew
    have hX6 : SlM w6.drew (.slice (some ⟨g4, 0, none⟩) L.length L.length) L := hs4.below (Below.refl _ _).drew
    go_wp2_with fail
    go_cut [52] (fun s wx => s = .bool false ∧ Below w6.heap.size w6 wx)
    case first =>
      go_region_with (first
        | (go_at_call 15; (with_reducible refine (togrp p n _ L _ hl hA6).mono ?_); rintro e w17 ⟨v17, rfl, own17, hb17⟩; have Q0 := (hb17.cell (p := ⟨w4.heap.size, 0, none⟩) hz6).trans T0; have Q1 := (hb17.cell (p := ⟨w4.heap.size, 1, none⟩) hz6).trans T1; have Q2 := (hb17.cell (p := ⟨w4.heap.size, 2, none⟩) hz6).trans T2)
        | (go_at_call 19; (with_reducible refine (eqgrp p n _ _ L _ hl (hX6.below hb17) own17.slice).mono ?_); rintro e w18 ⟨rfl, hb18⟩))
      all_goals
        go_wp2_with fail
        go_meet
        exact ⟨rfl, (Below.refl _ _).drew.trans (hb17.trans (hb18.mono hb17.size))⟩
    case rest =>
    rename World => w8
    obtain ⟨rfl, hb8⟩ := hcut
    have rb18 := rowIs_below rb1 hb8 rb1.lt
    have rb28 := rowIs_below rb2' hb8 rb2'.lt
    have hs48 := hs4.below hb8
    have hx8 := hx6.below hb8
    have K8 := K.trans (hb8.mono K.size)
    clear y0 y1 y2 t0 t1 t2 T0 T1 T2 hz6 hA6 hX6 rb1 rb2' hs4 hx6 K hb8
    obtain ⟨⟨x0, x1, x2⟩, _⟩ := poly3 (rowIs_below rx3 K8 rx3.lt)
    obtain ⟨⟨b0, b1, b2⟩, _⟩ := poly3 rb28
    have B0' : w8.drew.cell? ⟨w5.heap.size, 0, none⟩ = some (.int .i64 q) := b0
    have B1' : w8.drew.cell? ⟨w5.heap.size, 1, none⟩ = some (.int .i64 d) := b1
    have B2' : w8.drew.cell? ⟨w5.heap.size, 2, none⟩ = some (.slice (some ⟨g5, 0, none⟩) xs.length xs.length) := b2
    have hz8 : w5.heap.size < w8.drew.heap.size := rb28.lt
    have hA8 : SliceT w8.drew (.slice ua xs.length uc) xs := (hU3.below K8).below (Below.refl _ _).drew
    have hX8 : SliceT w8.drew (.slice (some ⟨g5, 0, none⟩) xs.length xs.length) xs := hx8.slice.below (Below.refl _ _).drew
    go_wp2_with fail
    go_cut [57] (fun s wx => s = .bool false ∧ Below w8.heap.size w8 wx)
    case first =>
      go_region_with (first
        | (go_at_call 16; (with_reducible refine (toPoly_any q d _ xs _ hxl hA8).mono ?_); rintro e w17 ⟨v17, rfl, own17, hb17⟩; have Q0 := (hb17.cell (p := ⟨w5.heap.size, 0, none⟩) hz8).trans B0'; have Q1 := (hb17.cell (p := ⟨w5.heap.size, 1, none⟩) hz8).trans B1'; have Q2 := (hb17.cell (p := ⟨w5.heap.size, 2, none⟩) hz8).trans B2')
        | (go_at_call 20; (with_reducible refine (eqPoly_same q d _ _ xs _ hxl (hX8.below hb17) own17.slice).mono ?_); rintro e w18 ⟨rfl, hb18⟩))
      all_goals
        go_wp2_with fail
        go_meet
        exact ⟨rfl, (Below.refl _ _).drew.trans (hb17.trans (hb18.mono hb17.size))⟩
    case rest =>
    rename World => w9
    obtain ⟨rfl, hb9⟩ := hcut
    have K9 := K8.trans (hb9.mono K8.size)
    have hend := hbw3.trans (K9.mono hbw3.size)
    go_wp2
    go_ret
    exact ⟨rfl, hend⟩
end Go.Proofs.YtllklhakbanhaaaGreat
