/-
  The law of 'FnExactAreSameOrbits', walked. Conditions: as the theorem states.
-/
import Derived.Test.YtabfdohmgmdgeaaJe
import Derived.Test.YtabfdohmgmdgeaaOsf
import Derived.Test.YtabfdohmgmdgeaaLb
import Derived.Test.YtabfdohmgmdgeaaLna
namespace Go.Proofs.Ytabfdohmgmdgeaa
open Go.RowKit Go.Sort EchM

set_option maxRecDepth 8000 in
set_option maxHeartbeats 8000000 in
theorem law_aso (p n : Int) (v : Value) (L : List (Nat → Nat → Int)) (u : Value) (l : List Int) (u' : Value) (l' : List Int) (w : World) (hn : L.length ≤ 9223372036854775807) (hS : SlM w v L) (hby : ∀ x ∈ L, Byt x) (hnl : l.length ≤ 9223372036854775807) (hU : Sl w u l) (hnl' : l'.length ≤ 9223372036854775807) (hU' : Sl w u' l') :
    Calls Try.prog 3 #[.agg #[.int .i64 p, .int .i64 n, v], u, u'] w fun e w' => e = .returned (.bool true) ∧ Below w.heap.size w w' := by
  obtain ⟨W, hW, rW, hbW⟩ : ∃ W, W = w.alloc (.cells #[.int .i64 p, .int .i64 n, v] 24) ∧ W.rowIs w.heap.size 24 3 (grpF p n v) ∧ Below w.heap.size w W := ⟨_, rfl, gbox w p n v _, ebox1 _ _⟩
  have hSW := hS.below hbW
  have hUW := hU.below hbW
  have hUW' := hU'.below hbW
  obtain ⟨a, cap, rfl, _⟩ := id hS
  obtain ⟨y0, y1, y2⟩ := gcells rW
  have HBY := Lib.hid hby
  obtain ⟨ua, ucap, rfl, _⟩ := id hU
  obtain ⟨va, vcap, rfl, _⟩ := id hU'
  by_cases hlong : 1048576 < l.length
  · go_enter Try.func3, Try.ntmps3
    go_wp2_with fail
    rw [← hW]
    clear hW
    go_wp2_with fail
    go_ret
    exact ⟨rfl, hbW⟩
  have hm : l.length ≤ 1048576 := by omega
  clear hlong
  by_cases hlong : 1048576 < l'.length
  · go_enter Try.func3, Try.ntmps3
    go_wp2_with fail
    rw [← hW]
    clear hW
    go_wp2_with fail
    go_ret
    exact ⟨rfl, hbW⟩
  have hm' : l'.length ≤ 1048576 := by omega
  clear hlong
  by_cases hbig : 1048576 < L.length
  · go_enter Try.func3, Try.ntmps3
    go_wp2_with fail
    rw [← hW]
    clear hW
    ((with_reducible refine (szgrp_no p n a L.length cap _ hbig hn).mono ?_); rintro e w1 ⟨rfl, hb1⟩)
    go_wp2_with fail
    go_ret
    exact ⟨rfl, hbW.trans (hb1.mono hbW.size)⟩
  have hl : L.length ≤ 1048576 := by omega
  have hpos : ¬ (1048576 - (L.length : Int)) < 0 := by omega
  clear hbig
  have hspec := fun v1 u1 u2 w' h1 h2 h3 => saso p n v1 u1 u2 L l l' w' hl h1 HBY.out hm hm' h2 h3
  have himpl := fun v1 u1 u2 w' h1 h2 h3 => iaso p n v1 u1 u2 L l l' w' hl h1 HBY.out hm hm' h2 h3
  obtain ⟨B, hB⟩ : ∃ B, asoB p n L l l' = B := ⟨_, rfl⟩
  obtain ⟨C, hC⟩ : ∃ C, asoC p n L l l' = C := ⟨_, rfl⟩
  simp only [hB, hC] at hspec himpl
  have HSP := Lib.hid hspec
  have HIM := Lib.hid himpl
  have hcc : (C != C) = false := by simp
  have hbb : (B != B) = false := by simp
  clear hspec himpl hby hB hC
  go_enter Try.func3, Try.ntmps3
  go_wp2_with fail
  rw [← hW]
  clear hW
  ((with_reducible refine (szgrp_ok p n a L.length cap _ hl).mono ?_); rintro e w1 ⟨rfl, hb1⟩)
  have r1 := erow_below rW hb1 rW.lt
  clear y0 y1 y2
  obtain ⟨y0, y1, y2⟩ := gcells r1
  go_wp2_with fail
  ((with_reducible refine (togrp p n _ L _ hl (hSW.below hb1)).mono ?_); rintro e w2 ⟨v2, rfl, own2, hb2⟩)
  have hb12 := hb1.trans (hb2.mono hb1.size)
  go_wp2_with fail
  ((with_reducible refine (ntoI_any _ l _ hm (hUW.below hb12)).mono ?_); rintro e w2u ⟨u2, rfl, hU2, hb2u⟩)
  have hb12u := hb12.trans (hb2u.mono hb12.size)
  go_wp2_with fail
  ((with_reducible refine (ntoI_any _ l' _ hm' (hUW'.below hb12u)).mono ?_); rintro e w2v ⟨u2', rfl, hU2', hb2v⟩)
  have hb12v := hb12u.trans (hb2v.mono hb12u.size)
  go_wp2_with fail
  ((with_reducible refine (HSP.out v2 u2 u2' w2v ((own2.slice.below hb2u).below hb2v) (hU2.below hb2v) hU2').mono ?_); rintro e w3 ⟨rfl, hb3⟩)
  have hb13 := hb12v.trans (hb3.mono hb12v.size)
  have r3 := erow_below rW hb13 rW.lt
  have hS3 := hSW.below hb13
  have hU3 := hUW.below hb13
  have hU3' := hUW'.below hb13
  have hbw3 := hbW.trans (hb13.mono hbW.size)
  clear hb1 hb2 hb3 hb12 hb2u hb12u hb2v hb12v hU2 hU2' own2 y0 y1 y2 rW r1 hSW hUW hUW' hbW hb13
  obtain ⟨y0, y1, y2⟩ := gcells r3
  go_wp2_with fail
  ((with_reducible refine (togrp p n _ L _ hl hS3).mono ?_); rintro e w4 ⟨v4, rfl, own4, hb4⟩)
  obtain ⟨g4, f4, hv4, _⟩ := id own4
  subst hv4
  obtain ⟨V4, hV4, rb1, hbV4⟩ : ∃ V, V = w4.alloc (.cells #[.int .i64 p, .int .i64 n, .slice (some ⟨g4, 0, none⟩) L.length L.length] 31) ∧ V.rowIs w4.heap.size 31 3 (grpF p n (.slice (some ⟨g4, 0, none⟩) L.length L.length)) ∧ Below w4.heap.size w4 V := ⟨_, rfl, gbox w4 p n _ _, ebox1 _ _⟩
  have K4 := hb4.trans (hbV4.mono hb4.size)
  have hs4 := own4.slice.below hbV4
  clear own4 y0 y1 y2
  go_wp2_with fail
  rw [← hV4]
  clear hV4
  ((with_reducible refine (ntoI_any _ l _ hm (hU3.below K4)).mono ?_); rintro e w4u ⟨u4, rfl, hU4, hb4u⟩)
  have K4u := K4.trans (hb4u.mono K4.size)
  have rb1u := erow_below rb1 hb4u rb1.lt
  have hs4u := hs4.below hb4u
  obtain ⟨wa, wc, rfl, _⟩ := id hU4
  go_wp2_with fail
  ((with_reducible refine (ntoI_any _ l' _ hm' (hU3'.below K4u)).mono ?_); rintro e w4v ⟨u4', rfl, hU4', hb4v⟩)
  have K4v := K4u.trans (hb4v.mono K4u.size)
  have rb1v := erow_below rb1u hb4v rb1u.lt
  have hs4v := hs4u.below hb4v
  have hU4v := hU4.below hb4v
  obtain ⟨xa, xc, rfl, _⟩ := id hU4'
  obtain ⟨t0, t1, t2⟩ := gcells rb1v
  clear hb4 hbV4 rb1 K4 hs4 hb4u hs4u rb1u K4u hU4 hb4v
  go_wp2_with fail
  ((with_reducible refine (HIM.out _ _ _ w4v hs4v hU4v hU4').mono ?_); rintro e w6 ⟨rfl, hb6⟩)
  have K6 := K4v.trans (hb6.mono K4v.size)
  have rb6 := erow_below rb1v hb6 rb1v.lt
  have hs46 := hs4v.below hb6
  have hU6 := hU4v.below hb6
  have hU6' := hU4'.below hb6
  clear t0 t1 t2 K4v rb1v hs4v hU4v hU4' hb6
  have hz6 : w4.heap.size < w6.drew.heap.size := rb6.lt
  have hA6 : SlM w6.drew (.slice a L.length cap) L := (hS3.below K6).below (Below.refl _ _).drew
  have hX6 : SlM w6.drew (.slice (some ⟨g4, 0, none⟩) L.length L.length) L := hs46.below (Below.refl _ _).drew
  obtain ⟨y0, y1, y2⟩ := gcells (erow_below r3 K6 r3.lt)
  obtain ⟨t0, t1, t2⟩ := gcells rb6
  obtain ⟨T0, T1, T2⟩ := gcells (show w6.drew.rowIs w4.heap.size 31 3 (grpF p n (.slice (some ⟨g4, 0, none⟩) L.length L.length)) from rb6)
  go_wp2_with fail
  go_cut [61] (fun s56 wx => s56 = .bool false ∧ Below w6.heap.size w6 wx)
  case first =>
    go_region_with (first
      | (go_at_call 6; (with_reducible refine (togrp p n _ L _ hl hA6).mono ?_); rintro e w7 ⟨v7, rfl, own7, hb7⟩; have Q0 := (hb7.cell (p := ⟨w4.heap.size, 0, none⟩) hz6).trans T0; have Q1 := (hb7.cell (p := ⟨w4.heap.size, 1, none⟩) hz6).trans T1; have Q2 := (hb7.cell (p := ⟨w4.heap.size, 2, none⟩) hz6).trans T2)
      | (go_at_call 9; (with_reducible refine (eqgrp p n _ _ L _ hl (hX6.below hb7) own7.slice).mono ?_); rintro e w8 ⟨rfl, hb8⟩))
    all_goals
      go_wp2_with fail
      go_meet
      exact ⟨rfl, (Below.refl _ _).drew.trans (hb7.trans (hb8.mono hb7.size))⟩
  case rest =>
  rename World => w7
  obtain ⟨rfl, hb7⟩ := hcut
  have K7 := K6.trans (hb7.mono K6.size)
  have hU7 := hU6.below hb7
  have hU7' := hU6'.below hb7
  clear y0 y1 y2 t0 t1 t2 T0 T1 T2 hz6 hA6 hX6 rb6 hs46 hU6 hU6' K6 hb7
  go_wp2_with fail
  ((with_reducible refine (ntoI_any _ l _ hm (hU3.below K7)).mono ?_); rintro e w8 ⟨u8, rfl, hU8, hb8⟩)
  have K8 := K7.trans (hb8.mono K7.size)
  have hU78 := hU7.below hb8
  have hU78' := hU7'.below hb8
  clear K7 hU7 hU7' hb8
  go_wp2_with fail
  ((with_reducible refine (neqI_same _ _ l _ hm hU78 hU8).mono ?_); rintro e w9 ⟨rfl, hb9⟩)
  have K9 := K8.trans (hb9.mono K8.size)
  have hU9' := hU78'.below hb9
  clear K8 hU78 hU78' hU8 hb9
  go_wp2_with fail
  ((with_reducible refine (ntoI_any _ l' _ hm' (hU3'.below K9)).mono ?_); rintro e w10 ⟨u10, rfl, hU10, hb10⟩)
  have K10 := K9.trans (hb10.mono K9.size)
  have hU10' := hU9'.below hb10
  clear K9 hU9' hb10
  go_wp2_with fail
  ((with_reducible refine (neqI_same _ _ l' _ hm' hU10' hU10).mono ?_); rintro e w11 ⟨rfl, hb11⟩)
  have K11 := K10.trans (hb11.mono K10.size)
  have hend := hbw3.trans (K11.mono hbw3.size)
  go_wp2
  go_ret
  exact ⟨rfl, hend⟩
end Go.Proofs.Ytabfdohmgmdgeaa
