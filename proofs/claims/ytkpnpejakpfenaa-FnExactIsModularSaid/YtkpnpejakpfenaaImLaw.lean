/-
  'IsModular', model and program, and the law of 'FnExactIsModular', walked. Conditions: as each theorem states.
-/
import Derived.Test.YtkpnpejakpfenaaJe
namespace Go.Proofs.Ytkpnpejakpfenaa
open Go.RowKit Go.Sort EchM

def modB (p n : Int) (L : List (Nat → Nat → Int)) : Bool := isGrp p n L && (((L.length : Int) % p) == 0)
def modC (p n : Int) (L : List (Nat → Nat → Int)) : Int := if isGrp p n L then 0 else 1

set_option maxRecDepth 8000 in
set_option maxHeartbeats 4000000 in
theorem smod (p n : Int) (v : Value) (L : List (Nat → Nat → Int)) (w : World) (hl : L.length ≤ 1048576) (hS : SlM w v L) (hby : ∀ x ∈ L, Byt x) :
    Calls Try.prog 14 #[.agg #[.int .i64 p, .int .i64 n, v]] w fun e w' => e = .returned (.tuple #[.bool (modB p n L), .int .i64 (modC p n L)]) ∧ Below w.heap.size w w' := by
  obtain ⟨W, hW, rW, hbW⟩ : ∃ W, W = w.alloc (.cells #[.int .i64 p, .int .i64 n, v] 29) ∧ W.rowIs w.heap.size 29 3 (grpF p n v) ∧ Below w.heap.size w W := ⟨_, rfl, gbox w p n v _, ebox1 _ _⟩
  have hSW := hS.below hbW
  obtain ⟨a, cap, rfl, _⟩ := id hS
  obtain ⟨g0, g1, g2⟩ := gcells rW
  have HBY := Lib.hid hby
  clear hby
  cases hg : isGrp p n L
  · have HX := Lib.hid (show modB p n L = false by rw [modB, hg]; rfl)
    have HC := Lib.hid (show modC p n L = 1 by rw [modC, hg]; rfl)
    go_enter Try.func14, Try.ntmps14
    go_wp2_with fail
    rw [← hW]
    clear hW
    ((with_reducible refine (sgroup p n _ L _ hl hSW HBY.out).mono ?_); rintro e w1 ⟨rfl, hb1⟩)
    rw [hg]
    go_wp2_with fail
    exact bodyPost_ret (v := .tuple #[.bool false, .int .i64 1]) (by simp [results, Try.results14, go_sem]) rfl ⟨by rw [HX.out, HC.out], hbW.trans (hb1.mono hbW.size)⟩
  · have hp : pB p = true := by
      unfold isGrp at hg
      simp only [Bool.and_eq_true] at hg
      exact hg.1
    obtain ⟨h2, h13⟩ := pB_le hp
    have hp0 : ¬ p = 0 := by omega
    have hp1 : (p == 0) = false := by simpa using hp0
    have HX := Lib.hid (show modB p n L = (((L.length : Int) % p) == 0) by rw [modB, hg]; rfl)
    have HC := Lib.hid (show modC p n L = 0 by rw [modC, hg]; rfl)
    have hq0 : 0 ≤ (L.length : Int) % p := Int.emod_nonneg _ hp0
    have hq1 : (L.length : Int) % p < p := Int.emod_lt_of_pos _ (by omega)
    have hw : IntKind.i64.wrap ((L.length : Int) % p) = (L.length : Int) % p := IntWalk.i64_in _ (by omega)
    go_enter Try.func14, Try.ntmps14
    go_wp2_with fail
    rw [← hW]
    clear hW
    ((with_reducible refine (sgroup p n _ L _ hl hSW HBY.out).mono ?_); rintro e w1 ⟨rfl, hb1⟩)
    rw [hg]
    have r1 := erow_below rW hb1 rW.lt
    clear g0 g1 g2
    obtain ⟨g0, g1, g2⟩ := gcells r1
    go_wp2_with fail
    exact bodyPost_ret (v := .tuple #[.bool (((L.length : Int) % p) == 0), .int .i64 0]) (by simp [results, Try.results14, go_sem]) rfl ⟨by rw [HX.out, HC.out], hbW.trans (hb1.mono hbW.size)⟩

set_option maxRecDepth 8000 in
set_option maxHeartbeats 4000000 in
theorem imod (p n : Int) (v : Value) (L : List (Nat → Nat → Int)) (w : World) (hl : L.length ≤ 1048576) (hS : SlM w v L) (hby : ∀ x ∈ L, Byt x) :
    Calls Try.prog 15 #[.agg #[.int .i64 p, .int .i64 n, v]] w fun e w' => e = .returned (.tuple #[.bool (modB p n L), .int .i64 (modC p n L)]) ∧ Below w.heap.size w w' := by
  obtain ⟨W, hW, rW, hbW⟩ : ∃ W, W = w.alloc (.cells #[.int .i64 p, .int .i64 n, v] 29) ∧ W.rowIs w.heap.size 29 3 (grpF p n v) ∧ Below w.heap.size w W := ⟨_, rfl, gbox w p n v _, ebox1 _ _⟩
  have hSW := hS.below hbW
  obtain ⟨a, cap, rfl, _⟩ := id hS
  obtain ⟨g0, g1, g2⟩ := gcells rW
  have HBY := Lib.hid hby
  clear hby
  cases hg : isGrp p n L
  · have HX := Lib.hid (show modB p n L = false by rw [modB, hg]; rfl)
    have HC := Lib.hid (show modC p n L = 1 by rw [modC, hg]; rfl)
    go_enter Try.func15, Try.ntmps15
    go_wp2_with fail
    rw [← hW]
    clear hW
    ((with_reducible refine (igroup p n _ L _ hl hSW HBY.out).mono ?_); rintro e w1 ⟨rfl, hb1⟩)
    rw [hg]
    go_wp2_with fail
    exact bodyPost_ret (v := .tuple #[.bool false, .int .i64 1]) (by simp [results, Try.results15, go_sem]) rfl ⟨by rw [HX.out, HC.out], hbW.trans (hb1.mono hbW.size)⟩
  · have hp : pB p = true := by
      unfold isGrp at hg
      simp only [Bool.and_eq_true] at hg
      exact hg.1
    obtain ⟨h2, h13⟩ := pB_le hp
    have hp0 : ¬ p = 0 := by omega
    have hp1 : (p == 0) = false := by simpa using hp0
    have HX := Lib.hid (show modB p n L = (((L.length : Int) % p) == 0) by rw [modB, hg]; rfl)
    have HC := Lib.hid (show modC p n L = 0 by rw [modC, hg]; rfl)
    have hq0 : 0 ≤ (L.length : Int) % p := Int.emod_nonneg _ hp0
    have hq1 : (L.length : Int) % p < p := Int.emod_lt_of_pos _ (by omega)
    have hw : IntKind.i64.wrap ((L.length : Int) % p) = (L.length : Int) % p := IntWalk.i64_in _ (by omega)
    go_enter Try.func15, Try.ntmps15
    go_wp2_with fail
    rw [← hW]
    clear hW
    ((with_reducible refine (igroup p n _ L _ hl hSW HBY.out).mono ?_); rintro e w1 ⟨rfl, hb1⟩)
    rw [hg]
    have r1 := erow_below rW hb1 rW.lt
    clear g0 g1 g2
    obtain ⟨g0, g1, g2⟩ := gcells r1
    go_wp2_with fail
    exact bodyPost_ret (v := .tuple #[.bool (((L.length : Int) % p) == 0), .int .i64 0]) (by simp [results, Try.results15, go_sem]) rfl ⟨by rw [HX.out, HC.out], hbW.trans (hb1.mono hbW.size)⟩

set_option maxRecDepth 8000 in
set_option maxHeartbeats 8000000 in
theorem law_isModular (p n : Int) (v : Value) (L : List (Nat → Nat → Int)) (w : World) (hn : L.length ≤ 9223372036854775807) (hS : SlM w v L) (hby : ∀ x ∈ L, Byt x) :
    Calls Try.prog 4 #[.agg #[.int .i64 p, .int .i64 n, v]] w fun e w' => e = .returned (.bool true) ∧ Below w.heap.size w w' := by
  obtain ⟨W, hW, rW, hbW⟩ : ∃ W, W = w.alloc (.cells #[.int .i64 p, .int .i64 n, v] 24) ∧ W.rowIs w.heap.size 24 3 (grpF p n v) ∧ Below w.heap.size w W := ⟨_, rfl, gbox w p n v _, ebox1 _ _⟩
  have hSW := hS.below hbW
  obtain ⟨a, cap, rfl, _⟩ := id hS
  obtain ⟨y0, y1, y2⟩ := gcells rW
  have HBY := Lib.hid hby
  clear hby
  by_cases hbig : 1048576 < L.length
  · go_enter Try.func4, Try.ntmps4
    go_wp2_with fail
    rw [← hW]
    clear hW
    ((with_reducible refine (szgrp_no p n a L.length cap _ hbig hn).mono ?_); rintro e w1 ⟨rfl, hb1⟩)
    go_wp2_with fail
    go_ret
    exact ⟨rfl, hbW.trans (hb1.mono hbW.size)⟩
  have hl : L.length ≤ 1048576 := by omega
  have hpos : ¬ (1048576 - (L.length : Int)) < 0 := by omega
  clear hbig
  go_enter Try.func4, Try.ntmps4
  go_wp2_with fail
  rw [← hW]
  clear hW
  ((with_reducible refine (szgrp_ok p n a L.length cap _ hl).mono ?_); rintro e w1 ⟨rfl, hb1⟩)
  have r1 := erow_below rW hb1 rW.lt
  clear y0 y1 y2
  obtain ⟨y0, y1, y2⟩ := gcells r1
  go_wp2_with fail
  ((with_reducible refine (togrp p n _ L _ hl (hSW.below hb1)).mono ?_); rintro e w2 ⟨v2, rfl, own2, hb2⟩)
  have hb12 := hb1.trans (hb2.mono hb1.size)
  go_wp2_with fail
  ((with_reducible refine (smod p n _ L _ hl own2.slice HBY.out).mono ?_); rintro e w4 ⟨rfl, hb4⟩)
  have hb14 := hb12.trans (hb4.mono hb12.size)
  have r4 := erow_below rW hb14 rW.lt
  clear y0 y1 y2
  obtain ⟨y0, y1, y2⟩ := gcells r4
  clear hb1 hb2 hb4 hb12 own2
  go_wp2_with fail
  ((with_reducible refine (togrp p n _ L _ hl (hSW.below hb14)).mono ?_); rintro e w5 ⟨v5, rfl, own5, hb5⟩)
  have hb15 := hb14.trans (hb5.mono hb14.size)
  clear y0 y1 y2 hb14 hb5
  obtain ⟨g4, f4, hv4, _⟩ := id own5
  subst hv4
  obtain ⟨V, hV, rV, hbV⟩ : ∃ V, V = w5.alloc (.cells #[.int .i64 p, .int .i64 n, .slice (some ⟨g4, 0, none⟩) L.length L.length] 29) ∧ V.rowIs w5.heap.size 29 3 (grpF p n (.slice (some ⟨g4, 0, none⟩) L.length L.length)) ∧ Below w5.heap.size w5 V := ⟨_, rfl, gbox w5 p n _ _, ebox1 _ _⟩
  have hS5 := own5.slice.below hbV
  have hbWV := hb15.trans (hbV.mono hb15.size)
  obtain ⟨t0, t1, t2⟩ := gcells rV
  go_wp2_with fail
  rw [← hV]
  clear hV
  ((with_reducible refine (imod p n _ L _ hl hS5 HBY.out).mono ?_); rintro e w7 ⟨rfl, hb7⟩)
  have hbW7 := hbWV.trans (hb7.mono hbWV.size)
  have hS7 := hS5.below hb7
  have hA7 := hSW.below hbW7
  have r7 := erow_below rV hb7 rV.lt
  have q7 := erow_below rW hbW7 rW.lt
  have hbb : (modB p n L != modB p n L) = false := by simp
  have hcc : (modC p n L != modC p n L) = false := by simp
  have hA8 : SlM w7.drew (.slice a L.length cap) L := hA7.below ((Below.refl _ _).drew)
  have hS8 : SlM w7.drew (.slice (some ⟨g4, 0, none⟩) L.length L.length) L := hS7.below ((Below.refl _ _).drew)
  have hbW8 : Below W.heap.size W w7.drew := hbW7.drew
  clear t0 t1 t2
  obtain ⟨u0, u1, u2⟩ := gcells r7
  obtain ⟨y0, y1, y2⟩ := gcells q7
  have U0 : w7.drew.cell? ⟨w5.heap.size, 0, none⟩ = some (.int .i64 p) := u0
  have U1 : w7.drew.cell? ⟨w5.heap.size, 1, none⟩ = some (.int .i64 n) := u1
  have U2 : w7.drew.cell? ⟨w5.heap.size, 2, none⟩ = some (.slice (some ⟨g4, 0, none⟩) L.length L.length) := u2
  have hz7' : w5.heap.size < w7.drew.heap.size := r7.lt
  clear hA7 hS7 hbW7 hb7 hbWV hb15 hS5 hbV own5
  generalize modB p n L = B at *
  generalize modC p n L = C at *
  go_wp2_with fail
  go_region_with (first
    | (go_at_call 11; (with_reducible refine (togrp p n _ L _ hl hA8).mono ?_); rintro e w9 ⟨v9, rfl, own9, hb9⟩; have q0 := (hb9.cell (p := ⟨w5.heap.size, 0, none⟩) hz7').trans U0; have q1 := (hb9.cell (p := ⟨w5.heap.size, 1, none⟩) hz7').trans U1; have q2 := (hb9.cell (p := ⟨w5.heap.size, 2, none⟩) hz7').trans U2)
    | (go_at_call 13; (with_reducible refine (eqgrp p n _ _ L _ hl (hS8.below hb9) own9.slice).mono ?_); rintro e w10 ⟨rfl, hb10⟩))
  all_goals have hb810 := hb9.trans (hb10.mono hb9.size)
  all_goals go_wp2_with fail
  all_goals go_ret
  all_goals exact ⟨rfl, hbW.trans ((hbW8.trans (hb810.mono hbW8.size)).mono hbW.size)⟩
end Go.Proofs.Ytkpnpejakpfenaa
