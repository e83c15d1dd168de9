/-
  WALKS of the laws on groups: sizes, comparing, copying. Conditions: as each theorem states.
-/
import Derived.Test.YtabfdohmgmdgeaaJc
import Derived.Test.YtabfdohmgmdgeaaKe
import Derived.Test.YtabfdohmgmdgeaaGw
namespace Go.Proofs.Ytabfdohmgmdgeaa
open Go.RowKit Go.Sort EchM

theorem eqmat_r (g : Nat → Nat → Int) (W : World) : ∀ dd os, Calls Try.prog 37 #[(.agg #[.int .u8 (g 0 0), .int .u8 (g 0 1), .int .u8 (g 0 2), .int .u8 (g 1 0), .int .u8 (g 1 1), .int .u8 (g 1 2), .int .u8 (g 2 0), .int .u8 (g 2 1), .int .u8 (g 2 2)]), (.agg #[.int .u8 (g 0 0), .int .u8 (g 0 1), .int .u8 (g 0 2), .int .u8 (g 1 0), .int .u8 (g 1 1), .int .u8 (g 1 2), .int .u8 (g 2 0), .int .u8 (g 2 1), .int .u8 (g 2 2)])] (grow (redrawn W dd) os) fun e w'' => e = .returned (.bool true) ∧ ∃ q : Regrown, w'' = grow (redrawn W q.d) q.os := fun _ _ => Calls.regrown_of (eqmat g _)

set_option maxRecDepth 8000 in
set_option maxHeartbeats 4000000 in
theorem eqmats (v v' : Value) (L : List (Nat → Nat → Int)) (w : World) (hl : L.length ≤ 1048576) (hS : SlM w v L) (hS' : SlM w v' L) :
    Calls Try.prog 20 #[v, v'] w fun e w' => e = .returned (.bool true) ∧ Below w.heap.size w w' := by
  have hnn : ((L.length : Int) != (L.length : Int)) = false := by simp
  obtain ⟨a, cap, rfl, hSc⟩ := id hS
  obtain ⟨a', cap', rfl, hSc'⟩ := id hS'
  go_enter Try.func20, Try.ntmps20
  go_wp2_with fail
  go_loopw [5] (fun i wr => ∃ k : Nat, k ≤ L.length ∧ i = .int .i64 k ∧ Below w.heap.size w wr) (fun i _ => L.length - (intOf i).toNat)
  case atStart => exact ⟨0, by omega, rfl, Below.refl _ _⟩
  case round =>
    obtain ⟨k, hk, rfl, hbel⟩ := hrel
    by_cases hlt : k < L.length
    · have hlt' : (k : Int) < (L.length : Int) := by omega
      obtain ⟨b, off, rfl, hbb, hT⟩ : ∃ b off, a = some ⟨b, off, none⟩ ∧ b < w.heap.size ∧ MatsW w b off L := by
        rcases hSc with rfl | h
        · simp at hlt
        · exact h
      obtain ⟨b', off', rfl, hbb', hT'⟩ : ∃ b off, a' = some ⟨b, off, none⟩ ∧ b < w.heap.size ∧ MatsW w b off L := by
        rcases hSc' with rfl | h
        · simp at hlt
        · exact h
      obtain ⟨⟨a0, a1, a2⟩, ⟨a3, a4, a5⟩, a6, a7, a8⟩ := (hT.below hbel hbb).nine hlt
      obtain ⟨⟨b0, b1, b2⟩, ⟨b3, b4, b5⟩, b6, b7, b8⟩ := (hT'.below hbel hbb').nine hlt
      generalize L[k] = x at *
      have e0 := cell_regrown a0
      have e1 := cell_regrown a1
      have e2 := cell_regrown a2
      have e3 := cell_regrown a3
      have e4 := cell_regrown a4
      have e5 := cell_regrown a5
      have e6 := cell_regrown a6
      have e7 := cell_regrown a7
      have e8 := cell_regrown a8
      have f0 := cell_regrown b0
      have f1 := cell_regrown b1
      have f2 := cell_regrown b2
      have f3 := cell_regrown b3
      have f4 := cell_regrown b4
      have f5 := cell_regrown b5
      have f6 := cell_regrown b6
      have f7 := cell_regrown b7
      have f8 := cell_regrown b8
      clear a0 a1 a2 a3 a4 a5 a6 a7 a8 b0 b1 b2 b3 b4 b5 b6 b7 b8
      have kE := eqmat_r x wr
      go_wp2_with fail
      refine wp_region_quiet_below (by kernel_rfl) (by kernel_rfl) ?_
      repeat (go_big_quiet_step (with_reducible exact kE _ _))
      refine wpQuiet_nil ?_
      intro _ hw'
      obtain ⟨⟨dq, osq⟩, hw''⟩ := hw'
      subst hw''
      have hb2 := hbel.trans ((below_regrown wr dq osq).mono hbel.size)
      generalize grow (redrawn wr dq) osq = V at *
      clear e0 e1 e2 e3 e4 e5 e6 e7 e8 f0 f1 f2 f3 f4 f5 f6 f7 f8 kE
      go_wp2_with fail
      go_roundw
      case rel => exact ⟨k + 1, by omega, by go_num, hb2⟩
      case measure => simp [intOf]; omega
    · obtain rfl : k = L.length := by omega
      go_wp2_with fail
      go_ret
      exact ⟨rfl, hbel⟩

theorem szmats_ok (a : Option Addr) (l cap : Nat) (w : World) (hl : l ≤ 1048576) :
    Calls Try.prog 11 #[.slice a l cap, .int .i64 1048576] w fun e w' => e = .returned (.int .i64 (1048576 - (l : Int))) ∧ w = w' := by
  have h1 : IntKind.i64.wrap (1048576 - (l : Int)) = 1048576 - (l : Int) := IntWalk.i64_in _ (by omega)
  have h2 : ¬ (1048576 - (l : Int)) < 0 := by omega
  go_enter Try.func11, Try.ntmps11
  go_wp2_with fail
  go_ret
  exact ⟨rfl, rfl⟩
theorem szmats_no (a : Option Addr) (l cap : Nat) (w : World) (hl : 1048576 < l) (hl2 : l ≤ 9223372036854775807) :
    Calls Try.prog 11 #[.slice a l cap, .int .i64 1048576] w fun e w' => e = .returned (.int .i64 (-1)) ∧ w = w' := by
  have h1 : IntKind.i64.wrap (1048576 - (l : Int)) = 1048576 - (l : Int) := IntWalk.i64_in _ (by omega)
  have h2 : (1048576 - (l : Int)) < 0 := by omega
  have h3 : (1048576 : Int) < (l : Int) := by omega
  go_enter Try.func11, Try.ntmps11
  go_wp2_with fail
  go_ret
  exact ⟨rfl, rfl⟩
theorem szgrp_ok (p n : Int) (a : Option Addr) (l cap : Nat) (w : World) (hl : l ≤ 1048576) :
    Calls Try.prog 4 #[.agg #[.int .i64 p, .int .i64 n, .slice a l cap], .int .i64 1048576] w fun e w' => e = .returned (.int .i64 (1048576 - (l : Int))) ∧ Below w.heap.size w w' := by
  obtain ⟨W, hW, rW, hbW⟩ : ∃ W, W = w.alloc (.cells #[.int .i64 p, .int .i64 n, .slice a l cap] 24) ∧ W.rowIs w.heap.size 24 3 (grpF p n (.slice a l cap)) ∧ Below w.heap.size w W := ⟨_, rfl, gbox w p n _ _, ebox1 _ _⟩
  obtain ⟨g0, g1, g2⟩ := gcells rW
  have h2 : ¬ (1048576 - (l : Int)) < 0 := by omega
  go_enter Try.func4, Try.ntmps4
  go_wp2_with fail
  rw [← hW]
  clear hW
  go_wp2_with fail
  ((with_reducible refine (szmats_ok a l cap _ hl).mono ?_); rintro e w1 ⟨rfl, rfl⟩)
  go_wp2_with fail
  go_ret
  exact ⟨rfl, hbW⟩
theorem szgrp_no (p n : Int) (a : Option Addr) (l cap : Nat) (w : World) (hl : 1048576 < l) (hl2 : l ≤ 9223372036854775807) :
    Calls Try.prog 4 #[.agg #[.int .i64 p, .int .i64 n, .slice a l cap], .int .i64 1048576] w fun e w' => e = .returned (.int .i64 (-1)) ∧ Below w.heap.size w w' := by
  obtain ⟨W, hW, rW, hbW⟩ : ∃ W, W = w.alloc (.cells #[.int .i64 p, .int .i64 n, .slice a l cap] 24) ∧ W.rowIs w.heap.size 24 3 (grpF p n (.slice a l cap)) ∧ Below w.heap.size w W := ⟨_, rfl, gbox w p n _ _, ebox1 _ _⟩
  obtain ⟨g0, g1, g2⟩ := gcells rW
  go_enter Try.func4, Try.ntmps4
  go_wp2_with fail
  rw [← hW]
  clear hW
  go_wp2_with fail
  ((with_reducible refine (szmats_no a l cap _ hl hl2).mono ?_); rintro e w1 ⟨rfl, rfl⟩)
  go_wp2_with fail
  go_ret
  exact ⟨rfl, hbW⟩
set_option maxHeartbeats 2000000 in
theorem eqgrp (p n : Int) (v v' : Value) (L : List (Nat → Nat → Int)) (w : World) (hl : L.length ≤ 1048576) (hS : SlM w v L) (hS' : SlM w v' L) :
    Calls Try.prog 9 #[.agg #[.int .i64 p, .int .i64 n, v], .agg #[.int .i64 p, .int .i64 n, v']] w fun e w' => e = .returned (.bool true) ∧ Below w.heap.size w w' := by
  obtain ⟨W, hW, r1, r2, hbW⟩ : ∃ W, W = (w.alloc (.cells #[.int .i64 p, .int .i64 n, v] 31)).alloc (.cells #[.int .i64 p, .int .i64 n, v'] 31) ∧ W.rowIs w.heap.size 31 3 (grpF p n v) ∧ W.rowIs (w.heap.size + 1) 31 3 (grpF p n v') ∧ Below w.heap.size w W := by
    refine ⟨_, rfl, (gbox w p n v _).alloc _, ?_, ebox2 _ _ _⟩
    have := gbox (w.alloc (.cells #[.int .i64 p, .int .i64 n, v] 31)) p n v' 31
    rwa [World.size_alloc] at this
  have hSW := hS.below hbW
  have hSW' := hS'.below hbW
  obtain ⟨a, cap, rfl, _⟩ := id hS
  obtain ⟨a', cap', rfl, _⟩ := id hS'
  obtain ⟨g0, g1, g2⟩ := gcells r1
  obtain ⟨k0, k1, k2⟩ := gcells r2
  have hp : (p != p) = false := by simp
  have hn : (n != n) = false := by simp
  go_enter Try.func9, Try.ntmps9
  go_upto_region 1 with fail
  rw [← hW]
  clear hW
  go_wp2_with fail
  ((with_reducible refine (eqmats _ _ L _ hl hSW hSW').mono ?_); rintro e w1 ⟨rfl, hb1⟩)
  go_wp2_with fail
  go_ret
  exact ⟨rfl, hbW.trans (hb1.mono hbW.size)⟩
end Go.Proofs.Ytabfdohmgmdgeaa
