/-
  WALKS: comparing terms and polynomials that are equal. Conditions: as each theorem states.
-/
import Derived.Test.YtphgpadpffigjaaF
namespace Go.Proofs.Ytphgpadpffigjaa
open Go.RowKit Go.Sort

set_option maxHeartbeats 1000000 in
theorem eqTerm_refl (x y z v : Int) (w : World) :
    Calls Try.prog 98 #[.agg #[.int .u8 x, .int .u8 y, .int .u8 z, .int .i64 v], .agg #[.int .u8 x, .int .u8 y, .int .u8 z, .int .i64 v]] w fun e w' => e = .returned (.bool true) ∧ Below w.heap.size w w' := by
  have hv : (v != v) = false := by simp
  go_enter Try.func98, Try.ntmps98
  go_wp2_with fail
  ((with_reducible refine (eqExps_refl _ _ _ _).mono ?_); rintro e w1 ⟨rfl, hb⟩)
  obtain ⟨hc, hf⟩ := old_cells hb
  have hb0 := (box2 _ _ _).trans (hb.mono (by simp; omega))
  clear hb
  go_wp2
  go_ret
  exact ⟨rfl, hb0⟩

set_option maxHeartbeats 1000000 in
theorem eqTermS_some (g o cap g' o' cap' : Nat) (ts : List Tm) (w : World) (hl : ts.length ≤ 1048576) (hg : g < w.heap.size) (hg' : g' < w.heap.size) (hT : Terms w g o ts) (hT' : Terms w g' o' ts) :
    Calls Try.prog 49 #[.slice (some ⟨g, o, none⟩) ts.length cap, .slice (some ⟨g', o', none⟩) ts.length cap'] w fun e w' => e = .returned (.bool true) ∧ Below w.heap.size w w' := by
  have hnn : ((ts.length : Int) != (ts.length : Int)) = false := by simp
  go_enter Try.func49, Try.ntmps49
  go_wp2
  go_loopw [5] (fun i wr => ∃ k : Nat, k ≤ ts.length ∧ i = .int .i64 k ∧ Below w.heap.size w wr) (fun i _ => ts.length - (intOf i).toNat)
  case atStart => exact ⟨0, by omega, rfl, Below.refl _ _⟩
  case round =>
    obtain ⟨k, hk, rfl, hbel⟩ := hrel
    by_cases hlt : k < ts.length
    · have hlt' : (k : Int) < (ts.length : Int) := by omega
      obtain ⟨a0, a1, a2, a3⟩ := (hT.below hbel hg) k hlt
      obtain ⟨b0, b1, b2, b3⟩ := (hT'.below hbel hg') k hlt
      have e0 := cell_regrown a0
      have e1 := cell_regrown a1
      have e2 := cell_regrown a2
      have e3 := cell_regrown a3
      have f0 := cell_regrown b0
      have f1 := cell_regrown b1
      have f2 := cell_regrown b2
      have f3 := cell_regrown b3
      clear a0 a1 a2 a3 b0 b1 b2 b3
      have cE : ∀ d os, Calls Try.prog 98 #[.agg #[.int .u8 ts[k].1, .int .u8 ts[k].2.1, .int .u8 ts[k].2.2.1, .int .i64 ts[k].2.2.2], .agg #[.int .u8 ts[k].1, .int .u8 ts[k].2.1, .int .u8 ts[k].2.2.1, .int .i64 ts[k].2.2.2]] (grow (redrawn wr d) os) fun e w'' => e = .returned (.bool true) ∧ ∃ p : Regrown, w'' = grow (redrawn wr p.d) p.os := fun d os => Calls.regrown_of (eqTerm_refl _ _ _ _ _)
      go_wp2
      refine wp_region_quiet_below (by kernel_rfl) (by kernel_rfl) ?_
      repeat (go_big_quiet_step (with_reducible exact cE _ _))
      refine wpQuiet_nil ?_
      intro _ hw'
      obtain ⟨⟨dq, osq⟩, hw''⟩ := hw'
      subst hw''
      go_wp2
      go_roundw
      case rel => exact ⟨k + 1, by omega, by go_num, hbel.trans ((below_regrown wr dq osq).mono hbel.size)⟩
      case measure => simp [intOf]; omega
    · obtain rfl : k = ts.length := by omega
      go_wp2
      go_ret
      exact ⟨rfl, hbel⟩

theorem eqTermS_zero (a a' : Option Addr) (c c' : Nat) (w : World) :
    Calls Try.prog 49 #[.slice a 0 c, .slice a' 0 c'] w fun e w' => e = .returned (.bool true) ∧ Below w.heap.size w w' := by
  go_enter Try.func49, Try.ntmps49
  go_wp2
  refine wp_loop_rounds 1 ?_
  rw [rounds_succ]
  go_wp2
  go_ret
  exact ⟨rfl, Below.refl _ _⟩

theorem eqTermS_same (v v' : Value) (ts : List Tm) (w : World) (hl : ts.length ≤ 1048576) (hS : SliceT w v ts) (hS' : SliceT w v' ts) :
    Calls Try.prog 49 #[v, v'] w fun e w' => e = .returned (.bool true) ∧ Below w.heap.size w w' := by
  obtain ⟨a, cap, rfl, h⟩ := hS
  obtain ⟨a', cap', rfl, h'⟩ := hS'
  cases ts with
  | nil => exact eqTermS_zero _ _ _ _ _
  | cons t r =>
    rcases h with h | ⟨b, off, rfl, hlt, hT⟩
    · cases h
    · rcases h' with h' | ⟨b', off', rfl, hlt', hT'⟩
      · cases h'
      · exact eqTermS_some b off cap b' off' cap' _ w hl hlt hlt' hT hT'

set_option maxHeartbeats 1000000 in
theorem eqPoly_same (p d : Int) (v v' : Value) (ts : List Tm) (w : World) (hl : ts.length ≤ 1048576) (hS : SliceT w v ts) (hS' : SliceT w v' ts) :
    Calls Try.prog 20 #[.agg #[.int .i64 p, .int .i64 d, v], .agg #[.int .i64 p, .int .i64 d, v']] w fun e w' => e = .returned (.bool true) ∧ Below w.heap.size w w' := by
  have hp : (p != p) = false := by simp
  have hd : (d != d) = false := by simp
  have h2 : ∀ o1 o2, SliceT ((w.alloc o1).alloc o2) v ts := fun o1 o2 => hS.below (box2 _ _ _)
  have h2' : ∀ o1 o2, SliceT ((w.alloc o1).alloc o2) v' ts := fun o1 o2 => hS'.below (box2 _ _ _)
  obtain ⟨a, cap, hv, _⟩ := id hS
  obtain ⟨a', cap', hv', _⟩ := id hS'
  subst hv hv'
  go_enter Try.func20, Try.ntmps20
  go_wp2_with fail
  ((with_reducible refine (eqTermS_same _ _ ts _ hl (h2 _ _) (h2' _ _)).mono ?_); rintro e w1 ⟨rfl, hb⟩)
  go_wp2
  go_ret
  exact ⟨rfl, (box2 _ _ _).trans (hb.mono (by simp; omega))⟩

end Go.Proofs.Ytphgpadpffigjaa
