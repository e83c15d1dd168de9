/-
  WALKS: whether something is a polynomial (model and program). Conditions: exponents are bytes.
-/
import Derived.Test.YtphgpadpffigjaaB
import Derived.Test.YtphgpadpffigjaaT
namespace Go.Proofs.Ytphgpadpffigjaa
open Go.RowKit Go.Sort

/-- The order of monomials. -/
def beforeB (a b : Int × Int × Int) : Bool :=
  if a.1 + a.2.1 + a.2.2 = b.1 + b.2.1 + b.2.2 then (if a.1 = b.1 then decide (b.2.1 < a.2.1) else decide (b.1 < a.1)) else decide (a.1 + a.2.1 + a.2.2 < b.1 + b.2.1 + b.2.2)
def byte3 (a : Int × Int × Int) : Prop := (0 ≤ a.1 ∧ a.1 ≤ 255) ∧ (0 ≤ a.2.1 ∧ a.2.1 ≤ 255) ∧ (0 ≤ a.2.2 ∧ a.2.2 ≤ 255)
theorem cmpE_before (a b : Int × Int × Int) (ha : a.1 + a.2.1 + a.2.2 ≤ 12) (hb : b.1 + b.2.1 + b.2.2 ≤ 12) : decide (0 ≤ cmpE a b) = !beforeB a b := by
  unfold cmpE beforeB or3 cmpI capd
  rw [if_pos ha, if_pos hb]
  (repeat' split) <;> simp <;> omega

theorem sum_regrown (x y z : Int) (W : World) (hx : 0 ≤ x ∧ x ≤ 255) (hy : 0 ≤ y ∧ y ≤ 255) (hz : 0 ≤ z ∧ z ≤ 255) (d : Nat) (os : Array Obj) :
    Calls Try.prog 89 #[.agg #[.int .u8 x, .int .u8 y, .int .u8 z]] (grow (redrawn W d) os) fun e w'' => e = .returned (.int .i64 (x + y + z)) ∧ ∃ p : Regrown, w'' = grow (redrawn W p.d) p.os :=
  Calls.regrown_of (sum_any x y z _ hx hy hz)

set_option maxHeartbeats 2000000 in
theorem before_any (x y z x' y' z' : Int) (w : World) (hx : 0 ≤ x ∧ x ≤ 255) (hy : 0 ≤ y ∧ y ≤ 255) (hz : 0 ≤ z ∧ z ≤ 255) (hx' : 0 ≤ x' ∧ x' ≤ 255) (hy' : 0 ≤ y' ∧ y' ≤ 255) (hz' : 0 ≤ z' ∧ z' ≤ 255) :
    Calls Try.prog 88 #[.agg #[.int .u8 x, .int .u8 y, .int .u8 z], .agg #[.int .u8 x', .int .u8 y', .int .u8 z']] w fun e w' => e = .returned (.bool (beforeB (x, y, z) (x', y', z'))) ∧ Below w.heap.size w w' := by
  obtain ⟨W, hW, hbW, a0, a1, a2, b0, b1, b2⟩ : ∃ W, W = (w.alloc (.cells #[.int .u8 x, .int .u8 y, .int .u8 z] 75)).alloc (.cells #[.int .u8 x', .int .u8 y', .int .u8 z'] 75) ∧ Below w.heap.size w W ∧
      W.cell? ⟨w.heap.size, 0, none⟩ = some (.int .u8 x) ∧ W.cell? ⟨w.heap.size, 1, none⟩ = some (.int .u8 y) ∧ W.cell? ⟨w.heap.size, 2, none⟩ = some (.int .u8 z) ∧
      W.cell? ⟨w.heap.size + 1, 0, none⟩ = some (.int .u8 x') ∧ W.cell? ⟨w.heap.size + 1, 1, none⟩ = some (.int .u8 y') ∧ W.cell? ⟨w.heap.size + 1, 2, none⟩ = some (.int .u8 z') :=
    ⟨_, rfl, box2 _ _ _, by go_simp, by go_simp, by go_simp, by go_simp, by go_simp, by go_simp⟩
  have k0 := cell_regrown a0
  have k1 := cell_regrown a1
  have k2 := cell_regrown a2
  have l0 := cell_regrown b0
  have l1 := cell_regrown b1
  have l2 := cell_regrown b2
  have cA := sum_regrown x y z W hx hy hz
  have cB := sum_regrown x' y' z' W hx' hy' hz'
  by_cases hs : x + y + z = x' + y' + z'
  · have hn : ((x + y + z) != (x' + y' + z')) = false := by simp [hs]
    have HS := Lib.hid hs
    clear hs
    go_enter Try.func88, Try.ntmps88
    go_wp2
    rw [← hW]
    clear hW
    refine wp_region_quiet_below (by kernel_rfl) (by kernel_rfl) ?_
    repeat (quiet_step (first | with_reducible exact cA _ _ | with_reducible exact cB _ _))
    refine wpQuiet_nil ?_
    intro _ hw'
    obtain ⟨⟨dq, osq⟩, hw''⟩ := hw'
    subst hw''
    go_wp2
    all_goals go_ret
    all_goals refine ⟨?_, hbW.trans ((below_regrown W dq osq).mono hbW.size)⟩
    all_goals go_light
    all_goals (simp [beforeB, HS.out]; simp_all)
  · have hn : ((x + y + z) != (x' + y' + z')) = true := by simp [hs]
    have HS := Lib.hid hs
    clear hs
    go_enter Try.func88, Try.ntmps88
    go_wp2
    rw [← hW]
    clear hW
    refine wp_region_quiet_below (by kernel_rfl) (by kernel_rfl) ?_
    repeat (quiet_step (first | with_reducible exact cA _ _ | with_reducible exact cB _ _))
    refine wpQuiet_nil ?_
    intro _ hw'
    obtain ⟨⟨dq, osq⟩, hw''⟩ := hw'
    subst hw''
    have hb2 := below_regrown W dq osq
    have m0 := k0 dq osq
    have m1 := k1 dq osq
    have m2 := k2 dq osq
    have n0 := l0 dq osq
    have n1 := l1 dq osq
    have n2 := l2 dq osq
    clear k0 k1 k2 l0 l1 l2 cA cB a0 a1 a2 b0 b1 b2
    generalize grow (redrawn W dq) osq = V at *
    have k0 := cell_regrown m0
    have k1 := cell_regrown m1
    have k2 := cell_regrown m2
    have l0 := cell_regrown n0
    have l1 := cell_regrown n1
    have l2 := cell_regrown n2
    have cA := sum_regrown x y z V hx hy hz
    have cB := sum_regrown x' y' z' V hx' hy' hz'
    go_wp2
    refine wp_region_quiet_below (by kernel_rfl) (by kernel_rfl) ?_
    repeat (quiet_step (first | with_reducible exact cA _ _ | with_reducible exact cB _ _))
    refine wpQuiet_nil ?_
    intro _ hw'
    obtain ⟨⟨dr, osr⟩, hw''⟩ := hw'
    subst hw''
    go_wp2
    go_ret
    exact ⟨by simp [beforeB, HS.out], (hbW.trans (hb2.mono hbW.size)).trans ((below_regrown V dr osr).mono (Nat.le_trans hbW.size hb2.size))⟩

end Go.Proofs.Ytphgpadpffigjaa
