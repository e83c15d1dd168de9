/-
  WALKS of the laws on matrices: comparing. Conditions: as each theorem states.
-/
import Derived.Test.YtabfdohmgmdgeaaJt
namespace Go.Proofs.Ytabfdohmgmdgeaa
open Go.RowKit Go.Sort EchM

set_option maxHeartbeats 2000000 in
theorem eqbyte3 (x y z : Int) (w : World) : Calls Try.prog 49 #[.agg #[.int .u8 x, .int .u8 y, .int .u8 z], .agg #[.int .u8 x, .int .u8 y, .int .u8 z]] w fun e w' => e = .returned (.bool true) ∧ Below w.heap.size w w' := by
  have hx : (x != x) = false := by simp
  have hy : (y != y) = false := by simp
  have hz : (z != z) = false := by simp
  go_enter Try.func49, Try.ntmps49
  go_wp2
  refine wp_loop_rounds 4 ?_
  iterate 3 (rw [rounds_succ]; go_wp2; go_quiet (fail); go_wp2)
  rw [rounds_succ]
  go_wp2
  go_ret
  exact ⟨rfl, by repeat (first | exact ebox2 _ _ _ | refine below_drewN ?_ _)⟩

end Go.Proofs.Ytabfdohmgmdgeaa
