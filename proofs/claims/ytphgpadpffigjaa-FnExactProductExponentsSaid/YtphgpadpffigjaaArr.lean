/-
  Comparing two arrays of three bytes: what the model gives. Conditions: none.
-/
import Derived.Test.YtphgpadpffigjaaRows
import Derived.WalkKit
import Derived.Laws.StructEq
namespace Go.Proofs.Ytphgpadpffigjaa
open Go.RowKit

theorem arr3_eq (x y z x' y' z' : Int) (w : World) :
    (Op.equalIn 10000 75 (.agg #[.int .u8 x, .int .u8 y, .int .u8 z]) (.agg #[.int .u8 x', .int .u8 y', .int .u8 z'])).run Try.prog w = .ok (x == x' && (y == y' && z == z')) w := by
  have hs : ∀ w, (sizeOf 5).run Try.prog w = .ok 1 w := fun w => by kernel_rfl
  have hi : ∀ (a b : Int) (w : World), (Op.equalIn 9999 5 (.int .u8 a) (.int .u8 b)).run Try.prog w = .ok (a == b) w := fun a b w => run_equalIn_int w 9998 5 .u8 .u8 a b Try.underlying5
  have hp : ∀ (a b c : Int) (w : World), (Go.part 5 #[.int .u8 a, .int .u8 b, .int .u8 c] 0).run Try.prog w = .ok (.int .u8 a) w ∧ (Go.part 5 #[.int .u8 a, .int .u8 b, .int .u8 c] 1).run Try.prog w = .ok (.int .u8 b) w ∧ (Go.part 5 #[.int .u8 a, .int .u8 b, .int .u8 c] 2).run Try.prog w = .ok (.int .u8 c) w := fun a b c w => ⟨by kernel_rfl, by kernel_rfl, by kernel_rfl⟩
  have h0 := fun a b c w => (hp a b c w).1
  have h1 := fun a b c w => (hp a b c w).2.1
  have h2 := fun a b c w => (hp a b c w).2.2
  unfold Op.equalIn
  simp only [Sem.run_bind, run_underlying Try.underlying75, Result.andThen_ok, hs, Std.Legacy.Range.forIn_eq_forIn_range', Std.Legacy.Range.size, List.range'_succ, List.forIn_cons]
  cases hx : (x == x') <;> cases hy : (y == y') <;> cases hz : (z == z') <;> simp [Sem.run_bind, hi, h0, h1, h2, hx, hy, hz]

end Go.Proofs.Ytphgpadpffigjaa
