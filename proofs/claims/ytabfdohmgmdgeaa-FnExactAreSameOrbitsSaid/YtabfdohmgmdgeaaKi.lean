/-
  Comparing two matrices; units; powers. Conditions: as each theorem states.
-/
import Derived.Test.YtabfdohmgmdgeaaKb
import Derived.Laws.StructEq
namespace Go.Proofs.Ytabfdohmgmdgeaa
open Go.RowKit Go.Sort EchM

theorem row3_eq (x y z x' y' z' : Int) (w : World) :
    (Op.equalIn 9999 54 (.agg #[.int .u8 x, .int .u8 y, .int .u8 z]) (.agg #[.int .u8 x', .int .u8 y', .int .u8 z'])).run Try.prog w = .ok (x == x' && (y == y' && z == z')) w := by
  have hs : ∀ w, (sizeOf 5).run Try.prog w = .ok 1 w := fun w => by kernel_rfl
  have hi : ∀ (a b : Int) (w : World), (Op.equalIn 9998 5 (.int .u8 a) (.int .u8 b)).run Try.prog w = .ok (a == b) w := fun a b w => run_equalIn_int w 9997 5 .u8 .u8 a b Try.underlying5
  have hp : ∀ (a b c : Int) (w : World), (Go.part 5 #[.int .u8 a, .int .u8 b, .int .u8 c] 0).run Try.prog w = .ok (.int .u8 a) w ∧ (Go.part 5 #[.int .u8 a, .int .u8 b, .int .u8 c] 1).run Try.prog w = .ok (.int .u8 b) w ∧ (Go.part 5 #[.int .u8 a, .int .u8 b, .int .u8 c] 2).run Try.prog w = .ok (.int .u8 c) w := fun a b c w => ⟨by kernel_rfl, by kernel_rfl, by kernel_rfl⟩
  have h0 := fun a b c w => (hp a b c w).1
  have h1 := fun a b c w => (hp a b c w).2.1
  have h2 := fun a b c w => (hp a b c w).2.2
  unfold Op.equalIn
  simp only [Sem.run_bind, run_underlying Try.underlying54, Result.andThen_ok, hs, Std.Legacy.Range.forIn_eq_forIn_range', Std.Legacy.Range.size, List.range'_succ, List.forIn_cons]
  cases hx : (x == x') <;> cases hy : (y == y') <;> cases hz : (z == z') <;> simp [Sem.run_bind, hi, h0, h1, h2, hx, hy, hz]
/-- Whether two matrices have the same numbers. -/
def eqM (a b : Nat → Nat → Int) : Bool := (a 0 0 == b 0 0 && (a 0 1 == b 0 1 && a 0 2 == b 0 2)) && ((a 1 0 == b 1 0 && (a 1 1 == b 1 1 && a 1 2 == b 1 2)) && (a 2 0 == b 2 0 && (a 2 1 == b 2 1 && a 2 2 == b 2 2)))
theorem mpart (g : Nat → Nat → Int) (w : World) : (Go.part 54 #[.int .u8 (g 0 0), .int .u8 (g 0 1), .int .u8 (g 0 2), .int .u8 (g 1 0), .int .u8 (g 1 1), .int .u8 (g 1 2), .int .u8 (g 2 0), .int .u8 (g 2 1), .int .u8 (g 2 2)] 0).run Try.prog w = .ok (.agg #[.int .u8 (g 0 0), .int .u8 (g 0 1), .int .u8 (g 0 2)]) w := by kernel_rfl
theorem mpart1 (g : Nat → Nat → Int) (w : World) : (Go.part 54 #[.int .u8 (g 0 0), .int .u8 (g 0 1), .int .u8 (g 0 2), .int .u8 (g 1 0), .int .u8 (g 1 1), .int .u8 (g 1 2), .int .u8 (g 2 0), .int .u8 (g 2 1), .int .u8 (g 2 2)] 3).run Try.prog w = .ok (.agg #[.int .u8 (g 1 0), .int .u8 (g 1 1), .int .u8 (g 1 2)]) w := by kernel_rfl
theorem mpart2 (g : Nat → Nat → Int) (w : World) : (Go.part 54 #[.int .u8 (g 0 0), .int .u8 (g 0 1), .int .u8 (g 0 2), .int .u8 (g 1 0), .int .u8 (g 1 1), .int .u8 (g 1 2), .int .u8 (g 2 0), .int .u8 (g 2 1), .int .u8 (g 2 2)] 6).run Try.prog w = .ok (.agg #[.int .u8 (g 2 0), .int .u8 (g 2 1), .int .u8 (g 2 2)]) w := by kernel_rfl
theorem mat_eq (a b : Nat → Nat → Int) (w : World) :
    (Op.equalIn 10000 56 (.agg #[.int .u8 (a 0 0), .int .u8 (a 0 1), .int .u8 (a 0 2), .int .u8 (a 1 0), .int .u8 (a 1 1), .int .u8 (a 1 2), .int .u8 (a 2 0), .int .u8 (a 2 1), .int .u8 (a 2 2)]) (.agg #[.int .u8 (b 0 0), .int .u8 (b 0 1), .int .u8 (b 0 2), .int .u8 (b 1 0), .int .u8 (b 1 1), .int .u8 (b 1 2), .int .u8 (b 2 0), .int .u8 (b 2 1), .int .u8 (b 2 2)])).run Try.prog w = .ok (eqM a b) w := by
  have hs : ∀ w, (sizeOf 54).run Try.prog w = .ok 3 w := fun w => by kernel_rfl
  unfold Op.equalIn
  simp only [Sem.run_bind, run_underlying Try.underlying56, Result.andThen_ok, hs, Std.Legacy.Range.forIn_eq_forIn_range', Std.Legacy.Range.size, List.range'_succ, List.forIn_cons]
  unfold eqM
  generalize hx : (a 0 0 == b 0 0 && (a 0 1 == b 0 1 && a 0 2 == b 0 2)) = X
  generalize hy : (a 1 0 == b 1 0 && (a 1 1 == b 1 1 && a 1 2 == b 1 2)) = Y
  generalize hz : (a 2 0 == b 2 0 && (a 2 1 == b 2 1 && a 2 2 == b 2 2)) = Z
  cases X <;> cases Y <;> cases Z <;> simp [Sem.run_bind, mpart, mpart1, mpart2, row3_eq, hx, hy, hz]
end Go.Proofs.Ytabfdohmgmdgeaa
