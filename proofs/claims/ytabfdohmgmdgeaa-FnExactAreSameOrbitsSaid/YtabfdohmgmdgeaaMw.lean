/-
  What a matrix is like; the tests for a matrix by their contracts. Conditions: the numbers are bytes.
-/
import Derived.Test.YtabfdohmgmdgeaaEy
namespace Go.Proofs.Ytabfdohmgmdgeaa
open Go.RowKit Go.Sort EchM

theorem ismat_is (p n : Int) (g : Nat → Nat → Int) (w : World) (hg : Byt g) (B : Bool) (h : isMat p n g = B) :
    Calls Try.prog 44 #[.int .i64 p, .int .i64 n, (.agg #[.int .u8 (g 0 0), .int .u8 (g 0 1), .int .u8 (g 0 2), .int .u8 (g 1 0), .int .u8 (g 1 1), .int .u8 (g 1 2), .int .u8 (g 2 0), .int .u8 (g 2 1), .int .u8 (g 2 2)])] w fun e w' => e = .returned (.bool B) ∧ Below w.heap.size w w' := by subst h; exact isMatrix_any p n g w hg
theorem smat_is (p n : Int) (g : Nat → Nat → Int) (w : World) (hg : Byt g) (B : Bool) (h : isMat p n g = B) :
    Calls Try.prog 23 #[.int .i64 p, .int .i64 n, (.agg #[.int .u8 (g 0 0), .int .u8 (g 0 1), .int .u8 (g 0 2), .int .u8 (g 1 0), .int .u8 (g 1 1), .int .u8 (g 1 2), .int .u8 (g 2 0), .int .u8 (g 2 1), .int .u8 (g 2 2)])] w fun e w' => e = .returned (.bool B) ∧ Below w.heap.size w w' := by subst h; exact smat_any p n g w hg
/-- What a matrix is like. -/
structure MatV (p : Int) (m : Nat) (g : Nat → Nat → Int) : Prop where
  prime : PrimeS p
  h2 : 2 ≤ p
  h13 : p ≤ 13
  m1 : 1 ≤ m
  m3 : m ≤ 3
  bound : ∀ i, i < 3 → ∀ j, j < 3 → 0 ≤ g i j ∧ g i j < p
  out : Out0 m g
  det : detP p (fullM m g) ≠ 0
theorem matV_of {p n : Int} {g : Nat → Nat → Int} (hg : Byt g) (h : isMat p n g = true) : ∃ m : Nat, n = (m : Int) ∧ MatV p m g := by
  unfold isMat at h
  simp only [Bool.and_eq_true, decide_eq_true_eq] at h
  obtain ⟨h1, ⟨h2, h3⟩, h4, h5⟩ := h
  obtain ⟨m, rfl⟩ := Int.eq_ofNat_of_zero_le (show 0 ≤ n by omega)
  obtain ⟨a, b⟩ := pB_le h1
  exact ⟨m, rfl, pB_set h1, a, b, by omega, by omega, hasB_bound hg h4, hasB_out h4, h5⟩
end Go.Proofs.Ytabfdohmgmdgeaa
