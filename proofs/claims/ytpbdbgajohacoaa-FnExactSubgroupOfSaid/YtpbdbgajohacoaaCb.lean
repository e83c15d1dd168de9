/-
  SEARCHES in a list of matrices by a function, and the program's choice of Elements. Conditions: as each theorem states.
-/
import Derived.Test.YtpbdbgajohacoaaCa
import Derived.Test.YtpbdbgajohacoaaGw
namespace Go.Proofs.Ytpbdbgajohacoaa
open Go.RowKit Go.Sort EchM

def firstA (f : (Nat → Nat → Int) → Bool) : List (Nat → Nat → Int) → Nat → Int
  | [], _ => -1
  | x :: L, k => if f x then (k : Int) else firstA f L (k + 1)
def firstM (f : (Nat → Nat → Int) → Bool) (L : List (Nat → Nat → Int)) : Int := firstA f L 0
theorem firstA_step {f : (Nat → Nat → Int) → Bool} {L : List (Nat → Nat → Int)} {k : Nat} (h : k < L.length) : firstA f (L.drop k) k = if f L[k] then (k : Int) else firstA f (L.drop (k + 1)) (k + 1) := by
  rw [List.drop_eq_getElem_cons h]; rfl
theorem firstA_any (f : (Nat → Nat → Int) → Bool) : ∀ (L : List (Nat → Nat → Int)) (k : Nat), decide (0 ≤ firstA f L k) = L.any f
  | [], k => by simp [firstA]
  | x :: L, k => by
    rw [firstA, List.any_cons]
    cases h : f x
    · simpa using firstA_any f L (k + 1)
    · simp
theorem firstA_range (f : (Nat → Nat → Int) → Bool) : ∀ (L : List (Nat → Nat → Int)) (k : Nat), -1 ≤ firstA f L k ∧ firstA f L k < k + L.length + 1
  | [], k => by simp [firstA]; omega
  | x :: L, k => by
    have := firstA_range f L (k + 1)
    rw [firstA]
    split
    · simp; omega
    · simp at this ⊢; omega

end Go.Proofs.Ytpbdbgajohacoaa
