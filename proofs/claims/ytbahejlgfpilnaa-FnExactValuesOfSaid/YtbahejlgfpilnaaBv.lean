/-
  LISTS: the first that fails a test; the first polynomial of a list. Conditions: as each theorem states.
-/
import Derived.Test.YtbahejlgfpilnaaBa
import Derived.Test.YtbahejlgfpilnaaLs2
namespace Go.Proofs.Ytbahejlgfpilnaa
open Go.RowKit Go.Sort

theorem first_outP {α : Type} (B : α → Bool) : ∀ (l : List α), l.all B = false → ∃ (j : Nat) (h : j < l.length), B l[j] = false ∧ ∀ (i : Nat) (h : i < l.length), i < j → B l[i] = true
  | [], h => by simp at h
  | a :: r, h => by
    cases ha : B a
    · exact ⟨0, by simp, by simpa using ha, fun i _ hij => by omega⟩
    · have hr : r.all B = false := by
        simp only [List.all_cons, ha, Bool.true_and] at h
        exact h
      obtain ⟨j, hj, hn, hp⟩ := first_outP B r hr
      refine ⟨j + 1, by simp; omega, by simpa using hn, fun i hi hij => ?_⟩
      cases i with
      | zero => simpa using ha
      | succ i => simpa using hp i (by simpa using hi) (by omega)

/-- The first of a list. -/
def hdP (G : List Pm) : Pm := G.headD (0, 0, [])
theorem hdP_at {G : List Pm} (h : 0 < G.length) : hdP G = G[0] := by
  cases G with
  | nil => simp at h
  | cons a r => rfl
/-- Whether a polynomial has the prime p and is like another one. -/
def likeT (p : Int) (g0 g : Pm) : Bool := decide (g.1 = p) && (decide (g.1 = g0.1) && decide (g.2.1 = g0.2.1))

end Go.Proofs.Ytbahejlgfpilnaa
