/-
  LISTS OF LISTS of numbers: how many numbers. Conditions: as each theorem states.
-/
import Derived.Test.YtbahejlgfpilnaaLf
namespace Go.Proofs.Ytbahejlgfpilnaa
open Go.RowKit Go.Sort

/-- All numbers of a list of lists. -/
def totR (L : List (List Int)) : Nat := (L.map List.length).sum
theorem totR_take {L : List (List Int)} {k : Nat} (h : k < L.length) : totR (L.take (k + 1)) = totR (L.take k) + L[k].length := by
  unfold totR
  rw [List.take_succ_eq_append_getElem h, List.map_append, List.sum_append]
  simp
theorem totR_le (L : List (List Int)) (k : Nat) : totR (L.take k) ≤ totR L := by
  have h : totR L = totR (L.take k) + totR (L.drop k) := by
    unfold totR
    rw [← List.sum_append, ← List.map_append, List.take_append_drop]
  omega
theorem totR_row {L : List (List Int)} {r : List Int} (h : r ∈ L) : r.length ≤ totR L := by
  obtain ⟨k, hk, rfl⟩ := List.mem_iff_getElem.1 h
  have h1 := totR_take hk
  have h2 := totR_le L (k + 1)
  omega
end Go.Proofs.Ytbahejlgfpilnaa
