/-
  GROUPS: whether something is a group, by the model. Conditions: the numbers of the matrices are bytes.
-/
import Derived.Test.YtpbdbgajohacoaaGb
import Derived.Test.YtpbdbgajohacoaaKj
import Derived.BigQuiet
namespace Go.Proofs.Ytpbdbgajohacoaa
open Go.RowKit Go.Sort EchM

/-- The cells of a group. -/
def grpF (p n : Int) (v : Value) (q : Nat) : Value := if q = 0 then .int .i64 p else if q = 1 then .int .i64 n else v
theorem gbox (w : World) (p n : Int) (v : Value) (t : TypeId) : (w.alloc (.cells #[.int .i64 p, .int .i64 n, v] t)).rowIs w.heap.size t 3 (grpF p n v) :=
  World.rowIs_alloc w #[Value.int .i64 p, .int .i64 n, v] _ _ (fun i hi => by simp at hi; match i, hi with | 0, _ => rfl | 1, _ => rfl | 2, _ => rfl)
theorem gcells {w : World} {B : Nat} {t : TypeId} {p n : Int} {v : Value} (h : w.rowIs B t 3 (grpF p n v)) : w.cell? ⟨B, 0, none⟩ = some (.int .i64 p) ∧ w.cell? ⟨B, 1, none⟩ = some (.int .i64 n) ∧ w.cell? ⟨B, 2, none⟩ = some v :=
  ⟨h.cell (i := 0) (by omega), h.cell (i := 1) (by omega), h.cell (i := 2) (by omega)⟩
/-- Matrices, ascending, from a matrix on. -/
def chainG (p n : Int) : Option (Nat → Nat → Int) → List (Nat → Nat → Int) → Bool
  | _, [] => true
  | none, x :: L => isMat p n x && chainG p n (some x) L
  | some q, x :: L => isMat p n x && (befM q x && chainG p n (some x) L)
def prevG (L : List (Nat → Nat → Int)) : Nat → Option (Nat → Nat → Int)
  | 0 => none
  | k + 1 => L[k]?
def tailG (p n : Int) (L : List (Nat → Nat → Int)) (k : Nat) : Bool := chainG p n (prevG L k) (L.drop k)
theorem tailG_zero {p n : Int} {L : List (Nat → Nat → Int)} (h : 0 < L.length) : tailG p n L 0 = (isMat p n L[0] && tailG p n L 1) := by
  unfold tailG
  rw [List.drop_eq_getElem_cons h]
  show (isMat p n L[0] && chainG p n (some L[0]) (L.drop 1)) = (isMat p n L[0] && chainG p n (L[0]?) (L.drop 1))
  rw [List.getElem?_eq_getElem h]
theorem tailG_succ {p n : Int} {L : List (Nat → Nat → Int)} {k : Nat} (h : k + 1 < L.length) : tailG p n L (k + 1) = (isMat p n L[k + 1] && (befM (L[k]'(by omega)) L[k + 1] && tailG p n L (k + 2))) := by
  unfold tailG
  rw [List.drop_eq_getElem_cons h]
  show chainG p n (L[k]?) (L[k + 1] :: L.drop (k + 2)) = (isMat p n L[k + 1] && (befM (L[k]'(by omega)) L[k + 1] && chainG p n (L[k + 1]?) (L.drop (k + 2))))
  rw [List.getElem?_eq_getElem h, List.getElem?_eq_getElem (show k < L.length by omega)]
  rfl
theorem tailG_end (p n : Int) (L : List (Nat → Nat → Int)) : tailG p n L L.length = true := by
  unfold tailG
  rw [List.drop_length]
  cases prevG L L.length <;> rfl
/-- Whether all products are in the list, and the unit. -/
def closedG (p : Int) (L : List (Nat → Nat → Int)) : Bool := L.all fun x => L.all fun y => decide (0 ≤ findM L (prodM p x y))
def isGrp (p n : Int) (L : List (Nat → Nat → Int)) : Bool := pB p && ((decide (1 ≤ n) && decide (n ≤ 3)) && (decide (1 ≤ L.length) && (decide (L.length ≤ 48) && (tailG p n L 0 && (closedG p L && decide (0 ≤ findM L (uM n.toNat)))))))
theorem tailG_all {p n : Int} {L : List (Nat → Nat → Int)} (h : tailG p n L 0 = true) : ∀ x ∈ L, isMat p n x = true := by
  have key : ∀ (L : List (Nat → Nat → Int)) (o : Option (Nat → Nat → Int)), chainG p n o L = true → ∀ x ∈ L, isMat p n x = true := by
    intro L
    induction L with
    | nil => intro o _ x hx; simp at hx
    | cons y L ih =>
      intro o h x hx
      cases o with
      | none =>
        simp only [chainG, Bool.and_eq_true] at h
        rcases List.mem_cons.1 hx with rfl | hx
        · exact h.1
        · exact ih _ h.2 x hx
      | some q =>
        simp only [chainG, Bool.and_eq_true] at h
        rcases List.mem_cons.1 hx with rfl | hx
        · exact h.1
        · exact ih _ h.2.2 x hx
  exact key L none (by simpa [tailG, prevG] using h)
theorem closed_no {p : Int} {L : List (Nat → Nat → Int)} {i k : Nat} (hi : i < L.length) (hk : k < L.length) (h : findM L (prodM p L[i] L[k]) < 0) : closedG p L = false := by
  unfold closedG
  rw [List.all_eq_false]
  refine ⟨L[i], List.getElem_mem hi, ?_⟩
  rw [Bool.not_eq_true, List.all_eq_false]
  exact ⟨L[k], List.getElem_mem hk, by simp; omega⟩
theorem closed_yes {p : Int} {L : List (Nat → Nat → Int)} (h : ∀ (i : Nat) (hi : i < L.length) (k : Nat) (hk : k < L.length), 0 ≤ findM L (prodM p L[i] L[k])) : closedG p L = true := by
  unfold closedG
  rw [List.all_eq_true]
  intro x hx
  rw [List.all_eq_true]
  intro y hy
  obtain ⟨i, hi, rfl⟩ := List.mem_iff_getElem.1 hx
  obtain ⟨k, hk, rfl⟩ := List.mem_iff_getElem.1 hy
  simpa using h i hi k hk
end Go.Proofs.Ytpbdbgajohacoaa
