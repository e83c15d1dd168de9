/-
  CENTRES: plain parts. Conditions: as each theorem states.
-/
import Derived.Test.YtabfdohmgmdgeaaGm
import Derived.Test.YtabfdohmgmdgeaaMg
import Derived.Test.YtabfdohmgmdgeaaGy
namespace Go.Proofs.Ytabfdohmgmdgeaa
open Go.RowKit Go.Sort EchM

/-- Whether two matrices commute; the Elements that commute with all. -/
def comG (p : Int) (x y : Nat → Nat → Int) : Bool := eqM (prodM p x y) (prodM p y x)
def cenG (p : Int) (L : List (Nat → Nat → Int)) (x : Nat → Nat → Int) : Bool := L.all (comG p x)
def cenL (p : Int) (L : List (Nat → Nat → Int)) : List (Nat → Nat → Int) := L.filter (cenG p L)
/-- A group with a code. -/
structure GO where
  P : Int
  D : Int
  S : List (Nat → Nat → Int)
  c : Int
def noG (c : Int) : GO := ⟨0, 0, [], c⟩
def cenO (p n : Int) (L : List (Nat → Nat → Int)) : GO := if isGrp p n L then ⟨p, n, cenL p L, 0⟩ else noG 1
def ResG (w : World) (o : GO) (e : Ending) (w' : World) : Prop :=
  ∃ v', e = .returned (.tuple #[.agg #[.int .i64 o.P, .int .i64 o.D, v'], .int .i64 o.c]) ∧ OwnG9 w' w.heap.size v' o.S ∧ Below w.heap.size w w'
theorem filt_step (f : (Nat → Nat → Int) → Bool) (L : List (Nat → Nat → Int)) (k : Nat) (h : k < L.length) : (L.take (k + 1)).filter f = (L.take k).filter f ++ (if f L[k] then [L[k]] else []) := by
  rw [List.take_succ_eq_append_getElem h, List.filter_append]
  congr 1
  by_cases hx : f L[k] = true <;> simp [hx]
theorem all_drop (f : (Nat → Nat → Int) → Bool) (L : List (Nat → Nat → Int)) (k : Nat) (h : k < L.length) : (L.drop k).all f = (f L[k] && (L.drop (k + 1)).all f) := by
  rw [List.drop_eq_getElem_cons h]; rfl
end Go.Proofs.Ytabfdohmgmdgeaa
