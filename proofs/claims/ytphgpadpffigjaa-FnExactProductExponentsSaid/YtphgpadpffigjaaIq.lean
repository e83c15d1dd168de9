/-
  POLYNOMIALS as results, and their boxes. Conditions: as each theorem states.
-/
import Derived.Test.YtphgpadpffigjaaIns
import Derived.Test.YtphgpadpffigjaaPq
namespace Go.Proofs.Ytphgpadpffigjaa
open Go.RowKit Go.Sort

/-- What a function that gives a polynomial and a code gives. -/
structure OutP where
  P : Int
  D : Int
  S : List Tm
  c : Int
def ResO (w : World) (o : OutP) (e : Ending) (w' : World) : Prop :=
  ∃ v', e = .returned (.tuple #[.agg #[.int .i64 o.P, .int .i64 o.D, v'], .int .i64 o.c]) ∧ OwnP w' w.heap.size v' o.S ∧ Below w.heap.size w w'
def noP (c : Int) : OutP := ⟨0, 0, [], c⟩
theorem ownP_nil (w : World) (base : Nat) : OwnP w base (.slice none 0 0) [] := ⟨rfl, .inl ⟨rfl, rfl⟩⟩

theorem poly3 {w : World} {b : Nat} {t : TypeId} {p d : Int} {v : Value} (h : w.rowIs b t 3 (polyF p d v)) : (w.cell? ⟨b, 0, none⟩ = some (.int .i64 p) ∧ w.cell? ⟨b, 1, none⟩ = some (.int .i64 d) ∧ w.cell? ⟨b, 2, none⟩ = some v) ∧ w.frozen? ⟨b, 0, none⟩ = false ∧ w.frozen? ⟨b, 1, none⟩ = false ∧ w.frozen? ⟨b, 2, none⟩ = false :=
  ⟨⟨h.cell (i := 0) (by omega), h.cell (i := 1) (by omega), h.cell (i := 2) (by omega)⟩, h.frozen 0, h.frozen 1, h.frozen 2⟩

/-- The two boxes at the head of a function of a polynomial with a polynomial as its result. -/
theorem boxes2 (w : World) (p d : Int) (v : Value) : ∃ W, W = (w.alloc (.cells #[.int .i64 p, .int .i64 d, v] 36)).alloc (.cells #[.int .i64 0, .int .i64 0, .slice none 0 0] 36) ∧ Below w.heap.size w W ∧ (W.heap.size ≤ w.heap.size + 2 ∧ w.heap.size + 2 ≤ W.heap.size) ∧
      W.rowIs w.heap.size 36 3 (polyF p d v) ∧ W.rowIs (w.heap.size + 1) 36 3 (polyF 0 0 (.slice none 0 0)) := by
  refine ⟨_, rfl, box2 _ _ _, ⟨by simp, by simp⟩, ?_, ?_⟩
  · refine World.rowIs.alloc (World.rowIs_alloc w #[Value.int .i64 p, .int .i64 d, v] _ _ (fun i hi => ?_)) _
    simp at hi; match i, hi with | 0, _ => rfl | 1, _ => rfl | 2, _ => rfl
  · have := World.rowIs_alloc (w.alloc (.cells #[.int .i64 p, .int .i64 d, v] 36)) #[Value.int .i64 0, .int .i64 0, .slice none 0 0] 36 (polyF 0 0 (.slice none 0 0)) (fun i hi => by simp at hi; match i, hi with | 0, _ => rfl | 1, _ => rfl | 2, _ => rfl)
    simpa using this

theorem capd_eq (s n : Int) (h : n ≤ 12) : (capd s == n) = (s == n) := by
  unfold capd
  split
  · rfl
  · rw [Bool.eq_iff_iff]; simp; omega
end Go.Proofs.Ytphgpadpffigjaa
