/-
  THE STATE OF A LAW of a function of two polynomials. Conditions: as each theorem states.
-/
import Derived.Test.YtphgpadpffigjaaLs
import Derived.Test.YtphgpadpffigjaaCj
namespace Go.Proofs.Ytphgpadpffigjaa
open Go.RowKit Go.Sort

/-- The boxes of a law of two polynomials: those of LawSt, the second argument's (A'), its copy's (C). -/
structure LawSt2 (w wr : World) (A B0 B1 B2 N0 : Nat) (p d P D : Int) (va s0 v1 s2 : Value) (ts S : List Tm) (A' C : Nat) (p' d' : Int) (va' v1' : Value) (ys : List Tm) : Prop where
  st : LawSt w wr A B0 B1 B2 N0 p d P D va s0 v1 s2 ts S
  ay : wr.rowIs A' 46 3 (polyF p' d' va')
  c1 : wr.rowIs C 36 3 (polyF p' d' v1')
  sa : SliceB wr w.heap.size va' ys
theorem LawSt2.step {w wr w' : World} {A B0 B1 B2 N0 : Nat} {p d P D : Int} {va s0 v1 s2 : Value} {ts S : List Tm} {A' C : Nat} {p' d' : Int} {va' v1' : Value} {ys : List Tm} {row : Option Nat} (h : LawSt2 w wr A B0 B1 B2 N0 p d P D va s0 v1 s2 ts S A' C p' d' va' v1' ys) (hg : wr.grownBy w' row) (hr : ∀ g, row = some g → N0 ≤ g ∧ ∃ N f, wr.rowIs g 92 N f) :
    LawSt2 w w' A B0 B1 B2 N0 p d P D va s0 v1 s2 ts S A' C p' d' va' v1' ys := by
  obtain ⟨n1, n2⟩ := h.st.n0
  have key : ∀ b t f, wr.rowIs b t 3 f → t ≠ 92 → w'.rowIs b t 3 f := fun b t f hb ht => hb.of_block (hg.block b hb.lt fun e => by
    obtain ⟨_, N, f', hrow⟩ := hr b e.symm
    exact rowIs_ne hb hrow ht rfl)
  exact ⟨h.st.step hg hr, key _ _ _ h.ay (by decide), key _ _ _ h.c1 (by decide), h.sa.kept hg h.st.below.size fun g e => Nat.le_trans n1 (hr g e).1⟩
theorem LawSt2.on {w wr w' : World} {A B0 B1 B2 N0 : Nat} {p d P D : Int} {va s0 v1 s2 : Value} {ts S : List Tm} {A' C : Nat} {p' d' : Int} {va' v1' : Value} {ys : List Tm} (h : LawSt2 w wr A B0 B1 B2 N0 p d P D va s0 v1 s2 ts S A' C p' d' va' v1' ys) (hb : Below wr.heap.size wr w') : LawSt2 w w' A B0 B1 B2 N0 p d P D va s0 v1 s2 ts S A' C p' d' va' v1' ys :=
  h.step (below_grown hb) (fun g e => by simp at e)
/-- The two boxes of laws' polynomials at the head of a law. -/
theorem lpair (w : World) (p d : Int) (v : Value) (p' d' : Int) (v' : Value) : ∃ W, W = (w.alloc (.cells #[.int .i64 p, .int .i64 d, v] 46)).alloc (.cells #[.int .i64 p', .int .i64 d', v'] 46) ∧ Below w.heap.size w W ∧ (W.heap.size ≤ w.heap.size + 2 ∧ w.heap.size + 2 ≤ W.heap.size) ∧
      W.rowIs w.heap.size 46 3 (polyF p d v) ∧ W.rowIs (w.heap.size + 1) 46 3 (polyF p' d' v') := by
  refine ⟨_, rfl, box2 _ _ _, ⟨by simp, by simp⟩, ?_, ?_⟩
  · refine World.rowIs.alloc (World.rowIs_alloc w #[Value.int .i64 p, .int .i64 d, v] _ _ (fun i hi => ?_)) _
    simp at hi; match i, hi with | 0, _ => rfl | 1, _ => rfl | 2, _ => rfl
  · have := World.rowIs_alloc (w.alloc (.cells #[.int .i64 p, .int .i64 d, v] 46)) #[Value.int .i64 p', .int .i64 d', v'] 46 (polyF p' d' v') (fun i hi => by simp at hi; match i, hi with | 0, _ => rfl | 1, _ => rfl | 2, _ => rfl)
    simpa using this
/-- A new box of a polynomial. -/
theorem newbox (w : World) (p d : Int) (v : Value) : ∃ V, V = w.alloc (.cells #[.int .i64 p, .int .i64 d, v] 36) ∧ Below w.heap.size w V ∧ (V.heap.size ≤ w.heap.size + 1 ∧ w.heap.size + 1 ≤ V.heap.size) ∧ V.rowIs w.heap.size 36 3 (polyF p d v) :=
  ⟨_, rfl, box1 _ _, ⟨by simp, by simp⟩, World.rowIs_alloc w #[Value.int .i64 p, .int .i64 d, v] _ _ (fun i hi => by simp at hi; match i, hi with | 0, _ => rfl | 1, _ => rfl | 2, _ => rfl)⟩
theorem zbox (w : World) : (w.alloc (.cells #[.int .i64 0, .int .i64 0, .slice none 0 0] 36)).rowIs w.heap.size 36 3 (polyF 0 0 (.slice none 0 0)) :=
  World.rowIs_alloc w #[Value.int .i64 0, .int .i64 0, .slice none 0 0] _ _ (fun i hi => by simp at hi; match i, hi with | 0, _ => rfl | 1, _ => rfl | 2, _ => rfl)
theorem zboxD (w : World) : (w.alloc (.cells #[.int .i64 0, .int .i64 0, .slice none 0 0] 36)).drew.rowIs w.heap.size 36 3 (polyF 0 0 (.slice none 0 0)) := zbox w
/-- A polynomial put into a new box that lay ahead of it. -/
theorem box_set {w Z : World} {B0 base : Nat} {F : Nat → Value} {v : Value} {S : List Tm} (hZ : Z.rowIs B0 36 3 F) (hb : Below w.heap.size w Z) (hB : w.heap.size ≤ B0) (hs : OwnP Z base v S) (P D : Int) :
    (((Z.setCell ⟨B0, 0, none⟩ (.int .i64 P)).setCell ⟨B0, 1, none⟩ (.int .i64 D)).setCell ⟨B0, 2, none⟩ v).rowIs B0 36 3 (polyF P D v) ∧
    Below w.heap.size w (((Z.setCell ⟨B0, 0, none⟩ (.int .i64 P)).setCell ⟨B0, 1, none⟩ (.int .i64 D)).setCell ⟨B0, 2, none⟩ v) ∧
    SliceT (((Z.setCell ⟨B0, 0, none⟩ (.int .i64 P)).setCell ⟨B0, 1, none⟩ (.int .i64 D)).setCell ⟨B0, 2, none⟩ v) v S := by
  refine ⟨(((hZ.set 0 (.int .i64 P)).set 1 (.int .i64 D)).set 2 v).congr fun i hi => ?_, ((hb.setCell (by simpa using hB) _).setCell (by simpa using hB) _).setCell (by simpa using hB) _, ?_⟩
  · match i, hi with
    | 0, _ => rfl
    | 1, _ => rfl
    | 2, _ => rfl
  · refine OwnP.slice (base := base) (hs.kept (row := some B0) ⟨rfl, rfl, rfl, by simp only [World.size_setCell]; exact Nat.le_refl _, fun k hk hne => ?_⟩ (own_ne hZ hs (by decide)))
    have hk : k ≠ B0 := fun e => hne (by rw [e])
    exact (Below.heap_setCell _ ⟨B0, 2, none⟩ v k hk).trans ((Below.heap_setCell _ ⟨B0, 1, none⟩ _ k hk).trans (Below.heap_setCell _ ⟨B0, 0, none⟩ _ k hk))
/-- The cells of two boxes. -/
def Cells6 (A A' : Nat) (p d : Int) (va : Value) (p' d' : Int) (va' : Value) (w : World) : Prop :=
  (w.cell? ⟨A, 0, none⟩ = some (.int .i64 p) ∧ w.cell? ⟨A, 1, none⟩ = some (.int .i64 d) ∧ w.cell? ⟨A, 2, none⟩ = some va) ∧ (w.cell? ⟨A', 0, none⟩ = some (.int .i64 p') ∧ w.cell? ⟨A', 1, none⟩ = some (.int .i64 d') ∧ w.cell? ⟨A', 2, none⟩ = some va')
theorem Cells6.of {w : World} {A A' : Nat} {t : TypeId} {p d : Int} {va : Value} {p' d' : Int} {va' : Value} (h : w.rowIs A t 3 (polyF p d va)) (h' : w.rowIs A' t 3 (polyF p' d' va')) : Cells6 A A' p d va p' d' va' w :=
  ⟨(poly3 h).1, (poly3 h').1⟩
theorem Cells6.below {w w' : World} {A A' : Nat} {p d : Int} {va : Value} {p' d' : Int} {va' : Value} {B : Nat} (h : Cells6 A A' p d va p' d' va' w) (hb : Below B w w') (hA : A < B) (hA' : A' < B) : Cells6 A A' p d va p' d' va' w' := by
  obtain ⟨⟨a, b, c⟩, d, e, f⟩ := h
  exact ⟨⟨(hb.cell (p := ⟨A, _, none⟩) hA).trans a, (hb.cell (p := ⟨A, _, none⟩) hA).trans b, (hb.cell (p := ⟨A, _, none⟩) hA).trans c⟩, (hb.cell (p := ⟨A', _, none⟩) hA').trans d, (hb.cell (p := ⟨A', _, none⟩) hA').trans e, (hb.cell (p := ⟨A', _, none⟩) hA').trans f⟩
end Go.Proofs.Ytphgpadpffigjaa
