/-
  What a law of a function that gives a polynomial keeps in memory. Conditions: as each theorem states.
-/
import Derived.Test.YtphgpadpffigjaaMr
import Derived.Test.YtphgpadpffigjaaIq
namespace Go.Proofs.Ytphgpadpffigjaa
open Go.RowKit Go.Sort

/-- A slice of terms in a block below B. -/
def SliceB (w : World) (B : Nat) (v : Value) (ts : List Tm) : Prop :=
  ∃ a cap, v = .slice a ts.length cap ∧ (ts = [] ∨ ∃ b off, a = some ⟨b, off, none⟩ ∧ b < B ∧ Terms w b off ts)
theorem SliceT.bound {w : World} {v : Value} {ts : List Tm} (h : SliceT w v ts) : SliceB w w.heap.size v ts := h
theorem SliceB.slice {w : World} {B : Nat} {v : Value} {ts : List Tm} (h : SliceB w B v ts) (hB : B ≤ w.heap.size) : SliceT w v ts := by
  obtain ⟨a, cap, hv, h | ⟨b, off, ha, hlt, hT⟩⟩ := h
  · exact ⟨a, cap, hv, .inl h⟩
  · exact ⟨a, cap, hv, .inr ⟨b, off, ha, Nat.lt_of_lt_of_le hlt hB, hT⟩⟩
theorem SliceB.kept {w w' : World} {B : Nat} {v : Value} {ts : List Tm} {row : Option Nat} (h : SliceB w B v ts) (hg : w.grownBy w' row) (hB : B ≤ w.heap.size) (hr : ∀ g, row = some g → B ≤ g) : SliceB w' B v ts := by
  obtain ⟨a, cap, hv, h | ⟨b, off, ha, hlt, hT⟩⟩ := h
  · exact ⟨a, cap, hv, .inl h⟩
  · refine ⟨a, cap, hv, .inr ⟨b, off, ha, hlt, fun k hk => ?_⟩⟩
    have hb := hg.block b (Nat.lt_of_lt_of_le hlt hB) (fun e => by have := hr b e.symm; omega)
    obtain ⟨h0, h1, h2, h3⟩ := hT k hk
    exact ⟨(World.cell?_of_block (w := w) (a := ⟨b, _, none⟩) hb).trans h0, (World.cell?_of_block (w := w) (a := ⟨b, _, none⟩) hb).trans h1, (World.cell?_of_block (w := w) (a := ⟨b, _, none⟩) hb).trans h2, (World.cell?_of_block (w := w) (a := ⟨b, _, none⟩) hb).trans h3⟩
theorem below_grown {w w' : World} (h : Below w.heap.size w w') : w.grownBy w' none := ⟨h.os, h.tape, h.output, h.size, fun k hk _ => h.block k hk⟩
theorem rowIs_ne {w : World} {b b' n n' : Nat} {t t' : TypeId} {f f' : Nat → Value} (h : w.rowIs b t n f) (h' : w.rowIs b' t' n' f') (ht : t ≠ t') : b ≠ b' := by
  intro e
  subst e
  obtain ⟨c, hc, _⟩ := h
  obtain ⟨c', hc', _⟩ := h'
  rw [hc] at hc'
  simp at hc'
  exact ht hc'.2
theorem OwnG.row {w : World} {base : Nat} {v : Value} {n : Nat} (h : OwnG w base v n) : ∀ g, v.ownBlock = some g → base ≤ g ∧ ∃ N f, w.rowIs g 92 N f := by
  rcases h with ⟨rfl, _⟩ | ⟨g, cap, N, f, rfl, hg, _, hr⟩
  · intro c hc; simp [Value.ownBlock] at hc
  · intro c hc; simp [Value.ownBlock] at hc; subst hc; exact ⟨hg, N, f, hr⟩

/-- The boxes of a law: the argument's (A), the model's result's (B0), the copy's (B1), the program's result's (B2). -/
structure LawSt (w wr : World) (A B0 B1 B2 N0 : Nat) (p d P D : Int) (va s0 v1 s2 : Value) (ts S : List Tm) : Prop where
  ax : wr.rowIs A 46 3 (polyF p d va)
  b0 : wr.rowIs B0 36 3 (polyF P D s0)
  b1 : wr.rowIs B1 36 3 (polyF p d v1)
  b2 : wr.rowIs B2 36 3 (polyF P D s2)
  sa : SliceB wr w.heap.size va ts
  sm : SliceB wr N0 s0 S
  below : Below w.heap.size w wr
  n0 : w.heap.size ≤ N0 ∧ N0 ≤ wr.heap.size
theorem LawSt.step {w wr w' : World} {A B0 B1 B2 N0 : Nat} {p d P D : Int} {va s0 v1 s2 : Value} {ts S : List Tm} {row : Option Nat} (h : LawSt w wr A B0 B1 B2 N0 p d P D va s0 v1 s2 ts S) (hg : wr.grownBy w' row) (hr : ∀ g, row = some g → N0 ≤ g ∧ ∃ N f, wr.rowIs g 92 N f) :
    LawSt w w' A B0 B1 B2 N0 p d P D va s0 v1 s2 ts S := by
  have hsz := hg.size
  obtain ⟨n1, n2⟩ := h.n0
  have key : ∀ b t f, wr.rowIs b t 3 f → t ≠ 92 → w'.rowIs b t 3 f := fun b t f hb ht => hb.of_block (hg.block b hb.lt fun e => by
    obtain ⟨_, N, f', hrow⟩ := hr b e.symm
    exact rowIs_ne hb hrow ht rfl)
  refine ⟨key _ _ _ h.ax (by decide), key _ _ _ h.b0 (by decide), key _ _ _ h.b1 (by decide), key _ _ _ h.b2 (by decide), h.sa.kept hg h.below.size fun g e => Nat.le_trans n1 (hr g e).1, h.sm.kept hg n2 fun g e => (hr g e).1, ?_, n1, by omega⟩
  exact h.below.grown hg h.below.size fun g e => Nat.le_trans n1 (hr g e).1
theorem LawSt.on {w wr w' : World} {A B0 B1 B2 N0 : Nat} {p d P D : Int} {va s0 v1 s2 : Value} {ts S : List Tm} (h : LawSt w wr A B0 B1 B2 N0 p d P D va s0 v1 s2 ts S) (hb : Below wr.heap.size wr w') : LawSt w w' A B0 B1 B2 N0 p d P D va s0 v1 s2 ts S :=
  h.step (below_grown hb) (fun g e => by simp at e)
theorem OwnP.keep {w w' : World} {base : Nat} {v : Value} {S : List Tm} {row : Option Nat} (h : OwnP w base v S) (hg : w.grownBy w' row) (hne : ∀ g, row = some g → g < base) : OwnP w' base v S := by
  refine World.ownsRow.kept h hg ?_
  cases hv : v.ownBlock with
  | none => exact .inl rfl
  | some c =>
    refine .inr fun e => ?_
    have h1 := (h.lt c hv).1
    have h2 := hne c e.symm
    omega
end Go.Proofs.Ytphgpadpffigjaa
