/-
  LISTS OF NUMBERS of the call's own. Conditions: as each theorem states.
-/
import Derived.Test.YtphgpadpffigjaaLa
namespace Go.Proofs.Ytphgpadpffigjaa
open Go.RowKit Go.Sort

theorem ngrown_setT {w wr : World} {g : Nat} (h : w.grownBy wr (some g)) (o : Nat) (v : Value) : w.grownBy (wr.setCell ⟨g, o, none⟩ v) (some g) :=
  ⟨h.os, h.tape, h.output, by rw [World.size_setCell]; exact h.size, fun k hk hne => (Below.heap_setCell wr ⟨g, o, none⟩ v k (fun e => hne (by rw [e]))).trans (h.block k hk hne)⟩

set_option maxHeartbeats 1000000 in
def nmadeI (n : Nat) : Array Value := madeCells #[.int .i64 0] n
theorem nmadeI_row (w : World) (n : Nat) (t : TypeId) : (w.alloc (.cells (nmadeI n) t)).rowIs w.heap.size t n (fun _ => .int .i64 0) := World.rowIs_made w (.int .i64 0) n t

/-- A list of numbers in a block of the call's own. -/
def nOwnI (w : World) (base : Nat) (v : Value) (l : List Int) : Prop :=
  ∃ g f, v = .slice (some ⟨g, 0, none⟩) l.length l.length ∧ base ≤ g ∧ w.rowIs g 2 l.length f ∧ ∀ (j : Nat) (h : j < l.length), f j = .int .i64 l[j]
theorem nOwnI.slice {w : World} {base : Nat} {v : Value} {l : List Int} (h : nOwnI w base v l) : Sl w v l := by
  obtain ⟨g, f, rfl, _, hr, hf⟩ := h
  exact ⟨_, _, rfl, .inr ⟨g, 0, rfl, hr.lt, fun k hk => by rw [Nat.zero_add, hr.cell hk, hf k hk]⟩⟩
theorem nOwnI.below {w w' : World} {base : Nat} {v : Value} {l : List Int} (h : nOwnI w base v l) (hb : Below w.heap.size w w') : nOwnI w' base v l := by
  obtain ⟨g, f, rfl, hg, hr, hf⟩ := h
  exact ⟨g, f, rfl, hg, erow_below hr hb hr.lt, hf⟩
theorem nOwnI.row {w : World} {base : Nat} {v : Value} {l : List Int} (h : nOwnI w base v l) : ∀ g, v.ownBlock = some g → base ≤ g ∧ ∃ N f, w.rowIs g 2 N f := by
  obtain ⟨g, f, rfl, hg, hr, hf⟩ := h
  intro c hc
  simp [Value.ownBlock] at hc
  subst hc
  exact ⟨hg, _, f, hr⟩
/-- A list of numbers that lies below a block. -/
def nSliceIB (w : World) (B : Nat) (v : Value) (l : List Int) : Prop :=
  ∃ a cap, v = .slice a l.length cap ∧ (l = [] ∨ ∃ b off, a = some ⟨b, off, none⟩ ∧ b < B ∧ Cs w b off l)
theorem Sl.bound {w : World} {v : Value} {l : List Int} (h : Sl w v l) : nSliceIB w w.heap.size v l := h
theorem nSliceIB.slice {w : World} {B : Nat} {v : Value} {l : List Int} (h : nSliceIB w B v l) (hB : B ≤ w.heap.size) : Sl w v l := by
  obtain ⟨a, cap, hv, h | ⟨b, off, ha, hlt, hT⟩⟩ := h
  · exact ⟨a, cap, hv, .inl h⟩
  · exact ⟨a, cap, hv, .inr ⟨b, off, ha, by omega, hT⟩⟩
theorem nSliceIB.kept {w w' : World} {B : Nat} {v : Value} {l : List Int} {row : Option Nat} (h : nSliceIB w B v l) (hg : w.grownBy w' row) (hB : B ≤ w.heap.size) (hr : ∀ g, row = some g → B ≤ g) : nSliceIB w' B v l := by
  obtain ⟨a, cap, hv, h | ⟨b, off, ha, hlt, hT⟩⟩ := h
  · exact ⟨a, cap, hv, .inl h⟩
  · refine ⟨a, cap, hv, .inr ⟨b, off, ha, hlt, fun k hk => ?_⟩⟩
    have hne : some b ≠ row := fun e => by have := hr b e.symm; omega
    exact (World.cell?_of_block (w := w) (a := ⟨b, off + k, none⟩) (hg.block b (by omega) hne)).trans (hT k hk)


def AwI (v : Value) (l : List Int) (g : Nat) : Prop := l = [] ∨ v.ownBlock ≠ some g
theorem Sl.away {w : World} {v : Value} {l : List Int} {g : Nat} (h : Sl w v l) (hg : w.heap.size ≤ g) : AwI v l g := by
  obtain ⟨a, cap, rfl, h | ⟨b, off, rfl, hlt, _⟩⟩ := h
  · exact .inl h
  · refine .inr fun e => ?_
    simp [Value.ownBlock] at e
    omega
theorem Sl.kept2 {w w' : World} {v : Value} {l : List Int} {g : Nat} (h : Sl w v l) (hg : w.grownBy w' (some g)) (hn : AwI v l g) : Sl w' v l := by
  obtain ⟨a, cap, rfl, h | ⟨b, off, rfl, hlt, hT⟩⟩ := h
  · exact ⟨a, cap, rfl, .inl h⟩
  · rcases hn with h | hn
    · exact ⟨_, cap, rfl, .inl h⟩
    · have hne : some b ≠ some g := fun e => hn (by simpa [Value.ownBlock] using e)
      exact ⟨_, cap, rfl, .inr ⟨b, off, rfl, Nat.lt_of_lt_of_le hlt hg.size, fun k hk => (World.cell?_of_block (w := w) (a := ⟨b, _, none⟩) (hg.block b hlt hne)).trans (hT k hk)⟩⟩
/-- A row by its header: the value, what it reads as, the block it lies in. -/
abbrev Row3 := Value × (List Int × Nat)
def RowAt (w : World) (base : Nat) (e : Row3) : Prop :=
  ∃ cap N f, e.1 = .slice (some ⟨e.2.2, 0, none⟩) e.2.1.length cap ∧ base ≤ e.2.2 ∧ e.2.1.length ≤ N ∧ w.rowIs e.2.2 2 N f ∧ ∀ (q : Nat) (h : q < e.2.1.length), f q = .int .i64 e.2.1[q]
theorem RowAt.cs {w : World} {base : Nat} {e : Row3} (h : RowAt w base e) : Cs w e.2.2 0 e.2.1 := fun k hk => by
  obtain ⟨cap, N, f, _, _, hN, hr, hf⟩ := h
  rw [Nat.zero_add, hr.cell (by omega), hf k hk]
theorem RowAt.lt {w : World} {base : Nat} {e : Row3} (h : RowAt w base e) : e.2.2 < w.heap.size := by
  obtain ⟨cap, N, f, _, _, hN, hr, hf⟩ := h; exact hr.lt
theorem RowAt.sl {w : World} {base : Nat} {e : Row3} (h : RowAt w base e) : Sl w e.1 e.2.1 := by
  obtain ⟨cap, N, f, hv, _⟩ := id h
  exact ⟨_, cap, hv, .inr ⟨e.2.2, 0, rfl, h.lt, h.cs⟩⟩
theorem RowAt.kept {w w' : World} {base g : Nat} {e : Row3} (h : RowAt w base e) (hg : w.grownBy w' (some g)) (hne : e.2.2 ≠ g) : RowAt w' base e := by
  obtain ⟨cap, N, f, hv, hb, hN, hr, hf⟩ := h
  exact ⟨cap, N, f, hv, hb, hN, hr.of_block (hg.block _ hr.lt fun q => hne (by simpa using q)), hf⟩
theorem RowAt.below {w w' : World} {base : Nat} {e : Row3} (h : RowAt w base e) (hb : Below w.heap.size w w') : RowAt w' base e := by
  obtain ⟨cap, N, f, hv, hb', hN, hr, hf⟩ := h
  exact ⟨cap, N, f, hv, hb', hN, erow_below hr hb hr.lt, hf⟩
theorem RowAt.mono {w : World} {base base' : Nat} {e : Row3} (h : RowAt w base e) (hb : base' ≤ base) : RowAt w base' e := by
  obtain ⟨cap, N, f, hv, hb', r⟩ := h
  exact ⟨cap, N, f, hv, Nat.le_trans hb hb', r⟩
/-- The numbers from k on. -/
def seqL (k : Int) (n : Nat) : List Int := (List.range n).map fun (i : Nat) => k + (i : Int)
theorem seqL_len (k : Int) (n : Nat) : (seqL k n).length = n := by simp [seqL]
theorem seqL_at (k : Int) (n q : Nat) (h : q < (seqL k n).length) : (seqL k n)[q] = k + (q : Int) := by simp [seqL]

/-- A list of numbers as an answer: in a block of its own, or none. -/
def OwnV (w : World) (base : Nat) (v : Value) (S : List Int) : Prop := (S = [] ∧ ∃ a c, v = .slice a 0 c) ∨ ∃ b, RowAt w base (v, S, b)
theorem OwnV.none (w : World) (base : Nat) : OwnV w base (.slice none 0 0) [] := .inl ⟨rfl, _, _, rfl⟩
theorem OwnV.below {w w' : World} {base : Nat} {v : Value} {S : List Int} (h : OwnV w base v S) (hb : Below w.heap.size w w') : OwnV w' base v S :=
  h.imp id fun ⟨b, h⟩ => ⟨b, h.below hb⟩
theorem OwnV.mono {w : World} {base base' : Nat} {v : Value} {S : List Int} (h : OwnV w base v S) (hb : base' ≤ base) : OwnV w base' v S :=
  h.imp id fun ⟨b, h⟩ => ⟨b, h.mono hb⟩
theorem OwnV.kept {w w' : World} {base b0 : Nat} {v : Value} {S : List Int} (h : OwnV w base v S) (hg : w.grownBy w' (some b0)) (hlt : b0 < base) : OwnV w' base v S :=
  h.imp id fun ⟨b, h⟩ => ⟨b, h.kept hg (by obtain ⟨_, _, _, _, hb, _⟩ := h; simp only at hb ⊢; omega)⟩
theorem OwnV.sl {w : World} {base : Nat} {v : Value} {S : List Int} (h : OwnV w base v S) : Sl w v S := by
  rcases h with ⟨rfl, a, c, rfl⟩ | ⟨b, h⟩
  · exact ⟨a, c, rfl, .inl rfl⟩
  · exact h.sl
theorem OwnV.shape {w : World} {base : Nat} {v : Value} {S : List Int} (h : OwnV w base v S) : ∃ a c, v = .slice a S.length c := by
  obtain ⟨a, c, hv, _⟩ := h.sl; exact ⟨a, c, hv⟩
/-- A list of the call's own that may have grown, as an answer. -/
theorem OwnL.toV {w : World} {base : Nat} {v : Value} {l : List Int} (h : OwnL w base v l) : OwnV w base v l := by
  obtain ⟨hx, ⟨hv, hn⟩ | ⟨g, cap, cur, hv, hbg, hg, hnc, hcap, hsz, htk⟩⟩ := h
  · exact .inl ⟨List.eq_nil_of_length_eq_zero hn, none, 0, hv⟩
  · have hsz' : cur.size = cap := by omega
    refine .inr ⟨g, cap, cap, fun j => (cur[j]?).getD (.int .i64 0), hv, hbg, hnc, ⟨cur, hg, hsz', fun i hi => ?_⟩, fun q hq => ?_⟩
    · have hi' : i < cur.size := by omega
      simp [hi']
    · have h1 : (cur.toList.take (l.length * 1))[q]? = some (.int .i64 l[q]) := by rw [htk]; simp [valsI]
      rw [List.getElem?_take_of_lt (by simpa using hq)] at h1
      simp only [Array.getElem?_toList] at h1
      simp [h1]
theorem nOwnI.kept {w w' : World} {base g : Nat} {v : Value} {l : List Int} (h : nOwnI w base v l) (hg : w.grownBy w' (some g)) (hlt : g < base) : nOwnI w' base v l := by
  obtain ⟨b, f, rfl, hb, hr, hf⟩ := h
  exact ⟨b, f, rfl, hb, hr.of_block (hg.block b hr.lt (fun e => by simp at e; omega)), hf⟩
end Go.Proofs.Ytphgpadpffigjaa
