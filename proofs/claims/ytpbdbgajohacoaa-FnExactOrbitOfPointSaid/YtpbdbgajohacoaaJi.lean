/-
  A MARK in a list of numbers of the call's own: what stands elsewhere stays. Conditions: as each theorem states.
-/
import Derived.Test.YtpbdbgajohacoaaJh
import Derived.Test.YtpbdbgajohacoaaPa
namespace Go.Proofs.Ytpbdbgajohacoaa
open Go.RowKit Go.Sort EchM

def AwM (v : Value) (L : List (Nat → Nat → Int)) (g : Nat) : Prop := L = [] ∨ v.ownBlock ≠ some g
theorem SlM.away {w : World} {v : Value} {L : List (Nat → Nat → Int)} {g : Nat} (h : SlM w v L) (hg : w.heap.size ≤ g) : AwM v L g := by
  obtain ⟨a, cap, rfl, h | ⟨b, off, rfl, hlt, _⟩⟩ := h
  · exact .inl h
  · refine .inr fun e => ?_
    simp [Value.ownBlock] at e
    omega
theorem OwnG9.away {w : World} {base g : Nat} {v : Value} {L : List (Nat → Nat → Int)} (h : OwnG9 w base v L) (hg : g < base) : AwM v L g :=
  .inr fun e => by
    have := (World.ownsRow.lt h _ e).1
    omega
theorem SlM.kept {w w' : World} {v : Value} {L : List (Nat → Nat → Int)} {g : Nat} (h : SlM w v L) (hg : w.grownBy w' (some g)) (hn : AwM v L g) : SlM w' v L := by
  obtain ⟨a, cap, rfl, h | ⟨b, off, rfl, hlt, hT⟩⟩ := h
  · exact ⟨a, cap, rfl, .inl h⟩
  · rcases hn with h | hn
    · exact ⟨_, cap, rfl, .inl h⟩
    · have hne : some b ≠ some g := fun e => hn (by simpa [Value.ownBlock] using e)
      exact ⟨_, cap, rfl, .inr ⟨b, off, rfl, Nat.lt_of_lt_of_le hlt hg.size, fun k hk i j hi hj => (World.cell?_of_block (w := w) (a := ⟨b, _, none⟩) (hg.block b hlt hne)).trans (hT k hk i j hi hj)⟩⟩
def AwI (v : Value) (l : List Int) (g : Nat) : Prop := l = [] ∨ v.ownBlock ≠ some g
theorem Sl.away {w : World} {v : Value} {l : List Int} {g : Nat} (h : Sl w v l) (hg : w.heap.size ≤ g) : AwI v l g := by
  obtain ⟨a, cap, rfl, h | ⟨b, off, rfl, hlt, _⟩⟩ := h
  · exact .inl h
  · refine .inr fun e => ?_
    simp [Value.ownBlock] at e
    omega
theorem Sl.kept2 {w w' : World} {v : Value} {l : List Int} {g : Nat} (h : Sl w v l) (hg : w.grownBy w' (some g)) (hn : AwI v l g) : Sl w' v l := by
  obtain ⟨a, cap, rfl, h | ⟨b, off, rfl, hlt, hT⟩⟩ := h
  · exact ⟨a, cap, rfl, .inl h⟩
  · rcases hn with h | hn
    · exact ⟨_, cap, rfl, .inl h⟩
    · have hne : some b ≠ some g := fun e => hn (by simpa [Value.ownBlock] using e)
      exact ⟨_, cap, rfl, .inr ⟨b, off, rfl, Nat.lt_of_lt_of_le hlt hg.size, fun k hk => (World.cell?_of_block (w := w) (a := ⟨b, _, none⟩) (hg.block b hlt hne)).trans (hT k hk)⟩⟩
theorem jrow_kept {w w' : World} {b n g : Nat} {t : TypeId} {f : Nat → Value} (h : w.rowIs b t n f) (hg : w.grownBy w' (some g)) (hne : b ≠ g) : w'.rowIs b t n f :=
  h.of_block (hg.block b h.lt fun e => hne (by simpa using e))
theorem jbelow_kept {w wr w1 : World} {g : Nat} (h : Below w.heap.size w wr) (hg : wr.grownBy w1 (some g)) (hle : w.heap.size ≤ g) : Below w.heap.size w w1 :=
  ⟨hg.os.trans h.os, hg.tape.trans h.tape, hg.output.trans h.output, Nat.le_trans h.size hg.size, fun k hk => (hg.block k (Nat.lt_of_lt_of_le hk h.size) (fun e => by simp at e; omega)).trans (h.block k hk)⟩
theorem GLaw.kept {w wr w1 : World} {A B0 B1 B2 g : Nat} {p n P D : Int} {va v3 v4 v5 : Value} {L S : List (Nat → Nat → Int)} (h : GLaw w wr A B0 B1 B2 p n P D va v3 v4 v5 L S) (hg : wr.grownBy w1 (some g)) (hA : A ≠ g) (h0 : B0 ≠ g) (h1 : B1 ≠ g) (h2 : B2 ≠ g) (aA : AwM va L g) (a3 : AwM v3 S g) (a4 : AwM v4 L g) (a5 : AwM v5 S g) (hle : w.heap.size ≤ g) : GLaw w w1 A B0 B1 B2 p n P D va v3 v4 v5 L S :=
  ⟨jrow_kept h.ax hg hA, jrow_kept h.b0 hg h0, jrow_kept h.b1 hg h1, jrow_kept h.b2 hg h2, h.sa.kept hg aA, h.s3.kept hg a3, h.s4.kept hg a4, h.s5.kept hg a5, jbelow_kept h.below hg hle⟩
end Go.Proofs.Ytpbdbgajohacoaa
