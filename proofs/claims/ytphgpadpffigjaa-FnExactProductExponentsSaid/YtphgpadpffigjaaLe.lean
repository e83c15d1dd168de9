/-
  LISTS OF LISTS of numbers: read, of the call's own. Conditions: as each theorem states.
-/
import Derived.Test.YtphgpadpffigjaaLq
namespace Go.Proofs.Ytphgpadpffigjaa
open Go.RowKit Go.Sort

/-- A slice that reads as a list of rows. -/
def RowsW (w : World) (b off : Nat) (L : List (List Int)) : Prop := ∀ (k : Nat) (h : k < L.length), ∃ v, w.cell? ⟨b, off + k, none⟩ = some v ∧ Sl w v L[k]
def SlR (w : World) (v : Value) (L : List (List Int)) : Prop :=
  ∃ a cap, v = .slice a L.length cap ∧ (L = [] ∨ ∃ b off, a = some ⟨b, off, none⟩ ∧ b < w.heap.size ∧ RowsW w b off L)
theorem RowsW.below {w w' : World} {b off : Nat} {L : List (List Int)} (h : RowsW w b off L) (hb : Below w.heap.size w w') (hB : b < w.heap.size) : RowsW w' b off L := fun k hk => by
  obtain ⟨v, h1, h2⟩ := h k hk
  exact ⟨v, (hb.cell (p := ⟨b, _, none⟩) hB).trans h1, h2.below hb⟩
theorem SlR.below {w w' : World} {v : Value} {L : List (List Int)} (h : SlR w v L) (hb : Below w.heap.size w w') : SlR w' v L := by
  obtain ⟨a, cap, hv, h | ⟨b, off, ha, hlt, hT⟩⟩ := h
  · exact ⟨a, cap, hv, .inl h⟩
  · exact ⟨a, cap, hv, .inr ⟨b, off, ha, Nat.lt_of_lt_of_le hlt hb.size, hT.below hb hlt⟩⟩
theorem einfoR : (Try.prog.info? 61).map (fun i => (i.zero, i.size, i.bytes)) = some (some (.slice none 0 0), 1, 24) := by kernel_rfl
/-- The block of the headers. -/
def HeadR (w : World) (g : Nat) (O : List Row3) : Prop := ∃ N f, O.length ≤ N ∧ w.rowIs g 61 N f ∧ ∀ (q : Nat) (h : q < O.length), f q = O[q].1
theorem head_row {w : World} {g base : Nat} {O : List Row3} {e : Row3} (h : HeadR w g O) (he : RowAt w base e) : e.2.2 ≠ g := by
  obtain ⟨N, f, _, ⟨cur, hc, _⟩, _⟩ := h
  obtain ⟨_, N', f', _, _, _, ⟨cur', hc', _⟩, _⟩ := he
  intro e2
  rw [e2, hc] at hc'
  simp at hc'
theorem head_at {w : World} {g : Nat} {O : List Row3} (h : HeadR w g O) {q : Nat} (hq : q < O.length) : w.cell? ⟨g, q, none⟩ = some O[q].1 := by
  obtain ⟨N, f, hN, hr, hf⟩ := h
  rw [hr.cell (by omega), hf q hq]
theorem head_kept {w w' : World} {g b : Nat} {O : List Row3} (h : HeadR w g O) (hg : w.grownBy w' (some b)) (hne : b ≠ g) : HeadR w' g O := by
  obtain ⟨N, f, hN, hr, hf⟩ := h
  exact ⟨N, f, hN, hr.of_block (hg.block _ hr.lt fun e => hne (by simpa using e.symm)), hf⟩
theorem head_below {w w' : World} {g : Nat} {O : List Row3} (h : HeadR w g O) (hb : Below w.heap.size w w') : HeadR w' g O := by
  obtain ⟨N, f, hN, hr, hf⟩ := h
  exact ⟨N, f, hN, erow_below hr hb hr.lt, hf⟩
/-- Lists of lists of numbers of the call's own: each in a block of its own. -/
def OwnRR (w : World) (base : Nat) (v : Value) (S : List (List Int)) : Prop :=
  ∃ O : List Row3, O.map (·.2.1) = S ∧ ((O = [] ∧ ∃ a c, v = .slice a 0 c) ∨ ∃ g cap, v = .slice (some ⟨g, 0, none⟩) O.length cap ∧ base ≤ g ∧ HeadR w g O) ∧ (∀ e ∈ O, RowAt w base e) ∧ (O.map (·.2.2)).Nodup
theorem OwnRR.none (w : World) (base : Nat) : OwnRR w base (.slice none 0 0) [] := ⟨[], rfl, .inl ⟨rfl, _, _, rfl⟩, by simp, by simp⟩
theorem OwnRR.below {w w' : World} {base : Nat} {v : Value} {S : List (List Int)} (h : OwnRR w base v S) (hb : Below w.heap.size w w') : OwnRR w' base v S := by
  obtain ⟨O, h1, h2, h3, h4⟩ := h
  exact ⟨O, h1, h2.imp id fun ⟨g, cap, a, b, c⟩ => ⟨g, cap, a, b, head_below c hb⟩, fun e he => (h3 e he).below hb, h4⟩
theorem OwnRR.kept {w w' : World} {base b0 : Nat} {v : Value} {S : List (List Int)} (h : OwnRR w base v S) (hg : w.grownBy w' (some b0)) (hlt : b0 < base) : OwnRR w' base v S := by
  obtain ⟨O, h1, h2, h3, h4⟩ := h
  refine ⟨O, h1, h2.imp id fun ⟨g, cap, a, b, c⟩ => ⟨g, cap, a, b, head_kept c hg (by omega)⟩, fun e he => (h3 e he).kept hg ?_, h4⟩
  obtain ⟨_, _, _, _, hb, _⟩ := h3 e he
  omega
theorem OwnRR.slR {w : World} {base : Nat} {v : Value} {S : List (List Int)} (h : OwnRR w base v S) : SlR w v S := by
  obtain ⟨O, rfl, h2, h3, h4⟩ := h
  rcases h2 with ⟨rfl, a, c, rfl⟩ | ⟨g, cap, rfl, _, hh⟩
  · exact ⟨a, c, rfl, .inl rfl⟩
  · have hlt : g < w.heap.size := by obtain ⟨_, _, _, hr, _⟩ := hh; exact hr.lt
    refine ⟨_, cap, by rw [List.length_map], .inr ⟨g, 0, rfl, hlt, fun k hk => ?_⟩⟩
    have hk' : k < O.length := by simpa using hk
    exact ⟨O[k].1, by rw [Nat.zero_add]; exact head_at hh hk', by rw [List.getElem_map]; exact (h3 _ (List.getElem_mem hk')).sl⟩
theorem OwnRR.shape {w : World} {base : Nat} {v : Value} {S : List (List Int)} (h : OwnRR w base v S) : ∃ a c, v = .slice a S.length c := by
  obtain ⟨a, c, hv, _⟩ := h.slR; exact ⟨a, c, hv⟩
end Go.Proofs.Ytphgpadpffigjaa
