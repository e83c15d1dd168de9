/-
  ROWS THAT CAN BE RESLICED. Conditions: as each theorem states.
-/
import Derived.Test.YtbahejlgfpilnaaVd
namespace Go.Proofs.Ytbahejlgfpilnaa
open Go.RowKit Go.Sort

/-- Rows that can be resliced. -/
def CapM (O : List Row3) : Prop := ∀ e ∈ O, ∃ c, e.1 = .slice (some ⟨e.2.2, 0, none⟩) e.2.1.length c ∧ e.2.1.length ≤ c
theorem OwnL.rowM {w : World} {base : Nat} {v : Value} {l : List Int} (h : OwnL w base v l) (h0 : 0 < l.length) : ∃ g c, v = .slice (some ⟨g, 0, none⟩) l.length c ∧ l.length ≤ c ∧ base ≤ g ∧ RowAt w base (v, l, g) := by
  obtain ⟨g, hr⟩ := h.rowAt h0
  obtain ⟨_, h2⟩ := h
  rcases h2 with ⟨_, h3⟩ | ⟨g', cap, cur, hv, hb, _, hc, _⟩
  · omega
  · obtain ⟨c', _, _, hv', hb', _⟩ := id hr
    have hgg : g = g' := by
      have h5 : v = .slice (some ⟨g, 0, none⟩) l.length c' := hv'
      rw [hv] at h5
      simp at h5
      exact h5.1.symm
    subst hgg
    exact ⟨g, cap, hv, hc, hb, hr⟩
theorem RowsM.cellM {w : World} {base : Nat} {v : Value} {O : List Row3} (h : RowsM w base v O) {i : Nat} (hi : i < O.length) : ∃ g c, v = .slice (some ⟨g, 0, none⟩) O.length c ∧ w.cell? ⟨g, i, none⟩ = some O[i].1 := by
  rcases owns_at h.owns with ⟨_, h0⟩ | ⟨g, cap, N, f, hv, hb, hN, hr, hf⟩
  · omega
  · exact ⟨g, cap, hv, by rw [hr.cell (by omega), hf i (by simpa using hi)]; simp⟩
theorem row_takeM {w : World} {base : Nat} {e : Row3} (h : RowAt w base e) (a cap : Nat) (ha : a ≤ e.2.1.length) : Sl w (.slice (some ⟨e.2.2, 0, none⟩) a cap) (e.2.1.take a) := by
  have hc := h.cs
  refine ⟨_, cap, by rw [List.length_take, Nat.min_eq_left ha], .inr ⟨e.2.2, 0, rfl, h.lt, fun k hk => ?_⟩⟩
  have hk' : k < e.2.1.length := by rw [List.length_take] at hk; omega
  rw [List.getElem_take]
  exact hc k hk'
theorem row_dropM {w : World} {base : Nat} {e : Row3} (h : RowAt w base e) (a cap : Nat) (ha : a < e.2.1.length) : Sl w (.slice (some ⟨e.2.2, a, none⟩) (e.2.1.length - a) cap) (e.2.1.drop a) := by
  have hc := h.cs
  refine ⟨_, cap, by rw [List.length_drop], .inr ⟨e.2.2, a, rfl, h.lt, fun k hk => ?_⟩⟩
  have hk' : a + k < e.2.1.length := by rw [List.length_drop] at hk; omega
  have := hc (a + k) hk'
  rw [Nat.zero_add] at this
  rw [List.getElem_drop]
  exact this
theorem int_takeM (b cap n k : Nat) (hk : k ≤ n) (hcap : n ≤ cap) :
    ∀ W, (Instr.slice 52 (.slice (some ⟨b, 0, none⟩) n cap) none (some (.int .i64 (k : Int))) none).run Try.prog W = .ok (.slice (some ⟨b, 0, none⟩) k cap) W := fun W => by
  obtain ⟨i0, hi, hz0, hz1, hz2⟩ := info_parts einfoI
  have h1 : (k : Int) ≤ (cap : Int) := by omega
  simp [Instr.slice, run_underlying Try.underlying52, Instr.sliceBounds, run_sliceBound, sizeOf, typeInfo, hi, h1, Addr.add]
theorem int_dropM (b cap n k : Nat) (hk : k < n) (hcap : n ≤ cap) :
    ∀ W, (Instr.slice 52 (.slice (some ⟨b, 0, none⟩) n cap) (some (.int .i64 (k : Int))) none none).run Try.prog W = .ok (.slice (some ⟨b, k, none⟩) (n - k) (cap - k)) W := fun W => by
  obtain ⟨i0, hi, hz0, hz1, hz2⟩ := info_parts einfoI
  have ht' : Try.prog.underlying 52 = some (.slice (Try.prog.elem 52)) := by simp [Program.elem, Try.underlying52]
  have he : Try.prog.elem 52 = 2 := by simp [Program.elem, Try.underlying52]
  have hz : ∀ W, (Go.sizeOf 2).run Try.prog W = .ok 1 W := fun W => by simp [sizeOf, typeInfo, hi, hz1]
  rw [run_slice_l W 52 _ _ _ ht' .i64 _ (by omega) (by omega), he, hz]
  by_cases hk0 : k = 0
  · subst hk0
    simp [Result.andThen, sliced, Addr.add]
  · simp [Result.andThen, sliced, Addr.add, show cap ≠ k by omega]
    exact hk0
/-- A part of a table, with no room behind it. -/
theorem int_part (b N a c : Nat) (h1 : a < c) (h2 : c ≤ N) :
    ∀ W, (Instr.slice 52 (.slice (some ⟨b, 0, none⟩) N N) (some (.int .i64 (a : Int))) (some (.int .i64 (c : Int))) (some (.int .i64 (c : Int)))).run Try.prog W = .ok (.slice (some ⟨b, a, none⟩) (c - a) (c - a)) W := fun W => by
  obtain ⟨i0, hi, hz0, hz1, hz2⟩ := info_parts einfoI
  have ht' : Try.prog.elem 52 = 2 := by simp [Program.elem, Try.underlying52]
  have h3 : (c : Int) ≤ (N : Int) := by omega
  have h4 : (a : Int) ≤ (c : Int) := by omega
  have h5 : ¬ c = a := by omega
  simp [Instr.slice, run_underlying Try.underlying52, Instr.sliceBounds, run_sliceBound, sizeOf, typeInfo, hi, h3, h4, hz1, Addr.add, h5]
  exact fun h => h.symm
end Go.Proofs.Ytbahejlgfpilnaa
