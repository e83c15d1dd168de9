/-
  CYCLES of permutations: the model's walk. Conditions: as each theorem states.
-/
import Derived.Test.YtgbnlnpffhlipaaRs
namespace Go.Proofs.Ytgbnlnpffhlipaa
open Go.RowKit Go.Sort EchM

/-- A new block of numbers, as a slice of the call's own. -/
theorem ownL_new (w : World) (l : List Int) (cs : Array Value) (hcs : cs.toList = valsI l) (base : Nat) (hb : base ≤ w.heap.size) (hl : l.length ≤ 1048576) : OwnL (w.alloc (.cells cs 2)) base (.slice (some ⟨w.heap.size, 0, none⟩) l.length l.length) l := by
  have hs : cs.size = l.length := by rw [← Array.length_toList, hcs]; simp [valsI]
  refine ⟨by simp [valsI], .inr ⟨w.heap.size, l.length, cs, rfl, hb, heap_alloc_new w _, Nat.le_refl _, by unfold maxLen; omega, by omega, ?_⟩⟩
  rw [hcs, List.take_of_length_le (by simp [valsI])]
/-- A list of the call's own cut behind and ahead of a place. -/
theorem cut_drop {w : World} {base : Nat} {v : Value} {O : List Int} (h : OwnL w base v O) (k : Nat) (hk : k ≤ O.length) :
    ∃ r, (∀ W, (Instr.slice 22 v (some (.int .i64 (k : Int))) none none).run Try.prog W = .ok r W) ∧ Sl w r (O.drop k) := by
  obtain ⟨i0, hi, hz0, hz1, hz2⟩ := info_parts einfoI
  have hS := h.slice
  obtain ⟨_, ⟨rfl, hn⟩ | ⟨g, cap, cur, rfl, _, hg, hnc, _⟩⟩ := h
  · have hO : O = [] := List.eq_nil_of_length_eq_zero hn
    subst hO
    obtain rfl : k = 0 := by simpa using hk
    exact ⟨.slice none 0 0, fun W => by simp [Instr.slice, run_underlying Try.underlying22, Instr.sliceBounds, run_sliceBound, sizeOf, typeInfo, hi], ⟨none, 0, rfl, .inl rfl⟩⟩
  · have hlt : g < w.heap.size := by
      obtain ⟨hlt, _⟩ := Array.getElem?_eq_some_iff.1 hg
      exact hlt
    obtain ⟨a, cap', hv, hc⟩ := hS
    cases hv
    by_cases hck : cap = k
    · subst hck
      refine ⟨.slice (some ⟨g, 0, none⟩) (O.length - cap) 0, fun W => ?_, ?_⟩
      · have h1 : (cap : Int) ≤ (O.length : Int) := by omega
        have h2 : (O.length : Int) ≤ (cap : Int) := by omega
        have h3 : O.length = cap := by omega
        simp [Instr.slice, run_underlying Try.underlying22, Instr.sliceBounds, run_sliceBound, sizeOf, typeInfo, hi, h3]
      · exact ⟨_, _, by rw [List.length_drop], .inl (List.drop_eq_nil_of_le (by omega))⟩
    · refine ⟨.slice (some ⟨g, k, none⟩) (O.length - k) (cap - k), fun W => ?_, ?_⟩
      · have ht' : Try.prog.underlying 22 = some (.slice (Try.prog.elem 22)) := by simp [Program.elem, Try.underlying22]
        have he : Try.prog.elem 22 = 2 := by simp [Program.elem, Try.underlying22]
        have hz : (Go.sizeOf 2).run Try.prog W = .ok 1 W := by simp [sizeOf, typeInfo, hi, hz1]
        rw [run_slice_l W 22 _ _ _ ht' .i64 _ (by omega) (by omega), he, hz]
        by_cases hk0 : k = 0
        · subst hk0
          simp [Result.andThen, sliced, Addr.add]
        · simp [Result.andThen, sliced, Addr.add, hck, hk0]
      · refine ⟨_, _, by rw [List.length_drop], ?_⟩
        rcases hc with h' | ⟨b, off, hb, hbl, hT⟩
        · exact .inl (by rw [h']; simp)
        · cases hb
          refine .inr ⟨g, k, rfl, hlt, fun q hq => ?_⟩
          have hq' : k + q < O.length := by simp at hq; omega
          have := hT (k + q) hq'
          rw [Nat.zero_add] at this
          rw [this, List.getElem_drop]
theorem cut_take {w : World} {base : Nat} {v : Value} {O : List Int} (h : OwnL w base v O) (k : Nat) (hk : k ≤ O.length) :
    ∃ r, (∀ W, (Instr.slice 22 v none (some (.int .i64 (k : Int))) none).run Try.prog W = .ok r W) ∧ Sl w r (O.take k) := by
  obtain ⟨i0, hi, hz0, hz1, hz2⟩ := info_parts einfoI
  have hS := h.slice
  obtain ⟨_, ⟨rfl, hn⟩ | ⟨g, cap, cur, rfl, _, hg, hnc, _⟩⟩ := h
  · have hO : O = [] := List.eq_nil_of_length_eq_zero hn
    subst hO
    obtain rfl : k = 0 := by simpa using hk
    exact ⟨.slice none 0 0, fun W => by simp [Instr.slice, run_underlying Try.underlying22, Instr.sliceBounds, run_sliceBound, sizeOf, typeInfo, hi], ⟨none, 0, rfl, .inl rfl⟩⟩
  · have hlt : g < w.heap.size := by
      obtain ⟨hlt, _⟩ := Array.getElem?_eq_some_iff.1 hg
      exact hlt
    obtain ⟨a, cap', hv, hc⟩ := hS
    cases hv
    refine ⟨.slice (some ⟨g, 0, none⟩) k cap, fun W => ?_, ?_⟩
    · have h1 : (k : Int) ≤ (cap : Int) := by omega
      by_cases hc0 : cap = 0
      · have hk0 : k = 0 := by omega
        subst hc0 hk0
        simp [Instr.slice, run_underlying Try.underlying22, Instr.sliceBounds, run_sliceBound, sizeOf, typeInfo, hi]
      · simp [Instr.slice, run_underlying Try.underlying22, Instr.sliceBounds, run_sliceBound, sizeOf, typeInfo, hi, h1, Addr.add]
    · refine ⟨_, _, by rw [List.length_take, Nat.min_eq_left hk], ?_⟩
      rcases hc with h' | ⟨b, off, hb, hbl, hT⟩
      · exact .inl (by rw [h']; simp)
      · cases hb
        refine .inr ⟨g, 0, rfl, hlt, fun q hq => ?_⟩
        have hq' : q < O.length := by simp at hq; omega
        rw [hT q hq', List.getElem_take]
end Go.Proofs.Ytgbnlnpffhlipaa
