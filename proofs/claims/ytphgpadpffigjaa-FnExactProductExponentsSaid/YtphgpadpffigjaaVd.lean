/-
  LISTS OF LISTS of numbers of the call's own, in the making: appended. Conditions: as each theorem states.
-/
import Derived.Test.YtphgpadpffigjaaLa
import Derived.Test.YtphgpadpffigjaaLe
import Derived.Deep.AppendLies
import Derived.Lib.OwnKind
namespace Go.Proofs.Ytphgpadpffigjaa
open Go.RowKit Go.Sort

theorem owns_at {w : World} {base : Nat} {t : TypeId} {v : Value} {n : Nat} {xs : List Value} (h : w.ownsRow base t 1 v n xs) : (v = .slice none 0 0 ∧ n = 0) ∨ ∃ g cap N f, v = .slice (some ⟨g, 0, none⟩) n cap ∧ base ≤ g ∧ n ≤ N ∧ w.rowIs g t N f ∧ ∀ (q : Nat) (h : q < xs.length), f q = xs[q] := by
  obtain ⟨hl, h | ⟨g, cap, cur, hv, hb, hh, hc, _, hs, ht⟩⟩ := h
  · exact .inl h
  · refine .inr ⟨g, cap, cur.size, fun i => cur.getD i undef, hv, hb, by omega, ⟨cur, hh, rfl, fun i hi => by simp [Array.getD, hi]⟩, fun q hq => ?_⟩
    have h1 : (cur.toList.take (n * 1))[q]? = some xs[q] := by rw [ht]; simp
    rw [List.getElem?_take] at h1
    split at h1
    · have hq2 : q < cur.size := by rw [hl] at hq; omega
      simp [hq2] at h1
      simp [Array.getD, hq2, h1]
    · cases h1
theorem OwnL.rowAt {w : World} {base : Nat} {v : Value} {l : List Int} (h : OwnL w base v l) (h0 : 0 < l.length) : ∃ g, RowAt w base (v, l, g) := by
  rcases owns_at h with ⟨_, h⟩ | ⟨g, cap, N, f, hv, hb, hN, hr, hf⟩
  · omega
  · refine ⟨g, cap, N, f, hv, hb, hN, hr, fun q hq => ?_⟩
    have := hf q (by simpa [valsI] using hq)
    simpa [valsI] using this
theorem owns_ne {w : World} {base g : Nat} {t t' : TypeId} {v : Value} {n N : Nat} {xs : List Value} {f : Nat → Value} (h : w.ownsRow base t 1 v n xs) (hr : w.rowIs g t' N f) (hne : t ≠ t') : some g ≠ v.ownBlock := fun e => by
  obtain ⟨c, fz, hc⟩ := Lib.ownsRow_kind h g e.symm
  obtain ⟨c', hc', _⟩ := hr
  rw [hc] at hc'
  simp at hc'
  exact hne hc'.2.1
theorem RowAt.kept2 {w w' : World} {base : Nat} {r : Option Nat} {e : Row3} (h : RowAt w base e) (hg : w.grownBy w' r) (hne : some e.2.2 ≠ r) : RowAt w' base e := by
  obtain ⟨cap, N, f, hv, hb, hN, hr, hf⟩ := h
  exact ⟨cap, N, f, hv, hb, hN, hr.of_block (hg.block _ hr.lt hne), hf⟩
/-- Rows in the making: each in a block of its own, by their headers. -/
structure RowsM (w : World) (base : Nat) (v : Value) (O : List Row3) : Prop where
  owns : w.ownsRow base 61 1 v O.length (O.map (·.1))
  rows : ∀ e ∈ O, RowAt w base e
  apart : (O.map (·.2.2)).Nodup
theorem RowsM.nil (w : World) (base : Nat) : RowsM w base (.slice none 0 0) [] := ⟨⟨by simp, .inl ⟨rfl, rfl⟩⟩, by simp, by simp⟩
theorem RowsM.below {w w' : World} {base : Nat} {v : Value} {O : List Row3} (h : RowsM w base v O) (hb : Below w.heap.size w w') : RowsM w' base v O :=
  ⟨eowns_below h.owns hb, fun e he => (h.rows e he).below hb, h.apart⟩
theorem RowsM.push {w w' : World} {base g : Nat} {v v' u : Value} {l : List Int} {O : List Row3} (h : RowsM w base v O) (hu : RowAt w base (u, l, g)) (hn : g ∉ O.map (·.2.2)) (ho : w'.ownsRow base 61 1 v' (O.length + 1) (O.map (·.1) ++ [u])) (hg : w.grownBy w' v.ownBlock) : RowsM w' base v' (O ++ [(u, l, g)]) := by
  have ne : ∀ e, RowAt w base e → some e.2.2 ≠ v.ownBlock := fun e he => by
    obtain ⟨_, N, f, _, _, _, hr, _⟩ := he
    exact owns_ne h.owns hr (by decide)
  refine ⟨by simpa using ho, fun e he => ?_, ?_⟩
  · rcases List.mem_append.1 he with h' | h'
    · exact (h.rows e h').kept2 hg (ne e (h.rows e h'))
    · obtain rfl := List.mem_singleton.1 h'
      exact hu.kept2 hg (ne _ hu)
  · rw [List.map_append, List.nodup_append]
    refine ⟨h.apart, by simp, fun a ha b hb e => ?_⟩
    simp at hb
    exact hn (by rw [← hb, ← e]; exact ha)
theorem RowsM.fresh {w : World} {base g : Nat} {v : Value} {O : List Row3} (h : RowsM w base v O) (hg : w.heap.size ≤ g) : g ∉ O.map (·.2.2) := fun hm => by
  obtain ⟨e, he, h2⟩ := List.mem_map.1 hm
  have := (h.rows e he).lt
  omega
theorem RowsM.rr {w : World} {base : Nat} {v : Value} {O : List Row3} (h : RowsM w base v O) : OwnRR w base v (O.map (·.2.1)) := by
  refine ⟨O, rfl, ?_, h.rows, h.apart⟩
  rcases owns_at h.owns with ⟨hv, h0⟩ | ⟨g, cap, N, f, hv, hb, hN, hr, hf⟩
  · exact .inl ⟨List.eq_nil_of_length_eq_zero h0, _, _, by rw [hv]⟩
  · exact .inr ⟨g, cap, hv, hb, N, f, hN, hr, fun q hq => by have := hf q (by simpa using hq); simpa using this⟩
theorem RowsM.shape {w : World} {base : Nat} {v : Value} {O : List Row3} (h : RowsM w base v O) : ∃ a c, v = .slice a O.length c := by
  obtain ⟨a, c, hv⟩ := h.rr.shape
  exact ⟨a, c, by simpa using hv⟩
theorem RowsM.ne_row {w : World} {base g N : Nat} {t : TypeId} {v : Value} {O : List Row3} {f : Nat → Value} (h : RowsM w base v O) (hr : w.rowIs g t N f) (hne : 61 ≠ t) : some g ≠ v.ownBlock := owns_ne h.owns hr hne
end Go.Proofs.Ytphgpadpffigjaa
