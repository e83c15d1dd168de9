/-
  A BOX of a polynomial holds no terms. Conditions: as each theorem states.. Conditions: as each theorem states.
-/
import Derived.Test.YtphgpadpffigjaaF
import Derived.Test.YtphgpadpffigjaaIq
namespace Go.Proofs.Ytphgpadpffigjaa
open Go.RowKit Go.Sort Go.Maps

theorem cell_beyond {w : World} {b n i : Nat} {t : TypeId} {f : Nat → Value} (h : w.rowIs b t n f) (hi : n ≤ i) : w.cell? ⟨b, i, none⟩ = none := by
  obtain ⟨c, hc, hn, _⟩ := h
  simp [World.cell?, hc]
  omega
/-- A box of a polynomial holds no terms. -/
theorem SliceT.setBox {w : World} {v u : Value} {ts : List Tm} {q i : Nat} {t : TypeId} {F : Nat → Value} (h : SliceT w v ts) (hr : w.rowIs q t 3 F) : SliceT (w.setCell ⟨q, i, none⟩ u) v ts := by
  obtain ⟨a, cap, hv, h | ⟨b1, off, ha, hlt, hT⟩⟩ := h
  · exact ⟨a, cap, hv, .inl h⟩
  by_cases hn : ts = []
  · exact ⟨a, cap, hv, .inl hn⟩
  have hne : b1 ≠ q := fun e => by
    have h0 := (hT 0 (List.length_pos_iff.2 hn)).2.2.2
    rw [e, cell_beyond hr (by omega)] at h0
    simp at h0
  have q1 : ∀ o, (w.setCell ⟨q, i, none⟩ u).cell? ⟨b1, o, none⟩ = w.cell? ⟨b1, o, none⟩ := fun o => by
    unfold World.cell?
    rw [Below.heap_setCell _ ⟨q, i, none⟩ u b1 hne]
  refine ⟨a, cap, hv, .inr ⟨b1, off, ha, by rw [World.size_setCell]; exact hlt, fun k hk => ?_⟩⟩
  obtain ⟨c0, c1, c2, c3⟩ := hT k hk
  exact ⟨(q1 _).trans c0, (q1 _).trans c1, (q1 _).trans c2, (q1 _).trans c3⟩
end Go.Proofs.Ytphgpadpffigjaa
