/-
  A list of lists of 64-bit numbers as an argument of a law, opened. Conditions: the argument can be read as data.
-/
import Derived.Test.YtggogmbhlfddlaaLe
import Derived.Test.YtggogmbhlfddlaaLb
import Derived.Test.YtggogmbhlfddlaaLd
import Derived.Deep.Matrix
namespace Go.Proofs.Ytggogmbhlfddlaa
open Go.ChangeShapes Go.WideShapes Go.ChangeAt Go.RowKit Go.Sort Go.Joins Go.Deep

theorem ncellsIS : Try.prog.cellsOf 39 = 1 := by kernel_rfl
theorem readRowsN : Try.prog.readableRec 22 = true ∧ 22 < Try.prog.types.size := ⟨by kernel_rfl, of_decide_eq_true (by kernel_rfl)⟩

set_option maxRecDepth 100000 in
theorem open_listL {H : Type} {enc : TypeId × Value → H} {w : World} {held : Bool} {r : Reach} {b0 : Nat} {v : Value} {d : DataW H} {p : List MemPlace} (hv : Value.okWide Try.prog w r b0 22 v) (h : DataW.Trod enc Try.prog w 0 (fun _ => true) held 22 v d p) :
    ∃ L : List (List Int), SlR w v L ∧ L.length ≤ 9223372036854775807 ∧ ∀ l ∈ L, l.length ≤ 9223372036854775807 := by
  obtain ⟨a0, len0, cap0, rfl⟩ := okWide_slice Try.underlying22 hv
  obtain ⟨fuel, hf⟩ := h
  rcases open_int_rows Try.underlying22 Try.underlying39 Try.underlying2 ncellsIS ncellsI64 hf with ⟨hc, _⟩ | ⟨a, len, cap, A, L, C, Z, hc, hb, hl, hm, _, hr⟩
  · simp [Value.cells] at hc
    obtain ⟨rfl, rfl, rfl⟩ := hc
    exact ⟨[], ⟨none, 0, rfl, .inl rfl⟩, by simp, by simp⟩
  · simp [Value.cells] at hc
    obtain ⟨rfl, rfl, rfl⟩ := hc
    unfold maxLen at hm
    refine ⟨(List.range len0).map fun r => (Z r).take (L r), ⟨some a, _, by simp; rfl, ?_⟩, by simp; omega, fun l hl => ?_⟩
    · by_cases h0 : len0 = 0
      · left; simp [h0]
      · right
        obtain ⟨hc0, _⟩ := hr 0 (by omega)
        obtain ⟨b, off, spot⟩ := a
        have hspot : spot = none := World.cell?_spot (w := w) (a := ⟨b, off, spot⟩) (by simpa [Addr.add] using hc0)
        subst hspot
        refine ⟨b, off, rfl, World.block_lt_of_cell? (w := w) (a := ⟨b, off, none⟩) (by simpa [Addr.add] using hc0), fun k hk => ?_⟩
        have hk' : k < len0 := by simpa using hk
        obtain ⟨hat, hl1, hl2, hl3, _, hnil, hsome⟩ := hr k (by omega)
        have hat2 : w.cell? ⟨b, off + k, none⟩ = some (.slice (A k) (L k) (C k)) := by
          by_cases hk0 : k = 0
          · subst hk0
            simpa [Addr.add] using hat
          · simp only [Addr.add, if_neg hk0] at hat
            simpa using hat
        refine ⟨_, hat2, ?_⟩
        have hlen : ((Z k).take (L k)).length = L k := by rw [List.length_take]; omega
        have hget : ((List.range len0).map fun r => (Z r).take (L r))[k] = (Z k).take (L k) := by simp
        rw [hget]
        refine ⟨A k, C k, by rw [hlen], ?_⟩
        by_cases hL0 : L k = 0
        · left
          exact List.eq_nil_of_length_eq_zero (by rw [hlen]; exact hL0)
        · right
          cases hA : A k with
          | none => have := hnil hA; omega
          | some a' =>
            obtain ⟨_, hcs⟩ := hsome a' hA
            have hc1 := hcs 0 (by omega)
            obtain ⟨b', off', spot'⟩ := a'
            have hspot' : spot' = none := World.cell?_spot (w := w) (a := ⟨b', off', spot'⟩) (by simpa [Addr.add] using hc1)
            subst hspot'
            refine ⟨b', off', rfl, World.block_lt_of_cell? (w := w) (a := ⟨b', off', none⟩) (by simpa [Addr.add] using hc1), fun j hj => ?_⟩
            have hj' : j < L k := by rw [hlen] at hj; exact hj
            have hcj := hcs j (by omega)
            have hgj : (Z k).getD j 0 = ((Z k).take (L k))[j] := by
              rw [List.getElem_take]
              simp [List.getD, List.getElem?_eq_getElem (show j < (Z k).length by omega)]
            rw [hgj] at hcj
            by_cases hj0 : j = 0
            · subst hj0
              simpa [Addr.add] using hcj
            · simp only [Addr.add, if_neg hj0] at hcj
              simpa using hcj
    · obtain ⟨q, hq, rfl⟩ := List.mem_map.1 hl
      obtain ⟨_, _, h3, h4, _⟩ := hr q (by have := List.mem_range.1 hq; omega)
      unfold maxLen at h3
      rw [List.length_take]
      omega
end Go.Proofs.Ytggogmbhlfddlaa
