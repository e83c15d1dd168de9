/-
  KERNELS in plain mathematics: what of a reduced list begins behind a place, cut there, is reduced. Conditions: as each theorem states.
-/
import Derived.Test.YtbahejlgfpilnaaEm
namespace Go.Proofs.Ytbahejlgfpilnaa.EchM

/-- The rows that begin at the place m or behind it, from there on. -/
def cutZ (m : Nat) (L : List (List Int)) : List (List Int) := (L.filter fun r => decide (m ≤ leadN r)).map (·.drop m)
theorem nth_drop (r : List Int) (m j : Nat) : nth (r.drop m) j = nth r (m + j) := by
  by_cases h : m + j < r.length
  · rw [nth_lt h, nth_lt (by rw [List.length_drop]; omega), List.getElem_drop]
  · rw [nth_ge (show (r.drop m).length ≤ j by rw [List.length_drop]; omega), nth_ge (show r.length ≤ m + j by omega)]
theorem lead_drop {r : List Int} {m : Nat} (h : m ≤ leadN r) (hl : leadN r < r.length) : leadN (r.drop m) = leadN r - m := by
  refine lead_eq (fun j hj => ?_) ?_
  · rw [nth_drop]; exact lead_before (by omega)
  · rw [nth_drop, show m + (leadN r - m) = leadN r by omega]; exact lead_at hl
theorem lead_ge {r : List Int} {m : Nat} (hm : m ≤ r.length) : m ≤ leadN r ↔ ∀ j, j < m → nth r j = 0 := by
  refine ⟨fun h j hj => lead_before (by omega), fun h => ?_⟩
  refine Nat.le_of_not_lt fun hlt => ?_
  exact lead_at (r := r) (by omega) (h _ hlt)
theorem cutZ_reduced {p : Int} {m k : Nat} {L : List (List Int)} (h : Reduced p (m + k) L) : Reduced p k (cutZ m L) := by
  have hin : ∀ r ∈ cutZ m L, ∃ s ∈ L, m ≤ leadN s ∧ r = s.drop m ∧ leadN r = leadN s - m := fun r hr => by
    obtain ⟨s, hs, rfl⟩ := List.mem_map.1 hr
    obtain ⟨h1, h2⟩ := List.mem_filter.1 hs
    have h3 : m ≤ leadN s := by simpa using h2
    exact ⟨s, h1, h3, rfl, lead_drop h3 (by have := h.lt s h1; have := (h.inP s h1).1; omega)⟩
  refine ⟨fun r hr => ?_, fun r hr => ?_, fun r hr => ?_, ?_, fun a ha b hb hne => ?_⟩
  · obtain ⟨s, hs, _, rfl, _⟩ := hin r hr
    have hi := h.inP s hs
    exact ⟨by rw [List.length_drop, hi.1]; omega, fun a ha => hi.2 a (List.mem_of_mem_drop ha)⟩
  · obtain ⟨s, hs, h1, _, h2⟩ := hin r hr
    have := h.lt s hs
    omega
  · obtain ⟨s, hs, h1, h3, h2⟩ := hin r hr
    rw [h2, h3, nth_drop, show m + (leadN s - m) = leadN s by omega]
    exact h.one s hs
  · refine List.pairwise_map.2 ?_
    refine (h.asc.filter _).imp_of_mem fun {a b} ha hb hab => ?_
    obtain ⟨h1, h2⟩ := List.mem_filter.1 ha
    obtain ⟨h3, h4⟩ := List.mem_filter.1 hb
    have h2' : m ≤ leadN a := by simpa using h2
    have h4' : m ≤ leadN b := by simpa using h4
    rw [lead_drop h2' (by have := h.lt a h1; have := (h.inP a h1).1; omega), lead_drop h4' (by have := h.lt b h3; have := (h.inP b h3).1; omega)]
    omega
  · obtain ⟨s, hs, h1, h3, h2⟩ := hin a ha
    obtain ⟨t, ht, h4, h5, h6⟩ := hin b hb
    rw [h2, h5, nth_drop, show m + (leadN s - m) = leadN s by omega]
    refine h.off s hs t ht fun e => hne ?_
    rw [h2, h6, e]
theorem ech_reduced {p : Int} (hp : PrimeS p) {k : Nat} {L : List (List Int)} (h : Reduced p k L) : echL p L = L := by
  obtain ⟨h1, h2⟩ := echL_spec hp L h.inP
  exact unique hp.le.1 h1 h h2
end Go.Proofs.Ytbahejlgfpilnaa.EchM
