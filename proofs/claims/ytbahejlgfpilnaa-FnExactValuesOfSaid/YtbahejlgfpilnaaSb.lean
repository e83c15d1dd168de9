/-
  SUBSTITUTIONS, in plain mathematics: products of lists of polynomials, and what a monomial becomes. Conditions: as each theorem states.
-/
import Derived.Test.YtbahejlgfpilnaaAl
import Derived.Test.YtbahejlgfpilnaaQo
namespace Go.Proofs.Ytbahejlgfpilnaa
open Go.RowKit Go.Sort Go.Maps

/-- L has the terms of the product of the polynomials fs (the last factor first). -/
def PrR (p : Int) : List (List Tm) → List Tm → Prop
  | [], L => IsP p L (fun e => if e = (0, 0, 0) then 1 else 0)
  | g :: r, L => ∃ M, PrR p r M ∧ IsP p L (mulF p M g)
theorem PrR.unique {p : Int} : ∀ {fs : List (List Tm)} {L L' : List Tm}, PrR p fs L → PrR p fs L' → L = L'
  | [], _, _, h, h' => IsP.unique h h'
  | _ :: _, _, _, ⟨_, h1, h2⟩, ⟨_, h1', h2'⟩ => by
    obtain rfl := PrR.unique h1 h1'
    exact h2.unique h2'
theorem PrR.isP {p : Int} {L : List Tm} : ∀ {fs : List (List Tm)}, PrR p fs L → ∃ f, IsP p L f
  | [], h => ⟨_, h⟩
  | _ :: _, ⟨_, _, h⟩ => ⟨_, h⟩
/-- The degree bound of a product. -/
def sumD : List (List Tm) → Int
  | [] => 0
  | g :: r => max (degI g) 0 + sumD r
theorem sumD_nonneg : ∀ fs : List (List Tm), 0 ≤ sumD fs
  | [] => by simp [sumD]
  | g :: r => by
    have h1 := sumD_nonneg r
    have h2 : 0 ≤ max (degI g) 0 := Int.le_max_right _ _
    rw [sumD]
    omega
theorem PrR.deg {p d : Int} : ∀ {fs : List (List Tm)} {L : List Tm}, (∀ g ∈ fs, Valid p d g) → PrR p fs L → ∀ t ∈ L, t.1 + t.2.1 + t.2.2.1 ≤ sumD fs
  | [], L, _, h, t, ht => by
    have h1 := h.2.2 (tmE t) (h.2.1 t ht).1.1
    rw [atL_mem h.1 ht] at h1
    have h2 := (h.2.1 t ht).2.1
    by_cases hx : tmE t = (0, 0, 0)
    · simp [tmE] at hx
      obtain ⟨a, b, c⟩ := hx
      simp [a, b, c, sumD]
    · have h3 : t.2.2.2 = if tmE t = (0, 0, 0) then 1 else 0 := h1
      rw [if_neg hx] at h3
      omega
  | g :: r, L, hV, ⟨M, h, h'⟩, t, ht => by
    have h1 := h'.2.2 (tmE t) (h'.2.1 t ht).1.1
    rw [atL_mem h'.1 ht] at h1
    have h2 := (h'.2.1 t ht).2.1
    have h3 : mulS M g (tmE t) ≠ 0 := fun h0 => by
      rw [mulF, h0] at h1
      simp at h1
      omega
    obtain ⟨s, hs, u, hu, hx⟩ := mulS_ne h3
    have h4 := PrR.deg (fun g hg => hV g (by simp [hg])) h s hs
    have h5 := deg_le (hV g (by simp)) u hu
    have h6 : degI g ≤ max (degI g) 0 := Int.le_max_left _ _
    have h7 : t.1 + t.2.1 + t.2.2.1 = (s.1 + s.2.1 + s.2.2.1) + (u.1 + u.2.1 + u.2.2.1) := by
      have := sum_addE (tmE s) (tmE u)
      rw [hx] at this
      exact this
    rw [sumD]
    omega
/-- The next product keeps the bound. -/
theorem PrR.room {p d : Int} {fs : List (List Tm)} {M g : List Tm} (hV : ∀ g ∈ fs, Valid p d g) (h : PrR p fs M) (hd : sumD (g :: fs) ≤ 12) : M = [] ∨ g = [] ∨ degI M + degI g ≤ 12 := by
  by_cases hM : M = []
  · exact .inl hM
  refine .inr (.inr ?_)
  have h0 : degI M ≤ sumD fs := by
    unfold degI
    cases hl : M.getLast? with
    | none => exact absurd (List.getLast?_eq_none_iff.1 hl) hM
    | some u => exact h.deg hV u (List.mem_of_getLast? hl)
  have h1 : degI g ≤ max (degI g) 0 := Int.le_max_left _ _
  rw [sumD] at hd
  omega
theorem pr_ex {p d : Int} {x : List Tm} (hx : Valid p d x) : ∀ {fs : List (List Tm)}, (∀ g ∈ fs, Valid p d g) → sumD fs ≤ 12 → ∃ L, PrR p fs L
  | [], _, _ => ⟨_, (IsP.one hx.p2 (e := (0, 0, 0)) ⟨by unfold byte3; simp, by simp⟩ 1).congr fun a _ => by
      have h1 : (1 : Int) % p = 1 := Int.emod_eq_of_lt (by omega) (by have := hx.p2; omega)
      rw [h1]⟩
  | g :: r, hV, hd => by
    have hVr : ∀ g ∈ r, Valid p d g := fun g hg => hV g (by simp [hg])
    have hm : 0 ≤ max (degI g) 0 := Int.le_max_right _ _
    obtain ⟨M, hM⟩ := pr_ex hx hVr (by rw [sumD] at hd; omega)
    obtain ⟨f, hf⟩ := hM.isP
    have hVM := hx.of_isP hf
    obtain ⟨L, hL⟩ := mul_ex hVM (hV g (by simp)) (fits_of hVM (hV g (by simp)) (hM.room hVr hd))
    exact ⟨L, M, hM, hL⟩

/-- .. times a number. -/
def PrV (p v : Int) (fs : List (List Tm)) (L : List Tm) : Prop := ∃ M, PrR p fs M ∧ IsP p L (fun e => v * atL M e % p)
theorem PrV.step {p d v : Int} {fs : List (List Tm)} {g L L' : List Tm} (hV : ∀ g ∈ fs, Valid p d g) (hg : Valid p d g) (hd : sumD (g :: fs) ≤ 12) (h : PrV p v fs L) (h' : IsP p L' (mulF p L g)) : PrV p v (g :: fs) L' := by
  obtain ⟨M, hM, hL⟩ := h
  obtain ⟨f, hf⟩ := hM.isP
  have hVM := hg.of_isP hf
  obtain ⟨M', hM'⟩ := mul_ex hVM hg (fits_of hVM hg (hM.room hV hd))
  exact ⟨M', ⟨M, hM, hM'⟩, h'.congr fun e he => by rw [mulF_scale hL hf, hM'.2.2 e he]⟩
/-- A number times a product has no greater degrees. -/
theorem PrV.room {p d v : Int} {fs : List (List Tm)} {g L : List Tm} (hV : ∀ g ∈ fs, Valid p d g) (hd : sumD (g :: fs) ≤ 12) (h : PrV p v fs L) : L = [] ∨ g = [] ∨ degI L + degI g ≤ 12 := by
  obtain ⟨M, hM, hL⟩ := h
  by_cases hn : L = []
  · exact .inl hn
  refine .inr (.inr ?_)
  have h0 : degI L ≤ sumD fs := by
    unfold degI
    cases hl : L.getLast? with
    | none => exact absurd (List.getLast?_eq_none_iff.1 hl) hn
    | some u =>
      have hu := List.mem_of_getLast? hl
      have h1 := hL.2.2 (tmE u) (hL.2.1 u hu).1.1
      rw [atL_mem hL.1 hu] at h1
      have h2 := (hL.2.1 u hu).2.1
      by_cases hm : ∃ t ∈ M, tmE t = tmE u
      · obtain ⟨t, ht, hx⟩ := hm
        have h3 := hM.deg hV t ht
        simp [tmE] at hx
        show u.1 + u.2.1 + u.2.2.1 ≤ _
        omega
      · have h3 : atL M (tmE u) = 0 := atL_none fun t ht hx => hm ⟨t, ht, hx⟩
        simp only [h3, Int.mul_zero, Int.zero_emod] at h1
        omega
  have h1 : degI g ≤ max (degI g) 0 := Int.le_max_left _ _
  rw [sumD] at hd
  omega
end Go.Proofs.Ytbahejlgfpilnaa
