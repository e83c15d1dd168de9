/-
  POWERS OF POLYNOMIALS, in plain mathematics. Conditions: as each theorem states.
-/
import Derived.Test.YtbahejlgfpilnaaTl
import Derived.Test.YtbahejlgfpilnaaOn
namespace Go.Proofs.Ytbahejlgfpilnaa
open Go.RowKit Go.Sort Go.Maps

/-- L has the terms of the power k of the polynomial with the terms xs. -/
def PowL (p : Int) (xs : List Tm) : Nat → List Tm → Prop
  | 0, L => IsP p L (fun e => if e = (0, 0, 0) then 1 else 0)
  | k + 1, L => ∃ M, PowL p xs k M ∧ IsP p L (mulF p M xs)
theorem PowL.unique {p : Int} {xs : List Tm} : ∀ {k : Nat} {L L' : List Tm}, PowL p xs k L → PowL p xs k L' → L = L'
  | 0, _, _, h, h' => IsP.unique h h'
  | _ + 1, _, _, ⟨_, h1, h2⟩, ⟨_, h1', h2'⟩ => by
    obtain rfl := PowL.unique h1 h1'
    exact h2.unique h2'
theorem PowL.isP {p : Int} {xs L : List Tm} : ∀ {k : Nat}, PowL p xs k L → ∃ f, IsP p L f
  | 0, h => ⟨_, h⟩
  | _ + 1, ⟨_, _, h⟩ => ⟨_, h⟩
theorem Valid.of_isP {p d : Int} {xs L : List Tm} {f : Int × Int × Int → Int} (hV : Valid p d xs) (h : IsP p L f) : Valid p d L :=
  ⟨hV.p2, hV.p13, hV.d1, hV.d3, h.1, fun t ht => ⟨(h.2.1 t ht).1, (h.2.1 t ht).2⟩⟩
theorem rowS_ne {s : Tm} {e : Int × Int × Int} : ∀ {ys : List Tm}, rowS s ys e ≠ 0 → ∃ t ∈ ys, addE (tmE s) (tmE t) = e
  | [], h => absurd rfl h
  | t :: r, h => by
    rw [rowS] at h
    by_cases hx : addE (tmE s) (tmE t) = e
    · exact ⟨t, by simp, hx⟩
    · rw [if_neg hx, Int.zero_add] at h
      obtain ⟨u, hu, hx⟩ := rowS_ne h
      exact ⟨u, by simp [hu], hx⟩
theorem mulS_ne {ys : List Tm} {e : Int × Int × Int} : ∀ {xs : List Tm}, mulS xs ys e ≠ 0 → ∃ s ∈ xs, ∃ t ∈ ys, addE (tmE s) (tmE t) = e
  | [], h => absurd rfl h
  | s :: r, h => by
    rw [mulS] at h
    by_cases hx : rowS s ys e = 0
    · rw [hx, Int.zero_add] at h
      obtain ⟨u, hu, hx⟩ := mulS_ne h
      exact ⟨u, by simp [hu], hx⟩
    · exact ⟨s, by simp, rowS_ne hx⟩
/-- No term of the power has a degree beyond the bound. -/
theorem PowL.deg {p d : Int} {xs : List Tm} (hV : Valid p d xs) : ∀ {k : Nat} {L : List Tm}, PowL p xs k L → ∀ t ∈ L, t.1 + t.2.1 + t.2.2.1 ≤ k * max (degI xs) 0
  | 0, L, h, t, ht => by
    have h1 := h.2.2 (tmE t) (h.2.1 t ht).1.1
    rw [atL_mem h.1 ht] at h1
    have h2 := (h.2.1 t ht).2.1
    by_cases hx : tmE t = (0, 0, 0)
    · simp [tmE] at hx
      obtain ⟨a, b, c⟩ := hx
      simp [a, b, c]
    · have h3 : t.2.2.2 = if tmE t = (0, 0, 0) then 1 else 0 := h1
      rw [if_neg hx] at h3
      omega
  | k + 1, L, ⟨M, h, h'⟩, t, ht => by
    have h1 := h'.2.2 (tmE t) (h'.2.1 t ht).1.1
    rw [atL_mem h'.1 ht] at h1
    have h2 := (h'.2.1 t ht).2.1
    have h3 : mulS M xs (tmE t) ≠ 0 := fun h0 => by
      rw [mulF, h0] at h1
      simp at h1
      omega
    obtain ⟨s, hs, u, hu, hx⟩ := mulS_ne h3
    have h4 := PowL.deg hV h s hs
    have h5 := deg_le hV u hu
    have h6 : degI xs ≤ max (degI xs) 0 := Int.le_max_left _ _
    have h7 : t.1 + t.2.1 + t.2.2.1 = (s.1 + s.2.1 + s.2.2.1) + (u.1 + u.2.1 + u.2.2.1) := by
      have := sum_addE (tmE s) (tmE u)
      rw [hx] at this
      exact this
    have h8 : ((k + 1 : Nat) : Int) * max (degI xs) 0 = k * max (degI xs) 0 + max (degI xs) 0 := by
      rw [Int.natCast_add, Int.add_mul]
      simp
    omega
theorem max_deg {p d : Int} {xs : List Tm} (hV : Valid p d xs) : 0 ≤ max (degI xs) 0 ∧ max (degI xs) 0 ≤ 12 := by
  obtain ⟨a, b⟩ := deg_bound hV
  omega
/-- The next product keeps the bound. -/
theorem PowL.fits {p d : Int} {xs M : List Tm} (hV : Valid p d xs) {j : Nat} (h : PowL p xs j M) {k : Int} (hj : (j : Int) + 1 ≤ k) (hk : k * max (degI xs) 0 ≤ 12) : M = [] ∨ xs = [] ∨ degI M + degI xs ≤ 12 := by
  by_cases hM : M = []
  · exact .inl hM
  by_cases hx : xs = []
  · exact .inr (.inl hx)
  refine .inr (.inr ?_)
  have h0 : degI M ≤ j * max (degI xs) 0 := by
    unfold degI
    cases hl : M.getLast? with
    | none => exact absurd (List.getLast?_eq_none_iff.1 hl) hM
    | some u => exact h.deg hV u (List.mem_of_getLast? hl)
  have h1 : degI xs ≤ max (degI xs) 0 := Int.le_max_left _ _
  have h2 : ((j : Int) + 1) * max (degI xs) 0 ≤ k * max (degI xs) 0 := Int.mul_le_mul_of_nonneg_right hj (max_deg hV).1
  rw [Int.add_mul] at h2
  simp at h2
  omega
theorem pow_ex {p d : Int} {xs : List Tm} (hV : Valid p d xs) {k : Int} (hk : k * max (degI xs) 0 ≤ 12) : ∀ j : Nat, (j : Int) ≤ k → ∃ L, PowL p xs j L
  | 0, _ => ⟨_, (IsP.one hV.p2 (e := (0, 0, 0)) ⟨by unfold byte3; simp, by simp⟩ 1).congr fun a _ => by
      have h1 : (1 : Int) % p = 1 := Int.emod_eq_of_lt (by omega) (by have := hV.p2; omega)
      rw [h1]⟩
  | j + 1, hj => by
    obtain ⟨M, hM⟩ := pow_ex hV hk j (by omega)
    obtain ⟨f, hf⟩ := hM.isP
    have hVM := hV.of_isP hf
    obtain ⟨L, hL⟩ := mul_ex hVM hV (fits_of hVM hV (hM.fits hV (by omega) hk))
    exact ⟨L, M, hM, hL⟩
end Go.Proofs.Ytbahejlgfpilnaa
