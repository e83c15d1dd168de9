/-
  THE FIRST POINT OF AN ORBIT in plain mathematics: the least image, found by a walk, heads the ascending list of the images. Conditions: as each theorem states.
-/
import Derived.Test.YtabfdohmgmdgeaaUa
import Derived.Test.YtabfdohmgmdgeaaGm
namespace Go.Proofs.Ytabfdohmgmdgeaa
open Go.RowKit Go.Sort EchM

theorem findA_mem {g : Nat → Nat → Int} : ∀ {L : List (Nat → Nat → Int)} {k : Nat}, 0 ≤ findA g L k → ∃ x ∈ L, eqM x g = true
  | [], k, h => by simp [findA] at h
  | x :: L, k, h => by
    unfold findA at h
    split at h
    · exact ⟨x, by simp, by assumption⟩
    · obtain ⟨y, hy, e⟩ := findA_mem h
      exact ⟨y, by simp [hy], e⟩
theorem lsum_unit {m : Nat} (m3 : m ≤ 3) {x : Nat → Nat → Int} (hx : eqM x (uM m) = true) (pt : List Int) {j : Nat} (hj : j < m) : ∀ k, k ≤ m → lsum x pt j k = if j < k then nth pt j else 0
  | 0, _ => by simp [lsum]
  | k + 1, hk => by
    have ih := lsum_unit m3 hx pt hj k (by omega)
    have h := eqM_iff.1 hx k j (by omega) (by omega)
    rw [lsum, ih, h]
    unfold uM
    by_cases e : k = j
    · subst e
      simp [hj]
    · have hc : ¬ (k = j ∧ k < m) := fun h => e h.1
      rw [if_neg hc]
      by_cases h2 : j < k
      · rw [if_pos h2, if_pos (show j < k + 1 by omega)]; simp
      · rw [if_neg h2, if_neg (show ¬ j < k + 1 by omega)]; simp
theorem lead_unit {p : Int} {m : Nat} (m3 : m ≤ 3) {x : Nat → Nat → Int} (hx : eqM x (uM m) = true) {pt : List Int} (hl : pt.length = m) (hp : ∀ k, k < m → 0 ≤ nth pt k ∧ nth pt k < p) : leadL p m x pt = pt := by
  refine List.ext_getElem (by rw [leadL_len, hl]) fun j h1 h2 => ?_
  have hj : j < m := by rwa [leadL_len] at h1
  have h := hp j hj
  simp only [leadL, List.getElem_map, List.getElem_range]
  rw [lsum_unit m3 hx pt hj m (Nat.le_refl _), if_pos hj, Int.emod_eq_of_lt h.1 h.2, nth_lt h2]
/-- The images of a point. -/
def imsL (p : Int) (m : Nat) (L : List (Nat → Nat → Int)) (pt : List Int) : List (List Int) := L.map fun x => leadL p m x pt
theorem own_image {p : Int} {m : Nat} {L : List (Nat → Nat → Int)} {pt : List Int} (h : isGrp p (m : Int) L = true) (m3 : m ≤ 3) (hl : pt.length = m) (hp : ∀ k, k < m → 0 ≤ nth pt k ∧ nth pt k < p) : pt ∈ imsL p m L pt := by
  unfold isGrp at h
  simp only [Bool.and_eq_true, decide_eq_true_eq] at h
  obtain ⟨_, _, _, _, _, _, hf⟩ := h
  obtain ⟨x, hx, e⟩ := findA_mem (show 0 ≤ findA (uM m) L 0 by simpa [findM] using hf)
  exact List.mem_map.2 ⟨x, hx, lead_unit m3 e hl hp⟩
/-- The least of a point and a list of points. -/
def leastF (pt : List Int) (I : List (List Int)) : List Int := I.foldl (fun r y => if cmpI y r < 0 then y else r) pt
theorem leastF_snoc (pt : List Int) (I : List (List Int)) (y : List Int) : leastF pt (I ++ [y]) = if cmpI y (leastF pt I) < 0 then y else leastF pt I := by
  unfold leastF
  rw [List.foldl_append]
  rfl
theorem least_spec {n : Nat} : ∀ (I : List (List Int)) (pt : List Int), pt.length = n → (∀ y ∈ I, y.length = n) → leastF pt I ∈ pt :: I ∧ (leastF pt I).length = n ∧ cmpI (leastF pt I) pt ≤ 0 ∧ ∀ y ∈ I, cmpI (leastF pt I) y ≤ 0
  | [], pt, h, _ => ⟨by simp [leastF], h, by rw [show leastF pt [] = pt from rfl, cmpI_self]; omega, by simp⟩
  | z :: I, pt, h, hI => by
    have hz := hI z (by simp)
    have hI' : ∀ y ∈ I, y.length = n := fun y hy => hI y (by simp [hy])
    by_cases hc : cmpI z pt < 0
    · have e : leastF pt (z :: I) = leastF z I := by show leastF (if cmpI z pt < 0 then z else pt) I = _; rw [if_pos hc]
      obtain ⟨a, b, c, d⟩ := least_spec I z hz hI'
      rw [e]
      refine ⟨List.mem_cons_of_mem _ a, b, cmpI_trans (b.trans hz.symm) (hz.trans h.symm) c (by omega), fun y hy => ?_⟩
      rcases List.mem_cons.1 hy with rfl | hy
      · exact c
      · exact d y hy
    · have e : leastF pt (z :: I) = leastF pt I := by show leastF (if cmpI z pt < 0 then z else pt) I = _; rw [if_neg hc]
      obtain ⟨a, b, c, d⟩ := least_spec I pt h hI'
      rw [e]
      refine ⟨?_, b, c, fun y hy => ?_⟩
      · rcases List.mem_cons.1 a with a | a
        · rw [a]; simp
        · simp [a]
      · rcases List.mem_cons.1 hy with rfl | hy
        · exact cmpI_trans (b.trans h.symm) (h.trans hz.symm) c (by have := cmpI_neg y pt; omega)
        · exact d y hy
theorem orb_head {n : Nat} {I S : List (List Int)} {pt : List Int} (h : IsOrb I S) (hl : ∀ y ∈ I, y.length = n) (hpt : pt ∈ I) : ∃ T, S = leastF pt I :: T := by
  have hS := h.len hl
  have hps := (h.2 pt).2 hpt
  obtain ⟨a, b, c, d⟩ := least_spec I pt (hl pt hpt) hl
  have hr : leastF pt I ∈ S := (h.2 _).2 (by rcases List.mem_cons.1 a with e | e; · rw [e]; exact hpt
                                             · exact e)
  cases hS2 : S with
  | nil => rw [hS2] at hps; simp at hps
  | cons s T =>
    rw [hS2] at hr hS h
    have h1 := List.pairwise_cons.1 h.1
    have h2 : cmpI (leastF pt I) s ≤ 0 := d s ((h.2 s).1 (by simp))
    have h3 : cmpI s (leastF pt I) ≤ 0 := by
      rcases List.mem_cons.1 hr with e | e
      · rw [e, cmpI_self]; omega
      · have := h1.1 _ e; omega
    have h4 := cmpI_neg s (leastF pt I)
    refine ⟨T, ?_⟩
    rw [(cmpI_zero (by rw [hS s (by simp), b])).1 (show cmpI s (leastF pt I) = 0 by omega)]
end Go.Proofs.Ytabfdohmgmdgeaa
