/-
  LISTS OF POINTS in plain mathematics: ascending, each once. Conditions: as each theorem states.
-/
import Derived.Test.YtabfdohmgmdgeaaPca
namespace Go.Proofs.Ytabfdohmgmdgeaa
open Go.RowKit Go.Sort EchM

theorem cmpI_neg : ∀ (l o : List Int), cmpI o l = - cmpI l o
  | [], [] => rfl
  | [], _ :: _ => rfl
  | _ :: _, [] => rfl
  | a :: r, b :: s => by
    rw [cmpI, cmpI]
    by_cases h1 : a < b
    · rw [if_neg (by omega), if_pos h1, if_pos h1]; rfl
    · by_cases h2 : b < a
      · rw [if_pos h2, if_neg h1, if_pos h2]
      · rw [if_neg h2, if_neg h1, if_neg h1, if_neg h2]; exact cmpI_neg r s
theorem cmpI_val : ∀ (l o : List Int), cmpI l o = -1 ∨ cmpI l o = 0 ∨ cmpI l o = 1
  | [], _ => by simp [cmpI]
  | _ :: _, [] => by simp [cmpI]
  | a :: r, b :: s => by
    rw [cmpI]
    by_cases h1 : a < b
    · simp [h1]
    · by_cases h2 : b < a
      · simp [h1, h2]
      · rw [if_neg h1, if_neg h2]; exact cmpI_val r s
theorem cmpI_trans : ∀ {l o q : List Int}, l.length = o.length → o.length = q.length → cmpI l o ≤ 0 → cmpI o q ≤ 0 → cmpI l q ≤ 0
  | [], _, _, _, _, _, _ => by simp [cmpI]
  | _ :: _, [], _, h, _, _, _ => by simp at h
  | _ :: _, _ :: _, [], _, h, _, _ => by simp at h
  | a :: r, b :: s, c :: t, h1, h2, h3, h4 => by
    rw [cmpI] at h3 h4 ⊢
    have ih := cmpI_trans (l := r) (o := s) (q := t) (by simpa using h1) (by simpa using h2)
    by_cases x : a < b
    · by_cases y : b < c
      · rw [if_pos (by omega)]; omega
      · by_cases z : c < b
        · rw [if_neg y, if_pos z] at h4; omega
        · rw [if_pos (by omega)]; omega
    · by_cases x2 : b < a
      · rw [if_neg x, if_pos x2] at h3; omega
      · rw [if_neg x, if_neg x2] at h3
        by_cases y : b < c
        · rw [if_pos (by omega)]; omega
        · by_cases z : c < b
          · rw [if_neg y, if_pos z] at h4; omega
          · rw [if_neg y, if_neg z] at h4
            rw [if_neg (by omega), if_neg (by omega)]; exact ih h3 h4
theorem cmpI_self (l : List Int) : cmpI l l = 0 := (cmpI_zero rfl).2 rfl
theorem cmpI_lt_trans {l o q : List Int} (h1 : l.length = o.length) (h2 : o.length = q.length) (h3 : cmpI l o = -1) (h4 : cmpI o q ≤ 0) : cmpI l q = -1 := by
  have h := cmpI_trans h1 h2 (by omega) h4
  rcases cmpI_val l q with e | e | e
  · exact e
  · have e' := (cmpI_zero (h1.trans h2)).1 e
    subst e'
    have := cmpI_neg l o
    omega
  · omega
theorem cmpI_le_trans {l o q : List Int} (h1 : l.length = o.length) (h2 : o.length = q.length) (h3 : cmpI l o ≤ 0) (h4 : cmpI o q = -1) : cmpI l q = -1 := by
  have h := cmpI_trans h1 h2 h3 (by omega)
  rcases cmpI_val l q with e | e | e
  · exact e
  · have e' := (cmpI_zero (h1.trans h2)).1 e
    subst e'
    have := cmpI_neg l o
    omega
  · omega
/-- S has what L has, each once, ascending. -/
def IsOrb (L S : List (List Int)) : Prop := S.Pairwise (fun a b => cmpI a b = -1) ∧ ∀ x, x ∈ S ↔ x ∈ L
theorem orb_nodup {S : List (List Int)} (h : S.Pairwise (fun a b => cmpI a b = -1)) : S.Nodup :=
  h.imp fun {a b} hab e => by subst e; rw [cmpI_self] at hab; omega
theorem IsOrb.unique {L S S' : List (List Int)} (h : IsOrb L S) (h' : IsOrb L S') : S = S' := by
  have hp : S.Perm S' := by
    rw [List.perm_ext_iff_of_nodup (orb_nodup h.1) (orb_nodup h'.1)]
    exact fun x => (h.2 x).trans (h'.2 x).symm
  exact List.Perm.eq_of_pairwise (fun a b ha hb h1 h2 => by have := cmpI_neg a b; omega) h.1 h'.1 hp
theorem IsOrb.same {L S : List (List Int)} {x : List Int} (h : IsOrb L S) (hx : x ∈ S) : IsOrb (L ++ [x]) S :=
  ⟨h.1, fun y => by
    rw [List.mem_append, List.mem_singleton, h.2]
    exact ⟨.inl, fun e => e.elim id fun e => by subst e; exact (h.2 y).1 hx⟩⟩
theorem IsOrb.put {L S : List (List Int)} {x : List Int} {k : Nat} (h : IsOrb L S) (hk : k ≤ S.length) (hlo : ∀ (i : Nat) (hi : i < S.length), i < k → cmpI S[i] x = -1) (hhi : ∀ (i : Nat) (hi : i < S.length), k ≤ i → cmpI x S[i] = -1) : IsOrb (L ++ [x]) (S.take k ++ (x :: S.drop k)) := by
  have hlo' : ∀ y ∈ S.take k, cmpI y x = -1 := fun y hy => by
    obtain ⟨i, hi, rfl⟩ := List.mem_take_iff_getElem.1 hy
    exact hlo i (by omega) (by omega)
  have hhi' : ∀ y ∈ S.drop k, cmpI x y = -1 := fun y hy => by
    obtain ⟨i, hi, rfl⟩ := List.getElem_of_mem hy
    rw [List.getElem_drop]
    exact hhi _ (by simp at hi; omega) (by omega)
  have hpw := h.1
  rw [← List.take_append_drop k S, List.pairwise_append] at hpw
  obtain ⟨p1, p2, p3⟩ := hpw
  refine ⟨?_, fun y => ?_⟩
  · rw [List.pairwise_append, List.pairwise_cons]
    refine ⟨p1, ⟨hhi', p2⟩, fun a ha b hb => ?_⟩
    rcases List.mem_cons.1 hb with rfl | hb
    · exact hlo' a ha
    · exact p3 a ha b hb
  · rw [List.mem_append, List.mem_cons, List.mem_append, List.mem_singleton, ← h.2]
    have : y ∈ S ↔ y ∈ S.take k ∨ y ∈ S.drop k := by rw [← List.mem_append, List.take_append_drop]
    rw [this]
    constructor
    · rintro (a | rfl | a)
      · exact .inl (.inl a)
      · exact .inr rfl
      · exact .inl (.inr a)
    · rintro ((a | a) | rfl)
      · exact .inl a
      · exact .inr (.inr a)
      · exact .inr (.inl rfl)
theorem IsOrb.nil : IsOrb [] [] := ⟨.nil, fun _ => Iff.rfl⟩
/-- The first place with what comes no earlier. -/
theorem place_ex (x : List Int) : ∀ (S : List (List Int)), ∃ k, k ≤ S.length ∧ (∀ (i : Nat) (hi : i < S.length), i < k → cmpI S[i] x = -1) ∧ ∀ (h : k < S.length), cmpI S[k] x ≠ -1
  | [] => ⟨0, by simp, fun i hi => by simp at hi, fun h => by simp at h⟩
  | a :: S => by
    by_cases h : cmpI a x = -1
    · obtain ⟨k, h1, h2, h3⟩ := place_ex x S
      refine ⟨k + 1, by simp; omega, fun i hi hik => ?_, fun hk => ?_⟩
      · cases i with
        | zero => exact h
        | succ i => exact h2 i (by simpa using hi) (by omega)
      · exact h3 (by simpa using hk)
    · exact ⟨0, by simp, fun i _ h => by omega, fun _ => h⟩
theorem IsOrb.hi {n : Nat} {S : List (List Int)} {x : List Int} {k : Nat} (h : S.Pairwise (fun a b => cmpI a b = -1)) (hn : ∀ y ∈ S, y.length = n) (hx : x.length = n) (hk : ∀ (h : k < S.length), cmpI x S[k] = -1) : ∀ (i : Nat) (hi : i < S.length), k ≤ i → cmpI x S[i] = -1 := fun i hi hki => by
  by_cases e : k = i
  · subst e; exact hk hi
  · have hkl : k < S.length := by omega
    have := List.pairwise_iff_getElem.1 h k i hkl hi (by omega)
    exact cmpI_lt_trans (by rw [hx, hn _ (List.getElem_mem _)]) (by rw [hn _ (List.getElem_mem _), hn _ (List.getElem_mem _)]) (hk hkl) (by omega)
theorem IsOrb.len {n : Nat} {L S : List (List Int)} (h : IsOrb L S) (hn : ∀ y ∈ L, y.length = n) : ∀ y ∈ S, y.length = n := fun y hy => hn y ((h.2 y).1 hy)
theorem IsOrb.step {n : Nat} {L S : List (List Int)} {x : List Int} (h : IsOrb L S) (hn : ∀ y ∈ L, y.length = n) (hx : x.length = n) {k : Nat} (hk : k ≤ S.length) (hlo : ∀ (i : Nat) (hi : i < S.length), i < k → cmpI S[i] x = -1) (hat : ∀ (h : k < S.length), cmpI S[k] x ≠ -1) (hne : ∀ (h : k < S.length), cmpI S[k] x ≠ 0) : IsOrb (L ++ [x]) (S.take k ++ (x :: S.drop k)) :=
  h.put hk hlo (IsOrb.hi h.1 (h.len hn) hx fun hkl => by
    have := cmpI_neg x S[k]
    have := cmpI_val S[k] x
    have := hat hkl
    have := hne hkl
    omega)
theorem orb_ex {n : Nat} : ∀ (L : List (List Int)), (∀ y ∈ L, y.length = n) → ∃ S, IsOrb L S := by
  intro L
  rw [← List.reverse_reverse L]
  generalize L.reverse = R
  induction R with
  | nil => exact fun _ => ⟨[], .nil⟩
  | cons x R ih =>
    intro hn
    rw [List.reverse_cons] at hn ⊢
    have hn' : ∀ y ∈ R.reverse, y.length = n := fun y hy => hn y (by simp at hy ⊢; exact .inl hy)
    have hx : x.length = n := hn x (by simp)
    obtain ⟨S, hS⟩ := ih hn'
    obtain ⟨k, h1, h2, h3⟩ := place_ex x S
    by_cases he : ∃ h : k < S.length, cmpI S[k] x = 0
    · obtain ⟨hk, he⟩ := he
      have hm : x ∈ S := by
        rw [cmpI_zero (by rw [hx]; exact hS.len hn' _ (List.getElem_mem hk))] at he
        rw [← he]; exact List.getElem_mem hk
      exact ⟨S, hS.same hm⟩
    · exact ⟨_, hS.step hn' hx h1 h2 h3 fun hk e => he ⟨hk, e⟩⟩
end Go.Proofs.Ytabfdohmgmdgeaa
