/-
  ROWS as polynomials: plain mathematics. Conditions: as each theorem states.
-/
import Derived.Test.YtbahejlgfpilnaaMza
import Derived.Test.YtbahejlgfpilnaaIsp
namespace Go.Proofs.Ytbahejlgfpilnaa

/-- The terms of a row: the monomials with the coefficients that are not 0. -/
def rT : List (Int × Int × Int) → List Int → List Tm
  | e :: M, x :: xs => if x = 0 then rT M xs else mkT e x :: rT M xs
  | [], _ => []
  | _ :: _, [] => []
theorem rT_mem : ∀ {M : List (Int × Int × Int)} {xs : List Int} {t : Tm}, t ∈ rT M xs → ∃ e ∈ M, ∃ x ∈ xs, x ≠ 0 ∧ t = mkT e x
  | [], _, _, h => by simp [rT] at h
  | _ :: _, [], _, h => by simp [rT] at h
  | e :: M, x :: xs, t, h => by
    unfold rT at h
    split at h
    · obtain ⟨e', h1, x', h2, h3⟩ := rT_mem h
      exact ⟨e', by simp [h1], x', by simp [h2], h3⟩
    · rename_i hx
      rcases List.mem_cons.1 h with rfl | h
      · exact ⟨e, by simp, x, by simp, hx, rfl⟩
      · obtain ⟨e', h1, x', h2, h3⟩ := rT_mem h
        exact ⟨e', by simp [h1], x', by simp [h2], h3⟩
theorem rT_snoc : ∀ (M : List (Int × Int × Int)) (xs : List Int) (e : Int × Int × Int) (x : Int), M.length = xs.length → rT (M ++ [e]) (xs ++ [x]) = rT M xs ++ (if x = 0 then [] else [mkT e x])
  | [], [], e, x, _ => by simp [rT]
  | [], _ :: _, _, _, h => by simp at h
  | _ :: _, [], _, _, h => by simp at h
  | a :: M, y :: xs, e, x, h => by
    have ih := rT_snoc M xs e x (by simpa using h)
    simp only [List.cons_append, rT]
    split
    · exact ih
    · rw [ih]; rfl
theorem rT_len : ∀ (M : List (Int × Int × Int)) (xs : List Int), (rT M xs).length ≤ M.length
  | [], _ => by simp [rT]
  | _ :: _, [] => by simp [rT]
  | e :: M, x :: xs => by
    have ih := rT_len M xs
    unfold rT
    split
    · simp; omega
    · simp; omega
theorem rT_take {M : List (Int × Int × Int)} {xs : List Int} {k : Nat} (h : M.length = xs.length) (hk : k < M.length) : rT (M.take (k + 1)) (xs.take (k + 1)) = rT (M.take k) (xs.take k) ++ (if xs[k]'(by omega) = 0 then [] else [mkT M[k] (xs[k]'(by omega))]) := by
  rw [List.take_succ_eq_append_getElem hk, List.take_succ_eq_append_getElem (l := xs) (by omega), rT_snoc _ _ _ _ (by simp [h])]
theorem rT_asc : ∀ {M : List (Int × Int × Int)} (xs : List Int), (M.Pairwise fun a b => beforeB a b = true) → Asc (rT M xs)
  | [], _, _ => by simp [rT, Asc]
  | _ :: _, [], _ => by simp [rT, Asc]
  | e :: M, x :: xs, h => by
    have ih := rT_asc xs (List.pairwise_cons.1 h).2
    unfold rT
    split
    · exact ih
    · refine List.pairwise_cons.2 ⟨fun t ht => ?_, ih⟩
      obtain ⟨e', h1, x', _, _, rfl⟩ := rT_mem ht
      exact (List.pairwise_cons.1 h).1 e' h1

theorem inner_mem {d : Int} {n s t : Nat} {e : Int × Int × Int} (h : e ∈ innerL d n s t) : ∃ k : Nat, k < t ∧ e = ((n : Int) - s, (s : Int) - k, (k : Int)) := by
  simp only [innerL, pick, List.mem_flatMap, List.mem_range] at h
  obtain ⟨k, hk, hp⟩ := h
  split at hp
  · exact ⟨k, hk, by simpa using hp⟩
  · simp at hp
theorem pick_mem {d x y z : Int} {e : Int × Int × Int} (h : e ∈ pick d x y z) : e = (x, y, z) := by
  unfold pick at h
  split at h
  · simpa using h
  · simp at h
theorem monL_asc (d n : Int) : (monL d n).Pairwise fun a b => beforeB a b = true := by
  unfold monL
  split
  · unfold outerL
    refine List.pairwise_flatMap.2 ⟨fun s hs => ?_, (List.pairwise_lt_range).imp fun {s s'} hlt e he e' he' => ?_⟩
    · unfold innerL
      refine List.pairwise_flatMap.2 ⟨fun k hk => ?_, (List.pairwise_lt_range).imp fun {k k'} hlt e he e' he' => ?_⟩
      · unfold pick
        split <;> simp
      · obtain rfl := pick_mem he
        obtain rfl := pick_mem he'
        unfold beforeB
        rw [if_pos (by dsimp only; omega), if_pos rfl]
        simp
        omega
    · obtain ⟨k, _, rfl⟩ := inner_mem he
      obtain ⟨k', _, rfl⟩ := inner_mem he'
      unfold beforeB
      rw [if_pos (by dsimp only; omega), if_neg (by dsimp only; omega)]
      simp
      omega
  · exact List.Pairwise.nil
theorem monL_one {d n : Int} (h : monB d n = true) : 1 ≤ (monL d n).length := by
  have h' := h
  simp [monB] at h'
  unfold monL
  rw [if_pos h]
  refine List.length_pos_of_mem (a := (n, 0, 0)) ?_
  simp only [outerL, innerL, pick, List.mem_flatMap, List.mem_range]
  refine ⟨0, by omega, 0, by omega, ?_⟩
  rw [if_pos (by simp [expsOk, tailOk]; omega)]
  simp
  omega
theorem monL_12 (d n : Int) : ∀ e ∈ monL d n, mono12 e := by
  unfold monL
  split
  · rename_i h
    simp [monB] at h
    intro e he
    simp only [outerL, List.mem_flatMap, List.mem_range] at he
    obtain ⟨s, hs, he⟩ := he
    obtain ⟨k, hk, rfl⟩ := inner_mem he
    refine ⟨⟨⟨?_, ?_⟩, ⟨?_, ?_⟩, ?_, ?_⟩, ?_⟩ <;> simp <;> omega
  · intro e he
    simp at he
theorem rT_is {p d n : Int} {xs : List Int} (h : ∀ x ∈ xs, 0 ≤ x ∧ x < p) : IsP p (rT (monL d n) xs) (atL (rT (monL d n) xs)) :=
  ⟨rT_asc xs (monL_asc d n), fun t ht => by
    obtain ⟨e, h1, x, h2, h3, rfl⟩ := rT_mem ht
    have := h x h2
    exact ⟨monL_12 d n e h1, by show 1 ≤ x; omega, by show x < p; omega⟩, fun _ _ => rfl⟩

/-- What a map says after numbers were put under monomials, one after another. -/
def gF (M : List (Int × Int × Int)) (xs : List Int) (pre : List (Fin M.length)) (e : Int × Int × Int) : Int := pre.foldl (fun c x => if e = M[x.1] then xs.getD x.1 0 else c) 0
theorem gF_nil (M : List (Int × Int × Int)) (xs : List Int) (e : Int × Int × Int) : gF M xs [] e = 0 := rfl
theorem gF_snoc (M : List (Int × Int × Int)) (xs : List Int) (pre : List (Fin M.length)) (x : Fin M.length) (e : Int × Int × Int) : gF M xs (pre ++ [x]) e = if e = M[x.1] then xs.getD x.1 0 else gF M xs pre e := by
  unfold gF; rw [List.foldl_append]; rfl
theorem gF_take {d n : Int} {xs : List Int} (hl : (monL d n).length = xs.length) (e : Int × Int × Int) : ∀ k, k ≤ (monL d n).length → gF (monL d n) xs ((List.finRange (monL d n).length).take k) e = atL (rT ((monL d n).take k) (xs.take k)) e
  | 0, _ => by simp [gF_nil, rT, atL]
  | k + 1, hk => by
    have ih := gF_take hl e k (by omega)
    have hlf : k < (List.finRange (monL d n).length).length := by simp; omega
    rw [List.take_succ_eq_append_getElem hlf, gF_snoc, rT_take hl (by omega), ih]
    have hx : xs.getD k 0 = xs[k]'(by omega) := by simp [List.getD, show k < xs.length by omega]
    have hnot : ∀ t ∈ rT ((monL d n).take k) (xs.take k), tmE t ≠ (monL d n)[k]'(by omega) := fun t ht => by
      obtain ⟨e', h1, x', _, _, rfl⟩ := rT_mem ht
      rw [tmE_mkT]
      obtain ⟨i, hi, rfl⟩ := List.mem_iff_getElem.1 h1
      rw [List.length_take] at hi
      rw [List.getElem_take]
      intro e
      have := List.pairwise_iff_getElem.1 (monL_asc d n) i k (by omega) (by omega) (by omega)
      rw [e] at this
      unfold beforeB at this
      simp at this
    simp only [List.getElem_finRange, Fin.val_cast]
    rw [hx]
    by_cases h0 : xs[k]'(by omega) = 0
    · rw [if_pos h0, h0, List.append_nil]
      split
      · rename_i he
        rw [he]
        exact (atL_none hnot).symm
      · rfl
    · rw [if_neg h0, atL_snoc (by rw [tmE_mkT]; exact hnot), tmE_mkT]
      by_cases he : e = (monL d n)[k]'(by omega)
      · rw [if_pos he, if_pos he.symm]; rfl
      · rw [if_neg he, if_neg (fun h => he h.symm)]
theorem gF_all {d n : Int} {xs : List Int} (hl : (monL d n).length = xs.length) (e : Int × Int × Int) : gF (monL d n) xs (List.finRange (monL d n).length) e = atL (rT (monL d n) xs) e := by
  have h := gF_take hl e (monL d n).length (Nat.le_refl _)
  rw [List.take_of_length_le (by simp), List.take_of_length_le (Nat.le_refl _), List.take_of_length_le (by omega)] at h
  exact h
end Go.Proofs.Ytbahejlgfpilnaa
