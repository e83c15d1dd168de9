/-
  ACTIONS, in plain mathematics: what a matrix makes of letters and of polynomials. Conditions: as each theorem states.
-/
import Derived.Test.YtllklhakbanhaaaGreatQ11
import Derived.Test.YtllklhakbanhaaaGreatQ12
namespace Go.Proofs.YtllklhakbanhaaaGreat
open Go.RowKit Go.Sort Go.Maps EchM

/-- The coefficients of what the letter j becomes, of the rows before k. -/
def formK (g : Nat → Nat → Int) (j k : Nat) (e : Int × Int × Int) : Int :=
  if e = (1, 0, 0) then (if 0 < k then g 0 j else 0) else if e = (0, 1, 0) then (if 1 < k then g 1 j else 0) else if e = (0, 0, 1) then (if 2 < k then g 2 j else 0) else 0
/-- The exponents of a letter. -/
def unE (i : Nat) : Int × Int × Int := (if i = 0 then 1 else 0, if i = 1 then 1 else 0, if i = 2 then 1 else 0)
theorem unE_mono {i : Nat} (h : i < 3) : mono12 (unE i) := by
  match i, h with
  | 0, _ => exact ⟨by unfold byte3 unE; simp, by simp [unE]⟩
  | 1, _ => exact ⟨by unfold byte3 unE; simp, by simp [unE]⟩
  | 2, _ => exact ⟨by unfold byte3 unE; simp, by simp [unE]⟩
theorem formK_zero (g : Nat → Nat → Int) (j : Nat) (e : Int × Int × Int) : formK g j 0 e = 0 := by
  unfold formK; simp
theorem formK_at (g : Nat → Nat → Int) (j k : Nat) (h : k < 3) : formK g j k (unE k) = 0 := by
  match k, h with
  | 0, _ => simp [formK, unE]
  | 1, _ => simp [formK, unE]
  | 2, _ => simp [formK, unE]
theorem formK_step (g : Nat → Nat → Int) (j k : Nat) (h : k < 3) (e : Int × Int × Int) : formK g j (k + 1) e = if e = unE k then g k j else formK g j k e := by
  have n1 : ((1 : Int), (0 : Int), (0 : Int)) ≠ (0, 1, 0) := by simp
  have n2 : ((1 : Int), (0 : Int), (0 : Int)) ≠ (0, 0, 1) := by simp
  have n3 : ((0 : Int), (1 : Int), (0 : Int)) ≠ (0, 0, 1) := by simp
  match k, h with
  | 0, _ =>
    by_cases e1 : e = (1, 0, 0)
    · simp [formK, unE, e1]
    · simp [formK, unE, e1]
  | 1, _ =>
    by_cases e1 : e = (1, 0, 0)
    · subst e1; simp [formK, unE]
    · by_cases e2 : e = (0, 1, 0)
      · subst e2; simp [formK, unE]
      · simp [formK, unE, e1, e2]
  | 2, _ =>
    by_cases e1 : e = (1, 0, 0)
    · subst e1; simp [formK, unE]
    · by_cases e2 : e = (0, 1, 0)
      · subst e2; simp [formK, unE]
      · by_cases e3 : e = (0, 0, 1)
        · subst e3; simp [formK, unE]
        · simp [formK, unE, e1, e2, e3]
theorem formK_deg {g : Nat → Nat → Int} {j k : Nat} {e : Int × Int × Int} (h : formK g j k e ≠ 0) : e.1 + e.2.1 + e.2.2 = 1 := by
  unfold formK at h
  by_cases e1 : e = (1, 0, 0)
  · subst e1; rfl
  · by_cases e2 : e = (0, 1, 0)
    · subst e2; rfl
    · by_cases e3 : e = (0, 0, 1)
      · subst e3; rfl
      · simp [e1, e2, e3] at h
theorem formK_bound {g : Nat → Nat → Int} {p : Int} {j : Nat} (hp : 0 < p) (hg : ∀ i, i < 3 → 0 ≤ g i j ∧ g i j < p) (k : Nat) (e : Int × Int × Int) : 0 ≤ formK g j k e ∧ formK g j k e < p := by
  unfold formK
  have := hg 0 (by omega)
  have := hg 1 (by omega)
  have := hg 2 (by omega)
  repeat' split
  all_goals omega
/-- What the letter j becomes. -/
def formL (g : Nat → Nat → Int) (j : Nat) : List Tm :=
  (if g 0 j = 0 then [] else [((1 : Int), (0 : Int), (0 : Int), g 0 j)]) ++ ((if g 1 j = 0 then [] else [((0 : Int), (1 : Int), (0 : Int), g 1 j)]) ++ (if g 2 j = 0 then [] else [((0 : Int), (0 : Int), (1 : Int), g 2 j)]))
theorem formL_isP {p : Int} {g : Nat → Nat → Int} {j k : Nat} (hg : ∀ i, i < 3 → 0 ≤ g i j ∧ g i j < p) (hk : ∀ i, i < 3 → k ≤ i → g i j = 0) : IsP p (formL g j) (formK g j k) := by
  have h0 := hg 0 (by omega)
  have h1 := hg 1 (by omega)
  have h2 := hg 2 (by omega)
  have z0 : (if 0 < k then g 0 j else 0) = g 0 j := by
    by_cases h : 0 < k
    · rw [if_pos h]
    · rw [if_neg h, hk 0 (by omega) (by omega)]
  have z1 : (if 1 < k then g 1 j else 0) = g 1 j := by
    by_cases h : 1 < k
    · rw [if_pos h]
    · rw [if_neg h, hk 1 (by omega) (by omega)]
  have z2 : (if 2 < k then g 2 j else 0) = g 2 j := by
    by_cases h : 2 < k
    · rw [if_pos h]
    · rw [if_neg h, hk 2 (by omega) (by omega)]
  have hf : ∀ e, formK g j k e = if e = (1, 0, 0) then g 0 j else if e = (0, 1, 0) then g 1 j else if e = (0, 0, 1) then g 2 j else 0 := fun e => by
    unfold formK; rw [z0, z1, z2]
  have a1 : beforeB (1, 0, 0) (0, 1, 0) = true := by decide
  have a2 : beforeB (1, 0, 0) (0, 0, 1) = true := by decide
  have a3 : beforeB (0, 1, 0) (0, 0, 1) = true := by decide
  clear z0 z1 z2 hk hg
  refine ⟨?_, ?_, fun e _ => ?_⟩
  · unfold formL Asc
    by_cases c0 : g 0 j = 0 <;> by_cases c1 : g 1 j = 0 <;> by_cases c2 : g 2 j = 0 <;> simp [c0, c1, c2, tmE, a1, a2, a3]
  · intro t ht
    unfold formL at ht
    by_cases c0 : g 0 j = 0 <;> by_cases c1 : g 1 j = 0 <;> by_cases c2 : g 2 j = 0 <;> simp [c0, c1, c2] at ht
    all_goals
      rcases ht with rfl | rfl | rfl
      all_goals exact ⟨⟨by unfold byte3 tmE; simp, by simp [tmE]⟩, by simp only []; omega, by simp only []; omega⟩
  · rw [hf]
    unfold formL
    by_cases e1 : e = (1, 0, 0)
    · subst e1
      by_cases c0 : g 0 j = 0 <;> by_cases c1 : g 1 j = 0 <;> by_cases c2 : g 2 j = 0 <;> simp [c0, c1, c2, tmE, atL]
    · have e1' : ¬ (1, 0, 0) = e := fun h => e1 h.symm
      by_cases e2 : e = (0, 1, 0)
      · subst e2
        by_cases c0 : g 0 j = 0 <;> by_cases c1 : g 1 j = 0 <;> by_cases c2 : g 2 j = 0 <;> simp [c0, c1, c2, tmE, atL]
      · have e2' : ¬ (0, 1, 0) = e := fun h => e2 h.symm
        by_cases e3 : e = (0, 0, 1)
        · subst e3
          by_cases c0 : g 0 j = 0 <;> by_cases c1 : g 1 j = 0 <;> by_cases c2 : g 2 j = 0 <;> simp [c0, c1, c2, tmE, atL]
        · have e3' : ¬ (0, 0, 1) = e := fun h => e3 h.symm
          by_cases c0 : g 0 j = 0 <;> by_cases c1 : g 1 j = 0 <;> by_cases c2 : g 2 j = 0 <;> simp [c0, c1, c2, tmE, atL, e1, e1', e2, e2', e3, e3']
/-- .. is a polynomial. -/
theorem formL_poly {p : Int} {n : Nat} {g : Nat → Nat → Int} {j : Nat} (hp : primeB p = true) (n1 : 1 ≤ n) (n3 : n ≤ 3) (hg : ∀ i, i < 3 → 0 ≤ g i j ∧ g i j < p) (hk : ∀ i, i < 3 → n ≤ i → g i j = 0) : isPolyB p (n : Int) (formL g j) = true := by
  have h0 := hg 0 (by omega)
  have h1 := hg 1 (by omega)
  have h2 := hg 2 (by omega)
  have k1 := hk 1 (by omega)
  have k2 := hk 2 (by omega)
  have a1 : beforeB (1, 0, 0) (0, 1, 0) = true := by decide
  have a2 : beforeB (1, 0, 0) (0, 0, 1) = true := by decide
  have a3 : beforeB (0, 1, 0) (0, 0, 1) = true := by decide
  have d1 : (decide (1 ≤ (n : Int)) && decide ((n : Int) ≤ 3)) = true := by simp; omega
  unfold isPolyB
  rw [hp, d1]
  simp only [Bool.true_and, tailB, prevT, List.drop_zero]
  have t0 : g 0 j ≠ 0 → termOk p n ((1 : Int), (0 : Int), (0 : Int), g 0 j) = true := fun c => by
    simp [termOk, expsOk, tailOk]; omega
  have t1 : g 1 j ≠ 0 → termOk p n ((0 : Int), (1 : Int), (0 : Int), g 1 j) = true := fun c => by
    have : 1 < n := Nat.lt_of_not_le fun h => c (k1 h)
    simp [termOk, expsOk, tailOk]; omega
  have t2 : g 2 j ≠ 0 → termOk p n ((0 : Int), (0 : Int), (1 : Int), g 2 j) = true := fun c => by
    have : 2 < n := Nat.lt_of_not_le fun h => c (k2 h)
    simp [termOk, expsOk, tailOk]; omega
  unfold formL
  by_cases c0 : g 0 j = 0 <;> by_cases c1 : g 1 j = 0 <;> by_cases c2 : g 2 j = 0 <;> simp [c0, c1, c2, chain, linkO, t0, t1, t2, tmE, a1, a2, a3]
/-- What the letters become. -/
def formsL (g : Nat → Nat → Int) (n : Nat) : List (List Tm) := (List.range n).map (formL g)
theorem formsL_len (g : Nat → Nat → Int) (n : Nat) : (formsL g n).length = n := by simp [formsL]
theorem formsL_nth (g : Nat → Nat → Int) (n j : Nat) (h : j < n) : nthL (formsL g n) j = formL g j := by
  rw [nthL_lt (by rw [formsL_len]; exact h)]
  simp [formsL]
theorem formL_deg {p : Int} {g : Nat → Nat → Int} {j k : Nat} (h : IsP p (formL g j) (formK g j k)) : degI (formL g j) ≤ 1 := by
  unfold degI
  cases hl : (formL g j).getLast? with
  | none => simp
  | some t =>
    have ht := List.mem_of_getLast? hl
    have h1 := h.2.2 (tmE t) (h.2.1 t ht).1.1
    rw [atL_mem h.1 ht] at h1
    have h2 := (h.2.1 t ht).2.1
    have h3 := formK_deg (g := g) (j := j) (k := k) (e := tmE t) (by omega)
    show t.1 + t.2.1 + t.2.2.1 ≤ 1
    exact Int.le_of_eq h3
/-- A matrix of the size n modulo p. -/
structure MatP (p : Int) (n : Nat) (g : Nat → Nat → Int) : Prop where
  prime : primeB p = true
  n1 : 1 ≤ n
  n3 : n ≤ 3
  num : ∀ i, i < 3 → ∀ j, j < 3 → 0 ≤ g i j ∧ g i j < p
  out : Out0 n g
theorem MatP.form {p : Int} {n : Nat} {g : Nat → Nat → Int} (h : MatP p n g) {j : Nat} (hj : j < n) : IsP p (formL g j) (formK g j n) :=
  formL_isP (fun i hi => h.num i hi j (by have := h.n3; omega)) (fun i hi hn => h.out i hi j (by have := h.n3; omega) (.inl hn))
theorem MatP.poly {p : Int} {n : Nat} {g : Nat → Nat → Int} (h : MatP p n g) {j : Nat} (hj : j < n) : isPolyB p (n : Int) (formL g j) = true :=
  formL_poly h.prime h.n1 h.n3 (fun i hi => h.num i hi j (by have := h.n3; omega)) (fun i hi hn => h.out i hi j (by have := h.n3; omega) (.inl hn))
theorem formsL_mem {n : Nat} {g : Nat → Nat → Int} {L : List Tm} (hL : L ∈ formsL g n) : ∃ j, j < n ∧ L = formL g j := by
  simp only [formsL, List.mem_map, List.mem_range] at hL
  obtain ⟨j, hj, rfl⟩ := hL
  exact ⟨j, hj, rfl⟩
theorem MatP.valid {p : Int} {n : Nat} {g : Nat → Nat → Int} (h : MatP p n g) : ∀ L ∈ formsL g n, Valid p n L := fun L hL => by
  obtain ⟨j, hj, rfl⟩ := formsL_mem hL
  exact valid_of (h.poly hj) ((h.form hj).byte (prime_le h.prime).2)
theorem MatP.bnd {p : Int} {n : Nat} {g : Nat → Nat → Int} (h : MatP p n g) {d : Int} {xs : List Tm} (hx : Valid p d xs) : Bnd (formsL g n) xs := fun t ht => by
  have hd : ∀ i, dgN (formsL g n) i ≤ 1 := fun i => by
    unfold dgN
    by_cases hi : i < n
    · rw [formsL_nth g n i hi]
      have := formL_deg (h.form hi)
      omega
    · rw [nthL_ge (by rw [formsL_len]; omega)]
      exact Int.le_of_lt (by decide)
  obtain ⟨⟨⟨a1, _⟩, ⟨a2, _⟩, a3, _⟩, a4⟩ := (hx.mem t ht).1
  unfold bndE
  have m0 := Int.mul_le_mul_of_nonneg_left (hd 0) a1
  have m1 := Int.mul_le_mul_of_nonneg_left (hd 1) a2
  have m2 := Int.mul_le_mul_of_nonneg_left (hd 2) a3
  simp only [tmE] at *
  omega
/-- L has the terms of what the matrix makes of the polynomial xs. -/
def Led (p : Int) (n : Nat) (g : Nat → Nat → Int) (xs L : List Tm) : Prop := ∃ P, Subs p (formsL g n) xs P ∧ IsP p L (subF p P xs)
theorem subF_congr {p : Int} {Ls : List (List Tm)} {P P' : Int × Int × Int → List Tm} (e : Int × Int × Int) : ∀ {xs : List Tm}, Subs p Ls xs P → Subs p Ls xs P' → sumF P xs e = sumF P' xs e
  | [], _, _ => rfl
  | t :: r, h, h' => by
    rw [sumF, sumF, PrR.unique (h t (by simp)) (h' t (by simp)), subF_congr e (fun u hu => h u (by simp [hu])) (fun u hu => h' u (by simp [hu]))]
theorem Led.unique {p : Int} {n : Nat} {g : Nat → Nat → Int} {xs L L' : List Tm} (h : Led p n g xs L) (h' : Led p n g xs L') : L = L' := by
  obtain ⟨P, h1, h2⟩ := h
  obtain ⟨P', h1', h2'⟩ := h'
  exact h2.unique (h2'.congr fun e _ => by unfold subF; rw [subF_congr e h1 h1'])
end Go.Proofs.YtllklhakbanhaaaGreat
