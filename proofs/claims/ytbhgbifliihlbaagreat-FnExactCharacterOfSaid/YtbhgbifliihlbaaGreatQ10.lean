/-
  ACTIONS, in plain mathematics: what a matrix makes of letters and of polynomials. Conditions: as each theorem states.
  LISTS OF POLYNOMIALS in memory. Conditions: as each theorem states.
  LISTS: the first that fails a test; the first polynomial of a list. Conditions: as each theorem states.
  SUBSTITUTIONS: what is asked of a polynomial and a list, in plain mathematics. Conditions: as each theorem states.
  SUBSTITUTIONS: the model's road to what a monomial becomes, in plain mathematics. Conditions: as each theorem states.
  WALKS: 'spec.l01Plus'. Conditions: as each theorem states.
-/
import Derived.Test.YtbhgbifliihlbaaGreatQ09
import Derived.Test.YtbhgbifliihlbaaGreatQ06
import Derived.Test.YtbhgbifliihlbaaGreatQ07
import Derived.Test.YtbhgbifliihlbaaGreatQ08
namespace Go.Proofs.YtbhgbifliihlbaaGreat
open Go.RowKit Go.Sort Go.Maps EchM

/-- The coefficients of what the letter j becomes, of the rows before k. -/
def formK (g : Nat → Nat → Int) (j k : Nat) (e : Int × Int × Int) : Int :=
  if e = (1, 0, 0) then (if 0 < k then g 0 j else 0) else if e = (0, 1, 0) then (if 1 < k then g 1 j else 0) else if e = (0, 0, 1) then (if 2 < k then g 2 j else 0) else 0
/-- The exponents of a letter. -/
def unE (i : Nat) : Int × Int × Int := (if i = 0 then 1 else 0, if i = 1 then 1 else 0, if i = 2 then 1 else 0)
theorem unE_mono {i : Nat} (h : i < 3) : mono12 (unE i) := by
  match i, h with
  | 0, _ => exact ⟨by unfold byte3 unE; simp, by simp [unE]⟩
  | 1, _ => exact ⟨by unfold byte3 unE; simp, by simp [unE]⟩
  | 2, _ => exact ⟨by unfold byte3 unE; simp, by simp [unE]⟩
theorem formK_zero (g : Nat → Nat → Int) (j : Nat) (e : Int × Int × Int) : formK g j 0 e = 0 := by
  unfold formK; simp
theorem formK_at (g : Nat → Nat → Int) (j k : Nat) (h : k < 3) : formK g j k (unE k) = 0 := by
  match k, h with
  | 0, _ => simp [formK, unE]
  | 1, _ => simp [formK, unE]
  | 2, _ => simp [formK, unE]
theorem formK_step (g : Nat → Nat → Int) (j k : Nat) (h : k < 3) (e : Int × Int × Int) : formK g j (k + 1) e = if e = unE k then g k j else formK g j k e := by
  have n1 : ((1 : Int), (0 : Int), (0 : Int)) ≠ (0, 1, 0) := by simp
  have n2 : ((1 : Int), (0 : Int), (0 : Int)) ≠ (0, 0, 1) := by simp
  have n3 : ((0 : Int), (1 : Int), (0 : Int)) ≠ (0, 0, 1) := by simp
  match k, h with
  | 0, _ =>
    by_cases e1 : e = (1, 0, 0)
    · simp [formK, unE, e1]
    · simp [formK, unE, e1]
  | 1, _ =>
    by_cases e1 : e = (1, 0, 0)
    · subst e1; simp [formK, unE]
    · by_cases e2 : e = (0, 1, 0)
      · subst e2; simp [formK, unE]
      · simp [formK, unE, e1, e2]
  | 2, _ =>
    by_cases e1 : e = (1, 0, 0)
    · subst e1; simp [formK, unE]
    · by_cases e2 : e = (0, 1, 0)
      · subst e2; simp [formK, unE]
      · by_cases e3 : e = (0, 0, 1)
        · subst e3; simp [formK, unE]
        · simp [formK, unE, e1, e2, e3]
theorem formK_deg {g : Nat → Nat → Int} {j k : Nat} {e : Int × Int × Int} (h : formK g j k e ≠ 0) : e.1 + e.2.1 + e.2.2 = 1 := by
  unfold formK at h
  by_cases e1 : e = (1, 0, 0)
  · subst e1; rfl
  · by_cases e2 : e = (0, 1, 0)
    · subst e2; rfl
    · by_cases e3 : e = (0, 0, 1)
      · subst e3; rfl
      · simp [e1, e2, e3] at h
theorem formK_bound {g : Nat → Nat → Int} {p : Int} {j : Nat} (hp : 0 < p) (hg : ∀ i, i < 3 → 0 ≤ g i j ∧ g i j < p) (k : Nat) (e : Int × Int × Int) : 0 ≤ formK g j k e ∧ formK g j k e < p := by
  unfold formK
  have := hg 0 (by omega)
  have := hg 1 (by omega)
  have := hg 2 (by omega)
  repeat' split
  all_goals omega
/-- What the letter j becomes. -/
def formL (g : Nat → Nat → Int) (j : Nat) : List Tm :=
  (if g 0 j = 0 then [] else [((1 : Int), (0 : Int), (0 : Int), g 0 j)]) ++ ((if g 1 j = 0 then [] else [((0 : Int), (1 : Int), (0 : Int), g 1 j)]) ++ (if g 2 j = 0 then [] else [((0 : Int), (0 : Int), (1 : Int), g 2 j)]))
theorem formL_isP {p : Int} {g : Nat → Nat → Int} {j k : Nat} (hg : ∀ i, i < 3 → 0 ≤ g i j ∧ g i j < p) (hk : ∀ i, i < 3 → k ≤ i → g i j = 0) : IsP p (formL g j) (formK g j k) := by
  have h0 := hg 0 (by omega)
  have h1 := hg 1 (by omega)
  have h2 := hg 2 (by omega)
  have z0 : (if 0 < k then g 0 j else 0) = g 0 j := by
    by_cases h : 0 < k
    · rw [if_pos h]
    · rw [if_neg h, hk 0 (by omega) (by omega)]
  have z1 : (if 1 < k then g 1 j else 0) = g 1 j := by
    by_cases h : 1 < k
    · rw [if_pos h]
    · rw [if_neg h, hk 1 (by omega) (by omega)]
  have z2 : (if 2 < k then g 2 j else 0) = g 2 j := by
    by_cases h : 2 < k
    · rw [if_pos h]
    · rw [if_neg h, hk 2 (by omega) (by omega)]
  have hf : ∀ e, formK g j k e = if e = (1, 0, 0) then g 0 j else if e = (0, 1, 0) then g 1 j else if e = (0, 0, 1) then g 2 j else 0 := fun e => by
    unfold formK; rw [z0, z1, z2]
  have a1 : beforeB (1, 0, 0) (0, 1, 0) = true := by decide
  have a2 : beforeB (1, 0, 0) (0, 0, 1) = true := by decide
  have a3 : beforeB (0, 1, 0) (0, 0, 1) = true := by decide
  clear z0 z1 z2 hk hg
  refine ⟨?_, ?_, fun e _ => ?_⟩
  · unfold formL Asc
    by_cases c0 : g 0 j = 0 <;> by_cases c1 : g 1 j = 0 <;> by_cases c2 : g 2 j = 0 <;> simp [c0, c1, c2, tmE, a1, a2, a3]
  · intro t ht
    unfold formL at ht
    by_cases c0 : g 0 j = 0 <;> by_cases c1 : g 1 j = 0 <;> by_cases c2 : g 2 j = 0 <;> simp [c0, c1, c2] at ht
    all_goals
      rcases ht with rfl | rfl | rfl
      all_goals exact ⟨⟨by unfold byte3 tmE; simp, by simp [tmE]⟩, by simp only []; omega, by simp only []; omega⟩
  · rw [hf]
    unfold formL
    by_cases e1 : e = (1, 0, 0)
    · subst e1
      by_cases c0 : g 0 j = 0 <;> by_cases c1 : g 1 j = 0 <;> by_cases c2 : g 2 j = 0 <;> simp [c0, c1, c2, tmE, atL]
    · have e1' : ¬ (1, 0, 0) = e := fun h => e1 h.symm
      by_cases e2 : e = (0, 1, 0)
      · subst e2
        by_cases c0 : g 0 j = 0 <;> by_cases c1 : g 1 j = 0 <;> by_cases c2 : g 2 j = 0 <;> simp [c0, c1, c2, tmE, atL]
      · have e2' : ¬ (0, 1, 0) = e := fun h => e2 h.symm
        by_cases e3 : e = (0, 0, 1)
        · subst e3
          by_cases c0 : g 0 j = 0 <;> by_cases c1 : g 1 j = 0 <;> by_cases c2 : g 2 j = 0 <;> simp [c0, c1, c2, tmE, atL]
        · have e3' : ¬ (0, 0, 1) = e := fun h => e3 h.symm
          by_cases c0 : g 0 j = 0 <;> by_cases c1 : g 1 j = 0 <;> by_cases c2 : g 2 j = 0 <;> simp [c0, c1, c2, tmE, atL, e1, e1', e2, e2', e3, e3']
/-- .. is a polynomial. -/
theorem formL_poly {p : Int} {n : Nat} {g : Nat → Nat → Int} {j : Nat} (hp : primeB p = true) (n1 : 1 ≤ n) (n3 : n ≤ 3) (hg : ∀ i, i < 3 → 0 ≤ g i j ∧ g i j < p) (hk : ∀ i, i < 3 → n ≤ i → g i j = 0) : isPolyB p (n : Int) (formL g j) = true := by
  have h0 := hg 0 (by omega)
  have h1 := hg 1 (by omega)
  have h2 := hg 2 (by omega)
  have k1 := hk 1 (by omega)
  have k2 := hk 2 (by omega)
  have a1 : beforeB (1, 0, 0) (0, 1, 0) = true := by decide
  have a2 : beforeB (1, 0, 0) (0, 0, 1) = true := by decide
  have a3 : beforeB (0, 1, 0) (0, 0, 1) = true := by decide
  have d1 : (decide (1 ≤ (n : Int)) && decide ((n : Int) ≤ 3)) = true := by simp; omega
  unfold isPolyB
  rw [hp, d1]
  simp only [Bool.true_and, tailB, prevT, List.drop_zero]
  have t0 : g 0 j ≠ 0 → termOk p n ((1 : Int), (0 : Int), (0 : Int), g 0 j) = true := fun c => by
    simp [termOk, expsOk, tailOk]; omega
  have t1 : g 1 j ≠ 0 → termOk p n ((0 : Int), (1 : Int), (0 : Int), g 1 j) = true := fun c => by
    have : 1 < n := Nat.lt_of_not_le fun h => c (k1 h)
    simp [termOk, expsOk, tailOk]; omega
  have t2 : g 2 j ≠ 0 → termOk p n ((0 : Int), (0 : Int), (1 : Int), g 2 j) = true := fun c => by
    have : 2 < n := Nat.lt_of_not_le fun h => c (k2 h)
    simp [termOk, expsOk, tailOk]; omega
  unfold formL
  by_cases c0 : g 0 j = 0 <;> by_cases c1 : g 1 j = 0 <;> by_cases c2 : g 2 j = 0 <;> simp [c0, c1, c2, chain, linkO, t0, t1, t2, tmE, a1, a2, a3]
/-- What the letters become. -/
def formsL (g : Nat → Nat → Int) (n : Nat) : List (List Tm) := (List.range n).map (formL g)
theorem formsL_len (g : Nat → Nat → Int) (n : Nat) : (formsL g n).length = n := by simp [formsL]
theorem formsL_nth (g : Nat → Nat → Int) (n j : Nat) (h : j < n) : nthL (formsL g n) j = formL g j := by
  rw [nthL_lt (by rw [formsL_len]; exact h)]
  simp [formsL]
theorem formL_deg {p : Int} {g : Nat → Nat → Int} {j k : Nat} (h : IsP p (formL g j) (formK g j k)) : degI (formL g j) ≤ 1 := by
  unfold degI
  cases hl : (formL g j).getLast? with
  | none => simp
  | some t =>
    have ht := List.mem_of_getLast? hl
    have h1 := h.2.2 (tmE t) (h.2.1 t ht).1.1
    rw [atL_mem h.1 ht] at h1
    have h2 := (h.2.1 t ht).2.1
    have h3 := formK_deg (g := g) (j := j) (k := k) (e := tmE t) (by omega)
    show t.1 + t.2.1 + t.2.2.1 ≤ 1
    exact Int.le_of_eq h3
/-- A matrix of the size n modulo p. -/
structure MatP (p : Int) (n : Nat) (g : Nat → Nat → Int) : Prop where
  prime : primeB p = true
  n1 : 1 ≤ n
  n3 : n ≤ 3
  num : ∀ i, i < 3 → ∀ j, j < 3 → 0 ≤ g i j ∧ g i j < p
  out : Out0 n g
theorem MatP.form {p : Int} {n : Nat} {g : Nat → Nat → Int} (h : MatP p n g) {j : Nat} (hj : j < n) : IsP p (formL g j) (formK g j n) :=
  formL_isP (fun i hi => h.num i hi j (by have := h.n3; omega)) (fun i hi hn => h.out i hi j (by have := h.n3; omega) (.inl hn))
theorem MatP.poly {p : Int} {n : Nat} {g : Nat → Nat → Int} (h : MatP p n g) {j : Nat} (hj : j < n) : isPolyB p (n : Int) (formL g j) = true :=
  formL_poly h.prime h.n1 h.n3 (fun i hi => h.num i hi j (by have := h.n3; omega)) (fun i hi hn => h.out i hi j (by have := h.n3; omega) (.inl hn))
theorem formsL_mem {n : Nat} {g : Nat → Nat → Int} {L : List Tm} (hL : L ∈ formsL g n) : ∃ j, j < n ∧ L = formL g j := by
  simp only [formsL, List.mem_map, List.mem_range] at hL
  obtain ⟨j, hj, rfl⟩ := hL
  exact ⟨j, hj, rfl⟩
theorem MatP.valid {p : Int} {n : Nat} {g : Nat → Nat → Int} (h : MatP p n g) : ∀ L ∈ formsL g n, Valid p n L := fun L hL => by
  obtain ⟨j, hj, rfl⟩ := formsL_mem hL
  exact valid_of (h.poly hj) ((h.form hj).byte (prime_le h.prime).2)
theorem MatP.bnd {p : Int} {n : Nat} {g : Nat → Nat → Int} (h : MatP p n g) {d : Int} {xs : List Tm} (hx : Valid p d xs) : Bnd (formsL g n) xs := fun t ht => by
  have hd : ∀ i, dgN (formsL g n) i ≤ 1 := fun i => by
    unfold dgN
    by_cases hi : i < n
    · rw [formsL_nth g n i hi]
      have := formL_deg (h.form hi)
      omega
    · rw [nthL_ge (by rw [formsL_len]; omega)]
      exact Int.le_of_lt (by decide)
  obtain ⟨⟨⟨a1, _⟩, ⟨a2, _⟩, a3, _⟩, a4⟩ := (hx.mem t ht).1
  unfold bndE
  have m0 := Int.mul_le_mul_of_nonneg_left (hd 0) a1
  have m1 := Int.mul_le_mul_of_nonneg_left (hd 1) a2
  have m2 := Int.mul_le_mul_of_nonneg_left (hd 2) a3
  simp only [tmE] at *
  omega
/-- L has the terms of what the matrix makes of the polynomial xs. -/
def Led (p : Int) (n : Nat) (g : Nat → Nat → Int) (xs L : List Tm) : Prop := ∃ P, Subs p (formsL g n) xs P ∧ IsP p L (subF p P xs)
theorem subF_congr {p : Int} {Ls : List (List Tm)} {P P' : Int × Int × Int → List Tm} (e : Int × Int × Int) : ∀ {xs : List Tm}, Subs p Ls xs P → Subs p Ls xs P' → sumF P xs e = sumF P' xs e
  | [], _, _ => rfl
  | t :: r, h, h' => by
    rw [sumF, sumF, PrR.unique (h t (by simp)) (h' t (by simp)), subF_congr e (fun u hu => h u (by simp [hu])) (fun u hu => h' u (by simp [hu]))]
theorem Led.unique {p : Int} {n : Nat} {g : Nat → Nat → Int} {xs L L' : List Tm} (h : Led p n g xs L) (h' : Led p n g xs L') : L = L' := by
  obtain ⟨P, h1, h2⟩ := h
  obtain ⟨P', h1', h2'⟩ := h'
  exact h2.unique (h2'.congr fun e _ => by unfold subF; rw [subF_congr e h1 h1'])
end Go.Proofs.YtbhgbifliihlbaaGreat
namespace Go.Proofs.YtbhgbifliihlbaaGreat
open Go.RowKit Go.Sort

/-- A polynomial: its prime, its letters, its terms. -/
abbrev Pm := Int × Int × List Tm
/-- The polynomial k of a list, in memory. -/
def PolyAt (w : World) (b o : Nat) (g : Pm) : Prop :=
  ∃ u, w.cell? ⟨b, o, none⟩ = some (.int .i64 g.1) ∧ w.cell? ⟨b, o + 1, none⟩ = some (.int .i64 g.2.1) ∧ w.cell? ⟨b, o + 2, none⟩ = some u ∧ SliceT w u g.2.2
def PolysW (w : World) (b off : Nat) (G : List Pm) : Prop := ∀ (k : Nat) (h : k < G.length), PolyAt w b (off + k * 3) G[k]
/-- A slice that reads as these polynomials. -/
def SlP (w : World) (v : Value) (G : List Pm) : Prop :=
  ∃ a cap, v = .slice a G.length cap ∧ (G = [] ∨ ∃ b off, a = some ⟨b, off, none⟩ ∧ b < w.heap.size ∧ PolysW w b off G)
theorem PolyAt.below {w w' : World} {b o : Nat} {g : Pm} (h : PolyAt w b o g) (hb : Below w.heap.size w w') (hlt : b < w.heap.size) : PolyAt w' b o g := by
  obtain ⟨u, h0, h1, h2, hS⟩ := h
  exact ⟨u, (hb.cell (p := ⟨b, _, none⟩) hlt).trans h0, (hb.cell (p := ⟨b, _, none⟩) hlt).trans h1, (hb.cell (p := ⟨b, _, none⟩) hlt).trans h2, hS.below hb⟩
theorem PolysW.below {w w' : World} {b off : Nat} {G : List Pm} (h : PolysW w b off G) (hb : Below w.heap.size w w') (hlt : b < w.heap.size) : PolysW w' b off G :=
  fun k hk => (h k hk).below hb hlt
theorem SlP.below {w w' : World} {v : Value} {G : List Pm} (h : SlP w v G) (hb : Below w.heap.size w w') : SlP w' v G := by
  obtain ⟨a, cap, hv, h | ⟨b, off, ha, hlt, hT⟩⟩ := h
  · exact ⟨a, cap, hv, .inl h⟩
  · exact ⟨a, cap, hv, .inr ⟨b, off, ha, Nat.lt_of_lt_of_le hlt hb.size, hT.below hb hlt⟩⟩
theorem SlP.at {w : World} {a : Option Addr} {n cap : Nat} {G : List Pm} (h : SlP w (.slice a n cap) G) (h0 : 0 < G.length) : ∃ b off, a = some ⟨b, off, none⟩ ∧ b < w.heap.size ∧ PolysW w b off G ∧ n = G.length := by
  obtain ⟨a', cap', hv, h | ⟨b, off, ha, hlt, hT⟩⟩ := h
  · rw [h] at h0; simp at h0
  · simp at hv
    obtain ⟨rfl, rfl, rfl⟩ := hv
    exact ⟨b, off, ha, hlt, hT, rfl⟩
/-- Numbers that fit; no list of terms is too long. -/
def PmOk (g : Pm) : Prop := (∀ t ∈ g.2.2, tmByte t) ∧ g.2.2.length ≤ 1048576
/-- A polynomial. -/
def isPm (g : Pm) : Bool := isPolyB g.1 g.2.1 g.2.2
end Go.Proofs.YtbhgbifliihlbaaGreat
namespace Go.Proofs.YtbhgbifliihlbaaGreat
open Go.RowKit Go.Sort

theorem first_outP {α : Type} (B : α → Bool) : ∀ (l : List α), l.all B = false → ∃ (j : Nat) (h : j < l.length), B l[j] = false ∧ ∀ (i : Nat) (h : i < l.length), i < j → B l[i] = true
  | [], h => by simp at h
  | a :: r, h => by
    cases ha : B a
    · exact ⟨0, by simp, by simpa using ha, fun i _ hij => by omega⟩
    · have hr : r.all B = false := by
        simp only [List.all_cons, ha, Bool.true_and] at h
        exact h
      obtain ⟨j, hj, hn, hp⟩ := first_outP B r hr
      refine ⟨j + 1, by simp; omega, by simpa using hn, fun i hi hij => ?_⟩
      cases i with
      | zero => simpa using ha
      | succ i => simpa using hp i (by simpa using hi) (by omega)

/-- The first of a list. -/
def hdP (G : List Pm) : Pm := G.headD (0, 0, [])
theorem hdP_at {G : List Pm} (h : 0 < G.length) : hdP G = G[0] := by
  cases G with
  | nil => simp at h
  | cons a r => rfl
/-- Whether a polynomial has the prime p and is like another one. -/
def likeT (p : Int) (g0 g : Pm) : Bool := decide (g.1 = p) && (decide (g.1 = g0.1) && decide (g.2.1 = g0.2.1))

end Go.Proofs.YtbhgbifliihlbaaGreat
namespace Go.Proofs.YtbhgbifliihlbaaGreat
open Go.RowKit Go.Sort Go.Maps

/-- The exponent number k. -/
def nthE (e : Int × Int × Int) (k : Nat) : Int := if k = 0 then e.1 else if k = 1 then e.2.1 else if k = 2 then e.2.2 else 0
theorem nthE_bound {e : Int × Int × Int} (h : mono12 e) (k : Nat) : 0 ≤ nthE e k ∧ nthE e k ≤ 12 := by
  obtain ⟨⟨⟨a1, _⟩, ⟨a2, _⟩, a3, _⟩, a4⟩ := h
  unfold nthE
  repeat' split
  all_goals omega
/-- The degree bound of the first k letters. -/
def bndK (Ls : List (List Tm)) (e : Int × Int × Int) : Nat → Int
  | 0 => 0
  | k + 1 => bndK Ls e k + nthE e k * dgN Ls k
theorem dgN_ge {Ls : List (List Tm)} {i : Nat} (h : Ls.length ≤ i) : dgN Ls i = 0 := by
  unfold dgN
  rw [nthL_ge h]
  rfl
theorem bndK_full {Ls : List (List Tm)} (h1 : 1 ≤ Ls.length) (h3 : Ls.length ≤ 3) (e : Int × Int × Int) : bndK Ls e Ls.length = bndE Ls e := by
  have hx : Ls.length = 1 ∨ Ls.length = 2 ∨ Ls.length = 3 := by omega
  rcases hx with h | h | h
  · have d1 := dgN_ge (Ls := Ls) (i := 1) (by omega)
    have d2 := dgN_ge (Ls := Ls) (i := 2) (by omega)
    rw [h]
    simp [bndK, bndE, nthE, d1, d2]
  · have d2 := dgN_ge (Ls := Ls) (i := 2) (by omega)
    rw [h]
    simp [bndK, bndE, nthE, d2]
  · rw [h]
    simp [bndK, bndE, nthE]
theorem bndK_bound {Ls : List (List Tm)} {e : Int × Int × Int} (he : mono12 e) (hd : ∀ i, dgN Ls i ≤ 12) : ∀ k : Nat, 0 ≤ bndK Ls e k ∧ bndK Ls e k ≤ 144 * (k : Int)
  | 0 => ⟨by simp [bndK], by simp [bndK]⟩
  | k + 1 => by
    obtain ⟨h0, h1⟩ := bndK_bound he hd k
    obtain ⟨a0, a1⟩ := nthE_bound he k
    have d0 := dgN_nonneg Ls k
    have m0 : 0 ≤ nthE e k * dgN Ls k := Int.mul_nonneg a0 d0
    have m1 : nthE e k * dgN Ls k ≤ 12 * 12 := Int.mul_le_mul a1 (hd k) d0 (by omega)
    rw [bndK]
    omega
/-- The terms of a list's polynomials. -/
def tmsL (G : List Pm) : List (List Tm) := G.map fun g => g.2.2
theorem tmsL_len (G : List Pm) : (tmsL G).length = G.length := by simp [tmsL]
theorem tmsL_nth {G : List Pm} {i : Nat} (h : i < G.length) : nthL (tmsL G) i = G[i].2.2 := by
  rw [nthL_lt (by rw [tmsL_len]; exact h)]
  simp [tmsL]
/-- The code of a substitution. -/
def subsC (p d : Int) (xs : List Tm) (G : List Pm) : Int :=
  if (isPolyB p d xs && G.all isPm) = true then
    (if (decide ((G.length : Int) = d) && G.all (likeT p (hdP G))) = true then
      (if xs.all (fun t => decide (bndE (tmsL G) (tmE t) ≤ 12)) = true then 0 else 3) else 2) else 1
theorem isPm_valid {g : Pm} (hok : PmOk g) (h : isPm g = true) : Valid g.1 g.2.1 g.2.2 := valid_of h hok.1
theorem dg_bound {G : List Pm} (hok : ∀ g ∈ G, PmOk g) (hp : G.all isPm = true) (i : Nat) : dgN (tmsL G) i ≤ 12 := by
  by_cases h : i < G.length
  · unfold dgN
    rw [tmsL_nth h]
    have hv := isPm_valid (hok _ (List.getElem_mem h)) (List.all_eq_true.1 hp _ (List.getElem_mem h))
    exact (max_deg hv).2
  · rw [dgN_ge (by rw [tmsL_len]; omega)]
    omega
end Go.Proofs.YtbhgbifliihlbaaGreat
namespace Go.Proofs.YtbhgbifliihlbaaGreat
open Go.RowKit Go.Sort Go.Maps

/-- The factors of the first k letters; j more of the letter k. -/
def facK (Ls : List (List Tm)) (e : Int × Int × Int) : Nat → List (List Tm)
  | 0 => []
  | k + 1 => List.replicate (nthE e k).toNat (nthL Ls k) ++ facK Ls e k
def facP (Ls : List (List Tm)) (e : Int × Int × Int) (k j : Nat) : List (List Tm) := List.replicate j (nthL Ls k) ++ facK Ls e k
theorem facP_zero (Ls : List (List Tm)) (e : Int × Int × Int) (k : Nat) : facP Ls e k 0 = facK Ls e k := by simp [facP]
theorem facP_succ (Ls : List (List Tm)) (e : Int × Int × Int) (k j : Nat) : facP Ls e k (j + 1) = nthL Ls k :: facP Ls e k j := by simp [facP, List.replicate_succ]
theorem facP_full (Ls : List (List Tm)) (e : Int × Int × Int) (k : Nat) : facP Ls e k (nthE e k).toNat = facK Ls e (k + 1) := rfl
theorem facK_full {Ls : List (List Tm)} {e : Int × Int × Int} {n : Nat} (h1 : 1 ≤ n) (h3 : n ≤ 3) (hz : ∀ i, n ≤ i → nthE e i = 0) : facK Ls e n = facL Ls e := by
  have e0 : nthE e 0 = e.1 := rfl
  have e1 : nthE e 1 = e.2.1 := rfl
  have e2 : nthE e 2 = e.2.2 := rfl
  have hx : n = 1 ∨ n = 2 ∨ n = 3 := by omega
  unfold facL facN
  rcases hx with rfl | rfl | rfl
  · have h1 := hz 1 (by omega)
    have h2 := hz 2 (by omega)
    rw [e1] at h1
    rw [e2] at h2
    simp [facK, e0, h1, h2]
  · have h2 := hz 2 (by omega)
    rw [e2] at h2
    simp [facK, e0, e1, h2]
  · simp [facK, e0, e1, e2]
theorem sumD_facK {Ls : List (List Tm)} {e : Int × Int × Int} (he : mono12 e) : ∀ k : Nat, sumD (facK Ls e k) = bndK Ls e k
  | 0 => rfl
  | k + 1 => by
    rw [facK, bndK, sumD_append, sumD_replicate, sumD_facK he k, Int.toNat_of_nonneg (nthE_bound he k).1, Int.add_comm]
    rfl
theorem bndK_mono {Ls : List (List Tm)} {e : Int × Int × Int} (he : mono12 e) {k n : Nat} (h : k ≤ n) : bndK Ls e k ≤ bndK Ls e n := by
  induction n with
  | zero => obtain rfl : k = 0 := by omega
            exact Int.le_refl _
  | succ n ih =>
    by_cases hk : k = n + 1
    · subst hk; exact Int.le_refl _
    · have h1 := ih (by omega)
      have h2 : 0 ≤ nthE e n * dgN Ls n := Int.mul_nonneg (nthE_bound he n).1 (dgN_nonneg Ls n)
      rw [bndK]
      omega
/-- No part of the road has a greater degree bound. -/
theorem sumD_facP {Ls : List (List Tm)} {e : Int × Int × Int} (he : mono12 e) {k j n : Nat} (hj : (j : Int) ≤ nthE e k) (hk : k < n) (hb : bndK Ls e n ≤ 12) : sumD (facP Ls e k j) ≤ 12 := by
  have h1 := bndK_mono (Ls := Ls) he (show k + 1 ≤ n from hk)
  have h2 : (j : Int) * dgN Ls k ≤ nthE e k * dgN Ls k := Int.mul_le_mul_of_nonneg_right hj (dgN_nonneg Ls k)
  rw [facP, sumD_append, sumD_replicate, sumD_facK he]
  rw [bndK] at h1
  unfold dgN at *
  omega
theorem facK_valid {p d : Int} {Ls : List (List Tm)} {x : List Tm} (hx : Valid p d x) (hL : ∀ g ∈ Ls, Valid p d g) (e : Int × Int × Int) : ∀ k : Nat, ∀ g ∈ facK Ls e k, Valid p d g
  | 0, g, h => by simp [facK] at h
  | k + 1, g, h => by
    simp only [facK, List.mem_append, List.mem_replicate] at h
    rcases h with ⟨_, rfl⟩ | h
    · by_cases hk : k < Ls.length
      · rw [nthL_lt hk]; exact hL _ (List.getElem_mem hk)
      · rw [nthL_ge (by omega)]
        exact ⟨hx.p2, hx.p13, hx.d1, hx.d3, List.Pairwise.nil, fun t ht => by simp at ht⟩
    · exact facK_valid hx hL e k g h
theorem facP_valid {p d : Int} {Ls : List (List Tm)} {x : List Tm} (hx : Valid p d x) (hL : ∀ g ∈ Ls, Valid p d g) (e : Int × Int × Int) (k j : Nat) : ∀ g ∈ facP Ls e k j, Valid p d g := fun g h => by
  simp only [facP, List.mem_append, List.mem_replicate] at h
  rcases h with ⟨_, rfl⟩ | h
  · by_cases hk : k < Ls.length
    · rw [nthL_lt hk]; exact hL _ (List.getElem_mem hk)
    · rw [nthL_ge (by omega)]
      exact ⟨hx.p2, hx.p13, hx.d1, hx.d3, List.Pairwise.nil, fun t ht => by simp at ht⟩
  · exact facK_valid hx hL e k g h
/-- A number stands at the beginning of the road. -/
theorem PrV.one {p d v : Int} {x : List Tm} (hx : Valid p d x) : PrV p v [] (putL p [] (0, 0, 0) v) := by
  obtain ⟨M, hM⟩ := pr_ex hx (fs := []) (fun g hg => by simp at hg) (by simp [sumD])
  refine ⟨M, hM, (IsP.one hx.p2 (e := (0, 0, 0)) ⟨by unfold byte3; simp, by simp⟩ v).congr fun a ha => ?_⟩
  have h := hM.2.2 a ha
  rw [h]
  by_cases h0 : a = (0, 0, 0)
  · simp [h0]
  · simp [h0]
theorem PrV.isP {p v : Int} {fs : List (List Tm)} {L : List Tm} (h : PrV p v fs L) : ∃ f, IsP p L f := by
  obtain ⟨M, _, h⟩ := h
  exact ⟨_, h⟩
/-- At the end of the road. -/
theorem PrV.at {p v : Int} {fs : List (List Tm)} {L M : List Tm} (h : PrV p v fs L) (hM : PrR p fs M) (e : Int × Int × Int) (he : byte3 e) : atL L e = v * atL M e % p := by
  obtain ⟨M', h1, h2⟩ := h
  rw [h2.2.2 e he, h1.unique hM]
end Go.Proofs.YtbhgbifliihlbaaGreat
namespace Go.Proofs.YtbhgbifliihlbaaGreat
open Go.RowKit Go.Sort

set_option maxRecDepth 8000 in
set_option maxHeartbeats 8000000 in
theorem specPlus (p d k : Int) (v v' : Value) (xs ys : List Tm) (f : Int × Int × Int → Int) (w : World) (hS : SliceT w v xs) (hS' : SliceT w v' ys) (hP : IsP p xs f) (hV : Valid p d ys) (hk0 : 0 ≤ k) (hk1 : k < p) :
    Calls Tryz.prog 38 #[.agg #[.int .i64 p, .int .i64 d, v], .agg #[.int .i64 p, .int .i64 d, v'], .int .i64 k] w fun e w' =>
      ∃ v' L, e = .returned (.agg #[.int .i64 p, .int .i64 d, v']) ∧ OwnP w' w.heap.size v' L ∧ IsP p L (fun e => (f e + k * atL ys e) % p) ∧ Below w.heap.size w w' := by
  have hp2 := hV.p2
  have hp13 := hV.p13
  have hlx := hP.len
  have hly := hV.isP.len
  obtain ⟨a, cap, rfl, _⟩ := id hS
  obtain ⟨a', cap', rfl, _⟩ := id hS'
  obtain ⟨W, hW, hbW, ⟨hWs1, hWs2⟩, rx, ry, rr⟩ := pair3 w p d (.slice a xs.length cap) p d (.slice a' ys.length cap')
  obtain ⟨⟨c0, c1, c2⟩, _⟩ := poly3 rx
  go_enter Tryz.func38, Tryz.ntmps38
  go_wp2_with fail
  rw [← hW]
  clear hW c0 c1 c2
  ((with_reducible refine (empty_any p d W).mono ?_); rintro e w1 ⟨rfl, hown, hb1⟩)
  obtain ⟨V, hV1, hbV, ⟨hVs1, hVs2⟩, rq⟩ : ∃ V, V = w1.alloc (.cells #[.int .i64 p, .int .i64 d, .slice (some ⟨W.heap.size + 1, 0, none⟩) 0 0] 39) ∧ Below w1.heap.size w1 V ∧ (V.heap.size ≤ w1.heap.size + 1 ∧ w1.heap.size + 1 ≤ V.heap.size) ∧
      V.rowIs w1.heap.size 39 3 (polyF p d (.slice (some ⟨W.heap.size + 1, 0, none⟩) 0 0)) := by
    refine ⟨_, rfl, box1 _ _, ⟨by simp, by simp⟩, ?_⟩
    exact World.rowIs_alloc w1 #[Value.int .i64 p, .int .i64 d, .slice (some ⟨W.heap.size + 1, 0, none⟩) 0 0] _ _ (fun i hi => by simp at hi; match i, hi with | 0, _ => rfl | 1, _ => rfl | 2, _ => rfl)
  have s1 := hb1.size
  have hbWV := hb1.trans (hbV.mono hb1.size)
  have hst : Part2 w V W.heap.size w1.heap.size w.heap.size (w.heap.size + 1) (w.heap.size + 2) p d p d (.slice a xs.length cap) (.slice a' ys.length cap') (.slice (some ⟨W.heap.size + 1, 0, none⟩) 0 0) [] :=
    ⟨⟨owns_belowT hown hbV, rq, rowIs_below rx hbWV rx.lt, rowIs_below rr hbWV rr.lt, hbW.trans (hbWV.mono hbW.size), by omega, by omega, by omega, by omega, by omega, by omega⟩, rowIs_below ry hbWV ry.lt, by omega⟩
  have rx1 := rowIs_below rx hb1 rx.lt
  have xo : ∀ o, (w1.alloc o).cell? ⟨w.heap.size, 2, none⟩ = some (.slice a xs.length cap) := fun o => ((box1 w1 o).cell rx1.lt).trans (poly3 rx1).1.2.2
  have hSV := (hS.below hbW).below hbWV
  have hbV2 := hst.part.b2
  clear rx ry rr rq hown rx1
  go_wp2_with (at_builtin; rw [← hV1]; refine wpList_append_terms _ rfl _ _ rfl W.heap.size (.slice (some ⟨W.heap.size + 1, 0, none⟩) 0 0) 0 [] rfl hst.part.rows (.slice a xs.length cap) xs rfl hSV (by omega) hbV2 ?_)
  intro v3 w3 hown3 hgrow3
  rw [← hV1] at hgrow3
  obtain ⟨hst3, r3⟩ := hst.moreL (ts := xs) hgrow3 (by simpa [cells4] using hown3)
  rw [List.nil_append] at hst3
  obtain ⟨sa3, sc3, rfl⟩ := owns_slice hown3
  have hfz3 := r3.frozen 2
  have hcl3 : w3.cell? ⟨w1.heap.size, 2, none⟩ = some (.slice (some ⟨W.heap.size + 1, 0, none⟩) 0 0) := r3.cell (i := 2) (by omega)
  have hbV3 := hst3.part.below
  clear hV1 xo hown3 hgrow3 r3 hst hSV hbV2
  go_wp2_with fail
  go_loopw [8] (fun j wr => ∃ (i : Nat) (sv : Value) (O : List Tm), i ≤ ys.length ∧ j = .int .i64 i ∧ Hid (IsP p O (fun e => (f e + k * atL (ys.take i) e) % p)) ∧ Part2 w wr W.heap.size w1.heap.size w.heap.size (w.heap.size + 1) (w.heap.size + 2) p d p d (.slice a xs.length cap) (.slice a' ys.length cap') sv O) (fun j _ => ys.length - (intOf j).toNat)
  case atStart => exact ⟨0, _, _, by omega, rfl, Lib.hid (hP.congr fun e he => by simp [atL]; exact (Int.emod_eq_of_lt (hP.bound (by omega) he).1 (hP.bound (by omega) he).2).symm), hst3⟩
  case round =>
    clear hst3 hfz3 hcl3
    obtain ⟨i, sv, O, hi, rfl, HO, hB⟩ := hrel
    have hSr := hS'.below hB.part.below
    obtain ⟨sa, sc, rfl⟩ := owns_slice hB.part.rows
    obtain ⟨⟨m0, m1, m2⟩, _⟩ := poly3 hB.arg2
    obtain ⟨⟨q0, q1, q2⟩, z0, z1, z2⟩ := poly3 hB.part.out
    by_cases hlt1 : i < ys.length
    · have hlt' : (i : Int) < (ys.length : Int) := by omega
      obtain ⟨A', cap2, hv', hcase⟩ := hSr
      simp at hv'
      obtain ⟨rfl, rfl⟩ := hv'
      rcases hcase with h0 | ⟨b, off, rfl, hltb, hTr⟩
      · rw [h0] at hlt1; exact absurd hlt1 (by simp)
      obtain ⟨c0, c1, c2, c3⟩ := hTr i hlt1
      obtain ⟨⟨⟨bx, by1, bz⟩, hs12⟩, bv1, bv2⟩ := hV.mem ys[i] (List.getElem_mem _)
      have hd1 := Lib.hid (fun e => plus_step (p := p) (k := k) (f := f) hV.asc i hlt1 e)
      have hE : mono12 (tmE ys[i]) := ⟨⟨bx, by1, bz⟩, hs12⟩
      have HP : Hid (IsP p (putL p O (tmE ys[i]) (k * ys[i].2.2.2)) (fun e => (f e + k * atL (ys.take (i + 1)) e) % p)) := Lib.hid ((HO.out.put hp2 hE (k * ys[i].2.2.2)).congr fun e he => by
        rw [hd1.out e]
        by_cases hx : e = tmE ys[i]
        · rw [if_pos hx, if_pos hx, atL_take_new hV.asc i hlt1]
          simp [Int.add_comm]
        · rw [if_neg hx, if_neg hx])
      simp only [tmE] at bx by1 bz HP
      generalize hx : ys[i].1 = x at *
      generalize hy : ys[i].2.1 = y at *
      generalize hz : ys[i].2.2.1 = z at *
      generalize hvv : ys[i].2.2.2 = u at *
      have hE1 : byte3 (x, y, z) := ⟨bx, by1, bz⟩
      have g1 : 0 ≤ k * u := Int.mul_nonneg (by omega) (by omega)
      have g2 : k * u ≤ 13 * 13 := Int.mul_le_mul (by omega) (by omega) (by omega) (by omega)
      have hw : IntKind.i64.wrap (k * u) = k * u := IntWalk.i64_in _ (by omega)
      clear hd1 hE hV hS hS' hTr hP z0 z1 z2
      go_wp2_with fail
      refine region_tail 15 (by kernel_rfl) (by kernel_rfl) ?_
      simp only [List.take_succ_cons, List.take_zero, List.drop_succ_cons, List.drop_zero]
      repeat still_step
      refine wpStill_nil ?_
      go_wp2_with fail
      have hBU := hB.later (Below.same wr).drew
      ((with_reducible refine (specPut p d _ O _ _ _ _ _ _ (OwnP.slice hBU.part.rows) HO.out hp2 hp13 hE1 g1 (by omega)).mono ?_); rintro e w2 ⟨v2, rfl, ho2, hb2⟩)
      obtain ⟨sa2, sc2, rfl⟩ := owns_slice ho2
      have hU2 := hBU.later hb2
      have hB3 := hBU.put hb2 ho2 hBU.part.b2
      obtain ⟨⟨j0, j1, j2⟩, jz0, jz1, jz2⟩ := poly3 hU2.part.out
      clear ho2 hBU hB HO q0 q1 q2
      go_wp2_with fail
      go_roundw
      case rel => exact ⟨i + 1, _, _, by omega, by go_num, HP, hB3⟩
      case measure => simp [intOf]; omega
    · obtain rfl : i = ys.length := by omega
      obtain ⟨⟨r0, r1, r2⟩, y0, y1, y2⟩ := poly3 hB.part.res
      have hD := HO.out
      rw [List.take_length] at hD
      obtain ⟨a0, a1, a2, a3, a4⟩ := hB.part.finish p d
      clear hSr HO hV hP z0 z1 z2
      go_wp2_with fail
      exact bodyPost_ret (v := .agg #[.int .i64 p, .int .i64 d, .slice sa O.length sc]) (by simp [results, Tryz.results38, go_sem, a0, a1, a2]) rfl ⟨_, O, rfl, a3, hD, a4⟩
end Go.Proofs.YtbhgbifliihlbaaGreat
