/-
  SUBSTITUTIONS, in plain mathematics: products of lists of polynomials, and what a monomial becomes. Conditions: as each theorem states.
  SUBSTITUTIONS, in plain mathematics: the factors of what a monomial becomes, and the sum of what all terms become. Conditions: as each theorem states.
  SUBSTITUTIONS: what is asked of a polynomial and a list, in plain mathematics. Conditions: as each theorem states.
  LISTS OF POLYNOMIALS: what 'impl.checkList' asks of each. Conditions: as each theorem states.
  The code of a polynomial. Conditions: none.. Conditions: as each theorem states.
  WALKS: whether a polynomial is homogeneous. Conditions: as each theorem states.. Conditions: as each theorem states.
-/
import Derived.Test.YtphgpadpffigjaaPe02
import Derived.Test.YtphgpadpffigjaaPe03
import Derived.Test.YtphgpadpffigjaaPcc
import Derived.Test.YtphgpadpffigjaaPe01
import Derived.Test.YtphgpadpffigjaaF
namespace Go.Proofs.Ytphgpadpffigjaa
open Go.RowKit Go.Sort Go.Maps

/-- L has the terms of the product of the polynomials fs (the last factor first). -/
def PrR (p : Int) : List (List Tm) → List Tm → Prop
  | [], L => IsP p L (fun e => if e = (0, 0, 0) then 1 else 0)
  | g :: r, L => ∃ M, PrR p r M ∧ IsP p L (mulF p M g)
theorem PrR.unique {p : Int} : ∀ {fs : List (List Tm)} {L L' : List Tm}, PrR p fs L → PrR p fs L' → L = L'
  | [], _, _, h, h' => IsP.unique h h'
  | _ :: _, _, _, ⟨_, h1, h2⟩, ⟨_, h1', h2'⟩ => by
    obtain rfl := PrR.unique h1 h1'
    exact h2.unique h2'
theorem PrR.isP {p : Int} {L : List Tm} : ∀ {fs : List (List Tm)}, PrR p fs L → ∃ f, IsP p L f
  | [], h => ⟨_, h⟩
  | _ :: _, ⟨_, _, h⟩ => ⟨_, h⟩
/-- The degree bound of a product. -/
def sumD : List (List Tm) → Int
  | [] => 0
  | g :: r => max (degI g) 0 + sumD r
theorem sumD_nonneg : ∀ fs : List (List Tm), 0 ≤ sumD fs
  | [] => by simp [sumD]
  | g :: r => by
    have h1 := sumD_nonneg r
    have h2 : 0 ≤ max (degI g) 0 := Int.le_max_right _ _
    rw [sumD]
    omega
theorem PrR.deg {p d : Int} : ∀ {fs : List (List Tm)} {L : List Tm}, (∀ g ∈ fs, Valid p d g) → PrR p fs L → ∀ t ∈ L, t.1 + t.2.1 + t.2.2.1 ≤ sumD fs
  | [], L, _, h, t, ht => by
    have h1 := h.2.2 (tmE t) (h.2.1 t ht).1.1
    rw [atL_mem h.1 ht] at h1
    have h2 := (h.2.1 t ht).2.1
    by_cases hx : tmE t = (0, 0, 0)
    · simp [tmE] at hx
      obtain ⟨a, b, c⟩ := hx
      simp [a, b, c, sumD]
    · have h3 : t.2.2.2 = if tmE t = (0, 0, 0) then 1 else 0 := h1
      rw [if_neg hx] at h3
      omega
  | g :: r, L, hV, ⟨M, h, h'⟩, t, ht => by
    have h1 := h'.2.2 (tmE t) (h'.2.1 t ht).1.1
    rw [atL_mem h'.1 ht] at h1
    have h2 := (h'.2.1 t ht).2.1
    have h3 : mulS M g (tmE t) ≠ 0 := fun h0 => by
      rw [mulF, h0] at h1
      simp at h1
      omega
    obtain ⟨s, hs, u, hu, hx⟩ := mulS_ne h3
    have h4 := PrR.deg (fun g hg => hV g (by simp [hg])) h s hs
    have h5 := deg_le (hV g (by simp)) u hu
    have h6 : degI g ≤ max (degI g) 0 := Int.le_max_left _ _
    have h7 : t.1 + t.2.1 + t.2.2.1 = (s.1 + s.2.1 + s.2.2.1) + (u.1 + u.2.1 + u.2.2.1) := by
      have := sum_addE (tmE s) (tmE u)
      rw [hx] at this
      exact this
    rw [sumD]
    omega
/-- The next product keeps the bound. -/
theorem PrR.room {p d : Int} {fs : List (List Tm)} {M g : List Tm} (hV : ∀ g ∈ fs, Valid p d g) (h : PrR p fs M) (hd : sumD (g :: fs) ≤ 12) : M = [] ∨ g = [] ∨ degI M + degI g ≤ 12 := by
  by_cases hM : M = []
  · exact .inl hM
  refine .inr (.inr ?_)
  have h0 : degI M ≤ sumD fs := by
    unfold degI
    cases hl : M.getLast? with
    | none => exact absurd (List.getLast?_eq_none_iff.1 hl) hM
    | some u => exact h.deg hV u (List.mem_of_getLast? hl)
  have h1 : degI g ≤ max (degI g) 0 := Int.le_max_left _ _
  rw [sumD] at hd
  omega
theorem pr_ex {p d : Int} {x : List Tm} (hx : Valid p d x) : ∀ {fs : List (List Tm)}, (∀ g ∈ fs, Valid p d g) → sumD fs ≤ 12 → ∃ L, PrR p fs L
  | [], _, _ => ⟨_, (IsP.one hx.p2 (e := (0, 0, 0)) ⟨by unfold byte3; simp, by simp⟩ 1).congr fun a _ => by
      have h1 : (1 : Int) % p = 1 := Int.emod_eq_of_lt (by omega) (by have := hx.p2; omega)
      rw [h1]⟩
  | g :: r, hV, hd => by
    have hVr : ∀ g ∈ r, Valid p d g := fun g hg => hV g (by simp [hg])
    have hm : 0 ≤ max (degI g) 0 := Int.le_max_right _ _
    obtain ⟨M, hM⟩ := pr_ex hx hVr (by rw [sumD] at hd; omega)
    obtain ⟨f, hf⟩ := hM.isP
    have hVM := hx.of_isP hf
    obtain ⟨L, hL⟩ := mul_ex hVM (hV g (by simp)) (fits_of hVM (hV g (by simp)) (hM.room hVr hd))
    exact ⟨L, M, hM, hL⟩

/-- .. times a number. -/
def PrV (p v : Int) (fs : List (List Tm)) (L : List Tm) : Prop := ∃ M, PrR p fs M ∧ IsP p L (fun e => v * atL M e % p)
theorem PrV.step {p d v : Int} {fs : List (List Tm)} {g L L' : List Tm} (hV : ∀ g ∈ fs, Valid p d g) (hg : Valid p d g) (hd : sumD (g :: fs) ≤ 12) (h : PrV p v fs L) (h' : IsP p L' (mulF p L g)) : PrV p v (g :: fs) L' := by
  obtain ⟨M, hM, hL⟩ := h
  obtain ⟨f, hf⟩ := hM.isP
  have hVM := hg.of_isP hf
  obtain ⟨M', hM'⟩ := mul_ex hVM hg (fits_of hVM hg (hM.room hV hd))
  exact ⟨M', ⟨M, hM, hM'⟩, h'.congr fun e he => by rw [mulF_scale hL hf, hM'.2.2 e he]⟩
/-- A number times a product has no greater degrees. -/
theorem PrV.room {p d v : Int} {fs : List (List Tm)} {g L : List Tm} (hV : ∀ g ∈ fs, Valid p d g) (hd : sumD (g :: fs) ≤ 12) (h : PrV p v fs L) : L = [] ∨ g = [] ∨ degI L + degI g ≤ 12 := by
  obtain ⟨M, hM, hL⟩ := h
  by_cases hn : L = []
  · exact .inl hn
  refine .inr (.inr ?_)
  have h0 : degI L ≤ sumD fs := by
    unfold degI
    cases hl : L.getLast? with
    | none => exact absurd (List.getLast?_eq_none_iff.1 hl) hn
    | some u =>
      have hu := List.mem_of_getLast? hl
      have h1 := hL.2.2 (tmE u) (hL.2.1 u hu).1.1
      rw [atL_mem hL.1 hu] at h1
      have h2 := (hL.2.1 u hu).2.1
      by_cases hm : ∃ t ∈ M, tmE t = tmE u
      · obtain ⟨t, ht, hx⟩ := hm
        have h3 := hM.deg hV t ht
        simp [tmE] at hx
        show u.1 + u.2.1 + u.2.2.1 ≤ _
        omega
      · have h3 : atL M (tmE u) = 0 := atL_none fun t ht hx => hm ⟨t, ht, hx⟩
        simp only [h3, Int.mul_zero, Int.zero_emod] at h1
        omega
  have h1 : degI g ≤ max (degI g) 0 := Int.le_max_left _ _
  rw [sumD] at hd
  omega
end Go.Proofs.Ytphgpadpffigjaa
namespace Go.Proofs.Ytphgpadpffigjaa
open Go.RowKit Go.Sort Go.Maps

/-- The polynomial number i of a list. -/
def nthL (Ls : List (List Tm)) (i : Nat) : List Tm := Ls.getD i []
/-- The factors of what a monomial becomes (the last one first). -/
def facN (Ls : List (List Tm)) (a b c : Nat) : List (List Tm) :=
  List.replicate c (nthL Ls 2) ++ (List.replicate b (nthL Ls 1) ++ List.replicate a (nthL Ls 0))
def facL (Ls : List (List Tm)) (e : Int × Int × Int) : List (List Tm) := facN Ls e.1.toNat e.2.1.toNat e.2.2.toNat
theorem facN_c (Ls : List (List Tm)) (a b c : Nat) : facN Ls a b (c + 1) = nthL Ls 2 :: facN Ls a b c := by simp [facN, List.replicate_succ]
theorem facN_b (Ls : List (List Tm)) (a b : Nat) : facN Ls a (b + 1) 0 = nthL Ls 1 :: facN Ls a b 0 := by simp [facN, List.replicate_succ]
theorem facN_a (Ls : List (List Tm)) (a : Nat) : facN Ls (a + 1) 0 0 = nthL Ls 0 :: facN Ls a 0 0 := by simp [facN, List.replicate_succ]
theorem facN_zero (Ls : List (List Tm)) : facN Ls 0 0 0 = [] := by simp [facN]
theorem nthL_lt {Ls : List (List Tm)} {i : Nat} (h : i < Ls.length) : nthL Ls i = Ls[i] := by simp [nthL, List.getD, h]
theorem nthL_ge {Ls : List (List Tm)} {i : Nat} (h : Ls.length ≤ i) : nthL Ls i = [] := by simp [nthL, List.getD, List.getElem?_eq_none h]
/-- The degree of number i, at least 0. -/
def dgN (Ls : List (List Tm)) (i : Nat) : Int := max (degI (nthL Ls i)) 0
theorem dgN_nonneg (Ls : List (List Tm)) (i : Nat) : 0 ≤ dgN Ls i := Int.le_max_right _ _
theorem sumD_append : ∀ a b : List (List Tm), sumD (a ++ b) = sumD a + sumD b
  | [], b => by simp [sumD]
  | g :: r, b => by rw [List.cons_append, sumD, sumD, sumD_append r b, Int.add_assoc]
theorem sumD_replicate (g : List Tm) : ∀ n : Nat, sumD (List.replicate n g) = n * max (degI g) 0
  | 0 => by simp [sumD]
  | n + 1 => by
    rw [List.replicate_succ, sumD, sumD_replicate g n, Int.natCast_add, Int.add_mul]
    simp [Int.add_comm]
theorem sumD_fac (Ls : List (List Tm)) (a b c : Nat) : sumD (facN Ls a b c) = a * dgN Ls 0 + b * dgN Ls 1 + c * dgN Ls 2 := by
  unfold facN dgN
  rw [sumD_append, sumD_append, sumD_replicate, sumD_replicate, sumD_replicate]
  omega
/-- The degree bound of what a monomial becomes. -/
def bndE (Ls : List (List Tm)) (e : Int × Int × Int) : Int := e.1 * dgN Ls 0 + e.2.1 * dgN Ls 1 + e.2.2 * dgN Ls 2
theorem sumD_facL (Ls : List (List Tm)) {e : Int × Int × Int} (he : byte3 e) : sumD (facL Ls e) = bndE Ls e := by
  obtain ⟨⟨a1, a2⟩, ⟨a3, a4⟩, a5, a6⟩ := he
  unfold facL bndE
  rw [sumD_fac, Int.toNat_of_nonneg a1, Int.toNat_of_nonneg a3, Int.toNat_of_nonneg a5]
theorem fac_valid {p d : Int} {Ls : List (List Tm)} {x : List Tm} (hx : Valid p d x) (hL : ∀ g ∈ Ls, Valid p d g) (a b c : Nat) : ∀ g ∈ facN Ls a b c, Valid p d g := by
  have h0 : Valid p d [] := ⟨hx.p2, hx.p13, hx.d1, hx.d3, List.Pairwise.nil, fun t ht => by simp at ht⟩
  have hn : ∀ i, Valid p d (nthL Ls i) := fun i => by
    by_cases h : i < Ls.length
    · rw [nthL_lt h]; exact hL _ (List.getElem_mem h)
    · rw [nthL_ge (by omega)]; exact h0
  intro g hg
  simp only [facN, List.mem_append, List.mem_replicate] at hg
  rcases hg with ⟨_, rfl⟩ | ⟨_, rfl⟩ | ⟨_, rfl⟩ <;> exact hn _

/-- The coefficients of what some terms become: P tells what a monomial becomes. -/
def sumF (P : Int × Int × Int → List Tm) : List Tm → Int × Int × Int → Int
  | [], _ => 0
  | t :: r, e => t.2.2.2 * atL (P (tmE t)) e + sumF P r e
def subF (p : Int) (P : Int × Int × Int → List Tm) (xs : List Tm) (e : Int × Int × Int) : Int := sumF P xs e % p
theorem sumF_snoc (P : Int × Int × Int → List Tm) (t : Tm) (e : Int × Int × Int) : ∀ l : List Tm, sumF P (l ++ [t]) e = sumF P l e + t.2.2.2 * atL (P (tmE t)) e
  | [] => by simp [sumF]
  | u :: r => by rw [List.cons_append, sumF, sumF, sumF_snoc P t e r, Int.add_assoc]
theorem sumF_take (P : Int × Int × Int → List Tm) (xs : List Tm) (k : Nat) (h : k < xs.length) (e : Int × Int × Int) : sumF P (xs.take (k + 1)) e = sumF P (xs.take k) e + xs[k].2.2.2 * atL (P (tmE xs[k])) e := by
  rw [List.take_succ_eq_append_getElem h, sumF_snoc]
theorem subF_take (p : Int) (P : Int × Int × Int → List Tm) (xs : List Tm) (k : Nat) (h : k < xs.length) (e : Int × Int × Int) : subF p P (xs.take (k + 1)) e = (subF p P (xs.take k) e + xs[k].2.2.2 * atL (P (tmE xs[k])) e) % p := by
  unfold subF
  rw [sumF_take P xs k h, Int.emod_add_emod]
theorem subF_zero (p : Int) (P : Int × Int × Int → List Tm) (xs : List Tm) (e : Int × Int × Int) : subF p P (xs.take 0) e = 0 := by simp [subF, sumF]
/-- P tells what the monomials of xs become. -/
def Subs (p : Int) (Ls : List (List Tm)) (xs : List Tm) (P : Int × Int × Int → List Tm) : Prop := ∀ t ∈ xs, PrR p (facL Ls (tmE t)) (P (tmE t))
/-- The degree bound is kept. -/
def Bnd (Ls : List (List Tm)) (xs : List Tm) : Prop := ∀ t ∈ xs, bndE Ls (tmE t) ≤ 12
theorem subs_ex {p d d' : Int} {Ls : List (List Tm)} {xs x : List Tm} (hx : Valid p d x) (hL : ∀ g ∈ Ls, Valid p d g) (hX : Valid p d' xs) (hB : Bnd Ls xs) : ∃ P, Subs p Ls xs P := by
  have h : ∀ e : Int × Int × Int, ∃ L, (∃ t ∈ xs, tmE t = e) → PrR p (facL Ls e) L := fun e => by
    by_cases he : ∃ t ∈ xs, tmE t = e
    · obtain ⟨t, ht, rfl⟩ := he
      obtain ⟨L, hL⟩ := pr_ex hx (fs := facL Ls (tmE t)) (fac_valid hx hL _ _ _) (by rw [sumD_facL Ls (hX.mem t ht).1.1]; exact hB t ht)
      exact ⟨L, fun _ => hL⟩
    · exact ⟨[], fun h => absurd h he⟩
  obtain ⟨P, hP⟩ := Classical.axiomOfChoice h
  exact ⟨P, fun t ht => hP (tmE t) ⟨t, ht, rfl⟩⟩
theorem sumF_ne {P : Int × Int × Int → List Tm} {e : Int × Int × Int} : ∀ {xs : List Tm}, sumF P xs e ≠ 0 → ∃ t ∈ xs, atL (P (tmE t)) e ≠ 0
  | [], h => absurd rfl h
  | t :: r, h => by
    by_cases hx : atL (P (tmE t)) e = 0
    · rw [sumF, hx, Int.mul_zero, Int.zero_add] at h
      obtain ⟨u, hu, h⟩ := sumF_ne h
      exact ⟨u, by simp [hu], h⟩
    · exact ⟨t, by simp, hx⟩
theorem atL_ne_mem {L : List Tm} {e : Int × Int × Int} (h : atL L e ≠ 0) : ∃ t ∈ L, tmE t = e :=
  Classical.byContradiction fun hx => h (atL_none fun t ht he => hx ⟨t, ht, he⟩)
/-- No term of a substitution has a degree beyond the bound. -/
theorem sub_deg {p d d' : Int} {Ls : List (List Tm)} {xs x : List Tm} {P : Int × Int × Int → List Tm} (hx : Valid p d x) (hL : ∀ g ∈ Ls, Valid p d g) (hX : Valid p d' xs) (hB : Bnd Ls xs) (hP : Subs p Ls xs P) {k : Nat} {e : Int × Int × Int} (h : subF p P (xs.take k) e ≠ 0) : e.1 + e.2.1 + e.2.2 ≤ 12 := by
  have h1 : sumF P (xs.take k) e ≠ 0 := fun h0 => h (by rw [subF, h0]; simp)
  obtain ⟨t, ht, h2⟩ := sumF_ne h1
  have ht := List.mem_of_mem_take ht
  obtain ⟨u, hu, rfl⟩ := atL_ne_mem h2
  have h3 := PrR.deg (fs := facL Ls (tmE t)) (fac_valid hx hL _ _ _) (hP t ht) u hu
  rw [sumD_facL Ls (hX.mem t ht).1.1] at h3
  have := hB t ht
  show u.1 + u.2.1 + u.2.2.1 ≤ 12
  omega
/-- A sum taken with a scaled polynomial is the sum with the number. -/
theorem sub_step {p : Int} {P : Int × Int × Int → List Tm} {xs : List Tm} {k : Nat} (h : k < xs.length) {L : List Tm} (hL : ∀ e, byte3 e → atL L e = xs[k].2.2.2 * atL (P (tmE xs[k])) e % p) (e : Int × Int × Int) (he : byte3 e) : (subF p P (xs.take k) e + 1 * atL L e) % p = subF p P (xs.take (k + 1)) e := by
  rw [subF_take p P xs k h, hL e he, Int.one_mul, Int.add_emod_emod]
theorem fac_pos_c {Ls : List (List Tm)} {x y z : Int} (hz : 0 < z) : facL Ls (x, y, z) = nthL Ls 2 :: facL Ls (x, y, z - 1) := by
  unfold facL
  simp only []
  rw [show z.toNat = (z - 1).toNat + 1 by omega, facN_c]
theorem fac_pos_b {Ls : List (List Tm)} {x y : Int} (hy : 0 < y) : facL Ls (x, y, 0) = nthL Ls 1 :: facL Ls (x, y - 1, 0) := by
  unfold facL
  simp only []
  rw [show y.toNat = (y - 1).toNat + 1 by omega]
  exact facN_b Ls _ _
theorem fac_pos_a {Ls : List (List Tm)} {x : Int} (hx : 0 < x) : facL Ls (x, 0, 0) = nthL Ls 0 :: facL Ls (x - 1, 0, 0) := by
  unfold facL
  simp only []
  rw [show x.toNat = (x - 1).toNat + 1 by omega]
  exact facN_a Ls _
theorem fac_zero (Ls : List (List Tm)) : facL Ls (0, 0, 0) = [] := facN_zero Ls
end Go.Proofs.Ytphgpadpffigjaa
namespace Go.Proofs.Ytphgpadpffigjaa
open Go.RowKit Go.Sort Go.Maps

/-- The exponent number k. -/
def nthE (e : Int × Int × Int) (k : Nat) : Int := if k = 0 then e.1 else if k = 1 then e.2.1 else if k = 2 then e.2.2 else 0
theorem nthE_bound {e : Int × Int × Int} (h : mono12 e) (k : Nat) : 0 ≤ nthE e k ∧ nthE e k ≤ 12 := by
  obtain ⟨⟨⟨a1, _⟩, ⟨a2, _⟩, a3, _⟩, a4⟩ := h
  unfold nthE
  repeat' split
  all_goals omega
/-- The degree bound of the first k letters. -/
def bndK (Ls : List (List Tm)) (e : Int × Int × Int) : Nat → Int
  | 0 => 0
  | k + 1 => bndK Ls e k + nthE e k * dgN Ls k
theorem dgN_ge {Ls : List (List Tm)} {i : Nat} (h : Ls.length ≤ i) : dgN Ls i = 0 := by
  unfold dgN
  rw [nthL_ge h]
  rfl
theorem bndK_full {Ls : List (List Tm)} (h1 : 1 ≤ Ls.length) (h3 : Ls.length ≤ 3) (e : Int × Int × Int) : bndK Ls e Ls.length = bndE Ls e := by
  have hx : Ls.length = 1 ∨ Ls.length = 2 ∨ Ls.length = 3 := by omega
  rcases hx with h | h | h
  · have d1 := dgN_ge (Ls := Ls) (i := 1) (by omega)
    have d2 := dgN_ge (Ls := Ls) (i := 2) (by omega)
    rw [h]
    simp [bndK, bndE, nthE, d1, d2]
  · have d2 := dgN_ge (Ls := Ls) (i := 2) (by omega)
    rw [h]
    simp [bndK, bndE, nthE, d2]
  · rw [h]
    simp [bndK, bndE, nthE]
theorem bndK_bound {Ls : List (List Tm)} {e : Int × Int × Int} (he : mono12 e) (hd : ∀ i, dgN Ls i ≤ 12) : ∀ k : Nat, 0 ≤ bndK Ls e k ∧ bndK Ls e k ≤ 144 * (k : Int)
  | 0 => ⟨by simp [bndK], by simp [bndK]⟩
  | k + 1 => by
    obtain ⟨h0, h1⟩ := bndK_bound he hd k
    obtain ⟨a0, a1⟩ := nthE_bound he k
    have d0 := dgN_nonneg Ls k
    have m0 : 0 ≤ nthE e k * dgN Ls k := Int.mul_nonneg a0 d0
    have m1 : nthE e k * dgN Ls k ≤ 12 * 12 := Int.mul_le_mul a1 (hd k) d0 (by omega)
    rw [bndK]
    omega
/-- The terms of a list's polynomials. -/
def tmsL (G : List Pm) : List (List Tm) := G.map fun g => g.2.2
theorem tmsL_len (G : List Pm) : (tmsL G).length = G.length := by simp [tmsL]
theorem tmsL_nth {G : List Pm} {i : Nat} (h : i < G.length) : nthL (tmsL G) i = G[i].2.2 := by
  rw [nthL_lt (by rw [tmsL_len]; exact h)]
  simp [tmsL]
/-- The code of a substitution. -/
def subsC (p d : Int) (xs : List Tm) (G : List Pm) : Int :=
  if (isPolyB p d xs && G.all isPm) = true then
    (if (decide ((G.length : Int) = d) && G.all (likeT p (hdP G))) = true then
      (if xs.all (fun t => decide (bndE (tmsL G) (tmE t) ≤ 12)) = true then 0 else 3) else 2) else 1
theorem isPm_valid {g : Pm} (hok : PmOk g) (h : isPm g = true) : Valid g.1 g.2.1 g.2.2 := valid_of h hok.1
theorem dg_bound {G : List Pm} (hok : ∀ g ∈ G, PmOk g) (hp : G.all isPm = true) (i : Nat) : dgN (tmsL G) i ≤ 12 := by
  by_cases h : i < G.length
  · unfold dgN
    rw [tmsL_nth h]
    have hv := isPm_valid (hok _ (List.getElem_mem h)) (List.all_eq_true.1 hp _ (List.getElem_mem h))
    exact (max_deg hv).2
  · rw [dgN_ge (by rw [tmsL_len]; omega)]
    omega
end Go.Proofs.Ytphgpadpffigjaa
namespace Go.Proofs.Ytphgpadpffigjaa
open Go.RowKit Go.Sort

theorem lnv_any (g : Pm) (v : Value) (w : World) (_hJ : True) (hok : PmOk g) (hS : SliceT w v g.2.2) :
    Calls Try.prog 119 #[.agg #[.int .i64 g.1, .int .i64 g.2.1, v]] w fun e w' => e = .returned (.bool (!isPm g)) ∧ Below w.heap.size w w' := by
  obtain ⟨p, d, ts⟩ := g
  obtain ⟨hby, hl⟩ := hok
  simp only at hby hl hS ⊢
  obtain ⟨a, cap, rfl, _⟩ := id hS
  obtain ⟨V, hV1, hbV, _, rq⟩ := newbox w p d (.slice a ts.length cap)
  obtain ⟨⟨c0, c1, c2⟩, _⟩ := poly3 rq
  have HC := Lib.hid (isPoly_any p d _ ts V hl (hS.below hbV) hby)
  obtain ⟨B, hB⟩ : ∃ B, isPolyB p d ts = B := ⟨_, rfl⟩
  have HB : Hid (isPm (p, d, ts) = B) := Lib.hid hB
  rw [hB] at HC
  clear hby hS hB
  go_enter Try.func119, Try.ntmps119
  go_wp2_with fail
  rw [← hV1]
  clear hV1
  ((with_reducible refine HC.out.mono ?_); rintro e w1 ⟨rfl, hb1⟩)
  have hend := hbV.trans (hb1.mono hbV.size)
  go_wp2
  go_ret
  exact ⟨by rw [HB.out]; rfl, hend⟩

set_option maxHeartbeats 1000000 in
theorem liidx_some (b off cap : Nat) (G : List Pm) (w : World) (hJ : True) (hbb : b < w.heap.size) (hl : G.length ≤ 1048576) (hok : ∀ g ∈ G, PmOk g) (hT : PolysW w b off G) (j : Nat) (hj : j < G.length) (hn : isPm G[j] = false) (hp : ∀ (i : Nat) (h : i < G.length), i < j → isPm G[i] = true) :
    Calls Try.prog 123 #[.slice (some ⟨b, off, none⟩) G.length cap, .func (.func 119) #[] #[]] w fun e w' => e = .returned (.int .i64 j) ∧ Below w.heap.size w w' := by
  have HN := Lib.hid hn
  have HP := Lib.hid hp
  have HOK := Lib.hid hok
  have HT := Lib.hid hT
  have HJ := Lib.hid (fun (w' : World) (hb : Below w.heap.size w w') => (by exact hJ : True))
  clear hn hp hok hT hJ
  go_enter Try.func123, Try.ntmps123
  go_wp2
  go_loopw [8] (fun i wr => ∃ k : Nat, k ≤ j ∧ i = .int .i64 k ∧ Below w.heap.size w wr) (fun i _ => G.length - (intOf i).toNat)
  case atStart => exact ⟨0, by omega, rfl, Below.refl _ _⟩
  case round =>
    obtain ⟨k, hk, rfl, hbr⟩ := hrel
    have hlt : k < G.length := by omega
    have hlt' : (k : Int) < (G.length : Int) := by omega
    obtain ⟨u, c0, c1, c2, s0⟩ := (HT.out.below hbr hbb) k hlt
    have HC := Lib.hid (lnv_any  G[k] u wr (HJ.out wr hbr) (HOK.out _ (List.getElem_mem hlt)) s0)
    clear s0
    by_cases e : k = j
    · subst e
      go_wp2_with fail
      ((with_reducible refine HC.out.mono ?_); rintro e w1 ⟨rfl, hb1⟩)
      have hend := hbr.trans (hb1.mono hbr.size)
      rw [HN.out]
      go_wp2
      go_ret
      exact ⟨rfl, hend⟩
    · have h0 := Lib.hid (HP.out k hlt (by omega))
      go_wp2_with fail
      ((with_reducible refine HC.out.mono ?_); rintro e w1 ⟨rfl, hb1⟩)
      have hend := hbr.trans (hb1.mono hbr.size)
      rw [h0.out]
      go_wp2
      go_roundw
      case rel => exact ⟨k + 1, by omega, by go_num, hend⟩
      case measure => simp [intOf]; omega

set_option maxHeartbeats 1000000 in
theorem liidx_none (a : Option Addr) (cap : Nat) (G : List Pm) (w : World) (hJ : True) (hl : G.length ≤ 1048576) (hok : ∀ g ∈ G, PmOk g) (hS : G = [] ∨ ∃ b off, a = some ⟨b, off, none⟩ ∧ b < w.heap.size ∧ PolysW w b off G) (hp : ∀ (i : Nat) (h : i < G.length), isPm G[i] = true) :
    Calls Try.prog 123 #[.slice a G.length cap, .func (.func 119) #[] #[]] w fun e w' => e = .returned (.int .i64 (-1)) ∧ Below w.heap.size w w' := by
  have HP := Lib.hid hp
  have HOK := Lib.hid hok
  have HJ := Lib.hid (fun (w' : World) (hb : Below w.heap.size w w') => (by exact hJ : True))
  clear hp hok hJ
  go_enter Try.func123, Try.ntmps123
  go_wp2
  go_loopw [8] (fun i wr => ∃ k : Nat, k ≤ G.length ∧ i = .int .i64 k ∧ Below w.heap.size w wr) (fun i _ => G.length - (intOf i).toNat)
  case atStart => exact ⟨0, by omega, rfl, Below.refl _ _⟩
  case round =>
    obtain ⟨k, hk, rfl, hbr⟩ := hrel
    by_cases hlt : k < G.length
    · have hlt' : (k : Int) < (G.length : Int) := by omega
      obtain ⟨b, off, rfl, hbb, hT⟩ : ∃ b off, a = some ⟨b, off, none⟩ ∧ b < w.heap.size ∧ PolysW w b off G := by
        rcases hS with rfl | h
        · simp at hlt
        · exact h
      obtain ⟨u, c0, c1, c2, s0⟩ := (hT.below hbr hbb) k hlt
      have HC := Lib.hid (lnv_any  G[k] u wr (HJ.out wr hbr) (HOK.out _ (List.getElem_mem hlt)) s0)
      have h0 := Lib.hid (HP.out k hlt)
      clear s0 hT
      go_wp2_with fail
      ((with_reducible refine HC.out.mono ?_); rintro e w1 ⟨rfl, hb1⟩)
      have hend := hbr.trans (hb1.mono hbr.size)
      rw [h0.out]
      go_wp2
      go_roundw
      case rel => exact ⟨k + 1, by omega, by go_num, hend⟩
      case measure => simp [intOf]; omega
    · obtain rfl : k = G.length := by omega
      go_wp2
      go_ret
      exact ⟨rfl, hbr⟩

theorem licontains (v : Value) (G : List Pm) (w : World) (hJ : True) (hl : G.length ≤ 1048576) (hok : ∀ g ∈ G, PmOk g) (hS : SlP w v G) :
    Calls Try.prog 91 #[v, .func (.func 119) #[] #[]] w fun e w' => e = .returned (.bool (!G.all isPm)) ∧ Below w.heap.size w w' := by
  obtain ⟨a, cap, rfl, hc⟩ := hS
  cases h : G.all isPm
  · obtain ⟨j, hj, hn, hp⟩ := first_outP isPm G h
    obtain ⟨b, off, rfl, hbb, hT⟩ : ∃ b off, a = some ⟨b, off, none⟩ ∧ b < w.heap.size ∧ PolysW w b off G := by
      rcases hc with rfl | h
      · simp at hj
      · exact h
    have HC := Lib.hid (liidx_some  b off cap G w hJ hbb hl hok hT j hj hn hp)
    clear h hc hn hp hok hT hJ
    go_enter Try.func91, Try.ntmps91
    go_wp2_with fail
    ((with_reducible refine HC.out.mono ?_); rintro e w1 ⟨rfl, hb1⟩)
    go_wp2
    go_ret
    exact ⟨rfl, hb1⟩
  · have hp : ∀ (i : Nat) (hi : i < G.length), isPm G[i] = true := fun i hi => List.all_eq_true.1 h _ (List.getElem_mem hi)
    have HC := Lib.hid (liidx_none  a cap G w hJ hl hok hc hp)
    clear h hp hok hc hJ
    go_enter Try.func91, Try.ntmps91
    go_wp2_with fail
    ((with_reducible refine HC.out.mono ?_); rintro e w1 ⟨rfl, hb1⟩)
    go_wp2
    go_ret
    exact ⟨rfl, hb1⟩
end Go.Proofs.Ytphgpadpffigjaa
namespace Go.Proofs.Ytphgpadpffigjaa
open Go.RowKit Go.Sort


end Go.Proofs.Ytphgpadpffigjaa
namespace Go.Proofs.Ytphgpadpffigjaa
open Go.RowKit Go.Sort

theorem first_cells {w : World} {b off : Nat} {ts : List Tm} (hT : Terms w b off ts) (t : Tm) (h : ts[0]? = some t) :
    w.cell? ⟨b, off, none⟩ = some (.int .u8 t.1) ∧ w.cell? ⟨b, off + 1, none⟩ = some (.int .u8 t.2.1) ∧ w.cell? ⟨b, off + 2, none⟩ = some (.int .u8 t.2.2.1) := by
  obtain ⟨hl, rfl⟩ := List.getElem?_eq_some_iff.1 h
  obtain ⟨h0, h1, h2, _⟩ := hT 0 hl
  simp only [Nat.zero_mul, Nat.add_zero] at h0 h1 h2
  exact ⟨h0, h1, h2⟩

theorem even_nil (p d : Int) (a : Option Addr) (cap : Nat) (w : World) :
    Calls Try.prog 118 #[.agg #[.int .i64 p, .int .i64 d, .slice a 0 cap]] w fun e w' => e = .returned (.bool true) ∧ Below w.heap.size w w' := by
  obtain ⟨W, hW, hbW, x0, x1, x2⟩ : ∃ W, W = w.alloc (.cells #[.int .i64 p, .int .i64 d, .slice a 0 cap] 36) ∧ Below w.heap.size w W ∧
      W.cell? ⟨w.heap.size, 0, none⟩ = some (.int .i64 p) ∧ W.cell? ⟨w.heap.size, 1, none⟩ = some (.int .i64 d) ∧ W.cell? ⟨w.heap.size, 2, none⟩ = some (.slice a 0 cap) :=
    ⟨_, rfl, box1 _ _, by go_simp, by go_simp, by go_simp⟩
  have y0 := cell_regrown x0
  have y1 := cell_regrown x1
  have y2 := cell_regrown x2
  go_enter Try.func118, Try.ntmps118
  go_wp2
  rw [← hW]
  clear hW
  refine wp_region_quiet_below (by kernel_rfl) (by kernel_rfl) ?_
  repeat (go_big_quiet_step (fail))
  refine wpQuiet_nil ?_
  intro _ hw'
  obtain ⟨⟨dq, osq⟩, hw''⟩ := hw'
  subst hw''
  go_wp2
  go_ret
  exact ⟨rfl, hbW.trans ((below_regrown W dq osq).mono hbW.size)⟩

set_option maxHeartbeats 1000000 in
theorem even_some (p d : Int) (b off cap n : Nat) (ts : List Tm) (t : Tm) (w : World) (hn : ts.length = n + 1) (hl : n ≤ 1048575) (hlt : b < w.heap.size) (hT : Terms w b off ts) (hby : ∀ t ∈ ts, tmByte t) (ht : ts[0]? = some t) :
    Calls Try.prog 118 #[.agg #[.int .i64 p, .int .i64 d, .slice (some ⟨b, off, none⟩) (n + 1) cap]] w fun e w' => e = .returned (.bool (sumT t == degI ts)) ∧ Below w.heap.size w w' := by
  have h0 : ((n : Int) + 1 == 0) = false := by simp; omega
  obtain ⟨⟨bx, by1, bz⟩, _⟩ := hby t (List.mem_of_getElem? ht)
  obtain ⟨W, hW, hbW, x0, x1, x2⟩ : ∃ W, W = w.alloc (.cells #[.int .i64 p, .int .i64 d, .slice (some ⟨b, off, none⟩) (n + 1) cap] 36) ∧ Below w.heap.size w W ∧
      W.cell? ⟨w.heap.size, 0, none⟩ = some (.int .i64 p) ∧ W.cell? ⟨w.heap.size, 1, none⟩ = some (.int .i64 d) ∧ W.cell? ⟨w.heap.size, 2, none⟩ = some (.slice (some ⟨b, off, none⟩) (n + 1) cap) :=
    ⟨_, rfl, box1 _ _, by go_simp, by go_simp, by go_simp⟩
  have y0 := cell_regrown x0
  have y1 := cell_regrown x1
  have y2 := cell_regrown x2
  obtain ⟨c0, c1, c2⟩ := first_cells (hT.below hbW hlt) t ht
  have e0 := cell_regrown c0
  have e1 := cell_regrown c1
  have e2 := cell_regrown c2
  have hS : SliceT W (.slice (some ⟨b, off, none⟩) (n + 1) cap) ts := SliceT.below (by rw [← hn]; exact ⟨_, cap, rfl, .inr ⟨b, off, rfl, hlt, hT⟩⟩) hbW
  have hl2 : ts.length ≤ 1048576 := by omega
  have cS := sum_regrown t.1 t.2.1 t.2.2.1 W bx by1 bz
  have cD : ∀ dd os, Calls Try.prog 43 #[.agg #[.int .i64 p, .int .i64 d, .slice (some ⟨b, off, none⟩) (n + 1) cap]] (grow (redrawn W dd) os) fun e w'' => e = .returned (.int .i64 (degI ts)) ∧ ∃ p : Regrown, w'' = grow (redrawn W p.d) p.os :=
    fun dd os => Calls.regrown_of (specDegree_any p d _ ts _ hl2 (hS.below (below_regrown W dd os)) hby)
  have HN := Lib.hid hn
  clear hn c0 c1 c2
  go_enter Try.func118, Try.ntmps118
  go_wp2
  rw [← hW]
  clear hW
  refine wp_region_quiet_below (by kernel_rfl) (by kernel_rfl) ?_
  repeat (go_big_quiet_step (first | with_reducible exact cS _ _ | with_reducible exact cD _ _))
  refine wpQuiet_nil ?_
  intro _ hw'
  obtain ⟨⟨dq, osq⟩, hw''⟩ := hw'
  subst hw''
  go_wp2
  go_ret
  exact ⟨rfl, hbW.trans ((below_regrown W dq osq).mono hbW.size)⟩

theorem even_any (p d : Int) (v : Value) (ts : List Tm) (w : World) (hl : ts.length ≤ 1048576) (hS : SliceT w v ts) (hby : ∀ t ∈ ts, tmByte t) :
    Calls Try.prog 118 #[.agg #[.int .i64 p, .int .i64 d, v]] w fun e w' => e = .returned (.bool (evenB ts)) ∧ Below w.heap.size w w' := by
  obtain ⟨a, cap, rfl, h⟩ := hS
  cases ts with
  | nil => exact even_nil p d a cap w
  | cons t r =>
    rcases h with h | ⟨b, off, rfl, hlt, hT⟩
    · cases h
    · exact even_some p d b off cap r.length (t :: r) t w rfl (by simp at hl; omega) hlt hT hby rfl

/-- What 'IsHomogeneous' gives. -/
def homB (p d : Int) (ts : List Tm) : Bool := isPolyB p d ts && evenB ts

set_option maxHeartbeats 1000000 in
theorem implHom_nil (p d : Int) (a : Option Addr) (cap : Nat) (w : World) :
    Calls Try.prog 121 #[.agg #[.int .i64 p, .int .i64 d, .slice a 0 cap]] w fun e w' => e = .returned (.tuple #[.bool (homB p d []), .int .i64 (polyC p d [])]) ∧ Below w.heap.size w w' := by
  have h1 : ∀ o, SliceT (w.alloc o) (.slice a 0 cap) [] := fun o => ⟨a, cap, rfl, .inl rfl⟩
  have hby : ∀ t ∈ ([] : List Tm), tmByte t := fun t h => by simp at h
  go_enter Try.func121, Try.ntmps121
  go_wp2_with fail
  ((with_reducible refine (isPoly_any p d _ [] _ (by simp) (h1 _) hby).mono ?_); rintro e w1 ⟨rfl, hb⟩)
  obtain ⟨hc, hf⟩ := old_cells hb
  have hz : w.heap.size < w1.heap.size := by have := hb.size; simp at this; omega
  have hb0 := (box1 _ _).trans (hb.mono (by simp))
  clear hb h1
  generalize hB : isPolyB p d [] = B
  have HB := Lib.hid hB
  clear hB
  cases B
  · go_wp2
    go_ret2
    exact ⟨by simp [homB, polyC, HB.out], hb0⟩
  · have y0 := cell_regrown ((hc w.heap.size 0 (by simp)).trans (by go_simp : _ = some (.int .i64 p)))
    have y1 := cell_regrown ((hc w.heap.size 1 (by simp)).trans (by go_simp : _ = some (.int .i64 d)))
    have y2 := cell_regrown ((hc w.heap.size 2 (by simp)).trans (by go_simp : _ = some (.slice a 0 cap)))
    go_wp2
    refine wp_region_quiet_below (by kernel_rfl) (by kernel_rfl) ?_
    repeat (go_big_quiet_step (fail))
    refine wpQuiet_nil ?_
    intro _ hw'
    obtain ⟨⟨dq, osq⟩, hw''⟩ := hw'
    subst hw''
    go_wp2
    go_ret2
    exact ⟨by simp [homB, polyC, HB.out, evenB], hb0.trans ((below_regrown w1 dq osq).mono hb0.size)⟩

set_option maxHeartbeats 1000000 in
theorem implHom_some (p d : Int) (b off cap n : Nat) (ts : List Tm) (t : Tm) (w : World) (hn : ts.length = n + 1) (hl : n ≤ 1048575) (hlt : b < w.heap.size) (hT : Terms w b off ts) (hby : ∀ t ∈ ts, tmByte t) (ht : ts[0]? = some t) :
    Calls Try.prog 121 #[.agg #[.int .i64 p, .int .i64 d, .slice (some ⟨b, off, none⟩) (n + 1) cap]] w fun e w' => e = .returned (.tuple #[.bool (isPolyB p d ts && (sumT t == degI ts)), .int .i64 (polyC p d ts)]) ∧ Below w.heap.size w w' := by
  have h0 : ((n : Int) + 1 == 0) = false := by simp; omega
  obtain ⟨⟨bx, by1, bz⟩, _⟩ := hby t (List.mem_of_getElem? ht)
  have hS : ∀ o, SliceT (w.alloc o) (.slice (some ⟨b, off, none⟩) (n + 1) cap) ts := fun o => SliceT.below (by rw [← hn]; exact ⟨_, cap, rfl, .inr ⟨b, off, rfl, hlt, hT⟩⟩) (box1 _ _)
  have hl2 : ts.length ≤ 1048576 := by omega
  have HN := Lib.hid hn
  clear hn
  go_enter Try.func121, Try.ntmps121
  go_wp2_with fail
  ((with_reducible refine (isPoly_any p d _ ts _ hl2 (hS _) hby).mono ?_); rintro e w1 ⟨rfl, hb⟩)
  obtain ⟨hc, hf⟩ := old_cells hb
  have hz : w.heap.size < w1.heap.size := by have := hb.size; simp at this; omega
  have hS1 := (hS _).below hb
  have hb0 := (box1 _ _).trans (hb.mono (by simp))
  obtain ⟨c0, c1, c2⟩ := first_cells (hT.below hb0 hlt) t ht
  clear hb hS
  generalize hB : isPolyB p d ts = B
  have HB := Lib.hid hB
  clear hB
  cases B
  · go_wp2
    go_ret2
    exact ⟨by simp [polyC, HB.out], hb0⟩
  · have hcs : capd (sumT t) = sumT t := by unfold capd; rw [if_pos (polyB_sum HB.out t (List.mem_of_getElem? ht))]
    have HC : Hid (capd (t.1 + t.2.1 + t.2.2.1) = sumT t) := Lib.hid hcs
    clear hcs
    have y0 := cell_regrown ((hc w.heap.size 0 (by simp)).trans (by go_simp : _ = some (.int .i64 p)))
    have y1 := cell_regrown ((hc w.heap.size 1 (by simp)).trans (by go_simp : _ = some (.int .i64 d)))
    have y2 := cell_regrown ((hc w.heap.size 2 (by simp)).trans (by go_simp : _ = some (.slice (some ⟨b, off, none⟩) (n + 1) cap)))
    have e0 := cell_regrown c0
    have e1 := cell_regrown c1
    have e2 := cell_regrown c2
    have cS : ∀ dd os, Calls Try.prog 122 #[.slice (some ⟨b, off, none⟩) 3 3] (grow (redrawn w1 dd) os) fun e w'' => e = .returned (.int .i64 (sumT t)) ∧ ∃ p : Regrown, w'' = grow (redrawn w1 p.d) p.os := fun dd os => by
      rw [← HC.out]; exact regrown_same (capped_any _ _ _ t.1 t.2.1 t.2.2.1 _ bx by1 bz (e0 dd os) (e1 dd os) (e2 dd os))
    have cD : ∀ dd os, Calls Try.prog 86 #[.agg #[.int .i64 p, .int .i64 d, .slice (some ⟨b, off, none⟩) (n + 1) cap]] (grow (redrawn w1 dd) os) fun e w'' => e = .returned (.int .i64 (degI ts)) ∧ ∃ p : Regrown, w'' = grow (redrawn w1 p.d) p.os :=
      fun dd os => Calls.regrown_of (degree_any2 p d _ ts _ hl2 (hS1.below (below_regrown w1 dd os)) hby (polyB_sum HB.out))
    clear c0 c1 c2
    go_wp2
    refine wp_region_quiet_below (by kernel_rfl) (by kernel_rfl) ?_
    repeat (go_big_quiet_step (first | with_reducible exact cS _ _ | with_reducible exact cD _ _))
    refine wpQuiet_nil ?_
    intro _ hw'
    obtain ⟨⟨dq, osq⟩, hw''⟩ := hw'
    subst hw''
    go_wp2
    go_ret2
    exact ⟨by simp [polyC, HB.out], hb0.trans ((below_regrown w1 dq osq).mono hb0.size)⟩

theorem implHom (p d : Int) (v : Value) (ts : List Tm) (w : World) (hl : ts.length ≤ 1048576) (hS : SliceT w v ts) (hby : ∀ t ∈ ts, tmByte t) :
    Calls Try.prog 121 #[.agg #[.int .i64 p, .int .i64 d, v]] w fun e w' => e = .returned (.tuple #[.bool (homB p d ts), .int .i64 (polyC p d ts)]) ∧ Below w.heap.size w w' := by
  obtain ⟨a, cap, rfl, h⟩ := hS
  cases ts with
  | nil => exact implHom_nil p d a cap w
  | cons t r =>
    rcases h with h | ⟨b, off, rfl, hlt, hT⟩
    · cases h
    · exact implHom_some p d b off cap r.length (t :: r) t w rfl (by simp at hl; omega) hlt hT hby rfl
end Go.Proofs.Ytphgpadpffigjaa
