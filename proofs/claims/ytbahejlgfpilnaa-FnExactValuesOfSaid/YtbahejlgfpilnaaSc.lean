/-
  SUBSTITUTIONS, in plain mathematics: the factors of what a monomial becomes, and the sum of what all terms become. Conditions: as each theorem states.
-/
import Derived.Test.YtbahejlgfpilnaaSb
namespace Go.Proofs.Ytbahejlgfpilnaa
open Go.RowKit Go.Sort Go.Maps

/-- The polynomial number i of a list. -/
def nthL (Ls : List (List Tm)) (i : Nat) : List Tm := Ls.getD i []
/-- The factors of what a monomial becomes (the last one first). -/
def facN (Ls : List (List Tm)) (a b c : Nat) : List (List Tm) :=
  List.replicate c (nthL Ls 2) ++ (List.replicate b (nthL Ls 1) ++ List.replicate a (nthL Ls 0))
def facL (Ls : List (List Tm)) (e : Int × Int × Int) : List (List Tm) := facN Ls e.1.toNat e.2.1.toNat e.2.2.toNat
theorem facN_c (Ls : List (List Tm)) (a b c : Nat) : facN Ls a b (c + 1) = nthL Ls 2 :: facN Ls a b c := by simp [facN, List.replicate_succ]
theorem facN_b (Ls : List (List Tm)) (a b : Nat) : facN Ls a (b + 1) 0 = nthL Ls 1 :: facN Ls a b 0 := by simp [facN, List.replicate_succ]
theorem facN_a (Ls : List (List Tm)) (a : Nat) : facN Ls (a + 1) 0 0 = nthL Ls 0 :: facN Ls a 0 0 := by simp [facN, List.replicate_succ]
theorem facN_zero (Ls : List (List Tm)) : facN Ls 0 0 0 = [] := by simp [facN]
theorem nthL_lt {Ls : List (List Tm)} {i : Nat} (h : i < Ls.length) : nthL Ls i = Ls[i] := by simp [nthL, List.getD, h]
theorem nthL_ge {Ls : List (List Tm)} {i : Nat} (h : Ls.length ≤ i) : nthL Ls i = [] := by simp [nthL, List.getD, List.getElem?_eq_none h]
/-- The degree of number i, at least 0. -/
def dgN (Ls : List (List Tm)) (i : Nat) : Int := max (degI (nthL Ls i)) 0
theorem dgN_nonneg (Ls : List (List Tm)) (i : Nat) : 0 ≤ dgN Ls i := Int.le_max_right _ _
theorem sumD_append : ∀ a b : List (List Tm), sumD (a ++ b) = sumD a + sumD b
  | [], b => by simp [sumD]
  | g :: r, b => by rw [List.cons_append, sumD, sumD, sumD_append r b, Int.add_assoc]
theorem sumD_replicate (g : List Tm) : ∀ n : Nat, sumD (List.replicate n g) = n * max (degI g) 0
  | 0 => by simp [sumD]
  | n + 1 => by
    rw [List.replicate_succ, sumD, sumD_replicate g n, Int.natCast_add, Int.add_mul]
    simp [Int.add_comm]
theorem sumD_fac (Ls : List (List Tm)) (a b c : Nat) : sumD (facN Ls a b c) = a * dgN Ls 0 + b * dgN Ls 1 + c * dgN Ls 2 := by
  unfold facN dgN
  rw [sumD_append, sumD_append, sumD_replicate, sumD_replicate, sumD_replicate]
  omega
/-- The degree bound of what a monomial becomes. -/
def bndE (Ls : List (List Tm)) (e : Int × Int × Int) : Int := e.1 * dgN Ls 0 + e.2.1 * dgN Ls 1 + e.2.2 * dgN Ls 2
theorem sumD_facL (Ls : List (List Tm)) {e : Int × Int × Int} (he : byte3 e) : sumD (facL Ls e) = bndE Ls e := by
  obtain ⟨⟨a1, a2⟩, ⟨a3, a4⟩, a5, a6⟩ := he
  unfold facL bndE
  rw [sumD_fac, Int.toNat_of_nonneg a1, Int.toNat_of_nonneg a3, Int.toNat_of_nonneg a5]
theorem fac_valid {p d : Int} {Ls : List (List Tm)} {x : List Tm} (hx : Valid p d x) (hL : ∀ g ∈ Ls, Valid p d g) (a b c : Nat) : ∀ g ∈ facN Ls a b c, Valid p d g := by
  have h0 : Valid p d [] := ⟨hx.p2, hx.p13, hx.d1, hx.d3, List.Pairwise.nil, fun t ht => by simp at ht⟩
  have hn : ∀ i, Valid p d (nthL Ls i) := fun i => by
    by_cases h : i < Ls.length
    · rw [nthL_lt h]; exact hL _ (List.getElem_mem h)
    · rw [nthL_ge (by omega)]; exact h0
  intro g hg
  simp only [facN, List.mem_append, List.mem_replicate] at hg
  rcases hg with ⟨_, rfl⟩ | ⟨_, rfl⟩ | ⟨_, rfl⟩ <;> exact hn _

/-- The coefficients of what some terms become: P tells what a monomial becomes. -/
def sumF (P : Int × Int × Int → List Tm) : List Tm → Int × Int × Int → Int
  | [], _ => 0
  | t :: r, e => t.2.2.2 * atL (P (tmE t)) e + sumF P r e
def subF (p : Int) (P : Int × Int × Int → List Tm) (xs : List Tm) (e : Int × Int × Int) : Int := sumF P xs e % p
theorem sumF_snoc (P : Int × Int × Int → List Tm) (t : Tm) (e : Int × Int × Int) : ∀ l : List Tm, sumF P (l ++ [t]) e = sumF P l e + t.2.2.2 * atL (P (tmE t)) e
  | [] => by simp [sumF]
  | u :: r => by rw [List.cons_append, sumF, sumF, sumF_snoc P t e r, Int.add_assoc]
theorem sumF_take (P : Int × Int × Int → List Tm) (xs : List Tm) (k : Nat) (h : k < xs.length) (e : Int × Int × Int) : sumF P (xs.take (k + 1)) e = sumF P (xs.take k) e + xs[k].2.2.2 * atL (P (tmE xs[k])) e := by
  rw [List.take_succ_eq_append_getElem h, sumF_snoc]
theorem subF_take (p : Int) (P : Int × Int × Int → List Tm) (xs : List Tm) (k : Nat) (h : k < xs.length) (e : Int × Int × Int) : subF p P (xs.take (k + 1)) e = (subF p P (xs.take k) e + xs[k].2.2.2 * atL (P (tmE xs[k])) e) % p := by
  unfold subF
  rw [sumF_take P xs k h, Int.emod_add_emod]
theorem subF_zero (p : Int) (P : Int × Int × Int → List Tm) (xs : List Tm) (e : Int × Int × Int) : subF p P (xs.take 0) e = 0 := by simp [subF, sumF]
/-- P tells what the monomials of xs become. -/
def Subs (p : Int) (Ls : List (List Tm)) (xs : List Tm) (P : Int × Int × Int → List Tm) : Prop := ∀ t ∈ xs, PrR p (facL Ls (tmE t)) (P (tmE t))
/-- The degree bound is kept. -/
def Bnd (Ls : List (List Tm)) (xs : List Tm) : Prop := ∀ t ∈ xs, bndE Ls (tmE t) ≤ 12
theorem subs_ex {p d d' : Int} {Ls : List (List Tm)} {xs x : List Tm} (hx : Valid p d x) (hL : ∀ g ∈ Ls, Valid p d g) (hX : Valid p d' xs) (hB : Bnd Ls xs) : ∃ P, Subs p Ls xs P := by
  have h : ∀ e : Int × Int × Int, ∃ L, (∃ t ∈ xs, tmE t = e) → PrR p (facL Ls e) L := fun e => by
    by_cases he : ∃ t ∈ xs, tmE t = e
    · obtain ⟨t, ht, rfl⟩ := he
      obtain ⟨L, hL⟩ := pr_ex hx (fs := facL Ls (tmE t)) (fac_valid hx hL _ _ _) (by rw [sumD_facL Ls (hX.mem t ht).1.1]; exact hB t ht)
      exact ⟨L, fun _ => hL⟩
    · exact ⟨[], fun h => absurd h he⟩
  obtain ⟨P, hP⟩ := Classical.axiomOfChoice h
  exact ⟨P, fun t ht => hP (tmE t) ⟨t, ht, rfl⟩⟩
theorem sumF_ne {P : Int × Int × Int → List Tm} {e : Int × Int × Int} : ∀ {xs : List Tm}, sumF P xs e ≠ 0 → ∃ t ∈ xs, atL (P (tmE t)) e ≠ 0
  | [], h => absurd rfl h
  | t :: r, h => by
    by_cases hx : atL (P (tmE t)) e = 0
    · rw [sumF, hx, Int.mul_zero, Int.zero_add] at h
      obtain ⟨u, hu, h⟩ := sumF_ne h
      exact ⟨u, by simp [hu], h⟩
    · exact ⟨t, by simp, hx⟩
theorem atL_ne_mem {L : List Tm} {e : Int × Int × Int} (h : atL L e ≠ 0) : ∃ t ∈ L, tmE t = e :=
  Classical.byContradiction fun hx => h (atL_none fun t ht he => hx ⟨t, ht, he⟩)
/-- No term of a substitution has a degree beyond the bound. -/
theorem sub_deg {p d d' : Int} {Ls : List (List Tm)} {xs x : List Tm} {P : Int × Int × Int → List Tm} (hx : Valid p d x) (hL : ∀ g ∈ Ls, Valid p d g) (hX : Valid p d' xs) (hB : Bnd Ls xs) (hP : Subs p Ls xs P) {k : Nat} {e : Int × Int × Int} (h : subF p P (xs.take k) e ≠ 0) : e.1 + e.2.1 + e.2.2 ≤ 12 := by
  have h1 : sumF P (xs.take k) e ≠ 0 := fun h0 => h (by rw [subF, h0]; simp)
  obtain ⟨t, ht, h2⟩ := sumF_ne h1
  have ht := List.mem_of_mem_take ht
  obtain ⟨u, hu, rfl⟩ := atL_ne_mem h2
  have h3 := PrR.deg (fs := facL Ls (tmE t)) (fac_valid hx hL _ _ _) (hP t ht) u hu
  rw [sumD_facL Ls (hX.mem t ht).1.1] at h3
  have := hB t ht
  show u.1 + u.2.1 + u.2.2.1 ≤ 12
  omega
/-- A sum taken with a scaled polynomial is the sum with the number. -/
theorem sub_step {p : Int} {P : Int × Int × Int → List Tm} {xs : List Tm} {k : Nat} (h : k < xs.length) {L : List Tm} (hL : ∀ e, byte3 e → atL L e = xs[k].2.2.2 * atL (P (tmE xs[k])) e % p) (e : Int × Int × Int) (he : byte3 e) : (subF p P (xs.take k) e + 1 * atL L e) % p = subF p P (xs.take (k + 1)) e := by
  rw [subF_take p P xs k h, hL e he, Int.one_mul, Int.add_emod_emod]
theorem fac_pos_c {Ls : List (List Tm)} {x y z : Int} (hz : 0 < z) : facL Ls (x, y, z) = nthL Ls 2 :: facL Ls (x, y, z - 1) := by
  unfold facL
  simp only []
  rw [show z.toNat = (z - 1).toNat + 1 by omega, facN_c]
theorem fac_pos_b {Ls : List (List Tm)} {x y : Int} (hy : 0 < y) : facL Ls (x, y, 0) = nthL Ls 1 :: facL Ls (x, y - 1, 0) := by
  unfold facL
  simp only []
  rw [show y.toNat = (y - 1).toNat + 1 by omega]
  exact facN_b Ls _ _
theorem fac_pos_a {Ls : List (List Tm)} {x : Int} (hx : 0 < x) : facL Ls (x, 0, 0) = nthL Ls 0 :: facL Ls (x - 1, 0, 0) := by
  unfold facL
  simp only []
  rw [show x.toNat = (x - 1).toNat + 1 by omega]
  exact facN_a Ls _
theorem fac_zero (Ls : List (List Tm)) : facL Ls (0, 0, 0) = [] := facN_zero Ls
end Go.Proofs.Ytbahejlgfpilnaa
