/-
  COMPLETE AND OTHER SYMMETRIC POLYNOMIALS: where monomials stand; ranges judged. Conditions: as each theorem states.
-/
import Derived.Test.YtbahejlgfpilnaaYw
import Derived.Test.YtbahejlgfpilnaaYg
import Derived.Test.YtbahejlgfpilnaaRz
import Derived.Test.YtbahejlgfpilnaaYs
namespace Go.Proofs.Ytbahejlgfpilnaa
open Go.RowKit Go.Sort Go.Maps

/-- As many ones as there are monomials. -/
def onesL (M : List (Int × Int × Int)) : List Int := List.replicate M.length 1
def degB (n : Int) : Bool := decide (0 ≤ n) && decide (n ≤ 12)
def cmpB (p d k : Int) : Bool := primeB p && ((decide (1 ≤ d) && decide (d ≤ 3)) && degB k)
def cmpO (p d k : Int) : OutP := if cmpB p d k then ⟨p, d, rT (monL d k) (onesL (monL d k)), 0⟩ else noP 2
theorem cmpO_len (p d k : Int) : (cmpO p d k).S.length ≤ 169 := by
  unfold cmpO
  split
  · exact Nat.le_trans (rT_len _ _) (monL_le d k)
  · simp [noP]
theorem cmpO_no {p d k : Int} (h : cmpB p d k = false) : cmpO p d k = noP 2 := by unfold cmpO; rw [if_neg (by simp [h])]
theorem cmpO_yes {p d k : Int} (h : cmpB p d k = true) : cmpO p d k = ⟨p, d, rT (monL d k) (onesL (monL d k)), 0⟩ := by unfold cmpO; rw [if_pos h]
theorem prime_bc {p : Int} (h : primeB p = true) : 2 ≤ p ∧ p ≤ 13 := by
  simp [primeB] at h
  omega
theorem vars_isc (d : Int) (B : Bool) (h : (decide (1 ≤ d) && decide (d ≤ 3)) = B) (w : World) : Calls Try.prog 91 #[.int .i64 d] w fun e w' => e = .returned (.bool B) ∧ w = w' := by
  subst h
  exact vars_any d w
theorem iprime_isc (p : Int) (B : Bool) (h : primeB p = B) (w : World) : Calls Try.prog 90 #[.int .i64 p] w fun e w' => e = .returned (.bool B) ∧ w = w' := by
  subst h
  exact prime_any p w
theorem sprime_isc (p : Int) (B : Bool) (h : primeB p = B) (w : World) : Calls Try.prog 83 #[.int .i64 p] w fun e w' => e = .returned (.bool B) ∧ w' = w :=
  (specPrime_any p w).mono fun _ _ ⟨a, b⟩ => ⟨by rw [a, h], b.symm⟩
theorem deg_isc (n : Int) (B : Bool) (h : degB n = B) (w : World) : Calls Try.prog 96 #[.int .i64 n] w fun e w' => e = .returned (.bool B) ∧ w = w' := by
  have hB := Lib.hid h
  by_cases h1 : 0 ≤ n
  · have hx : B = decide (n ≤ 12) := by rw [← h]; simp [degB, h1]
    subst hx
    clear h hB
    go_enter Try.func96, Try.ntmps96
    go_wp2
    go_ret
    exact ⟨by simp, rfl⟩
  · have hx : B = false := by rw [← h]; simp [degB, h1]
    subst hx
    have h2 : n < 0 := by omega
    clear h hB h1
    go_enter Try.func96, Try.ntmps96
    go_wp2
    go_ret
    exact ⟨rfl, rfl⟩
/-- The model's judge of a prime and a number of letters. -/
theorem sshape (p d : Int) (B : Bool) (h : (primeB p && (decide (1 ≤ d) && decide (d ≤ 3))) = B) (w : World) : Calls Try.prog 99 #[.int .i64 p, .int .i64 d] w fun e w' => e = .returned (.bool B) ∧ w' = w := by
  cases hp : primeB p
  · have hx : B = false := by rw [← h]; simp [hp]
    subst hx
    have HP := Lib.hid (fun W => sprime_isc p false hp W)
    clear h hp
    go_enter Try.func99, Try.ntmps99
    go_wp2_with fail
    ((with_reducible refine (HP.out _).mono ?_); rintro e w1 ⟨rfl, rfl⟩)
    go_wp2_with fail
    go_ret
    exact ⟨rfl, rfl⟩
  · have HP := Lib.hid (fun W => sprime_isc p true hp W)
    have HV := Lib.hid (fun W => rin_is d 1 3 W B (by rw [← h, hp]; simp))
    clear h hp
    go_enter Try.func99, Try.ntmps99
    go_wp2_with fail
    ((with_reducible refine (HP.out _).mono ?_); rintro e w1 ⟨rfl, rfl⟩)
    go_wp2_with fail
    ((with_reducible refine (HV.out _).mono ?_); rintro e w2 ⟨rfl, rfl⟩)
    go_wp2_with fail
    go_ret
    exact ⟨rfl, rfl⟩
/-- Where the monomials stand. -/
def indF (M : List (Int × Int × Int)) (e : Int × Int × Int) : Int := if e ∈ M then 1 else 0
theorem ones_at : ∀ (M : List (Int × Int × Int)), ∀ e, atL (rT M (onesL M)) e = indF M e
  | [], e => by simp [rT, atL, indF]
  | m :: M, e => by
    have h := ones_at M e
    unfold onesL at h ⊢
    rw [List.length_cons, List.replicate_succ]
    simp only [rT]
    rw [if_neg (by decide), atL, h]
    unfold indF
    by_cases hm : tmE (mkT m 1) = e
    · have hm' : m = e := hm
      rw [if_pos hm, hm']
      simp [mkT]
    · have hm' : ¬ e = m := fun h' => hm h'.symm
      rw [if_neg hm]
      simp [hm']
theorem ones_in {p : Int} (h2 : 2 ≤ p) (M : List (Int × Int × Int)) : ∀ x ∈ onesL M, 0 ≤ x ∧ x < p := fun x hx => by
  have := List.eq_of_mem_replicate hx
  omega
theorem ones_isP {p : Int} (h2 : 2 ≤ p) (d k : Int) : IsP p (rT (monL d k) (onesL (monL d k))) (indF (monL d k)) := by
  have h := rT_is (d := d) (n := k) (ones_in h2 (monL d k))
  exact ⟨h.1, h.2.1, fun e he => ones_at _ e⟩
theorem mon_nodup (d k : Int) : (monL d k).Nodup := (monL_asc d k).imp fun {a b} h e => by
  subst e
  rw [before_irrefl] at h
  cases h
theorem ind_step {p : Int} (h2 : 2 ≤ p) {M : List (Int × Int × Int)} (hn : M.Nodup) {j : Nat} (hj : j < M.length) : (fun a => if a = M[j] then (1 + indF (M.take j) M[j]) % p else indF (M.take j) a) = indF (M.take (j + 1)) := by
  have hnot : M[j] ∉ M.take j := fun hm => by
    obtain ⟨i, hi, he⟩ := List.getElem_of_mem hm
    have hi' : i < j := by simp at hi; omega
    rw [List.getElem_take] at he
    exact List.pairwise_iff_getElem.1 hn i j (by omega) hj hi' he
  funext a
  rw [List.take_succ_eq_append_getElem hj]
  unfold indF
  by_cases e : a = M[j]
  · subst e
    rw [if_pos rfl, if_neg hnot, if_pos (List.mem_append.2 (.inr (List.mem_singleton.2 rfl))), Int.add_zero]
    exact Int.emod_eq_of_lt (by omega) (by omega)
  · rw [if_neg e]
    by_cases h : a ∈ M.take j
    · rw [if_pos h, if_pos (List.mem_append.2 (.inl h))]
    · rw [if_neg h, if_neg (fun h' => (List.mem_append.1 h').elim h (fun h2 => e (List.mem_singleton.1 h2)))]
theorem put_box {wr : World} {q : Nat} {v : Value} {F : Nat → Value} (hres : wr.rowIs q 42 3 F) (p d : Int) :
    (((wr.setCell ⟨q, 0, none⟩ (.int .i64 p)).setCell ⟨q, 1, none⟩ (.int .i64 d)).setCell ⟨q, 2, none⟩ v).rowIs q 42 3 (polyF p d v) :=
  (((hres.set 0 (.int .i64 p)).set 1 (.int .i64 d)).set 2 v).congr fun i hi => match i, hi with
    | 0, _ => rfl
    | 1, _ => rfl
    | 2, _ => rfl

open Go.RowKit Go.Sort Go.Maps Go.Shelf

attribute [local go_sem] Oper.semAt_some

theorem atL_ne_memC {L : List Tm} {e : Int × Int × Int} (h : atL L e ≠ 0) : ∃ t ∈ L, tmE t = e :=
  Classical.byContradiction fun hn => h (atL_none fun t ht he => hn ⟨t, ht, he⟩)
end Go.Proofs.Ytbahejlgfpilnaa
