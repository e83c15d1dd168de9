/-
  COUNTING SERIES: plain mathematics. Conditions: as each theorem states.
-/
import Derived.Test.YtgbnlnpffhlipaaIi
import Derived.Test.YtgbnlnpffhlipaaIf
import Derived.Test.YtgbnlnpffhlipaaRx
namespace Go.Proofs.Ytgbnlnpffhlipaa
open Go.RowKit Go.Sort EchM

theorem degL_cyc {l : List Int} (h : permB l = true) : DegL (cyD l l.length) := by
  have h8 := (permB_iff.1 h).2.1
  have hl := cyD_len l l.length
  refine ⟨by omega, fun k hk => ?_⟩
  have h1 := cyD_in l l.length _ (List.getElem_mem hk)
  omega
/-- The series of a permutation's cycles; those of some permutations, added. -/
def permS (l : List Int) (q : Nat) : Int := serL (cyD l l.length) q
def cntF (L : List (List Int)) (q : Nat) : Int := L.foldl (fun s l => s + permS l q) 0
theorem cntF_snoc (L : List (List Int)) (j : Nat) (h : j < L.length) (q : Nat) : cntF (L.take (j + 1)) q = cntF (L.take j) q + permS L[j] q := by
  unfold cntF
  rw [List.take_succ_eq_append_getElem h, List.foldl_append]
  rfl
theorem permS_bound {l : List Int} (h : permB l = true) {q : Nat} (hq : q < 41) : 0 ≤ permS l q ∧ permS l q ≤ 7984925229121 := by
  have h1 := serL_bound (degL_cyc h) (cyD l l.length).length q hq
  rwa [List.take_length] at h1
theorem cntF_bound {L : List (List Int)} (h : ∀ l ∈ L, permB l = true) {q : Nat} (hq : q < 41) : ∀ j, j ≤ L.length → 0 ≤ cntF (L.take j) q ∧ cntF (L.take j) q ≤ 7984925229121 * j
  | 0, _ => by simp [cntF]
  | j + 1, hj => by
    rw [cntF_snoc L j (by omega) q]
    have h1 := cntF_bound h hq j (by omega)
    have h2 := permS_bound (h _ (List.getElem_mem (show j < L.length by omega))) hq
    omega
def rCnt (L : List (List Int)) (k : Int) : List Int × Int :=
  if prmsB L && (decide (0 ≤ k) && decide (k ≤ 12)) then
    if (List.range (k.toNat + 1)).all (fun q => decide (cntF L q % (L.length : Int) = 0)) then ((List.range (k.toNat + 1)).map (fun q => cntF L q / (L.length : Int)), 0) else ([], 5)
  else ([], 2)
theorem rCnt_len (L : List (List Int)) (k : Int) : (rCnt L k).1.length ≤ 1048576 := by
  unfold rCnt
  split
  · rename_i h
    split
    · simp at h ⊢
      omega
    · simp
  · simp
theorem prms_all {L : List (List Int)} (h : prmsB L = true) : 1 ≤ L.length ∧ L.length ≤ 120 ∧ ∀ l ∈ L, permB l = true := by
  simp only [prmsB, Bool.and_eq_true, decide_eq_true_eq, List.all_eq_true] at h
  refine ⟨h.1.1, h.1.2, fun l hl => ?_⟩
  have := h.2 l hl
  simp only [fitB, Bool.and_eq_true] at this
  exact this.1
end Go.Proofs.Ytgbnlnpffhlipaa
