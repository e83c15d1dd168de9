/-
  LISTS OF PERMUTATIONS: what the program asks of them. Conditions: as each theorem states.
-/
import Derived.Test.YtgbnlnpffhlipaaRr
import Derived.Test.YtgbnlnpffhlipaaLe
namespace Go.Proofs.Ytgbnlnpffhlipaa
open Go.RowKit Go.Sort EchM

theorem first_outG {α : Type} (B : α → Bool) : ∀ (l : List α), l.all B = false → ∃ (j : Nat) (h : j < l.length), B l[j] = false ∧ ∀ (i : Nat) (h : i < l.length), i < j → B l[i] = true
  | [], h => by simp at h
  | a :: r, h => by
    cases ha : B a
    · exact ⟨0, by simp, by simpa using ha, fun i _ hij => by omega⟩
    · have hr : r.all B = false := by
        simp only [List.all_cons, ha, Bool.true_and] at h
        exact h
      obtain ⟨j, hj, hn, hp⟩ := first_outG B r hr
      refine ⟨j + 1, by simp; omega, by simpa using hn, fun i hi hij => ?_⟩
      cases i with
      | zero => simpa using ha
      | succ i => simpa using hp i (by simpa using hi) (by omega)
/-- A permutation of m numbers; lists of permutations of as many numbers. -/
def fitB (m : Nat) (l : List Int) : Bool := permB l && decide (l.length = m)
def prmsB (L : List (List Int)) : Bool := decide (1 ≤ L.length) && decide (L.length ≤ 120) && L.all (fitB (L.headD []).length)
theorem headD_at {L : List (List Int)} (h : 0 < L.length) : (L.headD []) = L[0] := by
  cases L with
  | nil => simp at h
  | cons a r => rfl

set_option maxHeartbeats 1000000 in
theorem unfit (B : Nat) (lv v : Value) (L : List (List Int)) (l : List Int) (w : World) (hB : w.cell? ⟨B, 0, none⟩ = some lv) (hL : SlR w lv L) (h0 : 0 < L.length) (hl : L.length ≤ 1048576) (hlr : ∀ r ∈ L, r.length ≤ 1048576) (hll : l.length ≤ 1048576) (hS : Sl w v l) :
    Calls Try.prog 33 #[v, .pointer (some ⟨B, 0, none⟩)] w fun e w' => e = .returned (.bool (!fitB L[0].length l)) ∧ w' = w := by
  obtain ⟨a, cap, rfl, _⟩ := id hS
  obtain ⟨a2, cap2, rfl, hc⟩ := hL
  obtain ⟨b, off, rfl, hbb, hT⟩ : ∃ b off, a2 = some ⟨b, off, none⟩ ∧ b < w.heap.size ∧ RowsW w b off L := by
    rcases hc with rfl | h
    · simp at h0
    · exact h
  obtain ⟨u, c0, s0⟩ := hT 0 h0
  have c0' : w.cell? ⟨b, off, none⟩ = some u := c0
  obtain ⟨a3, cap3, rfl, _⟩ := id s0
  have hl0 := hlr _ (List.getElem_mem h0)
  have h0' : 0 < (L.length : Int) := by omega
  obtain ⟨m, hm⟩ : ∃ m, L[0].length = m := ⟨_, rfl⟩
  rw [hm] at c0 c0' hl0 ⊢
  clear hm s0 c0 hT hlr hc
  cases hp : permB l
  · have HX : Hid (fitB m l = false) := Lib.hid (by simp [fitB, hp])
    have HP := Lib.hid hp
    clear hp
    go_enter Try.func33, Try.ntmps33
    go_wp2_with fail
    ((with_reducible refine (iperm _ l _ hll hS).mono ?_); rintro e w1 ⟨rfl, rfl⟩)
    rw [HP.out]
    go_wp2_with fail
    go_ret
    exact ⟨by rw [HX.out]; rfl, rfl⟩
  · have HX : Hid (fitB m l = decide (l.length = m)) := Lib.hid (by simp [fitB, hp])
    have HP := Lib.hid hp
    clear hp
    go_enter Try.func33, Try.ntmps33
    go_wp2_with fail
    ((with_reducible refine (iperm _ l _ hll hS).mono ?_); rintro e w1 ⟨rfl, rfl⟩)
    rw [HP.out]
    go_wp2_with fail
    go_ret
    refine ⟨?_, rfl⟩
    rw [HX.out]
    by_cases h : l.length = m
    · subst h; simp
    · have h' : ¬ ((l.length : Int) = (m : Int)) := by omega
      simp [h, h']
end Go.Proofs.Ytgbnlnpffhlipaa
