/-
  What a group's matrices are, in plain mathematics. Conditions: as the theorem states.
-/
import Derived.Test.YtabfdohmgmdgeaaMw
import Derived.Test.YtabfdohmgmdgeaaGy
namespace Go.Proofs.Ytabfdohmgmdgeaa
open Go.RowKit Go.Sort EchM

theorem isGrp_mats {p n : Int} {L : List (Nat → Nat → Int)} (hby : ∀ x ∈ L, Byt x) (h : isGrp p n L = true) : ∃ m : Nat, n = (m : Int) ∧ 1 ≤ m ∧ m ≤ 3 ∧ L.length ≤ 48 ∧ 1 ≤ L.length ∧ ∀ x ∈ L, MatV p m x := by
  unfold isGrp at h
  simp only [Bool.and_eq_true, decide_eq_true_eq] at h
  obtain ⟨hp, ⟨h1, h3⟩, hl1, hl2, ht, _, _⟩ := h
  obtain ⟨m, rfl⟩ := Int.eq_ofNat_of_zero_le (show 0 ≤ n by omega)
  refine ⟨m, rfl, by omega, by omega, hl2, hl1, fun x hx => ?_⟩
  obtain ⟨m', hm', hmv⟩ := matV_of (hby x hx) (tailG_all ht x hx)
  obtain rfl : m = m' := by omega
  exact hmv
end Go.Proofs.Ytabfdohmgmdgeaa
