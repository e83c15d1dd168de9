/-
  WALKS: the program's lists of exponents: searching, adding up, storing. Conditions: as each theorem states.
-/
import Derived.Test.YtpnlpmalkiaioaaS
namespace Go.Proofs.Ytpnlpmalkiaioaa
open Go.RowKit Go.Sort

theorem neg_any (x : Int) (w : World) : Calls Try.prog 62 #[.int .i64 x] w fun e w' => e = .returned (.bool (decide (x < 0))) ∧ w = w' := by
  go_enter Try.func62, Try.ntmps62
  go_wp2
  go_ret
  exact ⟨rfl, rfl⟩

/-- The value of the closure that asks for a negative number. -/
abbrev negF : Value := .func (.func 62) #[] #[]

set_option maxHeartbeats 1000000 in
theorem idx_some (b off cap : Nat) (l : List Int) (w : World) (hl : l.length ≤ 1048576) (hT : CellsI w b off l) (j : Nat) (hj : j < l.length) (hn : l[j] < 0) (hp : ∀ (i : Nat) (h : i < l.length), i < j → 0 ≤ l[i]) :
    Calls Try.prog 77 #[.slice (some ⟨b, off, none⟩) l.length cap, negF] w fun e w' => e = .returned (.int .i64 j) ∧ w = w' := by
  go_enter Try.func77, Try.ntmps77
  go_wp2
  go_loop [8] (fun i => ∃ k : Nat, k ≤ j ∧ i = .int .i64 k) (fun i => l.length - (intOf i).toNat)
  case atStart => exact ⟨0, by omega, rfl⟩
  case round =>
    obtain ⟨k, hk, rfl⟩ := hrel
    have hlt : k < l.length := by omega
    have hlt' : (k : Int) < (l.length : Int) := by omega
    have c0 := hT k hlt
    by_cases e : k = j
    · subst e
      go_wp2_with fail
      ((with_reducible refine (neg_any _ _).mono ?_); rintro e w1 ⟨rfl, rfl⟩)
      go_wp2
      go_ret
      exact ⟨rfl, rfl⟩
    · have h0 : 0 ≤ l[k] := hp k hlt (by omega)
      go_wp2_with fail
      ((with_reducible refine (neg_any _ _).mono ?_); rintro e w1 ⟨rfl, rfl⟩)
      go_wp2
      go_round
      case rel => exact ⟨k + 1, by omega, by go_num⟩
      case measure => simp [intOf]; omega

set_option maxHeartbeats 1000000 in
theorem idx_none (b off cap : Nat) (l : List Int) (w : World) (hl : l.length ≤ 1048576) (hT : CellsI w b off l) (hp : ∀ (i : Nat) (h : i < l.length), 0 ≤ l[i]) :
    Calls Try.prog 77 #[.slice (some ⟨b, off, none⟩) l.length cap, negF] w fun e w' => e = .returned (.int .i64 (-1)) ∧ w = w' := by
  go_enter Try.func77, Try.ntmps77
  go_wp2
  go_loop [8] (fun i => ∃ k : Nat, k ≤ l.length ∧ i = .int .i64 k) (fun i => l.length - (intOf i).toNat)
  case atStart => exact ⟨0, by omega, rfl⟩
  case round =>
    obtain ⟨k, hk, rfl⟩ := hrel
    by_cases hlt : k < l.length
    · have hlt' : (k : Int) < (l.length : Int) := by omega
      have c0 := hT k hlt
      have h0 : 0 ≤ l[k] := hp k hlt
      go_wp2_with fail
      ((with_reducible refine (neg_any _ _).mono ?_); rintro e w1 ⟨rfl, rfl⟩)
      go_wp2
      go_round
      case rel => exact ⟨k + 1, by omega, by go_num⟩
      case measure => simp [intOf]; omega
    · obtain rfl : k = l.length := by omega
      go_wp2
      go_ret
      exact ⟨rfl, rfl⟩

theorem first_neg : ∀ (l : List Int), l.all (fun x => decide (0 ≤ x)) = false → ∃ (j : Nat) (h : j < l.length), l[j] < 0 ∧ ∀ (i : Nat) (hi : i < l.length), i < j → 0 ≤ l[i]
  | [], h => by simp at h
  | a :: r, h => by
    by_cases ha : a < 0
    · exact ⟨0, by simp, by simpa using ha, fun i _ hij => by omega⟩
    · have hr : r.all (fun x => decide (0 ≤ x)) = false := by
        simp only [List.all_cons] at h
        rw [show decide (0 ≤ a) = true from by simp; omega] at h
        simpa using h
      obtain ⟨j, hj, hn, hp⟩ := first_neg r hr
      refine ⟨j + 1, by simp; omega, by simpa using hn, fun i hi hij => ?_⟩
      cases i with
      | zero => simp; omega
      | succ i => simpa using hp i (by simpa using hi) (by omega)

theorem contains_is (b off cap : Nat) (l : List Int) (w : World) (hl : l.length ≤ 1048576) (hT : CellsI w b off l) :
    Calls Try.prog 63 #[.slice (some ⟨b, off, none⟩) l.length cap, negF] w fun e w' => e = .returned (.bool (!l.all (fun x => decide (0 ≤ x)))) ∧ w = w' := by
  cases h : l.all (fun x => decide (0 ≤ x))
  · obtain ⟨j, hj, hn, hp⟩ := first_neg l h
    clear h
    go_enter Try.func63, Try.ntmps63
    go_wp2_with fail
    ((with_reducible refine (idx_some b off cap l w hl hT j hj hn hp).mono ?_); rintro e w1 ⟨rfl, rfl⟩)
    go_wp2
    go_ret
    exact ⟨rfl, rfl⟩
  · have hp : ∀ (i : Nat) (hi : i < l.length), 0 ≤ l[i] := fun i hi => by
      have := List.all_eq_true.1 h _ (List.getElem_mem hi)
      simpa using this
    clear h
    go_enter Try.func63, Try.ntmps63
    go_wp2_with fail
    ((with_reducible refine (idx_none b off cap l w hl hT hp).mono ?_); rintro e w1 ⟨rfl, rfl⟩)
    go_wp2
    go_ret
    exact ⟨rfl, rfl⟩

end Go.Proofs.Ytpnlpmalkiaioaa
