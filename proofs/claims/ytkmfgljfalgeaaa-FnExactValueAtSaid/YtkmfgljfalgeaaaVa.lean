/-
  WALKS: points, powers modulo a prime. Conditions: as each theorem states.
-/
import Derived.Test.YtkmfgljfalgeaaaI
import Derived.Test.YtkmfgljfalgeaaaL
import Derived.IntWalk
namespace Go.Proofs.Ytkmfgljfalgeaaa
open Go.RowKit Go.Sort

/-- In 0..p - 1. -/
def numB (p x : Int) : Bool := decide (0 ≤ x) && decide (x < p)
def ptB (p d : Int) (l : List Int) : Bool := decide ((l.length : Int) = d) && l.all (numB p)

theorem isNumber_any (p x : Int) (w : World) : Calls Try.prog 66 #[.int .i64 p, .int .i64 x] w fun e w' => e = .returned (.bool (numB p x)) ∧ w = w' := by
  by_cases h : 0 ≤ x
  all_goals
    go_enter Try.func66, Try.ntmps66
    go_wp2
    go_ret
    exact ⟨by simp [numB]; omega, rfl⟩

theorem out_any (g : Nat) (p x : Int) (w : World) (hg : w.cell? ⟨g, 0, none⟩ = some (.int .i64 p)) : Calls Try.prog 65 #[.int .i64 x, .pointer (some ⟨g, 0, none⟩)] w fun e w' => e = .returned (.bool (!numB p x)) ∧ w = w' := by
  go_enter Try.func65, Try.ntmps65
  go_wp2_with fail
  ((with_reducible refine (isNumber_any p x w).mono ?_); rintro e w1 ⟨rfl, rfl⟩)
  go_wp2
  go_ret
  exact ⟨rfl, rfl⟩

/-- The value of the closure that asks for a number that is none modulo p. -/
abbrev outF (g : Nat) : Value := .func (.func 65) #[] #[.pointer (some ⟨g, 0, none⟩)]

set_option maxHeartbeats 1000000 in
theorem oidx_some (g : Nat) (p : Int) (b off cap : Nat) (l : List Int) (w : World) (hg : w.cell? ⟨g, 0, none⟩ = some (.int .i64 p)) (hl : l.length ≤ 1048576) (hT : CellsI w b off l) (j : Nat) (hj : j < l.length) (hn : numB p l[j] = false) (hp : ∀ (i : Nat) (h : i < l.length), i < j → numB p l[i] = true) :
    Calls Try.prog 70 #[.slice (some ⟨b, off, none⟩) l.length cap, outF g] w fun e w' => e = .returned (.int .i64 j) ∧ w = w' := by
  have HN := Lib.hid hn
  have HP := Lib.hid hp
  clear hn hp
  go_enter Try.func70, Try.ntmps70
  go_wp2
  go_loop [8] (fun i => ∃ k : Nat, k ≤ j ∧ i = .int .i64 k) (fun i => l.length - (intOf i).toNat)
  case atStart => exact ⟨0, by omega, rfl⟩
  case round =>
    obtain ⟨k, hk, rfl⟩ := hrel
    have hlt : k < l.length := by omega
    have hlt' : (k : Int) < (l.length : Int) := by omega
    have c0 := hT k hlt
    by_cases e : k = j
    · subst e
      go_wp2_with fail
      ((with_reducible refine (out_any g p _ w hg).mono ?_); rintro e w1 ⟨rfl, rfl⟩)
      rw [HN.out]
      go_wp2
      go_ret
      exact ⟨rfl, rfl⟩
    · have h0 := Lib.hid (HP.out k hlt (by omega))
      go_wp2_with fail
      ((with_reducible refine (out_any g p _ w hg).mono ?_); rintro e w1 ⟨rfl, rfl⟩)
      rw [h0.out]
      go_wp2
      go_round
      case rel => exact ⟨k + 1, by omega, by go_num⟩
      case measure => simp [intOf]; omega

set_option maxHeartbeats 1000000 in
theorem oidx_none (g : Nat) (p : Int) (b off cap : Nat) (l : List Int) (w : World) (hg : w.cell? ⟨g, 0, none⟩ = some (.int .i64 p)) (hl : l.length ≤ 1048576) (hT : CellsI w b off l) (hp : ∀ (i : Nat) (h : i < l.length), numB p l[i] = true) :
    Calls Try.prog 70 #[.slice (some ⟨b, off, none⟩) l.length cap, outF g] w fun e w' => e = .returned (.int .i64 (-1)) ∧ w = w' := by
  have HP := Lib.hid hp
  clear hp
  go_enter Try.func70, Try.ntmps70
  go_wp2
  go_loop [8] (fun i => ∃ k : Nat, k ≤ l.length ∧ i = .int .i64 k) (fun i => l.length - (intOf i).toNat)
  case atStart => exact ⟨0, by omega, rfl⟩
  case round =>
    obtain ⟨k, hk, rfl⟩ := hrel
    by_cases hlt : k < l.length
    · have hlt' : (k : Int) < (l.length : Int) := by omega
      have c0 := hT k hlt
      have h0 := Lib.hid (HP.out k hlt)
      go_wp2_with fail
      ((with_reducible refine (out_any g p _ w hg).mono ?_); rintro e w1 ⟨rfl, rfl⟩)
      rw [h0.out]
      go_wp2
      go_round
      case rel => exact ⟨k + 1, by omega, by go_num⟩
      case measure => simp [intOf]; omega
    · obtain rfl : k = l.length := by omega
      go_wp2
      go_ret
      exact ⟨rfl, rfl⟩

theorem first_out (p : Int) : ∀ (l : List Int), l.all (numB p) = false → ∃ (j : Nat) (h : j < l.length), numB p l[j] = false ∧ ∀ (i : Nat) (hi : i < l.length), i < j → numB p l[i] = true
  | [], h => by simp at h
  | a :: r, h => by
    cases ha : numB p a
    · exact ⟨0, by simp, by simpa using ha, fun i _ hij => by omega⟩
    · have hr : r.all (numB p) = false := by
        simp only [List.all_cons, ha, Bool.true_and] at h
        exact h
      obtain ⟨j, hj, hn, hp⟩ := first_out p r hr
      refine ⟨j + 1, by simp; omega, by simpa using hn, fun i hi hij => ?_⟩
      cases i with
      | zero => simpa using ha
      | succ i => simpa using hp i (by simpa using hi) (by omega)

theorem ocontains_is (g : Nat) (p : Int) (b off cap : Nat) (l : List Int) (w : World) (hg : w.cell? ⟨g, 0, none⟩ = some (.int .i64 p)) (hl : l.length ≤ 1048576) (hT : CellsI w b off l) :
    Calls Try.prog 64 #[.slice (some ⟨b, off, none⟩) l.length cap, outF g] w fun e w' => e = .returned (.bool (!l.all (numB p))) ∧ w = w' := by
  cases h : l.all (numB p)
  · obtain ⟨j, hj, hn, hp⟩ := first_out p l h
    clear h
    go_enter Try.func64, Try.ntmps64
    go_wp2_with fail
    ((with_reducible refine (oidx_some g p b off cap l w hg hl hT j hj hn hp).mono ?_); rintro e w1 ⟨rfl, rfl⟩)
    go_wp2
    go_ret
    exact ⟨rfl, rfl⟩
  · have hp : ∀ (i : Nat) (hi : i < l.length), numB p l[i] = true := fun i hi => List.all_eq_true.1 h _ (List.getElem_mem hi)
    clear h
    have HP := Lib.hid hp
    clear hp
    go_enter Try.func64, Try.ntmps64
    go_wp2_with fail
    ((with_reducible refine (oidx_none g p b off cap l w hg hl hT HP.out).mono ?_); rintro e w1 ⟨rfl, rfl⟩)
    go_wp2
    go_ret
    exact ⟨rfl, rfl⟩

theorem areNumbers_any (p d : Int) (v : Value) (l : List Int) (w : World) (hd : 1 ≤ d) (hl : l.length ≤ 1048576) (hS : SliceI w v l) :
    Calls Try.prog 48 #[.int .i64 p, .int .i64 d, v] w fun e w' => e = .returned (.bool (ptB p d l)) ∧ Below w.heap.size w w' := by
  have hmf : ∀ (fn : Fn) (first cap : Array Value) (w : World), (Instr.makeFunc fn first cap).run Try.prog w = .ok (.func fn first cap) w := fun _ _ _ _ => rfl
  obtain ⟨a, cap, rfl, h⟩ := hS
  by_cases he : (l.length : Int) = d
  · have he1 : ((l.length : Int) == d) = true := by simp [he]
    rcases h with rfl | ⟨b, off, rfl, hlt, hT⟩
    · simp at he; omega
    · have HD : Hid (ptB p d l = l.all (numB p)) := Lib.hid (by simp [ptB, he])
      have hT1 : ∀ o, CellsI (w.alloc o) b off l := fun o => hT.below (box1 _ _) hlt
      clear he
      go_enter Try.func48, Try.ntmps48
      go_wp2_with fail
      ((with_reducible refine (ocontains_is w.heap.size p b off cap l _ (by go_simp) hl (hT1 _)).mono ?_); rintro e w1 ⟨rfl, rfl⟩)
      go_wp2
      go_ret
      exact ⟨by rw [HD.out]; simp, box1 _ _⟩
  · have he1 : ((l.length : Int) == d) = false := by simp [he]
    have HD : Hid (ptB p d l = false) := Lib.hid (by simp [ptB, he])
    clear he h
    go_enter Try.func48, Try.ntmps48
    go_wp2
    go_ret
    exact ⟨by rw [HD.out]; rfl, box1 _ _⟩

end Go.Proofs.Ytkmfgljfalgeaaa
