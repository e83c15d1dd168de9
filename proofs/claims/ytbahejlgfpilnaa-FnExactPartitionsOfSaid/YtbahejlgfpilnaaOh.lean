/-
  WALKS: 'impl.areExponents'. Conditions: as each theorem states.
-/
import Derived.Test.YtbahejlgfpilnaaRz
namespace Go.Proofs.Ytbahejlgfpilnaa
open Go.RowKit Go.Sort EchM

def ngB (x : Int) : Bool := decide (0 ≤ x)
theorem ngout (x : Int) (w : World) : Calls Try.prog 170 #[.int .i64 x] w fun e w' => e = .returned (.bool (!ngB x)) ∧ w' = w := by
  have HB : Hid ((!ngB x) = decide (x < 0)) := Lib.hid (by
    rw [Bool.eq_iff_iff]
    simp [ngB])
  go_enter Try.func170, Try.ntmps170
  go_wp2
  go_ret
  exact ⟨by rw [HB.out]; rfl, rfl⟩
abbrev ngF : Value := .func (.func 170) #[] #[]

set_option maxHeartbeats 1000000 in
theorem ngidx_some (b off cap : Nat) (l : List Int) (w : World) (hl : l.length ≤ 1048576) (hT : Cs w b off l) (j : Nat) (hj : j < l.length) (hn : ngB l[j] = false) (hp : ∀ (i : Nat) (h : i < l.length), i < j → ngB l[i] = true) :
    Calls Try.prog 147 #[.slice (some ⟨b, off, none⟩) l.length cap, ngF] w fun e w' => e = .returned (.int .i64 j) ∧ w' = w := by
  have HN := Lib.hid hn
  have HP := Lib.hid hp
  clear hn hp
  go_enter Try.func147, Try.ntmps147
  go_wp2
  go_loop [8] (fun i => ∃ k : Nat, k ≤ j ∧ i = .int .i64 k) (fun i => l.length - (intOf i).toNat)
  case atStart => exact ⟨0, by omega, rfl⟩
  case round =>
    obtain ⟨k, hk, rfl⟩ := hrel
    have hlt : k < l.length := by omega
    have hlt' : (k : Int) < (l.length : Int) := by omega
    have c0 := hT k hlt
    by_cases e : k = j
    · subst e
      go_wp2_with fail
      ((with_reducible refine (ngout _ _).mono ?_); rintro e w1 ⟨rfl, rfl⟩)
      rw [HN.out]
      go_wp2
      go_ret
      exact ⟨rfl, rfl⟩
    · have h0 := Lib.hid (HP.out k hlt (by omega))
      go_wp2_with fail
      ((with_reducible refine (ngout _ _).mono ?_); rintro e w1 ⟨rfl, rfl⟩)
      rw [h0.out]
      go_wp2
      go_round
      case rel => exact ⟨k + 1, by omega, by go_num⟩
      case measure => simp [intOf]; omega

set_option maxHeartbeats 1000000 in
theorem ngidx_none (a : Option Addr) (cap : Nat) (l : List Int) (w : World) (hl : l.length ≤ 1048576) (hS : l = [] ∨ ∃ b off, a = some ⟨b, off, none⟩ ∧ b < w.heap.size ∧ Cs w b off l) (hp : ∀ (i : Nat) (h : i < l.length), ngB l[i] = true) :
    Calls Try.prog 147 #[.slice a l.length cap, ngF] w fun e w' => e = .returned (.int .i64 (-1)) ∧ w' = w := by
  have HP := Lib.hid hp
  clear hp
  go_enter Try.func147, Try.ntmps147
  go_wp2
  go_loop [8] (fun i => ∃ k : Nat, k ≤ l.length ∧ i = .int .i64 k) (fun i => l.length - (intOf i).toNat)
  case atStart => exact ⟨0, by omega, rfl⟩
  case round =>
    obtain ⟨k, hk, rfl⟩ := hrel
    by_cases hlt : k < l.length
    · have hlt' : (k : Int) < (l.length : Int) := by omega
      obtain ⟨b, off, rfl, hbb, hT⟩ : ∃ b off, a = some ⟨b, off, none⟩ ∧ b < w.heap.size ∧ Cs w b off l := by
        rcases hS with rfl | h
        · simp at hlt
        · exact h
      have c0 := hT k hlt
      have h0 := Lib.hid (HP.out k hlt)
      go_wp2_with fail
      ((with_reducible refine (ngout _ _).mono ?_); rintro e w1 ⟨rfl, rfl⟩)
      rw [h0.out]
      go_wp2
      go_round
      case rel => exact ⟨k + 1, by omega, by go_num⟩
      case measure => simp [intOf]; omega
    · obtain rfl : k = l.length := by omega
      go_wp2
      go_ret
      exact ⟨rfl, rfl⟩

theorem ngcontains (v : Value) (l : List Int) (w : World) (hl : l.length ≤ 1048576) (hS : Sl w v l) :
    Calls Try.prog 72 #[v, ngF] w fun e w' => e = .returned (.bool (!l.all ngB)) ∧ w' = w := by
  obtain ⟨a, cap, rfl, hc⟩ := hS
  cases h : l.all ngB
  · obtain ⟨j, hj, hn, hp⟩ := first_out ngB l h
    obtain ⟨b, off, rfl, hbb, hT⟩ : ∃ b off, a = some ⟨b, off, none⟩ ∧ b < w.heap.size ∧ Cs w b off l := by
      rcases hc with rfl | h
      · simp at hj
      · exact h
    clear h hc
    go_enter Try.func72, Try.ntmps72
    go_wp2_with fail
    ((with_reducible refine (ngidx_some b off cap l _ hl hT j hj hn hp).mono ?_); rintro e w1 ⟨rfl, rfl⟩)
    go_wp2
    go_ret
    exact ⟨rfl, rfl⟩
  · have hp : ∀ (i : Nat) (hi : i < l.length), ngB l[i] = true := fun i hi => List.all_eq_true.1 h _ (List.getElem_mem hi)
    clear h
    have HP := Lib.hid hp
    clear hp
    go_enter Try.func72, Try.ntmps72
    go_wp2_with fail
    ((with_reducible refine (ngidx_none a cap l _ hl hc HP.out).mono ?_); rintro e w1 ⟨rfl, rfl⟩)
    go_wp2
    go_ret
    exact ⟨rfl, rfl⟩

set_option maxHeartbeats 1000000 in
theorem iexps (d : Int) (v : Value) (l : List Int) (w : World) (hl : l.length ≤ 1048576) (hS : Sl w v l) :
    Calls Try.prog 101 #[.int .i64 d, v] w fun e w' => e = .returned (.bool (decide ((l.length : Int) = d) && l.all ngB)) ∧ w' = w := by
  obtain ⟨a, cap, rfl, _⟩ := id hS
  by_cases he : (l.length : Int) = d
  · have he1 : ((l.length : Int) == d) = true := by simp [he]
    have HD : Hid (decide ((l.length : Int) = d) = true) := Lib.hid (by simp [he])
    clear he
    go_enter Try.func101, Try.ntmps101
    go_wp2_with fail
    ((with_reducible refine (ngcontains _ l _ hl hS).mono ?_); rintro e w1 ⟨rfl, rfl⟩)
    go_wp2
    go_ret
    exact ⟨by rw [HD.out]; simp, rfl⟩
  · have he1 : ((l.length : Int) == d) = false := by simp [he]
    have HD : Hid (decide ((l.length : Int) = d) = false) := Lib.hid (by simp [he])
    clear he
    go_enter Try.func101, Try.ntmps101
    go_wp2
    go_ret
    exact ⟨by rw [HD.out]; rfl, rfl⟩
end Go.Proofs.Ytbahejlgfpilnaa
