/-
  LISTS OF 64-BIT NUMBERS: judged. Conditions: as each theorem states.
-/
import Derived.Test.YtabfdohmgmdgeaaRz
import Derived.Test.YtabfdohmgmdgeaaLb
namespace Go.Proofs.Ytabfdohmgmdgeaa
open Go.RowKit Go.Sort EchM

/-- In 0..p - 1. -/
def nnumB (p x : Int) : Bool := decide (0 ≤ x) && decide (x < p)
def nptB (p d : Int) (l : List Int) : Bool := decide ((l.length : Int) = d) && l.all (nnumB p)

theorem nisNumber_any (p x : Int) (w : World) : Calls Try.prog 32 #[.int .i64 p, .int .i64 x] w fun e w' => e = .returned (.bool (nnumB p x)) ∧ w = w' := by
  by_cases h : 0 ≤ x
  all_goals
    go_enter Try.func32, Try.ntmps32
    go_wp2
    go_ret
    exact ⟨by simp [nnumB]; omega, rfl⟩

theorem nout_any (g : Nat) (p x : Int) (w : World) (hg : w.cell? ⟨g, 0, none⟩ = some (.int .i64 p)) : Calls Try.prog 31 #[.int .i64 x, .pointer (some ⟨g, 0, none⟩)] w fun e w' => e = .returned (.bool (!nnumB p x)) ∧ w = w' := by
  go_enter Try.func31, Try.ntmps31
  go_wp2_with fail
  ((with_reducible refine (nisNumber_any p x w).mono ?_); rintro e w1 ⟨rfl, rfl⟩)
  go_wp2
  go_ret
  exact ⟨rfl, rfl⟩

/-- The value of the closure that asks for a number that is none modulo p. -/
abbrev noutF (g : Nat) : Value := .func (.func 31) #[] #[.pointer (some ⟨g, 0, none⟩)]

set_option maxHeartbeats 1000000 in
theorem noidx_some (g : Nat) (p : Int) (b off cap : Nat) (l : List Int) (w : World) (hg : w.cell? ⟨g, 0, none⟩ = some (.int .i64 p)) (hl : l.length ≤ 1048576) (hT : Cs w b off l) (j : Nat) (hj : j < l.length) (hn : nnumB p l[j] = false) (hp : ∀ (i : Nat) (h : i < l.length), i < j → nnumB p l[i] = true) :
    Calls Try.prog 47 #[.slice (some ⟨b, off, none⟩) l.length cap, noutF g] w fun e w' => e = .returned (.int .i64 j) ∧ w = w' := by
  have HN := Lib.hid hn
  have HP := Lib.hid hp
  clear hn hp
  go_enter Try.func47, Try.ntmps47
  go_wp2
  go_loop [8] (fun i => ∃ k : Nat, k ≤ j ∧ i = .int .i64 k) (fun i => l.length - (intOf i).toNat)
  case atStart => exact ⟨0, by omega, rfl⟩
  case round =>
    obtain ⟨k, hk, rfl⟩ := hrel
    have hlt : k < l.length := by omega
    have hlt' : (k : Int) < (l.length : Int) := by omega
    have c0 := hT k hlt
    by_cases e : k = j
    · subst e
      go_wp2_with fail
      ((with_reducible refine (nout_any g p _ w hg).mono ?_); rintro e w1 ⟨rfl, rfl⟩)
      rw [HN.out]
      go_wp2
      go_ret
      exact ⟨rfl, rfl⟩
    · have h0 := Lib.hid (HP.out k hlt (by omega))
      go_wp2_with fail
      ((with_reducible refine (nout_any g p _ w hg).mono ?_); rintro e w1 ⟨rfl, rfl⟩)
      rw [h0.out]
      go_wp2
      go_round
      case rel => exact ⟨k + 1, by omega, by go_num⟩
      case measure => simp [intOf]; omega

set_option maxHeartbeats 1000000 in
theorem noidx_none (g : Nat) (p : Int) (b off cap : Nat) (l : List Int) (w : World) (hg : w.cell? ⟨g, 0, none⟩ = some (.int .i64 p)) (hl : l.length ≤ 1048576) (hT : Cs w b off l) (hp : ∀ (i : Nat) (h : i < l.length), nnumB p l[i] = true) :
    Calls Try.prog 47 #[.slice (some ⟨b, off, none⟩) l.length cap, noutF g] w fun e w' => e = .returned (.int .i64 (-1)) ∧ w = w' := by
  have HP := Lib.hid hp
  clear hp
  go_enter Try.func47, Try.ntmps47
  go_wp2
  go_loop [8] (fun i => ∃ k : Nat, k ≤ l.length ∧ i = .int .i64 k) (fun i => l.length - (intOf i).toNat)
  case atStart => exact ⟨0, by omega, rfl⟩
  case round =>
    obtain ⟨k, hk, rfl⟩ := hrel
    by_cases hlt : k < l.length
    · have hlt' : (k : Int) < (l.length : Int) := by omega
      have c0 := hT k hlt
      have h0 := Lib.hid (HP.out k hlt)
      go_wp2_with fail
      ((with_reducible refine (nout_any g p _ w hg).mono ?_); rintro e w1 ⟨rfl, rfl⟩)
      rw [h0.out]
      go_wp2
      go_round
      case rel => exact ⟨k + 1, by omega, by go_num⟩
      case measure => simp [intOf]; omega
    · obtain rfl : k = l.length := by omega
      go_wp2
      go_ret
      exact ⟨rfl, rfl⟩

theorem nfirst_out (p : Int) : ∀ (l : List Int), l.all (nnumB p) = false → ∃ (j : Nat) (h : j < l.length), nnumB p l[j] = false ∧ ∀ (i : Nat) (hi : i < l.length), i < j → nnumB p l[i] = true
  | [], h => by simp at h
  | a :: r, h => by
    cases ha : nnumB p a
    · exact ⟨0, by simp, by simpa using ha, fun i _ hij => by omega⟩
    · have hr : r.all (nnumB p) = false := by
        simp only [List.all_cons, ha, Bool.true_and] at h
        exact h
      obtain ⟨j, hj, hn, hp⟩ := nfirst_out p r hr
      refine ⟨j + 1, by simp; omega, by simpa using hn, fun i hi hij => ?_⟩
      cases i with
      | zero => simpa using ha
      | succ i => simpa using hp i (by simpa using hi) (by omega)

theorem nocontains_is (g : Nat) (p : Int) (b off cap : Nat) (l : List Int) (w : World) (hg : w.cell? ⟨g, 0, none⟩ = some (.int .i64 p)) (hl : l.length ≤ 1048576) (hT : Cs w b off l) :
    Calls Try.prog 33 #[.slice (some ⟨b, off, none⟩) l.length cap, noutF g] w fun e w' => e = .returned (.bool (!l.all (nnumB p))) ∧ w = w' := by
  cases h : l.all (nnumB p)
  · obtain ⟨j, hj, hn, hp⟩ := nfirst_out p l h
    clear h
    go_enter Try.func33, Try.ntmps33
    go_wp2_with fail
    ((with_reducible refine (noidx_some g p b off cap l w hg hl hT j hj hn hp).mono ?_); rintro e w1 ⟨rfl, rfl⟩)
    go_wp2
    go_ret
    exact ⟨rfl, rfl⟩
  · have hp : ∀ (i : Nat) (hi : i < l.length), nnumB p l[i] = true := fun i hi => List.all_eq_true.1 h _ (List.getElem_mem hi)
    clear h
    have HP := Lib.hid hp
    clear hp
    go_enter Try.func33, Try.ntmps33
    go_wp2_with fail
    ((with_reducible refine (noidx_none g p b off cap l w hg hl hT HP.out).mono ?_); rintro e w1 ⟨rfl, rfl⟩)
    go_wp2
    go_ret
    exact ⟨rfl, rfl⟩

theorem nareNumbers_any (p d : Int) (v : Value) (l : List Int) (w : World) (hd : 1 ≤ d) (hl : l.length ≤ 1048576) (hS : Sl w v l) :
    Calls Try.prog 18 #[.int .i64 p, .int .i64 d, v] w fun e w' => e = .returned (.bool (nptB p d l)) ∧ Below w.heap.size w w' := by
  have hmf : ∀ (fn : Fn) (first cap : Array Value) (w : World), (Instr.makeFunc fn first cap).run Try.prog w = .ok (.func fn first cap) w := fun _ _ _ _ => rfl
  obtain ⟨a, cap, rfl, h⟩ := hS
  by_cases he : (l.length : Int) = d
  · have he1 : ((l.length : Int) == d) = true := by simp [he]
    rcases h with rfl | ⟨b, off, rfl, hlt, hT⟩
    · simp at he; omega
    · have HD : Hid (nptB p d l = l.all (nnumB p)) := Lib.hid (by simp [nptB, he])
      have hT1 : ∀ o, Cs (w.alloc o) b off l := fun o => hT.below (ebox1 _ _) hlt
      clear he
      go_enter Try.func18, Try.ntmps18
      go_wp2_with fail
      ((with_reducible refine (nocontains_is w.heap.size p b off cap l _ (by go_simp) hl (hT1 _)).mono ?_); rintro e w1 ⟨rfl, rfl⟩)
      go_wp2
      go_ret
      exact ⟨by rw [HD.out]; simp, ebox1 _ _⟩
  · have he1 : ((l.length : Int) == d) = false := by simp [he]
    have HD : Hid (nptB p d l = false) := Lib.hid (by simp [nptB, he])
    clear he h
    go_enter Try.func18, Try.ntmps18
    go_wp2
    go_ret
    exact ⟨by rw [HD.out]; rfl, ebox1 _ _⟩



theorem ninNum (x p : Int) (w : World) (B : Bool) (h : nnumB p x = B) : Calls Try.prog 22 #[.int .i64 x, .int .i64 0, .int .i64 (p - 1)] w fun e w' => e = .returned (.bool B) ∧ w = w' :=
  (rin_is x 0 (p - 1) w B (by rw [← h]; unfold nnumB; congr 1; simp; omega)).mono fun _ _ ⟨h1, h2⟩ => ⟨h1, h2.symm⟩
theorem nall_upto (p : Int) (l : List Int) (h : ∀ (j : Nat) (hj : j < l.length), j < l.length → nnumB p l[j] = true) : l.all (nnumB p) = true := by
  rw [List.all_eq_true]
  intro x hx
  obtain ⟨i, hi, rfl⟩ := List.mem_iff_getElem.1 hx
  exact h i hi hi

set_option maxHeartbeats 1000000 in
theorem npoint_some (p d : Int) (b off cap : Nat) (l : List Int) (w : World) (h2 : 2 ≤ p) (h13 : p ≤ 13) (hl : l.length ≤ 1048576) (hT : Cs w b off l) :
    Calls Try.prog 13 #[.int .i64 p, .int .i64 d, .slice (some ⟨b, off, none⟩) l.length cap] w fun e w' => e = .returned (.bool (nptB p d l)) ∧ w = w' := by
  go_enter Try.func13, Try.ntmps13
  go_wp2
  go_loop [7] (fun i => ∃ k : Nat, k ≤ l.length ∧ i = .int .i64 k ∧ Hid (∀ (j : Nat) (hj : j < l.length), j < k → nnumB p l[j] = true)) (fun i => l.length - (intOf i).toNat)
  case atStart => exact ⟨0, by omega, rfl, Lib.hid (fun j _ h => by omega)⟩
  case round =>
    obtain ⟨k, hk, rfl, HU⟩ := hrel
    by_cases hlt : k < l.length
    · have hlt' : (k : Int) < (l.length : Int) := by omega
      have c0 := hT k hlt
      cases hB : nnumB p l[k]
      · have HX : Hid (nptB p d l = false) := Lib.hid (by
          unfold nptB
          have : l.all (nnumB p) = false := by
            rw [List.all_eq_false]
            exact ⟨_, List.getElem_mem hlt, by simp [hB]⟩
          rw [this]; simp)
        have HB := Lib.hid hB
        clear hB
        go_wp2_with fail
        ((with_reducible refine (ninNum _ _ _ false HB.out).mono ?_); rintro e w1 ⟨rfl, rfl⟩)
        go_wp2
        go_ret
        exact ⟨by rw [HX.out]; rfl, rfl⟩
      · have HN : Hid (∀ (j : Nat) (hj : j < l.length), j < k + 1 → nnumB p l[j] = true) := Lib.hid (fun j hj hjk => by
          by_cases e : j = k
          · subst e; exact hB
          · exact HU.out j hj (by omega))
        have HB := Lib.hid hB
        clear hB
        go_wp2_with fail
        ((with_reducible refine (ninNum _ _ _ true HB.out).mono ?_); rintro e w1 ⟨rfl, rfl⟩)
        go_wp2
        go_round
        case rel => exact ⟨k + 1, by omega, by go_num, HN⟩
        case measure => simp [intOf]; omega
    · obtain rfl : k = l.length := by omega
      have HX : Hid (nptB p d l = ((l.length : Int) == d)) := Lib.hid (by
        unfold nptB
        rw [nall_upto p l HU.out, Bool.and_true, Bool.eq_iff_iff]; simp)
      go_wp2
      go_ret
      exact ⟨by rw [HX.out]; rfl, rfl⟩

theorem npoint_nil (p d : Int) (a : Option Addr) (cap : Nat) (w : World) (hd : 1 ≤ d) :
    Calls Try.prog 13 #[.int .i64 p, .int .i64 d, .slice a 0 cap] w fun e w' => e = .returned (.bool (nptB p d [])) ∧ w = w' := by
  have HX : Hid (nptB p d [] = false) := Lib.hid (by simp [nptB]; omega)
  have h0 : ((0 : Int) == d) = false := by simp; omega
  go_enter Try.func13, Try.ntmps13
  go_wp2
  refine wp_loop_rounds 1 ?_
  rw [rounds_succ]
  go_wp2
  go_ret
  exact ⟨by rw [HX.out]; rfl, rfl⟩
theorem npoint_any (p d : Int) (v : Value) (l : List Int) (w : World) (h2 : 2 ≤ p) (h13 : p ≤ 13) (hd : 1 ≤ d) (hl : l.length ≤ 1048576) (hS : Sl w v l) :
    Calls Try.prog 13 #[.int .i64 p, .int .i64 d, v] w fun e w' => e = .returned (.bool (nptB p d l)) ∧ w = w' := by
  obtain ⟨a, cap, rfl, rfl | ⟨b, off, rfl, hlt, hT⟩⟩ := hS
  · exact npoint_nil p d a cap w hd
  · exact npoint_some p d b off cap l w h2 h13 hl hT


end Go.Proofs.Ytabfdohmgmdgeaa
