/-
  DEGREES: what a list of degrees must be, in the model and in the program. Conditions: as each theorem states.
-/
import Derived.Test.YtgbnlnpffhlipaaRz
namespace Go.Proofs.Ytgbnlnpffhlipaa
open Go.RowKit Go.Sort EchM

def dgB (x : Int) : Bool := decide (1 ≤ x) && decide (x ≤ 40)
def degB (l : List Int) : Bool := decide (l.length ≤ 6) && l.all dgB
theorem dgB_iff {x : Int} : dgB x = true ↔ 1 ≤ x ∧ x ≤ 40 := by simp [dgB]
theorem degB_len {l : List Int} (h : degB l = true) : l.length ≤ 6 := by
  simp [degB] at h; omega
theorem degB_in {l : List Int} (h : degB l = true) (k : Nat) (hk : k < l.length) : 1 ≤ l[k] ∧ l[k] ≤ 40 := by
  simp only [degB, Bool.and_eq_true, List.all_eq_true] at h
  exact dgB_iff.1 (h.2 _ (List.getElem_mem hk))
theorem sdg (x : Int) (w : World) : Calls Try.prog 18 #[.int .i64 x, .int .i64 1, .int .i64 40] w fun e w' => e = .returned (.bool (dgB x)) ∧ w' = w := sin_is _ _ _ w _ rfl

set_option maxHeartbeats 1000000 in
theorem sdeg (v : Value) (l : List Int) (w : World) (hl : l.length ≤ 1048576) (hS : Sl w v l) :
    Calls Try.prog 17 #[v] w fun e w' => e = .returned (.bool (degB l)) ∧ w' = w := by
  obtain ⟨a, cap, rfl, hc⟩ := hS
  go_enter Try.func17, Try.ntmps17
  go_wp2
  go_loop [3] (fun i => ∃ k : Nat, k ≤ l.length ∧ i = .int .i64 k ∧ Hid (∀ (j : Nat) (hj : j < l.length), j < k → dgB l[j] = true)) (fun i => l.length - (intOf i).toNat)
  case atStart => exact ⟨0, by omega, rfl, Lib.hid (fun j _ h => by omega)⟩
  case round =>
    obtain ⟨k, hk, rfl, HU⟩ := hrel
    by_cases hlt : k < l.length
    · have hlt' : (k : Int) < (l.length : Int) := by omega
      obtain ⟨b, off, rfl, hbb, hT⟩ : ∃ b off, a = some ⟨b, off, none⟩ ∧ b < w.heap.size ∧ Cs w b off l := by
        rcases hc with rfl | h
        · simp at hlt
        · exact h
      have c0 := hT k hlt
      cases hB : dgB l[k]
      · have HX : Hid (degB l = false) := Lib.hid (by
          unfold degB
          have : l.all dgB = false := by
            rw [List.all_eq_false]
            exact ⟨_, List.getElem_mem hlt, by simp [hB]⟩
          rw [this]; simp)
        have HB := Lib.hid hB
        clear hB
        go_wp2_with fail
        ((with_reducible refine (sdg _ _).mono ?_); rintro e w1 ⟨rfl, rfl⟩)
        rw [HB.out]
        go_wp2
        go_ret
        exact ⟨by rw [HX.out]; rfl, rfl⟩
      · have HN : Hid (∀ (j : Nat) (hj : j < l.length), j < k + 1 → dgB l[j] = true) := Lib.hid (fun j hj hjk => by
          by_cases e : j = k
          · subst e; exact hB
          · exact HU.out j hj (by omega))
        have HB := Lib.hid hB
        clear hB
        go_wp2_with fail
        ((with_reducible refine (sdg _ _).mono ?_); rintro e w1 ⟨rfl, rfl⟩)
        rw [HB.out]
        go_wp2
        go_round
        case rel => exact ⟨k + 1, by omega, by go_num, HN⟩
        case measure => simp [intOf]; omega
    · obtain rfl : k = l.length := by omega
      have HX : Hid (degB l = decide (l.length ≤ 6)) := Lib.hid (by
        unfold degB
        rw [all_upto dgB l HU.out, Bool.and_true])
      by_cases h1 : l.length ≤ 6
      · have h1' : (l.length : Int) ≤ 6 := by omega
        go_wp2
        go_ret
        exact ⟨by rw [HX.out]; simp; omega, rfl⟩
      · have h1' : ¬ (l.length : Int) ≤ 6 := by omega
        go_wp2
        go_ret
        exact ⟨by rw [HX.out]; simp; omega, rfl⟩

theorem dcout (x : Int) (w : World) : Calls Try.prog 28 #[.int .i64 x] w fun e w' => e = .returned (.bool (!dgB x)) ∧ w' = w := by
  have HB : Hid (dgB x = !(decide (x < 1) || decide (40 < x))) := Lib.hid (by
    rw [Bool.eq_iff_iff]
    simp [dgB])
  by_cases h1 : x < 1
  all_goals
    go_enter Try.func28, Try.ntmps28
    go_wp2
    go_ret
    exact ⟨by rw [HB.out]; first | (simp [h1]; done) | (simp; intros; omega), rfl⟩
abbrev dcF : Value := .func (.func 28) #[] #[]

set_option maxHeartbeats 1000000 in
theorem dcidx_some (b off cap : Nat) (l : List Int) (w : World) (hl : l.length ≤ 1048576) (hT : Cs w b off l) (j : Nat) (hj : j < l.length) (hn : dgB l[j] = false) (hp : ∀ (i : Nat) (h : i < l.length), i < j → dgB l[i] = true) :
    Calls Try.prog 38 #[.slice (some ⟨b, off, none⟩) l.length cap, dcF] w fun e w' => e = .returned (.int .i64 j) ∧ w' = w := by
  have HN := Lib.hid hn
  have HP := Lib.hid hp
  clear hn hp
  go_enter Try.func38, Try.ntmps38
  go_wp2
  go_loop [8] (fun i => ∃ k : Nat, k ≤ j ∧ i = .int .i64 k) (fun i => l.length - (intOf i).toNat)
  case atStart => exact ⟨0, by omega, rfl⟩
  case round =>
    obtain ⟨k, hk, rfl⟩ := hrel
    have hlt : k < l.length := by omega
    have hlt' : (k : Int) < (l.length : Int) := by omega
    have c0 := hT k hlt
    by_cases e : k = j
    · subst e
      go_wp2_with fail
      ((with_reducible refine (dcout _ _).mono ?_); rintro e w1 ⟨rfl, rfl⟩)
      rw [HN.out]
      go_wp2
      go_ret
      exact ⟨rfl, rfl⟩
    · have h0 := Lib.hid (HP.out k hlt (by omega))
      go_wp2_with fail
      ((with_reducible refine (dcout _ _).mono ?_); rintro e w1 ⟨rfl, rfl⟩)
      rw [h0.out]
      go_wp2
      go_round
      case rel => exact ⟨k + 1, by omega, by go_num⟩
      case measure => simp [intOf]; omega

set_option maxHeartbeats 1000000 in
theorem dcidx_none (a : Option Addr) (cap : Nat) (l : List Int) (w : World) (hl : l.length ≤ 1048576) (hS : l = [] ∨ ∃ b off, a = some ⟨b, off, none⟩ ∧ b < w.heap.size ∧ Cs w b off l) (hp : ∀ (i : Nat) (h : i < l.length), dgB l[i] = true) :
    Calls Try.prog 38 #[.slice a l.length cap, dcF] w fun e w' => e = .returned (.int .i64 (-1)) ∧ w' = w := by
  have HP := Lib.hid hp
  clear hp
  go_enter Try.func38, Try.ntmps38
  go_wp2
  go_loop [8] (fun i => ∃ k : Nat, k ≤ l.length ∧ i = .int .i64 k) (fun i => l.length - (intOf i).toNat)
  case atStart => exact ⟨0, by omega, rfl⟩
  case round =>
    obtain ⟨k, hk, rfl⟩ := hrel
    by_cases hlt : k < l.length
    · have hlt' : (k : Int) < (l.length : Int) := by omega
      obtain ⟨b, off, rfl, hbb, hT⟩ : ∃ b off, a = some ⟨b, off, none⟩ ∧ b < w.heap.size ∧ Cs w b off l := by
        rcases hS with rfl | h
        · simp at hlt
        · exact h
      have c0 := hT k hlt
      have h0 := Lib.hid (HP.out k hlt)
      go_wp2_with fail
      ((with_reducible refine (dcout _ _).mono ?_); rintro e w1 ⟨rfl, rfl⟩)
      rw [h0.out]
      go_wp2
      go_round
      case rel => exact ⟨k + 1, by omega, by go_num⟩
      case measure => simp [intOf]; omega
    · obtain rfl : k = l.length := by omega
      go_wp2
      go_ret
      exact ⟨rfl, rfl⟩

theorem dccontains (v : Value) (l : List Int) (w : World) (hl : l.length ≤ 1048576) (hS : Sl w v l) :
    Calls Try.prog 29 #[v, dcF] w fun e w' => e = .returned (.bool (!l.all dgB)) ∧ w' = w := by
  obtain ⟨a, cap, rfl, hc⟩ := hS
  cases h : l.all dgB
  · obtain ⟨j, hj, hn, hp⟩ := first_out dgB l h
    obtain ⟨b, off, rfl, hbb, hT⟩ : ∃ b off, a = some ⟨b, off, none⟩ ∧ b < w.heap.size ∧ Cs w b off l := by
      rcases hc with rfl | h
      · simp at hj
      · exact h
    clear h hc
    go_enter Try.func29, Try.ntmps29
    go_wp2_with fail
    ((with_reducible refine (dcidx_some b off cap l _ hl hT j hj hn hp).mono ?_); rintro e w1 ⟨rfl, rfl⟩)
    go_wp2
    go_ret
    exact ⟨rfl, rfl⟩
  · have hp : ∀ (i : Nat) (hi : i < l.length), dgB l[i] = true := fun i hi => List.all_eq_true.1 h _ (List.getElem_mem hi)
    clear h
    have HP := Lib.hid hp
    clear hp
    go_enter Try.func29, Try.ntmps29
    go_wp2_with fail
    ((with_reducible refine (dcidx_none a cap l _ hl hc HP.out).mono ?_); rintro e w1 ⟨rfl, rfl⟩)
    go_wp2
    go_ret
    exact ⟨rfl, rfl⟩

set_option maxHeartbeats 1000000 in
theorem ideg (v : Value) (l : List Int) (w : World) (hl : l.length ≤ 1048576) (hS : Sl w v l) :
    Calls Try.prog 20 #[v] w fun e w' => e = .returned (.bool (degB l)) ∧ w' = w := by
  obtain ⟨a, cap, rfl, _⟩ := id hS
  by_cases h2 : l.length ≤ 6
  · have HX : Hid (degB l = l.all dgB) := Lib.hid (by simp [degB, h2])
    have h2' : (l.length : Int) ≤ 6 := by omega
    clear h2
    go_enter Try.func20, Try.ntmps20
    go_wp2_with fail
    ((with_reducible refine (dccontains _ l _ hl hS).mono ?_); rintro e w1 ⟨rfl, rfl⟩)
    go_wp2
    go_ret
    exact ⟨by rw [HX.out]; simp, rfl⟩
  · have HX : Hid (degB l = false) := Lib.hid (by simp [degB, h2])
    have h2' : ¬ (l.length : Int) ≤ 6 := by omega
    clear h2
    go_enter Try.func20, Try.ntmps20
    go_wp2
    go_ret
    exact ⟨by rw [HX.out]; rfl, rfl⟩
end Go.Proofs.Ytgbnlnpffhlipaa
