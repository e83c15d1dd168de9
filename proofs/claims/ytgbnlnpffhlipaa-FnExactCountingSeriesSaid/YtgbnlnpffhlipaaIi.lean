/-
  LISTS OF PERMUTATIONS: the program's test. Conditions: as each theorem states.
-/
import Derived.Test.YtgbnlnpffhlipaaIh
namespace Go.Proofs.Ytgbnlnpffhlipaa
open Go.RowKit Go.Sort EchM

abbrev pmF (B : Nat) : Value := .func (.func 33) #[] #[.pointer (some ⟨B, 0, none⟩)]

set_option maxHeartbeats 1000000 in
theorem pmidx_some (B : Nat) (b off cap : Nat) (L : List (List Int)) (w : World) (hB : w.cell? ⟨B, 0, none⟩ = some (.slice (some ⟨b, off, none⟩) L.length cap)) (hbb : b < w.heap.size) (hl : L.length ≤ 1048576) (hlr : ∀ r ∈ L, r.length ≤ 1048576) (hT : RowsW w b off L) (h0 : 0 < L.length) (j : Nat) (hj : j < L.length) (hn : fitB L[0].length L[j] = false) (hp : ∀ (i : Nat) (h : i < L.length), i < j → fitB L[0].length L[i] = true) :
    Calls Try.prog 41 #[.slice (some ⟨b, off, none⟩) L.length cap, pmF B] w fun e w' => e = .returned (.int .i64 j) ∧ w' = w := by
  have HU := Lib.hid (fun (v : Value) (l : List Int) (hll : l.length ≤ 1048576) (hS : Sl w v l) => unfit B _ v L l w hB ⟨_, cap, rfl, .inr ⟨b, off, rfl, hbb, hT⟩⟩ h0 hl hlr hll hS)
  have HN := Lib.hid hn
  have HP := Lib.hid hp
  have HLR := Lib.hid hlr
  clear hn hp hlr
  go_enter Try.func41, Try.ntmps41
  go_wp2
  go_loop [8] (fun i => ∃ k : Nat, k ≤ j ∧ i = .int .i64 k) (fun i => L.length - (intOf i).toNat)
  case atStart => exact ⟨0, by omega, rfl⟩
  case round =>
    obtain ⟨k, hk, rfl⟩ := hrel
    have hlt : k < L.length := by omega
    have hlt' : (k : Int) < (L.length : Int) := by omega
    obtain ⟨u, c0, s0⟩ := hT k hlt
    have HC := Lib.hid (HU.out u L[k] (HLR.out _ (List.getElem_mem hlt)) s0)
    clear s0
    by_cases e : k = j
    · subst e
      go_wp2_with fail
      ((with_reducible refine HC.out.mono ?_); rintro e w1 ⟨rfl, rfl⟩)
      rw [HN.out]
      go_wp2
      go_ret
      exact ⟨rfl, rfl⟩
    · have h0 := Lib.hid (HP.out k hlt (by omega))
      go_wp2_with fail
      ((with_reducible refine HC.out.mono ?_); rintro e w1 ⟨rfl, rfl⟩)
      rw [h0.out]
      go_wp2
      go_round
      case rel => exact ⟨k + 1, by omega, by go_num⟩
      case measure => simp [intOf]; omega

set_option maxHeartbeats 1000000 in
theorem pmidx_none (B : Nat) (b off cap : Nat) (L : List (List Int)) (w : World) (hB : w.cell? ⟨B, 0, none⟩ = some (.slice (some ⟨b, off, none⟩) L.length cap)) (hbb : b < w.heap.size) (hl : L.length ≤ 1048576) (hlr : ∀ r ∈ L, r.length ≤ 1048576) (hT : RowsW w b off L) (h0 : 0 < L.length) (hp : ∀ (i : Nat) (h : i < L.length), fitB L[0].length L[i] = true) :
    Calls Try.prog 41 #[.slice (some ⟨b, off, none⟩) L.length cap, pmF B] w fun e w' => e = .returned (.int .i64 (-1)) ∧ w' = w := by
  have HU := Lib.hid (fun (v : Value) (l : List Int) (hll : l.length ≤ 1048576) (hS : Sl w v l) => unfit B _ v L l w hB ⟨_, cap, rfl, .inr ⟨b, off, rfl, hbb, hT⟩⟩ h0 hl hlr hll hS)
  have HP := Lib.hid hp
  have HLR := Lib.hid hlr
  clear hp hlr
  go_enter Try.func41, Try.ntmps41
  go_wp2
  go_loop [8] (fun i => ∃ k : Nat, k ≤ L.length ∧ i = .int .i64 k) (fun i => L.length - (intOf i).toNat)
  case atStart => exact ⟨0, by omega, rfl⟩
  case round =>
    obtain ⟨k, hk, rfl⟩ := hrel
    by_cases hlt : k < L.length
    · have hlt' : (k : Int) < (L.length : Int) := by omega
      obtain ⟨u, c0, s0⟩ := hT k hlt
      have HC := Lib.hid (HU.out u L[k] (HLR.out _ (List.getElem_mem hlt)) s0)
      have h1 := Lib.hid (HP.out k hlt)
      clear s0
      go_wp2_with fail
      ((with_reducible refine HC.out.mono ?_); rintro e w1 ⟨rfl, rfl⟩)
      rw [h1.out]
      go_wp2
      go_round
      case rel => exact ⟨k + 1, by omega, by go_num⟩
      case measure => simp [intOf]; omega
    · obtain rfl : k = L.length := by omega
      go_wp2
      go_ret
      exact ⟨rfl, rfl⟩

theorem pmcontains (B : Nat) (b off cap : Nat) (L : List (List Int)) (w : World) (hB : w.cell? ⟨B, 0, none⟩ = some (.slice (some ⟨b, off, none⟩) L.length cap)) (hbb : b < w.heap.size) (hl : L.length ≤ 1048576) (hlr : ∀ r ∈ L, r.length ≤ 1048576) (hT : RowsW w b off L) (h0 : 0 < L.length) :
    Calls Try.prog 35 #[.slice (some ⟨b, off, none⟩) L.length cap, pmF B] w fun e w' => e = .returned (.bool (!L.all (fitB L[0].length))) ∧ w' = w := by
  cases h : L.all (fitB L[0].length)
  · obtain ⟨j, hj, hn, hp⟩ := first_outG (fitB L[0].length) L h
    have HC := Lib.hid (pmidx_some B b off cap L w hB hbb hl hlr hT h0 j hj hn hp)
    clear h hn hp hlr
    go_enter Try.func35, Try.ntmps35
    go_wp2_with fail
    ((with_reducible refine HC.out.mono ?_); rintro e w1 ⟨rfl, rfl⟩)
    go_wp2
    go_ret
    exact ⟨rfl, rfl⟩
  · have hp : ∀ (i : Nat) (hi : i < L.length), fitB L[0].length L[i] = true := fun i hi => List.all_eq_true.1 h _ (List.getElem_mem hi)
    have HC := Lib.hid (pmidx_none B b off cap L w hB hbb hl hlr hT h0 hp)
    clear h hp hlr
    go_enter Try.func35, Try.ntmps35
    go_wp2_with fail
    ((with_reducible refine HC.out.mono ?_); rintro e w1 ⟨rfl, rfl⟩)
    go_wp2
    go_ret
    exact ⟨rfl, rfl⟩

set_option maxHeartbeats 1000000 in
theorem iprms (v : Value) (L : List (List Int)) (w : World) (hl : L.length ≤ 1048576) (hlr : ∀ r ∈ L, r.length ≤ 1048576) (hS : SlR w v L) :
    Calls Try.prog 26 #[v] w fun e w' => e = .returned (.bool (prmsB L)) ∧ Below w.heap.size w w' := by
  obtain ⟨a, cap, rfl, hc⟩ := hS
  by_cases h0 : 0 < L.length
  · have h0' : 1 ≤ (L.length : Int) := by omega
    by_cases h120 : L.length ≤ 120
    · have h120' : (L.length : Int) ≤ 120 := by omega
      obtain ⟨b, off, rfl, hbb, hT⟩ : ∃ b off, a = some ⟨b, off, none⟩ ∧ b < w.heap.size ∧ RowsW w b off L := by
        rcases hc with rfl | h
        · simp at h0
        · exact h
      have HX : Hid (prmsB L = L.all (fitB L[0].length)) := Lib.hid (by
        unfold prmsB
        rw [headD_at h0]
        simp [h120]
        omega)
      obtain ⟨wx, hwx⟩ : ∃ wx, wx = w.alloc (.cells #[.slice (some ⟨b, off, none⟩) L.length cap] 29) := ⟨_, rfl⟩
      have hbw : Below w.heap.size w wx := by rw [hwx]; exact ebox1 _ _
      have hBx : wx.cell? ⟨w.heap.size, 0, none⟩ = some (.slice (some ⟨b, off, none⟩) L.length cap) := by
        rw [hwx]
        exact (World.rowIs_alloc w #[.slice (some ⟨b, off, none⟩) L.length cap] 29 (fun _ => .slice (some ⟨b, off, none⟩) L.length cap) (fun i hi => by simp at hi; subst hi; rfl)).cell (i := 0) (by simp)
      have HC := Lib.hid (pmcontains w.heap.size b off cap L wx hBx (Nat.lt_of_lt_of_le hbb hbw.size) hl hlr (hT.below hbw hbb) h0)
      clear hT hc hlr
      go_enter Try.func26, Try.ntmps26
      go_wp2_with fail
      rw [← hwx]
      ((with_reducible refine HC.out.mono ?_); rintro e w1 ⟨rfl, rfl⟩)
      go_wp2
      go_ret
      exact ⟨by rw [HX.out]; simp, by rw [← hwx]; exact hbw⟩
    · have HX : Hid (prmsB L = false) := Lib.hid (by simp [prmsB, h120])
      have h120' : ¬ (L.length : Int) ≤ 120 := by omega
      clear hc hlr
      go_enter Try.func26, Try.ntmps26
      go_wp2
      go_ret
      exact ⟨by rw [HX.out]; rfl, ebox1 _ _⟩
  · have HX : Hid (prmsB L = false) := Lib.hid (by
      have : L.length = 0 := by omega
      simp [prmsB, this])
    have h0' : ¬ 1 ≤ (L.length : Int) := by omega
    clear hc hlr
    go_enter Try.func26, Try.ntmps26
    go_wp2
    go_ret
    exact ⟨by rw [HX.out]; rfl, ebox1 _ _⟩
end Go.Proofs.Ytgbnlnpffhlipaa
