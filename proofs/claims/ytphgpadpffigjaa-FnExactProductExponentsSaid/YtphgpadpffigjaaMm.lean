/-
  MARKS in lists of terms. Conditions: as each theorem states.. Conditions: as each theorem states.
-/
import Derived.Test.YtphgpadpffigjaaF
namespace Go.Proofs.Ytphgpadpffigjaa
open Go.RowKit Go.Sort

/-- The mark of cell c, the first being k0. -/
def markT (k0 : Int) (c : Nat) : Value := if c % 4 = 3 then .int .i64 (k0 + c) else .int .u8 ((k0 + c) % 256)
theorem grown_setT {w wr : World} {g : Nat} (h : w.grownBy wr (some g)) (o : Nat) (v : Value) : w.grownBy (wr.setCell ⟨g, o, none⟩ v) (some g) :=
  ⟨h.os, h.tape, h.output, by rw [World.size_setCell]; exact h.size, fun k hk hne => (Below.heap_setCell wr ⟨g, o, none⟩ v k (fun e => hne (by rw [e]))).trans (h.block k hk hne)⟩

set_option maxHeartbeats 1000000 in
theorem markT_any (g n cap N : Nat) (k0 : Int) (f : Nat → Value) (w : World) (hr : w.rowIs g 92 N f) (hN : n * 4 ≤ N) (hn : n ≤ 1048576) (h0 : 0 ≤ k0) (h1 : k0 ≤ 1000000000) :
    Calls Try.prog 39 #[.slice (some ⟨g, 0, none⟩) n cap, .int .i64 k0] w fun e w' =>
      e = .returned (.int .i64 (k0 + 4 * n)) ∧ ∃ f', w'.rowIs g 92 N f' ∧ (∀ j, j < n * 4 → f' j = markT k0 j) ∧ w.grownBy w' (some g) := by
  go_enter Try.func39, Try.ntmps39
  go_wp2
  go_loopw [1, 5] (fun m i wr => ∃ k : Nat, k ≤ n ∧ i = .int .i64 k ∧ m = .int .i64 (k0 + 4 * k) ∧ ∃ f', wr.rowIs g 92 N f' ∧ (∀ j, j < k * 4 → f' j = markT k0 j) ∧ w.grownBy wr (some g)) (fun _ i _ => n - (intOf i).toNat)
  case atStart => exact ⟨0, by omega, rfl, by simp, f, hr, fun j h => by omega, ⟨rfl, rfl, rfl, Nat.le_refl _, fun _ _ _ => rfl⟩⟩
  case round =>
    obtain ⟨k, hk, rfl, rfl, f1, hr1, hf1, hg1⟩ := hrel
    by_cases hlt : k < n
    · have hlt' : (k : Int) < (n : Int) := by omega
      go_wp2
      obtain ⟨wo, rfl⟩ : ∃ wo : World, wo = wr := ⟨_, rfl⟩
      go_loopw [1, 6] (fun m i wr => ∃ t : Nat, t ≤ 3 ∧ i = .int .i64 t ∧ m = .int .i64 (k0 + 4 * k + t) ∧ ∃ f', wr.rowIs g 92 N f' ∧ (∀ j, j < k * 4 + t → f' j = markT k0 j) ∧ w.grownBy wr (some g)) (fun _ i _ => 3 - (intOf i).toNat)
      case atStart => exact ⟨0, by omega, rfl, by simp, f1, hr1, fun j h => hf1 j (by omega), hg1⟩
      case round =>
        obtain ⟨t, ht, rfl, rfl, f2, hr2, hf2, hg2⟩ := hrel
        by_cases hlt2 : t < 3
        · have hlt2' : (t : Int) < 3 := by omega
          have hcell := hr2.cell (i := k * 4 + t) (by omega)
          have hfz := hr2.frozen (k * 4 + t)
          go_wp2
          go_roundw
          case rel =>
            refine ⟨t + 1, by omega, by go_num, by go_num, _, hr2.set (k * 4 + t) _, fun j h => ?_, grown_setT hg2 _ _⟩
            by_cases hj : j = k * 4 + t
            · rw [if_pos hj, hj]; unfold markT; rw [if_neg (by omega)]; congr 1; omega
            · rw [if_neg hj]; exact hf2 j (by omega)
          case measure => simp [intOf]; omega
        · obtain rfl : t = 3 := by omega
          have hcell := hr2.cell (i := k * 4 + 3) (by omega)
          have hfz := hr2.frozen (k * 4 + 3)
          go_wp2
          go_roundw
          case rel =>
            refine ⟨k + 1, by omega, by go_num, by go_num, _, hr2.set (k * 4 + 3) _, fun j h => ?_, grown_setT hg2 _ _⟩
            by_cases hj : j = k * 4 + 3
            · rw [if_pos hj, hj]; unfold markT; rw [if_pos (by omega)]; congr 1; omega
            · rw [if_neg hj]; exact hf2 j (by omega)
          case measure => simp [intOf]; omega
    · obtain rfl : k = n := by omega
      go_wp2
      go_ret
      exact ⟨rfl, f1, hr1, hf1, hg1⟩
end Go.Proofs.Ytphgpadpffigjaa
