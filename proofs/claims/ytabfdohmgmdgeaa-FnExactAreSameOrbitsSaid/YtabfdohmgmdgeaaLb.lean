/-
  LISTS of 64-bit numbers in a law: copied, compared, marked, read back. Conditions: as each theorem states.
-/
import Derived.Test.YtabfdohmgmdgeaaLna
import Derived.Test.YtabfdohmgmdgeaaLq
import Derived.Test.YtabfdohmgmdgeaaLa
namespace Go.Proofs.Ytabfdohmgmdgeaa
open Go.RowKit Go.Sort

set_option maxHeartbeats 1000000 in
theorem ntoI_some (b off cap : Nat) (l : List Int) (w : World) (hl : l.length ≤ 1048576) (hb : b < w.heap.size) (hT : Cs w b off l) :
    Calls Try.prog 7 #[.slice (some ⟨b, off, none⟩) l.length cap] w fun e w' =>
      e = .returned (.slice (some ⟨w.heap.size, 0, none⟩) l.length l.length) ∧ ∃ f, w'.rowIs w.heap.size 2 l.length f ∧ (∀ (j : Nat) (h : j < l.length), f j = .int .i64 l[j]) ∧ Below w.heap.size w w' := by
  obtain ⟨i0, hi, hz0, hz1, hz2⟩ := info_parts einfoI
  have hmk : ∀ w, (Instr.makeSlice 25 (.int .i64 (l.length : Int)) (.int .i64 (l.length : Int))).run Try.prog w = .ok (.slice (some ⟨w.heap.size, 0, none⟩) l.length l.length) (w.alloc (.cells (nmadeI l.length) 2)) := fun w => by
    have h := run_make (P := Try.prog) w 25 2 i0 _ Try.underlying25 hi hz0 .i64 .i64 (l.length : Int) (l.length : Int) (by omega) (by omega) (by rw [hz2]; omega) (by omega)
    rw [hz1] at h
    simpa [nmadeI, Value.cells] using h
  clear hi hz0 hz1 hz2
  go_enter Try.func7, Try.ntmps7
  go_wp2
  go_loopw [4] (fun i wr => ∃ k : Nat, k ≤ l.length ∧ i = .int .i64 k ∧ Below w.heap.size w wr ∧ ∃ f, wr.rowIs w.heap.size 2 l.length f ∧ (∀ (j : Nat) (h : j < l.length), j < k → f j = .int .i64 l[j])) (fun i _ => l.length - (intOf i).toNat)
  case atStart => exact ⟨0, by omega, rfl, ebox1 _ _, _, nmadeI_row w _ _, fun j _ h => by omega⟩
  case round =>
    obtain ⟨k, hk, rfl, hbel, f, hrow, hrt⟩ := hrel
    by_cases hlt : k < l.length
    · have hlt' : (k : Int) < (l.length : Int) := by omega
      have c0 := (hT.below hbel hb) k hlt
      have d0 := hrow.cell hlt
      have f0 := hrow.frozen k
      have rows := hrow.set k (.int .i64 l[k])
      have R : ∀ (j : Nat) (h : j < l.length), j < k + 1 → (fun j => if j = k then Value.int .i64 l[k] else f j) j = .int .i64 l[j] := fun j h hjk => by
        by_cases e : j = k
        · subst e; simp
        · simp only [if_neg e]; exact hrt j h (by omega)
      clear hrow
      go_wp2
      go_roundw
      case rel => exact ⟨k + 1, by omega, by go_num, hbel.setCell (Nat.le_refl _) _, _, rows, R⟩
      case measure => simp [intOf]; omega
    · obtain rfl : k = l.length := by omega
      go_wp2
      go_ret
      exact ⟨rfl, f, hrow, fun j h => hrt j h h, hbel⟩

theorem ntoI_any (v : Value) (l : List Int) (w : World) (hl : l.length ≤ 1048576) (hS : Sl w v l) :
    Calls Try.prog 7 #[v] w fun e w' => ∃ v', e = .returned v' ∧ Sl w' v' l ∧ Below w.heap.size w w' := by
  obtain ⟨a, cap, rfl, h | ⟨b, off, rfl, hlt, hT⟩⟩ := hS
  · subst h
    obtain ⟨i0, hi, hz0, hz1, hz2⟩ := info_parts einfoI
    have hmk : ∀ w, (Instr.makeSlice 25 (.int .i64 0) (.int .i64 0)).run Try.prog w = .ok (.slice (some ⟨w.heap.size, 0, none⟩) 0 0) (w.alloc (.cells (nmadeI 0) 2)) := fun w => by
      have h := run_make (P := Try.prog) w 25 2 i0 _ Try.underlying25 hi hz0 .i64 .i64 0 0 (by omega) (by omega) (by rw [hz2]; omega) (by omega)
      rw [hz1] at h
      simpa [nmadeI, Value.cells] using h
    clear hi hz0 hz1 hz2
    go_enter Try.func7, Try.ntmps7
    go_wp2
    refine wp_loop_rounds 1 ?_
    rw [rounds_succ]
    go_wp2
    go_ret
    exact ⟨_, rfl, ⟨_, 0, rfl, .inl rfl⟩, ebox1 _ _⟩
  · exact (ntoI_some b off cap l w hl hlt hT).mono fun e w' ⟨he, f, hr, ht, hb⟩ => ⟨_, he, ⟨_, _, rfl, .inr ⟨w.heap.size, 0, rfl, hr.lt, fun k hk => by rw [Nat.zero_add, hr.cell hk, ht k hk]⟩⟩, hb⟩

theorem ntoI_own (v : Value) (l : List Int) (w : World) (hl : l.length ≤ 1048576) (hS : Sl w v l) :
    Calls Try.prog 7 #[v] w fun e w' => ∃ v', e = .returned v' ∧ nOwnI w' w.heap.size v' l ∧ Below w.heap.size w w' := by
  obtain ⟨a, cap, rfl, h | ⟨b, off, rfl, hlt, hT⟩⟩ := hS
  · subst h
    obtain ⟨i0, hi, hz0, hz1, hz2⟩ := info_parts einfoI
    have hmk : ∀ w, (Instr.makeSlice 25 (.int .i64 0) (.int .i64 0)).run Try.prog w = .ok (.slice (some ⟨w.heap.size, 0, none⟩) 0 0) (w.alloc (.cells (nmadeI 0) 2)) := fun w => by
      have h := run_make (P := Try.prog) w 25 2 i0 _ Try.underlying25 hi hz0 .i64 .i64 0 0 (by omega) (by omega) (by rw [hz2]; omega) (by omega)
      rw [hz1] at h
      simpa [nmadeI, Value.cells] using h
    clear hi hz0 hz1 hz2
    go_enter Try.func7, Try.ntmps7
    go_wp2
    refine wp_loop_rounds 1 ?_
    rw [rounds_succ]
    go_wp2
    go_ret
    exact ⟨_, rfl, ⟨w.heap.size, _, rfl, Nat.le_refl _, nmadeI_row w 0 _, fun j h => by simp at h⟩, ebox1 _ _⟩
  · refine (ntoI_some b off cap l w hl hlt hT).mono fun e w' ⟨he, f, hr, hf, hb⟩ => ⟨_, he, ⟨w.heap.size, f, rfl, Nat.le_refl _, hr, hf⟩, hb⟩
end Go.Proofs.Ytabfdohmgmdgeaa
