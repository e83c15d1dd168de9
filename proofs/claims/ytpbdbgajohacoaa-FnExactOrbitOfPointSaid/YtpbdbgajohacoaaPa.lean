/-
  LISTS OF 64-BIT NUMBERS beside groups: copied, compared, marked, judged. Conditions: as each theorem states.
-/
import Derived.Test.YtpbdbgajohacoaaMg
namespace Go.Proofs.Ytpbdbgajohacoaa
open Go.RowKit Go.Sort EchM

theorem ngrown_setT {w wr : World} {g : Nat} (h : w.grownBy wr (some g)) (o : Nat) (v : Value) : w.grownBy (wr.setCell ⟨g, o, none⟩ v) (some g) :=
  ⟨h.os, h.tape, h.output, by rw [World.size_setCell]; exact h.size, fun k hk hne => (Below.heap_setCell wr ⟨g, o, none⟩ v k (fun e => hne (by rw [e]))).trans (h.block k hk hne)⟩

set_option maxHeartbeats 1000000 in
def nmadeI (n : Nat) : Array Value := madeCells #[.int .i64 0] n
theorem nmadeI_row (w : World) (n : Nat) (t : TypeId) : (w.alloc (.cells (nmadeI n) t)).rowIs w.heap.size t n (fun _ => .int .i64 0) := World.rowIs_made w (.int .i64 0) n t

set_option maxHeartbeats 1000000 in
theorem ntoI_some (b off cap : Nat) (l : List Int) (w : World) (hl : l.length ≤ 1048576) (hb : b < w.heap.size) (hT : Cs w b off l) :
    Calls Try.prog 23 #[.slice (some ⟨b, off, none⟩) l.length cap] w fun e w' =>
      e = .returned (.slice (some ⟨w.heap.size, 0, none⟩) l.length l.length) ∧ ∃ f, w'.rowIs w.heap.size 2 l.length f ∧ (∀ (j : Nat) (h : j < l.length), f j = .int .i64 l[j]) ∧ Below w.heap.size w w' := by
  obtain ⟨i0, hi, hz0, hz1, hz2⟩ := info_parts einfoI
  have hmk : ∀ w, (Instr.makeSlice 41 (.int .i64 (l.length : Int)) (.int .i64 (l.length : Int))).run Try.prog w = .ok (.slice (some ⟨w.heap.size, 0, none⟩) l.length l.length) (w.alloc (.cells (nmadeI l.length) 2)) := fun w => by
    have h := run_make (P := Try.prog) w 41 2 i0 _ Try.underlying41 hi hz0 .i64 .i64 (l.length : Int) (l.length : Int) (by omega) (by omega) (by rw [hz2]; omega) (by omega)
    rw [hz1] at h
    simpa [nmadeI, Value.cells] using h
  clear hi hz0 hz1 hz2
  go_enter Try.func23, Try.ntmps23
  go_wp2
  go_loopw [4] (fun i wr => ∃ k : Nat, k ≤ l.length ∧ i = .int .i64 k ∧ Below w.heap.size w wr ∧ ∃ f, wr.rowIs w.heap.size 2 l.length f ∧ (∀ (j : Nat) (h : j < l.length), j < k → f j = .int .i64 l[j])) (fun i _ => l.length - (intOf i).toNat)
  case atStart => exact ⟨0, by omega, rfl, ebox1 _ _, _, nmadeI_row w _ _, fun j _ h => by omega⟩
  case round =>
    obtain ⟨k, hk, rfl, hbel, f, hrow, hrt⟩ := hrel
    by_cases hlt : k < l.length
    · have hlt' : (k : Int) < (l.length : Int) := by omega
      have c0 := (hT.below hbel hb) k hlt
      have d0 := hrow.cell hlt
      have f0 := hrow.frozen k
      have rows := hrow.set k (.int .i64 l[k])
      have R : ∀ (j : Nat) (h : j < l.length), j < k + 1 → (fun j => if j = k then Value.int .i64 l[k] else f j) j = .int .i64 l[j] := fun j h hjk => by
        by_cases e : j = k
        · subst e; simp
        · simp only [if_neg e]; exact hrt j h (by omega)
      clear hrow
      go_wp2
      go_roundw
      case rel => exact ⟨k + 1, by omega, by go_num, hbel.setCell (Nat.le_refl _) _, _, rows, R⟩
      case measure => simp [intOf]; omega
    · obtain rfl : k = l.length := by omega
      go_wp2
      go_ret
      exact ⟨rfl, f, hrow, fun j h => hrt j h h, hbel⟩

theorem ntoI_any (v : Value) (l : List Int) (w : World) (hl : l.length ≤ 1048576) (hS : Sl w v l) :
    Calls Try.prog 23 #[v] w fun e w' => ∃ v', e = .returned v' ∧ Sl w' v' l ∧ Below w.heap.size w w' := by
  obtain ⟨a, cap, rfl, h | ⟨b, off, rfl, hlt, hT⟩⟩ := hS
  · subst h
    obtain ⟨i0, hi, hz0, hz1, hz2⟩ := info_parts einfoI
    have hmk : ∀ w, (Instr.makeSlice 41 (.int .i64 0) (.int .i64 0)).run Try.prog w = .ok (.slice (some ⟨w.heap.size, 0, none⟩) 0 0) (w.alloc (.cells (nmadeI 0) 2)) := fun w => by
      have h := run_make (P := Try.prog) w 41 2 i0 _ Try.underlying41 hi hz0 .i64 .i64 0 0 (by omega) (by omega) (by rw [hz2]; omega) (by omega)
      rw [hz1] at h
      simpa [nmadeI, Value.cells] using h
    clear hi hz0 hz1 hz2
    go_enter Try.func23, Try.ntmps23
    go_wp2
    refine wp_loop_rounds 1 ?_
    rw [rounds_succ]
    go_wp2
    go_ret
    exact ⟨_, rfl, ⟨_, 0, rfl, .inl rfl⟩, ebox1 _ _⟩
  · exact (ntoI_some b off cap l w hl hlt hT).mono fun e w' ⟨he, f, hr, ht, hb⟩ => ⟨_, he, ⟨_, _, rfl, .inr ⟨w.heap.size, 0, rfl, hr.lt, fun k hk => by rw [Nat.zero_add, hr.cell hk, ht k hk]⟩⟩, hb⟩

set_option maxHeartbeats 1000000 in
theorem neqI_some (g o cap g' o' cap' : Nat) (l : List Int) (w : World) (hl : l.length ≤ 1048576) (hT : Cs w g o l) (hT' : Cs w g' o' l) :
    Calls Try.prog 26 #[.slice (some ⟨g, o, none⟩) l.length cap, .slice (some ⟨g', o', none⟩) l.length cap'] w fun e w' => e = .returned (.bool true) ∧ Below w.heap.size w w' := by
  have hnn : ((l.length : Int) != (l.length : Int)) = false := by simp
  go_enter Try.func26, Try.ntmps26
  go_wp2
  go_loopw [5] (fun i wr => ∃ k : Nat, k ≤ l.length ∧ i = .int .i64 k ∧ ∃ n, wr = w.drewN n) (fun i _ => l.length - (intOf i).toNat)
  case atStart => exact ⟨0, by omega, rfl, 0, rfl⟩
  case round =>
    obtain ⟨k, hk, rfl, n, rfl⟩ := hrel
    by_cases hlt : k < l.length
    · have hlt' : (k : Int) < (l.length : Int) := by omega
      have a0 := hT k hlt
      have b0 := hT' k hlt
      have hq : (l[k] != l[k]) = false := by simp
      go_wp2
      go_quiet (fail)
      go_wp2
      go_roundw
      case rel => exact ⟨k + 1, by omega, by go_num, _, rfl⟩
      case measure => simp [intOf]; omega
    · obtain rfl : k = l.length := by omega
      go_wp2
      go_ret
      exact ⟨rfl, below_drewN (Below.refl _ _) n⟩

theorem neqI_zero (a a' : Option Addr) (c c' : Nat) (w : World) :
    Calls Try.prog 26 #[.slice a 0 c, .slice a' 0 c'] w fun e w' => e = .returned (.bool true) ∧ Below w.heap.size w w' := by
  go_enter Try.func26, Try.ntmps26
  go_wp2
  refine wp_loop_rounds 1 ?_
  rw [rounds_succ]
  go_wp2
  go_ret
  exact ⟨rfl, Below.refl _ _⟩

theorem neqI_same (v v' : Value) (l : List Int) (w : World) (hl : l.length ≤ 1048576) (hS : Sl w v l) (hS' : Sl w v' l) :
    Calls Try.prog 26 #[v, v'] w fun e w' => e = .returned (.bool true) ∧ Below w.heap.size w w' := by
  obtain ⟨a, cap, rfl, h⟩ := hS
  obtain ⟨a', cap', rfl, h'⟩ := hS'
  cases l with
  | nil => exact neqI_zero _ _ _ _ _
  | cons t r =>
    rcases h with h | ⟨b, off, rfl, hlt, hT⟩
    · cases h
    · rcases h' with h' | ⟨b', off', rfl, hlt', hT'⟩
      · cases h'
      · exact neqI_some b off cap b' off' cap' _ w hl hT hT'



/-- A list of numbers in a block of the call's own. -/
def nOwnI (w : World) (base : Nat) (v : Value) (l : List Int) : Prop :=
  ∃ g f, v = .slice (some ⟨g, 0, none⟩) l.length l.length ∧ base ≤ g ∧ w.rowIs g 2 l.length f ∧ ∀ (j : Nat) (h : j < l.length), f j = .int .i64 l[j]
theorem nOwnI.slice {w : World} {base : Nat} {v : Value} {l : List Int} (h : nOwnI w base v l) : Sl w v l := by
  obtain ⟨g, f, rfl, _, hr, hf⟩ := h
  exact ⟨_, _, rfl, .inr ⟨g, 0, rfl, hr.lt, fun k hk => by rw [Nat.zero_add, hr.cell hk, hf k hk]⟩⟩
theorem nOwnI.below {w w' : World} {base : Nat} {v : Value} {l : List Int} (h : nOwnI w base v l) (hb : Below w.heap.size w w') : nOwnI w' base v l := by
  obtain ⟨g, f, rfl, hg, hr, hf⟩ := h
  exact ⟨g, f, rfl, hg, erow_below hr hb hr.lt, hf⟩
theorem nOwnI.row {w : World} {base : Nat} {v : Value} {l : List Int} (h : nOwnI w base v l) : ∀ g, v.ownBlock = some g → base ≤ g ∧ ∃ N f, w.rowIs g 2 N f := by
  obtain ⟨g, f, rfl, hg, hr, hf⟩ := h
  intro c hc
  simp [Value.ownBlock] at hc
  subst hc
  exact ⟨hg, _, f, hr⟩
theorem ntoI_own (v : Value) (l : List Int) (w : World) (hl : l.length ≤ 1048576) (hS : Sl w v l) :
    Calls Try.prog 23 #[v] w fun e w' => ∃ v', e = .returned v' ∧ nOwnI w' w.heap.size v' l ∧ Below w.heap.size w w' := by
  obtain ⟨a, cap, rfl, h | ⟨b, off, rfl, hlt, hT⟩⟩ := hS
  · subst h
    obtain ⟨i0, hi, hz0, hz1, hz2⟩ := info_parts einfoI
    have hmk : ∀ w, (Instr.makeSlice 41 (.int .i64 0) (.int .i64 0)).run Try.prog w = .ok (.slice (some ⟨w.heap.size, 0, none⟩) 0 0) (w.alloc (.cells (nmadeI 0) 2)) := fun w => by
      have h := run_make (P := Try.prog) w 41 2 i0 _ Try.underlying41 hi hz0 .i64 .i64 0 0 (by omega) (by omega) (by rw [hz2]; omega) (by omega)
      rw [hz1] at h
      simpa [nmadeI, Value.cells] using h
    clear hi hz0 hz1 hz2
    go_enter Try.func23, Try.ntmps23
    go_wp2
    refine wp_loop_rounds 1 ?_
    rw [rounds_succ]
    go_wp2
    go_ret
    exact ⟨_, rfl, ⟨w.heap.size, _, rfl, Nat.le_refl _, nmadeI_row w 0 _, fun j h => by simp at h⟩, ebox1 _ _⟩
  · refine (ntoI_some b off cap l w hl hlt hT).mono fun e w' ⟨he, f, hr, hf, hb⟩ => ⟨_, he, ⟨w.heap.size, f, rfl, Nat.le_refl _, hr, hf⟩, hb⟩

set_option maxHeartbeats 1000000 in
theorem nmarkI_own {base : Nat} {v : Value} {l : List Int} (k0 : Int) (w : World) (h : nOwnI w base v l) (hn : l.length ≤ 1048576) (h0 : 0 ≤ k0) (h1 : k0 ≤ 1000000000) :
    Calls Try.prog 27 #[v, .int .i64 k0] w fun e w' => e = .returned (.int .i64 (k0 + l.length)) ∧ w.grownBy w' v.ownBlock := by
  obtain ⟨g, f, rfl, hg, hr, hf⟩ := h
  clear hf
  simp only [Value.ownBlock]
  generalize l.length = n at *
  go_enter Try.func27, Try.ntmps27
  go_wp2
  go_loopw [1, 5] (fun m i wr => ∃ k : Nat, k ≤ n ∧ i = .int .i64 k ∧ m = .int .i64 (k0 + k) ∧ (∃ f', wr.rowIs g 2 n f') ∧ w.grownBy wr (some g)) (fun _ i _ => n - (intOf i).toNat)
  case atStart => exact ⟨0, by omega, rfl, by simp, ⟨f, hr⟩, World.grownBy.refl _ _⟩
  case round =>
    obtain ⟨k, hk, rfl, rfl, ⟨f', hr'⟩, hg'⟩ := hrel
    by_cases hlt : k < n
    · have hlt' : (k : Int) < (n : Int) := by omega
      have c0 := hr'.cell hlt
      have z0 := hr'.frozen k
      have hr2 := hr'.set k (.int .i64 (k0 + k))
      have hg2 := ngrown_setT hg' k (.int .i64 (k0 + k))
      clear hr' hg' hr
      go_wp2
      go_roundw
      case rel => exact ⟨k + 1, by omega, by go_num, by go_num, ⟨_, hr2⟩, hg2⟩
      case measure => simp [intOf]; omega
    · obtain rfl : k = n := by omega
      go_wp2
      go_ret
      exact ⟨rfl, hg'⟩

/-- A list of numbers that lies below a block. -/
def nSliceIB (w : World) (B : Nat) (v : Value) (l : List Int) : Prop :=
  ∃ a cap, v = .slice a l.length cap ∧ (l = [] ∨ ∃ b off, a = some ⟨b, off, none⟩ ∧ b < B ∧ Cs w b off l)
theorem Sl.bound {w : World} {v : Value} {l : List Int} (h : Sl w v l) : nSliceIB w w.heap.size v l := h
theorem nSliceIB.slice {w : World} {B : Nat} {v : Value} {l : List Int} (h : nSliceIB w B v l) (hB : B ≤ w.heap.size) : Sl w v l := by
  obtain ⟨a, cap, hv, h | ⟨b, off, ha, hlt, hT⟩⟩ := h
  · exact ⟨a, cap, hv, .inl h⟩
  · exact ⟨a, cap, hv, .inr ⟨b, off, ha, by omega, hT⟩⟩
theorem nSliceIB.kept {w w' : World} {B : Nat} {v : Value} {l : List Int} {row : Option Nat} (h : nSliceIB w B v l) (hg : w.grownBy w' row) (hB : B ≤ w.heap.size) (hr : ∀ g, row = some g → B ≤ g) : nSliceIB w' B v l := by
  obtain ⟨a, cap, hv, h | ⟨b, off, ha, hlt, hT⟩⟩ := h
  · exact ⟨a, cap, hv, .inl h⟩
  · refine ⟨a, cap, hv, .inr ⟨b, off, ha, hlt, fun k hk => ?_⟩⟩
    have hne : some b ≠ row := fun e => by have := hr b e.symm; omega
    exact (World.cell?_of_block (w := w) (a := ⟨b, off + k, none⟩) (hg.block b (by omega) hne)).trans (hT k hk)


/-- In 0..p - 1. -/
def nnumB (p x : Int) : Bool := decide (0 ≤ x) && decide (x < p)
def nptB (p d : Int) (l : List Int) : Bool := decide ((l.length : Int) = d) && l.all (nnumB p)

theorem nisNumber_any (p x : Int) (w : World) : Calls Try.prog 105 #[.int .i64 p, .int .i64 x] w fun e w' => e = .returned (.bool (nnumB p x)) ∧ w = w' := by
  by_cases h : 0 ≤ x
  all_goals
    go_enter Try.func105, Try.ntmps105
    go_wp2
    go_ret
    exact ⟨by simp [nnumB]; omega, rfl⟩

theorem nout_any (g : Nat) (p x : Int) (w : World) (hg : w.cell? ⟨g, 0, none⟩ = some (.int .i64 p)) : Calls Try.prog 104 #[.int .i64 x, .pointer (some ⟨g, 0, none⟩)] w fun e w' => e = .returned (.bool (!nnumB p x)) ∧ w = w' := by
  go_enter Try.func104, Try.ntmps104
  go_wp2_with fail
  ((with_reducible refine (nisNumber_any p x w).mono ?_); rintro e w1 ⟨rfl, rfl⟩)
  go_wp2
  go_ret
  exact ⟨rfl, rfl⟩

/-- The value of the closure that asks for a number that is none modulo p. -/
abbrev noutF (g : Nat) : Value := .func (.func 104) #[] #[.pointer (some ⟨g, 0, none⟩)]

set_option maxHeartbeats 1000000 in
theorem noidx_some (g : Nat) (p : Int) (b off cap : Nat) (l : List Int) (w : World) (hg : w.cell? ⟨g, 0, none⟩ = some (.int .i64 p)) (hl : l.length ≤ 1048576) (hT : Cs w b off l) (j : Nat) (hj : j < l.length) (hn : nnumB p l[j] = false) (hp : ∀ (i : Nat) (h : i < l.length), i < j → nnumB p l[i] = true) :
    Calls Try.prog 93 #[.slice (some ⟨b, off, none⟩) l.length cap, noutF g] w fun e w' => e = .returned (.int .i64 j) ∧ w = w' := by
  have HN := Lib.hid hn
  have HP := Lib.hid hp
  clear hn hp
  go_enter Try.func93, Try.ntmps93
  go_wp2
  go_loop [8] (fun i => ∃ k : Nat, k ≤ j ∧ i = .int .i64 k) (fun i => l.length - (intOf i).toNat)
  case atStart => exact ⟨0, by omega, rfl⟩
  case round =>
    obtain ⟨k, hk, rfl⟩ := hrel
    have hlt : k < l.length := by omega
    have hlt' : (k : Int) < (l.length : Int) := by omega
    have c0 := hT k hlt
    by_cases e : k = j
    · subst e
      go_wp2_with fail
      ((with_reducible refine (nout_any g p _ w hg).mono ?_); rintro e w1 ⟨rfl, rfl⟩)
      rw [HN.out]
      go_wp2
      go_ret
      exact ⟨rfl, rfl⟩
    · have h0 := Lib.hid (HP.out k hlt (by omega))
      go_wp2_with fail
      ((with_reducible refine (nout_any g p _ w hg).mono ?_); rintro e w1 ⟨rfl, rfl⟩)
      rw [h0.out]
      go_wp2
      go_round
      case rel => exact ⟨k + 1, by omega, by go_num⟩
      case measure => simp [intOf]; omega

set_option maxHeartbeats 1000000 in
theorem noidx_none (g : Nat) (p : Int) (b off cap : Nat) (l : List Int) (w : World) (hg : w.cell? ⟨g, 0, none⟩ = some (.int .i64 p)) (hl : l.length ≤ 1048576) (hT : Cs w b off l) (hp : ∀ (i : Nat) (h : i < l.length), nnumB p l[i] = true) :
    Calls Try.prog 93 #[.slice (some ⟨b, off, none⟩) l.length cap, noutF g] w fun e w' => e = .returned (.int .i64 (-1)) ∧ w = w' := by
  have HP := Lib.hid hp
  clear hp
  go_enter Try.func93, Try.ntmps93
  go_wp2
  go_loop [8] (fun i => ∃ k : Nat, k ≤ l.length ∧ i = .int .i64 k) (fun i => l.length - (intOf i).toNat)
  case atStart => exact ⟨0, by omega, rfl⟩
  case round =>
    obtain ⟨k, hk, rfl⟩ := hrel
    by_cases hlt : k < l.length
    · have hlt' : (k : Int) < (l.length : Int) := by omega
      have c0 := hT k hlt
      have h0 := Lib.hid (HP.out k hlt)
      go_wp2_with fail
      ((with_reducible refine (nout_any g p _ w hg).mono ?_); rintro e w1 ⟨rfl, rfl⟩)
      rw [h0.out]
      go_wp2
      go_round
      case rel => exact ⟨k + 1, by omega, by go_num⟩
      case measure => simp [intOf]; omega
    · obtain rfl : k = l.length := by omega
      go_wp2
      go_ret
      exact ⟨rfl, rfl⟩

theorem nfirst_out (p : Int) : ∀ (l : List Int), l.all (nnumB p) = false → ∃ (j : Nat) (h : j < l.length), nnumB p l[j] = false ∧ ∀ (i : Nat) (hi : i < l.length), i < j → nnumB p l[i] = true
  | [], h => by simp at h
  | a :: r, h => by
    cases ha : nnumB p a
    · exact ⟨0, by simp, by simpa using ha, fun i _ hij => by omega⟩
    · have hr : r.all (nnumB p) = false := by
        simp only [List.all_cons, ha, Bool.true_and] at h
        exact h
      obtain ⟨j, hj, hn, hp⟩ := nfirst_out p r hr
      refine ⟨j + 1, by simp; omega, by simpa using hn, fun i hi hij => ?_⟩
      cases i with
      | zero => simpa using ha
      | succ i => simpa using hp i (by simpa using hi) (by omega)

theorem nocontains_is (g : Nat) (p : Int) (b off cap : Nat) (l : List Int) (w : World) (hg : w.cell? ⟨g, 0, none⟩ = some (.int .i64 p)) (hl : l.length ≤ 1048576) (hT : Cs w b off l) :
    Calls Try.prog 70 #[.slice (some ⟨b, off, none⟩) l.length cap, noutF g] w fun e w' => e = .returned (.bool (!l.all (nnumB p))) ∧ w = w' := by
  cases h : l.all (nnumB p)
  · obtain ⟨j, hj, hn, hp⟩ := nfirst_out p l h
    clear h
    go_enter Try.func70, Try.ntmps70
    go_wp2_with fail
    ((with_reducible refine (noidx_some g p b off cap l w hg hl hT j hj hn hp).mono ?_); rintro e w1 ⟨rfl, rfl⟩)
    go_wp2
    go_ret
    exact ⟨rfl, rfl⟩
  · have hp : ∀ (i : Nat) (hi : i < l.length), nnumB p l[i] = true := fun i hi => List.all_eq_true.1 h _ (List.getElem_mem hi)
    clear h
    have HP := Lib.hid hp
    clear hp
    go_enter Try.func70, Try.ntmps70
    go_wp2_with fail
    ((with_reducible refine (noidx_none g p b off cap l w hg hl hT HP.out).mono ?_); rintro e w1 ⟨rfl, rfl⟩)
    go_wp2
    go_ret
    exact ⟨rfl, rfl⟩

theorem nareNumbers_any (p d : Int) (v : Value) (l : List Int) (w : World) (hd : 1 ≤ d) (hl : l.length ≤ 1048576) (hS : Sl w v l) :
    Calls Try.prog 89 #[.int .i64 p, .int .i64 d, v] w fun e w' => e = .returned (.bool (nptB p d l)) ∧ Below w.heap.size w w' := by
  have hmf : ∀ (fn : Fn) (first cap : Array Value) (w : World), (Instr.makeFunc fn first cap).run Try.prog w = .ok (.func fn first cap) w := fun _ _ _ _ => rfl
  obtain ⟨a, cap, rfl, h⟩ := hS
  by_cases he : (l.length : Int) = d
  · have he1 : ((l.length : Int) == d) = true := by simp [he]
    rcases h with rfl | ⟨b, off, rfl, hlt, hT⟩
    · simp at he; omega
    · have HD : Hid (nptB p d l = l.all (nnumB p)) := Lib.hid (by simp [nptB, he])
      have hT1 : ∀ o, Cs (w.alloc o) b off l := fun o => hT.below (ebox1 _ _) hlt
      clear he
      go_enter Try.func89, Try.ntmps89
      go_wp2_with fail
      ((with_reducible refine (nocontains_is w.heap.size p b off cap l _ (by go_simp) hl (hT1 _)).mono ?_); rintro e w1 ⟨rfl, rfl⟩)
      go_wp2
      go_ret
      exact ⟨by rw [HD.out]; simp, ebox1 _ _⟩
  · have he1 : ((l.length : Int) == d) = false := by simp [he]
    have HD : Hid (nptB p d l = false) := Lib.hid (by simp [nptB, he])
    clear he h
    go_enter Try.func89, Try.ntmps89
    go_wp2
    go_ret
    exact ⟨by rw [HD.out]; rfl, ebox1 _ _⟩



theorem ninNum (x p : Int) (w : World) (B : Bool) (h : nnumB p x = B) : Calls Try.prog 38 #[.int .i64 x, .int .i64 0, .int .i64 (p - 1)] w fun e w' => e = .returned (.bool B) ∧ w = w' :=
  ein_is x 0 (p - 1) w B (by rw [← h]; unfold nnumB; congr 1; simp; omega)
theorem nall_upto (p : Int) (l : List Int) (h : ∀ (j : Nat) (hj : j < l.length), j < l.length → nnumB p l[j] = true) : l.all (nnumB p) = true := by
  rw [List.all_eq_true]
  intro x hx
  obtain ⟨i, hi, rfl⟩ := List.mem_iff_getElem.1 hx
  exact h i hi hi

set_option maxHeartbeats 1000000 in
theorem npoint_some (p d : Int) (b off cap : Nat) (l : List Int) (w : World) (h2 : 2 ≤ p) (h13 : p ≤ 13) (hl : l.length ≤ 1048576) (hT : Cs w b off l) :
    Calls Try.prog 88 #[.int .i64 p, .int .i64 d, .slice (some ⟨b, off, none⟩) l.length cap] w fun e w' => e = .returned (.bool (nptB p d l)) ∧ w = w' := by
  go_enter Try.func88, Try.ntmps88
  go_wp2
  go_loop [7] (fun i => ∃ k : Nat, k ≤ l.length ∧ i = .int .i64 k ∧ Hid (∀ (j : Nat) (hj : j < l.length), j < k → nnumB p l[j] = true)) (fun i => l.length - (intOf i).toNat)
  case atStart => exact ⟨0, by omega, rfl, Lib.hid (fun j _ h => by omega)⟩
  case round =>
    obtain ⟨k, hk, rfl, HU⟩ := hrel
    by_cases hlt : k < l.length
    · have hlt' : (k : Int) < (l.length : Int) := by omega
      have c0 := hT k hlt
      cases hB : nnumB p l[k]
      · have HX : Hid (nptB p d l = false) := Lib.hid (by
          unfold nptB
          have : l.all (nnumB p) = false := by
            rw [List.all_eq_false]
            exact ⟨_, List.getElem_mem hlt, by simp [hB]⟩
          rw [this]; simp)
        have HB := Lib.hid hB
        clear hB
        go_wp2_with fail
        ((with_reducible refine (ninNum _ _ _ false HB.out).mono ?_); rintro e w1 ⟨rfl, rfl⟩)
        go_wp2
        go_ret
        exact ⟨by rw [HX.out]; rfl, rfl⟩
      · have HN : Hid (∀ (j : Nat) (hj : j < l.length), j < k + 1 → nnumB p l[j] = true) := Lib.hid (fun j hj hjk => by
          by_cases e : j = k
          · subst e; exact hB
          · exact HU.out j hj (by omega))
        have HB := Lib.hid hB
        clear hB
        go_wp2_with fail
        ((with_reducible refine (ninNum _ _ _ true HB.out).mono ?_); rintro e w1 ⟨rfl, rfl⟩)
        go_wp2
        go_round
        case rel => exact ⟨k + 1, by omega, by go_num, HN⟩
        case measure => simp [intOf]; omega
    · obtain rfl : k = l.length := by omega
      have HX : Hid (nptB p d l = ((l.length : Int) == d)) := Lib.hid (by
        unfold nptB
        rw [nall_upto p l HU.out, Bool.and_true, Bool.eq_iff_iff]; simp)
      go_wp2
      go_ret
      exact ⟨by rw [HX.out]; rfl, rfl⟩

theorem npoint_nil (p d : Int) (a : Option Addr) (cap : Nat) (w : World) (hd : 1 ≤ d) :
    Calls Try.prog 88 #[.int .i64 p, .int .i64 d, .slice a 0 cap] w fun e w' => e = .returned (.bool (nptB p d [])) ∧ w = w' := by
  have HX : Hid (nptB p d [] = false) := Lib.hid (by simp [nptB]; omega)
  have h0 : ((0 : Int) == d) = false := by simp; omega
  go_enter Try.func88, Try.ntmps88
  go_wp2
  refine wp_loop_rounds 1 ?_
  rw [rounds_succ]
  go_wp2
  go_ret
  exact ⟨by rw [HX.out]; rfl, rfl⟩
theorem npoint_any (p d : Int) (v : Value) (l : List Int) (w : World) (h2 : 2 ≤ p) (h13 : p ≤ 13) (hd : 1 ≤ d) (hl : l.length ≤ 1048576) (hS : Sl w v l) :
    Calls Try.prog 88 #[.int .i64 p, .int .i64 d, v] w fun e w' => e = .returned (.bool (nptB p d l)) ∧ w = w' := by
  obtain ⟨a, cap, rfl, rfl | ⟨b, off, rfl, hlt, hT⟩⟩ := hS
  · exact npoint_nil p d a cap w hd
  · exact npoint_some p d b off cap l w h2 h13 hl hT


end Go.Proofs.Ytpbdbgajohacoaa
