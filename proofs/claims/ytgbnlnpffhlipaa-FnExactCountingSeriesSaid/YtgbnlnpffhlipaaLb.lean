/-
  LISTS of 64-bit numbers in a law: copied, compared, marked, read back. Conditions: as each theorem states.
-/
import Derived.Test.YtgbnlnpffhlipaaLa
namespace Go.Proofs.Ytgbnlnpffhlipaa
open Go.RowKit Go.Sort

theorem ngrown_setT {w wr : World} {g : Nat} (h : w.grownBy wr (some g)) (o : Nat) (v : Value) : w.grownBy (wr.setCell ⟨g, o, none⟩ v) (some g) :=
  ⟨h.os, h.tape, h.output, by rw [World.size_setCell]; exact h.size, fun k hk hne => (Below.heap_setCell wr ⟨g, o, none⟩ v k (fun e => hne (by rw [e]))).trans (h.block k hk hne)⟩

set_option maxHeartbeats 1000000 in
def nmadeI (n : Nat) : Array Value := madeCells #[.int .i64 0] n
theorem nmadeI_row (w : World) (n : Nat) (t : TypeId) : (w.alloc (.cells (nmadeI n) t)).rowIs w.heap.size t n (fun _ => .int .i64 0) := World.rowIs_made w (.int .i64 0) n t

set_option maxHeartbeats 1000000 in
theorem ntoI_some (b off cap : Nat) (l : List Int) (w : World) (hl : l.length ≤ 1048576) (hb : b < w.heap.size) (hT : Cs w b off l) :
    Calls Try.prog 6 #[.slice (some ⟨b, off, none⟩) l.length cap] w fun e w' =>
      e = .returned (.slice (some ⟨w.heap.size, 0, none⟩) l.length l.length) ∧ ∃ f, w'.rowIs w.heap.size 2 l.length f ∧ (∀ (j : Nat) (h : j < l.length), f j = .int .i64 l[j]) ∧ Below w.heap.size w w' := by
  obtain ⟨i0, hi, hz0, hz1, hz2⟩ := info_parts einfoI
  have hmk : ∀ w, (Instr.makeSlice 22 (.int .i64 (l.length : Int)) (.int .i64 (l.length : Int))).run Try.prog w = .ok (.slice (some ⟨w.heap.size, 0, none⟩) l.length l.length) (w.alloc (.cells (nmadeI l.length) 2)) := fun w => by
    have h := run_make (P := Try.prog) w 22 2 i0 _ Try.underlying22 hi hz0 .i64 .i64 (l.length : Int) (l.length : Int) (by omega) (by omega) (by rw [hz2]; omega) (by omega)
    rw [hz1] at h
    simpa [nmadeI, Value.cells] using h
  clear hi hz0 hz1 hz2
  go_enter Try.func6, Try.ntmps6
  go_wp2
  go_loopw [4] (fun i wr => ∃ k : Nat, k ≤ l.length ∧ i = .int .i64 k ∧ Below w.heap.size w wr ∧ ∃ f, wr.rowIs w.heap.size 2 l.length f ∧ (∀ (j : Nat) (h : j < l.length), j < k → f j = .int .i64 l[j])) (fun i _ => l.length - (intOf i).toNat)
  case atStart => exact ⟨0, by omega, rfl, ebox1 _ _, _, nmadeI_row w _ _, fun j _ h => by omega⟩
  case round =>
    obtain ⟨k, hk, rfl, hbel, f, hrow, hrt⟩ := hrel
    by_cases hlt : k < l.length
    · have hlt' : (k : Int) < (l.length : Int) := by omega
      have c0 := (hT.below hbel hb) k hlt
      have d0 := hrow.cell hlt
      have f0 := hrow.frozen k
      have rows := hrow.set k (.int .i64 l[k])
      have R : ∀ (j : Nat) (h : j < l.length), j < k + 1 → (fun j => if j = k then Value.int .i64 l[k] else f j) j = .int .i64 l[j] := fun j h hjk => by
        by_cases e : j = k
        · subst e; simp
        · simp only [if_neg e]; exact hrt j h (by omega)
      clear hrow
      go_wp2
      go_roundw
      case rel => exact ⟨k + 1, by omega, by go_num, hbel.setCell (Nat.le_refl _) _, _, rows, R⟩
      case measure => simp [intOf]; omega
    · obtain rfl : k = l.length := by omega
      go_wp2
      go_ret
      exact ⟨rfl, f, hrow, fun j h => hrt j h h, hbel⟩

theorem ntoI_any (v : Value) (l : List Int) (w : World) (hl : l.length ≤ 1048576) (hS : Sl w v l) :
    Calls Try.prog 6 #[v] w fun e w' => ∃ v', e = .returned v' ∧ Sl w' v' l ∧ Below w.heap.size w w' := by
  obtain ⟨a, cap, rfl, h | ⟨b, off, rfl, hlt, hT⟩⟩ := hS
  · subst h
    obtain ⟨i0, hi, hz0, hz1, hz2⟩ := info_parts einfoI
    have hmk : ∀ w, (Instr.makeSlice 22 (.int .i64 0) (.int .i64 0)).run Try.prog w = .ok (.slice (some ⟨w.heap.size, 0, none⟩) 0 0) (w.alloc (.cells (nmadeI 0) 2)) := fun w => by
      have h := run_make (P := Try.prog) w 22 2 i0 _ Try.underlying22 hi hz0 .i64 .i64 0 0 (by omega) (by omega) (by rw [hz2]; omega) (by omega)
      rw [hz1] at h
      simpa [nmadeI, Value.cells] using h
    clear hi hz0 hz1 hz2
    go_enter Try.func6, Try.ntmps6
    go_wp2
    refine wp_loop_rounds 1 ?_
    rw [rounds_succ]
    go_wp2
    go_ret
    exact ⟨_, rfl, ⟨_, 0, rfl, .inl rfl⟩, ebox1 _ _⟩
  · exact (ntoI_some b off cap l w hl hlt hT).mono fun e w' ⟨he, f, hr, ht, hb⟩ => ⟨_, he, ⟨_, _, rfl, .inr ⟨w.heap.size, 0, rfl, hr.lt, fun k hk => by rw [Nat.zero_add, hr.cell hk, ht k hk]⟩⟩, hb⟩

set_option maxHeartbeats 1000000 in
theorem neqI_some (g o cap g' o' cap' : Nat) (l : List Int) (w : World) (hl : l.length ≤ 1048576) (hT : Cs w g o l) (hT' : Cs w g' o' l) :
    Calls Try.prog 8 #[.slice (some ⟨g, o, none⟩) l.length cap, .slice (some ⟨g', o', none⟩) l.length cap'] w fun e w' => e = .returned (.bool true) ∧ Below w.heap.size w w' := by
  have hnn : ((l.length : Int) != (l.length : Int)) = false := by simp
  go_enter Try.func8, Try.ntmps8
  go_wp2
  go_loopw [5] (fun i wr => ∃ k : Nat, k ≤ l.length ∧ i = .int .i64 k ∧ ∃ n, wr = w.drewN n) (fun i _ => l.length - (intOf i).toNat)
  case atStart => exact ⟨0, by omega, rfl, 0, rfl⟩
  case round =>
    obtain ⟨k, hk, rfl, n, rfl⟩ := hrel
    by_cases hlt : k < l.length
    · have hlt' : (k : Int) < (l.length : Int) := by omega
      have a0 := hT k hlt
      have b0 := hT' k hlt
      have hq : (l[k] != l[k]) = false := by simp
      go_wp2
      go_quiet (fail)
      go_wp2
      go_roundw
      case rel => exact ⟨k + 1, by omega, by go_num, _, rfl⟩
      case measure => simp [intOf]; omega
    · obtain rfl : k = l.length := by omega
      go_wp2
      go_ret
      exact ⟨rfl, below_drewN (Below.refl _ _) n⟩

theorem neqI_zero (a a' : Option Addr) (c c' : Nat) (w : World) :
    Calls Try.prog 8 #[.slice a 0 c, .slice a' 0 c'] w fun e w' => e = .returned (.bool true) ∧ Below w.heap.size w w' := by
  go_enter Try.func8, Try.ntmps8
  go_wp2
  refine wp_loop_rounds 1 ?_
  rw [rounds_succ]
  go_wp2
  go_ret
  exact ⟨rfl, Below.refl _ _⟩

theorem neqI_same (v v' : Value) (l : List Int) (w : World) (hl : l.length ≤ 1048576) (hS : Sl w v l) (hS' : Sl w v' l) :
    Calls Try.prog 8 #[v, v'] w fun e w' => e = .returned (.bool true) ∧ Below w.heap.size w w' := by
  obtain ⟨a, cap, rfl, h⟩ := hS
  obtain ⟨a', cap', rfl, h'⟩ := hS'
  cases l with
  | nil => exact neqI_zero _ _ _ _ _
  | cons t r =>
    rcases h with h | ⟨b, off, rfl, hlt, hT⟩
    · cases h
    · rcases h' with h' | ⟨b', off', rfl, hlt', hT'⟩
      · cases h'
      · exact neqI_some b off cap b' off' cap' _ w hl hT hT'



/-- A list of numbers in a block of the call's own. -/
def nOwnI (w : World) (base : Nat) (v : Value) (l : List Int) : Prop :=
  ∃ g f, v = .slice (some ⟨g, 0, none⟩) l.length l.length ∧ base ≤ g ∧ w.rowIs g 2 l.length f ∧ ∀ (j : Nat) (h : j < l.length), f j = .int .i64 l[j]
theorem nOwnI.slice {w : World} {base : Nat} {v : Value} {l : List Int} (h : nOwnI w base v l) : Sl w v l := by
  obtain ⟨g, f, rfl, _, hr, hf⟩ := h
  exact ⟨_, _, rfl, .inr ⟨g, 0, rfl, hr.lt, fun k hk => by rw [Nat.zero_add, hr.cell hk, hf k hk]⟩⟩
theorem nOwnI.below {w w' : World} {base : Nat} {v : Value} {l : List Int} (h : nOwnI w base v l) (hb : Below w.heap.size w w') : nOwnI w' base v l := by
  obtain ⟨g, f, rfl, hg, hr, hf⟩ := h
  exact ⟨g, f, rfl, hg, erow_below hr hb hr.lt, hf⟩
theorem nOwnI.row {w : World} {base : Nat} {v : Value} {l : List Int} (h : nOwnI w base v l) : ∀ g, v.ownBlock = some g → base ≤ g ∧ ∃ N f, w.rowIs g 2 N f := by
  obtain ⟨g, f, rfl, hg, hr, hf⟩ := h
  intro c hc
  simp [Value.ownBlock] at hc
  subst hc
  exact ⟨hg, _, f, hr⟩
theorem ntoI_own (v : Value) (l : List Int) (w : World) (hl : l.length ≤ 1048576) (hS : Sl w v l) :
    Calls Try.prog 6 #[v] w fun e w' => ∃ v', e = .returned v' ∧ nOwnI w' w.heap.size v' l ∧ Below w.heap.size w w' := by
  obtain ⟨a, cap, rfl, h | ⟨b, off, rfl, hlt, hT⟩⟩ := hS
  · subst h
    obtain ⟨i0, hi, hz0, hz1, hz2⟩ := info_parts einfoI
    have hmk : ∀ w, (Instr.makeSlice 22 (.int .i64 0) (.int .i64 0)).run Try.prog w = .ok (.slice (some ⟨w.heap.size, 0, none⟩) 0 0) (w.alloc (.cells (nmadeI 0) 2)) := fun w => by
      have h := run_make (P := Try.prog) w 22 2 i0 _ Try.underlying22 hi hz0 .i64 .i64 0 0 (by omega) (by omega) (by rw [hz2]; omega) (by omega)
      rw [hz1] at h
      simpa [nmadeI, Value.cells] using h
    clear hi hz0 hz1 hz2
    go_enter Try.func6, Try.ntmps6
    go_wp2
    refine wp_loop_rounds 1 ?_
    rw [rounds_succ]
    go_wp2
    go_ret
    exact ⟨_, rfl, ⟨w.heap.size, _, rfl, Nat.le_refl _, nmadeI_row w 0 _, fun j h => by simp at h⟩, ebox1 _ _⟩
  · refine (ntoI_some b off cap l w hl hlt hT).mono fun e w' ⟨he, f, hr, hf, hb⟩ => ⟨_, he, ⟨w.heap.size, f, rfl, Nat.le_refl _, hr, hf⟩, hb⟩

set_option maxHeartbeats 1000000 in
theorem nmarkI_own {base : Nat} {v : Value} {l : List Int} (k0 : Int) (w : World) (h : nOwnI w base v l) (hn : l.length ≤ 1048576) (h0 : 0 ≤ k0) (h1 : k0 ≤ 1000000000) :
    Calls Try.prog 9 #[v, .int .i64 k0] w fun e w' => e = .returned (.int .i64 (k0 + l.length)) ∧ w.grownBy w' v.ownBlock := by
  obtain ⟨g, f, rfl, hg, hr, hf⟩ := h
  clear hf
  simp only [Value.ownBlock]
  generalize l.length = n at *
  go_enter Try.func9, Try.ntmps9
  go_wp2
  go_loopw [1, 5] (fun m i wr => ∃ k : Nat, k ≤ n ∧ i = .int .i64 k ∧ m = .int .i64 (k0 + k) ∧ (∃ f', wr.rowIs g 2 n f') ∧ w.grownBy wr (some g)) (fun _ i _ => n - (intOf i).toNat)
  case atStart => exact ⟨0, by omega, rfl, by simp, ⟨f, hr⟩, World.grownBy.refl _ _⟩
  case round =>
    obtain ⟨k, hk, rfl, rfl, ⟨f', hr'⟩, hg'⟩ := hrel
    by_cases hlt : k < n
    · have hlt' : (k : Int) < (n : Int) := by omega
      have c0 := hr'.cell hlt
      have z0 := hr'.frozen k
      have hr2 := hr'.set k (.int .i64 (k0 + k))
      have hg2 := ngrown_setT hg' k (.int .i64 (k0 + k))
      clear hr' hg' hr
      go_wp2
      go_roundw
      case rel => exact ⟨k + 1, by omega, by go_num, by go_num, ⟨_, hr2⟩, hg2⟩
      case measure => simp [intOf]; omega
    · obtain rfl : k = n := by omega
      go_wp2
      go_ret
      exact ⟨rfl, hg'⟩

/-- A list of numbers that lies below a block. -/
def nSliceIB (w : World) (B : Nat) (v : Value) (l : List Int) : Prop :=
  ∃ a cap, v = .slice a l.length cap ∧ (l = [] ∨ ∃ b off, a = some ⟨b, off, none⟩ ∧ b < B ∧ Cs w b off l)
theorem Sl.bound {w : World} {v : Value} {l : List Int} (h : Sl w v l) : nSliceIB w w.heap.size v l := h
theorem nSliceIB.slice {w : World} {B : Nat} {v : Value} {l : List Int} (h : nSliceIB w B v l) (hB : B ≤ w.heap.size) : Sl w v l := by
  obtain ⟨a, cap, hv, h | ⟨b, off, ha, hlt, hT⟩⟩ := h
  · exact ⟨a, cap, hv, .inl h⟩
  · exact ⟨a, cap, hv, .inr ⟨b, off, ha, by omega, hT⟩⟩
theorem nSliceIB.kept {w w' : World} {B : Nat} {v : Value} {l : List Int} {row : Option Nat} (h : nSliceIB w B v l) (hg : w.grownBy w' row) (hB : B ≤ w.heap.size) (hr : ∀ g, row = some g → B ≤ g) : nSliceIB w' B v l := by
  obtain ⟨a, cap, hv, h | ⟨b, off, ha, hlt, hT⟩⟩ := h
  · exact ⟨a, cap, hv, .inl h⟩
  · refine ⟨a, cap, hv, .inr ⟨b, off, ha, hlt, fun k hk => ?_⟩⟩
    have hne : some b ≠ row := fun e => by have := hr b e.symm; omega
    exact (World.cell?_of_block (w := w) (a := ⟨b, off + k, none⟩) (hg.block b (by omega) hne)).trans (hT k hk)


def AwI (v : Value) (l : List Int) (g : Nat) : Prop := l = [] ∨ v.ownBlock ≠ some g
theorem Sl.away {w : World} {v : Value} {l : List Int} {g : Nat} (h : Sl w v l) (hg : w.heap.size ≤ g) : AwI v l g := by
  obtain ⟨a, cap, rfl, h | ⟨b, off, rfl, hlt, _⟩⟩ := h
  · exact .inl h
  · refine .inr fun e => ?_
    simp [Value.ownBlock] at e
    omega
theorem Sl.kept2 {w w' : World} {v : Value} {l : List Int} {g : Nat} (h : Sl w v l) (hg : w.grownBy w' (some g)) (hn : AwI v l g) : Sl w' v l := by
  obtain ⟨a, cap, rfl, h | ⟨b, off, rfl, hlt, hT⟩⟩ := h
  · exact ⟨a, cap, rfl, .inl h⟩
  · rcases hn with h | hn
    · exact ⟨_, cap, rfl, .inl h⟩
    · have hne : some b ≠ some g := fun e => hn (by simpa [Value.ownBlock] using e)
      exact ⟨_, cap, rfl, .inr ⟨b, off, rfl, Nat.lt_of_lt_of_le hlt hg.size, fun k hk => (World.cell?_of_block (w := w) (a := ⟨b, _, none⟩) (hg.block b hlt hne)).trans (hT k hk)⟩⟩
/-- A row by its header: the value, what it reads as, the block it lies in. -/
abbrev Row3 := Value × (List Int × Nat)
def RowAt (w : World) (base : Nat) (e : Row3) : Prop :=
  ∃ cap N f, e.1 = .slice (some ⟨e.2.2, 0, none⟩) e.2.1.length cap ∧ base ≤ e.2.2 ∧ e.2.1.length ≤ N ∧ w.rowIs e.2.2 2 N f ∧ ∀ (q : Nat) (h : q < e.2.1.length), f q = .int .i64 e.2.1[q]
theorem RowAt.cs {w : World} {base : Nat} {e : Row3} (h : RowAt w base e) : Cs w e.2.2 0 e.2.1 := fun k hk => by
  obtain ⟨cap, N, f, _, _, hN, hr, hf⟩ := h
  rw [Nat.zero_add, hr.cell (by omega), hf k hk]
theorem RowAt.lt {w : World} {base : Nat} {e : Row3} (h : RowAt w base e) : e.2.2 < w.heap.size := by
  obtain ⟨cap, N, f, _, _, hN, hr, hf⟩ := h; exact hr.lt
theorem RowAt.sl {w : World} {base : Nat} {e : Row3} (h : RowAt w base e) : Sl w e.1 e.2.1 := by
  obtain ⟨cap, N, f, hv, _⟩ := id h
  exact ⟨_, cap, hv, .inr ⟨e.2.2, 0, rfl, h.lt, h.cs⟩⟩
theorem RowAt.kept {w w' : World} {base g : Nat} {e : Row3} (h : RowAt w base e) (hg : w.grownBy w' (some g)) (hne : e.2.2 ≠ g) : RowAt w' base e := by
  obtain ⟨cap, N, f, hv, hb, hN, hr, hf⟩ := h
  exact ⟨cap, N, f, hv, hb, hN, hr.of_block (hg.block _ hr.lt fun q => hne (by simpa using q)), hf⟩
theorem RowAt.below {w w' : World} {base : Nat} {e : Row3} (h : RowAt w base e) (hb : Below w.heap.size w w') : RowAt w' base e := by
  obtain ⟨cap, N, f, hv, hb', hN, hr, hf⟩ := h
  exact ⟨cap, N, f, hv, hb', hN, erow_below hr hb hr.lt, hf⟩
theorem RowAt.mono {w : World} {base base' : Nat} {e : Row3} (h : RowAt w base e) (hb : base' ≤ base) : RowAt w base' e := by
  obtain ⟨cap, N, f, hv, hb', r⟩ := h
  exact ⟨cap, N, f, hv, Nat.le_trans hb hb', r⟩
/-- The numbers from k on. -/
def seqL (k : Int) (n : Nat) : List Int := (List.range n).map fun (i : Nat) => k + (i : Int)
theorem seqL_len (k : Int) (n : Nat) : (seqL k n).length = n := by simp [seqL]
theorem seqL_at (k : Int) (n q : Nat) (h : q < (seqL k n).length) : (seqL k n)[q] = k + (q : Int) := by simp [seqL]

set_option maxHeartbeats 1000000 in
theorem rmark (base : Nat) (e : Row3) (k0 : Int) (w : World) (h : RowAt w base e) (hn : e.2.1.length ≤ 1048576) (h0 : 0 ≤ k0) (h1 : k0 ≤ 1000000000) :
    Calls Try.prog 9 #[e.1, .int .i64 k0] w fun r w' => r = .returned (.int .i64 (k0 + e.2.1.length)) ∧ RowAt w' base (e.1, seqL k0 e.2.1.length, e.2.2) ∧ w.grownBy w' (some e.2.2) := by
  obtain ⟨u, l, g⟩ := e
  obtain ⟨cap, N, f, hu, hg, hN, hr, hf⟩ := h
  simp only at hu hg hN hr hf hn ⊢
  subst hu
  clear hf
  have hsl := seqL_len k0 l.length
  suffices hh : Calls Try.prog 9 #[.slice (some ⟨g, 0, none⟩) l.length cap, .int .i64 k0] w fun r w' => r = .returned (.int .i64 (k0 + l.length)) ∧ (∃ f', w'.rowIs g 2 N f' ∧ ∀ q, q < l.length → f' q = .int .i64 (k0 + (q : Int))) ∧ w.grownBy w' (some g) by
    refine hh.mono fun r w' ⟨hr', ⟨f', hrow, hf'⟩, hgr⟩ => ⟨hr', ⟨cap, N, f', by simp only [hsl], hg, by simp only [hsl]; exact hN, hrow, fun q hq => ?_⟩, hgr⟩
    rw [hf' q (by simpa [hsl] using hq)]
    simp only [seqL_at]
  clear hsl
  generalize l.length = n at *
  go_enter Try.func9, Try.ntmps9
  go_wp2
  go_loopw [1, 5] (fun m i wr => ∃ k : Nat, k ≤ n ∧ i = .int .i64 k ∧ m = .int .i64 (k0 + k) ∧ (∃ f', wr.rowIs g 2 N f' ∧ Hid (∀ q, q < k → f' q = .int .i64 (k0 + (q : Int)))) ∧ w.grownBy wr (some g)) (fun _ i _ => n - (intOf i).toNat)
  case atStart => exact ⟨0, by omega, rfl, by simp, ⟨f, hr, Lib.hid (fun q h => by omega)⟩, World.grownBy.refl _ _⟩
  case round =>
    obtain ⟨k, hk, rfl, rfl, ⟨f', hr', HF⟩, hg'⟩ := hrel
    by_cases hlt : k < n
    · have hlt' : (k : Int) < (n : Int) := by omega
      have c0 := hr'.cell (i := k) (by omega)
      have z0 := hr'.frozen k
      have hr2 := hr'.set k (.int .i64 (k0 + k))
      have hg2 := ngrown_setT hg' k (.int .i64 (k0 + k))
      have HN : Hid (∀ q, q < k + 1 → (fun j => if j = k then Value.int .i64 (k0 + (k : Int)) else f' j) q = .int .i64 (k0 + (q : Int))) := Lib.hid (fun q hq => by
        by_cases e : q = k
        · subst e; simp
        · simp only [if_neg e]; exact HF.out q (by omega))
      clear hr' hg' hr HF
      go_wp2
      go_roundw
      case rel => exact ⟨k + 1, by omega, by go_num, by go_num, ⟨_, hr2, HN⟩, hg2⟩
      case measure => simp [intOf]; omega
    · obtain rfl : k = n := by omega
      have HN := HF.out
      go_wp2
      go_ret
      exact ⟨rfl, ⟨f', hr', HN⟩, hg'⟩
set_option maxHeartbeats 1000000 in
theorem rheld (u : Value) (n : Nat) (k0 : Int) (w : World) (hS : Sl w u (seqL k0 n)) (hn : n ≤ 1048576) (h0 : 0 ≤ k0) (h1 : k0 ≤ 1000000000) :
    Calls Try.prog 10 #[u, .int .i64 k0] w fun r w' => r = .returned (.int .i64 (k0 + n)) ∧ w' = w := by
  obtain ⟨a, cap, rfl, hc⟩ := hS
  have HSQ := Lib.hid (seqL_at k0 n)
  have hsl := seqL_len k0 n
  have HL := Lib.hid hsl
  rw [hsl]
  clear hsl
  go_enter Try.func10, Try.ntmps10
  go_wp2_with fail
  go_loop [1, 5] (fun m i => ∃ k : Nat, k ≤ n ∧ i = .int .i64 k ∧ m = .int .i64 (k0 + k)) (fun _ i => n - (intOf i).toNat)
  case atStart => exact ⟨0, by omega, rfl, by simp⟩
  case round =>
    obtain ⟨k, hk, rfl, rfl⟩ := hrel
    by_cases hlt : k < n
    · have hlt' : (k : Int) < (n : Int) := by omega
      have hks : k < (seqL k0 n).length := by rw [HL.out]; exact hlt
      obtain ⟨b, off, rfl, hbb, hT⟩ : ∃ b off, a = some ⟨b, off, none⟩ ∧ b < w.heap.size ∧ Cs w b off (seqL k0 n) := by
        rcases hc with h | h
        · rw [h] at hks; simp at hks
        · exact h
      have c0 := hT k hks
      rw [HSQ.out k hks] at c0
      have hne : (k0 + (k : Int) != k0 + (k : Int)) = false := by simp
      clear hks
      go_wp2_with fail
      go_round
      case rel => exact ⟨k + 1, by omega, by go_num, by go_num⟩
      case measure => simp [intOf]; omega
    · obtain rfl : k = n := by omega
      go_wp2_with fail
      go_ret
      exact ⟨rfl, rfl⟩


/-- A list of numbers as an answer: in a block of its own, or none. -/
def OwnV (w : World) (base : Nat) (v : Value) (S : List Int) : Prop := (S = [] ∧ ∃ a c, v = .slice a 0 c) ∨ ∃ b, RowAt w base (v, S, b)
theorem OwnV.none (w : World) (base : Nat) : OwnV w base (.slice none 0 0) [] := .inl ⟨rfl, _, _, rfl⟩
theorem OwnV.below {w w' : World} {base : Nat} {v : Value} {S : List Int} (h : OwnV w base v S) (hb : Below w.heap.size w w') : OwnV w' base v S :=
  h.imp id fun ⟨b, h⟩ => ⟨b, h.below hb⟩
theorem OwnV.mono {w : World} {base base' : Nat} {v : Value} {S : List Int} (h : OwnV w base v S) (hb : base' ≤ base) : OwnV w base' v S :=
  h.imp id fun ⟨b, h⟩ => ⟨b, h.mono hb⟩
theorem OwnV.kept {w w' : World} {base b0 : Nat} {v : Value} {S : List Int} (h : OwnV w base v S) (hg : w.grownBy w' (some b0)) (hlt : b0 < base) : OwnV w' base v S :=
  h.imp id fun ⟨b, h⟩ => ⟨b, h.kept hg (by obtain ⟨_, _, _, _, hb, _⟩ := h; simp only at hb ⊢; omega)⟩
theorem OwnV.sl {w : World} {base : Nat} {v : Value} {S : List Int} (h : OwnV w base v S) : Sl w v S := by
  rcases h with ⟨rfl, a, c, rfl⟩ | ⟨b, h⟩
  · exact ⟨a, c, rfl, .inl rfl⟩
  · exact h.sl
theorem OwnV.shape {w : World} {base : Nat} {v : Value} {S : List Int} (h : OwnV w base v S) : ∃ a c, v = .slice a S.length c := by
  obtain ⟨a, c, hv, _⟩ := h.sl; exact ⟨a, c, hv⟩
theorem rmark_none (a : Option Addr) (c : Nat) (k0 : Int) (w : World) :
    Calls Try.prog 9 #[.slice a 0 c, .int .i64 k0] w fun r w' => r = .returned (.int .i64 k0) ∧ w' = w := by
  go_enter Try.func9, Try.ntmps9
  go_wp2
  refine wp_loop_rounds 1 ?_
  rw [rounds_succ]
  go_wp2
  go_ret
  exact ⟨rfl, rfl⟩
theorem OwnV.mark {w : World} {base : Nat} {v : Value} {S : List Int} (h : OwnV w base v S) (hl : S.length ≤ 1048576) (hbw : base ≤ w.heap.size) :
    Calls Try.prog 9 #[v, .int .i64 1] w fun r w' => r = .returned (.int .i64 (1 + (S.length : Int))) ∧ OwnV w' base v (seqL 1 S.length) ∧ Below base w w' := by
  rcases h with ⟨rfl, a, c, rfl⟩ | ⟨b, h⟩
  · exact (rmark_none a c 1 w).mono fun r w' ⟨hr, hw⟩ => ⟨by simpa using hr, .inl ⟨by simp [seqL], a, c, rfl⟩, by rw [hw]; exact ⟨rfl, rfl, rfl, Nat.le_refl _, fun _ _ => rfl⟩⟩
  · refine (rmark base (v, S, b) 1 w h hl (by decide) (by decide)).mono fun r w' ⟨hr, hrow, hg⟩ => ⟨hr, .inr ⟨b, hrow⟩, ?_⟩
    obtain ⟨_, _, _, _, hb, _⟩ := h
    exact ⟨hg.os, hg.tape, hg.output, hg.size, fun k hk => hg.block k (by omega) (fun e => by simp at e hb; omega)⟩
theorem OwnV.held {w : World} {base : Nat} {v : Value} {n : Nat} (h : OwnV w base v (seqL 1 n)) (hl : n ≤ 1048576) :
    Calls Try.prog 10 #[v, .int .i64 1] w fun r w' => r = .returned (.int .i64 (1 + (n : Int))) ∧ w' = w :=
  rheld v n 1 w h.sl hl (by decide) (by decide)
/-- A list of the call's own that may have grown, as an answer. -/
theorem OwnL.toV {w : World} {base : Nat} {v : Value} {l : List Int} (h : OwnL w base v l) : OwnV w base v l := by
  obtain ⟨hx, ⟨hv, hn⟩ | ⟨g, cap, cur, hv, hbg, hg, hnc, hcap, hsz, htk⟩⟩ := h
  · exact .inl ⟨List.eq_nil_of_length_eq_zero hn, none, 0, hv⟩
  · have hsz' : cur.size = cap := by omega
    refine .inr ⟨g, cap, cap, fun j => (cur[j]?).getD (.int .i64 0), hv, hbg, hnc, ⟨cur, hg, hsz', fun i hi => ?_⟩, fun q hq => ?_⟩
    · have hi' : i < cur.size := by omega
      simp [hi']
    · have h1 : (cur.toList.take (l.length * 1))[q]? = some (.int .i64 l[q]) := by rw [htk]; simp [valsI]
      rw [List.getElem?_take_of_lt (by simpa using hq)] at h1
      simp only [Array.getElem?_toList] at h1
      simp [h1]
theorem nOwnI.kept {w w' : World} {base g : Nat} {v : Value} {l : List Int} (h : nOwnI w base v l) (hg : w.grownBy w' (some g)) (hlt : g < base) : nOwnI w' base v l := by
  obtain ⟨b, f, rfl, hb, hr, hf⟩ := h
  exact ⟨b, f, rfl, hb, hr.of_block (hg.block b hr.lt (fun e => by simp at e; omega)), hf⟩
end Go.Proofs.Ytgbnlnpffhlipaa
