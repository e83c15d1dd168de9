/-
  WALKS of the laws on groups: copying a list of matrices. Conditions: as each theorem states.
-/
import Derived.Test.YtabfdohmgmdgeaaJa
import Derived.Test.YtabfdohmgmdgeaaGy
import Derived.OwnWalk
namespace Go.Proofs.Ytabfdohmgmdgeaa
open Go.RowKit Go.Sort EchM

theorem infoMat : (Try.prog.info? 56).map (fun i => (i.zero, i.size, i.bytes)) = some (some (.agg #[.int .u8 0, .int .u8 0, .int .u8 0, .int .u8 0, .int .u8 0, .int .u8 0, .int .u8 0, .int .u8 0, .int .u8 0]), 9, 9) := by kernel_rfl
def madeM (n : Nat) : Array Value := madeCells (Value.agg #[.int .u8 0, .int .u8 0, .int .u8 0, .int .u8 0, .int .u8 0, .int .u8 0, .int .u8 0, .int .u8 0, .int .u8 0]).cells (n * 9)
theorem madeM_row (w : World) (n : Nat) (t : TypeId) : (w.alloc (.cells (madeM n) t)).rowIs w.heap.size t (n * 9) (fun i => (madeM n).getD i undef) := by
  have hs : (madeM n).size = n * 9 := by simp [madeM, madeCells]
  refine ⟨madeM n, heap_alloc_new w _, hs, fun i hi => ?_⟩
  simp [Array.getD, hs, hi]
/-- What the row holds behind k rounds: the first k matrices. -/
def rowM (L : List (Nat → Nat → Int)) (k : Nat) (f : Nat → Value) : Prop :=
  ∀ (j : Nat) (h : j < L.length), j < k → ∀ a b, a < 3 → b < 3 → f (j * 9 + (a * 3 + b)) = .int .u8 (L[j] a b)
def putM (f : Nat → Value) (k : Nat) (x : Nat → Nat → Int) (q : Nat) : Value := if k * 9 ≤ q ∧ q < k * 9 + 9 then .int .u8 (x ((q - k * 9) / 3) ((q - k * 9) % 3)) else f q
theorem rowM_step {L : List (Nat → Nat → Int)} {k : Nat} {f : Nat → Value} (h : rowM L k f) (hk : k < L.length) : rowM L (k + 1) (putM f k L[k]) := by
  intro j hj hjk a b ha hb
  unfold putM
  by_cases e : j = k
  · subst e
    rw [if_pos (by omega), show (j * 9 + (a * 3 + b) - j * 9) / 3 = a by omega, show (j * 9 + (a * 3 + b) - j * 9) % 3 = b by omega]
  · rw [if_neg (by omega)]
    exact h j hj (by omega) a b ha hb
theorem putM_row {w : World} {B n : Nat} {t : TypeId} {f : Nat → Value} (h : w.rowIs B t n f) (k : Nat) (x : Nat → Nat → Int) :
    ((((((((((w).setCell ⟨B, k * 9, none⟩ (.int .u8 (x 0 0))).setCell ⟨B, k * 9 + 1, none⟩ (.int .u8 (x 0 1))).setCell ⟨B, k * 9 + 2, none⟩ (.int .u8 (x 0 2))).setCell ⟨B, k * 9 + 3, none⟩ (.int .u8 (x 1 0))).setCell ⟨B, k * 9 + 4, none⟩ (.int .u8 (x 1 1))).setCell ⟨B, k * 9 + 5, none⟩ (.int .u8 (x 1 2))).setCell ⟨B, k * 9 + 6, none⟩ (.int .u8 (x 2 0))).setCell ⟨B, k * 9 + 7, none⟩ (.int .u8 (x 2 1))).setCell ⟨B, k * 9 + 8, none⟩ (.int .u8 (x 2 2))).rowIs B t n (putM f k x) := by
  refine ((((((((((h).set (k * 9) (.int .u8 (x 0 0))).set (k * 9 + 1) (.int .u8 (x 0 1))).set (k * 9 + 2) (.int .u8 (x 0 2))).set (k * 9 + 3) (.int .u8 (x 1 0))).set (k * 9 + 4) (.int .u8 (x 1 1))).set (k * 9 + 5) (.int .u8 (x 1 2))).set (k * 9 + 6) (.int .u8 (x 2 0))).set (k * 9 + 7) (.int .u8 (x 2 1))).set (k * 9 + 8) (.int .u8 (x 2 2))).congr fun q _ => ?_
  unfold putM
  by_cases e : k * 9 ≤ q ∧ q < k * 9 + 9
  · obtain ⟨r, rfl⟩ : ∃ r, q = k * 9 + r := ⟨q - k * 9, by omega⟩
    have hr : r < 9 := by omega
    rw [if_pos e, Nat.add_sub_cancel_left]
    match r, hr with
    | 0, _ => simp
    | 1, _ => simp
    | 2, _ => simp
    | 3, _ => simp
    | 4, _ => simp
    | 5, _ => simp
    | 6, _ => simp
    | 7, _ => simp
    | 8, _ => simp
  · rw [if_neg e]
    repeat (rw [if_neg (by omega)])
/-- A list of matrices that a call has made, and holds as its own. -/
def OwnM (w : World) (base : Nat) (v : Value) (L : List (Nat → Nat → Int)) : Prop :=
  ∃ g f, v = .slice (some ⟨g, 0, none⟩) L.length L.length ∧ base ≤ g ∧ w.rowIs g 56 (L.length * 9) f ∧ rowM L L.length f
theorem OwnM.slice {w : World} {base : Nat} {v : Value} {L : List (Nat → Nat → Int)} (h : OwnM w base v L) : SlM w v L := by
  obtain ⟨g, f, hv, _, hr, ht⟩ := h
  refine ⟨_, _, hv, .inr ⟨g, 0, rfl, hr.lt, fun k hk i j hi hj => ?_⟩⟩
  rw [Nat.zero_add, hr.cell (by omega), ht k hk hk i j hi hj]
theorem OwnM.below {w w' : World} {base : Nat} {v : Value} {L : List (Nat → Nat → Int)} (h : OwnM w base v L) (hb : Below w.heap.size w w') : OwnM w' base v L := by
  obtain ⟨g, f, hv, hg, hr, ht⟩ := h
  exact ⟨g, f, hv, hg, erow_below hr hb hr.lt, ht⟩

set_option maxRecDepth 8000 in
set_option maxHeartbeats 8000000 in
theorem tomats (v : Value) (L : List (Nat → Nat → Int)) (w : World) (hl : L.length ≤ 1048576) (hS : SlM w v L) :
    Calls Try.prog 16 #[v] w fun e w' => ∃ v', e = .returned v' ∧ OwnM w' w.heap.size v' L ∧ Below w.heap.size w w' := by
  obtain ⟨i0, hi, hz0, hz1, hz2⟩ := info_parts infoMat
  have hmk : ∀ w, (Instr.makeSlice 29 (.int .i64 (L.length : Int)) (.int .i64 (L.length : Int))).run Try.prog w = .ok (.slice (some ⟨w.heap.size, 0, none⟩) L.length L.length) (w.alloc (.cells (madeM L.length) 56)) := fun w => by
    have h := run_make (P := Try.prog) w 29 56 i0 _ Try.underlying29 hi hz0 .i64 .i64 (L.length : Int) (L.length : Int) (by omega) (by omega) (by rw [hz2]; omega) (by omega)
    rw [hz1] at h
    simpa [madeM] using h
  clear hi hz0 hz1 hz2
  obtain ⟨a, cap, rfl, hSc⟩ := id hS
  go_enter Try.func16, Try.ntmps16
  go_wp2_with fail
  go_loopw [4] (fun i wr => ∃ k : Nat, k ≤ L.length ∧ i = .int .i64 k ∧ Below w.heap.size w wr ∧ w.heap.size < wr.heap.size ∧ ∃ f, wr.rowIs w.heap.size 56 (L.length * 9) f ∧ Hid (rowM L k f)) (fun i _ => L.length - (intOf i).toNat)
  case atStart => exact ⟨0, by omega, rfl, ebox1 _ _, by simp, _, madeM_row w _ _, Lib.hid (fun j _ h => by omega)⟩
  case round =>
    obtain ⟨k, hk, rfl, hbel, hsz, f, hrow, HR⟩ := hrel
    by_cases hlt : k < L.length
    · have hlt' : (k : Int) < (L.length : Int) := by omega
      obtain ⟨b, off, rfl, hbb, hT⟩ : ∃ b off, a = some ⟨b, off, none⟩ ∧ b < w.heap.size ∧ MatsW w b off L := by
        rcases hSc with rfl | h
        · simp at hlt
        · exact h
      obtain ⟨⟨a0, a1, a2⟩, ⟨a3, a4, a5⟩, a6, a7, a8⟩ := (hT.below hbel hbb).nine hlt
      have HN := Lib.hid (rowM_step HR.out hlt)
      generalize L[k] = x at *
      go_wp2_with fail
      ((with_reducible refine (tomat_agg x _).mono ?_); rintro e w1 ⟨rfl, hb1⟩)
      have row1 := erow_below hrow hb1 hsz
      have d0 := row1.cell (i := k * 9) (by omega)
      have f0 := row1.frozen (k * 9)
      have d1 := row1.cell (i := k * 9 + 1) (by omega)
      have f1 := row1.frozen (k * 9 + 1)
      have d2 := row1.cell (i := k * 9 + 2) (by omega)
      have f2 := row1.frozen (k * 9 + 2)
      have d3 := row1.cell (i := k * 9 + 3) (by omega)
      have f3 := row1.frozen (k * 9 + 3)
      have d4 := row1.cell (i := k * 9 + 4) (by omega)
      have f4 := row1.frozen (k * 9 + 4)
      have d5 := row1.cell (i := k * 9 + 5) (by omega)
      have f5 := row1.frozen (k * 9 + 5)
      have d6 := row1.cell (i := k * 9 + 6) (by omega)
      have f6 := row1.frozen (k * 9 + 6)
      have d7 := row1.cell (i := k * 9 + 7) (by omega)
      have f7 := row1.frozen (k * 9 + 7)
      have d8 := row1.cell (i := k * 9 + 8) (by omega)
      have f8 := row1.frozen (k * 9 + 8)
      have hbel1 := hbel.trans (hb1.mono (Nat.le_of_lt hsz))
      have hsz1 := Nat.lt_of_lt_of_le hsz hb1.size
      have rows := putM_row row1 k x
      clear hb1 row1 a0 a1 a2 a3 a4 a5 a6 a7 a8
      go_wp2_with fail
      go_roundw
      case rel => exact ⟨k + 1, by omega, by go_num, (((((((((hbel1).setCell (Nat.le_refl _) _).setCell (Nat.le_refl _) _).setCell (Nat.le_refl _) _).setCell (Nat.le_refl _) _).setCell (Nat.le_refl _) _).setCell (Nat.le_refl _) _).setCell (Nat.le_refl _) _).setCell (Nat.le_refl _) _).setCell (Nat.le_refl _) _, by simpa using hsz1, _, rows, HN⟩
      case measure => simp [intOf]; omega
    · obtain rfl : k = L.length := by omega
      have hR := HR.out
      go_wp2_with fail
      go_ret
      exact ⟨_, rfl, ⟨w.heap.size, f, rfl, Nat.le_refl _, hrow, hR⟩, hbel⟩
end Go.Proofs.Ytabfdohmgmdgeaa
