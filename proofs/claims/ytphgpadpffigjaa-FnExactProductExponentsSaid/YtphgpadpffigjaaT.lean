/-
  WALKS: copying terms and polynomials from the law's types into the program's. Conditions: as each theorem states.
-/
import Derived.Test.YtphgpadpffigjaaA
import Derived.Deep.OwnRows
import Derived.Lib.Hide
namespace Go.Proofs.Ytphgpadpffigjaa
open Go.RowKit Go.Sort

/-- A term: three exponents and a value. -/
abbrev Tm := Int × Int × Int × Int
def tmArr (t : Tm) : Array Value := #[.int .u8 t.1, .int .u8 t.2.1, .int .u8 t.2.2.1, .int .i64 t.2.2.2]
theorem infoTerm : (Try.prog.info? 92).map (fun i => (i.zero, i.size, i.bytes)) = some (some (.agg #[.int .u8 0, .int .u8 0, .int .u8 0, .int .i64 0]), 4, 16) := by kernel_rfl

theorem box3 (w : World) (o p q : Obj) : Below w.heap.size w (((w.alloc o).alloc p).alloc q) := (box2 w o p).alloc (by simp; omega) q

set_option maxHeartbeats 1000000 in
theorem toExps_any (x y z : Int) (w : World) :
    Calls Try.prog 129 #[.agg #[.int .u8 x, .int .u8 y, .int .u8 z]] w fun e w' => e = .returned (.agg #[.int .u8 x, .int .u8 y, .int .u8 z]) ∧ Below w.heap.size w w' := by
  go_enter Try.func129, Try.ntmps129
  go_wp2
  refine wp_loop_rounds 4 ?_
  iterate 4 (all_goals (try (rw [rounds_succ]; go_wp2)))
  exact bodyPost_ret (v := .agg #[.int .u8 x, .int .u8 y, .int .u8 z]) (by simp [results, Try.results129, go_sem]) rfl ⟨rfl, box3 _ _ _ _⟩

/-- Old cells and old marks, read behind a call. -/
theorem old_cells {W w1 : World} (hb : Below W.heap.size W w1) : (∀ b o, b < W.heap.size → w1.cell? ⟨b, o, none⟩ = W.cell? ⟨b, o, none⟩) ∧ (∀ b o, b < W.heap.size → w1.frozen? ⟨b, o, none⟩ = W.frozen? ⟨b, o, none⟩) :=
  ⟨fun b o h => hb.cell (p := ⟨b, o, none⟩) h, fun b o h => hb.frozen (p := ⟨b, o, none⟩) h⟩

set_option maxHeartbeats 1000000 in
theorem toTerm_any (x y z v : Int) (w : World) :
    Calls Try.prog 106 #[.agg #[.int .u8 x, .int .u8 y, .int .u8 z, .int .i64 v]] w fun e w' => e = .returned (.agg #[.int .u8 x, .int .u8 y, .int .u8 z, .int .i64 v]) ∧ Below w.heap.size w w' := by
  go_enter Try.func106, Try.ntmps106
  go_wp2_with fail
  ((with_reducible refine (toExps_any x y z _).mono ?_); rintro e w1 ⟨rfl, hb⟩)
  obtain ⟨hc, hf⟩ := old_cells hb
  have hz : w.heap.size + 1 + 1 < w1.heap.size := by have := hb.size; simp at this; omega
  have hb0 := (box3 _ _ _ _).trans (hb.mono (by simp; omega))
  clear hb
  go_wp2
  exact bodyPost_ret (v := .agg #[.int .u8 x, .int .u8 y, .int .u8 z, .int .i64 v]) (by simp [results, Try.results106, go_sem, hc]) rfl ⟨rfl, by repeat (first | with_reducible exact hb0 | with_reducible refine Below.setCell ?_ (by simp; try omega) _)⟩

/-- The four cells of term k of a list stand at 'off + k * 4' of block b. -/
def Terms (w : World) (b off : Nat) (ts : List Tm) : Prop :=
  ∀ (k : Nat) (h : k < ts.length), w.cell? ⟨b, off + k * 4, none⟩ = some (.int .u8 ts[k].1) ∧ w.cell? ⟨b, off + k * 4 + 1, none⟩ = some (.int .u8 ts[k].2.1) ∧ w.cell? ⟨b, off + k * 4 + 2, none⟩ = some (.int .u8 ts[k].2.2.1) ∧ w.cell? ⟨b, off + k * 4 + 3, none⟩ = some (.int .i64 ts[k].2.2.2)
theorem Terms.below {w w' : World} {b off : Nat} {ts : List Tm} {B : Nat} (h : Terms w b off ts) (hb : Below B w w') (hB : b < B) : Terms w' b off ts := fun k hk => by
  obtain ⟨h0, h1, h2, h3⟩ := h k hk
  exact ⟨(hb.cell (p := ⟨b, _, none⟩) hB).trans h0, (hb.cell (p := ⟨b, _, none⟩) hB).trans h1, (hb.cell (p := ⟨b, _, none⟩) hB).trans h2, (hb.cell (p := ⟨b, _, none⟩) hB).trans h3⟩

/-- What row g holds behind k rounds: the first k terms. -/
def rowT (ts : List Tm) (k : Nat) (f : Nat → Value) : Prop :=
  ∀ (j : Nat) (h : j < ts.length), j < k → f (j * 4) = .int .u8 ts[j].1 ∧ f (j * 4 + 1) = .int .u8 ts[j].2.1 ∧ f (j * 4 + 2) = .int .u8 ts[j].2.2.1 ∧ f (j * 4 + 3) = .int .i64 ts[j].2.2.2

theorem rowT_step {ts : List Tm} {k : Nat} {f : Nat → Value} (h : rowT ts k f) (hk : k < ts.length) :
    rowT ts (k + 1) (fun j => if j = k * 4 + 3 then .int .i64 ts[k].2.2.2 else if j = k * 4 + 2 then .int .u8 ts[k].2.2.1 else if j = k * 4 + 1 then .int .u8 ts[k].2.1 else if j = k * 4 then .int .u8 ts[k].1 else f j) := by
  intro j hj hjk
  by_cases e : j = k
  · subst e
    refine ⟨?_, ?_, ?_, ?_⟩
    all_goals dsimp only
    · rw [if_neg (by omega), if_neg (by omega), if_neg (by omega), if_pos rfl]
    · rw [if_neg (by omega), if_neg (by omega), if_pos rfl]
    · rw [if_neg (by omega), if_pos rfl]
    · rw [if_pos rfl]
  · obtain ⟨h0, h1, h2, h3⟩ := h j hj (by omega)
    refine ⟨?_, ?_, ?_, ?_⟩
    all_goals dsimp only
    all_goals rw [if_neg (by omega), if_neg (by omega), if_neg (by omega), if_neg (by omega)]
    · exact h0
    · exact h1
    · exact h2
    · exact h3

theorem rowIs_below {w w' : World} {b n B : Nat} {t : TypeId} {f : Nat → Value} (h : w.rowIs b t n f) (hb : Below B w w') (hB : b < B) : w'.rowIs b t n f := h.of_block (hb.block b hB)

def madeT (n : Nat) : Array Value := madeCells (Value.agg #[.int .u8 0, .int .u8 0, .int .u8 0, .int .i64 0]).cells (n * 4)
theorem madeT_row (w : World) (n : Nat) (t : TypeId) : (w.alloc (.cells (madeT n) t)).rowIs w.heap.size t (n * 4) (fun i => (madeT n).getD i undef) := by
  have hs : (madeT n).size = n * 4 := by simp [madeT, madeCells]
  refine ⟨madeT n, heap_alloc_new w _, hs, fun i hi => ?_⟩
  simp [Array.getD, hs, hi]

set_option maxHeartbeats 1000000 in
theorem toTermS_some (b off cap : Nat) (ts : List Tm) (w : World) (hl : ts.length ≤ 1048576) (hb : b < w.heap.size) (hT : Terms w b off ts) :
    Calls Try.prog 65 #[.slice (some ⟨b, off, none⟩) ts.length cap] w fun e w' =>
      e = .returned (.slice (some ⟨w.heap.size, 0, none⟩) ts.length ts.length) ∧ ∃ f, w'.rowIs w.heap.size 92 (ts.length * 4) f ∧ rowT ts ts.length f ∧ Below w.heap.size w w' := by
  obtain ⟨i0, hi, hz0, hz1, hz2⟩ := info_parts infoTerm
  have hmk : ∀ w, (Instr.makeSlice 34 (.int .i64 (ts.length : Int)) (.int .i64 (ts.length : Int))).run Try.prog w = .ok (.slice (some ⟨w.heap.size, 0, none⟩) ts.length ts.length) (w.alloc (.cells (madeT ts.length) 92)) := fun w => by
    have h := run_make (P := Try.prog) w 34 92 i0 _ Try.underlying34 hi hz0 .i64 .i64 (ts.length : Int) (ts.length : Int) (by omega) (by omega) (by rw [hz2]; omega) (by omega)
    rw [hz1] at h
    simpa [madeT] using h
  clear hi hz0 hz1 hz2
  go_enter Try.func65, Try.ntmps65
  go_wp2
  go_loopw [4] (fun i wr => ∃ k : Nat, k ≤ ts.length ∧ i = .int .i64 k ∧ Below w.heap.size w wr ∧ w.heap.size < wr.heap.size ∧ ∃ f, wr.rowIs w.heap.size 92 (ts.length * 4) f ∧ rowT ts k f) (fun i _ => ts.length - (intOf i).toNat)
  case atStart => exact ⟨0, by omega, rfl, box1 _ _, by simp, _, madeT_row w _ _, fun j _ h => by omega⟩
  case round =>
    obtain ⟨k, hk, rfl, hbel, hsz, f, hrow, hrt⟩ := hrel
    by_cases hlt : k < ts.length
    · have hlt' : (k : Int) < (ts.length : Int) := by omega
      obtain ⟨c0, c1, c2, c3⟩ := (hT.below hbel hb) k hlt
      go_wp2_with fail
      ((with_reducible refine (toTerm_any ts[k].1 ts[k].2.1 ts[k].2.2.1 ts[k].2.2.2 _).mono ?_); rintro e w1 ⟨rfl, hb1⟩)
      have row1 := rowIs_below hrow hb1 hsz
      have d0 := row1.cell (i := k * 4) (by omega)
      have d1 := row1.cell (i := k * 4 + 1) (by omega)
      have d2 := row1.cell (i := k * 4 + 2) (by omega)
      have d3 := row1.cell (i := k * 4 + 3) (by omega)
      have f0 := row1.frozen (k * 4)
      have f1 := row1.frozen (k * 4 + 1)
      have f2 := row1.frozen (k * 4 + 2)
      have f3 := row1.frozen (k * 4 + 3)
      have hbel1 := hbel.trans (hb1.mono (Nat.le_of_lt hsz))
      have hsz1 := Nat.lt_of_lt_of_le hsz hb1.size
      have R := rowT_step hrt hlt
      have rows := (((row1.set (k * 4) (.int .u8 ts[k].1)).set (k * 4 + 1) (.int .u8 ts[k].2.1)).set (k * 4 + 2) (.int .u8 ts[k].2.2.1)).set (k * 4 + 3) (.int .i64 ts[k].2.2.2)
      clear hb1 row1
      go_wp2
      go_roundw
      case rel => exact ⟨k + 1, by omega, by go_num, (((hbel1.setCell (Nat.le_refl _) _).setCell (Nat.le_refl _) _).setCell (Nat.le_refl _) _).setCell (Nat.le_refl _) _, by simpa using hsz1, _, rows, R⟩
      case measure => simp [intOf]; omega
    · obtain rfl : k = ts.length := by omega
      go_wp2
      go_ret
      exact ⟨rfl, f, hrow, hrt, hbel⟩

end Go.Proofs.Ytphgpadpffigjaa
