/-
  WALKS of the laws on matrices: copying. Conditions: as each theorem states.
  WALKS of the laws on matrices: comparing. Conditions: as each theorem states.
  WALKS of the laws on groups: copying a list of matrices. Conditions: as each theorem states.
  WALKS of the laws on matrices: comparing two matrices that are alike. Conditions: as each theorem states.
  WALKS of the laws on groups: sizes, comparing, copying. Conditions: as each theorem states.
  WALKS of the laws on groups: copying a group; the law of 'FnExactIsGroup'. Conditions: as each theorem states.
-/
import Derived.Test.YtllklhakbanhaaaGreatP23
import Derived.Test.YtllklhakbanhaaaGreatP30
import Derived.OwnWalk
import Derived.Test.YtllklhakbanhaaaGreatP33
namespace Go.Proofs.YtllklhakbanhaaaGreat
open Go.RowKit Go.Sort EchM

set_option maxHeartbeats 2000000 in
theorem tobyte3 (x y z : Int) (w : World) : Calls Tryz.prog 111 #[.agg #[.int .u8 x, .int .u8 y, .int .u8 z]] w fun e w' => e = .returned (.agg #[.int .u8 x, .int .u8 y, .int .u8 z]) ∧ Below w.heap.size w w' := by
  go_enter Tryz.func111, Tryz.ntmps111
  go_wp2
  refine wp_loop_rounds 4 ?_
  iterate 4 (rw [rounds_succ]; go_wp2)
  exact bodyPost_ret (v := .agg #[.int .u8 x, .int .u8 y, .int .u8 z]) (by simp [results, Tryz.results111, go_sem]) rfl ⟨rfl, (ebox2 _ _ _).alloc (by simp; omega) _⟩

set_option maxRecDepth 8000 in
set_option maxHeartbeats 4000000 in
theorem tomat (g : Nat → Nat → Int) (w : World) : Calls Tryz.prog 82 #[mv g] w fun e w' => e = .returned (mv g) ∧ Below w.heap.size w w' := by
  obtain ⟨W, hW, rW, rR, rO, hbW⟩ : ∃ W, W = ((w.alloc (.cells #[.int .u8 (g 0 0), .int .u8 (g 0 1), .int .u8 (g 0 2), .int .u8 (g 1 0), .int .u8 (g 1 1), .int .u8 (g 1 2), .int .u8 (g 2 0), .int .u8 (g 2 1), .int .u8 (g 2 2)] 97)).alloc (.cells #[.int .u8 0, .int .u8 0, .int .u8 0, .int .u8 0, .int .u8 0, .int .u8 0, .int .u8 0, .int .u8 0, .int .u8 0] 98)).alloc (.cells #[.int .u8 0, .int .u8 0, .int .u8 0, .int .u8 0, .int .u8 0, .int .u8 0, .int .u8 0, .int .u8 0, .int .u8 0] 98) ∧
      W.rowIs w.heap.size 97 9 (mF g) ∧ W.rowIs (w.heap.size + 1) 98 9 (mF fun _ _ => 0) ∧ W.rowIs (w.heap.size + 2) 98 9 (mF fun _ _ => 0) ∧ Below w.heap.size w W := by
    refine ⟨_, rfl, ((mbox w g _).alloc _).alloc _, ?_, ?_, (ebox2 _ _ _).alloc (by simp; omega) _⟩
    · have := mbox (w.alloc (.cells #[.int .u8 (g 0 0), .int .u8 (g 0 1), .int .u8 (g 0 2), .int .u8 (g 1 0), .int .u8 (g 1 1), .int .u8 (g 1 2), .int .u8 (g 2 0), .int .u8 (g 2 1), .int .u8 (g 2 2)] 97)) (fun _ _ => 0) 98
      rw [World.size_alloc] at this
      exact this.alloc _
    · have := mbox ((w.alloc (.cells #[.int .u8 (g 0 0), .int .u8 (g 0 1), .int .u8 (g 0 2), .int .u8 (g 1 0), .int .u8 (g 1 1), .int .u8 (g 1 2), .int .u8 (g 2 0), .int .u8 (g 2 1), .int .u8 (g 2 2)] 97)).alloc (.cells #[.int .u8 0, .int .u8 0, .int .u8 0, .int .u8 0, .int .u8 0, .int .u8 0, .int .u8 0, .int .u8 0, .int .u8 0] 98)) (fun _ _ => 0) 98
      rw [World.size_alloc, World.size_alloc] at this
      exact this
  have hWs : w.heap.size + 3 ≤ W.heap.size := by rw [hW]; simp
  unfold mv
  go_enter Tryz.func82, Tryz.ntmps82
  go_upto_region 2 with fail
  rw [← hW]
  clear hW
  go_wp2_with fail
  go_loopw [4] (fun i wr => ∃ (k : Nat), k ≤ 3 ∧ i = .int .i64 k ∧ wr.rowIs w.heap.size 97 9 (mF g) ∧ wr.rowIs (w.heap.size + 1) 98 9 (mF fun _ _ => 0) ∧ wr.rowIs (w.heap.size + 2) 98 9 (mF fun a b => if a < k then g a b else 0) ∧ Below w.heap.size w wr ∧ w.heap.size + 3 ≤ wr.heap.size) (fun i _ => 3 - (intOf i).toNat)
  case atStart => exact ⟨0, by omega, rfl, rW, rR, mF_congr rO (fun a _ b _ => by simp), hbW, hWs⟩
  case round =>
    obtain ⟨k, hk, rfl, q1, q2, q3, hb, hs⟩ := hrel
    by_cases hlt : k < 3
    · obtain ⟨⟨c0, c1, c2⟩, ⟨c3, c4, c5⟩, c6, c7, c8⟩ := mcells q1
      have h3 : k = 0 ∨ k = 1 ∨ k = 2 := by omega
      rcases h3 with rfl | rfl | rfl
      all_goals
        go_wp2_with fail
        ((with_reducible refine (tobyte3 _ _ _ _).mono ?_); rintro e w2 ⟨rfl, hb2⟩)
        have p1 := erow_below q1 hb2 q1.lt
        have p2 := erow_below q2 hb2 q2.lt
        have p3 := erow_below q3 hb2 q3.lt
        have hb3 := hb.trans (hb2.mono hb.size)
        have hs3 := hb2.size
        obtain ⟨⟨o0, o1, o2⟩, ⟨o3, o4, o5⟩, o6, o7, o8⟩ := mcells p3
        have z0 := p3.frozen 0
        have z1 := p3.frozen 1
        have z2 := p3.frozen 2
        have z3 := p3.frozen 3
        have z4 := p3.frozen 4
        have z5 := p3.frozen 5
        have z6 := p3.frozen 6
        have z7 := p3.frozen 7
        have z8 := p3.frozen 8
        clear c0 c1 c2 c3 c4 c5 c6 c7 c8
      · have r1 := (((p3.set 0 (.int .u8 (g 0 0))).set 1 (.int .u8 (g 0 1))).set 2 (.int .u8 (g 0 2))).congr (g := mF fun a b => if a < 1 then g a b else 0) fun q hq => by
          match q, hq with | 0, _ => rfl | 1, _ => rfl | 2, _ => rfl | 3, _ => rfl | 4, _ => rfl | 5, _ => rfl | 6, _ => rfl | 7, _ => rfl | 8, _ => rfl
        go_wp2_with fail
        go_roundw
        case rel => exact ⟨1, by omega, by go_num, ((p1.setOther (by simp; omega) _).setOther (by simp; omega) _).setOther (by simp; omega) _, ((p2.setOther (by simp) _).setOther (by simp) _).setOther (by simp) _, r1, ((hb3.setCell (by simp; omega) _).setCell (by simp; omega) _).setCell (by simp; omega) _, by simp; omega⟩
        case measure => simp [intOf]
      · have r1 := (((p3.set 3 (.int .u8 (g 1 0))).set 4 (.int .u8 (g 1 1))).set 5 (.int .u8 (g 1 2))).congr (g := mF fun a b => if a < 2 then g a b else 0) fun q hq => by
          match q, hq with | 0, _ => rfl | 1, _ => rfl | 2, _ => rfl | 3, _ => rfl | 4, _ => rfl | 5, _ => rfl | 6, _ => rfl | 7, _ => rfl | 8, _ => rfl
        go_wp2_with fail
        go_roundw
        case rel => exact ⟨2, by omega, by go_num, ((p1.setOther (by simp; omega) _).setOther (by simp; omega) _).setOther (by simp; omega) _, ((p2.setOther (by simp) _).setOther (by simp) _).setOther (by simp) _, r1, ((hb3.setCell (by simp; omega) _).setCell (by simp; omega) _).setCell (by simp; omega) _, by simp; omega⟩
        case measure => simp [intOf]
      · have r1 := (((p3.set 6 (.int .u8 (g 2 0))).set 7 (.int .u8 (g 2 1))).set 8 (.int .u8 (g 2 2))).congr (g := mF fun a b => if a < 3 then g a b else 0) fun q hq => by
          match q, hq with | 0, _ => rfl | 1, _ => rfl | 2, _ => rfl | 3, _ => rfl | 4, _ => rfl | 5, _ => rfl | 6, _ => rfl | 7, _ => rfl | 8, _ => rfl
        go_wp2_with fail
        go_roundw
        case rel => exact ⟨3, by omega, by go_num, ((p1.setOther (by simp; omega) _).setOther (by simp; omega) _).setOther (by simp; omega) _, ((p2.setOther (by simp) _).setOther (by simp) _).setOther (by simp) _, r1, ((hb3.setCell (by simp; omega) _).setCell (by simp; omega) _).setCell (by simp; omega) _, by simp; omega⟩
        case measure => simp [intOf]
    · obtain rfl : k = 3 := by omega
      have q4 := mF_congr (h := g) q3 (fun a ha b _ => by simp [ha])
      obtain ⟨⟨o0, o1, o2⟩, ⟨o3, o4, o5⟩, o6, o7, o8⟩ := mcells q4
      obtain ⟨⟨y0, y1, y2⟩, ⟨y3, y4, y5⟩, y6, y7, y8⟩ := mcells q2
      have z0 := q2.frozen 0
      have z1 := q2.frozen 1
      have z2 := q2.frozen 2
      have z3 := q2.frozen 3
      have z4 := q2.frozen 4
      have z5 := q2.frozen 5
      have z6 := q2.frozen 6
      have z7 := q2.frozen 7
      have z8 := q2.frozen 8
      obtain ⟨hf1, hf2⟩ := mfill (w := w) (B := w.heap.size) q2 hb (by omega) g
      obtain ⟨⟨v0, v1, v2⟩, ⟨v3, v4, v5⟩, v6, v7, v8⟩ := mcells hf1
      have V0 := Lib.hid v0
      have V1 := Lib.hid v1
      have V2 := Lib.hid v2
      have V3 := Lib.hid v3
      have V4 := Lib.hid v4
      have V5 := Lib.hid v5
      have V6 := Lib.hid v6
      have V7 := Lib.hid v7
      have V8 := Lib.hid v8
      have HF2 := Lib.hid hf2
      clear hf1 hf2 v0 v1 v2 v3 v4 v5 v6 v7 v8 q3 q4
      go_wp2_with fail
      exact bodyPost_ret (v := mv g) (by simp [results, Tryz.results82, go_sem, mv, V0.out, V1.out, V2.out, V3.out, V4.out, V5.out, V6.out, V7.out, V8.out]) rfl ⟨rfl, HF2.out⟩
theorem tomat_agg (g : Nat → Nat → Int) (w : World) : Calls Tryz.prog 82 #[.agg #[.int .u8 (g 0 0), .int .u8 (g 0 1), .int .u8 (g 0 2), .int .u8 (g 1 0), .int .u8 (g 1 1), .int .u8 (g 1 2), .int .u8 (g 2 0), .int .u8 (g 2 1), .int .u8 (g 2 2)]] w fun e w' => e = .returned (.agg #[.int .u8 (g 0 0), .int .u8 (g 0 1), .int .u8 (g 0 2), .int .u8 (g 1 0), .int .u8 (g 1 1), .int .u8 (g 1 2), .int .u8 (g 2 0), .int .u8 (g 2 1), .int .u8 (g 2 2)]) ∧ Below w.heap.size w w' := tomat g w
end Go.Proofs.YtllklhakbanhaaaGreat
namespace Go.Proofs.YtllklhakbanhaaaGreat
open Go.RowKit Go.Sort EchM

set_option maxHeartbeats 2000000 in
theorem eqbyte3 (x y z : Int) (w : World) : Calls Tryz.prog 122 #[.agg #[.int .u8 x, .int .u8 y, .int .u8 z], .agg #[.int .u8 x, .int .u8 y, .int .u8 z]] w fun e w' => e = .returned (.bool true) ∧ Below w.heap.size w w' := by
  have hx : (x != x) = false := by simp
  have hy : (y != y) = false := by simp
  have hz : (z != z) = false := by simp
  go_enter Tryz.func122, Tryz.ntmps122
  go_wp2
  refine wp_loop_rounds 4 ?_
  iterate 3 (rw [rounds_succ]; go_wp2; go_quiet (fail); go_wp2)
  rw [rounds_succ]
  go_wp2
  go_ret
  exact ⟨rfl, by repeat (first | exact ebox2 _ _ _ | refine below_drewN ?_ _)⟩

end Go.Proofs.YtllklhakbanhaaaGreat
namespace Go.Proofs.YtllklhakbanhaaaGreat
open Go.RowKit Go.Sort EchM

theorem infoMat : (Tryz.prog.info? 98).map (fun i => (i.zero, i.size, i.bytes)) = some (some (.agg #[.int .u8 0, .int .u8 0, .int .u8 0, .int .u8 0, .int .u8 0, .int .u8 0, .int .u8 0, .int .u8 0, .int .u8 0]), 9, 9) := by kernel_rfl
def madeM (n : Nat) : Array Value := madeCells (Value.agg #[.int .u8 0, .int .u8 0, .int .u8 0, .int .u8 0, .int .u8 0, .int .u8 0, .int .u8 0, .int .u8 0, .int .u8 0]).cells (n * 9)
theorem madeM_row (w : World) (n : Nat) (t : TypeId) : (w.alloc (.cells (madeM n) t)).rowIs w.heap.size t (n * 9) (fun i => (madeM n).getD i undef) := by
  have hs : (madeM n).size = n * 9 := by simp [madeM, madeCells]
  refine ⟨madeM n, heap_alloc_new w _, hs, fun i hi => ?_⟩
  simp [Array.getD, hs, hi]
/-- What the row holds behind k rounds: the first k matrices. -/
def rowM (L : List (Nat → Nat → Int)) (k : Nat) (f : Nat → Value) : Prop :=
  ∀ (j : Nat) (h : j < L.length), j < k → ∀ a b, a < 3 → b < 3 → f (j * 9 + (a * 3 + b)) = .int .u8 (L[j] a b)
def putM (f : Nat → Value) (k : Nat) (x : Nat → Nat → Int) (q : Nat) : Value := if k * 9 ≤ q ∧ q < k * 9 + 9 then .int .u8 (x ((q - k * 9) / 3) ((q - k * 9) % 3)) else f q
theorem rowM_step {L : List (Nat → Nat → Int)} {k : Nat} {f : Nat → Value} (h : rowM L k f) (hk : k < L.length) : rowM L (k + 1) (putM f k L[k]) := by
  intro j hj hjk a b ha hb
  unfold putM
  by_cases e : j = k
  · subst e
    rw [if_pos (by omega), show (j * 9 + (a * 3 + b) - j * 9) / 3 = a by omega, show (j * 9 + (a * 3 + b) - j * 9) % 3 = b by omega]
  · rw [if_neg (by omega)]
    exact h j hj (by omega) a b ha hb
theorem putM_row {w : World} {B n : Nat} {t : TypeId} {f : Nat → Value} (h : w.rowIs B t n f) (k : Nat) (x : Nat → Nat → Int) :
    ((((((((((w).setCell ⟨B, k * 9, none⟩ (.int .u8 (x 0 0))).setCell ⟨B, k * 9 + 1, none⟩ (.int .u8 (x 0 1))).setCell ⟨B, k * 9 + 2, none⟩ (.int .u8 (x 0 2))).setCell ⟨B, k * 9 + 3, none⟩ (.int .u8 (x 1 0))).setCell ⟨B, k * 9 + 4, none⟩ (.int .u8 (x 1 1))).setCell ⟨B, k * 9 + 5, none⟩ (.int .u8 (x 1 2))).setCell ⟨B, k * 9 + 6, none⟩ (.int .u8 (x 2 0))).setCell ⟨B, k * 9 + 7, none⟩ (.int .u8 (x 2 1))).setCell ⟨B, k * 9 + 8, none⟩ (.int .u8 (x 2 2))).rowIs B t n (putM f k x) := by
  refine ((((((((((h).set (k * 9) (.int .u8 (x 0 0))).set (k * 9 + 1) (.int .u8 (x 0 1))).set (k * 9 + 2) (.int .u8 (x 0 2))).set (k * 9 + 3) (.int .u8 (x 1 0))).set (k * 9 + 4) (.int .u8 (x 1 1))).set (k * 9 + 5) (.int .u8 (x 1 2))).set (k * 9 + 6) (.int .u8 (x 2 0))).set (k * 9 + 7) (.int .u8 (x 2 1))).set (k * 9 + 8) (.int .u8 (x 2 2))).congr fun q _ => ?_
  unfold putM
  by_cases e : k * 9 ≤ q ∧ q < k * 9 + 9
  · obtain ⟨r, rfl⟩ : ∃ r, q = k * 9 + r := ⟨q - k * 9, by omega⟩
    have hr : r < 9 := by omega
    rw [if_pos e, Nat.add_sub_cancel_left]
    match r, hr with
    | 0, _ => simp
    | 1, _ => simp
    | 2, _ => simp
    | 3, _ => simp
    | 4, _ => simp
    | 5, _ => simp
    | 6, _ => simp
    | 7, _ => simp
    | 8, _ => simp
  · rw [if_neg e]
    repeat (rw [if_neg (by omega)])
/-- A list of matrices that a call has made, and holds as its own. -/
def OwnM (w : World) (base : Nat) (v : Value) (L : List (Nat → Nat → Int)) : Prop :=
  ∃ g f, v = .slice (some ⟨g, 0, none⟩) L.length L.length ∧ base ≤ g ∧ w.rowIs g 98 (L.length * 9) f ∧ rowM L L.length f
theorem OwnM.slice {w : World} {base : Nat} {v : Value} {L : List (Nat → Nat → Int)} (h : OwnM w base v L) : SlM w v L := by
  obtain ⟨g, f, hv, _, hr, ht⟩ := h
  refine ⟨_, _, hv, .inr ⟨g, 0, rfl, hr.lt, fun k hk i j hi hj => ?_⟩⟩
  rw [Nat.zero_add, hr.cell (by omega), ht k hk hk i j hi hj]
theorem OwnM.below {w w' : World} {base : Nat} {v : Value} {L : List (Nat → Nat → Int)} (h : OwnM w base v L) (hb : Below w.heap.size w w') : OwnM w' base v L := by
  obtain ⟨g, f, hv, hg, hr, ht⟩ := h
  exact ⟨g, f, hv, hg, erow_below hr hb hr.lt, ht⟩

set_option maxRecDepth 8000 in
set_option maxHeartbeats 8000000 in
theorem tomats (v : Value) (L : List (Nat → Nat → Int)) (w : World) (hl : L.length ≤ 1048576) (hS : SlM w v L) :
    Calls Tryz.prog 49 #[v] w fun e w' => ∃ v', e = .returned v' ∧ OwnM w' w.heap.size v' L ∧ Below w.heap.size w w' := by
  obtain ⟨i0, hi, hz0, hz1, hz2⟩ := info_parts infoMat
  have hmk : ∀ w, (Instr.makeSlice 33 (.int .i64 (L.length : Int)) (.int .i64 (L.length : Int))).run Tryz.prog w = .ok (.slice (some ⟨w.heap.size, 0, none⟩) L.length L.length) (w.alloc (.cells (madeM L.length) 98)) := fun w => by
    have h := run_make (P := Tryz.prog) w 33 98 i0 _ Tryz.underlying33 hi hz0 .i64 .i64 (L.length : Int) (L.length : Int) (by omega) (by omega) (by rw [hz2]; omega) (by omega)
    rw [hz1] at h
    simpa [madeM] using h
  clear hi hz0 hz1 hz2
  obtain ⟨a, cap, rfl, hSc⟩ := id hS
  go_enter Tryz.func49, Tryz.ntmps49
  go_wp2_with fail
  go_loopw [4] (fun i wr => ∃ k : Nat, k ≤ L.length ∧ i = .int .i64 k ∧ Below w.heap.size w wr ∧ w.heap.size < wr.heap.size ∧ ∃ f, wr.rowIs w.heap.size 98 (L.length * 9) f ∧ Hid (rowM L k f)) (fun i _ => L.length - (intOf i).toNat)
  case atStart => exact ⟨0, by omega, rfl, ebox1 _ _, by simp, _, madeM_row w _ _, Lib.hid (fun j _ h => by omega)⟩
  case round =>
    obtain ⟨k, hk, rfl, hbel, hsz, f, hrow, HR⟩ := hrel
    by_cases hlt : k < L.length
    · have hlt' : (k : Int) < (L.length : Int) := by omega
      obtain ⟨b, off, rfl, hbb, hT⟩ : ∃ b off, a = some ⟨b, off, none⟩ ∧ b < w.heap.size ∧ MatsW w b off L := by
        rcases hSc with rfl | h
        · simp at hlt
        · exact h
      obtain ⟨⟨a0, a1, a2⟩, ⟨a3, a4, a5⟩, a6, a7, a8⟩ := (hT.below hbel hbb).nine hlt
      have HN := Lib.hid (rowM_step HR.out hlt)
      generalize L[k] = x at *
      go_wp2_with fail
      ((with_reducible refine (tomat_agg x _).mono ?_); rintro e w1 ⟨rfl, hb1⟩)
      have row1 := erow_below hrow hb1 hsz
      have d0 := row1.cell (i := k * 9) (by omega)
      have f0 := row1.frozen (k * 9)
      have d1 := row1.cell (i := k * 9 + 1) (by omega)
      have f1 := row1.frozen (k * 9 + 1)
      have d2 := row1.cell (i := k * 9 + 2) (by omega)
      have f2 := row1.frozen (k * 9 + 2)
      have d3 := row1.cell (i := k * 9 + 3) (by omega)
      have f3 := row1.frozen (k * 9 + 3)
      have d4 := row1.cell (i := k * 9 + 4) (by omega)
      have f4 := row1.frozen (k * 9 + 4)
      have d5 := row1.cell (i := k * 9 + 5) (by omega)
      have f5 := row1.frozen (k * 9 + 5)
      have d6 := row1.cell (i := k * 9 + 6) (by omega)
      have f6 := row1.frozen (k * 9 + 6)
      have d7 := row1.cell (i := k * 9 + 7) (by omega)
      have f7 := row1.frozen (k * 9 + 7)
      have d8 := row1.cell (i := k * 9 + 8) (by omega)
      have f8 := row1.frozen (k * 9 + 8)
      have hbel1 := hbel.trans (hb1.mono (Nat.le_of_lt hsz))
      have hsz1 := Nat.lt_of_lt_of_le hsz hb1.size
      have rows := putM_row row1 k x
      clear hb1 row1 a0 a1 a2 a3 a4 a5 a6 a7 a8
      go_wp2_with fail
      go_roundw
      case rel => exact ⟨k + 1, by omega, by go_num, (((((((((hbel1).setCell (Nat.le_refl _) _).setCell (Nat.le_refl _) _).setCell (Nat.le_refl _) _).setCell (Nat.le_refl _) _).setCell (Nat.le_refl _) _).setCell (Nat.le_refl _) _).setCell (Nat.le_refl _) _).setCell (Nat.le_refl _) _).setCell (Nat.le_refl _) _, by simpa using hsz1, _, rows, HN⟩
      case measure => simp [intOf]; omega
    · obtain rfl : k = L.length := by omega
      have hR := HR.out
      go_wp2_with fail
      go_ret
      exact ⟨_, rfl, ⟨w.heap.size, f, rfl, Nat.le_refl _, hrow, hR⟩, hbel⟩
end Go.Proofs.YtllklhakbanhaaaGreat
namespace Go.Proofs.YtllklhakbanhaaaGreat
open Go.RowKit Go.Sort EchM

theorem eqb3_regrown (x y z : Int) (W : World) (d : Nat) (os : Array Obj) :
    Calls Tryz.prog 122 #[.agg #[.int .u8 x, .int .u8 y, .int .u8 z], .agg #[.int .u8 x, .int .u8 y, .int .u8 z]] (grow (redrawn W d) os) fun e w'' => e = .returned (.bool true) ∧ ∃ p : Regrown, w'' = grow (redrawn W p.d) p.os :=
  Calls.regrown_of (eqbyte3 x y z _)

set_option maxRecDepth 8000 in
set_option maxHeartbeats 4000000 in
theorem eqmat (g : Nat → Nat → Int) (w : World) : Calls Tryz.prog 87 #[mv g, mv g] w fun e w' => e = .returned (.bool true) ∧ Below w.heap.size w w' := by
  obtain ⟨W, hW, r1, r2, hbW⟩ : ∃ W, W = (w.alloc (.cells #[.int .u8 (g 0 0), .int .u8 (g 0 1), .int .u8 (g 0 2), .int .u8 (g 1 0), .int .u8 (g 1 1), .int .u8 (g 1 2), .int .u8 (g 2 0), .int .u8 (g 2 1), .int .u8 (g 2 2)] 98)).alloc (.cells #[.int .u8 (g 0 0), .int .u8 (g 0 1), .int .u8 (g 0 2), .int .u8 (g 1 0), .int .u8 (g 1 1), .int .u8 (g 1 2), .int .u8 (g 2 0), .int .u8 (g 2 1), .int .u8 (g 2 2)] 98) ∧
      W.rowIs w.heap.size 98 9 (mF g) ∧ W.rowIs (w.heap.size + 1) 98 9 (mF g) ∧ Below w.heap.size w W := by
    refine ⟨_, rfl, (mbox w g _).alloc _, ?_, ebox2 _ _ _⟩
    have := mbox (w.alloc (.cells #[.int .u8 (g 0 0), .int .u8 (g 0 1), .int .u8 (g 0 2), .int .u8 (g 1 0), .int .u8 (g 1 1), .int .u8 (g 1 2), .int .u8 (g 2 0), .int .u8 (g 2 1), .int .u8 (g 2 2)] 98)) g 98
    rwa [World.size_alloc] at this
  unfold mv
  go_enter Tryz.func87, Tryz.ntmps87
  go_upto_region 1 with fail
  rw [← hW]
  clear hW
  go_wp2_with fail
  go_loopw [5] (fun i wr => ∃ (k : Nat), k ≤ 3 ∧ i = .int .i64 k ∧ Below W.heap.size W wr) (fun i _ => 3 - (intOf i).toNat)
  case atStart => exact ⟨0, by omega, rfl, Below.refl _ _⟩
  case round =>
    obtain ⟨k, hk, rfl, hb⟩ := hrel
    by_cases hlt : k < 3
    · obtain ⟨⟨a0, a1, a2⟩, ⟨a3, a4, a5⟩, a6, a7, a8⟩ := mcells (erow_below r1 hb r1.lt)
      obtain ⟨⟨b0, b1, b2⟩, ⟨b3, b4, b5⟩, b6, b7, b8⟩ := mcells (erow_below r2 hb r2.lt)
      have k0 := cell_regrown a0
      have k1 := cell_regrown a1
      have k2 := cell_regrown a2
      have k3 := cell_regrown a3
      have k4 := cell_regrown a4
      have k5 := cell_regrown a5
      have k6 := cell_regrown a6
      have k7 := cell_regrown a7
      have k8 := cell_regrown a8
      have l0 := cell_regrown b0
      have l1 := cell_regrown b1
      have l2 := cell_regrown b2
      have l3 := cell_regrown b3
      have l4 := cell_regrown b4
      have l5 := cell_regrown b5
      have l6 := cell_regrown b6
      have l7 := cell_regrown b7
      have l8 := cell_regrown b8
      have cE := fun i => eqb3_regrown (g i 0) (g i 1) (g i 2) wr
      have h3 : k = 0 ∨ k = 1 ∨ k = 2 := by omega
      rcases h3 with rfl | rfl | rfl
      · have c1 := cE 0
        clear cE k3 k4 k5 k6 k7 k8 l3 l4 l5 l6 l7 l8
        go_wp2_with fail
        refine wp_region_quiet_below (by kernel_rfl) (by kernel_rfl) ?_
        repeat (quiet_step (first | with_reducible exact c1 _ _))
        refine wpQuiet_nil ?_
        intro _ hw'
        obtain ⟨⟨dq, osq⟩, hw''⟩ := hw'
        subst hw''
        have hb2 := hb.trans ((below_regrown wr dq osq).mono hb.size)
        generalize grow (redrawn wr dq) osq = V at *
        clear k0 k1 k2 l0 l1 l2 c1
        go_wp2_with fail
        go_roundw
        case rel => exact ⟨1, by omega, by go_num, hb2⟩
        case measure => simp [intOf]
      · have c1 := cE 1
        clear cE k0 k1 k2 k6 k7 k8 l0 l1 l2 l6 l7 l8
        go_wp2_with fail
        refine wp_region_quiet_below (by kernel_rfl) (by kernel_rfl) ?_
        repeat (quiet_step (first | with_reducible exact c1 _ _))
        refine wpQuiet_nil ?_
        intro _ hw'
        obtain ⟨⟨dq, osq⟩, hw''⟩ := hw'
        subst hw''
        have hb2 := hb.trans ((below_regrown wr dq osq).mono hb.size)
        generalize grow (redrawn wr dq) osq = V at *
        clear k3 k4 k5 l3 l4 l5 c1
        go_wp2_with fail
        go_roundw
        case rel => exact ⟨2, by omega, by go_num, hb2⟩
        case measure => simp [intOf]
      · have c1 := cE 2
        clear cE k3 k4 k5 k0 k1 k2 l3 l4 l5 l0 l1 l2
        go_wp2_with fail
        refine wp_region_quiet_below (by kernel_rfl) (by kernel_rfl) ?_
        repeat (quiet_step (first | with_reducible exact c1 _ _))
        refine wpQuiet_nil ?_
        intro _ hw'
        obtain ⟨⟨dq, osq⟩, hw''⟩ := hw'
        subst hw''
        have hb2 := hb.trans ((below_regrown wr dq osq).mono hb.size)
        generalize grow (redrawn wr dq) osq = V at *
        clear k6 k7 k8 l6 l7 l8 c1
        go_wp2_with fail
        go_roundw
        case rel => exact ⟨3, by omega, by go_num, hb2⟩
        case measure => simp [intOf]
    · obtain rfl : k = 3 := by omega
      go_wp2_with fail
      go_ret
      exact ⟨rfl, hbW.trans (hb.mono hbW.size)⟩
end Go.Proofs.YtllklhakbanhaaaGreat
namespace Go.Proofs.YtllklhakbanhaaaGreat
open Go.RowKit Go.Sort EchM

theorem eqmat_r (g : Nat → Nat → Int) (W : World) : ∀ dd os, Calls Tryz.prog 87 #[(.agg #[.int .u8 (g 0 0), .int .u8 (g 0 1), .int .u8 (g 0 2), .int .u8 (g 1 0), .int .u8 (g 1 1), .int .u8 (g 1 2), .int .u8 (g 2 0), .int .u8 (g 2 1), .int .u8 (g 2 2)]), (.agg #[.int .u8 (g 0 0), .int .u8 (g 0 1), .int .u8 (g 0 2), .int .u8 (g 1 0), .int .u8 (g 1 1), .int .u8 (g 1 2), .int .u8 (g 2 0), .int .u8 (g 2 1), .int .u8 (g 2 2)])] (grow (redrawn W dd) os) fun e w'' => e = .returned (.bool true) ∧ ∃ q : Regrown, w'' = grow (redrawn W q.d) q.os := fun _ _ => Calls.regrown_of (eqmat g _)

set_option maxRecDepth 8000 in
set_option maxHeartbeats 4000000 in
theorem eqmats (v v' : Value) (L : List (Nat → Nat → Int)) (w : World) (hl : L.length ≤ 1048576) (hS : SlM w v L) (hS' : SlM w v' L) :
    Calls Tryz.prog 54 #[v, v'] w fun e w' => e = .returned (.bool true) ∧ Below w.heap.size w w' := by
  have hnn : ((L.length : Int) != (L.length : Int)) = false := by simp
  obtain ⟨a, cap, rfl, hSc⟩ := id hS
  obtain ⟨a', cap', rfl, hSc'⟩ := id hS'
  go_enter Tryz.func54, Tryz.ntmps54
  go_wp2_with fail
  go_loopw [5] (fun i wr => ∃ k : Nat, k ≤ L.length ∧ i = .int .i64 k ∧ Below w.heap.size w wr) (fun i _ => L.length - (intOf i).toNat)
  case atStart => exact ⟨0, by omega, rfl, Below.refl _ _⟩
  case round =>
    obtain ⟨k, hk, rfl, hbel⟩ := hrel
    by_cases hlt : k < L.length
    · have hlt' : (k : Int) < (L.length : Int) := by omega
      obtain ⟨b, off, rfl, hbb, hT⟩ : ∃ b off, a = some ⟨b, off, none⟩ ∧ b < w.heap.size ∧ MatsW w b off L := by
        rcases hSc with rfl | h
        · simp at hlt
        · exact h
      obtain ⟨b', off', rfl, hbb', hT'⟩ : ∃ b off, a' = some ⟨b, off, none⟩ ∧ b < w.heap.size ∧ MatsW w b off L := by
        rcases hSc' with rfl | h
        · simp at hlt
        · exact h
      obtain ⟨⟨a0, a1, a2⟩, ⟨a3, a4, a5⟩, a6, a7, a8⟩ := (hT.below hbel hbb).nine hlt
      obtain ⟨⟨b0, b1, b2⟩, ⟨b3, b4, b5⟩, b6, b7, b8⟩ := (hT'.below hbel hbb').nine hlt
      generalize L[k] = x at *
      have e0 := cell_regrown a0
      have e1 := cell_regrown a1
      have e2 := cell_regrown a2
      have e3 := cell_regrown a3
      have e4 := cell_regrown a4
      have e5 := cell_regrown a5
      have e6 := cell_regrown a6
      have e7 := cell_regrown a7
      have e8 := cell_regrown a8
      have f0 := cell_regrown b0
      have f1 := cell_regrown b1
      have f2 := cell_regrown b2
      have f3 := cell_regrown b3
      have f4 := cell_regrown b4
      have f5 := cell_regrown b5
      have f6 := cell_regrown b6
      have f7 := cell_regrown b7
      have f8 := cell_regrown b8
      clear a0 a1 a2 a3 a4 a5 a6 a7 a8 b0 b1 b2 b3 b4 b5 b6 b7 b8
      have kE := eqmat_r x wr
      go_wp2_with fail
      refine wp_region_quiet_below (by kernel_rfl) (by kernel_rfl) ?_
      repeat (go_big_quiet_step (with_reducible exact kE _ _))
      refine wpQuiet_nil ?_
      intro _ hw'
      obtain ⟨⟨dq, osq⟩, hw''⟩ := hw'
      subst hw''
      have hb2 := hbel.trans ((below_regrown wr dq osq).mono hbel.size)
      generalize grow (redrawn wr dq) osq = V at *
      clear e0 e1 e2 e3 e4 e5 e6 e7 e8 f0 f1 f2 f3 f4 f5 f6 f7 f8 kE
      go_wp2_with fail
      go_roundw
      case rel => exact ⟨k + 1, by omega, by go_num, hb2⟩
      case measure => simp [intOf]; omega
    · obtain rfl : k = L.length := by omega
      go_wp2_with fail
      go_ret
      exact ⟨rfl, hbel⟩

theorem szmats_ok (a : Option Addr) (l cap : Nat) (w : World) (hl : l ≤ 1048576) :
    Calls Tryz.prog 45 #[.slice a l cap, .int .i64 1048576] w fun e w' => e = .returned (.int .i64 (1048576 - (l : Int))) ∧ w = w' := by
  have h1 : IntKind.i64.wrap (1048576 - (l : Int)) = 1048576 - (l : Int) := IntWalk.i64_in _ (by omega)
  have h2 : ¬ (1048576 - (l : Int)) < 0 := by omega
  go_enter Tryz.func45, Tryz.ntmps45
  go_wp2_with fail
  go_ret
  exact ⟨rfl, rfl⟩
theorem szmats_no (a : Option Addr) (l cap : Nat) (w : World) (hl : 1048576 < l) (hl2 : l ≤ 9223372036854775807) :
    Calls Tryz.prog 45 #[.slice a l cap, .int .i64 1048576] w fun e w' => e = .returned (.int .i64 (-1)) ∧ w = w' := by
  have h1 : IntKind.i64.wrap (1048576 - (l : Int)) = 1048576 - (l : Int) := IntWalk.i64_in _ (by omega)
  have h2 : (1048576 - (l : Int)) < 0 := by omega
  have h3 : (1048576 : Int) < (l : Int) := by omega
  go_enter Tryz.func45, Tryz.ntmps45
  go_wp2_with fail
  go_ret
  exact ⟨rfl, rfl⟩
theorem szgrp_ok (p n : Int) (a : Option Addr) (l cap : Nat) (w : World) (hl : l ≤ 1048576) :
    Calls Tryz.prog 12 #[.agg #[.int .i64 p, .int .i64 n, .slice a l cap], .int .i64 1048576] w fun e w' => e = .returned (.int .i64 (1048576 - (l : Int))) ∧ Below w.heap.size w w' := by
  obtain ⟨W, hW, rW, hbW⟩ : ∃ W, W = w.alloc (.cells #[.int .i64 p, .int .i64 n, .slice a l cap] 24) ∧ W.rowIs w.heap.size 24 3 (grpF p n (.slice a l cap)) ∧ Below w.heap.size w W := ⟨_, rfl, gbox w p n _ _, ebox1 _ _⟩
  obtain ⟨g0, g1, g2⟩ := gcells rW
  have h2 : ¬ (1048576 - (l : Int)) < 0 := by omega
  go_enter Tryz.func12, Tryz.ntmps12
  go_wp2_with fail
  rw [← hW]
  clear hW
  go_wp2_with fail
  ((with_reducible refine (szmats_ok a l cap _ hl).mono ?_); rintro e w1 ⟨rfl, rfl⟩)
  go_wp2_with fail
  go_ret
  exact ⟨rfl, hbW⟩
theorem szgrp_no (p n : Int) (a : Option Addr) (l cap : Nat) (w : World) (hl : 1048576 < l) (hl2 : l ≤ 9223372036854775807) :
    Calls Tryz.prog 12 #[.agg #[.int .i64 p, .int .i64 n, .slice a l cap], .int .i64 1048576] w fun e w' => e = .returned (.int .i64 (-1)) ∧ Below w.heap.size w w' := by
  obtain ⟨W, hW, rW, hbW⟩ : ∃ W, W = w.alloc (.cells #[.int .i64 p, .int .i64 n, .slice a l cap] 24) ∧ W.rowIs w.heap.size 24 3 (grpF p n (.slice a l cap)) ∧ Below w.heap.size w W := ⟨_, rfl, gbox w p n _ _, ebox1 _ _⟩
  obtain ⟨g0, g1, g2⟩ := gcells rW
  go_enter Tryz.func12, Tryz.ntmps12
  go_wp2_with fail
  rw [← hW]
  clear hW
  go_wp2_with fail
  ((with_reducible refine (szmats_no a l cap _ hl hl2).mono ?_); rintro e w1 ⟨rfl, rfl⟩)
  go_wp2_with fail
  go_ret
  exact ⟨rfl, hbW⟩
set_option maxHeartbeats 2000000 in
theorem eqgrp (p n : Int) (v v' : Value) (L : List (Nat → Nat → Int)) (w : World) (hl : L.length ≤ 1048576) (hS : SlM w v L) (hS' : SlM w v' L) :
    Calls Tryz.prog 19 #[.agg #[.int .i64 p, .int .i64 n, v], .agg #[.int .i64 p, .int .i64 n, v']] w fun e w' => e = .returned (.bool true) ∧ Below w.heap.size w w' := by
  obtain ⟨W, hW, r1, r2, hbW⟩ : ∃ W, W = (w.alloc (.cells #[.int .i64 p, .int .i64 n, v] 35)).alloc (.cells #[.int .i64 p, .int .i64 n, v'] 35) ∧ W.rowIs w.heap.size 35 3 (grpF p n v) ∧ W.rowIs (w.heap.size + 1) 35 3 (grpF p n v') ∧ Below w.heap.size w W := by
    refine ⟨_, rfl, (gbox w p n v _).alloc _, ?_, ebox2 _ _ _⟩
    have := gbox (w.alloc (.cells #[.int .i64 p, .int .i64 n, v] 35)) p n v' 35
    rwa [World.size_alloc] at this
  have hSW := hS.below hbW
  have hSW' := hS'.below hbW
  obtain ⟨a, cap, rfl, _⟩ := id hS
  obtain ⟨a', cap', rfl, _⟩ := id hS'
  obtain ⟨g0, g1, g2⟩ := gcells r1
  obtain ⟨k0, k1, k2⟩ := gcells r2
  have hp : (p != p) = false := by simp
  have hn : (n != n) = false := by simp
  go_enter Tryz.func19, Tryz.ntmps19
  go_upto_region 1 with fail
  rw [← hW]
  clear hW
  go_wp2_with fail
  ((with_reducible refine (eqmats _ _ L _ hl hSW hSW').mono ?_); rintro e w1 ⟨rfl, hb1⟩)
  go_wp2_with fail
  go_ret
  exact ⟨rfl, hbW.trans (hb1.mono hbW.size)⟩
end Go.Proofs.YtllklhakbanhaaaGreat
namespace Go.Proofs.YtllklhakbanhaaaGreat
open Go.RowKit Go.Sort EchM

theorem gold_cells {W w1 : World} (hb : Below W.heap.size W w1) : (∀ b o, b < W.heap.size → w1.cell? ⟨b, o, none⟩ = W.cell? ⟨b, o, none⟩) ∧ (∀ b o, b < W.heap.size → w1.frozen? ⟨b, o, none⟩ = W.frozen? ⟨b, o, none⟩) :=
  ⟨fun b o h => hb.cell (p := ⟨b, o, none⟩) h, fun b o h => hb.frozen (p := ⟨b, o, none⟩) h⟩
set_option maxRecDepth 8000 in
set_option maxHeartbeats 4000000 in
theorem togrp (p n : Int) (v : Value) (L : List (Nat → Nat → Int)) (w : World) (hl : L.length ≤ 1048576) (hS : SlM w v L) :
    Calls Tryz.prog 15 #[.agg #[.int .i64 p, .int .i64 n, v]] w fun e w' => ∃ v', e = .returned (.agg #[.int .i64 p, .int .i64 n, v']) ∧ OwnM w' w.heap.size v' L ∧ Below w.heap.size w w' := by
  have hb3 : ∀ o1 o2 o3, Below w.heap.size w (((w.alloc o1).alloc o2).alloc o3) := fun o1 o2 o3 => (ebox2 _ _ _).alloc (by simp; omega) _
  have hS3 : ∀ o1 o2 o3, SlM (((w.alloc o1).alloc o2).alloc o3) v L := fun o1 o2 o3 => hS.below (hb3 _ _ _)
  obtain ⟨a, cap, hv, _⟩ := id hS
  subst hv
  go_enter Tryz.func15, Tryz.ntmps15
  go_wp2_with fail
  ((with_reducible refine (tomats _ L _ hl (hS3 _ _ _)).mono ?_); rintro e w1 ⟨v', rfl, hown, hb⟩)
  obtain ⟨hc, hf⟩ := gold_cells hb
  have hz : w.heap.size + 1 + 1 < w1.heap.size := by have := hb.size; simp at this; omega
  have hb0 := (hb3 _ _ _).trans (hb.mono (by simp; omega))
  obtain ⟨g, f, rfl, hg, hr, ht⟩ := hown
  simp only [World.size_alloc] at hg
  have HT := Lib.hid ht
  clear hb hS3 hb3 ht
  go_wp2_with fail
  exact bodyPost_ret (v := .agg #[.int .i64 p, .int .i64 n, .slice (some ⟨g, 0, none⟩) L.length L.length]) (by simp [results, Tryz.results15, go_sem, hc]) rfl ⟨_, rfl, ⟨g, f, rfl, by omega, by repeat (first | with_reducible exact hr | with_reducible refine World.rowIs.setOther ?_ (by simp; omega) _), HT.out⟩, by repeat (first | with_reducible exact hb0 | with_reducible refine Below.setCell ?_ (by simp; try omega) _)⟩
end Go.Proofs.YtllklhakbanhaaaGreat
