/-
  WALKS: 'spec.l01Put'. Conditions: as each theorem states.
-/
import Derived.Test.YtphgpadpffigjaaPu
import Derived.IntWalk
namespace Go.Proofs.Ytphgpadpffigjaa
open Go.RowKit Go.Sort

theorem rowIs_grown {w w' : World} {b n m base size : Nat} {t e : TypeId} {f : Nat → Value} {v : Value} {xs : List Value} (h : w.rowIs b t n f) (hg : w.grownBy w' v.ownBlock) (ho : w.ownsRow base e size v m xs) (hne : t ≠ e) : w'.rowIs b t n f := by
  refine h.of_block (hg.block b h.lt fun hb => ?_)
  obtain ⟨c, hc, _⟩ := h
  obtain ⟨_, ⟨rfl, _⟩ | ⟨g, cap, cur, rfl, _, hgc, _⟩⟩ := ho
  · simp [Value.ownBlock] at hb
  · simp [Value.ownBlock] at hb
    subst hb
    rw [hc] at hgc
    simp at hgc
    exact hne hgc.2

theorem owns_belowT {w w' : World} {base : Nat} {e : TypeId} {size : Nat} {v : Value} {n : Nat} {xs : List Value} (h : w.ownsRow base e size v n xs) (hb : Below w.heap.size w w') : w'.ownsRow base e size v n xs :=
  h.kept (row := none) ⟨hb.os, hb.tape, hb.output, hb.size, fun k hk _ => hb.block k hk⟩ (by cases v.ownBlock <;> simp)

theorem chain_at {p : Int} : ∀ (ts : List Tm) (e : Int × Int × Int), (∀ t ∈ ts, 0 ≤ t.2.2.2 ∧ t.2.2.2 < p) → 0 < p → 0 ≤ atL ts e ∧ atL ts e < p
  | [], e, _, hp => by simp [atL]; exact hp
  | t :: r, e, h, hp => by
    rw [atL]
    split
    · exact h t (by simp)
    · exact chain_at r e (fun x hx => h x (by simp [hx])) hp

theorem own_ne {w : World} {b n m base size : Nat} {t e : TypeId} {f : Nat → Value} {v : Value} {xs : List Value} (h : w.rowIs b t n f) (ho : w.ownsRow base e size v m xs) (hne : t ≠ e) : v.ownBlock = none ∨ v.ownBlock ≠ some b := by
  obtain ⟨c, hc, _⟩ := h
  obtain ⟨_, ⟨rfl, _⟩ | ⟨g, cap, cur, rfl, _, hgc, _⟩⟩ := ho
  · exact .inl rfl
  · refine .inr fun hb => ?_
    simp [Value.ownBlock] at hb
    subst hb
    rw [hc] at hgc
    simp at hgc
    exact hne hgc.2
/-- The cells of a polynomial value. -/
def polyF (p d : Int) (v : Value) (i : Nat) : Value := #[Value.int .i64 p, .int .i64 d, v].getD i undef
def expsF (x y z : Int) (i : Nat) : Value := #[Value.int .u8 x, .int .u8 y, .int .u8 z].getD i undef
/-- What stands in memory while a polynomial is built: its own three cells (block q), the rows of its terms, the boxes of the arguments. -/
structure Built (w wr : World) (base q : Nat) (p d : Int) (xv : Value) (ex ey ez : Int) (sv : Value) (O : List Tm) : Prop where
  rows : wr.ownsRow base 92 4 sv O.length (cells4 O)
  out : wr.rowIs q 36 3 (polyF p d sv)
  arg : wr.rowIs w.heap.size 36 3 (polyF p d xv)
  exps : wr.rowIs (w.heap.size + 1) 75 3 (expsF ex ey ez)
  res : wr.rowIs (w.heap.size + 2) 36 3 (polyF 0 0 (.slice none 0 0))
  below : Below w.heap.size w wr
  b1 : w.heap.size + 3 ≤ base
  b2 : base ≤ wr.heap.size
  b3 : w.heap.size + 3 ≤ q
theorem Built.later {w wr w1 : World} {base q : Nat} {p d : Int} {xv sv : Value} {ex ey ez : Int} {O : List Tm} (h : Built w wr base q p d xv ex ey ez sv O) (hb : Below wr.heap.size wr w1) : Built w w1 base q p d xv ex ey ez sv O :=
  ⟨owns_belowT h.rows hb, rowIs_below h.out hb h.out.lt, rowIs_below h.arg hb h.arg.lt, rowIs_below h.exps hb h.exps.lt, rowIs_below h.res hb h.res.lt, h.below.trans (hb.mono h.below.size), h.b1, Nat.le_trans h.b2 hb.size, h.b3⟩
theorem polyF_set (p d : Int) (v v' : Value) : (fun j => if j = 2 then v' else polyF p d v j) = fun j => if j < 3 then polyF p d v' j else (if j = 2 then v' else polyF p d v j) := by
  funext j
  match j with
  | 0 => rfl
  | 1 => rfl
  | 2 => rfl
  | j + 3 => simp; intro h; omega
theorem owns_slice {w : World} {base : Nat} {e : TypeId} {size : Nat} {v : Value} {n : Nat} {xs : List Value} (h : w.ownsRow base e size v n xs) : ∃ a c, v = .slice a n c := by
  obtain ⟨_, ⟨hv, hn⟩ | ⟨g, cap, cur, hv, _⟩⟩ := h
  · exact ⟨none, 0, by rw [hv, hn]⟩
  · exact ⟨_, _, hv⟩
theorem Below.same (w : World) : Below w.heap.size w w := ⟨rfl, rfl, rfl, Nat.le_refl _, fun _ _ => rfl⟩
/-- A box stays while another array is written. -/
theorem tbox {w2 w3 : World} {o : Obj} {row : Option Nat} {u q j : Nat} {v sv : Value} (hg : (w2.alloc o).grownBy w3 row) (hr : some u ≠ row) (hu : u < w2.heap.size) (hq : q ≠ u) (ht : w2.cell? ⟨u, j, none⟩ = some v) : (w3.setCell ⟨q, 2, none⟩ sv).cell? ⟨u, j, none⟩ = some v := by
  rw [World.cell?_of_block (w := w3) (a := ⟨u, j, none⟩) (Below.heap_setCell w3 ⟨q, 2, none⟩ sv u (fun e => hq e.symm))]
  rw [World.cell?_of_block (w := w2.alloc o) (a := ⟨u, j, none⟩) (hg.block u (by simp; omega) hr)]
  exact ((box1 w2 o).cell (p := ⟨u, j, none⟩) hu).trans ht
theorem putRun_step (e : Int × Int × Int) (v : Int) (done : Bool) (ts : List Tm) (k : Nat) (h : k < ts.length) :
    putRun e v done (ts.drop k) = (if !done && beforeB e (tmE ts[k]) then [mkT e v] else []) ++ ((if tmE ts[k] = e then [] else [ts[k]]) ++ putRun e v (done || beforeB e (tmE ts[k])) (ts.drop (k + 1))) := by
  rw [List.drop_eq_getElem_cons h]; rfl
/-- A term more: the append, and the field written. -/
theorem Built.more {w wr w1 w2 : World} {base q : Nat} {p d : Int} {xv sv sv' : Value} {ex ey ez : Int} {O : List Tm} {o : Obj} {t : Tm} (h : Built w wr base q p d xv ex ey ez sv O) (hb : Below wr.heap.size wr w1)
    (hg : (w1.alloc o).grownBy w2 sv.ownBlock) (ho : w2.ownsRow base 92 4 sv' (O.length + 1) (cells4 O ++ cell4 t)) : Built w (w2.setCell ⟨q, 2, none⟩ sv') base q p d xv ex ey ez sv' (O ++ [t]) := by
  have h1 := (h.later hb).later (box1 w1 o)
  have hn1 : 36 ≠ 92 := by decide
  have hn2 : 75 ≠ 92 := by decide
  have r1 := rowIs_grown h1.out hg h1.rows hn1
  have r2 := rowIs_grown h1.arg hg h1.rows hn1
  have r3 := rowIs_grown h1.exps hg h1.rows hn2
  have r4 := rowIs_grown h1.res hg h1.rows hn1
  have hq := h.b3
  have hbase := h.b1
  refine ⟨?_, ?_, r2.setOther (by simp; omega) _, r3.setOther (by simp; omega) _, r4.setOther (by simp; omega) _, ?_, h.b1, ?_, h.b3⟩
  · rw [cells4_snoc, show (O ++ [t]).length = O.length + 1 by simp]
    exact ho.kept (row := some q) ⟨rfl, rfl, rfl, by rw [World.size_setCell]; exact Nat.le_refl _, fun k hk hne => Below.heap_setCell w2 ⟨q, 2, none⟩ sv' k (fun e => hne (by rw [e]))⟩ (own_ne r1 ho hn1)
  · refine (r1.set 2 sv').congr fun i hi => ?_
    rw [congrFun (polyF_set p d sv sv') i, if_pos hi]
  · exact (h1.below.grown hg (Nat.le_trans (by omega) h1.b2) (fun k hk => Nat.le_trans (by omega) (h1.rows.lt k hk).1)).setCell (by simp; omega) _
  · rw [World.size_setCell]; exact Nat.le_trans h1.b2 hg.size

theorem Built.outG {w wr w1 w2 : World} {base q : Nat} {p d : Int} {xv sv : Value} {ex ey ez : Int} {O : List Tm} {o : Obj} (h : Built w wr base q p d xv ex ey ez sv O) (hb : Below wr.heap.size wr w1)
    (hg : (w1.alloc o).grownBy w2 sv.ownBlock) : w2.rowIs q 36 3 (polyF p d sv) :=
  rowIs_grown ((h.later hb).later (box1 w1 o)).out hg ((h.later hb).later (box1 w1 o)).rows (by decide)

theorem owns_low {w : World} {base base' : Nat} {e : TypeId} {size : Nat} {v : Value} {n : Nat} {xs : List Value} (h : w.ownsRow base e size v n xs) (hb : base' ≤ base) : w.ownsRow base' e size v n xs := by
  obtain ⟨h1, h2 | ⟨g, cap, cur, hv, hg, r⟩⟩ := h
  · exact ⟨h1, .inl h2⟩
  · exact ⟨h1, .inr ⟨g, cap, cur, hv, Nat.le_trans hb hg, r⟩⟩
/-- The result's box filled. -/
theorem Built.finish {w wr : World} {base q : Nat} {p d : Int} {xv sv : Value} {ex ey ez : Int} {O : List Tm} (h : Built w wr base q p d xv ex ey ez sv O) :
    (((wr.setCell ⟨w.heap.size + 1 + 1, 0, none⟩ (.int .i64 p)).setCell ⟨w.heap.size + 1 + 1, 1, none⟩ (.int .i64 d)).setCell ⟨w.heap.size + 1 + 1, 2, none⟩ sv).cell? ⟨w.heap.size + 1 + 1, 0, none⟩ = some (.int .i64 p) ∧
    (((wr.setCell ⟨w.heap.size + 1 + 1, 0, none⟩ (.int .i64 p)).setCell ⟨w.heap.size + 1 + 1, 1, none⟩ (.int .i64 d)).setCell ⟨w.heap.size + 1 + 1, 2, none⟩ sv).cell? ⟨w.heap.size + 1 + 1, 1, none⟩ = some (.int .i64 d) ∧
    (((wr.setCell ⟨w.heap.size + 1 + 1, 0, none⟩ (.int .i64 p)).setCell ⟨w.heap.size + 1 + 1, 1, none⟩ (.int .i64 d)).setCell ⟨w.heap.size + 1 + 1, 2, none⟩ sv).cell? ⟨w.heap.size + 1 + 1, 2, none⟩ = some sv ∧
    (((wr.setCell ⟨w.heap.size + 1 + 1, 0, none⟩ (.int .i64 p)).setCell ⟨w.heap.size + 1 + 1, 1, none⟩ (.int .i64 d)).setCell ⟨w.heap.size + 1 + 1, 2, none⟩ sv).ownsRow w.heap.size 92 4 sv O.length (cells4 O) ∧
    Below w.heap.size w (((wr.setCell ⟨w.heap.size + 1 + 1, 0, none⟩ (.int .i64 p)).setCell ⟨w.heap.size + 1 + 1, 1, none⟩ (.int .i64 d)).setCell ⟨w.heap.size + 1 + 1, 2, none⟩ sv) := by
  have r := ((h.res.set 0 (.int .i64 p)).set 1 (.int .i64 d)).set 2 sv
  have hb1 := h.b1
  refine ⟨r.cell (i := 0) (by omega), r.cell (i := 1) (by omega), r.cell (i := 2) (by omega), ?_, ((h.below.setCell (by simp; omega) _).setCell (by simp; omega) _).setCell (by simp; omega) _⟩
  refine owns_low (h.rows.kept (row := some (w.heap.size + 2)) ⟨rfl, rfl, rfl, by simp only [World.size_setCell]; exact Nat.le_refl _, fun k hk hne => ?_⟩ (own_ne h.res h.rows (by decide))) (by omega)
  have hk : k ≠ w.heap.size + 1 + 1 := fun e => hne (by rw [e])
  exact (Below.heap_setCell _ ⟨w.heap.size + 1 + 1, 2, none⟩ sv k hk).trans ((Below.heap_setCell _ ⟨w.heap.size + 1 + 1, 1, none⟩ _ k hk).trans (Below.heap_setCell _ ⟨w.heap.size + 1 + 1, 0, none⟩ _ k hk))

set_option maxRecDepth 8000 in
set_option maxHeartbeats 4000000 in
theorem specPut_sl (p d : Int) (a : Option Addr) (cap : Nat) (ts : List Tm) (x y z val : Int) (w : World) (hl : ts.length ≤ 1048576) (hS : SliceT w (.slice a ts.length cap) ts) (hby : ∀ t ∈ ts, tmByte t)
    (h2 : 2 ≤ p) (h13 : p ≤ 13) (hv : ∀ t ∈ ts, 0 ≤ t.2.2.2 ∧ t.2.2.2 < p) (hx : 0 ≤ x ∧ x ≤ 255) (hy : 0 ≤ y ∧ y ≤ 255) (hz : 0 ≤ z ∧ z ≤ 255) (v0 : 0 ≤ val) (v1 : val ≤ 100000000) :
    Calls Try.prog 55 #[.agg #[.int .i64 p, .int .i64 d, .slice a ts.length cap], .agg #[.int .u8 x, .int .u8 y, .int .u8 z], .int .i64 val] w fun e w' =>
      ∃ v', e = .returned (.agg #[.int .i64 p, .int .i64 d, v']) ∧ w'.ownsRow w.heap.size 92 4 v' (putL p ts (x, y, z) val).length (cells4 (putL p ts (x, y, z) val)) ∧ Below w.heap.size w w' := by
  obtain ⟨i0, hi, hz0, hz1, hz2⟩ := info_parts infoTerm
  have hat := chain_at ts (x, y, z) hv (by omega)
  obtain ⟨W, hW, hbW, ⟨hWs1, hWs2⟩, rx, re, rr⟩ : ∃ W, W = ((w.alloc (.cells #[.int .i64 p, .int .i64 d, .slice a ts.length cap] 36)).alloc (.cells #[.int .u8 x, .int .u8 y, .int .u8 z] 75)).alloc (.cells #[.int .i64 0, .int .i64 0, .slice none 0 0] 36) ∧ Below w.heap.size w W ∧ (W.heap.size ≤ w.heap.size + 3 ∧ w.heap.size + 3 ≤ W.heap.size) ∧
      W.rowIs w.heap.size 36 3 (polyF p d (.slice a ts.length cap)) ∧
      W.rowIs (w.heap.size + 1) 75 3 (expsF x y z) ∧
      W.rowIs (w.heap.size + 2) 36 3 (polyF 0 0 (.slice none 0 0)) := by
    refine ⟨_, rfl, box3 _ _ _ _, ⟨by simp, by simp⟩, ?_, ?_, ?_⟩
    · refine World.rowIs.alloc (World.rowIs.alloc (World.rowIs_alloc w #[Value.int .i64 p, .int .i64 d, .slice a ts.length cap] _ _ (fun i hi => ?_)) _) _
      simp at hi; match i, hi with | 0, _ => rfl | 1, _ => rfl | 2, _ => rfl
    · have := World.rowIs_alloc (w.alloc (.cells #[.int .i64 p, .int .i64 d, .slice a ts.length cap] 36)) #[Value.int .u8 x, .int .u8 y, .int .u8 z] 75 (expsF x y z) (fun i hi => by simp at hi; match i, hi with | 0, _ => rfl | 1, _ => rfl | 2, _ => rfl)
      simpa using this.alloc _
    · have := World.rowIs_alloc ((w.alloc (.cells #[.int .i64 p, .int .i64 d, .slice a ts.length cap] 36)).alloc (.cells #[.int .u8 x, .int .u8 y, .int .u8 z] 75)) #[Value.int .i64 0, .int .i64 0, .slice none 0 0] 36 (polyF 0 0 (.slice none 0 0)) (fun i hi => by simp at hi; match i, hi with | 0, _ => rfl | 1, _ => rfl | 2, _ => rfl)
      simpa using this
  have hSW := hS.below hbW
  have c0 := rx.cell (i := 0) (by omega)
  have c1 := rx.cell (i := 1) (by omega)
  simp [polyF] at c0 c1
  go_enter Try.func55, Try.ntmps55
  go_wp2_with fail
  rw [← hW]
  ((with_reducible refine (empty_any p d W).mono ?_); rintro e w1 ⟨rfl, hown, hb1⟩)
  clear hW c0 c1
  obtain ⟨V, hV, hbV, ⟨hVs1, hVs2⟩, rq⟩ : ∃ V, V = w1.alloc (.cells #[.int .i64 p, .int .i64 d, .slice (some ⟨W.heap.size + 1, 0, none⟩) 0 0] 36) ∧ Below w1.heap.size w1 V ∧ (V.heap.size ≤ w1.heap.size + 1 ∧ w1.heap.size + 1 ≤ V.heap.size) ∧
      V.rowIs w1.heap.size 36 3 (polyF p d (.slice (some ⟨W.heap.size + 1, 0, none⟩) 0 0)) := by
    refine ⟨_, rfl, box1 _ _, ⟨by simp, by simp⟩, ?_⟩
    exact World.rowIs_alloc w1 #[Value.int .i64 p, .int .i64 d, .slice (some ⟨W.heap.size + 1, 0, none⟩) 0 0] _ _ (fun i hi => by simp at hi; match i, hi with | 0, _ => rfl | 1, _ => rfl | 2, _ => rfl)
  have hbWV := hb1.trans (hbV.mono hb1.size)
  have s1 := hb1.size
  have rx1 := rowIs_below rx hbWV (by omega)
  have re1 := rowIs_below re hbWV (by omega)
  have rr1 := rowIs_below rr hbWV (by omega)
  have own1 := owns_belowT hown hbV
  have hSV := hSW.below hbWV
  have hb0V := hbW.trans (hbWV.mono (by omega))
  have k0 := cell_regrown (rx1.cell (i := 0) (by omega))
  have k1 := cell_regrown (rx1.cell (i := 1) (by omega))
  have k2 := cell_regrown (rx1.cell (i := 2) (by omega))
  have l0 := cell_regrown (re1.cell (i := 0) (by omega))
  have l1 := cell_regrown (re1.cell (i := 1) (by omega))
  have l2 := cell_regrown (re1.cell (i := 2) (by omega))
  simp [polyF, expsF] at k0 k1 k2 l0 l1 l2
  have cA : ∀ dd os, Calls Try.prog 100 #[.agg #[.int .i64 p, .int .i64 d, .slice a ts.length cap], .agg #[.int .u8 x, .int .u8 y, .int .u8 z]] (grow (redrawn V dd) os) fun e w'' => e = .returned (.int .i64 (atL ts (x, y, z))) ∧ ∃ q : Regrown, w'' = grow (redrawn V q.d) q.os :=
    fun dd os => Calls.regrown_of (at_any p d _ ts x y z _ hl (hSV.below (below_regrown V dd os)))
  obtain ⟨a0, a1⟩ := hat
  have HTOT := Lib.hid (show putL p ts (x, y, z) val = putRun (x, y, z) ((val + atL ts (x, y, z)) % p) ((val + atL ts (x, y, z)) % p == 0) ts from rfl)
  generalize atL ts (x, y, z) = A at *
  have hw1 : IntKind.i64.wrap (val + A) = val + A := IntWalk.i64_in _ (by omega)
  have cM : ∀ dd os, Calls Try.prog 99 #[.int .i64 p, .int .i64 (val + A)] (grow (redrawn V dd) os) fun e w'' => e = .returned (.int .i64 ((val + A) % p)) ∧ ∃ q : Regrown, w'' = grow (redrawn V q.d) q.os :=
    fun dd os => regrown_same (mod_any p (val + A) _ h2 h13 (by omega) (by omega))
  go_wp2
  rw [← hV]
  clear hV
  refine wp_region_quiet_below (by kernel_rfl) (by kernel_rfl) ?_
  repeat (go_big_quiet_step (first | with_reducible exact cA _ _ | with_reducible exact cM _ _))
  refine wpQuiet_nil ?_
  intro _ hw'
  obtain ⟨⟨dq, osq⟩, hw''⟩ := hw'
  subst hw''
  obtain ⟨U, hU, hbU⟩ : ∃ U, grow (redrawn V dq) osq = U ∧ Below V.heap.size V U := ⟨_, rfl, below_regrown _ _ _⟩
  rw [hU]
  clear hU cA cM k0 k1 k2 l0 l1 l2
  have hst : Built w U W.heap.size w1.heap.size p d (.slice a ts.length cap) x y z (.slice (some ⟨W.heap.size + 1, 0, none⟩) 0 0) [] :=
    ⟨owns_belowT own1 hbU, rowIs_below rq hbU rq.lt, rowIs_below rx1 hbU rx1.lt, rowIs_below re1 hbU re1.lt, rowIs_below rr1 hbU rr1.lt, hb0V.trans (hbU.mono hb0V.size), by omega, by have := hbU.size; omega, by omega⟩
  clear own1 rq rx1 re1 rr1 hown rx re rr hSW hSV
  go_wp2
  go_loopw [8, 9] (fun dn i wr => ∃ (k : Nat) (done : Bool) (sv : Value) (O : List Tm), k ≤ ts.length ∧ i = .int .i64 k ∧ dn = .bool done ∧ Hid (putL p ts (x, y, z) val = O ++ putRun (x, y, z) ((val + A) % p) done (ts.drop k)) ∧ O.length ≤ 2 * k ∧
      Built w wr W.heap.size w1.heap.size p d (.slice a ts.length cap) x y z sv O) (fun _ i _ => ts.length - (intOf i).toNat)
  case atStart => exact ⟨0, _, _, [], by omega, rfl, rfl, Lib.hid (by rw [HTOT.out]; rfl), by simp, hst⟩
  case round =>
    obtain ⟨k, done, sv, O, hk, rfl, rfl, HT, hO, hB⟩ := hrel
    have hSr := hS.below hB.below
    have m0 := hB.arg.cell (i := 0) (by omega)
    have m1 := hB.arg.cell (i := 1) (by omega)
    have m2 := hB.arg.cell (i := 2) (by omega)
    have n0 := hB.exps.cell (i := 0) (by omega)
    have n1 := hB.exps.cell (i := 1) (by omega)
    have n2 := hB.exps.cell (i := 2) (by omega)
    simp [polyF, expsF] at m0 m1 m2 n0 n1 n2
    by_cases hlt1 : k < ts.length
    · have hlt' : (k : Int) < (ts.length : Int) := by omega
      obtain ⟨a', cap', hv', hcase⟩ := hSr
      simp at hv'
      obtain ⟨rfl, rfl⟩ := hv'
      rcases hcase with h0 | ⟨b, off, rfl, hltb, hTr⟩
      · rw [h0] at hlt1; exact absurd hlt1 (by simp)
      obtain ⟨c0, c1, c2, c3⟩ := hTr k hlt1
      obtain ⟨⟨bx, by1, bz⟩, _, _⟩ := hby ts[k] (List.getElem_mem _)
      have hsz1 := hB.b1
      have hsz2 := hB.b2
      have hsz3 := hB.b3
      have f0 : ∀ o, (wr.alloc o).cell? ⟨w.heap.size + 1, 0, none⟩ = some (.int .u8 x) := fun o => ((box1 wr o).cell (by simp; omega)).trans n0
      have f1 : ∀ o, (wr.alloc o).cell? ⟨w.heap.size + 1, 1, none⟩ = some (.int .u8 y) := fun o => ((box1 wr o).cell (by simp; omega)).trans n1
      have f2 : ∀ o, (wr.alloc o).cell? ⟨w.heap.size + 1, 2, none⟩ = some (.int .u8 z) := fun o => ((box1 wr o).cell (by simp; omega)).trans n2
      have j0 : ∀ o, (wr.alloc o).cell? ⟨w1.heap.size, 2, none⟩ = some sv := fun o => ((box1 wr o).cell hB.out.lt).trans (hB.out.cell (i := 2) (by omega))
      have hEq := arr3_eq ts[k].1 ts[k].2.1 ts[k].2.2.1 x y z
      have hG : Try.prog.eqGuardType Try.prog.depth 75 = false := by kernel_rfl
      obtain ⟨sa, sc, rfl⟩ := owns_slice hB.rows
      have hrow := hB.rows.lt
      have j0 : ∀ o, (wr.alloc o).cell? ⟨w1.heap.size, 2, none⟩ = some (.slice sa O.length sc) := fun o => ((box1 wr o).cell hB.out.lt).trans (hB.out.cell (i := 2) (by omega))
      have hEq := arr3_eq ts[k].1 ts[k].2.1 ts[k].2.2.1 x y z
      have hG : Try.prog.eqGuardType Try.prog.depth 75 = false := by kernel_rfl
      have hbb : ∀ o, Below wr.heap.size wr (wr.alloc o) := fun o => box1 wr o
      have HS := Lib.hid (putRun_step (x, y, z) ((val + A) % p) done ts k hlt1)
      cases done
      · go_wp2_with fail
        ((with_reducible refine (before_any _ _ _ _ _ _ _ hx hy hz bx by1 bz).mono ?_); rintro e w2 ⟨rfl, hbw⟩)
        have hbw' : Below wr.heap.size wr w2 := (hbb _).trans (hbw.mono (by simp))
        have t0 : w2.cell? ⟨wr.heap.size, 0, none⟩ = some (.int .u8 ts[k].1) := (hbw.cell (by simp)).trans (by simp [World.cell?_alloc_at])
        have t1 : w2.cell? ⟨wr.heap.size, 1, none⟩ = some (.int .u8 ts[k].2.1) := (hbw.cell (by simp)).trans (by simp [World.cell?_alloc_at])
        have t2 : w2.cell? ⟨wr.heap.size, 2, none⟩ = some (.int .u8 ts[k].2.2.1) := (hbw.cell (by simp)).trans (by simp [World.cell?_alloc_at])
        have t3 : w2.cell? ⟨wr.heap.size, 3, none⟩ = some (.int .i64 ts[k].2.2.2) := (hbw.cell (by simp)).trans (by simp [World.cell?_alloc_at])
        have e0 : w2.cell? ⟨w.heap.size + 1, 0, none⟩ = some (.int .u8 x) := (hB.later hbw').exps.cell (i := 0) (by omega)
        have e1 : w2.cell? ⟨w.heap.size + 1, 1, none⟩ = some (.int .u8 y) := (hB.later hbw').exps.cell (i := 1) (by omega)
        have e2 : w2.cell? ⟨w.heap.size + 1, 2, none⟩ = some (.int .u8 z) := (hB.later hbw').exps.cell (i := 2) (by omega)
        have q2 : w2.cell? ⟨w1.heap.size, 2, none⟩ = some (.slice sa O.length sc) := (hB.later hbw').out.cell (i := 2) (by omega)
        have hss := hbw.size
        simp only [World.size_alloc] at hss
        have htm : tmE ts[k] = (ts[k].1, ts[k].2.1, ts[k].2.2.1) := rfl
        rw [htm] at HS
        generalize hBf : beforeB (x, y, z) (ts[k].1, ts[k].2.1, ts[k].2.2.1) = B at *
        cases B
        · cases hQ : (ts[k].1 == x && (ts[k].2.1 == y && ts[k].2.2.1 == z))
          · have hne : ¬ (ts[k].1, ts[k].2.1, ts[k].2.2.1) = (x, y, z) := fun h => by simp at h; simp [h] at hQ
            have HT' : Hid (putL p ts (x, y, z) val = (O ++ [ts[k]]) ++ putRun (x, y, z) ((val + A) % p) false (ts.drop (k + 1))) := Lib.hid (by rw [HT.out, HS.out, if_neg hne]; simp)
            have HQ3 : ((!ts[k].1 == x) || ((!ts[k].2.1 == y) || (!ts[k].2.2.1 == z))) = true := by rw [← Bool.not_and, ← Bool.not_and, hQ]; rfl
            rw [hQ] at hEq
            clear hQ hBf hne HS htm
            go_wp2_with (at_builtin; refine wpList_append_own _ rfl _ _ 34 rfl W.heap.size 92 i0 _ 4 16 Try.underlying34 hi hz0 hz1 hz2 rfl (by decide) _ _ _ rfl ((hB.later hbw').later (box1 _ _)).rows ⟨w2.heap.size, 0, none⟩ 1 1 (cell4 ts[k]) rfl rfl ?d1 ?d2 ?d3 ?d4 ?d5 ?_)
            case d1 =>
              intro j u hj
              match j, hj with
              | 0, hj => simp [cell4] at hj; subst hj; simp [World.cell?_alloc_at, Addr.add]
              | 1, hj => simp [cell4] at hj; subst hj; simp [World.cell?_alloc_at, Addr.add]
              | 2, hj => simp [cell4] at hj; subst hj; simp [World.cell?_alloc_at, Addr.add]
              | 3, hj => simp [cell4] at hj; subst hj; simp [World.cell?_alloc_at, Addr.add]
            case d2 => intro u hu; simp [cell4] at hu; rcases hu with rfl | rfl | rfl | rfl <;> rfl
            case d3 => unfold maxLen; omega
            case d4 => omega
            case d5 => have := hB.b2; have := Below.size hbw'; simp only [World.size_alloc] at *; omega
            intro sv3 w3 hown3 hgrow3 _
            obtain ⟨sa3, sc3, rfl⟩ := owns_slice hown3
            have hB3 := hB.more hbw' hgrow3 (t := ts[k]) (by simpa using hown3)
            have hfz3 := (hB.outG hbw' hgrow3).frozen 2
            have hcl3 : w3.cell? ⟨w1.heap.size, 2, none⟩ = some (.slice sa O.length sc) := (hB.outG hbw' hgrow3).cell (i := 2) (by omega)
            have r30 : (w3.setCell ⟨w1.heap.size, 2, none⟩ (.slice sa3 (O.length + 1) sc3)).cell? ⟨w.heap.size + 1 + 1, 0, none⟩ = some (.int .i64 0) := hB3.res.cell (i := 0) (by omega)
            have r31 : (w3.setCell ⟨w1.heap.size, 2, none⟩ (.slice sa3 (O.length + 1) sc3)).cell? ⟨w.heap.size + 1 + 1, 1, none⟩ = some (.int .i64 0) := hB3.res.cell (i := 1) (by omega)
            have r32 : (w3.setCell ⟨w1.heap.size, 2, none⟩ (.slice sa3 (O.length + 1) sc3)).cell? ⟨w.heap.size + 1 + 1, 2, none⟩ = some (.slice none 0 0) := hB3.res.cell (i := 2) (by omega)
            have z30 := hB3.res.frozen 0
            have z31 := hB3.res.frozen 1
            have z32 := hB3.res.frozen 2
            have o30 : (w3.setCell ⟨w1.heap.size, 2, none⟩ (.slice sa3 (O.length + 1) sc3)).cell? ⟨w1.heap.size, 0, none⟩ = some (.int .i64 p) := hB3.out.cell (i := 0) (by omega)
            have o31 : (w3.setCell ⟨w1.heap.size, 2, none⟩ (.slice sa3 (O.length + 1) sc3)).cell? ⟨w1.heap.size, 1, none⟩ = some (.int .i64 d) := hB3.out.cell (i := 1) (by omega)
            have o32 : (w3.setCell ⟨w1.heap.size, 2, none⟩ (.slice sa3 (O.length + 1) sc3)).cell? ⟨w1.heap.size, 2, none⟩ = some (.slice sa3 (O.length + 1) sc3) := hB3.out.cell (i := 2) (by omega)
            clear hown3 hgrow3 hB hEq j0 f0 f1 f2 hrow
            go_wp2_with fail
            go_roundw
            case rel => exact ⟨k + 1, false, _, _, by omega, by go_num, rfl, HT', by simp; omega, hB3⟩
            case measure => simp [intOf]; omega
          · have he : (ts[k].1, ts[k].2.1, ts[k].2.2.1) = (x, y, z) := by simp at hQ; simp [hQ]
            have HT' : Hid (putL p ts (x, y, z) val = O ++ putRun (x, y, z) ((val + A) % p) false (ts.drop (k + 1))) := Lib.hid (by rw [HT.out, HS.out, if_pos he]; simp)
            have E1 : (ts[k].1 == x) = true := by simp at hQ; simp [hQ]
            have E2 : (ts[k].2.1 == y) = true := by simp at hQ; simp [hQ]
            have E3 : (ts[k].2.2.1 == z) = true := by simp at hQ; simp [hQ]
            rw [hQ] at hEq
            clear hQ hBf he HS htm
            go_wp2_with fail
            go_roundw
            case rel => exact ⟨k + 1, false, _, _, by omega, by go_num, rfl, HT', by omega, hB.later hbw'⟩
            case measure => simp [intOf]; omega
        · have hne : ¬ (ts[k].1, ts[k].2.1, ts[k].2.2.1) = (x, y, z) := fun h => by rw [h, before_irrefl] at hBf; exact absurd hBf (by simp)
          have hQ : (ts[k].1 == x && (ts[k].2.1 == y && ts[k].2.2.1 == z)) = false := by
            cases hQ : (ts[k].1 == x && (ts[k].2.1 == y && ts[k].2.2.1 == z))
            · rfl
            · exact absurd (by simp at hQ; simp [hQ]) hne
          have HT' : Hid (putL p ts (x, y, z) val = ((O ++ [mkT (x, y, z) ((val + A) % p)]) ++ [ts[k]]) ++ putRun (x, y, z) ((val + A) % p) true (ts.drop (k + 1))) := Lib.hid (by rw [HT.out, HS.out, if_neg hne]; simp)
          have HQ3 : ((!ts[k].1 == x) || ((!ts[k].2.1 == y) || (!ts[k].2.2.1 == z))) = true := by rw [← Bool.not_and, ← Bool.not_and, hQ]; rfl
          rw [hQ] at hEq
          clear hQ hBf hne HS htm
          go_wp2_with (at_builtin; refine wpList_append_own _ rfl _ _ 34 rfl W.heap.size 92 i0 _ 4 16 Try.underlying34 hi hz0 hz1 hz2 rfl (by decide) _ _ _ rfl ((hB.later hbw').later (box1 _ _)).rows ⟨w2.heap.size, 0, none⟩ 1 1 (cell4 (mkT (x, y, z) ((val + A) % p))) rfl rfl ?d1 ?d2 ?d3 ?d4 ?d5 ?_)
          case d1 =>
            intro j u hj
            match j, hj with
            | 0, hj => simp [cell4, mkT] at hj; subst hj; simp [World.cell?_alloc_at, Addr.add]
            | 1, hj => simp [cell4, mkT] at hj; subst hj; simp [World.cell?_alloc_at, Addr.add]
            | 2, hj => simp [cell4, mkT] at hj; subst hj; simp [World.cell?_alloc_at, Addr.add]
            | 3, hj => simp [cell4, mkT] at hj; subst hj; simp [World.cell?_alloc_at, Addr.add]
          case d2 => intro u hu; simp [cell4] at hu; rcases hu with rfl | rfl | rfl | rfl <;> rfl
          case d3 => unfold maxLen; omega
          case d4 => omega
          case d5 => have := hB.b2; have := Below.size hbw'; simp only [World.size_alloc] at *; omega
          intro sv3 w3 hown3 hgrow3 _
          obtain ⟨sa3, sc3, rfl⟩ := owns_slice hown3
          have hB3 := hB.more hbw' hgrow3 (t := (mkT (x, y, z) ((val + A) % p))) (by simpa using hown3)
          have hfz3 := (hB.outG hbw' hgrow3).frozen 2
          have hcl3 : w3.cell? ⟨w1.heap.size, 2, none⟩ = some (.slice sa O.length sc) := (hB.outG hbw' hgrow3).cell (i := 2) (by omega)
          have r30 : (w3.setCell ⟨w1.heap.size, 2, none⟩ (.slice sa3 (O.length + 1) sc3)).cell? ⟨w.heap.size + 1 + 1, 0, none⟩ = some (.int .i64 0) := hB3.res.cell (i := 0) (by omega)
          have r31 : (w3.setCell ⟨w1.heap.size, 2, none⟩ (.slice sa3 (O.length + 1) sc3)).cell? ⟨w.heap.size + 1 + 1, 1, none⟩ = some (.int .i64 0) := hB3.res.cell (i := 1) (by omega)
          have r32 : (w3.setCell ⟨w1.heap.size, 2, none⟩ (.slice sa3 (O.length + 1) sc3)).cell? ⟨w.heap.size + 1 + 1, 2, none⟩ = some (.slice none 0 0) := hB3.res.cell (i := 2) (by omega)
          have z30 := hB3.res.frozen 0
          have z31 := hB3.res.frozen 1
          have z32 := hB3.res.frozen 2
          have o30 : (w3.setCell ⟨w1.heap.size, 2, none⟩ (.slice sa3 (O.length + 1) sc3)).cell? ⟨w1.heap.size, 0, none⟩ = some (.int .i64 p) := hB3.out.cell (i := 0) (by omega)
          have o31 : (w3.setCell ⟨w1.heap.size, 2, none⟩ (.slice sa3 (O.length + 1) sc3)).cell? ⟨w1.heap.size, 1, none⟩ = some (.int .i64 d) := hB3.out.cell (i := 1) (by omega)
          have o32 : (w3.setCell ⟨w1.heap.size, 2, none⟩ (.slice sa3 (O.length + 1) sc3)).cell? ⟨w1.heap.size, 2, none⟩ = some (.slice sa3 (O.length + 1) sc3) := hB3.out.cell (i := 2) (by omega)
          have hnb : ∀ u : Nat, wr.heap.size ≤ u → some u ≠ (Value.slice sa O.length sc).ownBlock := fun u hu he => by have := (hrow u he.symm).2; omega
          have hsw := hgrow3.size
          simp only [World.size_alloc] at hsw
          have g0 : (w3.setCell ⟨w1.heap.size, 2, none⟩ (.slice sa3 (O.length + 1) sc3)).cell? ⟨wr.heap.size, 0, none⟩ = some (.int .u8 ts[k].1) := tbox hgrow3 (hnb _ (Nat.le_refl _)) (by omega) (Nat.ne_of_lt hB.out.lt) t0
          have g1 : (w3.setCell ⟨w1.heap.size, 2, none⟩ (.slice sa3 (O.length + 1) sc3)).cell? ⟨wr.heap.size, 1, none⟩ = some (.int .u8 ts[k].2.1) := tbox hgrow3 (hnb _ (Nat.le_refl _)) (by omega) (Nat.ne_of_lt hB.out.lt) t1
          have g2 : (w3.setCell ⟨w1.heap.size, 2, none⟩ (.slice sa3 (O.length + 1) sc3)).cell? ⟨wr.heap.size, 2, none⟩ = some (.int .u8 ts[k].2.2.1) := tbox hgrow3 (hnb _ (Nat.le_refl _)) (by omega) (Nat.ne_of_lt hB.out.lt) t2
          have g3 : (w3.setCell ⟨w1.heap.size, 2, none⟩ (.slice sa3 (O.length + 1) sc3)).cell? ⟨wr.heap.size, 3, none⟩ = some (.int .i64 ts[k].2.2.2) := tbox hgrow3 (hnb _ (Nat.le_refl _)) (by omega) (Nat.ne_of_lt hB.out.lt) t3
          have x0 : (w3.setCell ⟨w1.heap.size, 2, none⟩ (.slice sa3 (O.length + 1) sc3)).cell? ⟨w.heap.size + 1, 0, none⟩ = some (.int .u8 x) := hB3.exps.cell (i := 0) (by omega)
          have x1 : (w3.setCell ⟨w1.heap.size, 2, none⟩ (.slice sa3 (O.length + 1) sc3)).cell? ⟨w.heap.size + 1, 1, none⟩ = some (.int .u8 y) := hB3.exps.cell (i := 1) (by omega)
          have x2 : (w3.setCell ⟨w1.heap.size, 2, none⟩ (.slice sa3 (O.length + 1) sc3)).cell? ⟨w.heap.size + 1, 2, none⟩ = some (.int .u8 z) := hB3.exps.cell (i := 2) (by omega)
          have hrf := Below.same (w3.setCell ⟨w1.heap.size, 2, none⟩ (.slice sa3 (O.length + 1) sc3))
          have hln : (O ++ [mkT (x, y, z) ((val + A) % p)]).length = O.length + 1 := by simp
          clear hown3 hgrow3 hB j0 f0 f1 f2 hrow hnb t0 t1 t2 t3 e0 e1 e2 q2
          generalize hOO : O ++ [mkT (x, y, z) ((val + A) % p)] = OO at *
          go_wp2_with (at_builtin; refine wpList_append_own _ rfl _ _ 34 rfl W.heap.size 92 i0 _ 4 16 Try.underlying34 hi hz0 hz1 hz2 rfl (by decide) _ _ _ rfl ((hB3.later hrf).later (box1 _ _)).rows ⟨w3.heap.size, 0, none⟩ 1 1 (cell4 ts[k]) rfl rfl ?e1 ?e2 ?e3 ?e4 ?e5 ?_)
          case e1 =>
            intro j u hj
            match j, hj with
            | 0, hj => simp [cell4] at hj; subst hj; simp [World.cell?_alloc_at, Addr.add, World.size_setCell]
            | 1, hj => simp [cell4] at hj; subst hj; simp [World.cell?_alloc_at, Addr.add, World.size_setCell]
            | 2, hj => simp [cell4] at hj; subst hj; simp [World.cell?_alloc_at, Addr.add, World.size_setCell]
            | 3, hj => simp [cell4] at hj; subst hj; simp [World.cell?_alloc_at, Addr.add, World.size_setCell]
          case e2 => intro u hu; simp [cell4] at hu; rcases hu with rfl | rfl | rfl | rfl <;> rfl
          case e3 => unfold maxLen; omega
          case e4 => omega
          case e5 => have := hB3.b2; have := Below.size hrf; simp only [World.size_alloc, World.size_setCell] at *; omega
          intro sv4 w4 hown4 hgrow4 _
          obtain ⟨sa4, sc4, rfl⟩ := owns_slice hown4
          have hB4 := hB3.more hrf hgrow4 (t := ts[k]) (by rw [hln]; simpa using hown4)
          have hfz4 := (hB3.outG hrf hgrow4).frozen 2
          have hcl4 : w4.cell? ⟨w1.heap.size, 2, none⟩ = some (.slice sa3 (O.length + 1) sc3) := (hB3.outG hrf hgrow4).cell (i := 2) (by omega)
          have r40 : (w4.setCell ⟨w1.heap.size, 2, none⟩ (.slice sa4 ((O.length + 1) + 1) sc4)).cell? ⟨w.heap.size + 1 + 1, 0, none⟩ = some (.int .i64 0) := hB4.res.cell (i := 0) (by omega)
          have r41 : (w4.setCell ⟨w1.heap.size, 2, none⟩ (.slice sa4 ((O.length + 1) + 1) sc4)).cell? ⟨w.heap.size + 1 + 1, 1, none⟩ = some (.int .i64 0) := hB4.res.cell (i := 1) (by omega)
          have r42 : (w4.setCell ⟨w1.heap.size, 2, none⟩ (.slice sa4 ((O.length + 1) + 1) sc4)).cell? ⟨w.heap.size + 1 + 1, 2, none⟩ = some (.slice none 0 0) := hB4.res.cell (i := 2) (by omega)
          have z40 := hB4.res.frozen 0
          have z41 := hB4.res.frozen 1
          have z42 := hB4.res.frozen 2
          have o40 : (w4.setCell ⟨w1.heap.size, 2, none⟩ (.slice sa4 ((O.length + 1) + 1) sc4)).cell? ⟨w1.heap.size, 0, none⟩ = some (.int .i64 p) := hB4.out.cell (i := 0) (by omega)
          have o41 : (w4.setCell ⟨w1.heap.size, 2, none⟩ (.slice sa4 ((O.length + 1) + 1) sc4)).cell? ⟨w1.heap.size, 1, none⟩ = some (.int .i64 d) := hB4.out.cell (i := 1) (by omega)
          have o42 : (w4.setCell ⟨w1.heap.size, 2, none⟩ (.slice sa4 ((O.length + 1) + 1) sc4)).cell? ⟨w1.heap.size, 2, none⟩ = some (.slice sa4 ((O.length + 1) + 1) sc4) := hB4.out.cell (i := 2) (by omega)
          clear hown4 hgrow4 hB3 hEq
          go_wp2_with fail
          go_roundw
          case rel => exact ⟨k + 1, true, _, _, by omega, by go_num, rfl, HT', by simp; omega, hB4⟩
          case measure => simp [intOf]; omega
      · cases hQ : (ts[k].1 == x && (ts[k].2.1 == y && ts[k].2.2.1 == z))
        · have hne : ¬ tmE ts[k] = (x, y, z) := fun h => by simp [tmE] at h; simp [h] at hQ
          have HT' : Hid (putL p ts (x, y, z) val = (O ++ [ts[k]]) ++ putRun (x, y, z) ((val + A) % p) true (ts.drop (k + 1))) := Lib.hid (by rw [HT.out, HS.out, if_neg hne]; simp)
          have HQ3 : ((!ts[k].1 == x) || ((!ts[k].2.1 == y) || (!ts[k].2.2.1 == z))) = true := by rw [← Bool.not_and, ← Bool.not_and, hQ]; rfl
          rw [hQ] at hEq
          clear hQ hne HS
          go_wp2_with (at_builtin; refine wpList_append_own _ rfl _ _ 34 rfl W.heap.size 92 i0 _ 4 16 Try.underlying34 hi hz0 hz1 hz2 rfl (by decide) _ _ _ rfl ((hB.later (hbb _)).later (box1 _ _)).rows ⟨wr.heap.size + 1, 0, none⟩ 1 1 (cell4 ts[k]) rfl rfl ?d1 ?d2 ?d3 ?d4 ?d5 ?_)
          case d1 =>
            intro j u hj
            match j, hj with
            | 0, hj => simp [cell4] at hj; subst hj; simp [World.cell?_alloc_at, Addr.add]
            | 1, hj => simp [cell4] at hj; subst hj; simp [World.cell?_alloc_at, Addr.add]
            | 2, hj => simp [cell4] at hj; subst hj; simp [World.cell?_alloc_at, Addr.add]
            | 3, hj => simp [cell4] at hj; subst hj; simp [World.cell?_alloc_at, Addr.add]
          case d2 => intro u hu; simp [cell4] at hu; rcases hu with rfl | rfl | rfl | rfl <;> rfl
          case d3 => unfold maxLen; omega
          case d4 => omega
          case d5 => have := hB.b2; have := Below.size (hbb (.cells #[] 0)); simp only [World.size_alloc] at *; omega
          intro sv3 w3 hown3 hgrow3 _
          obtain ⟨sa3, sc3, rfl⟩ := owns_slice hown3
          have hB3 := hB.more (hbb _) hgrow3 (t := ts[k]) (by simpa using hown3)
          have hfz3 := (hB.outG (hbb _) hgrow3).frozen 2
          have hcl3 : w3.cell? ⟨w1.heap.size, 2, none⟩ = some (.slice sa O.length sc) := (hB.outG (hbb _) hgrow3).cell (i := 2) (by omega)
          have r30 : (w3.setCell ⟨w1.heap.size, 2, none⟩ (.slice sa3 (O.length + 1) sc3)).cell? ⟨w.heap.size + 1 + 1, 0, none⟩ = some (.int .i64 0) := hB3.res.cell (i := 0) (by omega)
          have r31 : (w3.setCell ⟨w1.heap.size, 2, none⟩ (.slice sa3 (O.length + 1) sc3)).cell? ⟨w.heap.size + 1 + 1, 1, none⟩ = some (.int .i64 0) := hB3.res.cell (i := 1) (by omega)
          have r32 : (w3.setCell ⟨w1.heap.size, 2, none⟩ (.slice sa3 (O.length + 1) sc3)).cell? ⟨w.heap.size + 1 + 1, 2, none⟩ = some (.slice none 0 0) := hB3.res.cell (i := 2) (by omega)
          have z30 := hB3.res.frozen 0
          have z31 := hB3.res.frozen 1
          have z32 := hB3.res.frozen 2
          have o30 : (w3.setCell ⟨w1.heap.size, 2, none⟩ (.slice sa3 (O.length + 1) sc3)).cell? ⟨w1.heap.size, 0, none⟩ = some (.int .i64 p) := hB3.out.cell (i := 0) (by omega)
          have o31 : (w3.setCell ⟨w1.heap.size, 2, none⟩ (.slice sa3 (O.length + 1) sc3)).cell? ⟨w1.heap.size, 1, none⟩ = some (.int .i64 d) := hB3.out.cell (i := 1) (by omega)
          have o32 : (w3.setCell ⟨w1.heap.size, 2, none⟩ (.slice sa3 (O.length + 1) sc3)).cell? ⟨w1.heap.size, 2, none⟩ = some (.slice sa3 (O.length + 1) sc3) := hB3.out.cell (i := 2) (by omega)
          clear hown3 hgrow3 hB hEq j0 f0 f1 f2 hrow
          go_wp2_with fail
          go_roundw
          case rel => exact ⟨k + 1, true, _, _, by omega, by go_num, rfl, HT', by simp; omega, hB3⟩
          case measure => simp [intOf]; omega
        · have he : tmE ts[k] = (x, y, z) := by simp at hQ; simp [tmE, hQ]
          have HT' : Hid (putL p ts (x, y, z) val = O ++ putRun (x, y, z) ((val + A) % p) true (ts.drop (k + 1))) := Lib.hid (by rw [HT.out, HS.out, if_pos he]; simp)
          have E1 : (ts[k].1 == x) = true := by simp at hQ; simp [hQ]
          have E2 : (ts[k].2.1 == y) = true := by simp at hQ; simp [hQ]
          have E3 : (ts[k].2.2.1 == z) = true := by simp at hQ; simp [hQ]
          rw [hQ] at hEq
          clear hQ he HS
          go_wp2_with fail
          go_roundw
          case rel => exact ⟨k + 1, true, _, _, by omega, by go_num, rfl, HT', by omega, hB.later (hbb _)⟩
          case measure => simp [intOf]; omega
    · obtain rfl : k = ts.length := by omega
      obtain ⟨sa, sc, rfl⟩ := owns_slice hB.rows
      have j0 : wr.cell? ⟨w1.heap.size, 0, none⟩ = some (.int .i64 p) := hB.out.cell (i := 0) (by omega)
      have j1 : wr.cell? ⟨w1.heap.size, 1, none⟩ = some (.int .i64 d) := hB.out.cell (i := 1) (by omega)
      have j2 : wr.cell? ⟨w1.heap.size, 2, none⟩ = some (.slice sa O.length sc) := hB.out.cell (i := 2) (by omega)
      have r0 : wr.cell? ⟨w.heap.size + 1 + 1, 0, none⟩ = some (.int .i64 0) := hB.res.cell (i := 0) (by omega)
      have r1 : wr.cell? ⟨w.heap.size + 1 + 1, 1, none⟩ = some (.int .i64 0) := hB.res.cell (i := 1) (by omega)
      have r2 : wr.cell? ⟨w.heap.size + 1 + 1, 2, none⟩ = some (.slice none 0 0) := hB.res.cell (i := 2) (by omega)
      have z0 := hB.res.frozen 0
      have z1 := hB.res.frozen 1
      have z2 := hB.res.frozen 2
      have hrf := Below.same wr
      cases done
      · skip
        go_wp2_with (at_builtin; refine wpList_append_own _ rfl _ _ 34 rfl W.heap.size 92 i0 _ 4 16 Try.underlying34 hi hz0 hz1 hz2 rfl (by decide) _ _ _ rfl ((hB.later hrf).later (box1 _ _)).rows ⟨wr.heap.size, 0, none⟩ 1 1 (cell4 (mkT (x, y, z) ((val + A) % p))) rfl rfl ?c1 ?c2 ?c3 ?c4 ?c5 ?_)
        case c1 =>
          intro j u hj
          match j, hj with
          | 0, hj => simp [cell4, mkT] at hj; subst hj; simp [World.cell?_alloc_at, Addr.add]
          | 1, hj => simp [cell4, mkT] at hj; subst hj; simp [World.cell?_alloc_at, Addr.add]
          | 2, hj => simp [cell4, mkT] at hj; subst hj; simp [World.cell?_alloc_at, Addr.add]
          | 3, hj => simp [cell4, mkT] at hj; subst hj; simp [World.cell?_alloc_at, Addr.add]
        case c2 => intro u hu; simp [cell4] at hu; rcases hu with rfl | rfl | rfl | rfl <;> rfl
        case c3 => unfold maxLen; omega
        case c4 => omega
        case c5 => have := hB.b2; have := Below.size hrf; simp only [World.size_alloc] at *; omega
        intro sv2 w2 hown2 hgrow2 _
        obtain ⟨sa2, sc2, rfl⟩ := owns_slice hown2
        have hB2 := hB.more hrf hgrow2 (t := (mkT (x, y, z) ((val + A) % p))) (by simpa using hown2)
        have hfz2 := (hB.outG hrf hgrow2).frozen 2
        have hcl2 : w2.cell? ⟨w1.heap.size, 2, none⟩ = some (.slice sa O.length sc) := (hB.outG hrf hgrow2).cell (i := 2) (by omega)
        have r20 : (w2.setCell ⟨w1.heap.size, 2, none⟩ (.slice sa2 (O.length + 1) sc2)).cell? ⟨w.heap.size + 1 + 1, 0, none⟩ = some (.int .i64 0) := hB2.res.cell (i := 0) (by omega)
        have r21 : (w2.setCell ⟨w1.heap.size, 2, none⟩ (.slice sa2 (O.length + 1) sc2)).cell? ⟨w.heap.size + 1 + 1, 1, none⟩ = some (.int .i64 0) := hB2.res.cell (i := 1) (by omega)
        have r22 : (w2.setCell ⟨w1.heap.size, 2, none⟩ (.slice sa2 (O.length + 1) sc2)).cell? ⟨w.heap.size + 1 + 1, 2, none⟩ = some (.slice none 0 0) := hB2.res.cell (i := 2) (by omega)
        have z20 := hB2.res.frozen 0
        have z21 := hB2.res.frozen 1
        have z22 := hB2.res.frozen 2
        have o20 : (w2.setCell ⟨w1.heap.size, 2, none⟩ (.slice sa2 (O.length + 1) sc2)).cell? ⟨w1.heap.size, 0, none⟩ = some (.int .i64 p) := hB2.out.cell (i := 0) (by omega)
        have o21 : (w2.setCell ⟨w1.heap.size, 2, none⟩ (.slice sa2 (O.length + 1) sc2)).cell? ⟨w1.heap.size, 1, none⟩ = some (.int .i64 d) := hB2.out.cell (i := 1) (by omega)
        have o22 : (w2.setCell ⟨w1.heap.size, 2, none⟩ (.slice sa2 (O.length + 1) sc2)).cell? ⟨w1.heap.size, 2, none⟩ = some (.slice sa2 (O.length + 1) sc2) := hB2.out.cell (i := 2) (by omega)
        clear hown2 hgrow2 hB
        go_wp2_with fail
        obtain ⟨v0, v1, v2, v3, v4⟩ := hB2.finish
        have HL : Hid (putL p ts (x, y, z) val = O ++ [mkT (x, y, z) ((val + A) % p)]) := Lib.hid (by rw [HT.out, List.drop_length]; simp [putRun])
        exact bodyPost_ret (v := .agg #[.int .i64 p, .int .i64 d, .slice sa2 (O.length + 1) sc2]) (by simp [results, Try.results55, go_sem, v0, v1, v2]) rfl ⟨_, rfl, by rw [HL.out]; exact v3, v4⟩
      · go_wp2_with fail
        obtain ⟨v0, v1, v2, v3, v4⟩ := hB.finish
        have HL : Hid (putL p ts (x, y, z) val = O) := Lib.hid (by rw [HT.out, List.drop_length]; simp [putRun])
        exact bodyPost_ret (v := .agg #[.int .i64 p, .int .i64 d, .slice sa O.length sc]) (by simp [results, Try.results55, go_sem, v0, v1, v2]) rfl ⟨_, rfl, by rw [HL.out]; exact v3, v4⟩

end Go.Proofs.Ytphgpadpffigjaa
