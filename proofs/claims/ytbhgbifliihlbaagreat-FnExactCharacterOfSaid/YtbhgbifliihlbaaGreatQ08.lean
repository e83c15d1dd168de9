/-
  THE STATE OF A LAW of a function of two polynomials. Conditions: as each theorem states.
  WALKS: spec.l01Times. Conditions: as each theorem states.
  WALKS: 'spec.l01One'. Conditions: as each theorem states.
  POWERS OF POLYNOMIALS, in plain mathematics. Conditions: as each theorem states.
  FORMAL SUMS of terms modulo a prime: what depends on the coefficients alone; products in any order. Conditions: as each theorem states.
  SUBSTITUTIONS, in plain mathematics: products of lists of polynomials, and what a monomial becomes. Conditions: as each theorem states.
-/
import Derived.Test.YtbhgbifliihlbaaGreatQ07
import Derived.Test.YtbhgbifliihlbaaGreatQ06
import Derived.Test.YtbhgbifliihlbaaGreatQ05
import Derived.Deep.RegionHeld3
namespace Go.Proofs.YtbhgbifliihlbaaGreat
open Go.RowKit Go.Sort

/-- The boxes of a law of two polynomials: those of LawSt, the second argument's (A'), its copy's (C). -/
structure LawSt2 (w wr : World) (A B0 B1 B2 N0 : Nat) (p d P D : Int) (va s0 v1 s2 : Value) (ts S : List Tm) (A' C : Nat) (p' d' : Int) (va' v1' : Value) (ys : List Tm) : Prop where
  st : LawSt w wr A B0 B1 B2 N0 p d P D va s0 v1 s2 ts S
  ay : wr.rowIs A' 27 3 (polyF p' d' va')
  c1 : wr.rowIs C 39 3 (polyF p' d' v1')
  sa : SliceB wr w.heap.size va' ys
theorem LawSt2.step {w wr w' : World} {A B0 B1 B2 N0 : Nat} {p d P D : Int} {va s0 v1 s2 : Value} {ts S : List Tm} {A' C : Nat} {p' d' : Int} {va' v1' : Value} {ys : List Tm} {row : Option Nat} (h : LawSt2 w wr A B0 B1 B2 N0 p d P D va s0 v1 s2 ts S A' C p' d' va' v1' ys) (hg : wr.grownBy w' row) (hr : ∀ g, row = some g → N0 ≤ g ∧ ∃ N f, wr.rowIs g 57 N f) :
    LawSt2 w w' A B0 B1 B2 N0 p d P D va s0 v1 s2 ts S A' C p' d' va' v1' ys := by
  obtain ⟨n1, n2⟩ := h.st.n0
  have key : ∀ b t f, wr.rowIs b t 3 f → t ≠ 57 → w'.rowIs b t 3 f := fun b t f hb ht => hb.of_block (hg.block b hb.lt fun e => by
    obtain ⟨_, N, f', hrow⟩ := hr b e.symm
    exact rowIs_ne hb hrow ht rfl)
  exact ⟨h.st.step hg hr, key _ _ _ h.ay (by decide), key _ _ _ h.c1 (by decide), h.sa.kept hg h.st.below.size fun g e => Nat.le_trans n1 (hr g e).1⟩
theorem LawSt2.on {w wr w' : World} {A B0 B1 B2 N0 : Nat} {p d P D : Int} {va s0 v1 s2 : Value} {ts S : List Tm} {A' C : Nat} {p' d' : Int} {va' v1' : Value} {ys : List Tm} (h : LawSt2 w wr A B0 B1 B2 N0 p d P D va s0 v1 s2 ts S A' C p' d' va' v1' ys) (hb : Below wr.heap.size wr w') : LawSt2 w w' A B0 B1 B2 N0 p d P D va s0 v1 s2 ts S A' C p' d' va' v1' ys :=
  h.step (below_grown hb) (fun g e => by simp at e)
/-- The two boxes of laws' polynomials at the head of a law. -/
theorem lpair (w : World) (p d : Int) (v : Value) (p' d' : Int) (v' : Value) : ∃ W, W = (w.alloc (.cells #[.int .i64 p, .int .i64 d, v] 27)).alloc (.cells #[.int .i64 p', .int .i64 d', v'] 27) ∧ Below w.heap.size w W ∧ (W.heap.size ≤ w.heap.size + 2 ∧ w.heap.size + 2 ≤ W.heap.size) ∧
      W.rowIs w.heap.size 27 3 (polyF p d v) ∧ W.rowIs (w.heap.size + 1) 27 3 (polyF p' d' v') := by
  refine ⟨_, rfl, box2 _ _ _, ⟨by simp, by simp⟩, ?_, ?_⟩
  · refine World.rowIs.alloc (World.rowIs_alloc w #[Value.int .i64 p, .int .i64 d, v] _ _ (fun i hi => ?_)) _
    simp at hi; match i, hi with | 0, _ => rfl | 1, _ => rfl | 2, _ => rfl
  · have := World.rowIs_alloc (w.alloc (.cells #[.int .i64 p, .int .i64 d, v] 27)) #[Value.int .i64 p', .int .i64 d', v'] 27 (polyF p' d' v') (fun i hi => by simp at hi; match i, hi with | 0, _ => rfl | 1, _ => rfl | 2, _ => rfl)
    simpa using this
/-- A new box of a polynomial. -/
theorem newbox (w : World) (p d : Int) (v : Value) : ∃ V, V = w.alloc (.cells #[.int .i64 p, .int .i64 d, v] 39) ∧ Below w.heap.size w V ∧ (V.heap.size ≤ w.heap.size + 1 ∧ w.heap.size + 1 ≤ V.heap.size) ∧ V.rowIs w.heap.size 39 3 (polyF p d v) :=
  ⟨_, rfl, box1 _ _, ⟨by simp, by simp⟩, World.rowIs_alloc w #[Value.int .i64 p, .int .i64 d, v] _ _ (fun i hi => by simp at hi; match i, hi with | 0, _ => rfl | 1, _ => rfl | 2, _ => rfl)⟩
theorem zbox (w : World) : (w.alloc (.cells #[.int .i64 0, .int .i64 0, .slice none 0 0] 39)).rowIs w.heap.size 39 3 (polyF 0 0 (.slice none 0 0)) :=
  World.rowIs_alloc w #[Value.int .i64 0, .int .i64 0, .slice none 0 0] _ _ (fun i hi => by simp at hi; match i, hi with | 0, _ => rfl | 1, _ => rfl | 2, _ => rfl)
theorem zboxD (w : World) : (w.alloc (.cells #[.int .i64 0, .int .i64 0, .slice none 0 0] 39)).drew.rowIs w.heap.size 39 3 (polyF 0 0 (.slice none 0 0)) := zbox w
/-- A polynomial put into a new box that lay ahead of it. -/
theorem box_set {w Z : World} {B0 base : Nat} {F : Nat → Value} {v : Value} {S : List Tm} (hZ : Z.rowIs B0 39 3 F) (hb : Below w.heap.size w Z) (hB : w.heap.size ≤ B0) (hs : OwnP Z base v S) (P D : Int) :
    (((Z.setCell ⟨B0, 0, none⟩ (.int .i64 P)).setCell ⟨B0, 1, none⟩ (.int .i64 D)).setCell ⟨B0, 2, none⟩ v).rowIs B0 39 3 (polyF P D v) ∧
    Below w.heap.size w (((Z.setCell ⟨B0, 0, none⟩ (.int .i64 P)).setCell ⟨B0, 1, none⟩ (.int .i64 D)).setCell ⟨B0, 2, none⟩ v) ∧
    SliceT (((Z.setCell ⟨B0, 0, none⟩ (.int .i64 P)).setCell ⟨B0, 1, none⟩ (.int .i64 D)).setCell ⟨B0, 2, none⟩ v) v S := by
  refine ⟨(((hZ.set 0 (.int .i64 P)).set 1 (.int .i64 D)).set 2 v).congr fun i hi => ?_, ((hb.setCell (by simpa using hB) _).setCell (by simpa using hB) _).setCell (by simpa using hB) _, ?_⟩
  · match i, hi with
    | 0, _ => rfl
    | 1, _ => rfl
    | 2, _ => rfl
  · refine OwnP.slice (base := base) (hs.kept (row := some B0) ⟨rfl, rfl, rfl, by simp only [World.size_setCell]; exact Nat.le_refl _, fun k hk hne => ?_⟩ (own_ne hZ hs (by decide)))
    have hk : k ≠ B0 := fun e => hne (by rw [e])
    exact (Below.heap_setCell _ ⟨B0, 2, none⟩ v k hk).trans ((Below.heap_setCell _ ⟨B0, 1, none⟩ _ k hk).trans (Below.heap_setCell _ ⟨B0, 0, none⟩ _ k hk))
/-- The cells of two boxes. -/
def Cells6 (A A' : Nat) (p d : Int) (va : Value) (p' d' : Int) (va' : Value) (w : World) : Prop :=
  (w.cell? ⟨A, 0, none⟩ = some (.int .i64 p) ∧ w.cell? ⟨A, 1, none⟩ = some (.int .i64 d) ∧ w.cell? ⟨A, 2, none⟩ = some va) ∧ (w.cell? ⟨A', 0, none⟩ = some (.int .i64 p') ∧ w.cell? ⟨A', 1, none⟩ = some (.int .i64 d') ∧ w.cell? ⟨A', 2, none⟩ = some va')
theorem Cells6.of {w : World} {A A' : Nat} {t : TypeId} {p d : Int} {va : Value} {p' d' : Int} {va' : Value} (h : w.rowIs A t 3 (polyF p d va)) (h' : w.rowIs A' t 3 (polyF p' d' va')) : Cells6 A A' p d va p' d' va' w :=
  ⟨(poly3 h).1, (poly3 h').1⟩
theorem Cells6.below {w w' : World} {A A' : Nat} {p d : Int} {va : Value} {p' d' : Int} {va' : Value} {B : Nat} (h : Cells6 A A' p d va p' d' va' w) (hb : Below B w w') (hA : A < B) (hA' : A' < B) : Cells6 A A' p d va p' d' va' w' := by
  obtain ⟨⟨a, b, c⟩, d, e, f⟩ := h
  exact ⟨⟨(hb.cell (p := ⟨A, _, none⟩) hA).trans a, (hb.cell (p := ⟨A, _, none⟩) hA).trans b, (hb.cell (p := ⟨A, _, none⟩) hA).trans c⟩, (hb.cell (p := ⟨A', _, none⟩) hA').trans d, (hb.cell (p := ⟨A', _, none⟩) hA').trans e, (hb.cell (p := ⟨A', _, none⟩) hA').trans f⟩
end Go.Proofs.YtbhgbifliihlbaaGreat
namespace Go.Proofs.YtbhgbifliihlbaaGreat
open Go.RowKit Go.Sort Go.Maps

set_option maxRecDepth 8000 in
set_option maxHeartbeats 16000000 in
theorem specTimes_big (p d : Int) (v v' : Value) (xs ys : List Tm) (w : World) (hS : SliceT w v xs) (hS' : SliceT w v' ys) (hV : Valid p d xs) (hV' : Valid p d ys) (hx0 : xs ≠ []) (hy0 : ys ≠ []) (hd : 12 < degI xs + degI ys) :
    Calls Tryz.prog 83 #[.agg #[.int .i64 p, .int .i64 d, v], .agg #[.int .i64 p, .int .i64 d, v']] w fun e w' =>
      ∃ v', e = .returned (.tuple #[.agg #[.int .i64 p, .int .i64 d, v'], .bool false]) ∧ OwnP w' w.heap.size v' [] ∧ Below w.heap.size w w' := by
  have hlx := hV.isP.len
  have hly := hV'.isP.len
  have hbx := hV.byte
  have hby := hV'.byte
  obtain ⟨dx1, dx2⟩ := deg_bound hV
  obtain ⟨dy1, dy2⟩ := deg_bound hV'
  obtain ⟨a, cap, rfl, _⟩ := id hS
  obtain ⟨a', cap', rfl, _⟩ := id hS'
  obtain ⟨W, hW, hbW, ⟨hWs1, hWs2⟩, rx, ry, rr⟩ := pair3 w p d (.slice a xs.length cap) p d (.slice a' ys.length cap')
  obtain ⟨⟨c0, c1, c2⟩, _⟩ := poly3 rx
  go_enter Tryz.func83, Tryz.ntmps83
  go_wp2_with fail
  rw [← hW]
  clear hW c0 c1 c2
  ((with_reducible refine (empty_any p d W).mono ?_); rintro e w1 ⟨rfl, hown, hb1⟩)
  obtain ⟨V, hV1, hbV, ⟨hVs1, hVs2⟩, rq⟩ : ∃ V, V = w1.alloc (.cells #[.int .i64 p, .int .i64 d, .slice (some ⟨W.heap.size + 1, 0, none⟩) 0 0] 39) ∧ Below w1.heap.size w1 V ∧ (V.heap.size ≤ w1.heap.size + 1 ∧ w1.heap.size + 1 ≤ V.heap.size) ∧
      V.rowIs w1.heap.size 39 3 (polyF p d (.slice (some ⟨W.heap.size + 1, 0, none⟩) 0 0)) := by
    refine ⟨_, rfl, box1 _ _, ⟨by simp, by simp⟩, ?_⟩
    exact World.rowIs_alloc w1 #[Value.int .i64 p, .int .i64 d, .slice (some ⟨W.heap.size + 1, 0, none⟩) 0 0] _ _ (fun i hi => by simp at hi; match i, hi with | 0, _ => rfl | 1, _ => rfl | 2, _ => rfl)
  have s1 := hb1.size
  have hbWV := hb1.trans (hbV.mono hb1.size)
  have hst : Part2 w V W.heap.size w1.heap.size w.heap.size (w.heap.size + 1) (w.heap.size + 2) p d p d (.slice a xs.length cap) (.slice a' ys.length cap') (.slice (some ⟨W.heap.size + 1, 0, none⟩) 0 0) [] :=
    ⟨⟨owns_belowT hown hbV, rq, rowIs_below rx hbWV rx.lt, rowIs_below rr hbWV rr.lt, hbW.trans (hbWV.mono hbW.size), by omega, by omega, by omega, by omega, by omega, by omega⟩, rowIs_below ry hbWV ry.lt, by omega⟩
  have rx1 := rowIs_below rx hb1 rx.lt
  have ry1 := rowIs_below ry hb1 ry.lt
  have xo : ∀ o, (w1.alloc o).cell? ⟨w.heap.size, 2, none⟩ = some (.slice a xs.length cap) := fun o => ((box1 w1 o).cell rx1.lt).trans (poly3 rx1).1.2.2
  have yo : ∀ o, (w1.alloc o).cell? ⟨w.heap.size + 1, 2, none⟩ = some (.slice a' ys.length cap') := fun o => ((box1 w1 o).cell ry1.lt).trans (poly3 ry1).1.2.2
  have hz : ((xs.length : Int) == 0) = false := by simpa using hx0
  have hz' : ((ys.length : Int) == 0) = false := by simpa using hy0
  have hSV := hS.below hst.part.below
  have hSV' := hS'.below hst.part.below
  obtain ⟨⟨c0, c1, c2⟩, _⟩ := poly3 hst.part.arg
  obtain ⟨⟨d0, d1, d2⟩, _⟩ := poly3 hst.arg2
  have u0 := cell_regrown c0
  have u1 := cell_regrown c1
  have u2 := cell_regrown c2
  have t0 := cell_regrown d0
  have t1 := cell_regrown d1
  have t2 := cell_regrown d2
  have hw : IntKind.i64.wrap (degI xs + degI ys) = degI xs + degI ys := IntWalk.i64_in _ (by omega)
  have kx : ∀ dd os, Calls Tryz.prog 81 #[.agg #[.int .i64 p, .int .i64 d, .slice a xs.length cap]] (grow (redrawn V dd) os) fun e w'' => e = .returned (.int .i64 (degI xs)) ∧ ∃ p : Regrown, w'' = grow (redrawn V p.d) p.os := fun dd os =>
    Calls.regrown_of (specDegree_any p d _ xs _ (by omega) (hSV.below (below_regrown V dd os)) hbx)
  have ky : ∀ dd os, Calls Tryz.prog 81 #[.agg #[.int .i64 p, .int .i64 d, .slice a' ys.length cap']] (grow (redrawn V dd) os) fun e w'' => e = .returned (.int .i64 (degI ys)) ∧ ∃ p : Regrown, w'' = grow (redrawn V p.d) p.os := fun dd os =>
    Calls.regrown_of (specDegree_any p d _ ys _ (by omega) (hSV'.below (below_regrown V dd os)) hby)
  generalize degI xs = gx at *
  generalize degI ys = gy at *
  have hle2 : decide (12 < gx + gy) = true := by simpa using hd
  clear rx ry rr rq hown rx1 ry1 hbx hby hSV hSV'
  go_wp2_with fail
  rw [← hV1]
  clear hV1 xo yo
  refine wp_region_quiet_below (by kernel_rfl) (by kernel_rfl) ?_
  repeat (go_big_quiet_step (first | with_reducible exact kx _ _ | with_reducible exact ky _ _))
  refine wpQuiet_nil ?_
  intro _ hw'
  obtain ⟨⟨dq, osq⟩, hw''⟩ := hw'
  subst hw''
  have hst2 := hst.later (below_regrown V dq osq)
  clear hst kx ky u0 u1 u2 t0 t1 t2 c0 c1 c2 d0 d1 d2
  generalize grow (redrawn V dq) osq = V2 at *
  try simp only [hw]
  obtain ⟨⟨q0, q1, q2⟩, _⟩ := poly3 hst2.part.out
  obtain ⟨⟨r0, r1, r2⟩, y0, y1, y2⟩ := poly3 hst2.part.res
  obtain ⟨a0, a1, a2, a3, a4⟩ := hst2.part.finish p d
  have A0 := Lib.hid a0
  have A1 := Lib.hid a1
  have A2 := Lib.hid a2
  have A3 := Lib.hid a3
  have A4 := Lib.hid a4
  clear a0 a1 a2 a3 a4 hst2
  go_wp2_with fail
  exact bodyPost_ret (v := .tuple #[.agg #[.int .i64 p, .int .i64 d, .slice (some ⟨W.heap.size + 1, 0, none⟩) 0 0], .bool false]) (by simp [results, Tryz.results83, go_sem, A0.out, A1.out, A2.out]) rfl ⟨_, rfl, A3.out, A4.out⟩

theorem specTimes_any (p d : Int) (v v' : Value) (xs ys : List Tm) (w : World) (hS : SliceT w v xs) (hS' : SliceT w v' ys) (hV : Valid p d xs) (hV' : Valid p d ys) (hd : xs = [] ∨ ys = [] ∨ degI xs + degI ys ≤ 12) :
    Calls Tryz.prog 83 #[.agg #[.int .i64 p, .int .i64 d, v], .agg #[.int .i64 p, .int .i64 d, v']] w fun e w' =>
      ∃ v' L, e = .returned (.tuple #[.agg #[.int .i64 p, .int .i64 d, v'], .bool true]) ∧ OwnP w' w.heap.size v' L ∧ IsP p L (mulF p xs ys) ∧ Below w.heap.size w w' := by
  have hlx := hV.isP.len
  have hly := hV'.isP.len
  by_cases hx : xs = []
  · refine (specTimes_nil p d v v' xs ys w hS hS' (by omega) (by omega) (.inl hx)).mono fun e w' ⟨v2, h1, h2, h3⟩ => ⟨v2, [], h1, h2, (IsP.nil p).congr fun e _ => ?_, h3⟩
    rw [hx, mulF_nil]
  by_cases hy : ys = []
  · refine (specTimes_nil p d v v' xs ys w hS hS' (by omega) (by omega) (.inr hy)).mono fun e w' ⟨v2, h1, h2, h3⟩ => ⟨v2, [], h1, h2, (IsP.nil p).congr fun e _ => ?_, h3⟩
    rw [hy, mulF, mulS_nil]
    simp
  · exact specTimes_some p d v v' xs ys w hS hS' hV hV' hx hy (by rcases hd with h | h | h; exact absurd h hx; exact absurd h hy; exact h)
end Go.Proofs.YtbhgbifliihlbaaGreat
namespace Go.Proofs.YtbhgbifliihlbaaGreat
open Go.RowKit Go.Sort Go.Maps

theorem IsP.one {p : Int} (hp : 2 ≤ p) {e : Int × Int × Int} (he : mono12 e) (v : Int) : IsP p (putL p [] e v) (fun a => if a = e then v % p else 0) :=
  ((IsP.nil p).put hp he v).congr fun a _ => by simp

set_option maxRecDepth 8000 in
set_option maxHeartbeats 4000000 in
theorem one_any (p d x y z val : Int) (w : World) (h2 : 2 ≤ p) (h13 : p ≤ 13) (he : byte3 (x, y, z)) (v0 : 0 ≤ val) (v1 : val ≤ 100000000) :
    Calls Tryz.prog 82 #[.int .i64 p, .int .i64 d, .agg #[.int .u8 x, .int .u8 y, .int .u8 z], .int .i64 val] w fun e w' =>
      ∃ v', e = .returned (.agg #[.int .i64 p, .int .i64 d, v']) ∧ OwnP w' w.heap.size v' (putL p [] (x, y, z) val) ∧ Below w.heap.size w w' := by
  obtain ⟨W, hW, hbW, ⟨hWs1, hWs2⟩, re, rr⟩ : ∃ W, W = (w.alloc (.cells #[.int .u8 x, .int .u8 y, .int .u8 z] 55)).alloc (.cells #[.int .i64 0, .int .i64 0, .slice none 0 0] 39) ∧ Below w.heap.size w W ∧ (W.heap.size ≤ w.heap.size + 2 ∧ w.heap.size + 2 ≤ W.heap.size) ∧
      W.rowIs w.heap.size 55 3 (expsF x y z) ∧ W.rowIs (w.heap.size + 1) 39 3 (polyF 0 0 (.slice none 0 0)) := by
    refine ⟨_, rfl, box2 _ _ _, ⟨by simp, by simp⟩, ?_, ?_⟩
    · refine World.rowIs.alloc (World.rowIs_alloc w #[Value.int .u8 x, .int .u8 y, .int .u8 z] _ _ (fun i hi => ?_)) _
      simp at hi; match i, hi with | 0, _ => rfl | 1, _ => rfl | 2, _ => rfl
    · have := World.rowIs_alloc (w.alloc (.cells #[.int .u8 x, .int .u8 y, .int .u8 z] 55)) #[Value.int .i64 0, .int .i64 0, .slice none 0 0] 39 (polyF 0 0 (.slice none 0 0)) (fun i hi => by simp at hi; match i, hi with | 0, _ => rfl | 1, _ => rfl | 2, _ => rfl)
      simpa using this
  have KK := Lib.hid (fun w' (h : Below W.heap.size W w') => show (w'.cell? ⟨w.heap.size, 0, none⟩ = some (.int .u8 x) ∧ w'.cell? ⟨w.heap.size, 1, none⟩ = some (.int .u8 y) ∧ w'.cell? ⟨w.heap.size, 2, none⟩ = some (.int .u8 z)) from
    ⟨(rowIs_below re h re.lt).cell (i := 0) (by omega), (rowIs_below re h re.lt).cell (i := 1) (by omega), (rowIs_below re h re.lt).cell (i := 2) (by omega)⟩)
  go_enter Tryz.func82, Tryz.ntmps82
  go_upto_region 1 with fail
  rw [← hW]
  clear hW
  obtain ⟨⟨r0, r1, r2⟩, y0, y1, y2⟩ := poly3 rr
  go_region_held3 (fun w' => (w'.cell? ⟨w.heap.size, 0, none⟩ = some (.int .u8 x) ∧ w'.cell? ⟨w.heap.size, 1, none⟩ = some (.int .u8 y) ∧ w'.cell? ⟨w.heap.size, 2, none⟩ = some (.int .u8 z)))
    (first | with_reducible exact KK.out _ (Below.same _).drew | with_reducible exact KK.out _ HB1 | with_reducible exact KK.out _ HB2 | go_keep)
    (first
    | (go_at_call 39; (with_reducible refine (empty_any p d _).mono ?_); rintro e w1 ⟨rfl, hown, hb1⟩; have HB1 : Below W.heap.size W w1 := (Below.same _).drew.trans hb1)
    | (go_at_call 61; (with_reducible refine (specPut p d _ [] (fun _ => 0) x y z val _ (OwnP.slice (S := []) hown) (IsP.nil p) h2 h13 he v0 v1).mono ?_); rintro e w2 ⟨v2, rfl, ho2, hb2⟩; have HB2 : Below W.heap.size W w2 := HB1.trans (hb2.mono HB1.size); have rr2 := rowIs_below rr HB2 rr.lt; obtain ⟨⟨e0, e1, e2⟩, f0, f1, f2⟩ := poly3 rr2; obtain ⟨sa2, sc2, rfl⟩ := owns_slice ho2; obtain ⟨a0, a1, a2, a3, a4⟩ := fill_box (w := w) rr2 (owns_low ho2 (Nat.le_trans hbW.size HB1.size)) (Nat.le_refl _) (hbW.trans (HB2.mono hbW.size)) (by omega) p d; have A0 := Lib.hid a0; have A1 := Lib.hid a1; have A2 := Lib.hid a2; obtain ⟨m0, m1, m2⟩ := KK.out _ HB2; have A3 := Lib.hid a3; have A4 := Lib.hid a4; clear a0 a1 a2 a3 a4))
  go_wp2_with fail
  exact bodyPost_ret (v := .agg #[.int .i64 p, .int .i64 d, .slice sa2 (putL p [] (x, y, z) val).length sc2]) (by simp [results, Tryz.results82, go_sem, A0.out, A1.out, A2.out]) rfl ⟨_, rfl, A3.out, A4.out⟩
end Go.Proofs.YtbhgbifliihlbaaGreat
namespace Go.Proofs.YtbhgbifliihlbaaGreat
open Go.RowKit Go.Sort Go.Maps

/-- L has the terms of the power k of the polynomial with the terms xs. -/
def PowL (p : Int) (xs : List Tm) : Nat → List Tm → Prop
  | 0, L => IsP p L (fun e => if e = (0, 0, 0) then 1 else 0)
  | k + 1, L => ∃ M, PowL p xs k M ∧ IsP p L (mulF p M xs)
theorem PowL.unique {p : Int} {xs : List Tm} : ∀ {k : Nat} {L L' : List Tm}, PowL p xs k L → PowL p xs k L' → L = L'
  | 0, _, _, h, h' => IsP.unique h h'
  | _ + 1, _, _, ⟨_, h1, h2⟩, ⟨_, h1', h2'⟩ => by
    obtain rfl := PowL.unique h1 h1'
    exact h2.unique h2'
theorem PowL.isP {p : Int} {xs L : List Tm} : ∀ {k : Nat}, PowL p xs k L → ∃ f, IsP p L f
  | 0, h => ⟨_, h⟩
  | _ + 1, ⟨_, _, h⟩ => ⟨_, h⟩
theorem Valid.of_isP {p d : Int} {xs L : List Tm} {f : Int × Int × Int → Int} (hV : Valid p d xs) (h : IsP p L f) : Valid p d L :=
  ⟨hV.p2, hV.p13, hV.d1, hV.d3, h.1, fun t ht => ⟨(h.2.1 t ht).1, (h.2.1 t ht).2⟩⟩
theorem rowS_ne {s : Tm} {e : Int × Int × Int} : ∀ {ys : List Tm}, rowS s ys e ≠ 0 → ∃ t ∈ ys, addE (tmE s) (tmE t) = e
  | [], h => absurd rfl h
  | t :: r, h => by
    rw [rowS] at h
    by_cases hx : addE (tmE s) (tmE t) = e
    · exact ⟨t, by simp, hx⟩
    · rw [if_neg hx, Int.zero_add] at h
      obtain ⟨u, hu, hx⟩ := rowS_ne h
      exact ⟨u, by simp [hu], hx⟩
theorem mulS_ne {ys : List Tm} {e : Int × Int × Int} : ∀ {xs : List Tm}, mulS xs ys e ≠ 0 → ∃ s ∈ xs, ∃ t ∈ ys, addE (tmE s) (tmE t) = e
  | [], h => absurd rfl h
  | s :: r, h => by
    rw [mulS] at h
    by_cases hx : rowS s ys e = 0
    · rw [hx, Int.zero_add] at h
      obtain ⟨u, hu, hx⟩ := mulS_ne h
      exact ⟨u, by simp [hu], hx⟩
    · exact ⟨s, by simp, rowS_ne hx⟩
/-- No term of the power has a degree beyond the bound. -/
theorem PowL.deg {p d : Int} {xs : List Tm} (hV : Valid p d xs) : ∀ {k : Nat} {L : List Tm}, PowL p xs k L → ∀ t ∈ L, t.1 + t.2.1 + t.2.2.1 ≤ k * max (degI xs) 0
  | 0, L, h, t, ht => by
    have h1 := h.2.2 (tmE t) (h.2.1 t ht).1.1
    rw [atL_mem h.1 ht] at h1
    have h2 := (h.2.1 t ht).2.1
    by_cases hx : tmE t = (0, 0, 0)
    · simp [tmE] at hx
      obtain ⟨a, b, c⟩ := hx
      simp [a, b, c]
    · have h3 : t.2.2.2 = if tmE t = (0, 0, 0) then 1 else 0 := h1
      rw [if_neg hx] at h3
      omega
  | k + 1, L, ⟨M, h, h'⟩, t, ht => by
    have h1 := h'.2.2 (tmE t) (h'.2.1 t ht).1.1
    rw [atL_mem h'.1 ht] at h1
    have h2 := (h'.2.1 t ht).2.1
    have h3 : mulS M xs (tmE t) ≠ 0 := fun h0 => by
      rw [mulF, h0] at h1
      simp at h1
      omega
    obtain ⟨s, hs, u, hu, hx⟩ := mulS_ne h3
    have h4 := PowL.deg hV h s hs
    have h5 := deg_le hV u hu
    have h6 : degI xs ≤ max (degI xs) 0 := Int.le_max_left _ _
    have h7 : t.1 + t.2.1 + t.2.2.1 = (s.1 + s.2.1 + s.2.2.1) + (u.1 + u.2.1 + u.2.2.1) := by
      have := sum_addE (tmE s) (tmE u)
      rw [hx] at this
      exact this
    have h8 : ((k + 1 : Nat) : Int) * max (degI xs) 0 = k * max (degI xs) 0 + max (degI xs) 0 := by
      rw [Int.natCast_add, Int.add_mul]
      simp
    omega
theorem max_deg {p d : Int} {xs : List Tm} (hV : Valid p d xs) : 0 ≤ max (degI xs) 0 ∧ max (degI xs) 0 ≤ 12 := by
  obtain ⟨a, b⟩ := deg_bound hV
  omega
/-- The next product keeps the bound. -/
theorem PowL.fits {p d : Int} {xs M : List Tm} (hV : Valid p d xs) {j : Nat} (h : PowL p xs j M) {k : Int} (hj : (j : Int) + 1 ≤ k) (hk : k * max (degI xs) 0 ≤ 12) : M = [] ∨ xs = [] ∨ degI M + degI xs ≤ 12 := by
  by_cases hM : M = []
  · exact .inl hM
  by_cases hx : xs = []
  · exact .inr (.inl hx)
  refine .inr (.inr ?_)
  have h0 : degI M ≤ j * max (degI xs) 0 := by
    unfold degI
    cases hl : M.getLast? with
    | none => exact absurd (List.getLast?_eq_none_iff.1 hl) hM
    | some u => exact h.deg hV u (List.mem_of_getLast? hl)
  have h1 : degI xs ≤ max (degI xs) 0 := Int.le_max_left _ _
  have h2 : ((j : Int) + 1) * max (degI xs) 0 ≤ k * max (degI xs) 0 := Int.mul_le_mul_of_nonneg_right hj (max_deg hV).1
  rw [Int.add_mul] at h2
  simp at h2
  omega
theorem pow_ex {p d : Int} {xs : List Tm} (hV : Valid p d xs) {k : Int} (hk : k * max (degI xs) 0 ≤ 12) : ∀ j : Nat, (j : Int) ≤ k → ∃ L, PowL p xs j L
  | 0, _ => ⟨_, (IsP.one hV.p2 (e := (0, 0, 0)) ⟨by unfold byte3; simp, by simp⟩ 1).congr fun a _ => by
      have h1 : (1 : Int) % p = 1 := Int.emod_eq_of_lt (by omega) (by have := hV.p2; omega)
      rw [h1]⟩
  | j + 1, hj => by
    obtain ⟨M, hM⟩ := pow_ex hV hk j (by omega)
    obtain ⟨f, hf⟩ := hM.isP
    have hVM := hV.of_isP hf
    obtain ⟨L, hL⟩ := mul_ex hVM hV (fits_of hVM hV (hM.fits hV (by omega) hk))
    exact ⟨L, M, hM, hL⟩
end Go.Proofs.YtbhgbifliihlbaaGreat
namespace Go.Proofs.YtbhgbifliihlbaaGreat
open Go.RowKit Go.Sort Go.Maps

/-- A linear function of a list of terms: w tells what it does to a monomial. -/
def sumW : List Tm → (Int × Int × Int → Int) → Int
  | [], _ => 0
  | t :: r, w => t.2.2.2 * w (tmE t) + sumW r w
/-- The sum of the values at a monomial. -/
def cfS (xs : List Tm) (e : Int × Int × Int) : Int := sumW xs fun a => if a = e then 1 else 0
theorem sumW_append (w : Int × Int × Int → Int) (ys : List Tm) : ∀ xs : List Tm, sumW (xs ++ ys) w = sumW xs w + sumW ys w
  | [] => by simp [sumW]
  | t :: r => by rw [List.cons_append, sumW, sumW, sumW_append w ys r, Int.add_assoc]
theorem sumW_congr {w w' : Int × Int × Int → Int} : ∀ {xs : List Tm}, (∀ t ∈ xs, w (tmE t) = w' (tmE t)) → sumW xs w = sumW xs w'
  | [], _ => rfl
  | t :: r, h => by rw [sumW, sumW, h t (by simp), sumW_congr (fun u hu => h u (by simp [hu]))]
theorem sumW_add (w w' : Int × Int × Int → Int) : ∀ xs : List Tm, sumW xs (fun a => w a + w' a) = sumW xs w + sumW xs w'
  | [] => rfl
  | t :: r => by rw [sumW, sumW, sumW, sumW_add w w' r, Int.mul_add]; omega
theorem sumW_mul (k : Int) (w : Int × Int × Int → Int) : ∀ xs : List Tm, sumW xs (fun a => k * w a) = k * sumW xs w
  | [] => by simp [sumW]
  | t :: r => by rw [sumW, sumW, sumW_mul k w r, Int.mul_add, Int.mul_left_comm]
theorem sumW_swap (ys : List Tm) (f : Int × Int × Int → Int × Int × Int → Int) : ∀ xs : List Tm, sumW xs (fun a => sumW ys (f a)) = sumW ys (fun b => sumW xs (fun a => f a b))
  | [] => by
    have : ∀ zs : List Tm, sumW zs (fun b => sumW [] (fun a => f a b)) = 0 := fun zs => by
      induction zs with
      | nil => rfl
      | cons t r ih => rw [sumW, ih]; simp [sumW]
    rw [this ys]; rfl
  | t :: r => by
    rw [sumW, sumW_swap ys f r, ← sumW_mul, ← sumW_add]
    exact sumW_congr fun u _ => rfl
/-- What goes over to the other monomials when one of them is left out. -/
theorem sumW_part (e : Int × Int × Int) (w : Int × Int × Int → Int) : ∀ xs : List Tm, sumW xs w = cfS xs e * w e + sumW (xs.filter fun t => tmE t ≠ e) w
  | [] => by simp [sumW, cfS]
  | t :: r => by
    have ih := sumW_part e w r
    unfold cfS at ih ⊢
    by_cases h : tmE t = e
    · rw [sumW, sumW, ih, List.filter_cons_of_neg (by simp [h]), h, if_pos rfl, Int.mul_one, Int.add_mul]
      omega
    · rw [sumW, sumW, ih, List.filter_cons_of_pos (by simp [h]), sumW, if_neg h, Int.mul_zero, Int.zero_add]
      omega
theorem cfS_filter (e a : Int × Int × Int) : ∀ xs : List Tm, cfS (xs.filter fun t => tmE t ≠ e) a = if a = e then 0 else cfS xs a
  | [] => by simp [cfS, sumW]
  | t :: r => by
    have ih := cfS_filter e a r
    unfold cfS at ih ⊢
    by_cases h : tmE t = e
    · rw [List.filter_cons_of_neg (by simp [h]), ih, sumW]
      by_cases ha : a = e
      · rw [if_pos ha, if_pos ha]
      · rw [if_neg ha, if_neg ha, if_neg (fun h' => ha (by rw [← h', h])), Int.mul_zero, Int.zero_add]
    · rw [List.filter_cons_of_pos (by simp [h]), sumW, ih, sumW]
      by_cases ha : a = e
      · rw [if_pos ha, if_pos ha, if_neg (fun h' => h (by rw [h', ha])), Int.mul_zero]; rfl
      · rw [if_neg ha, if_neg ha]
/-- A list all of whose coefficients are 0 modulo p is nothing to a linear function. -/
theorem sumW_dvd (p : Int) (w : Int × Int × Int → Int) : ∀ (n : Nat) (xs : List Tm), xs.length ≤ n → (∀ e, p ∣ cfS xs e) → p ∣ sumW xs w
  | _, [], _, _ => by simp [sumW]
  | 0, t :: r, h, _ => by simp at h
  | n + 1, t :: r, h, hc => by
    rw [sumW_part (tmE t) w (t :: r)]
    refine Int.dvd_add (Int.dvd_trans (hc (tmE t)) (Int.dvd_mul_right _ _)) (sumW_dvd p w n _ ?_ fun e => ?_)
    · rw [List.filter_cons_of_neg (by simp)]
      exact Nat.le_trans (List.length_filter_le _ _) (by simpa using h)
    · rw [cfS_filter]
      by_cases ha : e = tmE t
      · rw [if_pos ha]; exact Int.dvd_zero _
      · rw [if_neg ha]; exact hc e
def negL (xs : List Tm) : List Tm := xs.map fun t => (t.1, t.2.1, t.2.2.1, -t.2.2.2)
theorem sumW_neg (w : Int × Int × Int → Int) : ∀ xs : List Tm, sumW (negL xs) w = -sumW xs w
  | [] => rfl
  | t :: r => by
    have ih := sumW_neg w r
    unfold negL at ih ⊢
    rw [List.map_cons, sumW, sumW, ih]
    show -t.2.2.2 * w (tmE t) + _ = _
    rw [Int.neg_mul]
    omega
/-- Lists with the same coefficients modulo p are the same to a linear function. -/
theorem sumW_same {p : Int} {xs ys : List Tm} (h : ∀ e, cfS xs e % p = cfS ys e % p) (w : Int × Int × Int → Int) : sumW xs w % p = sumW ys w % p := by
  have h1 : p ∣ sumW (xs ++ negL ys) w := sumW_dvd p w _ _ (Nat.le_refl _) fun e => by
    have h2 := Int.emod_eq_emod_iff_emod_sub_eq_zero.1 (h e)
    have h3 := Int.dvd_of_emod_eq_zero h2
    unfold cfS at h3 ⊢
    rw [sumW_append, sumW_neg]
    exact h3
  rw [sumW_append, sumW_neg] at h1
  exact Int.emod_eq_emod_iff_emod_sub_eq_zero.2 (Int.emod_eq_zero_of_dvd h1)
theorem cfS_asc : ∀ {xs : List Tm}, Asc xs → ∀ e, cfS xs e = atL xs e
  | [], _, _ => rfl
  | t :: r, h, e => by
    have ih := cfS_asc (List.pairwise_cons.1 h).2 e
    unfold cfS at ih ⊢
    rw [sumW, ih, atL_cons h]
    by_cases hx : tmE t = e
    · rw [if_pos hx, if_pos hx, Int.mul_one]
    · rw [if_neg hx, if_neg hx, Int.mul_zero]
/-- The coefficients of a product as linear functions. -/
theorem rowS_sumW (s : Tm) (e : Int × Int × Int) : ∀ ys : List Tm, rowS s ys e = s.2.2.2 * sumW ys (fun b => if addE (tmE s) b = e then 1 else 0)
  | [] => by simp [rowS, sumW]
  | t :: r => by
    rw [rowS, sumW, rowS_sumW s e r, Int.mul_add]
    by_cases h : addE (tmE s) (tmE t) = e
    · rw [if_pos h, if_pos h, Int.mul_one]
    · rw [if_neg h, if_neg h, Int.mul_zero, Int.mul_zero]
theorem mulS_sumW (ys : List Tm) (e : Int × Int × Int) : ∀ xs : List Tm, mulS xs ys e = sumW xs (fun a => sumW ys (fun b => if addE a b = e then 1 else 0))
  | [] => rfl
  | s :: r => by rw [mulS, mulS_sumW ys e r, rowS_sumW]; rfl
/-- The terms of a product, one by one. -/
def mulRaw (xs ys : List Tm) : List Tm := xs.flatMap fun s => ys.map fun t => ((addE (tmE s) (tmE t)).1, (addE (tmE s) (tmE t)).2.1, (addE (tmE s) (tmE t)).2.2, s.2.2.2 * t.2.2.2)
theorem sumW_raw1 (s : Tm) (w : Int × Int × Int → Int) : ∀ ys : List Tm, sumW (ys.map fun t => ((addE (tmE s) (tmE t)).1, (addE (tmE s) (tmE t)).2.1, (addE (tmE s) (tmE t)).2.2, s.2.2.2 * t.2.2.2)) w = s.2.2.2 * sumW ys (fun b => w (addE (tmE s) b))
  | [] => by simp [sumW]
  | t :: r => by
    rw [List.map_cons, sumW, sumW_raw1 s w r, sumW, Int.mul_add, ← Int.mul_assoc]
    rfl
theorem sumW_raw (ys : List Tm) (w : Int × Int × Int → Int) : ∀ xs : List Tm, sumW (mulRaw xs ys) w = sumW xs (fun a => sumW ys (fun b => w (addE a b)))
  | [] => rfl
  | s :: r => by
    have ih := sumW_raw ys w r
    unfold mulRaw at ih ⊢
    rw [List.flatMap_cons, sumW_append, ih, sumW_raw1, sumW]
theorem cfS_raw (xs ys : List Tm) (e : Int × Int × Int) : cfS (mulRaw xs ys) e = mulS xs ys e := by
  unfold cfS
  rw [sumW_raw, mulS_sumW]
/-- The product, to a linear function. -/
theorem sumW_prod {p : Int} {xs ys L : List Tm} (hx : ∀ t ∈ xs, mono12 (tmE t)) (hy : ∀ t ∈ ys, mono12 (tmE t)) (hL : IsP p L (mulF p xs ys)) (w : Int × Int × Int → Int) : sumW L w % p = sumW xs (fun a => sumW ys (fun b => w (addE a b))) % p := by
  rw [← sumW_raw]
  refine sumW_same (fun e => ?_) w
  rw [cfS_asc hL.1, cfS_raw]
  by_cases he : byte3 e
  · rw [hL.2.2 e he, mulF, Int.emod_emod_of_dvd _ (Int.dvd_refl p)]
  · rw [atL_none (ts := L) (fun t ht h => he (by rw [← h]; exact (hL.2.1 t ht).1.1))]
    have h0 : mulS xs ys e = 0 := Classical.byContradiction fun h => by
      obtain ⟨s, hs, t, ht, rfl⟩ := mulS_ne h
      obtain ⟨⟨⟨a1, _⟩, ⟨a2, _⟩, a3, _⟩, a4⟩ := hx s hs
      obtain ⟨⟨⟨b1, _⟩, ⟨b2, _⟩, b3, _⟩, b4⟩ := hy t ht
      exact he ⟨⟨by simp only [addE]; omega, by simp only [addE]; omega⟩, ⟨by simp only [addE]; omega, by simp only [addE]; omega⟩, by simp only [addE]; omega, by simp only [addE]; omega⟩
    rw [h0]
theorem addE_right (a b c : Int × Int × Int) : addE (addE a b) c = addE (addE a c) b := by
  simp only [addE]
  refine Prod.ext ?_ (Prod.ext ?_ ?_) <;> simp only [] <;> omega
/-- Two factors may be taken in either order. -/
theorem prod_swap {p : Int} {M' x g M L L' : List Tm} (h0 : ∀ t ∈ M', mono12 (tmE t)) (hx : ∀ t ∈ x, mono12 (tmE t)) (hg : ∀ t ∈ g, mono12 (tmE t)) (hM : IsP p M (mulF p M' x)) (hL : IsP p L (mulF p M g)) (hL' : IsP p L' (mulF p M' g)) : IsP p L (mulF p L' x) := by
  refine hL.congr fun e _ => ?_
  rw [mulF, mulF, mulS_sumW, mulS_sumW, sumW_prod h0 hx hM, sumW_prod h0 hg hL']
  congr 1
  refine sumW_congr fun t _ => ?_
  rw [sumW_swap]
  refine sumW_congr fun u _ => sumW_congr fun v _ => ?_
  rw [addE_right]
end Go.Proofs.YtbhgbifliihlbaaGreat
namespace Go.Proofs.YtbhgbifliihlbaaGreat
open Go.RowKit Go.Sort Go.Maps

/-- L has the terms of the product of the polynomials fs (the last factor first). -/
def PrR (p : Int) : List (List Tm) → List Tm → Prop
  | [], L => IsP p L (fun e => if e = (0, 0, 0) then 1 else 0)
  | g :: r, L => ∃ M, PrR p r M ∧ IsP p L (mulF p M g)
theorem PrR.unique {p : Int} : ∀ {fs : List (List Tm)} {L L' : List Tm}, PrR p fs L → PrR p fs L' → L = L'
  | [], _, _, h, h' => IsP.unique h h'
  | _ :: _, _, _, ⟨_, h1, h2⟩, ⟨_, h1', h2'⟩ => by
    obtain rfl := PrR.unique h1 h1'
    exact h2.unique h2'
theorem PrR.isP {p : Int} {L : List Tm} : ∀ {fs : List (List Tm)}, PrR p fs L → ∃ f, IsP p L f
  | [], h => ⟨_, h⟩
  | _ :: _, ⟨_, _, h⟩ => ⟨_, h⟩
/-- The degree bound of a product. -/
def sumD : List (List Tm) → Int
  | [] => 0
  | g :: r => max (degI g) 0 + sumD r
theorem sumD_nonneg : ∀ fs : List (List Tm), 0 ≤ sumD fs
  | [] => by simp [sumD]
  | g :: r => by
    have h1 := sumD_nonneg r
    have h2 : 0 ≤ max (degI g) 0 := Int.le_max_right _ _
    rw [sumD]
    omega
theorem PrR.deg {p d : Int} : ∀ {fs : List (List Tm)} {L : List Tm}, (∀ g ∈ fs, Valid p d g) → PrR p fs L → ∀ t ∈ L, t.1 + t.2.1 + t.2.2.1 ≤ sumD fs
  | [], L, _, h, t, ht => by
    have h1 := h.2.2 (tmE t) (h.2.1 t ht).1.1
    rw [atL_mem h.1 ht] at h1
    have h2 := (h.2.1 t ht).2.1
    by_cases hx : tmE t = (0, 0, 0)
    · simp [tmE] at hx
      obtain ⟨a, b, c⟩ := hx
      simp [a, b, c, sumD]
    · have h3 : t.2.2.2 = if tmE t = (0, 0, 0) then 1 else 0 := h1
      rw [if_neg hx] at h3
      omega
  | g :: r, L, hV, ⟨M, h, h'⟩, t, ht => by
    have h1 := h'.2.2 (tmE t) (h'.2.1 t ht).1.1
    rw [atL_mem h'.1 ht] at h1
    have h2 := (h'.2.1 t ht).2.1
    have h3 : mulS M g (tmE t) ≠ 0 := fun h0 => by
      rw [mulF, h0] at h1
      simp at h1
      omega
    obtain ⟨s, hs, u, hu, hx⟩ := mulS_ne h3
    have h4 := PrR.deg (fun g hg => hV g (by simp [hg])) h s hs
    have h5 := deg_le (hV g (by simp)) u hu
    have h6 : degI g ≤ max (degI g) 0 := Int.le_max_left _ _
    have h7 : t.1 + t.2.1 + t.2.2.1 = (s.1 + s.2.1 + s.2.2.1) + (u.1 + u.2.1 + u.2.2.1) := by
      have := sum_addE (tmE s) (tmE u)
      rw [hx] at this
      exact this
    rw [sumD]
    omega
/-- The next product keeps the bound. -/
theorem PrR.room {p d : Int} {fs : List (List Tm)} {M g : List Tm} (hV : ∀ g ∈ fs, Valid p d g) (h : PrR p fs M) (hd : sumD (g :: fs) ≤ 12) : M = [] ∨ g = [] ∨ degI M + degI g ≤ 12 := by
  by_cases hM : M = []
  · exact .inl hM
  refine .inr (.inr ?_)
  have h0 : degI M ≤ sumD fs := by
    unfold degI
    cases hl : M.getLast? with
    | none => exact absurd (List.getLast?_eq_none_iff.1 hl) hM
    | some u => exact h.deg hV u (List.mem_of_getLast? hl)
  have h1 : degI g ≤ max (degI g) 0 := Int.le_max_left _ _
  rw [sumD] at hd
  omega
theorem pr_ex {p d : Int} {x : List Tm} (hx : Valid p d x) : ∀ {fs : List (List Tm)}, (∀ g ∈ fs, Valid p d g) → sumD fs ≤ 12 → ∃ L, PrR p fs L
  | [], _, _ => ⟨_, (IsP.one hx.p2 (e := (0, 0, 0)) ⟨by unfold byte3; simp, by simp⟩ 1).congr fun a _ => by
      have h1 : (1 : Int) % p = 1 := Int.emod_eq_of_lt (by omega) (by have := hx.p2; omega)
      rw [h1]⟩
  | g :: r, hV, hd => by
    have hVr : ∀ g ∈ r, Valid p d g := fun g hg => hV g (by simp [hg])
    have hm : 0 ≤ max (degI g) 0 := Int.le_max_right _ _
    obtain ⟨M, hM⟩ := pr_ex hx hVr (by rw [sumD] at hd; omega)
    obtain ⟨f, hf⟩ := hM.isP
    have hVM := hx.of_isP hf
    obtain ⟨L, hL⟩ := mul_ex hVM (hV g (by simp)) (fits_of hVM (hV g (by simp)) (hM.room hVr hd))
    exact ⟨L, M, hM, hL⟩

/-- .. times a number. -/
def PrV (p v : Int) (fs : List (List Tm)) (L : List Tm) : Prop := ∃ M, PrR p fs M ∧ IsP p L (fun e => v * atL M e % p)
theorem PrV.step {p d v : Int} {fs : List (List Tm)} {g L L' : List Tm} (hV : ∀ g ∈ fs, Valid p d g) (hg : Valid p d g) (hd : sumD (g :: fs) ≤ 12) (h : PrV p v fs L) (h' : IsP p L' (mulF p L g)) : PrV p v (g :: fs) L' := by
  obtain ⟨M, hM, hL⟩ := h
  obtain ⟨f, hf⟩ := hM.isP
  have hVM := hg.of_isP hf
  obtain ⟨M', hM'⟩ := mul_ex hVM hg (fits_of hVM hg (hM.room hV hd))
  exact ⟨M', ⟨M, hM, hM'⟩, h'.congr fun e he => by rw [mulF_scale hL hf, hM'.2.2 e he]⟩
/-- A number times a product has no greater degrees. -/
theorem PrV.room {p d v : Int} {fs : List (List Tm)} {g L : List Tm} (hV : ∀ g ∈ fs, Valid p d g) (hd : sumD (g :: fs) ≤ 12) (h : PrV p v fs L) : L = [] ∨ g = [] ∨ degI L + degI g ≤ 12 := by
  obtain ⟨M, hM, hL⟩ := h
  by_cases hn : L = []
  · exact .inl hn
  refine .inr (.inr ?_)
  have h0 : degI L ≤ sumD fs := by
    unfold degI
    cases hl : L.getLast? with
    | none => exact absurd (List.getLast?_eq_none_iff.1 hl) hn
    | some u =>
      have hu := List.mem_of_getLast? hl
      have h1 := hL.2.2 (tmE u) (hL.2.1 u hu).1.1
      rw [atL_mem hL.1 hu] at h1
      have h2 := (hL.2.1 u hu).2.1
      by_cases hm : ∃ t ∈ M, tmE t = tmE u
      · obtain ⟨t, ht, hx⟩ := hm
        have h3 := hM.deg hV t ht
        simp [tmE] at hx
        show u.1 + u.2.1 + u.2.2.1 ≤ _
        omega
      · have h3 : atL M (tmE u) = 0 := atL_none fun t ht hx => hm ⟨t, ht, hx⟩
        simp only [h3, Int.mul_zero, Int.zero_emod] at h1
        omega
  have h1 : degI g ≤ max (degI g) 0 := Int.le_max_left _ _
  rw [sumD] at hd
  omega
end Go.Proofs.YtbhgbifliihlbaaGreat
