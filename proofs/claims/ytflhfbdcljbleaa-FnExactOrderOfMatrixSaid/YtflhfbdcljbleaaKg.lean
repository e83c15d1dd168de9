/-
  'MultiplyMatrices', 'InverseMatrix', 'DeterminantOf' of the model and of the program. Conditions: the numbers are bytes.
-/
import Derived.Test.YtflhfbdcljbleaaEh
import Derived.Test.YtflhfbdcljbleaaKb
import Derived.Test.YtflhfbdcljbleaaKc
import Derived.Test.YtflhfbdcljbleaaKf
import Derived.Test.YtflhfbdcljbleaaIsmLaw
namespace Go.Proofs.Ytflhfbdcljbleaa
open Go.RowKit Go.Sort EchM

theorem ismat_is (p n : Int) (g : Nat → Nat → Int) (w : World) (hg : Byt g) (B : Bool) (h : isMat p n g = B) :
    Calls Try.prog 11 #[.int .i64 p, .int .i64 n, (.agg #[.int .u8 (g 0 0), .int .u8 (g 0 1), .int .u8 (g 0 2), .int .u8 (g 1 0), .int .u8 (g 1 1), .int .u8 (g 1 2), .int .u8 (g 2 0), .int .u8 (g 2 1), .int .u8 (g 2 2)])] w fun e w' => e = .returned (.bool B) ∧ Below w.heap.size w w' := by subst h; exact isMatrix_any p n g w hg
theorem smat_is (p n : Int) (g : Nat → Nat → Int) (w : World) (hg : Byt g) (B : Bool) (h : isMat p n g = B) :
    Calls Try.prog 28 #[.int .i64 p, .int .i64 n, (.agg #[.int .u8 (g 0 0), .int .u8 (g 0 1), .int .u8 (g 0 2), .int .u8 (g 1 0), .int .u8 (g 1 1), .int .u8 (g 1 2), .int .u8 (g 2 0), .int .u8 (g 2 1), .int .u8 (g 2 2)])] w fun e w' => e = .returned (.bool B) ∧ Below w.heap.size w w' := by subst h; exact smat_any p n g w hg
/-- What a matrix is like. -/
structure MatV (p : Int) (m : Nat) (g : Nat → Nat → Int) : Prop where
  prime : PrimeS p
  h2 : 2 ≤ p
  h13 : p ≤ 13
  m1 : 1 ≤ m
  m3 : m ≤ 3
  bound : ∀ i, i < 3 → ∀ j, j < 3 → 0 ≤ g i j ∧ g i j < p
  out : Out0 m g
  det : detP p (fullM m g) ≠ 0
theorem matV_of {p n : Int} {g : Nat → Nat → Int} (hg : Byt g) (h : isMat p n g = true) : ∃ m : Nat, n = (m : Int) ∧ MatV p m g := by
  unfold isMat at h
  simp only [Bool.and_eq_true, decide_eq_true_eq] at h
  obtain ⟨h1, ⟨h2, h3⟩, h4, h5⟩ := h
  obtain ⟨m, rfl⟩ := Int.eq_ofNat_of_zero_le (show 0 ≤ n by omega)
  obtain ⟨a, b⟩ := pB_le h1
  exact ⟨m, rfl, pB_set h1, a, b, by omega, by omega, hasB_bound hg h4, hasB_out h4, h5⟩
theorem sprod_agg (p : Int) (n : Nat) (g h r : Nat → Nat → Int) (w : World) (hg : MatV p n g) (hh : MatV p n h) (hr : prodM p g h = r) :
    Calls Try.prog 34 #[.int .i64 p, .int .i64 (n : Int), (.agg #[.int .u8 (g 0 0), .int .u8 (g 0 1), .int .u8 (g 0 2), .int .u8 (g 1 0), .int .u8 (g 1 1), .int .u8 (g 1 2), .int .u8 (g 2 0), .int .u8 (g 2 1), .int .u8 (g 2 2)]), (.agg #[.int .u8 (h 0 0), .int .u8 (h 0 1), .int .u8 (h 0 2), .int .u8 (h 1 0), .int .u8 (h 1 1), .int .u8 (h 1 2), .int .u8 (h 2 0), .int .u8 (h 2 1), .int .u8 (h 2 2)])] w fun e w' => e = .returned (.agg #[.int .u8 (r 0 0), .int .u8 (r 0 1), .int .u8 (r 0 2), .int .u8 (r 1 0), .int .u8 (r 1 1), .int .u8 (r 1 2), .int .u8 (r 2 0), .int .u8 (r 2 1), .int .u8 (r 2 2)]) ∧ Below w.heap.size w w' := by
  subst hr; exact sprod p n g h w hg.h2 hg.h13 hg.bound hh.bound hg.m3 hg.out hh.out
theorem iprod_agg (p : Int) (n : Nat) (g h r : Nat → Nat → Int) (w : World) (hg : MatV p n g) (hh : MatV p n h) (hr : prodM p g h = r) :
    Calls Try.prog 35 #[.int .i64 p, (.agg #[.int .u8 (g 0 0), .int .u8 (g 0 1), .int .u8 (g 0 2), .int .u8 (g 1 0), .int .u8 (g 1 1), .int .u8 (g 1 2), .int .u8 (g 2 0), .int .u8 (g 2 1), .int .u8 (g 2 2)]), (.agg #[.int .u8 (h 0 0), .int .u8 (h 0 1), .int .u8 (h 0 2), .int .u8 (h 1 0), .int .u8 (h 1 1), .int .u8 (h 1 2), .int .u8 (h 2 0), .int .u8 (h 2 1), .int .u8 (h 2 2)])] w fun e w' => e = .returned (.agg #[.int .u8 (r 0 0), .int .u8 (r 0 1), .int .u8 (r 0 2), .int .u8 (r 1 0), .int .u8 (r 1 1), .int .u8 (r 1 2), .int .u8 (r 2 0), .int .u8 (r 2 1), .int .u8 (r 2 2)]) ∧ Below w.heap.size w w' := by
  subst hr; exact iprod p g h w hg.h2 hg.h13 hg.bound hh.bound
/-- What 'MultiplyMatrices' gives. -/
def mulR (p n : Int) (g h : Nat → Nat → Int) : (Nat → Nat → Int) × Int := if isMat p n g && isMat p n h then (prodM p g h, 0) else (fun _ _ => 0, 2)

set_option maxRecDepth 8000 in
set_option maxHeartbeats 4000000 in
theorem smul (p n : Int) (g h : Nat → Nat → Int) (w : World) (hg : Byt g) (hh : Byt h) :
    Calls Try.prog 12 #[.int .i64 p, .int .i64 n, mv g, mv h] w fun e w' => e = .returned (.tuple #[mv (mulR p n g h).1, .int .i64 (mulR p n g h).2]) ∧ Below w.heap.size w w' := by
  obtain ⟨W, hW, rG, rH, rR, hbW, hWs⟩ : ∃ W, W = ((w.alloc (.cells #[.int .u8 (g 0 0), .int .u8 (g 0 1), .int .u8 (g 0 2), .int .u8 (g 1 0), .int .u8 (g 1 1), .int .u8 (g 1 2), .int .u8 (g 2 0), .int .u8 (g 2 1), .int .u8 (g 2 2)] 25)).alloc (.cells #[.int .u8 (h 0 0), .int .u8 (h 0 1), .int .u8 (h 0 2), .int .u8 (h 1 0), .int .u8 (h 1 1), .int .u8 (h 1 2), .int .u8 (h 2 0), .int .u8 (h 2 1), .int .u8 (h 2 2)] 25)).alloc (.cells #[.int .u8 0, .int .u8 0, .int .u8 0, .int .u8 0, .int .u8 0, .int .u8 0, .int .u8 0, .int .u8 0, .int .u8 0] 25) ∧
      W.rowIs w.heap.size 25 9 (mF g) ∧ W.rowIs (w.heap.size + 1) 25 9 (mF h) ∧ W.rowIs (w.heap.size + 2) 25 9 (mF fun _ _ => 0) ∧ Below w.heap.size w W ∧ w.heap.size + 3 ≤ W.heap.size := by
    refine ⟨_, rfl, ((mbox w g _).alloc _).alloc _, ?_, ?_, (ebox2 _ _ _).alloc (by simp; omega) _, by simp⟩
    · have := mbox (w.alloc (.cells #[.int .u8 (g 0 0), .int .u8 (g 0 1), .int .u8 (g 0 2), .int .u8 (g 1 0), .int .u8 (g 1 1), .int .u8 (g 1 2), .int .u8 (g 2 0), .int .u8 (g 2 1), .int .u8 (g 2 2)] 25)) h 25
      rw [World.size_alloc] at this
      exact this.alloc _
    · have := mbox ((w.alloc (.cells #[.int .u8 (g 0 0), .int .u8 (g 0 1), .int .u8 (g 0 2), .int .u8 (g 1 0), .int .u8 (g 1 1), .int .u8 (g 1 2), .int .u8 (g 2 0), .int .u8 (g 2 1), .int .u8 (g 2 2)] 25)).alloc (.cells #[.int .u8 (h 0 0), .int .u8 (h 0 1), .int .u8 (h 0 2), .int .u8 (h 1 0), .int .u8 (h 1 1), .int .u8 (h 1 2), .int .u8 (h 2 0), .int .u8 (h 2 1), .int .u8 (h 2 2)] 25)) (fun _ _ => 0) 25
      rw [World.size_alloc, World.size_alloc] at this
      exact this
  have HG := Lib.hid hg
  have HH := Lib.hid hh
  obtain ⟨⟨c0, c1, c2⟩, ⟨c3, c4, c5⟩, c6, c7, c8⟩ := mcells rG
  cases h1 : isMat p n g
  · have HX := Lib.hid (show mulR p n g h = (fun _ _ => 0, 2) by simp [mulR, h1])
    have H1 := Lib.hid h1
    clear h1 hg hh
    unfold mv
    go_enter Try.func12, Try.ntmps12
    go_upto_region 1 with fail
    rw [← hW]
    clear hW
    go_wp2_with fail
    ((with_reducible refine (smat_is p n g _ HG.out false H1.out).mono ?_); rintro e w1 ⟨rfl, hb1⟩)
    have rR1 := erow_below rR hb1 rR.lt
    have hbw1 := hbW.trans (hb1.mono hbW.size)
    obtain ⟨⟨y0, y1, y2⟩, ⟨y3, y4, y5⟩, y6, y7, y8⟩ := mcells rR1
    have zz0 := World.rowIs.frozen rR1 0
    have zz1 := World.rowIs.frozen rR1 1
    have zz2 := World.rowIs.frozen rR1 2
    have zz3 := World.rowIs.frozen rR1 3
    have zz4 := World.rowIs.frozen rR1 4
    have zz5 := World.rowIs.frozen rR1 5
    have zz6 := World.rowIs.frozen rR1 6
    have zz7 := World.rowIs.frozen rR1 7
    have zz8 := World.rowIs.frozen rR1 8
    obtain ⟨hf1, hf2⟩ := mfill (w := w) (B := w.heap.size) rR1 hbw1 (by omega) (fun _ _ => 0)
    obtain ⟨⟨v0, v1, v2⟩, ⟨v3, v4, v5⟩, v6, v7, v8⟩ := mcells hf1
    have V0 := Lib.hid v0
    have V1 := Lib.hid v1
    have V2 := Lib.hid v2
    have V3 := Lib.hid v3
    have V4 := Lib.hid v4
    have V5 := Lib.hid v5
    have V6 := Lib.hid v6
    have V7 := Lib.hid v7
    have V8 := Lib.hid v8
    have HF2 := Lib.hid hf2
    clear hf1 hf2 v0 v1 v2 v3 v4 v5 v6 v7 v8
    go_wp2_with fail
    exact bodyPost_ret (v := .tuple #[mv (fun _ _ => 0), .int .i64 2]) (by simp [results, Try.results12, go_sem, mv, V0.out, V1.out, V2.out, V3.out, V4.out, V5.out, V6.out, V7.out, V8.out]) rfl ⟨by rw [HX.out]; rfl, HF2.out⟩
  · cases h2 : isMat p n h
    · have HX := Lib.hid (show mulR p n g h = (fun _ _ => 0, 2) by simp [mulR, h1, h2])
      have H1 := Lib.hid h1
      have H2 := Lib.hid h2
      clear h1 h2 hg hh
      unfold mv
      go_enter Try.func12, Try.ntmps12
      go_upto_region 1 with fail
      rw [← hW]
      clear hW
      go_wp2_with fail
      ((with_reducible refine (smat_is p n g _ HG.out true H1.out).mono ?_); rintro e w1 ⟨rfl, hb1⟩)
      clear c0 c1 c2 c3 c4 c5 c6 c7 c8
      obtain ⟨⟨c0, c1, c2⟩, ⟨c3, c4, c5⟩, c6, c7, c8⟩ := mcells (erow_below rH hb1 rH.lt)
      go_wp2_with fail
      ((with_reducible refine (smat_is p n h _ HH.out false H2.out).mono ?_); rintro e w2 ⟨rfl, hb2⟩)
      have hb12 := hb1.trans (hb2.mono hb1.size)
      have rR1 := erow_below rR hb12 rR.lt
      have hbw1 := hbW.trans (hb12.mono hbW.size)
      obtain ⟨⟨y0, y1, y2⟩, ⟨y3, y4, y5⟩, y6, y7, y8⟩ := mcells rR1
      have zz0 := World.rowIs.frozen rR1 0
      have zz1 := World.rowIs.frozen rR1 1
      have zz2 := World.rowIs.frozen rR1 2
      have zz3 := World.rowIs.frozen rR1 3
      have zz4 := World.rowIs.frozen rR1 4
      have zz5 := World.rowIs.frozen rR1 5
      have zz6 := World.rowIs.frozen rR1 6
      have zz7 := World.rowIs.frozen rR1 7
      have zz8 := World.rowIs.frozen rR1 8
      obtain ⟨hf1, hf2⟩ := mfill (w := w) (B := w.heap.size) rR1 hbw1 (by omega) (fun _ _ => 0)
      obtain ⟨⟨v0, v1, v2⟩, ⟨v3, v4, v5⟩, v6, v7, v8⟩ := mcells hf1
      have V0 := Lib.hid v0
      have V1 := Lib.hid v1
      have V2 := Lib.hid v2
      have V3 := Lib.hid v3
      have V4 := Lib.hid v4
      have V5 := Lib.hid v5
      have V6 := Lib.hid v6
      have V7 := Lib.hid v7
      have V8 := Lib.hid v8
      have HF2 := Lib.hid hf2
      clear hf1 hf2 v0 v1 v2 v3 v4 v5 v6 v7 v8
      go_wp2_with fail
      exact bodyPost_ret (v := .tuple #[mv (fun _ _ => 0), .int .i64 2]) (by simp [results, Try.results12, go_sem, mv, V0.out, V1.out, V2.out, V3.out, V4.out, V5.out, V6.out, V7.out, V8.out]) rfl ⟨by rw [HX.out]; rfl, HF2.out⟩
    · obtain ⟨r, hr⟩ : ∃ r, prodM p g h = r := ⟨_, rfl⟩
      have HX := Lib.hid (show mulR p n g h = (r, 0) by simp [mulR, h1, h2, hr])
      obtain ⟨m, rfl, hv⟩ := matV_of hg h1
      obtain ⟨m', hm', hv'⟩ := matV_of hh h2
      obtain rfl : m = m' := by omega
      have HR := Lib.hid hr
      have H1 := Lib.hid h1
      have H2 := Lib.hid h2
      clear h1 h2 hg hh hr hm'
      unfold mv
      go_enter Try.func12, Try.ntmps12
      go_upto_region 1 with fail
      rw [← hW]
      clear hW
      go_wp2_with fail
      ((with_reducible refine (smat_is p m g _ HG.out true H1.out).mono ?_); rintro e w1 ⟨rfl, hb1⟩)
      clear c0 c1 c2 c3 c4 c5 c6 c7 c8
      obtain ⟨⟨c0, c1, c2⟩, ⟨c3, c4, c5⟩, c6, c7, c8⟩ := mcells (erow_below rH hb1 rH.lt)
      go_wp2_with fail
      ((with_reducible refine (smat_is p m h _ HH.out true H2.out).mono ?_); rintro e w2 ⟨rfl, hb2⟩)
      have hb12 := hb1.trans (hb2.mono hb1.size)
      clear c0 c1 c2 c3 c4 c5 c6 c7 c8
      obtain ⟨⟨c0, c1, c2⟩, ⟨c3, c4, c5⟩, c6, c7, c8⟩ := mcells (erow_below rH hb12 rH.lt)
      obtain ⟨⟨d0, d1, d2⟩, ⟨d3, d4, d5⟩, d6, d7, d8⟩ := mcells (erow_below rG hb12 rG.lt)
      go_wp2_with fail
      ((with_reducible refine (sprod_agg p m g h r _ hv hv' HR.out).mono ?_); rintro e w3 ⟨rfl, hb3⟩)
      have hb13 := hb12.trans (hb3.mono hb12.size)
      have rR1 := erow_below rR hb13 rR.lt
      have hbw1 := hbW.trans (hb13.mono hbW.size)
      clear c0 c1 c2 c3 c4 c5 c6 c7 c8 d0 d1 d2 d3 d4 d5 d6 d7 d8
      obtain ⟨⟨y0, y1, y2⟩, ⟨y3, y4, y5⟩, y6, y7, y8⟩ := mcells rR1
      have zz0 := World.rowIs.frozen rR1 0
      have zz1 := World.rowIs.frozen rR1 1
      have zz2 := World.rowIs.frozen rR1 2
      have zz3 := World.rowIs.frozen rR1 3
      have zz4 := World.rowIs.frozen rR1 4
      have zz5 := World.rowIs.frozen rR1 5
      have zz6 := World.rowIs.frozen rR1 6
      have zz7 := World.rowIs.frozen rR1 7
      have zz8 := World.rowIs.frozen rR1 8
      obtain ⟨hf1, hf2⟩ := mfill (w := w) (B := w.heap.size) rR1 hbw1 (by omega) r
      obtain ⟨⟨v0, v1, v2⟩, ⟨v3, v4, v5⟩, v6, v7, v8⟩ := mcells hf1
      have V0 := Lib.hid v0
      have V1 := Lib.hid v1
      have V2 := Lib.hid v2
      have V3 := Lib.hid v3
      have V4 := Lib.hid v4
      have V5 := Lib.hid v5
      have V6 := Lib.hid v6
      have V7 := Lib.hid v7
      have V8 := Lib.hid v8
      have HF2 := Lib.hid hf2
      clear hf1 hf2 v0 v1 v2 v3 v4 v5 v6 v7 v8
      go_wp2_with fail
      exact bodyPost_ret (v := .tuple #[mv r, .int .i64 0]) (by simp [results, Try.results12, go_sem, mv, V0.out, V1.out, V2.out, V3.out, V4.out, V5.out, V6.out, V7.out, V8.out]) rfl ⟨by rw [HX.out]; rfl, HF2.out⟩

set_option maxRecDepth 8000 in
set_option maxHeartbeats 4000000 in
theorem imul (p n : Int) (g h : Nat → Nat → Int) (w : World) (hg : Byt g) (hh : Byt h) :
    Calls Try.prog 13 #[.int .i64 p, .int .i64 n, mv g, mv h] w fun e w' => e = .returned (.tuple #[mv (mulR p n g h).1, .int .i64 (mulR p n g h).2]) ∧ Below w.heap.size w w' := by
  obtain ⟨W, hW, rG, rH, rR, hbW, hWs⟩ : ∃ W, W = ((w.alloc (.cells #[.int .u8 (g 0 0), .int .u8 (g 0 1), .int .u8 (g 0 2), .int .u8 (g 1 0), .int .u8 (g 1 1), .int .u8 (g 1 2), .int .u8 (g 2 0), .int .u8 (g 2 1), .int .u8 (g 2 2)] 25)).alloc (.cells #[.int .u8 (h 0 0), .int .u8 (h 0 1), .int .u8 (h 0 2), .int .u8 (h 1 0), .int .u8 (h 1 1), .int .u8 (h 1 2), .int .u8 (h 2 0), .int .u8 (h 2 1), .int .u8 (h 2 2)] 25)).alloc (.cells #[.int .u8 0, .int .u8 0, .int .u8 0, .int .u8 0, .int .u8 0, .int .u8 0, .int .u8 0, .int .u8 0, .int .u8 0] 25) ∧
      W.rowIs w.heap.size 25 9 (mF g) ∧ W.rowIs (w.heap.size + 1) 25 9 (mF h) ∧ W.rowIs (w.heap.size + 2) 25 9 (mF fun _ _ => 0) ∧ Below w.heap.size w W ∧ w.heap.size + 3 ≤ W.heap.size := by
    refine ⟨_, rfl, ((mbox w g _).alloc _).alloc _, ?_, ?_, (ebox2 _ _ _).alloc (by simp; omega) _, by simp⟩
    · have := mbox (w.alloc (.cells #[.int .u8 (g 0 0), .int .u8 (g 0 1), .int .u8 (g 0 2), .int .u8 (g 1 0), .int .u8 (g 1 1), .int .u8 (g 1 2), .int .u8 (g 2 0), .int .u8 (g 2 1), .int .u8 (g 2 2)] 25)) h 25
      rw [World.size_alloc] at this
      exact this.alloc _
    · have := mbox ((w.alloc (.cells #[.int .u8 (g 0 0), .int .u8 (g 0 1), .int .u8 (g 0 2), .int .u8 (g 1 0), .int .u8 (g 1 1), .int .u8 (g 1 2), .int .u8 (g 2 0), .int .u8 (g 2 1), .int .u8 (g 2 2)] 25)).alloc (.cells #[.int .u8 (h 0 0), .int .u8 (h 0 1), .int .u8 (h 0 2), .int .u8 (h 1 0), .int .u8 (h 1 1), .int .u8 (h 1 2), .int .u8 (h 2 0), .int .u8 (h 2 1), .int .u8 (h 2 2)] 25)) (fun _ _ => 0) 25
      rw [World.size_alloc, World.size_alloc] at this
      exact this
  have HG := Lib.hid hg
  have HH := Lib.hid hh
  obtain ⟨⟨c0, c1, c2⟩, ⟨c3, c4, c5⟩, c6, c7, c8⟩ := mcells rG
  cases h1 : isMat p n g
  · have HX := Lib.hid (show mulR p n g h = (fun _ _ => 0, 2) by simp [mulR, h1])
    have H1 := Lib.hid h1
    clear h1 hg hh
    unfold mv
    go_enter Try.func13, Try.ntmps13
    go_upto_region 1 with fail
    rw [← hW]
    clear hW
    go_wp2_with fail
    ((with_reducible refine (ismat_is p n g _ HG.out false H1.out).mono ?_); rintro e w1 ⟨rfl, hb1⟩)
    have rR1 := erow_below rR hb1 rR.lt
    have hbw1 := hbW.trans (hb1.mono hbW.size)
    obtain ⟨⟨y0, y1, y2⟩, ⟨y3, y4, y5⟩, y6, y7, y8⟩ := mcells rR1
    have zz0 := World.rowIs.frozen rR1 0
    have zz1 := World.rowIs.frozen rR1 1
    have zz2 := World.rowIs.frozen rR1 2
    have zz3 := World.rowIs.frozen rR1 3
    have zz4 := World.rowIs.frozen rR1 4
    have zz5 := World.rowIs.frozen rR1 5
    have zz6 := World.rowIs.frozen rR1 6
    have zz7 := World.rowIs.frozen rR1 7
    have zz8 := World.rowIs.frozen rR1 8
    obtain ⟨hf1, hf2⟩ := mfill (w := w) (B := w.heap.size) rR1 hbw1 (by omega) (fun _ _ => 0)
    obtain ⟨⟨v0, v1, v2⟩, ⟨v3, v4, v5⟩, v6, v7, v8⟩ := mcells hf1
    have V0 := Lib.hid v0
    have V1 := Lib.hid v1
    have V2 := Lib.hid v2
    have V3 := Lib.hid v3
    have V4 := Lib.hid v4
    have V5 := Lib.hid v5
    have V6 := Lib.hid v6
    have V7 := Lib.hid v7
    have V8 := Lib.hid v8
    have HF2 := Lib.hid hf2
    clear hf1 hf2 v0 v1 v2 v3 v4 v5 v6 v7 v8
    go_wp2_with fail
    exact bodyPost_ret (v := .tuple #[mv (fun _ _ => 0), .int .i64 2]) (by simp [results, Try.results13, go_sem, mv, V0.out, V1.out, V2.out, V3.out, V4.out, V5.out, V6.out, V7.out, V8.out]) rfl ⟨by rw [HX.out]; rfl, HF2.out⟩
  · cases h2 : isMat p n h
    · have HX := Lib.hid (show mulR p n g h = (fun _ _ => 0, 2) by simp [mulR, h1, h2])
      have H1 := Lib.hid h1
      have H2 := Lib.hid h2
      clear h1 h2 hg hh
      unfold mv
      go_enter Try.func13, Try.ntmps13
      go_upto_region 1 with fail
      rw [← hW]
      clear hW
      go_wp2_with fail
      ((with_reducible refine (ismat_is p n g _ HG.out true H1.out).mono ?_); rintro e w1 ⟨rfl, hb1⟩)
      clear c0 c1 c2 c3 c4 c5 c6 c7 c8
      obtain ⟨⟨c0, c1, c2⟩, ⟨c3, c4, c5⟩, c6, c7, c8⟩ := mcells (erow_below rH hb1 rH.lt)
      go_wp2_with fail
      ((with_reducible refine (ismat_is p n h _ HH.out false H2.out).mono ?_); rintro e w2 ⟨rfl, hb2⟩)
      have hb12 := hb1.trans (hb2.mono hb1.size)
      have rR1 := erow_below rR hb12 rR.lt
      have hbw1 := hbW.trans (hb12.mono hbW.size)
      obtain ⟨⟨y0, y1, y2⟩, ⟨y3, y4, y5⟩, y6, y7, y8⟩ := mcells rR1
      have zz0 := World.rowIs.frozen rR1 0
      have zz1 := World.rowIs.frozen rR1 1
      have zz2 := World.rowIs.frozen rR1 2
      have zz3 := World.rowIs.frozen rR1 3
      have zz4 := World.rowIs.frozen rR1 4
      have zz5 := World.rowIs.frozen rR1 5
      have zz6 := World.rowIs.frozen rR1 6
      have zz7 := World.rowIs.frozen rR1 7
      have zz8 := World.rowIs.frozen rR1 8
      obtain ⟨hf1, hf2⟩ := mfill (w := w) (B := w.heap.size) rR1 hbw1 (by omega) (fun _ _ => 0)
      obtain ⟨⟨v0, v1, v2⟩, ⟨v3, v4, v5⟩, v6, v7, v8⟩ := mcells hf1
      have V0 := Lib.hid v0
      have V1 := Lib.hid v1
      have V2 := Lib.hid v2
      have V3 := Lib.hid v3
      have V4 := Lib.hid v4
      have V5 := Lib.hid v5
      have V6 := Lib.hid v6
      have V7 := Lib.hid v7
      have V8 := Lib.hid v8
      have HF2 := Lib.hid hf2
      clear hf1 hf2 v0 v1 v2 v3 v4 v5 v6 v7 v8
      go_wp2_with fail
      exact bodyPost_ret (v := .tuple #[mv (fun _ _ => 0), .int .i64 2]) (by simp [results, Try.results13, go_sem, mv, V0.out, V1.out, V2.out, V3.out, V4.out, V5.out, V6.out, V7.out, V8.out]) rfl ⟨by rw [HX.out]; rfl, HF2.out⟩
    · obtain ⟨r, hr⟩ : ∃ r, prodM p g h = r := ⟨_, rfl⟩
      have HX := Lib.hid (show mulR p n g h = (r, 0) by simp [mulR, h1, h2, hr])
      obtain ⟨m, rfl, hv⟩ := matV_of hg h1
      obtain ⟨m', hm', hv'⟩ := matV_of hh h2
      obtain rfl : m = m' := by omega
      have HR := Lib.hid hr
      have H1 := Lib.hid h1
      have H2 := Lib.hid h2
      clear h1 h2 hg hh hr hm'
      unfold mv
      go_enter Try.func13, Try.ntmps13
      go_upto_region 1 with fail
      rw [← hW]
      clear hW
      go_wp2_with fail
      ((with_reducible refine (ismat_is p m g _ HG.out true H1.out).mono ?_); rintro e w1 ⟨rfl, hb1⟩)
      clear c0 c1 c2 c3 c4 c5 c6 c7 c8
      obtain ⟨⟨c0, c1, c2⟩, ⟨c3, c4, c5⟩, c6, c7, c8⟩ := mcells (erow_below rH hb1 rH.lt)
      go_wp2_with fail
      ((with_reducible refine (ismat_is p m h _ HH.out true H2.out).mono ?_); rintro e w2 ⟨rfl, hb2⟩)
      have hb12 := hb1.trans (hb2.mono hb1.size)
      clear c0 c1 c2 c3 c4 c5 c6 c7 c8
      obtain ⟨⟨c0, c1, c2⟩, ⟨c3, c4, c5⟩, c6, c7, c8⟩ := mcells (erow_below rH hb12 rH.lt)
      obtain ⟨⟨d0, d1, d2⟩, ⟨d3, d4, d5⟩, d6, d7, d8⟩ := mcells (erow_below rG hb12 rG.lt)
      go_wp2_with fail
      ((with_reducible refine (iprod_agg p m g h r _ hv hv' HR.out).mono ?_); rintro e w3 ⟨rfl, hb3⟩)
      have hb13 := hb12.trans (hb3.mono hb12.size)
      have rR1 := erow_below rR hb13 rR.lt
      have hbw1 := hbW.trans (hb13.mono hbW.size)
      clear c0 c1 c2 c3 c4 c5 c6 c7 c8 d0 d1 d2 d3 d4 d5 d6 d7 d8
      obtain ⟨⟨y0, y1, y2⟩, ⟨y3, y4, y5⟩, y6, y7, y8⟩ := mcells rR1
      have zz0 := World.rowIs.frozen rR1 0
      have zz1 := World.rowIs.frozen rR1 1
      have zz2 := World.rowIs.frozen rR1 2
      have zz3 := World.rowIs.frozen rR1 3
      have zz4 := World.rowIs.frozen rR1 4
      have zz5 := World.rowIs.frozen rR1 5
      have zz6 := World.rowIs.frozen rR1 6
      have zz7 := World.rowIs.frozen rR1 7
      have zz8 := World.rowIs.frozen rR1 8
      obtain ⟨hf1, hf2⟩ := mfill (w := w) (B := w.heap.size) rR1 hbw1 (by omega) r
      obtain ⟨⟨v0, v1, v2⟩, ⟨v3, v4, v5⟩, v6, v7, v8⟩ := mcells hf1
      have V0 := Lib.hid v0
      have V1 := Lib.hid v1
      have V2 := Lib.hid v2
      have V3 := Lib.hid v3
      have V4 := Lib.hid v4
      have V5 := Lib.hid v5
      have V6 := Lib.hid v6
      have V7 := Lib.hid v7
      have V8 := Lib.hid v8
      have HF2 := Lib.hid hf2
      clear hf1 hf2 v0 v1 v2 v3 v4 v5 v6 v7 v8
      go_wp2_with fail
      exact bodyPost_ret (v := .tuple #[mv r, .int .i64 0]) (by simp [results, Try.results13, go_sem, mv, V0.out, V1.out, V2.out, V3.out, V4.out, V5.out, V6.out, V7.out, V8.out]) rfl ⟨by rw [HX.out]; rfl, HF2.out⟩
end Go.Proofs.Ytflhfbdcljbleaa
