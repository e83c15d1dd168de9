/-
  'InverseMatrix', 'DeterminantOf' of the model and of the program. Conditions: the numbers are bytes.
-/
import Derived.Test.YtflhfbdcljbleaaKg
namespace Go.Proofs.Ytflhfbdcljbleaa
open Go.RowKit Go.Sort EchM

theorem sdet_agg (p : Int) (n : Nat) (g : Nat → Nat → Int) (D : Int) (w : World) (hg : MatV p n g) (hD : detP p (fullM n g) = D) :
    Calls Try.prog 39 #[.int .i64 p, .int .i64 (n : Int), (.agg #[.int .u8 (g 0 0), .int .u8 (g 0 1), .int .u8 (g 0 2), .int .u8 (g 1 0), .int .u8 (g 1 1), .int .u8 (g 1 2), .int .u8 (g 2 0), .int .u8 (g 2 1), .int .u8 (g 2 2)])] w fun e w' => e = .returned (.int .i64 D) ∧ Below w.heap.size w w' := by subst hD; exact sdet p n g w hg.h2 hg.h13 hg.m3 hg.bound
theorem idet_agg (p : Int) (n : Nat) (g : Nat → Nat → Int) (D : Int) (w : World) (hg : MatV p n g) (hD : detP p (fullM n g) = D) :
    Calls Try.prog 33 #[.int .i64 p, .int .i64 (n : Int), (.agg #[.int .u8 (g 0 0), .int .u8 (g 0 1), .int .u8 (g 0 2), .int .u8 (g 1 0), .int .u8 (g 1 1), .int .u8 (g 1 2), .int .u8 (g 2 0), .int .u8 (g 2 1), .int .u8 (g 2 2)])] w fun e w' => e = .returned (.int .i64 D) ∧ Below w.heap.size w w' := by subst hD; exact det_any p n g w hg.h2 hg.h13 hg.m1 hg.m3 hg.bound
def detR (p n : Int) (g : Nat → Nat → Int) : Int × Int := if isMat p n g then (detP p (fullM n.toNat g), 0) else (0, 2)
def invF (p : Int) (n : Nat) (g : Nat → Nat → Int) : Nat → Nat → Int := cutM n (hM p (epowI p (detP p (fullM n g)) (p - 2).toNat) (fullM n g))
def invR (p n : Int) (g : Nat → Nat → Int) : (Nat → Nat → Int) × Int := if isMat p n g then (invF p n.toNat g, 0) else (fun _ _ => 0, 2)
theorem iinv_agg (p : Int) (n : Nat) (g r : Nat → Nat → Int) (w : World) (hg : MatV p n g) (hr : invF p n g = r) :
    Calls Try.prog 38 #[.int .i64 p, .int .i64 (n : Int), (.agg #[.int .u8 (g 0 0), .int .u8 (g 0 1), .int .u8 (g 0 2), .int .u8 (g 1 0), .int .u8 (g 1 1), .int .u8 (g 1 2), .int .u8 (g 2 0), .int .u8 (g 2 1), .int .u8 (g 2 2)])] w fun e w' => e = .returned (.agg #[.int .u8 (r 0 0), .int .u8 (r 0 1), .int .u8 (r 0 2), .int .u8 (r 1 0), .int .u8 (r 1 1), .int .u8 (r 1 2), .int .u8 (r 2 0), .int .u8 (r 2 1), .int .u8 (r 2 2)]) ∧ Below w.heap.size w w' := by subst hr; exact iinv p n g w hg.h2 hg.h13 hg.m1 hg.m3 hg.bound
theorem inv_same {p : Int} {n : Nat} {g : Nat → Nat → Int} (hg : MatV p n g) : okR n (echL p (gRows n g)) ∧ cutM n (behind n (echL p (gRows n g))) = invF p n g := by
  obtain ⟨h1, h2⟩ := ech_mat hg.prime hg.m1 hg.m3 (g := g) (fun i hi j hj => hg.bound i (by have := hg.m3; omega) j (by have := hg.m3; omega)) hg.out
  refine ⟨h1.2 hg.det, ?_⟩
  have hb := detP_bound hg.h2 (fullM n g)
  have hd := hg.det
  rw [h2 _ (epow_inv hg.prime (x := detP p (fullM n g)) (by omega) hb.2)]
  funext i j
  unfold invF cutM
  by_cases h : i < n ∧ j < n
  · rw [if_pos h, if_pos h]
    unfold behind
    have e : (uRows n (hM p (epowI p (detP p (fullM n g)) (p - 2).toNat) (fullM n g))).getD i [] = uRow n (hM p (epowI p (detP p (fullM n g)) (p - 2).toNat) (fullM n g)) i := by
      simp [uRows, h.1]
    rw [e, uRow, nth_rowF _ (by omega), if_neg (by omega), show n + j - n = j by omega]
  · rw [if_neg h, if_neg h]
theorem sinv_is (p : Int) (n : Nat) (g r : Nat → Nat → Int) (w : World) (hg : MatV p n g) (hr : invF p n g = r) :
    Calls Try.prog 37 #[.int .i64 p, .int .i64 (n : Int), (.agg #[.int .u8 (g 0 0), .int .u8 (g 0 1), .int .u8 (g 0 2), .int .u8 (g 1 0), .int .u8 (g 1 1), .int .u8 (g 1 2), .int .u8 (g 2 0), .int .u8 (g 2 1), .int .u8 (g 2 2)])] w fun e w' => e = .returned (.tuple #[(.agg #[.int .u8 (r 0 0), .int .u8 (r 0 1), .int .u8 (r 0 2), .int .u8 (r 1 0), .int .u8 (r 1 1), .int .u8 (r 1 2), .int .u8 (r 2 0), .int .u8 (r 2 1), .int .u8 (r 2 2)]), .bool true]) ∧ Below w.heap.size w w' := by
  subst hr
  obtain ⟨ho, he⟩ := inv_same hg
  refine (sinv_agg p n g w hg.prime hg.m1 hg.m3 hg.bound).mono fun e w' ⟨⟨r, b, h1, h2, h3⟩, hb⟩ => ⟨?_, hb⟩
  have hbt : b = true := h2.2 ho
  have hrr := h3 hbt
  rw [he] at hrr
  rw [h1, hbt, hrr]

set_option maxRecDepth 8000 in
set_option maxHeartbeats 4000000 in
theorem sdetOf (p n : Int) (g : Nat → Nat → Int) (w : World) (hg : Byt g) :
    Calls Try.prog 17 #[.int .i64 p, .int .i64 n, (.agg #[.int .u8 (g 0 0), .int .u8 (g 0 1), .int .u8 (g 0 2), .int .u8 (g 1 0), .int .u8 (g 1 1), .int .u8 (g 1 2), .int .u8 (g 2 0), .int .u8 (g 2 1), .int .u8 (g 2 2)])] w fun e w' => e = .returned (.tuple #[.int .i64 (detR p n g).1, .int .i64 (detR p n g).2]) ∧ Below w.heap.size w w' := by
  obtain ⟨W, hW, rG, hbW⟩ : ∃ W, W = w.alloc (.cells #[.int .u8 (g 0 0), .int .u8 (g 0 1), .int .u8 (g 0 2), .int .u8 (g 1 0), .int .u8 (g 1 1), .int .u8 (g 1 2), .int .u8 (g 2 0), .int .u8 (g 2 1), .int .u8 (g 2 2)] 25) ∧ W.rowIs w.heap.size 25 9 (mF g) ∧ Below w.heap.size w W := ⟨_, rfl, mbox w g _, ebox1 _ _⟩
  have HG := Lib.hid hg
  cases h1 : isMat p n g
  · have HX := Lib.hid (show detR p n g = (0, 2) by simp [detR, h1])
    have H1 := Lib.hid h1
    clear h1 hg
    go_enter Try.func17, Try.ntmps17
    go_wp2_with fail
    rw [← hW]
    clear hW
    ((with_reducible refine (smat_is p n g _ HG.out false H1.out).mono ?_); rintro e w1 ⟨rfl, hb1⟩)
    have hbw1 := hbW.trans (hb1.mono hbW.size)
    go_wp2_with fail
    exact bodyPost_ret (v := .tuple #[.int .i64 0, .int .i64 2]) (by simp [results, Try.results17, go_sem]) rfl ⟨by rw [HX.out], hbw1⟩
  · obtain ⟨m, rfl, hv⟩ := matV_of hg h1
    obtain ⟨D, hD⟩ : ∃ D, detP p (fullM m g) = D := ⟨_, rfl⟩
    have HX := Lib.hid (show detR p m g = (D, 0) by simp [detR, h1, hD])
    have H1 := Lib.hid h1
    have HD := Lib.hid hD
    clear h1 hg hD
    go_enter Try.func17, Try.ntmps17
    go_wp2_with fail
    rw [← hW]
    clear hW
    ((with_reducible refine (smat_is p m g _ HG.out true H1.out).mono ?_); rintro e w1 ⟨rfl, hb1⟩)
    obtain ⟨⟨c0, c1, c2⟩, ⟨c3, c4, c5⟩, c6, c7, c8⟩ := mcells (erow_below rG hb1 rG.lt)
    go_wp2_with fail
    ((with_reducible refine (sdet_agg p m g D _ hv HD.out).mono ?_); rintro e w2 ⟨rfl, hb2⟩)
    have hbw1 := hbW.trans ((hb1.trans (hb2.mono hb1.size)).mono hbW.size)
    clear c0 c1 c2 c3 c4 c5 c6 c7 c8
    go_wp2_with fail
    exact bodyPost_ret (v := .tuple #[.int .i64 D, .int .i64 0]) (by simp [results, Try.results17, go_sem]) rfl ⟨by rw [HX.out], hbw1⟩

set_option maxRecDepth 8000 in
set_option maxHeartbeats 4000000 in
theorem idetOf (p n : Int) (g : Nat → Nat → Int) (w : World) (hg : Byt g) :
    Calls Try.prog 18 #[.int .i64 p, .int .i64 n, (.agg #[.int .u8 (g 0 0), .int .u8 (g 0 1), .int .u8 (g 0 2), .int .u8 (g 1 0), .int .u8 (g 1 1), .int .u8 (g 1 2), .int .u8 (g 2 0), .int .u8 (g 2 1), .int .u8 (g 2 2)])] w fun e w' => e = .returned (.tuple #[.int .i64 (detR p n g).1, .int .i64 (detR p n g).2]) ∧ Below w.heap.size w w' := by
  obtain ⟨W, hW, rG, hbW⟩ : ∃ W, W = w.alloc (.cells #[.int .u8 (g 0 0), .int .u8 (g 0 1), .int .u8 (g 0 2), .int .u8 (g 1 0), .int .u8 (g 1 1), .int .u8 (g 1 2), .int .u8 (g 2 0), .int .u8 (g 2 1), .int .u8 (g 2 2)] 25) ∧ W.rowIs w.heap.size 25 9 (mF g) ∧ Below w.heap.size w W := ⟨_, rfl, mbox w g _, ebox1 _ _⟩
  have HG := Lib.hid hg
  cases h1 : isMat p n g
  · have HX := Lib.hid (show detR p n g = (0, 2) by simp [detR, h1])
    have H1 := Lib.hid h1
    clear h1 hg
    go_enter Try.func18, Try.ntmps18
    go_wp2_with fail
    rw [← hW]
    clear hW
    ((with_reducible refine (ismat_is p n g _ HG.out false H1.out).mono ?_); rintro e w1 ⟨rfl, hb1⟩)
    have hbw1 := hbW.trans (hb1.mono hbW.size)
    go_wp2_with fail
    exact bodyPost_ret (v := .tuple #[.int .i64 0, .int .i64 2]) (by simp [results, Try.results18, go_sem]) rfl ⟨by rw [HX.out], hbw1⟩
  · obtain ⟨m, rfl, hv⟩ := matV_of hg h1
    obtain ⟨D, hD⟩ : ∃ D, detP p (fullM m g) = D := ⟨_, rfl⟩
    have HX := Lib.hid (show detR p m g = (D, 0) by simp [detR, h1, hD])
    have H1 := Lib.hid h1
    have HD := Lib.hid hD
    clear h1 hg hD
    go_enter Try.func18, Try.ntmps18
    go_wp2_with fail
    rw [← hW]
    clear hW
    ((with_reducible refine (ismat_is p m g _ HG.out true H1.out).mono ?_); rintro e w1 ⟨rfl, hb1⟩)
    obtain ⟨⟨c0, c1, c2⟩, ⟨c3, c4, c5⟩, c6, c7, c8⟩ := mcells (erow_below rG hb1 rG.lt)
    go_wp2_with fail
    ((with_reducible refine (idet_agg p m g D _ hv HD.out).mono ?_); rintro e w2 ⟨rfl, hb2⟩)
    have hbw1 := hbW.trans ((hb1.trans (hb2.mono hb1.size)).mono hbW.size)
    clear c0 c1 c2 c3 c4 c5 c6 c7 c8
    go_wp2_with fail
    exact bodyPost_ret (v := .tuple #[.int .i64 D, .int .i64 0]) (by simp [results, Try.results18, go_sem]) rfl ⟨by rw [HX.out], hbw1⟩

set_option maxRecDepth 8000 in
set_option maxHeartbeats 4000000 in
theorem sinvOf (p n : Int) (g : Nat → Nat → Int) (w : World) (hg : Byt g) :
    Calls Try.prog 15 #[.int .i64 p, .int .i64 n, mv g] w fun e w' => e = .returned (.tuple #[mv (invR p n g).1, .int .i64 (invR p n g).2]) ∧ Below w.heap.size w w' := by
  obtain ⟨W, hW, rG, rR, hbW, hWs⟩ : ∃ W, W = (w.alloc (.cells #[.int .u8 (g 0 0), .int .u8 (g 0 1), .int .u8 (g 0 2), .int .u8 (g 1 0), .int .u8 (g 1 1), .int .u8 (g 1 2), .int .u8 (g 2 0), .int .u8 (g 2 1), .int .u8 (g 2 2)] 25)).alloc (.cells #[.int .u8 0, .int .u8 0, .int .u8 0, .int .u8 0, .int .u8 0, .int .u8 0, .int .u8 0, .int .u8 0, .int .u8 0] 25) ∧
      W.rowIs w.heap.size 25 9 (mF g) ∧ W.rowIs (w.heap.size + 1) 25 9 (mF fun _ _ => 0) ∧ Below w.heap.size w W ∧ w.heap.size + 2 ≤ W.heap.size := by
    refine ⟨_, rfl, (mbox w g _).alloc _, ?_, ebox2 _ _ _, by simp⟩
    have := mbox (w.alloc (.cells #[.int .u8 (g 0 0), .int .u8 (g 0 1), .int .u8 (g 0 2), .int .u8 (g 1 0), .int .u8 (g 1 1), .int .u8 (g 1 2), .int .u8 (g 2 0), .int .u8 (g 2 1), .int .u8 (g 2 2)] 25)) (fun _ _ => 0) 25
    rwa [World.size_alloc] at this
  have HG := Lib.hid hg
  obtain ⟨⟨c0, c1, c2⟩, ⟨c3, c4, c5⟩, c6, c7, c8⟩ := mcells rG
  cases h1 : isMat p n g
  · have HX := Lib.hid (show invR p n g = (fun _ _ => 0, 2) by simp [invR, h1])
    have H1 := Lib.hid h1
    clear h1 hg
    unfold mv
    go_enter Try.func15, Try.ntmps15
    go_upto_region 1 with fail
    rw [← hW]
    clear hW
    go_wp2_with fail
    ((with_reducible refine (smat_is p n g _ HG.out false H1.out).mono ?_); rintro e w1 ⟨rfl, hb1⟩)
    have rR1 := erow_below rR hb1 rR.lt
    have hbw1 := hbW.trans (hb1.mono hbW.size)
    obtain ⟨⟨y0, y1, y2⟩, ⟨y3, y4, y5⟩, y6, y7, y8⟩ := mcells rR1
    have zz0 := World.rowIs.frozen rR1 0
    have zz1 := World.rowIs.frozen rR1 1
    have zz2 := World.rowIs.frozen rR1 2
    have zz3 := World.rowIs.frozen rR1 3
    have zz4 := World.rowIs.frozen rR1 4
    have zz5 := World.rowIs.frozen rR1 5
    have zz6 := World.rowIs.frozen rR1 6
    have zz7 := World.rowIs.frozen rR1 7
    have zz8 := World.rowIs.frozen rR1 8
    obtain ⟨hf1, hf2⟩ := mfill (w := w) (B := w.heap.size) rR1 hbw1 (by omega) (fun _ _ => 0)
    obtain ⟨⟨v0, v1, v2⟩, ⟨v3, v4, v5⟩, v6, v7, v8⟩ := mcells hf1
    have V0 := Lib.hid v0
    have V1 := Lib.hid v1
    have V2 := Lib.hid v2
    have V3 := Lib.hid v3
    have V4 := Lib.hid v4
    have V5 := Lib.hid v5
    have V6 := Lib.hid v6
    have V7 := Lib.hid v7
    have V8 := Lib.hid v8
    have HF2 := Lib.hid hf2
    clear hf1 hf2 v0 v1 v2 v3 v4 v5 v6 v7 v8
    go_wp2_with fail
    exact bodyPost_ret (v := .tuple #[mv (fun _ _ => 0), .int .i64 2]) (by simp [results, Try.results15, go_sem, mv, V0.out, V1.out, V2.out, V3.out, V4.out, V5.out, V6.out, V7.out, V8.out]) rfl ⟨by rw [HX.out]; rfl, HF2.out⟩
  · obtain ⟨m, rfl, hv⟩ := matV_of hg h1
    obtain ⟨r, hr⟩ : ∃ r, invF p m g = r := ⟨_, rfl⟩
    have HX := Lib.hid (show invR p m g = (r, 0) by simp [invR, h1, hr])
    have H1 := Lib.hid h1
    have HR := Lib.hid hr
    clear h1 hg hr
    unfold mv
    go_enter Try.func15, Try.ntmps15
    go_upto_region 1 with fail
    rw [← hW]
    clear hW
    go_wp2_with fail
    ((with_reducible refine (smat_is p m g _ HG.out true H1.out).mono ?_); rintro e w1 ⟨rfl, hb1⟩)
    clear c0 c1 c2 c3 c4 c5 c6 c7 c8
    obtain ⟨⟨c0, c1, c2⟩, ⟨c3, c4, c5⟩, c6, c7, c8⟩ := mcells (erow_below rG hb1 rG.lt)
    go_wp2_with fail
    ((with_reducible refine (sinv_is p m g r _ hv HR.out).mono ?_); rintro e w2 ⟨rfl, hb2⟩)
    have hb12 := hb1.trans (hb2.mono hb1.size)
    clear c0 c1 c2 c3 c4 c5 c6 c7 c8
    obtain ⟨V, hV, rV, hbV⟩ : ∃ V, V = w2.alloc (.cells #[.int .u8 (r 0 0), .int .u8 (r 0 1), .int .u8 (r 0 2), .int .u8 (r 1 0), .int .u8 (r 1 1), .int .u8 (r 1 2), .int .u8 (r 2 0), .int .u8 (r 2 1), .int .u8 (r 2 2)] 25) ∧ V.rowIs w2.heap.size 25 9 (mF r) ∧ Below w2.heap.size w2 V := ⟨_, rfl, mbox w2 r _, ebox1 _ _⟩
    have hb13 := hb12.trans (hbV.mono hb12.size)
    have rR1 := erow_below rR hb13 rR.lt
    have hbw1 := hbW.trans (hb13.mono hbW.size)
    go_upto_region 4 with fail
    rw [← hV]
    clear hV
    obtain ⟨⟨c0, c1, c2⟩, ⟨c3, c4, c5⟩, c6, c7, c8⟩ := mcells rV
    obtain ⟨⟨y0, y1, y2⟩, ⟨y3, y4, y5⟩, y6, y7, y8⟩ := mcells rR1
    have zz0 := World.rowIs.frozen rR1 0
    have zz1 := World.rowIs.frozen rR1 1
    have zz2 := World.rowIs.frozen rR1 2
    have zz3 := World.rowIs.frozen rR1 3
    have zz4 := World.rowIs.frozen rR1 4
    have zz5 := World.rowIs.frozen rR1 5
    have zz6 := World.rowIs.frozen rR1 6
    have zz7 := World.rowIs.frozen rR1 7
    have zz8 := World.rowIs.frozen rR1 8
    obtain ⟨hf1, hf2⟩ := mfill (w := w) (B := w.heap.size) rR1 hbw1 (by omega) r
    obtain ⟨⟨v0, v1, v2⟩, ⟨v3, v4, v5⟩, v6, v7, v8⟩ := mcells hf1
    have V0 := Lib.hid v0
    have V1 := Lib.hid v1
    have V2 := Lib.hid v2
    have V3 := Lib.hid v3
    have V4 := Lib.hid v4
    have V5 := Lib.hid v5
    have V6 := Lib.hid v6
    have V7 := Lib.hid v7
    have V8 := Lib.hid v8
    have HF2 := Lib.hid hf2
    clear hf1 hf2 v0 v1 v2 v3 v4 v5 v6 v7 v8
    go_wp2_with fail
    exact bodyPost_ret (v := .tuple #[mv r, .int .i64 0]) (by simp [results, Try.results15, go_sem, mv, V0.out, V1.out, V2.out, V3.out, V4.out, V5.out, V6.out, V7.out, V8.out]) rfl ⟨by rw [HX.out]; rfl, HF2.out⟩

set_option maxRecDepth 8000 in
set_option maxHeartbeats 4000000 in
theorem iinvOf (p n : Int) (g : Nat → Nat → Int) (w : World) (hg : Byt g) :
    Calls Try.prog 16 #[.int .i64 p, .int .i64 n, mv g] w fun e w' => e = .returned (.tuple #[mv (invR p n g).1, .int .i64 (invR p n g).2]) ∧ Below w.heap.size w w' := by
  obtain ⟨W, hW, rG, rR, hbW, hWs⟩ : ∃ W, W = (w.alloc (.cells #[.int .u8 (g 0 0), .int .u8 (g 0 1), .int .u8 (g 0 2), .int .u8 (g 1 0), .int .u8 (g 1 1), .int .u8 (g 1 2), .int .u8 (g 2 0), .int .u8 (g 2 1), .int .u8 (g 2 2)] 25)).alloc (.cells #[.int .u8 0, .int .u8 0, .int .u8 0, .int .u8 0, .int .u8 0, .int .u8 0, .int .u8 0, .int .u8 0, .int .u8 0] 25) ∧
      W.rowIs w.heap.size 25 9 (mF g) ∧ W.rowIs (w.heap.size + 1) 25 9 (mF fun _ _ => 0) ∧ Below w.heap.size w W ∧ w.heap.size + 2 ≤ W.heap.size := by
    refine ⟨_, rfl, (mbox w g _).alloc _, ?_, ebox2 _ _ _, by simp⟩
    have := mbox (w.alloc (.cells #[.int .u8 (g 0 0), .int .u8 (g 0 1), .int .u8 (g 0 2), .int .u8 (g 1 0), .int .u8 (g 1 1), .int .u8 (g 1 2), .int .u8 (g 2 0), .int .u8 (g 2 1), .int .u8 (g 2 2)] 25)) (fun _ _ => 0) 25
    rwa [World.size_alloc] at this
  have HG := Lib.hid hg
  obtain ⟨⟨c0, c1, c2⟩, ⟨c3, c4, c5⟩, c6, c7, c8⟩ := mcells rG
  cases h1 : isMat p n g
  · have HX := Lib.hid (show invR p n g = (fun _ _ => 0, 2) by simp [invR, h1])
    have H1 := Lib.hid h1
    clear h1 hg
    unfold mv
    go_enter Try.func16, Try.ntmps16
    go_upto_region 1 with fail
    rw [← hW]
    clear hW
    go_wp2_with fail
    ((with_reducible refine (ismat_is p n g _ HG.out false H1.out).mono ?_); rintro e w1 ⟨rfl, hb1⟩)
    have rR1 := erow_below rR hb1 rR.lt
    have hbw1 := hbW.trans (hb1.mono hbW.size)
    obtain ⟨⟨y0, y1, y2⟩, ⟨y3, y4, y5⟩, y6, y7, y8⟩ := mcells rR1
    have zz0 := World.rowIs.frozen rR1 0
    have zz1 := World.rowIs.frozen rR1 1
    have zz2 := World.rowIs.frozen rR1 2
    have zz3 := World.rowIs.frozen rR1 3
    have zz4 := World.rowIs.frozen rR1 4
    have zz5 := World.rowIs.frozen rR1 5
    have zz6 := World.rowIs.frozen rR1 6
    have zz7 := World.rowIs.frozen rR1 7
    have zz8 := World.rowIs.frozen rR1 8
    obtain ⟨hf1, hf2⟩ := mfill (w := w) (B := w.heap.size) rR1 hbw1 (by omega) (fun _ _ => 0)
    obtain ⟨⟨v0, v1, v2⟩, ⟨v3, v4, v5⟩, v6, v7, v8⟩ := mcells hf1
    have V0 := Lib.hid v0
    have V1 := Lib.hid v1
    have V2 := Lib.hid v2
    have V3 := Lib.hid v3
    have V4 := Lib.hid v4
    have V5 := Lib.hid v5
    have V6 := Lib.hid v6
    have V7 := Lib.hid v7
    have V8 := Lib.hid v8
    have HF2 := Lib.hid hf2
    clear hf1 hf2 v0 v1 v2 v3 v4 v5 v6 v7 v8
    go_wp2_with fail
    exact bodyPost_ret (v := .tuple #[mv (fun _ _ => 0), .int .i64 2]) (by simp [results, Try.results16, go_sem, mv, V0.out, V1.out, V2.out, V3.out, V4.out, V5.out, V6.out, V7.out, V8.out]) rfl ⟨by rw [HX.out]; rfl, HF2.out⟩
  · obtain ⟨m, rfl, hv⟩ := matV_of hg h1
    obtain ⟨r, hr⟩ : ∃ r, invF p m g = r := ⟨_, rfl⟩
    have HX := Lib.hid (show invR p m g = (r, 0) by simp [invR, h1, hr])
    have H1 := Lib.hid h1
    have HR := Lib.hid hr
    clear h1 hg hr
    unfold mv
    go_enter Try.func16, Try.ntmps16
    go_upto_region 1 with fail
    rw [← hW]
    clear hW
    go_wp2_with fail
    ((with_reducible refine (ismat_is p m g _ HG.out true H1.out).mono ?_); rintro e w1 ⟨rfl, hb1⟩)
    clear c0 c1 c2 c3 c4 c5 c6 c7 c8
    obtain ⟨⟨c0, c1, c2⟩, ⟨c3, c4, c5⟩, c6, c7, c8⟩ := mcells (erow_below rG hb1 rG.lt)
    go_wp2_with fail
    ((with_reducible refine (iinv_agg p m g r _ hv HR.out).mono ?_); rintro e w2 ⟨rfl, hb2⟩)
    have hb12 := hb1.trans (hb2.mono hb1.size)
    clear c0 c1 c2 c3 c4 c5 c6 c7 c8
    have rR1 := erow_below rR hb12 rR.lt
    have hbw1 := hbW.trans (hb12.mono hbW.size)
    obtain ⟨⟨y0, y1, y2⟩, ⟨y3, y4, y5⟩, y6, y7, y8⟩ := mcells rR1
    have zz0 := World.rowIs.frozen rR1 0
    have zz1 := World.rowIs.frozen rR1 1
    have zz2 := World.rowIs.frozen rR1 2
    have zz3 := World.rowIs.frozen rR1 3
    have zz4 := World.rowIs.frozen rR1 4
    have zz5 := World.rowIs.frozen rR1 5
    have zz6 := World.rowIs.frozen rR1 6
    have zz7 := World.rowIs.frozen rR1 7
    have zz8 := World.rowIs.frozen rR1 8
    obtain ⟨hf1, hf2⟩ := mfill (w := w) (B := w.heap.size) rR1 hbw1 (by omega) r
    obtain ⟨⟨v0, v1, v2⟩, ⟨v3, v4, v5⟩, v6, v7, v8⟩ := mcells hf1
    have V0 := Lib.hid v0
    have V1 := Lib.hid v1
    have V2 := Lib.hid v2
    have V3 := Lib.hid v3
    have V4 := Lib.hid v4
    have V5 := Lib.hid v5
    have V6 := Lib.hid v6
    have V7 := Lib.hid v7
    have V8 := Lib.hid v8
    have HF2 := Lib.hid hf2
    clear hf1 hf2 v0 v1 v2 v3 v4 v5 v6 v7 v8
    go_wp2_with fail
    exact bodyPost_ret (v := .tuple #[mv r, .int .i64 0]) (by simp [results, Try.results16, go_sem, mv, V0.out, V1.out, V2.out, V3.out, V4.out, V5.out, V6.out, V7.out, V8.out]) rfl ⟨by rw [HX.out]; rfl, HF2.out⟩
end Go.Proofs.Ytflhfbdcljbleaa
