/-
  CONJUGATES of matrices: the program's walk. Conditions: as each theorem states.
-/
import Derived.Test.YtpbdbgajohacoaaSo
namespace Go.Proofs.Ytpbdbgajohacoaa
open Go.RowKit Go.Sort EchM

theorem iprod_bd (p : Int) (g h r : Nat → Nat → Int) (w : World) (h2 : 2 ≤ p) (h13 : p ≤ 13) (hg : ∀ i, i < 3 → ∀ j, j < 3 → 0 ≤ g i j ∧ g i j < p) (hh : ∀ i, i < 3 → ∀ j, j < 3 → 0 ≤ h i j ∧ h i j < p) (hr : prodM p g h = r) :
    Calls Try.prog 56 #[.int .i64 p, .agg #[.int .u8 (g 0 0), .int .u8 (g 0 1), .int .u8 (g 0 2), .int .u8 (g 1 0), .int .u8 (g 1 1), .int .u8 (g 1 2), .int .u8 (g 2 0), .int .u8 (g 2 1), .int .u8 (g 2 2)], .agg #[.int .u8 (h 0 0), .int .u8 (h 0 1), .int .u8 (h 0 2), .int .u8 (h 1 0), .int .u8 (h 1 1), .int .u8 (h 1 2), .int .u8 (h 2 0), .int .u8 (h 2 1), .int .u8 (h 2 2)]] w fun e w' => e = .returned (.agg #[.int .u8 (r 0 0), .int .u8 (r 0 1), .int .u8 (r 0 2), .int .u8 (r 1 0), .int .u8 (r 1 1), .int .u8 (r 1 2), .int .u8 (r 2 0), .int .u8 (r 2 1), .int .u8 (r 2 2)]) ∧ Below w.heap.size w w' := by
  subst hr; exact iprod p g h w h2 h13 hg hh
theorem sprod_bd (p : Int) (n : Nat) (g h r : Nat → Nat → Int) (w : World) (h2 : 2 ≤ p) (h13 : p ≤ 13) (hg : ∀ i, i < 3 → ∀ j, j < 3 → 0 ≤ g i j ∧ g i j < p) (hh : ∀ i, i < 3 → ∀ j, j < 3 → 0 ≤ h i j ∧ h i j < p) (hn3 : n ≤ 3) (hog : Out0 n g) (hoh : Out0 n h) (hr : prodM p g h = r) :
    Calls Try.prog 51 #[.int .i64 p, .int .i64 (n : Int), .agg #[.int .u8 (g 0 0), .int .u8 (g 0 1), .int .u8 (g 0 2), .int .u8 (g 1 0), .int .u8 (g 1 1), .int .u8 (g 1 2), .int .u8 (g 2 0), .int .u8 (g 2 1), .int .u8 (g 2 2)], .agg #[.int .u8 (h 0 0), .int .u8 (h 0 1), .int .u8 (h 0 2), .int .u8 (h 1 0), .int .u8 (h 1 1), .int .u8 (h 1 2), .int .u8 (h 2 0), .int .u8 (h 2 1), .int .u8 (h 2 2)]] w fun e w' => e = .returned (.agg #[.int .u8 (r 0 0), .int .u8 (r 0 1), .int .u8 (r 0 2), .int .u8 (r 1 0), .int .u8 (r 1 1), .int .u8 (r 1 2), .int .u8 (r 2 0), .int .u8 (r 2 1), .int .u8 (r 2 2)]) ∧ Below w.heap.size w w' := by
  subst hr; exact sprod p n g h w h2 h13 hg hh hn3 hog hoh

set_option maxRecDepth 8000 in
set_option maxHeartbeats 8000000 in
theorem iconj (p : Int) (n : Nat) (x m r : Nat → Nat → Int) (w : World) (hx : MatV p n x) (hm : MatV p n m) (hr : conjM p n m x = r) :
    Calls Try.prog 74 #[.int .i64 p, .int .i64 (n : Int), .agg #[.int .u8 (x 0 0), .int .u8 (x 0 1), .int .u8 (x 0 2), .int .u8 (x 1 0), .int .u8 (x 1 1), .int .u8 (x 1 2), .int .u8 (x 2 0), .int .u8 (x 2 1), .int .u8 (x 2 2)], .agg #[.int .u8 (m 0 0), .int .u8 (m 0 1), .int .u8 (m 0 2), .int .u8 (m 1 0), .int .u8 (m 1 1), .int .u8 (m 1 2), .int .u8 (m 2 0), .int .u8 (m 2 1), .int .u8 (m 2 2)]] w fun e w' => e = .returned (.agg #[.int .u8 (r 0 0), .int .u8 (r 0 1), .int .u8 (r 0 2), .int .u8 (r 1 0), .int .u8 (r 1 1), .int .u8 (r 1 2), .int .u8 (r 2 0), .int .u8 (r 2 1), .int .u8 (r 2 2)]) ∧ Below w.heap.size w w' := by
  obtain ⟨W, hW, rX, rM, rR, hbW, hWs⟩ : ∃ W, W = ((w.alloc (.cells #[.int .u8 (x 0 0), .int .u8 (x 0 1), .int .u8 (x 0 2), .int .u8 (x 1 0), .int .u8 (x 1 1), .int .u8 (x 1 2), .int .u8 (x 2 0), .int .u8 (x 2 1), .int .u8 (x 2 2)] 55)).alloc (.cells #[.int .u8 (m 0 0), .int .u8 (m 0 1), .int .u8 (m 0 2), .int .u8 (m 1 0), .int .u8 (m 1 1), .int .u8 (m 1 2), .int .u8 (m 2 0), .int .u8 (m 2 1), .int .u8 (m 2 2)] 55)).alloc (.cells #[.int .u8 0, .int .u8 0, .int .u8 0, .int .u8 0, .int .u8 0, .int .u8 0, .int .u8 0, .int .u8 0, .int .u8 0] 55) ∧ W.rowIs w.heap.size 55 9 (mF x) ∧ W.rowIs (w.heap.size + 1) 55 9 (mF m) ∧ W.rowIs (w.heap.size + 2) 55 9 (mF fun _ _ => 0) ∧ Below w.heap.size w W ∧ w.heap.size + 3 ≤ W.heap.size := by
    refine ⟨_, rfl, ((mbox w x _).alloc _).alloc _, ?_, ?_, (ebox2 _ _ _).alloc (by simp; omega) _, by simp⟩
    · have := mbox (w.alloc (.cells #[.int .u8 (x 0 0), .int .u8 (x 0 1), .int .u8 (x 0 2), .int .u8 (x 1 0), .int .u8 (x 1 1), .int .u8 (x 1 2), .int .u8 (x 2 0), .int .u8 (x 2 1), .int .u8 (x 2 2)] 55)) m 55
      rw [World.size_alloc] at this
      exact this.alloc _
    · have := mbox ((w.alloc (.cells #[.int .u8 (x 0 0), .int .u8 (x 0 1), .int .u8 (x 0 2), .int .u8 (x 1 0), .int .u8 (x 1 1), .int .u8 (x 1 2), .int .u8 (x 2 0), .int .u8 (x 2 1), .int .u8 (x 2 2)] 55)).alloc (.cells #[.int .u8 (m 0 0), .int .u8 (m 0 1), .int .u8 (m 0 2), .int .u8 (m 1 0), .int .u8 (m 1 1), .int .u8 (m 1 2), .int .u8 (m 2 0), .int .u8 (m 2 1), .int .u8 (m 2 2)] 55)) (fun _ _ => 0) 55
      rw [World.size_alloc, World.size_alloc] at this
      exact this
  obtain ⟨I, hI⟩ : ∃ I, invF p n m = I := ⟨_, rfl⟩
  obtain ⟨q, hq⟩ : ∃ q, prodM p I x = q := ⟨_, rfl⟩
  have hr' : prodM p q m = r := by rw [← hr, conjM, hI, hq]
  have hIb : ∀ i, i < 3 → ∀ j, j < 3 → 0 ≤ I i j ∧ I i j < p := by rw [← hI]; exact invF_bound hm.h2
  have hqb : ∀ i, i < 3 → ∀ j, j < 3 → 0 ≤ q i j ∧ q i j < p := by rw [← hq]; exact fun i _ j _ => prodM_bound hm.h2 _ _ _ _
  have HINV := Lib.hid (fun w => iinv_agg p n m I w hm hI)
  have HP1 := Lib.hid (fun w => iprod_bd p I x q w hm.h2 hm.h13 hIb hx.bound hq)
  have HP2 := Lib.hid (fun w => iprod_bd p q m r w hm.h2 hm.h13 hqb hm.bound hr')
  clear hI hq hr hr' hIb hqb hx hm
  have dX : W.drew.rowIs w.heap.size 55 9 (mF x) := rX
  have dM : W.drew.rowIs (w.heap.size + 1) 55 9 (mF m) := rM
  have dR : W.drew.rowIs (w.heap.size + 2) 55 9 (mF fun _ _ => 0) := rR
  have hbd : Below w.heap.size w W.drew := hbW.drew
  obtain ⟨⟨xa0, xa1, xa2⟩, ⟨xa3, xa4, xa5⟩, xa6, xa7, xa8⟩ := mcells dX
  obtain ⟨⟨ma0, ma1, ma2⟩, ⟨ma3, ma4, ma5⟩, ma6, ma7, ma8⟩ := mcells dM
  go_enter Try.func74, Try.ntmps74
  go_upto_region 1 with fail
  rw [← hW]
  clear hW
  go_region_with (first
    | (go_at_call 96; (with_reducible refine (HINV.out _).mono ?_); rintro e w1 ⟨rfl, hb1⟩; have eX := erow_below dX hb1 dX.lt; have eM := erow_below dM hb1 dM.lt; have eR := erow_below dR hb1 dR.lt; have hbe := hbd.trans (hb1.mono hbd.size); obtain ⟨⟨c0, c1, c2⟩, ⟨c3, c4, c5⟩, c6, c7, c8⟩ := mcells eX; obtain ⟨⟨d0, d1, d2⟩, ⟨d3, d4, d5⟩, d6, d7, d8⟩ := mcells eM)
    | (go_at_call 56; (with_reducible refine (HP1.out _).mono ?_); rintro e w2 ⟨rfl, hb2⟩; have fM := erow_below eM hb2 eM.lt; have fR := erow_below eR hb2 eR.lt; have hbf := hbe.trans (hb2.mono hbe.size); obtain ⟨⟨f0, f1, f2⟩, ⟨f3, f4, f5⟩, f6, f7, f8⟩ := mcells fM)
    | (go_at_call 56; (with_reducible refine (HP2.out _).mono ?_); rintro e w3 ⟨rfl, hb3⟩; have gR := erow_below fR hb3 fR.lt; have hbg := hbf.trans (hb3.mono hbf.size); obtain ⟨⟨y0, y1, y2⟩, ⟨y3, y4, y5⟩, y6, y7, y8⟩ := mcells gR; have zz0 := World.rowIs.frozen gR 0; have zz1 := World.rowIs.frozen gR 1; have zz2 := World.rowIs.frozen gR 2; have zz3 := World.rowIs.frozen gR 3; have zz4 := World.rowIs.frozen gR 4; have zz5 := World.rowIs.frozen gR 5; have zz6 := World.rowIs.frozen gR 6; have zz7 := World.rowIs.frozen gR 7; have zz8 := World.rowIs.frozen gR 8))
  all_goals
    obtain ⟨hf1, hf2⟩ := mfill (w := w) (B := w.heap.size) gR hbg (by omega) r
    obtain ⟨⟨v0, v1, v2⟩, ⟨v3, v4, v5⟩, v6, v7, v8⟩ := mcells hf1
    go_wp2_with fail
    exact bodyPost_ret (v := .agg #[.int .u8 (r 0 0), .int .u8 (r 0 1), .int .u8 (r 0 2), .int .u8 (r 1 0), .int .u8 (r 1 1), .int .u8 (r 1 2), .int .u8 (r 2 0), .int .u8 (r 2 1), .int .u8 (r 2 2)]) (by simp [results, Try.results74, go_sem, v0, v1, v2, v3, v4, v5, v6, v7, v8]) rfl ⟨rfl, hf2⟩
end Go.Proofs.Ytpbdbgajohacoaa
