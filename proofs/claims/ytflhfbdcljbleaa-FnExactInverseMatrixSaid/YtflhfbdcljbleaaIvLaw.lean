/-
  The law of 'FnExactInverseMatrix', walked. Conditions: the numbers are bytes.
-/
import Derived.Test.YtflhfbdcljbleaaKe
import Derived.Test.YtflhfbdcljbleaaKh
namespace Go.Proofs.Ytflhfbdcljbleaa
open Go.RowKit Go.Sort EchM

theorem eqmat_agg' (g : Nat → Nat → Int) (w : World) : Calls Try.prog 14 #[(.agg #[.int .u8 (g 0 0), .int .u8 (g 0 1), .int .u8 (g 0 2), .int .u8 (g 1 0), .int .u8 (g 1 1), .int .u8 (g 1 2), .int .u8 (g 2 0), .int .u8 (g 2 1), .int .u8 (g 2 2)]), (.agg #[.int .u8 (g 0 0), .int .u8 (g 0 1), .int .u8 (g 0 2), .int .u8 (g 1 0), .int .u8 (g 1 1), .int .u8 (g 1 2), .int .u8 (g 2 0), .int .u8 (g 2 1), .int .u8 (g 2 2)])] w fun e w' => e = .returned (.bool true) ∧ Below w.heap.size w w' := eqmat g w

set_option maxRecDepth 8000 in
set_option maxHeartbeats 4000000 in
theorem law_inverse (p n : Int) (g : Nat → Nat → Int) (w : World) (hg : Byt g) :
    Calls Try.prog 5 #[.int .i64 p, .int .i64 n, mv g] w fun e w' => e = .returned (.bool true) ∧ Below w.heap.size w w' := by
  obtain ⟨W, hW, rW, hbW⟩ : ∃ W, W = w.alloc (.cells #[.int .u8 (g 0 0), .int .u8 (g 0 1), .int .u8 (g 0 2), .int .u8 (g 1 0), .int .u8 (g 1 1), .int .u8 (g 1 2), .int .u8 (g 2 0), .int .u8 (g 2 1), .int .u8 (g 2 2)] 23) ∧ W.rowIs w.heap.size 23 9 (mF g) ∧ Below w.heap.size w W := ⟨_, rfl, mbox w g _, ebox1 _ _⟩
  have cS := fun w => sinvOf p n g w hg
  have cI := fun w => iinvOf p n g w hg
  obtain ⟨r, hr⟩ : ∃ r, (invR p n g).1 = r := ⟨_, rfl⟩
  obtain ⟨c, hc⟩ : ∃ c, (invR p n g).2 = c := ⟨_, rfl⟩
  rw [hr, hc] at cS cI
  unfold mv at cS cI
  clear hr hc
  have HS := Lib.hid cS
  have HI := Lib.hid cI
  clear cS cI hg
  unfold mv
  go_enter Try.func5, Try.ntmps5
  go_wp2_with fail
  rw [← hW]
  clear hW
  ((with_reducible refine (tomat_agg g _).mono ?_); rintro e w1 ⟨rfl, hb1⟩)
  go_wp2_with fail
  ((with_reducible refine (HS.out _).mono ?_); rintro e w2 ⟨rfl, hb2⟩)
  have hb12 := hb1.trans (hb2.mono hb1.size)
  obtain ⟨V, hV, rV, hbV, hVs⟩ : ∃ V, V = w2.alloc (.cells #[.int .u8 (r 0 0), .int .u8 (r 0 1), .int .u8 (r 0 2), .int .u8 (r 1 0), .int .u8 (r 1 1), .int .u8 (r 1 2), .int .u8 (r 2 0), .int .u8 (r 2 1), .int .u8 (r 2 2)] 25) ∧ V.rowIs w2.heap.size 25 9 (mF r) ∧ Below w2.heap.size w2 V ∧ w2.heap.size < V.heap.size := ⟨_, rfl, mbox w2 r _, ebox1 _ _, by simp⟩
  have hb13 := hb12.trans (hbV.mono hb12.size)
  go_upto_region 2 with fail
  rw [← hV]
  clear hV
  obtain ⟨⟨c0, c1, c2⟩, ⟨c3, c4, c5⟩, c6, c7, c8⟩ := mcells (erow_below rW hb13 rW.lt)
  go_wp2_with fail
  ((with_reducible refine (tomat_agg g _).mono ?_); rintro e w3 ⟨rfl, hb3⟩)
  go_wp2_with fail
  ((with_reducible refine (HI.out _).mono ?_); rintro e w4 ⟨rfl, hb4⟩)
  have hb34 := hb3.trans (hb4.mono hb3.size)
  obtain ⟨U, hU, rU, hbU⟩ : ∃ U, U = w4.alloc (.cells #[.int .u8 (r 0 0), .int .u8 (r 0 1), .int .u8 (r 0 2), .int .u8 (r 1 0), .int .u8 (r 1 1), .int .u8 (r 1 2), .int .u8 (r 2 0), .int .u8 (r 2 1), .int .u8 (r 2 2)] 25) ∧ U.rowIs w4.heap.size 25 9 (mF r) ∧ Below w4.heap.size w4 U := ⟨_, rfl, mbox w4 r _, ebox1 _ _⟩
  have hb35 := hb34.trans (hbU.mono hb34.size)
  clear c0 c1 c2 c3 c4 c5 c6 c7 c8
  go_upto_region 3 with fail
  rw [← hU]
  clear hU
  obtain ⟨⟨c0, c1, c2⟩, ⟨c3, c4, c5⟩, c6, c7, c8⟩ := mcells rU
  obtain ⟨⟨d0, d1, d2⟩, ⟨d3, d4, d5⟩, d6, d7, d8⟩ := mcells (erow_below rV hb35 rV.lt)
  have hne : (c != c) = false := by simp
  go_wp2_with fail
  ((with_reducible refine (eqmat_agg' r _).mono ?_); rintro e w6 ⟨rfl, hb6⟩)
  have hbe := hbW.trans (((hb13.trans (hb35.mono hb13.size)).trans (hb6.mono (Nat.le_trans hb13.size hb35.size))).mono hbW.size)
  go_wp2_with fail
  go_ret
  exact ⟨rfl, hbe⟩
end Go.Proofs.Ytflhfbdcljbleaa
