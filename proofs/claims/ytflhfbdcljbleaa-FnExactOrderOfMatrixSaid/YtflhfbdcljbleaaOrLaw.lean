/-
  The law of 'FnExactOrderOfMatrix', walked. Conditions: the numbers are bytes.
-/
import Derived.Test.YtflhfbdcljbleaaKe
import Derived.Test.YtflhfbdcljbleaaKl
namespace Go.Proofs.Ytflhfbdcljbleaa
open Go.RowKit Go.Sort EchM

set_option maxRecDepth 8000 in
set_option maxHeartbeats 4000000 in
theorem law_order (p n : Int) (g : Nat → Nat → Int) (w : World) (hg : Byt g) :
    Calls Try.prog 7 #[.int .i64 p, .int .i64 n, mv g] w fun e w' => e = .returned (.bool true) ∧ Below w.heap.size w w' := by
  obtain ⟨W, hW, rW, hbW⟩ : ∃ W, W = w.alloc (.cells #[.int .u8 (g 0 0), .int .u8 (g 0 1), .int .u8 (g 0 2), .int .u8 (g 1 0), .int .u8 (g 1 1), .int .u8 (g 1 2), .int .u8 (g 2 0), .int .u8 (g 2 1), .int .u8 (g 2 2)] 23) ∧ W.rowIs w.heap.size 23 9 (mF g) ∧ Below w.heap.size w W := ⟨_, rfl, mbox w g _, ebox1 _ _⟩
  have cS := fun w => sorder p n g w hg
  have cI := fun w => iorder p n g w hg
  obtain ⟨D, hD⟩ : ∃ D, (ordR p n g).1 = D := ⟨_, rfl⟩
  obtain ⟨c, hc⟩ : ∃ c, (ordR p n g).2 = c := ⟨_, rfl⟩
  rw [hD, hc] at cS cI
  unfold mv at cS cI
  clear hD hc
  have HS := Lib.hid cS
  have HI := Lib.hid cI
  clear cS cI hg
  unfold mv
  go_enter Try.func7, Try.ntmps7
  go_wp2_with fail
  rw [← hW]
  clear hW
  ((with_reducible refine (tomat_agg g _).mono ?_); rintro e w1 ⟨rfl, hb1⟩)
  go_wp2_with fail
  ((with_reducible refine (HS.out _).mono ?_); rintro e w2 ⟨rfl, hb2⟩)
  have hb12 := hb1.trans (hb2.mono hb1.size)
  obtain ⟨⟨c0, c1, c2⟩, ⟨c3, c4, c5⟩, c6, c7, c8⟩ := mcells (erow_below rW hb12 rW.lt)
  go_wp2_with fail
  ((with_reducible refine (tomat_agg g _).mono ?_); rintro e w3 ⟨rfl, hb3⟩)
  go_wp2_with fail
  ((with_reducible refine (HI.out _).mono ?_); rintro e w4 ⟨rfl, hb4⟩)
  have hb14 := (hb12.trans (hb3.mono hb12.size)).trans (hb4.mono (Nat.le_trans hb12.size hb3.size))
  have hb5 := hbW.trans (hb14.mono hbW.size)
  have hne : (c != c) = false := by simp
  have hnd : (D != D) = false := by simp
  clear c0 c1 c2 c3 c4 c5 c6 c7 c8
  go_wp2_with fail
  go_ret
  exact ⟨rfl, hb5⟩
end Go.Proofs.Ytflhfbdcljbleaa
