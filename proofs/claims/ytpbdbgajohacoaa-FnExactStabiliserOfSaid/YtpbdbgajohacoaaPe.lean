/-
  STABILISERS of points: the program's walk. Conditions: the numbers of the matrices are bytes.
-/
import Derived.Test.YtpbdbgajohacoaaPd
namespace Go.Proofs.Ytpbdbgajohacoaa
open Go.RowKit Go.Sort EchM

set_option maxRecDepth 8000 in
set_option maxHeartbeats 8000000 in
theorem istabf (p n : Int) (v u : Value) (m : Nat) (x : Nat → Nat → Int) (pt : List Int) (g bp : Nat) (w : World) (rG : w.rowIs g 26 3 (grpF p n v)) (rP : w.rowIs bp 41 1 (fun _ => u)) (hU : Sl w u pt) (hx : MatV p m x) (hpt : pt.length = m) (hpp : ∀ k, k < m → 0 ≤ nth pt k ∧ nth pt k < p) :
    Calls Try.prog 68 #[.agg #[.int .u8 (x 0 0), .int .u8 (x 0 1), .int .u8 (x 0 2), .int .u8 (x 1 0), .int .u8 (x 1 1), .int .u8 (x 1 2), .int .u8 (x 2 0), .int .u8 (x 2 1), .int .u8 (x 2 2)], .pointer (some ⟨g, 0, none⟩), .pointer (some ⟨bp, 0, none⟩)] w fun e w' => e = .returned (.bool (stF p m pt x)) ∧ Below w.heap.size w w' := by
  obtain ⟨W, hW, rX, hbW⟩ : ∃ W, W = w.alloc (.cells #[.int .u8 (x 0 0), .int .u8 (x 0 1), .int .u8 (x 0 2), .int .u8 (x 1 0), .int .u8 (x 1 1), .int .u8 (x 1 2), .int .u8 (x 2 0), .int .u8 (x 2 1), .int .u8 (x 2 2)] 55) ∧ W.rowIs w.heap.size 55 9 (mF x) ∧ Below w.heap.size w W := ⟨_, rfl, mbox w x _, ebox1 _ _⟩
  have hm3 := hx.m3
  have HLEAD := Lib.hid (fun w' (h' : Sl w' u pt) => ilead p m x u pt w' hx hpt hpp h')
  have hlm : (leadL p m x pt).length = pt.length := by rw [leadL_len, hpt]
  have hlm2 : (leadL p m x pt).length ≤ 1048576 := by rw [leadL_len]; omega
  have HF := Lib.hid (show stF p m pt x = decide (cmpI (leadL p m x pt) pt = 0) from rfl)
  have hUW := hU.below hbW
  have hUr : Sl W.drew u pt := hUW.below (Below.refl _ _).drew
  clear hpt
  generalize leadL p m x pt = D at *
  have rGW := erow_below rG hbW rG.lt
  have rPW := erow_below rP hbW rP.lt
  obtain ⟨g0, _, _⟩ := gcells rGW
  have p0 : W.cell? ⟨bp, 0, none⟩ = some u := rPW.cell (i := 0) (by omega)
  have P0 : W.drew.cell? ⟨bp, 0, none⟩ = some u := p0
  have hzp : bp < W.drew.heap.size := rPW.lt
  obtain ⟨⟨a0, a1, a2⟩, ⟨a3, a4, a5⟩, a6, a7, a8⟩ := mcells rX
  obtain ⟨ua, ucap, rfl, _⟩ := id hU
  go_enter Try.func68, Try.ntmps68
  go_upto_region 1 with fail
  rw [← hW]
  clear hW
  go_region_with (first
    | (go_at_call 60; (with_reducible refine (HLEAD.out _ hUr).mono ?_); rintro e w2 ⟨v2, rfl, own2, hb2⟩; have Q0 := (hb2.cell (p := ⟨bp, 0, none⟩) hzp).trans P0)
    | (go_at_call 64; (with_reducible refine (iequal _ _ D pt _ hlm2 hlm own2.slice (hUr.below hb2)).mono ?_); rintro e w3 ⟨rfl, hb3⟩))
  all_goals
    go_wp2_with fail
    go_ret
    exact ⟨by rw [HF.out]; rfl, hbW.trans (((Below.refl _ _).drew.trans (hb2.trans (hb3.mono hb2.size))).mono hbW.size)⟩
end Go.Proofs.Ytpbdbgajohacoaa
