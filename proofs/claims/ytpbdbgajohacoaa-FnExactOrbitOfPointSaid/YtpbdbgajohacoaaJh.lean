/-
  WALKS of the laws on groups that come back: marking, reading back; what stands in memory while such a law runs. Conditions: as each theorem states.
-/
import Derived.Test.YtpbdbgajohacoaaJe
import Derived.Test.YtpbdbgajohacoaaMg
namespace Go.Proofs.Ytpbdbgajohacoaa
open Go.RowKit Go.Sort EchM

set_option maxRecDepth 8000 in
set_option maxHeartbeats 4000000 in
theorem markmats (a : Option Addr) (l cap : Nat) (k : Int) (w : World) (hl : l ≤ 1048576) :
    Calls Try.prog 15 #[.slice a l cap, .int .i64 k] w fun e w' => e = .returned (.int .i64 k) ∧ w = w' := by
  go_enter Try.func15, Try.ntmps15
  go_wp2_with fail
  go_loop [5] (fun i => ∃ j : Nat, j ≤ l ∧ i = .int .i64 j) (fun i => l - (intOf i).toNat)
  case atStart => exact ⟨0, by omega, rfl⟩
  case round =>
    obtain ⟨j, hj, rfl⟩ := hrel
    by_cases hlt : j < l
    · have hlt' : (j : Int) < (l : Int) := by omega
      go_wp2
      go_round
      case rel => exact ⟨j + 1, by omega, by go_num⟩
      case measure => simp [intOf]; omega
    · obtain rfl : j = l := by omega
      go_wp2
      go_ret
      exact ⟨rfl, rfl⟩
set_option maxRecDepth 8000 in
set_option maxHeartbeats 4000000 in
theorem heldmats (a : Option Addr) (l cap : Nat) (k : Int) (w : World) (hl : l ≤ 1048576) :
    Calls Try.prog 49 #[.slice a l cap, .int .i64 k] w fun e w' => e = .returned (.int .i64 k) ∧ w = w' := by
  go_enter Try.func49, Try.ntmps49
  go_wp2_with fail
  go_loop [5] (fun i => ∃ j : Nat, j ≤ l ∧ i = .int .i64 j) (fun i => l - (intOf i).toNat)
  case atStart => exact ⟨0, by omega, rfl⟩
  case round =>
    obtain ⟨j, hj, rfl⟩ := hrel
    by_cases hlt : j < l
    · have hlt' : (j : Int) < (l : Int) := by omega
      go_wp2
      go_round
      case rel => exact ⟨j + 1, by omega, by go_num⟩
      case measure => simp [intOf]; omega
    · obtain rfl : j = l := by omega
      go_wp2
      go_ret
      exact ⟨rfl, rfl⟩
theorem markgrp (p n : Int) (a : Option Addr) (l cap : Nat) (k : Int) (w : World) (hl : l ≤ 1048576) :
    Calls Try.prog 16 #[.agg #[.int .i64 p, .int .i64 n, .slice a l cap], .int .i64 k] w fun e w' => e = .returned (.int .i64 k) ∧ Below w.heap.size w w' := by
  obtain ⟨W, hW, rW, hbW⟩ : ∃ W, W = w.alloc (.cells #[.int .i64 p, .int .i64 n, .slice a l cap] 26) ∧ W.rowIs w.heap.size 26 3 (grpF p n (.slice a l cap)) ∧ Below w.heap.size w W := ⟨_, rfl, gbox w p n _ _, ebox1 _ _⟩
  obtain ⟨g0, g1, g2⟩ := gcells rW
  go_enter Try.func16, Try.ntmps16
  go_upto_region 1 with fail
  rw [← hW]
  clear hW
  go_wp2_with fail
  ((with_reducible refine (markmats a l cap k _ hl).mono ?_); rintro e w1 ⟨rfl, rfl⟩)
  go_wp2
  go_ret
  exact ⟨rfl, hbW⟩
theorem heldgrp (p n : Int) (a : Option Addr) (l cap : Nat) (k : Int) (w : World) (hl : l ≤ 1048576) (hk : 0 ≤ k) :
    Calls Try.prog 17 #[.agg #[.int .i64 p, .int .i64 n, .slice a l cap], .int .i64 k] w fun e w' => e = .returned (.int .i64 k) ∧ Below w.heap.size w w' := by
  obtain ⟨W, hW, rW, hbW⟩ : ∃ W, W = w.alloc (.cells #[.int .i64 p, .int .i64 n, .slice a l cap] 26) ∧ W.rowIs w.heap.size 26 3 (grpF p n (.slice a l cap)) ∧ Below w.heap.size w W := ⟨_, rfl, gbox w p n _ _, ebox1 _ _⟩
  obtain ⟨g0, g1, g2⟩ := gcells rW
  have hk' : ¬ k < 0 := by omega
  go_enter Try.func17, Try.ntmps17
  go_upto_region 1 with fail
  rw [← hW]
  clear hW
  go_wp2_with fail
  ((with_reducible refine (heldmats a l cap k _ hl).mono ?_); rintro e w1 ⟨rfl, rfl⟩)
  go_wp2
  go_ret
  exact ⟨rfl, hbW⟩

/-- What stands in memory while a law on groups runs: its argument (block A), the model's answer (block B0), the copy (block B1), the program's answer (block B2). -/
structure GLaw (w wr : World) (A B0 B1 B2 : Nat) (p n P D : Int) (va v3 v4 v5 : Value) (L S : List (Nat → Nat → Int)) : Prop where
  ax : wr.rowIs A 36 3 (grpF p n va)
  b0 : wr.rowIs B0 26 3 (grpF P D v3)
  b1 : wr.rowIs B1 26 3 (grpF p n v4)
  b2 : wr.rowIs B2 26 3 (grpF P D v5)
  sa : SlM wr va L
  s3 : SlM wr v3 S
  s4 : SlM wr v4 L
  s5 : SlM wr v5 S
  below : Below w.heap.size w wr
theorem GLaw.on {w wr w1 : World} {A B0 B1 B2 : Nat} {p n P D : Int} {va v3 v4 v5 : Value} {L S : List (Nat → Nat → Int)} (h : GLaw w wr A B0 B1 B2 p n P D va v3 v4 v5 L S) (hb : Below wr.heap.size wr w1) : GLaw w w1 A B0 B1 B2 p n P D va v3 v4 v5 L S :=
  ⟨erow_below h.ax hb h.ax.lt, erow_below h.b0 hb h.b0.lt, erow_below h.b1 hb h.b1.lt, erow_below h.b2 hb h.b2.lt, h.sa.below hb, h.s3.below hb, h.s4.below hb, h.s5.below hb, h.below.trans (hb.mono h.below.size)⟩
end Go.Proofs.Ytpbdbgajohacoaa
