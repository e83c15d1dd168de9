/-
  What a matrix is like; products of matrices by their contracts. Conditions: the numbers are bytes.
-/
import Derived.Test.YtabfdohmgmdgeaaMw
import Derived.Test.YtabfdohmgmdgeaaKb
namespace Go.Proofs.Ytabfdohmgmdgeaa
open Go.RowKit Go.Sort EchM

theorem sprod_agg (p : Int) (n : Nat) (g h r : Nat → Nat → Int) (w : World) (hg : MatV p n g) (hh : MatV p n h) (hr : prodM p g h = r) :
    Calls Try.prog 26 #[.int .i64 p, .int .i64 (n : Int), (.agg #[.int .u8 (g 0 0), .int .u8 (g 0 1), .int .u8 (g 0 2), .int .u8 (g 1 0), .int .u8 (g 1 1), .int .u8 (g 1 2), .int .u8 (g 2 0), .int .u8 (g 2 1), .int .u8 (g 2 2)]), (.agg #[.int .u8 (h 0 0), .int .u8 (h 0 1), .int .u8 (h 0 2), .int .u8 (h 1 0), .int .u8 (h 1 1), .int .u8 (h 1 2), .int .u8 (h 2 0), .int .u8 (h 2 1), .int .u8 (h 2 2)])] w fun e w' => e = .returned (.agg #[.int .u8 (r 0 0), .int .u8 (r 0 1), .int .u8 (r 0 2), .int .u8 (r 1 0), .int .u8 (r 1 1), .int .u8 (r 1 2), .int .u8 (r 2 0), .int .u8 (r 2 1), .int .u8 (r 2 2)]) ∧ Below w.heap.size w w' := by
  subst hr; exact sprod p n g h w hg.h2 hg.h13 hg.bound hh.bound hg.m3 hg.out hh.out
theorem iprod_agg (p : Int) (n : Nat) (g h r : Nat → Nat → Int) (w : World) (hg : MatV p n g) (hh : MatV p n h) (hr : prodM p g h = r) :
    Calls Try.prog 57 #[.int .i64 p, (.agg #[.int .u8 (g 0 0), .int .u8 (g 0 1), .int .u8 (g 0 2), .int .u8 (g 1 0), .int .u8 (g 1 1), .int .u8 (g 1 2), .int .u8 (g 2 0), .int .u8 (g 2 1), .int .u8 (g 2 2)]), (.agg #[.int .u8 (h 0 0), .int .u8 (h 0 1), .int .u8 (h 0 2), .int .u8 (h 1 0), .int .u8 (h 1 1), .int .u8 (h 1 2), .int .u8 (h 2 0), .int .u8 (h 2 1), .int .u8 (h 2 2)])] w fun e w' => e = .returned (.agg #[.int .u8 (r 0 0), .int .u8 (r 0 1), .int .u8 (r 0 2), .int .u8 (r 1 0), .int .u8 (r 1 1), .int .u8 (r 1 2), .int .u8 (r 2 0), .int .u8 (r 2 1), .int .u8 (r 2 2)]) ∧ Below w.heap.size w w' := by
  subst hr; exact iprod p g h w hg.h2 hg.h13 hg.bound hh.bound
end Go.Proofs.Ytabfdohmgmdgeaa
