/-
  LAWS of a group and a polynomial: boxes. Conditions: as each theorem states.
-/
import Derived.Test.YtllklhakbanhaaaGreatQ32
import Derived.Test.YtllklhakbanhaaaGreatQ42
import Derived.Test.YtllklhakbanhaaaGreatQ08
import Derived.Test.YtllklhakbanhaaaGreatQ10
import Derived.Test.YtllklhakbanhaaaGreatQ06
import Derived.Deep.RegionWith
namespace Go.Proofs.YtllklhakbanhaaaGreat
open Go.RowKit Go.Sort Go.Maps EchM

theorem fleft_lt {left : Int} {n : Nat} (h : left - n < 0) : leftOf left n = -1 := if_pos h
theorem fleft_ge {left : Int} {n : Nat} (h : ¬ left - n < 0) : leftOf left n = left - n := if_neg h
/-- The boxes of a law's group and polynomial. -/
theorem boxLGP (w : World) (p n : Int) (v : Value) (q d : Int) (u : Value) : ∃ W, W = (w.alloc (.cells #[.int .i64 p, .int .i64 n, v] 24)).alloc (.cells #[.int .i64 q, .int .i64 d, u] 27) ∧ Below w.heap.size w W ∧ (W.heap.size ≤ w.heap.size + 2 ∧ w.heap.size + 2 ≤ W.heap.size) ∧
      W.rowIs w.heap.size 24 3 (grpF p n v) ∧ W.rowIs (w.heap.size + 1) 27 3 (polyF q d u) := by
  obtain ⟨U, hU, hbU, rg⟩ : ∃ U, U = w.alloc (.cells #[.int .i64 p, .int .i64 n, v] 24) ∧ Below w.heap.size w U ∧ U.rowIs w.heap.size 24 3 (grpF p n v) := ⟨_, rfl, ebox1 _ _, gbox w p n v _⟩
  have hs : U.heap.size = w.heap.size + 1 := by rw [hU]; simp
  have rx := World.rowIs_alloc U #[Value.int .i64 q, .int .i64 d, u] 27 (polyF q d u) (fun i hi => by simp at hi; match i, hi with | 0, _ => rfl | 1, _ => rfl | 2, _ => rfl)
  rw [hs] at rx
  exact ⟨_, by rw [hU], hbU.trans ((box1 U _).mono hbU.size), ⟨by simp [hs], by simp [hs]⟩, erow_below rg (box1 U _) rg.lt, rx⟩
end Go.Proofs.YtllklhakbanhaaaGreat
