/-
  PAIRS of polynomials in boxes; whether they are alike. Conditions: as each theorem states.
-/
import Derived.Test.YtphgpadpffigjaaIsp
namespace Go.Proofs.Ytphgpadpffigjaa
open Go.RowKit Go.Sort

/-- The boxes of two polynomials at the head of a function. -/
theorem pair2 (w : World) (p d : Int) (v : Value) (p' d' : Int) (v' : Value) : ∃ W, W = (w.alloc (.cells #[.int .i64 p, .int .i64 d, v] 36)).alloc (.cells #[.int .i64 p', .int .i64 d', v'] 36) ∧ Below w.heap.size w W ∧ (W.heap.size ≤ w.heap.size + 2 ∧ w.heap.size + 2 ≤ W.heap.size) ∧
      W.rowIs w.heap.size 36 3 (polyF p d v) ∧ W.rowIs (w.heap.size + 1) 36 3 (polyF p' d' v') := by
  refine ⟨_, rfl, box2 _ _ _, ⟨by simp, by simp⟩, ?_, ?_⟩
  · refine World.rowIs.alloc (World.rowIs_alloc w #[Value.int .i64 p, .int .i64 d, v] _ _ (fun i hi => ?_)) _
    simp at hi; match i, hi with | 0, _ => rfl | 1, _ => rfl | 2, _ => rfl
  · have := World.rowIs_alloc (w.alloc (.cells #[.int .i64 p, .int .i64 d, v] 36)) #[Value.int .i64 p', .int .i64 d', v'] 36 (polyF p' d' v') (fun i hi => by simp at hi; match i, hi with | 0, _ => rfl | 1, _ => rfl | 2, _ => rfl)
    simpa using this
/-- .. and of a polynomial as the result. -/
theorem pair3 (w : World) (p d : Int) (v : Value) (p' d' : Int) (v' : Value) : ∃ W, W = ((w.alloc (.cells #[.int .i64 p, .int .i64 d, v] 36)).alloc (.cells #[.int .i64 p', .int .i64 d', v'] 36)).alloc (.cells #[.int .i64 0, .int .i64 0, .slice none 0 0] 36) ∧ Below w.heap.size w W ∧ (W.heap.size ≤ w.heap.size + 3 ∧ w.heap.size + 3 ≤ W.heap.size) ∧
      W.rowIs w.heap.size 36 3 (polyF p d v) ∧ W.rowIs (w.heap.size + 1) 36 3 (polyF p' d' v') ∧ W.rowIs (w.heap.size + 2) 36 3 (polyF 0 0 (.slice none 0 0)) := by
  obtain ⟨V, hV, hb, ⟨s1, s2⟩, r1, r2⟩ := pair2 w p d v p' d' v'
  refine ⟨_, by rw [← hV], hb.trans ((box1 V _).mono hb.size), ⟨by simp; omega, by simp; omega⟩, r1.alloc _, r2.alloc _, ?_⟩
  have := World.rowIs_alloc V #[Value.int .i64 0, .int .i64 0, .slice none 0 0] 36 (polyF 0 0 (.slice none 0 0)) (fun i hi => by simp at hi; match i, hi with | 0, _ => rfl | 1, _ => rfl | 2, _ => rfl)
  rwa [show V.heap.size = w.heap.size + 2 by omega] at this

theorem retI {k : IntKind} {a b : Int} (h : a = b) : Ending.returned (.int k a) = .returned (.int k b) := by rw [h]
theorem alike_is (p d p' d' : Int) (v v' : Value) (w : World) (B : Bool) (h : (decide (p = p') && decide (d = d')) = B) :
    Calls Try.prog 93 #[.agg #[.int .i64 p, .int .i64 d, v], .agg #[.int .i64 p', .int .i64 d', v']] w fun e w' => e = .returned (.bool B) ∧ Below w.heap.size w w' := by
  subst h
  by_cases h1 : p = p'
  · subst h1
    by_cases h2 : d = d'
    · subst h2
      go_enter Try.func93, Try.ntmps93
      go_wp2
      go_ret
      exact ⟨by simp, box2 _ _ _⟩
    · have h2' : (d == d') = false := by simpa using h2
      go_enter Try.func93, Try.ntmps93
      go_wp2
      go_ret
      exact ⟨by simp [h2], box2 _ _ _⟩
  · have h1' : (p == p') = false := by simpa using h1
    go_enter Try.func93, Try.ntmps93
    go_wp2
    go_ret
    exact ⟨by simp [h1], box2 _ _ _⟩
end Go.Proofs.Ytphgpadpffigjaa
