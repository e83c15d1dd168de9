/-
  WALKS: 'impl.checkPair', 'spec.l01Like': are two polynomials alike? Conditions: as each theorem states.
-/
import Derived.Test.YtpnlpmalkiaioaaIsp
namespace Go.Proofs.Ytpnlpmalkiaioaa
open Go.RowKit Go.Sort

/-- The boxes of two polynomials at the head of a function. -/
theorem pair2 (w : World) (p d : Int) (v : Value) (p' d' : Int) (v' : Value) : ∃ W, W = (w.alloc (.cells #[.int .i64 p, .int .i64 d, v] 25)).alloc (.cells #[.int .i64 p', .int .i64 d', v'] 25) ∧ Below w.heap.size w W ∧ (W.heap.size ≤ w.heap.size + 2 ∧ w.heap.size + 2 ≤ W.heap.size) ∧
      W.rowIs w.heap.size 25 3 (polyF p d v) ∧ W.rowIs (w.heap.size + 1) 25 3 (polyF p' d' v') := by
  refine ⟨_, rfl, box2 _ _ _, ⟨by simp, by simp⟩, ?_, ?_⟩
  · refine World.rowIs.alloc (World.rowIs_alloc w #[Value.int .i64 p, .int .i64 d, v] _ _ (fun i hi => ?_)) _
    simp at hi; match i, hi with | 0, _ => rfl | 1, _ => rfl | 2, _ => rfl
  · have := World.rowIs_alloc (w.alloc (.cells #[.int .i64 p, .int .i64 d, v] 25)) #[Value.int .i64 p', .int .i64 d', v'] 25 (polyF p' d' v') (fun i hi => by simp at hi; match i, hi with | 0, _ => rfl | 1, _ => rfl | 2, _ => rfl)
    simpa using this
/-- .. and of a polynomial as the result. -/
theorem pair3 (w : World) (p d : Int) (v : Value) (p' d' : Int) (v' : Value) : ∃ W, W = ((w.alloc (.cells #[.int .i64 p, .int .i64 d, v] 25)).alloc (.cells #[.int .i64 p', .int .i64 d', v'] 25)).alloc (.cells #[.int .i64 0, .int .i64 0, .slice none 0 0] 25) ∧ Below w.heap.size w W ∧ (W.heap.size ≤ w.heap.size + 3 ∧ w.heap.size + 3 ≤ W.heap.size) ∧
      W.rowIs w.heap.size 25 3 (polyF p d v) ∧ W.rowIs (w.heap.size + 1) 25 3 (polyF p' d' v') ∧ W.rowIs (w.heap.size + 2) 25 3 (polyF 0 0 (.slice none 0 0)) := by
  obtain ⟨V, hV, hb, ⟨s1, s2⟩, r1, r2⟩ := pair2 w p d v p' d' v'
  refine ⟨_, by rw [← hV], hb.trans ((box1 V _).mono hb.size), ⟨by simp; omega, by simp; omega⟩, r1.alloc _, r2.alloc _, ?_⟩
  have := World.rowIs_alloc V #[Value.int .i64 0, .int .i64 0, .slice none 0 0] 25 (polyF 0 0 (.slice none 0 0)) (fun i hi => by simp at hi; match i, hi with | 0, _ => rfl | 1, _ => rfl | 2, _ => rfl)
  rwa [show V.heap.size = w.heap.size + 2 by omega] at this

theorem retI {k : IntKind} {a b : Int} (h : a = b) : Ending.returned (.int k a) = .returned (.int k b) := by rw [h]
def likeC (p d : Int) (xs : List Tm) (p' d' : Int) (ys : List Tm) : Int := if (isPolyB p d xs && isPolyB p' d' ys) = true then (if p = p' ∧ d = d' then 0 else 2) else 1

theorem alike_is (p d p' d' : Int) (v v' : Value) (w : World) (B : Bool) (h : (decide (p = p') && decide (d = d')) = B) :
    Calls Try.prog 69 #[.agg #[.int .i64 p, .int .i64 d, v], .agg #[.int .i64 p', .int .i64 d', v']] w fun e w' => e = .returned (.bool B) ∧ Below w.heap.size w w' := by
  subst h
  by_cases h1 : p = p'
  · subst h1
    by_cases h2 : d = d'
    · subst h2
      go_enter Try.func69, Try.ntmps69
      go_wp2
      go_ret
      exact ⟨by simp, box2 _ _ _⟩
    · have h2' : (d == d') = false := by simpa using h2
      go_enter Try.func69, Try.ntmps69
      go_wp2
      go_ret
      exact ⟨by simp [h2], box2 _ _ _⟩
  · have h1' : (p == p') = false := by simpa using h1
    go_enter Try.func69, Try.ntmps69
    go_wp2
    go_ret
    exact ⟨by simp [h1], box2 _ _ _⟩

set_option maxHeartbeats 2000000 in
theorem check_any (p d p' d' : Int) (v v' : Value) (xs ys : List Tm) (w : World) (hl : xs.length ≤ 1048576) (hl' : ys.length ≤ 1048576) (hS : SliceT w v xs) (hS' : SliceT w v' ys) (hby : ∀ t ∈ xs, tmByte t) (hby' : ∀ t ∈ ys, tmByte t) :
    Calls Try.prog 47 #[.agg #[.int .i64 p, .int .i64 d, v], .agg #[.int .i64 p', .int .i64 d', v']] w fun e w' => e = .returned (.int .i64 (likeC p d xs p' d' ys)) ∧ Below w.heap.size w w' := by
  obtain ⟨a, cap, rfl, _⟩ := id hS
  obtain ⟨a', cap', rfl, _⟩ := id hS'
  obtain ⟨W, hW, hbW, ⟨hWs1, hWs2⟩, rx, ry⟩ := pair2 w p d (.slice a xs.length cap) p' d' (.slice a' ys.length cap')
  obtain ⟨⟨c0, c1, c2⟩, _⟩ := poly3 rx
  have hSW := hS.below hbW
  have hSW' := hS'.below hbW
  go_enter Try.func47, Try.ntmps47
  go_wp2_with fail
  rw [← hW]
  clear hW
  ((with_reducible refine (isPoly_any p d _ xs W hl hSW hby).mono ?_); rintro e w1 ⟨rfl, hb1⟩)
  have rx1 := rowIs_below rx hb1 rx.lt
  have ry1 := rowIs_below ry hb1 ry.lt
  have hbw1 := hbW.trans (hb1.mono hbW.size)
  have hS1' := hSW'.below hb1
  have s1 := hb1.size
  clear c0 c1 c2 rx ry
  obtain ⟨⟨c0, c1, c2⟩, _⟩ := poly3 rx1
  obtain ⟨⟨d0, d1, d2⟩, _⟩ := poly3 ry1
  cases hB : isPolyB p d xs
  · have HO : Hid (likeC p d xs p' d' ys = 1) := Lib.hid (by unfold likeC; rw [hB]; rfl)
    clear hB
    go_wp2_with fail
    go_ret
    exact ⟨retI HO.out.symm, hbw1⟩
  · have HB := Lib.hid hB
    clear hB
    go_wp2_with fail
    ((with_reducible refine (isPoly_any p' d' _ ys w1 hl' hS1' hby').mono ?_); rintro e w2 ⟨rfl, hb2⟩)
    have rx2 := rowIs_below rx1 hb2 rx1.lt
    have ry2 := rowIs_below ry1 hb2 ry1.lt
    have hbw2 := hbw1.trans (hb2.mono hbw1.size)
    clear c0 c1 c2 d0 d1 d2 rx1 ry1
    obtain ⟨⟨c0, c1, c2⟩, _⟩ := poly3 rx2
    obtain ⟨⟨d0, d1, d2⟩, _⟩ := poly3 ry2
    cases hB' : isPolyB p' d' ys
    · have HO : Hid (likeC p d xs p' d' ys = 1) := Lib.hid (by unfold likeC; rw [hB']; simp)
      clear hB'
      go_wp2_with fail
      go_ret
      exact ⟨retI HO.out.symm, hbw2⟩
    · cases hE : (decide (p = p') && decide (d = d'))
      · have HO : Hid (likeC p d xs p' d' ys = 2) := Lib.hid (by unfold likeC; rw [hB', HB.out]; simp at hE; simp; exact hE)
        have HE := Lib.hid hE
        clear hB' hE
        go_wp2_with fail
        ((with_reducible refine (alike_is p d p' d' _ _ w2 _ HE.out).mono ?_); rintro e w3 ⟨rfl, hb3⟩)
        go_wp2_with fail
        go_ret
        exact ⟨retI HO.out.symm, hbw2.trans (hb3.mono hbw2.size)⟩
      · have HO : Hid (likeC p d xs p' d' ys = 0) := Lib.hid (by unfold likeC; rw [hB', HB.out]; simp at hE; simp; exact hE)
        have HE := Lib.hid hE
        clear hB' hE
        go_wp2_with fail
        ((with_reducible refine (alike_is p d p' d' _ _ w2 _ HE.out).mono ?_); rintro e w3 ⟨rfl, hb3⟩)
        go_wp2_with fail
        go_ret
        exact ⟨retI HO.out.symm, hbw2.trans (hb3.mono hbw2.size)⟩

set_option maxHeartbeats 2000000 in
theorem like_any (p d p' d' : Int) (v v' : Value) (xs ys : List Tm) (w : World) (hl : xs.length ≤ 1048576) (hl' : ys.length ≤ 1048576) (hS : SliceT w v xs) (hS' : SliceT w v' ys) (hby : ∀ t ∈ xs, tmByte t) (hby' : ∀ t ∈ ys, tmByte t) :
    Calls Try.prog 44 #[.agg #[.int .i64 p, .int .i64 d, v], .agg #[.int .i64 p', .int .i64 d', v']] w fun e w' => e = .returned (.int .i64 (likeC p d xs p' d' ys)) ∧ Below w.heap.size w w' := by
  obtain ⟨a, cap, rfl, _⟩ := id hS
  obtain ⟨a', cap', rfl, _⟩ := id hS'
  obtain ⟨W, hW, hbW, ⟨hWs1, hWs2⟩, rx, ry⟩ := pair2 w p d (.slice a xs.length cap) p' d' (.slice a' ys.length cap')
  obtain ⟨⟨c0, c1, c2⟩, _⟩ := poly3 rx
  have hSW := hS.below hbW
  have hSW' := hS'.below hbW
  go_enter Try.func44, Try.ntmps44
  go_wp2_with fail
  rw [← hW]
  clear hW
  ((with_reducible refine (specIs_any p d _ xs W hl hSW hby).mono ?_); rintro e w1 ⟨rfl, hb1⟩)
  have rx1 := rowIs_below rx hb1 rx.lt
  have ry1 := rowIs_below ry hb1 ry.lt
  have hbw1 := hbW.trans (hb1.mono hbW.size)
  have hS1' := hSW'.below hb1
  have s1 := hb1.size
  clear c0 c1 c2 rx ry
  obtain ⟨⟨c0, c1, c2⟩, _⟩ := poly3 rx1
  obtain ⟨⟨d0, d1, d2⟩, _⟩ := poly3 ry1
  cases hB : isPolyB p d xs
  · have HO : Hid (likeC p d xs p' d' ys = 1) := Lib.hid (by unfold likeC; rw [hB]; rfl)
    clear hB
    go_wp2_with fail
    go_ret
    exact ⟨retI HO.out.symm, hbw1⟩
  · have HB := Lib.hid hB
    clear hB
    go_wp2_with fail
    ((with_reducible refine (specIs_any p' d' _ ys w1 hl' hS1' hby').mono ?_); rintro e w2 ⟨rfl, hb2⟩)
    have rx2 := rowIs_below rx1 hb2 rx1.lt
    have ry2 := rowIs_below ry1 hb2 ry1.lt
    have hbw2 := hbw1.trans (hb2.mono hbw1.size)
    clear c0 c1 c2 d0 d1 d2 rx1 ry1
    obtain ⟨⟨c0, c1, c2⟩, _⟩ := poly3 rx2
    obtain ⟨⟨d0, d1, d2⟩, _⟩ := poly3 ry2
    cases hB' : isPolyB p' d' ys
    · have HO : Hid (likeC p d xs p' d' ys = 1) := Lib.hid (by unfold likeC; rw [hB']; simp)
      clear hB'
      go_wp2_with fail
      go_ret
      exact ⟨retI HO.out.symm, hbw2⟩
    · by_cases h1 : p = p'
      · subst h1
        have n1 : (p != p) = false := by simp
        by_cases h2 : d = d'
        · subst h2
          have n2 : (d != d) = false := by simp
          have HO : Hid (likeC p d xs p d ys = 0) := Lib.hid (by unfold likeC; rw [hB', HB.out]; simp)
          clear hB'
          go_wp2_with fail
          go_ret
          exact ⟨retI HO.out.symm, hbw2⟩
        · have n2 : (d != d') = true := by simpa using h2
          have HO : Hid (likeC p d xs p d' ys = 2) := Lib.hid (by unfold likeC; rw [hB', HB.out]; simp [h2])
          clear hB'
          go_wp2_with fail
          go_ret
          exact ⟨retI HO.out.symm, hbw2⟩
      · have n1 : (p != p') = true := by simpa using h1
        have HO : Hid (likeC p d xs p' d' ys = 2) := Lib.hid (by unfold likeC; rw [hB', HB.out]; simp [h1])
        clear hB'
        go_wp2_with fail
        go_ret
        exact ⟨retI HO.out.symm, hbw2⟩
end Go.Proofs.Ytpnlpmalkiaioaa
