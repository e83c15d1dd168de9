/-
  WALKS: 'impl.compareExps' and the closure of 'impl.polyOf', with what they leave behind. Conditions: as each theorem states.
-/
import Derived.Test.YtphgpadpffigjaaSw
namespace Go.Proofs.Ytphgpadpffigjaa
open Go.RowKit Go.Sort Go.Shelf Go.Lib

/-- Some draws, and blocks behind what was there. -/
def Grew (w w' : World) : Prop := ∃ q os, w' = grow (w.drewN q) os
theorem Grew.refl (w : World) : Grew w w := ⟨0, #[], by rw [grow_empty]; rfl⟩
theorem Grew.alloc {w w' : World} (h : Grew w w') (o : Obj) : Grew w (w'.alloc o) := by
  obtain ⟨q, os, rfl⟩ := h
  exact ⟨q, os ++ #[o], by rw [alloc_eq_grow, grow_grow]⟩
theorem Grew.drew {w w' : World} (h : Grew w w') : Grew w w'.drew := by
  obtain ⟨q, os, rfl⟩ := h
  exact ⟨q + 1, os, rfl⟩
theorem Grew.trans {w w' w'' : World} (h : Grew w w') (h' : Grew w' w'') : Grew w w'' := by
  obtain ⟨q, os, rfl⟩ := h
  obtain ⟨q', os', rfl⟩ := h'
  refine ⟨q + q', os ++ os', ?_⟩
  show grow (grow ((w.drewN q).drewN q') os) os' = _
  rw [grow_grow]
  simp [World.drewN, Nat.add_assoc]
theorem Grew.below {w w' : World} (h : Grew w w') : Below w.heap.size w w' := by
  obtain ⟨q, os, rfl⟩ := h
  exact ⟨rfl, rfl, rfl, by simp [grow, World.drewN], fun k hk => by simp [grow, World.drewN, Array.getElem?_append, hk]⟩

set_option maxHeartbeats 2000000 in
set_option maxRecDepth 100000 in
theorem compareExps_grew (x y z x' y' z' : Int) (w : World) (hx : 0 ≤ x ∧ x ≤ 255) (hy : 0 ≤ y ∧ y ≤ 255) (hz : 0 ≤ z ∧ z ≤ 255) (hx' : 0 ≤ x' ∧ x' ≤ 255) (hy' : 0 ≤ y' ∧ y' ≤ 255) (hz' : 0 ≤ z' ∧ z' ≤ 255) :
    Calls Try.prog 108 #[.agg #[.int .u8 x, .int .u8 y, .int .u8 z], .agg #[.int .u8 x', .int .u8 y', .int .u8 z']] w fun e w' => e = .returned (.int .i64 (cmpE (x, y, z) (x', y', z'))) ∧ Grew w w' := by
  go_enter Try.func108, Try.ntmps108
  go_wp2
  refine region_tail 15 (by kernel_rfl) (by kernel_rfl) ?_
  simp only [List.take_succ_cons, List.take_zero, List.drop_succ_cons, List.drop_zero]
  repeat still_step
  still_call (capped_still _ _ _ x y z _ hx hy hz (by go_simp) (by go_simp) (by go_simp))
  repeat still_step
  still_call (capped_still _ _ _ x' y' z' _ hx' hy' hz' (by go_simp) (by go_simp) (by go_simp))
  repeat still_step
  still_call (compare64_any _ _ _)
  repeat still_step
  still_call (compare8_any _ _ _)
  repeat still_step
  still_call (compare8_any _ _ _)
  repeat still_step
  refine wpStill_nil ?_
  go_wp2_with fail
  ((with_reducible refine (or_any _ (cmpI (capd (x + y + z)) (capd (x' + y' + z'))) (cmpI x' x) (cmpI y' y) _ (by go_simp) (by go_simp) (by go_simp)).mono ?_); rintro e w1 ⟨rfl, rfl⟩)
  go_wp2
  go_ret
  exact ⟨rfl, ((((Grew.refl _).alloc _).alloc _).alloc _).drew⟩

set_option maxHeartbeats 1000000 in
theorem closT (x y : TB) (w : World) : Calls Try.prog 125 #[.agg (encT x).toArray, .agg (encT y).toArray] w fun e w' => e = .returned (.int .i64 (cfT x y)) ∧ Grew w w' := by
  obtain ⟨⟨x0, x1, x2, xv⟩, hx0, hx1, hx2⟩ := x
  obtain ⟨⟨y0, y1, y2, yv⟩, hy0, hy1, hy2⟩ := y
  simp only [tmE] at hx0 hx1 hx2 hy0 hy1 hy2
  show Calls Try.prog 125 #[.agg #[.int .u8 x0, .int .u8 x1, .int .u8 x2, .int .i64 xv], .agg #[.int .u8 y0, .int .u8 y1, .int .u8 y2, .int .i64 yv]] w fun e w' => e = .returned (.int .i64 (cmpE (x0, x1, x2) (y0, y1, y2))) ∧ Grew w w'
  go_enter Try.func125, Try.ntmps125
  go_wp2_with fail
  ((with_reducible refine (compareExps_grew x0 x1 x2 y0 y1 y2 _ hx0 hx1 hx2 hy0 hy1 hy2).mono ?_); rintro e w1 ⟨rfl, hg⟩)
  go_wp2
  go_ret
  exact ⟨rfl, (((Grew.refl _).alloc _).alloc _).trans hg⟩

theorem cmpLaysT (blk off size : Nat) (w : World) : CmpLays Try.prog 125 #[] encT 4 cfT blk off size w :=
  fun _ _ _ _ x y => by
    rw [Array.append_empty]
    exact closT x y _

end Go.Proofs.Ytphgpadpffigjaa
