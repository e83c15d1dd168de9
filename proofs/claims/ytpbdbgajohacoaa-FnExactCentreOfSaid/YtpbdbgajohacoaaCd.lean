/-
  CENTRES: the program's walk. Conditions: the numbers of the matrices are bytes.
-/
import Derived.Test.YtpbdbgajohacoaaCc
namespace Go.Proofs.Ytpbdbgajohacoaa
open Go.RowKit Go.Sort EchM

theorem iprod_r (p : Int) (n : Nat) (g h r : Nat → Nat → Int) (W : World) (hg : MatV p n g) (hh : MatV p n h) (hr : prodM p g h = r) : ∀ dd os,
    Calls Try.prog 56 #[.int .i64 p, (.agg #[.int .u8 (g 0 0), .int .u8 (g 0 1), .int .u8 (g 0 2), .int .u8 (g 1 0), .int .u8 (g 1 1), .int .u8 (g 1 2), .int .u8 (g 2 0), .int .u8 (g 2 1), .int .u8 (g 2 2)]), (.agg #[.int .u8 (h 0 0), .int .u8 (h 0 1), .int .u8 (h 0 2), .int .u8 (h 1 0), .int .u8 (h 1 1), .int .u8 (h 1 2), .int .u8 (h 2 0), .int .u8 (h 2 1), .int .u8 (h 2 2)])] (grow (redrawn W dd) os) fun e w'' => e = .returned (.agg #[.int .u8 (r 0 0), .int .u8 (r 0 1), .int .u8 (r 0 2), .int .u8 (r 1 0), .int .u8 (r 1 1), .int .u8 (r 1 2), .int .u8 (r 2 0), .int .u8 (r 2 1), .int .u8 (r 2 2)]) ∧ ∃ q : Regrown, w'' = grow (redrawn W q.d) q.os := fun _ _ => Calls.regrown_of (iprod_agg p n g h r _ hg hh hr)

set_option maxRecDepth 8000 in
set_option maxHeartbeats 4000000 in
theorem cdiff (p n : Int) (v : Value) (m : Nat) (x y : Nat → Nat → Int) (g bx : Nat) (w : World) (rG : w.rowIs g 26 3 (grpF p n v)) (rX : w.rowIs bx 55 9 (mF x)) (hx : MatV p m x) (hy : MatV p m y) :
    Calls Try.prog 55 #[.agg #[.int .u8 (y 0 0), .int .u8 (y 0 1), .int .u8 (y 0 2), .int .u8 (y 1 0), .int .u8 (y 1 1), .int .u8 (y 1 2), .int .u8 (y 2 0), .int .u8 (y 2 1), .int .u8 (y 2 2)], .pointer (some ⟨g, 0, none⟩), .pointer (some ⟨bx, 0, none⟩)] w fun e w' => e = .returned (.bool (!comG p x y)) ∧ Below w.heap.size w w' := by
  obtain ⟨W, hW, rY, hbW⟩ : ∃ W, W = w.alloc (.cells #[.int .u8 (y 0 0), .int .u8 (y 0 1), .int .u8 (y 0 2), .int .u8 (y 1 0), .int .u8 (y 1 1), .int .u8 (y 1 2), .int .u8 (y 2 0), .int .u8 (y 2 1), .int .u8 (y 2 2)] 55) ∧ W.rowIs w.heap.size 55 9 (mF y) ∧ Below w.heap.size w W := ⟨_, rfl, mbox w y _, ebox1 _ _⟩
  obtain ⟨g0, _, _⟩ := gcells (erow_below rG hbW rG.lt)
  obtain ⟨⟨a0, a1, a2⟩, ⟨a3, a4, a5⟩, a6, a7, a8⟩ := mcells (erow_below rX hbW rX.lt)
  obtain ⟨⟨b0, b1, b2⟩, ⟨b3, b4, b5⟩, b6, b7, b8⟩ := mcells rY
  obtain ⟨r, hr⟩ : ∃ r, prodM p x y = r := ⟨_, rfl⟩
  obtain ⟨s, hs⟩ : ∃ s, prodM p y x = s := ⟨_, rfl⟩
  obtain ⟨E, hE⟩ : ∃ E, eqM r s = E := ⟨_, rfl⟩
  have kP := iprod_r p m x y r W hx hy hr
  have kQ := iprod_r p m y x s W hy hx hs
  have kE := fun w => mat_eq r s w
  rw [hE] at kE
  have HN := Lib.hid (show comG p x y = E by unfold comG; rw [hr, hs, hE])
  clear hr hs hE
  have k0 := cell_regrown g0
  have l0 := cell_regrown a0
  have l1 := cell_regrown a1
  have l2 := cell_regrown a2
  have l3 := cell_regrown a3
  have l4 := cell_regrown a4
  have l5 := cell_regrown a5
  have l6 := cell_regrown a6
  have l7 := cell_regrown a7
  have l8 := cell_regrown a8
  have q0 := cell_regrown b0
  have q1 := cell_regrown b1
  have q2 := cell_regrown b2
  have q3 := cell_regrown b3
  have q4 := cell_regrown b4
  have q5 := cell_regrown b5
  have q6 := cell_regrown b6
  have q7 := cell_regrown b7
  have q8 := cell_regrown b8
  clear a0 a1 a2 a3 a4 a5 a6 a7 a8 b0 b1 b2 b3 b4 b5 b6 b7 b8 g0
  go_enter Try.func55, Try.ntmps55
  go_upto_region 1 with fail
  rw [← hW]
  clear hW
  refine wp_region_quiet_below (by kernel_rfl) (by kernel_rfl) ?_
  repeat (go_big_quiet_step (first | with_reducible exact kP _ _ | with_reducible exact kQ _ _))
  refine wpQuiet_nil ?_
  intro _ hw'
  obtain ⟨⟨dq, osq⟩, hw''⟩ := hw'
  subst hw''
  have hb2 := hbW.trans ((below_regrown W dq osq).mono hbW.size)
  generalize grow (redrawn W dq) osq = V2 at *
  clear k0 l0 l1 l2 l3 l4 l5 l6 l7 l8 q0 q1 q2 q3 q4 q5 q6 q7 q8 kP kQ kE
  go_wp2_with fail
  go_ret
  exact ⟨by rw [HN.out]; rfl, hb2⟩

set_option maxRecDepth 8000 in
set_option maxHeartbeats 4000000 in
theorem ccent (p n : Int) (v : Value) (L : List (Nat → Nat → Int)) (m : Nat) (x : Nat → Nat → Int) (g : Nat) (w : World) (hl : L.length ≤ 1048576) (hS : SlM w v L) (rG : w.rowIs g 26 3 (grpF p n v)) (hx : MatV p m x) (hmv : ∀ y ∈ L, MatV p m y) :
    Calls Try.prog 54 #[.agg #[.int .u8 (x 0 0), .int .u8 (x 0 1), .int .u8 (x 0 2), .int .u8 (x 1 0), .int .u8 (x 1 1), .int .u8 (x 1 2), .int .u8 (x 2 0), .int .u8 (x 2 1), .int .u8 (x 2 2)], .pointer (some ⟨g, 0, none⟩)] w fun e w' => e = .returned (.bool (cenG p L x)) ∧ Below w.heap.size w w' := by
  have hmf : ∀ (fn : Fn) (first cap : Array Value) (w : World), (Instr.makeFunc fn first cap).run Try.prog w = .ok (.func fn first cap) w := fun _ _ _ _ => rfl
  obtain ⟨W, hW, rX, hbW⟩ : ∃ W, W = w.alloc (.cells #[.int .u8 (x 0 0), .int .u8 (x 0 1), .int .u8 (x 0 2), .int .u8 (x 1 0), .int .u8 (x 1 1), .int .u8 (x 1 2), .int .u8 (x 2 0), .int .u8 (x 2 1), .int .u8 (x 2 2)] 55) ∧ W.rowIs w.heap.size 55 9 (mF x) ∧ Below w.heap.size w W := ⟨_, rfl, mbox w x _, ebox1 _ _⟩
  have rG' := erow_below rG hbW rG.lt
  have HJ : cdJ W (.pointer (some ⟨g, 0, none⟩)) (.pointer (some ⟨w.heap.size, 0, none⟩)) (fun y => !comG p x y) L := fun w' hb' y hy => cdiff p n v m x y g w.heap.size w' (erow_below rG' hb' rG'.lt) (erow_below rX hb' rX.lt) hx (hmv y hy)
  have hSW := hS.below hbW
  have HX := Lib.hid (show cenG p L x = !(L.any fun y => !comG p x y) by unfold cenG; rw [List.all_eq_not_any_not])
  have hc := fun w' (hb : Below W.heap.size W w') => cdcontains _ _ _ v L w' hl (hSW.below hb) (HJ.below hb)
  have HCC := Lib.hid (hc W (Below.refl _ _))
  clear hc HJ
  obtain ⟨a, cap, rfl, _⟩ := id hS
  obtain ⟨_, _, g2⟩ := gcells rG'
  generalize (L.any fun y => !comG p x y) = E at *
  go_enter Try.func54, Try.ntmps54
  go_upto_region 2 with fail
  rw [← hW]
  clear hW
  go_wp2_with fail
  ((with_reducible refine HCC.out.mono ?_); rintro e w1 ⟨rfl, hb1⟩)
  go_wp2_with fail
  go_ret
  exact ⟨by rw [HX.out]; rfl, hbW.trans (hb1.mono hbW.size)⟩

set_option maxRecDepth 8000 in
set_option maxHeartbeats 4000000 in
theorem icentre (p n : Int) (v : Value) (L : List (Nat → Nat → Int)) (w : World) (hl : L.length ≤ 1048576) (hS : SlM w v L) (hby : ∀ x ∈ L, Byt x) :
    Calls Try.prog 21 #[.agg #[.int .i64 p, .int .i64 n, v]] w (ResG w (cenO p n L)) := by
  have hmf : ∀ (fn : Fn) (first cap : Array Value) (w : World), (Instr.makeFunc fn first cap).run Try.prog w = .ok (.func fn first cap) w := fun _ _ _ _ => rfl
  obtain ⟨W, hW, rW, rR, hbW, hWs⟩ : ∃ W, W = (w.alloc (.cells #[.int .i64 p, .int .i64 n, v] 26)).alloc (.cells #[.int .i64 0, .int .i64 0, .slice none 0 0] 26) ∧ W.rowIs w.heap.size 26 3 (grpF p n v) ∧ W.rowIs (w.heap.size + 1) 26 3 (grpF 0 0 (.slice none 0 0)) ∧ Below w.heap.size w W ∧ w.heap.size + 2 ≤ W.heap.size := by
    refine ⟨_, rfl, (gbox w p n v _).alloc _, ?_, ebox2 _ _ _, by simp⟩
    have := gbox (w.alloc (.cells #[.int .i64 p, .int .i64 n, v] 26)) 0 0 (.slice none 0 0) 26
    rwa [World.size_alloc] at this
  have hSW := hS.below hbW
  obtain ⟨a, cap, rfl, hSc⟩ := id hS
  obtain ⟨g0, g1, g2⟩ := gcells rW
  have HBY := Lib.hid hby
  clear hby
  go_enter Try.func21, Try.ntmps21
  go_wp2_with fail
  rw [← hW]
  clear hW
  ((with_reducible refine (igroup p n _ L _ hl hSW HBY.out).mono ?_); rintro e w1 ⟨rfl, hb1⟩)
  have rx1 := erow_below rW hb1 rW.lt
  have rr := erow_below rR hb1 rR.lt
  have hbw1 := hbW.trans (hb1.mono hbW.size)
  have hS1 := hSW.below hb1
  clear g0 g1 g2
  cases hg : isGrp p n L
  · have HO := Lib.hid (show cenO p n L = noG 1 by unfold cenO; rw [hg]; rfl)
    clear hg
    obtain ⟨r0, r1, r2⟩ := gcells rr
    have z0 := rr.frozen 0
    have z1 := rr.frozen 1
    have z2 := rr.frozen 2
    have R := ((rr.set 0 (.int .i64 0)).set 1 (.int .i64 0)).set 2 (.slice none 0 0)
    have V0 := Lib.hid (R.cell (i := 0) (by omega))
    have V1 := Lib.hid (R.cell (i := 1) (by omega))
    have V2 := Lib.hid (R.cell (i := 2) (by omega))
    have HB := Lib.hid (show Below w.heap.size w (((w1.setCell ⟨w.heap.size + 1, 0, none⟩ (.int .i64 0)).setCell ⟨w.heap.size + 1, 1, none⟩ (.int .i64 0)).setCell ⟨w.heap.size + 1, 2, none⟩ (.slice none 0 0)) from ((hbw1.setCell (by simp) _).setCell (by simp) _).setCell (by simp) _)
    clear R
    go_wp2_with fail
    exact bodyPost_ret (v := .tuple #[.agg #[.int .i64 0, .int .i64 0, .slice none 0 0], .int .i64 1]) (by simp [results, Try.results21, go_sem, V0.out, V1.out, V2.out]) rfl ⟨_, by rw [HO.out]; rfl, by rw [HO.out]; exact ⟨none, 0, rfl, .inl rfl⟩, HB.out⟩
  · obtain ⟨m, rfl, m1, m3, hl48, hl1, hmv⟩ := isGrp_mats HBY.out hg
    have HO := Lib.hid (show cenO p m L = ⟨p, m, cenL p L, 0⟩ by unfold cenO; rw [hg]; rfl)
    clear hg
    obtain ⟨g0, g1, g2⟩ := gcells rx1
    have HJ : cpJ w1 (.pointer (some ⟨w.heap.size, 0, none⟩)) (cenG p L) L := fun w' hb' x hx => ccent p m _ L m x w.heap.size w' hl (hS1.below hb') (erow_below rx1 hb' rx1.lt) (hmv x hx) hmv
    have HCC := Lib.hid (cppart (.pointer (some ⟨w.heap.size, 0, none⟩)) (cenG p L) p m _ L w1 hl hS1 HJ)
    clear HJ hmv
    go_wp2_with fail
    ((with_reducible refine HCC.out.mono ?_); rintro e w2 ⟨v2, rfl, hown, hb2⟩)
    have rr2 := erow_below rr hb2 rr.lt
    have hbw2 := hbw1.trans (hb2.mono hbw1.size)
    have hS2 := OwnG9.slice hown
    obtain ⟨sa, sc, rfl⟩ := OwnG9.shape hown
    obtain ⟨r0, r1, r2⟩ := gcells rr2
    have z0 := rr2.frozen 0
    have z1 := rr2.frozen 1
    have z2 := rr2.frozen 2
    have R := ((rr2.set 0 (.int .i64 p)).set 1 (.int .i64 m)).set 2 (.slice sa (L.filter (cenG p L)).length sc)
    have V0 := Lib.hid (R.cell (i := 0) (by omega))
    have V1 := Lib.hid (R.cell (i := 1) (by omega))
    have V2 := Lib.hid (R.cell (i := 2) (by omega))
    have HB := Lib.hid (show Below w.heap.size w (((w2.setCell ⟨w.heap.size + 1, 0, none⟩ (.int .i64 p)).setCell ⟨w.heap.size + 1, 1, none⟩ (.int .i64 m)).setCell ⟨w.heap.size + 1, 2, none⟩ (.slice sa (L.filter (cenG p L)).length sc)) from ((hbw2.setCell (by simp) _).setCell (by simp) _).setCell (by simp) _)
    have HSL := Lib.hid (show SlM (((w2.setCell ⟨w.heap.size + 1, 0, none⟩ (.int .i64 p)).setCell ⟨w.heap.size + 1, 1, none⟩ (.int .i64 m)).setCell ⟨w.heap.size + 1, 2, none⟩ (.slice sa (L.filter (cenG p L)).length sc)) (.slice sa (L.filter (cenG p L)).length sc) (cenL p L) from by
      have hne : (Value.slice sa (L.filter (cenG p L)).length sc).ownBlock ≠ some (w.heap.size + 1) := fun e => by
        have := (World.ownsRow.lt hown _ e).1
        have := rr.lt
        omega
      exact OwnG9.slice (mown_set (mown_set (mown_set hown _ _ _ hne) _ _ _ hne) _ _ _ hne))
    clear R g0 g1 g2 HCC hS2 hown
    go_wp2_with fail
    exact bodyPost_ret (v := .tuple #[.agg #[.int .i64 p, .int .i64 m, .slice sa (L.filter (cenG p L)).length sc], .int .i64 0]) (by simp [results, Try.results21, go_sem, V0.out, V1.out, V2.out]) rfl ⟨_, by rw [HO.out], by rw [HO.out]; exact HSL.out, HB.out⟩
end Go.Proofs.Ytpbdbgajohacoaa
