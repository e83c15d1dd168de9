/-
  WALKS: 'impl.MultiplyPolys'. Conditions: as the theorem states.
-/
import Derived.Test.YtpnlpmalkiaioaaTk
import Derived.Test.YtpnlpmalkiaioaaMx
namespace Go.Proofs.Ytpnlpmalkiaioaa
open Go.RowKit Go.Sort Go.Maps

set_option maxRecDepth 8000 in
set_option maxHeartbeats 8000000 in
theorem implMul (p d p' d' : Int) (v v' : Value) (xs ys : List Tm) (w : World) (hl : xs.length ≤ 1048576) (hl' : ys.length ≤ 1048576) (hS : SliceT w v xs) (hS' : SliceT w v' ys) (hby : ∀ t ∈ xs, tmByte t) (hby' : ∀ t ∈ ys, tmByte t) (o : OutP) (ho : MulO p d xs p' d' ys o) :
    Calls Try.prog 22 #[.agg #[.int .i64 p, .int .i64 d, v], .agg #[.int .i64 p', .int .i64 d', v']] w (ResO w o) := by
  obtain ⟨a, cap, rfl, _⟩ := id hS
  obtain ⟨a', cap', rfl, _⟩ := id hS'
  obtain ⟨W, hW, hbW, ⟨hWs1, hWs2⟩, rx, ry, rr⟩ := pair3 w p d (.slice a xs.length cap) p' d' (.slice a' ys.length cap')
  have hSW := hS.below hbW
  have hSW' := hS'.below hbW
  obtain ⟨⟨c0, c1, c2⟩, _⟩ := poly3 rx
  obtain ⟨⟨d0, d1, d2⟩, _⟩ := poly3 ry
  go_enter Try.func22, Try.ntmps22
  go_wp2_with fail
  rw [← hW]
  clear hW
  ((with_reducible refine (check_any p d p' d' _ _ xs ys W hl hl' hSW hSW' hby hby').mono ?_); rintro e w1 ⟨rfl, hb1⟩)
  clear c0 c1 c2 d0 d1 d2
  have rx1 := rowIs_below rx hb1 rx.lt
  have ry1 := rowIs_below ry hb1 ry.lt
  have rr1 := rowIs_below rr hb1 rr.lt
  have hbw1 := hbW.trans (hb1.mono hbW.size)
  have hS1 := hSW.below hb1
  have hS1' := hSW'.below hb1
  have s1 := hb1.size
  obtain ⟨⟨c0, c1, c2⟩, _⟩ := poly3 rx1
  obtain ⟨⟨d0, d1, d2⟩, _⟩ := poly3 ry1
  obtain ⟨⟨r0, r1, r2⟩, z0, z1, z2⟩ := poly3 rr1
  obtain ⟨a0, a1, a2, a3, a4⟩ := fill_box (base := w.heap.size) rr1 (ownP_nil w1 w.heap.size) (Nat.le_refl _) hbw1 (by omega) 0 0
  have A0 := Lib.hid a0
  have A1 := Lib.hid a1
  have A2 := Lib.hid a2
  have A3 := Lib.hid a3
  have A4 := Lib.hid a4
  clear a0 a1 a2 a3 a4 rx rr ry
  rcases ho with ⟨c, hc, hc0, rfl⟩ | ⟨hc, hx0, hy0, hd, rfl⟩ | ⟨hc, hd, L, hL, rfl⟩
  · rw [hc]
    have e1 : (c != 0) = true := by simpa using hc0
    clear hc hc0
    go_wp2_with fail
    exact bodyPost_ret (v := .tuple #[.agg #[.int .i64 0, .int .i64 0, .slice none 0 0], .int .i64 c]) (by simp [results, Try.results22, go_sem, A0.out, A1.out, A2.out]) rfl ⟨_, rfl, A3.out, A4.out⟩
  · obtain ⟨rfl, rfl, h1, h2⟩ := like_zero hc
    have hv := valid_of h1 hby
    have hv' := valid_of h2 hby'
    obtain ⟨dx1, dx2⟩ := deg_bound hv
    obtain ⟨dy1, dy2⟩ := deg_bound hv'
    rw [hc]
    have u0 := cell_regrown c0
    have u1 := cell_regrown c1
    have u2 := cell_regrown c2
    have t0 := cell_regrown d0
    have t1 := cell_regrown d1
    have t2 := cell_regrown d2
    have hw : IntKind.i64.wrap (degI xs + degI ys) = degI xs + degI ys := IntWalk.i64_in _ (by omega)
    have kx : ∀ dd os, Calls Try.prog 50 #[.agg #[.int .i64 p, .int .i64 d, .slice a xs.length cap]] (grow (redrawn w1 dd) os) fun e w'' => e = .returned (.int .i64 (degI xs)) ∧ ∃ p : Regrown, w'' = grow (redrawn w1 p.d) p.os := fun dd os =>
      Calls.regrown_of (degree_any2 p d _ xs _ hl (hS1.below (below_regrown w1 dd os)) hby (fun t ht => (hv.mem t ht).1.2))
    have ky : ∀ dd os, Calls Try.prog 50 #[.agg #[.int .i64 p, .int .i64 d, .slice a' ys.length cap']] (grow (redrawn w1 dd) os) fun e w'' => e = .returned (.int .i64 (degI ys)) ∧ ∃ p : Regrown, w'' = grow (redrawn w1 p.d) p.os := fun dd os =>
      Calls.regrown_of (degree_any2 p d _ ys _ hl' (hS1'.below (below_regrown w1 dd os)) hby' (fun t ht => (hv'.mem t ht).1.2))
    have hle : decide (12 < degI xs + degI ys) = true := by simpa using hd
    generalize degI xs = gx at *
    generalize degI ys = gy at *
    clear hc h1 h2
    go_wp2_with fail
    refine wp_region_quiet_below (by kernel_rfl) (by kernel_rfl) ?_
    repeat (go_big_quiet_step (first | with_reducible exact kx _ _ | with_reducible exact ky _ _))
    refine wpQuiet_nil ?_
    intro _ hw'
    obtain ⟨⟨dq, osq⟩, hw''⟩ := hw'
    subst hw''
    have hbq := below_regrown w1 dq osq
    generalize grow (redrawn w1 dq) osq = w2 at *
    have rx2 := rowIs_below rx1 hbq rx1.lt
    have ry2 := rowIs_below ry1 hbq ry1.lt
    have rr2 := rowIs_below rr1 hbq rr1.lt
    have hbw2 := hbw1.trans (hbq.mono hbw1.size)
    clear kx ky u0 u1 u2 t0 t1 t2 c0 c1 c2 d0 d1 d2 r0 r1 r2 z0 z1 z2 A0 A1 A2 A3 A4
    try simp only [hw]
    obtain ⟨⟨r0, r1, r2⟩, z0, z1, z2⟩ := poly3 rr2
    obtain ⟨a0, a1, a2, a3, a4⟩ := fill_box (base := w.heap.size) rr2 (ownP_nil w2 w.heap.size) (Nat.le_refl _) hbw2 (by omega) 0 0
    have A0 := Lib.hid a0
    have A1 := Lib.hid a1
    have A2 := Lib.hid a2
    have A3 := Lib.hid a3
    have A4 := Lib.hid a4
    clear a0 a1 a2 a3 a4
    go_wp2_with fail
    exact bodyPost_ret (v := .tuple #[.agg #[.int .i64 0, .int .i64 0, .slice none 0 0], .int .i64 3]) (by simp [results, Try.results22, go_sem, A0.out, A1.out, A2.out]) rfl ⟨_, rfl, A3.out, A4.out⟩
  · obtain ⟨rfl, rfl, h1, h2⟩ := like_zero hc
    have hv := valid_of h1 hby
    have hv' := valid_of h2 hby'
    obtain ⟨dx1, dx2⟩ := deg_bound hv
    obtain ⟨dy1, dy2⟩ := deg_bound hv'
    rw [hc]
    have u0 := cell_regrown c0
    have u1 := cell_regrown c1
    have u2 := cell_regrown c2
    have t0 := cell_regrown d0
    have t1 := cell_regrown d1
    have t2 := cell_regrown d2
    have hw : IntKind.i64.wrap (degI xs + degI ys) = degI xs + degI ys := IntWalk.i64_in _ (by omega)
    have kx : ∀ dd os, Calls Try.prog 50 #[.agg #[.int .i64 p, .int .i64 d, .slice a xs.length cap]] (grow (redrawn w1 dd) os) fun e w'' => e = .returned (.int .i64 (degI xs)) ∧ ∃ p : Regrown, w'' = grow (redrawn w1 p.d) p.os := fun dd os =>
      Calls.regrown_of (degree_any2 p d _ xs _ hl (hS1.below (below_regrown w1 dd os)) hby (fun t ht => (hv.mem t ht).1.2))
    have ky : ∀ dd os, Calls Try.prog 50 #[.agg #[.int .i64 p, .int .i64 d, .slice a' ys.length cap']] (grow (redrawn w1 dd) os) fun e w'' => e = .returned (.int .i64 (degI ys)) ∧ ∃ p : Regrown, w'' = grow (redrawn w1 p.d) p.os := fun dd os =>
      Calls.regrown_of (degree_any2 p d _ ys _ hl' (hS1'.below (below_regrown w1 dd os)) hby' (fun t ht => (hv'.mem t ht).1.2))
    have hfit := fits_of hv hv' hd
    have hle0 : ¬ 12 < degI xs + degI ys := by
      rcases hd with rfl | rfl | hd
      · have : degI [] = -1 := rfl
        omega
      · have : degI [] = -1 := rfl
        omega
      · omega
    have hle : decide (12 < degI xs + degI ys) = false := by simpa using hle0
    clear hd
    generalize degI xs = gx at *
    generalize degI ys = gy at *
    clear hc h1 h2
    go_wp2_with fail
    refine wp_region_quiet_below (by kernel_rfl) (by kernel_rfl) ?_
    repeat (go_big_quiet_step (first | with_reducible exact kx _ _ | with_reducible exact ky _ _))
    refine wpQuiet_nil ?_
    intro _ hw'
    obtain ⟨⟨dq, osq⟩, hw''⟩ := hw'
    subst hw''
    have hbq := below_regrown w1 dq osq
    generalize grow (redrawn w1 dq) osq = w2 at *
    have rx2 := rowIs_below rx1 hbq rx1.lt
    have ry2 := rowIs_below ry1 hbq ry1.lt
    have rr2 := rowIs_below rr1 hbq rr1.lt
    have hbw2 := hbw1.trans (hbq.mono hbw1.size)
    clear kx ky u0 u1 u2 t0 t1 t2 c0 c1 c2 d0 d1 d2 r0 r1 r2 z0 z1 z2 A0 A1 A2 A3 A4
    try simp only [hw]
    have hS2 := hS1.below hbq
    have hS2' := hS1'.below hbq
    obtain ⟨⟨c0, c1, c2⟩, _⟩ := poly3 rx2
    obtain ⟨⟨d0, d1, d2⟩, _⟩ := poly3 ry2
    go_wp2_with fail
    ((with_reducible refine (product_any p d _ _ xs ys w2 hS2 hS2' hv hv' hfit).mono ?_); rintro e w3 ⟨v3, L2, rfl, ho3, hL2, hb3⟩)
    obtain rfl : L2 = L := hL2.unique hL
    obtain ⟨sa2, sc2, rfl⟩ := owns_slice ho3
    have rr3 := rowIs_below rr2 hb3 rr2.lt
    obtain ⟨a0, a1, a2, a3, a4⟩ := fill_box rr3 ho3 hbw2.size (hbw2.trans (hb3.mono hbw2.size)) (by omega) p d
    have A0 := Lib.hid a0
    have A1 := Lib.hid a1
    have A2 := Lib.hid a2
    have A3 := Lib.hid a3
    have A4 := Lib.hid a4
    clear a0 a1 a2 a3 a4 c0 c1 c2 d0 d1 d2 ho3
    obtain ⟨⟨r0, r1, r2⟩, z0, z1, z2⟩ := poly3 rr3
    go_wp2_with fail
    exact bodyPost_ret (v := .tuple #[.agg #[.int .i64 p, .int .i64 d, .slice sa2 L2.length sc2], .int .i64 0]) (by simp [results, Try.results22, go_sem, A0.out, A1.out, A2.out]) rfl ⟨_, rfl, A3.out, A4.out⟩
end Go.Proofs.Ytpnlpmalkiaioaa
