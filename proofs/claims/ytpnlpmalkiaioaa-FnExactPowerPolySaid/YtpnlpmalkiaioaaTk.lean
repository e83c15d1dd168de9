/-
  WALKS: 'spec.l01Times' beyond the limit, 'spec.MultiplyPolys'. Conditions: as each theorem states.
-/
import Derived.Test.YtpnlpmalkiaioaaTj
import Derived.Test.YtpnlpmalkiaioaaAd
import Derived.Test.YtpnlpmalkiaioaaLs2
namespace Go.Proofs.Ytpnlpmalkiaioaa
open Go.RowKit Go.Sort Go.Maps

set_option maxRecDepth 8000 in
set_option maxHeartbeats 16000000 in
theorem specTimes_big (p d : Int) (v v' : Value) (xs ys : List Tm) (w : World) (hS : SliceT w v xs) (hS' : SliceT w v' ys) (hV : Valid p d xs) (hV' : Valid p d ys) (hx0 : xs ≠ []) (hy0 : ys ≠ []) (hd : 12 < degI xs + degI ys) :
    Calls Try.prog 49 #[.agg #[.int .i64 p, .int .i64 d, v], .agg #[.int .i64 p, .int .i64 d, v']] w fun e w' =>
      ∃ v', e = .returned (.tuple #[.agg #[.int .i64 p, .int .i64 d, v'], .bool false]) ∧ OwnP w' w.heap.size v' [] ∧ Below w.heap.size w w' := by
  have hlx := hV.isP.len
  have hly := hV'.isP.len
  have hbx := hV.byte
  have hby := hV'.byte
  obtain ⟨dx1, dx2⟩ := deg_bound hV
  obtain ⟨dy1, dy2⟩ := deg_bound hV'
  obtain ⟨a, cap, rfl, _⟩ := id hS
  obtain ⟨a', cap', rfl, _⟩ := id hS'
  obtain ⟨W, hW, hbW, ⟨hWs1, hWs2⟩, rx, ry, rr⟩ := pair3 w p d (.slice a xs.length cap) p d (.slice a' ys.length cap')
  obtain ⟨⟨c0, c1, c2⟩, _⟩ := poly3 rx
  go_enter Try.func49, Try.ntmps49
  go_wp2_with fail
  rw [← hW]
  clear hW c0 c1 c2
  ((with_reducible refine (empty_any p d W).mono ?_); rintro e w1 ⟨rfl, hown, hb1⟩)
  obtain ⟨V, hV1, hbV, ⟨hVs1, hVs2⟩, rq⟩ : ∃ V, V = w1.alloc (.cells #[.int .i64 p, .int .i64 d, .slice (some ⟨W.heap.size + 1, 0, none⟩) 0 0] 25) ∧ Below w1.heap.size w1 V ∧ (V.heap.size ≤ w1.heap.size + 1 ∧ w1.heap.size + 1 ≤ V.heap.size) ∧
      V.rowIs w1.heap.size 25 3 (polyF p d (.slice (some ⟨W.heap.size + 1, 0, none⟩) 0 0)) := by
    refine ⟨_, rfl, box1 _ _, ⟨by simp, by simp⟩, ?_⟩
    exact World.rowIs_alloc w1 #[Value.int .i64 p, .int .i64 d, .slice (some ⟨W.heap.size + 1, 0, none⟩) 0 0] _ _ (fun i hi => by simp at hi; match i, hi with | 0, _ => rfl | 1, _ => rfl | 2, _ => rfl)
  have s1 := hb1.size
  have hbWV := hb1.trans (hbV.mono hb1.size)
  have hst : Part2 w V W.heap.size w1.heap.size w.heap.size (w.heap.size + 1) (w.heap.size + 2) p d p d (.slice a xs.length cap) (.slice a' ys.length cap') (.slice (some ⟨W.heap.size + 1, 0, none⟩) 0 0) [] :=
    ⟨⟨owns_belowT hown hbV, rq, rowIs_below rx hbWV rx.lt, rowIs_below rr hbWV rr.lt, hbW.trans (hbWV.mono hbW.size), by omega, by omega, by omega, by omega, by omega, by omega⟩, rowIs_below ry hbWV ry.lt, by omega⟩
  have rx1 := rowIs_below rx hb1 rx.lt
  have ry1 := rowIs_below ry hb1 ry.lt
  have xo : ∀ o, (w1.alloc o).cell? ⟨w.heap.size, 2, none⟩ = some (.slice a xs.length cap) := fun o => ((box1 w1 o).cell rx1.lt).trans (poly3 rx1).1.2.2
  have yo : ∀ o, (w1.alloc o).cell? ⟨w.heap.size + 1, 2, none⟩ = some (.slice a' ys.length cap') := fun o => ((box1 w1 o).cell ry1.lt).trans (poly3 ry1).1.2.2
  have hz : ((xs.length : Int) == 0) = false := by simpa using hx0
  have hz' : ((ys.length : Int) == 0) = false := by simpa using hy0
  have hSV := hS.below hst.part.below
  have hSV' := hS'.below hst.part.below
  obtain ⟨⟨c0, c1, c2⟩, _⟩ := poly3 hst.part.arg
  obtain ⟨⟨d0, d1, d2⟩, _⟩ := poly3 hst.arg2
  have u0 := cell_regrown c0
  have u1 := cell_regrown c1
  have u2 := cell_regrown c2
  have t0 := cell_regrown d0
  have t1 := cell_regrown d1
  have t2 := cell_regrown d2
  have hw : IntKind.i64.wrap (degI xs + degI ys) = degI xs + degI ys := IntWalk.i64_in _ (by omega)
  have kx : ∀ dd os, Calls Try.prog 70 #[.agg #[.int .i64 p, .int .i64 d, .slice a xs.length cap]] (grow (redrawn V dd) os) fun e w'' => e = .returned (.int .i64 (degI xs)) ∧ ∃ p : Regrown, w'' = grow (redrawn V p.d) p.os := fun dd os =>
    Calls.regrown_of (specDegree_any p d _ xs _ (by omega) (hSV.below (below_regrown V dd os)) hbx)
  have ky : ∀ dd os, Calls Try.prog 70 #[.agg #[.int .i64 p, .int .i64 d, .slice a' ys.length cap']] (grow (redrawn V dd) os) fun e w'' => e = .returned (.int .i64 (degI ys)) ∧ ∃ p : Regrown, w'' = grow (redrawn V p.d) p.os := fun dd os =>
    Calls.regrown_of (specDegree_any p d _ ys _ (by omega) (hSV'.below (below_regrown V dd os)) hby)
  generalize degI xs = gx at *
  generalize degI ys = gy at *
  have hle2 : decide (12 < gx + gy) = true := by simpa using hd
  clear rx ry rr rq hown rx1 ry1 hbx hby hSV hSV'
  go_wp2_with fail
  rw [← hV1]
  clear hV1 xo yo
  refine wp_region_quiet_below (by kernel_rfl) (by kernel_rfl) ?_
  repeat (go_big_quiet_step (first | with_reducible exact kx _ _ | with_reducible exact ky _ _))
  refine wpQuiet_nil ?_
  intro _ hw'
  obtain ⟨⟨dq, osq⟩, hw''⟩ := hw'
  subst hw''
  have hst2 := hst.later (below_regrown V dq osq)
  clear hst kx ky u0 u1 u2 t0 t1 t2 c0 c1 c2 d0 d1 d2
  generalize grow (redrawn V dq) osq = V2 at *
  try simp only [hw]
  obtain ⟨⟨q0, q1, q2⟩, _⟩ := poly3 hst2.part.out
  obtain ⟨⟨r0, r1, r2⟩, y0, y1, y2⟩ := poly3 hst2.part.res
  obtain ⟨a0, a1, a2, a3, a4⟩ := hst2.part.finish p d
  have A0 := Lib.hid a0
  have A1 := Lib.hid a1
  have A2 := Lib.hid a2
  have A3 := Lib.hid a3
  have A4 := Lib.hid a4
  clear a0 a1 a2 a3 a4 hst2
  go_wp2_with fail
  exact bodyPost_ret (v := .tuple #[.agg #[.int .i64 p, .int .i64 d, .slice (some ⟨W.heap.size + 1, 0, none⟩) 0 0], .bool false]) (by simp [results, Try.results49, go_sem, A0.out, A1.out, A2.out]) rfl ⟨_, rfl, A3.out, A4.out⟩

theorem specTimes_any (p d : Int) (v v' : Value) (xs ys : List Tm) (w : World) (hS : SliceT w v xs) (hS' : SliceT w v' ys) (hV : Valid p d xs) (hV' : Valid p d ys) (hd : xs = [] ∨ ys = [] ∨ degI xs + degI ys ≤ 12) :
    Calls Try.prog 49 #[.agg #[.int .i64 p, .int .i64 d, v], .agg #[.int .i64 p, .int .i64 d, v']] w fun e w' =>
      ∃ v' L, e = .returned (.tuple #[.agg #[.int .i64 p, .int .i64 d, v'], .bool true]) ∧ OwnP w' w.heap.size v' L ∧ IsP p L (mulF p xs ys) ∧ Below w.heap.size w w' := by
  have hlx := hV.isP.len
  have hly := hV'.isP.len
  by_cases hx : xs = []
  · refine (specTimes_nil p d v v' xs ys w hS hS' (by omega) (by omega) (.inl hx)).mono fun e w' ⟨v2, h1, h2, h3⟩ => ⟨v2, [], h1, h2, (IsP.nil p).congr fun e _ => ?_, h3⟩
    rw [hx, mulF_nil]
  by_cases hy : ys = []
  · refine (specTimes_nil p d v v' xs ys w hS hS' (by omega) (by omega) (.inr hy)).mono fun e w' ⟨v2, h1, h2, h3⟩ => ⟨v2, [], h1, h2, (IsP.nil p).congr fun e _ => ?_, h3⟩
    rw [hy, mulF, mulS_nil]
    simp
  · exact specTimes_some p d v v' xs ys w hS hS' hV hV' hx hy (by rcases hd with h | h | h; exact absurd h hx; exact absurd h hy; exact h)

/-- What 'MultiplyPolys' gives. -/
def MulO (p d : Int) (xs : List Tm) (p' d' : Int) (ys : List Tm) (o : OutP) : Prop :=
  (∃ c, likeC p d xs p' d' ys = c ∧ c ≠ 0 ∧ o = noP c) ∨ (likeC p d xs p' d' ys = 0 ∧ xs ≠ [] ∧ ys ≠ [] ∧ 12 < degI xs + degI ys ∧ o = noP 3) ∨
    (likeC p d xs p' d' ys = 0 ∧ (xs = [] ∨ ys = [] ∨ degI xs + degI ys ≤ 12) ∧ ∃ L, IsP p L (mulF p xs ys) ∧ o = ⟨p, d, L, 0⟩)
theorem mulO_ex (p d : Int) (xs : List Tm) (p' d' : Int) (ys : List Tm) (hby : ∀ t ∈ xs, tmByte t) (hby' : ∀ t ∈ ys, tmByte t) : ∃ o, MulO p d xs p' d' ys o := by
  by_cases h0 : likeC p d xs p' d' ys = 0
  · by_cases hd : xs = [] ∨ ys = [] ∨ degI xs + degI ys ≤ 12
    · obtain ⟨rfl, rfl, h1, h2⟩ := like_zero h0
      have hv := valid_of h1 hby
      have hv' := valid_of h2 hby'
      obtain ⟨L, hL⟩ := mul_ex hv hv' (fits_of hv hv' hd)
      exact ⟨_, .inr (.inr ⟨h0, hd, L, hL, rfl⟩)⟩
    · exact ⟨_, .inr (.inl ⟨h0, fun h => hd (.inl h), fun h => hd (.inr (.inl h)), by
        have : ¬ degI xs + degI ys ≤ 12 := fun h => hd (.inr (.inr h))
        omega, rfl⟩)⟩
  · exact ⟨_, .inl ⟨_, rfl, h0, rfl⟩⟩
theorem mulO_len {p d p' d' : Int} {xs ys : List Tm} {o : OutP} (h : MulO p d xs p' d' ys o) : o.S.length ≤ 1048576 := by
  rcases h with ⟨c, _, _, rfl⟩ | ⟨_, _, _, _, rfl⟩ | ⟨_, _, L, hL, rfl⟩
  · simp [noP]
  · simp [noP]
  · exact Nat.le_trans hL.len (by omega)

set_option maxRecDepth 8000 in
set_option maxHeartbeats 8000000 in
theorem specMul (p d p' d' : Int) (v v' : Value) (xs ys : List Tm) (w : World) (hl : xs.length ≤ 1048576) (hl' : ys.length ≤ 1048576) (hS : SliceT w v xs) (hS' : SliceT w v' ys) (hby : ∀ t ∈ xs, tmByte t) (hby' : ∀ t ∈ ys, tmByte t) (o : OutP) (ho : MulO p d xs p' d' ys o) :
    Calls Try.prog 21 #[.agg #[.int .i64 p, .int .i64 d, v], .agg #[.int .i64 p', .int .i64 d', v']] w (ResO w o) := by
  obtain ⟨a, cap, rfl, _⟩ := id hS
  obtain ⟨a', cap', rfl, _⟩ := id hS'
  obtain ⟨W, hW, hbW, ⟨hWs1, hWs2⟩, rx, ry, rr⟩ := pair3 w p d (.slice a xs.length cap) p' d' (.slice a' ys.length cap')
  have hSW := hS.below hbW
  have hSW' := hS'.below hbW
  obtain ⟨⟨c0, c1, c2⟩, _⟩ := poly3 rx
  obtain ⟨⟨d0, d1, d2⟩, _⟩ := poly3 ry
  go_enter Try.func21, Try.ntmps21
  go_wp2_with fail
  rw [← hW]
  clear hW
  ((with_reducible refine (like_any p d p' d' _ _ xs ys W hl hl' hSW hSW' hby hby').mono ?_); rintro e w1 ⟨rfl, hb1⟩)
  clear c0 c1 c2 d0 d1 d2
  have rx1 := rowIs_below rx hb1 rx.lt
  have ry1 := rowIs_below ry hb1 ry.lt
  have rr1 := rowIs_below rr hb1 rr.lt
  have hbw1 := hbW.trans (hb1.mono hbW.size)
  have hS1 := hSW.below hb1
  have hS1' := hSW'.below hb1
  have s1 := hb1.size
  obtain ⟨⟨c0, c1, c2⟩, _⟩ := poly3 rx1
  obtain ⟨⟨d0, d1, d2⟩, _⟩ := poly3 ry1
  obtain ⟨⟨r0, r1, r2⟩, z0, z1, z2⟩ := poly3 rr1
  obtain ⟨a0, a1, a2, a3, a4⟩ := fill_box (base := w.heap.size) rr1 (ownP_nil w1 w.heap.size) (Nat.le_refl _) hbw1 (by omega) 0 0
  have A0 := Lib.hid a0
  have A1 := Lib.hid a1
  have A2 := Lib.hid a2
  have A3 := Lib.hid a3
  have A4 := Lib.hid a4
  clear a0 a1 a2 a3 a4 rx rr ry
  rcases ho with ⟨c, hc, hc0, rfl⟩ | ⟨hc, hx0, hy0, hd, rfl⟩ | ⟨hc, hd, L, hL, rfl⟩
  · rw [hc]
    have e1 : (c != 0) = true := by simpa using hc0
    clear hc hc0
    go_wp2_with fail
    exact bodyPost_ret (v := .tuple #[.agg #[.int .i64 0, .int .i64 0, .slice none 0 0], .int .i64 c]) (by simp [results, Try.results21, go_sem, A0.out, A1.out, A2.out]) rfl ⟨_, rfl, A3.out, A4.out⟩
  · obtain ⟨rfl, rfl, h1, h2⟩ := like_zero hc
    have hv := valid_of h1 hby
    have hv' := valid_of h2 hby'
    rw [hc]
    clear hc h1 h2
    go_wp2_with fail
    ((with_reducible refine (specTimes_big p d _ _ xs ys w1 hS1 hS1' hv hv' hx0 hy0 hd).mono ?_); rintro e w2 ⟨v2, rfl, ho2, hb2⟩)
    clear A0 A1 A2 A3 A4 c0 c1 c2 d0 d1 d2 r0 r1 r2 z0 z1 z2 hd
    have rr2 := rowIs_below rr1 hb2 rr1.lt
    have ho2' : w2.ownsRow w1.heap.size 74 4 v2 0 [] := ho2
    obtain ⟨sa2, sc2, rfl⟩ := owns_slice ho2'
    obtain ⟨V, hV, hbV, _, _⟩ := newbox w2 p d (.slice sa2 0 sc2)
    have rrV := rowIs_below rr2 hbV rr2.lt
    have hbw2 := hbw1.trans (hb2.mono hbw1.size)
    obtain ⟨a0, a1, a2, a3, a4⟩ := fill_box (base := w.heap.size) rrV (ownP_nil V w.heap.size) (Nat.le_refl _) (hbw2.trans (hbV.mono hbw2.size)) (by omega) 0 0
    have A0 := Lib.hid a0
    have A1 := Lib.hid a1
    have A2 := Lib.hid a2
    have A3 := Lib.hid a3
    have A4 := Lib.hid a4
    have ro : ∀ o, ((w2.alloc o).cell? ⟨w.heap.size + 2, 0, none⟩ = some (.int .i64 0) ∧ (w2.alloc o).cell? ⟨w.heap.size + 2, 1, none⟩ = some (.int .i64 0) ∧ (w2.alloc o).cell? ⟨w.heap.size + 2, 2, none⟩ = some (.slice none 0 0)) ∧ (w2.alloc o).frozen? ⟨w.heap.size + 2, 0, none⟩ = false ∧ (w2.alloc o).frozen? ⟨w.heap.size + 2, 1, none⟩ = false ∧ (w2.alloc o).frozen? ⟨w.heap.size + 2, 2, none⟩ = false := fun o => poly3 (rowIs_below rr2 (box1 _ o) rr2.lt)
    clear a0 a1 a2 a3 a4 rr2 rrV ho2 ho2'
    go_wp2_with fail
    rw [← hV]
    exact bodyPost_ret (v := .tuple #[.agg #[.int .i64 0, .int .i64 0, .slice none 0 0], .int .i64 3]) (by simp [results, Try.results21, go_sem, A0.out, A1.out, A2.out]) rfl ⟨_, rfl, A3.out, A4.out⟩
  · obtain ⟨rfl, rfl, h1, h2⟩ := like_zero hc
    have hv := valid_of h1 hby
    have hv' := valid_of h2 hby'
    rw [hc]
    clear hc h1 h2
    go_wp2_with fail
    ((with_reducible refine (specTimes_any p d _ _ xs ys w1 hS1 hS1' hv hv' hd).mono ?_); rintro e w2 ⟨v2, L2, rfl, ho2, hL2, hb2⟩)
    obtain rfl : L2 = L := hL2.unique hL
    clear A0 A1 A2 A3 A4 c0 c1 c2 d0 d1 d2 r0 r1 r2 z0 z1 z2 hd
    obtain ⟨sa2, sc2, rfl⟩ := owns_slice ho2
    have rr2 := rowIs_below rr1 hb2 rr1.lt
    obtain ⟨V, hV, hbV, _, _⟩ := newbox w2 p d (.slice sa2 L2.length sc2)
    have rrV := rowIs_below rr2 hbV rr2.lt
    have hbw2 := hbw1.trans (hb2.mono hbw1.size)
    obtain ⟨a0, a1, a2, a3, a4⟩ := fill_box rrV (owns_belowT ho2 hbV) hbw1.size (hbw2.trans (hbV.mono hbw2.size)) (by omega) p d
    have A0 := Lib.hid a0
    have A1 := Lib.hid a1
    have A2 := Lib.hid a2
    have A3 := Lib.hid a3
    have A4 := Lib.hid a4
    have ro : ∀ o, ((w2.alloc o).cell? ⟨w.heap.size + 2, 0, none⟩ = some (.int .i64 0) ∧ (w2.alloc o).cell? ⟨w.heap.size + 2, 1, none⟩ = some (.int .i64 0) ∧ (w2.alloc o).cell? ⟨w.heap.size + 2, 2, none⟩ = some (.slice none 0 0)) ∧ (w2.alloc o).frozen? ⟨w.heap.size + 2, 0, none⟩ = false ∧ (w2.alloc o).frozen? ⟨w.heap.size + 2, 1, none⟩ = false ∧ (w2.alloc o).frozen? ⟨w.heap.size + 2, 2, none⟩ = false := fun o => poly3 (rowIs_below rr2 (box1 _ o) rr2.lt)
    clear a0 a1 a2 a3 a4 rr2 rrV ho2
    go_wp2_with fail
    rw [← hV]
    exact bodyPost_ret (v := .tuple #[.agg #[.int .i64 p, .int .i64 d, .slice sa2 L2.length sc2], .int .i64 0]) (by simp [results, Try.results21, go_sem, A0.out, A1.out, A2.out]) rfl ⟨_, rfl, A3.out, A4.out⟩
end Go.Proofs.Ytpnlpmalkiaioaa
