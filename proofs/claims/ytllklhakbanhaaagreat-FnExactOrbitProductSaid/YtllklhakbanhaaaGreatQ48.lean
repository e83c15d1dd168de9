/-
  WALKS: 'impl.TransferOf', 'spec.TransferOf'. Conditions: the numbers fit their kinds.
-/
import Derived.Test.YtllklhakbanhaaaGreatQ47
namespace Go.Proofs.YtllklhakbanhaaaGreat
open Go.RowKit Go.Sort Go.Maps EchM

/-- The boxes of a group, of a polynomial and of the result. -/
theorem boxGPR (w : World) (p n : Int) (v : Value) (q d : Int) (u : Value) : ∃ W, W = ((w.alloc (.cells #[.int .i64 p, .int .i64 n, v] 35)).alloc (.cells #[.int .i64 q, .int .i64 d, u] 39)).alloc (.cells #[.int .i64 0, .int .i64 0, .slice none 0 0] 39) ∧ Below w.heap.size w W ∧ (W.heap.size ≤ w.heap.size + 3 ∧ w.heap.size + 3 ≤ W.heap.size) ∧
      W.rowIs w.heap.size 35 3 (grpF p n v) ∧ W.rowIs (w.heap.size + 1) 39 3 (polyF q d u) ∧ W.rowIs (w.heap.size + 2) 39 3 (polyF 0 0 (.slice none 0 0)) := by
  obtain ⟨U, hU, hbU, ⟨u1, u2⟩, rg, rx⟩ := boxGP w p n v q d u
  have rz := zbox U
  have hs : U.heap.size = w.heap.size + 2 := by omega
  rw [hs] at rz
  have hb := box1 U (.cells #[.int .i64 0, .int .i64 0, .slice none 0 0] 39)
  exact ⟨_, by rw [hU], hbU.trans (hb.mono hbU.size), ⟨by simp [hs], by simp [hs]⟩, rowIs_below rg hb rg.lt, rowIs_below rx hb rx.lt, rz⟩
theorem gpO_len {p n C : Int} {R : Nat → List Tm → Prop} {o : OutP} (hR : ∀ m S, R m S → S.length ≤ 1048576) (h : GpO p n C R o) : o.S.length ≤ 1048576 := by
  rcases h with ⟨_, rfl⟩ | ⟨_, m, S, _, hS, rfl⟩
  · simp [noP]
  · exact hR m S hS
/-- What the transfer is. -/
def traR (p : Int) (L : List (Nat → Nat → Int)) (xs : List Tm) (m : Nat) (S : List Tm) : Prop := IsP p S (sumK p 1 (allL p m L xs))
abbrev TraO (p n : Int) (L : List (Nat → Nat → Int)) (q d : Int) (xs : List Tm) (o : OutP) : Prop := GpO p n (actC p n L q d xs) (traR p L xs) o
theorem traO_len {p n : Int} {L : List (Nat → Nat → Int)} {q d : Int} {xs : List Tm} {o : OutP} (h : TraO p n L q d xs o) : o.S.length ≤ 1048576 :=
  gpO_len (fun _ _ hS => Nat.le_trans (IsP.len hS) (by omega)) h
theorem traO_ex {p n : Int} {L : List (Nat → Nat → Int)} {q d : Int} {xs : List Tm} (hby : ∀ x ∈ L, Byt x) (hxb : ∀ t ∈ xs, tmByte t) : ∃ o, TraO p n L q d xs o := by
  by_cases hc : actC p n L q d xs = 0
  · obtain ⟨m, rfl, rfl, rfl, hG⟩ := grpP_of hby hxb hc
    obtain ⟨S, hS⟩ := sum_ex (k := 1) hG.p2 _ (allL q m L xs) rfl hG.allV
    exact ⟨_, .inr ⟨hc, m, S, rfl, hS, rfl⟩⟩
  · exact ⟨_, .inl ⟨hc, rfl⟩⟩

set_option maxRecDepth 8000 in
set_option maxHeartbeats 8000000 in
theorem itra (p n : Int) (v : Value) (L : List (Nat → Nat → Int)) (q d : Int) (u : Value) (xs : List Tm) (w : World) (hl : L.length ≤ 1048576) (hS : SlM w v L) (hby : ∀ x ∈ L, Byt x) (hxl : xs.length ≤ 1048576) (hU : SliceT w u xs) (hxb : ∀ t ∈ xs, tmByte t) (o : OutP) (ho : TraO p n L q d xs o) :
    Calls Tryz.prog 42 #[.agg #[.int .i64 p, .int .i64 n, v], .agg #[.int .i64 q, .int .i64 d, u]] w (ResO w o) := by
  obtain ⟨W, hW, hbW, ⟨hWs1, hWs2⟩, rg, rx, rr⟩ := boxGPR w p n v q d u
  have hSW := hS.below hbW
  have hUW := hU.below hbW
  obtain ⟨a, cap, rfl, _⟩ := id hS
  obtain ⟨ua, uc, rfl, _⟩ := id hU
  obtain ⟨g0, g1, g2⟩ := gcells rg
  obtain ⟨⟨x0, x1, x2⟩, _⟩ := poly3 rx
  have HBY := Lib.hid hby
  have HXB := Lib.hid hxb
  clear hby hxb
  go_enter Tryz.func42, Tryz.ntmps42
  go_upto_region 1 with fail
  rw [← hW]
  clear hW
  go_wp2_with fail
  ((with_reducible refine (icode3 p n _ L q d _ xs W hl hSW HBY.out hxl hUW HXB.out).mono ?_); rintro e w1 ⟨rfl, hb1⟩)
  have hbw1 := hbW.trans (hb1.mono hbW.size)
  have rg1 := erow_below rg hb1 rg.lt
  have rx1 := erow_below rx hb1 rx.lt
  have rr1 := erow_below rr hb1 rr.lt
  have hS1 := hSW.below hb1
  have hU1 := hUW.below hb1
  clear g0 g1 g2 x0 x1 x2 rg rx rr
  rcases ho with ⟨hc, rfl⟩ | ⟨hc, m', S, hm', hR, rfl⟩
  · obtain ⟨C, hC⟩ : ∃ C, actC p n L q d xs = C := ⟨_, rfl⟩
    have HC := Lib.hid hC
    rw [hC] at hc ⊢
    have hc' : (C != 0) = true := by simpa using hc
    clear hc hC
    obtain ⟨⟨r0, r1, r2⟩, z0, z1, z2⟩ := poly3 rr1
    obtain ⟨a0, a1, a2, a3, a4⟩ := fill_box (base := w.heap.size) rr1 (ownP_nil w1 w.heap.size) (Nat.le_refl _) hbw1 (by omega) 0 0
    have A0 := Lib.hid a0
    have A1 := Lib.hid a1
    have A2 := Lib.hid a2
    have A3 := Lib.hid a3
    have A4 := Lib.hid a4
    clear a0 a1 a2 a3 a4
    go_wp2_with fail
    exact bodyPost_ret (v := .tuple #[.agg #[.int .i64 0, .int .i64 0, .slice none 0 0], .int .i64 C]) (by simp [results, Tryz.results42, go_sem, A0.out, A1.out, A2.out]) rfl ⟨_, by rw [HC.out]; rfl, A3.out, A4.out⟩
  · obtain ⟨m, rfl, rfl, rfl, hG⟩ := grpP_of HBY.out HXB.out hc
    obtain rfl : m = m' := by omega
    have HR := Lib.hid hR
    rw [hc]
    clear hc hR hm'
    obtain ⟨g0, g1, g2⟩ := gcells rg1
    obtain ⟨⟨x0, x1, x2⟩, _⟩ := poly3 rx1
    have HAC := Lib.hid (iled hG (.slice a L.length cap) (.slice ua xs.length uc) w1 hS1 hU1)
    have HSM := Lib.hid (fun w v h => isum q m 1 v (allL q m L xs) w (by rw [allL_len]; exact hG.l1) (by rw [allL_len]; exact Nat.le_trans hG.l48 (by omega)) hG.allV (by omega) (by have := hG.p2; omega) h)
    clear hG
    go_wp2_with fail
    ((with_reducible refine HAC.out.mono ?_); rintro e w2 ⟨v2, us, hi2, rfl, hP2, hb2⟩)
    have hbw2 := hbw1.trans (hb2.mono hbw1.size)
    have rr2 := rowIs_below rr1 hb2 rr1.lt
    have hR2 : SlPn w2 q m v2 (allL q m L xs) := hP2.slP
    obtain ⟨pa, pc, rfl⟩ := hP2.shape
    clear g0 g1 g2 x0 x1 x2 HAC hP2 hb2 rg1 rx1 rr1
    go_wp2_with fail
    ((with_reducible refine (HSM.out _ _ hR2).mono ?_); rintro e w3 ⟨v3, S3, rfl, ho3, hI3, hb3⟩)
    obtain rfl : S3 = S := hI3.unique HR.out
    obtain ⟨sa3, sc3, rfl⟩ := owns_slice ho3
    have hbw3 := hbw2.trans (hb3.mono hbw2.size)
    have rr3 := rowIs_below rr2 hb3 rr2.lt
    obtain ⟨⟨r0, r1, r2⟩, z0, z1, z2⟩ := poly3 rr3
    obtain ⟨a0, a1, a2, a3, a4⟩ := fill_box (w := w) rr3 ho3 hbw2.size hbw3 (by omega) q (m : Int)
    have A0 := Lib.hid a0
    have A1 := Lib.hid a1
    have A2 := Lib.hid a2
    have A3 := Lib.hid a3
    have A4 := Lib.hid a4
    clear a0 a1 a2 a3 a4 hR2 HSM
    go_wp2_with fail
    exact bodyPost_ret (v := .tuple #[.agg #[.int .i64 q, .int .i64 (m : Int), .slice sa3 S3.length sc3], .int .i64 0]) (by simp [results, Tryz.results42, go_sem, A0.out, A1.out, A2.out]) rfl ⟨_, rfl, A3.out, A4.out⟩

set_option maxRecDepth 8000 in
set_option maxHeartbeats 8000000 in
theorem stra (p n : Int) (v : Value) (L : List (Nat → Nat → Int)) (q d : Int) (u : Value) (xs : List Tm) (w : World) (hl : L.length ≤ 1048576) (hS : SlM w v L) (hby : ∀ x ∈ L, Byt x) (hxl : xs.length ≤ 1048576) (hU : SliceT w u xs) (hxb : ∀ t ∈ xs, tmByte t) (o : OutP) (ho : TraO p n L q d xs o) :
    Calls Tryz.prog 41 #[.agg #[.int .i64 p, .int .i64 n, v], .agg #[.int .i64 q, .int .i64 d, u]] w (ResO w o) := by
  obtain ⟨W, hW, hbW, ⟨hWs1, hWs2⟩, rg, rx, rr⟩ := boxGPR w p n v q d u
  have hSW := hS.below hbW
  have hUW := hU.below hbW
  obtain ⟨a, cap, rfl, _⟩ := id hS
  obtain ⟨ua, uc, rfl, _⟩ := id hU
  obtain ⟨g0, g1, g2⟩ := gcells rg
  obtain ⟨⟨x0, x1, x2⟩, _⟩ := poly3 rx
  have HBY := Lib.hid hby
  have HXB := Lib.hid hxb
  clear hby hxb
  go_enter Tryz.func41, Tryz.ntmps41
  go_upto_region 1 with fail
  rw [← hW]
  clear hW
  go_wp2_with fail
  ((with_reducible refine (scode3 p n _ L q d _ xs W hl hSW HBY.out hxl hUW HXB.out).mono ?_); rintro e w1 ⟨rfl, hb1⟩)
  have hbw1 := hbW.trans (hb1.mono hbW.size)
  have rg1 := erow_below rg hb1 rg.lt
  have rx1 := erow_below rx hb1 rx.lt
  have rr1 := erow_below rr hb1 rr.lt
  have hS1 := hSW.below hb1
  have hU1 := hUW.below hb1
  clear g0 g1 g2 x0 x1 x2 rg rx rr
  rcases ho with ⟨hc, rfl⟩ | ⟨hc, m', S, hm', hR, rfl⟩
  · obtain ⟨C, hC⟩ : ∃ C, actC p n L q d xs = C := ⟨_, rfl⟩
    have HC := Lib.hid hC
    rw [hC] at hc ⊢
    have hc' : (C != 0) = true := by simpa using hc
    clear hc hC
    obtain ⟨⟨r0, r1, r2⟩, z0, z1, z2⟩ := poly3 rr1
    obtain ⟨a0, a1, a2, a3, a4⟩ := fill_box (base := w.heap.size) rr1 (ownP_nil w1 w.heap.size) (Nat.le_refl _) hbw1 (by omega) 0 0
    have A0 := Lib.hid a0
    have A1 := Lib.hid a1
    have A2 := Lib.hid a2
    have A3 := Lib.hid a3
    have A4 := Lib.hid a4
    clear a0 a1 a2 a3 a4
    go_wp2_with fail
    exact bodyPost_ret (v := .tuple #[.agg #[.int .i64 0, .int .i64 0, .slice none 0 0], .int .i64 C]) (by simp [results, Tryz.results41, go_sem, A0.out, A1.out, A2.out]) rfl ⟨_, by rw [HC.out]; rfl, A3.out, A4.out⟩
  · obtain ⟨m, rfl, rfl, rfl, hG⟩ := grpP_of HBY.out HXB.out hc
    obtain rfl : m = m' := by omega
    have HR := Lib.hid hR
    rw [hc]
    clear hc hR hm'
    obtain ⟨g0, g1, g2⟩ := gcells rg1
    obtain ⟨⟨x0, x1, x2⟩, _⟩ := poly3 rx1
    have hbd : Below w1.heap.size w1 w1.drew := (Below.refl _ _).drew
    have X0 : w1.drew.cell? ⟨w.heap.size + 1, 0, none⟩ = some (.int .i64 q) := x0
    have X1 : w1.drew.cell? ⟨w.heap.size + 1, 1, none⟩ = some (.int .i64 (m : Int)) := x1
    have X2 : w1.drew.cell? ⟨w.heap.size + 1, 2, none⟩ = some (.slice ua xs.length uc) := x2
    have hzx : w.heap.size + 1 < w1.drew.heap.size := rx1.lt
    have HAC := Lib.hid (sall hG (.slice a L.length cap) (.slice ua xs.length uc) w1.drew (hS1.below hbd) (hU1.below hbd))
    have HSM := Lib.hid (fun w u v h => sadd q m u v (allL q m L xs) w hG.p2 hG.p13 (by rw [allL_len]; exact Nat.le_trans hG.l48 (by omega)) hG.allV h)
    clear hG
    go_wp2_with fail
    go_region_with (first
      | (go_at_call 63; (with_reducible refine HAC.out.mono ?_); rintro e w2 ⟨v2, us, hi2, rfl, hP2, hb2⟩; have hR2 : SlPn w2 q m v2 (allL q m L xs) := hP2.slP; (obtain ⟨pa, pc, rfl⟩ := hP2.shape); have Q0 := (hb2.cell (p := ⟨w.heap.size + 1, 0, none⟩) hzx).trans X0; have Q1 := (hb2.cell (p := ⟨w.heap.size + 1, 1, none⟩) hzx).trans X1; have Q2 := (hb2.cell (p := ⟨w.heap.size + 1, 2, none⟩) hzx).trans X2; have HB2 := hbd.trans hb2)
      | (go_at_call 65; (with_reducible refine (HSM.out _ _ _ hR2).mono ?_); rintro e w3 ⟨v3, S3, rfl, ho3, hI3, hb3⟩; (obtain rfl : S3 = S := hI3.unique HR.out); (obtain ⟨sa3, sc3, rfl⟩ := owns_slice ho3); have HB3 := HB2.trans (hb3.mono HB2.size); have rr3 := rowIs_below rr1 HB3 rr1.lt; (obtain ⟨⟨r0, r1, r2⟩, z0, z1, z2⟩ := poly3 rr3)))
    all_goals
      obtain ⟨a0, a1, a2, a3, a4⟩ := fill_box (w := w) rr3 ho3 (Nat.le_trans hbw1.size HB2.size) (hbw1.trans (HB3.mono hbw1.size)) (by omega) q (m : Int)
      have A0 := Lib.hid a0
      have A1 := Lib.hid a1
      have A2 := Lib.hid a2
      have A3 := Lib.hid a3
      have A4 := Lib.hid a4
      clear a0 a1 a2 a3 a4 hR2
      go_wp2_with fail
      exact bodyPost_ret (v := .tuple #[.agg #[.int .i64 q, .int .i64 (m : Int), .slice sa3 S3.length sc3], .int .i64 0]) (by simp [results, Tryz.results41, go_sem, A0.out, A1.out, A2.out]) rfl ⟨_, rfl, A3.out, A4.out⟩
end Go.Proofs.YtllklhakbanhaaaGreat
