/-
  The law of 'PowerPoly', walked. Conditions: as the theorem states.
-/
import Derived.Test.YtpnlpmalkiaioaaG
import Derived.Test.YtpnlpmalkiaioaaQw
import Derived.Test.YtpnlpmalkiaioaaLs
import Derived.Deep.RegionWith
namespace Go.Proofs.Ytpnlpmalkiaioaa
open Go.RowKit Go.Sort


set_option maxRecDepth 8000 in
set_option maxHeartbeats 4000000 in
theorem law_Po (p d : Int) (n : Int) (v : Value) (ts : List Tm) (w : World) (hn : ts.length ≤ 9223372036854775807) (hS : SliceT w v ts) (hby : ∀ t ∈ ts, tmByte t) :
    Calls Try.prog 6 #[.agg #[.int .i64 p, .int .i64 d, v] , .int .i64 n] w fun e w' => e = .returned (.bool true) ∧ Below w.heap.size w w' := by
  obtain ⟨W, hW, hbW, hWs, rx⟩ : ∃ W, W = w.alloc (.cells #[.int .i64 p, .int .i64 d, v] 36) ∧ Below w.heap.size w W ∧ w.heap.size < W.heap.size ∧
      W.rowIs w.heap.size 36 3 (polyF p d v) :=
    ⟨_, rfl, box1 _ _, by simp, World.rowIs_alloc w #[Value.int .i64 p, .int .i64 d, v] _ _ (fun i hi => by simp at hi; match i, hi with | 0, _ => rfl | 1, _ => rfl | 2, _ => rfl)⟩
  have hSW := hS.below hbW
  obtain ⟨a, cap, hv, _⟩ := id hS
  subst hv
  obtain ⟨⟨x0, x1, x2⟩, _⟩ := poly3 rx
  go_enter Try.func6, Try.ntmps6
  go_wp2_with fail
  rw [← hW]
  clear hW
  ((with_reducible refine (szPoly_any p d _ _ ts _ hn (by decide) (by decide) hSW).mono ?_); rintro e w1 ⟨rfl, hb1⟩)
  clear x0 x1 x2
  have rx1 := rowIs_below rx hb1 rx.lt
  have s1 := hb1.size
  obtain ⟨⟨x0, x1, x2⟩, _⟩ := poly3 rx1
  by_cases hbig : 1048576 < ts.length
  · have HL : Hid (leftOf 1048576 ts.length = -1) := Lib.hid (by simp [leftOf]; omega)
    rw [HL.out]
    go_wp2
    go_ret
    exact ⟨rfl, hbW.trans (hb1.mono (Nat.le_of_lt hWs))⟩
  have hl : ts.length ≤ 1048576 := by omega
  have HL : Hid (leftOf 1048576 ts.length = 1048576 - (ts.length : Int)) := Lib.hid (by simp [leftOf]; omega)
  rw [HL.out]
  clear hbig HL
  obtain ⟨o, ho⟩ := powO_ex p d ts n hby
  have hso : o.S.length ≤ 1048576 := powO_len ho
  have hspec := fun v' w' h' => specPow p d n v' ts w' hl h' hby o ho
  have himpl := fun v' w' h' => implPow p d n v' ts w' hl h' hby o ho
  clear ho
  obtain ⟨P, D, S, c⟩ := o
  simp only at hso
  go_wp2_with fail
  ((with_reducible refine (toPoly_any p d _ ts _ hl (hSW.below hb1)).mono ?_); rintro e w2 ⟨v2, rfl, own2, hb2⟩)
  clear x0 x1 x2
  have rx2 := rowIs_below rx1 hb2 rx1.lt
  have s2 := hb2.size
  go_wp2_with fail
  ((with_reducible refine (hspec v2 w2 own2.slice).mono ?_); rintro e w3 ⟨sv3, rfl, ho3, hb3⟩)
  simp only at ho3
  obtain ⟨a3, c3, rfl⟩ := owns_slice ho3
  have rx3 := rowIs_below rx2 hb3 rx2.lt
  have s3 := hb3.size
  have hb13 := (hb1.trans (hb2.mono s1)).trans (hb3.mono (Nat.le_trans s1 s2))
  have hbw3 := hbW.trans (hb13.mono hbW.size)
  have sm3 := (OwnP.slice ho3).bound
  have hS3 := hSW.below hb13
  obtain ⟨V3, hV3, hbV3, ⟨hV3s1, hV3s2⟩, rb0⟩ : ∃ V, V = w3.alloc (.cells #[.int .i64 P, .int .i64 D, .slice a3 S.length c3] 25) ∧ Below w3.heap.size w3 V ∧ (V.heap.size ≤ w3.heap.size + 1 ∧ w3.heap.size + 1 ≤ V.heap.size) ∧
      V.rowIs w3.heap.size 25 3 (polyF P D (.slice a3 S.length c3)) :=
    ⟨_, rfl, box1 _ _, ⟨by simp, by simp⟩, World.rowIs_alloc w3 #[Value.int .i64 P, .int .i64 D, .slice a3 S.length c3] _ _ (fun i hi => by simp at hi; match i, hi with | 0, _ => rfl | 1, _ => rfl | 2, _ => rfl)⟩
  have xo0 : ∀ o, (w3.alloc o).cell? ⟨w.heap.size, 0, none⟩ = some (.int .i64 p) := fun o => ((box1 w3 o).cell rx3.lt).trans (poly3 rx3).1.1
  have xo1 : ∀ o, (w3.alloc o).cell? ⟨w.heap.size, 1, none⟩ = some (.int .i64 d) := fun o => ((box1 w3 o).cell rx3.lt).trans (poly3 rx3).1.2.1
  have xo2 : ∀ o, (w3.alloc o).cell? ⟨w.heap.size, 2, none⟩ = some (.slice a ts.length cap) := fun o => ((box1 w3 o).cell rx3.lt).trans (poly3 rx3).1.2.2
  go_wp2_with fail
  rw [← hV3]
  clear hV3 xo0 xo1 xo2
  have rxV3 := rowIs_below rx3 hbV3 rx3.lt
  have hSV3 := hS3.below hbV3
  have hbwV3 := hbw3.trans (hbV3.mono hbw3.size)
  ((with_reducible refine (toPoly_any p d _ ts _ hl hSV3).mono ?_); rintro e w4 ⟨v4, rfl, own4, hb4⟩)
  obtain ⟨g4, f4, hv4, _⟩ := id own4
  subst hv4
  have s4 := hb4.size
  have sz3 := hbw3.size
  obtain ⟨V4, hV4, hbV4, ⟨hV4s1, hV4s2⟩, rb1⟩ : ∃ V, V = w4.alloc (.cells #[.int .i64 p, .int .i64 d, .slice (some ⟨g4, 0, none⟩) ts.length ts.length] 25) ∧ Below w4.heap.size w4 V ∧ (V.heap.size ≤ w4.heap.size + 1 ∧ w4.heap.size + 1 ≤ V.heap.size) ∧
      V.rowIs w4.heap.size 25 3 (polyF p d (.slice (some ⟨g4, 0, none⟩) ts.length ts.length)) :=
    ⟨_, rfl, box1 _ _, ⟨by simp, by simp⟩, World.rowIs_alloc w4 #[Value.int .i64 p, .int .i64 d, .slice (some ⟨g4, 0, none⟩) ts.length ts.length] _ _ (fun i hi => by simp at hi; match i, hi with | 0, _ => rfl | 1, _ => rfl | 2, _ => rfl)⟩
  have hb34 := hbV3.trans ((hb4.trans (hbV4.mono s4)).mono (by omega))
  have hbVV := hb4.trans (hbV4.mono s4)
  have hS4 := own4.slice.below hbV4
  have own4V := own4.below hbV4
  go_wp2_with fail
  rw [← hV4]
  clear hV4
  ((with_reducible refine (himpl _ V4 hS4).mono ?_); rintro e w5 ⟨sv5, rfl, ho5, hb5⟩)
  simp only at ho5
  obtain ⟨a5, c5, rfl⟩ := owns_slice ho5
  have s5 := hb5.size
  obtain ⟨V5, hV5, hbV5, ⟨hV5s1, hV5s2⟩, rb2⟩ : ∃ V, V = w5.alloc (.cells #[.int .i64 P, .int .i64 D, .slice a5 S.length c5] 25) ∧ Below w5.heap.size w5 V ∧ (V.heap.size ≤ w5.heap.size + 1 ∧ w5.heap.size + 1 ≤ V.heap.size) ∧
      V.rowIs w5.heap.size 25 3 (polyF P D (.slice a5 S.length c5)) :=
    ⟨_, rfl, box1 _ _, ⟨by simp, by simp⟩, World.rowIs_alloc w5 #[Value.int .i64 P, .int .i64 D, .slice a5 S.length c5] _ _ (fun i hi => by simp at hi; match i, hi with | 0, _ => rfl | 1, _ => rfl | 2, _ => rfl)⟩
  have hb45 := hb5.trans (hbV5.mono s5)
  have hb35 := hbVV.trans (hb45.mono (by omega))
  have hb3V5 := hbV3.trans (hb35.mono (by omega))
  have st : LawSt w V5 w.heap.size w3.heap.size w4.heap.size w5.heap.size w3.heap.size p d P D (.slice a ts.length cap) (.slice a3 S.length c3) (.slice (some ⟨g4, 0, none⟩) ts.length ts.length) (.slice a5 S.length c5) ts S :=
    ⟨rowIs_below rx3 hb3V5 rx3.lt, rowIs_below rb0 hb35 rb0.lt, rowIs_below rb1 hb45 rb1.lt, rb2, (hS.bound.kept (below_grown (hbw3.trans (hb3V5.mono hbw3.size))) (Nat.le_refl _) (fun g e => by simp at e)), sm3.kept (below_grown hb3V5) (Nat.le_refl _) (fun g e => by simp at e), hbw3.trans (hb3V5.mono hbw3.size), sz3, by omega⟩
  have hx5 : OwnT V5 V3.heap.size (.slice (some ⟨g4, 0, none⟩) ts.length ts.length) ts := own4V.below hb45
  have hg5 : OwnP V5 V4.heap.size (.slice a5 S.length c5) S := owns_belowT ho5 hbV5
  have hg4lt : g4 < V4.heap.size := by obtain ⟨g, f, e, _, hr, _⟩ := own4V; simp at e; rw [e]; exact hr.lt
  have hg4ge : V3.heap.size ≤ g4 := by obtain ⟨g, f, e, hh, _, _⟩ := own4V; simp at e; rw [e]; exact hh
  have hN0 : w3.heap.size ≤ V3.heap.size := by omega
  have hN4 : w3.heap.size ≤ V4.heap.size := by omega
  obtain ⟨⟨q0, q1, q2⟩, _⟩ := poly3 rb2
  obtain ⟨⟨k0, k1, k2⟩, _⟩ := poly3 (rowIs_below (rowIs_below rb0 hbVV rb0.lt) hb5 (Nat.lt_of_lt_of_le rb0.lt hbVV.size))
  have ko0 : ∀ o, (w5.alloc o).cell? ⟨w3.heap.size, 0, none⟩ = some (.int .i64 P) := fun o => ((box1 w5 o).cell (by simp; omega)).trans k0
  have ko1 : ∀ o, (w5.alloc o).cell? ⟨w3.heap.size, 1, none⟩ = some (.int .i64 D) := fun o => ((box1 w5 o).cell (by simp; omega)).trans k1
  have ko2 : ∀ o, (w5.alloc o).cell? ⟨w3.heap.size, 2, none⟩ = some (.slice a3 S.length c3) := fun o => ((box1 w5 o).cell (by simp; omega)).trans k2
  have hcc : (c != c) = false := by simp
  clear rx rx1 rx2 rx3 rxV3 rb0 rb1 rb2 hb1 hb2 hb3 hb4 hb5 hb13 hbw3 hbV3 hbV4 hbV5 hb34 hbVV hb45 hb35 hb3V5 hS3 hSV3 hS4 own2 own4 own4V ho3 ho5 sm3 q0 q1 q2 k0 k1 k2 hspec hSW hbW hbwV3
  go_wp2_with fail
  rw [← hV5]
  clear hV5 ko0 ko1 ko2
  ((with_reducible refine (eqPoly_same P D _ _ S _ hso (OwnP.slice hg5) (st.sm.slice st.n0.2)).mono ?_); rintro e w6 ⟨rfl, hb6⟩)
  have st6 := st.on (hb6.drew)
  have hx6 := hx5.below (hb6.drew)
  have hg6 : OwnP w6.drew V4.heap.size (.slice a5 S.length c5) S := owns_belowT hg5 (hb6.drew)
  obtain ⟨⟨x0, x1, x2⟩, _⟩ := poly3 (st.on hb6).ax
  obtain ⟨⟨b0, b1, b2⟩, _⟩ := poly3 (st.on hb6).b1
  clear st hx5 hg5 hb6
  have hA6 := st6.sa.slice st6.below.size
  have hz6 := st6.b1.lt
  have hX6 := hx6.slice
  obtain ⟨⟨B0, B1, B2⟩, _⟩ := poly3 st6.b1
  go_wp2
  go_region_with (first
    | (go_at_call 19; (with_reducible refine (toPoly_any p d _ ts _ hl hA6).mono ?_); rintro e w7 ⟨v7, rfl, own7, hb7⟩; have Q0 := (hb7.cell (p := ⟨w4.heap.size, 0, none⟩) hz6).trans B0; have Q1 := (hb7.cell (p := ⟨w4.heap.size, 1, none⟩) hz6).trans B1; have Q2 := (hb7.cell (p := ⟨w4.heap.size, 2, none⟩) hz6).trans B2)
    | (go_at_call 12; (with_reducible refine (eqPoly_same p d _ _ ts _ hl (hX6.below hb7) own7.slice).mono ?_); rintro e w8 ⟨rfl, hb8⟩))
  all_goals
    have st8 := (st6.on hb7).on hb8
    have hx8 := (hx6.below hb7).below hb8
    have hg8 : OwnP w8 V4.heap.size (.slice a5 S.length c5) S := owns_belowT (owns_belowT hg6 hb7) hb8
    clear x0 x1 x2 b0 b1 b2 B0 B1 B2 st6 hx6 hg6 hA6 hz6 hX6 own7 hb7 hb8
    try clear Q0 Q1 Q2
    obtain ⟨⟨B0, B1, B2⟩, _⟩ := poly3 st8.b1
    go_wp2_with fail
    ((with_reducible refine (markPoly_own p d 1 _ hx8.own hl (by decide) (by decide)).mono ?_); rintro e w9 ⟨rfl, _, hgr9⟩)
    have st9 := st8.step hgr9 (fun g e => by obtain ⟨h1, h2⟩ := hx8.own.row g e; exact ⟨by omega, h2⟩)
    have hg9 : OwnP w9 V4.heap.size (.slice a5 S.length c5) S := hg8.keep hgr9 (fun g e => by simp [Value.ownBlock] at e; omega)
    clear B0 B1 B2 st8 hx8 hg8 hgr9
    have hq1 : ¬ (1 : Int) + 4 * (ts.length : Int) < 0 := by omega
    obtain ⟨⟨q0, q1, q2⟩, _⟩ := poly3 st9.b2
    obtain ⟨⟨k0, k1, k2⟩, _⟩ := poly3 st9.b0
    go_wp2_with fail
    ((with_reducible refine (eqPoly_same P D _ _ S _ hso (OwnP.slice hg9) (st9.sm.slice st9.n0.2)).mono ?_); rintro e w10 ⟨rfl, hb10⟩)
    have st10 := st9.on hb10
    have hg10 : OwnP w10 V4.heap.size (.slice a5 S.length c5) S := owns_belowT hg9 hb10
    clear q0 q1 q2 k0 k1 k2 st9 hg9 hb10 hq1
    obtain ⟨⟨q0, q1, q2⟩, _⟩ := poly3 st10.b2
    go_wp2_with fail
    ((with_reducible refine (markPoly_own P D 1 _ (OwnG.of_owns hg10) hso (by decide) (by decide)).mono ?_); rintro e w11 ⟨rfl, hM11, hgr11⟩)
    have st11 := st10.step hgr11 (fun g e => by obtain ⟨h1, h2⟩ := (OwnG.of_owns hg10).row g e; exact ⟨by omega, h2⟩)
    clear q0 q1 q2 st10 hg10 hgr11
    obtain ⟨⟨q0, q1, q2⟩, _⟩ := poly3 st11.b2
    go_wp2_with fail
    ((with_reducible refine (heldPoly_marks P D 1 _ hM11 hso (by decide) (by decide)).mono ?_); rintro e w12 ⟨rfl, hb12⟩)
    have st12 := st11.on hb12
    have hM12 := hM11.below hb12
    clear q0 q1 q2 st11 hM11 hb12
    have hq2 : ¬ (1 : Int) + 4 * (S.length : Int) < 0 := by omega
    have hq3 : ((1 : Int) + 4 * (S.length : Int) != 1 + 4 * (S.length : Int)) = false := by simp
    obtain ⟨⟨x0, x1, x2⟩, _⟩ := poly3 st12.ax
    go_wp2_with fail
    ((with_reducible refine (toPoly_any p d _ ts _ hl (st12.sa.slice st12.below.size)).mono ?_); rintro e w13 ⟨v13, rfl, own13, hb13⟩)
    have st13 := st12.on hb13
    have hM13 := hM12.below hb13
    clear x0 x1 x2 st12 hM12 hb13
    go_wp2_with fail
    ((with_reducible refine (himpl _ w13 own13.slice).mono ?_); rintro e w14 ⟨sv14, rfl, ho14, hb14⟩)
    simp only at ho14
    obtain ⟨a14, c14, rfl⟩ := owns_slice ho14
    have st14 := st13.on hb14
    have hM14 := hM13.below hb14
    clear st13 hM13 hb14 own13
    obtain ⟨V14, hV14, hbV14, rh⟩ : ∃ V, V = w14.alloc (.cells #[.int .i64 P, .int .i64 D, .slice a14 S.length c14] 25) ∧ Below w14.heap.size w14 V ∧
        V.rowIs w14.heap.size 25 3 (polyF P D (.slice a14 S.length c14)) :=
      ⟨_, rfl, box1 _ _, World.rowIs_alloc w14 #[Value.int .i64 P, .int .i64 D, .slice a14 S.length c14] _ _ (fun i hi => by simp at hi; match i, hi with | 0, _ => rfl | 1, _ => rfl | 2, _ => rfl)⟩
    obtain ⟨⟨k0, k1, k2⟩, _⟩ := poly3 st14.b0
    have hkl := st14.b0.lt
    have ko0 : ∀ o, (w14.alloc o).cell? ⟨w3.heap.size, 0, none⟩ = some (.int .i64 P) := fun o => ((box1 w14 o).cell hkl).trans k0
    have ko1 : ∀ o, (w14.alloc o).cell? ⟨w3.heap.size, 1, none⟩ = some (.int .i64 D) := fun o => ((box1 w14 o).cell hkl).trans k1
    have ko2 : ∀ o, (w14.alloc o).cell? ⟨w3.heap.size, 2, none⟩ = some (.slice a3 S.length c3) := fun o => ((box1 w14 o).cell hkl).trans k2
    have stV := st14.on hbV14
    have hMV := hM14.below hbV14
    have hoV : OwnP V14 w13.heap.size (.slice a14 S.length c14) S := owns_belowT ho14 hbV14
    clear st14 hM14 ho14 hbV14 k0 k1 k2
    go_wp2_with fail
    rw [← hV14]
    clear hV14 ko0 ko1 ko2
    ((with_reducible refine (eqPoly_same P D _ _ S _ hso (OwnP.slice hoV) (stV.sm.slice stV.n0.2)).mono ?_); rintro e w15 ⟨rfl, hb15⟩)
    have st15 := stV.on hb15
    have hM15 := hMV.below hb15
    clear stV hMV hoV rh hb15
    obtain ⟨⟨q0, q1, q2⟩, _⟩ := poly3 st15.b2
    go_wp2_with fail
    ((with_reducible refine (heldPoly_marks P D 1 _ hM15 hso (by decide) (by decide)).mono ?_); rintro e w16 ⟨rfl, hb16⟩)
    have hend := (st15.on hb16).below
    clear q0 q1 q2 st15 hM15 hb16
    go_wp2
    go_ret
    exact ⟨rfl, hend⟩

end Go.Proofs.Ytpnlpmalkiaioaa
