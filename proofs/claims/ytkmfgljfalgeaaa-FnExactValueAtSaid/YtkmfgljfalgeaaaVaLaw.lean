/-
  The law of 'FnExactValueAt', walked. Conditions: as the theorem states.
-/
import Derived.Test.YtkmfgljfalgeaaaVb
namespace Go.Proofs.Ytkmfgljfalgeaaa
open Go.RowKit Go.Sort

set_option maxHeartbeats 4000000 in
theorem law_va (p d : Int) (v u : Value) (ts : List Tm) (l : List Int) (w : World) (hn : ts.length ≤ 9223372036854775807) (hnl : l.length ≤ 9223372036854775807) (hS : SliceT w v ts) (hby : ∀ t ∈ ts, tmByte t) (hU : SliceI w u l) :
    Calls Try.prog 7 #[.agg #[.int .i64 p, .int .i64 d, v], u] w fun e w' => e = .returned (.bool true) ∧ Below w.heap.size w w' := by
  obtain ⟨W, hW, hbW, hWs, x0, x1, x2⟩ : ∃ W, W = w.alloc (.cells #[.int .i64 p, .int .i64 d, v] 24) ∧ Below w.heap.size w W ∧ w.heap.size < W.heap.size ∧
      W.cell? ⟨w.heap.size, 0, none⟩ = some (.int .i64 p) ∧ W.cell? ⟨w.heap.size, 1, none⟩ = some (.int .i64 d) ∧ W.cell? ⟨w.heap.size, 2, none⟩ = some v :=
    ⟨_, rfl, box1 _ _, by simp, by go_simp, by go_simp, by go_simp⟩
  have hSW := hS.below hbW
  have hUW := hU.below hbW
  obtain ⟨a, cap, hv, _⟩ := id hS
  subst hv
  obtain ⟨a', cap', hu, _⟩ := id hU
  subst hu
  by_cases hlong : 1048576 < l.length
  · go_enter Try.func7, Try.ntmps7
    go_wp2
    go_ret
    exact ⟨rfl, box1 _ _⟩
  have hm : l.length ≤ 1048576 := by omega
  clear hlong
  go_enter Try.func7, Try.ntmps7
  go_wp2_with fail
  rw [← hW]
  clear hW
  ((with_reducible refine (szPoly_any p d _ _ ts _ hn (by decide) (by decide) hSW).mono ?_); rintro e w1 ⟨rfl, hb1⟩)
  have y0 := (hb1.cell (p := ⟨w.heap.size, 0, none⟩) hWs).trans x0
  have y1 := (hb1.cell (p := ⟨w.heap.size, 1, none⟩) hWs).trans x1
  have y2 := (hb1.cell (p := ⟨w.heap.size, 2, none⟩) hWs).trans x2
  by_cases hbig : 1048576 < ts.length
  · have HL : Hid (leftOf 1048576 ts.length = -1) := Lib.hid (by simp [leftOf]; omega)
    rw [HL.out]
    go_wp2
    go_ret
    exact ⟨rfl, hbW.trans (hb1.mono (Nat.le_of_lt hWs))⟩
  · have hl : ts.length ≤ 1048576 := by omega
    have HL : Hid (leftOf 1048576 ts.length = 1048576 - (ts.length : Int)) := Lib.hid (by simp [leftOf]; omega)
    rw [HL.out]
    clear hbig
    go_wp2_with fail
    ((with_reducible refine (toPoly_any p d _ ts _ hl (hSW.below hb1)).mono ?_); rintro e w2 ⟨v2, rfl, own2, hb2⟩)
    have hb12 := hb1.trans (hb2.mono hb1.size)
    go_wp2_with fail
    ((with_reducible refine (toI_any _ l _ hm (hUW.below hb12)).mono ?_); rintro e w3 ⟨u3, rfl, hU3, hb3⟩)
    have hb13' := hb12.trans (hb3.mono hb12.size)
    go_wp2_with fail
    ((with_reducible refine (specVa p d _ _ ts l _ hl (own2.slice.below hb3) hby hm hU3).mono ?_); rintro e w4 ⟨rfl, hb4⟩)
    have hb14 := hb13'.trans (hb4.mono hb13'.size)
    clear y0 y1 y2
    have y0 := (hb14.cell (p := ⟨w.heap.size, 0, none⟩) hWs).trans x0
    have y1 := (hb14.cell (p := ⟨w.heap.size, 1, none⟩) hWs).trans x1
    have y2 := (hb14.cell (p := ⟨w.heap.size, 2, none⟩) hWs).trans x2
    clear hb1 hb2 hb3 hb4 hb12 hb13' own2 hU3
    go_wp2_with fail
    ((with_reducible refine (toPoly_any p d _ ts _ hl (hSW.below hb14)).mono ?_); rintro e w5 ⟨v5, rfl, own5, hb5⟩)
    have hb15 := hb14.trans (hb5.mono hb14.size)
    clear y0 y1 y2 hb14 hb5
    have hz5 : w.heap.size < w5.heap.size := Nat.lt_of_lt_of_le hWs hb15.size
    obtain ⟨g4, f4, hv4, _⟩ := id own5
    subst hv4
    obtain ⟨V, hV, hbV, hVs, t0, t1, t2⟩ : ∃ V, V = w5.alloc (.cells #[.int .i64 p, .int .i64 d, .slice (some ⟨g4, 0, none⟩) ts.length ts.length] 29) ∧ Below w5.heap.size w5 V ∧ w5.heap.size < V.heap.size ∧
        V.cell? ⟨w5.heap.size, 0, none⟩ = some (.int .i64 p) ∧ V.cell? ⟨w5.heap.size, 1, none⟩ = some (.int .i64 d) ∧ V.cell? ⟨w5.heap.size, 2, none⟩ = some (.slice (some ⟨g4, 0, none⟩) ts.length ts.length) :=
      ⟨_, rfl, box1 _ _, by simp, by go_simp, by go_simp, by go_simp⟩
    have hS5 := own5.slice.below hbV
    have hbWV := hb15.trans (hbV.mono hb15.size)
    go_wp2_with fail
    rw [← hV]
    clear hV
    ((with_reducible refine (toI_any _ l _ hm (hUW.below hbWV)).mono ?_); rintro e w6 ⟨u6, rfl, hU6, hb6⟩)
    have r0 := (hb6.cell (p := ⟨w5.heap.size, 0, none⟩) hVs).trans t0
    have r1 := (hb6.cell (p := ⟨w5.heap.size, 1, none⟩) hVs).trans t1
    have r2 := (hb6.cell (p := ⟨w5.heap.size, 2, none⟩) hVs).trans t2
    have hVs6 := Nat.lt_of_lt_of_le hVs hb6.size
    go_wp2_with fail
    ((with_reducible refine (implVa p d _ _ ts l _ hl (hS5.below hb6) hby hm hU6).mono ?_); rintro e w7 ⟨rfl, hb7⟩)
    have hbW6 := hbWV.trans (hb6.mono hbWV.size)
    have hbW7 := hbW6.trans (hb7.mono hbW6.size)
    have hS7 := (hS5.below hb6).below hb7
    have hU7 := hU6.below hb7
    have hA7 := hSW.below hbW7
    have hB7 := hUW.below hbW7
    have u0 := (hb7.cell (p := ⟨w5.heap.size, 0, none⟩) hVs6).trans r0
    have u1 := (hb7.cell (p := ⟨w5.heap.size, 1, none⟩) hVs6).trans r1
    have u2 := (hb7.cell (p := ⟨w5.heap.size, 2, none⟩) hVs6).trans r2
    have y0 := (hbW7.cell (p := ⟨w.heap.size, 0, none⟩) hWs).trans x0
    have y1 := (hbW7.cell (p := ⟨w.heap.size, 1, none⟩) hWs).trans x1
    have y2 := (hbW7.cell (p := ⟨w.heap.size, 2, none⟩) hWs).trans x2
    have hz7 : w5.heap.size < w7.heap.size := Nat.lt_of_lt_of_le hVs6 hb7.size
    have hz8 : w.heap.size < w7.heap.size := Nat.lt_trans hz5 hz7
    have hbb : (vaV p d ts l != vaV p d ts l) = false := by simp
    have hcc : (vaC p d ts l != vaC p d ts l) = false := by simp
    have hA8 : SliceT w7.drew (.slice a ts.length cap) ts := hA7.below ((Below.refl _ _).drew)
    have hS8 : SliceT w7.drew (.slice (some ⟨g4, 0, none⟩) ts.length ts.length) ts := hS7.below ((Below.refl _ _).drew)
    have hU8 : SliceI w7.drew u6 l := hU7.below ((Below.refl _ _).drew)
    have hB8 : SliceI w7.drew (.slice a' l.length cap') l := hB7.below ((Below.refl _ _).drew)
    have hbW8 : Below W.heap.size W w7.drew := hbW7.drew
    have U0 : w7.drew.cell? ⟨w5.heap.size, 0, none⟩ = some (.int .i64 p) := u0
    have U1 : w7.drew.cell? ⟨w5.heap.size, 1, none⟩ = some (.int .i64 d) := u1
    have U2 : w7.drew.cell? ⟨w5.heap.size, 2, none⟩ = some (.slice (some ⟨g4, 0, none⟩) ts.length ts.length) := u2
    have hz7' : w5.heap.size < w7.drew.heap.size := hz7
    clear hA7 hS7 hU7 hB7 hbW7 hbW6 hb7 hb6 hbWV hb15 x0 x1 x2 t0 t1 t2 r0 r1 r2 hVs hVs6 hS5 hbV own5 hU6 hz5
    go_wp2
    go_region_with (first
      | (go_at_call 11; (with_reducible refine (toPoly_any p d _ ts _ hl hA8).mono ?_); rintro e w9 ⟨v9, rfl, own9, hb9⟩; have q0 := (hb9.cell (p := ⟨w5.heap.size, 0, none⟩) hz7').trans U0; have q1 := (hb9.cell (p := ⟨w5.heap.size, 1, none⟩) hz7').trans U1; have q2 := (hb9.cell (p := ⟨w5.heap.size, 2, none⟩) hz7').trans U2)
      | (go_at_call 13; (with_reducible refine (eqPoly_same p d _ _ ts _ hl (hS8.below hb9) own9.slice).mono ?_); rintro e w10 ⟨rfl, hb10⟩))
    all_goals have hb810 := hb9.trans (hb10.mono hb9.size)
    all_goals go_wp2_with fail
    all_goals ((with_reducible refine (toI_any _ l _ hm (hB8.below hb810)).mono ?_); rintro e w11 ⟨u11, rfl, hU11, hb11⟩)
    all_goals go_wp2_with fail
    all_goals ((with_reducible refine (eqI_same _ _ l _ hm ((hU8.below hb810).below hb11) hU11).mono ?_); rintro e w12 ⟨rfl, hb12⟩)
    all_goals go_wp2
    all_goals go_ret
    all_goals exact ⟨rfl, hbW.trans ((hbW8.trans (((hb810.trans (hb11.mono hb810.size)).trans (hb12.mono (Nat.le_trans hb810.size hb11.size))).mono hbW8.size)).mono (Nat.le_of_lt hWs))⟩

end Go.Proofs.Ytkmfgljfalgeaaa
