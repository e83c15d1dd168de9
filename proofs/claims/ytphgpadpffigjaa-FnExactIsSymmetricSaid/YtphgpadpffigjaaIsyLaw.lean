/-
  The law of 'IsSymmetric', walked. Conditions: as the theorem states.
-/
import Derived.Test.YtphgpadpffigjaaSzf
import Derived.Test.YtphgpadpffigjaaG
import Derived.Test.YtphgpadpffigjaaLs
import Derived.Deep.RegionWith
namespace Go.Proofs.Ytphgpadpffigjaa
open Go.RowKit Go.Sort

set_option maxHeartbeats 2000000 in
theorem law_isy (p d : Int) (v : Value) (ts : List Tm) (w : World) (hn : ts.length ≤ 9223372036854775807) (hS : SliceT w v ts) (hby : ∀ t ∈ ts, tmByte t) :
    Calls Try.prog 6 #[.agg #[.int .i64 p, .int .i64 d, v]] w fun e w' => e = .returned (.bool true) ∧ Below w.heap.size w w' := by
  obtain ⟨W, hW, hbW, hWs, x0, x1, x2⟩ : ∃ W, W = w.alloc (.cells #[.int .i64 p, .int .i64 d, v] 46) ∧ Below w.heap.size w W ∧ w.heap.size < W.heap.size ∧
      W.cell? ⟨w.heap.size, 0, none⟩ = some (.int .i64 p) ∧ W.cell? ⟨w.heap.size, 1, none⟩ = some (.int .i64 d) ∧ W.cell? ⟨w.heap.size, 2, none⟩ = some v :=
    ⟨_, rfl, box1 _ _, by simp, by go_simp, by go_simp, by go_simp⟩
  have hSW := hS.below hbW
  obtain ⟨a, cap, hv, _⟩ := id hS
  subst hv
  go_enter Try.func6, Try.ntmps6
  go_wp2_with fail
  rw [← hW]
  clear hW
  ((with_reducible refine (szPoly_any p d _ _ ts _ hn (by decide) (by decide) hSW).mono ?_); rintro e w1 ⟨rfl, hb1⟩)
  have y0 := (hb1.cell (p := ⟨w.heap.size, 0, none⟩) hWs).trans x0
  have y1 := (hb1.cell (p := ⟨w.heap.size, 1, none⟩) hWs).trans x1
  have y2 := (hb1.cell (p := ⟨w.heap.size, 2, none⟩) hWs).trans x2
  by_cases hbig : 1048576 < ts.length
  · have HL : Hid (leftOf 1048576 ts.length = -1) := Lib.hid (by simp [leftOf]; omega)
    rw [HL.out]
    go_wp2
    go_ret
    exact ⟨rfl, hbW.trans (hb1.mono (Nat.le_of_lt hWs))⟩
  · have hl : ts.length ≤ 1048576 := by omega
    have HL : Hid (leftOf 1048576 ts.length = 1048576 - (ts.length : Int)) := Lib.hid (by simp [leftOf]; omega)
    rw [HL.out]
    clear hbig
    go_wp2_with fail
    ((with_reducible refine (toPoly_any p d _ ts _ hl (hSW.below hb1)).mono ?_); rintro e w2 ⟨v2, rfl, own2, hb2⟩)
    go_wp2_with fail
    ((with_reducible refine (ssym8 p d _ ts _ hl own2.slice hby).mono ?_); rintro e w3 ⟨rfl, hb3⟩)
    have hb13 := (hb1.trans (hb2.mono hb1.size)).trans (hb3.mono (Nat.le_trans hb1.size hb2.size))
    clear y0 y1 y2
    have y0 := (hb13.cell (p := ⟨w.heap.size, 0, none⟩) hWs).trans x0
    have y1 := (hb13.cell (p := ⟨w.heap.size, 1, none⟩) hWs).trans x1
    have y2 := (hb13.cell (p := ⟨w.heap.size, 2, none⟩) hWs).trans x2
    clear hb1 hb2 hb3 own2
    go_wp2_with fail
    ((with_reducible refine (toPoly_any p d _ ts _ hl (hSW.below hb13)).mono ?_); rintro e w4 ⟨v4, rfl, own4, hb4⟩)
    have hb14 := hb13.trans (hb4.mono hb13.size)
    clear y0 y1 y2 hb13 hb4
    have hz4 : w.heap.size < w4.heap.size := Nat.lt_of_lt_of_le hWs hb14.size
    obtain ⟨g4, f4, hv4, _⟩ := id own4
    subst hv4
    obtain ⟨V, hV, hbV, hVs, t0, t1, t2⟩ : ∃ V, V = w4.alloc (.cells #[.int .i64 p, .int .i64 d, .slice (some ⟨g4, 0, none⟩) ts.length ts.length] 36) ∧ Below w4.heap.size w4 V ∧ w4.heap.size < V.heap.size ∧
        V.cell? ⟨w4.heap.size, 0, none⟩ = some (.int .i64 p) ∧ V.cell? ⟨w4.heap.size, 1, none⟩ = some (.int .i64 d) ∧ V.cell? ⟨w4.heap.size, 2, none⟩ = some (.slice (some ⟨g4, 0, none⟩) ts.length ts.length) :=
      ⟨_, rfl, box1 _ _, by simp, by go_simp, by go_simp, by go_simp⟩
    have hS4 := own4.slice.below hbV
    go_wp2_with fail
    rw [← hV]
    clear hV
    ((with_reducible refine (isym8 p d _ ts _ hl hS4 hby).mono ?_); rintro e w5 ⟨rfl, hb5⟩)
    have hbW5 := hb14.trans ((hbV.trans (hb5.mono hbV.size)).mono hb14.size)
    have hS5 := hS4.below hb5
    have hA5 := hSW.below hbW5
    have u0 := (hb5.cell (p := ⟨w4.heap.size, 0, none⟩) hVs).trans t0
    have u1 := (hb5.cell (p := ⟨w4.heap.size, 1, none⟩) hVs).trans t1
    have u2 := (hb5.cell (p := ⟨w4.heap.size, 2, none⟩) hVs).trans t2
    have y0 := (hbW5.cell (p := ⟨w.heap.size, 0, none⟩) hWs).trans x0
    have y1 := (hbW5.cell (p := ⟨w.heap.size, 1, none⟩) hWs).trans x1
    have y2 := (hbW5.cell (p := ⟨w.heap.size, 2, none⟩) hWs).trans x2
    have hz5 : w4.heap.size < w5.heap.size := Nat.lt_of_lt_of_le hVs hb5.size
    have hz6 : w.heap.size < w5.heap.size := Nat.lt_trans hz4 hz5
    have hbb : (symO p d ts != symO p d ts) = false := by simp
    have hcc : (polyC p d ts != polyC p d ts) = false := by simp
    clear x0 x1 x2 t0 t1 t2 hb14 hbV hb5 hVs hS4 own4
    have hA6 : SliceT w5.drew (.slice a ts.length cap) ts := hA5.below ((Below.refl _ _).drew)
    have hS6 : SliceT w5.drew (.slice (some ⟨g4, 0, none⟩) ts.length ts.length) ts := hS5.below ((Below.refl _ _).drew)
    have hbW6 : Below W.heap.size W w5.drew := hbW5.drew
    have U0 : w5.drew.cell? ⟨w4.heap.size, 0, none⟩ = some (.int .i64 p) := u0
    have U1 : w5.drew.cell? ⟨w4.heap.size, 1, none⟩ = some (.int .i64 d) := u1
    have U2 : w5.drew.cell? ⟨w4.heap.size, 2, none⟩ = some (.slice (some ⟨g4, 0, none⟩) ts.length ts.length) := u2
    have hz5' : w4.heap.size < w5.drew.heap.size := hz5
    clear hA5 hS5 hbW5
    go_wp2
    go_region_with (first
      | (go_at_call 27; (with_reducible refine (toPoly_any p d _ ts _ hl hA6).mono ?_); rintro e w6 ⟨v6, rfl, own6, hb6⟩; have q0 := (hb6.cell (p := ⟨w4.heap.size, 0, none⟩) hz5').trans U0; have q1 := (hb6.cell (p := ⟨w4.heap.size, 1, none⟩) hz5').trans U1; have q2 := (hb6.cell (p := ⟨w4.heap.size, 2, none⟩) hz5').trans U2)
      | (go_at_call 20; (with_reducible refine (eqPoly_same p d _ _ ts _ hl (hS6.below hb6) own6.slice).mono ?_); rintro e w7 ⟨rfl, hb7⟩))
    all_goals go_wp2
    all_goals go_ret
    all_goals exact ⟨rfl, hbW.trans ((hbW6.trans ((hb6.trans (hb7.mono hb6.size)).mono hbW6.size)).mono (Nat.le_of_lt hWs))⟩

end Go.Proofs.Ytphgpadpffigjaa
