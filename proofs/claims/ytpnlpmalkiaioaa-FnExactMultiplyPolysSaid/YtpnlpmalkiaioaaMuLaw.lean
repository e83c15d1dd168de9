/-
  The law of 'MultiplyPolys', walked. Conditions: as the theorem states.
-/
import Derived.Test.YtpnlpmalkiaioaaG
import Derived.Test.YtpnlpmalkiaioaaMy
import Derived.Test.YtpnlpmalkiaioaaLs2
import Derived.Deep.RegionWith
import Derived.Deep.RegionHeld3
import Derived.Deep.DeepCutAuto
namespace Go.Proofs.Ytpnlpmalkiaioaa
open Go.RowKit Go.Sort

theorem bcell {W w1 : World} (hb : Below W.heap.size W w1) : (∀ b o, b < W.heap.size → w1.cell? ⟨b, o, none⟩ = W.cell? ⟨b, o, none⟩) ∧ (∀ b o, b < W.heap.size → w1.frozen? ⟨b, o, none⟩ = W.frozen? ⟨b, o, none⟩) :=
  ⟨fun b o h => hb.cell (p := ⟨b, o, none⟩) h, fun b o h => hb.frozen (p := ⟨b, o, none⟩) h⟩

set_option maxRecDepth 8000 in
set_option maxHeartbeats 8000000 in
theorem law_Mu (p d p' d' : Int) (v v' : Value) (xs ys : List Tm) (w : World) (hn : xs.length ≤ 9223372036854775807) (hn' : ys.length ≤ 9223372036854775807) (hS : SliceT w v xs) (hS' : SliceT w v' ys) (hby : ∀ t ∈ xs, tmByte t) (hby' : ∀ t ∈ ys, tmByte t) :
    Calls Try.prog 5 #[.agg #[.int .i64 p, .int .i64 d, v], .agg #[.int .i64 p', .int .i64 d', v']] w fun e w' => e = .returned (.bool true) ∧ Below w.heap.size w w' := by
  obtain ⟨a, cap, rfl, _⟩ := id hS
  obtain ⟨a', cap', rfl, _⟩ := id hS'
  obtain ⟨W, hW, hbW, ⟨hWs1, hWs2⟩, rx, ry⟩ := lpair w p d (.slice a xs.length cap) p' d' (.slice a' ys.length cap')
  have hSW := hS.below hbW
  have hSW' := hS'.below hbW
  obtain ⟨⟨x0, x1, x2⟩, _⟩ := poly3 rx
  go_enter Try.func5, Try.ntmps5
  go_wp2_with fail
  rw [← hW]
  clear hW
  ((with_reducible refine (szPoly_any p d _ _ xs _ hn (by decide) (by decide) hSW).mono ?_); rintro e w1 ⟨rfl, hb1⟩)
  clear x0 x1 x2
  have rx1 := rowIs_below rx hb1 rx.lt
  have ry1 := rowIs_below ry hb1 ry.lt
  have s1 := hb1.size
  have hbw1 := hbW.trans (hb1.mono hbW.size)
  obtain ⟨⟨y0, y1, y2⟩, _⟩ := poly3 ry1
  by_cases hbig : 1048576 < xs.length
  · have HL : Hid (leftOf 1048576 xs.length = -1) := Lib.hid (by simp [leftOf]; omega)
    rw [HL.out]
    go_wp2
    go_ret
    exact ⟨rfl, hbw1⟩
  have hl : xs.length ≤ 1048576 := by omega
  have HL : Hid (leftOf 1048576 xs.length = 1048576 - (xs.length : Int)) := Lib.hid (by simp [leftOf]; omega)
  rw [HL.out]
  clear hbig HL
  have hS1 := hSW.below hb1
  have hS1' := hSW'.below hb1
  have hxi : (xs.length : Int) ≤ 1048576 := by omega
  go_wp2_with fail
  ((with_reducible refine (szPoly_any p' d' _ _ ys _ hn' (by omega) (by omega) hS1').mono ?_); rintro e w2 ⟨rfl, hb2⟩)
  clear y0 y1 y2
  have rx2 := rowIs_below rx1 hb2 rx1.lt
  have ry2 := rowIs_below ry1 hb2 ry1.lt
  have s2 := hb2.size
  have hbw2 := hbw1.trans (hb2.mono hbw1.size)
  by_cases hbig : 1048576 < xs.length + ys.length
  · have HL : Hid (leftOf (1048576 - (xs.length : Int)) ys.length = -1) := Lib.hid (by simp [leftOf]; omega)
    rw [HL.out]
    go_wp2
    go_ret
    exact ⟨rfl, hbw2⟩
  have hl' : ys.length ≤ 1048576 := by omega
  have HL : Hid (leftOf (1048576 - (xs.length : Int)) ys.length = 1048576 - (xs.length : Int) - (ys.length : Int)) := Lib.hid (by simp [leftOf]; omega)
  rw [HL.out]
  have hsum : (xs.length : Int) + (ys.length : Int) ≤ 1048576 := by omega
  clear hbig HL rx ry rx1 ry1
  have hS2 := hS1.below hb2
  have hS2' := hS1'.below hb2
  obtain ⟨o, ho⟩ := mulO_ex p d xs p' d' ys hby hby'
  have hso : o.S.length ≤ 1048576 := mulO_len ho
  have hspec := fun v v' w h h' => specMul p d p' d' v v' xs ys w hl hl' h h' hby hby' o ho
  have himpl := fun v v' w h h' => implMul p d p' d' v v' xs ys w hl hl' h h' hby hby' o ho
  clear ho
  obtain ⟨P, D, S, c⟩ := o
  simp only at hso
  have hAl := rx2.lt
  have hAl' := ry2.lt
  obtain ⟨⟨x0, x1, x2⟩, _⟩ := poly3 rx2
  obtain ⟨⟨y0, y1, y2⟩, _⟩ := poly3 ry2
  have hAl := rx2.lt
  have hAl' := ry2.lt
  have KK : ∀ w', Below w2.heap.size w2 w' → ((w'.cell? ⟨w.heap.size, 0, none⟩ = some (.int .i64 p) ∧ w'.cell? ⟨w.heap.size, 1, none⟩ = some (.int .i64 d) ∧ w'.cell? ⟨w.heap.size, 2, none⟩ = some (.slice a xs.length cap)) ∧ (w'.cell? ⟨w.heap.size + 1, 0, none⟩ = some (.int .i64 p') ∧ w'.cell? ⟨w.heap.size + 1, 1, none⟩ = some (.int .i64 d') ∧ w'.cell? ⟨w.heap.size + 1, 2, none⟩ = some (.slice a' ys.length cap'))) := fun w' h => Cells6.of (rowIs_below rx2 h rx2.lt) (rowIs_below ry2 h ry2.lt)
  have KO : ∀ w', Below w2.heap.size w2 w' → ∀ o, (((w'.alloc o).cell? ⟨w.heap.size, 0, none⟩ = some (.int .i64 p) ∧ (w'.alloc o).cell? ⟨w.heap.size, 1, none⟩ = some (.int .i64 d) ∧ (w'.alloc o).cell? ⟨w.heap.size, 2, none⟩ = some (.slice a xs.length cap)) ∧ ((w'.alloc o).cell? ⟨w.heap.size + 1, 0, none⟩ = some (.int .i64 p') ∧ (w'.alloc o).cell? ⟨w.heap.size + 1, 1, none⟩ = some (.int .i64 d') ∧ (w'.alloc o).cell? ⟨w.heap.size + 1, 2, none⟩ = some (.slice a' ys.length cap'))) := fun w' h o => KK _ (h.trans ((box1 w' o).mono h.size))
  have KS : ∀ w' B u0 u1 u2, Below w2.heap.size w2 w' → w2.heap.size ≤ B → (((((w'.setCell ⟨B, 0, none⟩ u0).setCell ⟨B, 1, none⟩ u1).setCell ⟨B, 2, none⟩ u2).cell? ⟨w.heap.size, 0, none⟩ = some (.int .i64 p) ∧ (((w'.setCell ⟨B, 0, none⟩ u0).setCell ⟨B, 1, none⟩ u1).setCell ⟨B, 2, none⟩ u2).cell? ⟨w.heap.size, 1, none⟩ = some (.int .i64 d) ∧ (((w'.setCell ⟨B, 0, none⟩ u0).setCell ⟨B, 1, none⟩ u1).setCell ⟨B, 2, none⟩ u2).cell? ⟨w.heap.size, 2, none⟩ = some (.slice a xs.length cap)) ∧ ((((w'.setCell ⟨B, 0, none⟩ u0).setCell ⟨B, 1, none⟩ u1).setCell ⟨B, 2, none⟩ u2).cell? ⟨w.heap.size + 1, 0, none⟩ = some (.int .i64 p') ∧ (((w'.setCell ⟨B, 0, none⟩ u0).setCell ⟨B, 1, none⟩ u1).setCell ⟨B, 2, none⟩ u2).cell? ⟨w.heap.size + 1, 1, none⟩ = some (.int .i64 d') ∧ (((w'.setCell ⟨B, 0, none⟩ u0).setCell ⟨B, 1, none⟩ u1).setCell ⟨B, 2, none⟩ u2).cell? ⟨w.heap.size + 1, 2, none⟩ = some (.slice a' ys.length cap'))) := fun w' B u0 u1 u2 h hB => KK _ (((h.setCell (by simpa using hB) _).setCell (by simpa using hB) _).setCell (by simpa using hB) _)
  have KKh := Lib.hid KK
  have KOh := Lib.hid KO
  have KSh := Lib.hid KS
  clear KK KO KS
  go_upto_region 8 with fail
  go_cut [6, 7] (fun s8 s9 wx => ∃ B0 a3 c3, s8 = .pointer (some ⟨B0, 0, none⟩) ∧ s9 = .int .i64 c ∧ wx.rowIs B0 25 3 (polyF P D (.slice a3 S.length c3)) ∧ Below w2.heap.size w2 wx ∧ SliceT wx (.slice a3 S.length c3) S)
  case first =>
    go_region_held3 (fun w' => ((w'.cell? ⟨w.heap.size, 0, none⟩ = some (.int .i64 p) ∧ w'.cell? ⟨w.heap.size, 1, none⟩ = some (.int .i64 d) ∧ w'.cell? ⟨w.heap.size, 2, none⟩ = some (.slice a xs.length cap)) ∧ (w'.cell? ⟨w.heap.size + 1, 0, none⟩ = some (.int .i64 p') ∧ w'.cell? ⟨w.heap.size + 1, 1, none⟩ = some (.int .i64 d') ∧ w'.cell? ⟨w.heap.size + 1, 2, none⟩ = some (.slice a' ys.length cap'))))
      (first | with_reducible exact KKh.out _ (Below.same _).drew | with_reducible exact KKh.out _ (Below.same _) | with_reducible exact KOh.out _ (Below.same _) _ | with_reducible exact KOh.out _ (Below.same _).drew _ | with_reducible exact KKh.out _ (box1 _ _).drew | with_reducible exact KKh.out _ HB13 | with_reducible exact KOh.out _ HB13 _ | with_reducible exact KKh.out _ HB14 | with_reducible exact KOh.out _ HB14 _ | with_reducible exact KKh.out _ HB15 | with_reducible exact KOh.out _ HB15 _ | with_reducible exact KSh.out _ _ _ _ _ HB15 HB14.size | with_reducible exact KSh.out _ _ _ _ _ HB15 HB13.size | with_reducible exact KSh.out _ _ _ _ _ HB15 (Nat.le_refl _))
      (first
      | (go_at_call_of 19 (Value.agg #[.int .i64 p, .int .i64 d, .slice a xs.length cap]); (with_reducible refine (toPoly_any p d _ xs _ hl (by first | with_reducible exact hS2.below (Below.same _).drew | with_reducible exact hS2.below (box1 _ _).drew)).mono ?_); rintro e w13 ⟨v13, rfl, own13, hb13⟩; have H13 : Below w2.heap.size w2 w13 := (by first | exact (Below.same _).drew.trans hb13 | with_reducible exact (box1 _ _).drew.trans (hb13.mono (by simp))); have HB13 : Below w2.heap.size w2 w13 := H13; (first | (have ZR13 : w13.rowIs w2.heap.size 25 3 (polyF 0 0 (.slice none 0 0)) := rowIs_below (zboxD w2) hb13 (by simp); obtain ⟨⟨e130, e131, e132⟩, f130, f131, f132⟩ := poly3 ZR13) | skip); skip; skip)
      | (go_at_call_of 19 (Value.agg #[.int .i64 p', .int .i64 d', .slice a' ys.length cap']); (with_reducible refine (toPoly_any p' d' _ ys _ hl' (by first | with_reducible exact hS2'.below HB13 | with_reducible exact hS2'.below (HB13.trans ((box1 _ _).mono HB13.size)))).mono ?_); rintro e w14 ⟨v14, rfl, own14, hb14⟩; have H14 : Below w13.heap.size w13 w14 := (by first | exact hb14 | with_reducible exact (box1 _ _).trans (hb14.mono (by simp))); have HB14 : Below w2.heap.size w2 w14 := HB13.trans (H14.mono HB13.size); (first | (have ZR14 : w14.rowIs w13.heap.size 25 3 (polyF 0 0 (.slice none 0 0)) := rowIs_below (zbox w13) hb14 (by simp); obtain ⟨⟨e140, e141, e142⟩, f140, f141, f142⟩ := poly3 ZR14) | (have ZR14 := rowIs_below ZR13 H14 ZR13.lt; obtain ⟨⟨e140, e141, e142⟩, f140, f141, f142⟩ := poly3 ZR14) | skip); skip; skip)
      | (go_at_call 21; (with_reducible refine (hspec _ _ _ (by first | with_reducible exact own13.slice.below H14 | with_reducible exact (own13.slice.below H14).below (box1 _ _)) (by first | with_reducible exact own14.slice | with_reducible exact own14.slice.below (box1 _ _))).mono ?_); rintro e w15 ⟨v15, rfl, own15, hb15⟩; have H15 : Below w14.heap.size w14 w15 := (by first | exact hb15 | with_reducible exact (box1 _ _).trans (hb15.mono (by simp))); have HB15 : Below w2.heap.size w2 w15 := HB14.trans (H15.mono HB14.size); (first | (have ZR15 : w15.rowIs w14.heap.size 25 3 (polyF 0 0 (.slice none 0 0)) := rowIs_below (zbox w14) hb15 (by simp); obtain ⟨⟨e150, e151, e152⟩, f150, f151, f152⟩ := poly3 ZR15) | (have ZR15 := rowIs_below ZR14 H15 ZR14.lt; obtain ⟨⟨e150, e151, e152⟩, f150, f151, f152⟩ := poly3 ZR15) | skip); skip; skip; simp only at own15; obtain ⟨sa15, sc15, rfl⟩ := owns_slice own15))
    all_goals
      go_wp2_with fail
      go_meet
      first
        | exact ⟨w15.heap.size, sa15, sc15, rfl, rfl, World.rowIs_alloc w15 #[Value.int .i64 P, .int .i64 D, .slice sa15 S.length sc15] _ _ (fun i hi => by simp at hi; match i, hi with | 0, _ => rfl | 1, _ => rfl | 2, _ => rfl), HB15.trans ((box1 _ _).mono HB15.size), (OwnP.slice own15).below (box1 _ _)⟩
        | exact ⟨w14.heap.size, sa15, sc15, rfl, rfl, (box_set ZR15 HB15 HB14.size own15 P D).1, (box_set ZR15 HB15 HB14.size own15 P D).2.1, (box_set ZR15 HB15 HB14.size own15 P D).2.2⟩
        | exact ⟨w13.heap.size, sa15, sc15, rfl, rfl, (box_set ZR15 HB15 HB13.size own15 P D).1, (box_set ZR15 HB15 HB13.size own15 P D).2.1, (box_set ZR15 HB15 HB13.size own15 P D).2.2⟩
        | exact ⟨w2.heap.size, sa15, sc15, rfl, rfl, (box_set ZR15 HB15 (Nat.le_refl _) own15 P D).1, (box_set ZR15 HB15 (Nat.le_refl _) own15 P D).2.1, (box_set ZR15 HB15 (Nat.le_refl _) own15 P D).2.2⟩
  case rest =>
    obtain ⟨B0, a3, c3, rfl, rfl, rb0, hbx, hSx⟩ := hcut
    clear KKh KOh KSh x0 x1 x2 y0 y1 y2 hSW hSW' hS1 hS1' hspec
    have rx3 := rowIs_below rx2 hbx rx2.lt
    have ry3 := rowIs_below ry2 hbx ry2.lt
    have hS3 := hS2.below hbx
    have hS3' := hS2'.below hbx
    have hbw3 := hbw2.trans (hbx.mono hbw2.size)
    have sz3 := hbw3.size
    clear rx2 ry2 hS2 hS2' hb1 hb2 hbW hbw1 hbw2 hAl hAl'
    obtain ⟨⟨x0, x1, x2⟩, _⟩ := poly3 rx3
    go_wp2_with fail
    ((with_reducible refine (toPoly_any p d _ xs _ hl hS3).mono ?_); rintro e w4 ⟨v4, rfl, own4, hb4⟩)
    obtain ⟨g4, f4, hv4, _⟩ := id own4
    subst hv4
    have s4 := hb4.size
    obtain ⟨V4, hV4, hbV4, ⟨hV4s1, hV4s2⟩, rb1⟩ := newbox w4 p d (.slice (some ⟨g4, 0, none⟩) xs.length xs.length)
    have hB4 := hb4.trans (hbV4.mono s4)
    have ry4 := rowIs_below ry3 hb4 ry3.lt
    have hS4' := hS3'.below hB4
    have yo : ∀ o, ((w4.alloc o).cell? ⟨w.heap.size + 1, 0, none⟩ = some (.int .i64 p') ∧ (w4.alloc o).cell? ⟨w.heap.size + 1, 1, none⟩ = some (.int .i64 d') ∧ (w4.alloc o).cell? ⟨w.heap.size + 1, 2, none⟩ = some (.slice a' ys.length cap')) := fun o => (poly3 (rowIs_below ry4 (box1 _ o) ry4.lt)).1
    clear x0 x1 x2
    go_wp2_with fail
    rw [← hV4]
    clear hV4 yo
    ((with_reducible refine (toPoly_any p' d' _ ys _ hl' hS4').mono ?_); rintro e w5 ⟨v5, rfl, own5, hb5⟩)
    obtain ⟨g4', f4', hv5, _⟩ := id own5
    subst hv5
    have s5 := hb5.size
    obtain ⟨V5, hV5, hbV5, ⟨hV5s1, hV5s2⟩, rc1⟩ := newbox w5 p' d' (.slice (some ⟨g4', 0, none⟩) ys.length ys.length)
    have hB5 := hb5.trans (hbV5.mono s5)
    have rb5 := rowIs_below rb1 hb5 rb1.lt
    have bo : ∀ o, ((w5.alloc o).cell? ⟨w4.heap.size, 0, none⟩ = some (.int .i64 p) ∧ (w5.alloc o).cell? ⟨w4.heap.size, 1, none⟩ = some (.int .i64 d) ∧ (w5.alloc o).cell? ⟨w4.heap.size, 2, none⟩ = some (.slice (some ⟨g4, 0, none⟩) xs.length xs.length)) := fun o => (poly3 (rowIs_below rb5 (box1 _ o) rb5.lt)).1
    have own4V : OwnT V5 wc.heap.size (.slice (some ⟨g4, 0, none⟩) xs.length xs.length) xs := (own4.below hbV4).below hB5
    have own5V : OwnT V5 V4.heap.size (.slice (some ⟨g4', 0, none⟩) ys.length ys.length) ys := own5.below hbV5
    go_wp2_with fail
    rw [← hV5]
    clear hV5 bo
    ((with_reducible refine (himpl _ _ _ own4V.slice own5V.slice).mono ?_); rintro e w6 ⟨sv6, rfl, ho6, hb6⟩)
    simp only at ho6
    obtain ⟨a5, c5, rfl⟩ := owns_slice ho6
    have s6 := hb6.size
    obtain ⟨V6, hV6, hbV6, ⟨hV6s1, hV6s2⟩, rb2⟩ := newbox w6 P D (.slice a5 S.length c5)
    have hB6 := hb6.trans (hbV6.mono s6)
    have hB56 := hB5.trans (hB6.mono hB5.size)
    have hB46 := hB4.trans (hB56.mono hB4.size)
    have st : LawSt2 w V6 w.heap.size B0 w4.heap.size w6.heap.size wc.heap.size p d P D (.slice a xs.length cap) (.slice a3 S.length c3) (.slice (some ⟨g4, 0, none⟩) xs.length xs.length) (.slice a5 S.length c5) xs S (w.heap.size + 1) w5.heap.size p' d' (.slice a' ys.length cap') (.slice (some ⟨g4', 0, none⟩) ys.length ys.length) ys :=
      ⟨⟨rowIs_below rx3 hB46 rx3.lt, rowIs_below rb0 hB46 rb0.lt, rowIs_below rb1 hB56 rb1.lt, rb2, hS.bound.kept (below_grown (hbw3.trans (hB46.mono hbw3.size))) (Nat.le_refl _) (fun g e => by simp at e), hSx.bound.kept (below_grown hB46) (Nat.le_refl _) (fun g e => by simp at e), hbw3.trans (hB46.mono hbw3.size), sz3, hB46.size⟩, rowIs_below ry3 hB46 ry3.lt, rowIs_below rc1 hB6 rc1.lt, hS'.bound.kept (below_grown (hbw3.trans (hB46.mono hbw3.size))) (Nat.le_refl _) (fun g e => by simp at e)⟩
    have hx6 : OwnT V6 wc.heap.size (.slice (some ⟨g4, 0, none⟩) xs.length xs.length) xs := own4V.below hB6
    have hy6 : OwnT V6 V4.heap.size (.slice (some ⟨g4', 0, none⟩) ys.length ys.length) ys := own5V.below hB6
    have hg6 : OwnP V6 V5.heap.size (.slice a5 S.length c5) S := owns_belowT ho6 hbV6
    have hg4lt : g4 < V5.heap.size := by obtain ⟨g, f, e, _, hr, _⟩ := own4V; simp at e; rw [e]; exact hr.lt
    have hg5lt : g4' < V5.heap.size := by obtain ⟨g, f, e, _, hr, _⟩ := own5V; simp at e; rw [e]; exact hr.lt
    have hg4ge : wc.heap.size ≤ g4 := by obtain ⟨g, f, e, hh, _, _⟩ := own4V; simp at e; rw [e]; exact hh
    have hg5ge : V4.heap.size ≤ g4' := by obtain ⟨g, f, e, hh, _, _⟩ := own5V; simp at e; rw [e]; exact hh
    have hg54 : g4' ≠ g4 := by
      have : g4 < V4.heap.size := by obtain ⟨g, f, e, _, hr, _⟩ := own4.below hbV4; simp at e; rw [e]; exact hr.lt
      omega
    have hN4 : wc.heap.size ≤ V4.heap.size := hB4.size
    have hN5 : wc.heap.size ≤ V5.heap.size := Nat.le_trans hN4 hB5.size
    have kb := rowIs_below (rowIs_below rb0 (hB4.trans (hB5.mono hB4.size)) rb0.lt) hb6 (Nat.lt_of_lt_of_le rb0.lt hN5)
    have ko : ∀ o, ((w6.alloc o).cell? ⟨B0, 0, none⟩ = some (.int .i64 P) ∧ (w6.alloc o).cell? ⟨B0, 1, none⟩ = some (.int .i64 D) ∧ (w6.alloc o).cell? ⟨B0, 2, none⟩ = some (.slice a3 S.length c3)) := fun o => (poly3 (rowIs_below kb (box1 _ o) kb.lt)).1
    have hcc : (c != c) = false := by simp
    clear rx3 ry3 ry4 rb0 rb1 rb2 rb5 rc1 hb4 hb5 hb6 hbV4 hbV5 hbV6 hB4 hB5 hB6 hB56 hB46 hS3 hS3' hS4' own4 own5 own4V own5V ho6 kb hbx hSx hbw3
    go_wp2_with fail
    rw [← hV6]
    clear hV6 ko
    ((with_reducible refine (eqPoly_same P D _ _ S _ hso (OwnP.slice hg6) (st.st.sm.slice st.st.n0.2)).mono ?_); rintro e w7 ⟨rfl, hb7⟩)
    have st7 := st.on hb7
    have hx7 := hx6.below hb7
    have hy7 := hy6.below hb7
    have hg7 : OwnP w7 V5.heap.size (.slice a5 S.length c5) S := owns_belowT hg6 hb7
    clear st hx6 hy6 hg6 hb7
    have hdr := (Below.same w7).drew
    have HSA := (st7.on hdr).st.sa.slice (st7.on hdr).st.below.size
    have HX := hx7.slice.below hdr
    have KKh := Lib.hid (fun w' (h : Below w7.heap.size w7 w') => And.intro (poly3 (rowIs_below st7.st.ax h st7.st.ax.lt)).1 (poly3 (rowIs_below st7.st.b1 h st7.st.b1.lt)).1)
    go_wp2
    go_region_held3 (fun w' => ((w'.cell? ⟨w.heap.size, 0, none⟩ = some (.int .i64 p) ∧ w'.cell? ⟨w.heap.size, 1, none⟩ = some (.int .i64 d) ∧ w'.cell? ⟨w.heap.size, 2, none⟩ = some (.slice a xs.length cap)) ∧ (w'.cell? ⟨w4.heap.size, 0, none⟩ = some (.int .i64 p) ∧ w'.cell? ⟨w4.heap.size, 1, none⟩ = some (.int .i64 d) ∧ w'.cell? ⟨w4.heap.size, 2, none⟩ = some (.slice (some ⟨g4, 0, none⟩) xs.length xs.length))))
        (first | with_reducible exact KKh.out _ (Below.same _).drew | with_reducible exact KKh.out _ HB20 | with_reducible exact KKh.out _ HB21)
        (first
        | (go_at_call 19; (with_reducible refine (toPoly_any p d _ xs _ hl HSA).mono ?_); rintro e w20 ⟨v20, rfl, own20, hb20⟩; have HB20 : Below w7.heap.size w7 w20 := (Below.same _).drew.trans hb20)
        | (go_at_call 12; (with_reducible refine (eqPoly_same p d _ _ xs _ hl (HX.below hb20) own20.slice).mono ?_); rintro e w21 ⟨rfl, hb21⟩; have HB21 : Below w7.heap.size w7 w21 := HB20.trans (hb21.mono HB20.size)))
    have st9 := st7.on HB21
    have hx9 := hx7.below HB21
    have hy9 := hy7.below HB21
    have hg9 : OwnP w21 V5.heap.size (.slice a5 S.length c5) S := owns_belowT hg7 HB21
    clear st7 hx7 hy7 hg7 hdr HSA HX KKh hb20 hb21 own20 HB20 HB21
    have hdr := (Below.same w21).drew
    have HSA := (st9.on hdr).sa.slice (st9.on hdr).st.below.size
    have HX := hy9.slice.below hdr
    have KKh := Lib.hid (fun w' (h : Below w21.heap.size w21 w') => And.intro (poly3 (rowIs_below st9.ay h st9.ay.lt)).1 (poly3 (rowIs_below st9.c1 h st9.c1.lt)).1)
    go_wp2
    go_region_held3 (fun w' => ((w'.cell? ⟨w.heap.size + 1, 0, none⟩ = some (.int .i64 p') ∧ w'.cell? ⟨w.heap.size + 1, 1, none⟩ = some (.int .i64 d') ∧ w'.cell? ⟨w.heap.size + 1, 2, none⟩ = some (.slice a' ys.length cap')) ∧ (w'.cell? ⟨w5.heap.size, 0, none⟩ = some (.int .i64 p') ∧ w'.cell? ⟨w5.heap.size, 1, none⟩ = some (.int .i64 d') ∧ w'.cell? ⟨w5.heap.size, 2, none⟩ = some (.slice (some ⟨g4', 0, none⟩) ys.length ys.length))))
        (first | with_reducible exact KKh.out _ (Below.same _).drew | with_reducible exact KKh.out _ HB22 | with_reducible exact KKh.out _ HB23)
        (first
        | (go_at_call 19; (with_reducible refine (toPoly_any p' d' _ ys _ hl' HSA).mono ?_); rintro e w22 ⟨v22, rfl, own22, hb22⟩; have HB22 : Below w21.heap.size w21 w22 := (Below.same _).drew.trans hb22)
        | (go_at_call 12; (with_reducible refine (eqPoly_same p' d' _ _ ys _ hl' (HX.below hb22) own22.slice).mono ?_); rintro e w23 ⟨rfl, hb23⟩; have HB23 : Below w21.heap.size w21 w23 := HB22.trans (hb23.mono HB22.size)))
    have st11 := st9.on HB23
    have hx11 := hx9.below HB23
    have hy11 := hy9.below HB23
    have hg11 : OwnP w23 V5.heap.size (.slice a5 S.length c5) S := owns_belowT hg9 HB23
    clear st9 hx9 hy9 hg9 hdr HSA HX KKh hb22 hb23 own22 HB22 HB23
    obtain ⟨⟨q0, q1, q2⟩, _⟩ := poly3 st11.st.b1
    go_wp2_with fail
    ((with_reducible refine (markPoly_own p d 1 _ hx11.own hl (by decide) (by decide)).mono ?_); rintro e w24 ⟨rfl, _, hgr24⟩)
    have st24 := st11.step hgr24 (fun g e => by obtain ⟨h1, h2⟩ := hx11.own.row g e; exact ⟨h1, h2⟩)
    have hg24 : OwnP w24 V5.heap.size (.slice a5 S.length c5) S := hg11.keep hgr24 (fun g e => by simp [Value.ownBlock] at e; omega)
    have hy24 := hy11.own.keep hgr24 (.inr (by simpa [Value.ownBlock] using hg54))
    clear q0 q1 q2 st11 hx11 hy11 hg11 hgr24
    obtain ⟨⟨q0, q1, q2⟩, _⟩ := poly3 st24.c1
    go_wp2_with fail
    ((with_reducible refine (markPoly_own p' d' _ _ hy24 hl' (by omega) (by omega)).mono ?_); rintro e w25 ⟨rfl, _, hgr25⟩)
    have st25 := st24.step hgr25 (fun g e => by obtain ⟨h1, h2⟩ := hy24.row g e; exact ⟨by omega, h2⟩)
    have hg25 : OwnP w25 V5.heap.size (.slice a5 S.length c5) S := hg24.keep hgr25 (fun g e => by simp [Value.ownBlock] at e; omega)
    clear q0 q1 q2 st24 hg24 hgr25 hy24
    have hq1 : ¬ (1 : Int) + 4 * (xs.length : Int) + 4 * (ys.length : Int) < 0 := by omega
    obtain ⟨⟨q0, q1, q2⟩, _⟩ := poly3 st25.st.b2
    obtain ⟨⟨k0, k1, k2⟩, _⟩ := poly3 st25.st.b0
    go_wp2_with fail
    ((with_reducible refine (eqPoly_same P D _ _ S _ hso (OwnP.slice hg25) (st25.st.sm.slice st25.st.n0.2)).mono ?_); rintro e w26 ⟨rfl, hb26⟩)
    have st26 := st25.on hb26
    have hg26 : OwnP w26 V5.heap.size (.slice a5 S.length c5) S := owns_belowT hg25 hb26
    clear q0 q1 q2 k0 k1 k2 st25 hg25 hb26 hq1
    obtain ⟨⟨q0, q1, q2⟩, _⟩ := poly3 st26.st.b2
    go_wp2_with fail
    ((with_reducible refine (markPoly_own P D 1 _ (OwnG.of_owns hg26) hso (by decide) (by decide)).mono ?_); rintro e w27 ⟨rfl, hM27, hgr27⟩)
    have st27 := st26.step hgr27 (fun g e => by obtain ⟨h1, h2⟩ := (OwnG.of_owns hg26).row g e; exact ⟨by omega, h2⟩)
    clear q0 q1 q2 st26 hg26 hgr27
    obtain ⟨⟨q0, q1, q2⟩, _⟩ := poly3 st27.st.b2
    go_wp2_with fail
    ((with_reducible refine (heldPoly_marks P D 1 _ hM27 hso (by decide) (by decide)).mono ?_); rintro e w28 ⟨rfl, hb28⟩)
    have st28 := st27.on hb28
    have hM28 := hM27.below hb28
    clear q0 q1 q2 st27 hM27 hb28
    have hq2 : ¬ (1 : Int) + 4 * (S.length : Int) < 0 := by omega
    have hq3 : ((1 : Int) + 4 * (S.length : Int) != 1 + 4 * (S.length : Int)) = false := by simp
    have rx28 := st28.st.ax
    have ry28 := st28.ay
    have hS28 := st28.st.sa.slice st28.st.below.size
    have hS28' := st28.sa.slice st28.st.below.size
    obtain ⟨⟨x0, x1, x2⟩, _⟩ := poly3 rx28
    obtain ⟨⟨y0, y1, y2⟩, _⟩ := poly3 ry28
    have hAl := rx28.lt
    have hAl' := ry28.lt
    have KK : ∀ w', Below w28.heap.size w28 w' → ((w'.cell? ⟨w.heap.size, 0, none⟩ = some (.int .i64 p) ∧ w'.cell? ⟨w.heap.size, 1, none⟩ = some (.int .i64 d) ∧ w'.cell? ⟨w.heap.size, 2, none⟩ = some (.slice a xs.length cap)) ∧ (w'.cell? ⟨w.heap.size + 1, 0, none⟩ = some (.int .i64 p') ∧ w'.cell? ⟨w.heap.size + 1, 1, none⟩ = some (.int .i64 d') ∧ w'.cell? ⟨w.heap.size + 1, 2, none⟩ = some (.slice a' ys.length cap'))) := fun w' h => Cells6.of (rowIs_below rx28 h rx28.lt) (rowIs_below ry28 h ry28.lt)
    have KO : ∀ w', Below w28.heap.size w28 w' → ∀ o, (((w'.alloc o).cell? ⟨w.heap.size, 0, none⟩ = some (.int .i64 p) ∧ (w'.alloc o).cell? ⟨w.heap.size, 1, none⟩ = some (.int .i64 d) ∧ (w'.alloc o).cell? ⟨w.heap.size, 2, none⟩ = some (.slice a xs.length cap)) ∧ ((w'.alloc o).cell? ⟨w.heap.size + 1, 0, none⟩ = some (.int .i64 p') ∧ (w'.alloc o).cell? ⟨w.heap.size + 1, 1, none⟩ = some (.int .i64 d') ∧ (w'.alloc o).cell? ⟨w.heap.size + 1, 2, none⟩ = some (.slice a' ys.length cap'))) := fun w' h o => KK _ (h.trans ((box1 w' o).mono h.size))
    have KS : ∀ w' B u0 u1 u2, Below w28.heap.size w28 w' → w28.heap.size ≤ B → (((((w'.setCell ⟨B, 0, none⟩ u0).setCell ⟨B, 1, none⟩ u1).setCell ⟨B, 2, none⟩ u2).cell? ⟨w.heap.size, 0, none⟩ = some (.int .i64 p) ∧ (((w'.setCell ⟨B, 0, none⟩ u0).setCell ⟨B, 1, none⟩ u1).setCell ⟨B, 2, none⟩ u2).cell? ⟨w.heap.size, 1, none⟩ = some (.int .i64 d) ∧ (((w'.setCell ⟨B, 0, none⟩ u0).setCell ⟨B, 1, none⟩ u1).setCell ⟨B, 2, none⟩ u2).cell? ⟨w.heap.size, 2, none⟩ = some (.slice a xs.length cap)) ∧ ((((w'.setCell ⟨B, 0, none⟩ u0).setCell ⟨B, 1, none⟩ u1).setCell ⟨B, 2, none⟩ u2).cell? ⟨w.heap.size + 1, 0, none⟩ = some (.int .i64 p') ∧ (((w'.setCell ⟨B, 0, none⟩ u0).setCell ⟨B, 1, none⟩ u1).setCell ⟨B, 2, none⟩ u2).cell? ⟨w.heap.size + 1, 1, none⟩ = some (.int .i64 d') ∧ (((w'.setCell ⟨B, 0, none⟩ u0).setCell ⟨B, 1, none⟩ u1).setCell ⟨B, 2, none⟩ u2).cell? ⟨w.heap.size + 1, 2, none⟩ = some (.slice a' ys.length cap'))) := fun w' B u0 u1 u2 h hB => KK _ (((h.setCell (by simpa using hB) _).setCell (by simpa using hB) _).setCell (by simpa using hB) _)
    have KKh := Lib.hid KK
    have KOh := Lib.hid KO
    have KSh := Lib.hid KS
    clear KK KO KS
    go_upto_region 31 with fail
    go_cut [15, 16] (fun s8 s9 wx => ∃ B0 a3 c3, s8 = .pointer (some ⟨B0, 0, none⟩) ∧ s9 = .int .i64 c ∧ wx.rowIs B0 25 3 (polyF P D (.slice a3 S.length c3)) ∧ Below w28.heap.size w28 wx ∧ SliceT wx (.slice a3 S.length c3) S)
    case first =>
      go_region_held3 (fun w' => ((w'.cell? ⟨w.heap.size, 0, none⟩ = some (.int .i64 p) ∧ w'.cell? ⟨w.heap.size, 1, none⟩ = some (.int .i64 d) ∧ w'.cell? ⟨w.heap.size, 2, none⟩ = some (.slice a xs.length cap)) ∧ (w'.cell? ⟨w.heap.size + 1, 0, none⟩ = some (.int .i64 p') ∧ w'.cell? ⟨w.heap.size + 1, 1, none⟩ = some (.int .i64 d') ∧ w'.cell? ⟨w.heap.size + 1, 2, none⟩ = some (.slice a' ys.length cap'))))
        (first | with_reducible exact KKh.out _ (Below.same _).drew | with_reducible exact KKh.out _ (Below.same _) | with_reducible exact KOh.out _ (Below.same _) _ | with_reducible exact KOh.out _ (Below.same _).drew _ | with_reducible exact KKh.out _ (box1 _ _).drew | with_reducible exact KKh.out _ HB13 | with_reducible exact KOh.out _ HB13 _ | with_reducible exact KKh.out _ HB14 | with_reducible exact KOh.out _ HB14 _ | with_reducible exact KKh.out _ HB15 | with_reducible exact KOh.out _ HB15 _ | with_reducible exact KSh.out _ _ _ _ _ HB15 HB14.size | with_reducible exact KSh.out _ _ _ _ _ HB15 HB13.size | with_reducible exact KSh.out _ _ _ _ _ HB15 (Nat.le_refl _))
        (first
        | (go_at_call_of 19 (Value.agg #[.int .i64 p, .int .i64 d, .slice a xs.length cap]); (with_reducible refine (toPoly_any p d _ xs _ hl (by first | with_reducible exact hS28.below (Below.same _).drew | with_reducible exact hS28.below (box1 _ _).drew)).mono ?_); rintro e w13 ⟨v13, rfl, own13, hb13⟩; have H13 : Below w28.heap.size w28 w13 := (by first | exact (Below.same _).drew.trans hb13 | with_reducible exact (box1 _ _).drew.trans (hb13.mono (by simp))); have HB13 : Below w28.heap.size w28 w13 := H13; (first | (have ZR13 : w13.rowIs w28.heap.size 25 3 (polyF 0 0 (.slice none 0 0)) := rowIs_below (zboxD w28) hb13 (by simp); obtain ⟨⟨e130, e131, e132⟩, f130, f131, f132⟩ := poly3 ZR13) | skip); skip; skip)
        | (go_at_call_of 19 (Value.agg #[.int .i64 p', .int .i64 d', .slice a' ys.length cap']); (with_reducible refine (toPoly_any p' d' _ ys _ hl' (by first | with_reducible exact hS28'.below HB13 | with_reducible exact hS28'.below (HB13.trans ((box1 _ _).mono HB13.size)))).mono ?_); rintro e w14 ⟨v14, rfl, own14, hb14⟩; have H14 : Below w13.heap.size w13 w14 := (by first | exact hb14 | with_reducible exact (box1 _ _).trans (hb14.mono (by simp))); have HB14 : Below w28.heap.size w28 w14 := HB13.trans (H14.mono HB13.size); (first | (have ZR14 : w14.rowIs w13.heap.size 25 3 (polyF 0 0 (.slice none 0 0)) := rowIs_below (zbox w13) hb14 (by simp); obtain ⟨⟨e140, e141, e142⟩, f140, f141, f142⟩ := poly3 ZR14) | (have ZR14 := rowIs_below ZR13 H14 ZR13.lt; obtain ⟨⟨e140, e141, e142⟩, f140, f141, f142⟩ := poly3 ZR14) | skip); skip; skip)
        | (go_at_call 22; (with_reducible refine (himpl _ _ _ (by first | with_reducible exact own13.slice.below H14 | with_reducible exact (own13.slice.below H14).below (box1 _ _)) (by first | with_reducible exact own14.slice | with_reducible exact own14.slice.below (box1 _ _))).mono ?_); rintro e w15 ⟨v15, rfl, own15, hb15⟩; have H15 : Below w14.heap.size w14 w15 := (by first | exact hb15 | with_reducible exact (box1 _ _).trans (hb15.mono (by simp))); have HB15 : Below w28.heap.size w28 w15 := HB14.trans (H15.mono HB14.size); (first | (have ZR15 : w15.rowIs w14.heap.size 25 3 (polyF 0 0 (.slice none 0 0)) := rowIs_below (zbox w14) hb15 (by simp); obtain ⟨⟨e150, e151, e152⟩, f150, f151, f152⟩ := poly3 ZR15) | (have ZR15 := rowIs_below ZR14 H15 ZR14.lt; obtain ⟨⟨e150, e151, e152⟩, f150, f151, f152⟩ := poly3 ZR15) | skip); skip; skip; simp only at own15; obtain ⟨sa15, sc15, rfl⟩ := owns_slice own15))
      all_goals
        go_wp2_with fail
        go_meet
        first
          | exact ⟨w15.heap.size, sa15, sc15, rfl, rfl, World.rowIs_alloc w15 #[Value.int .i64 P, .int .i64 D, .slice sa15 S.length sc15] _ _ (fun i hi => by simp at hi; match i, hi with | 0, _ => rfl | 1, _ => rfl | 2, _ => rfl), HB15.trans ((box1 _ _).mono HB15.size), (OwnP.slice own15).below (box1 _ _)⟩
          | exact ⟨w14.heap.size, sa15, sc15, rfl, rfl, (box_set ZR15 HB15 HB14.size own15 P D).1, (box_set ZR15 HB15 HB14.size own15 P D).2.1, (box_set ZR15 HB15 HB14.size own15 P D).2.2⟩
          | exact ⟨w13.heap.size, sa15, sc15, rfl, rfl, (box_set ZR15 HB15 HB13.size own15 P D).1, (box_set ZR15 HB15 HB13.size own15 P D).2.1, (box_set ZR15 HB15 HB13.size own15 P D).2.2⟩
          | exact ⟨w28.heap.size, sa15, sc15, rfl, rfl, (box_set ZR15 HB15 (Nat.le_refl _) own15 P D).1, (box_set ZR15 HB15 (Nat.le_refl _) own15 P D).2.1, (box_set ZR15 HB15 (Nat.le_refl _) own15 P D).2.2⟩
    case rest =>
    obtain ⟨B3, a14, c14, rfl, rfl, rh, hby14, hSy⟩ := hcut
    have st29 := st28.on hby14
    have hM29 := hM28.below hby14
    clear KKh KOh KSh x0 x1 x2 y0 y1 y2 st28 hM28 rx28 ry28 hS28 hS28' hby14
    obtain ⟨⟨q0, q1, q2⟩, _⟩ := poly3 rh
    obtain ⟨⟨k0, k1, k2⟩, _⟩ := poly3 st29.st.b0
    go_wp2_with fail
    ((with_reducible refine (eqPoly_same P D _ _ S _ hso hSy (st29.st.sm.slice st29.st.n0.2)).mono ?_); rintro e w30 ⟨rfl, hb30⟩)
    have st30 := st29.on hb30
    have hM30 := hM29.below hb30
    clear q0 q1 q2 k0 k1 k2 st29 hM29 rh hb30 hSy
    obtain ⟨⟨q0, q1, q2⟩, _⟩ := poly3 st30.st.b2
    go_wp2_with fail
    ((with_reducible refine (heldPoly_marks P D 1 _ hM30 hso (by decide) (by decide)).mono ?_); rintro e w31 ⟨rfl, hb31⟩)
    have hend := (st30.on hb31).st.below
    clear q0 q1 q2 st30 hM30 hb31
    go_wp2
    go_ret
    exact ⟨rfl, hend⟩

end Go.Proofs.Ytpnlpmalkiaioaa
