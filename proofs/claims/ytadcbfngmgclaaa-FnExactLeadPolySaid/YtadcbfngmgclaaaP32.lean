/-
  The law of 'LeadPoly', walked. Conditions: as the theorem states.
-/
import Derived.Test.YtadcbfngmgclaaaP30
import Derived.Test.YtadcbfngmgclaaaP31
import Derived.Test.YtadcbfngmgclaaaP08
import Derived.Test.YtadcbfngmgclaaaP10
import Derived.Deep.RegionWith
namespace Go.Proofs.Ytadcbfngmgclaaa
open Go.RowKit Go.Sort Go.Maps EchM

theorem matStep {wr w' : World} {b : Nat} {f : Nat → Value} {row : Option Nat} (h : wr.rowIs b 42 9 f) (hg : wr.grownBy w' row) (hr : ∀ g, row = some g → ∃ N F, wr.rowIs g 58 N F) : w'.rowIs b 42 9 f :=
  h.of_block (hg.block b h.lt fun e => by
    obtain ⟨N, F, hrow⟩ := hr b e.symm
    exact rowIs_ne h hrow (by decide) rfl)
/-- The boxes of the law's arguments. -/
theorem lmp (w : World) (g : Nat → Nat → Int) (p d : Int) (v : Value) : ∃ W, W = (w.alloc (.cells #[.int .u8 (g 0 0), .int .u8 (g 0 1), .int .u8 (g 0 2), .int .u8 (g 1 0), .int .u8 (g 1 1), .int .u8 (g 1 2), .int .u8 (g 2 0), .int .u8 (g 2 1), .int .u8 (g 2 2)] 42)).alloc (.cells #[.int .i64 p, .int .i64 d, v] 24) ∧ Below w.heap.size w W ∧ (W.heap.size ≤ w.heap.size + 2 ∧ w.heap.size + 2 ≤ W.heap.size) ∧
      W.rowIs w.heap.size 42 9 (mF g) ∧ W.rowIs (w.heap.size + 1) 24 3 (polyF p d v) := by
  refine ⟨_, rfl, box2 _ _ _, ⟨by simp, by simp⟩, (mbox w g _).alloc _, ?_⟩
  have := World.rowIs_alloc (w.alloc (.cells #[.int .u8 (g 0 0), .int .u8 (g 0 1), .int .u8 (g 0 2), .int .u8 (g 1 0), .int .u8 (g 1 1), .int .u8 (g 1 2), .int .u8 (g 2 0), .int .u8 (g 2 1), .int .u8 (g 2 2)] 42)) #[Value.int .i64 p, .int .i64 d, v] 24 (polyF p d v) (fun i hi => by simp at hi; match i, hi with | 0, _ => rfl | 1, _ => rfl | 2, _ => rfl)
  rwa [World.size_alloc] at this

set_option maxRecDepth 8000 in
set_option maxHeartbeats 16000000 in
theorem law_Lp (g : Nat → Nat → Int) (p d : Int) (v : Value) (xs : List Tm) (w : World) (hg : Byt g) (hn : xs.length ≤ 9223372036854775807) (hS : SliceT w v xs) (hby : ∀ t ∈ xs, tmByte t) :
    Calls Try.prog 4 #[(.agg #[.int .u8 (g 0 0), .int .u8 (g 0 1), .int .u8 (g 0 2), .int .u8 (g 1 0), .int .u8 (g 1 1), .int .u8 (g 1 2), .int .u8 (g 2 0), .int .u8 (g 2 1), .int .u8 (g 2 2)]), .agg #[.int .i64 p, .int .i64 d, v]] w fun e w' => e = .returned (.bool true) ∧ Below w.heap.size w w' := by
  obtain ⟨a, cap, rfl, _⟩ := id hS
  obtain ⟨W, hW, hbW, ⟨hWs1, hWs2⟩, rM, rx⟩ := lmp w g p d (.slice a xs.length cap)
  have hSW := hS.below hbW
  obtain ⟨⟨x0, x1, x2⟩, _⟩ := poly3 rx
  go_enter Try.func4, Try.ntmps4
  go_wp2_with fail
  rw [← hW]
  clear hW
  ((with_reducible refine (szPoly_any p d _ _ xs _ hn (by decide) (by decide) hSW).mono ?_); rintro e w1 ⟨rfl, hb1⟩)
  clear x0 x1 x2
  have rx1 := rowIs_below rx hb1 rx.lt
  have rM1 := rowIs_below rM hb1 rM.lt
  have s1 := hb1.size
  have hbw1 := hbW.trans (hb1.mono hbW.size)
  by_cases hbig : 1048576 < xs.length
  · have HL : Hid (leftOf 1048576 xs.length = -1) := Lib.hid (by simp [leftOf]; omega)
    rw [HL.out]
    go_wp2
    go_ret
    exact ⟨rfl, hbw1⟩
  have hl : xs.length ≤ 1048576 := by omega
  have HL : Hid (leftOf 1048576 xs.length = 1048576 - (xs.length : Int)) := Lib.hid (by simp [leftOf]; omega)
  rw [HL.out]
  clear hbig HL rx rM
  have hS1 := hSW.below hb1
  obtain ⟨o, ho⟩ := leadO_ex (p := p) (d := d) (xs := xs) hg hby
  have hso : o.S.length ≤ 1048576 := leadO_len ho
  have HSP := Lib.hid (fun v' w' h' => slead p d g v' xs w' hg hl h' hby o ho)
  have HIM := Lib.hid (fun v' w' h' => ilead p d g v' xs w' hg hl h' hby o ho)
  clear ho
  obtain ⟨P, D, S, c⟩ := o
  simp only at hso
  have KK := Lib.hid (fun w' (h : Below w1.heap.size w1 w') => show ((w'.cell? ⟨w.heap.size + 1, 0, none⟩ = some (.int .i64 p) ∧ w'.cell? ⟨w.heap.size + 1, 1, none⟩ = some (.int .i64 d) ∧ w'.cell? ⟨w.heap.size + 1, 2, none⟩ = some (.slice a xs.length cap)) ∧ ((w'.cell? ⟨w.heap.size, 0, none⟩ = some (.int .u8 (g 0 0)) ∧ w'.cell? ⟨w.heap.size, 1, none⟩ = some (.int .u8 (g 0 1)) ∧ w'.cell? ⟨w.heap.size, 2, none⟩ = some (.int .u8 (g 0 2))) ∧ (w'.cell? ⟨w.heap.size, 3, none⟩ = some (.int .u8 (g 1 0)) ∧ w'.cell? ⟨w.heap.size, 4, none⟩ = some (.int .u8 (g 1 1)) ∧ w'.cell? ⟨w.heap.size, 5, none⟩ = some (.int .u8 (g 1 2))) ∧ (w'.cell? ⟨w.heap.size, 6, none⟩ = some (.int .u8 (g 2 0)) ∧ w'.cell? ⟨w.heap.size, 7, none⟩ = some (.int .u8 (g 2 1)) ∧ w'.cell? ⟨w.heap.size, 8, none⟩ = some (.int .u8 (g 2 2))))) from ⟨(poly3 (rowIs_below rx1 h rx1.lt)).1, mcells (rowIs_below rM1 h rM1.lt)⟩)
  go_upto_region 5 with fail
  go_cut [6, 7] (fun s6 s7 wx => ∃ B0 a3 c3, s6 = .pointer (some ⟨B0, 0, none⟩) ∧ s7 = .int .i64 c ∧ wx.rowIs B0 30 3 (polyF P D (.slice a3 S.length c3)) ∧ Below w1.heap.size w1 wx ∧ SliceT wx (.slice a3 S.length c3) S ∧ w1.heap.size ≤ B0)
  case first =>
    go_region_held3 (fun w' => ((w'.cell? ⟨w.heap.size + 1, 0, none⟩ = some (.int .i64 p) ∧ w'.cell? ⟨w.heap.size + 1, 1, none⟩ = some (.int .i64 d) ∧ w'.cell? ⟨w.heap.size + 1, 2, none⟩ = some (.slice a xs.length cap)) ∧ ((w'.cell? ⟨w.heap.size, 0, none⟩ = some (.int .u8 (g 0 0)) ∧ w'.cell? ⟨w.heap.size, 1, none⟩ = some (.int .u8 (g 0 1)) ∧ w'.cell? ⟨w.heap.size, 2, none⟩ = some (.int .u8 (g 0 2))) ∧ (w'.cell? ⟨w.heap.size, 3, none⟩ = some (.int .u8 (g 1 0)) ∧ w'.cell? ⟨w.heap.size, 4, none⟩ = some (.int .u8 (g 1 1)) ∧ w'.cell? ⟨w.heap.size, 5, none⟩ = some (.int .u8 (g 1 2))) ∧ (w'.cell? ⟨w.heap.size, 6, none⟩ = some (.int .u8 (g 2 0)) ∧ w'.cell? ⟨w.heap.size, 7, none⟩ = some (.int .u8 (g 2 1)) ∧ w'.cell? ⟨w.heap.size, 8, none⟩ = some (.int .u8 (g 2 2))))))
      (first | with_reducible exact KK.out _ (Below.same _).drew | with_reducible exact KK.out _ HB13 | with_reducible exact KK.out _ HB14 | with_reducible exact KK.out _ HB15 | with_reducible exact KK.out _ (box1 _ _).drew | with_reducible exact KK.out _ (HB13.trans ((box1 _ _).mono HB13.size)) | with_reducible exact KK.out _ (HB14.trans ((box1 _ _).mono HB14.size)) | with_reducible exact KK.out _ (HB15.trans ((box1 _ _).mono HB15.size)) | with_reducible exact KK.out _ (setL3 HB15 HB14.size _ _ _) | with_reducible exact KK.out _ (setL3 HB15 HB13.size _ _ _) | with_reducible exact KK.out _ (setL3 HB15 (Nat.le_refl _) _ _ _))
      (first
      | (go_at_call 17; (with_reducible refine (tomat_agg g _).mono ?_); rintro e w13 ⟨rfl, hb13⟩; have H13 : Below w1.heap.size w1 w13 := (by first | exact (Below.same _).drew.trans hb13 | with_reducible exact (box1 _ _).drew.trans (hb13.mono (by simp))); have HB13 : Below w1.heap.size w1 w13 := H13; (first | (have Z13 : w13.rowIs w1.heap.size 30 3 (polyF 0 0 (.slice none 0 0)) := rowIs_below (zboxD w1) hb13 (by simp); (obtain ⟨⟨e130, e131, e132⟩, f130, f131, f132⟩ := poly3 Z13)) | skip))
      | (go_at_call 8; (with_reducible refine (toPoly_any p d _ xs _ hl (by first | with_reducible exact hS1.below HB13 | with_reducible exact (hS1.below HB13).below (box1 _ _))).mono ?_); rintro e w14 ⟨v14, rfl, own14, hb14⟩; have H14 : Below w13.heap.size w13 w14 := (by first | exact hb14 | with_reducible exact (box1 _ _).trans (hb14.mono (by simp))); have HB14 : Below w1.heap.size w1 w14 := HB13.trans (H14.mono HB13.size); (first | (have Z14 : w14.rowIs w13.heap.size 30 3 (polyF 0 0 (.slice none 0 0)) := rowIs_below (zbox w13) hb14 (by simp); (obtain ⟨⟨e140, e141, e142⟩, f140, f141, f142⟩ := poly3 Z14)) | (have Z14 := rowIs_below Z13 H14 Z13.lt; (obtain ⟨⟨e140, e141, e142⟩, f140, f141, f142⟩ := poly3 Z14)) | skip))
      | (go_at_call 16; (with_reducible refine (HSP.out _ _ (by first | with_reducible exact own14.slice | with_reducible exact own14.slice.below (box1 _ _))).mono ?_); rintro e w15 ⟨v15, rfl, ho15, hb15⟩; have H15 : Below w14.heap.size w14 w15 := (by first | exact hb15 | with_reducible exact (box1 _ _).trans (hb15.mono (by simp))); have HB15 : Below w1.heap.size w1 w15 := HB14.trans (H15.mono HB14.size); (first | (have Z15 : w15.rowIs w14.heap.size 30 3 (polyF 0 0 (.slice none 0 0)) := rowIs_below (zbox w14) hb15 (by simp); (obtain ⟨⟨e150, e151, e152⟩, f150, f151, f152⟩ := poly3 Z15)) | (have Z15 := rowIs_below Z14 H15 Z14.lt; (obtain ⟨⟨e150, e151, e152⟩, f150, f151, f152⟩ := poly3 Z15)) | skip); simp only at ho15; (obtain ⟨sa, sc, rfl, _⟩ := id ho15); have hsl := ho15))
    all_goals
      go_wp2_with fail
      go_meet
      first
        | exact ⟨w15.heap.size, sa, sc, rfl, rfl, World.rowIs_alloc w15 #[Value.int .i64 P, .int .i64 D, .slice sa S.length sc] _ _ (fun i hi => by simp at hi; match i, hi with | 0, _ => rfl | 1, _ => rfl | 2, _ => rfl), HB15.trans ((box1 _ _).mono HB15.size), hsl.below (box1 _ _), HB15.size⟩
        | exact ⟨w14.heap.size, sa, sc, rfl, rfl, (setB3 Z15 hsl P D).1, setL3 HB15 HB14.size _ _ _, (setB3 Z15 hsl P D).2, HB14.size⟩
        | exact ⟨w13.heap.size, sa, sc, rfl, rfl, (setB3 Z15 hsl P D).1, setL3 HB15 HB13.size _ _ _, (setB3 Z15 hsl P D).2, HB13.size⟩
        | exact ⟨w1.heap.size, sa, sc, rfl, rfl, (setB3 Z15 hsl P D).1, setL3 HB15 (Nat.le_refl _) _ _ _, (setB3 Z15 hsl P D).2, Nat.le_refl _⟩
  case rest =>
    obtain ⟨B0, a3, c3, rfl, rfl, rb0, hbx, hS0, hB0⟩ := hcut
    have rx3 := rowIs_below rx1 hbx rx1.lt
    have rM3 := rowIs_below rM1 hbx rM1.lt
    have hS3 := hS1.below hbx
    have hbw3 := hbw1.trans (hbx.mono hbw1.size)
    have sm3 := hS0.bound
    obtain ⟨N0, hN0⟩ : ∃ N0, wc.heap.size = N0 := ⟨_, rfl⟩
    have sz3 := hbw3.size
    clear KK rx1 rM1 hS1 hb1 hbW hbw1 hbx
    obtain ⟨⟨x0, x1, x2⟩, _⟩ := poly3 rx3
    go_wp2_with fail
    ((with_reducible refine (toPoly_any p d _ xs _ hl hS3).mono ?_); rintro e w4 ⟨v4, rfl, own4, hb4⟩)
    clear x0 x1 x2
    obtain ⟨g4, f4, hv4, hgg, hgr4, _⟩ := id own4
    subst hv4
    have s4 := hb4.size
    obtain ⟨V4, hV4, hbV4, ⟨hV4s1, hV4s2⟩, rb1⟩ := newbox w4 p d (.slice (some ⟨g4, 0, none⟩) xs.length xs.length)
    have hbV := hb4.trans (hbV4.mono s4)
    have rxV := rowIs_below rx3 hbV rx3.lt
    have rMV := rowIs_below rM3 hbV rM3.lt
    have rb0V := rowIs_below rb0 hbV rb0.lt
    have own4V := own4.below hbV4
    have hS4 := own4V.slice
    have smV := sm3.kept (below_grown hbV) (Nat.le_refl _) (fun g e => by simp at e)
    have hbwV := hbw3.trans (hbV.mono hbw3.size)
    have hSV := hS3.below hbV
    have hg4lt : g4 < V4.heap.size := Nat.lt_of_lt_of_le hgr4.lt (by omega)
    clear rx3 rM3 rb0 own4 hgr4 hb4 hbV4 sm3
    go_upto_region 7 with fail
    rw [← hV4]
    clear hV4
    have KK := Lib.hid (fun w' (h : Below V4.heap.size V4 w') => show ((w'.cell? ⟨w4.heap.size, 0, none⟩ = some (.int .i64 p) ∧ w'.cell? ⟨w4.heap.size, 1, none⟩ = some (.int .i64 d) ∧ w'.cell? ⟨w4.heap.size, 2, none⟩ = some (.slice (some ⟨g4, 0, none⟩) xs.length xs.length)) ∧ ((w'.cell? ⟨w.heap.size, 0, none⟩ = some (.int .u8 (g 0 0)) ∧ w'.cell? ⟨w.heap.size, 1, none⟩ = some (.int .u8 (g 0 1)) ∧ w'.cell? ⟨w.heap.size, 2, none⟩ = some (.int .u8 (g 0 2))) ∧ (w'.cell? ⟨w.heap.size, 3, none⟩ = some (.int .u8 (g 1 0)) ∧ w'.cell? ⟨w.heap.size, 4, none⟩ = some (.int .u8 (g 1 1)) ∧ w'.cell? ⟨w.heap.size, 5, none⟩ = some (.int .u8 (g 1 2))) ∧ (w'.cell? ⟨w.heap.size, 6, none⟩ = some (.int .u8 (g 2 0)) ∧ w'.cell? ⟨w.heap.size, 7, none⟩ = some (.int .u8 (g 2 1)) ∧ w'.cell? ⟨w.heap.size, 8, none⟩ = some (.int .u8 (g 2 2))))) from ⟨(poly3 (rowIs_below rb1 h rb1.lt)).1, mcells (rowIs_below rMV h rMV.lt)⟩)
    go_upto_region 7 with fail
    go_cut [9, 10] (fun s6 s7 wx => ∃ B0 a3 c3, s6 = .pointer (some ⟨B0, 0, none⟩) ∧ s7 = .int .i64 c ∧ wx.rowIs B0 30 3 (polyF P D (.slice a3 S.length c3)) ∧ Below V4.heap.size V4 wx ∧ OwnP wx V4.heap.size (.slice a3 S.length c3) S ∧ V4.heap.size ≤ B0)
    case first =>
      go_region_held3 (fun w' => ((w'.cell? ⟨w4.heap.size, 0, none⟩ = some (.int .i64 p) ∧ w'.cell? ⟨w4.heap.size, 1, none⟩ = some (.int .i64 d) ∧ w'.cell? ⟨w4.heap.size, 2, none⟩ = some (.slice (some ⟨g4, 0, none⟩) xs.length xs.length)) ∧ ((w'.cell? ⟨w.heap.size, 0, none⟩ = some (.int .u8 (g 0 0)) ∧ w'.cell? ⟨w.heap.size, 1, none⟩ = some (.int .u8 (g 0 1)) ∧ w'.cell? ⟨w.heap.size, 2, none⟩ = some (.int .u8 (g 0 2))) ∧ (w'.cell? ⟨w.heap.size, 3, none⟩ = some (.int .u8 (g 1 0)) ∧ w'.cell? ⟨w.heap.size, 4, none⟩ = some (.int .u8 (g 1 1)) ∧ w'.cell? ⟨w.heap.size, 5, none⟩ = some (.int .u8 (g 1 2))) ∧ (w'.cell? ⟨w.heap.size, 6, none⟩ = some (.int .u8 (g 2 0)) ∧ w'.cell? ⟨w.heap.size, 7, none⟩ = some (.int .u8 (g 2 1)) ∧ w'.cell? ⟨w.heap.size, 8, none⟩ = some (.int .u8 (g 2 2))))))
        (first | with_reducible exact KK.out _ (Below.same _).drew | with_reducible exact KK.out _ HB13 | with_reducible exact KK.out _ HB14 | with_reducible exact KK.out _ (box1 _ _).drew | with_reducible exact KK.out _ (HB13.trans ((box1 _ _).mono HB13.size)) | with_reducible exact KK.out _ (HB14.trans ((box1 _ _).mono HB14.size)) | with_reducible exact KK.out _ (setL3 HB14 HB13.size _ _ _) | with_reducible exact KK.out _ (setL3 HB14 (Nat.le_refl _) _ _ _))
        (first
        | (go_at_call 17; (with_reducible refine (tomat_agg g _).mono ?_); rintro e w13 ⟨rfl, hb13⟩; have H13 : Below V4.heap.size V4 w13 := (by first | exact (Below.same _).drew.trans hb13 | with_reducible exact (box1 _ _).drew.trans (hb13.mono (by simp))); have HB13 : Below V4.heap.size V4 w13 := H13; (first | (have Z13 : w13.rowIs V4.heap.size 30 3 (polyF 0 0 (.slice none 0 0)) := rowIs_below (zboxD V4) hb13 (by simp); (obtain ⟨⟨e130, e131, e132⟩, f130, f131, f132⟩ := poly3 Z13)) | skip))
        | (go_at_call 18; (with_reducible refine (HIM.out _ _ (by first | with_reducible exact hS4.below HB13 | with_reducible exact (hS4.below HB13).below (box1 _ _))).mono ?_); rintro e w14 ⟨v14, rfl, ho14, hb14⟩; have H14 : Below w13.heap.size w13 w14 := (by first | exact hb14 | with_reducible exact (box1 _ _).trans (hb14.mono (by simp))); have HB14 : Below V4.heap.size V4 w14 := HB13.trans (H14.mono HB13.size); (first | (have Z14 : w14.rowIs w13.heap.size 30 3 (polyF 0 0 (.slice none 0 0)) := rowIs_below (zbox w13) hb14 (by simp); (obtain ⟨⟨e140, e141, e142⟩, f140, f141, f142⟩ := poly3 Z14)) | (have Z14 := rowIs_below Z13 H14 Z13.lt; (obtain ⟨⟨e140, e141, e142⟩, f140, f141, f142⟩ := poly3 Z14)) | skip); simp only at ho14; (obtain ⟨sa, sc, rfl⟩ := owns_slice ho14); have hsl := OwnP.slice ho14))
      all_goals
        go_wp2_with fail
        go_meet
        first
          | exact ⟨w14.heap.size, sa, sc, rfl, rfl, World.rowIs_alloc w14 #[Value.int .i64 P, .int .i64 D, .slice sa S.length sc] _ _ (fun i hi => by simp at hi; match i, hi with | 0, _ => rfl | 1, _ => rfl | 2, _ => rfl), HB14.trans ((box1 _ _).mono HB14.size), owns_low (owns_belowT ho14 (box1 _ _)) HB13.size, HB14.size⟩
          | exact ⟨w13.heap.size, sa, sc, rfl, rfl, (setB3 Z14 hsl P D).1, setL3 HB14 HB13.size _ _ _, owns_low (own_set3 ho14 Z14 (i0 := 0) (i1 := 1) (i2 := 2)) (Nat.le_trans HB13.size (by simp)), HB13.size⟩
          | exact ⟨V4.heap.size, sa, sc, rfl, rfl, (setB3 Z14 hsl P D).1, setL3 HB14 (Nat.le_refl _) _ _ _, owns_low (own_set3 ho14 Z14 (i0 := 0) (i1 := 1) (i2 := 2)) HB13.size, Nat.le_refl _⟩
    case rest =>
      obtain ⟨B2, a5, c5, rfl, rfl, rb2, hbx, hg5, hB2⟩ := hcut
      have hbw5 := hbwV.trans (hbx.mono hbwV.size)
      rw [hN0] at smV hgg
      have sN : w.heap.size ≤ N0 := by omega
      have hNV : N0 ≤ V4.heap.size := by omega
      have hVs := hbx.size
      have st : LawSt w wc (w.heap.size + 1) B0 w4.heap.size B2 N0 p d P D (.slice a xs.length cap) (.slice a3 S.length c3) (.slice (some ⟨g4, 0, none⟩) xs.length xs.length) (.slice a5 S.length c5) xs S :=
        ⟨rowIs_below rxV hbx rxV.lt, rowIs_below rb0V hbx rb0V.lt, rowIs_below rb1 hbx rb1.lt, rb2, hS.bound.kept (below_grown hbw5) (Nat.le_refl _) (fun g e => by simp at e), smV.kept (below_grown hbx) hNV (fun g e => by simp at e), hbw5, sN, by omega⟩
      have hx5 : OwnT wc N0 (.slice (some ⟨g4, 0, none⟩) xs.length xs.length) xs := by
        have := own4V.below hbx
        rwa [hN0] at this
      have rM5 := rowIs_below rMV hbx rMV.lt
      obtain ⟨⟨q0, q1, q2⟩, _⟩ := poly3 st.b2
      obtain ⟨⟨k0, k1, k2⟩, _⟩ := poly3 st.b0
      have hcc : (c != c) = false := by simp
      have hg4N : N0 ≤ g4 := by omega
      clear KK rxV rMV rb0V rb1 rb2 hbx hbwV hbw5 hbw3 hS3 hS4 hSV smV own4V hS0 HSP hbV s4 hN0
      go_wp2_with fail
      ((with_reducible refine (eqPoly_same P D _ _ S _ hso (OwnP.slice hg5) (st.sm.slice st.n0.2)).mono ?_); rintro e w6 ⟨rfl, hb6⟩)
      clear q0 q1 q2 k0 k1 k2
      have st6 := st.on (hb6.drew)
      have stw := st.on hb6
      have rMw := rowIs_below rM5 hb6 rM5.lt
      have hxw := hx5.below hb6
      have hgw : OwnP w6 V4.heap.size (.slice a5 S.length c5) S := owns_belowT hg5 hb6
      obtain ⟨⟨x0, x1, x2⟩, _⟩ := poly3 stw.ax
      obtain ⟨⟨b0, b1, b2⟩, _⟩ := poly3 stw.b1
      have hA6 := st6.sa.slice st6.below.size
      have hz6 := st6.b1.lt
      have hX6 := (hx5.below (hb6.drew)).slice
      obtain ⟨⟨B0', B1', B2'⟩, _⟩ := poly3 st6.b1
      clear st hx5 hg5 hb6 rM5
      go_wp2_with fail
      go_cut [51] (fun s51 wx => s51 = .bool false ∧ Below w6.heap.size w6 wx)
      case first =>
        go_region_with (first
          | (go_at_call 8; (with_reducible refine (toPoly_any p d _ xs _ hl hA6).mono ?_); rintro e w7 ⟨v7, rfl, own7, hb7⟩; have Q0 := (hb7.cell (p := ⟨w4.heap.size, 0, none⟩) hz6).trans B0'; have Q1 := (hb7.cell (p := ⟨w4.heap.size, 1, none⟩) hz6).trans B1'; have Q2 := (hb7.cell (p := ⟨w4.heap.size, 2, none⟩) hz6).trans B2')
          | (go_at_call 11; (with_reducible refine (eqPoly_same p d _ _ xs _ hl (hX6.below hb7) own7.slice).mono ?_); rintro e w8 ⟨rfl, hb8⟩))
        all_goals
          go_wp2_with fail
          go_meet
          exact ⟨rfl, (Below.refl _ _).drew.trans (hb7.trans (hb8.mono hb7.size))⟩
      case rest =>
        obtain ⟨rfl, hb8⟩ := hcut
        have st8 := stw.on hb8
        have rM8 := rowIs_below rMw hb8 rMw.lt
        have hx8 := hxw.below hb8
        have hg8 : OwnP _ V4.heap.size (.slice a5 S.length c5) S := owns_belowT hgw hb8
        clear x0 x1 x2 b0 b1 b2 B0' B1' B2' st6 stw hxw hgw rMw hA6 hz6 hX6 hb8
        obtain ⟨⟨B0', B1', B2'⟩, _⟩ := poly3 st8.b1
        go_wp2_with fail
        ((with_reducible refine (markPoly_own p d 1 _ hx8.own hl (by decide) (by decide)).mono ?_); rintro e w9 ⟨rfl, _, hgr9⟩)
        have st9 := st8.step hgr9 (fun g e => by obtain ⟨h1, h2⟩ := hx8.own.row g e; exact ⟨by omega, h2⟩)
        have rM9 := matStep rM8 hgr9 (fun g e => (hx8.own.row g e).2)
        have hg9 : OwnP w9 V4.heap.size (.slice a5 S.length c5) S := hg8.keep hgr9 (fun g e => by simp [Value.ownBlock] at e; omega)
        clear B0' B1' B2' st8 hx8 hg8 hgr9 rM8
        have hq1 : ¬ (1 : Int) + 4 * (xs.length : Int) < 0 := by omega
        obtain ⟨⟨q0, q1, q2⟩, _⟩ := poly3 st9.b2
        obtain ⟨⟨k0, k1, k2⟩, _⟩ := poly3 st9.b0
        go_wp2_with fail
        ((with_reducible refine (eqPoly_same P D _ _ S _ hso (OwnP.slice hg9) (st9.sm.slice st9.n0.2)).mono ?_); rintro e w10 ⟨rfl, hb10⟩)
        have st10 := st9.on hb10
        have rM10 := rowIs_below rM9 hb10 rM9.lt
        have hg10 : OwnP w10 V4.heap.size (.slice a5 S.length c5) S := owns_belowT hg9 hb10
        clear q0 q1 q2 k0 k1 k2 st9 hg9 hb10 hq1 rM9
        obtain ⟨⟨q0, q1, q2⟩, _⟩ := poly3 st10.b2
        go_wp2_with fail
        ((with_reducible refine (markPoly_own P D 1 _ (OwnG.of_owns hg10) hso (by decide) (by decide)).mono ?_); rintro e w11 ⟨rfl, hM11, hgr11⟩)
        have st11 := st10.step hgr11 (fun g e => by obtain ⟨h1, h2⟩ := (OwnG.of_owns hg10).row g e; exact ⟨by omega, h2⟩)
        have rM11 := matStep rM10 hgr11 (fun g e => ((OwnG.of_owns hg10).row g e).2)
        clear q0 q1 q2 st10 hg10 hgr11 rM10
        obtain ⟨⟨q0, q1, q2⟩, _⟩ := poly3 st11.b2
        go_wp2_with fail
        ((with_reducible refine (heldPoly_marks P D 1 _ hM11 hso (by decide) (by decide)).mono ?_); rintro e w12 ⟨rfl, hb12⟩)
        have st12 := st11.on hb12
        have rM12 := rowIs_below rM11 hb12 rM11.lt
        have hM12 := hM11.below hb12
        clear q0 q1 q2 st11 hM11 hb12 rM11
        have hq2 : ¬ (1 : Int) + 4 * (S.length : Int) < 0 := by omega
        have hq3 : ((1 : Int) + 4 * (S.length : Int) != 1 + 4 * (S.length : Int)) = false := by simp
        have hSa12 := st12.sa.slice st12.below.size
        have rx12 := st12.ax
        have KK := Lib.hid (fun w' (h : Below w12.heap.size w12 w') => show ((w'.cell? ⟨w.heap.size + 1, 0, none⟩ = some (.int .i64 p) ∧ w'.cell? ⟨w.heap.size + 1, 1, none⟩ = some (.int .i64 d) ∧ w'.cell? ⟨w.heap.size + 1, 2, none⟩ = some (.slice a xs.length cap)) ∧ ((w'.cell? ⟨w.heap.size, 0, none⟩ = some (.int .u8 (g 0 0)) ∧ w'.cell? ⟨w.heap.size, 1, none⟩ = some (.int .u8 (g 0 1)) ∧ w'.cell? ⟨w.heap.size, 2, none⟩ = some (.int .u8 (g 0 2))) ∧ (w'.cell? ⟨w.heap.size, 3, none⟩ = some (.int .u8 (g 1 0)) ∧ w'.cell? ⟨w.heap.size, 4, none⟩ = some (.int .u8 (g 1 1)) ∧ w'.cell? ⟨w.heap.size, 5, none⟩ = some (.int .u8 (g 1 2))) ∧ (w'.cell? ⟨w.heap.size, 6, none⟩ = some (.int .u8 (g 2 0)) ∧ w'.cell? ⟨w.heap.size, 7, none⟩ = some (.int .u8 (g 2 1)) ∧ w'.cell? ⟨w.heap.size, 8, none⟩ = some (.int .u8 (g 2 2))))) from ⟨(poly3 (rowIs_below rx12 h rx12.lt)).1, mcells (rowIs_below rM12 h rM12.lt)⟩)
        go_upto_region 24 with fail
        go_cut [14, 15] (fun s6 s7 wx => ∃ B0 a3 c3, s6 = .pointer (some ⟨B0, 0, none⟩) ∧ s7 = .int .i64 c ∧ wx.rowIs B0 30 3 (polyF P D (.slice a3 S.length c3)) ∧ Below w12.heap.size w12 wx ∧ SliceT wx (.slice a3 S.length c3) S ∧ w12.heap.size ≤ B0)
        case first =>
          go_region_held3 (fun w' => ((w'.cell? ⟨w.heap.size + 1, 0, none⟩ = some (.int .i64 p) ∧ w'.cell? ⟨w.heap.size + 1, 1, none⟩ = some (.int .i64 d) ∧ w'.cell? ⟨w.heap.size + 1, 2, none⟩ = some (.slice a xs.length cap)) ∧ ((w'.cell? ⟨w.heap.size, 0, none⟩ = some (.int .u8 (g 0 0)) ∧ w'.cell? ⟨w.heap.size, 1, none⟩ = some (.int .u8 (g 0 1)) ∧ w'.cell? ⟨w.heap.size, 2, none⟩ = some (.int .u8 (g 0 2))) ∧ (w'.cell? ⟨w.heap.size, 3, none⟩ = some (.int .u8 (g 1 0)) ∧ w'.cell? ⟨w.heap.size, 4, none⟩ = some (.int .u8 (g 1 1)) ∧ w'.cell? ⟨w.heap.size, 5, none⟩ = some (.int .u8 (g 1 2))) ∧ (w'.cell? ⟨w.heap.size, 6, none⟩ = some (.int .u8 (g 2 0)) ∧ w'.cell? ⟨w.heap.size, 7, none⟩ = some (.int .u8 (g 2 1)) ∧ w'.cell? ⟨w.heap.size, 8, none⟩ = some (.int .u8 (g 2 2))))))
            (first | with_reducible exact KK.out _ (Below.same _).drew | with_reducible exact KK.out _ HB13 | with_reducible exact KK.out _ HB14 | with_reducible exact KK.out _ HB15 | with_reducible exact KK.out _ (box1 _ _).drew | with_reducible exact KK.out _ (HB13.trans ((box1 _ _).mono HB13.size)) | with_reducible exact KK.out _ (HB14.trans ((box1 _ _).mono HB14.size)) | with_reducible exact KK.out _ (HB15.trans ((box1 _ _).mono HB15.size)) | with_reducible exact KK.out _ (setL3 HB15 HB14.size _ _ _) | with_reducible exact KK.out _ (setL3 HB15 HB13.size _ _ _) | with_reducible exact KK.out _ (setL3 HB15 (Nat.le_refl _) _ _ _))
            (first
            | (go_at_call 17; (with_reducible refine (tomat_agg g _).mono ?_); rintro e w13 ⟨rfl, hb13⟩; have H13 : Below w12.heap.size w12 w13 := (by first | exact (Below.same _).drew.trans hb13 | with_reducible exact (box1 _ _).drew.trans (hb13.mono (by simp))); have HB13 : Below w12.heap.size w12 w13 := H13; (first | (have Z13 : w13.rowIs w12.heap.size 30 3 (polyF 0 0 (.slice none 0 0)) := rowIs_below (zboxD w12) hb13 (by simp); (obtain ⟨⟨e130, e131, e132⟩, f130, f131, f132⟩ := poly3 Z13)) | skip))
            | (go_at_call 8; (with_reducible refine (toPoly_any p d _ xs _ hl (by first | with_reducible exact hSa12.below HB13 | with_reducible exact (hSa12.below HB13).below (box1 _ _))).mono ?_); rintro e w14 ⟨v14, rfl, own14, hb14⟩; have H14 : Below w13.heap.size w13 w14 := (by first | exact hb14 | with_reducible exact (box1 _ _).trans (hb14.mono (by simp))); have HB14 : Below w12.heap.size w12 w14 := HB13.trans (H14.mono HB13.size); (first | (have Z14 : w14.rowIs w13.heap.size 30 3 (polyF 0 0 (.slice none 0 0)) := rowIs_below (zbox w13) hb14 (by simp); (obtain ⟨⟨e140, e141, e142⟩, f140, f141, f142⟩ := poly3 Z14)) | (have Z14 := rowIs_below Z13 H14 Z13.lt; (obtain ⟨⟨e140, e141, e142⟩, f140, f141, f142⟩ := poly3 Z14)) | skip))
            | (go_at_call 18; (with_reducible refine (HIM.out _ _ (by first | with_reducible exact own14.slice | with_reducible exact own14.slice.below (box1 _ _))).mono ?_); rintro e w15 ⟨v15, rfl, ho15, hb15⟩; have H15 : Below w14.heap.size w14 w15 := (by first | exact hb15 | with_reducible exact (box1 _ _).trans (hb15.mono (by simp))); have HB15 : Below w12.heap.size w12 w15 := HB14.trans (H15.mono HB14.size); (first | (have Z15 : w15.rowIs w14.heap.size 30 3 (polyF 0 0 (.slice none 0 0)) := rowIs_below (zbox w14) hb15 (by simp); (obtain ⟨⟨e150, e151, e152⟩, f150, f151, f152⟩ := poly3 Z15)) | (have Z15 := rowIs_below Z14 H15 Z14.lt; (obtain ⟨⟨e150, e151, e152⟩, f150, f151, f152⟩ := poly3 Z15)) | skip); simp only at ho15; (obtain ⟨sa, sc, rfl⟩ := owns_slice ho15); have hsl := OwnP.slice ho15))
          all_goals
            go_wp2_with fail
            go_meet
            first
              | exact ⟨w15.heap.size, sa, sc, rfl, rfl, World.rowIs_alloc w15 #[Value.int .i64 P, .int .i64 D, .slice sa S.length sc] _ _ (fun i hi => by simp at hi; match i, hi with | 0, _ => rfl | 1, _ => rfl | 2, _ => rfl), HB15.trans ((box1 _ _).mono HB15.size), hsl.below (box1 _ _), HB15.size⟩
              | exact ⟨w14.heap.size, sa, sc, rfl, rfl, (setB3 Z15 hsl P D).1, setL3 HB15 HB14.size _ _ _, (setB3 Z15 hsl P D).2, HB14.size⟩
              | exact ⟨w13.heap.size, sa, sc, rfl, rfl, (setB3 Z15 hsl P D).1, setL3 HB15 HB13.size _ _ _, (setB3 Z15 hsl P D).2, HB13.size⟩
              | exact ⟨w12.heap.size, sa, sc, rfl, rfl, (setB3 Z15 hsl P D).1, setL3 HB15 (Nat.le_refl _) _ _ _, (setB3 Z15 hsl P D).2, Nat.le_refl _⟩
        case rest =>
          obtain ⟨B3, a14, c14, rfl, rfl, rh, hbx, hS14, hB3⟩ := hcut
          have st14 := st12.on hbx
          have hM14 := hM12.below hbx
          clear KK st12 hM12 hbx rM12 rx12 hSa12
          obtain ⟨⟨q0, q1, q2⟩, _⟩ := poly3 rh
          obtain ⟨⟨k0, k1, k2⟩, _⟩ := poly3 st14.b0
          go_wp2_with fail
          ((with_reducible refine (eqPoly_same P D _ _ S _ hso hS14 (st14.sm.slice st14.n0.2)).mono ?_); rintro e w15 ⟨rfl, hb15⟩)
          have st15 := st14.on hb15
          have hM15 := hM14.below hb15
          clear q0 q1 q2 k0 k1 k2 st14 hM14 hS14 rh hb15
          obtain ⟨⟨q0, q1, q2⟩, _⟩ := poly3 st15.b2
          go_wp2_with fail
          ((with_reducible refine (heldPoly_marks P D 1 _ hM15 hso (by decide) (by decide)).mono ?_); rintro e w16 ⟨rfl, hb16⟩)
          have hend := (st15.on hb16).below
          clear q0 q1 q2 st15 hM15 hb16
          go_wp2
          go_ret
          exact ⟨rfl, hend⟩
end Go.Proofs.Ytadcbfngmgclaaa
