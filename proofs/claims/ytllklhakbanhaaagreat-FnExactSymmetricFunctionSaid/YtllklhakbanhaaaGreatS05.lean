/-
  The law of 'FnExactSymmetricFunction', walked. Conditions: as the theorem states.
-/
import Derived.Test.YtllklhakbanhaaaGreatS04
import Derived.Test.YtllklhakbanhaaaGreatQ43
namespace Go.Proofs.YtllklhakbanhaaaGreat
open Go.RowKit Go.Sort Go.Maps EchM

set_option maxRecDepth 8000 in
set_option maxHeartbeats 16000000 in
theorem law_Syf (p n : Int) (v : Value) (L : List (Nat → Nat → Int)) (q d : Int) (u : Value) (xs : List Tm) (k0 : Int) (w : World) (hn : L.length ≤ 9223372036854775807) (hS : SlM w v L) (hby : ∀ x ∈ L, Byt x) (hnx : xs.length ≤ 9223372036854775807) (hU : SliceT w u xs) (hxb : ∀ t ∈ xs, tmByte t) :
    Calls Tryz.prog 8 #[.agg #[.int .i64 p, .int .i64 n, v], .agg #[.int .i64 q, .int .i64 d, u], .int .i64 k0] w fun e w' => e = .returned (.bool true) ∧ Below w.heap.size w w' := by
  obtain ⟨W, hW, hbW, ⟨hWs1, hWs2⟩, rG, rx⟩ := boxLGP w p n v q d u
  have hSW := hS.below hbW
  have hUW := hU.below hbW
  obtain ⟨a, cap, rfl, _⟩ := id hS
  obtain ⟨ua, uc, rfl, _⟩ := id hU
  obtain ⟨y0, y1, y2⟩ := gcells rG
  by_cases hbig : 1048576 < L.length
  · go_enter Tryz.func8, Tryz.ntmps8
    go_wp2_with fail
    rw [← hW]
    clear hW
    ((with_reducible refine (szgrp_no p n a L.length cap _ hbig hn).mono ?_); rintro e w1 ⟨rfl, hb1⟩)
    go_wp2_with fail
    go_ret
    exact ⟨rfl, hbW.trans (hb1.mono hbW.size)⟩
  have hl : L.length ≤ 1048576 := by omega
  have hpos : ¬ (1048576 - (L.length : Int)) < 0 := by omega
  clear hbig
  go_enter Tryz.func8, Tryz.ntmps8
  go_wp2_with fail
  rw [← hW]
  clear hW
  ((with_reducible refine (szgrp_ok p n a L.length cap _ hl).mono ?_); rintro e w1 ⟨rfl, hb1⟩)
  have rG1 := rowIs_below rG hb1 rG.lt
  have rx1 := rowIs_below rx hb1 rx.lt
  have hS1 := hSW.below hb1
  have hU1 := hUW.below hb1
  have hbw1 := hbW.trans (hb1.mono hbW.size)
  clear y0 y1 y2 rG rx hSW hUW hb1 hbW
  obtain ⟨⟨x0, x1, x2⟩, _⟩ := poly3 rx1
  have hlf0 : (0 : Int) ≤ 1048576 - (L.length : Int) := by omega
  have hlf1 : 1048576 - (L.length : Int) ≤ 1048576 := by omega
  obtain ⟨lf, hlf⟩ : ∃ lf, 1048576 - (L.length : Int) = lf := ⟨_, rfl⟩
  rw [hlf] at hlf0 hlf1 hpos ⊢
  clear hlf
  go_wp2_with fail
  ((with_reducible refine (szPoly_any q d lf _ xs _ hnx hlf0 hlf1 hU1).mono ?_); rintro e w2 ⟨rfl, hb2⟩)
  have rG2 := rowIs_below rG1 hb2 rG1.lt
  have rx2 := rowIs_below rx1 hb2 rx1.lt
  have hS2 := hS1.below hb2
  have hU2 := hU1.below hb2
  have hbw2 := hbw1.trans (hb2.mono hbw1.size)
  clear x0 x1 x2 rG1 rx1 hS1 hU1 hb2 hbw1 hpos
  by_cases hbig : lf - (xs.length : Int) < 0
  · have HL := Lib.hid (fleft_lt hbig)
    rw [HL.out]
    go_wp2
    go_ret
    exact ⟨rfl, hbw2⟩
  have HL := Lib.hid (fleft_ge hbig)
  have hxl : xs.length ≤ 1048576 := by omega
  obtain ⟨lf2, hlf3⟩ : ∃ lf2, lf - (xs.length : Int) = lf2 := ⟨_, rfl⟩
  rw [HL.out, hlf3]
  rw [hlf3] at hbig
  clear HL hlf3 hlf0 hlf1
  obtain ⟨o, ho⟩ : ∃ o, SyO p n L q d xs k0 o := syO_ex hby hxb
  have hso : o.S.length ≤ 1048576 := syO_len ho
  have HSP := Lib.hid (fun v' u' w' h' k' => ssyf p n v' L q d u' xs k0 w' hl h' hby hxl k' hxb o ho)
  have HIM := Lib.hid (fun v' u' w' h' k' => isyf p n v' L q d u' xs k0 w' hl h' hby hxl k' hxb o ho)
  clear ho
  obtain ⟨P, D, S, c⟩ := o
  simp only at hso
  have HBY := Lib.hid hby
  have HXB := Lib.hid hxb
  clear hby hxb
  have KK := Lib.hid (fun w' (h : Below w2.heap.size w2 w') => show ((w'.cell? ⟨w.heap.size + 1, 0, none⟩ = some (.int .i64 q) ∧ w'.cell? ⟨w.heap.size + 1, 1, none⟩ = some (.int .i64 d) ∧ w'.cell? ⟨w.heap.size + 1, 2, none⟩ = some (.slice ua xs.length uc)) ∧ (w'.cell? ⟨w.heap.size, 0, none⟩ = some (.int .i64 p) ∧ w'.cell? ⟨w.heap.size, 1, none⟩ = some (.int .i64 n) ∧ w'.cell? ⟨w.heap.size, 2, none⟩ = some (.slice a L.length cap))) from ⟨(poly3 (rowIs_below rx2 h rx2.lt)).1, gcells (rowIs_below rG2 h rG2.lt)⟩)
  go_wp2_with fail
  go_cut [8, 9] (fun s6 s7 wx => ∃ B0 a3 c3, s6 = .pointer (some ⟨B0, 0, none⟩) ∧ s7 = .int .i64 c ∧ wx.rowIs B0 39 3 (polyF P D (.slice a3 S.length c3)) ∧ Below w2.heap.size w2 wx ∧ SliceT wx (.slice a3 S.length c3) S ∧ w2.heap.size ≤ B0)
  case first =>
    go_region_held3 (fun w' => ((w'.cell? ⟨w.heap.size + 1, 0, none⟩ = some (.int .i64 q) ∧ w'.cell? ⟨w.heap.size + 1, 1, none⟩ = some (.int .i64 d) ∧ w'.cell? ⟨w.heap.size + 1, 2, none⟩ = some (.slice ua xs.length uc)) ∧ (w'.cell? ⟨w.heap.size, 0, none⟩ = some (.int .i64 p) ∧ w'.cell? ⟨w.heap.size, 1, none⟩ = some (.int .i64 n) ∧ w'.cell? ⟨w.heap.size, 2, none⟩ = some (.slice a L.length cap))))
      (first | with_reducible exact KK.out _ (Below.same _).drew | with_reducible exact KK.out _ HB13 | with_reducible exact KK.out _ HB14 | with_reducible exact KK.out _ HB15 | with_reducible exact KK.out _ (box1 _ _).drew | with_reducible exact KK.out _ (HB13.trans ((box1 _ _).mono HB13.size)) | with_reducible exact KK.out _ (HB14.trans ((box1 _ _).mono HB14.size)) | with_reducible exact KK.out _ (HB15.trans ((box1 _ _).mono HB15.size)) | with_reducible exact KK.out _ (setL3 HB15 HB14.size _ _ _) | with_reducible exact KK.out _ (setL3 HB15 HB13.size _ _ _) | with_reducible exact KK.out _ (setL3 HB15 (Nat.le_refl _) _ _ _))
      (first
      | (go_at_call 15; (with_reducible refine (togrp p n _ L _ hl (by first | with_reducible exact hS2.below (Below.same _).drew | with_reducible exact hS2.below (box1 _ _).drew)).mono ?_); rintro e w13 ⟨v13, rfl, own13, hb13⟩; have HB13 : Below w2.heap.size w2 w13 := (by first | exact (Below.same _).drew.trans hb13 | with_reducible exact (box1 _ _).drew.trans (hb13.mono (by simp))); (first | (have Z13 : w13.rowIs w2.heap.size 39 3 (polyF 0 0 (.slice none 0 0)) := rowIs_below (zboxD w2) hb13 (by simp); (obtain ⟨⟨e130, e131, e132⟩, f130, f131, f132⟩ := poly3 Z13)) | skip))
      | (go_at_call 16; (with_reducible refine (toPoly_any q d _ xs _ hxl (by first | with_reducible exact hU2.below HB13 | with_reducible exact (hU2.below HB13).below (box1 _ _))).mono ?_); rintro e w14 ⟨v14, rfl, own14, hb14⟩; have H14 : Below w13.heap.size w13 w14 := (by first | exact hb14 | with_reducible exact (box1 _ _).trans (hb14.mono (by simp))); have HB14 : Below w2.heap.size w2 w14 := HB13.trans (H14.mono HB13.size); (first | (have Z14 : w14.rowIs w13.heap.size 39 3 (polyF 0 0 (.slice none 0 0)) := rowIs_below (zbox w13) hb14 (by simp); (obtain ⟨⟨e140, e141, e142⟩, f140, f141, f142⟩ := poly3 Z14)) | (have Z14 := rowIs_below Z13 H14 Z13.lt; (obtain ⟨⟨e140, e141, e142⟩, f140, f141, f142⟩ := poly3 Z14)) | skip))
      | (go_at_call 37; (with_reducible refine (HSP.out _ _ _ (by first | with_reducible exact own13.slice.below H14 | with_reducible exact (own13.slice.below H14).below (box1 _ _)) (by first | with_reducible exact own14.slice | with_reducible exact own14.slice.below (box1 _ _))).mono ?_); rintro e w15 ⟨v15, rfl, ho15, hb15⟩; have H15 : Below w14.heap.size w14 w15 := (by first | exact hb15 | with_reducible exact (box1 _ _).trans (hb15.mono (by simp))); have HB15 : Below w2.heap.size w2 w15 := HB14.trans (H15.mono HB14.size); (first | (have Z15 : w15.rowIs w14.heap.size 39 3 (polyF 0 0 (.slice none 0 0)) := rowIs_below (zbox w14) hb15 (by simp); (obtain ⟨⟨e150, e151, e152⟩, f150, f151, f152⟩ := poly3 Z15)) | (have Z15 := rowIs_below Z14 H15 Z14.lt; (obtain ⟨⟨e150, e151, e152⟩, f150, f151, f152⟩ := poly3 Z15)) | skip); simp only at ho15; (obtain ⟨sa, sc, rfl⟩ := owns_slice ho15); have hsl := OwnP.slice ho15))
    all_goals
      go_wp2_with fail
      go_meet
      first
        | exact ⟨w15.heap.size, sa, sc, rfl, rfl, World.rowIs_alloc w15 #[Value.int .i64 P, .int .i64 D, .slice sa S.length sc] _ _ (fun i hi => by simp at hi; match i, hi with | 0, _ => rfl | 1, _ => rfl | 2, _ => rfl), HB15.trans ((box1 _ _).mono HB15.size), hsl.below (box1 _ _), HB15.size⟩
        | exact ⟨w14.heap.size, sa, sc, rfl, rfl, (setB3 Z15 hsl P D).1, setL3 HB15 HB14.size _ _ _, (setB3 Z15 hsl P D).2, HB14.size⟩
        | exact ⟨w13.heap.size, sa, sc, rfl, rfl, (setB3 Z15 hsl P D).1, setL3 HB15 HB13.size _ _ _, (setB3 Z15 hsl P D).2, HB13.size⟩
        | exact ⟨w2.heap.size, sa, sc, rfl, rfl, (setB3 Z15 hsl P D).1, setL3 HB15 (Nat.le_refl _) _ _ _, (setB3 Z15 hsl P D).2, Nat.le_refl _⟩
  case rest =>
    obtain ⟨B0, a3, c3, rfl, rfl, rb0, hb3, hs3, hB0⟩ := hcut
    have rG3 := rowIs_below rG2 hb3 rG2.lt
    have rx3 := rowIs_below rx2 hb3 rx2.lt
    have hS3 := hS2.below hb3
    have hU3 := hU2.below hb3
    have hbw3 := hbw2.trans (hb3.mono hbw2.size)
    clear KK rG2 rx2 hS2 hU2 hb3 hbw2 HSP hB0
    obtain ⟨y0, y1, y2⟩ := gcells rG3
    go_wp2_with fail
    ((with_reducible refine (togrp p n _ L _ hl hS3).mono ?_); rintro e w4 ⟨v4, rfl, own4, hb4⟩)
    clear y0 y1 y2
    obtain ⟨g4, f4, hv4, _⟩ := id own4
    subst hv4
    obtain ⟨V4, hV4, rb1, hbV4⟩ : ∃ V, V = w4.alloc (.cells #[.int .i64 p, .int .i64 n, .slice (some ⟨g4, 0, none⟩) L.length L.length] 35) ∧ V.rowIs w4.heap.size 35 3 (grpF p n (.slice (some ⟨g4, 0, none⟩) L.length L.length)) ∧ Below w4.heap.size w4 V := ⟨_, rfl, gbox w4 p n _ _, ebox1 _ _⟩
    have K := hb4.trans (hbV4.mono hb4.size)
    have hs4 := own4.slice.below hbV4
    have hB1 : w4.heap.size < V4.heap.size := rb1.lt
    clear own4 hbV4
    go_upto_region 10 with fail
    rw [← hV4]
    clear hV4
    obtain ⟨⟨x0, x1, x2⟩, _⟩ := poly3 (rowIs_below rx3 K rx3.lt)
    go_wp2_with fail
    ((with_reducible refine (toPoly_any q d _ xs _ hxl (hU3.below K)).mono ?_); rintro e w5 ⟨v5, rfl, own5, hb5⟩)
    clear x0 x1 x2
    obtain ⟨g5, f5, hv5, hg5, hr5, _⟩ := id own5
    subst hv5
    obtain ⟨V5, hV5, hbV5, ⟨hV5s1, hV5s2⟩, rb2⟩ := newbox w5 q d (.slice (some ⟨g5, 0, none⟩) xs.length xs.length)
    have hb5V := hb5.trans (hbV5.mono hb5.size)
    have K' := K.trans (hb5V.mono K.size)
    have rb1' := rowIs_below rb1 hb5V rb1.lt
    have hs4' := hs4.below hb5V
    have hx5 := own5.below hbV5
    have hg5lt : g5 < V5.heap.size := Nat.lt_of_lt_of_le hr5.lt hbV5.size
    have hwV4 : wc.heap.size ≤ V4.heap.size := K.size
    clear K rb1 hs4 own5 hr5 hbV5 hb5V hb5 hb4
    go_upto_region 11 with fail
    rw [← hV5]
    clear hV5
    obtain ⟨t0, t1, t2⟩ := gcells rb1'
    obtain ⟨⟨q0, q1, q2⟩, _⟩ := poly3 rb2
    go_wp2_with fail
    ((with_reducible refine (HIM.out _ _ _ hs4' hx5.slice).mono ?_); rintro e w6 ⟨v6, rfl, ho6, hb6⟩)
    simp only at ho6
    obtain ⟨a6, c6, rfl⟩ := owns_slice ho6
    obtain ⟨V6, hV6, hbV6, ⟨hV6s1, hV6s2⟩, rb3⟩ := newbox w6 P D (.slice a6 S.length c6)
    have hb6V := hb6.trans (hbV6.mono hb6.size)
    have hcc : (c != c) = false := by simp
    have rb1 := rowIs_below rb1' hb6V rb1'.lt
    have rb2' := rowIs_below rb2 hb6V rb2.lt
    have hs4 := hs4'.below hb6V
    have hx6 := hx5.below hb6V
    have ho : OwnP V6 V5.heap.size (.slice a6 S.length c6) S := owns_belowT ho6 hbV6
    have K := K'.trans (hb6V.mono K'.size)
    have hV5w6 : V5.heap.size ≤ w6.heap.size := hb6.size
    have hwV5 : wc.heap.size ≤ V5.heap.size := by omega
    clear t0 t1 t2 q0 q1 q2 rb1' rb2 hs4' hx5 K' ho6 hb6 hbV6 hb6V
    go_upto_region 12 with fail
    rw [← hV6]
    clear hV6
    obtain ⟨⟨q0, q1, q2⟩, _⟩ := poly3 rb3
    obtain ⟨⟨k0', k1', k2'⟩, _⟩ := poly3 (rowIs_below rb0 K rb0.lt)
    go_wp2_with fail
    ((with_reducible refine (eqPoly_same P D _ _ S _ hso (OwnP.slice ho) (hs3.below K)).mono ?_); rintro e w7 ⟨rfl, hb7⟩)
    have ho7 : OwnP w7 V5.heap.size (.slice a6 S.length c6) S := owns_belowT ho hb7
    have rb17 := rowIs_below rb1 hb7 rb1.lt
    have rb27 := rowIs_below rb2' hb7 rb2'.lt
    have rb37 := rowIs_below rb3 hb7 rb3.lt
    have hs47 := hs4.below hb7
    have hx7 := hx6.below hb7
    have K7 := K.trans (hb7.mono K.size)
    clear q0 q1 q2 k0' k1' k2' ho rb1 rb2' rb3 hs4 hx6 K hb7
    obtain ⟨y0, y1, y2⟩ := gcells (rowIs_below rG3 K7 rG3.lt)
    obtain ⟨t0, t1, t2⟩ := gcells rb17
    have T0 : w7.drew.cell? ⟨w4.heap.size, 0, none⟩ = some (.int .i64 p) := t0
    have T1 : w7.drew.cell? ⟨w4.heap.size, 1, none⟩ = some (.int .i64 n) := t1
    have T2 : w7.drew.cell? ⟨w4.heap.size, 2, none⟩ = some (.slice (some ⟨g4, 0, none⟩) L.length L.length) := t2
    have hz6 : w4.heap.size < w7.drew.heap.size := rb17.lt
    have hA6 : SlM w7.drew (.slice a L.length cap) L := (hS3.below K7).below (Below.refl _ _).drew
    have hX6 : SlM w7.drew (.slice (some ⟨g4, 0, none⟩) L.length L.length) L := hs47.below (Below.refl _ _).drew
    go_wp2_with fail
    go_cut [62] (fun s wx => s = .bool false ∧ Below w7.heap.size w7 wx)
    case first =>
      go_region_with (first
        | (go_at_call 15; (with_reducible refine (togrp p n _ L _ hl hA6).mono ?_); rintro e w17 ⟨v17, rfl, own17, hb17⟩; have Q0 := (hb17.cell (p := ⟨w4.heap.size, 0, none⟩) hz6).trans T0; have Q1 := (hb17.cell (p := ⟨w4.heap.size, 1, none⟩) hz6).trans T1; have Q2 := (hb17.cell (p := ⟨w4.heap.size, 2, none⟩) hz6).trans T2)
        | (go_at_call 19; (with_reducible refine (eqgrp p n _ _ L _ hl (hX6.below hb17) own17.slice).mono ?_); rintro e w18 ⟨rfl, hb18⟩))
      all_goals
        go_wp2_with fail
        go_meet
        exact ⟨rfl, (Below.refl _ _).drew.trans (hb17.trans (hb18.mono hb17.size))⟩
    case rest =>
    rename World => w8
    obtain ⟨rfl, hb8⟩ := hcut
    have rb18 := rowIs_below rb17 hb8 rb17.lt
    have rb28 := rowIs_below rb27 hb8 rb27.lt
    have rb38 := rowIs_below rb37 hb8 rb37.lt
    have hx8 := hx7.below hb8
    have ho8 : OwnP w8 V5.heap.size (.slice a6 S.length c6) S := owns_belowT ho7 hb8
    have K8 := K7.trans (hb8.mono K7.size)
    clear y0 y1 y2 t0 t1 t2 T0 T1 T2 hz6 hA6 hX6 rb17 rb27 rb37 hs47 hx7 K7 hb8 ho7
    obtain ⟨⟨x0, x1, x2⟩, _⟩ := poly3 (rowIs_below rx3 K8 rx3.lt)
    obtain ⟨⟨b0, b1, b2⟩, _⟩ := poly3 rb28
    have B0' : w8.drew.cell? ⟨w5.heap.size, 0, none⟩ = some (.int .i64 q) := b0
    have B1' : w8.drew.cell? ⟨w5.heap.size, 1, none⟩ = some (.int .i64 d) := b1
    have B2' : w8.drew.cell? ⟨w5.heap.size, 2, none⟩ = some (.slice (some ⟨g5, 0, none⟩) xs.length xs.length) := b2
    have hz8 : w5.heap.size < w8.drew.heap.size := rb28.lt
    have hA8 : SliceT w8.drew (.slice ua xs.length uc) xs := (hU3.below K8).below (Below.refl _ _).drew
    have hX8 : SliceT w8.drew (.slice (some ⟨g5, 0, none⟩) xs.length xs.length) xs := hx8.slice.below (Below.refl _ _).drew
    go_wp2_with fail
    go_cut [67] (fun s wx => s = .bool false ∧ Below w8.heap.size w8 wx)
    case first =>
      go_region_with (first
        | (go_at_call 16; (with_reducible refine (toPoly_any q d _ xs _ hxl hA8).mono ?_); rintro e w17 ⟨v17, rfl, own17, hb17⟩; have Q0 := (hb17.cell (p := ⟨w5.heap.size, 0, none⟩) hz8).trans B0'; have Q1 := (hb17.cell (p := ⟨w5.heap.size, 1, none⟩) hz8).trans B1'; have Q2 := (hb17.cell (p := ⟨w5.heap.size, 2, none⟩) hz8).trans B2')
        | (go_at_call 20; (with_reducible refine (eqPoly_same q d _ _ xs _ hxl (hX8.below hb17) own17.slice).mono ?_); rintro e w18 ⟨rfl, hb18⟩))
      all_goals
        go_wp2_with fail
        go_meet
        exact ⟨rfl, (Below.refl _ _).drew.trans (hb17.trans (hb18.mono hb17.size))⟩
    case rest =>
    rename World => w9
    obtain ⟨rfl, hb9⟩ := hcut
    have K9 := K8.trans (hb9.mono K8.size)
    have rb19 := rowIs_below rb18 hb9 rb18.lt
    have rb29 := rowIs_below rb28 hb9 rb28.lt
    have rb39 := rowIs_below rb38 hb9 rb38.lt
    have hx9 := hx8.below hb9
    have ho9 : OwnP w9 V5.heap.size (.slice a6 S.length c6) S := owns_belowT ho8 hb9
    clear x0 x1 x2 b0 b1 b2 B0' B1' B2' hz8 hA8 hX8 rb18 rb28 rb38 hx8 ho8 K8 hb9
    obtain ⟨t0, t1, t2⟩ := gcells rb19
    go_wp2_with fail
    ((with_reducible refine (markgrp p n _ _ _ 1 _ hl).mono ?_); rintro e w10 ⟨rfl, hb10⟩)
    have rb210 := rowIs_below rb29 hb10 rb29.lt
    have rb310 := rowIs_below rb39 hb10 rb39.lt
    have hx10 := hx9.below hb10
    have ho10 : OwnP w10 V5.heap.size (.slice a6 S.length c6) S := owns_belowT ho9 hb10
    have K10 := K9.trans (hb10.mono K9.size)
    clear t0 t1 t2 rb19 rb29 rb39 hx9 ho9 K9 hb10
    obtain ⟨⟨b0, b1, b2⟩, _⟩ := poly3 rb210
    go_wp2_with fail
    ((with_reducible refine (markPoly_own q d 1 _ hx10.own hxl (by decide) (by decide)).mono ?_); rintro e w11 ⟨rfl, _, hg11⟩)
    have hg11' : w10.grownBy w11 (some g5) := hg11
    have K11 := K10.grown hg11' K10.size (fun k hk => by simp at hk; omega)
    have hgn : (Value.slice a6 S.length c6).ownBlock = none ∨ (Value.slice a6 S.length c6).ownBlock ≠ some g5 := .inr (fun e => by have := (ho10.lt g5 e).1; omega)
    have ho11 : OwnP w11 V5.heap.size (.slice a6 S.length c6) S := ho10.kept hg11' hgn
    have rb311 : w11.rowIs w6.heap.size 39 3 (polyF P D (.slice a6 S.length c6)) := rb310.of_block (hg11'.block _ rb310.lt (by simp; omega))
    clear b0 b1 b2 rb210 rb310 hx10 ho10 K10 hg11 hg11' hgn
    have hnt : ¬ (1 + 4 * (xs.length : Int)) < 0 := by omega
    obtain ⟨kx, hkx⟩ : ∃ kx, (1 : Int) + 4 * (xs.length : Int) = kx := ⟨_, rfl⟩
    rw [hkx] at hnt ⊢
    clear hkx
    obtain ⟨⟨q0, q1, q2⟩, _⟩ := poly3 rb311
    obtain ⟨⟨k0', k1', k2'⟩, _⟩ := poly3 (rowIs_below rb0 K11 rb0.lt)
    go_wp2_with fail
    ((with_reducible refine (eqPoly_same P D _ _ S _ hso (OwnP.slice ho11) (hs3.below K11)).mono ?_); rintro e w12 ⟨rfl, hb12⟩)
    have ho12 : OwnP w12 V5.heap.size (.slice a6 S.length c6) S := owns_belowT ho11 hb12
    have rb312 := rowIs_below rb311 hb12 rb311.lt
    have K12 := K11.trans (hb12.mono K11.size)
    clear q0 q1 q2 k0' k1' k2' ho11 rb311 K11 hb12
    obtain ⟨⟨q0, q1, q2⟩, _⟩ := poly3 rb312
    go_wp2_with fail
    ((with_reducible refine (markPoly_own P D 1 _ (OwnG.of_owns ho12) hso (by decide) (by decide)).mono ?_); rintro e w13 ⟨rfl, hM, hg13⟩)
    have K13 := K12.grown hg13 K12.size (fun k hk => Nat.le_trans hwV5 (ho12.lt k hk).1)
    have rb313 := rowIs_grown rb312 hg13 ho12 (by decide)
    clear q0 q1 q2 ho12 rb312 K12 hg13 hnt
    have hq2 : ¬ (1 : Int) + 4 * (S.length : Int) < 0 := by omega
    have hq3 : ((1 : Int) + 4 * (S.length : Int) != 1 + 4 * (S.length : Int)) = false := by simp
    obtain ⟨⟨q0, q1, q2⟩, _⟩ := poly3 rb313
    go_wp2_with fail
    ((with_reducible refine (heldPoly_marks P D 1 _ hM hso (by decide) (by decide)).mono ?_); rintro e w14 ⟨rfl, hb14⟩)
    have K14 := K13.trans (hb14.mono K13.size)
    have hM14 := hM.below hb14
    have rb314 := rowIs_below rb313 hb14 rb313.lt
    have rG4 := rowIs_below rG3 K14 rG3.lt
    have rx4 := rowIs_below rx3 K14 rx3.lt
    have hS4 := hS3.below K14
    have hU4 := hU3.below K14
    clear q0 q1 q2 hM rb313 K13 hb14
    have KK := Lib.hid (fun w' (h : Below w14.heap.size w14 w') => show ((w'.cell? ⟨w.heap.size + 1, 0, none⟩ = some (.int .i64 q) ∧ w'.cell? ⟨w.heap.size + 1, 1, none⟩ = some (.int .i64 d) ∧ w'.cell? ⟨w.heap.size + 1, 2, none⟩ = some (.slice ua xs.length uc)) ∧ (w'.cell? ⟨w.heap.size, 0, none⟩ = some (.int .i64 p) ∧ w'.cell? ⟨w.heap.size, 1, none⟩ = some (.int .i64 n) ∧ w'.cell? ⟨w.heap.size, 2, none⟩ = some (.slice a L.length cap))) from ⟨(poly3 (rowIs_below rx4 h rx4.lt)).1, gcells (rowIs_below rG4 h rG4.lt)⟩)
    go_wp2_with fail
    go_cut [17, 18] (fun s6 s7 wx => ∃ B0 a3 c3, s6 = .pointer (some ⟨B0, 0, none⟩) ∧ s7 = .int .i64 c ∧ wx.rowIs B0 39 3 (polyF P D (.slice a3 S.length c3)) ∧ Below w14.heap.size w14 wx ∧ SliceT wx (.slice a3 S.length c3) S ∧ w14.heap.size ≤ B0)
    case first =>
      go_region_held3 (fun w' => ((w'.cell? ⟨w.heap.size + 1, 0, none⟩ = some (.int .i64 q) ∧ w'.cell? ⟨w.heap.size + 1, 1, none⟩ = some (.int .i64 d) ∧ w'.cell? ⟨w.heap.size + 1, 2, none⟩ = some (.slice ua xs.length uc)) ∧ (w'.cell? ⟨w.heap.size, 0, none⟩ = some (.int .i64 p) ∧ w'.cell? ⟨w.heap.size, 1, none⟩ = some (.int .i64 n) ∧ w'.cell? ⟨w.heap.size, 2, none⟩ = some (.slice a L.length cap))))
        (first | with_reducible exact KK.out _ (Below.same _).drew | with_reducible exact KK.out _ HB23 | with_reducible exact KK.out _ HB24 | with_reducible exact KK.out _ HB25 | with_reducible exact KK.out _ (box1 _ _).drew | with_reducible exact KK.out _ (HB23.trans ((box1 _ _).mono HB23.size)) | with_reducible exact KK.out _ (HB24.trans ((box1 _ _).mono HB24.size)) | with_reducible exact KK.out _ (HB25.trans ((box1 _ _).mono HB25.size)) | with_reducible exact KK.out _ (setL3 HB25 HB24.size _ _ _) | with_reducible exact KK.out _ (setL3 HB25 HB23.size _ _ _) | with_reducible exact KK.out _ (setL3 HB25 (Nat.le_refl _) _ _ _))
        (first
        | (go_at_call 15; (with_reducible refine (togrp p n _ L _ hl (by first | with_reducible exact hS4.below (Below.same _).drew | with_reducible exact hS4.below (box1 _ _).drew)).mono ?_); rintro e w23 ⟨v23, rfl, own23, hb23⟩; have HB23 : Below w14.heap.size w14 w23 := (by first | exact (Below.same _).drew.trans hb23 | with_reducible exact (box1 _ _).drew.trans (hb23.mono (by simp))); (first | (have Z23 : w23.rowIs w14.heap.size 39 3 (polyF 0 0 (.slice none 0 0)) := rowIs_below (zboxD w14) hb23 (by simp); (obtain ⟨⟨e230, e231, e232⟩, f230, f231, f232⟩ := poly3 Z23)) | skip))
        | (go_at_call 16; (with_reducible refine (toPoly_any q d _ xs _ hxl (by first | with_reducible exact hU4.below HB23 | with_reducible exact (hU4.below HB23).below (box1 _ _))).mono ?_); rintro e w24 ⟨v24, rfl, own24, hb24⟩; have H24 : Below w23.heap.size w23 w24 := (by first | exact hb24 | with_reducible exact (box1 _ _).trans (hb24.mono (by simp))); have HB24 : Below w14.heap.size w14 w24 := HB23.trans (H24.mono HB23.size); (first | (have Z24 : w24.rowIs w23.heap.size 39 3 (polyF 0 0 (.slice none 0 0)) := rowIs_below (zbox w23) hb24 (by simp); (obtain ⟨⟨e240, e241, e242⟩, f240, f241, f242⟩ := poly3 Z24)) | (have Z24 := rowIs_below Z23 H24 Z23.lt; (obtain ⟨⟨e240, e241, e242⟩, f240, f241, f242⟩ := poly3 Z24)) | skip))
        | (go_at_call 38; (with_reducible refine (HIM.out _ _ _ (by first | with_reducible exact own23.slice.below H24 | with_reducible exact (own23.slice.below H24).below (box1 _ _)) (by first | with_reducible exact own24.slice | with_reducible exact own24.slice.below (box1 _ _))).mono ?_); rintro e w25 ⟨v25, rfl, ho25, hb25⟩; have H25 : Below w24.heap.size w24 w25 := (by first | exact hb25 | with_reducible exact (box1 _ _).trans (hb25.mono (by simp))); have HB25 : Below w14.heap.size w14 w25 := HB24.trans (H25.mono HB24.size); (first | (have Z25 : w25.rowIs w24.heap.size 39 3 (polyF 0 0 (.slice none 0 0)) := rowIs_below (zbox w24) hb25 (by simp); (obtain ⟨⟨e250, e251, e252⟩, f250, f251, f252⟩ := poly3 Z25)) | (have Z25 := rowIs_below Z24 H25 Z24.lt; (obtain ⟨⟨e250, e251, e252⟩, f250, f251, f252⟩ := poly3 Z25)) | skip); simp only at ho25; (obtain ⟨sa, sc, rfl⟩ := owns_slice ho25); have hsl := OwnP.slice ho25))
      all_goals
        go_wp2_with fail
        go_meet
        first
          | exact ⟨w25.heap.size, sa, sc, rfl, rfl, World.rowIs_alloc w25 #[Value.int .i64 P, .int .i64 D, .slice sa S.length sc] _ _ (fun i hi => by simp at hi; match i, hi with | 0, _ => rfl | 1, _ => rfl | 2, _ => rfl), HB25.trans ((box1 _ _).mono HB25.size), hsl.below (box1 _ _), HB25.size⟩
          | exact ⟨w24.heap.size, sa, sc, rfl, rfl, (setB3 Z25 hsl P D).1, setL3 HB25 HB24.size _ _ _, (setB3 Z25 hsl P D).2, HB24.size⟩
          | exact ⟨w23.heap.size, sa, sc, rfl, rfl, (setB3 Z25 hsl P D).1, setL3 HB25 HB23.size _ _ _, (setB3 Z25 hsl P D).2, HB23.size⟩
          | exact ⟨w14.heap.size, sa, sc, rfl, rfl, (setB3 Z25 hsl P D).1, setL3 HB25 (Nat.le_refl _) _ _ _, (setB3 Z25 hsl P D).2, Nat.le_refl _⟩
    case rest =>
    rename World => w15
    obtain ⟨B3, a14, c14, rfl, rfl, rh, hb15, hs14, hB3⟩ := hcut
    have hM15 := hM14.below hb15
    have K15 := K14.trans (hb15.mono K14.size)
    have rb315 := rowIs_below rb314 hb15 rb314.lt
    clear KK rG4 rx4 hS4 hU4 hM14 K14 hb15 rb314
    obtain ⟨⟨q0, q1, q2⟩, _⟩ := poly3 rh
    obtain ⟨⟨k0', k1', k2'⟩, _⟩ := poly3 (rowIs_below rb0 K15 rb0.lt)
    go_wp2_with fail
    ((with_reducible refine (eqPoly_same P D _ _ S _ hso hs14 (hs3.below K15)).mono ?_); rintro e w16 ⟨rfl, hb16⟩)
    have hM16 := hM15.below hb16
    have K16 := K15.trans (hb16.mono K15.size)
    have rb316 := rowIs_below rb315 hb16 rb315.lt
    clear q0 q1 q2 k0' k1' k2' hM15 K15 hb16 rb315 rh hs14
    obtain ⟨⟨q0, q1, q2⟩, _⟩ := poly3 rb316
    go_wp2_with fail
    ((with_reducible refine (heldPoly_marks P D 1 _ hM16 hso (by decide) (by decide)).mono ?_); rintro e w17 ⟨rfl, hb17⟩)
    have hend := hbw3.trans ((K16.trans (hb17.mono K16.size)).mono hbw3.size)
    clear q0 q1 q2
    go_wp2
    go_ret
    exact ⟨rfl, hend⟩
end Go.Proofs.YtllklhakbanhaaaGreat
