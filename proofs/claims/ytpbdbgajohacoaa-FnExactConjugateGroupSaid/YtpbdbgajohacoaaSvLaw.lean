/-
  The law of 'FnExactConjugateGroup', walked. Conditions: as the theorem states.
-/
import Derived.Test.YtpbdbgajohacoaaSu
import Derived.Test.YtpbdbgajohacoaaJh
import Derived.Deep.RegionHeld3
import Derived.Deep.DeepCutAuto
namespace Go.Proofs.Ytpbdbgajohacoaa
open Go.RowKit Go.Sort EchM

theorem gbel_drew {w w' : World} (h : Below w.drew.heap.size w.drew w') : Below w.heap.size w w' := (Below.refl _ _).drew.trans h
theorem gbel_alloc {w w' : World} {o : Obj} (h : Below (w.alloc o).heap.size (w.alloc o) w') : Below w.heap.size w w' := (ebox1 _ _).trans (h.mono (by simp))
theorem gbel_drewalloc {w w' : World} {o : Obj} (h : Below (w.drew.alloc o).heap.size (w.drew.alloc o) w') : Below w.heap.size w w' := gbel_drew (gbel_alloc h)
theorem gbel_allocdrew {w w' : World} {o : Obj} (h : Below (w.alloc o).drew.heap.size (w.alloc o).drew w') : Below w.heap.size w w' := gbel_alloc (gbel_drew h)
theorem zgrp (w : World) : (w.alloc (.cells #[.int .i64 0, .int .i64 0, .slice none 0 0] 26)).rowIs w.heap.size 26 3 (grpF 0 0 (.slice none 0 0)) := gbox w 0 0 _ _
theorem zgrpD (w : World) : (w.alloc (.cells #[.int .i64 0, .int .i64 0, .slice none 0 0] 26)).drew.rowIs w.heap.size 26 3 (grpF 0 0 (.slice none 0 0)) := gbox w 0 0 _ _
theorem gset {w0 wz : World} {B base : Nat} {v : Value} {S : List (Nat → Nat → Int)} (ZR : wz.rowIs B 26 3 (grpF 0 0 (.slice none 0 0))) (hb : Below w0.heap.size w0 wz) (hB : w0.heap.size ≤ B) (ho : OwnG9 wz base v S) (P D : Int) :
    (((wz.setCell ⟨B, 0, none⟩ (.int .i64 P)).setCell ⟨B, 1, none⟩ (.int .i64 D)).setCell ⟨B, 2, none⟩ v).rowIs B 26 3 (grpF P D v) ∧ Below w0.heap.size w0 (((wz.setCell ⟨B, 0, none⟩ (.int .i64 P)).setCell ⟨B, 1, none⟩ (.int .i64 D)).setCell ⟨B, 2, none⟩ v) ∧ SlM (((wz.setCell ⟨B, 0, none⟩ (.int .i64 P)).setCell ⟨B, 1, none⟩ (.int .i64 D)).setCell ⟨B, 2, none⟩ v) v S := by
  have hne : v.ownBlock ≠ some B := by
    rcases mown_ne ZR ho (by decide) with e | e
    · rw [e]; simp
    · exact e
  refine ⟨(((ZR.set 0 (.int .i64 P)).set 1 (.int .i64 D)).set 2 v).congr fun i hi => ?_, ((hb.setCell (by simpa using hB) _).setCell (by simpa using hB) _).setCell (by simpa using hB) _, OwnG9.slice (mown_set (mown_set (mown_set ho _ _ _ hne) _ _ _ hne) _ _ _ hne)⟩
  match i, hi with | 0, _ => rfl | 1, _ => rfl | 2, _ => rfl
theorem cjO_len (p n : Int) (L : List (Nat → Nat → Int)) (g : Nat → Nat → Int) (hl : L.length ≤ 1048576) : (cjO p n L g).S.length ≤ 1048576 := by
  unfold cjO
  split
  · split
    · simp only [sortM_len, List.length_map]; exact hl
    · simp [noG]
  · simp [noG]

set_option maxRecDepth 8000 in
set_option maxHeartbeats 8000000 in
theorem law_conj (p n : Int) (v : Value) (L : List (Nat → Nat → Int)) (g : Nat → Nat → Int) (w : World) (hn : L.length ≤ 9223372036854775807) (hS : SlM w v L) (hby : ∀ x ∈ L, Byt x) (hgb : Byt g) :
    Calls Try.prog 8 #[.agg #[.int .i64 p, .int .i64 n, v], .agg #[.int .u8 (g 0 0), .int .u8 (g 0 1), .int .u8 (g 0 2), .int .u8 (g 1 0), .int .u8 (g 1 1), .int .u8 (g 1 2), .int .u8 (g 2 0), .int .u8 (g 2 1), .int .u8 (g 2 2)]] w fun e w' => e = .returned (.bool true) ∧ Below w.heap.size w w' := by
  obtain ⟨W, hW, rW, rM, hbW⟩ : ∃ W, W = (w.alloc (.cells #[.int .i64 p, .int .i64 n, v] 36)).alloc (.cells #[.int .u8 (g 0 0), .int .u8 (g 0 1), .int .u8 (g 0 2), .int .u8 (g 1 0), .int .u8 (g 1 1), .int .u8 (g 1 2), .int .u8 (g 2 0), .int .u8 (g 2 1), .int .u8 (g 2 2)] 53) ∧ W.rowIs w.heap.size 36 3 (grpF p n v) ∧ W.rowIs (w.heap.size + 1) 53 9 (mF g) ∧ Below w.heap.size w W := by
    refine ⟨_, rfl, (gbox w p n v _).alloc _, ?_, ebox2 _ _ _⟩
    have := mbox (w.alloc (.cells #[.int .i64 p, .int .i64 n, v] 36)) g 53
    rwa [World.size_alloc] at this
  have hSW := hS.below hbW
  obtain ⟨a, cap, rfl, _⟩ := id hS
  obtain ⟨y0, y1, y2⟩ := gcells rW
  have HBY := Lib.hid hby
  clear hby
  by_cases hbig : 1048576 < L.length
  · go_enter Try.func8, Try.ntmps8
    go_wp2_with fail
    rw [← hW]
    clear hW
    ((with_reducible refine (szgrp_no p n a L.length cap _ hbig hn).mono ?_); rintro e w1 ⟨rfl, hb1⟩)
    go_wp2_with fail
    go_ret
    exact ⟨rfl, hbW.trans (hb1.mono hbW.size)⟩
  have hl : L.length ≤ 1048576 := by omega
  have hpos : ¬ (1048576 - (L.length : Int)) < 0 := by omega
  clear hbig
  have hso : (cjO p n L g).S.length ≤ 1048576 := cjO_len p n L g hl
  have hspec := fun v' w' h' => scj p n v' L g w' hl h' HBY.out hgb
  have himpl := fun v' w' h' => icj p n v' L g w' hl h' HBY.out hgb
  generalize cjO p n L g = o at hso hspec himpl
  obtain ⟨P, D, S, c⟩ := o
  simp only at hso
  have HSP := Lib.hid hspec
  have HIM := Lib.hid himpl
  clear hspec himpl hgb
  go_enter Try.func8, Try.ntmps8
  go_wp2_with fail
  rw [← hW]
  clear hW
  ((with_reducible refine (szgrp_ok p n a L.length cap _ hl).mono ?_); rintro e w1 ⟨rfl, hb1⟩)
  have r1 := erow_below rW hb1 rW.lt
  have rm1 := erow_below rM hb1 rM.lt
  have hS1 := hSW.below hb1
  have hbw1 := hbW.trans (hb1.mono hbW.size)
  clear y0 y1 y2 rW rM hSW hbW hb1
  have KKh := Lib.hid (fun w' (h : Below w1.heap.size w1 w') => show (w'.cell? ⟨w.heap.size, 0, none⟩ = some (.int .i64 p) ∧ w'.cell? ⟨w.heap.size, 1, none⟩ = some (.int .i64 n) ∧ w'.cell? ⟨w.heap.size, 2, none⟩ = some (.slice a L.length cap)) ∧ ((w'.cell? ⟨w.heap.size + 1, 0, none⟩ = some (.int .u8 (g 0 0)) ∧ w'.cell? ⟨w.heap.size + 1, 1, none⟩ = some (.int .u8 (g 0 1)) ∧ w'.cell? ⟨w.heap.size + 1, 2, none⟩ = some (.int .u8 (g 0 2))) ∧ (w'.cell? ⟨w.heap.size + 1, 3, none⟩ = some (.int .u8 (g 1 0)) ∧ w'.cell? ⟨w.heap.size + 1, 4, none⟩ = some (.int .u8 (g 1 1)) ∧ w'.cell? ⟨w.heap.size + 1, 5, none⟩ = some (.int .u8 (g 1 2))) ∧ (w'.cell? ⟨w.heap.size + 1, 6, none⟩ = some (.int .u8 (g 2 0)) ∧ w'.cell? ⟨w.heap.size + 1, 7, none⟩ = some (.int .u8 (g 2 1)) ∧ w'.cell? ⟨w.heap.size + 1, 8, none⟩ = some (.int .u8 (g 2 2)))) from ⟨gcells (erow_below r1 h r1.lt), mcells (erow_below rm1 h rm1.lt)⟩)
  have KOh := Lib.hid (fun w' (h : Below w1.heap.size w1 w') o => show ((w'.alloc o).cell? ⟨w.heap.size, 0, none⟩ = some (.int .i64 p) ∧ (w'.alloc o).cell? ⟨w.heap.size, 1, none⟩ = some (.int .i64 n) ∧ (w'.alloc o).cell? ⟨w.heap.size, 2, none⟩ = some (.slice a L.length cap)) ∧ (((w'.alloc o).cell? ⟨w.heap.size + 1, 0, none⟩ = some (.int .u8 (g 0 0)) ∧ (w'.alloc o).cell? ⟨w.heap.size + 1, 1, none⟩ = some (.int .u8 (g 0 1)) ∧ (w'.alloc o).cell? ⟨w.heap.size + 1, 2, none⟩ = some (.int .u8 (g 0 2))) ∧ ((w'.alloc o).cell? ⟨w.heap.size + 1, 3, none⟩ = some (.int .u8 (g 1 0)) ∧ (w'.alloc o).cell? ⟨w.heap.size + 1, 4, none⟩ = some (.int .u8 (g 1 1)) ∧ (w'.alloc o).cell? ⟨w.heap.size + 1, 5, none⟩ = some (.int .u8 (g 1 2))) ∧ ((w'.alloc o).cell? ⟨w.heap.size + 1, 6, none⟩ = some (.int .u8 (g 2 0)) ∧ (w'.alloc o).cell? ⟨w.heap.size + 1, 7, none⟩ = some (.int .u8 (g 2 1)) ∧ (w'.alloc o).cell? ⟨w.heap.size + 1, 8, none⟩ = some (.int .u8 (g 2 2)))) from KKh.out _ (h.trans ((ebox1 w' o).mono h.size)))
  have KSh := Lib.hid (fun w' B u0 u1 u2 (h : Below w1.heap.size w1 w') (hB : w1.heap.size ≤ B) => show ((((w'.setCell ⟨B, 0, none⟩ u0).setCell ⟨B, 1, none⟩ u1).setCell ⟨B, 2, none⟩ u2).cell? ⟨w.heap.size, 0, none⟩ = some (.int .i64 p) ∧ (((w'.setCell ⟨B, 0, none⟩ u0).setCell ⟨B, 1, none⟩ u1).setCell ⟨B, 2, none⟩ u2).cell? ⟨w.heap.size, 1, none⟩ = some (.int .i64 n) ∧ (((w'.setCell ⟨B, 0, none⟩ u0).setCell ⟨B, 1, none⟩ u1).setCell ⟨B, 2, none⟩ u2).cell? ⟨w.heap.size, 2, none⟩ = some (.slice a L.length cap)) ∧ (((((w'.setCell ⟨B, 0, none⟩ u0).setCell ⟨B, 1, none⟩ u1).setCell ⟨B, 2, none⟩ u2).cell? ⟨w.heap.size + 1, 0, none⟩ = some (.int .u8 (g 0 0)) ∧ (((w'.setCell ⟨B, 0, none⟩ u0).setCell ⟨B, 1, none⟩ u1).setCell ⟨B, 2, none⟩ u2).cell? ⟨w.heap.size + 1, 1, none⟩ = some (.int .u8 (g 0 1)) ∧ (((w'.setCell ⟨B, 0, none⟩ u0).setCell ⟨B, 1, none⟩ u1).setCell ⟨B, 2, none⟩ u2).cell? ⟨w.heap.size + 1, 2, none⟩ = some (.int .u8 (g 0 2))) ∧ ((((w'.setCell ⟨B, 0, none⟩ u0).setCell ⟨B, 1, none⟩ u1).setCell ⟨B, 2, none⟩ u2).cell? ⟨w.heap.size + 1, 3, none⟩ = some (.int .u8 (g 1 0)) ∧ (((w'.setCell ⟨B, 0, none⟩ u0).setCell ⟨B, 1, none⟩ u1).setCell ⟨B, 2, none⟩ u2).cell? ⟨w.heap.size + 1, 4, none⟩ = some (.int .u8 (g 1 1)) ∧ (((w'.setCell ⟨B, 0, none⟩ u0).setCell ⟨B, 1, none⟩ u1).setCell ⟨B, 2, none⟩ u2).cell? ⟨w.heap.size + 1, 5, none⟩ = some (.int .u8 (g 1 2))) ∧ ((((w'.setCell ⟨B, 0, none⟩ u0).setCell ⟨B, 1, none⟩ u1).setCell ⟨B, 2, none⟩ u2).cell? ⟨w.heap.size + 1, 6, none⟩ = some (.int .u8 (g 2 0)) ∧ (((w'.setCell ⟨B, 0, none⟩ u0).setCell ⟨B, 1, none⟩ u1).setCell ⟨B, 2, none⟩ u2).cell? ⟨w.heap.size + 1, 7, none⟩ = some (.int .u8 (g 2 1)) ∧ (((w'.setCell ⟨B, 0, none⟩ u0).setCell ⟨B, 1, none⟩ u1).setCell ⟨B, 2, none⟩ u2).cell? ⟨w.heap.size + 1, 8, none⟩ = some (.int .u8 (g 2 2)))) from KKh.out _ (((h.setCell (by simpa using hB) _).setCell (by simpa using hB) _).setCell (by simpa using hB) _))
  go_upto_region 5 with fail
  go_cut [6, 7] (fun s8 s9 wx => ∃ B0 a3 c3, s8 = .pointer (some ⟨B0, 0, none⟩) ∧ s9 = .int .i64 c ∧ wx.rowIs B0 26 3 (grpF P D (.slice a3 S.length c3)) ∧ Below w1.heap.size w1 wx ∧ SlM wx (.slice a3 S.length c3) S)
  case first =>
    go_region_held3 (fun w' => (w'.cell? ⟨w.heap.size, 0, none⟩ = some (.int .i64 p) ∧ w'.cell? ⟨w.heap.size, 1, none⟩ = some (.int .i64 n) ∧ w'.cell? ⟨w.heap.size, 2, none⟩ = some (.slice a L.length cap)) ∧ ((w'.cell? ⟨w.heap.size + 1, 0, none⟩ = some (.int .u8 (g 0 0)) ∧ w'.cell? ⟨w.heap.size + 1, 1, none⟩ = some (.int .u8 (g 0 1)) ∧ w'.cell? ⟨w.heap.size + 1, 2, none⟩ = some (.int .u8 (g 0 2))) ∧ (w'.cell? ⟨w.heap.size + 1, 3, none⟩ = some (.int .u8 (g 1 0)) ∧ w'.cell? ⟨w.heap.size + 1, 4, none⟩ = some (.int .u8 (g 1 1)) ∧ w'.cell? ⟨w.heap.size + 1, 5, none⟩ = some (.int .u8 (g 1 2))) ∧ (w'.cell? ⟨w.heap.size + 1, 6, none⟩ = some (.int .u8 (g 2 0)) ∧ w'.cell? ⟨w.heap.size + 1, 7, none⟩ = some (.int .u8 (g 2 1)) ∧ w'.cell? ⟨w.heap.size + 1, 8, none⟩ = some (.int .u8 (g 2 2)))))
      (first | with_reducible exact KKh.out _ (Below.refl _ _).drew | with_reducible exact KKh.out _ (Below.refl _ _) | with_reducible exact KOh.out _ (Below.refl _ _) _ | with_reducible exact KOh.out _ (Below.refl _ _).drew _ | with_reducible exact KKh.out _ (ebox1 _ _).drew | with_reducible exact KKh.out _ HB13 | with_reducible exact KOh.out _ HB13 _ | with_reducible exact KKh.out _ HB14 | with_reducible exact KOh.out _ HB14 _ | with_reducible exact KKh.out _ HB15 | with_reducible exact KOh.out _ HB15 _ | with_reducible exact KSh.out _ _ _ _ _ HB15 HB14.size | with_reducible exact KSh.out _ _ _ _ _ HB15 HB13.size | with_reducible exact KSh.out _ _ _ _ _ HB15 (Nat.le_refl _))
      (first
      | (go_at_call 20; (with_reducible refine (togrp p n _ L _ hl (by first | with_reducible exact hS1.below (Below.refl _ _).drew | with_reducible exact hS1.below (ebox1 _ _).drew)).mono ?_); rintro e w13 ⟨v13, rfl, own13, hb13⟩; have H13 : Below w1.heap.size w1 w13 := (by first | with_reducible exact gbel_drew hb13 | with_reducible exact gbel_drewalloc hb13 | with_reducible exact gbel_allocdrew hb13 | with_reducible exact gbel_alloc hb13); have HB13 := H13; (first | (have ZR13 : w13.rowIs w1.heap.size 26 3 (grpF 0 0 (.slice none 0 0)) := erow_below (zgrpD w1) hb13 (by simp); obtain ⟨e130, e131, e132⟩ := gcells ZR13; have f130 := ZR13.frozen 0; have f131 := ZR13.frozen 1; have f132 := ZR13.frozen 2) | skip))
      | (go_at_call 35; (with_reducible refine (tomat_agg g _).mono ?_); rintro e w14 ⟨rfl, hb14⟩; have H14 : Below w13.heap.size w13 w14 := (by first | with_reducible exact hb14 | with_reducible exact gbel_alloc hb14); have HB14 := HB13.trans (H14.mono HB13.size); (first | (have ZR14 : w14.rowIs w13.heap.size 26 3 (grpF 0 0 (.slice none 0 0)) := erow_below (zgrp w13) hb14 (by simp); obtain ⟨e140, e141, e142⟩ := gcells ZR14; have f140 := ZR14.frozen 0; have f141 := ZR14.frozen 1; have f142 := ZR14.frozen 2) | (have ZR14 := erow_below ZR13 H14 ZR13.lt; obtain ⟨e140, e141, e142⟩ := gcells ZR14; have f140 := ZR14.frozen 0; have f141 := ZR14.frozen 1; have f142 := ZR14.frozen 2) | skip))
      | (go_at_call 34; (with_reducible refine (HSP.out _ _ (by first | with_reducible exact own13.slice.below H14 | with_reducible exact (own13.slice.below H14).below (ebox1 _ _))).mono ?_); rintro e w15 ⟨v15, rfl, own15, hb15⟩; have H15 : Below w14.heap.size w14 w15 := (by first | with_reducible exact hb15 | with_reducible exact gbel_alloc hb15); have HB15 := HB14.trans (H15.mono HB14.size); (first | (have ZR15 : w15.rowIs w14.heap.size 26 3 (grpF 0 0 (.slice none 0 0)) := erow_below (zgrp w14) hb15 (by simp); obtain ⟨e150, e151, e152⟩ := gcells ZR15; have f150 := ZR15.frozen 0; have f151 := ZR15.frozen 1; have f152 := ZR15.frozen 2) | (have ZR15 := erow_below ZR14 H15 ZR14.lt; obtain ⟨e150, e151, e152⟩ := gcells ZR15; have f150 := ZR15.frozen 0; have f151 := ZR15.frozen 1; have f152 := ZR15.frozen 2) | skip); simp only at own15; obtain ⟨sa15, sc15, rfl⟩ := OwnG9.shape own15))
    all_goals
      go_wp2_with fail
      go_meet
      first
        | exact ⟨w15.heap.size, sa15, sc15, rfl, rfl, gbox w15 P D _ _, HB15.trans ((ebox1 _ _).mono HB15.size), (OwnG9.slice own15).below (ebox1 _ _)⟩
        | exact ⟨w14.heap.size, sa15, sc15, rfl, rfl, (gset ZR15 HB15 HB14.size own15 P D).1, (gset ZR15 HB15 HB14.size own15 P D).2.1, (gset ZR15 HB15 HB14.size own15 P D).2.2⟩
        | exact ⟨w13.heap.size, sa15, sc15, rfl, rfl, (gset ZR15 HB15 HB13.size own15 P D).1, (gset ZR15 HB15 HB13.size own15 P D).2.1, (gset ZR15 HB15 HB13.size own15 P D).2.2⟩
        | exact ⟨w1.heap.size, sa15, sc15, rfl, rfl, (gset ZR15 HB15 (Nat.le_refl _) own15 P D).1, (gset ZR15 HB15 (Nat.le_refl _) own15 P D).2.1, (gset ZR15 HB15 (Nat.le_refl _) own15 P D).2.2⟩
  case rest =>
    rename World => w2
    obtain ⟨B0, a3, c3, rfl, rfl, rb0, hb2, hs3⟩ := hcut
    clear KKh KOh KSh
    have r2 := erow_below r1 hb2 r1.lt
    have rm2 := erow_below rm1 hb2 rm1.lt
    have hS2 := hS1.below hb2
    have hbw2 := hbw1.trans (hb2.mono hbw1.size)
    clear r1 rm1 hS1 hbw1 hb2
    obtain ⟨y0, y1, y2⟩ := gcells r2
    go_wp2_with fail
    ((with_reducible refine (togrp p n _ L _ hl hS2).mono ?_); rintro e w4 ⟨v4, rfl, own4, hb4⟩)
    obtain ⟨g4, f4, hv4, _⟩ := id own4
    subst hv4
    obtain ⟨V4, hV4, rb1, hbV4⟩ : ∃ V, V = w4.alloc (.cells #[.int .i64 p, .int .i64 n, .slice (some ⟨g4, 0, none⟩) L.length L.length] 26) ∧ V.rowIs w4.heap.size 26 3 (grpF p n (.slice (some ⟨g4, 0, none⟩) L.length L.length)) ∧ Below w4.heap.size w4 V := ⟨_, rfl, gbox w4 p n _ _, ebox1 _ _⟩
    have hb2V := hb4.trans (hbV4.mono hb4.size)
    have hs4 := own4.slice.below hbV4
    have r4 := erow_below r2 hb2V r2.lt
    have rm4 := erow_below rm2 hb2V rm2.lt
    have rb0' := erow_below rb0 hb2V rb0.lt
    have hS4 := hS2.below hb2V
    have hs3' := hs3.below hb2V
    have hbw4 := hbw2.trans (hb2V.mono hbw2.size)
    clear y0 y1 y2 r2 rm2 rb0 hS2 hs3 hbw2 hb4 hbV4 hb2V own4
    go_wp2_with fail
    rw [← hV4]
    clear hV4
    have KKh := Lib.hid (fun w' (h : Below V4.heap.size V4 w') => show (w'.cell? ⟨w.heap.size, 0, none⟩ = some (.int .i64 p) ∧ w'.cell? ⟨w.heap.size, 1, none⟩ = some (.int .i64 n) ∧ w'.cell? ⟨w.heap.size, 2, none⟩ = some (.slice a L.length cap)) ∧ ((w'.cell? ⟨w.heap.size + 1, 0, none⟩ = some (.int .u8 (g 0 0)) ∧ w'.cell? ⟨w.heap.size + 1, 1, none⟩ = some (.int .u8 (g 0 1)) ∧ w'.cell? ⟨w.heap.size + 1, 2, none⟩ = some (.int .u8 (g 0 2))) ∧ (w'.cell? ⟨w.heap.size + 1, 3, none⟩ = some (.int .u8 (g 1 0)) ∧ w'.cell? ⟨w.heap.size + 1, 4, none⟩ = some (.int .u8 (g 1 1)) ∧ w'.cell? ⟨w.heap.size + 1, 5, none⟩ = some (.int .u8 (g 1 2))) ∧ (w'.cell? ⟨w.heap.size + 1, 6, none⟩ = some (.int .u8 (g 2 0)) ∧ w'.cell? ⟨w.heap.size + 1, 7, none⟩ = some (.int .u8 (g 2 1)) ∧ w'.cell? ⟨w.heap.size + 1, 8, none⟩ = some (.int .u8 (g 2 2)))) ∧ (w'.cell? ⟨w4.heap.size, 0, none⟩ = some (.int .i64 p) ∧ w'.cell? ⟨w4.heap.size, 1, none⟩ = some (.int .i64 n) ∧ w'.cell? ⟨w4.heap.size, 2, none⟩ = some (.slice (some ⟨g4, 0, none⟩) L.length L.length)) from ⟨gcells (erow_below r4 h r4.lt), mcells (erow_below rm4 h rm4.lt), gcells (erow_below rb1 h rb1.lt)⟩)
    have KOh := Lib.hid (fun w' (h : Below V4.heap.size V4 w') o => show ((w'.alloc o).cell? ⟨w.heap.size, 0, none⟩ = some (.int .i64 p) ∧ (w'.alloc o).cell? ⟨w.heap.size, 1, none⟩ = some (.int .i64 n) ∧ (w'.alloc o).cell? ⟨w.heap.size, 2, none⟩ = some (.slice a L.length cap)) ∧ (((w'.alloc o).cell? ⟨w.heap.size + 1, 0, none⟩ = some (.int .u8 (g 0 0)) ∧ (w'.alloc o).cell? ⟨w.heap.size + 1, 1, none⟩ = some (.int .u8 (g 0 1)) ∧ (w'.alloc o).cell? ⟨w.heap.size + 1, 2, none⟩ = some (.int .u8 (g 0 2))) ∧ ((w'.alloc o).cell? ⟨w.heap.size + 1, 3, none⟩ = some (.int .u8 (g 1 0)) ∧ (w'.alloc o).cell? ⟨w.heap.size + 1, 4, none⟩ = some (.int .u8 (g 1 1)) ∧ (w'.alloc o).cell? ⟨w.heap.size + 1, 5, none⟩ = some (.int .u8 (g 1 2))) ∧ ((w'.alloc o).cell? ⟨w.heap.size + 1, 6, none⟩ = some (.int .u8 (g 2 0)) ∧ (w'.alloc o).cell? ⟨w.heap.size + 1, 7, none⟩ = some (.int .u8 (g 2 1)) ∧ (w'.alloc o).cell? ⟨w.heap.size + 1, 8, none⟩ = some (.int .u8 (g 2 2)))) ∧ ((w'.alloc o).cell? ⟨w4.heap.size, 0, none⟩ = some (.int .i64 p) ∧ (w'.alloc o).cell? ⟨w4.heap.size, 1, none⟩ = some (.int .i64 n) ∧ (w'.alloc o).cell? ⟨w4.heap.size, 2, none⟩ = some (.slice (some ⟨g4, 0, none⟩) L.length L.length)) from KKh.out _ (h.trans ((ebox1 w' o).mono h.size)))
    have KSh := Lib.hid (fun w' B u0 u1 u2 (h : Below V4.heap.size V4 w') (hB : V4.heap.size ≤ B) => show ((((w'.setCell ⟨B, 0, none⟩ u0).setCell ⟨B, 1, none⟩ u1).setCell ⟨B, 2, none⟩ u2).cell? ⟨w.heap.size, 0, none⟩ = some (.int .i64 p) ∧ (((w'.setCell ⟨B, 0, none⟩ u0).setCell ⟨B, 1, none⟩ u1).setCell ⟨B, 2, none⟩ u2).cell? ⟨w.heap.size, 1, none⟩ = some (.int .i64 n) ∧ (((w'.setCell ⟨B, 0, none⟩ u0).setCell ⟨B, 1, none⟩ u1).setCell ⟨B, 2, none⟩ u2).cell? ⟨w.heap.size, 2, none⟩ = some (.slice a L.length cap)) ∧ (((((w'.setCell ⟨B, 0, none⟩ u0).setCell ⟨B, 1, none⟩ u1).setCell ⟨B, 2, none⟩ u2).cell? ⟨w.heap.size + 1, 0, none⟩ = some (.int .u8 (g 0 0)) ∧ (((w'.setCell ⟨B, 0, none⟩ u0).setCell ⟨B, 1, none⟩ u1).setCell ⟨B, 2, none⟩ u2).cell? ⟨w.heap.size + 1, 1, none⟩ = some (.int .u8 (g 0 1)) ∧ (((w'.setCell ⟨B, 0, none⟩ u0).setCell ⟨B, 1, none⟩ u1).setCell ⟨B, 2, none⟩ u2).cell? ⟨w.heap.size + 1, 2, none⟩ = some (.int .u8 (g 0 2))) ∧ ((((w'.setCell ⟨B, 0, none⟩ u0).setCell ⟨B, 1, none⟩ u1).setCell ⟨B, 2, none⟩ u2).cell? ⟨w.heap.size + 1, 3, none⟩ = some (.int .u8 (g 1 0)) ∧ (((w'.setCell ⟨B, 0, none⟩ u0).setCell ⟨B, 1, none⟩ u1).setCell ⟨B, 2, none⟩ u2).cell? ⟨w.heap.size + 1, 4, none⟩ = some (.int .u8 (g 1 1)) ∧ (((w'.setCell ⟨B, 0, none⟩ u0).setCell ⟨B, 1, none⟩ u1).setCell ⟨B, 2, none⟩ u2).cell? ⟨w.heap.size + 1, 5, none⟩ = some (.int .u8 (g 1 2))) ∧ ((((w'.setCell ⟨B, 0, none⟩ u0).setCell ⟨B, 1, none⟩ u1).setCell ⟨B, 2, none⟩ u2).cell? ⟨w.heap.size + 1, 6, none⟩ = some (.int .u8 (g 2 0)) ∧ (((w'.setCell ⟨B, 0, none⟩ u0).setCell ⟨B, 1, none⟩ u1).setCell ⟨B, 2, none⟩ u2).cell? ⟨w.heap.size + 1, 7, none⟩ = some (.int .u8 (g 2 1)) ∧ (((w'.setCell ⟨B, 0, none⟩ u0).setCell ⟨B, 1, none⟩ u1).setCell ⟨B, 2, none⟩ u2).cell? ⟨w.heap.size + 1, 8, none⟩ = some (.int .u8 (g 2 2)))) ∧ ((((w'.setCell ⟨B, 0, none⟩ u0).setCell ⟨B, 1, none⟩ u1).setCell ⟨B, 2, none⟩ u2).cell? ⟨w4.heap.size, 0, none⟩ = some (.int .i64 p) ∧ (((w'.setCell ⟨B, 0, none⟩ u0).setCell ⟨B, 1, none⟩ u1).setCell ⟨B, 2, none⟩ u2).cell? ⟨w4.heap.size, 1, none⟩ = some (.int .i64 n) ∧ (((w'.setCell ⟨B, 0, none⟩ u0).setCell ⟨B, 1, none⟩ u1).setCell ⟨B, 2, none⟩ u2).cell? ⟨w4.heap.size, 2, none⟩ = some (.slice (some ⟨g4, 0, none⟩) L.length L.length)) from KKh.out _ (((h.setCell (by simpa using hB) _).setCell (by simpa using hB) _).setCell (by simpa using hB) _))
    go_upto_region 7 with fail
    go_cut [9, 10] (fun s8 s9 wx => ∃ B0 a3 c3, s8 = .pointer (some ⟨B0, 0, none⟩) ∧ s9 = .int .i64 c ∧ wx.rowIs B0 26 3 (grpF P D (.slice a3 S.length c3)) ∧ Below V4.heap.size V4 wx ∧ SlM wx (.slice a3 S.length c3) S)
    case first =>
      go_region_held3 (fun w' => (w'.cell? ⟨w.heap.size, 0, none⟩ = some (.int .i64 p) ∧ w'.cell? ⟨w.heap.size, 1, none⟩ = some (.int .i64 n) ∧ w'.cell? ⟨w.heap.size, 2, none⟩ = some (.slice a L.length cap)) ∧ ((w'.cell? ⟨w.heap.size + 1, 0, none⟩ = some (.int .u8 (g 0 0)) ∧ w'.cell? ⟨w.heap.size + 1, 1, none⟩ = some (.int .u8 (g 0 1)) ∧ w'.cell? ⟨w.heap.size + 1, 2, none⟩ = some (.int .u8 (g 0 2))) ∧ (w'.cell? ⟨w.heap.size + 1, 3, none⟩ = some (.int .u8 (g 1 0)) ∧ w'.cell? ⟨w.heap.size + 1, 4, none⟩ = some (.int .u8 (g 1 1)) ∧ w'.cell? ⟨w.heap.size + 1, 5, none⟩ = some (.int .u8 (g 1 2))) ∧ (w'.cell? ⟨w.heap.size + 1, 6, none⟩ = some (.int .u8 (g 2 0)) ∧ w'.cell? ⟨w.heap.size + 1, 7, none⟩ = some (.int .u8 (g 2 1)) ∧ w'.cell? ⟨w.heap.size + 1, 8, none⟩ = some (.int .u8 (g 2 2)))) ∧ (w'.cell? ⟨w4.heap.size, 0, none⟩ = some (.int .i64 p) ∧ w'.cell? ⟨w4.heap.size, 1, none⟩ = some (.int .i64 n) ∧ w'.cell? ⟨w4.heap.size, 2, none⟩ = some (.slice (some ⟨g4, 0, none⟩) L.length L.length)))
        (first | with_reducible exact KKh.out _ (Below.refl _ _).drew | with_reducible exact KKh.out _ (Below.refl _ _) | with_reducible exact KOh.out _ (Below.refl _ _) _ | with_reducible exact KOh.out _ (Below.refl _ _).drew _ | with_reducible exact KKh.out _ (ebox1 _ _).drew | with_reducible exact KKh.out _ HB17 | with_reducible exact KOh.out _ HB17 _ | with_reducible exact KKh.out _ HB18 | with_reducible exact KOh.out _ HB18 _ | with_reducible exact KSh.out _ _ _ _ _ HB18 HB17.size | with_reducible exact KSh.out _ _ _ _ _ HB18 (Nat.le_refl _))
        (first
        | (go_at_call 35; (with_reducible refine (tomat_agg g _).mono ?_); rintro e w17 ⟨rfl, hb17⟩; have H17 : Below V4.heap.size V4 w17 := (by first | with_reducible exact gbel_drew hb17 | with_reducible exact gbel_drewalloc hb17 | with_reducible exact gbel_allocdrew hb17 | with_reducible exact gbel_alloc hb17); have HB17 := H17; (first | (have ZR17 : w17.rowIs V4.heap.size 26 3 (grpF 0 0 (.slice none 0 0)) := erow_below (zgrpD V4) hb17 (by simp); obtain ⟨e170, e171, e172⟩ := gcells ZR17; have f170 := ZR17.frozen 0; have f171 := ZR17.frozen 1; have f172 := ZR17.frozen 2) | skip))
        | (go_at_call 36; (with_reducible refine (HIM.out _ _ (by first | with_reducible exact hs4.below HB17 | with_reducible exact (hs4.below HB17).below (ebox1 _ _))).mono ?_); rintro e w18 ⟨v18, rfl, own18, hb18⟩; have H18 : Below w17.heap.size w17 w18 := (by first | with_reducible exact hb18 | with_reducible exact gbel_alloc hb18); have HB18 := HB17.trans (H18.mono HB17.size); (first | (have ZR18 : w18.rowIs w17.heap.size 26 3 (grpF 0 0 (.slice none 0 0)) := erow_below (zgrp w17) hb18 (by simp); obtain ⟨e180, e181, e182⟩ := gcells ZR18; have f180 := ZR18.frozen 0; have f181 := ZR18.frozen 1; have f182 := ZR18.frozen 2) | (have ZR18 := erow_below ZR17 H18 ZR17.lt; obtain ⟨e180, e181, e182⟩ := gcells ZR18; have f180 := ZR18.frozen 0; have f181 := ZR18.frozen 1; have f182 := ZR18.frozen 2) | skip); simp only at own18; obtain ⟨sa18, sc18, rfl⟩ := OwnG9.shape own18))
      all_goals
        go_wp2_with fail
        go_meet
        first
          | exact ⟨w18.heap.size, sa18, sc18, rfl, rfl, gbox w18 P D _ _, HB18.trans ((ebox1 _ _).mono HB18.size), (OwnG9.slice own18).below (ebox1 _ _)⟩
          | exact ⟨w17.heap.size, sa18, sc18, rfl, rfl, (gset ZR18 HB18 HB17.size own18 P D).1, (gset ZR18 HB18 HB17.size own18 P D).2.1, (gset ZR18 HB18 HB17.size own18 P D).2.2⟩
          | exact ⟨V4.heap.size, sa18, sc18, rfl, rfl, (gset ZR18 HB18 (Nat.le_refl _) own18 P D).1, (gset ZR18 HB18 (Nat.le_refl _) own18 P D).2.1, (gset ZR18 HB18 (Nat.le_refl _) own18 P D).2.2⟩
    case rest =>
      rename World => w5
      obtain ⟨B2, a5, c5, rfl, rfl, rb2, hb5, hs5⟩ := hcut
      clear KKh KOh KSh
      have st : GLaw w w5 w.heap.size B0 w4.heap.size B2 p n P D (.slice a L.length cap) (.slice a3 S.length c3) (.slice (some ⟨g4, 0, none⟩) L.length L.length) (.slice a5 S.length c5) L S :=
        ⟨erow_below r4 hb5 r4.lt, erow_below rb0' hb5 rb0'.lt, erow_below rb1 hb5 rb1.lt, rb2, hS4.below hb5, hs3'.below hb5, hs4.below hb5, hs5, hbw4.trans (hb5.mono hbw4.size)⟩
      have rm5 := erow_below rm4 hb5 rm4.lt
      have hcc : (c != c) = false := by simp
      have hkk : ((1 : Int) != 1) = false := rfl
      clear r4 rm4 rb0' rb1 rb2 hS4 hs3' hs4 hs5 hbw4 hb5
      obtain ⟨q0, q1, q2⟩ := gcells st.b2
      obtain ⟨k0, k1, k2⟩ := gcells st.b0
      go_wp2_with fail
      ((with_reducible refine (eqgrp P D _ _ S _ hso st.s5 st.s3).mono ?_); rintro e w6 ⟨rfl, hb6⟩)
      have st6 := st.on (hb6.drew)
      have st6w := st.on hb6
      have rmw := erow_below rm5 hb6 rm5.lt
      have rm6 : w6.drew.rowIs (w.heap.size + 1) 53 9 (mF g) := erow_below rm5 (hb6.drew) rm5.lt
      clear q0 q1 q2 k0 k1 k2
      obtain ⟨y0, y1, y2⟩ := gcells (st.on hb6).ax
      obtain ⟨t0, t1, t2⟩ := gcells (st.on hb6).b1
      have hz6 := st6.b1.lt
      have hA6 := st6.sa
      have hX6 := st6.s4
      obtain ⟨T0, T1, T2⟩ := gcells st6.b1
      clear st rm5 hb6
      have stw := st6w
      go_wp2_with fail
      go_cut [51] (fun s51 wx => s51 = .bool false ∧ Below w6.heap.size w6 wx)
      case first =>
        go_region_with (first
          | (go_at_call 20; (with_reducible refine (togrp p n _ L _ hl hA6).mono ?_); rintro e w7 ⟨v7, rfl, own7, hb7⟩; have Q0 := (hb7.cell (p := ⟨w4.heap.size, 0, none⟩) hz6).trans T0; have Q1 := (hb7.cell (p := ⟨w4.heap.size, 1, none⟩) hz6).trans T1; have Q2 := (hb7.cell (p := ⟨w4.heap.size, 2, none⟩) hz6).trans T2)
          | (go_at_call 13; (with_reducible refine (eqgrp p n _ _ L _ hl (hX6.below hb7) own7.slice).mono ?_); rintro e w8 ⟨rfl, hb8⟩))
        all_goals
          go_wp2_with fail
          go_meet
          exact ⟨rfl, (Below.refl _ _).drew.trans (hb7.trans (hb8.mono hb7.size))⟩
      case rest =>
        rename World => w8
        obtain ⟨rfl, hb8⟩ := hcut
        have st8 := stw.on hb8
        have rm8 := erow_below rmw hb8 rmw.lt
        clear y0 y1 y2 t0 t1 t2 T0 T1 T2 st6 stw st6w rm6 rmw hA6 hz6 hX6 hb8
        obtain ⟨t0, t1, t2⟩ := gcells st8.b1
        go_wp2_with fail
        ((with_reducible refine (markgrp p n _ _ _ 1 _ hl).mono ?_); rintro e w9 ⟨rfl, hb9⟩)
        have st9 := st8.on hb9
        have rm9 := erow_below rm8 hb9 rm8.lt
        clear t0 t1 t2 st8 rm8 hb9
        obtain ⟨q0, q1, q2⟩ := gcells st9.b2
        obtain ⟨k0, k1, k2⟩ := gcells st9.b0
        go_wp2_with fail
        ((with_reducible refine (eqgrp P D _ _ S _ hso st9.s5 st9.s3).mono ?_); rintro e w10 ⟨rfl, hb10⟩)
        have st10 := st9.on hb10
        have rm10 := erow_below rm9 hb10 rm9.lt
        clear q0 q1 q2 k0 k1 k2 st9 rm9 hb10
        obtain ⟨q0, q1, q2⟩ := gcells st10.b2
        go_wp2_with fail
        ((with_reducible refine (markgrp P D _ _ _ 1 _ hso).mono ?_); rintro e w11 ⟨rfl, hb11⟩)
        have st11 := st10.on hb11
        have rm11 := erow_below rm10 hb11 rm10.lt
        clear q0 q1 q2 st10 rm10 hb11
        obtain ⟨q0, q1, q2⟩ := gcells st11.b2
        go_wp2_with fail
        ((with_reducible refine (heldgrp P D _ _ _ 1 _ hso (by decide)).mono ?_); rintro e w12 ⟨rfl, hb12⟩)
        have st12 := st11.on hb12
        have rm12 := erow_below rm11 hb12 rm11.lt
        have rx12 := st12.ax
        have hS12 := st12.sa
        clear q0 q1 q2 st11 rm11 hb12
        have KKh := Lib.hid (fun w' (h : Below w12.heap.size w12 w') => show (w'.cell? ⟨w.heap.size, 0, none⟩ = some (.int .i64 p) ∧ w'.cell? ⟨w.heap.size, 1, none⟩ = some (.int .i64 n) ∧ w'.cell? ⟨w.heap.size, 2, none⟩ = some (.slice a L.length cap)) ∧ ((w'.cell? ⟨w.heap.size + 1, 0, none⟩ = some (.int .u8 (g 0 0)) ∧ w'.cell? ⟨w.heap.size + 1, 1, none⟩ = some (.int .u8 (g 0 1)) ∧ w'.cell? ⟨w.heap.size + 1, 2, none⟩ = some (.int .u8 (g 0 2))) ∧ (w'.cell? ⟨w.heap.size + 1, 3, none⟩ = some (.int .u8 (g 1 0)) ∧ w'.cell? ⟨w.heap.size + 1, 4, none⟩ = some (.int .u8 (g 1 1)) ∧ w'.cell? ⟨w.heap.size + 1, 5, none⟩ = some (.int .u8 (g 1 2))) ∧ (w'.cell? ⟨w.heap.size + 1, 6, none⟩ = some (.int .u8 (g 2 0)) ∧ w'.cell? ⟨w.heap.size + 1, 7, none⟩ = some (.int .u8 (g 2 1)) ∧ w'.cell? ⟨w.heap.size + 1, 8, none⟩ = some (.int .u8 (g 2 2)))) from ⟨gcells (erow_below rx12 h rx12.lt), mcells (erow_below rm12 h rm12.lt)⟩)
        have KOh := Lib.hid (fun w' (h : Below w12.heap.size w12 w') o => show ((w'.alloc o).cell? ⟨w.heap.size, 0, none⟩ = some (.int .i64 p) ∧ (w'.alloc o).cell? ⟨w.heap.size, 1, none⟩ = some (.int .i64 n) ∧ (w'.alloc o).cell? ⟨w.heap.size, 2, none⟩ = some (.slice a L.length cap)) ∧ (((w'.alloc o).cell? ⟨w.heap.size + 1, 0, none⟩ = some (.int .u8 (g 0 0)) ∧ (w'.alloc o).cell? ⟨w.heap.size + 1, 1, none⟩ = some (.int .u8 (g 0 1)) ∧ (w'.alloc o).cell? ⟨w.heap.size + 1, 2, none⟩ = some (.int .u8 (g 0 2))) ∧ ((w'.alloc o).cell? ⟨w.heap.size + 1, 3, none⟩ = some (.int .u8 (g 1 0)) ∧ (w'.alloc o).cell? ⟨w.heap.size + 1, 4, none⟩ = some (.int .u8 (g 1 1)) ∧ (w'.alloc o).cell? ⟨w.heap.size + 1, 5, none⟩ = some (.int .u8 (g 1 2))) ∧ ((w'.alloc o).cell? ⟨w.heap.size + 1, 6, none⟩ = some (.int .u8 (g 2 0)) ∧ (w'.alloc o).cell? ⟨w.heap.size + 1, 7, none⟩ = some (.int .u8 (g 2 1)) ∧ (w'.alloc o).cell? ⟨w.heap.size + 1, 8, none⟩ = some (.int .u8 (g 2 2)))) from KKh.out _ (h.trans ((ebox1 w' o).mono h.size)))
        have KSh := Lib.hid (fun w' B u0 u1 u2 (h : Below w12.heap.size w12 w') (hB : w12.heap.size ≤ B) => show ((((w'.setCell ⟨B, 0, none⟩ u0).setCell ⟨B, 1, none⟩ u1).setCell ⟨B, 2, none⟩ u2).cell? ⟨w.heap.size, 0, none⟩ = some (.int .i64 p) ∧ (((w'.setCell ⟨B, 0, none⟩ u0).setCell ⟨B, 1, none⟩ u1).setCell ⟨B, 2, none⟩ u2).cell? ⟨w.heap.size, 1, none⟩ = some (.int .i64 n) ∧ (((w'.setCell ⟨B, 0, none⟩ u0).setCell ⟨B, 1, none⟩ u1).setCell ⟨B, 2, none⟩ u2).cell? ⟨w.heap.size, 2, none⟩ = some (.slice a L.length cap)) ∧ (((((w'.setCell ⟨B, 0, none⟩ u0).setCell ⟨B, 1, none⟩ u1).setCell ⟨B, 2, none⟩ u2).cell? ⟨w.heap.size + 1, 0, none⟩ = some (.int .u8 (g 0 0)) ∧ (((w'.setCell ⟨B, 0, none⟩ u0).setCell ⟨B, 1, none⟩ u1).setCell ⟨B, 2, none⟩ u2).cell? ⟨w.heap.size + 1, 1, none⟩ = some (.int .u8 (g 0 1)) ∧ (((w'.setCell ⟨B, 0, none⟩ u0).setCell ⟨B, 1, none⟩ u1).setCell ⟨B, 2, none⟩ u2).cell? ⟨w.heap.size + 1, 2, none⟩ = some (.int .u8 (g 0 2))) ∧ ((((w'.setCell ⟨B, 0, none⟩ u0).setCell ⟨B, 1, none⟩ u1).setCell ⟨B, 2, none⟩ u2).cell? ⟨w.heap.size + 1, 3, none⟩ = some (.int .u8 (g 1 0)) ∧ (((w'.setCell ⟨B, 0, none⟩ u0).setCell ⟨B, 1, none⟩ u1).setCell ⟨B, 2, none⟩ u2).cell? ⟨w.heap.size + 1, 4, none⟩ = some (.int .u8 (g 1 1)) ∧ (((w'.setCell ⟨B, 0, none⟩ u0).setCell ⟨B, 1, none⟩ u1).setCell ⟨B, 2, none⟩ u2).cell? ⟨w.heap.size + 1, 5, none⟩ = some (.int .u8 (g 1 2))) ∧ ((((w'.setCell ⟨B, 0, none⟩ u0).setCell ⟨B, 1, none⟩ u1).setCell ⟨B, 2, none⟩ u2).cell? ⟨w.heap.size + 1, 6, none⟩ = some (.int .u8 (g 2 0)) ∧ (((w'.setCell ⟨B, 0, none⟩ u0).setCell ⟨B, 1, none⟩ u1).setCell ⟨B, 2, none⟩ u2).cell? ⟨w.heap.size + 1, 7, none⟩ = some (.int .u8 (g 2 1)) ∧ (((w'.setCell ⟨B, 0, none⟩ u0).setCell ⟨B, 1, none⟩ u1).setCell ⟨B, 2, none⟩ u2).cell? ⟨w.heap.size + 1, 8, none⟩ = some (.int .u8 (g 2 2)))) from KKh.out _ (((h.setCell (by simpa using hB) _).setCell (by simpa using hB) _).setCell (by simpa using hB) _))
        go_upto_region 24 with fail
        go_cut [14, 15] (fun s8 s9 wx => ∃ B0 a3 c3, s8 = .pointer (some ⟨B0, 0, none⟩) ∧ s9 = .int .i64 c ∧ wx.rowIs B0 26 3 (grpF P D (.slice a3 S.length c3)) ∧ Below w12.heap.size w12 wx ∧ SlM wx (.slice a3 S.length c3) S)
        case first =>
          go_region_held3 (fun w' => (w'.cell? ⟨w.heap.size, 0, none⟩ = some (.int .i64 p) ∧ w'.cell? ⟨w.heap.size, 1, none⟩ = some (.int .i64 n) ∧ w'.cell? ⟨w.heap.size, 2, none⟩ = some (.slice a L.length cap)) ∧ ((w'.cell? ⟨w.heap.size + 1, 0, none⟩ = some (.int .u8 (g 0 0)) ∧ w'.cell? ⟨w.heap.size + 1, 1, none⟩ = some (.int .u8 (g 0 1)) ∧ w'.cell? ⟨w.heap.size + 1, 2, none⟩ = some (.int .u8 (g 0 2))) ∧ (w'.cell? ⟨w.heap.size + 1, 3, none⟩ = some (.int .u8 (g 1 0)) ∧ w'.cell? ⟨w.heap.size + 1, 4, none⟩ = some (.int .u8 (g 1 1)) ∧ w'.cell? ⟨w.heap.size + 1, 5, none⟩ = some (.int .u8 (g 1 2))) ∧ (w'.cell? ⟨w.heap.size + 1, 6, none⟩ = some (.int .u8 (g 2 0)) ∧ w'.cell? ⟨w.heap.size + 1, 7, none⟩ = some (.int .u8 (g 2 1)) ∧ w'.cell? ⟨w.heap.size + 1, 8, none⟩ = some (.int .u8 (g 2 2)))))
            (first | with_reducible exact KKh.out _ (Below.refl _ _).drew | with_reducible exact KKh.out _ (Below.refl _ _) | with_reducible exact KOh.out _ (Below.refl _ _) _ | with_reducible exact KOh.out _ (Below.refl _ _).drew _ | with_reducible exact KKh.out _ (ebox1 _ _).drew | with_reducible exact KKh.out _ HB20 | with_reducible exact KOh.out _ HB20 _ | with_reducible exact KKh.out _ HB21 | with_reducible exact KOh.out _ HB21 _ | with_reducible exact KKh.out _ HB22 | with_reducible exact KOh.out _ HB22 _ | with_reducible exact KSh.out _ _ _ _ _ HB22 HB21.size | with_reducible exact KSh.out _ _ _ _ _ HB22 HB20.size | with_reducible exact KSh.out _ _ _ _ _ HB22 (Nat.le_refl _))
            (first
            | (go_at_call 20; (with_reducible refine (togrp p n _ L _ hl (by first | with_reducible exact hS12.below (Below.refl _ _).drew | with_reducible exact hS12.below (ebox1 _ _).drew)).mono ?_); rintro e w20 ⟨v20, rfl, own20, hb20⟩; have H20 : Below w12.heap.size w12 w20 := (by first | with_reducible exact gbel_drew hb20 | with_reducible exact gbel_drewalloc hb20 | with_reducible exact gbel_allocdrew hb20 | with_reducible exact gbel_alloc hb20); have HB20 := H20; (first | (have ZR20 : w20.rowIs w12.heap.size 26 3 (grpF 0 0 (.slice none 0 0)) := erow_below (zgrpD w12) hb20 (by simp); obtain ⟨e200, e201, e202⟩ := gcells ZR20; have f200 := ZR20.frozen 0; have f201 := ZR20.frozen 1; have f202 := ZR20.frozen 2) | skip))
            | (go_at_call 35; (with_reducible refine (tomat_agg g _).mono ?_); rintro e w21 ⟨rfl, hb21⟩; have H21 : Below w20.heap.size w20 w21 := (by first | with_reducible exact hb21 | with_reducible exact gbel_alloc hb21); have HB21 := HB20.trans (H21.mono HB20.size); (first | (have ZR21 : w21.rowIs w20.heap.size 26 3 (grpF 0 0 (.slice none 0 0)) := erow_below (zgrp w20) hb21 (by simp); obtain ⟨e210, e211, e212⟩ := gcells ZR21; have f210 := ZR21.frozen 0; have f211 := ZR21.frozen 1; have f212 := ZR21.frozen 2) | (have ZR21 := erow_below ZR20 H21 ZR20.lt; obtain ⟨e210, e211, e212⟩ := gcells ZR21; have f210 := ZR21.frozen 0; have f211 := ZR21.frozen 1; have f212 := ZR21.frozen 2) | skip))
            | (go_at_call 36; (with_reducible refine (HIM.out _ _ (by first | with_reducible exact own20.slice.below H21 | with_reducible exact (own20.slice.below H21).below (ebox1 _ _))).mono ?_); rintro e w22 ⟨v22, rfl, own22, hb22⟩; have H22 : Below w21.heap.size w21 w22 := (by first | with_reducible exact hb22 | with_reducible exact gbel_alloc hb22); have HB22 := HB21.trans (H22.mono HB21.size); (first | (have ZR22 : w22.rowIs w21.heap.size 26 3 (grpF 0 0 (.slice none 0 0)) := erow_below (zgrp w21) hb22 (by simp); obtain ⟨e220, e221, e222⟩ := gcells ZR22; have f220 := ZR22.frozen 0; have f221 := ZR22.frozen 1; have f222 := ZR22.frozen 2) | (have ZR22 := erow_below ZR21 H22 ZR21.lt; obtain ⟨e220, e221, e222⟩ := gcells ZR22; have f220 := ZR22.frozen 0; have f221 := ZR22.frozen 1; have f222 := ZR22.frozen 2) | skip); simp only at own22; obtain ⟨sa22, sc22, rfl⟩ := OwnG9.shape own22))
          all_goals
            go_wp2_with fail
            go_meet
            first
              | exact ⟨w22.heap.size, sa22, sc22, rfl, rfl, gbox w22 P D _ _, HB22.trans ((ebox1 _ _).mono HB22.size), (OwnG9.slice own22).below (ebox1 _ _)⟩
              | exact ⟨w21.heap.size, sa22, sc22, rfl, rfl, (gset ZR22 HB22 HB21.size own22 P D).1, (gset ZR22 HB22 HB21.size own22 P D).2.1, (gset ZR22 HB22 HB21.size own22 P D).2.2⟩
              | exact ⟨w20.heap.size, sa22, sc22, rfl, rfl, (gset ZR22 HB22 HB20.size own22 P D).1, (gset ZR22 HB22 HB20.size own22 P D).2.1, (gset ZR22 HB22 HB20.size own22 P D).2.2⟩
              | exact ⟨w12.heap.size, sa22, sc22, rfl, rfl, (gset ZR22 HB22 (Nat.le_refl _) own22 P D).1, (gset ZR22 HB22 (Nat.le_refl _) own22 P D).2.1, (gset ZR22 HB22 (Nat.le_refl _) own22 P D).2.2⟩
        case rest =>
          rename World => w14
          obtain ⟨B3, a14, c14, rfl, rfl, rh, hb14, hs14⟩ := hcut
          clear KKh KOh KSh
          have st14 := st12.on hb14
          clear st12 rm12 rx12 hS12 hb14
          obtain ⟨h0, h1, h2⟩ := gcells rh
          obtain ⟨k0, k1, k2⟩ := gcells st14.b0
          go_wp2_with fail
          ((with_reducible refine (eqgrp P D _ _ S _ hso hs14 st14.s3).mono ?_); rintro e w15 ⟨rfl, hb15⟩)
          have st15 := st14.on hb15
          clear st14 hs14 rh hb15 h0 h1 h2 k0 k1 k2
          obtain ⟨q0, q1, q2⟩ := gcells st15.b2
          go_wp2_with fail
          ((with_reducible refine (heldgrp P D _ _ _ 1 _ hso (by decide)).mono ?_); rintro e w16 ⟨rfl, hb16⟩)
          have hend := (st15.on hb16).below
          clear q0 q1 q2 st15 hb16
          go_wp2
          go_ret
          exact ⟨rfl, hend⟩
end Go.Proofs.Ytpbdbgajohacoaa
