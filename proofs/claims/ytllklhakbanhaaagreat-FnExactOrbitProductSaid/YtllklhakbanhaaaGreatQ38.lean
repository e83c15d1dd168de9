/-
  WALKS: 'spec.l03Lead'. Conditions: as each theorem states.
-/
import Derived.Test.YtllklhakbanhaaaGreatQ36
import Derived.Test.YtllklhakbanhaaaGreatQ37
namespace Go.Proofs.YtllklhakbanhaaaGreat
open Go.RowKit Go.Sort Go.Maps EchM

theorem sRepL (p : Int) (n : Nat) (g : Nat → Nat → Int) (v lv : Value) (xs L : List Tm) (w : World) (hM : MatP p n g) (hS : SliceT w v xs) (hby : ∀ t ∈ xs, tmByte t) (hx : isPolyB p n xs = true) (hG : SlP w lv (formsP p n g)) (hL : Led p n g xs L) :
    Calls Tryz.prog 124 #[.agg #[.int .i64 p, .int .i64 (n : Int), v], lv] w fun e w' =>
      ∃ v', e = .returned (.tuple #[.agg #[.int .i64 p, .int .i64 (n : Int), v'], .bool true]) ∧ OwnP w' w.heap.size v' L ∧ Below w.heap.size w w' := by
  obtain ⟨P, hP, hL⟩ := hL
  have hX := valid_of hx hby
  have hB := hM.bnd hX
  rw [← formsP_tms p n g] at hP hB
  obtain ⟨_, _, _, _, hz⟩ := subs_zero (formsP_ok hM) (subs_forms hM hx hby)
  refine (sRep p n n v lv xs (formsP p n g) P w (formsP_list hM) hX hz (fun _ => hP) hS hG).mono ?_
  rintro e w' ⟨⟨_, v', L', rfl, hS', hL'⟩ | ⟨hn, _⟩, hb⟩
  · obtain rfl := hL'.unique hL
    exact ⟨v', rfl, hS', hb⟩
  · exact absurd hB hn

set_option maxRecDepth 8000 in
set_option maxHeartbeats 16000000 in
theorem slead3 (p : Int) (n : Nat) (g : Nat → Nat → Int) (v : Value) (xs L : List Tm) (w : World) (hM : MatP p n g) (hS : SliceT w v xs) (hby : ∀ t ∈ xs, tmByte t) (hx : isPolyB p n xs = true) (hL : Led p n g xs L) :
    Calls Tryz.prog 89 #[(.agg #[.int .u8 (g 0 0), .int .u8 (g 0 1), .int .u8 (g 0 2), .int .u8 (g 1 0), .int .u8 (g 1 1), .int .u8 (g 1 2), .int .u8 (g 2 0), .int .u8 (g 2 1), .int .u8 (g 2 2)]), .agg #[.int .i64 p, .int .i64 (n : Int), v]] w fun e w' =>
      ∃ v', e = .returned (.agg #[.int .i64 p, .int .i64 (n : Int), v']) ∧ OwnP w' w.heap.size v' L ∧ Below w.heap.size w w' := by
  obtain ⟨a, cap, rfl, _⟩ := id hS
  obtain ⟨W, hW, hbW, ⟨hWs1, hWs2⟩, rm, rx, rr⟩ := boxMPR w g p (n : Int) (.slice a xs.length cap)
  have hSW := hS.below hbW
  have HI := Lib.hid (fun w => slet p n g w hM)
  have HC := Lib.hid (fun w lv h1 h2 => sRepL p n g (.slice a xs.length cap) lv xs L w hM h1 hby hx h2 hL)
  have KK := Lib.hid (fun w' (h : Below W.heap.size W w') => show ((w'.cell? ⟨w.heap.size + 1, 0, none⟩ = some (.int .i64 p) ∧ w'.cell? ⟨w.heap.size + 1, 1, none⟩ = some (.int .i64 (n : Int)) ∧ w'.cell? ⟨w.heap.size + 1, 2, none⟩ = some (.slice a xs.length cap)) ∧ ((w'.cell? ⟨w.heap.size, 0, none⟩ = some (.int .u8 (g 0 0)) ∧ w'.cell? ⟨w.heap.size, 1, none⟩ = some (.int .u8 (g 0 1)) ∧ w'.cell? ⟨w.heap.size, 2, none⟩ = some (.int .u8 (g 0 2))) ∧ (w'.cell? ⟨w.heap.size, 3, none⟩ = some (.int .u8 (g 1 0)) ∧ w'.cell? ⟨w.heap.size, 4, none⟩ = some (.int .u8 (g 1 1)) ∧ w'.cell? ⟨w.heap.size, 5, none⟩ = some (.int .u8 (g 1 2))) ∧ (w'.cell? ⟨w.heap.size, 6, none⟩ = some (.int .u8 (g 2 0)) ∧ w'.cell? ⟨w.heap.size, 7, none⟩ = some (.int .u8 (g 2 1)) ∧ w'.cell? ⟨w.heap.size, 8, none⟩ = some (.int .u8 (g 2 2))))) from
    ⟨(poly3 (rowIs_below rx h rx.lt)).1, mcells (rowIs_below rm h rm.lt)⟩)
  clear hM hL
  go_enter Tryz.func89, Tryz.ntmps89
  go_upto_region 1 with fail
  rw [← hW]
  clear hW
  go_cut [5] (fun s5 wx => ∃ (bx : Nat) (A : Option Addr) (c : Nat), s5 = .pointer (some ⟨bx, 0, none⟩) ∧ wx.rowIs bx 39 3 (polyF p (n : Int) (.slice A L.length c)) ∧ OwnP wx W.heap.size (.slice A L.length c) L ∧ Below W.heap.size W wx ∧ W.heap.size ≤ bx)
  case first =>
    go_region_held3 (fun w' => ((w'.cell? ⟨w.heap.size + 1, 0, none⟩ = some (.int .i64 p) ∧ w'.cell? ⟨w.heap.size + 1, 1, none⟩ = some (.int .i64 (n : Int)) ∧ w'.cell? ⟨w.heap.size + 1, 2, none⟩ = some (.slice a xs.length cap)) ∧ ((w'.cell? ⟨w.heap.size, 0, none⟩ = some (.int .u8 (g 0 0)) ∧ w'.cell? ⟨w.heap.size, 1, none⟩ = some (.int .u8 (g 0 1)) ∧ w'.cell? ⟨w.heap.size, 2, none⟩ = some (.int .u8 (g 0 2))) ∧ (w'.cell? ⟨w.heap.size, 3, none⟩ = some (.int .u8 (g 1 0)) ∧ w'.cell? ⟨w.heap.size, 4, none⟩ = some (.int .u8 (g 1 1)) ∧ w'.cell? ⟨w.heap.size, 5, none⟩ = some (.int .u8 (g 1 2))) ∧ (w'.cell? ⟨w.heap.size, 6, none⟩ = some (.int .u8 (g 2 0)) ∧ w'.cell? ⟨w.heap.size, 7, none⟩ = some (.int .u8 (g 2 1)) ∧ w'.cell? ⟨w.heap.size, 8, none⟩ = some (.int .u8 (g 2 2))))))
      (first | with_reducible exact KK.out _ (setL3 HB14 (Nat.le_refl _) _ _ _) | with_reducible exact KK.out _ (setL3 HB14 HB13.size _ _ _) | with_reducible exact KK.out _ (Below.same _).drew | with_reducible exact KK.out _ (box1 _ _).drew | with_reducible exact KK.out _ HB13 | with_reducible exact KK.out _ (HB13.trans ((box1 _ _).mono HB13.size)) | with_reducible exact KK.out _ HB14 | with_reducible exact KK.out _ (HB14.trans ((box1 _ _).mono HB14.size)))
      (first
      | (go_at_call 125; (with_reducible refine (HI.out _).mono ?_); rintro e w13 ⟨v13, rfl, hS13, hb13⟩; have HB13 : Below W.heap.size W w13 := (by first | exact (Below.same _).drew.trans hb13 | with_reducible exact (box1 _ _).drew.trans (hb13.mono (by simp))); (first | (have ZR13 : w13.rowIs W.heap.size 39 3 (polyF 0 0 (.slice none 0 0)) := rowIs_below (zboxD W) hb13 (by simp); obtain ⟨⟨e130, e131, e132⟩, f130, f131, f132⟩ := poly3 ZR13) | skip); (obtain ⟨a13, c13, rfl, _⟩ := id hS13))
      | (go_at_call 124; (with_reducible refine (HC.out _ _ (by first | with_reducible exact hSW.below HB13 | with_reducible exact (hSW.below HB13).below (box1 _ _)) (by first | with_reducible exact hS13 | with_reducible exact hS13.below (box1 _ _))).mono ?_); rintro e w14 ⟨v14, rfl, ho14, hb14⟩; have hS14 := OwnP.slice ho14; have H14 : Below w13.heap.size w13 w14 := (by first | with_reducible exact hb14 | with_reducible exact (box1 _ _).trans (hb14.mono (by simp))); have HB14 : Below W.heap.size W w14 := HB13.trans (H14.mono HB13.size); (first | (have ZR14 : w14.rowIs w13.heap.size 39 3 (polyF 0 0 (.slice none 0 0)) := rowIs_below (zbox w13) hb14 (by simp); obtain ⟨⟨e140, e141, e142⟩, f140, f141, f142⟩ := poly3 ZR14) | (have ZR14 := rowIs_below ZR13 H14 ZR13.lt; obtain ⟨⟨e140, e141, e142⟩, f140, f141, f142⟩ := poly3 ZR14) | skip); (obtain ⟨sa, sc, rfl, _⟩ := id hS14)))
    all_goals
      go_wp2_with fail
      go_meet
      first
        | exact ⟨w14.heap.size, sa, sc, rfl, World.rowIs_alloc w14 #[Value.int .i64 p, .int .i64 (n : Int), .slice sa L.length sc] _ _ (fun i hi => by simp at hi; match i, hi with | 0, _ => rfl | 1, _ => rfl | 2, _ => rfl), owns_low (owns_belowT ho14 (box1 _ _)) HB13.size, HB14.trans ((box1 _ _).mono HB14.size), HB14.size⟩
        | exact ⟨w13.heap.size, sa, sc, rfl, (setB3 ZR14 hS14 p (n : Int)).1, owns_low (rep_own3 (i0 := 0) (i1 := 1) (i2 := 2) ho14 ZR14) (Nat.le_trans HB13.size (by simp)), setL3 HB14 HB13.size _ _ _, HB13.size⟩
        | exact ⟨W.heap.size, sa, sc, rfl, (setB3 ZR14 hS14 p (n : Int)).1, owns_low (rep_own3 (i0 := 0) (i1 := 1) (i2 := 2) ho14 ZR14) HB13.size, setL3 HB14 (Nat.le_refl _) _ _ _, Nat.le_refl _⟩
  case rest =>
    obtain ⟨bx, A, c, rfl, rbx, hSx, hbx, hbx2⟩ := hcut
    have rrx := rowIs_below rr hbx rr.lt
    obtain ⟨⟨q0, q1, q2⟩, _⟩ := poly3 rbx
    obtain ⟨⟨r0, r1, r2⟩, z0, z1, z2⟩ := poly3 rrx
    obtain ⟨a0, _⟩ := setB3 rrx (OwnP.slice hSx) p (n : Int)
    have a1 : OwnP _ w.heap.size (.slice A L.length c) L := owns_low (rep_own3 (i0 := 0) (i1 := 1) (i2 := 2) (x0 := .int .i64 p) (x1 := .int .i64 (n : Int)) (x2 := .slice A L.length c) hSx rrx) hbW.size
    obtain ⟨⟨m0, m1, m2⟩, _⟩ := poly3 a0
    have hend := setL3 (hbW.trans (hbx.mono hbW.size)) (B0 := w.heap.size + 2) (by omega) (.int .i64 p) (.int .i64 (n : Int)) (.slice A L.length c)
    have A0 := Lib.hid m0
    have A1 := Lib.hid m1
    have A2 := Lib.hid m2
    have A3 := Lib.hid a1
    have A4 := Lib.hid hend
    clear m0 m1 m2 a0 a1 hend KK HI HC rbx rrx hSx hbx
    go_wp2_with fail
    exact bodyPost_ret (v := .agg #[.int .i64 p, .int .i64 (n : Int), .slice A L.length c]) (by simp [results, Tryz.results89, go_sem, A0.out, A1.out, A2.out]) rfl ⟨_, rfl, A3.out, A4.out⟩
end Go.Proofs.YtllklhakbanhaaaGreat
