/-
  WALKS: 'impl.PowerSum'. Conditions: the numbers fit their kinds.
-/
import Derived.Test.YtllklhakbanhaaaGreatR01
import Derived.Test.YtllklhakbanhaaaGreatQ52
import Derived.Test.YtllklhakbanhaaaGreatQ16
namespace Go.Proofs.YtllklhakbanhaaaGreat
open Go.RowKit Go.Sort Go.Maps EchM

set_option maxRecDepth 8000 in
set_option maxHeartbeats 16000000 in
theorem ipsum (p n : Int) (v : Value) (L : List (Nat → Nat → Int)) (q d : Int) (u : Value) (xs : List Tm) (k : Int) (w : World) (hl : L.length ≤ 1048576) (hS : SlM w v L) (hby : ∀ x ∈ L, Byt x) (hxl : xs.length ≤ 1048576) (hU : SliceT w u xs) (hxb : ∀ t ∈ xs, tmByte t) (o : OutP) (ho : PsO p n L q d xs k o) :
    Calls Tryz.prog 40 #[.agg #[.int .i64 p, .int .i64 n, v], .agg #[.int .i64 q, .int .i64 d, u], .int .i64 k] w (ResO w o) := by
  obtain ⟨W, hW, hbW, ⟨hWs1, hWs2⟩, rg, rx, rr⟩ := boxGPR w p n v q d u
  have hSW := hS.below hbW
  have hUW := hU.below hbW
  obtain ⟨a, cap, rfl, _⟩ := id hS
  obtain ⟨ua, uc, rfl, _⟩ := id hU
  obtain ⟨g0, g1, g2⟩ := gcells rg
  obtain ⟨⟨x0, x1, x2⟩, _⟩ := poly3 rx
  have HBY := Lib.hid hby
  have HXB := Lib.hid hxb
  clear hby hxb
  go_enter Tryz.func40, Tryz.ntmps40
  go_upto_region 1 with fail
  rw [← hW]
  clear hW
  go_wp2_with fail
  ((with_reducible refine (icode3 p n _ L q d _ xs W hl hSW HBY.out hxl hUW HXB.out).mono ?_); rintro e w1 ⟨rfl, hb1⟩)
  have hbw1 := hbW.trans (hb1.mono hbW.size)
  have rg1 := erow_below rg hb1 rg.lt
  have rx1 := erow_below rx hb1 rx.lt
  have rr1 := erow_below rr hb1 rr.lt
  have hS1 := hSW.below hb1
  have hU1 := hUW.below hb1
  have hs1 := hb1.size
  clear g0 g1 g2 x0 x1 x2 rg rx rr hb1
  rcases psO_cases ho with ⟨hc, rfl⟩ | ⟨hc, hk, rfl⟩ | ⟨hc, hk, hd, rfl⟩ | ⟨hc, hk, hd, m', S, hm', hR, rfl⟩
  · obtain ⟨C, hC⟩ : ∃ C, actC p n L q d xs = C := ⟨_, rfl⟩
    have HC := Lib.hid hC
    rw [hC] at hc ⊢
    have hc' : (C != 0) = true := by simpa using hc
    clear hc hC ho
    obtain ⟨⟨r0, r1, r2⟩, z0, z1, z2⟩ := poly3 rr1
    obtain ⟨a0, a1, a2, a3, a4⟩ := fill_box (base := w.heap.size) rr1 (ownP_nil w1 w.heap.size) (Nat.le_refl _) hbw1 (by omega) 0 0
    have A0 := Lib.hid a0
    have A1 := Lib.hid a1
    have A2 := Lib.hid a2
    have A3 := Lib.hid a3
    have A4 := Lib.hid a4
    clear a0 a1 a2 a3 a4
    go_wp2_with fail
    exact bodyPost_ret (v := .tuple #[.agg #[.int .i64 0, .int .i64 0, .slice none 0 0], .int .i64 C]) (by simp [results, Tryz.results40, go_sem, A0.out, A1.out, A2.out]) rfl ⟨_, by rw [HC.out]; rfl, A3.out, A4.out⟩
  · rw [hc]
    clear hc ho
    obtain ⟨⟨r0, r1, r2⟩, z0, z1, z2⟩ := poly3 rr1
    obtain ⟨a0, a1, a2, a3, a4⟩ := fill_box (base := w.heap.size) rr1 (ownP_nil w1 w.heap.size) (Nat.le_refl _) hbw1 (by omega) 0 0
    have A0 := Lib.hid a0
    have A1 := Lib.hid a1
    have A2 := Lib.hid a2
    have A3 := Lib.hid a3
    have A4 := Lib.hid a4
    clear a0 a1 a2 a3 a4
    by_cases hk1 : k < 1
    · go_wp2_with fail
      exact bodyPost_ret (v := .tuple #[.agg #[.int .i64 0, .int .i64 0, .slice none 0 0], .int .i64 2]) (by simp [results, Tryz.results40, go_sem, A0.out, A1.out, A2.out]) rfl ⟨_, rfl, A3.out, A4.out⟩
    · have hk2 : 12 < k := by omega
      go_wp2_with fail
      exact bodyPost_ret (v := .tuple #[.agg #[.int .i64 0, .int .i64 0, .slice none 0 0], .int .i64 2]) (by simp [results, Tryz.results40, go_sem, A0.out, A1.out, A2.out]) rfl ⟨_, rfl, A3.out, A4.out⟩
  · obtain ⟨m, rfl, rfl, rfl, hG⟩ := grpP_of HBY.out HXB.out hc
    rw [hc]
    have hk1 : ¬ k < 1 := by omega
    have hk2 : ¬ 12 < k := by omega
    have hw := (deg_w hG.valid hk.1 hk.2).1
    have hn : 12 < k * degI xs := (deg_k2 hG.valid hk.1).2 hd
    have hDG := Lib.hid (degree_any2 q (m : Int) (.slice ua xs.length uc) xs w1 hxl hU1 HXB.out (polyB_sum hG.poly))
    obtain ⟨⟨x0, x1, x2⟩, _⟩ := poly3 rx1
    clear hc ho hd hk
    go_wp2_with fail
    ((with_reducible refine hDG.out.mono ?_); rintro e w2 ⟨rfl, hb2⟩)
    have rr2 := rowIs_below rr1 hb2 rr1.lt
    have hbw2 := hbw1.trans (hb2.mono hbw1.size)
    clear x0 x1 x2 hDG hG
    generalize degI xs = dg at *
    have hn' : 12 < wrap64 (k * dg) := by rw [hw]; exact hn
    obtain ⟨⟨r0, r1, r2⟩, z0, z1, z2⟩ := poly3 rr2
    obtain ⟨a0, a1, a2, a3, a4⟩ := fill_box (base := w.heap.size) rr2 (ownP_nil w2 w.heap.size) (Nat.le_refl _) hbw2 (by omega) 0 0
    have A0 := Lib.hid a0
    have A1 := Lib.hid a1
    have A2 := Lib.hid a2
    have A3 := Lib.hid a3
    have A4 := Lib.hid a4
    clear a0 a1 a2 a3 a4
    go_wp2_with fail
    exact bodyPost_ret (v := .tuple #[.agg #[.int .i64 0, .int .i64 0, .slice none 0 0], .int .i64 3]) (by simp [results, Tryz.results40, go_sem, A0.out, A1.out, A2.out]) rfl ⟨_, rfl, A3.out, A4.out⟩
  · obtain ⟨m, rfl, rfl, rfl, hG⟩ := grpP_of HBY.out HXB.out hc
    obtain rfl : m = m' := by omega
    rw [hc]
    have hk1 : ¬ k < 1 := by omega
    have hk2 : ¬ 12 < k := by omega
    have hkk : 1 ≤ k := hk.1
    have hw := (deg_w hG.valid hk.1 hk.2).1
    have hn : ¬ 12 < k * degI xs := fun h => by have := (deg_k2 hG.valid hk.1).1 h; omega
    have hDG := Lib.hid (degree_any2 q (m : Int) (.slice ua xs.length uc) xs w1 hxl hU1 HXB.out (polyB_sum hG.poly))
    obtain ⟨⟨x0, x1, x2⟩, _⟩ := poly3 rx1
    have HR := Lib.hid hR
    have HD := Lib.hid (hG.orbD (K := k) (by omega) hd)
    have HV := Lib.hid hG.orbV
    have HPV := Lib.hid (hG.powV hkk hd)
    have hO1 := hG.orb1
    have hO48 := hG.orb48
    have hp2 := hG.p2
    have HAC := Lib.hid (fun (a : Option Addr) (cap : Nat) w h => iactions q m (.slice a L.length cap) L w hl h hG.mat)
    have HPO := Lib.hid (fun v w h1 h2 => ipor hG v (.slice ua xs.length uc) w h1 h2)
    unfold psR at HR
    generalize orbL (allL q m L xs) = O at *
    have HSM := Lib.hid (fun w v h => isum q m 1 v (O.map (powT q k.toNat)) w (by rw [List.length_map]; exact hO1) (by rw [List.length_map]; omega) HPV.out (by omega) (by omega) h)
    clear hc ho hd hk hR hm' HPV
    go_wp2_with fail
    ((with_reducible refine hDG.out.mono ?_); rintro e w2 ⟨rfl, hb2⟩)
    have rr2 := rowIs_below rr1 hb2 rr1.lt
    have rg2 := rowIs_below rg1 hb2 rg1.lt
    have rx2 := rowIs_below rx1 hb2 rx1.lt
    have hbw2 := hbw1.trans (hb2.mono hbw1.size)
    have hS2 := hS1.below hb2
    have hU2 := hU1.below hb2
    have hs2 := hb2.size
    clear x0 x1 x2 hDG hG rr1 rg1 rx1 hS1 hU1 hb2
    generalize degI xs = dg at *
    have hn' : ¬ 12 < wrap64 (k * dg) := by rw [hw]; omega
    obtain ⟨g0, g1, g2⟩ := gcells rg2
    obtain ⟨⟨x0, x1, x2⟩, _⟩ := poly3 rx2
    have hbd : Below w2.heap.size w2 w2.drew := (Below.refl _ _).drew
    have X0 : w2.drew.cell? ⟨w.heap.size + 1, 0, none⟩ = some (.int .i64 q) := x0
    have X1 : w2.drew.cell? ⟨w.heap.size + 1, 1, none⟩ = some (.int .i64 (m : Int)) := x1
    have X2 : w2.drew.cell? ⟨w.heap.size + 1, 2, none⟩ = some (.slice ua xs.length uc) := x2
    have hzx : w.heap.size + 1 < w2.drew.heap.size := rx2.lt
    have hUd := hU2.below hbd
    have hAC2 := Lib.hid (HAC.out a cap w2.drew (hS2.below hbd))
    go_wp2_with fail
    go_cut [9] (fun s9 wx => ∃ b c us, s9 = .slice (some ⟨b, 0, none⟩) O.length c ∧ w2.heap.size ≤ b ∧ b < wx.heap.size ∧ PRk wx w2.heap.size q m (.slice (some ⟨b, 0, none⟩) O.length c) us O ∧ Below w2.heap.size w2 wx)
    case first =>
      go_region_with (first
        | (go_at_call 53; (with_reducible refine hAC2.out.mono ?_); rintro e w3 ⟨v3, rfl, hA3, hb3⟩; (obtain ⟨gb, gc, rfl, _⟩ := id hA3); have Q0 := (hb3.cell (p := ⟨w.heap.size + 1, 0, none⟩) hzx).trans X0; have Q1 := (hb3.cell (p := ⟨w.heap.size + 1, 1, none⟩) hzx).trans X1; have Q2 := (hb3.cell (p := ⟨w.heap.size + 1, 2, none⟩) hzx).trans X2; have HB3 := hbd.trans hb3)
        | (go_at_call 52; (with_reducible refine (HPO.out _ _ hA3 (hUd.below hb3)).mono ?_); rintro e w4 ⟨v4, us4, hi4, rfl, hP4, hb4⟩; have HB4 := HB3.trans (hb4.mono HB3.size)))
      all_goals
        obtain ⟨pb, pc, hv4, hpb, hpl⟩ := PRk.at hP4.plain hO1
        subst hv4
        go_wp2_with fail
        go_meet
        exact ⟨pb, pc, us4, rfl, Nat.le_trans HB3.size hpb, hpl, ⟨hP4.plain.len, owns_low hP4.plain.rows HB3.size, hP4.plain.own⟩, HB4⟩
    case rest =>
    rename World => w5
    obtain ⟨b, c, us, rfl, hwb, hb5, hP5, HB5⟩ := hcut
    clear g0 g1 g2 x0 x1 x2 X0 X1 X2 hzx hUd hAC2 HAC HPO rg2 rx2
    have hP50 : PRk w5 w2.heap.size q m (.slice (some ⟨b, 0, none⟩) O.length c) us (pwL (powT q k.toNat) O 0) := by rw [pwL_zero]; exact hP5
    go_wp2_with fail
    go_loopw [38] (fun i wr => ∃ (j : Nat) (us : List Value), j ≤ O.length ∧ i = .int .i64 j ∧ PRk wr w2.heap.size q m (.slice (some ⟨b, 0, none⟩) O.length c) us (pwL (powT q k.toNat) O j) ∧ b < wr.heap.size ∧ Below w2.heap.size w2 wr) (fun i _ => O.length - (intOf i).toNat)
    case atStart => exact ⟨0, us, by omega, rfl, hP50, hb5, HB5⟩
    case round =>
      clear hP50 hP5 HB5 hb5
      obtain ⟨j, us, hj, rfl, hP, hbl, hbr⟩ := hrel
      obtain ⟨wo, hwo⟩ : ∃ wo : World, wo = wr := ⟨_, rfl⟩
      subst hwo
      by_cases hlt : j < O.length
      · have hlt' : (j : Int) < (O.length : Int) := by omega
        obtain ⟨uu, c0, c1, c2, hX⟩ := hP.nthO (k := j) (by rw [pwL_len]; exact hlt)
        rw [pwL_at _ _ _ hlt] at hX
        have HVX := Lib.hid (HV.out O[j] (List.getElem_mem hlt))
        have HDX := Lib.hid (HD.out O[j] (List.getElem_mem hlt))
        have HS0 := Lib.hid (pwL_same (powT q k.toNat) O j hlt)
        have HS1 := Lib.hid (pwL_set (powT q k.toNat) O j hlt)
        have hPl := pwL_len (powT q k.toNat) O j
        obtain ⟨Q, hQ⟩ : ∃ Q, pwL (powT q k.toNat) O j = Q := ⟨_, rfl⟩
        obtain ⟨Q', hQ'⟩ : ∃ Q, pwL (powT q k.toNat) O (j + 1) = Q := ⟨_, rfl⟩
        rw [hQ] at hP HS0 HS1 hPl
        rw [hQ'] at HS1
        have HQ' := Lib.hid hQ'
        generalize O[j] = X at *
        obtain ⟨sa, sc, rfl⟩ := owns_slice hX
        obtain ⟨V2, hV2, hbV2, _, rq⟩ := newbox wo q (m : Int) (.slice sa X.length sc)
        have HX1 := Lib.hid (powT_eq HVX.out HDX.out (j := 1) (by omega) (pow_one HVX.out))
        have hJ0 : PwJ w2 V2 b O.length c wo.heap.size q m us (Q.set j (powT q (0 + 1) X)) (.slice sa X.length sc) X :=
          ⟨by rw [← HX1.out, HS0.out]; exact hP.below hbV2, rq, owns_belowT hX hbV2, hbr.trans (hbV2.mono hbr.size)⟩
        have hbV : b < V2.heap.size := Nat.lt_of_lt_of_le hbl hbV2.size
        have hne : wo.heap.size ≠ b := by omega
        clear hQ hQ'
        go_upto_region 12 with fail
        rw [← hV2]
        clear hV2 c0 c1 c2
        go_wp2_with fail
        go_loopw [45] (fun i wr => ∃ (j2 : Nat) (us : List Value), (j2 : Int) ≤ k - 1 ∧ i = .int .i64 j2 ∧ PwJ w2 wr b O.length c wo.heap.size q m us (Q.set j (powT q (j2 + 1) X)) (.slice sa X.length sc) X ∧ b < wr.heap.size) (fun i _ => (k - 1).toNat - (intOf i).toNat)
        case atStart => exact ⟨0, us, by omega, rfl, hJ0, hbV⟩
        case round =>
          clear hJ0 hbV rq hX hP
          obtain ⟨j2, us2, hj2, rfl, hJ, hbi⟩ := hrel
          by_cases hlt2 : (j2 : Int) < k - 1
          · obtain ⟨yy, c0, c1, c2, hY⟩ := hJ.lst.nthO (k := j) (by rw [List.length_set]; omega)
            rw [List.getElem_set_self] at hY
            have HP1 := Lib.hid (powT_is (p := q) HVX.out HDX.out (j := j2 + 1) (by omega))
            have HVY := Lib.hid (powT_valid (p := q) HVX.out HDX.out (j := j2 + 1) (by omega))
            have HFT := Lib.hid (fits_of HVY.out HVX.out (HP1.out.fits HVX.out (k := k) (by omega) HDX.out))
            have HNX := Lib.hid (fun L (h : IsP q L (mulF q (powT q (j2 + 1) X) X)) => powT_eq HVX.out HDX.out (j := j2 + 1 + 1) (by omega) (L := L) ⟨_, HP1.out, h⟩)
            generalize powT q (j2 + 1) X = Y at *
            obtain ⟨ya, yc, rfl⟩ := owns_slice hY
            obtain ⟨⟨q0, q1, q2⟩, _⟩ := poly3 hJ.box
            have hbd2 : Below wr.heap.size wr wr.drew := (Below.same _).drew
            have hYd := (OwnP.slice hY).below hbd2
            have hXd := (OwnP.slice hJ.own).below hbd2
            have F0 := (hJ.lst.below hbd2)
            go_wp2_with fail
            go_region_with
              ((go_at_call 70; (with_reducible refine (product_any q (m : Int) _ _ Y X _ hYd hXd HVY.out HVX.out HFT.out).mono ?_); rintro e w13 ⟨v13, L13, rfl, ho13, hI13, hb13⟩; have HB13 : Below wr.heap.size wr w13 := hbd2.trans hb13; (obtain ⟨yy3, e0, e1, e2, _⟩ := (hJ.lst.below HB13).nthO (k := j) (by rw [List.length_set]; omega)); (have f0 := (hJ.lst.below HB13).froz (j * 3)); (have f1 := (hJ.lst.below HB13).froz (j * 3 + 1)); (have f2 := (hJ.lst.below HB13).froz (j * 3 + 2)); (obtain rfl := HNX.out _ hI13); (obtain ⟨sa13, sc13, rfl⟩ := owns_slice ho13)))
            all_goals
              have hJN := hJ.put HB13 (owns_low ho13 (Nat.zero_le _)) (by omega) hne (k := j) (by rw [List.length_set]; omega)
              rw [List.set_set] at hJN
              have hbn : b < w13.heap.size := Nat.lt_of_lt_of_le hbi HB13.size
              clear hJ c0 c1 c2 q0 q1 q2 hY hYd hXd F0 ho13 hI13
              go_wp2_with fail
              go_roundw
              case rel => exact ⟨j2 + 1, _, by omega, by go_num, hJN, by simpa using hbn⟩
              case measure => simp [intOf]; omega
          · have hj3 : j2 + 1 = k.toNat := by omega
            have hPN : PRk wr w2.heap.size q m (.slice (some ⟨b, 0, none⟩) O.length c) us2 Q' := by
              have := hJ.lst
              rw [hj3, HS1.out] at this
              exact this
            have hbN := hJ.bel
            clear hJ
            go_wp2_with fail
            go_roundw
            case rel => exact ⟨j + 1, us2, by omega, by go_num, by rw [HQ'.out]; exact hPN, hbi, hbN⟩
            case measure => simp [intOf]; omega
      · obtain rfl : j = O.length := by omega
        rw [pwL_all] at hP
        have hSr : SlPn wo q m _ _ := hP.slP
        have HSM2 := Lib.hid (HSM.out _ _ hSr)
        clear hSr
        go_wp2_with fail
        ((with_reducible refine HSM2.out.mono ?_); rintro e w3 ⟨v3, S3, rfl, ho3, hI3, hb3⟩)
        obtain rfl : S3 = S := hI3.unique HR.out
        obtain ⟨sa3, sc3, rfl⟩ := owns_slice ho3
        have HB3 := hbr.trans (hb3.mono hbr.size)
        have rr3 := rowIs_below rr2 HB3 rr2.lt
        obtain ⟨⟨r0, r1, r2⟩, z0, z1, z2⟩ := poly3 rr3
        obtain ⟨a0, a1, a2, a3, a4⟩ := fill_box (w := w) rr3 ho3 (Nat.le_trans hbw2.size hbr.size) (hbw2.trans (HB3.mono hbw2.size)) (by omega) q (m : Int)
        have A0 := Lib.hid a0
        have A1 := Lib.hid a1
        have A2 := Lib.hid a2
        have A3 := Lib.hid a3
        have A4 := Lib.hid a4
        clear a0 a1 a2 a3 a4
        go_wp2_with fail
        exact bodyPost_ret (v := .tuple #[.agg #[.int .i64 q, .int .i64 (m : Int), .slice sa3 S3.length sc3], .int .i64 0]) (by simp [results, Tryz.results40, go_sem, A0.out, A1.out, A2.out]) rfl ⟨_, rfl, A3.out, A4.out⟩
end Go.Proofs.YtllklhakbanhaaaGreat
