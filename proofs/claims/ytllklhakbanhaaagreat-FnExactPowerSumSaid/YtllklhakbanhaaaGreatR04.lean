/-
  WALKS: 'spec.PowerSum'. Conditions: the numbers fit their kinds.
-/
import Derived.Test.YtllklhakbanhaaaGreatR01
import Derived.Test.YtllklhakbanhaaaGreatQ52
import Derived.Test.YtllklhakbanhaaaGreatR03
namespace Go.Proofs.YtllklhakbanhaaaGreat
open Go.RowKit Go.Sort Go.Maps EchM

set_option maxRecDepth 8000 in
set_option maxHeartbeats 16000000 in
theorem spsum (p n : Int) (v : Value) (L : List (Nat → Nat → Int)) (q d : Int) (u : Value) (xs : List Tm) (k : Int) (w : World) (hl : L.length ≤ 1048576) (hS : SlM w v L) (hby : ∀ x ∈ L, Byt x) (hxl : xs.length ≤ 1048576) (hU : SliceT w u xs) (hxb : ∀ t ∈ xs, tmByte t) (o : OutP) (ho : PsO p n L q d xs k o) :
    Calls Tryz.prog 39 #[.agg #[.int .i64 p, .int .i64 n, v], .agg #[.int .i64 q, .int .i64 d, u], .int .i64 k] w (ResO w o) := by
  obtain ⟨W, hW, hbW, ⟨hWs1, hWs2⟩, rg, rx, rr⟩ := boxGPR w p n v q d u
  have hSW := hS.below hbW
  have hUW := hU.below hbW
  obtain ⟨a, cap, rfl, _⟩ := id hS
  obtain ⟨ua, uc, rfl, _⟩ := id hU
  obtain ⟨g0, g1, g2⟩ := gcells rg
  obtain ⟨⟨x0, x1, x2⟩, _⟩ := poly3 rx
  have HBY := Lib.hid hby
  have HXB := Lib.hid hxb
  clear hby hxb
  go_enter Tryz.func39, Tryz.ntmps39
  go_upto_region 1 with fail
  rw [← hW]
  clear hW
  go_wp2_with fail
  ((with_reducible refine (scode3 p n _ L q d _ xs W hl hSW HBY.out hxl hUW HXB.out).mono ?_); rintro e w1 ⟨rfl, hb1⟩)
  have hbw1 := hbW.trans (hb1.mono hbW.size)
  have rg1 := erow_below rg hb1 rg.lt
  have rx1 := erow_below rx hb1 rx.lt
  have rr1 := erow_below rr hb1 rr.lt
  have hS1 := hSW.below hb1
  have hU1 := hUW.below hb1
  have hs1 := hb1.size
  clear g0 g1 g2 x0 x1 x2 rg rx rr hb1
  rcases psO_cases ho with ⟨hc, rfl⟩ | ⟨hc, hk, rfl⟩ | ⟨hc, hk, hd, rfl⟩ | ⟨hc, hk, hd, m', S, hm', hR, rfl⟩
  · obtain ⟨C, hC⟩ : ∃ C, actC p n L q d xs = C := ⟨_, rfl⟩
    have HC := Lib.hid hC
    rw [hC] at hc ⊢
    have hc' : (C != 0) = true := by simpa using hc
    have hc2 : (C == 0) = false := by simpa using hc
    clear hc hC ho
    obtain ⟨⟨r0, r1, r2⟩, z0, z1, z2⟩ := poly3 rr1
    obtain ⟨a0, a1, a2, a3, a4⟩ := fill_box (base := w.heap.size) rr1 (ownP_nil w1 w.heap.size) (Nat.le_refl _) hbw1 (by omega) 0 0
    have A0 := Lib.hid a0
    have A1 := Lib.hid a1
    have A2 := Lib.hid a2
    have A3 := Lib.hid a3
    have A4 := Lib.hid a4
    clear a0 a1 a2 a3 a4
    go_wp2_with fail
    exact bodyPost_ret (v := .tuple #[.agg #[.int .i64 0, .int .i64 0, .slice none 0 0], .int .i64 C]) (by simp [results, Tryz.results39, go_sem, A0.out, A1.out, A2.out]) rfl ⟨_, by rw [HC.out]; rfl, A3.out, A4.out⟩
  · rw [hc]
    have HD := Lib.hid (show (decide (1 ≤ k) && decide (k ≤ 12)) = false by simpa using hk)
    clear hc ho hk
    go_wp2_with fail
    ((with_reducible refine (sin_is k 1 12 w1 _ HD.out).mono ?_); rintro e w2 ⟨rfl, rfl⟩)
    obtain ⟨⟨r0, r1, r2⟩, z0, z1, z2⟩ := poly3 rr1
    obtain ⟨a0, a1, a2, a3, a4⟩ := fill_box (base := w.heap.size) rr1 (ownP_nil w1 w.heap.size) (Nat.le_refl _) hbw1 (by omega) 0 0
    have A0 := Lib.hid a0
    have A1 := Lib.hid a1
    have A2 := Lib.hid a2
    have A3 := Lib.hid a3
    have A4 := Lib.hid a4
    clear a0 a1 a2 a3 a4
    go_wp2_with fail
    exact bodyPost_ret (v := .tuple #[.agg #[.int .i64 0, .int .i64 0, .slice none 0 0], .int .i64 2]) (by simp [results, Tryz.results39, go_sem, A0.out, A1.out, A2.out]) rfl ⟨_, rfl, A3.out, A4.out⟩
  · obtain ⟨m, rfl, rfl, rfl, hG⟩ := grpP_of HBY.out HXB.out hc
    rw [hc]
    have HD := Lib.hid (show (decide (1 ≤ k) && decide (k ≤ 12)) = true by simpa using hk)
    have hw := (deg_w hG.valid hk.1 hk.2).2
    have hn : decide (12 < k * max (degI xs) 0) = true := by simpa using hd
    have hDG := Lib.hid (specDegree_any q (m : Int) (.slice ua xs.length uc) xs w1 hxl hU1 HXB.out)
    obtain ⟨⟨x0, x1, x2⟩, _⟩ := poly3 rx1
    clear hc ho hd hk
    go_wp2_with fail
    ((with_reducible refine (sin_is k 1 12 w1 _ HD.out).mono ?_); rintro e w2 ⟨rfl, rfl⟩)
    go_wp2_with fail
    ((with_reducible refine hDG.out.mono ?_); rintro e w2 ⟨rfl, hb2⟩)
    have rr2 := rowIs_below rr1 hb2 rr1.lt
    have hbw2 := hbw1.trans (hb2.mono hbw1.size)
    clear x0 x1 x2 hDG hG
    generalize degI xs = dg at *
    obtain ⟨⟨r0, r1, r2⟩, z0, z1, z2⟩ := poly3 rr2
    obtain ⟨a0, a1, a2, a3, a4⟩ := fill_box (base := w.heap.size) rr2 (ownP_nil w2 w.heap.size) (Nat.le_refl _) hbw2 (by omega) 0 0
    have A0 := Lib.hid a0
    have A1 := Lib.hid a1
    have A2 := Lib.hid a2
    have A3 := Lib.hid a3
    have A4 := Lib.hid a4
    clear a0 a1 a2 a3 a4
    go_wp2_with fail
    exact bodyPost_ret (v := .tuple #[.agg #[.int .i64 0, .int .i64 0, .slice none 0 0], .int .i64 3]) (by simp [results, Tryz.results39, go_sem, A0.out, A1.out, A2.out]) rfl ⟨_, rfl, A3.out, A4.out⟩
  · obtain ⟨m, rfl, rfl, rfl, hG⟩ := grpP_of HBY.out HXB.out hc
    obtain rfl : m = m' := by omega
    rw [hc]
    have HDK := Lib.hid (show (decide (1 ≤ k) && decide (k ≤ 12)) = true by simpa using hk)
    have hkk : 1 ≤ k := hk.1
    have hk12 : k ≤ 12 := hk.2
    have hw := (deg_w hG.valid hk.1 hk.2).2
    have hn : decide (12 < k * max (degI xs) 0) = false := by simpa using hd
    have hDG := Lib.hid (specDegree_any q (m : Int) (.slice ua xs.length uc) xs w1 hxl hU1 HXB.out)
    obtain ⟨⟨x0, x1, x2⟩, _⟩ := poly3 rx1
    have HR := Lib.hid hR
    have HD := Lib.hid (hG.orbD (K := k) (by omega) hd)
    have HV := Lib.hid hG.orbV
    have HPV := Lib.hid (hG.powV hkk hd)
    have hO1 := hG.orb1
    have hO48 := hG.orb48
    have hp2 := hG.p2
    have hp13 := hG.p13
    have HPO := Lib.hid (fun v w h1 h2 => spor hG v (.slice ua xs.length uc) w h1 h2)
    unfold psR at HR
    generalize orbL (allL q m L xs) = O at *
    have HSM := Lib.hid (fun w u v h => sadd q m u v (O.map (powT q k.toNat)) w hp2 hp13 (by rw [List.length_map]; omega) HPV.out h)
    clear hc ho hd hk hR hm' HPV
    go_wp2_with fail
    ((with_reducible refine (sin_is k 1 12 w1 _ HDK.out).mono ?_); rintro e w2 ⟨rfl, rfl⟩)
    go_wp2_with fail
    ((with_reducible refine hDG.out.mono ?_); rintro e w2 ⟨rfl, hb2⟩)
    have rr2 := rowIs_below rr1 hb2 rr1.lt
    have rg2 := rowIs_below rg1 hb2 rg1.lt
    have rx2 := rowIs_below rx1 hb2 rx1.lt
    have hbw2 := hbw1.trans (hb2.mono hbw1.size)
    have hS2 := hS1.below hb2
    have hU2 := hU1.below hb2
    have hs2 := hb2.size
    clear x0 x1 x2 hDG hG rr1 rg1 rx1 hS1 hU1 hb2
    generalize degI xs = dg at *
    obtain ⟨g0, g1, g2⟩ := gcells rg2
    obtain ⟨⟨x0, x1, x2⟩, _⟩ := poly3 rx2
    go_wp2_with fail
    ((with_reducible refine (HPO.out _ w2 hS2 hU2).mono ?_); rintro e w5 ⟨v5, us, rfl, hP5, HB5⟩)
    obtain ⟨b, c, hv5, hwb, hb5⟩ := hP5.at hO1
    subst hv5
    clear g0 g1 g2 x0 x1 x2 HPO rg2
    have hP50 : PRk w5 w2.heap.size q m (.slice (some ⟨b, 0, none⟩) O.length c) us (pwL (powT q k.toNat) O 0) := by rw [pwL_zero]; exact hP5
    go_wp2_with fail
    go_loopw [10] (fun i wr => ∃ (j : Nat) (us : List Value), j ≤ O.length ∧ i = .int .i64 j ∧ PRk wr w2.heap.size q m (.slice (some ⟨b, 0, none⟩) O.length c) us (pwL (powT q k.toNat) O j) ∧ b < wr.heap.size ∧ Below w2.heap.size w2 wr) (fun i _ => O.length - (intOf i).toNat)
    case atStart => exact ⟨0, us, by omega, rfl, hP50, hb5, HB5⟩
    case round =>
      clear hP50 hP5 HB5 hb5
      obtain ⟨j, us, hj, rfl, hP, hbl, hbr⟩ := hrel
      by_cases hlt : j < O.length
      · have hlt' : (j : Int) < (O.length : Int) := by omega
        have hjl : j < (pwL (powT q k.toNat) O j).length := by rw [pwL_len]; exact hlt
        obtain ⟨uu, c0, c1, c2, hX⟩ := hP.nthO hjl
        rw [pwL_at _ _ _ hlt] at hX
        have HVX := Lib.hid (HV.out O[j] (List.getElem_mem hlt))
        have HDX := Lib.hid (HD.out O[j] (List.getElem_mem hlt))
        have HS1 := Lib.hid (pwL_set (powT q k.toNat) O j hlt)
        obtain ⟨Q, hQ⟩ : ∃ Q, pwL (powT q k.toNat) O j = Q := ⟨_, rfl⟩
        obtain ⟨Q', hQ'⟩ : ∃ Q, pwL (powT q k.toNat) O (j + 1) = Q := ⟨_, rfl⟩
        rw [hQ] at hP HS1 hjl
        rw [hQ'] at HS1
        have HQ' := Lib.hid hQ'
        generalize O[j] = X at *
        obtain ⟨sa, sc, rfl⟩ := owns_slice hX
        have HNX := Lib.hid (fun L (h : PowL q X k.toNat L) => powT_eq HVX.out HDX.out (j := k.toNat) (by omega) h)
        clear hQ hQ'
        go_wp2_with fail
        ((with_reducible refine (specPowL q (m : Int) k _ X wr (OwnP.slice hX) HVX.out (by omega) hk12 HDX.out).mono ?_); rintro e w13 ⟨v13, L13, rfl, ho13, hI13, hb13⟩)
        obtain rfl := HNX.out _ hI13
        obtain ⟨sa13, sc13, rfl⟩ := owns_slice ho13
        have hP13 := hP.below hb13
        obtain ⟨V2, hV2, hbV2, _, rq⟩ := newbox w13 q (m : Int) (.slice sa13 (powT q k.toNat X).length sc13)
        have hPV := hP13.below hbV2
        have hPN := hPV.put hjl (owns_low (owns_belowT ho13 hbV2) (Nat.zero_le _))
        rw [HS1.out] at hPN
        have hbN := setB (i0 := j * 3) (i1 := j * 3 + 1) (i2 := j * 3 + 2) (hbr.trans ((hb13.trans (hbV2.mono hb13.size)).mono hbr.size)) hwb (.int .i64 q) (.int .i64 (m : Int)) (.slice sa13 (powT q k.toNat X).length sc13)
        have hbV : b < V2.heap.size := Nat.lt_of_lt_of_le (Nat.lt_of_lt_of_le hbl hb13.size) hbV2.size
        obtain ⟨⟨q0, q1, q2⟩, _⟩ := poly3 rq
        obtain ⟨yy3, e0, e1, e2, _⟩ := hPV.nthO hjl
        have f0 := hPV.froz (j * 3)
        have f1 := hPV.froz (j * 3 + 1)
        have f2 := hPV.froz (j * 3 + 2)
        clear c0 c1 c2 hX hP hP13 hPV ho13 hI13 rq
        go_upto_region 13 with fail
        rw [← hV2]
        clear hV2
        go_wp2_with fail
        go_roundw
        case rel => exact ⟨j + 1, _, by omega, by go_num, by rw [HQ'.out]; exact hPN, by simpa using hbV, hbN⟩
        case measure => simp [intOf]; omega
      · obtain rfl : j = O.length := by omega
        rw [pwL_all] at hP
        have hSr : SlPn wr q m _ _ := hP.slP
        have HSM2 := Lib.hid (HSM.out _ (.slice ua xs.length uc) _ hSr)
        obtain ⟨⟨x0, x1, x2⟩, _⟩ := poly3 (rowIs_below rx2 hbr rx2.lt)
        clear hSr
        go_wp2_with fail
        ((with_reducible refine HSM2.out.mono ?_); rintro e w3 ⟨v3, S3, rfl, ho3, hI3, hb3⟩)
        obtain rfl : S3 = S := hI3.unique HR.out
        obtain ⟨sa3, sc3, rfl⟩ := owns_slice ho3
        have HB3 := hbr.trans (hb3.mono hbr.size)
        have rr3 := rowIs_below rr2 HB3 rr2.lt
        obtain ⟨⟨r0, r1, r2⟩, z0, z1, z2⟩ := poly3 rr3
        obtain ⟨a0, a1, a2, a3, a4⟩ := fill_box (w := w) rr3 ho3 (Nat.le_trans hbw2.size hbr.size) (hbw2.trans (HB3.mono hbw2.size)) (by omega) q (m : Int)
        have A0 := Lib.hid a0
        have A1 := Lib.hid a1
        have A2 := Lib.hid a2
        have A3 := Lib.hid a3
        have A4 := Lib.hid a4
        clear a0 a1 a2 a3 a4
        go_wp2_with fail
        exact bodyPost_ret (v := .tuple #[.agg #[.int .i64 q, .int .i64 (m : Int), .slice sa3 S3.length sc3], .int .i64 0]) (by simp [results, Tryz.results39, go_sem, A0.out, A1.out, A2.out]) rfl ⟨_, rfl, A3.out, A4.out⟩
end Go.Proofs.YtllklhakbanhaaaGreat
