/-
  WALKS: 'spec.l01Replace'. Conditions: as the theorem states.
-/
import Derived.Test.YtllklhakbanhaaaGreatQ36
namespace Go.Proofs.YtllklhakbanhaaaGreat
open Go.RowKit Go.Sort Go.Maps

set_option maxRecDepth 8000 in
set_option maxHeartbeats 32000000 in
theorem sRep (p d d' : Int) (v lv : Value) (xs : List Tm) (G : List Pm) (P : Int × Int × Int → List Tm) (w : World) (hLP : ListP p d G) (hX : Valid p d' xs) (hz : ∀ t ∈ xs, ∀ i, G.length ≤ i → nthE (tmE t) i = 0) (hP : Bnd (tmsL G) xs → Subs p (tmsL G) xs P) (hS : SliceT w v xs) (hG : SlP w lv G) :
    Calls Tryz.prog 124 #[.agg #[.int .i64 p, .int .i64 d', v], lv] w fun e w' =>
      ((Bnd (tmsL G) xs ∧ ∃ v' L, e = .returned (.tuple #[.agg #[.int .i64 p, .int .i64 d, v'], .bool true]) ∧ OwnP w' w.heap.size v' L ∧ IsP p L (subF p P xs)) ∨
        (¬ Bnd (tmsL G) xs ∧ ∃ v', e = .returned (.tuple #[.agg #[.int .i64 p, .int .i64 d, v'], .bool false]) ∧ SliceT w' v' [])) ∧ Below w.heap.size w w' := by
  have hl1 := hLP.l1
  have hl3 := hLP.l3
  have hlx := hX.isP.len
  obtain ⟨a, cap, rfl, _⟩ := id hS
  obtain ⟨la, lc, rfl, hc⟩ := id hG
  obtain ⟨bl, off, rfl, hbl, hT⟩ : ∃ bl off, la = some ⟨bl, off, none⟩ ∧ bl < w.heap.size ∧ PolysW w bl off G := by
    rcases hc with h | h
    · rw [h] at hl1; simp at hl1
    · exact h
  have hl0' : (0 : Int) < (G.length : Int) := by omega
  have hl0 : 0 < G.length := by omega
  obtain ⟨W, hW, hbW, ⟨hWs1, hWs2⟩, rx, rr⟩ : ∃ W, W = (w.alloc (.cells #[.int .i64 p, .int .i64 d', .slice a xs.length cap] 39)).alloc (.cells #[.int .i64 0, .int .i64 0, .slice none 0 0] 39) ∧ Below w.heap.size w W ∧ (W.heap.size ≤ w.heap.size + 2 ∧ w.heap.size + 2 ≤ W.heap.size) ∧
      W.rowIs w.heap.size 39 3 (polyF p d' (.slice a xs.length cap)) ∧ W.rowIs (w.heap.size + 1) 39 3 (polyF 0 0 (.slice none 0 0)) := boxes2 w p d' (.slice a xs.length cap)
  have HT := Lib.hid hT
  have hok0 := hLP.ok G[0] (List.getElem_mem (by omega))
  obtain ⟨u0, t0, t1, t2, t3⟩ := (hT.below hbW hbl) 0 (by omega)
  rw [hok0.1, Nat.zero_mul, Nat.add_zero] at t0
  rw [hok0.2.1, Nat.zero_mul, Nat.add_zero] at t1
  have hblW : bl < W.heap.size := Nat.lt_of_lt_of_le hbl hbW.size
  have KK := Lib.hid (fun w' (h : Below W.heap.size W w') => show (w'.cell? ⟨bl, off, none⟩ = some (.int .i64 p) ∧ w'.cell? ⟨bl, off + 1, none⟩ = some (.int .i64 d)) from
    ⟨(h.cell (p := ⟨bl, _, none⟩) hblW).trans t0, (h.cell (p := ⟨bl, _, none⟩) hblW).trans t1⟩)
  clear hT hc t2 t3
  go_enter Tryz.func124, Tryz.ntmps124
  go_upto_region 1 with fail
  rw [← hW]
  clear hW t0 t1
  go_cut [6] (fun s6 wx => ∃ (bq : Nat) (A : Option Addr) (c : Nat), s6 = .pointer (some ⟨bq, 0, none⟩) ∧ wx.rowIs bq 39 3 (polyF p d (.slice A 0 c)) ∧ Below W.heap.size W wx ∧ W.heap.size ≤ bq ∧ OwnP wx W.heap.size (.slice A 0 c) [])
  case first =>
    go_region_held3 (fun w' => (w'.cell? ⟨bl, off, none⟩ = some (.int .i64 p) ∧ w'.cell? ⟨bl, off + 1, none⟩ = some (.int .i64 d)))
      (first | with_reducible exact KK.out _ (setL3 HB13 (Nat.le_refl _) _ _ _) | with_reducible exact KK.out _ (Below.same _).drew | with_reducible exact KK.out _ (box1 _ _).drew | with_reducible exact KK.out _ HB13 | with_reducible exact KK.out _ (HB13.trans ((box1 _ _).mono HB13.size)) | with_reducible exact KK.out _ (setL3 (HB13.trans ((box1 _ _).mono HB13.size)) HB13.size _ _ _))
      ((go_at_call 92; (with_reducible refine (empty_any p d _).mono ?_); rintro e w13 ⟨rfl, hown13, hb13⟩; have HB13 : Below W.heap.size W w13 := (by first | exact (Below.same _).drew.trans hb13 | with_reducible exact (box1 _ _).drew.trans (hb13.mono (by simp))); (first | (have ZR13 : w13.rowIs W.heap.size 39 3 (polyF 0 0 (.slice none 0 0)) := rowIs_below (zboxD W) hb13 (by simp); obtain ⟨⟨e130, e131, e132⟩, f130, f131, f132⟩ := poly3 ZR13) | skip)))
    all_goals
      go_wp2_with fail
      go_meet
      first
        | exact ⟨w13.heap.size, _, _, rfl, World.rowIs_alloc w13 #[Value.int .i64 p, .int .i64 d, _] _ _ (fun i hi => by simp at hi; match i, hi with | 0, _ => rfl | 1, _ => rfl | 2, _ => rfl), HB13.trans ((box1 _ _).mono HB13.size), HB13.size, owns_low (owns_belowT hown13 (box1 _ _)) (by first | exact Nat.le_refl _ | simp)⟩
        | exact ⟨W.heap.size, _, _, rfl, (setB3 (S := []) ZR13 ⟨_, _, rfl, .inl rfl⟩ p d).1, setL3 HB13 (Nat.le_refl _) _ _ _, Nat.le_refl _, (by have q := owns_low (base' := W.heap.size) hown13 (by simp); simp at q; exact rep_own3 (show OwnP w13 W.heap.size (.slice (some ⟨W.heap.size + 1 + 1, 0, none⟩) 0 0) [] from q) ZR13)⟩
  case rest =>
    obtain ⟨bq, A0, c0, rfl, rq, hbq, hqW, hq0⟩ := hcut
    have st0 : RepS w wc bq p d d' (.slice a xs.length cap) (.slice A0 0 c0) [] := ⟨rq, owns_low hq0 hbW.size, rowIs_below rx hbq rx.lt, rowIs_below rr hbq rr.lt, hbW.trans (hbq.mono hbW.size), by omega⟩
    obtain ⟨sv0, hsv0⟩ : ∃ sv0, (.slice A0 0 c0 : Value) = sv0 := ⟨_, rfl⟩
    have HA0 := Lib.hid hsv0
    have hSW := hS
    have HV := Lib.hid hX
    have HD := Lib.hid (fun i => show dgN (tmsL G) i ≤ 12 from by
      by_cases h : i < G.length
      · unfold dgN
        rw [tmsL_nth h]
        exact (max_deg (hLP.ok _ (List.getElem_mem h)).2.2).2
      · rw [dgN_ge (by rw [tmsL_len]; omega)]
        omega)
    have HPV : Hid (∀ (m : Nat) (h : m < G.length), G[m].1 = p ∧ G[m].2.1 = d ∧ Valid p d G[m].2.2) := Lib.hid (fun m hm => hLP.ok _ (List.getElem_mem hm))
    have HF := Lib.hid (fun e => bndK_full (Ls := tmsL G) (by rw [tmsL_len]; omega) (by rw [tmsL_len]; omega) e)
    have HLN := Lib.hid (tmsL_len G)
    have HLT := Lib.hid hLP.tms
    have HXZ := Lib.hid hz
    have HSB := Lib.hid hP
    clear hok0 KK rq rx rr hbq hsv0 hbW hX hz hP hLP hG
    go_wp2_with fail
    go_loopw [7] (fun i wr => ∃ k : Nat, k ≤ xs.length ∧ i = .int .i64 k ∧ Hid (∀ (j : Nat) (h : j < xs.length), j < k → bndE (tmsL G) (tmE xs[j]) ≤ 12) ∧ RepS w wr bq p d d' (.slice a xs.length cap) (.slice A0 0 c0) []) (fun i _ => xs.length - (intOf i).toNat)
    case atStart => exact ⟨0, by omega, rfl, Lib.hid (fun j _ h => by omega), st0⟩
    case round =>
      clear st0
      obtain ⟨k, hk, rfl, HU, st⟩ := hrel
      obtain ⟨wo, rfl⟩ : ∃ wo : World, wo = wr := ⟨_, rfl⟩
      obtain ⟨⟨c0', c1', c2'⟩, _⟩ := poly3 st.arg
      by_cases hlt : k < xs.length
      · have hlt' : (k : Int) < (xs.length : Int) := by omega
        obtain ⟨A1, cap1, hv1, hcase1⟩ := hS
        simp at hv1
        obtain ⟨rfl, rfl⟩ := hv1
        rcases hcase1 with h0 | ⟨b1, off1, rfl, hltb1, hTx⟩
        · rw [h0] at hlt; exact absurd hlt (by simp)
        have HTX := Lib.hid hTx
        have hm12 := (HV.out.mem xs[k] (List.getElem_mem _)).1
        have HE := Lib.hid (nthE_bound hm12)
        have HBK := Lib.hid (bndK_bound (Ls := tmsL G) hm12 HD.out)
        have HNT := Lib.hid (fun (w' : World) (hb : Below w.heap.size w w') (m : Nat) (hm : m < 3) => nthT_cell (hTx.below hb hltb1) hlt hm)
        generalize hex : tmE xs[k] = e at HE HBK HNT
        clear hTx hm12 hSW
        go_wp2_with fail
        clear c0' c1' c2'
        go_loopw [9, 8] (fun i bd wr => ∃ m : Nat, m ≤ G.length ∧ i = .int .i64 m ∧ bd = .int .i64 (bndK (tmsL G) e m) ∧ RepS w wr bq p d d' (.slice (some ⟨b1, off1, none⟩) xs.length cap) (.slice A0 0 c0) []) (fun i _ _ => G.length - (intOf i).toNat)
        case atStart => exact ⟨0, by omega, rfl, rfl, st⟩
        case round =>
          clear st
          obtain ⟨m, hm, rfl, rfl, st⟩ := hrel
          by_cases hlm : m < G.length
          · have hlm' : (m : Int) < (G.length : Int) := by omega
            have hm3 : m < 3 := by omega
            have hm3' : (m : Int) < 3 := by omega
            obtain ⟨uv, g0, g1, g2, hu⟩ := (HT.out.below st.below hbl) m hlm
            obtain ⟨ua, uc, rfl, _⟩ := id hu
            have hv := (HPV.out m hlm).2.2
            have hDG : dgN (tmsL G) m = max (degI G[m].2.2) 0 := by unfold dgN; rw [tmsL_nth hlm]
            obtain ⟨dg1, dg2⟩ := deg_bound hv
            have hlg := hv.isP.len
            have kD : ∀ dd os, Calls Tryz.prog 73 #[.agg #[.int .i64 G[m].1, .int .i64 G[m].2.1, .slice ua G[m].2.2.length uc]] (grow (redrawn wr dd) os) fun e w'' => e = .returned (.int .i64 (degI G[m].2.2)) ∧ ∃ p : Regrown, w'' = grow (redrawn wr p.d) p.os := fun dd os =>
              Calls.regrown_of (specDegree_any _ _ _ _ _ (by omega) (hu.below (below_regrown wr dd os)) (hv.isP.byte hv.p13))
            obtain ⟨⟨x0, x1, x2⟩, _⟩ := poly3 st.arg
            have k0 := cell_regrown x2
            have k1 := cell_regrown (HNT.out wr st.below m hm3)
            have k2 := cell_regrown g0
            have k3 := cell_regrown g1
            have k4 := cell_regrown g2
            obtain ⟨e0, e1⟩ := HE.out m
            obtain ⟨bk0, bk1⟩ := HBK.out m
            obtain ⟨mx, hmx⟩ : ∃ mx, max (degI G[m].2.2) 0 = mx := ⟨_, rfl⟩
            have hmx1 : 0 ≤ mx ∧ mx ≤ 12 := by omega
            rw [hmx] at hDG
            have HNX : Hid (bndK (tmsL G) e (m + 1) = bndK (tmsL G) e m + nthE e m * mx) := Lib.hid (by rw [bndK, hDG])
            have m0 : 0 ≤ nthE e m * mx := Int.mul_nonneg e0 hmx1.1
            have m1 : nthE e m * mx ≤ 12 * 12 := Int.mul_le_mul e1 hmx1.2 hmx1.1 (by omega)
            have hw1 : IntKind.i64.wrap (nthE e m * mx) = nthE e m * mx := IntWalk.i64_in _ (by omega)
            have hw2 : IntKind.i64.wrap (bndK (tmsL G) e m + nthE e m * mx) = bndK (tmsL G) e m + nthE e m * mx := IntWalk.i64_in _ (by omega)
            obtain ⟨E, hE⟩ : ∃ E, nthE e m = E := ⟨_, rfl⟩
            obtain ⟨S, hS2⟩ : ∃ S, bndK (tmsL G) e m = S := ⟨_, rfl⟩
            rw [hE] at k1 HNX m0 m1 hw1 hw2 e0 e1
            rw [hS2] at HNX hw2 bk0 bk1 ⊢
            clear x0 x1 x2 g0 g1 g2 hu hv hDG hE hS2 hlg
            go_wp2_with fail
            refine wp_region_quiet_below (by kernel_rfl) (by kernel_rfl) ?_
            repeat (go_big_quiet_step (with_reducible exact kD _ _))
            refine wpQuiet_nil ?_
            intro _ hw'
            obtain ⟨⟨dq, osq⟩, hw''⟩ := hw'
            subst hw''
            have hst := st.later (below_regrown wr dq osq)
            generalize grow (redrawn wr dq) osq = w7 at *
            clear k0 k1 k2 k3 k4 kD
            go_wp2_with fail
            go_roundw
            case rel => exact ⟨m + 1, by omega, by go_num, by rw [HNX.out], hst⟩
            case measure => simp [intOf]; omega
          · obtain rfl : m = G.length := by omega
            have hF := HF.out e
            rw [HLN.out] at hF
            rw [hF]
            obtain ⟨bk0, bk1⟩ := HBK.out G.length
            rw [hF] at bk0 bk1
            by_cases hb12 : bndE (tmsL G) e ≤ 12
            · have hN : Hid (∀ (j : Nat) (h : j < xs.length), j < k + 1 → bndE (tmsL G) (tmE xs[j]) ≤ 12) := Lib.hid (fun j hj hjk => by
                by_cases e : j = k
                · subst e; rw [hex]; exact hb12
                · exact HU.out j hj (by omega))
              have hgt : decide (12 < bndE (tmsL G) e) = false := by simpa using hb12
              clear hb12 hF
              go_wp2_with fail
              go_roundw
              case rel => exact ⟨k + 1, by omega, by go_num, hN, st⟩
              case measure => simp [intOf]; omega
            · have HO : Hid (¬ Bnd (tmsL G) xs) := Lib.hid (fun h => hb12 (by rw [← hex]; exact h _ (List.getElem_mem hlt)))
              have hgt : decide (12 < bndE (tmsL G) e) = true := by simpa using hb12
              clear hb12 hF
              obtain ⟨⟨q0, q1, q2⟩, _⟩ := poly3 st.out
              obtain ⟨⟨r0, r1, r2⟩, z0, z1, z2⟩ := poly3 st.res
              have hA := (setB3 st.res (OwnP.slice st.rows) p d)
              have hL := setL3 st.below (B0 := w.heap.size + 1) (by omega) (.int .i64 p) (.int .i64 d) (.slice A0 0 c0)
              obtain ⟨⟨m0, m1, m2⟩, _⟩ := poly3 hA.1
              go_wp2_with fail
              exact bodyPost_ret (v := .tuple #[.agg #[.int .i64 p, .int .i64 d, .slice A0 0 c0], .bool false]) (by simp [results, Tryz.results124, go_sem, m0, m1, m2]) rfl ⟨.inr ⟨HO.out, _, rfl, hA.2⟩, hL⟩
      · obtain rfl : k = xs.length := by omega
        have hBnd : Bnd (tmsL G) xs := fun t ht => by
          obtain ⟨j, hj, rfl⟩ := List.mem_iff_getElem.1 ht
          exact HU.out j hj hj
        have HS2 := Lib.hid (HSB.out hBnd)
        have HBN := Lib.hid hBnd
        clear hBnd HU
        go_wp2_with fail
        clear c0' c1' c2'
        have HO0 : Hid (IsP p [] (subF p P (xs.take 0))) := Lib.hid ((IsP.nil p).congr fun e _ => (subF_zero p P xs e).symm)
        have st1 : ∃ sv, RepS w wo bq p d d' (.slice a xs.length cap) sv [] := ⟨_, st⟩
        clear st
        obtain ⟨svS, st1⟩ := st1
        go_loopw [10] (fun i wr => ∃ (k : Nat) (sv : Value) (O : List Tm), k ≤ xs.length ∧ i = .int .i64 k ∧ Hid (IsP p O (subF p P (xs.take k))) ∧ RepS w wr bq p d d' (.slice a xs.length cap) sv O) (fun i _ => xs.length - (intOf i).toNat)
        case atStart => exact ⟨0, _, _, by omega, rfl, HO0, st1⟩
        case round =>
          clear st1 HO0
          obtain ⟨k, sv, O, hk, rfl, HO, st⟩ := hrel
          obtain ⟨wo, rfl⟩ : ∃ wo : World, wo = wr := ⟨_, rfl⟩
          obtain ⟨sa, sc, rfl⟩ := owns_slice st.rows
          obtain ⟨⟨c0', c1', c2'⟩, _⟩ := poly3 st.arg
          obtain ⟨⟨q0, q1, q2⟩, y0, y1, y2⟩ := poly3 st.out
          by_cases hlt : k < xs.length
          · have hlt' : (k : Int) < (xs.length : Int) := by omega
            obtain ⟨A1, cap1, hv1, hcase1⟩ := hS
            simp at hv1
            obtain ⟨rfl, rfl⟩ := hv1
            rcases hcase1 with h0 | ⟨b1, off1, rfl, hltb1, hTx⟩
            · rw [h0] at hlt; exact absurd hlt (by simp)
            obtain ⟨⟨hm12, hs12⟩, bu1, bu2⟩ := HV.out.mem xs[k] (List.getElem_mem _)
            have hm : mono12 (tmE xs[k]) := ⟨hm12, hs12⟩
            have HNT := Lib.hid (fun (w' : World) (hb : Below w.heap.size w w') (m : Nat) (hm : m < 3) => nthT_cell (hTx.below hb hltb1) hlt hm)
            have HE := Lib.hid (nthE_bound hm)
            have hpr := HS2.out xs[k] (List.getElem_mem _)
            have HSTEP := Lib.hid (fun (L : List Tm) (hL : ∀ e, byte3 e → atL L e = xs[k].2.2.2 * atL (P (tmE xs[k])) e % p) e he => sub_step (P := P) hlt hL e he)
            obtain ⟨_, _, _, cu⟩ := hTx.below st.below hltb1 k hlt
            have hbnd := HBN.out xs[k] (List.getElem_mem _)
            rw [← HF.out, HLN.out] at hbnd
            have HSUM := Lib.hid (fun (m j : Nat) (hj : (j : Int) ≤ nthE (tmE xs[k]) m) (hmn : m < G.length) => sumD_facP (Ls := tmsL G) hm hj hmn hbnd)
            have HFV := Lib.hid (fun (m j : Nat) => facP_valid (HPV.out 0 (by omega)).2.2 HLT.out (tmE xs[k]) m j)
            have HFK := Lib.hid (facK_full (Ls := tmsL G) hl1 hl3 (HXZ.out xs[k] (List.getElem_mem _)))
            generalize hu : xs[k].2.2.2 = u at cu bu1 bu2 HSTEP
            generalize hex : tmE xs[k] = e at HNT HE hpr HSUM HFV HFK HSTEP
            have HPR := Lib.hid hpr
            have hpp := HV.out.p2
            have hpp13 := HV.out.p13
            obtain ⟨O1, hO1⟩ : ∃ O1, putL p [] (0, 0, 0) u = O1 := ⟨_, rfl⟩
            have HO1 : Hid (PrV p u (facP (tmsL G) e 0 0) O1) := Lib.hid (by rw [← hO1]; exact PrV.one (HPV.out 0 (by omega)).2.2)
            have hblo : b1 < wo.heap.size := Nat.lt_of_lt_of_le hltb1 st.below.size
            have KK := Lib.hid (fun w' (h : Below wo.heap.size wo w') => show ((w'.cell? ⟨bq, 0, none⟩ = some (.int .i64 p) ∧ w'.cell? ⟨bq, 1, none⟩ = some (.int .i64 d)) ∧ (w'.cell? ⟨w.heap.size, 2, none⟩ = some (.slice (some ⟨b1, off1, none⟩) xs.length cap) ∧ w'.cell? ⟨b1, off1 + k * 4 + 3, none⟩ = some (.int .i64 u))) from
              ⟨⟨(h.cell (p := ⟨bq, _, none⟩) st.out.lt).trans q0, (h.cell (p := ⟨bq, _, none⟩) st.out.lt).trans q1⟩, (h.cell (p := ⟨w.heap.size, _, none⟩) st.arg.lt).trans c2', (h.cell (p := ⟨b1, _, none⟩) hblo).trans cu⟩)
            have H1A := Lib.hid (fun w => one_any p d 0 0 0 u w hpp hpp13 (by unfold byte3; simp) (by omega) (by omega))
            rw [hO1] at H1A
            clear hTx hm hm12 hs12 hpr hbnd hO1 hu hex
            go_upto_region 15 with fail
            clear c0' c1' c2' q0 q1 q2 y0 y1 y2 cu
            go_cut [11] (fun s11 wx => ∃ (bo : Nat) (A : Option Addr) (c : Nat), s11 = .pointer (some ⟨bo, 0, none⟩) ∧ wx.rowIs bo 39 3 (polyF p d (.slice A O1.length c)) ∧ SliceT wx (.slice A O1.length c) O1 ∧ Below wo.heap.size wo wx ∧ wo.heap.size ≤ bo)
            case first =>
              go_region_held3 (fun w' => ((w'.cell? ⟨bq, 0, none⟩ = some (.int .i64 p) ∧ w'.cell? ⟨bq, 1, none⟩ = some (.int .i64 d)) ∧ (w'.cell? ⟨w.heap.size, 2, none⟩ = some (.slice (some ⟨b1, off1, none⟩) xs.length cap) ∧ w'.cell? ⟨b1, off1 + k * 4 + 3, none⟩ = some (.int .i64 u))))
                (first | with_reducible exact KK.out _ (setL3 HB13 (Nat.le_refl _) _ _ _) | with_reducible exact KK.out _ (Below.same _).drew | with_reducible exact KK.out _ (box1 _ _).drew | with_reducible exact KK.out _ HB13 | with_reducible exact KK.out _ (HB13.trans ((box1 _ _).mono HB13.size)))
                ((go_at_call 99; (with_reducible refine (H1A.out _).mono ?_); rintro e w13 ⟨v13, rfl, ho13, hb13⟩; have HB13 : Below wo.heap.size wo w13 := (by first | exact (Below.same _).drew.trans hb13 | with_reducible exact (box1 _ _).drew.trans (hb13.mono (by simp))); (first | (have ZR13 : w13.rowIs wo.heap.size 39 3 (polyF 0 0 (.slice none 0 0)) := rowIs_below (zboxD wo) hb13 (by simp); obtain ⟨⟨e130, e131, e132⟩, f130, f131, f132⟩ := poly3 ZR13) | skip); (obtain ⟨sa13, sc13, rfl⟩ := owns_slice ho13)))
              all_goals
                go_wp2_with fail
                go_meet
                first
                  | exact ⟨w13.heap.size, sa13, sc13, rfl, World.rowIs_alloc w13 #[Value.int .i64 p, .int .i64 d, .slice sa13 O1.length sc13] _ _ (fun i hi => by simp at hi; match i, hi with | 0, _ => rfl | 1, _ => rfl | 2, _ => rfl), (OwnP.slice ho13).below (box1 _ _), HB13.trans ((box1 _ _).mono HB13.size), HB13.size⟩
                  | exact ⟨wo.heap.size, sa13, sc13, rfl, (setB3 ZR13 (OwnP.slice ho13) p d).1, (setB3 ZR13 (OwnP.slice ho13) p d).2, setL3 HB13 (Nat.le_refl _) _ _ _, Nat.le_refl _⟩
            case rest =>
              obtain ⟨bo, A2, c2, rfl, ro, ho, hbo, hbo2⟩ := hcut
              have hqo : bo ≠ bq := by have := st.out.lt; omega
              have hbo3 : w.heap.size + 2 ≤ bo := by have := st.out.lt; have := st.q2; omega
              have st2 := st.later hbo
              clear st KK H1A hbo hbo2
              go_wp2_with fail
              go_loopw [12] (fun i wr => ∃ (m : Nat) (sv2 : Value) (O2 : List Tm), m ≤ G.length ∧ i = .int .i64 m ∧ Hid (PrV p u (facP (tmsL G) e m 0) O2) ∧ wr.rowIs bo 39 3 (polyF p d sv2) ∧ SliceT wr sv2 O2 ∧ RepS w wr bq p d d' (.slice (some ⟨b1, off1, none⟩) xs.length cap) (.slice sa O.length sc) O) (fun i _ => G.length - (intOf i).toNat)
              case atStart => exact ⟨0, _, O1, by omega, rfl, HO1, ro, ho, st2⟩
              case round =>
                clear st2 ro ho HO1
                obtain ⟨m, sv2, O2, hm, rfl, HO2, ro, ho, st⟩ := hrel
                obtain ⟨wm, rfl⟩ : ∃ wm : World, wm = wr := ⟨_, rfl⟩
                by_cases hlm : m < G.length
                · have hlm' : (m : Int) < (G.length : Int) := by omega
                  have hm3 : m < 3 := by omega
                  have hm3' : (m : Int) < 3 := by omega
                  obtain ⟨⟨x0, x1, x2⟩, _⟩ := poly3 st.arg
                  have cE := HNT.out wm st.below m hm3
                  obtain ⟨e0, e1⟩ := HE.out m
                  obtain ⟨E, hE⟩ : ∃ E : Nat, nthE e m = (E : Int) := ⟨(nthE e m).toNat, by omega⟩
                  have HFU : Hid (facP (tmsL G) e m E = facP (tmsL G) e (m + 1) 0) := Lib.hid (by
                    rw [facP_zero, ← facP_full, hE]; rfl)
                  have HSM := Lib.hid (fun (j : Nat) (hj : j ≤ E) => HSUM.out m j (by rw [hE]; omega) hlm)
                  have hv := (HPV.out m hlm)
                  have HTM := Lib.hid (tmsL_nth hlm)
                  rw [hE] at cE e1
                  have HVM := Lib.hid hv
                  clear hE e0 hv
                  go_wp2_with fail
                  clear x0 x1 x2 cE
                  go_loopw [13] (fun i wr => ∃ (j : Nat) (sv3 : Value) (O3 : List Tm), j ≤ E ∧ i = .int .u8 ((E : Int) - j) ∧ Hid (PrV p u (facP (tmsL G) e m j) O3) ∧ wr.rowIs bo 39 3 (polyF p d sv3) ∧ SliceT wr sv3 O3 ∧ RepS w wr bq p d d' (.slice (some ⟨b1, off1, none⟩) xs.length cap) (.slice sa O.length sc) O) (fun i _ => (intOf i).toNat)
                  case atStart => exact ⟨0, _, O2, by omega, by simp, HO2, ro, ho, st⟩
                  case round =>
                    clear st ro ho HO2
                    obtain ⟨j, sv3, O3, hj, rfl, HO3, ro, ho, st⟩ := hrel
                    by_cases hlj : j < E
                    · have hpos : (0 : Int) < (E : Int) - j := by omega
                      obtain ⟨sa3, sc3, rfl, _⟩ := id ho
                      obtain ⟨⟨o0, o1, o2⟩, z0, z1, z2⟩ := poly3 ro
                      obtain ⟨uv, g0, g1, g2, hu⟩ := (HT.out.below st.below hbl) m hlm
                      obtain ⟨ua, uc, rfl, _⟩ := id hu
                      rw [HVM.out.1] at g0
                      rw [HVM.out.2.1] at g1
                      obtain ⟨f3, hf3⟩ := HO3.out.isP
                      have hV3 := HVM.out.2.2.of_isP hf3
                      have hsd : sumD (G[m].2.2 :: facP (tmsL G) e m j) ≤ 12 := by rw [← HTM.out, ← facP_succ]; exact HSM.out (j + 1) (by omega)
                      have HRM := Lib.hid (And.intro hV3 (PrV.room (HFV.out m j) hsd HO3.out))
                      have HNXT := Lib.hid (fun (L' : List Tm) (hL' : IsP p L' (mulF p O3 G[m].2.2)) => show PrV p u (facP (tmsL G) e m (j + 1)) L' from by
                        rw [facP_succ, HTM.out]
                        exact PrV.step (HFV.out m j) HVM.out.2.2 hsd HO3.out hL')
                      have hwd : IntKind.u8.wrap ((E : Int) - j - 1) = (E : Int) - j - 1 := IntWalk.u8_in _ (by omega)
                      clear hf3 hV3 hsd
                      go_upto_region 22 with fail
                      go_region_with
                        ((go_at_call 100; (with_reducible refine (specTimes_any p d _ _ O3 G[m].2.2 _ (ho.below (Below.same _).drew) (hu.below (Below.same _).drew) HRM.out.1 HVM.out.2.2 HRM.out.2).mono ?_); rintro e w13 ⟨v13, L13, rfl, ho13, hL13, hb13⟩; have HB13 : Below wr.heap.size wr w13 := (Below.same _).drew.trans hb13; have ZR13 := rowIs_below ro HB13 ro.lt; (obtain ⟨⟨e130, e131, e132⟩, f130, f131, f132⟩ := poly3 ZR13); (obtain ⟨sa13, sc13, rfl⟩ := owns_slice ho13)))
                      all_goals
                        have st13 := (st.later HB13).set3 ZR13 hqo hbo3 (.int .i64 p) (.int .i64 d) (.slice sa13 L13.length sc13)
                        have hset := setB3 ZR13 (OwnP.slice ho13) p d
                        have HN1 := Lib.hid (HNXT.out L13 hL13)
                        have hsub : (E : Int) - j - 1 = (E : Int) - ((j + 1 : Nat) : Int) := by omega
                        have HSUB := Lib.hid hsub
                        clear ho13 o0 o1 o2 z0 z1 z2 g0 g1 g2 ro ho st hu hsub
                        go_wp2_with fail
                        go_roundw
                        case rel => exact ⟨j + 1, _, L13, by omega, by rw [← HSUB.out], HN1, hset.1, hset.2, st13⟩
                        case measure => simp [intOf]; omega
                    · obtain rfl : j = E := by omega
                      have hpos : ¬ (0 : Int) < (j : Int) - j := by omega
                      have HO4 : Hid (PrV p u (facP (tmsL G) e (m + 1) 0) O3) := Lib.hid (by rw [← HFU.out]; exact HO3.out)
                      go_wp2_with fail
                      go_roundw
                      case rel => exact ⟨m + 1, _, O3, by omega, by go_num, HO4, ro, ho, st⟩
                      case measure => simp [intOf]; omega
                · obtain rfl : m = G.length := by omega
                  obtain ⟨sa3, sc3, rfl, _⟩ := id ho
                  obtain ⟨⟨o0, o1, o2⟩, _⟩ := poly3 ro
                  obtain ⟨⟨q0, q1, q2⟩, y0, y1, y2⟩ := poly3 st.out
                  have hO2 := HO2.out
                  rw [facP_zero, HFK.out] at hO2
                  obtain ⟨f2, hf2⟩ := hO2.isP
                  have HV2 := Lib.hid ((HPV.out 0 hl0).2.2.of_isP hf2)
                  have HSTP := Lib.hid (HSTEP.out O2 (fun e' he' => PrV.at hO2 HPR.out e' he'))
                  clear hO2 hf2
                  go_wp2_with fail
                  ((with_reducible refine (specPlus p d 1 _ _ O O2 (subF p P (xs.take k)) _ (OwnP.slice st.rows) ho HO.out HV2.out (by omega) (by omega)).mono ?_); rintro e w13 ⟨v13, L13, rfl, ho13, hL13, hb13⟩)
                  have HN1 : Hid (IsP p L13 (subF p P (xs.take (k + 1)))) := Lib.hid (hL13.congr fun e' he' => HSTP.out e' he')
                  obtain ⟨sa13, sc13, rfl⟩ := owns_slice ho13
                  have st13 := st.later hb13
                  have st14 := st.put hb13 ho13 st.below.size
                  obtain ⟨⟨e130, e131, e132⟩, f130, f131, f132⟩ := poly3 st13.out
                  clear ho13 o0 o1 o2 q0 q1 q2 y0 y1 y2 ro ho st st13 hL13 hb13
                  go_wp2_with fail
                  go_roundw
                  case rel => exact ⟨k + 1, _, L13, by omega, by go_num, HN1, st14⟩
                  case measure => simp [intOf]; omega
          · obtain rfl : k = xs.length := by omega
            have hO := HO.out
            rw [List.take_length] at hO
            have HOF := Lib.hid hO
            obtain ⟨⟨r0, r1, r2⟩, z0, z1, z2⟩ := poly3 st.res
            have hA := (setB3 st.res (OwnP.slice st.rows) p d)
            have hL := setL3 st.below (B0 := w.heap.size + 1) (by omega) (.int .i64 p) (.int .i64 d) (.slice sa O.length sc)
            obtain ⟨⟨m0, m1, m2⟩, _⟩ := poly3 hA.1
            have HOW : OwnP _ w.heap.size (.slice sa O.length sc) O := rep_own3 (i0 := 0) (i1 := 1) (i2 := 2) (x0 := .int .i64 p) (x1 := .int .i64 d) (x2 := .slice sa O.length sc) st.rows st.res
            have HOWN := Lib.hid HOW
            clear hO HO HOW
            go_wp2_with fail
            exact bodyPost_ret (v := .tuple #[.agg #[.int .i64 p, .int .i64 d, .slice sa O.length sc], .bool true]) (by simp [results, Tryz.results124, go_sem, m0, m1, m2]) rfl ⟨.inl ⟨HBN.out, _, O, rfl, HOWN.out, HOF.out⟩, hL⟩
end Go.Proofs.YtllklhakbanhaaaGreat
