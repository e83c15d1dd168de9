/-
  WALKS: 'impl.checkSubstitution'. Conditions: as the theorem states.
-/
import Derived.Test.YtllklhakbanhaaaGreatQ14
import Derived.Deep.RegionWith
namespace Go.Proofs.YtllklhakbanhaaaGreat
open Go.RowKit Go.Sort Go.Maps

/-- A box of a polynomial and one of a list. -/
theorem boxPL (w : World) (p d : Int) (v lv : Value) : ∃ W, W = (w.alloc (.cells #[.int .i64 p, .int .i64 d, v] 39)).alloc (.cells #[lv] 30) ∧ Below w.heap.size w W ∧ (W.heap.size ≤ w.heap.size + 2 ∧ w.heap.size + 2 ≤ W.heap.size) ∧
      W.rowIs w.heap.size 39 3 (polyF p d v) ∧ W.cell? ⟨w.heap.size + 1, 0, none⟩ = some lv := by
  refine ⟨_, rfl, box2 _ _ _, ⟨by simp, by simp⟩, ?_, ?_⟩
  · refine World.rowIs.alloc (World.rowIs_alloc w #[Value.int .i64 p, .int .i64 d, v] _ _ (fun i hi => ?_)) _
    simp at hi; match i, hi with | 0, _ => rfl | 1, _ => rfl | 2, _ => rfl
  · have := (World.rowIs_alloc (w.alloc (.cells #[.int .i64 p, .int .i64 d, v] 39)) #[lv] 30 (fun _ => lv) (fun i hi => by simp at hi; subst hi; rfl)).cell (i := 0) (by simp)
    rwa [World.size_alloc] at this
theorem nthE_cell {w : World} {B : Nat} {x y z u : Int} (h : w.rowIs B 90 4 (tmF x y z u)) {k : Nat} (hk : k < 3) : w.cell? ⟨B, k, none⟩ = some (.int .u8 (nthE (x, y, z) k)) := by
  have := h.cell (i := k) (by omega)
  rw [this]
  match k, hk with
  | 0, _ => rfl
  | 1, _ => rfl
  | 2, _ => rfl

set_option maxRecDepth 8000 in
set_option maxHeartbeats 16000000 in
theorem csub (p d : Int) (v lv : Value) (xs : List Tm) (G : List Pm) (w : World) (hl : xs.length ≤ 1048576) (hS : SliceT w v xs) (hby : ∀ t ∈ xs, tmByte t) (hlG : G.length ≤ 1048576) (hok : ∀ g ∈ G, PmOk g) (hG : SlP w lv G) :
    Calls Tryz.prog 140 #[.agg #[.int .i64 p, .int .i64 d, v], lv] w fun e w' => e = .returned (.int .i64 (subsC p d xs G)) ∧ Below w.heap.size w w' := by
  obtain ⟨a, cap, rfl, _⟩ := id hS
  obtain ⟨la, lc, rfl, hc⟩ := id hG
  obtain ⟨W, hW, hbW, ⟨hWs1, hWs2⟩, rx, rl⟩ := boxPL w p d (.slice a xs.length cap) (.slice la G.length lc)
  obtain ⟨⟨c0, c1, c2⟩, _⟩ := poly3 rx
  have hSW := hS.below hbW
  have hGW := hG.below hbW
  have HI := Lib.hid (inv_any (p, d, xs) (.slice a xs.length cap) W trivial ⟨hby, hl⟩ hSW)
  have HQ : Hid (isPm (p, d, xs) = isPolyB p d xs) := Lib.hid rfl
  go_enter Tryz.func140, Tryz.ntmps140
  go_wp2_with fail
  rw [← hW]
  clear hW
  ((refine HI.out.mono ?_); rintro e w1 ⟨rfl, hb1⟩)
  rw [HQ.out]
  have hbw1 := hbW.trans (hb1.mono hbW.size)
  have rx1 := rowIs_below rx hb1 rx.lt
  have hq0 : w.heap.size + 1 < W.heap.size := by omega
  have rl1 := (hb1.cell (p := ⟨w.heap.size + 1, 0, none⟩) hq0).trans rl
  have hG1 := hGW.below hb1
  have hs1 := hb1.size
  have hq1 : w.heap.size + 1 < w1.heap.size := by omega
  clear c0 c1 c2 HI HQ
  cases hB : isPolyB p d xs
  · have HO : Hid (subsC p d xs G = 1) := Lib.hid (by simp [subsC, hB])
    clear hB
    go_wp2_with fail
    go_ret
    exact ⟨retI HO.out.symm, hbw1⟩
  have HC := Lib.hid (ivcontains (.slice la G.length lc) G w1 trivial hlG hok hG1)
  obtain ⟨B, hB1⟩ : ∃ B, G.all isPm = B := ⟨_, rfl⟩
  rw [hB1] at HC
  have HB := Lib.hid hB
  clear hB
  go_wp2_with fail
  ((with_reducible refine HC.out.mono ?_); rintro e w2 ⟨rfl, hb2⟩)
  have hbw2 := hbw1.trans (hb2.mono hbw1.size)
  have rx2 := rowIs_below rx1 hb2 rx1.lt
  have rl2 := (hb2.cell (p := ⟨w.heap.size + 1, 0, none⟩) hq1).trans rl1
  have hG2 := hG1.below hb2
  have hs2 := hb2.size
  clear HC rx1 rl1 hG1
  cases B
  · have HO : Hid (subsC p d xs G = 1) := Lib.hid (by simp only [subsC, hB1, Bool.and_false]; rfl)
    clear hB1
    go_wp2_with fail
    go_ret
    exact ⟨retI HO.out.symm, hbw2⟩
  have HP := Lib.hid hB1
  clear hB1
  obtain ⟨⟨c0, c1, c2⟩, _⟩ := poly3 rx2
  by_cases hd : ¬ (G.length : Int) = d
  · have HO : Hid (subsC p d xs G = 2) := Lib.hid (by simp [subsC, HB.out, HP.out, hd])
    have hdn : ((G.length : Int) != d) = true := by simpa using hd
    clear hd
    go_wp2_with fail
    go_ret
    exact ⟨retI HO.out.symm, hbw2⟩
  have hd := Classical.not_not.1 hd
  subst hd
  have hdn : ((G.length : Int) != (G.length : Int)) = false := by simp
  obtain ⟨g1, g3⟩ : (1 : Int) ≤ (G.length : Int) ∧ (G.length : Int) ≤ 3 := by
    have := HB.out
    simp only [isPolyB, Bool.and_eq_true, decide_eq_true_eq] at this
    exact this.2.1
  have hn0 : 0 < G.length := by omega
  have hJ : Capt w2 w.heap.size (w.heap.size + 1) p (G.length : Int) (.slice a xs.length cap) (.slice la G.length lc) G := ⟨rx2, rl2, by omega, hG2, hn0⟩
  have HC := Lib.hid (ulcontains w.heap.size (w.heap.size + 1) p (G.length : Int) (.slice a xs.length cap) (.slice la G.length lc) G (.slice la G.length lc) G w2 hJ hlG hok hG2)
  obtain ⟨B, hB1⟩ : ∃ B, G.all (likeT p (hdP G)) = B := ⟨_, rfl⟩
  rw [hB1] at HC
  go_wp2_with fail
  ((with_reducible refine HC.out.mono ?_); rintro e w3 ⟨rfl, hb3⟩)
  have hbw3 := hbw2.trans (hb3.mono hbw2.size)
  have hs3 := hb3.size
  have hJ3 := hJ.below hb3
  clear HC c0 c1 c2 rx2 rl2 hG2 hJ
  cases B
  · have HO : Hid (subsC p (G.length : Int) xs G = 2) := Lib.hid (by simp [subsC, HB.out, HP.out, hB1])
    clear hB1
    go_wp2_with fail
    go_ret
    exact ⟨retI HO.out.symm, hbw3⟩
  have HK := Lib.hid hB1
  clear hB1
  have HX : Hid (subsC p (G.length : Int) xs G = if xs.all (fun t => decide (bndE (tmsL G) (tmE t) ≤ 12)) = true then 0 else 3) := Lib.hid (by simp [subsC, HB.out, HP.out, HK.out])
  have HV := Lib.hid (valid_of HB.out hby)
  have HD := Lib.hid (dg_bound hok HP.out)
  have HPV : Hid (∀ g ∈ G, Valid g.1 g.2.1 g.2.2) := Lib.hid (fun g hg => isPm_valid (hok g hg) (List.all_eq_true.1 HP.out g hg))
  have HOK := Lib.hid hok
  have HF := Lib.hid (fun e => bndK_full (Ls := tmsL G) (by rw [tmsL_len]; omega) (by rw [tmsL_len]; omega) e)
  have HLN := Lib.hid (tmsL_len G)
  obtain ⟨⟨c0, c1, c2⟩, _⟩ := poly3 hJ3.x
  have l0 := hJ3.l
  have hSW3 := hS.below hbw3
  clear hok hby hS hG hc hSW hGW rx rl
  go_wp2_with fail
  clear c0 c1 c2 l0
  go_loopw [34] (fun i wr => ∃ k : Nat, k ≤ xs.length ∧ i = .int .i64 k ∧ Hid (∀ (j : Nat) (h : j < xs.length), j < k → bndE (tmsL G) (tmE xs[j]) ≤ 12) ∧ Below w3.heap.size w3 wr) (fun i _ => xs.length - (intOf i).toNat)
  case atStart => exact ⟨0, by omega, rfl, Lib.hid (fun j _ h => by omega), Below.refl _ _⟩
  case round =>
    obtain ⟨k, hk, rfl, HU, hbr⟩ := hrel
    obtain ⟨wo, rfl⟩ : ∃ wo : World, wo = wr := ⟨_, rfl⟩
    by_cases hlt : k < xs.length
    · have hlt' : (k : Int) < (xs.length : Int) := by omega
      have hSr := hSW3.below hbr
      obtain ⟨A1, cap1, hv1, hcase1⟩ := hSr
      simp at hv1
      obtain ⟨rfl, rfl⟩ := hv1
      rcases hcase1 with h0 | ⟨b1, off1, rfl, hltb1, hTx⟩
      · rw [h0] at hlt; exact absurd hlt (by simp)
      obtain ⟨d0, d1, d2, d3⟩ := hTx k hlt
      have hm12 := (HV.out.mem xs[k] (List.getElem_mem _)).1
      have HE := Lib.hid (nthE_bound hm12)
      have HBK := Lib.hid (bndK_bound (Ls := tmsL G) hm12 HD.out)
      simp only [tmE] at HE HBK
      have HT : Hid (tmE xs[k] = (xs[k].1, xs[k].2.1, xs[k].2.2.1)) := Lib.hid rfl
      generalize hx : xs[k].1 = x at *
      generalize hy : xs[k].2.1 = y at *
      generalize hz : xs[k].2.2.1 = z at *
      generalize hvv : xs[k].2.2.2 = u at *
      have hJr := hJ3.below hbr
      obtain ⟨wx, hwx, hbx, rt⟩ : ∃ wx, wx = wo.alloc (.cells #[.int .u8 x, .int .u8 y, .int .u8 z, .int .i64 u] 90) ∧ Below wo.heap.size wo wx ∧ wx.rowIs wo.heap.size 90 4 (tmF x y z u) := ⟨_, rfl, box1 _ _, trow wo x y z u⟩
      have l0 : ∀ o, (wo.alloc o).cell? ⟨w.heap.size + 1, 0, none⟩ = some (.slice la G.length lc) := fun o => ((box1 wo o).cell (p := ⟨w.heap.size + 1, 0, none⟩) hJr.ltl).trans hJr.l
      have hJx := hJr.below hbx
      have hbrx := hbr.trans (hbx.mono hbr.size)
      clear hx hy hz hvv hTx hm12 hJr
      go_wp2_with fail
      rw [← hwx]
      clear hwx l0 d0 d1 d2 d3
      go_loopw [40, 9] (fun i bd wr => ∃ m : Nat, m ≤ G.length ∧ i = .int .i64 m ∧ bd = .int .i64 (bndK (tmsL G) (x, y, z) m) ∧ Below wx.heap.size wx wr) (fun i _ _ => G.length - (intOf i).toNat)
      case atStart => exact ⟨0, by omega, rfl, rfl, Below.refl _ _⟩
      case round =>
        obtain ⟨m, hm, rfl, rfl, hb5⟩ := hrel
        by_cases hlm : m < G.length
        · have hlm' : (m : Int) < (G.length : Int) := by omega
          have hm3 : m < 3 := by omega
          have hm3' : (m : Int) < 3 := by omega
          have hJ5 := hJx.below hb5
          obtain ⟨la', lc', hlv, hcl⟩ := hJ5.s
          simp at hlv
          obtain ⟨rfl, rfl⟩ := hlv
          obtain ⟨b, off, rfl, hbb, hT⟩ : ∃ b off, la = some ⟨b, off, none⟩ ∧ b < wr.heap.size ∧ PolysW wr b off G := by
            rcases hcl with h | h
            · rw [h] at hlm; simp at hlm
            · exact h
          obtain ⟨uv, g0, g1, g2, hu⟩ := hT m hlm
          obtain ⟨ua, uc, rfl, _⟩ := id hu
          have hv := HPV.out G[m] (List.getElem_mem hlm)
          have hDG : dgN (tmsL G) m = max (degI G[m].2.2) 0 := by unfold dgN; rw [tmsL_nth hlm]
          obtain ⟨dg1, dg2⟩ := deg_bound hv
          obtain ⟨V, hV1, hbV, _, rq⟩ := newbox wr G[m].1 G[m].2.1 (.slice ua G[m].2.2.length uc)
          have kD : ∀ dd os, Calls Tryz.prog 68 #[.agg #[.int .i64 G[m].1, .int .i64 G[m].2.1, .slice ua G[m].2.2.length uc]] (grow (redrawn V dd) os) fun e w'' => e = .returned (.int .i64 (degI G[m].2.2)) ∧ ∃ p : Regrown, w'' = grow (redrawn V p.d) p.os := fun dd os =>
            Calls.regrown_of (degree_any2 _ _ _ _ _ (HOK.out _ (List.getElem_mem hlm)).2 ((hu.below hbV).below (below_regrown V dd os)) (HOK.out _ (List.getElem_mem hlm)).1 (fun t ht => (hv.mem t ht).1.2))
          obtain ⟨⟨c0, c1, c2⟩, _⟩ := poly3 rq
          have k0 := cell_regrown c0
          have k1 := cell_regrown c1
          have k2 := cell_regrown c2
          have rtV := rowIs_below (rowIs_below rt hb5 rt.lt) hbV (Nat.lt_of_lt_of_le rt.lt hb5.size)
          have k3 := cell_regrown (nthE_cell rtV hm3)
          obtain ⟨e0, e1⟩ := HE.out m
          obtain ⟨bk0, bk1⟩ := HBK.out m
          obtain ⟨mx, hmx⟩ : ∃ mx, max (degI G[m].2.2) 0 = mx := ⟨_, rfl⟩
          have hmx1 : 0 ≤ mx ∧ mx ≤ 12 := by omega
          rw [hmx] at hDG
          have HNX : Hid (bndK (tmsL G) (x, y, z) (m + 1) = bndK (tmsL G) (x, y, z) m + nthE (x, y, z) m * mx) := Lib.hid (by rw [bndK, hDG])
          have m0 : 0 ≤ nthE (x, y, z) m * mx := Int.mul_nonneg e0 hmx1.1
          have m1 : nthE (x, y, z) m * mx ≤ 12 * 12 := Int.mul_le_mul e1 hmx1.2 hmx1.1 (by omega)
          have hw1 : IntKind.i64.wrap (nthE (x, y, z) m * mx) = nthE (x, y, z) m * mx := IntWalk.i64_in _ (by omega)
          have hw2 : IntKind.i64.wrap (bndK (tmsL G) (x, y, z) m + nthE (x, y, z) m * mx) = bndK (tmsL G) (x, y, z) m + nthE (x, y, z) m * mx := IntWalk.i64_in _ (by omega)
          have hb6 := hb5.trans (hbV.mono hb5.size)
          obtain ⟨E, hE⟩ : ∃ E, nthE (x, y, z) m = E := ⟨_, rfl⟩
          obtain ⟨S, hS⟩ : ∃ S, bndK (tmsL G) (x, y, z) m = S := ⟨_, rfl⟩
          rw [hE] at k3 HNX m0 m1 hw1 hw2 e0 e1
          rw [hS] at HNX hw2 bk0 bk1 ⊢
          clear c0 c1 c2 hu hv hT hcl hDG hJ5 rtV hE hS
          go_wp2_with fail
          rw [← hV1]
          clear hV1 g0 g1 g2
          refine wp_region_quiet_below (by kernel_rfl) (by kernel_rfl) ?_
          repeat (go_big_quiet_step (with_reducible exact kD _ _))
          refine wpQuiet_nil ?_
          intro _ hw'
          obtain ⟨⟨dq, osq⟩, hw''⟩ := hw'
          subst hw''
          have hend := hb6.trans ((below_regrown V dq osq).mono hb6.size)
          generalize grow (redrawn V dq) osq = w7 at *
          clear k0 k1 k2 k3 kD
          go_wp2_with fail
          go_roundw
          case rel => exact ⟨m + 1, by omega, by go_num, by rw [HNX.out], hend⟩
          case measure => simp [intOf]; omega
        · obtain rfl : m = G.length := by omega
          have hF := HF.out (x, y, z)
          rw [HLN.out] at hF
          rw [hF]
          obtain ⟨bk0, bk1⟩ := HBK.out G.length
          rw [hF] at bk0 bk1
          have hbr2 := hbrx.trans (hb5.mono hbrx.size)
          by_cases hb12 : bndE (tmsL G) (x, y, z) ≤ 12
          · have hN : Hid (∀ (j : Nat) (h : j < xs.length), j < k + 1 → bndE (tmsL G) (tmE xs[j]) ≤ 12) := Lib.hid (fun j hj hjk => by
              by_cases e : j = k
              · subst e; rw [HT.out]; exact hb12
              · exact HU.out j hj (by omega))
            have hgt : decide (12 < bndE (tmsL G) (x, y, z)) = false := by simpa using hb12
            clear hb12 hF
            go_wp2_with fail
            go_roundw
            case rel => exact ⟨k + 1, by omega, by go_num, hN, hbr2⟩
            case measure => simp [intOf]; omega
          · have HO : Hid (subsC p (G.length : Int) xs G = 3) := Lib.hid (by
              rw [HX.out, if_neg]
              intro hall
              have := List.all_eq_true.1 hall xs[k] (List.getElem_mem hlt)
              rw [HT.out] at this
              exact hb12 (by simpa using this))
            have hgt : decide (12 < bndE (tmsL G) (x, y, z)) = true := by simpa using hb12
            have hend := hbw3.trans (hbr2.mono hbw3.size)
            clear hb12 hF
            go_wp2_with fail
            go_ret
            exact ⟨retI HO.out.symm, hend⟩
    · obtain rfl : k = xs.length := by omega
      have HO : Hid (subsC p (G.length : Int) xs G = 0) := Lib.hid (by
        rw [HX.out, if_pos]
        rw [List.all_eq_true]
        intro t ht
        obtain ⟨j, hj, rfl⟩ := List.mem_iff_getElem.1 ht
        simpa using HU.out j hj hj)
      have hend := hbw3.trans (hbr.mono hbw3.size)
      go_wp2_with fail
      go_ret
      exact ⟨retI HO.out.symm, hend⟩
end Go.Proofs.YtllklhakbanhaaaGreat
