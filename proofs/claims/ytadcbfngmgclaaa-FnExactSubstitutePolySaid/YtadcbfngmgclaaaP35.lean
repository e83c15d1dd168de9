/-
  WALKS: 'spec.SubstitutePoly'. Conditions: as the theorem states.
-/
import Derived.Test.YtadcbfngmgclaaaP19
import Derived.Test.YtadcbfngmgclaaaP29
namespace Go.Proofs.Ytadcbfngmgclaaa
open Go.RowKit Go.Sort Go.Maps

/-- The outcome as a value that reads so. -/
def ResT (w : World) (o : OutP) (e : Ending) (w' : World) : Prop :=
  ∃ v', e = .returned (.tuple #[.agg #[.int .i64 o.P, .int .i64 o.D, v'], .int .i64 o.c]) ∧ SliceT w' v' o.S ∧ Below w.heap.size w w'
/-- The result's box is filled. -/
theorem fillT {w w2 : World} {r : Nat} {F : Nat → Value} {v : Value} {S : List Tm} (hres : w2.rowIs r 30 3 F) (hs : SliceT w2 v S) (hb : Below w.heap.size w w2) (hr : w.heap.size ≤ r) (p d : Int) :
    ((((w2.setCell ⟨r, 0, none⟩ (.int .i64 p)).setCell ⟨r, 1, none⟩ (.int .i64 d)).setCell ⟨r, 2, none⟩ v).cell? ⟨r, 0, none⟩ = some (.int .i64 p) ∧ (((w2.setCell ⟨r, 0, none⟩ (.int .i64 p)).setCell ⟨r, 1, none⟩ (.int .i64 d)).setCell ⟨r, 2, none⟩ v).cell? ⟨r, 1, none⟩ = some (.int .i64 d) ∧ (((w2.setCell ⟨r, 0, none⟩ (.int .i64 p)).setCell ⟨r, 1, none⟩ (.int .i64 d)).setCell ⟨r, 2, none⟩ v).cell? ⟨r, 2, none⟩ = some v) ∧
    SliceT (((w2.setCell ⟨r, 0, none⟩ (.int .i64 p)).setCell ⟨r, 1, none⟩ (.int .i64 d)).setCell ⟨r, 2, none⟩ v) v S ∧ Below w.heap.size w (((w2.setCell ⟨r, 0, none⟩ (.int .i64 p)).setCell ⟨r, 1, none⟩ (.int .i64 d)).setCell ⟨r, 2, none⟩ v) := by
  obtain ⟨a0, a1⟩ := setB3 hres hs p d
  exact ⟨(poly3 a0).1, a1, setL3 hb hr _ _ _⟩

theorem beyond {p : Int} {n : Nat} {xs : List Tm} (h : isPolyB p n xs = true) : ∀ t ∈ xs, ∀ i, n ≤ i → nthE (tmE t) i = 0 := fun t ht i hi => by
  have hd : 1 ≤ n := by
    simp only [isPolyB, Bool.and_eq_true, decide_eq_true_eq] at h
    have := h.2.1.1
    omega
  have hc : chain p n none xs = true := by
    simp only [isPolyB, Bool.and_eq_true] at h
    simpa [tailB, prevT] using h.2.2
  have hk := (chain_asc p n xs none hc).2.2 t ht
  simp only [termOk, expsOk, tailOk, Bool.and_eq_true, Bool.or_eq_true, decide_eq_true_eq, beq_iff_eq] at hk
  obtain ⟨⟨⟨⟨_, hy⟩, hz⟩, _⟩, _⟩ := hk
  unfold nthE
  simp only [tmE]
  split
  · omega
  · split
    · subst_vars; omega
    · split
      · subst_vars; omega
      · rfl

set_option maxRecDepth 8000 in
set_option maxHeartbeats 16000000 in
theorem sSub (p d : Int) (v lv : Value) (xs : List Tm) (G : List Pm) (w : World) (hl : xs.length ≤ 1048576) (hS : SliceT w v xs) (hby : ∀ t ∈ xs, tmByte t) (hlG : G.length ≤ 1048576) (hok : ∀ g ∈ G, PmOk g) (hG : SlP w lv G) (o : OutP) (ho : SubO p d xs G o) :
    Calls Try.prog 7 #[.agg #[.int .i64 p, .int .i64 d, v], lv] w (ResT w o) := by
  obtain ⟨a, cap, rfl, _⟩ := id hS
  obtain ⟨la, lc, rfl, hc⟩ := id hG
  obtain ⟨W, hW, hbW, ⟨hWs1, hWs2⟩, rx, rr⟩ := boxes2 w p d (.slice a xs.length cap)
  obtain ⟨⟨c0, c1, c2⟩, _⟩ := poly3 rx
  have hSW := hS.below hbW
  have nilS : ∀ (w' : World), SliceT w' (.slice none 0 0) [] := fun w' => ⟨none, 0, rfl, .inl rfl⟩
  have HC : Hid (∀ C, C ≠ 0 → subsC p d xs G = C → o = noP C) := Lib.hid (fun C h0 hC => by
    rcases ho with ⟨_, rfl⟩ | ⟨h1, _⟩
    · rw [hC]
    · exact absurd (hC.symm.trans h1) h0)
  have HO := Lib.hid ho
  have HOK := Lib.hid hok
  have HBY := Lib.hid hby
  clear ho hok hby
  go_enter Try.func7, Try.ntmps7
  go_wp2_with fail
  rw [← hW]
  clear hW
  ((with_reducible refine (specIs_any p d _ xs W hl hSW HBY.out).mono ?_); rintro e w1 ⟨rfl, hb1⟩)
  have hbw1 := hbW.trans (hb1.mono hbW.size)
  have rx1 := rowIs_below rx hb1 rx.lt
  have rr1 := rowIs_below rr hb1 rr.lt
  clear c0 c1 c2 rx rr hb1 hSW
  cases hB : isPolyB p d xs
  · have HO1 : Hid (o = noP 1) := Lib.hid (HC.out 1 (by omega) (by simp [subsC, hB]))
    clear hB
    obtain ⟨⟨r0, r1, r2⟩, z0, z1, z2⟩ := poly3 rr1
    obtain ⟨⟨m0, m1, m2⟩, a1, a2⟩ := fillT rr1 (nilS w1) hbw1 (by omega) 0 0
    have A0 := Lib.hid m0
    have A1 := Lib.hid m1
    have A2 := Lib.hid m2
    have A3 := Lib.hid a1
    have A4 := Lib.hid a2
    clear m0 m1 m2 a1 a2
    go_wp2_with fail
    exact bodyPost_ret (v := .tuple #[.agg #[.int .i64 0, .int .i64 0, .slice none 0 0], .int .i64 1]) (by simp [results, Try.results7, go_sem, A0.out, A1.out, A2.out]) rfl (by rw [HO1.out]; exact ⟨_, rfl, A3.out, A4.out⟩)
  have HB := Lib.hid hB
  clear hB
  go_wp2_with fail
  go_loopw [6] (fun i wr => ∃ k : Nat, k ≤ G.length ∧ i = .int .i64 k ∧ Hid (∀ (j : Nat) (h : j < G.length), j < k → isPm G[j] = true) ∧ Below w1.heap.size w1 wr) (fun i _ => G.length - (intOf i).toNat)
  case atStart => exact ⟨0, by omega, rfl, Lib.hid (fun j _ h => by omega), Below.refl _ _⟩
  case round =>
    obtain ⟨k, hk, rfl, HU, hbr⟩ := hrel
    have hbwr := hbw1.trans (hbr.mono hbw1.size)
    by_cases hlt : k < G.length
    · have hlt' : (k : Int) < (G.length : Int) := by omega
      obtain ⟨bl, off, rfl, hbl, hT⟩ : ∃ bl off, la = some ⟨bl, off, none⟩ ∧ bl < w.heap.size ∧ PolysW w bl off G := by
        rcases hc with h | h
        · rw [h] at hlt; simp at hlt
        · exact h
      obtain ⟨u, g0, g1, g2, hu⟩ := (hT.below hbwr hbl) k hlt
      obtain ⟨ua, uc, rfl, _⟩ := id hu
      have hokk := HOK.out _ (List.getElem_mem hlt)
      have HIS := Lib.hid (specIs_any G[k].1 G[k].2.1 _ G[k].2.2 wr hokk.2 hu hokk.1)
      cases hp : isPolyB G[k].1 G[k].2.1 G[k].2.2
      · have HO1 : Hid (o = noP 1) := Lib.hid (HC.out 1 (by omega) (by
          have : G.all isPm = false := by
            rw [List.all_eq_false]
            exact ⟨_, List.getElem_mem hlt, by simp [isPm, hp]⟩
          simp [subsC, this]))
        rw [hp] at HIS
        clear hp hu hokk
        go_wp2_with fail
        ((with_reducible refine HIS.out.mono ?_); rintro e w2 ⟨rfl, hb2⟩)
        have hbw2 := hbwr.trans (hb2.mono hbwr.size)
        have rr2 := rowIs_below rr1 (hbr.trans (hb2.mono hbr.size)) rr1.lt
        obtain ⟨⟨r0, r1, r2⟩, z0, z1, z2⟩ := poly3 rr2
        obtain ⟨⟨m0, m1, m2⟩, a1, a2⟩ := fillT rr2 (nilS w2) hbw2 (by omega) 0 0
        have A0 := Lib.hid m0
        have A1 := Lib.hid m1
        have A2 := Lib.hid m2
        have A3 := Lib.hid a1
        have A4 := Lib.hid a2
        clear m0 m1 m2 a1 a2 g0 g1 g2
        go_wp2_with fail
        exact bodyPost_ret (v := .tuple #[.agg #[.int .i64 0, .int .i64 0, .slice none 0 0], .int .i64 1]) (by simp [results, Try.results7, go_sem, A0.out, A1.out, A2.out]) rfl (by rw [HO1.out]; exact ⟨_, rfl, A3.out, A4.out⟩)
      · have HN : Hid (∀ (j : Nat) (h : j < G.length), j < k + 1 → isPm G[j] = true) := Lib.hid (fun j hj hjk => by
          by_cases e : j = k
          · subst e; exact hp
          · exact HU.out j hj (by omega))
        rw [hp] at HIS
        clear hp hu hokk
        go_wp2_with fail
        ((with_reducible refine HIS.out.mono ?_); rintro e w2 ⟨rfl, hb2⟩)
        have hbr2 := hbr.trans (hb2.mono hbr.size)
        clear g0 g1 g2
        go_wp2_with fail
        go_roundw
        case rel => exact ⟨k + 1, by omega, by go_num, HN, hbr2⟩
        case measure => simp [intOf]; omega
    · obtain rfl : k = G.length := by omega
      have hall : G.all isPm = true := by
        rw [List.all_eq_true]
        intro x hx
        obtain ⟨j, hj, rfl⟩ := List.mem_iff_getElem.1 hx
        exact HU.out j hj hj
      have HA := Lib.hid hall
      have rx2 := rowIs_below rx1 hbr rx1.lt
      have rr2 := rowIs_below rr1 hbr rr1.lt
      obtain ⟨⟨c0, c1, c2⟩, _⟩ := poly3 rx2
      clear hall HU
      by_cases hd : ¬ (G.length : Int) = d
      · have HO1 : Hid (o = noP 2) := Lib.hid (HC.out 2 (by omega) (by simp [subsC, HB.out, HA.out, hd]))
        have hdn : ((G.length : Int) != d) = true := by simpa using hd
        clear hd
        obtain ⟨⟨r0, r1, r2⟩, z0, z1, z2⟩ := poly3 rr2
        obtain ⟨⟨m0, m1, m2⟩, a1, a2⟩ := fillT rr2 (nilS wr) hbwr (by omega) 0 0
        have A0 := Lib.hid m0
        have A1 := Lib.hid m1
        have A2 := Lib.hid m2
        have A3 := Lib.hid a1
        have A4 := Lib.hid a2
        clear m0 m1 m2 a1 a2
        go_wp2_with fail
        exact bodyPost_ret (v := .tuple #[.agg #[.int .i64 0, .int .i64 0, .slice none 0 0], .int .i64 2]) (by simp [results, Try.results7, go_sem, A0.out, A1.out, A2.out]) rfl (by rw [HO1.out]; exact ⟨_, rfl, A3.out, A4.out⟩)
      have hd := Classical.not_not.1 hd
      subst hd
      have hdn : ((G.length : Int) != (G.length : Int)) = false := by simp
      obtain ⟨w2, hw2⟩ : ∃ w2, w2 = wr := ⟨_, rfl⟩
      obtain ⟨g1, g3⟩ : (1 : Int) ≤ (G.length : Int) ∧ (G.length : Int) ≤ 3 := by
        have := HB.out
        simp only [isPolyB, Bool.and_eq_true, decide_eq_true_eq] at this
        exact this.2.1
      have hn0 : 0 < G.length := by omega
      obtain ⟨bl, off, rfl, hbl, hT⟩ : ∃ bl off, la = some ⟨bl, off, none⟩ ∧ bl < w.heap.size ∧ PolysW w bl off G := by
        rcases hc with h | h
        · rw [h] at hn0; simp at hn0
        · exact h
      have HT := Lib.hid (hT.below hbwr hbl)
      have HT0 := Lib.hid hT
      clear c0 hT hw2
      obtain ⟨h0, hh0⟩ : ∃ h0, hdP G = h0 := ⟨_, rfl⟩
      have HH0 : Hid (G[0].2.1 = h0.2.1) := Lib.hid (by rw [← hh0, hdP_at hn0])
      clear rx1 rr1 hc
      go_wp2_with fail
      clear c1 c2
      obtain ⟨w2, hw2⟩ : ∃ w2, wr = w2 := ⟨_, rfl⟩
      rw [hw2] at rx2 rr2 hbwr hbr HT ⊢
      clear hw2
      go_loopw [7] (fun i wr => ∃ k : Nat, k ≤ G.length ∧ i = .int .i64 k ∧ Hid (∀ (j : Nat) (h : j < G.length), j < k → G[j].1 = p ∧ G[j].2.1 = h0.2.1) ∧ Below w2.heap.size w2 wr) (fun i _ => G.length - (intOf i).toNat)
      case atStart => exact ⟨0, by omega, rfl, Lib.hid (fun j _ h => by omega), Below.refl _ _⟩
      case round =>
        obtain ⟨k, hk, rfl, HU, hb3⟩ := hrel
        have hbw3 := hbwr.trans (hb3.mono hbwr.size)
        have rx3 := rowIs_below rx2 hb3 rx2.lt
        have rr3 := rowIs_below rr2 hb3 rr2.lt
        obtain ⟨⟨c0, c1, c2⟩, _⟩ := poly3 rx3
        have hT3 := HT0.out.below hbw3 hbl
        by_cases hlt : k < G.length
        · have hlt' : (k : Int) < (G.length : Int) := by omega
          have hn0' : (0 : Int) < (G.length : Int) := by omega
          obtain ⟨u, e0, e1, e2, hu⟩ := hT3 k hlt
          obtain ⟨u', f0, f1, f2, hu'⟩ := hT3 0 hn0
          rw [HH0.out, Nat.zero_mul, Nat.add_zero] at f1
          have HNP : Hid (G[k].1 ≠ p ∨ G[k].2.1 ≠ h0.2.1 → o = noP 2) := Lib.hid (fun h => HC.out 2 (by omega) (by
            have : G.all (likeT p (hdP G)) = false := by
              rw [List.all_eq_false]
              refine ⟨_, List.getElem_mem hlt, ?_⟩
              rw [hh0]
              rcases h with h | h <;> simp [likeT, h]
            simp [subsC, HB.out, HA.out, this]))
          have HNX : Hid (G[k].1 = p ∧ G[k].2.1 = h0.2.1 → ∀ (j : Nat) (h : j < G.length), j < k + 1 → G[j].1 = p ∧ G[j].2.1 = h0.2.1) := Lib.hid (fun h j hj hjk => by
            by_cases e : j = k
            · subst e; exact h
            · exact HU.out j hj (by omega))
          obtain ⟨q, hq⟩ : ∃ q, G[k].1 = q := ⟨_, rfl⟩
          obtain ⟨e, he⟩ : ∃ e, G[k].2.1 = e := ⟨_, rfl⟩
          obtain ⟨e', he'⟩ : ∃ e', h0.2.1 = e' := ⟨_, rfl⟩
          rw [hq] at e0 HNP HNX
          rw [he] at e1 HNP HNX
          rw [he'] at f1 HNP HNX
          have k0 := cell_regrown c0
          have k1 := cell_regrown e0
          have k2 := cell_regrown e1
          have k3 := cell_regrown f1
          clear c0 c1 c2 e0 e1 e2 f0 f1 f2 hu hu' hT3 hq he
          by_cases hp1 : q = p
          · have hpp : (q != p) = false := by simp [hp1]
            by_cases hv1 : e = e'
            · have hvv : (e != e') = false := by simp [hv1]
              have HN := Lib.hid (HNX.out ⟨hp1, hv1⟩)
              rw [← he'] at HN
              clear hp1 hv1 he'
              go_wp2_with fail
              refine wp_region_quiet_below (by kernel_rfl) (by kernel_rfl) ?_
              repeat (go_big_quiet_step (fail))
              refine wpQuiet_nil ?_
              intro _ hw'
              obtain ⟨⟨dq, osq⟩, hw''⟩ := hw'
              subst hw''
              have hb4 := hb3.trans ((below_regrown wr dq osq).mono hb3.size)
              generalize grow (redrawn wr dq) osq = w4 at *
              clear k0 k1 k2 k3
              go_wp2_with fail
              go_roundw
              case rel => exact ⟨k + 1, by omega, by go_num, HN, hb4⟩
              case measure => simp [intOf]; omega
            · have hvv : (e != e') = true := by simpa using hv1
              have HO1 := Lib.hid (HNP.out (.inr hv1))
              clear hp1 hv1 he'
              go_wp2_with fail
              refine wp_region_quiet_below (by kernel_rfl) (by kernel_rfl) ?_
              repeat (go_big_quiet_step (fail))
              refine wpQuiet_nil ?_
              intro _ hw'
              obtain ⟨⟨dq, osq⟩, hw''⟩ := hw'
              subst hw''
              have hbq := below_regrown wr dq osq
              have rr4 := rowIs_below rr3 hbq rr3.lt
              have hbw4 := hbw3.trans (hbq.mono hbw3.size)
              generalize grow (redrawn wr dq) osq = w4 at *
              clear k0 k1 k2 k3
              obtain ⟨⟨r0, r1, r2⟩, z0, z1, z2⟩ := poly3 rr4
              obtain ⟨⟨m0, m1, m2⟩, a1, a2⟩ := fillT rr4 (nilS w4) hbw4 (by omega) 0 0
              have A0 := Lib.hid m0
              have A1 := Lib.hid m1
              have A2 := Lib.hid m2
              have A3 := Lib.hid a1
              have A4 := Lib.hid a2
              clear m0 m1 m2 a1 a2
              go_wp2_with fail
              exact bodyPost_ret (v := .tuple #[.agg #[.int .i64 0, .int .i64 0, .slice none 0 0], .int .i64 2]) (by simp [results, Try.results7, go_sem, A0.out, A1.out, A2.out]) rfl (by rw [HO1.out]; exact ⟨_, rfl, A3.out, A4.out⟩)
          · have hpp : (q != p) = true := by simpa using hp1
            have HO1 := Lib.hid (HNP.out (.inl hp1))
            clear hp1 he'
            go_wp2_with fail
            refine wp_region_quiet_below (by kernel_rfl) (by kernel_rfl) ?_
            repeat (go_big_quiet_step (fail))
            refine wpQuiet_nil ?_
            intro _ hw'
            obtain ⟨⟨dq, osq⟩, hw''⟩ := hw'
            subst hw''
            have hbq := below_regrown wr dq osq
            have rr4 := rowIs_below rr3 hbq rr3.lt
            have hbw4 := hbw3.trans (hbq.mono hbw3.size)
            generalize grow (redrawn wr dq) osq = w4 at *
            clear k0 k1 k2 k3
            obtain ⟨⟨r0, r1, r2⟩, z0, z1, z2⟩ := poly3 rr4
            obtain ⟨⟨m0, m1, m2⟩, a1, a2⟩ := fillT rr4 (nilS w4) hbw4 (by omega) 0 0
            have A0 := Lib.hid m0
            have A1 := Lib.hid m1
            have A2 := Lib.hid m2
            have A3 := Lib.hid a1
            have A4 := Lib.hid a2
            clear m0 m1 m2 a1 a2
            go_wp2_with fail
            exact bodyPost_ret (v := .tuple #[.agg #[.int .i64 0, .int .i64 0, .slice none 0 0], .int .i64 2]) (by simp [results, Try.results7, go_sem, A0.out, A1.out, A2.out]) rfl (by rw [HO1.out]; exact ⟨_, rfl, A3.out, A4.out⟩)
        · obtain rfl : k = G.length := by omega
          have hLP : ListP p h0.2.1 G := ⟨hn0, by omega, fun x hx => by
            obtain ⟨j, hj, rfl⟩ := List.mem_iff_getElem.1 hx
            obtain ⟨h1, h2⟩ := HU.out j hj hj
            have hv := isPm_valid (HOK.out _ (List.getElem_mem hj)) (List.all_eq_true.1 HA.out _ (List.getElem_mem hj))
            rw [h1, h2] at hv
            exact ⟨h1, h2, hv⟩⟩
          have hlk : G.all (likeT p (hdP G)) = true := by
            rw [List.all_eq_true, hh0]
            intro x hx
            obtain ⟨h1, h2, _⟩ := hLP.ok x hx
            obtain ⟨h3, _, _⟩ := hLP.ok G[0] (List.getElem_mem hn0)
            have h4 : h0.1 = p := by rw [← hh0, hdP_at hn0]; exact h3
            simp [likeT, h1, h2, h4]
          have hX := valid_of HB.out HBY.out
          have hbey := beyond HB.out
          have hS3 := hS.below hbw3
          have hG3 : SlP wr (.slice (some ⟨bl, off, none⟩) G.length lc) G := ⟨_, lc, rfl, .inr ⟨bl, off, rfl, Nat.lt_of_lt_of_le hbl hbw3.size, hT3⟩⟩
          by_cases hBnd : Bnd (tmsL G) xs
          · have hzero : subsC p (G.length : Int) xs G = 0 := by
              have : xs.all (fun t => decide (bndE (tmsL G) (tmE t) ≤ 12)) = true := by
                rw [List.all_eq_true]
                intro t ht
                simpa using hBnd t ht
              simp [subsC, HB.out, HA.out, hlk, this]
            obtain ⟨P, L, hP, hL, hoL⟩ : ∃ P L, Subs p (tmsL G) xs P ∧ IsP p L (subF p P xs) ∧ o = ⟨p, (hdP G).2.1, L, 0⟩ := by
              rcases HO.out with ⟨h1, _⟩ | ⟨_, h⟩
              · exact absurd hzero h1
              · exact h
            rw [hh0] at hoL
            have HOL := Lib.hid hoL
            obtain ⟨d1, hd1⟩ : ∃ d1, h0.2.1 = d1 := ⟨_, rfl⟩
            have HD1 := Lib.hid hd1
            rw [hd1] at hLP
            have HR := Lib.hid (show Calls Try.prog 21 #[.agg #[.int .i64 p, .int .i64 (G.length : Int), .slice a xs.length cap], .slice (some ⟨bl, off, none⟩) G.length lc] wr (fun e w' => ∃ v', e = .returned (.tuple #[.agg #[.int .i64 p, .int .i64 d1, v'], .bool true]) ∧ SliceT w' v' L ∧ Below wr.heap.size wr w') from (sRep p d1 (G.length : Int) (.slice a xs.length cap) (.slice (some ⟨bl, off, none⟩) G.length lc) xs G P wr hLP hX hbey (fun _ => hP) hS3 hG3).mono  (by
              rintro e w' ⟨⟨_, v', L', rfl, hS', hL'⟩ | ⟨hn, _⟩, hb⟩
              · obtain rfl := hL'.unique hL
                exact ⟨v', rfl, hS', hb⟩
              · exact absurd hBnd hn))
            clear hd1 hLP hlk hX hbey hS3 hG3 hBnd hzero hP hL hoL HU hT3
            go_wp2_with fail
            ((with_reducible refine HR.out.mono ?_); rintro e w4 ⟨v4, rfl, hS4, hb4⟩)
            obtain ⟨sa4, sc4, rfl, _⟩ := id hS4
            have rr4 := rowIs_below rr3 hb4 rr3.lt
            have hbw4 := hbw3.trans (hb4.mono hbw3.size)
            obtain ⟨V, hV, hbV, _, rV⟩ := newbox w4 p d1 (.slice sa4 L.length sc4)
            have rrV := rowIs_below rr4 hbV rr4.lt
            have hbwV := hbw4.trans (hbV.mono hbw4.size)
            obtain ⟨⟨q0, q1, q2⟩, _⟩ := poly3 rV
            obtain ⟨⟨r0, r1, r2⟩, z0, z1, z2⟩ := poly3 rrV
            obtain ⟨⟨m0, m1, m2⟩, a1, a2⟩ := fillT rrV (hS4.below hbV) hbwV (by omega) p d1
            have A0 := Lib.hid m0
            have A1 := Lib.hid m1
            have A2 := Lib.hid m2
            have A3 := Lib.hid a1
            have A4 := Lib.hid a2
            clear m0 m1 m2 a1 a2
            clear c0 c1 c2 hS4 rr4 rrV rV
            go_upto_region 16 with fail
            rw [← hV]
            clear hV
            go_wp2_with fail
            exact bodyPost_ret (v := .tuple #[.agg #[.int .i64 p, .int .i64 d1, .slice sa4 L.length sc4], .int .i64 0]) (by simp [results, Try.results7, go_sem, A0.out, A1.out, A2.out]) rfl (by rw [HOL.out]; exact ⟨_, by rw [HD1.out], A3.out, A4.out⟩)
          · have HO1 : Hid (o = noP 3) := Lib.hid (HC.out 3 (by omega) (by
              have : xs.all (fun t => decide (bndE (tmsL G) (tmE t) ≤ 12)) = false := by
                cases h : xs.all (fun t => decide (bndE (tmsL G) (tmE t) ≤ 12))
                · rfl
                · exact absurd (fun t ht => by simpa using List.all_eq_true.1 h t ht) hBnd
              simp [subsC, HB.out, HA.out, hlk, this]))
            obtain ⟨d1, hd1⟩ : ∃ d1, h0.2.1 = d1 := ⟨_, rfl⟩
            rw [hd1] at hLP
            have HR := Lib.hid (show Calls Try.prog 21 #[.agg #[.int .i64 p, .int .i64 (G.length : Int), .slice a xs.length cap], .slice (some ⟨bl, off, none⟩) G.length lc] wr (fun e w' => ∃ v', e = .returned (.tuple #[.agg #[.int .i64 p, .int .i64 d1, v'], .bool false]) ∧ SliceT w' v' [] ∧ Below wr.heap.size wr w') from (sRep p d1 (G.length : Int) (.slice a xs.length cap) (.slice (some ⟨bl, off, none⟩) G.length lc) xs G (fun _ => []) wr hLP hX hbey (fun h => absurd h hBnd) hS3 hG3).mono  (by
              rintro e w' ⟨⟨hn, _⟩ | ⟨_, v', rfl, hS'⟩, hb⟩
              · exact absurd hn hBnd
              · exact ⟨v', rfl, hS', hb⟩))
            clear hd1 hLP hlk hX hbey hS3 hG3 hBnd HU hT3
            go_wp2_with fail
            ((with_reducible refine HR.out.mono ?_); rintro e w4 ⟨v4, rfl, hS4, hb4⟩)
            obtain ⟨sa4, sc4, rfl, _⟩ := id hS4
            have rr4 := rowIs_below rr3 hb4 rr3.lt
            have hbw4 := hbw3.trans (hb4.mono hbw3.size)
            obtain ⟨V, hV, hbV, _, rV⟩ := newbox w4 p d1 (.slice sa4 0 sc4)
            have rrV := rowIs_below rr4 hbV rr4.lt
            have hbwV := hbw4.trans (hbV.mono hbw4.size)
            obtain ⟨⟨r0, r1, r2⟩, z0, z1, z2⟩ := poly3 rrV
            obtain ⟨⟨m0, m1, m2⟩, a1, a2⟩ := fillT rrV (nilS V) hbwV (by omega) 0 0
            have A0 := Lib.hid m0
            have A1 := Lib.hid m1
            have A2 := Lib.hid m2
            have A3 := Lib.hid a1
            have A4 := Lib.hid a2
            clear m0 m1 m2 a1 a2
            clear c0 c1 c2 hS4 rr4 rrV rV
            go_upto_region 16 with fail
            rw [← hV]
            clear hV
            go_wp2_with fail
            exact bodyPost_ret (v := .tuple #[.agg #[.int .i64 0, .int .i64 0, .slice none 0 0], .int .i64 3]) (by simp [results, Try.results7, go_sem, A0.out, A1.out, A2.out]) rfl (by rw [HO1.out]; exact ⟨_, rfl, A3.out, A4.out⟩)
end Go.Proofs.Ytadcbfngmgclaaa
