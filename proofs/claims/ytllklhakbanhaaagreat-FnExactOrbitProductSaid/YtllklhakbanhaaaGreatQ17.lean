/-
  WALKS: 'impl.putIn': what a monomial becomes. Conditions: as the theorem states.
-/
import Derived.Test.YtllklhakbanhaaaGreatQ15
import Derived.Test.YtllklhakbanhaaaGreatQ16
import Derived.Deep.DeepCutAuto
import Derived.Deep.RegionHeld3
namespace Go.Proofs.YtllklhakbanhaaaGreat
open Go.RowKit Go.Sort Go.Maps

theorem box_setD {Z0 w1 : World} {B0 base b n : Nat} {D : DataW Value} {p d : Int} {Ls : List (List Tm)} {F : Nat → Value} {v : Value} {S : List Tm} (hR : w1.rowIs B0 39 3 F) (hD : DoneP w1 b n D p d Ls) (hg : Z0.grownBy w1 (some b)) (hB : Z0.heap.size ≤ B0) (hs : OwnP w1 base v S) (P Q : Int) :
    (((w1.setCell ⟨B0, 0, none⟩ (.int .i64 P)).setCell ⟨B0, 1, none⟩ (.int .i64 Q)).setCell ⟨B0, 2, none⟩ v).rowIs B0 39 3 (polyF P Q v) ∧
    SliceT (((w1.setCell ⟨B0, 0, none⟩ (.int .i64 P)).setCell ⟨B0, 1, none⟩ (.int .i64 Q)).setCell ⟨B0, 2, none⟩ v) v S ∧
    DoneP (((w1.setCell ⟨B0, 0, none⟩ (.int .i64 P)).setCell ⟨B0, 1, none⟩ (.int .i64 Q)).setCell ⟨B0, 2, none⟩ v) b n D p d Ls ∧
    Z0.grownBy (((w1.setCell ⟨B0, 0, none⟩ (.int .i64 P)).setCell ⟨B0, 1, none⟩ (.int .i64 Q)).setCell ⟨B0, 2, none⟩ v) (some b) := by
  have hne := (hD.map.ne hR).symm
  have R1 := hR.set 0 (.int .i64 P)
  have R2 := R1.set 1 (.int .i64 Q)
  refine ⟨(R2.set 2 v).congr fun i hi => ?_, (((OwnP.slice hs).setBox hR).setBox R1).setBox R2, ((hD.setBox hR hne).setBox R1 hne).setBox R2 hne, gSetNew (gSetNew (gSetNew hg hB) hB) hB⟩
  match i, hi with
  | 0, _ => rfl
  | 1, _ => rfl
  | 2, _ => rfl
/-- The same where the terms lie anywhere. -/
theorem box_setS {Z0 w1 : World} {B0 b n : Nat} {D : DataW Value} {p d : Int} {Ls : List (List Tm)} {F : Nat → Value} {v : Value} {S : List Tm} (hR : w1.rowIs B0 39 3 F) (hD : DoneP w1 b n D p d Ls) (hg : Z0.grownBy w1 (some b)) (hB : Z0.heap.size ≤ B0) (hs : SliceT w1 v S) (P Q : Int) :
    (((w1.setCell ⟨B0, 0, none⟩ (.int .i64 P)).setCell ⟨B0, 1, none⟩ (.int .i64 Q)).setCell ⟨B0, 2, none⟩ v).rowIs B0 39 3 (polyF P Q v) ∧
    SliceT (((w1.setCell ⟨B0, 0, none⟩ (.int .i64 P)).setCell ⟨B0, 1, none⟩ (.int .i64 Q)).setCell ⟨B0, 2, none⟩ v) v S ∧
    DoneP (((w1.setCell ⟨B0, 0, none⟩ (.int .i64 P)).setCell ⟨B0, 1, none⟩ (.int .i64 Q)).setCell ⟨B0, 2, none⟩ v) b n D p d Ls ∧
    Z0.grownBy (((w1.setCell ⟨B0, 0, none⟩ (.int .i64 P)).setCell ⟨B0, 1, none⟩ (.int .i64 Q)).setCell ⟨B0, 2, none⟩ v) (some b) := by
  have hne := (hD.map.ne hR).symm
  have R1 := hR.set 0 (.int .i64 P)
  have R2 := R1.set 1 (.int .i64 Q)
  refine ⟨(R2.set 2 v).congr fun i hi => ?_, ((hs.setBox hR).setBox R1).setBox R2, ((hD.setBox hR hne).setBox R1 hne).setBox R2 hne, gSetNew (gSetNew (gSetNew hg hB) hB) hB⟩
  match i, hi with
  | 0, _ => rfl
  | 1, _ => rfl
  | 2, _ => rfl
/-- The boxes of a monomial and of the result. -/
theorem boxER (w : World) (x y z : Int) : ∃ W, W = (w.alloc (.cells #[.int .u8 x, .int .u8 y, .int .u8 z] 88)).alloc (.cells #[.int .i64 0, .int .i64 0, .slice none 0 0] 39) ∧ Below w.heap.size w W ∧ (W.heap.size ≤ w.heap.size + 2 ∧ w.heap.size + 2 ≤ W.heap.size) ∧
      W.rowIs w.heap.size 88 3 (expsF x y z) ∧ W.rowIs (w.heap.size + 1) 39 3 (polyF 0 0 (.slice none 0 0)) := by
  refine ⟨_, rfl, box2 _ _ _, ⟨by simp, by simp⟩, ?_, ?_⟩
  · refine World.rowIs.alloc (World.rowIs_alloc w #[Value.int .u8 x, .int .u8 y, .int .u8 z] _ _ (fun i hi => ?_)) _
    simp at hi; match i, hi with | 0, _ => rfl | 1, _ => rfl | 2, _ => rfl
  · have := World.rowIs_alloc (w.alloc (.cells #[.int .u8 x, .int .u8 y, .int .u8 z] 88)) #[Value.int .i64 0, .int .i64 0, .slice none 0 0] 39 (polyF 0 0 (.slice none 0 0)) (fun i hi => by simp at hi; match i, hi with | 0, _ => rfl | 1, _ => rfl | 2, _ => rfl)
    simpa using this
/-- What is asked of the list. -/
structure ListP (p d : Int) (G : List Pm) : Prop where
  l1 : 1 ≤ G.length
  l3 : G.length ≤ 3
  ok : ∀ g ∈ G, g.1 = p ∧ g.2.1 = d ∧ Valid p d g.2.2
theorem ListP.tms {p d : Int} {G : List Pm} (h : ListP p d G) : ∀ g ∈ tmsL G, Valid p d g := fun g hg => by
  simp only [tmsL, List.mem_map] at hg
  obtain ⟨x, hx, rfl⟩ := hg
  exact (h.ok x hx).2.2
theorem top_ex {x y z : Int} {n s : Nat} (hb : byte3 (x, y, z)) (hs : x + y + z = s) (h0 : 0 < s) (hz : ∀ i, n ≤ i → nthE (x, y, z) i = 0) : ∃ t, t < n ∧ t < 3 ∧ 0 < nthE (x, y, z) t ∧ ∀ i, t < i → nthE (x, y, z) i = 0 := by
  obtain ⟨⟨a1, a2⟩, ⟨a3, a4⟩, a5, a6⟩ : (0 ≤ x ∧ x ≤ 255) ∧ (0 ≤ y ∧ y ≤ 255) ∧ (0 ≤ z ∧ z ≤ 255) := hb
  have e0 : nthE (x, y, z) 0 = x := rfl
  have e1 : nthE (x, y, z) 1 = y := rfl
  have e2 : nthE (x, y, z) 2 = z := rfl
  have hi3 : ∀ i, 3 ≤ i → nthE (x, y, z) i = 0 := fun i hi => by
    unfold nthE; rw [if_neg (by omega), if_neg (by omega), if_neg (by omega)]
  have key : ∀ t, t < 3 → 0 < nthE (x, y, z) t → t < n := fun t _ h => Nat.lt_of_not_le fun hn => by
    have := hz t hn
    omega
  by_cases c2 : 0 < z
  · exact ⟨2, key 2 (by omega) (by rw [e2]; exact c2), by omega, by rw [e2]; exact c2, fun i hi => hi3 i (by omega)⟩
  · by_cases c1 : 0 < y
    · refine ⟨1, key 1 (by omega) (by rw [e1]; exact c1), by omega, by rw [e1]; exact c1, fun i hi => ?_⟩
      by_cases h : i = 2
      · subst h; rw [e2]; omega
      · exact hi3 i (by omega)
    · refine ⟨0, key 0 (by omega) (by rw [e0]; omega), by omega, by rw [e0]; omega, fun i hi => ?_⟩
      by_cases h : i = 2
      · subst h; rw [e2]; omega
      · by_cases h : i = 1
        · subst h; rw [e1]; omega
        · exact hi3 i (by omega)

set_option maxRecDepth 8000 in
set_option maxHeartbeats 16000000 in
theorem putIn_yes (p d : Int) (G : List Pm) (lv : Value) (b s : Nat) (x y z : Int) (n : Nat) (D : DataW Value) (w : World) (hbt : byte3 (x, y, z)) (hD : DoneP w b n D p d (tmsL G)) (hh : Maps.has D (kE (x, y, z)) = true) :
    Calls Tryz.prog 141 #[.agg #[.int .u8 x, .int .u8 y, .int .u8 z], lv, .map (some b)] w fun e w' =>
      ∃ v L D' n', e = .returned (.agg #[.int .i64 p, .int .i64 d, v]) ∧ SliceT w' v L ∧ PrR p (facL (tmsL G) (x, y, z)) L ∧ DoneP w' b n' D' p d (tmsL G) ∧ n' ≤ n + s ∧ w.grownBy w' (some b) := by
  obtain ⟨W, hW, hbW, ⟨hWs1, hWs2⟩, re, rr⟩ := boxER w x y z
  obtain ⟨v, L, hrun, hSv, hL⟩ := (hD.later hbW).yes hbt hh
  obtain ⟨A, c, rfl, _⟩ := id hSv
  have c0 : W.cell? ⟨w.heap.size, 0, none⟩ = some (.int .u8 x) := re.cell (i := 0) (by omega)
  have c1 : W.cell? ⟨w.heap.size, 1, none⟩ = some (.int .u8 y) := re.cell (i := 1) (by omega)
  have c2 : W.cell? ⟨w.heap.size, 2, none⟩ = some (.int .u8 z) := re.cell (i := 2) (by omega)
  obtain ⟨V, hV, hbV, _, rV⟩ := newbox W p d (.slice A L.length c)
  have rrV := rowIs_below rr hbV rr.lt
  have hDV := (hD.later hbW).later hbV
  obtain ⟨a0, a1, a2, a3⟩ := box_setS (Z0 := w) rrV hDV ((gBelow hbW).trans (gBelow hbV)) (by omega) (hSv.below hbV) p d
  obtain ⟨⟨m0, m1, m2⟩, _⟩ := poly3 a0
  obtain ⟨⟨r0, r1, r2⟩, z0, z1, z2⟩ := poly3 rrV
  obtain ⟨⟨q0, q1, q2⟩, _⟩ := poly3 rV
  have A0 := Lib.hid m0
  have A1 := Lib.hid m1
  have A2 := Lib.hid m2
  have A3 := Lib.hid a1
  have A4 := Lib.hid a2
  have A5 := Lib.hid a3
  clear m0 m1 m2 a0 a1 a2 a3 hDV rrV rV re rr hbV hSv hD
  go_enter Tryz.func141, Tryz.ntmps141
  go_upto_region 1 with fail
  rw [← hW]
  clear hW
  go_upto_region 2 with fail
  rw [← hV]
  clear hV c0 c1 c2
  go_wp2_with fail
  exact bodyPost_ret (v := .agg #[.int .i64 p, .int .i64 d, .slice A L.length c]) (by simp [results, Tryz.results141, go_sem, A0.out, A1.out, A2.out]) rfl ⟨_, L, D, n, rfl, A3.out, hL, A4.out, by omega, A5.out⟩

set_option maxRecDepth 8000 in
set_option maxHeartbeats 32000000 in
theorem putIn_any (p d : Int) (G : List Pm) (lv : Value) (b : Nat) (hLP : ListP p d G) : ∀ (s : Nat) (x y z : Int) (n : Nat) (D : DataW Value) (w : World), byte3 (x, y, z) → x + y + z = s → (∀ i, G.length ≤ i → nthE (x, y, z) i = 0) → bndE (tmsL G) (x, y, z) ≤ 12 → SlP w lv G → DoneP w b n D p d (tmsL G) → n + s ≤ 1048576 →
    Calls Tryz.prog 141 #[.agg #[.int .u8 x, .int .u8 y, .int .u8 z], lv, .map (some b)] w fun e w' =>
      ∃ v L D' n', e = .returned (.agg #[.int .i64 p, .int .i64 d, v]) ∧ SliceT w' v L ∧ PrR p (facL (tmsL G) (x, y, z)) L ∧ DoneP w' b n' D' p d (tmsL G) ∧ n' ≤ n + s ∧ w.grownBy w' (some b) := by
  intro s
  induction s with
  | zero =>
    intro x y z n D w hbt hs _ _ _ hD _
    obtain ⟨rfl, rfl, rfl⟩ : x = 0 ∧ y = 0 ∧ z = 0 := by
      obtain ⟨⟨a1, a2⟩, ⟨a3, a4⟩, a5, a6⟩ : (0 ≤ x ∧ x ≤ 255) ∧ (0 ≤ y ∧ y ≤ 255) ∧ (0 ≤ z ∧ z ≤ 255) := hbt
      omega
    exact putIn_yes p d G lv b 0 0 0 0 n D w hbt hD hD.one
  | succ s ih =>
    intro x y z n D w hbt hs hz hbd hG hD hn
    cases hh : Maps.has D (kE (x, y, z))
    case true => exact putIn_yes p d G lv b _ x y z n D w hbt hD hh
    obtain ⟨t, htn, ht3, ht0, htz⟩ := top_ex hbt hs (by omega) hz
    obtain ⟨hb', hs', hz0, hfac, hbe⟩ := downE_facts (Ls := tmsL G) ht3 ht0 hbt hs htz
    obtain ⟨x', hx'⟩ : ∃ x', (downE (x, y, z) t).1 = x' := ⟨_, rfl⟩
    obtain ⟨y', hy'⟩ : ∃ y', (downE (x, y, z) t).2.1 = y' := ⟨_, rfl⟩
    obtain ⟨z', hz'⟩ : ∃ z', (downE (x, y, z) t).2.2 = z' := ⟨_, rfl⟩
    have hdown : downE (x, y, z) t = (x', y', z') := by rw [← hx', ← hy', ← hz']
    have hrowD := fun (w : World) (B : Nat) (h : w.rowIs B 88 3 (expsF x y z)) => down_row h ht3
    simp only [hdown] at hb' hs' hz0 hfac hbe hrowD
    have hdg := dgN_nonneg (tmsL G) t
    have hg := hLP.ok G[t] (List.getElem_mem htn)
    have hnth := tmsL_nth htn
    have hzz : ∀ i, G.length ≤ i → nthE (x', y', z') i = 0 := fun i hi => hz0 i (by omega)
    -- the product of the others, and the product
    obtain ⟨L1, hL1⟩ : ∃ L1, PrR p (facL (tmsL G) (x', y', z')) L1 := pr_ex hg.2.2 (fac_valid hg.2.2 hLP.tms _ _ _) (by rw [sumD_facL _ hb']; omega)
    obtain ⟨f1, hf1⟩ := hL1.isP
    have hV1 := hg.2.2.of_isP hf1
    have hfit := fits_of hV1 hg.2.2 (PrR.room (fs := facL (tmsL G) (x', y', z')) (g := G[t].2.2) (fac_valid hg.2.2 hLP.tms _ _ _) hL1 (by rw [sumD, sumD_facL _ hb', ← hnth]; unfold dgN at hbe; omega))
    obtain ⟨L, hL⟩ := mul_ex hV1 hg.2.2 hfit
    have hPL : PrR p (facL (tmsL G) (x, y, z)) L := by rw [hfac, hnth]; exact ⟨L1, hL1, hL⟩
    obtain ⟨W, hW, hbW, ⟨hWs1, hWs2⟩, re, rr⟩ := boxER w x y z
    have hrun := (hD.later hbW).no hbt hh
    have c0 : W.cell? ⟨w.heap.size, 0, none⟩ = some (.int .u8 x) := re.cell (i := 0) (by omega)
    have c1 : W.cell? ⟨w.heap.size, 1, none⟩ = some (.int .u8 y) := re.cell (i := 1) (by omega)
    have c2 : W.cell? ⟨w.heap.size, 2, none⟩ = some (.int .u8 z) := re.cell (i := 2) (by omega)
    obtain ⟨V, hV, hbV, ⟨hVs1, hVs2⟩, rV⟩ := newbox W 0 0 (.slice none 0 0)
    have hbwV := hbW.trans (hbV.mono hbW.size)
    have rrV := rowIs_below rr hbV rr.lt
    have reV := rowIs_below re hbV re.lt
    have hDV := hD.later hbwV
    have hGV := hG.below hbwV
    obtain ⟨la, lc, rfl, hc⟩ := id hG
    have hlen : (1 : Int) ≤ (G.length : Int) ∧ (G.length : Int) ≤ 3 := ⟨by have := hLP.l1; omega, by have := hLP.l3; omega⟩
    obtain ⟨hlen1, hlen3⟩ := hlen
    obtain ⟨e0, e1⟩ : 0 < nthE (x, y, z) t ∧ nthE (x, y, z) t ≤ 255 := ⟨ht0, by
      obtain ⟨⟨a1, a2⟩, ⟨a3, a4⟩, a5, a6⟩ : (0 ≤ x ∧ x ≤ 255) ∧ (0 ≤ y ∧ y ≤ 255) ∧ (0 ≤ z ∧ z ≤ 255) := hbt
      unfold nthE
      repeat' split
      all_goals omega⟩
    have HR := Lib.hid (fun (k : Nat) (h : k < 3) => nthX_cell reV h)
    have HZ := Lib.hid htz
    go_enter Tryz.func141, Tryz.ntmps141
    go_upto_region 1 with fail
    rw [← hW]
    clear hW
    go_upto_region 2 with fail
    rw [← hV]
    clear hV c0 c1 c2 hrun
    go_wp2_with fail
    go_loop [9] (fun i => ∃ m : Nat, i = .int .i64 m ∧ t ≤ m ∧ m < G.length) (fun i => (intOf i).toNat)
    case atStart => exact ⟨G.length - 1, by rw [show ((G.length - 1 : Nat) : Int) = (G.length : Int) - 1 by omega], by omega, by omega⟩
    case round =>
      obtain ⟨m, rfl, htm, hmn⟩ := hrel
      have hm3 : m < 3 := by omega
      have hm3' : (m : Int) < 3 := by omega
      have c0 := HR.out m hm3
      by_cases hmt : m = t
      · subst hmt
        have hne : (nthE (x, y, z) m == 0) = false := by simp; omega
        have hw8 : IntKind.u8.wrap (nthE (x, y, z) m - 1) = nthE (x, y, z) m - 1 := IntWalk.u8_in _ (by omega)
        obtain ⟨b0, k0⟩ : V.cell? ⟨w.heap.size, 0, none⟩ = some (.int .u8 x) ∧ V.cell? ⟨w.heap.size, 1, none⟩ = some (.int .u8 y) := ⟨reV.cell (i := 0) (by omega), reV.cell (i := 1) (by omega)⟩
        have k2 : V.cell? ⟨w.heap.size, 2, none⟩ = some (.int .u8 z) := reV.cell (i := 2) (by omega)
        obtain ⟨X, hX, hbX, ⟨hXs1, hXs2⟩, rX⟩ : ∃ X, X = V.alloc (.cells #[.int .u8 x, .int .u8 y, .int .u8 z] 88) ∧ Below V.heap.size V X ∧ (X.heap.size ≤ V.heap.size + 1 ∧ V.heap.size + 1 ≤ X.heap.size) ∧ X.rowIs V.heap.size 88 3 (expsF x y z) :=
          ⟨_, rfl, box1 _ _, ⟨by simp, by simp⟩, World.rowIs_alloc V #[Value.int .u8 x, .int .u8 y, .int .u8 z] _ _ (fun i hi => by simp at hi; match i, hi with | 0, _ => rfl | 1, _ => rfl | 2, _ => rfl)⟩
        have g0 := nthX_cell rX hm3
        have g1 := rX.frozen m
        have rZ := hrowD X _ rX
        go_upto_region 8 with fail
        rw [← hX]
        clear hX
        obtain ⟨Z, hZ, hZ2⟩ : ∃ Z, Z = X.setCell ⟨V.heap.size, m, none⟩ (.int .u8 (nthE (x, y, z) m - 1)) ∧ Z.heap.size = X.heap.size := ⟨_, rfl, World.size_setCell _ _ _⟩
        rw [← hZ] at rZ
        have hbwX := hbwV.trans (hbX.mono hbwV.size)
        have hVw := hbwV.size
        have hbwZ : Below w.heap.size w Z := by rw [hZ]; exact hbwX.setCell (by simpa using hVw) _
        have hDZ := hD.later hbwZ
        have hGZ := hG.below hbwZ
        have reZ : Z.rowIs w.heap.size 88 3 (expsF x y z) := by
          rw [hZ]
          exact (rowIs_below re (hbV.trans (hbX.mono hbV.size)) re.lt).setOther (by simp; omega) _
        have rrZ : Z.rowIs (w.heap.size + 1) 39 3 (polyF 0 0 (.slice none 0 0)) := by
          rw [hZ]
          exact (rowIs_below rr (hbV.trans (hbX.mono hbV.size)) rr.lt).setOther (by simp; omega) _
        obtain ⟨bl, off, rfl, hbl, hT⟩ : ∃ bl off, la = some ⟨bl, off, none⟩ ∧ bl < Z.heap.size ∧ PolysW Z bl off G := by
          obtain ⟨la', lc', hv, hcs⟩ := hGZ
          simp at hv
          obtain ⟨rfl, rfl⟩ := hv
          rcases hcs with h | h
          · rw [h] at htn; simp at htn
          · exact h
        have hne2 : b < w.heap.size := hD.map.lt
        have hnZ : Z.heap.size ≠ b := by have := hbwZ.size; omega
        obtain ⟨u, h0, h1, h2, hu⟩ := hT m htn
        obtain ⟨ua, uc, rfl, _⟩ := id hu
        rw [hg.1] at h0
        rw [hg.2.1] at h1
        have hblb : bl ≠ b := fun e => by
          rw [e, hDZ.map.noCell] at h0
          simp at h0
        have KK := Lib.hid (fun w' (h : Z.grownBy w' (some b)) => show ((w'.cell? ⟨V.heap.size, 0, none⟩ = some (.int .u8 x') ∧ w'.cell? ⟨V.heap.size, 1, none⟩ = some (.int .u8 y') ∧ w'.cell? ⟨V.heap.size, 2, none⟩ = some (.int .u8 z')) ∧ (w'.cell? ⟨bl, off + m * 3, none⟩ = some (.int .i64 p) ∧ w'.cell? ⟨bl, off + m * 3 + 1, none⟩ = some (.int .i64 d) ∧ w'.cell? ⟨bl, off + m * 3 + 2, none⟩ = some (.slice ua G[m].2.2.length uc))) from by
          have r := rowG rZ h (by omega)
          have q : ∀ o, w'.cell? ⟨bl, o, none⟩ = Z.cell? ⟨bl, o, none⟩ := fun o => h.cell_far ⟨bl, o, none⟩ hbl (by simpa using hblb)
          exact ⟨⟨r.cell (i := 0) (by omega), r.cell (i := 1) (by omega), r.cell (i := 2) (by omega)⟩, (q _).trans h0, (q _).trans h1, (q _).trans h2⟩)
        have hnn : n + s ≤ 1048576 := by omega
        have hs'' : x' + y' + z' = (s : Int) := by omega
        have hbd' : bndE (tmsL G) (x', y', z') ≤ 12 := by omega
        have HVS := Lib.hid (And.intro hV1 (And.intro hg.2.2 hfit))
        have hMZ := hDZ.map
        go_upto_region 9 with fail
        rw [← hZ]
        clear hZ hZ2 h0 h1 h2 c0 b0 k0 k2 g0 g1 hrowD hw8 hne HR HZ
        go_cut [11] (fun s11 wx => ∃ (bx : Nat) (A : Option Addr) (c : Nat) (D' : DataW Value) (n' : Nat), s11 = .pointer (some ⟨bx, 0, none⟩) ∧ wx.rowIs bx 39 3 (polyF p d (.slice A L.length c)) ∧ SliceT wx (.slice A L.length c) L ∧ DoneP wx b n' D' p d (tmsL G) ∧ n' ≤ n + s ∧ Z.grownBy wx (some b) ∧ Z.heap.size ≤ bx)
        case first =>
          go_region_held3 (fun w' => ((w'.cell? ⟨V.heap.size, 0, none⟩ = some (.int .u8 x') ∧ w'.cell? ⟨V.heap.size, 1, none⟩ = some (.int .u8 y') ∧ w'.cell? ⟨V.heap.size, 2, none⟩ = some (.int .u8 z')) ∧ (w'.cell? ⟨bl, off + m * 3, none⟩ = some (.int .i64 p) ∧ w'.cell? ⟨bl, off + m * 3 + 1, none⟩ = some (.int .i64 d) ∧ w'.cell? ⟨bl, off + m * 3 + 2, none⟩ = some (.slice ua G[m].2.2.length uc))))
            (first | with_reducible exact KK.out _ (gSetNew (gSetNew (gSetNew HG14 HG13.size) HG13.size) HG13.size) | with_reducible exact KK.out _ (gSetNew (gSetNew (gSetNew HG14 (Nat.le_refl _)) (Nat.le_refl _)) (Nat.le_refl _)) | with_reducible exact KK.out _ (gBelow (Below.same _).drew) | with_reducible exact KK.out _ (gBelow (box1 _ _).drew) | with_reducible exact KK.out _ HG13 | with_reducible exact KK.out _ (HG13.trans (gBelow (box1 _ _))) | with_reducible exact KK.out _ HG14 | with_reducible exact KK.out _ (HG14.trans (gBelow (box1 _ _))))
            (first
            | (go_at_call 141; (with_reducible refine (ih x' y' z' n D _ hb' hs'' hzz hbd' (by first | with_reducible exact hGZ.below (Below.same _).drew | with_reducible exact hGZ.below (box1 _ _).drew) (by first | with_reducible exact hDZ.later (Below.same _).drew | with_reducible exact hDZ.later (box1 _ _).drew) hnn).mono ?_); rintro e w13 ⟨v13, L13, D13, n13, rfl, hS13, hL13, hD13, hn13, hg13⟩; have HG13 : Z.grownBy w13 (some b) := (by first | with_reducible exact (gBelow (Below.same _).drew).trans hg13 | with_reducible exact (gBelow (box1 _ _).drew).trans hg13); (first | (have ZR13 : w13.rowIs Z.heap.size 39 3 (polyF 0 0 (.slice none 0 0)) := rowG (zboxD Z) hg13 hnZ; obtain ⟨⟨e130, e131, e132⟩, f130, f131, f132⟩ := poly3 ZR13) | skip); (obtain rfl : L1 = L13 := hL1.unique hL13); (obtain ⟨a13, c13, rfl, _⟩ := id hS13))
            | (go_at_call 70; (with_reducible refine (product_any p d _ _ L1 G[m].2.2 _ (by first | with_reducible exact hS13 | with_reducible exact hS13.below (box1 _ _)) (by first | with_reducible exact hu.besideP hMZ HG13 | with_reducible exact (hu.besideP hMZ HG13).below (box1 _ _)) HVS.out.1 HVS.out.2.1 HVS.out.2.2).mono ?_); rintro e w14 ⟨v14, L14, rfl, ho14, hL14, hb14⟩; have H14 : Below w13.heap.size w13 w14 := (by first | with_reducible exact hb14 | with_reducible exact (box1 _ _).trans (hb14.mono (by simp))); have HG14 : Z.grownBy w14 (some b) := HG13.trans (gBelow H14); (first | (have ZR14 : w14.rowIs w13.heap.size 39 3 (polyF 0 0 (.slice none 0 0)) := rowIs_below (zbox w13) hb14 (by simp); obtain ⟨⟨e140, e141, e142⟩, f140, f141, f142⟩ := poly3 ZR14) | (have ZR14 := rowIs_below ZR13 H14 ZR13.lt; obtain ⟨⟨e140, e141, e142⟩, f140, f141, f142⟩ := poly3 ZR14) | skip); (obtain rfl : L = L14 := hL.unique hL14); (obtain ⟨sa, sc, rfl⟩ := owns_slice ho14)))
          all_goals
            go_wp2_with fail
            go_meet
            first
              | exact ⟨w14.heap.size, sa, sc, D13, n13, rfl, World.rowIs_alloc w14 #[Value.int .i64 p, .int .i64 d, .slice sa L.length sc] _ _ (fun i hi => by simp at hi; match i, hi with | 0, _ => rfl | 1, _ => rfl | 2, _ => rfl), (OwnP.slice ho14).below (box1 _ _), (hD13.later H14).later (box1 _ _), hn13, HG14.trans (gBelow (box1 _ _)), HG14.size⟩
              | exact ⟨w13.heap.size, sa, sc, D13, n13, rfl, (box_setD ZR14 (hD13.later H14) HG14 HG13.size ho14 p d).1, (box_setD ZR14 (hD13.later H14) HG14 HG13.size ho14 p d).2.1, (box_setD ZR14 (hD13.later H14) HG14 HG13.size ho14 p d).2.2.1, hn13, (box_setD ZR14 (hD13.later H14) HG14 HG13.size ho14 p d).2.2.2, HG13.size⟩
              | exact ⟨Z.heap.size, sa, sc, D13, n13, rfl, (box_setD ZR14 (hD13.later H14) HG14 (Nat.le_refl _) ho14 p d).1, (box_setD ZR14 (hD13.later H14) HG14 (Nat.le_refl _) ho14 p d).2.1, (box_setD ZR14 (hD13.later H14) HG14 (Nat.le_refl _) ho14 p d).2.2.1, hn13, (box_setD ZR14 (hD13.later H14) HG14 (Nat.le_refl _) ho14 p d).2.2.2, Nat.le_refl _⟩
        case rest =>
          obtain ⟨bx, A, c, D', n', rfl, rbx, hSx, hDx, hnx, hgx, hbx⟩ := hcut
          have hgw := (gBelow hbwZ).trans hgx
          have reC := rowG reZ hgx (by omega)
          have rrC := rowG rrZ hgx (by omega)
          have hbxb : bx ≠ b := by have := hbwZ.size; omega
          have hkey : keyOf Tryz.prog 88 (.agg #[.int .u8 x, .int .u8 y, .int .u8 z]) = some (kE (x, y, z)) := keyOf_vE (x, y, z) hbt
          have HE := Lib.hid (fun w2 (h1 : MapP w2 b (n' + 1) (D'.put (kE (x, y, z)) (.held (.agg #[.int .i64 p, .int .i64 d, .slice A L.length c])))) (h2 : wc.grownBy w2 (some b)) =>
            box_setS (Z0 := w) (rowG rrC h2 (by omega)) (hDx.put hbt hSx hPL h1 h2) (hgw.trans h2) (by omega) (hSx.besideP hDx.map h2) p d)
          have HB := Lib.hid (fun w2 (h2 : wc.grownBy w2 (some b)) => And.intro (rowG rrC h2 (by omega)) (rowG rbx h2 hbxb))
          have c0 : wc.cell? ⟨w.heap.size, 0, none⟩ = some (.int .u8 x) := reC.cell (i := 0) (by omega)
          have c1 : wc.cell? ⟨w.heap.size, 1, none⟩ = some (.int .u8 y) := reC.cell (i := 1) (by omega)
          have c2 : wc.cell? ⟨w.heap.size, 2, none⟩ = some (.int .u8 z) := reC.cell (i := 2) (by omega)
          obtain ⟨⟨b0, b1, b2⟩, _⟩ := poly3 rbx
          have hmap := hDx.map
          have hml : n' < maxLen := by unfold maxLen; omega
          have HPL := Lib.hid hPL
          have HNX : Hid (n' + 1 ≤ n + (s + 1)) := Lib.hid (by omega)
          clear KK HVS hu hT hDZ hGZ hMZ rZ reZ rrZ hD hG hDV hGV reC rrC rbx hSx hDx hPL hc hV1 hfit hL hL1 hf1 hfac hbe hbd hbd' htz hz hzz hz0 hnx hbx hgx hgw re rr reV rrV rV rX hbX hbV hbW hbwV hbwX hbwZ hg hnth ih
          go_wp2_with (at_mapUpdate; refine wpList_mapUpdate_own _ rfl _ _ _ 149 rfl 88 39 lawK Tryz.underlying149 elemP b n' D' rfl hmap hml (.agg #[.int .u8 x, .int .u8 y, .int .u8 z]) _ _ rfl rfl hkey (.held (.agg #[.int .i64 p, .int .i64 d, .slice A L.length c])) [] rfl ?_; intro w2 hown2 hgrow2; obtain ⟨⟨⟨r0, r1, r2⟩, z0, z1, z2⟩, ⟨q0, q1, q2⟩, _⟩ := And.intro (poly3 (HB.out w2 hgrow2).1) (poly3 (HB.out w2 hgrow2).2))
          obtain ⟨a0, a1, a2, a3⟩ := HE.out w2 hown2 hgrow2
          obtain ⟨⟨m0, m1, m2⟩, _⟩ := poly3 a0
          exact bodyPost_ret (v := .agg #[.int .i64 p, .int .i64 d, .slice A L.length c]) (by simp [results, Tryz.results141, go_sem, m0, m1, m2]) rfl ⟨_, rfl, L, a1, HPL.out, _, _, a2, HNX.out, a3⟩
      · have hq0 := HZ.out m (by omega)
        rw [hq0] at c0
        go_wp2_with fail
        go_round
        case rel => exact ⟨m - 1, by rw [show ((m - 1 : Nat) : Int) = (m : Int) - 1 by omega], by omega, by omega⟩
        case measure => simp [intOf]; omega
end Go.Proofs.YtllklhakbanhaaaGreat
