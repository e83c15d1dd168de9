/-
  CONJUGATE GROUPS: what they are; the program's walk. Conditions: the numbers of the matrices are bytes.
-/
import Derived.Test.YtpbdbgajohacoaaSq
import Derived.Test.YtpbdbgajohacoaaSx
import Derived.Test.YtpbdbgajohacoaaCa
namespace Go.Proofs.Ytpbdbgajohacoaa
open Go.RowKit Go.Sort EchM

theorem chain_pair {p n : Int} : ∀ (o : Option (Nat → Nat → Int)) (L : List (Nat → Nat → Int)), chainG p n o L = true → (∀ y, o = some y → ∀ x ∈ L, befM y x = true) ∧ L.Pairwise fun a b => befM a b = true
  | _, [], _ => ⟨by simp, List.Pairwise.nil⟩
  | o, x :: L, h => by
    have h' : chainG p n (some x) L = true ∧ ∀ y, o = some y → befM y x = true := by
      cases o with
      | none => simp only [chainG, Bool.and_eq_true] at h; exact ⟨by simp_all, fun y e => by cases e⟩
      | some y => simp only [chainG, Bool.and_eq_true] at h; exact ⟨by simp_all, fun z e => by cases e; simp_all⟩
    obtain ⟨i1, i2⟩ := chain_pair (some x) L h'.1
    refine ⟨fun y e z hz => ?_, List.pairwise_cons.2 ⟨fun z hz => i1 x rfl z hz, i2⟩⟩
    rcases List.mem_cons.1 hz with rfl | hz
    · exact h'.2 y e
    · exact befM_trans (h'.2 y e) (i1 x rfl z hz)
theorem isGrp_asc {p n : Int} {L : List (Nat → Nat → Int)} (h : isGrp p n L = true) : L.Pairwise fun a b => befM a b = true := by
  unfold isGrp at h
  simp only [Bool.and_eq_true] at h
  obtain ⟨_, _, _, _, ht, _⟩ := h
  exact (chain_pair _ L (by simpa [tailG, prevG] using ht)).2
theorem conj_nodup {p : Int} {n : Nat} {m : Nat → Nat → Int} {L : List (Nat → Nat → Int)} (hm : MatV p n m) (hL : ∀ x ∈ L, MatV p n x) (ha : L.Pairwise fun a b => befM a b = true) : ((L.map (conjM p n m)).map cut3).Nodup := by
  unfold List.Nodup
  rw [List.map_map, List.pairwise_map]
  refine ha.imp_of_mem fun {a b} hma hmb hab e => ?_
  have h3 : eq3 (conjM p n m a) (conjM p n m b) := fun i hi j hj => by
    have := congrFun (congrFun e i) j
    simp only [Function.comp] at this
    rwa [cut3_at _ hi hj, cut3_at _ hi hj] at this
  have h4 := conj_inj hm (hL a hma) (hL b hmb) h3
  have h5 : cut3 a = cut3 b := by
    funext i j
    unfold cut3
    by_cases hij : i < 3 ∧ j < 3
    · rw [if_pos hij, if_pos hij]; exact h4 i hij.1 j hij.2
    · rw [if_neg hij, if_neg hij]
  rw [← befM_cut, h5, befM_irrefl] at hab
  cases hab
def cjO (p n : Int) (L : List (Nat → Nat → Int)) (m : Nat → Nat → Int) : GO := if isGrp p n L then (if isMat p n m then ⟨p, n, sortM ((L.map (conjM p n.toNat m)).map cut3), 0⟩ else noG 2) else noG 1

set_option maxRecDepth 8000 in
set_option maxHeartbeats 8000000 in
theorem icj (p n : Int) (v : Value) (L : List (Nat → Nat → Int)) (g : Nat → Nat → Int) (w : World) (hl : L.length ≤ 1048576) (hS : SlM w v L) (hby : ∀ x ∈ L, Byt x) (hgb : Byt g) :
    Calls Try.prog 36 #[.agg #[.int .i64 p, .int .i64 n, v], .agg #[.int .u8 (g 0 0), .int .u8 (g 0 1), .int .u8 (g 0 2), .int .u8 (g 1 0), .int .u8 (g 1 1), .int .u8 (g 1 2), .int .u8 (g 2 0), .int .u8 (g 2 1), .int .u8 (g 2 2)]] w (ResG w (cjO p n L g)) := by
  obtain ⟨i0, hi, hz0, hz1, hz2⟩ := info_parts infoMat
  have hmk : ∀ w, (Instr.makeSlice 24 (.int .i64 (L.length : Int)) (.int .i64 (L.length : Int))).run Try.prog w = .ok (.slice (some ⟨w.heap.size, 0, none⟩) L.length L.length) (w.alloc (.cells (madeM L.length) 55)) := fun w => by
    have h := run_make (P := Try.prog) w 24 55 i0 _ Try.underlying24 hi hz0 .i64 .i64 (L.length : Int) (L.length : Int) (by omega) (by omega) (by rw [hz2]; omega) (by omega)
    rw [hz1] at h
    simpa [madeM] using h
  clear hi hz0 hz1 hz2
  obtain ⟨W, hW, rW, rM, rR, hbW, hWs⟩ : ∃ W, W = ((w.alloc (.cells #[.int .i64 p, .int .i64 n, v] 26)).alloc (.cells #[.int .u8 (g 0 0), .int .u8 (g 0 1), .int .u8 (g 0 2), .int .u8 (g 1 0), .int .u8 (g 1 1), .int .u8 (g 1 2), .int .u8 (g 2 0), .int .u8 (g 2 1), .int .u8 (g 2 2)] 55)).alloc (.cells #[.int .i64 0, .int .i64 0, .slice none 0 0] 26) ∧ W.rowIs w.heap.size 26 3 (grpF p n v) ∧ W.rowIs (w.heap.size + 1) 55 9 (mF g) ∧ W.rowIs (w.heap.size + 2) 26 3 (grpF 0 0 (.slice none 0 0)) ∧ Below w.heap.size w W ∧ w.heap.size + 3 ≤ W.heap.size := by
    refine ⟨_, rfl, ((gbox w p n v _).alloc _).alloc _, ?_, ?_, (ebox2 _ _ _).alloc (by simp; omega) _, by simp⟩
    · have := mbox (w.alloc (.cells #[.int .i64 p, .int .i64 n, v] 26)) g 55
      rw [World.size_alloc] at this
      exact this.alloc _
    · have := gbox ((w.alloc (.cells #[.int .i64 p, .int .i64 n, v] 26)).alloc (.cells #[.int .u8 (g 0 0), .int .u8 (g 0 1), .int .u8 (g 0 2), .int .u8 (g 1 0), .int .u8 (g 1 1), .int .u8 (g 1 2), .int .u8 (g 2 0), .int .u8 (g 2 1), .int .u8 (g 2 2)] 55)) 0 0 (.slice none 0 0) 26
      rw [World.size_alloc, World.size_alloc] at this
      exact this
  have hSW := hS.below hbW
  obtain ⟨a, cap, rfl, hSc⟩ := id hS
  obtain ⟨g0, g1, g2⟩ := gcells rW
  have HBY := Lib.hid hby
  clear hby
  go_enter Try.func36, Try.ntmps36
  go_wp2_with fail
  rw [← hW]
  clear hW
  ((with_reducible refine (igroup p n _ L _ hl hSW HBY.out).mono ?_); rintro e w1 ⟨rfl, hb1⟩)
  have rx1 := erow_below rW hb1 rW.lt
  have rm1 := erow_below rM hb1 rM.lt
  have rr := erow_below rR hb1 rR.lt
  have hbw1 := hbW.trans (hb1.mono hbW.size)
  have hS1 := hSW.below hb1
  clear g0 g1 g2
  cases hg : isGrp p n L
  · have HO := Lib.hid (show cjO p n L g = noG 1 by unfold cjO; rw [hg]; rfl)
    clear hg
    obtain ⟨r0, r1, r2⟩ := gcells rr
    have z0 := rr.frozen 0
    have z1 := rr.frozen 1
    have z2 := rr.frozen 2
    have R := ((rr.set 0 (.int .i64 0)).set 1 (.int .i64 0)).set 2 (.slice none 0 0)
    have V0 := Lib.hid (R.cell (i := 0) (by omega))
    have V1 := Lib.hid (R.cell (i := 1) (by omega))
    have V2 := Lib.hid (R.cell (i := 2) (by omega))
    have HB := Lib.hid (show Below w.heap.size w (((w1.setCell ⟨w.heap.size + 2, 0, none⟩ (.int .i64 0)).setCell ⟨w.heap.size + 2, 1, none⟩ (.int .i64 0)).setCell ⟨w.heap.size + 2, 2, none⟩ (.slice none 0 0)) from ((hbw1.setCell (by simp) _).setCell (by simp) _).setCell (by simp) _)
    clear R
    go_wp2_with fail
    exact bodyPost_ret (v := .tuple #[.agg #[.int .i64 0, .int .i64 0, .slice none 0 0], .int .i64 1]) (by simp [results, Try.results36, go_sem, V0.out, V1.out, V2.out]) rfl ⟨_, by rw [HO.out]; rfl, by rw [HO.out]; exact ownG9_none _ _, HB.out⟩
  · obtain ⟨m, rfl, m1, m3, hl48, hl1, hmv⟩ := isGrp_mats HBY.out hg
    obtain ⟨g0, g1, g2⟩ := gcells rx1
    obtain ⟨⟨c0, c1, c2⟩, ⟨c3, c4, c5⟩, c6, c7, c8⟩ := mcells rm1
    obtain ⟨B, hB⟩ : ∃ B, isMat p m g = B := ⟨_, rfl⟩
    have HMT := Lib.hid (fun w => ismat_is p m g w hgb B hB)
    have HBB := Lib.hid hB
    clear hB
    go_wp2_with fail
    ((with_reducible refine (HMT.out _).mono ?_); rintro e w2 ⟨rfl, hb2⟩)
    clear g0 g1 g2 c0 c1 c2 c3 c4 c5 c6 c7 c8
    have rx2 := erow_below rx1 hb2 rx1.lt
    have rm2 := erow_below rm1 hb2 rm1.lt
    have rr2 := erow_below rr hb2 rr.lt
    have hbw2 := hbw1.trans (hb2.mono hbw1.size)
    have hS2 := hS1.below hb2
    clear rx1 rm1 rr hS1 hb1 hb2 HMT
    cases B
    · have HO := Lib.hid (show cjO p m L g = noG 2 by unfold cjO; rw [hg, HBB.out]; rfl)
      clear hg
      obtain ⟨r0, r1, r2⟩ := gcells rr2
      have z0 := rr2.frozen 0
      have z1 := rr2.frozen 1
      have z2 := rr2.frozen 2
      have R := ((rr2.set 0 (.int .i64 0)).set 1 (.int .i64 0)).set 2 (.slice none 0 0)
      have V0 := Lib.hid (R.cell (i := 0) (by omega))
      have V1 := Lib.hid (R.cell (i := 1) (by omega))
      have V2 := Lib.hid (R.cell (i := 2) (by omega))
      have HB := Lib.hid (show Below w.heap.size w (((w2.setCell ⟨w.heap.size + 2, 0, none⟩ (.int .i64 0)).setCell ⟨w.heap.size + 2, 1, none⟩ (.int .i64 0)).setCell ⟨w.heap.size + 2, 2, none⟩ (.slice none 0 0)) from ((hbw2.setCell (by simp) _).setCell (by simp) _).setCell (by simp) _)
      clear R
      go_wp2_with fail
      exact bodyPost_ret (v := .tuple #[.agg #[.int .i64 0, .int .i64 0, .slice none 0 0], .int .i64 2]) (by simp [results, Try.results36, go_sem, V0.out, V1.out, V2.out]) rfl ⟨_, by rw [HO.out]; rfl, by rw [HO.out]; exact ownG9_none _ _, HB.out⟩
    · obtain ⟨m', hm', hgv⟩ := matV_of hgb HBB.out
      obtain rfl : m = m' := by omega
      have HO := Lib.hid (show cjO p m L g = ⟨p, m, sortM ((L.map (conjM p m g)).map cut3), 0⟩ by unfold cjO; rw [hg, HBB.out]; rfl)
      have HND := Lib.hid (conj_nodup hgv hmv (isGrp_asc hg))
      have HCJ := Lib.hid (fun x (hx : x ∈ L) w r (hr : conjM p m g x = r) => iconj p m x g r w (hmv x hx) hgv hr)
      clear hg hgv hmv hm'
      have hlm : (L.map (conjM p m g)).length ≤ 1048576 := by simpa using hl
      obtain ⟨E, hE, hEs⟩ : ∃ E, E = w2.alloc (.cells (madeM L.length) 55) ∧ Below w2.heap.size w2 E := ⟨_, rfl, ebox1 _ _⟩
      have hEz : w2.heap.size < E.heap.size := by rw [hE]; simp
      have hEr : E.rowIs w2.heap.size 55 (L.length * 9) (fun i => (madeM L.length).getD i undef) := by rw [hE]; exact madeM_row w2 _ _
      have yo : ∀ o, ((w2.alloc o).cell? ⟨w.heap.size, 2, none⟩ = some (.slice a L.length cap)) := fun o => (gcells (erow_below rx2 (ebox1 w2 o) rx2.lt)).2.2
      obtain ⟨g0, g1, g2⟩ := gcells rx2
      go_wp2_with fail
      rw [← hE]
      clear hE yo g0 g1 g2
      go_loopw [28] (fun i wr => ∃ k : Nat, k ≤ L.length ∧ i = .int .i64 k ∧ Below w2.heap.size w2 wr ∧ w2.heap.size < wr.heap.size ∧ ∃ f, wr.rowIs w2.heap.size 55 (L.length * 9) f ∧ Hid (rowM (L.map (conjM p m g)) k f)) (fun i _ => L.length - (intOf i).toNat)
      case atStart => exact ⟨0, by omega, rfl, hEs, hEz, _, hEr, Lib.hid (fun j _ h => by omega)⟩
      case round =>
        obtain ⟨k, hk, rfl, hbel, hsz, f, hrow, HR⟩ := hrel
        by_cases hlt : k < L.length
        · have hlt' : (k : Int) < (L.length : Int) := by omega
          obtain ⟨b, off, rfl, hbb, hT⟩ : ∃ b off, a = some ⟨b, off, none⟩ ∧ b < w.heap.size ∧ MatsW w b off L := by
            rcases hSc with rfl | h
            · simp at hlt
            · exact h
          have hbwr := hbw2.trans (hbel.mono hbw2.size)
          obtain ⟨⟨a0, a1, a2⟩, ⟨a3, a4, a5⟩, a6, a7, a8⟩ := (hT.below hbwr hbb).nine hlt
          obtain ⟨r, hr⟩ : ∃ r, conjM p m g L[k] = r := ⟨_, rfl⟩
          have HN : Hid (rowM (L.map (conjM p m g)) (k + 1) (putM f k r)) := Lib.hid (by
            have := rowM_step HR.out (show k < (L.map (conjM p m g)).length by simpa using hlt)
            rwa [List.getElem_map, hr] at this)
          have HC := Lib.hid (fun w => HCJ.out L[k] (List.getElem_mem hlt) w r hr)
          clear hr
          generalize L[k] = x at *
          obtain ⟨V, hV, rV, hbV⟩ : ∃ V, V = wr.alloc (.cells #[.int .u8 (x 0 0), .int .u8 (x 0 1), .int .u8 (x 0 2), .int .u8 (x 1 0), .int .u8 (x 1 1), .int .u8 (x 1 2), .int .u8 (x 2 0), .int .u8 (x 2 1), .int .u8 (x 2 2)] 55) ∧ V.rowIs wr.heap.size 55 9 (mF x) ∧ Below wr.heap.size wr V := ⟨_, rfl, mbox wr x _, ebox1 _ _⟩
          have hbelV := hbel.trans (hbV.mono (Nat.le_of_lt hsz))
          have rxwr := erow_below rx2 hbel rx2.lt
          have rmwr := erow_below rm2 hbel rm2.lt
          have yo := fun o => gcells (erow_below rxwr (ebox1 wr o) rxwr.lt)
          have mo := fun o => mcells (erow_below rmwr (ebox1 wr o) rmwr.lt)
          have rowV := erow_below hrow hbV hsz
          have hszV := Nat.lt_of_lt_of_le hsz hbV.size
          go_wp2_with fail
          rw [← hV]
          clear hV yo mo rxwr rmwr a0 a1 a2 a3 a4 a5 a6 a7 a8
          ((with_reducible refine (HC.out _).mono ?_); rintro e w3 ⟨rfl, hb3⟩)
          have row1 := erow_below rowV hb3 hszV
          have d0 := row1.cell (i := k * 9) (by omega)
          have f0 := row1.frozen (k * 9)
          have d1 := row1.cell (i := k * 9 + 1) (by omega)
          have f1 := row1.frozen (k * 9 + 1)
          have d2 := row1.cell (i := k * 9 + 2) (by omega)
          have f2 := row1.frozen (k * 9 + 2)
          have d3 := row1.cell (i := k * 9 + 3) (by omega)
          have f3 := row1.frozen (k * 9 + 3)
          have d4 := row1.cell (i := k * 9 + 4) (by omega)
          have f4 := row1.frozen (k * 9 + 4)
          have d5 := row1.cell (i := k * 9 + 5) (by omega)
          have f5 := row1.frozen (k * 9 + 5)
          have d6 := row1.cell (i := k * 9 + 6) (by omega)
          have f6 := row1.frozen (k * 9 + 6)
          have d7 := row1.cell (i := k * 9 + 7) (by omega)
          have f7 := row1.frozen (k * 9 + 7)
          have d8 := row1.cell (i := k * 9 + 8) (by omega)
          have f8 := row1.frozen (k * 9 + 8)
          have hbel1 := hbelV.trans (hb3.mono (Nat.le_of_lt hszV))
          have hsz1 := Nat.lt_of_lt_of_le hszV hb3.size
          have rows := putM_row row1 k r
          clear hb3 row1 rowV hbV hbelV hszV rV HC
          go_wp2_with fail
          go_roundw
          case rel => exact ⟨k + 1, by omega, by go_num, (((((((((hbel1).setCell (Nat.le_refl _) _).setCell (Nat.le_refl _) _).setCell (Nat.le_refl _) _).setCell (Nat.le_refl _) _).setCell (Nat.le_refl _) _).setCell (Nat.le_refl _) _).setCell (Nat.le_refl _) _).setCell (Nat.le_refl _) _).setCell (Nat.le_refl _) _, by simpa using hsz1, _, rows, HN⟩
          case measure => simp [intOf]; omega
        · obtain rfl : k = L.length := by omega
          have hSE : SlM wr.drew (.slice (some ⟨w2.heap.size, 0, none⟩) L.length L.length) (L.map (conjM p m g)) := by
            refine ⟨_, _, by rw [List.length_map], .inr ⟨w2.heap.size, 0, rfl, hsz, fun k hk i j hi hj => ?_⟩⟩
            have hk' : k < L.length := by simpa using hk
            have := HR.out k hk hk' i j hi hj
            rw [Nat.zero_add]
            show wr.cell? _ = _
            rw [hrow.cell (by omega), this]
          have HDI := Lib.hid (gdistinctS _ _ _ hlm hSE HND.out)
          have rxr := erow_below rx2 hbel rx2.lt
          have rrr := erow_below rr2 hbel rr2.lt
          have hbwr := hbw2.trans (hbel.mono hbw2.size)
          have dxr : wr.drew.rowIs w.heap.size 26 3 (grpF p m (.slice a L.length cap)) := rxr
          have drr : wr.drew.rowIs (w.heap.size + 2) 26 3 (grpF 0 0 (.slice none 0 0)) := rrr
          have hbd : Below w.heap.size w wr.drew := hbwr.drew
          generalize sortM ((L.map (conjM p m g)).map cut3) = S at *
          clear hSE HND HCJ HR hrow
          obtain ⟨g0, g1, g2⟩ := gcells dxr
          go_wp2_with fail
          go_region_with (go_at_call 47; (with_reducible refine HDI.out.mono ?_); rintro e w4 ⟨v4, rfl, ho4, hb4⟩; have r4 := erow_below drr hb4 drr.lt; obtain ⟨r0, r1, r2⟩ := gcells r4; have z0 := r4.frozen 0; have z1 := r4.frozen 1; have z2 := r4.frozen 2; obtain ⟨h0, h1, h2⟩ := gcells (erow_below dxr hb4 dxr.lt); obtain ⟨sa, sc, rfl⟩ := OwnG9.shape ho4)
          all_goals
            have R := ((r4.set 0 (.int .i64 p)).set 1 (.int .i64 m)).set 2 (.slice sa S.length sc)
            have V0 := Lib.hid (R.cell (i := 0) (by omega))
            have V1 := Lib.hid (R.cell (i := 1) (by omega))
            have V2 := Lib.hid (R.cell (i := 2) (by omega))
            have hbf := hbd.trans (hb4.mono hbd.size)
            have HB := Lib.hid (show Below w.heap.size w (((w4.setCell ⟨w.heap.size + 2, 0, none⟩ (.int .i64 p)).setCell ⟨w.heap.size + 2, 1, none⟩ (.int .i64 m)).setCell ⟨w.heap.size + 2, 2, none⟩ (.slice sa S.length sc)) from ((hbf.setCell (by simp) _).setCell (by simp) _).setCell (by simp) _)
            have HSL := Lib.hid (show OwnG9 (((w4.setCell ⟨w.heap.size + 2, 0, none⟩ (.int .i64 p)).setCell ⟨w.heap.size + 2, 1, none⟩ (.int .i64 m)).setCell ⟨w.heap.size + 2, 2, none⟩ (.slice sa S.length sc)) w.heap.size (.slice sa S.length sc) S from by
              have hne : (Value.slice sa S.length sc).ownBlock ≠ some (w.heap.size + 2) := fun e => by
                have := (World.ownsRow.lt ho4 _ e).1
                have := drr.lt
                omega
              exact OwnG9.mono (mown_set (mown_set (mown_set ho4 _ _ _ hne) _ _ _ hne) _ _ _ hne) hbd.size)
            clear R
            go_wp2_with fail
            exact bodyPost_ret (v := .tuple #[.agg #[.int .i64 p, .int .i64 m, .slice sa S.length sc], .int .i64 0]) (by simp [results, Try.results36, go_sem, V0.out, V1.out, V2.out]) rfl ⟨_, by rw [HO.out], by rw [HO.out]; exact HSL.out, HB.out⟩
end Go.Proofs.Ytpbdbgajohacoaa
