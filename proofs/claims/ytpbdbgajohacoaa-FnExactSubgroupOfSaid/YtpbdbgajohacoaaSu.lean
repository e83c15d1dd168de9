/-
  CONJUGATE GROUPS: the model's walk. Conditions: the numbers of the matrices are bytes.
-/
import Derived.Test.YtpbdbgajohacoaaSr
import Derived.Test.YtpbdbgajohacoaaSl
import Derived.Deep.RegionHeld3
namespace Go.Proofs.Ytpbdbgajohacoaa
open Go.RowKit Go.Sort EchM

theorem nine_below {w w' : World} {b off k : Nat} {x : Nat → Nat → Int} {B : Nat} (h : ((w.cell? ⟨b, off + k * 9, none⟩ = some (.int .u8 (x 0 0)) ∧ w.cell? ⟨b, off + k * 9 + 1, none⟩ = some (.int .u8 (x 0 1)) ∧ w.cell? ⟨b, off + k * 9 + 2, none⟩ = some (.int .u8 (x 0 2))) ∧ (w.cell? ⟨b, off + k * 9 + 3, none⟩ = some (.int .u8 (x 1 0)) ∧ w.cell? ⟨b, off + k * 9 + 4, none⟩ = some (.int .u8 (x 1 1)) ∧ w.cell? ⟨b, off + k * 9 + 5, none⟩ = some (.int .u8 (x 1 2))) ∧ (w.cell? ⟨b, off + k * 9 + 6, none⟩ = some (.int .u8 (x 2 0)) ∧ w.cell? ⟨b, off + k * 9 + 7, none⟩ = some (.int .u8 (x 2 1)) ∧ w.cell? ⟨b, off + k * 9 + 8, none⟩ = some (.int .u8 (x 2 2))))) (hb : Below B w w') (hlt : b < B) : ((w'.cell? ⟨b, off + k * 9, none⟩ = some (.int .u8 (x 0 0)) ∧ w'.cell? ⟨b, off + k * 9 + 1, none⟩ = some (.int .u8 (x 0 1)) ∧ w'.cell? ⟨b, off + k * 9 + 2, none⟩ = some (.int .u8 (x 0 2))) ∧ (w'.cell? ⟨b, off + k * 9 + 3, none⟩ = some (.int .u8 (x 1 0)) ∧ w'.cell? ⟨b, off + k * 9 + 4, none⟩ = some (.int .u8 (x 1 1)) ∧ w'.cell? ⟨b, off + k * 9 + 5, none⟩ = some (.int .u8 (x 1 2))) ∧ (w'.cell? ⟨b, off + k * 9 + 6, none⟩ = some (.int .u8 (x 2 0)) ∧ w'.cell? ⟨b, off + k * 9 + 7, none⟩ = some (.int .u8 (x 2 1)) ∧ w'.cell? ⟨b, off + k * 9 + 8, none⟩ = some (.int .u8 (x 2 2)))) :=
  ⟨⟨(hb.cell hlt).trans h.1.1, (hb.cell hlt).trans h.1.2.1, (hb.cell hlt).trans h.1.2.2⟩, ⟨(hb.cell hlt).trans h.2.1.1, (hb.cell hlt).trans h.2.1.2.1, (hb.cell hlt).trans h.2.1.2.2⟩, (hb.cell hlt).trans h.2.2.1, (hb.cell hlt).trans h.2.2.2.1, (hb.cell hlt).trans h.2.2.2.2⟩
theorem own_r (w : World) (r : Nat → Nat → Int) : (w.alloc (.cells #[.int .u8 (r 0 0), .int .u8 (r 0 1), .int .u8 (r 0 2), .int .u8 (r 1 0), .int .u8 (r 1 1), .int .u8 (r 1 2), .int .u8 (r 2 0), .int .u8 (r 2 1), .int .u8 (r 2 2)] 55)).ownsRow w.heap.size 55 9 (.slice (some ⟨w.heap.size, 0, none⟩) [r].length 1) [r].length (cells9 [r]) := by
  have h := own_one w r
  rw [show cells9 [r] = cell9 r by simp [cells9]]
  exact h

set_option maxRecDepth 8000 in
set_option maxHeartbeats 8000000 in
theorem scj (p n : Int) (v : Value) (L : List (Nat → Nat → Int)) (g : Nat → Nat → Int) (w : World) (hl : L.length ≤ 1048576) (hS : SlM w v L) (hby : ∀ x ∈ L, Byt x) (hgb : Byt g) :
    Calls Try.prog 34 #[.agg #[.int .i64 p, .int .i64 n, v], .agg #[.int .u8 (g 0 0), .int .u8 (g 0 1), .int .u8 (g 0 2), .int .u8 (g 1 0), .int .u8 (g 1 1), .int .u8 (g 1 2), .int .u8 (g 2 0), .int .u8 (g 2 1), .int .u8 (g 2 2)]] w (ResG w (cjO p n L g)) := by
  obtain ⟨W, hW, rW, rM, rR, hbW, hWs⟩ : ∃ W, W = ((w.alloc (.cells #[.int .i64 p, .int .i64 n, v] 26)).alloc (.cells #[.int .u8 (g 0 0), .int .u8 (g 0 1), .int .u8 (g 0 2), .int .u8 (g 1 0), .int .u8 (g 1 1), .int .u8 (g 1 2), .int .u8 (g 2 0), .int .u8 (g 2 1), .int .u8 (g 2 2)] 55)).alloc (.cells #[.int .i64 0, .int .i64 0, .slice none 0 0] 26) ∧ W.rowIs w.heap.size 26 3 (grpF p n v) ∧ W.rowIs (w.heap.size + 1) 55 9 (mF g) ∧ W.rowIs (w.heap.size + 2) 26 3 (grpF 0 0 (.slice none 0 0)) ∧ Below w.heap.size w W ∧ w.heap.size + 3 ≤ W.heap.size := by
    refine ⟨_, rfl, ((gbox w p n v _).alloc _).alloc _, ?_, ?_, (ebox2 _ _ _).alloc (by simp; omega) _, by simp⟩
    · have := mbox (w.alloc (.cells #[.int .i64 p, .int .i64 n, v] 26)) g 55
      rw [World.size_alloc] at this
      exact this.alloc _
    · have := gbox ((w.alloc (.cells #[.int .i64 p, .int .i64 n, v] 26)).alloc (.cells #[.int .u8 (g 0 0), .int .u8 (g 0 1), .int .u8 (g 0 2), .int .u8 (g 1 0), .int .u8 (g 1 1), .int .u8 (g 1 2), .int .u8 (g 2 0), .int .u8 (g 2 1), .int .u8 (g 2 2)] 55)) 0 0 (.slice none 0 0) 26
      rw [World.size_alloc, World.size_alloc] at this
      exact this
  have hSW := hS.below hbW
  obtain ⟨a, cap, rfl, hSc⟩ := id hS
  obtain ⟨g0, g1, g2⟩ := gcells rW
  have HBY := Lib.hid hby
  clear hby
  go_enter Try.func34, Try.ntmps34
  go_wp2_with fail
  rw [← hW]
  clear hW
  ((with_reducible refine (sgroup p n _ L _ hl hSW HBY.out).mono ?_); rintro e w1 ⟨rfl, hb1⟩)
  have rx1 := erow_below rW hb1 rW.lt
  have rm1 := erow_below rM hb1 rM.lt
  have rr := erow_below rR hb1 rR.lt
  have hbw1 := hbW.trans (hb1.mono hbW.size)
  have hS1 := hSW.below hb1
  clear g0 g1 g2
  cases hg : isGrp p n L
  · have HO := Lib.hid (show cjO p n L g = noG 1 by unfold cjO; rw [hg]; rfl)
    clear hg
    obtain ⟨r0, r1, r2⟩ := gcells rr
    have z0 := rr.frozen 0
    have z1 := rr.frozen 1
    have z2 := rr.frozen 2
    have R := ((rr.set 0 (.int .i64 0)).set 1 (.int .i64 0)).set 2 (.slice none 0 0)
    have V0 := Lib.hid (R.cell (i := 0) (by omega))
    have V1 := Lib.hid (R.cell (i := 1) (by omega))
    have V2 := Lib.hid (R.cell (i := 2) (by omega))
    have HB := Lib.hid (show Below w.heap.size w (((w1.setCell ⟨w.heap.size + 2, 0, none⟩ (.int .i64 0)).setCell ⟨w.heap.size + 2, 1, none⟩ (.int .i64 0)).setCell ⟨w.heap.size + 2, 2, none⟩ (.slice none 0 0)) from ((hbw1.setCell (by simp) _).setCell (by simp) _).setCell (by simp) _)
    clear R
    go_wp2_with fail
    exact bodyPost_ret (v := .tuple #[.agg #[.int .i64 0, .int .i64 0, .slice none 0 0], .int .i64 1]) (by simp [results, Try.results34, go_sem, V0.out, V1.out, V2.out]) rfl ⟨_, by rw [HO.out]; rfl, by rw [HO.out]; exact ownG9_none _ _, HB.out⟩
  · obtain ⟨m, rfl, m1, m3, hl48, hl1, hmv⟩ := isGrp_mats HBY.out hg
    obtain ⟨g0, g1, g2⟩ := gcells rx1
    obtain ⟨⟨c0, c1, c2⟩, ⟨c3, c4, c5⟩, c6, c7, c8⟩ := mcells rm1
    obtain ⟨B, hB⟩ : ∃ B, isMat p m g = B := ⟨_, rfl⟩
    have HMT := Lib.hid (fun w => smat_is p m g w hgb B hB)
    have HBB := Lib.hid hB
    clear hB
    go_wp2_with fail
    ((with_reducible refine (HMT.out _).mono ?_); rintro e w2 ⟨rfl, hb2⟩)
    clear g0 g1 g2 c0 c1 c2 c3 c4 c5 c6 c7 c8
    have rx2 := erow_below rx1 hb2 rx1.lt
    have rm2 := erow_below rm1 hb2 rm1.lt
    have rr2 := erow_below rr hb2 rr.lt
    have hbw2 := hbw1.trans (hb2.mono hbw1.size)
    have hS2 := hS1.below hb2
    clear rx1 rm1 rr hS1 hb1 hb2 HMT
    cases B
    · have HO := Lib.hid (show cjO p m L g = noG 2 by unfold cjO; rw [hg, HBB.out]; rfl)
      clear hg
      obtain ⟨r0, r1, r2⟩ := gcells rr2
      have z0 := rr2.frozen 0
      have z1 := rr2.frozen 1
      have z2 := rr2.frozen 2
      have R := ((rr2.set 0 (.int .i64 0)).set 1 (.int .i64 0)).set 2 (.slice none 0 0)
      have V0 := Lib.hid (R.cell (i := 0) (by omega))
      have V1 := Lib.hid (R.cell (i := 1) (by omega))
      have V2 := Lib.hid (R.cell (i := 2) (by omega))
      have HB := Lib.hid (show Below w.heap.size w (((w2.setCell ⟨w.heap.size + 2, 0, none⟩ (.int .i64 0)).setCell ⟨w.heap.size + 2, 1, none⟩ (.int .i64 0)).setCell ⟨w.heap.size + 2, 2, none⟩ (.slice none 0 0)) from ((hbw2.setCell (by simp) _).setCell (by simp) _).setCell (by simp) _)
      clear R
      go_wp2_with fail
      exact bodyPost_ret (v := .tuple #[.agg #[.int .i64 0, .int .i64 0, .slice none 0 0], .int .i64 2]) (by simp [results, Try.results34, go_sem, V0.out, V1.out, V2.out]) rfl ⟨_, by rw [HO.out]; rfl, by rw [HO.out]; exact ownG9_none _ _, HB.out⟩
    · obtain ⟨m', hm', hgv⟩ := matV_of hgb HBB.out
      obtain rfl : m = m' := by omega
      have HO := Lib.hid (show cjO p m L g = ⟨p, m, sortM ((L.map (conjM p m g)).map cut3), 0⟩ by unfold cjO; rw [hg, HBB.out]; rfl)
      obtain ⟨I, hI⟩ : ∃ I, invF p m g = I := ⟨_, rfl⟩
      have HINV := Lib.hid (fun w => sinv_is p m g I w hgv hI)
      have hIb : ∀ i, i < 3 → ∀ j, j < 3 → 0 ≤ I i j ∧ I i j < p := by rw [← hI]; exact invF_bound hgv.h2
      have hIo : Out0 m I := by rw [← hI]; exact invF_out
      have HC := Lib.hid (fun x (hx : x ∈ L) => show ∃ q : Nat → Nat → Int, (∀ w, Calls Try.prog 51 #[.int .i64 p, .int .i64 (m : Int), .agg #[.int .u8 (I 0 0), .int .u8 (I 0 1), .int .u8 (I 0 2), .int .u8 (I 1 0), .int .u8 (I 1 1), .int .u8 (I 1 2), .int .u8 (I 2 0), .int .u8 (I 2 1), .int .u8 (I 2 2)], .agg #[.int .u8 (x 0 0), .int .u8 (x 0 1), .int .u8 (x 0 2), .int .u8 (x 1 0), .int .u8 (x 1 1), .int .u8 (x 1 2), .int .u8 (x 2 0), .int .u8 (x 2 1), .int .u8 (x 2 2)]] w fun e w' => e = .returned (.agg #[.int .u8 (q 0 0), .int .u8 (q 0 1), .int .u8 (q 0 2), .int .u8 (q 1 0), .int .u8 (q 1 1), .int .u8 (q 1 2), .int .u8 (q 2 0), .int .u8 (q 2 1), .int .u8 (q 2 2)]) ∧ Below w.heap.size w w') ∧ (∀ w r, conjM p m g x = r → Calls Try.prog 51 #[.int .i64 p, .int .i64 (m : Int), .agg #[.int .u8 (q 0 0), .int .u8 (q 0 1), .int .u8 (q 0 2), .int .u8 (q 1 0), .int .u8 (q 1 1), .int .u8 (q 1 2), .int .u8 (q 2 0), .int .u8 (q 2 1), .int .u8 (q 2 2)], .agg #[.int .u8 (g 0 0), .int .u8 (g 0 1), .int .u8 (g 0 2), .int .u8 (g 1 0), .int .u8 (g 1 1), .int .u8 (g 1 2), .int .u8 (g 2 0), .int .u8 (g 2 1), .int .u8 (g 2 2)]] w fun e w' => e = .returned (.agg #[.int .u8 (r 0 0), .int .u8 (r 0 1), .int .u8 (r 0 2), .int .u8 (r 1 0), .int .u8 (r 1 1), .int .u8 (r 1 2), .int .u8 (r 2 0), .int .u8 (r 2 1), .int .u8 (r 2 2)]) ∧ Below w.heap.size w w') from by
        obtain ⟨q, hq⟩ : ∃ q, prodM p I x = q := ⟨_, rfl⟩
        have hqb : ∀ i, i < 3 → ∀ j, j < 3 → 0 ≤ q i j ∧ q i j < p := by rw [← hq]; exact fun i _ j _ => prodM_bound hgv.h2 _ _ _ _
        have hqo : Out0 m q := by rw [← hq]; exact prodM_out hIo (hmv x hx).out
        have hx2 := hmv x hx
        refine ⟨q, fun w => ?_, fun w r hr => ?_⟩
        · with_reducible exact sprod_bd p m I x q w hgv.h2 hgv.h13 hIb hx2.bound hgv.m3 hIo hx2.out hq
        · have hr' : prodM p q g = r := by rw [← hr, conjM, hI, hq]
          with_reducible exact sprod_bd p m q g r w hgv.h2 hgv.h13 hqb hgv.bound hgv.m3 hqo hgv.out hr')
      clear hI hg hgv hmv hm' hIb hIo
      have hlm : (L.map (conjM p m g)).length ≤ 1048576 := by simpa using hl
      obtain ⟨g0, g1, g2⟩ := gcells rx2
      obtain ⟨⟨c0, c1, c2⟩, ⟨c3, c4, c5⟩, c6, c7, c8⟩ := mcells rm2
      go_wp2_with fail
      ((with_reducible refine (HINV.out _).mono ?_); rintro e w3 ⟨rfl, hb3⟩)
      clear g0 g1 g2 c0 c1 c2 c3 c4 c5 c6 c7 c8
      have rx3 := erow_below rx2 hb3 rx2.lt
      have rm3 := erow_below rm2 hb3 rm2.lt
      have rr3 := erow_below rr2 hb3 rr2.lt
      have hbw3 := hbw2.trans (hb3.mono hbw2.size)
      clear rx2 rm2 rr2 hS2 hbw2 hb3 HINV
      obtain ⟨V, hV, rJ, hown, hbV, hVs⟩ : ∃ V, V = (w3.alloc (.cells #[.int .u8 (I 0 0), .int .u8 (I 0 1), .int .u8 (I 0 2), .int .u8 (I 1 0), .int .u8 (I 1 1), .int .u8 (I 1 2), .int .u8 (I 2 0), .int .u8 (I 2 1), .int .u8 (I 2 2)] 55)).alloc (.cells #[] 55) ∧ V.rowIs w3.heap.size 55 9 (mF I) ∧ V.ownsRow (w3.heap.size + 1) 55 9 (.slice (some ⟨w3.heap.size + 1, 0, none⟩) 0 0) 0 [] ∧ Below w3.heap.size w3 V ∧ w3.heap.size + 1 ≤ V.heap.size := by
        refine ⟨_, rfl, (mbox w3 I _).alloc _, ?_, ebox2 _ _ _, by simp⟩
        have := own_zero (w3.alloc (.cells #[.int .u8 (I 0 0), .int .u8 (I 0 1), .int .u8 (I 0 2), .int .u8 (I 1 0), .int .u8 (I 1 1), .int .u8 (I 1 2), .int .u8 (I 2 0), .int .u8 (I 2 1), .int .u8 (I 2 2)] 55))
        rwa [World.size_alloc] at this
      have rxV := erow_below rx3 hbV rx3.lt
      have rmV := erow_below rm3 hbV rm3.lt
      have rrV := erow_below rr3 hbV rr3.lt
      have hbwV := hbw3.trans (hbV.mono hbw3.size)
      have lx := rx3.lt
      have lm := rm3.lt
      have lr := rr3.lt
      go_wp2_with fail
      rw [← hV]
      clear hV rx3 rm3 rr3 hbV
      go_loopw [8, 9] (fun s i wr => ∃ (k : Nat), k ≤ L.length ∧ i = .int .i64 k ∧ wr.ownsRow (w3.heap.size + 1) 55 9 s k (cells9 ((L.take k).map (conjM p m g))) ∧ Below (w3.heap.size + 1) V wr) (fun _ i _ => L.length - (intOf i).toNat)
      case atStart => exact ⟨0, by omega, rfl, by simpa [cells9] using hown, Below.refl _ _⟩
      case round =>
        obtain ⟨k, hk, rfl, hO, hbel⟩ := hrel
        obtain ⟨sa, sc, rfl⟩ := mown_slice hO
        have rx := erow_below rxV hbel (by omega)
        have hbz := hbel.size
        obtain ⟨g0, g1, g2⟩ := gcells rx
        by_cases hlt : k < L.length
        · have hlt' : (k : Int) < (L.length : Int) := by omega
          obtain ⟨b, off, rfl, hbb, hT⟩ : ∃ b off, a = some ⟨b, off, none⟩ ∧ b < w.heap.size ∧ MatsW w b off L := by
            rcases hSc with rfl | h
            · simp at hlt
            · exact h
          have rJr := erow_below rJ hbel (by omega)
          have rmr := erow_below rmV hbel (by omega)
          have hTr := (hT.below hbwV hbb).below hbel (show b < w3.heap.size + 1 by have := hbw3.size; omega)
          obtain ⟨q, hc1, hc2⟩ := HC.out L[k] (List.getElem_mem hlt)
          obtain ⟨r, hr⟩ : ∃ r, conjM p m g L[k] = r := ⟨_, rfl⟩
          have HC1 := Lib.hid hc1
          have HC2 := Lib.hid (fun w => hc2 w r hr)
          have HN : Hid (cells9 ((L.take (k + 1)).map (conjM p m g)) = cells9 ((L.take k).map (conjM p m g)) ++ cells9 [r]) := Lib.hid (by
            rw [List.take_succ_eq_append_getElem hlt, List.map_append, List.map_cons, List.map_nil, hr]
            simp [cells9])
          have h9 := hTr.nine hlt
          clear hc1 hc2 hr
          generalize L[k] = x at *
          have KK := Lib.hid (fun w' (hq : Below (w3.heap.size + 1) wr w') => show (w'.cell? ⟨w.heap.size, 0, none⟩ = some (.int .i64 p) ∧ w'.cell? ⟨w.heap.size, 1, none⟩ = some (.int .i64 (m : Int)) ∧ w'.cell? ⟨w.heap.size, 2, none⟩ = some (.slice (some ⟨b, off, none⟩) L.length cap)) ∧ ((w'.cell? ⟨w3.heap.size, 0, none⟩ = some (.int .u8 (I 0 0)) ∧ w'.cell? ⟨w3.heap.size, 1, none⟩ = some (.int .u8 (I 0 1)) ∧ w'.cell? ⟨w3.heap.size, 2, none⟩ = some (.int .u8 (I 0 2))) ∧ (w'.cell? ⟨w3.heap.size, 3, none⟩ = some (.int .u8 (I 1 0)) ∧ w'.cell? ⟨w3.heap.size, 4, none⟩ = some (.int .u8 (I 1 1)) ∧ w'.cell? ⟨w3.heap.size, 5, none⟩ = some (.int .u8 (I 1 2))) ∧ (w'.cell? ⟨w3.heap.size, 6, none⟩ = some (.int .u8 (I 2 0)) ∧ w'.cell? ⟨w3.heap.size, 7, none⟩ = some (.int .u8 (I 2 1)) ∧ w'.cell? ⟨w3.heap.size, 8, none⟩ = some (.int .u8 (I 2 2)))) ∧ ((w'.cell? ⟨w.heap.size + 1, 0, none⟩ = some (.int .u8 (g 0 0)) ∧ w'.cell? ⟨w.heap.size + 1, 1, none⟩ = some (.int .u8 (g 0 1)) ∧ w'.cell? ⟨w.heap.size + 1, 2, none⟩ = some (.int .u8 (g 0 2))) ∧ (w'.cell? ⟨w.heap.size + 1, 3, none⟩ = some (.int .u8 (g 1 0)) ∧ w'.cell? ⟨w.heap.size + 1, 4, none⟩ = some (.int .u8 (g 1 1)) ∧ w'.cell? ⟨w.heap.size + 1, 5, none⟩ = some (.int .u8 (g 1 2))) ∧ (w'.cell? ⟨w.heap.size + 1, 6, none⟩ = some (.int .u8 (g 2 0)) ∧ w'.cell? ⟨w.heap.size + 1, 7, none⟩ = some (.int .u8 (g 2 1)) ∧ w'.cell? ⟨w.heap.size + 1, 8, none⟩ = some (.int .u8 (g 2 2)))) ∧ ((w'.cell? ⟨b, off + k * 9, none⟩ = some (.int .u8 (x 0 0)) ∧ w'.cell? ⟨b, off + k * 9 + 1, none⟩ = some (.int .u8 (x 0 1)) ∧ w'.cell? ⟨b, off + k * 9 + 2, none⟩ = some (.int .u8 (x 0 2))) ∧ (w'.cell? ⟨b, off + k * 9 + 3, none⟩ = some (.int .u8 (x 1 0)) ∧ w'.cell? ⟨b, off + k * 9 + 4, none⟩ = some (.int .u8 (x 1 1)) ∧ w'.cell? ⟨b, off + k * 9 + 5, none⟩ = some (.int .u8 (x 1 2))) ∧ (w'.cell? ⟨b, off + k * 9 + 6, none⟩ = some (.int .u8 (x 2 0)) ∧ w'.cell? ⟨b, off + k * 9 + 7, none⟩ = some (.int .u8 (x 2 1)) ∧ w'.cell? ⟨b, off + k * 9 + 8, none⟩ = some (.int .u8 (x 2 2)))) from
            ⟨gcells (erow_below rx hq (by omega)), mcells (erow_below rJr hq (by omega)), mcells (erow_below rmr hq (by omega)), nine_below h9 hq (show b < w3.heap.size + 1 by have := hbw3.size; omega)⟩)
          have hOd : wr.drew.ownsRow (w3.heap.size + 1) 55 9 (.slice sa k sc) k (cells9 ((L.take k).map (conjM p m g))) := hO
          have hbz1 : w3.heap.size + 1 ≤ wr.drew.heap.size := Nat.le_trans hVs hbz
          have hq0 : Below (w3.heap.size + 1) wr wr.drew := (Below.refl _ _).drew
          generalize cells9 ((L.take k).map (conjM p m g)) = C at *
          clear h9 hTr rx rJr rmr hO
          go_wp2_with fail
          go_region_held3 (fun w' => (w'.cell? ⟨w.heap.size, 0, none⟩ = some (.int .i64 p) ∧ w'.cell? ⟨w.heap.size, 1, none⟩ = some (.int .i64 (m : Int)) ∧ w'.cell? ⟨w.heap.size, 2, none⟩ = some (.slice (some ⟨b, off, none⟩) L.length cap)) ∧ ((w'.cell? ⟨w3.heap.size, 0, none⟩ = some (.int .u8 (I 0 0)) ∧ w'.cell? ⟨w3.heap.size, 1, none⟩ = some (.int .u8 (I 0 1)) ∧ w'.cell? ⟨w3.heap.size, 2, none⟩ = some (.int .u8 (I 0 2))) ∧ (w'.cell? ⟨w3.heap.size, 3, none⟩ = some (.int .u8 (I 1 0)) ∧ w'.cell? ⟨w3.heap.size, 4, none⟩ = some (.int .u8 (I 1 1)) ∧ w'.cell? ⟨w3.heap.size, 5, none⟩ = some (.int .u8 (I 1 2))) ∧ (w'.cell? ⟨w3.heap.size, 6, none⟩ = some (.int .u8 (I 2 0)) ∧ w'.cell? ⟨w3.heap.size, 7, none⟩ = some (.int .u8 (I 2 1)) ∧ w'.cell? ⟨w3.heap.size, 8, none⟩ = some (.int .u8 (I 2 2)))) ∧ ((w'.cell? ⟨w.heap.size + 1, 0, none⟩ = some (.int .u8 (g 0 0)) ∧ w'.cell? ⟨w.heap.size + 1, 1, none⟩ = some (.int .u8 (g 0 1)) ∧ w'.cell? ⟨w.heap.size + 1, 2, none⟩ = some (.int .u8 (g 0 2))) ∧ (w'.cell? ⟨w.heap.size + 1, 3, none⟩ = some (.int .u8 (g 1 0)) ∧ w'.cell? ⟨w.heap.size + 1, 4, none⟩ = some (.int .u8 (g 1 1)) ∧ w'.cell? ⟨w.heap.size + 1, 5, none⟩ = some (.int .u8 (g 1 2))) ∧ (w'.cell? ⟨w.heap.size + 1, 6, none⟩ = some (.int .u8 (g 2 0)) ∧ w'.cell? ⟨w.heap.size + 1, 7, none⟩ = some (.int .u8 (g 2 1)) ∧ w'.cell? ⟨w.heap.size + 1, 8, none⟩ = some (.int .u8 (g 2 2)))) ∧ ((w'.cell? ⟨b, off + k * 9, none⟩ = some (.int .u8 (x 0 0)) ∧ w'.cell? ⟨b, off + k * 9 + 1, none⟩ = some (.int .u8 (x 0 1)) ∧ w'.cell? ⟨b, off + k * 9 + 2, none⟩ = some (.int .u8 (x 0 2))) ∧ (w'.cell? ⟨b, off + k * 9 + 3, none⟩ = some (.int .u8 (x 1 0)) ∧ w'.cell? ⟨b, off + k * 9 + 4, none⟩ = some (.int .u8 (x 1 1)) ∧ w'.cell? ⟨b, off + k * 9 + 5, none⟩ = some (.int .u8 (x 1 2))) ∧ (w'.cell? ⟨b, off + k * 9 + 6, none⟩ = some (.int .u8 (x 2 0)) ∧ w'.cell? ⟨b, off + k * 9 + 7, none⟩ = some (.int .u8 (x 2 1)) ∧ w'.cell? ⟨b, off + k * 9 + 8, none⟩ = some (.int .u8 (x 2 2)))))
            (first | with_reducible exact KK.out _ hq0 | with_reducible exact KK.out _ hq5 | with_reducible exact KK.out _ hq6 | with_reducible exact KK.out _ hq7 | with_reducible exact KK.out _ hq8)
            (first
            | (go_at_call 51; (with_reducible refine (HC1.out _).mono ?_); rintro e w5 ⟨rfl, hb5⟩; have hq5 := hq0.trans (hb5.mono hbz1))
            | (go_at_call 51; (with_reducible refine (HC2.out _).mono ?_); rintro e w6 ⟨rfl, hb6⟩; have hq6 := hq5.trans (hb6.mono (Nat.le_trans hbz1 hb5.size)); have hO6 := eowns_below hOd ((hb5.trans (hb6.mono hb5.size))); have hz6 : w3.heap.size + 1 ≤ w6.heap.size := Nat.le_trans hbz1 (hb5.trans (hb6.mono hb5.size)).size; have hq7 := hq6.alloc hz6 (.cells #[.int .u8 (r 0 0), .int .u8 (r 0 1), .int .u8 (r 0 2), .int .u8 (r 1 0), .int .u8 (r 1 1), .int .u8 (r 1 2), .int .u8 (r 2 0), .int .u8 (r 2 1), .int .u8 (r 2 2)] 55); have hSr : SlM (w6.alloc (.cells #[.int .u8 (r 0 0), .int .u8 (r 0 1), .int .u8 (r 0 2), .int .u8 (r 1 0), .int .u8 (r 1 1), .int .u8 (r 1 2), .int .u8 (r 2 0), .int .u8 (r 2 1), .int .u8 (r 2 2)] 55)) (.slice (some ⟨w6.heap.size, 0, none⟩) 1 1) [r] := OwnG9.slice (base := w6.heap.size) (show OwnG9 _ _ _ [r] from own_r w6 r))
            | (refine step_append_mats _ (by rfl) _ _ (by rfl) (w3.heap.size + 1) (.slice sa k sc) k C (by rfl) (hO6.alloc _) (.slice (some ⟨w6.heap.size, 0, none⟩) 1 1) [r] (by rfl) hSr (by simp; omega) (by simp; omega) ?_
               intro v8 w8 hown8 hgrow8
               have hq8 : Below (w3.heap.size + 1) wr w8 := grown_below hq7 (hO6.alloc _) hgrow8 (by simp; omega)))
          all_goals
            have hO8 : w8.ownsRow (w3.heap.size + 1) 55 9 v8 (k + 1) (cells9 ((L.take (k + 1)).map (conjM p m g))) := by rw [HN.out]; exact hown8
            go_wp2_with fail
            go_roundw
            case rel => exact ⟨k + 1, by omega, by go_num, hO8, hbel.trans hq8⟩
            case measure => simp [intOf]; omega
        · obtain rfl : k = L.length := by omega
          have hSl : SlM wr (.slice sa L.length sc) (L.map (conjM p m g)) := by
            have h : wr.ownsRow (w3.heap.size + 1) 55 9 (.slice sa L.length sc) (L.map (conjM p m g)).length (cells9 (L.map (conjM p m g))) := by
              rw [List.length_map]
              rwa [List.take_length] at hO
            exact OwnG9.slice h
          have HSD := Lib.hid (ssorted p m _ (L.map (conjM p m g)) wr hlm hSl)
          have rrr := erow_below rrV hbel (by omega)
          have hbwr := hbwV.trans (hbel.mono (by have := hbw3.size; omega))
          clear hSl hO HC
          go_wp2_with fail
          ((with_reducible refine HSD.out.mono ?_); rintro e w9 ⟨v9, S, rfl, hs9, ho9, hb9⟩)
          have hs := hs9.cut.sortM
          have hoc := ho9.cut
          have r9 := erow_below rrr hb9 rrr.lt
          have hbw9 := hbwr.trans (hb9.mono hbwr.size)
          obtain ⟨va, vc, rfl⟩ := OwnG9.shape ho9
          obtain ⟨r0, r1, r2⟩ := gcells r9
          have z0 := r9.frozen 0
          have z1 := r9.frozen 1
          have z2 := r9.frozen 2
          have R := ((r9.set 0 (.int .i64 p)).set 1 (.int .i64 m)).set 2 (.slice va S.length vc)
          have V0 := Lib.hid (R.cell (i := 0) (by omega))
          have V1 := Lib.hid (R.cell (i := 1) (by omega))
          have V2 := Lib.hid (R.cell (i := 2) (by omega))
          have HB := Lib.hid (show Below w.heap.size w (((w9.setCell ⟨w.heap.size + 2, 0, none⟩ (.int .i64 p)).setCell ⟨w.heap.size + 2, 1, none⟩ (.int .i64 m)).setCell ⟨w.heap.size + 2, 2, none⟩ (.slice va S.length vc)) from ((hbw9.setCell (by simp) _).setCell (by simp) _).setCell (by simp) _)
          have HSL := Lib.hid (show OwnG9 (((w9.setCell ⟨w.heap.size + 2, 0, none⟩ (.int .i64 p)).setCell ⟨w.heap.size + 2, 1, none⟩ (.int .i64 m)).setCell ⟨w.heap.size + 2, 2, none⟩ (.slice va S.length vc)) w.heap.size (.slice va S.length vc) (sortM ((L.map (conjM p m g)).map cut3)) from by
            have hne : (Value.slice va S.length vc).ownBlock ≠ some (w.heap.size + 2) := fun e => by
              have := (World.ownsRow.lt ho9 _ e).1
              omega
            rw [← hs]
            exact OwnG9.mono (mown_set (mown_set (mown_set hoc _ _ _ hne) _ _ _ hne) _ _ _ hne) hbwr.size)
          clear R g0 g1 g2
          go_wp2_with fail
          exact bodyPost_ret (v := .tuple #[.agg #[.int .i64 p, .int .i64 m, .slice va S.length vc], .int .i64 0]) (by simp [results, Try.results34, go_sem, V0.out, V1.out, V2.out]) rfl ⟨_, by rw [HO.out], by rw [HO.out]; exact HSL.out, HB.out⟩
end Go.Proofs.Ytpbdbgajohacoaa
