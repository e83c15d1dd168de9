/-
  CENTRES: what the centre is; the model's walk. Conditions: the numbers of the matrices are bytes.
-/
import Derived.Test.YtpbdbgajohacoaaMg
import Derived.Test.YtpbdbgajohacoaaGy
namespace Go.Proofs.Ytpbdbgajohacoaa
open Go.RowKit Go.Sort EchM

/-- Whether two matrices commute; the Elements that commute with all. -/
def comG (p : Int) (x y : Nat → Nat → Int) : Bool := eqM (prodM p x y) (prodM p y x)
def cenG (p : Int) (L : List (Nat → Nat → Int)) (x : Nat → Nat → Int) : Bool := L.all (comG p x)
def cenL (p : Int) (L : List (Nat → Nat → Int)) : List (Nat → Nat → Int) := L.filter (cenG p L)
/-- A group with a code. -/
structure GO where
  P : Int
  D : Int
  S : List (Nat → Nat → Int)
  c : Int
def noG (c : Int) : GO := ⟨0, 0, [], c⟩
def cenO (p n : Int) (L : List (Nat → Nat → Int)) : GO := if isGrp p n L then ⟨p, n, cenL p L, 0⟩ else noG 1
def ResG (w : World) (o : GO) (e : Ending) (w' : World) : Prop :=
  ∃ v', e = .returned (.tuple #[.agg #[.int .i64 o.P, .int .i64 o.D, v'], .int .i64 o.c]) ∧ OwnG9 w' w.heap.size v' o.S ∧ Below w.heap.size w w'
theorem filt_step (f : (Nat → Nat → Int) → Bool) (L : List (Nat → Nat → Int)) (k : Nat) (h : k < L.length) : (L.take (k + 1)).filter f = (L.take k).filter f ++ (if f L[k] then [L[k]] else []) := by
  rw [List.take_succ_eq_append_getElem h, List.filter_append]
  congr 1
  by_cases hx : f L[k] = true <;> simp [hx]
theorem all_drop (f : (Nat → Nat → Int) → Bool) (L : List (Nat → Nat → Int)) (k : Nat) (h : k < L.length) : (L.drop k).all f = (f L[k] && (L.drop (k + 1)).all f) := by
  rw [List.drop_eq_getElem_cons h]; rfl
theorem isGrp_mats {p n : Int} {L : List (Nat → Nat → Int)} (hby : ∀ x ∈ L, Byt x) (h : isGrp p n L = true) : ∃ m : Nat, n = (m : Int) ∧ 1 ≤ m ∧ m ≤ 3 ∧ L.length ≤ 48 ∧ 1 ≤ L.length ∧ ∀ x ∈ L, MatV p m x := by
  unfold isGrp at h
  simp only [Bool.and_eq_true, decide_eq_true_eq] at h
  obtain ⟨hp, ⟨h1, h3⟩, hl1, hl2, ht, _, _⟩ := h
  obtain ⟨m, rfl⟩ := Int.eq_ofNat_of_zero_le (show 0 ≤ n by omega)
  refine ⟨m, rfl, by omega, by omega, hl2, hl1, fun x hx => ?_⟩
  obtain ⟨m', hm', hmv⟩ := matV_of (hby x hx) (tailG_all ht x hx)
  obtain rfl : m = m' := by omega
  exact hmv

set_option maxRecDepth 8000 in
set_option maxHeartbeats 8000000 in
theorem scentre (p n : Int) (v : Value) (L : List (Nat → Nat → Int)) (w : World) (hl : L.length ≤ 1048576) (hS : SlM w v L) (hby : ∀ x ∈ L, Byt x) :
    Calls Try.prog 19 #[.agg #[.int .i64 p, .int .i64 n, v]] w (ResG w (cenO p n L)) := by
  obtain ⟨i0, hi, hz0, hz1, hz2⟩ := info_parts infoMat
  obtain ⟨W, hW, rW, rR, hbW, hWs⟩ : ∃ W, W = (w.alloc (.cells #[.int .i64 p, .int .i64 n, v] 26)).alloc (.cells #[.int .i64 0, .int .i64 0, .slice none 0 0] 26) ∧ W.rowIs w.heap.size 26 3 (grpF p n v) ∧ W.rowIs (w.heap.size + 1) 26 3 (grpF 0 0 (.slice none 0 0)) ∧ Below w.heap.size w W ∧ w.heap.size + 2 ≤ W.heap.size := by
    refine ⟨_, rfl, (gbox w p n v _).alloc _, ?_, ebox2 _ _ _, by simp⟩
    have := gbox (w.alloc (.cells #[.int .i64 p, .int .i64 n, v] 26)) 0 0 (.slice none 0 0) 26
    rwa [World.size_alloc] at this
  have hSW := hS.below hbW
  obtain ⟨a, cap, rfl, hSc⟩ := id hS
  obtain ⟨g0, g1, g2⟩ := gcells rW
  have HBY := Lib.hid hby
  clear hby
  cases hg : isGrp p n L
  · have HO := Lib.hid (show cenO p n L = noG 1 by unfold cenO; rw [hg]; rfl)
    go_enter Try.func19, Try.ntmps19
    go_wp2_with fail
    rw [← hW]
    clear hW
    ((with_reducible refine (sgroup p n _ L _ hl hSW HBY.out).mono ?_); rintro e w1 ⟨rfl, hb1⟩)
    rw [hg]
    have rr := erow_below rR hb1 rR.lt
    obtain ⟨r0, r1, r2⟩ := gcells rr
    have z0 := rr.frozen 0
    have z1 := rr.frozen 1
    have z2 := rr.frozen 2
    have R := ((rr.set 0 (.int .i64 0)).set 1 (.int .i64 0)).set 2 (.slice none 0 0)
    have V0 := Lib.hid (R.cell (i := 0) (by omega))
    have V1 := Lib.hid (R.cell (i := 1) (by omega))
    have V2 := Lib.hid (R.cell (i := 2) (by omega))
    have HB := Lib.hid (show Below w.heap.size w (((w1.setCell ⟨w.heap.size + 1, 0, none⟩ (.int .i64 0)).setCell ⟨w.heap.size + 1, 1, none⟩ (.int .i64 0)).setCell ⟨w.heap.size + 1, 2, none⟩ (.slice none 0 0)) from (((hbW.trans (hb1.mono hbW.size)).setCell (by simp) _).setCell (by simp) _).setCell (by simp) _)
    clear R g0 g1 g2
    go_wp2_with fail
    exact bodyPost_ret (v := .tuple #[.agg #[.int .i64 0, .int .i64 0, .slice none 0 0], .int .i64 1]) (by simp [results, Try.results19, go_sem, V0.out, V1.out, V2.out]) rfl ⟨_, by rw [HO.out]; rfl, by rw [HO.out]; exact ownG9_none _ _, HB.out⟩
  · obtain ⟨m, rfl, m1, m3, hl48, hl1, hmv⟩ := isGrp_mats HBY.out hg
    have HO := Lib.hid (show cenO p m L = ⟨p, m, cenL p L, 0⟩ by unfold cenO; rw [hg]; rfl)
    have HMV := Lib.hid hmv
    clear hmv
    obtain ⟨b, off, rfl, hbb, hT⟩ : ∃ b off, a = some ⟨b, off, none⟩ ∧ b < w.heap.size ∧ MatsW w b off L := by
      rcases hSc with rfl | h
      · simp at hl1
      · exact h
    go_enter Try.func19, Try.ntmps19
    go_wp2_with fail
    rw [← hW]
    clear hW
    ((with_reducible refine (sgroup p m _ L _ hl hSW HBY.out).mono ?_); rintro e w1 ⟨rfl, hb1⟩)
    rw [hg]
    clear hg
    have rx1 := erow_below rW hb1 rW.lt
    have rr1 := erow_below rR hb1 rR.lt
    have s1 := hb1.size
    have hbw1 := hbW.trans (hb1.mono hbW.size)
    clear g0 g1 g2
    obtain ⟨g0, g1, g2⟩ := gcells rx1
    go_wp2_with fail
    go_quiet (fail)
    obtain ⟨V, hV, hst⟩ : ∃ V, V = ((w1.drewN nq).alloc (.cells #[] 55)).alloc (.cells #[.int .i64 p, .int .i64 m, .slice (some ⟨w1.heap.size, 0, none⟩) 0 0] 26) ∧
        GPart w V w1.heap.size (w1.heap.size + 1) w.heap.size (w.heap.size + 1) p m (.slice (some ⟨b, off, none⟩) L.length cap) (.slice (some ⟨w1.heap.size, 0, none⟩) 0 0) [] := by
      have hd := below_drewN (Below.refl w1.heap.size w1) nq
      have hd1 : Below w1.heap.size w1 ((w1.drewN nq).alloc (.cells #[] 55)) := hd.alloc (by simp) _
      have hd2 : Below w1.heap.size w1 (((w1.drewN nq).alloc (.cells #[] 55)).alloc (.cells #[.int .i64 p, .int .i64 m, .slice (some ⟨w1.heap.size, 0, none⟩) 0 0] 26)) := hd1.alloc (by simp) _
      refine ⟨_, rfl, ?_, ?_, erow_below rx1 hd2 rx1.lt, erow_below rr1 hd2 rr1.lt, hbw1.trans (hd2.mono hbw1.size), hbw1.size, by simp; omega, by have := hbw1.size; omega, by omega, by have := rx1.lt; omega, by have := rr1.lt; omega⟩
      · have := OwnG9.nil (w := w1.drewN nq) (base := w1.heap.size) (by simp) (t := 55) rfl
        have := this.below (ebox1 _ (.cells #[.int .i64 p, .int .i64 m, .slice (some ⟨w1.heap.size, 0, none⟩) 0 0] 26))
        rw [show (w1.drewN nq).heap.size = w1.heap.size by simp] at this
        exact this
      · have := gbox ((w1.drewN nq).alloc (.cells #[] 55)) p m (.slice (some ⟨w1.heap.size, 0, none⟩) 0 0) 26
        simpa using this
    go_wp2_with fail
    rw [← hV]
    clear hV g0 g1 g2
    go_loopw [7] (fun i wr => ∃ (k : Nat) (sv : Value) (O : List (Nat → Nat → Int)), k ≤ L.length ∧ i = .int .i64 k ∧ Hid (O = (L.take k).filter (cenG p L)) ∧ O.length ≤ k ∧ GPart w wr w1.heap.size (w1.heap.size + 1) w.heap.size (w.heap.size + 1) p m (.slice (some ⟨b, off, none⟩) L.length cap) sv O) (fun i _ => L.length - (intOf i).toNat)
    case atStart => exact ⟨0, _, [], by omega, rfl, Lib.hid (by simp), by simp, hst⟩
    case round =>
      obtain ⟨k, sv, O, hk, rfl, HOO, hO, hB⟩ := hrel
      obtain ⟨g0, g1, g2⟩ := gcells hB.arg
      by_cases hlt : k < L.length
      · have hlt' : (k : Int) < (L.length : Int) := by omega
        have HS := Lib.hid (filt_step (cenG p L) L k hlt)
        have hxv := HMV.out _ (List.getElem_mem hlt)
        have hk0 := Lib.hid (show cenG p L L[k] = (true && (L.drop 0).all (comG p L[k])) by simp [cenG])
        obtain ⟨wo, rfl⟩ : ∃ wo : World, wo = wr := ⟨_, rfl⟩
        go_wp2_with fail
        clear g0 g1 g2
        go_loopw [8, 9] (fun c i wr => ∃ (j : Nat) (B : Bool), j ≤ L.length ∧ c = .bool B ∧ i = .int .i64 j ∧ Hid (cenG p L L[k] = (B && (L.drop j).all (comG p L[k]))) ∧ GPart w wr w1.heap.size (w1.heap.size + 1) w.heap.size (w.heap.size + 1) p m (.slice (some ⟨b, off, none⟩) L.length cap) sv O) (fun _ i _ => L.length - (intOf i).toNat)
        case atStart => exact ⟨0, true, by omega, rfl, rfl, hk0, hB⟩
        case round =>
          clear hB
          obtain ⟨j, B, hj, rfl, rfl, HU, hB⟩ := hrel
          obtain ⟨g0, g1, g2⟩ := gcells hB.arg
          cases B
          · have HN := Lib.hid (show O = (L.take (k + 1)).filter (cenG p L) by rw [HS.out, HOO.out, HU.out]; simp)
            by_cases hjt : j < L.length
            · have hjt' : (j : Int) < (L.length : Int) := by omega
              go_wp2_with fail
              go_roundw
              case rel => exact ⟨k + 1, _, _, by omega, by go_num, HN, by omega, hB⟩
              case measure => simp [intOf]; omega
            · have hjt' : ¬ (j : Int) < (L.length : Int) := by omega
              go_wp2_with fail
              go_roundw
              case rel => exact ⟨k + 1, _, _, by omega, by go_num, HN, by omega, hB⟩
              case measure => simp [intOf]; omega
          · by_cases hjt : j < L.length
            · have hjt' : (j : Int) < (L.length : Int) := by omega
              have hTr := hT.below hB.below hbb
              obtain ⟨⟨a0, a1, a2⟩, ⟨a3, a4, a5⟩, a6, a7, a8⟩ := hTr.nine hlt
              obtain ⟨⟨b0, b1, b2⟩, ⟨b3, b4, b5⟩, b6, b7, b8⟩ := hTr.nine hjt
              have hyv := HMV.out _ (List.getElem_mem hjt)
              have HA := Lib.hid (HU.out.trans (by rw [all_drop _ L j hjt]; rfl) : cenG p L L[k] = (eqM (prodM p L[k] L[j]) (prodM p L[j] L[k]) && (L.drop (j + 1)).all (comG p L[k])))
              obtain ⟨x, hx⟩ : ∃ x, L[k] = x := ⟨_, rfl⟩
              obtain ⟨y, hy⟩ : ∃ y, L[j] = y := ⟨_, rfl⟩
              rw [hx] at a0 a1 a2 a3 a4 a5 a6 a7 a8 hxv
              rw [hy] at b0 b1 b2 b3 b4 b5 b6 b7 b8 hyv
              rw [hy, hx] at HA
              have HXX := Lib.hid hx
              obtain ⟨r, hr⟩ : ∃ r, prodM p x y = r := ⟨_, rfl⟩
              obtain ⟨s, hs⟩ : ∃ s, prodM p y x = s := ⟨_, rfl⟩
              obtain ⟨E, hE⟩ : ∃ E, eqM r s = E := ⟨_, rfl⟩
              have kP := sprod_r p m x y r wr hxv hyv hr
              have kQ := sprod_r p m y x s wr hyv hxv hs
              have kE := fun w => mat_eq r s w
              rw [hE] at kE
              have HN := Lib.hid (show cenG p L L[k] = (E && (L.drop (j + 1)).all (comG p L[k])) by rw [HXX.out, HA.out, hr, hs, hE])
              clear hx hy hr hs hE HA
              have k0 := cell_regrown g0
              have k1 := cell_regrown g1
              have k2 := cell_regrown g2
              have l0 := cell_regrown a0
              have l1 := cell_regrown a1
              have l2 := cell_regrown a2
              have l3 := cell_regrown a3
              have l4 := cell_regrown a4
              have l5 := cell_regrown a5
              have l6 := cell_regrown a6
              have l7 := cell_regrown a7
              have l8 := cell_regrown a8
              have q0 := cell_regrown b0
              have q1 := cell_regrown b1
              have q2 := cell_regrown b2
              have q3 := cell_regrown b3
              have q4 := cell_regrown b4
              have q5 := cell_regrown b5
              have q6 := cell_regrown b6
              have q7 := cell_regrown b7
              have q8 := cell_regrown b8
              clear a0 a1 a2 a3 a4 a5 a6 a7 a8 b0 b1 b2 b3 b4 b5 b6 b7 b8
              go_wp2_with fail
              refine wp_region_quiet_below (by kernel_rfl) (by kernel_rfl) ?_
              repeat (go_big_quiet_step (first | with_reducible exact kP _ _ | with_reducible exact kQ _ _))
              refine wpQuiet_nil ?_
              intro _ hw'
              obtain ⟨⟨dq, osq⟩, hw''⟩ := hw'
              subst hw''
              have hB2 := hB.later (below_regrown wr dq osq)
              generalize grow (redrawn wr dq) osq = V2 at *
              clear k0 k1 k2 l0 l1 l2 l3 l4 l5 l6 l7 l8 q0 q1 q2 q3 q4 q5 q6 q7 q8 g0 g1 g2 kP kQ kE
              go_wp2_with fail
              go_roundw
              case rel => exact ⟨j + 1, E, by omega, rfl, by go_num, HN, hB2⟩
              case measure => simp [intOf]; omega
            · obtain rfl : j = L.length := by omega
              have HN := Lib.hid (show O ++ [L[k]] = (L.take (k + 1)).filter (cenG p L) by rw [HS.out, ← HOO.out, HU.out]; simp)
              have hTr := hT.below hB.below hbb
              obtain ⟨⟨a0, a1, a2⟩, ⟨a3, a4, a5⟩, a6, a7, a8⟩ := hTr.nine hlt
              generalize L[k] = x at *
              obtain ⟨sa, sc, rfl⟩ := mown_slice hB.rows
              have d2 := hB.out.cell (i := 2) (by omega)
              have hmx : O.length + 1 ≤ maxLen := by unfold maxLen; omega
              have hmb : (O.length + 1) * 9 ≤ 140737488355328 := by omega
              have hbs := hB.b2
              have d2' : wr.cell? ⟨w1.heap.size + 1, 2, none⟩ = some (.slice sa O.length sc) := d2
              clear d2
              have qo : ∀ o, (wr.alloc o).cell? ⟨w1.heap.size + 1, 2, none⟩ = some (.slice sa O.length sc) := fun o => ((ebox1 wr o).cell hB.out.lt).trans d2'
              go_wp2_with fail
              go_region_law (first
                | ((refine step_append_lies _ (by rfl) _ _ _ (by rfl) w1.heap.size 55 i0 _ 9 9 Try.underlying24 hi hz0 hz1 hz2 rfl (by omega) (.slice sa O.length sc) O.length (cells9 O) (by rfl) (World.ownsRow.drew (World.ownsRow.alloc hB.rows _)) ⟨wr.heap.size, 0, none⟩ 1 1 (cell9 x) (by rfl) (by rfl) (World.news_of_block (cs := #[.int .u8 (x 0 0), .int .u8 (x 0 1), .int .u8 (x 0 2), .int .u8 (x 1 0), .int .u8 (x 1 1), .int .u8 (x 1 2), .int .u8 (x 2 0), .int .u8 (x 2 1), .int .u8 (x 2 2)]) (t := 55) (fr := (0, 0)) (heap_alloc_new wr _)) (cell9_one x) (by omega) hmx hmb (by simp; omega) (wr.heap.size + 1) (by simp) ?_
                    intro gg cap3 w3 hown3 hgrow3 hat hlt3
                    obtain ⟨hB3, r3⟩ := hB.more ((ebox1 _ _).drew) hgrow3 (t := x) hown3
                    have hfz3 := r3.frozen 2
                    have hcl3 : w3.cell? ⟨w1.heap.size + 1, 2, none⟩ = some (.slice sa O.length sc) := r3.cell (i := 2) (by omega)
                    clear hown3 hgrow3 hat r3)))
              all_goals
                go_wp2_with fail
                go_roundw
                case rel => exact ⟨k + 1, _, _, by omega, by go_num, HN, by simp; omega, hB3⟩
                case measure => simp [intOf]; omega
      · obtain rfl : k = L.length := by omega
        obtain ⟨sa, sc, rfl⟩ := mown_slice hB.rows
        obtain ⟨j0, j1, j2⟩ := gcells hB.out
        obtain ⟨r0, r1, r2⟩ := gcells hB.res
        have z0 := hB.res.frozen 0
        have z1 := hB.res.frozen 1
        have z2 := hB.res.frozen 2
        have HL : Hid (cenL p L = O) := Lib.hid (by rw [HOO.out, List.take_length]; rfl)
        go_wp2_with fail
        obtain ⟨v0, v1, v2, v3, v4⟩ := hB.finish p m
        exact bodyPost_ret (v := .tuple #[.agg #[.int .i64 p, .int .i64 m, .slice sa O.length sc], .int .i64 0]) (by simp [results, Try.results19, go_sem, v0, v1, v2]) rfl ⟨_, by rw [HO.out], by rw [HO.out]; show OwnG9 _ _ _ (cenL p L); rw [HL.out]; exact v3, v4⟩
end Go.Proofs.Ytpbdbgajohacoaa
