/-
  STABILISERS of points: the model's walk and the program's. Conditions: the numbers of the matrices are bytes.
-/
import Derived.Test.YtpbdbgajohacoaaPc
import Derived.Test.YtpbdbgajohacoaaCb
namespace Go.Proofs.Ytpbdbgajohacoaa
open Go.RowKit Go.Sort EchM

def stF (p : Int) (m : Nat) (pt : List Int) (x : Nat → Nat → Int) : Bool := decide (cmpI (leadL p m x pt) pt = 0)
def stO (p n : Int) (L : List (Nat → Nat → Int)) (pt : List Int) : GO := if ptC p n L pt = 0 then ⟨p, n, L.filter (stF p n.toNat pt), 0⟩ else noG (ptC p n L pt)
theorem ptC_zero {p n : Int} {L : List (Nat → Nat → Int)} {pt : List Int} (h : ptC p n L pt = 0) : isGrp p n L = true ∧ nptB p n pt = true := by
  unfold ptC at h
  cases hg : isGrp p n L
  · rw [hg] at h; simp at h
  · cases hp : nptB p n pt
    · rw [hg, hp] at h; simp at h
    · exact ⟨rfl, rfl⟩

set_option maxRecDepth 8000 in
set_option maxHeartbeats 8000000 in
theorem sstab (p n : Int) (v u : Value) (L : List (Nat → Nat → Int)) (pt : List Int) (w : World) (hl : L.length ≤ 1048576) (hS : SlM w v L) (hby : ∀ x ∈ L, Byt x) (hpl : pt.length ≤ 1048576) (hU : Sl w u pt) :
    Calls Try.prog 30 #[.agg #[.int .i64 p, .int .i64 n, v], u] w (ResG w (stO p n L pt)) := by
  obtain ⟨i0, hi, hz0, hz1, hz2⟩ := info_parts infoMat
  obtain ⟨W, hW, rW, rR, hbW, hWs⟩ : ∃ W, W = (w.alloc (.cells #[.int .i64 p, .int .i64 n, v] 26)).alloc (.cells #[.int .i64 0, .int .i64 0, .slice none 0 0] 26) ∧ W.rowIs w.heap.size 26 3 (grpF p n v) ∧ W.rowIs (w.heap.size + 1) 26 3 (grpF 0 0 (.slice none 0 0)) ∧ Below w.heap.size w W ∧ w.heap.size + 2 ≤ W.heap.size := by
    refine ⟨_, rfl, (gbox w p n v _).alloc _, ?_, ebox2 _ _ _, by simp⟩
    have := gbox (w.alloc (.cells #[.int .i64 p, .int .i64 n, v] 26)) 0 0 (.slice none 0 0) 26
    rwa [World.size_alloc] at this
  have hSW := hS.below hbW
  have hUW := hU.below hbW
  obtain ⟨a, cap, rfl, hSc⟩ := id hS
  obtain ⟨g0, g1, g2⟩ := gcells rW
  have HBY := Lib.hid hby
  clear hby
  go_enter Try.func30, Try.ntmps30
  go_wp2_with fail
  rw [← hW]
  clear hW
  ((with_reducible refine (scode p n _ u L pt _ hl hSW HBY.out hpl hUW).mono ?_); rintro e w1 ⟨rfl, hb1⟩)
  have rx1 := erow_below rW hb1 rW.lt
  have rr := erow_below rR hb1 rR.lt
  have s1 := hb1.size
  have hbw1 := hbW.trans (hb1.mono hbW.size)
  have hU1 := hUW.below hb1
  clear g0 g1 g2
  by_cases hc : ptC p n L pt = 0
  case neg =>
    have HO := Lib.hid (show stO p n L pt = noG (ptC p n L pt) by unfold stO; rw [if_neg hc])
    generalize ptC p n L pt = C at *
    have hc' : (C != 0) = true := by simpa using hc
    clear hc
    obtain ⟨r0, r1, r2⟩ := gcells rr
    have z0 := rr.frozen 0
    have z1 := rr.frozen 1
    have z2 := rr.frozen 2
    have R := ((rr.set 0 (.int .i64 0)).set 1 (.int .i64 0)).set 2 (.slice none 0 0)
    have V0 := Lib.hid (R.cell (i := 0) (by omega))
    have V1 := Lib.hid (R.cell (i := 1) (by omega))
    have V2 := Lib.hid (R.cell (i := 2) (by omega))
    have HB := Lib.hid (show Below w.heap.size w (((w1.setCell ⟨w.heap.size + 1, 0, none⟩ (.int .i64 0)).setCell ⟨w.heap.size + 1, 1, none⟩ (.int .i64 0)).setCell ⟨w.heap.size + 1, 2, none⟩ (.slice none 0 0)) from ((hbw1.setCell (by simp; try omega) _).setCell (by simp; try omega) _).setCell (by simp; try omega) _)
    clear R
    go_wp2_with fail
    exact bodyPost_ret (v := .tuple #[.agg #[.int .i64 0, .int .i64 0, .slice none 0 0], .int .i64 C]) (by simp [results, Try.results30, go_sem, V0.out, V1.out, V2.out]) rfl ⟨_, by rw [HO.out]; rfl, by rw [HO.out]; exact ownG9_none _ _, HB.out⟩
  case pos =>
    obtain ⟨hg, hpb⟩ := ptC_zero hc
    obtain ⟨m, rfl, m1, m3, hl48, hl1, hmv⟩ := isGrp_mats HBY.out hg
    obtain ⟨hpt, hpp⟩ := nptB_of rfl hpb
    have HO := Lib.hid (show stO p m L pt = ⟨p, m, L.filter (stF p m pt), 0⟩ by unfold stO; rw [if_pos hc]; rfl)
    have HMV := Lib.hid hmv
    have HPP := Lib.hid hpp
    have HPT := Lib.hid hpt
    rw [hc]
    clear hmv hpp hpt hc hg hpb
    obtain ⟨b, off, rfl, hbb, hT⟩ : ∃ b off, a = some ⟨b, off, none⟩ ∧ b < w.heap.size ∧ MatsW w b off L := by
      rcases hSc with rfl | h
      · simp at hl1
      · exact h
    obtain ⟨g0, g1, g2⟩ := gcells rx1
    obtain ⟨V, hV, hst⟩ : ∃ V, V = (w1.alloc (.cells #[] 55)).alloc (.cells #[.int .i64 p, .int .i64 m, .slice (some ⟨w1.heap.size, 0, none⟩) 0 0] 26) ∧
        GPart w V w1.heap.size (w1.heap.size + 1) w.heap.size (w.heap.size + 1) p m (.slice (some ⟨b, off, none⟩) L.length cap) (.slice (some ⟨w1.heap.size, 0, none⟩) 0 0) [] := by
      have hd2 : Below w1.heap.size w1 ((w1.alloc (.cells #[] 55)).alloc (.cells #[.int .i64 p, .int .i64 m, .slice (some ⟨w1.heap.size, 0, none⟩) 0 0] 26)) := ebox2 _ _ _
      refine ⟨_, rfl, ?_, ?_, erow_below rx1 hd2 rx1.lt, erow_below rr hd2 rr.lt, hbw1.trans (hd2.mono hbw1.size), hbw1.size, by simp; omega, by have := hbw1.size; omega, by omega, by have := rx1.lt; omega, by have := rr.lt; omega⟩
      · have := OwnG9.nil (w := w1) (base := w1.heap.size) (Nat.le_refl _) (t := 55) rfl
        exact this.below (ebox1 _ (.cells #[.int .i64 p, .int .i64 m, .slice (some ⟨w1.heap.size, 0, none⟩) 0 0] 26))
      · have := gbox (w1.alloc (.cells #[] 55)) p m (.slice (some ⟨w1.heap.size, 0, none⟩) 0 0) 26
        simpa using this
    go_wp2_with fail
    rw [← hV]
    clear hV g0 g1 g2
    go_loopw [8] (fun i wr => ∃ (k : Nat) (sv : Value) (O : List (Nat → Nat → Int)), k ≤ L.length ∧ i = .int .i64 k ∧ Hid (O = (L.take k).filter (stF p m pt)) ∧ O.length ≤ k ∧ GPart w wr w1.heap.size (w1.heap.size + 1) w.heap.size (w.heap.size + 1) p m (.slice (some ⟨b, off, none⟩) L.length cap) sv O) (fun i _ => L.length - (intOf i).toNat)
    case atStart => exact ⟨0, _, [], by omega, rfl, Lib.hid (by simp), by simp, hst⟩
    case round =>
      obtain ⟨k, sv, O, hk, rfl, HOO, hO, hB⟩ := hrel
      obtain ⟨g0, g1, g2⟩ := gcells hB.arg
      by_cases hlt : k < L.length
      · have hlt' : (k : Int) < (L.length : Int) := by omega
        have HS := Lib.hid (filt_step (stF p m pt) L k hlt)
        have hxv := HMV.out _ (List.getElem_mem hlt)
        have hTr := hT.below hB.below hbb
        obtain ⟨⟨a0, a1, a2⟩, ⟨a3, a4, a5⟩, a6, a7, a8⟩ := hTr.nine hlt
        obtain ⟨x, hxe⟩ : ∃ x, L[k] = x := ⟨_, rfl⟩
        rw [hxe] at a0 a1 a2 a3 a4 a5 a6 a7 a8 hxv HS
        have HXE := Lib.hid hxe
        clear hxe
        have hUr : Sl wr.drew u pt := (hU.below hB.below).below (Below.refl _ _).drew
        have hlm : (leadL p m x pt).length = pt.length := by rw [leadL_len, HPT.out]
        have hlm2 : (leadL p m x pt).length ≤ 1048576 := by rw [leadL_len]; omega
        have HF := Lib.hid (show stF p m pt x = decide (cmpI (leadL p m x pt) pt = 0) from rfl)
        have HLEAD := Lib.hid (fun w' (h' : Sl w' u pt) => slead p m x u pt w' hxv HPT.out HPP.out h')
        generalize leadL p m x pt = D at *
        go_wp2_with fail
        go_cut [42] (fun s42 wx => s42 = .bool (decide (cmpI D pt = 0)) ∧ Below wr.heap.size wr wx)
        case first =>
          go_region_with (first
            | (go_at_call 67; (with_reducible refine (HLEAD.out _ hUr).mono ?_); rintro e w2 ⟨v2, rfl, own2, hb2⟩)
            | (go_at_call 66; (with_reducible refine (scmpI _ _ D pt _ hlm2 hlm own2.slice (hUr.below hb2)).mono ?_); rintro e w3 ⟨rfl, hb3⟩))
          all_goals
            go_wp2_with fail
            go_meet
            exact ⟨rfl, (Below.refl _ _).drew.trans (hb2.trans (hb3.mono hb2.size))⟩
        case rest =>
        rename World => wx
        obtain ⟨rfl, hbx⟩ := hcut
        have hBx := hB.later hbx
        clear g0 g1 g2 a0 a1 a2 a3 a4 a5 a6 a7 a8 HLEAD hUr hlm hlm2
        generalize decide (cmpI D pt = 0) = E at *
        cases E
        · have HN := Lib.hid (show O = (L.take (k + 1)).filter (stF p m pt) by rw [HS.out, HOO.out, HF.out]; simp)
          go_wp2_with fail
          go_roundw
          case rel => exact ⟨k + 1, _, _, by omega, by go_num, HN, by omega, hBx⟩
          case measure => simp [intOf]; omega
        · have HN := Lib.hid (show O ++ [x] = (L.take (k + 1)).filter (stF p m pt) by rw [HS.out, ← HOO.out, HF.out]; simp)
          obtain ⟨g0, g1, g2⟩ := gcells hBx.arg
          have hTx := hTr.below hbx (Nat.lt_of_lt_of_le hbb hB.below.size)
          obtain ⟨⟨a0, a1, a2⟩, ⟨a3, a4, a5⟩, a6, a7, a8⟩ := hTx.nine hlt
          rw [HXE.out] at a0 a1 a2 a3 a4 a5 a6 a7 a8
          obtain ⟨sa, sc, rfl⟩ := mown_slice hBx.rows
          have hmx : O.length + 1 ≤ maxLen := by unfold maxLen; omega
          have hmb : (O.length + 1) * 9 ≤ 140737488355328 := by omega
          have hbs := hBx.b2
          have d2' : wx.cell? ⟨w1.heap.size + 1, 2, none⟩ = some (.slice sa O.length sc) := hBx.out.cell (i := 2) (by omega)
          have qo : ∀ o, (wx.alloc o).cell? ⟨w1.heap.size + 1, 2, none⟩ = some (.slice sa O.length sc) := fun o => ((ebox1 wx o).cell hBx.out.lt).trans d2'
          go_wp2_with fail
          go_region_law (first
            | ((refine step_append_lies _ (by rfl) _ _ _ (by rfl) w1.heap.size 55 i0 _ 9 9 Try.underlying24 hi hz0 hz1 hz2 rfl (by omega) (.slice sa O.length sc) O.length (cells9 O) (by rfl) (World.ownsRow.drew (World.ownsRow.alloc hBx.rows _)) ⟨wx.heap.size, 0, none⟩ 1 1 (cell9 x) (by rfl) (by rfl) (World.news_of_block (cs := #[.int .u8 (x 0 0), .int .u8 (x 0 1), .int .u8 (x 0 2), .int .u8 (x 1 0), .int .u8 (x 1 1), .int .u8 (x 1 2), .int .u8 (x 2 0), .int .u8 (x 2 1), .int .u8 (x 2 2)]) (t := 55) (fr := (0, 0)) (heap_alloc_new wx _)) (cell9_one x) (by omega) hmx hmb (by simp; omega) (wx.heap.size + 1) (by simp) ?_
                intro gg cap3 w3 hown3 hgrow3 hat hlt3
                obtain ⟨hB3, r3⟩ := hBx.more ((ebox1 _ _).drew) hgrow3 (t := x) hown3
                have hfz3 := r3.frozen 2
                have hcl3 : w3.cell? ⟨w1.heap.size + 1, 2, none⟩ = some (.slice sa O.length sc) := r3.cell (i := 2) (by omega)
                clear hown3 hgrow3 hat r3)))
          all_goals
            go_wp2_with fail
            go_roundw
            case rel => exact ⟨k + 1, _, _, by omega, by go_num, HN, by simp; omega, hB3⟩
            case measure => simp [intOf]; omega
      · obtain rfl : k = L.length := by omega
        obtain ⟨sa, sc, rfl⟩ := mown_slice hB.rows
        obtain ⟨j0, j1, j2⟩ := gcells hB.out
        obtain ⟨r0, r1, r2⟩ := gcells hB.res
        have z0 := hB.res.frozen 0
        have z1 := hB.res.frozen 1
        have z2 := hB.res.frozen 2
        have HL : Hid (L.filter (stF p m pt) = O) := Lib.hid (by rw [HOO.out, List.take_length])
        go_wp2_with fail
        obtain ⟨v0, v1, v2, v3, v4⟩ := hB.finish p m
        exact bodyPost_ret (v := .tuple #[.agg #[.int .i64 p, .int .i64 m, .slice sa O.length sc], .int .i64 0]) (by simp [results, Try.results30, go_sem, v0, v1, v2]) rfl ⟨_, by rw [HO.out], by rw [HO.out]; show OwnG9 _ _ _ (L.filter (stF p m pt)); rw [HL.out]; exact v3, v4⟩
end Go.Proofs.Ytpbdbgajohacoaa
