/-
  WALKS: 'CoefficientAt' of the program. Conditions: as each theorem states.
-/
import Derived.Test.YtkmfgljfalgeaaaV
namespace Go.Proofs.Ytkmfgljfalgeaaa
open Go.RowKit Go.Sort

/-- The loop of 'CoefficientAt', behind its checks: the walk of the whole where all is fit. -/
theorem cf_parts {d : Int} {l : List Int} (h : expsL d l = true) : (decide ((l.length : Int) = d) && l.all (fun x => decide (0 ≤ x))) = true ∧ capd l.sum ≤ 12 := by
  simp only [expsL, Bool.and_eq_true, decide_eq_true_eq] at h
  refine ⟨by simp [h.1, h.2.1], ?_⟩
  unfold capd; rw [if_pos h.2.2]; exact h.2.2

set_option maxHeartbeats 2000000 in
theorem implCf_ok (p d : Int) (b off cap g o cap' : Nat) (ts : List Tm) (l : List Int) (w : World) (hl : ts.length ≤ 1048576) (hS : SliceT w (.slice (some ⟨b, off, none⟩) ts.length cap) ts) (hblt : b < w.heap.size) (hT : Terms w b off ts) (hby : ∀ t ∈ ts, tmByte t)
    (hm : l.length ≤ 1048576) (hg : g < w.heap.size) (hC : CellsI w g o l) (hne : l ≠ []) (HB : Hid (isPolyB p d ts = true)) (HE : Hid (expsL d l = true)) :
    Calls Try.prog 20 #[.agg #[.int .i64 p, .int .i64 d, .slice (some ⟨b, off, none⟩) ts.length cap], .slice (some ⟨g, o, none⟩) l.length cap'] w fun e w' => e = .returned (.tuple #[.int .i64 (atL ts (padE l)), .int .i64 0]) ∧ Below w.heap.size w w' := by
  have h1 : ∀ o, SliceT (w.alloc o) (.slice (some ⟨b, off, none⟩) ts.length cap) ts := fun o => hS.below (box1 _ _)
  obtain ⟨hd1, hd3⟩ := polyB_vars HB.out
  obtain ⟨hall, hcap⟩ := cf_parts HE.out
  have HALL := Lib.hid hall
  have HNN : Hid (∀ x ∈ l, 0 ≤ x) := Lib.hid (fun x hx => by
    simp only [Bool.and_eq_true, List.all_eq_true, decide_eq_true_eq] at hall
    exact hall.2 x hx)
  clear hall
  go_enter Try.func20, Try.ntmps20
  go_wp2_with fail
  ((with_reducible refine (isPoly_any p d _ ts _ hl (h1 _) hby).mono ?_); rintro e w1 ⟨rfl, hb⟩)
  rw [HB.out]
  obtain ⟨hc, hf⟩ := old_cells hb
  have hz : w.heap.size < w1.heap.size := by have := hb.size; simp at this; omega
  have hb0 := (box1 _ _).trans (hb.mono (by simp))
  have q0 := (hc w.heap.size 0 (by simp)).trans (by go_simp : _ = some (.int .i64 p))
  have q1 := (hc w.heap.size 1 (by simp)).trans (by go_simp : _ = some (.int .i64 d))
  have q2 := (hc w.heap.size 2 (by simp)).trans (by go_simp : _ = some (.slice (some ⟨b, off, none⟩) ts.length cap))
  have hT1 := hT.below hb0 hblt
  have hC1 := hC.below hb0 hg
  have hb1 := Nat.lt_trans hblt hz
  have hg1 := Nat.lt_trans hg hz
  have hSU1 : SliceI w1 (.slice (some ⟨g, o, none⟩) l.length cap') l := ⟨_, cap', rfl, .inr ⟨g, o, rfl, hg1, hC1⟩⟩
  clear hc hf hb h1
  go_wp2_with fail
  ((with_reducible refine (areExps_any d _ l w1 hd1 hm hSU1).mono ?_); rintro e w2 ⟨rfl, rfl⟩)
  rw [HALL.out]
  go_wp2_with fail
  ((with_reducible refine (capped64_any g o cap' l w1 hm hC1 HNN.out).mono ?_); rintro e w2 ⟨rfl, rfl⟩)
  go_wp2_with fail
  ((with_reducible refine (expsOf_any d g o cap' l w1 hd3 hg1 hC1 hne HE.out).mono ?_); rintro e w2 ⟨rfl, hb2⟩)
  have r0 := (hb2.cell (p := ⟨w.heap.size, 0, none⟩) hz).trans q0
  have r1 := (hb2.cell (p := ⟨w.heap.size, 1, none⟩) hz).trans q1
  have r2 := (hb2.cell (p := ⟨w.heap.size, 2, none⟩) hz).trans q2
  have hz2 : w.heap.size < w2.heap.size := Nat.lt_of_lt_of_le hz hb2.size
  have hT2 := hT1.below hb2 hb1
  have hb2' := Nat.lt_of_lt_of_le hb1 hb2.size
  have hb02 := hb0.trans (hb2.mono (Nat.le_of_lt hz))
  clear q0 q1 q2 hT1 hC1 hb2 hb0
  generalize hx : (padE l).1 = x
  generalize hy : (padE l).2.1 = y
  generalize hz' : (padE l).2.2 = z
  have HPAD : Hid (padE l = (x, y, z)) := Lib.hid (by rw [← hx, ← hy, ← hz'])
  clear hx hy hz'
  obtain ⟨W, hW, hbW, hWs, e0, e1, e2⟩ : ∃ W, W = w2.alloc (.cells #[.int .u8 x, .int .u8 y, .int .u8 z] 52) ∧ Below w2.heap.size w2 W ∧ w2.heap.size < W.heap.size ∧
      W.cell? ⟨w2.heap.size, 0, none⟩ = some (.int .u8 x) ∧ W.cell? ⟨w2.heap.size, 1, none⟩ = some (.int .u8 y) ∧ W.cell? ⟨w2.heap.size, 2, none⟩ = some (.int .u8 z) :=
    ⟨_, rfl, box1 _ _, by simp, by go_simp, by go_simp, by go_simp⟩
  have s2 := (hbW.cell (p := ⟨w.heap.size, 2, none⟩) hz2).trans r2
  have hTW := hT2.below hbW hb2'
  have hbWs := Nat.lt_trans hb2' hWs
  have hb0W := hb02.trans (hbW.mono (Nat.le_of_lt hz2))
  clear r0 r1 hT2
  go_wp2
  rw [← hW]
  clear hW
  go_loopw [27] (fun i wr => ∃ k : Nat, k ≤ ts.length ∧ i = .int .i64 k ∧ atL ts (x, y, z) = atL (ts.drop k) (x, y, z) ∧ Below W.heap.size W wr) (fun i _ => ts.length - (intOf i).toNat)
  case atStart => exact ⟨0, by omega, rfl, rfl, Below.refl _ _⟩
  case round =>
    obtain ⟨k, hk, rfl, hU, hbel⟩ := hrel
    by_cases hlt : k < ts.length
    · have hlt' : (k : Int) < (ts.length : Int) := by omega
      obtain ⟨c0, c1, c2, c3⟩ := (hTW.below hbel hbWs) k hlt
      have v0 := (hbel.cell (p := ⟨w2.heap.size, 0, none⟩) hWs).trans e0
      have v1 := (hbel.cell (p := ⟨w2.heap.size, 1, none⟩) hWs).trans e1
      have v2 := (hbel.cell (p := ⟨w2.heap.size, 2, none⟩) hWs).trans e2
      have hz3 : w2.heap.size < wr.heap.size := Nat.lt_of_lt_of_le hWs hbel.size
      have hst := atL_step ts (x, y, z) k hlt
      have HST := Lib.hid (hU.trans hst)
      clear hU hst
      have hG : Try.prog.eqGuardType Try.prog.depth 52 = false := by kernel_rfl
      have hEq := arr3_eq ts[k].1 ts[k].2.1 ts[k].2.2.1 x y z
      cases hB : (ts[k].1 == x && (ts[k].2.1 == y && ts[k].2.2.1 == z))
      · have hne2 : ¬ tmE ts[k] = (x, y, z) := fun h => by simp [tmE] at h; simp [h] at hB
        have HN : Hid (atL ts (x, y, z) = atL (ts.drop (k + 1)) (x, y, z)) := Lib.hid (by rw [HST.out, if_neg hne2])
        rw [hB] at hEq
        clear hne2 hB
        go_wp2
        go_roundw
        case rel => exact ⟨k + 1, by omega, by go_num, HN.out, hbel.trans ((box1 _ _).mono hbel.size)⟩
        case measure => simp [intOf]; omega
      · have he : tmE ts[k] = (x, y, z) := by simp at hB; simp [tmE, hB]
        have HN : Hid (atL ts (x, y, z) = ts[k].2.2.2) := Lib.hid (by rw [HST.out, if_pos he])
        rw [hB] at hEq
        clear he hB
        go_wp2
        go_ret2
        exact ⟨by rw [HPAD.out, HN.out]; rfl, hb0W.trans ((hbel.trans ((box1 _ _).mono hbel.size)).mono hb0W.size)⟩
    · obtain rfl : k = ts.length := by omega
      have HU := Lib.hid hU
      clear hU
      go_wp2
      go_ret2
      exact ⟨by rw [HPAD.out, HU.out, List.drop_length]; rfl, hb0W.trans (hbel.mono hb0W.size)⟩

end Go.Proofs.Ytkmfgljfalgeaaa
