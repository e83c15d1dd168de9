/-
  WALKS: 'CoefficientAt' of the program at every argument. Conditions: as each theorem states.
-/
import Derived.Test.YtkmfgljfalgeaaaW
namespace Go.Proofs.Ytkmfgljfalgeaaa
open Go.RowKit Go.Sort

set_option maxHeartbeats 1000000 in
theorem implCf_nil (p d : Int) (a : Option Addr) (cap g o cap' : Nat) (l : List Int) (w : World) (hm : l.length ≤ 1048576) (hg : g < w.heap.size) (hC : CellsI w g o l) (hne : l ≠ []) (HB : Hid (isPolyB p d [] = true)) (HE : Hid (expsL d l = true)) :
    Calls Try.prog 20 #[.agg #[.int .i64 p, .int .i64 d, .slice a 0 cap], .slice (some ⟨g, o, none⟩) l.length cap'] w fun e w' => e = .returned (.tuple #[.int .i64 0, .int .i64 0]) ∧ Below w.heap.size w w' := by
  have h1 : ∀ o, SliceT (w.alloc o) (.slice a 0 cap) [] := fun o => ⟨a, cap, rfl, .inl rfl⟩
  have hby : ∀ t ∈ ([] : List Tm), tmByte t := fun t h => by simp at h
  obtain ⟨hd1, hd3⟩ := polyB_vars HB.out
  obtain ⟨hall, hcap⟩ := cf_parts HE.out
  have HALL := Lib.hid hall
  have HNN : Hid (∀ x ∈ l, 0 ≤ x) := Lib.hid (fun x hx => by
    simp only [Bool.and_eq_true, List.all_eq_true, decide_eq_true_eq] at hall
    exact hall.2 x hx)
  clear hall
  go_enter Try.func20, Try.ntmps20
  go_wp2_with fail
  ((with_reducible refine (isPoly_any p d _ [] _ (by simp) (h1 _) hby).mono ?_); rintro e w1 ⟨rfl, hb⟩)
  rw [HB.out]
  obtain ⟨hc, hf⟩ := old_cells hb
  have hz : w.heap.size < w1.heap.size := by have := hb.size; simp at this; omega
  have hb0 := (box1 _ _).trans (hb.mono (by simp))
  have q0 := (hc w.heap.size 0 (by simp)).trans (by go_simp : _ = some (.int .i64 p))
  have q1 := (hc w.heap.size 1 (by simp)).trans (by go_simp : _ = some (.int .i64 d))
  have q2 := (hc w.heap.size 2 (by simp)).trans (by go_simp : _ = some (.slice a 0 cap))
  have hC1 := hC.below hb0 hg
  have hg1 := Nat.lt_trans hg hz
  have hSU1 : SliceI w1 (.slice (some ⟨g, o, none⟩) l.length cap') l := ⟨_, cap', rfl, .inr ⟨g, o, rfl, hg1, hC1⟩⟩
  clear hc hf hb h1
  go_wp2_with fail
  ((with_reducible refine (areExps_any d _ l w1 hd1 hm hSU1).mono ?_); rintro e w2 ⟨rfl, rfl⟩)
  rw [HALL.out]
  go_wp2_with fail
  ((with_reducible refine (capped64_any g o cap' l w1 hm hC1 HNN.out).mono ?_); rintro e w2 ⟨rfl, rfl⟩)
  go_wp2_with fail
  ((with_reducible refine (expsOf_any d g o cap' l w1 hd3 hg1 hC1 hne HE.out).mono ?_); rintro e w2 ⟨rfl, hb2⟩)
  have r2 := (hb2.cell (p := ⟨w.heap.size, 2, none⟩) hz).trans q2
  have hz2 : w.heap.size < w2.heap.size := Nat.lt_of_lt_of_le hz hb2.size
  have hb02 := hb0.trans (hb2.mono (Nat.le_of_lt hz))
  clear q0 q1 q2 hC1 hb2 hb0
  go_wp2
  refine wp_loop_rounds 1 ?_
  rw [rounds_succ]
  go_wp2
  go_ret2
  exact ⟨rfl, hb02.trans ((box1 _ _).mono (Nat.le_of_lt hz2))⟩

set_option maxHeartbeats 1000000 in
theorem implCf_bad (p d : Int) (v u : Value) (ts : List Tm) (l : List Int) (w : World) (hl : ts.length ≤ 1048576) (hS : SliceT w v ts) (hby : ∀ t ∈ ts, tmByte t) (hm : l.length ≤ 1048576) (hU : SliceI w u l) (hbad : (isPolyB p d ts && expsL d l) = false) :
    Calls Try.prog 20 #[.agg #[.int .i64 p, .int .i64 d, v], u] w fun e w' => e = .returned (.tuple #[.int .i64 0, .int .i64 (cfC p d ts l)]) ∧ Below w.heap.size w w' := by
  have h1 : ∀ o, SliceT (w.alloc o) v ts := fun o => hS.below (box1 _ _)
  have h2 : ∀ o, SliceI (w.alloc o) u l := fun o => hU.below (box1 _ _)
  have HBAD := Lib.hid hbad
  clear hbad
  obtain ⟨a, cap, hv, _⟩ := id hS
  subst hv
  obtain ⟨a', cap', hu, hor⟩ := id hU
  subst hu
  go_enter Try.func20, Try.ntmps20
  go_wp2_with fail
  ((with_reducible refine (isPoly_any p d _ ts _ hl (h1 _) hby).mono ?_); rintro e w1 ⟨rfl, hb⟩)
  obtain ⟨hc, hf⟩ := old_cells hb
  have hz : w.heap.size < w1.heap.size := by have := hb.size; simp at this; omega
  have hU1 := (h2 _).below hb
  have hb0 := (box1 _ _).trans (hb.mono (by simp))
  clear h1 h2
  generalize hB : isPolyB p d ts = B
  have HB := Lib.hid hB
  clear hB
  cases B
  · go_wp2
    go_ret2
    exact ⟨by simp [cfC, HB.out], hb0⟩
  · obtain ⟨hd1, hd3⟩ := polyB_vars HB.out
    have HE : Hid (expsL d l = false) := Lib.hid (by have := HBAD.out; rw [HB.out] at this; simpa using this)
    have q1 := (hc w.heap.size 1 (by simp)).trans (by go_simp : _ = some (.int .i64 d))
    clear hc hf
    go_wp2_with fail
    ((with_reducible refine (areExps_any d _ l w1 hd1 hm hU1).mono ?_); rintro e w2 ⟨rfl, rfl⟩)
    generalize hA : (decide ((l.length : Int) = d) && l.all (fun x => decide (0 ≤ x))) = A
    have HA := Lib.hid hA
    clear hA
    cases A
    · go_wp2
      go_ret2
      exact ⟨by simp [cfC, HB.out, HE.out], hb0⟩
    · have HNN : Hid (∀ x ∈ l, 0 ≤ x) := Lib.hid (fun x hx => by
        have h := HA.out
        simp only [Bool.and_eq_true, List.all_eq_true, decide_eq_true_eq] at h
        exact h.2 x hx)
      have hbig : 12 < capd l.sum := by
        have h := HE.out
        have h3 := HA.out
        simp only [expsL] at h
        simp only [Bool.and_eq_true] at h3
        rw [h3.1, h3.2] at h
        simp at h
        unfold capd; rw [if_neg (by omega)]; omega
      rcases hor with rfl | ⟨g, o, rfl, hg, hC⟩
      · exfalso
        have h3 := HA.out
        simp at h3
        omega
      · have hC1 := hC.below hb0 hg
        go_wp2_with fail
        ((with_reducible refine (capped64_any g o cap' l w1 hm hC1 HNN.out).mono ?_); rintro e w2 ⟨rfl, rfl⟩)
        go_wp2
        go_ret2
        exact ⟨by simp [cfC, HB.out, HE.out], hb0⟩

theorem implCf (p d : Int) (v u : Value) (ts : List Tm) (l : List Int) (w : World) (hl : ts.length ≤ 1048576) (hS : SliceT w v ts) (hby : ∀ t ∈ ts, tmByte t) (hm : l.length ≤ 1048576) (hU : SliceI w u l) :
    Calls Try.prog 20 #[.agg #[.int .i64 p, .int .i64 d, v], u] w fun e w' => e = .returned (.tuple #[.int .i64 (cfV p d ts l), .int .i64 (cfC p d ts l)]) ∧ Below w.heap.size w w' := by
  cases h : (isPolyB p d ts && expsL d l)
  · have : cfV p d ts l = 0 := by simp [cfV, h]
    rw [this]
    exact implCf_bad p d v u ts l w hl hS hby hm hU h
  · have hV : cfV p d ts l = atL ts (padE l) := by simp [cfV, h]
    simp only [Bool.and_eq_true] at h
    have hC : cfC p d ts l = 0 := by simp [cfC, h.1, h.2]
    rw [hV, hC]
    have hd := polyB_vars h.1
    obtain ⟨a, cap, rfl, hor⟩ := hU
    rcases hor with rfl | ⟨g, o, rfl, hg, hc⟩
    · exfalso
      have := h.2
      simp [expsL] at this
      omega
    · have hne : l ≠ [] := fun e => by
        subst e
        have := h.2
        simp [expsL] at this
        omega
      obtain ⟨a', cap', rfl, rfl | ⟨b, off, rfl, hb, hT⟩⟩ := id hS
      · exact implCf_nil p d a' cap' g o cap l w hm hg hc hne (Lib.hid h.1) (Lib.hid h.2)
      · exact implCf_ok p d b off cap' g o cap ts l w hl hS hb hT hby hm hg hc hne (Lib.hid h.1) (Lib.hid h.2)

end Go.Proofs.Ytkmfgljfalgeaaa
