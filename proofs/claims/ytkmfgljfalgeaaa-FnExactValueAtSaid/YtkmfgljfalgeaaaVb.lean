/-
  WALKS: 'ValueAt' of model and program at every argument. Conditions: as each theorem states.
-/
import Derived.Test.YtkmfgljfalgeaaaVe
namespace Go.Proofs.Ytkmfgljfalgeaaa
open Go.RowKit Go.Sort

/-- What 'ValueAt' gives. -/
def vaV (p d : Int) (ts : List Tm) (l : List Int) : Int := if isPolyB p d ts && ptB p d l then sumV p l ts ts.length % p else 0
def vaC (p d : Int) (ts : List Tm) (l : List Int) : Int := if isPolyB p d ts then (if ptB p d l then 0 else 2) else 1

theorem specValue_nil (p d : Int) (a : Option Addr) (cap : Nat) (u : Value) (w : World) (h2 : 2 ≤ p) :
    Calls Try.prog 47 #[.agg #[.int .i64 p, .int .i64 d, .slice a 0 cap], u] w fun e w' => e = .returned (.int .i64 0) ∧ Below w.heap.size w w' := by
  have hp0 : (p == 0) = false := by simp; omega
  go_enter Try.func47, Try.ntmps47
  go_wp2
  refine wp_loop_rounds 1 ?_
  rw [rounds_succ]
  go_wp2
  go_ret
  exact ⟨by simp, box1 _ _⟩

set_option maxHeartbeats 1000000 in
theorem specVa (p d : Int) (v u : Value) (ts : List Tm) (l : List Int) (w : World) (hl : ts.length ≤ 1048576) (hS : SliceT w v ts) (hby : ∀ t ∈ ts, tmByte t) (hm : l.length ≤ 1048576) (hU : SliceI w u l) :
    Calls Try.prog 22 #[.agg #[.int .i64 p, .int .i64 d, v], u] w fun e w' => e = .returned (.tuple #[.int .i64 (vaV p d ts l), .int .i64 (vaC p d ts l)]) ∧ Below w.heap.size w w' := by
  have h1 : ∀ o, SliceT (w.alloc o) v ts := fun o => hS.below (box1 _ _)
  have h2 : ∀ o, SliceI (w.alloc o) u l := fun o => hU.below (box1 _ _)
  obtain ⟨a, cap, hv, _⟩ := id hS
  subst hv
  go_enter Try.func22, Try.ntmps22
  go_wp2_with fail
  ((with_reducible refine (specIs_any p d _ ts _ hl (h1 _) hby).mono ?_); rintro e w1 ⟨rfl, hb⟩)
  obtain ⟨hc, hf⟩ := old_cells hb
  have hz : w.heap.size < w1.heap.size := by have := hb.size; simp at this; omega
  have hS1 := (h1 _).below hb
  have hU1 := (h2 _).below hb
  have hb0 := (box1 _ _).trans (hb.mono (by simp))
  clear h1 h2
  generalize hB : isPolyB p d ts = B
  have HB := Lib.hid hB
  clear hB
  cases B
  · go_wp2
    go_ret2
    exact ⟨by simp [vaV, vaC, HB.out], hb0⟩
  · obtain ⟨hd1, hd3⟩ := polyB_vars HB.out
    obtain ⟨⟨p2, p13⟩, hvals⟩ := polyB_vals HB.out
    have HVALS := Lib.hid hvals
    clear hvals
    go_wp2_with fail
    ((with_reducible refine (point_any p d u l w1 p2 p13 hd1 hm hU1).mono ?_); rintro e w2 ⟨rfl, rfl⟩)
    generalize hE : ptB p d l = E
    have HE := Lib.hid hE
    clear hE
    cases E
    · go_wp2
      go_ret2
      exact ⟨by simp [vaV, vaC, HB.out, HE.out], hb0⟩
    · have HV : Hid (vaV p d ts l = sumV p l ts ts.length % p ∧ vaC p d ts l = 0) := Lib.hid (by simp [vaV, vaC, HB.out, HE.out])
      obtain ⟨a0, cap0, he0, hor⟩ := id hS1
      obtain ⟨rfl, _, rfl⟩ : a = a0 ∧ True ∧ cap = cap0 := by simp at he0; exact ⟨he0.1, trivial, he0.2⟩
      rcases hor with hnil | ⟨b, off, hab, hlt, hT⟩
      · have HQ : Hid (vaV p d ts l = 0) := Lib.hid (by rw [HV.out.1, hnil]; simp [sumV])
        have hlen : ts.length = 0 := by rw [hnil]; rfl
        rw [hlen] at *
        go_wp2_with fail
        ((with_reducible refine (specValue_nil p d a cap u _ p2).mono ?_); rintro e w3 ⟨rfl, hb3⟩)
        go_wp2
        go_ret2
        exact ⟨by rw [HQ.out, HV.out.2]; rfl, hb0.trans (hb3.mono (Nat.le_of_lt hz))⟩
      · subst hab
        obtain ⟨hlenl, hx⟩ := ptB_parts HE.out
        obtain ⟨a1, cap1, rfl, hor1⟩ := hU1
        rcases hor1 with rfl | ⟨g, o, rfl, hg, hC⟩
        · simp at hlenl; omega
        · have hl3 : l.length ≤ 3 := by omega
          clear hlenl
          go_wp2_with fail
          ((with_reducible refine (specValue_some p d b off cap g o cap1 ts l w1 hl hlt hT hby p2 p13 HVALS.out hl3 hg hC hx).mono ?_); rintro e w3 ⟨rfl, hb3⟩)
          go_wp2
          go_ret2
          exact ⟨by rw [HV.out.1, HV.out.2]; rfl, hb0.trans (hb3.mono (Nat.le_of_lt hz))⟩

set_option maxHeartbeats 1000000 in
theorem implVa_bad (p d : Int) (v u : Value) (ts : List Tm) (l : List Int) (w : World) (hl : ts.length ≤ 1048576) (hS : SliceT w v ts) (hby : ∀ t ∈ ts, tmByte t) (hm : l.length ≤ 1048576) (hU : SliceI w u l) (hbad : (isPolyB p d ts && ptB p d l) = false) :
    Calls Try.prog 23 #[.agg #[.int .i64 p, .int .i64 d, v], u] w fun e w' => e = .returned (.tuple #[.int .i64 0, .int .i64 (vaC p d ts l)]) ∧ Below w.heap.size w w' := by
  have h1 : ∀ o, SliceT (w.alloc o) v ts := fun o => hS.below (box1 _ _)
  have h2 : ∀ o, SliceI (w.alloc o) u l := fun o => hU.below (box1 _ _)
  have HBAD := Lib.hid hbad
  clear hbad
  obtain ⟨a, cap, hv, _⟩ := id hS
  subst hv
  go_enter Try.func23, Try.ntmps23
  go_wp2_with fail
  ((with_reducible refine (isPoly_any p d _ ts _ hl (h1 _) hby).mono ?_); rintro e w1 ⟨rfl, hb⟩)
  obtain ⟨hc, hf⟩ := old_cells hb
  have hz : w.heap.size < w1.heap.size := by have := hb.size; simp at this; omega
  have hU1 := (h2 _).below hb
  have hb0 := (box1 _ _).trans (hb.mono (by simp))
  clear h1 h2
  generalize hB : isPolyB p d ts = B
  have HB := Lib.hid hB
  clear hB
  cases B
  · go_wp2
    go_ret2
    exact ⟨by simp [vaC, HB.out], hb0⟩
  · obtain ⟨hd1, hd3⟩ := polyB_vars HB.out
    have HE : Hid (ptB p d l = false) := Lib.hid (by have := HBAD.out; rw [HB.out] at this; simpa using this)
    go_wp2_with fail
    ((with_reducible refine (areNumbers_any p d _ l w1 hd1 hm hU1).mono ?_); rintro e w2 ⟨rfl, hb2⟩)
    rw [HE.out]
    go_wp2
    go_ret2
    exact ⟨by simp [vaC, HB.out, HE.out], hb0.trans (hb2.mono (Nat.le_of_lt hz))⟩

set_option maxHeartbeats 1000000 in
theorem implVa_nil (p d : Int) (a : Option Addr) (cap : Nat) (u : Value) (l : List Int) (w : World) (hm : l.length ≤ 1048576) (hU : SliceI w u l) (HB : Hid (isPolyB p d [] = true)) (HE : Hid (ptB p d l = true)) :
    Calls Try.prog 23 #[.agg #[.int .i64 p, .int .i64 d, .slice a 0 cap], u] w fun e w' => e = .returned (.tuple #[.int .i64 0, .int .i64 0]) ∧ Below w.heap.size w w' := by
  have h1 : ∀ o, SliceT (w.alloc o) (.slice a 0 cap) [] := fun o => ⟨a, cap, rfl, .inl rfl⟩
  have h2 : ∀ o, SliceI (w.alloc o) u l := fun o => hU.below (box1 _ _)
  have hby : ∀ t ∈ ([] : List Tm), tmByte t := fun t h => by simp at h
  obtain ⟨hd1, hd3⟩ := polyB_vars HB.out
  go_enter Try.func23, Try.ntmps23
  go_wp2_with fail
  ((with_reducible refine (isPoly_any p d _ [] _ (by simp) (h1 _) hby).mono ?_); rintro e w1 ⟨rfl, hb⟩)
  rw [HB.out]
  obtain ⟨hc, hf⟩ := old_cells hb
  have hz : w.heap.size < w1.heap.size := by have := hb.size; simp at this; omega
  have hU1 := (h2 _).below hb
  have hb0 := (box1 _ _).trans (hb.mono (by simp))
  have q2 := (hc w.heap.size 2 (by simp)).trans (by go_simp : _ = some (.slice a 0 cap))
  clear h1 h2
  go_wp2_with fail
  ((with_reducible refine (areNumbers_any p d _ l w1 hd1 hm hU1).mono ?_); rintro e w2 ⟨rfl, hb2⟩)
  rw [HE.out]
  have r2 := (hb2.cell (p := ⟨w.heap.size, 2, none⟩) hz).trans q2
  clear hc hf
  go_wp2
  refine wp_loop_rounds 1 ?_
  rw [rounds_succ]
  go_wp2
  go_ret2
  exact ⟨rfl, hb0.trans (hb2.mono (Nat.le_of_lt hz))⟩

theorem implVa (p d : Int) (v u : Value) (ts : List Tm) (l : List Int) (w : World) (hl : ts.length ≤ 1048576) (hS : SliceT w v ts) (hby : ∀ t ∈ ts, tmByte t) (hm : l.length ≤ 1048576) (hU : SliceI w u l) :
    Calls Try.prog 23 #[.agg #[.int .i64 p, .int .i64 d, v], u] w fun e w' => e = .returned (.tuple #[.int .i64 (vaV p d ts l), .int .i64 (vaC p d ts l)]) ∧ Below w.heap.size w w' := by
  cases h : (isPolyB p d ts && ptB p d l)
  · have : vaV p d ts l = 0 := by simp [vaV, h]
    rw [this]
    exact implVa_bad p d v u ts l w hl hS hby hm hU h
  · have hV : vaV p d ts l = sumV p l ts ts.length % p := by simp [vaV, h]
    simp only [Bool.and_eq_true] at h
    have hC : vaC p d ts l = 0 := by simp [vaC, h.1, h.2]
    have hd := polyB_vars h.1
    have hpt := ptB_parts h.2
    obtain ⟨a', cap', rfl, rfl | ⟨b, off, rfl, hb, hT⟩⟩ := id hS
    · rw [hC, show vaV p d [] l = 0 from by rw [hV]; simp [sumV]]
      exact implVa_nil p d a' cap' u l w hm hU (Lib.hid h.1) (Lib.hid h.2)
    · rw [hV, hC]
      obtain ⟨a, cap, rfl, hor⟩ := hU
      rcases hor with rfl | ⟨g, o, rfl, hg, hc⟩
      · exfalso
        have := hpt.1
        simp at this
        omega
      · exact implVa_ok p d b off cap' g o cap ts l w hl hS hb hT hby hm hg hc (Lib.hid h.1) (Lib.hid h.2)

end Go.Proofs.Ytkmfgljfalgeaaa
