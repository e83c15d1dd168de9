/-
  WALKS: 'spec.l01Times'. Conditions: as each theorem states.
-/
import Derived.Test.YtbahejlgfpilnaaPr
import Derived.Test.YtbahejlgfpilnaaPn
import Derived.Test.YtbahejlgfpilnaaDg
import Derived.Test.YtbahejlgfpilnaaE
import Derived.Deep.DeepCutAuto
namespace Go.Proofs.Ytbahejlgfpilnaa
open Go.RowKit Go.Sort Go.Maps

theorem before_sum {a b : Int × Int × Int} (h : beforeB a b = true) : a.1 + a.2.1 + a.2.2 ≤ b.1 + b.2.1 + b.2.2 := by
  obtain ⟨x, y, z⟩ := a
  obtain ⟨x', y', z'⟩ := b
  unfold beforeB at h
  simp at h
  split at h
  · simp only []; omega
  · simp only []; omega
/-- The degrees of all terms are at most that of the last one. -/
theorem deg_le {p d : Int} {ts : List Tm} (h : Valid p d ts) : ∀ t ∈ ts, t.1 + t.2.1 + t.2.2.1 ≤ degI ts := by
  intro t ht
  unfold degI
  cases hl : ts.getLast? with
  | none => rw [List.getLast?_eq_none_iff] at hl; subst hl; simp at ht
  | some u =>
    obtain ⟨pre, rfl⟩ := List.getLast?_eq_some_iff.1 hl
    have hp := List.pairwise_append.1 h.asc
    rcases List.mem_append.1 ht with ht | ht
    · exact before_sum (hp.2.2 t ht u (by simp))
    · simp at ht
      subst ht
      exact Int.le_refl _
theorem fits_of {p d : Int} {xs ys : List Tm} (h : Valid p d xs) (h' : Valid p d ys) (hd : xs = [] ∨ ys = [] ∨ degI xs + degI ys ≤ 12) : Fits xs ys := by
  intro s hs t ht
  rcases hd with rfl | rfl | hd
  · simp at hs
  · simp at ht
  · have h1 := deg_le h s hs
    have h2 := deg_le h' t ht
    omega
theorem deg_bound {p d : Int} {ts : List Tm} (h : Valid p d ts) : -1 ≤ degI ts ∧ degI ts ≤ 12 := by
  unfold degI
  cases hl : ts.getLast? with
  | none => simp
  | some u =>
    simp only [sumT]
    obtain ⟨⟨⟨a, b, c⟩, e⟩, _⟩ := h.mem u (List.mem_of_getLast? hl)
    simp only [tmE] at a b c
    omega
theorem Valid.byte {p d : Int} {ts : List Tm} (h : Valid p d ts) : ∀ t ∈ ts, tmByte t := by
  have := h.p13
  exact h.isP.byte this

set_option maxRecDepth 8000 in
set_option maxHeartbeats 8000000 in
theorem specTimes_nil (p d : Int) (v v' : Value) (xs ys : List Tm) (w : World) (hS : SliceT w v xs) (hS' : SliceT w v' ys) (hl : xs.length ≤ 1048576) (hl' : ys.length ≤ 1048576) (h0 : xs = [] ∨ ys = []) :
    Calls Try.prog 88 #[.agg #[.int .i64 p, .int .i64 d, v], .agg #[.int .i64 p, .int .i64 d, v']] w fun e w' =>
      ∃ v', e = .returned (.tuple #[.agg #[.int .i64 p, .int .i64 d, v'], .bool true]) ∧ OwnP w' w.heap.size v' [] ∧ Below w.heap.size w w' := by
  obtain ⟨a, cap, rfl, _⟩ := id hS
  obtain ⟨a', cap', rfl, _⟩ := id hS'
  obtain ⟨W, hW, hbW, ⟨hWs1, hWs2⟩, rx, ry, rr⟩ := pair3 w p d (.slice a xs.length cap) p d (.slice a' ys.length cap')
  obtain ⟨⟨c0, c1, c2⟩, _⟩ := poly3 rx
  go_enter Try.func88, Try.ntmps88
  go_wp2_with fail
  rw [← hW]
  clear hW c0 c1 c2
  ((with_reducible refine (empty_any p d W).mono ?_); rintro e w1 ⟨rfl, hown, hb1⟩)
  obtain ⟨V, hV1, hbV, ⟨hVs1, hVs2⟩, rq⟩ : ∃ V, V = w1.alloc (.cells #[.int .i64 p, .int .i64 d, .slice (some ⟨W.heap.size + 1, 0, none⟩) 0 0] 42) ∧ Below w1.heap.size w1 V ∧ (V.heap.size ≤ w1.heap.size + 1 ∧ w1.heap.size + 1 ≤ V.heap.size) ∧
      V.rowIs w1.heap.size 42 3 (polyF p d (.slice (some ⟨W.heap.size + 1, 0, none⟩) 0 0)) := by
    refine ⟨_, rfl, box1 _ _, ⟨by simp, by simp⟩, ?_⟩
    exact World.rowIs_alloc w1 #[Value.int .i64 p, .int .i64 d, .slice (some ⟨W.heap.size + 1, 0, none⟩) 0 0] _ _ (fun i hi => by simp at hi; match i, hi with | 0, _ => rfl | 1, _ => rfl | 2, _ => rfl)
  have s1 := hb1.size
  have hbWV := hb1.trans (hbV.mono hb1.size)
  have hst : Part2 w V W.heap.size w1.heap.size w.heap.size (w.heap.size + 1) (w.heap.size + 2) p d p d (.slice a xs.length cap) (.slice a' ys.length cap') (.slice (some ⟨W.heap.size + 1, 0, none⟩) 0 0) [] :=
    ⟨⟨owns_belowT hown hbV, rq, rowIs_below rx hbWV rx.lt, rowIs_below rr hbWV rr.lt, hbW.trans (hbWV.mono hbW.size), by omega, by omega, by omega, by omega, by omega, by omega⟩, rowIs_below ry hbWV ry.lt, by omega⟩
  have rx1 := rowIs_below rx hb1 rx.lt
  have ry1 := rowIs_below ry hb1 ry.lt
  have rr1 := rowIs_below rr hb1 rr.lt
  have xo : ∀ o, (w1.alloc o).cell? ⟨w.heap.size, 2, none⟩ = some (.slice a xs.length cap) := fun o => ((box1 w1 o).cell rx1.lt).trans (poly3 rx1).1.2.2
  have yo : ∀ o, (w1.alloc o).cell? ⟨w.heap.size + 1, 2, none⟩ = some (.slice a' ys.length cap') := fun o => ((box1 w1 o).cell ry1.lt).trans (poly3 ry1).1.2.2
  obtain ⟨⟨r0, r1, r2⟩, y0, y1, y2⟩ := poly3 hst.part.res
  obtain ⟨⟨q0, q1, q2⟩, _⟩ := poly3 hst.part.out
  obtain ⟨a0, a1, a2, a3, a4⟩ := hst.part.finish p d
  have A0 := Lib.hid a0
  have A1 := Lib.hid a1
  have A2 := Lib.hid a2
  have A3 := Lib.hid a3
  have A4 := Lib.hid a4
  have ro : ∀ o, ((w1.alloc o).cell? ⟨w.heap.size + 2, 0, none⟩ = some (.int .i64 0) ∧ (w1.alloc o).cell? ⟨w.heap.size + 2, 1, none⟩ = some (.int .i64 0) ∧ (w1.alloc o).cell? ⟨w.heap.size + 2, 2, none⟩ = some (.slice none 0 0)) ∧ (w1.alloc o).frozen? ⟨w.heap.size + 2, 0, none⟩ = false ∧ (w1.alloc o).frozen? ⟨w.heap.size + 2, 1, none⟩ = false ∧ (w1.alloc o).frozen? ⟨w.heap.size + 2, 2, none⟩ = false := fun o => poly3 (rowIs_below rr1 (box1 _ o) rr1.lt)
  clear a0 a1 a2 a3 a4 rx ry rr rq hown hst rx1 ry1 rr1
  by_cases hx : xs = []
  · subst hx
    have hz : (([] : List Tm).length : Int) = 0 := rfl
    go_wp2_with fail
    rw [← hV1]
    exact bodyPost_ret (v := .tuple #[.agg #[.int .i64 p, .int .i64 d, .slice (some ⟨W.heap.size + 1, 0, none⟩) 0 0], .bool true]) (by simp [results, Try.results88, go_sem, A0.out, A1.out, A2.out]) rfl ⟨_, rfl, A3.out, A4.out⟩
  · have hy : ys = [] := by rcases h0 with h | h; exact absurd h hx; exact h
    subst hy
    have hz : ((xs.length : Int) == 0) = false := by simpa using hx
    have hz' : (([] : List Tm).length : Int) = 0 := rfl
    go_wp2_with fail
    rw [← hV1]
    exact bodyPost_ret (v := .tuple #[.agg #[.int .i64 p, .int .i64 d, .slice (some ⟨W.heap.size + 1, 0, none⟩) 0 0], .bool true]) (by simp [results, Try.results88, go_sem, A0.out, A1.out, A2.out]) rfl ⟨_, rfl, A3.out, A4.out⟩
end Go.Proofs.Ytbahejlgfpilnaa
