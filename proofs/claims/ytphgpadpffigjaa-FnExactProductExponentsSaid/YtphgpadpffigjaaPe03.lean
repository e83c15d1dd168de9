/-
  TERMS OF A PRODUCT. Conditions: as each theorem states.
  WALKS: 'spec.l01Times'. Conditions: as each theorem states.
  WALKS: 'spec.l01Times' of polynomials other than 0. Conditions: as each theorem states.
  WALKS: spec.l01Times. Conditions: as each theorem states.
  WALKS: 'spec.l01One'. Conditions: as each theorem states.
  POWERS OF POLYNOMIALS, in plain mathematics. Conditions: as each theorem states.
-/
import Derived.Test.YtphgpadpffigjaaPe02
import Derived.Test.YtphgpadpffigjaaPn
import Derived.Test.YtphgpadpffigjaaPe01
import Derived.Test.YtphgpadpffigjaaE
import Derived.Deep.DeepCutAuto
import Derived.Deep.RegionHeld3
import Derived.Test.YtphgpadpffigjaaLs2
import Derived.Test.YtphgpadpffigjaaIsp
namespace Go.Proofs.Ytphgpadpffigjaa
open Go.RowKit Go.Sort Go.Maps

theorem rowS_ne {s : Tm} {e : Int × Int × Int} : ∀ {ys : List Tm}, rowS s ys e ≠ 0 → ∃ t ∈ ys, addE (tmE s) (tmE t) = e
  | [], h => absurd rfl h
  | t :: r, h => by
    rw [rowS] at h
    by_cases hx : addE (tmE s) (tmE t) = e
    · exact ⟨t, by simp, hx⟩
    · rw [if_neg hx, Int.zero_add] at h
      obtain ⟨u, hu, hx⟩ := rowS_ne h
      exact ⟨u, by simp [hu], hx⟩
theorem mulS_ne {ys : List Tm} {e : Int × Int × Int} : ∀ {xs : List Tm}, mulS xs ys e ≠ 0 → ∃ s ∈ xs, ∃ t ∈ ys, addE (tmE s) (tmE t) = e
  | [], h => absurd rfl h
  | s :: r, h => by
    rw [mulS] at h
    by_cases hx : rowS s ys e = 0
    · rw [hx, Int.zero_add] at h
      obtain ⟨u, hu, hx⟩ := mulS_ne h
      exact ⟨u, by simp [hu], hx⟩
    · exact ⟨s, by simp, rowS_ne hx⟩
end Go.Proofs.Ytphgpadpffigjaa
namespace Go.Proofs.Ytphgpadpffigjaa
open Go.RowKit Go.Sort Go.Maps

theorem before_sum {a b : Int × Int × Int} (h : beforeB a b = true) : a.1 + a.2.1 + a.2.2 ≤ b.1 + b.2.1 + b.2.2 := by
  obtain ⟨x, y, z⟩ := a
  obtain ⟨x', y', z'⟩ := b
  unfold beforeB at h
  simp at h
  split at h
  · simp only []; omega
  · simp only []; omega
/-- The degrees of all terms are at most that of the last one. -/
theorem deg_le {p d : Int} {ts : List Tm} (h : Valid p d ts) : ∀ t ∈ ts, t.1 + t.2.1 + t.2.2.1 ≤ degI ts := by
  intro t ht
  unfold degI
  cases hl : ts.getLast? with
  | none => rw [List.getLast?_eq_none_iff] at hl; subst hl; simp at ht
  | some u =>
    obtain ⟨pre, rfl⟩ := List.getLast?_eq_some_iff.1 hl
    have hp := List.pairwise_append.1 h.asc
    rcases List.mem_append.1 ht with ht | ht
    · exact before_sum (hp.2.2 t ht u (by simp))
    · simp at ht
      subst ht
      exact Int.le_refl _
theorem fits_of {p d : Int} {xs ys : List Tm} (h : Valid p d xs) (h' : Valid p d ys) (hd : xs = [] ∨ ys = [] ∨ degI xs + degI ys ≤ 12) : Fits xs ys := by
  intro s hs t ht
  rcases hd with rfl | rfl | hd
  · simp at hs
  · simp at ht
  · have h1 := deg_le h s hs
    have h2 := deg_le h' t ht
    omega
theorem deg_bound {p d : Int} {ts : List Tm} (h : Valid p d ts) : -1 ≤ degI ts ∧ degI ts ≤ 12 := by
  unfold degI
  cases hl : ts.getLast? with
  | none => simp
  | some u =>
    simp only [sumT]
    obtain ⟨⟨⟨a, b, c⟩, e⟩, _⟩ := h.mem u (List.mem_of_getLast? hl)
    simp only [tmE] at a b c
    omega
theorem Valid.byte {p d : Int} {ts : List Tm} (h : Valid p d ts) : ∀ t ∈ ts, tmByte t := by
  have := h.p13
  exact h.isP.byte this

set_option maxRecDepth 8000 in
set_option maxHeartbeats 8000000 in
theorem specTimes_nil (p d : Int) (v v' : Value) (xs ys : List Tm) (w : World) (hS : SliceT w v xs) (hS' : SliceT w v' ys) (hl : xs.length ≤ 1048576) (hl' : ys.length ≤ 1048576) (h0 : xs = [] ∨ ys = []) :
    Calls Try.prog 56 #[.agg #[.int .i64 p, .int .i64 d, v], .agg #[.int .i64 p, .int .i64 d, v']] w fun e w' =>
      ∃ v', e = .returned (.tuple #[.agg #[.int .i64 p, .int .i64 d, v'], .bool true]) ∧ OwnP w' w.heap.size v' [] ∧ Below w.heap.size w w' := by
  obtain ⟨a, cap, rfl, _⟩ := id hS
  obtain ⟨a', cap', rfl, _⟩ := id hS'
  obtain ⟨W, hW, hbW, ⟨hWs1, hWs2⟩, rx, ry, rr⟩ := pair3 w p d (.slice a xs.length cap) p d (.slice a' ys.length cap')
  obtain ⟨⟨c0, c1, c2⟩, _⟩ := poly3 rx
  go_enter Try.func56, Try.ntmps56
  go_wp2_with fail
  rw [← hW]
  clear hW c0 c1 c2
  ((with_reducible refine (empty_any p d W).mono ?_); rintro e w1 ⟨rfl, hown, hb1⟩)
  obtain ⟨V, hV1, hbV, ⟨hVs1, hVs2⟩, rq⟩ : ∃ V, V = w1.alloc (.cells #[.int .i64 p, .int .i64 d, .slice (some ⟨W.heap.size + 1, 0, none⟩) 0 0] 36) ∧ Below w1.heap.size w1 V ∧ (V.heap.size ≤ w1.heap.size + 1 ∧ w1.heap.size + 1 ≤ V.heap.size) ∧
      V.rowIs w1.heap.size 36 3 (polyF p d (.slice (some ⟨W.heap.size + 1, 0, none⟩) 0 0)) := by
    refine ⟨_, rfl, box1 _ _, ⟨by simp, by simp⟩, ?_⟩
    exact World.rowIs_alloc w1 #[Value.int .i64 p, .int .i64 d, .slice (some ⟨W.heap.size + 1, 0, none⟩) 0 0] _ _ (fun i hi => by simp at hi; match i, hi with | 0, _ => rfl | 1, _ => rfl | 2, _ => rfl)
  have s1 := hb1.size
  have hbWV := hb1.trans (hbV.mono hb1.size)
  have hst : Part2 w V W.heap.size w1.heap.size w.heap.size (w.heap.size + 1) (w.heap.size + 2) p d p d (.slice a xs.length cap) (.slice a' ys.length cap') (.slice (some ⟨W.heap.size + 1, 0, none⟩) 0 0) [] :=
    ⟨⟨owns_belowT hown hbV, rq, rowIs_below rx hbWV rx.lt, rowIs_below rr hbWV rr.lt, hbW.trans (hbWV.mono hbW.size), by omega, by omega, by omega, by omega, by omega, by omega⟩, rowIs_below ry hbWV ry.lt, by omega⟩
  have rx1 := rowIs_below rx hb1 rx.lt
  have ry1 := rowIs_below ry hb1 ry.lt
  have rr1 := rowIs_below rr hb1 rr.lt
  have xo : ∀ o, (w1.alloc o).cell? ⟨w.heap.size, 2, none⟩ = some (.slice a xs.length cap) := fun o => ((box1 w1 o).cell rx1.lt).trans (poly3 rx1).1.2.2
  have yo : ∀ o, (w1.alloc o).cell? ⟨w.heap.size + 1, 2, none⟩ = some (.slice a' ys.length cap') := fun o => ((box1 w1 o).cell ry1.lt).trans (poly3 ry1).1.2.2
  obtain ⟨⟨r0, r1, r2⟩, y0, y1, y2⟩ := poly3 hst.part.res
  obtain ⟨⟨q0, q1, q2⟩, _⟩ := poly3 hst.part.out
  obtain ⟨a0, a1, a2, a3, a4⟩ := hst.part.finish p d
  have A0 := Lib.hid a0
  have A1 := Lib.hid a1
  have A2 := Lib.hid a2
  have A3 := Lib.hid a3
  have A4 := Lib.hid a4
  have ro : ∀ o, ((w1.alloc o).cell? ⟨w.heap.size + 2, 0, none⟩ = some (.int .i64 0) ∧ (w1.alloc o).cell? ⟨w.heap.size + 2, 1, none⟩ = some (.int .i64 0) ∧ (w1.alloc o).cell? ⟨w.heap.size + 2, 2, none⟩ = some (.slice none 0 0)) ∧ (w1.alloc o).frozen? ⟨w.heap.size + 2, 0, none⟩ = false ∧ (w1.alloc o).frozen? ⟨w.heap.size + 2, 1, none⟩ = false ∧ (w1.alloc o).frozen? ⟨w.heap.size + 2, 2, none⟩ = false := fun o => poly3 (rowIs_below rr1 (box1 _ o) rr1.lt)
  clear a0 a1 a2 a3 a4 rx ry rr rq hown hst rx1 ry1 rr1
  by_cases hx : xs = []
  · subst hx
    have hz : (([] : List Tm).length : Int) = 0 := rfl
    go_wp2_with fail
    rw [← hV1]
    exact bodyPost_ret (v := .tuple #[.agg #[.int .i64 p, .int .i64 d, .slice (some ⟨W.heap.size + 1, 0, none⟩) 0 0], .bool true]) (by simp [results, Try.results56, go_sem, A0.out, A1.out, A2.out]) rfl ⟨_, rfl, A3.out, A4.out⟩
  · have hy : ys = [] := by rcases h0 with h | h; exact absurd h hx; exact h
    subst hy
    have hz : ((xs.length : Int) == 0) = false := by simpa using hx
    have hz' : (([] : List Tm).length : Int) = 0 := rfl
    go_wp2_with fail
    rw [← hV1]
    exact bodyPost_ret (v := .tuple #[.agg #[.int .i64 p, .int .i64 d, .slice (some ⟨W.heap.size + 1, 0, none⟩) 0 0], .bool true]) (by simp [results, Try.results56, go_sem, A0.out, A1.out, A2.out]) rfl ⟨_, rfl, A3.out, A4.out⟩
end Go.Proofs.Ytphgpadpffigjaa
namespace Go.Proofs.Ytphgpadpffigjaa
open Go.RowKit Go.Sort Go.Maps

def tmF (x y z u : Int) (i : Nat) : Value := #[Value.int .u8 x, .int .u8 y, .int .u8 z, .int .i64 u].getD i undef

theorem trow (w : World) (x y z u : Int) : (w.alloc (.cells #[.int .u8 x, .int .u8 y, .int .u8 z, .int .i64 u] 92)).rowIs w.heap.size 92 4 (tmF x y z u) :=
  World.rowIs_alloc w #[Value.int .u8 x, .int .u8 y, .int .u8 z, .int .i64 u] _ _ (fun i hi => by simp at hi; match i, hi with | 0, _ => rfl | 1, _ => rfl | 2, _ => rfl | 3, _ => rfl)
theorem trow1 (w : World) (o : Obj) (x y z u : Int) : ((w.alloc o).alloc (.cells #[.int .u8 x, .int .u8 y, .int .u8 z, .int .i64 u] 92)).rowIs (w.heap.size + 1) 92 4 (tmF x y z u) := by
  have := trow (w.alloc o) x y z u
  rwa [World.size_alloc] at this

set_option maxRecDepth 8000 in
set_option maxHeartbeats 16000000 in
theorem specTimes_some (p d : Int) (v v' : Value) (xs ys : List Tm) (w : World) (hS : SliceT w v xs) (hS' : SliceT w v' ys) (hV : Valid p d xs) (hV' : Valid p d ys) (hx0 : xs ≠ []) (hy0 : ys ≠ []) (hd : degI xs + degI ys ≤ 12) :
    Calls Try.prog 56 #[.agg #[.int .i64 p, .int .i64 d, v], .agg #[.int .i64 p, .int .i64 d, v']] w fun e w' =>
      ∃ v' L, e = .returned (.tuple #[.agg #[.int .i64 p, .int .i64 d, v'], .bool true]) ∧ OwnP w' w.heap.size v' L ∧ IsP p L (mulF p xs ys) ∧ Below w.heap.size w w' := by
  have hfit : Fits xs ys := fits_of hV hV' (.inr (.inr hd))
  have hp2 := hV.p2
  have hp13 := hV.p13
  have hlx := hV.isP.len
  have hly := hV'.isP.len
  have hbx := hV.byte
  have hby := hV'.byte
  obtain ⟨dx1, dx2⟩ := deg_bound hV
  obtain ⟨dy1, dy2⟩ := deg_bound hV'
  obtain ⟨a, cap, rfl, _⟩ := id hS
  obtain ⟨a', cap', rfl, _⟩ := id hS'
  obtain ⟨W, hW, hbW, ⟨hWs1, hWs2⟩, rx, ry, rr⟩ := pair3 w p d (.slice a xs.length cap) p d (.slice a' ys.length cap')
  obtain ⟨⟨c0, c1, c2⟩, _⟩ := poly3 rx
  go_enter Try.func56, Try.ntmps56
  go_wp2_with fail
  rw [← hW]
  clear hW c0 c1 c2
  ((with_reducible refine (empty_any p d W).mono ?_); rintro e w1 ⟨rfl, hown, hb1⟩)
  obtain ⟨V, hV1, hbV, ⟨hVs1, hVs2⟩, rq⟩ : ∃ V, V = w1.alloc (.cells #[.int .i64 p, .int .i64 d, .slice (some ⟨W.heap.size + 1, 0, none⟩) 0 0] 36) ∧ Below w1.heap.size w1 V ∧ (V.heap.size ≤ w1.heap.size + 1 ∧ w1.heap.size + 1 ≤ V.heap.size) ∧
      V.rowIs w1.heap.size 36 3 (polyF p d (.slice (some ⟨W.heap.size + 1, 0, none⟩) 0 0)) := by
    refine ⟨_, rfl, box1 _ _, ⟨by simp, by simp⟩, ?_⟩
    exact World.rowIs_alloc w1 #[Value.int .i64 p, .int .i64 d, .slice (some ⟨W.heap.size + 1, 0, none⟩) 0 0] _ _ (fun i hi => by simp at hi; match i, hi with | 0, _ => rfl | 1, _ => rfl | 2, _ => rfl)
  have s1 := hb1.size
  have hbWV := hb1.trans (hbV.mono hb1.size)
  have hst : Part2 w V W.heap.size w1.heap.size w.heap.size (w.heap.size + 1) (w.heap.size + 2) p d p d (.slice a xs.length cap) (.slice a' ys.length cap') (.slice (some ⟨W.heap.size + 1, 0, none⟩) 0 0) [] :=
    ⟨⟨owns_belowT hown hbV, rq, rowIs_below rx hbWV rx.lt, rowIs_below rr hbWV rr.lt, hbW.trans (hbWV.mono hbW.size), by omega, by omega, by omega, by omega, by omega, by omega⟩, rowIs_below ry hbWV ry.lt, by omega⟩
  have rx1 := rowIs_below rx hb1 rx.lt
  have ry1 := rowIs_below ry hb1 ry.lt
  have xo : ∀ o, (w1.alloc o).cell? ⟨w.heap.size, 2, none⟩ = some (.slice a xs.length cap) := fun o => ((box1 w1 o).cell rx1.lt).trans (poly3 rx1).1.2.2
  have yo : ∀ o, (w1.alloc o).cell? ⟨w.heap.size + 1, 2, none⟩ = some (.slice a' ys.length cap') := fun o => ((box1 w1 o).cell ry1.lt).trans (poly3 ry1).1.2.2
  have hz : ((xs.length : Int) == 0) = false := by simpa using hx0
  have hz' : ((ys.length : Int) == 0) = false := by simpa using hy0
  have hSV := hS.below hst.part.below
  have hSV' := hS'.below hst.part.below
  obtain ⟨⟨c0, c1, c2⟩, _⟩ := poly3 hst.part.arg
  obtain ⟨⟨d0, d1, d2⟩, _⟩ := poly3 hst.arg2
  have u0 := cell_regrown c0
  have u1 := cell_regrown c1
  have u2 := cell_regrown c2
  have t0 := cell_regrown d0
  have t1 := cell_regrown d1
  have t2 := cell_regrown d2
  have hw : IntKind.i64.wrap (degI xs + degI ys) = degI xs + degI ys := IntWalk.i64_in _ (by omega)
  have kx : ∀ dd os, Calls Try.prog 43 #[.agg #[.int .i64 p, .int .i64 d, .slice a xs.length cap]] (grow (redrawn V dd) os) fun e w'' => e = .returned (.int .i64 (degI xs)) ∧ ∃ p : Regrown, w'' = grow (redrawn V p.d) p.os := fun dd os =>
    Calls.regrown_of (specDegree_any p d _ xs _ (by omega) (hSV.below (below_regrown V dd os)) hbx)
  have ky : ∀ dd os, Calls Try.prog 43 #[.agg #[.int .i64 p, .int .i64 d, .slice a' ys.length cap']] (grow (redrawn V dd) os) fun e w'' => e = .returned (.int .i64 (degI ys)) ∧ ∃ p : Regrown, w'' = grow (redrawn V p.d) p.os := fun dd os =>
    Calls.regrown_of (specDegree_any p d _ ys _ (by omega) (hSV'.below (below_regrown V dd os)) hby)
  generalize degI xs = gx at *
  generalize degI ys = gy at *
  have hle : ¬ 12 < gx + gy := by omega
  have hle2 : decide (12 < gx + gy) = false := by simpa using hle
  clear rx ry rr rq hown rx1 ry1 hbx hby hSV hSV'
  go_wp2_with fail
  rw [← hV1]
  clear hV1 xo yo
  refine wp_region_quiet_below (by kernel_rfl) (by kernel_rfl) ?_
  repeat (go_big_quiet_step (first | with_reducible exact kx _ _ | with_reducible exact ky _ _))
  refine wpQuiet_nil ?_
  intro _ hw'
  obtain ⟨⟨dq, osq⟩, hw''⟩ := hw'
  subst hw''
  have hst2 := hst.later (below_regrown V dq osq)
  clear hst kx ky u0 u1 u2 t0 t1 t2 c0 c1 c2 d0 d1 d2
  generalize grow (redrawn V dq) osq = V2 at *
  try simp only [hw]
  go_wp2_with fail
  go_loopw [7] (fun j wr => ∃ (i : Nat) (sv : Value) (O : List Tm), i ≤ xs.length ∧ j = .int .i64 i ∧ Hid (IsP p O (mulF p (xs.take i) ys)) ∧ Part2 w wr W.heap.size w1.heap.size w.heap.size (w.heap.size + 1) (w.heap.size + 2) p d p d (.slice a xs.length cap) (.slice a' ys.length cap') sv O) (fun j _ => xs.length - (intOf j).toNat)
  case atStart => exact ⟨0, _, [], by omega, rfl, Lib.hid ((IsP.nil p).congr fun e _ => by simp [mulF_nil]), hst2⟩
  case round =>
    clear hst2
    obtain ⟨i, sv, O, hi, rfl, HO, hB⟩ := hrel
    obtain ⟨wo, rfl⟩ : ∃ wo : World, wo = wr := ⟨_, rfl⟩
    obtain ⟨⟨x0, x1, x2⟩, _⟩ := poly3 hB.part.arg
    by_cases hlt1 : i < xs.length
    · have hlt' : (i : Int) < (xs.length : Int) := by omega
      go_wp2_with fail
      go_loopw [8] (fun j wr => ∃ (k : Nat) (sv : Value) (O : List Tm), k ≤ ys.length ∧ j = .int .i64 k ∧ Hid (IsP p O (prt p xs ys i xs[i] k)) ∧ Part2 w wr W.heap.size w1.heap.size w.heap.size (w.heap.size + 1) (w.heap.size + 2) p d p d (.slice a xs.length cap) (.slice a' ys.length cap') sv O) (fun j _ => ys.length - (intOf j).toNat)
      case atStart => exact ⟨0, _, _, by omega, rfl, Lib.hid (HO.out.congr fun e _ => (prt_zero p xs ys i xs[i] e).symm), hB⟩
      case round =>
        clear hB HO x0 x1 x2
        obtain ⟨k, sv, O, hk, rfl, HO, hB⟩ := hrel
        have hSr := hS.below hB.part.below
        have hSr' := hS'.below hB.part.below
        obtain ⟨sa, sc, rfl⟩ := owns_slice hB.part.rows
        obtain ⟨⟨x0, x1, x2⟩, _⟩ := poly3 hB.part.arg
        obtain ⟨⟨y0, y1, y2⟩, _⟩ := poly3 hB.arg2
        obtain ⟨⟨q0, q1, q2⟩, z0, z1, z2⟩ := poly3 hB.part.out
        by_cases hlt2 : k < ys.length
        · have hlt2' : (k : Int) < (ys.length : Int) := by omega
          obtain ⟨A1, cap1, hv1, hcase1⟩ := hSr
          simp at hv1
          obtain ⟨rfl, rfl⟩ := hv1
          rcases hcase1 with h0 | ⟨b1, off1, rfl, hltb1, hTx⟩
          · rw [h0] at hlt1; exact absurd hlt1 (by simp)
          obtain ⟨A2, cap2, hv2, hcase2⟩ := hSr'
          simp at hv2
          obtain ⟨rfl, rfl⟩ := hv2
          rcases hcase2 with h0 | ⟨b2, off2, rfl, hltb2, hTy⟩
          · rw [h0] at hlt2; exact absurd hlt2 (by simp)
          obtain ⟨c0, c1, c2, c3⟩ := hTx i hlt1
          obtain ⟨d0, d1, d2, d3⟩ := hTy k hlt2
          obtain ⟨⟨⟨bx, by1, bz⟩, hs12⟩, bv1, bv2⟩ := hV.mem xs[i] (List.getElem_mem _)
          obtain ⟨⟨⟨bx', by1', bz'⟩, hs12'⟩, bv1', bv2'⟩ := hV'.mem ys[k] (List.getElem_mem _)
          have hft := hfit xs[i] (List.getElem_mem _) ys[k] (List.getElem_mem _)
          have hE : mono12 (addE (tmE xs[i]) (tmE ys[k])) := addE_mono ⟨bx, by1, bz⟩ ⟨bx', by1', bz'⟩ hft
          have HP : Hid (IsP p (putL p O (addE (tmE xs[i]) (tmE ys[k])) (xs[i].2.2.2 * ys[k].2.2.2)) (prt p xs ys i xs[i] (k + 1))) := Lib.hid ((HO.out.put hp2 hE (xs[i].2.2.2 * ys[k].2.2.2)).congr fun e _ => (prt_step p xs ys i xs[i] k hlt2 e).symm)
          have HO' := Lib.hid HO.out
          clear HO
          generalize hF : prt p xs ys i xs[i] k = F at HO'
          generalize hF' : prt p xs ys i xs[i] (k + 1) = F' at HP ⊢
          simp only [tmE] at bx by1 bz bx' by1' bz'
          simp only [addE, tmE] at HP hE
          clear hF
          generalize hx : xs[i].1 = x at bx by1 bz c0 hft HP hE
          generalize hy : xs[i].2.1 = y at bx by1 bz c1 hft HP hE
          generalize hz2 : xs[i].2.2.1 = z at bx by1 bz c2 hft HP hE
          generalize hv : xs[i].2.2.2 = u at bv1 bv2 c3 HP
          generalize hx' : ys[k].1 = x' at bx' by1' bz' d0 hft HP hE
          generalize hy' : ys[k].2.1 = y' at bx' by1' bz' d1 hft HP hE
          generalize hz' : ys[k].2.2.1 = z' at bx' by1' bz' d2 hft HP hE
          generalize hv' : ys[k].2.2.2 = u' at bv1' bv2' d3 HP
          have hE1 : byte3 (x + x', y + y', z + z') := (show mono12 (x + x', y + y', z + z') from hE).1
          clear hE hx hy hz2 hv hx' hy' hz' hv' hTx hTy hs12 hs12'
          have g1 : 0 ≤ u * u' := Int.mul_nonneg (by omega) (by omega)
          have g2 : u * u' ≤ 13 * 13 := Int.mul_le_mul (by omega) (by omega) (by omega) (by omega)
          have w0 : IntKind.i64.wrap (u * u') = u * u' := IntWalk.i64_in _ (by omega)
          have w1' : IntKind.u8.wrap (x + x') = x + x' := IntWalk.u8_in _ (by omega)
          have w2' : IntKind.u8.wrap (y + y') = y + y' := IntWalk.u8_in _ (by omega)
          have w3' : IntKind.u8.wrap (z + z') = z + z' := IntWalk.u8_in _ (by omega)
          have hla := hB.part.arg.lt
          have hla' := hB.arg2.lt
          have KK := Lib.hid (fun w' (h : Below wr.heap.size wr w') => show ((w'.cell? ⟨w.heap.size, 2, none⟩ = some (.slice (some ⟨b1, off1, none⟩) xs.length cap) ∧ w'.cell? ⟨w.heap.size + 1, 2, none⟩ = some (.slice (some ⟨b2, off2, none⟩) ys.length cap')) ∧ (w'.cell? ⟨b1, off1 + i * 4, none⟩ = some (.int .u8 x) ∧ w'.cell? ⟨b1, off1 + i * 4 + 1, none⟩ = some (.int .u8 y) ∧ w'.cell? ⟨b1, off1 + i * 4 + 2, none⟩ = some (.int .u8 z) ∧ w'.cell? ⟨b1, off1 + i * 4 + 3, none⟩ = some (.int .i64 u)) ∧ (w'.cell? ⟨b2, off2 + k * 4, none⟩ = some (.int .u8 x') ∧ w'.cell? ⟨b2, off2 + k * 4 + 1, none⟩ = some (.int .u8 y') ∧ w'.cell? ⟨b2, off2 + k * 4 + 2, none⟩ = some (.int .u8 z') ∧ w'.cell? ⟨b2, off2 + k * 4 + 3, none⟩ = some (.int .i64 u'))) from
            ⟨⟨(h.cell (p := ⟨_, _, none⟩) hla).trans x2, (h.cell (p := ⟨_, _, none⟩) hla').trans y2⟩,
              ⟨(h.cell (p := ⟨_, _, none⟩) hltb1).trans c0, (h.cell (p := ⟨_, _, none⟩) hltb1).trans c1, (h.cell (p := ⟨_, _, none⟩) hltb1).trans c2, (h.cell (p := ⟨_, _, none⟩) hltb1).trans c3⟩,
              ⟨(h.cell (p := ⟨_, _, none⟩) hltb2).trans d0, (h.cell (p := ⟨_, _, none⟩) hltb2).trans d1, (h.cell (p := ⟨_, _, none⟩) hltb2).trans d2, (h.cell (p := ⟨_, _, none⟩) hltb2).trans d3⟩⟩)
          go_upto_region 12 with fail
          go_cut [9, 10] (fun s9 s10 wx => ∃ ba bb, s9 = .pointer (some ⟨ba, 0, none⟩) ∧ s10 = .pointer (some ⟨bb, 0, none⟩) ∧ wx.rowIs ba 92 4 (tmF x y z u) ∧ wx.rowIs bb 92 4 (tmF x' y' z' u') ∧ Below wr.heap.size wr wx)
          case first =>
            go_region_held3 (fun w' => ((w'.cell? ⟨w.heap.size, 2, none⟩ = some (.slice (some ⟨b1, off1, none⟩) xs.length cap) ∧ w'.cell? ⟨w.heap.size + 1, 2, none⟩ = some (.slice (some ⟨b2, off2, none⟩) ys.length cap')) ∧ (w'.cell? ⟨b1, off1 + i * 4, none⟩ = some (.int .u8 x) ∧ w'.cell? ⟨b1, off1 + i * 4 + 1, none⟩ = some (.int .u8 y) ∧ w'.cell? ⟨b1, off1 + i * 4 + 2, none⟩ = some (.int .u8 z) ∧ w'.cell? ⟨b1, off1 + i * 4 + 3, none⟩ = some (.int .i64 u)) ∧ (w'.cell? ⟨b2, off2 + k * 4, none⟩ = some (.int .u8 x') ∧ w'.cell? ⟨b2, off2 + k * 4 + 1, none⟩ = some (.int .u8 y') ∧ w'.cell? ⟨b2, off2 + k * 4 + 2, none⟩ = some (.int .u8 z') ∧ w'.cell? ⟨b2, off2 + k * 4 + 3, none⟩ = some (.int .i64 u'))))
              (first | with_reducible exact KK.out _ (Below.same _).drew | with_reducible exact KK.out _ (box1 _ _) | with_reducible exact KK.out _ (box1 _ _).drew | with_reducible exact KK.out _ (box2 _ _ _) | with_reducible exact KK.out _ (box2 _ _ _).drew)
              (fail)
            all_goals
              go_wp2_with fail
              go_meet
              first
                | exact ⟨wr.heap.size, wr.heap.size + 1, rfl, rfl, (trow wr x y z u).alloc _, trow1 wr _ x' y' z' u', (box2 _ _ _).drew⟩
                | exact ⟨wr.heap.size + 1, wr.heap.size, rfl, rfl, trow1 wr _ x y z u, (trow wr x' y' z' u').alloc _, (box2 _ _ _).drew⟩
          case rest =>
            obtain ⟨ba, bb, rfl, rfl, ra, rb, hbx⟩ := hcut
            have hBU := hB.later hbx
            obtain ⟨⟨q0, q1, q2⟩, _⟩ := poly3 hBU.part.out
            have m0 := ra.cell (i := 0) (by omega)
            have m1 := ra.cell (i := 1) (by omega)
            have m2 := ra.cell (i := 2) (by omega)
            have m3 := ra.cell (i := 3) (by omega)
            have n0 := rb.cell (i := 0) (by omega)
            have n1 := rb.cell (i := 1) (by omega)
            have n2 := rb.cell (i := 2) (by omega)
            have n3 := rb.cell (i := 3) (by omega)
            simp [tmF] at m0 m1 m2 m3 n0 n1 n2 n3
            go_wp2_with fail
            ((with_reducible refine (specPut p d _ O F _ _ _ _ _ (OwnP.slice hBU.part.rows) HO'.out hp2 hp13 hE1 g1 (by omega)).mono ?_); rintro e w2 ⟨v2, rfl, ho2, hb2⟩)
            obtain ⟨sa2, sc2, rfl⟩ := owns_slice ho2
            have hU2 := hBU.later hb2
            have hB3 := hBU.put hb2 ho2 hBU.part.b2
            obtain ⟨⟨j0, j1, j2⟩, jz0, jz1, jz2⟩ := poly3 hU2.part.out
            clear ho2 hBU hB HO' KK q0 q1 q2 z0 z1 z2 c0 c1 c2 c3 d0 d1 d2 d3 x0 x1 x2 y0 y1 y2 m0 m1 m2 m3 n0 n1 n2 n3 ra rb
            go_wp2_with fail
            go_roundw
            case rel => exact ⟨k + 1, _, _, by omega, by go_num, by rw [hF']; exact HP, hB3⟩
            case measure => simp [intOf]; omega
        · obtain rfl : k = ys.length := by omega
          have HO2 : Hid (IsP p O (mulF p (xs.take (i + 1)) ys)) := Lib.hid (HO.out.congr fun e _ => prt_full p xs ys i hlt1 e)
          clear hSr hSr' HO
          go_wp2_with fail
          go_roundw
          case rel => exact ⟨i + 1, _, _, by omega, by go_num, HO2, hB⟩
          case measure => simp [intOf]; omega
    · obtain rfl : i = xs.length := by omega
      obtain ⟨sa, sc, rfl⟩ := owns_slice hB.part.rows
      obtain ⟨⟨r0, r1, r2⟩, y0, y1, y2⟩ := poly3 hB.part.res
      obtain ⟨⟨q0, q1, q2⟩, _⟩ := poly3 hB.part.out
      have hD := HO.out
      rw [List.take_length] at hD
      have HD := Lib.hid hD
      obtain ⟨a0, a1, a2, a3, a4⟩ := hB.part.finish p d
      have A0 := Lib.hid a0
      have A1 := Lib.hid a1
      have A2 := Lib.hid a2
      have A3 := Lib.hid a3
      have A4 := Lib.hid a4
      clear HO hD a0 a1 a2 a3 a4 hB
      go_wp2_with fail
      exact bodyPost_ret (v := .tuple #[.agg #[.int .i64 p, .int .i64 d, .slice sa O.length sc], .bool true]) (by simp [results, Try.results56, go_sem, A0.out, A1.out, A2.out]) rfl ⟨_, O, rfl, A3.out, HD.out, A4.out⟩
end Go.Proofs.Ytphgpadpffigjaa
namespace Go.Proofs.Ytphgpadpffigjaa
open Go.RowKit Go.Sort Go.Maps

set_option maxRecDepth 8000 in
set_option maxHeartbeats 16000000 in
theorem specTimes_big (p d : Int) (v v' : Value) (xs ys : List Tm) (w : World) (hS : SliceT w v xs) (hS' : SliceT w v' ys) (hV : Valid p d xs) (hV' : Valid p d ys) (hx0 : xs ≠ []) (hy0 : ys ≠ []) (hd : 12 < degI xs + degI ys) :
    Calls Try.prog 56 #[.agg #[.int .i64 p, .int .i64 d, v], .agg #[.int .i64 p, .int .i64 d, v']] w fun e w' =>
      ∃ v', e = .returned (.tuple #[.agg #[.int .i64 p, .int .i64 d, v'], .bool false]) ∧ OwnP w' w.heap.size v' [] ∧ Below w.heap.size w w' := by
  have hlx := hV.isP.len
  have hly := hV'.isP.len
  have hbx := hV.byte
  have hby := hV'.byte
  obtain ⟨dx1, dx2⟩ := deg_bound hV
  obtain ⟨dy1, dy2⟩ := deg_bound hV'
  obtain ⟨a, cap, rfl, _⟩ := id hS
  obtain ⟨a', cap', rfl, _⟩ := id hS'
  obtain ⟨W, hW, hbW, ⟨hWs1, hWs2⟩, rx, ry, rr⟩ := pair3 w p d (.slice a xs.length cap) p d (.slice a' ys.length cap')
  obtain ⟨⟨c0, c1, c2⟩, _⟩ := poly3 rx
  go_enter Try.func56, Try.ntmps56
  go_wp2_with fail
  rw [← hW]
  clear hW c0 c1 c2
  ((with_reducible refine (empty_any p d W).mono ?_); rintro e w1 ⟨rfl, hown, hb1⟩)
  obtain ⟨V, hV1, hbV, ⟨hVs1, hVs2⟩, rq⟩ : ∃ V, V = w1.alloc (.cells #[.int .i64 p, .int .i64 d, .slice (some ⟨W.heap.size + 1, 0, none⟩) 0 0] 36) ∧ Below w1.heap.size w1 V ∧ (V.heap.size ≤ w1.heap.size + 1 ∧ w1.heap.size + 1 ≤ V.heap.size) ∧
      V.rowIs w1.heap.size 36 3 (polyF p d (.slice (some ⟨W.heap.size + 1, 0, none⟩) 0 0)) := by
    refine ⟨_, rfl, box1 _ _, ⟨by simp, by simp⟩, ?_⟩
    exact World.rowIs_alloc w1 #[Value.int .i64 p, .int .i64 d, .slice (some ⟨W.heap.size + 1, 0, none⟩) 0 0] _ _ (fun i hi => by simp at hi; match i, hi with | 0, _ => rfl | 1, _ => rfl | 2, _ => rfl)
  have s1 := hb1.size
  have hbWV := hb1.trans (hbV.mono hb1.size)
  have hst : Part2 w V W.heap.size w1.heap.size w.heap.size (w.heap.size + 1) (w.heap.size + 2) p d p d (.slice a xs.length cap) (.slice a' ys.length cap') (.slice (some ⟨W.heap.size + 1, 0, none⟩) 0 0) [] :=
    ⟨⟨owns_belowT hown hbV, rq, rowIs_below rx hbWV rx.lt, rowIs_below rr hbWV rr.lt, hbW.trans (hbWV.mono hbW.size), by omega, by omega, by omega, by omega, by omega, by omega⟩, rowIs_below ry hbWV ry.lt, by omega⟩
  have rx1 := rowIs_below rx hb1 rx.lt
  have ry1 := rowIs_below ry hb1 ry.lt
  have xo : ∀ o, (w1.alloc o).cell? ⟨w.heap.size, 2, none⟩ = some (.slice a xs.length cap) := fun o => ((box1 w1 o).cell rx1.lt).trans (poly3 rx1).1.2.2
  have yo : ∀ o, (w1.alloc o).cell? ⟨w.heap.size + 1, 2, none⟩ = some (.slice a' ys.length cap') := fun o => ((box1 w1 o).cell ry1.lt).trans (poly3 ry1).1.2.2
  have hz : ((xs.length : Int) == 0) = false := by simpa using hx0
  have hz' : ((ys.length : Int) == 0) = false := by simpa using hy0
  have hSV := hS.below hst.part.below
  have hSV' := hS'.below hst.part.below
  obtain ⟨⟨c0, c1, c2⟩, _⟩ := poly3 hst.part.arg
  obtain ⟨⟨d0, d1, d2⟩, _⟩ := poly3 hst.arg2
  have u0 := cell_regrown c0
  have u1 := cell_regrown c1
  have u2 := cell_regrown c2
  have t0 := cell_regrown d0
  have t1 := cell_regrown d1
  have t2 := cell_regrown d2
  have hw : IntKind.i64.wrap (degI xs + degI ys) = degI xs + degI ys := IntWalk.i64_in _ (by omega)
  have kx : ∀ dd os, Calls Try.prog 43 #[.agg #[.int .i64 p, .int .i64 d, .slice a xs.length cap]] (grow (redrawn V dd) os) fun e w'' => e = .returned (.int .i64 (degI xs)) ∧ ∃ p : Regrown, w'' = grow (redrawn V p.d) p.os := fun dd os =>
    Calls.regrown_of (specDegree_any p d _ xs _ (by omega) (hSV.below (below_regrown V dd os)) hbx)
  have ky : ∀ dd os, Calls Try.prog 43 #[.agg #[.int .i64 p, .int .i64 d, .slice a' ys.length cap']] (grow (redrawn V dd) os) fun e w'' => e = .returned (.int .i64 (degI ys)) ∧ ∃ p : Regrown, w'' = grow (redrawn V p.d) p.os := fun dd os =>
    Calls.regrown_of (specDegree_any p d _ ys _ (by omega) (hSV'.below (below_regrown V dd os)) hby)
  generalize degI xs = gx at *
  generalize degI ys = gy at *
  have hle2 : decide (12 < gx + gy) = true := by simpa using hd
  clear rx ry rr rq hown rx1 ry1 hbx hby hSV hSV'
  go_wp2_with fail
  rw [← hV1]
  clear hV1 xo yo
  refine wp_region_quiet_below (by kernel_rfl) (by kernel_rfl) ?_
  repeat (go_big_quiet_step (first | with_reducible exact kx _ _ | with_reducible exact ky _ _))
  refine wpQuiet_nil ?_
  intro _ hw'
  obtain ⟨⟨dq, osq⟩, hw''⟩ := hw'
  subst hw''
  have hst2 := hst.later (below_regrown V dq osq)
  clear hst kx ky u0 u1 u2 t0 t1 t2 c0 c1 c2 d0 d1 d2
  generalize grow (redrawn V dq) osq = V2 at *
  try simp only [hw]
  obtain ⟨⟨q0, q1, q2⟩, _⟩ := poly3 hst2.part.out
  obtain ⟨⟨r0, r1, r2⟩, y0, y1, y2⟩ := poly3 hst2.part.res
  obtain ⟨a0, a1, a2, a3, a4⟩ := hst2.part.finish p d
  have A0 := Lib.hid a0
  have A1 := Lib.hid a1
  have A2 := Lib.hid a2
  have A3 := Lib.hid a3
  have A4 := Lib.hid a4
  clear a0 a1 a2 a3 a4 hst2
  go_wp2_with fail
  exact bodyPost_ret (v := .tuple #[.agg #[.int .i64 p, .int .i64 d, .slice (some ⟨W.heap.size + 1, 0, none⟩) 0 0], .bool false]) (by simp [results, Try.results56, go_sem, A0.out, A1.out, A2.out]) rfl ⟨_, rfl, A3.out, A4.out⟩

theorem specTimes_any (p d : Int) (v v' : Value) (xs ys : List Tm) (w : World) (hS : SliceT w v xs) (hS' : SliceT w v' ys) (hV : Valid p d xs) (hV' : Valid p d ys) (hd : xs = [] ∨ ys = [] ∨ degI xs + degI ys ≤ 12) :
    Calls Try.prog 56 #[.agg #[.int .i64 p, .int .i64 d, v], .agg #[.int .i64 p, .int .i64 d, v']] w fun e w' =>
      ∃ v' L, e = .returned (.tuple #[.agg #[.int .i64 p, .int .i64 d, v'], .bool true]) ∧ OwnP w' w.heap.size v' L ∧ IsP p L (mulF p xs ys) ∧ Below w.heap.size w w' := by
  have hlx := hV.isP.len
  have hly := hV'.isP.len
  by_cases hx : xs = []
  · refine (specTimes_nil p d v v' xs ys w hS hS' (by omega) (by omega) (.inl hx)).mono fun e w' ⟨v2, h1, h2, h3⟩ => ⟨v2, [], h1, h2, (IsP.nil p).congr fun e _ => ?_, h3⟩
    rw [hx, mulF_nil]
  by_cases hy : ys = []
  · refine (specTimes_nil p d v v' xs ys w hS hS' (by omega) (by omega) (.inr hy)).mono fun e w' ⟨v2, h1, h2, h3⟩ => ⟨v2, [], h1, h2, (IsP.nil p).congr fun e _ => ?_, h3⟩
    rw [hy, mulF, mulS_nil]
    simp
  · exact specTimes_some p d v v' xs ys w hS hS' hV hV' hx hy (by rcases hd with h | h | h; exact absurd h hx; exact absurd h hy; exact h)
end Go.Proofs.Ytphgpadpffigjaa
namespace Go.Proofs.Ytphgpadpffigjaa
open Go.RowKit Go.Sort Go.Maps

theorem IsP.one {p : Int} (hp : 2 ≤ p) {e : Int × Int × Int} (he : mono12 e) (v : Int) : IsP p (putL p [] e v) (fun a => if a = e then v % p else 0) :=
  ((IsP.nil p).put hp he v).congr fun a _ => by simp

set_option maxRecDepth 8000 in
set_option maxHeartbeats 4000000 in
theorem one_any (p d x y z val : Int) (w : World) (h2 : 2 ≤ p) (h13 : p ≤ 13) (he : byte3 (x, y, z)) (v0 : 0 ≤ val) (v1 : val ≤ 100000000) :
    Calls Try.prog 53 #[.int .i64 p, .int .i64 d, .agg #[.int .u8 x, .int .u8 y, .int .u8 z], .int .i64 val] w fun e w' =>
      ∃ v', e = .returned (.agg #[.int .i64 p, .int .i64 d, v']) ∧ OwnP w' w.heap.size v' (putL p [] (x, y, z) val) ∧ Below w.heap.size w w' := by
  obtain ⟨W, hW, hbW, ⟨hWs1, hWs2⟩, re, rr⟩ : ∃ W, W = (w.alloc (.cells #[.int .u8 x, .int .u8 y, .int .u8 z] 75)).alloc (.cells #[.int .i64 0, .int .i64 0, .slice none 0 0] 36) ∧ Below w.heap.size w W ∧ (W.heap.size ≤ w.heap.size + 2 ∧ w.heap.size + 2 ≤ W.heap.size) ∧
      W.rowIs w.heap.size 75 3 (expsF x y z) ∧ W.rowIs (w.heap.size + 1) 36 3 (polyF 0 0 (.slice none 0 0)) := by
    refine ⟨_, rfl, box2 _ _ _, ⟨by simp, by simp⟩, ?_, ?_⟩
    · refine World.rowIs.alloc (World.rowIs_alloc w #[Value.int .u8 x, .int .u8 y, .int .u8 z] _ _ (fun i hi => ?_)) _
      simp at hi; match i, hi with | 0, _ => rfl | 1, _ => rfl | 2, _ => rfl
    · have := World.rowIs_alloc (w.alloc (.cells #[.int .u8 x, .int .u8 y, .int .u8 z] 75)) #[Value.int .i64 0, .int .i64 0, .slice none 0 0] 36 (polyF 0 0 (.slice none 0 0)) (fun i hi => by simp at hi; match i, hi with | 0, _ => rfl | 1, _ => rfl | 2, _ => rfl)
      simpa using this
  have KK := Lib.hid (fun w' (h : Below W.heap.size W w') => show (w'.cell? ⟨w.heap.size, 0, none⟩ = some (.int .u8 x) ∧ w'.cell? ⟨w.heap.size, 1, none⟩ = some (.int .u8 y) ∧ w'.cell? ⟨w.heap.size, 2, none⟩ = some (.int .u8 z)) from
    ⟨(rowIs_below re h re.lt).cell (i := 0) (by omega), (rowIs_below re h re.lt).cell (i := 1) (by omega), (rowIs_below re h re.lt).cell (i := 2) (by omega)⟩)
  go_enter Try.func53, Try.ntmps53
  go_upto_region 1 with fail
  rw [← hW]
  clear hW
  obtain ⟨⟨r0, r1, r2⟩, y0, y1, y2⟩ := poly3 rr
  go_region_held3 (fun w' => (w'.cell? ⟨w.heap.size, 0, none⟩ = some (.int .u8 x) ∧ w'.cell? ⟨w.heap.size, 1, none⟩ = some (.int .u8 y) ∧ w'.cell? ⟨w.heap.size, 2, none⟩ = some (.int .u8 z)))
    (first | with_reducible exact KK.out _ (Below.same _).drew | with_reducible exact KK.out _ HB1 | with_reducible exact KK.out _ HB2 | go_keep)
    (first
    | (go_at_call 54; (with_reducible refine (empty_any p d _).mono ?_); rintro e w1 ⟨rfl, hown, hb1⟩; have HB1 : Below W.heap.size W w1 := (Below.same _).drew.trans hb1)
    | (go_at_call 55; (with_reducible refine (specPut p d _ [] (fun _ => 0) x y z val _ (OwnP.slice (S := []) hown) (IsP.nil p) h2 h13 he v0 v1).mono ?_); rintro e w2 ⟨v2, rfl, ho2, hb2⟩; have HB2 : Below W.heap.size W w2 := HB1.trans (hb2.mono HB1.size); have rr2 := rowIs_below rr HB2 rr.lt; obtain ⟨⟨e0, e1, e2⟩, f0, f1, f2⟩ := poly3 rr2; obtain ⟨sa2, sc2, rfl⟩ := owns_slice ho2; obtain ⟨a0, a1, a2, a3, a4⟩ := fill_box (w := w) rr2 (owns_low ho2 (Nat.le_trans hbW.size HB1.size)) (Nat.le_refl _) (hbW.trans (HB2.mono hbW.size)) (by omega) p d; have A0 := Lib.hid a0; have A1 := Lib.hid a1; have A2 := Lib.hid a2; obtain ⟨m0, m1, m2⟩ := KK.out _ HB2; have A3 := Lib.hid a3; have A4 := Lib.hid a4; clear a0 a1 a2 a3 a4))
  go_wp2_with fail
  exact bodyPost_ret (v := .agg #[.int .i64 p, .int .i64 d, .slice sa2 (putL p [] (x, y, z) val).length sc2]) (by simp [results, Try.results53, go_sem, A0.out, A1.out, A2.out]) rfl ⟨_, rfl, A3.out, A4.out⟩
end Go.Proofs.Ytphgpadpffigjaa
namespace Go.Proofs.Ytphgpadpffigjaa
open Go.RowKit Go.Sort Go.Maps

/-- L has the terms of the power k of the polynomial with the terms xs. -/
def PowL (p : Int) (xs : List Tm) : Nat → List Tm → Prop
  | 0, L => IsP p L (fun e => if e = (0, 0, 0) then 1 else 0)
  | k + 1, L => ∃ M, PowL p xs k M ∧ IsP p L (mulF p M xs)
theorem PowL.unique {p : Int} {xs : List Tm} : ∀ {k : Nat} {L L' : List Tm}, PowL p xs k L → PowL p xs k L' → L = L'
  | 0, _, _, h, h' => IsP.unique h h'
  | _ + 1, _, _, ⟨_, h1, h2⟩, ⟨_, h1', h2'⟩ => by
    obtain rfl := PowL.unique h1 h1'
    exact h2.unique h2'
theorem PowL.isP {p : Int} {xs L : List Tm} : ∀ {k : Nat}, PowL p xs k L → ∃ f, IsP p L f
  | 0, h => ⟨_, h⟩
  | _ + 1, ⟨_, _, h⟩ => ⟨_, h⟩
theorem Valid.of_isP {p d : Int} {xs L : List Tm} {f : Int × Int × Int → Int} (hV : Valid p d xs) (h : IsP p L f) : Valid p d L :=
  ⟨hV.p2, hV.p13, hV.d1, hV.d3, h.1, fun t ht => ⟨(h.2.1 t ht).1, (h.2.1 t ht).2⟩⟩
/-- No term of the power has a degree beyond the bound. -/
theorem PowL.deg {p d : Int} {xs : List Tm} (hV : Valid p d xs) : ∀ {k : Nat} {L : List Tm}, PowL p xs k L → ∀ t ∈ L, t.1 + t.2.1 + t.2.2.1 ≤ k * max (degI xs) 0
  | 0, L, h, t, ht => by
    have h1 := h.2.2 (tmE t) (h.2.1 t ht).1.1
    rw [atL_mem h.1 ht] at h1
    have h2 := (h.2.1 t ht).2.1
    by_cases hx : tmE t = (0, 0, 0)
    · simp [tmE] at hx
      obtain ⟨a, b, c⟩ := hx
      simp [a, b, c]
    · have h3 : t.2.2.2 = if tmE t = (0, 0, 0) then 1 else 0 := h1
      rw [if_neg hx] at h3
      omega
  | k + 1, L, ⟨M, h, h'⟩, t, ht => by
    have h1 := h'.2.2 (tmE t) (h'.2.1 t ht).1.1
    rw [atL_mem h'.1 ht] at h1
    have h2 := (h'.2.1 t ht).2.1
    have h3 : mulS M xs (tmE t) ≠ 0 := fun h0 => by
      rw [mulF, h0] at h1
      simp at h1
      omega
    obtain ⟨s, hs, u, hu, hx⟩ := mulS_ne h3
    have h4 := PowL.deg hV h s hs
    have h5 := deg_le hV u hu
    have h6 : degI xs ≤ max (degI xs) 0 := Int.le_max_left _ _
    have h7 : t.1 + t.2.1 + t.2.2.1 = (s.1 + s.2.1 + s.2.2.1) + (u.1 + u.2.1 + u.2.2.1) := by
      have := sum_addE (tmE s) (tmE u)
      rw [hx] at this
      exact this
    have h8 : ((k + 1 : Nat) : Int) * max (degI xs) 0 = k * max (degI xs) 0 + max (degI xs) 0 := by
      rw [Int.natCast_add, Int.add_mul]
      simp
    omega
theorem max_deg {p d : Int} {xs : List Tm} (hV : Valid p d xs) : 0 ≤ max (degI xs) 0 ∧ max (degI xs) 0 ≤ 12 := by
  obtain ⟨a, b⟩ := deg_bound hV
  omega
/-- The next product keeps the bound. -/
theorem PowL.fits {p d : Int} {xs M : List Tm} (hV : Valid p d xs) {j : Nat} (h : PowL p xs j M) {k : Int} (hj : (j : Int) + 1 ≤ k) (hk : k * max (degI xs) 0 ≤ 12) : M = [] ∨ xs = [] ∨ degI M + degI xs ≤ 12 := by
  by_cases hM : M = []
  · exact .inl hM
  by_cases hx : xs = []
  · exact .inr (.inl hx)
  refine .inr (.inr ?_)
  have h0 : degI M ≤ j * max (degI xs) 0 := by
    unfold degI
    cases hl : M.getLast? with
    | none => exact absurd (List.getLast?_eq_none_iff.1 hl) hM
    | some u => exact h.deg hV u (List.mem_of_getLast? hl)
  have h1 : degI xs ≤ max (degI xs) 0 := Int.le_max_left _ _
  have h2 : ((j : Int) + 1) * max (degI xs) 0 ≤ k * max (degI xs) 0 := Int.mul_le_mul_of_nonneg_right hj (max_deg hV).1
  rw [Int.add_mul] at h2
  simp at h2
  omega
theorem pow_ex {p d : Int} {xs : List Tm} (hV : Valid p d xs) {k : Int} (hk : k * max (degI xs) 0 ≤ 12) : ∀ j : Nat, (j : Int) ≤ k → ∃ L, PowL p xs j L
  | 0, _ => ⟨_, (IsP.one hV.p2 (e := (0, 0, 0)) ⟨by unfold byte3; simp, by simp⟩ 1).congr fun a _ => by
      have h1 : (1 : Int) % p = 1 := Int.emod_eq_of_lt (by omega) (by have := hV.p2; omega)
      rw [h1]⟩
  | j + 1, hj => by
    obtain ⟨M, hM⟩ := pow_ex hV hk j (by omega)
    obtain ⟨f, hf⟩ := hM.isP
    have hVM := hV.of_isP hf
    obtain ⟨L, hL⟩ := mul_ex hVM hV (fits_of hVM hV (hM.fits hV (by omega) hk))
    exact ⟨L, M, hM, hL⟩
end Go.Proofs.Ytphgpadpffigjaa
