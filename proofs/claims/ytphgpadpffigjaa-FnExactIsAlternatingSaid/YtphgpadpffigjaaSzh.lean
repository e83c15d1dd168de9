/-
  WALKS: 'spec.l08Exchange'. Conditions: as each theorem states.
  WALKS: 'spec.l01Scale', 'spec.l08Signed'. Conditions: as each theorem states.
-/
import Derived.Test.YtphgpadpffigjaaSzg
import Derived.Test.YtphgpadpffigjaaIsp
import Derived.Test.YtphgpadpffigjaaB
import Derived.IntWalk
import Derived.BigRegion
import Derived.Deep.DeepCutAuto
import Derived.Test.YtphgpadpffigjaaPl
import Derived.Test.YtphgpadpffigjaaFe
import Derived.Test.YtphgpadpffigjaaIns
import Derived.Deep.RegionHeld3
namespace Go.Proofs.Ytphgpadpffigjaa
open Go.RowKit Go.Sort

theorem swE_step {xs : List Tm} (h : Asc xs) (i k : Nat) (hk : k < xs.length) (e : Int × Int × Int) :
    atL (xs.take (k + 1)) (swE i e) = if e = swE i (tmE xs[k]) then xs[k].2.2.2 else atL (xs.take k) (swE i e) := by
  rw [atL_take h k hk]
  by_cases hx : e = swE i (tmE xs[k])
  · rw [if_pos hx, hx, swE_swE, if_pos rfl]
  · rw [if_neg hx, if_neg (fun hy => hx (by rw [hy, swE_swE]))]
theorem swE_mono (i : Nat) {e : Int × Int × Int} (h : mono12 e) : mono12 (swE i e) := by
  obtain ⟨⟨a, b, c⟩, s⟩ := h
  unfold swE
  split
  · exact ⟨⟨b, a, c⟩, by simp only []; omega⟩
  · exact ⟨⟨a, c, b⟩, by simp only []; omega⟩

def tmH (x y z u : Int) (i : Nat) : Value := #[Value.int .u8 x, .int .u8 y, .int .u8 z, .int .i64 u].getD i undef
theorem tmH_cells {w : World} {B : Nat} {x y z u : Int} (h : w.rowIs B 92 4 (tmH x y z u)) : w.cell? ⟨B, 0, none⟩ = some (.int .u8 x) ∧ w.cell? ⟨B, 1, none⟩ = some (.int .u8 y) ∧ w.cell? ⟨B, 2, none⟩ = some (.int .u8 z) ∧ w.cell? ⟨B, 3, none⟩ = some (.int .i64 u) :=
  ⟨h.cell (i := 0) (by omega), h.cell (i := 1) (by omega), h.cell (i := 2) (by omega), h.cell (i := 3) (by omega)⟩
theorem expsF_cells {w : World} {B : Nat} {x y z : Int} (h : w.rowIs B 75 3 (expsF x y z)) : w.cell? ⟨B, 0, none⟩ = some (.int .u8 x) ∧ w.cell? ⟨B, 1, none⟩ = some (.int .u8 y) ∧ w.cell? ⟨B, 2, none⟩ = some (.int .u8 z) :=
  ⟨h.cell (i := 0) (by omega), h.cell (i := 1) (by omega), h.cell (i := 2) (by omega)⟩
theorem two_rows (w : World) (x y z u : Int) : ((w.alloc (.cells #[.int .u8 x, .int .u8 y, .int .u8 z] 75)).alloc (.cells #[.int .u8 x, .int .u8 y, .int .u8 z, .int .i64 u] 92)).rowIs w.heap.size 75 3 (expsF x y z) ∧
    ((w.alloc (.cells #[.int .u8 x, .int .u8 y, .int .u8 z] 75)).alloc (.cells #[.int .u8 x, .int .u8 y, .int .u8 z, .int .i64 u] 92)).rowIs (w.heap.size + 1) 92 4 (tmH x y z u) ∧ Below w.heap.size w ((w.alloc (.cells #[.int .u8 x, .int .u8 y, .int .u8 z] 75)).alloc (.cells #[.int .u8 x, .int .u8 y, .int .u8 z, .int .i64 u] 92)) := by
  refine ⟨(World.rowIs_alloc w #[_, _, _] _ (expsF x y z) (fun i hi => by simp at hi; match i, hi with | 0, _ => rfl | 1, _ => rfl | 2, _ => rfl)).alloc _, ?_, box2 _ _ _⟩
  have := World.rowIs_alloc (w.alloc (.cells #[.int .u8 x, .int .u8 y, .int .u8 z] 75)) #[Value.int .u8 x, .int .u8 y, .int .u8 z, .int .i64 u] 92 (tmH x y z u) (fun i hi => by simp at hi; match i, hi with | 0, _ => rfl | 1, _ => rfl | 2, _ => rfl | 3, _ => rfl)
  simpa using this
theorem two_rows2 (w : World) (x y z u : Int) : ((w.alloc (.cells #[.int .u8 x, .int .u8 y, .int .u8 z, .int .i64 u] 92)).alloc (.cells #[.int .u8 x, .int .u8 y, .int .u8 z] 75)).rowIs (w.heap.size + 1) 75 3 (expsF x y z) ∧
    ((w.alloc (.cells #[.int .u8 x, .int .u8 y, .int .u8 z, .int .i64 u] 92)).alloc (.cells #[.int .u8 x, .int .u8 y, .int .u8 z] 75)).rowIs w.heap.size 92 4 (tmH x y z u) ∧ Below w.heap.size w ((w.alloc (.cells #[.int .u8 x, .int .u8 y, .int .u8 z, .int .i64 u] 92)).alloc (.cells #[.int .u8 x, .int .u8 y, .int .u8 z] 75)) := by
  refine ⟨?_, (World.rowIs_alloc w #[_, _, _, _] _ (tmH x y z u) (fun i hi => by simp at hi; match i, hi with | 0, _ => rfl | 1, _ => rfl | 2, _ => rfl | 3, _ => rfl)).alloc _, box2 _ _ _⟩
  have := World.rowIs_alloc (w.alloc (.cells #[.int .u8 x, .int .u8 y, .int .u8 z, .int .i64 u] 92)) #[Value.int .u8 x, .int .u8 y, .int .u8 z] 75 (expsF x y z) (fun i hi => by simp at hi; match i, hi with | 0, _ => rfl | 1, _ => rfl | 2, _ => rfl)
  simpa using this

set_option maxRecDepth 8000 in
set_option maxHeartbeats 8000000 in
theorem sexch0 (p d : Int) (v : Value) (ts : List Tm) (w : World) (hS : SliceT w v ts) (hV : Valid p d ts) :
    Calls Try.prog 104 #[.agg #[.int .i64 p, .int .i64 d, v], .int .i64 0, .int .i64 1] w fun e w' =>
      ∃ v' L, e = .returned (.agg #[.int .i64 p, .int .i64 d, v']) ∧ OwnP w' w.heap.size v' L ∧ IsP p L (fun e => atL ts (swE 0 e)) ∧ Below w.heap.size w w' := by
  have hp2 := hV.p2
  have hp13 := hV.p13
  have hl : ts.length ≤ 1048576 := Nat.le_trans hV.isP.len (by decide)
  obtain ⟨a, cap, rfl, _⟩ := id hS
  obtain ⟨W, hW, hbW, ⟨hWs1, hWs2⟩, rx, rr⟩ := boxes2 w p d (.slice a ts.length cap)
  obtain ⟨⟨c0, c1, c2⟩, _⟩ := poly3 rx
  go_enter Try.func104, Try.ntmps104
  go_wp2_with fail
  rw [← hW]
  clear hW c0 c1 c2
  ((with_reducible refine (empty_any p d W).mono ?_); rintro e w1 ⟨rfl, hown, hb1⟩)
  obtain ⟨V, hV1, hbV, ⟨hVs1, hVs2⟩, rq⟩ : ∃ V, V = w1.alloc (.cells #[.int .i64 p, .int .i64 d, .slice (some ⟨W.heap.size + 1, 0, none⟩) 0 0] 36) ∧ Below w1.heap.size w1 V ∧ (V.heap.size ≤ w1.heap.size + 1 ∧ w1.heap.size + 1 ≤ V.heap.size) ∧
      V.rowIs w1.heap.size 36 3 (polyF p d (.slice (some ⟨W.heap.size + 1, 0, none⟩) 0 0)) := by
    refine ⟨_, rfl, box1 _ _, ⟨by simp, by simp⟩, ?_⟩
    exact World.rowIs_alloc w1 #[Value.int .i64 p, .int .i64 d, .slice (some ⟨W.heap.size + 1, 0, none⟩) 0 0] _ _ (fun i hi => by simp at hi; match i, hi with | 0, _ => rfl | 1, _ => rfl | 2, _ => rfl)
  have s1 := hb1.size
  have hst : Part w V W.heap.size w1.heap.size w.heap.size (w.heap.size + 1) p d (.slice a ts.length cap) (.slice (some ⟨W.heap.size + 1, 0, none⟩) 0 0) [] := by
    have hbWV := hb1.trans (hbV.mono hb1.size)
    exact ⟨owns_belowT hown hbV, rq, rowIs_below rx hbWV rx.lt, rowIs_below rr hbWV rr.lt, hbW.trans (hbWV.mono hbW.size), by omega, by omega, by omega, by omega, by omega, by omega⟩
  go_wp2_with fail
  rw [← hV1]
  clear hV1 rx rr rq hown
  go_loopw [8] (fun j wr => ∃ (k : Nat) (sv : Value) (O : List Tm), k ≤ ts.length ∧ j = .int .i64 k ∧ Hid (IsP p O (fun e => atL (ts.take k) (swE 0 e))) ∧ Part w wr W.heap.size w1.heap.size w.heap.size (w.heap.size + 1) p d (.slice a ts.length cap) sv O) (fun j _ => ts.length - (intOf j).toNat)
  case atStart => exact ⟨0, _, [], by omega, rfl, Lib.hid ((IsP.nil p).congr fun e _ => by simp [atL]), hst⟩
  case round =>
    obtain ⟨k, sv, O, hk, rfl, HO, hB⟩ := hrel
    have hSr := hS.below hB.below
    obtain ⟨sa, sc, rfl⟩ := owns_slice hB.rows
    obtain ⟨⟨m0, m1, m2⟩, _⟩ := poly3 hB.arg
    by_cases hlt1 : k < ts.length
    · have hlt' : (k : Int) < (ts.length : Int) := by omega
      obtain ⟨a', cap', hv', hcase⟩ := hSr
      simp at hv'
      obtain ⟨rfl, rfl⟩ := hv'
      rcases hcase with h0 | ⟨b, off, rfl, hltb, hTr⟩
      · rw [h0] at hlt1; exact absurd hlt1 (by simp)
      obtain ⟨c0, c1, c2, c3⟩ := hTr k hlt1
      obtain ⟨⟨⟨bx, by1, bz⟩, hs12⟩, bv1, bv2⟩ := hV.mem ts[k] (List.getElem_mem _)
      have hd1 := Lib.hid (fun e => swE_step hV.asc 0 k hlt1 e)
      have hat := Lib.hid (atL_take_new hV.asc k hlt1)
      simp only [tmE] at bx by1 bz
      generalize hx : ts[k].1 = x at *
      generalize hy : ts[k].2.1 = y at *
      generalize hz : ts[k].2.2.1 = z at *
      generalize hv : ts[k].2.2.2 = v at *
      have htm : tmE ts[k] = (x, y, z) := by simp [tmE, hx, hy, hz]
      have hm12 : mono12 (x, y, z) := ⟨⟨bx, by1, bz⟩, hs12⟩
      have HEQ : Hid (IsP p (putL p O (swE 0 (x, y, z)) v) (fun e => atL (ts.take (k + 1)) (swE 0 e))) := Lib.hid ((HO.out.put hp2 (swE_mono 0 hm12) v).congr fun e _ => by
        rw [hd1.out e, htm]
        have h1 := hat.out
        rw [htm] at h1
        by_cases h2 : e = swE 0 (x, y, z)
        · rw [if_pos h2, if_pos h2, swE_swE, h1, Int.add_zero]
          exact Int.emod_eq_of_lt (by omega) (by omega)
        · rw [if_neg h2, if_neg h2])
      obtain ⟨⟨j0, j1, j2⟩, jz0, jz1, jz2⟩ := poly3 hB.out
      have hv0 : 0 ≤ v := by omega
      have hv1 : v ≤ 100000000 := by omega
      have mo : ∀ o, (wr.alloc o).cell? ⟨w.heap.size, 2, none⟩ = some (.slice (some ⟨b, off, none⟩) ts.length cap) := fun o => ((box1 wr o).cell hB.arg.lt).trans m2
      have mp : ∀ o o', ((wr.alloc o).alloc o').cell? ⟨w.heap.size, 2, none⟩ = some (.slice (some ⟨b, off, none⟩) ts.length cap) := fun o o' => ((box2 wr o o').cell hB.arg.lt).trans m2
      have e0 : ∀ o, (wr.alloc o).cell? ⟨b, off + k * 4, none⟩ = some (.int .u8 x) := fun o => ((box1 wr o).cell hltb).trans c0
      have e1 : ∀ o, (wr.alloc o).cell? ⟨b, off + k * 4 + 1, none⟩ = some (.int .u8 y) := fun o => ((box1 wr o).cell hltb).trans c1
      have e2 : ∀ o, (wr.alloc o).cell? ⟨b, off + k * 4 + 2, none⟩ = some (.int .u8 z) := fun o => ((box1 wr o).cell hltb).trans c2
      have e3 : ∀ o, (wr.alloc o).cell? ⟨b, off + k * 4 + 3, none⟩ = some (.int .i64 v) := fun o => ((box1 wr o).cell hltb).trans c3
      have f0 : ∀ o o', ((wr.alloc o).alloc o').cell? ⟨b, off + k * 4, none⟩ = some (.int .u8 x) := fun o o' => ((box2 wr o o').cell hltb).trans c0
      have f1 : ∀ o o', ((wr.alloc o).alloc o').cell? ⟨b, off + k * 4 + 1, none⟩ = some (.int .u8 y) := fun o o' => ((box2 wr o o').cell hltb).trans c1
      have f2 : ∀ o o', ((wr.alloc o).alloc o').cell? ⟨b, off + k * 4 + 2, none⟩ = some (.int .u8 z) := fun o o' => ((box2 wr o o').cell hltb).trans c2
      have f3 : ∀ o o', ((wr.alloc o).alloc o').cell? ⟨b, off + k * 4 + 3, none⟩ = some (.int .i64 v) := fun o o' => ((box2 wr o o').cell hltb).trans c3
      have HBB := Lib.hid hB
      clear htm hd1 hat hV hS hst hTr j0 j1 j2 jz0 jz1 jz2 hB
      go_upto_region 5 with fail
      go_cut [9, 10] (fun s9 s10 wx => ∃ g h : Nat, s9 = .pointer (some ⟨g, 0, none⟩) ∧ s10 = .pointer (some ⟨h, 0, none⟩) ∧ wr.heap.size ≤ g ∧ wr.heap.size ≤ h ∧ g ≠ h ∧ wx.rowIs g 75 3 (expsF x y z) ∧ wx.rowIs h 92 4 (tmH x y z v) ∧ Below wr.heap.size wr wx)
      case first =>
        go_region
        all_goals
          go_wp2_with fail
          go_meet
          first
            | exact ⟨_, _, rfl, rfl, Nat.le_refl _, Nat.le_succ _, by omega, (two_rows wr x y z v).1, (two_rows wr x y z v).2.1, (two_rows wr x y z v).2.2.drew⟩
            | exact ⟨_, _, rfl, rfl, Nat.le_succ _, Nat.le_refl _, by omega, (two_rows2 wr x y z v).1, (two_rows2 wr x y z v).2.1, (two_rows2 wr x y z v).2.2.drew⟩
      case rest =>
        clear mo mp e0 e1 e2 e3 f0 f1 f2 f3 c0 c1 c2 c3 m0 m1 m2
        obtain ⟨g, h, rfl, rfl, hg, hh, hgh, rg, rh, hbx⟩ := hcut
        obtain ⟨h0, h1, h2, h3⟩ := tmH_cells rh
        obtain ⟨g0, g1, g2⟩ := expsF_cells rg
        have z0 := rg.frozen 0
        have z1 := rg.frozen 1
        have z2 := rg.frozen 2
        have HR := Lib.hid (And.intro rg (And.intro rh hbx))
        clear rg rh hbx
        go_upto_region 7 with fail
        obtain ⟨U, hU, rU, rhU, hbU⟩ : ∃ U, U = wc.setCell ⟨g, 0, none⟩ (.int .u8 y) ∧ U.rowIs g 75 3 (expsF y y z) ∧ U.rowIs h 92 4 (tmH x y z v) ∧ Below wr.heap.size wr U :=
          ⟨_, rfl, (HR.out.1.set 0 (.int .u8 y)).congr (fun q hq => by match q, hq with | 0, _ => rfl | 1, _ => rfl | 2, _ => rfl), HR.out.2.1.setOther (by show h ≠ g; omega) _, HR.out.2.2.setCell (by show wr.heap.size ≤ g; exact hg) _⟩
        rw [← hU]
        clear hU h0 h1 h2 h3 g0 g1 g2 z0 z1 z2 HR
        obtain ⟨h0, h1, h2, h3⟩ := tmH_cells rhU
        obtain ⟨g0, g1, g2⟩ := expsF_cells rU
        have z1 := rU.frozen 1
        go_upto_region 8 with fail
        obtain ⟨U2, hU2, rU2, rhU2, hbU2⟩ : ∃ U2, U2 = U.setCell ⟨g, 1, none⟩ (.int .u8 x) ∧ U2.rowIs g 75 3 (expsF y x z) ∧ U2.rowIs h 92 4 (tmH x y z v) ∧ Below wr.heap.size wr U2 :=
          ⟨_, rfl, (rU.set 1 (.int .u8 x)).congr (fun q hq => by match q, hq with | 0, _ => rfl | 1, _ => rfl | 2, _ => rfl), rhU.setOther (by show h ≠ g; omega) _, hbU.setCell (by show wr.heap.size ≤ g; exact hg) _⟩
        rw [← hU2]
        clear hU2 h0 h1 h2 h3 g0 g1 g2 z1 rU rhU hbU
        obtain ⟨h0, h1, h2, h3⟩ := tmH_cells rhU2
        obtain ⟨g0, g1, g2⟩ := expsF_cells rU2
        have hBU := HBB.out.later hbU2
        obtain ⟨⟨j0, j1, j2⟩, _⟩ := poly3 hBU.out
        have hE : byte3 (y, x, z) := (swE_mono 0 hm12).1
        have HEQ2 : Hid (IsP p (putL p O (y, x, z) v) (fun e => atL (ts.take (k + 1)) (swE 0 e))) := HEQ
        go_wp2_with fail
        ((with_reducible refine (specPut p d _ O _ _ _ _ _ _ (OwnP.slice hBU.rows) HO.out hp2 hp13 hE hv0 hv1).mono ?_); rintro e w2 ⟨v2, rfl, ho2, hb2⟩)
        obtain ⟨sa2, sc2, rfl⟩ := owns_slice ho2
        have hU2 := hBU.later hb2
        have hB3 := hBU.put hb2 ho2 hBU.b2
        clear j0 j1 j2
        obtain ⟨⟨j0, j1, j2⟩, jz0, jz1, jz2⟩ := poly3 hU2.out
        clear ho2 hBU HO
        go_wp2_with fail
        go_roundw
        case rel => exact ⟨k + 1, _, _, by omega, by go_num, HEQ2, hB3⟩
        case measure => simp [intOf]; omega
    · obtain rfl : k = ts.length := by omega
      obtain ⟨⟨j0, j1, j2⟩, _⟩ := poly3 hB.out
      obtain ⟨⟨r0, r1, r2⟩, z0, z1, z2⟩ := poly3 hB.res
      have HL : Hid (IsP p O (fun e => atL ts (swE 0 e))) := Lib.hid (by have := HO.out; rwa [List.take_length] at this)
      clear hSr hst HO
      go_wp2_with fail
      obtain ⟨v0, v1, v2, v3, v4⟩ := hB.finish p d
      exact bodyPost_ret (v := .agg #[.int .i64 p, .int .i64 d, .slice sa O.length sc]) (by simp [results, Try.results104, go_sem, v0, v1, v2]) rfl ⟨_, O, rfl, v3, HL.out, v4⟩
set_option maxRecDepth 8000 in
set_option maxHeartbeats 8000000 in
theorem sexch1 (p d : Int) (v : Value) (ts : List Tm) (w : World) (hS : SliceT w v ts) (hV : Valid p d ts) :
    Calls Try.prog 104 #[.agg #[.int .i64 p, .int .i64 d, v], .int .i64 1, .int .i64 2] w fun e w' =>
      ∃ v' L, e = .returned (.agg #[.int .i64 p, .int .i64 d, v']) ∧ OwnP w' w.heap.size v' L ∧ IsP p L (fun e => atL ts (swE 1 e)) ∧ Below w.heap.size w w' := by
  have hp2 := hV.p2
  have hp13 := hV.p13
  have hl : ts.length ≤ 1048576 := Nat.le_trans hV.isP.len (by decide)
  obtain ⟨a, cap, rfl, _⟩ := id hS
  obtain ⟨W, hW, hbW, ⟨hWs1, hWs2⟩, rx, rr⟩ := boxes2 w p d (.slice a ts.length cap)
  obtain ⟨⟨c0, c1, c2⟩, _⟩ := poly3 rx
  go_enter Try.func104, Try.ntmps104
  go_wp2_with fail
  rw [← hW]
  clear hW c0 c1 c2
  ((with_reducible refine (empty_any p d W).mono ?_); rintro e w1 ⟨rfl, hown, hb1⟩)
  obtain ⟨V, hV1, hbV, ⟨hVs1, hVs2⟩, rq⟩ : ∃ V, V = w1.alloc (.cells #[.int .i64 p, .int .i64 d, .slice (some ⟨W.heap.size + 1, 0, none⟩) 0 0] 36) ∧ Below w1.heap.size w1 V ∧ (V.heap.size ≤ w1.heap.size + 1 ∧ w1.heap.size + 1 ≤ V.heap.size) ∧
      V.rowIs w1.heap.size 36 3 (polyF p d (.slice (some ⟨W.heap.size + 1, 0, none⟩) 0 0)) := by
    refine ⟨_, rfl, box1 _ _, ⟨by simp, by simp⟩, ?_⟩
    exact World.rowIs_alloc w1 #[Value.int .i64 p, .int .i64 d, .slice (some ⟨W.heap.size + 1, 0, none⟩) 0 0] _ _ (fun i hi => by simp at hi; match i, hi with | 0, _ => rfl | 1, _ => rfl | 2, _ => rfl)
  have s1 := hb1.size
  have hst : Part w V W.heap.size w1.heap.size w.heap.size (w.heap.size + 1) p d (.slice a ts.length cap) (.slice (some ⟨W.heap.size + 1, 0, none⟩) 0 0) [] := by
    have hbWV := hb1.trans (hbV.mono hb1.size)
    exact ⟨owns_belowT hown hbV, rq, rowIs_below rx hbWV rx.lt, rowIs_below rr hbWV rr.lt, hbW.trans (hbWV.mono hbW.size), by omega, by omega, by omega, by omega, by omega, by omega⟩
  go_wp2_with fail
  rw [← hV1]
  clear hV1 rx rr rq hown
  go_loopw [8] (fun j wr => ∃ (k : Nat) (sv : Value) (O : List Tm), k ≤ ts.length ∧ j = .int .i64 k ∧ Hid (IsP p O (fun e => atL (ts.take k) (swE 1 e))) ∧ Part w wr W.heap.size w1.heap.size w.heap.size (w.heap.size + 1) p d (.slice a ts.length cap) sv O) (fun j _ => ts.length - (intOf j).toNat)
  case atStart => exact ⟨0, _, [], by omega, rfl, Lib.hid ((IsP.nil p).congr fun e _ => by simp [atL]), hst⟩
  case round =>
    obtain ⟨k, sv, O, hk, rfl, HO, hB⟩ := hrel
    have hSr := hS.below hB.below
    obtain ⟨sa, sc, rfl⟩ := owns_slice hB.rows
    obtain ⟨⟨m0, m1, m2⟩, _⟩ := poly3 hB.arg
    by_cases hlt1 : k < ts.length
    · have hlt' : (k : Int) < (ts.length : Int) := by omega
      obtain ⟨a', cap', hv', hcase⟩ := hSr
      simp at hv'
      obtain ⟨rfl, rfl⟩ := hv'
      rcases hcase with h0 | ⟨b, off, rfl, hltb, hTr⟩
      · rw [h0] at hlt1; exact absurd hlt1 (by simp)
      obtain ⟨c0, c1, c2, c3⟩ := hTr k hlt1
      obtain ⟨⟨⟨bx, by1, bz⟩, hs12⟩, bv1, bv2⟩ := hV.mem ts[k] (List.getElem_mem _)
      have hd1 := Lib.hid (fun e => swE_step hV.asc 1 k hlt1 e)
      have hat := Lib.hid (atL_take_new hV.asc k hlt1)
      simp only [tmE] at bx by1 bz
      generalize hx : ts[k].1 = x at *
      generalize hy : ts[k].2.1 = y at *
      generalize hz : ts[k].2.2.1 = z at *
      generalize hv : ts[k].2.2.2 = v at *
      have htm : tmE ts[k] = (x, y, z) := by simp [tmE, hx, hy, hz]
      have hm12 : mono12 (x, y, z) := ⟨⟨bx, by1, bz⟩, hs12⟩
      have HEQ : Hid (IsP p (putL p O (swE 1 (x, y, z)) v) (fun e => atL (ts.take (k + 1)) (swE 1 e))) := Lib.hid ((HO.out.put hp2 (swE_mono 1 hm12) v).congr fun e _ => by
        rw [hd1.out e, htm]
        have h1 := hat.out
        rw [htm] at h1
        by_cases h2 : e = swE 1 (x, y, z)
        · rw [if_pos h2, if_pos h2, swE_swE, h1, Int.add_zero]
          exact Int.emod_eq_of_lt (by omega) (by omega)
        · rw [if_neg h2, if_neg h2])
      obtain ⟨⟨j0, j1, j2⟩, jz0, jz1, jz2⟩ := poly3 hB.out
      have hv0 : 0 ≤ v := by omega
      have hv1 : v ≤ 100000000 := by omega
      have mo : ∀ o, (wr.alloc o).cell? ⟨w.heap.size, 2, none⟩ = some (.slice (some ⟨b, off, none⟩) ts.length cap) := fun o => ((box1 wr o).cell hB.arg.lt).trans m2
      have mp : ∀ o o', ((wr.alloc o).alloc o').cell? ⟨w.heap.size, 2, none⟩ = some (.slice (some ⟨b, off, none⟩) ts.length cap) := fun o o' => ((box2 wr o o').cell hB.arg.lt).trans m2
      have e0 : ∀ o, (wr.alloc o).cell? ⟨b, off + k * 4, none⟩ = some (.int .u8 x) := fun o => ((box1 wr o).cell hltb).trans c0
      have e1 : ∀ o, (wr.alloc o).cell? ⟨b, off + k * 4 + 1, none⟩ = some (.int .u8 y) := fun o => ((box1 wr o).cell hltb).trans c1
      have e2 : ∀ o, (wr.alloc o).cell? ⟨b, off + k * 4 + 2, none⟩ = some (.int .u8 z) := fun o => ((box1 wr o).cell hltb).trans c2
      have e3 : ∀ o, (wr.alloc o).cell? ⟨b, off + k * 4 + 3, none⟩ = some (.int .i64 v) := fun o => ((box1 wr o).cell hltb).trans c3
      have f0 : ∀ o o', ((wr.alloc o).alloc o').cell? ⟨b, off + k * 4, none⟩ = some (.int .u8 x) := fun o o' => ((box2 wr o o').cell hltb).trans c0
      have f1 : ∀ o o', ((wr.alloc o).alloc o').cell? ⟨b, off + k * 4 + 1, none⟩ = some (.int .u8 y) := fun o o' => ((box2 wr o o').cell hltb).trans c1
      have f2 : ∀ o o', ((wr.alloc o).alloc o').cell? ⟨b, off + k * 4 + 2, none⟩ = some (.int .u8 z) := fun o o' => ((box2 wr o o').cell hltb).trans c2
      have f3 : ∀ o o', ((wr.alloc o).alloc o').cell? ⟨b, off + k * 4 + 3, none⟩ = some (.int .i64 v) := fun o o' => ((box2 wr o o').cell hltb).trans c3
      have HBB := Lib.hid hB
      clear htm hd1 hat hV hS hst hTr j0 j1 j2 jz0 jz1 jz2 hB
      go_upto_region 5 with fail
      go_cut [9, 10] (fun s9 s10 wx => ∃ g h : Nat, s9 = .pointer (some ⟨g, 0, none⟩) ∧ s10 = .pointer (some ⟨h, 0, none⟩) ∧ wr.heap.size ≤ g ∧ wr.heap.size ≤ h ∧ g ≠ h ∧ wx.rowIs g 75 3 (expsF x y z) ∧ wx.rowIs h 92 4 (tmH x y z v) ∧ Below wr.heap.size wr wx)
      case first =>
        go_region
        all_goals
          go_wp2_with fail
          go_meet
          first
            | exact ⟨_, _, rfl, rfl, Nat.le_refl _, Nat.le_succ _, by omega, (two_rows wr x y z v).1, (two_rows wr x y z v).2.1, (two_rows wr x y z v).2.2.drew⟩
            | exact ⟨_, _, rfl, rfl, Nat.le_succ _, Nat.le_refl _, by omega, (two_rows2 wr x y z v).1, (two_rows2 wr x y z v).2.1, (two_rows2 wr x y z v).2.2.drew⟩
      case rest =>
        clear mo mp e0 e1 e2 e3 f0 f1 f2 f3 c0 c1 c2 c3 m0 m1 m2
        obtain ⟨g, h, rfl, rfl, hg, hh, hgh, rg, rh, hbx⟩ := hcut
        obtain ⟨h0, h1, h2, h3⟩ := tmH_cells rh
        obtain ⟨g0, g1, g2⟩ := expsF_cells rg
        have z0 := rg.frozen 0
        have z1 := rg.frozen 1
        have z2 := rg.frozen 2
        have HR := Lib.hid (And.intro rg (And.intro rh hbx))
        clear rg rh hbx
        go_upto_region 7 with fail
        obtain ⟨U, hU, rU, rhU, hbU⟩ : ∃ U, U = wc.setCell ⟨g, 1, none⟩ (.int .u8 z) ∧ U.rowIs g 75 3 (expsF x z z) ∧ U.rowIs h 92 4 (tmH x y z v) ∧ Below wr.heap.size wr U :=
          ⟨_, rfl, (HR.out.1.set 1 (.int .u8 z)).congr (fun q hq => by match q, hq with | 0, _ => rfl | 1, _ => rfl | 2, _ => rfl), HR.out.2.1.setOther (by show h ≠ g; omega) _, HR.out.2.2.setCell (by show wr.heap.size ≤ g; exact hg) _⟩
        rw [← hU]
        clear hU h0 h1 h2 h3 g0 g1 g2 z0 z1 z2 HR
        obtain ⟨h0, h1, h2, h3⟩ := tmH_cells rhU
        obtain ⟨g0, g1, g2⟩ := expsF_cells rU
        have z1 := rU.frozen 2
        go_upto_region 8 with fail
        obtain ⟨U2, hU2, rU2, rhU2, hbU2⟩ : ∃ U2, U2 = U.setCell ⟨g, 2, none⟩ (.int .u8 y) ∧ U2.rowIs g 75 3 (expsF x z y) ∧ U2.rowIs h 92 4 (tmH x y z v) ∧ Below wr.heap.size wr U2 :=
          ⟨_, rfl, (rU.set 2 (.int .u8 y)).congr (fun q hq => by match q, hq with | 0, _ => rfl | 1, _ => rfl | 2, _ => rfl), rhU.setOther (by show h ≠ g; omega) _, hbU.setCell (by show wr.heap.size ≤ g; exact hg) _⟩
        rw [← hU2]
        clear hU2 h0 h1 h2 h3 g0 g1 g2 z1 rU rhU hbU
        obtain ⟨h0, h1, h2, h3⟩ := tmH_cells rhU2
        obtain ⟨g0, g1, g2⟩ := expsF_cells rU2
        have hBU := HBB.out.later hbU2
        obtain ⟨⟨j0, j1, j2⟩, _⟩ := poly3 hBU.out
        have hE : byte3 (x, z, y) := (swE_mono 1 hm12).1
        have HEQ2 : Hid (IsP p (putL p O (x, z, y) v) (fun e => atL (ts.take (k + 1)) (swE 1 e))) := HEQ
        go_wp2_with fail
        ((with_reducible refine (specPut p d _ O _ _ _ _ _ _ (OwnP.slice hBU.rows) HO.out hp2 hp13 hE hv0 hv1).mono ?_); rintro e w2 ⟨v2, rfl, ho2, hb2⟩)
        obtain ⟨sa2, sc2, rfl⟩ := owns_slice ho2
        have hU2 := hBU.later hb2
        have hB3 := hBU.put hb2 ho2 hBU.b2
        clear j0 j1 j2
        obtain ⟨⟨j0, j1, j2⟩, jz0, jz1, jz2⟩ := poly3 hU2.out
        clear ho2 hBU HO
        go_wp2_with fail
        go_roundw
        case rel => exact ⟨k + 1, _, _, by omega, by go_num, HEQ2, hB3⟩
        case measure => simp [intOf]; omega
    · obtain rfl : k = ts.length := by omega
      obtain ⟨⟨j0, j1, j2⟩, _⟩ := poly3 hB.out
      obtain ⟨⟨r0, r1, r2⟩, z0, z1, z2⟩ := poly3 hB.res
      have HL : Hid (IsP p O (fun e => atL ts (swE 1 e))) := Lib.hid (by have := HO.out; rwa [List.take_length] at this)
      clear hSr hst HO
      go_wp2_with fail
      obtain ⟨v0, v1, v2, v3, v4⟩ := hB.finish p d
      exact bodyPost_ret (v := .agg #[.int .i64 p, .int .i64 d, .slice sa O.length sc]) (by simp [results, Try.results104, go_sem, v0, v1, v2]) rfl ⟨_, O, rfl, v3, HL.out, v4⟩
theorem sexch (p d : Int) (i : Nat) (v : Value) (ts : List Tm) (w : World) (hS : SliceT w v ts) (hV : Valid p d ts) (hi : i = 0 ∨ i = 1) :
    Calls Try.prog 104 #[.agg #[.int .i64 p, .int .i64 d, v], .int .i64 (i : Int), .int .i64 ((i : Int) + 1)] w fun e w' =>
      ∃ v' L, e = .returned (.agg #[.int .i64 p, .int .i64 d, v']) ∧ OwnP w' w.heap.size v' L ∧ IsP p L (fun e => atL ts (swE i e)) ∧ Below w.heap.size w w' := by
  rcases hi with rfl | rfl
  · exact sexch0 p d v ts w hS hV
  · exact sexch1 p d v ts w hS hV
end Go.Proofs.Ytphgpadpffigjaa
namespace Go.Proofs.Ytphgpadpffigjaa
open Go.RowKit Go.Sort

set_option maxRecDepth 8000 in
set_option maxHeartbeats 4000000 in
theorem sscale (p d k : Int) (v : Value) (xs : List Tm) (w : World) (hS : SliceT w v xs) (hV : Valid p d xs) (hk0 : 0 ≤ k) (hk1 : k < p) :
    Calls Try.prog 105 #[.agg #[.int .i64 p, .int .i64 d, v], .int .i64 k] w fun e w' =>
      ∃ v' L, e = .returned (.agg #[.int .i64 p, .int .i64 d, v']) ∧ OwnP w' w.heap.size v' L ∧ IsP p L (fun e => k * atL xs e % p) ∧ Below w.heap.size w w' := by
  obtain ⟨a, cap, rfl, _⟩ := id hS
  obtain ⟨W, hW, hbW, ⟨hWs1, hWs2⟩, rx, rr⟩ := boxes2 w p d (.slice a xs.length cap)
  have hSW := hS.below hbW
  have KK := Lib.hid (fun w' (h : Below W.heap.size W w') => show (w'.cell? ⟨w.heap.size, 0, none⟩ = some (.int .i64 p) ∧ w'.cell? ⟨w.heap.size, 1, none⟩ = some (.int .i64 d) ∧ w'.cell? ⟨w.heap.size, 2, none⟩ = some (.slice a xs.length cap)) from
    (poly3 (rowIs_below rx h rx.lt)).1)
  obtain ⟨⟨x0, x1, x2⟩, _⟩ := poly3 rx
  obtain ⟨⟨r0, r1, r2⟩, y0, y1, y2⟩ := poly3 rr
  go_enter Try.func105, Try.ntmps105
  go_upto_region 1 with fail
  rw [← hW]
  clear hW
  go_region_held3 (fun w' => (w'.cell? ⟨w.heap.size, 0, none⟩ = some (.int .i64 p) ∧ w'.cell? ⟨w.heap.size, 1, none⟩ = some (.int .i64 d) ∧ w'.cell? ⟨w.heap.size, 2, none⟩ = some (.slice a xs.length cap)))
    (first | with_reducible exact KK.out _ (Below.same _).drew | with_reducible exact KK.out _ HB1 | with_reducible exact KK.out _ HB2 | go_keep)
    (first
    | (go_at_call 54; (with_reducible refine (empty_any p d _).mono ?_); rintro e w1 ⟨rfl, hown, hb1⟩; have HB1 : Below W.heap.size W w1 := (Below.same _).drew.trans hb1)
    | (go_at_call 57; (with_reducible refine (specPlus p d k _ _ [] xs (fun _ => 0) _ (OwnP.slice (S := []) hown) (hSW.below HB1) (IsP.nil p) hV hk0 hk1).mono ?_); rintro e w2 ⟨v2, L2, rfl, ho2, hI2, hb2⟩; have HB2 : Below W.heap.size W w2 := HB1.trans (hb2.mono HB1.size); have rr2 := rowIs_below rr HB2 rr.lt; obtain ⟨⟨e0, e1, e2⟩, f0, f1, f2⟩ := poly3 rr2; obtain ⟨sa2, sc2, rfl⟩ := owns_slice ho2; obtain ⟨a0, a1, a2, a3, a4⟩ := fill_box (w := w) rr2 (owns_low ho2 (Nat.le_trans hbW.size HB1.size)) (Nat.le_refl _) (hbW.trans (HB2.mono hbW.size)) (by omega) p d; have A0 := Lib.hid a0; have A1 := Lib.hid a1; have A2 := Lib.hid a2; obtain ⟨m0, m1, m2⟩ := KK.out _ HB2; have A3 := Lib.hid a3; have A4 := Lib.hid a4; have HI := Lib.hid hI2; clear a0 a1 a2 a3 a4 hI2))
  all_goals
    go_wp2_with fail
    exact bodyPost_ret (v := .agg #[.int .i64 p, .int .i64 d, .slice sa2 L2.length sc2]) (by simp [results, Try.results105, go_sem, A0.out, A1.out, A2.out]) rfl ⟨_, _, rfl, A3.out, HI.out.congr (fun e _ => by simp), A4.out⟩

/-- The terms have exponents of d letters only. -/
def InP (d : Nat) (xs : List Tm) : Prop := ∀ t ∈ xs, inD d (tmE t)
theorem InP.zero {d : Nat} {xs : List Tm} (h : InP d xs) {e : Int × Int × Int} (he : ¬ inD d e) : atL xs e = 0 := atL_none fun t ht hx => he (by rw [← hx]; exact h t ht)
theorem Valid.zero {p d : Int} {xs : List Tm} (h : Valid p d xs) {e : Int × Int × Int} (he : ¬ byte3 e) : atL xs e = 0 := atL_none fun t ht hx => he (by rw [← hx]; exact (h.mem t ht).1.1)
theorem swE_byte (i : Nat) {e : Int × Int × Int} (h : byte3 e) : byte3 (swE i e) := by
  obtain ⟨a, b, c⟩ := h
  unfold swE
  split
  · exact ⟨b, a, c⟩
  · exact ⟨a, c, b⟩
/-- Whether an exchange of neighbours makes of the polynomial k times the same. -/
def nbP (p : Int) (d : Nat) (k : Int) (xs : List Tm) (i : Nat) : Prop := ∀ e, inD d e → atL xs (swE i e) = k * atL xs e % p
theorem nb_same {p : Int} {d i : Nat} {k : Int} {xs L1 L2 : List Tm} (hV : Valid p d xs) (hin : InP d xs) (hi : i + 1 < d) (h1 : IsP p L1 (fun e => atL xs (swE i e))) (h2 : IsP p L2 (fun e => k * atL xs e % p)) : sameT L1 L2 = true ↔ nbP p d k xs i := by
  unfold sameT
  rw [decide_eq_true_iff]
  constructor
  · intro h e _
    by_cases hb : byte3 e
    · have a1 := h1.2.2 e hb
      have a2 := h2.2.2 e hb
      rw [h] at a1
      exact a1.symm.trans a2
    · rw [hV.zero (fun h => hb (by have := swE_byte i h; rwa [swE_swE] at this)), hV.zero hb]
      simp
  · intro h
    refine h1.unique (h2.congr fun e _ => ?_)
    by_cases he : inD d e
    · exact (h e he).symm
    · rw [hin.zero he, hin.zero (fun h => he (by have := swE_in hi h; rwa [swE_swE] at this))]
      simp

set_option maxRecDepth 8000 in
set_option maxHeartbeats 8000000 in
theorem ssigned (p : Int) (d : Nat) (k : Int) (v : Value) (xs : List Tm) (w : World) (B : Bool) (hS : SliceT w v xs) (hV : Valid p d xs) (hin : InP d xs) (hk0 : 0 ≤ k) (hk1 : k < p) (hB : B = true ↔ ∀ i, i + 1 < d → nbP p d k xs i) :
    Calls Try.prog 64 #[.agg #[.int .i64 p, .int .i64 d, v], .int .i64 k] w fun e w' => e = .returned (.bool B) ∧ Below w.heap.size w w' := by
  have hd : 1 ≤ d ∧ d ≤ 3 := by have := hV.d1; have := hV.d3; omega
  have hl : xs.length ≤ 1048576 := Nat.le_trans hV.isP.len (by decide)
  obtain ⟨a, cap, rfl, _⟩ := id hS
  obtain ⟨W, hW, hbW, ⟨hWs1, hWs2⟩, rx⟩ := newbox w p d (.slice a xs.length cap)
  have hSW := hS.below hbW
  have KK := Lib.hid (fun w' (h : Below W.heap.size W w') => show (w'.cell? ⟨w.heap.size, 0, none⟩ = some (.int .i64 p) ∧ w'.cell? ⟨w.heap.size, 1, none⟩ = some (.int .i64 d) ∧ w'.cell? ⟨w.heap.size, 2, none⟩ = some (.slice a xs.length cap)) from
    (poly3 (rowIs_below rx h rx.lt)).1)
  have HBB := Lib.hid hB
  have HSL := Lib.hid (fun (w' : World) (h : Below W.heap.size W w') => hSW.below h)
  have HV := Lib.hid hV
  have HIN := Lib.hid hin
  clear hB hin hSW
  go_enter Try.func64, Try.ntmps64
  go_upto_region 1 with fail
  rw [← hW]
  clear hW
  go_wp2_with fail
  go_loopw [5] (fun j wr => ∃ i : Nat, i + 1 ≤ d ∧ j = .int .i64 i ∧ Hid (∀ i', i' < i → nbP p d k xs i') ∧ Below W.heap.size W wr) (fun j _ => d - (intOf j).toNat)
  case atStart => exact ⟨0, by omega, rfl, Lib.hid (fun i' h => by omega), Below.same _⟩
  case round =>
    obtain ⟨i, hi, rfl, HI, hb⟩ := hrel
    obtain ⟨x0, x1, x2⟩ := KK.out _ hb
    have hwi : IntKind.i64.wrap ((i : Int) + 1) = (i : Int) + 1 := IntWalk.i64_in _ (by omega)
    by_cases hlt : i + 1 < d
    · have hlt' : (i : Int) + 1 < (d : Int) := by omega
      have hi01 : i = 0 ∨ i = 1 := by omega
      have HNB := Lib.hid (fun (L1 L2 : List Tm) (h1 : IsP p L1 (fun e => atL xs (swE i e))) (h2 : IsP p L2 (fun e => k * atL xs e % p)) => nb_same HV.out HIN.out hlt h1 h2)
      have hb0 : Below W.heap.size W wr.drew := hb.drew
      have hV := HV.out
      go_wp2_with fail
      go_region_held3 (fun w' => (w'.cell? ⟨w.heap.size, 0, none⟩ = some (.int .i64 p) ∧ w'.cell? ⟨w.heap.size, 1, none⟩ = some (.int .i64 d) ∧ w'.cell? ⟨w.heap.size, 2, none⟩ = some (.slice a xs.length cap)))
        (first | with_reducible exact KK.out _ hb0 | with_reducible exact KK.out _ hb5 | with_reducible exact KK.out _ hb6 | with_reducible exact KK.out _ hb7)
        (first
        | (go_at_call 104; (with_reducible refine (sexch p d i _ xs _ (HSL.out _ hb0) hV hi01).mono ?_); rintro e w5 ⟨v5, L5, rfl, ho5, hI5, hbb5⟩; have hb5 := hb0.trans (hbb5.mono hb0.size))
        | (go_at_call 105; (with_reducible refine (sscale p d k _ xs _ (HSL.out _ hb5) hV hk0 hk1).mono ?_); rintro e w6 ⟨v6, L6, rfl, ho6, hI6, hbb6⟩; have hb6 := hb5.trans (hbb6.mono hb5.size); have hS5 := (OwnP.slice ho5).below hbb6; have hl5 : L5.length ≤ 1048576 := Nat.le_trans hI5.len (by decide); have hl6 : L6.length ≤ 1048576 := Nat.le_trans hI6.len (by decide))
        | (go_at_call 103; (with_reducible refine (ssame p d p d _ _ L5 L6 _ hl5 hl6 hS5 (OwnP.slice ho6)).mono ?_); rintro e w7 ⟨rfl, hbb7⟩; have hb7 := hb6.trans (hbb7.mono hb6.size)))
      all_goals
        have HQ := Lib.hid (HNB.out L5 L6 hI5 hI6)
        clear hI5 hI6 ho5 ho6 hS5 hbb5 hbb6 hbb7 x0 x1 x2
        obtain ⟨C, hC⟩ : ∃ C, sameT L5 L6 = C := ⟨_, rfl⟩
        rw [hC] at HQ ⊢
        clear hC
        cases C
        · have HF : Hid (B = false) := Lib.hid (by
            cases hBt : B
            · rfl
            · exact absurd (HQ.out.2 (HBB.out.1 hBt i hlt)) (by simp))
          go_wp2_with fail
          go_ret
          exact ⟨by rw [HF.out]; rfl, hbW.trans (hb7.mono hbW.size)⟩
        · have HI2 : Hid (∀ i', i' < i + 1 → nbP p d k xs i') := Lib.hid (fun i' h => by
            by_cases h2 : i' = i
            · rw [h2]; exact HQ.out.1 rfl
            · exact HI.out i' (by omega))
          go_wp2_with fail
          go_roundw
          case rel => exact ⟨i + 1, by omega, by go_num, HI2, hb7⟩
          case measure => simp [intOf]; omega
    · have HT : Hid (B = true) := Lib.hid (HBB.out.2 (fun i' h => HI.out i' (by omega)))
      have hge : ¬ ((i : Int) + 1 < (d : Int)) := by omega
      go_wp2_with fail
      go_ret
      exact ⟨by rw [HT.out]; rfl, hbW.trans (hb.mono hbW.size)⟩
end Go.Proofs.Ytphgpadpffigjaa
