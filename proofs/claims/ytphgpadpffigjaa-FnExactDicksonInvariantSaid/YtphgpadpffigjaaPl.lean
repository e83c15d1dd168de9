/-
  WALKS: 'spec.l01Plus'. Conditions: as each theorem states.
-/
import Derived.Test.YtphgpadpffigjaaPn
import Derived.Test.YtphgpadpffigjaaCj
import Derived.Test.YtphgpadpffigjaaTm
namespace Go.Proofs.Ytphgpadpffigjaa
open Go.RowKit Go.Sort

set_option maxRecDepth 8000 in
set_option maxHeartbeats 8000000 in
theorem specPlus (p d k : Int) (v v' : Value) (xs ys : List Tm) (f : Int × Int × Int → Int) (w : World) (hS : SliceT w v xs) (hS' : SliceT w v' ys) (hP : IsP p xs f) (hV : Valid p d ys) (hk0 : 0 ≤ k) (hk1 : k < p) :
    Calls Try.prog 57 #[.agg #[.int .i64 p, .int .i64 d, v], .agg #[.int .i64 p, .int .i64 d, v'], .int .i64 k] w fun e w' =>
      ∃ v' L, e = .returned (.agg #[.int .i64 p, .int .i64 d, v']) ∧ OwnP w' w.heap.size v' L ∧ IsP p L (fun e => (f e + k * atL ys e) % p) ∧ Below w.heap.size w w' := by
  have hp2 := hV.p2
  have hp13 := hV.p13
  have hlx := hP.len
  have hly := hV.isP.len
  obtain ⟨a, cap, rfl, _⟩ := id hS
  obtain ⟨a', cap', rfl, _⟩ := id hS'
  obtain ⟨W, hW, hbW, ⟨hWs1, hWs2⟩, rx, ry, rr⟩ := pair3 w p d (.slice a xs.length cap) p d (.slice a' ys.length cap')
  obtain ⟨⟨c0, c1, c2⟩, _⟩ := poly3 rx
  go_enter Try.func57, Try.ntmps57
  go_wp2_with fail
  rw [← hW]
  clear hW c0 c1 c2
  ((with_reducible refine (empty_any p d W).mono ?_); rintro e w1 ⟨rfl, hown, hb1⟩)
  obtain ⟨V, hV1, hbV, ⟨hVs1, hVs2⟩, rq⟩ : ∃ V, V = w1.alloc (.cells #[.int .i64 p, .int .i64 d, .slice (some ⟨W.heap.size + 1, 0, none⟩) 0 0] 36) ∧ Below w1.heap.size w1 V ∧ (V.heap.size ≤ w1.heap.size + 1 ∧ w1.heap.size + 1 ≤ V.heap.size) ∧
      V.rowIs w1.heap.size 36 3 (polyF p d (.slice (some ⟨W.heap.size + 1, 0, none⟩) 0 0)) := by
    refine ⟨_, rfl, box1 _ _, ⟨by simp, by simp⟩, ?_⟩
    exact World.rowIs_alloc w1 #[Value.int .i64 p, .int .i64 d, .slice (some ⟨W.heap.size + 1, 0, none⟩) 0 0] _ _ (fun i hi => by simp at hi; match i, hi with | 0, _ => rfl | 1, _ => rfl | 2, _ => rfl)
  have s1 := hb1.size
  have hbWV := hb1.trans (hbV.mono hb1.size)
  have hst : Part2 w V W.heap.size w1.heap.size w.heap.size (w.heap.size + 1) (w.heap.size + 2) p d p d (.slice a xs.length cap) (.slice a' ys.length cap') (.slice (some ⟨W.heap.size + 1, 0, none⟩) 0 0) [] :=
    ⟨⟨owns_belowT hown hbV, rq, rowIs_below rx hbWV rx.lt, rowIs_below rr hbWV rr.lt, hbW.trans (hbWV.mono hbW.size), by omega, by omega, by omega, by omega, by omega, by omega⟩, rowIs_below ry hbWV ry.lt, by omega⟩
  have rx1 := rowIs_below rx hb1 rx.lt
  have xo : ∀ o, (w1.alloc o).cell? ⟨w.heap.size, 2, none⟩ = some (.slice a xs.length cap) := fun o => ((box1 w1 o).cell rx1.lt).trans (poly3 rx1).1.2.2
  have hSV := (hS.below hbW).below hbWV
  have hbV2 := hst.part.b2
  clear rx ry rr rq hown rx1
  go_wp2_with (at_builtin; rw [← hV1]; refine wpList_append_terms _ rfl _ _ rfl W.heap.size (.slice (some ⟨W.heap.size + 1, 0, none⟩) 0 0) 0 [] rfl hst.part.rows (.slice a xs.length cap) xs rfl hSV (by omega) hbV2 ?_)
  intro v3 w3 hown3 hgrow3
  rw [← hV1] at hgrow3
  obtain ⟨hst3, r3⟩ := hst.moreL (ts := xs) hgrow3 (by simpa [cells4] using hown3)
  rw [List.nil_append] at hst3
  obtain ⟨sa3, sc3, rfl⟩ := owns_slice hown3
  have hfz3 := r3.frozen 2
  have hcl3 : w3.cell? ⟨w1.heap.size, 2, none⟩ = some (.slice (some ⟨W.heap.size + 1, 0, none⟩) 0 0) := r3.cell (i := 2) (by omega)
  have hbV3 := hst3.part.below
  clear hV1 xo hown3 hgrow3 r3 hst hSV hbV2
  go_wp2_with fail
  go_loopw [8] (fun j wr => ∃ (i : Nat) (sv : Value) (O : List Tm), i ≤ ys.length ∧ j = .int .i64 i ∧ Hid (IsP p O (fun e => (f e + k * atL (ys.take i) e) % p)) ∧ Part2 w wr W.heap.size w1.heap.size w.heap.size (w.heap.size + 1) (w.heap.size + 2) p d p d (.slice a xs.length cap) (.slice a' ys.length cap') sv O) (fun j _ => ys.length - (intOf j).toNat)
  case atStart => exact ⟨0, _, _, by omega, rfl, Lib.hid (hP.congr fun e he => by simp [atL]; exact (Int.emod_eq_of_lt (hP.bound (by omega) he).1 (hP.bound (by omega) he).2).symm), hst3⟩
  case round =>
    clear hst3 hfz3 hcl3
    obtain ⟨i, sv, O, hi, rfl, HO, hB⟩ := hrel
    have hSr := hS'.below hB.part.below
    obtain ⟨sa, sc, rfl⟩ := owns_slice hB.part.rows
    obtain ⟨⟨m0, m1, m2⟩, _⟩ := poly3 hB.arg2
    obtain ⟨⟨q0, q1, q2⟩, z0, z1, z2⟩ := poly3 hB.part.out
    by_cases hlt1 : i < ys.length
    · have hlt' : (i : Int) < (ys.length : Int) := by omega
      obtain ⟨A', cap2, hv', hcase⟩ := hSr
      simp at hv'
      obtain ⟨rfl, rfl⟩ := hv'
      rcases hcase with h0 | ⟨b, off, rfl, hltb, hTr⟩
      · rw [h0] at hlt1; exact absurd hlt1 (by simp)
      obtain ⟨c0, c1, c2, c3⟩ := hTr i hlt1
      obtain ⟨⟨⟨bx, by1, bz⟩, hs12⟩, bv1, bv2⟩ := hV.mem ys[i] (List.getElem_mem _)
      have hd1 := Lib.hid (fun e => plus_step (p := p) (k := k) (f := f) hV.asc i hlt1 e)
      have hE : mono12 (tmE ys[i]) := ⟨⟨bx, by1, bz⟩, hs12⟩
      have HP : Hid (IsP p (putL p O (tmE ys[i]) (k * ys[i].2.2.2)) (fun e => (f e + k * atL (ys.take (i + 1)) e) % p)) := Lib.hid ((HO.out.put hp2 hE (k * ys[i].2.2.2)).congr fun e he => by
        rw [hd1.out e]
        by_cases hx : e = tmE ys[i]
        · rw [if_pos hx, if_pos hx, atL_take_new hV.asc i hlt1]
          simp [Int.add_comm]
        · rw [if_neg hx, if_neg hx])
      simp only [tmE] at bx by1 bz HP
      generalize hx : ys[i].1 = x at *
      generalize hy : ys[i].2.1 = y at *
      generalize hz : ys[i].2.2.1 = z at *
      generalize hvv : ys[i].2.2.2 = u at *
      have hE1 : byte3 (x, y, z) := ⟨bx, by1, bz⟩
      have g1 : 0 ≤ k * u := Int.mul_nonneg (by omega) (by omega)
      have g2 : k * u ≤ 13 * 13 := Int.mul_le_mul (by omega) (by omega) (by omega) (by omega)
      have hw : IntKind.i64.wrap (k * u) = k * u := IntWalk.i64_in _ (by omega)
      clear hd1 hE hV hS hS' hTr hP z0 z1 z2
      go_wp2_with fail
      refine region_tail 15 (by kernel_rfl) (by kernel_rfl) ?_
      simp only [List.take_succ_cons, List.take_zero, List.drop_succ_cons, List.drop_zero]
      repeat still_step
      refine wpStill_nil ?_
      go_wp2_with fail
      have hBU := hB.later (Below.same wr).drew
      ((with_reducible refine (specPut p d _ O _ _ _ _ _ _ (OwnP.slice hBU.part.rows) HO.out hp2 hp13 hE1 g1 (by omega)).mono ?_); rintro e w2 ⟨v2, rfl, ho2, hb2⟩)
      obtain ⟨sa2, sc2, rfl⟩ := owns_slice ho2
      have hU2 := hBU.later hb2
      have hB3 := hBU.put hb2 ho2 hBU.part.b2
      obtain ⟨⟨j0, j1, j2⟩, jz0, jz1, jz2⟩ := poly3 hU2.part.out
      clear ho2 hBU hB HO q0 q1 q2
      go_wp2_with fail
      go_roundw
      case rel => exact ⟨i + 1, _, _, by omega, by go_num, HP, hB3⟩
      case measure => simp [intOf]; omega
    · obtain rfl : i = ys.length := by omega
      obtain ⟨⟨r0, r1, r2⟩, y0, y1, y2⟩ := poly3 hB.part.res
      have hD := HO.out
      rw [List.take_length] at hD
      obtain ⟨a0, a1, a2, a3, a4⟩ := hB.part.finish p d
      clear hSr HO hV hP z0 z1 z2
      go_wp2_with fail
      exact bodyPost_ret (v := .agg #[.int .i64 p, .int .i64 d, .slice sa O.length sc]) (by simp [results, Try.results57, go_sem, a0, a1, a2]) rfl ⟨_, O, rfl, a3, hD, a4⟩
end Go.Proofs.Ytphgpadpffigjaa
