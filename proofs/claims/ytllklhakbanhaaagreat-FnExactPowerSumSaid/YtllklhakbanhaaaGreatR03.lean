/-
  WALKS: 'spec.l01Power', within the bound. Conditions: as each theorem states.
-/
import Derived.Test.YtllklhakbanhaaaGreatQ10
import Derived.Test.YtllklhakbanhaaaGreatQ08
namespace Go.Proofs.YtllklhakbanhaaaGreat
open Go.RowKit Go.Sort Go.Maps

set_option maxRecDepth 8000 in
set_option maxHeartbeats 8000000 in
theorem specPowL (p d k : Int) (v : Value) (xs : List Tm) (w : World) (hS : SliceT w v xs) (hV : Valid p d xs) (hk0 : 0 ≤ k) (hk12 : k ≤ 12) (hk : k * max (degI xs) 0 ≤ 12) :
    Calls Tryz.prog 74 #[.agg #[.int .i64 p, .int .i64 d, v], .int .i64 k] w fun e w' =>
      ∃ v' L, e = .returned (.tuple #[.agg #[.int .i64 p, .int .i64 d, v'], .bool true]) ∧ OwnP w' w.heap.size v' L ∧ PowL p xs k.toNat L ∧ Below w.heap.size w w' := by
  have hp2 := hV.p2
  have hp13 := hV.p13
  have hlx := hV.isP.len
  obtain ⟨dx1, dx2⟩ := deg_bound hV
  obtain ⟨mx1, mx2⟩ := max_deg hV
  have hm0 : 0 ≤ k * max (degI xs) 0 := Int.mul_nonneg hk0 mx1
  have hm1 : k * max (degI xs) 0 ≤ 12 * 12 := Int.mul_le_mul hk12 mx2 mx1 (by omega)
  have hw : wrap64 (k * max (degI xs) 0) = k * max (degI xs) 0 := IntWalk.wrap64_in _ (by omega)
  have hn : decide (12 < k * max (degI xs) 0) = false := by simpa using hk
  obtain ⟨a, cap, rfl, _⟩ := id hS
  obtain ⟨W, hW, hbW, ⟨hWs1, hWs2⟩, rx, rr⟩ := boxes2 w p d (.slice a xs.length cap)
  obtain ⟨⟨c0, c1, c2⟩, _⟩ := poly3 rx
  have h1p : IsP p (putL p [] (0, 0, 0) 1) (fun e => if e = (0, 0, 0) then 1 else 0) := (IsP.one hp2 (e := (0, 0, 0)) ⟨by unfold byte3; simp, by simp⟩ 1).congr fun a _ => by
    have h1 : (1 : Int) % p = 1 := Int.emod_eq_of_lt (by omega) (by omega)
    rw [h1]
  go_enter Tryz.func74, Tryz.ntmps74
  go_wp2_with fail
  rw [← hW]
  clear hW c0 c1 c2
  ((with_reducible refine (one_any p d 0 0 0 1 W hp2 hp13 (by unfold byte3; simp) (by omega) (by omega)).mono ?_); rintro e w1 ⟨v1, rfl, ho1, hb1⟩)
  generalize putL p [] (0, 0, 0) 1 = O1 at h1p ho1
  obtain ⟨sa1, sc1, rfl⟩ := owns_slice ho1
  have s1 := hb1.size
  obtain ⟨V, hV1, hbV, ⟨hVs1, hVs2⟩, rq⟩ := newbox w1 p d (.slice sa1 O1.length sc1)
  have hbWV := hb1.trans (hbV.mono hb1.size)
  have hst : Part w V W.heap.size w1.heap.size w.heap.size (w.heap.size + 1) p d (.slice a xs.length cap) (.slice sa1 O1.length sc1) O1 :=
    ⟨owns_belowT ho1 hbV, rq, rowIs_below rx hbWV rx.lt, rowIs_below rr hbWV rr.lt, hbW.trans (hbWV.mono hbW.size), by omega, by omega, by omega, by omega, by omega, by omega⟩
  have rx1 := rowIs_below rx hb1 rx.lt
  have xo : ∀ o, ((w1.alloc o).cell? ⟨w.heap.size, 0, none⟩ = some (.int .i64 p) ∧ (w1.alloc o).cell? ⟨w.heap.size, 1, none⟩ = some (.int .i64 d) ∧ (w1.alloc o).cell? ⟨w.heap.size, 2, none⟩ = some (.slice a xs.length cap)) := fun o => (poly3 (rowIs_below rx1 (box1 w1 o) rx1.lt)).1
  have hSV := hS.below hst.below
  have hbx := hV.byte
  clear rx rr rq ho1 rx1
  go_wp2_with fail
  rw [← hV1]
  clear hV1 xo
  ((with_reducible refine (specDegree_any p d _ xs V (by omega) hSV hbx).mono ?_); rintro e w2 ⟨rfl, hb2⟩)
  have hst2 := hst.later hb2
  clear hst hSV
  go_wp2_with fail
  have HX := Lib.hid hV
  have HK := Lib.hid hk
  have HP1 := Lib.hid (show PowL p xs 0 O1 from h1p)
  clear hn hw hm0 hm1 hk hV h1p hbx
  go_loopw [1] (fun kv wr => ∃ (j : Nat) (sv : Value) (O : List Tm), (j : Int) ≤ k ∧ kv = .int .i64 (k - j) ∧ Hid (PowL p xs j O) ∧ Part w wr W.heap.size w1.heap.size w.heap.size (w.heap.size + 1) p d (.slice a xs.length cap) sv O) (fun kv _ => (intOf kv).toNat)
  case atStart => exact ⟨0, _, O1, by omega, by simp, HP1, hst2⟩
  case round =>
    clear hst2 HP1
    obtain ⟨j, sv, O, hj, rfl, HO, hB⟩ := hrel
    obtain ⟨sa, sc, rfl⟩ := owns_slice hB.rows
    obtain ⟨⟨x0, x1, x2⟩, _⟩ := poly3 hB.arg
    obtain ⟨⟨q0, q1, q2⟩, z0, z1, z2⟩ := poly3 hB.out
    by_cases hlt : (j : Int) < k
    · have hlt' : 0 < k - (j : Int) := by omega
      obtain ⟨f, hf⟩ := HO.out.isP
      have hVO := HX.out.of_isP hf
      have hd := HO.out.fits HX.out (k := k) (by omega) HK.out
      have HF := Lib.hid hVO
      have HD := Lib.hid hd
      clear hf hVO hd z0 z1 z2
      go_wp2_with fail
      ((with_reducible refine (specTimes_any p d _ _ O xs wr (OwnP.slice hB.rows) (hS.below hB.below) HF.out HX.out HD.out).mono ?_); rintro e w2 ⟨v2, L2, rfl, ho2, hL2, hb2⟩)
      have HP2 : Hid (PowL p xs (j + 1) L2) := Lib.hid ⟨O, HO.out, hL2⟩
      obtain ⟨sa2, sc2, rfl⟩ := owns_slice ho2
      have hU2 := hB.later hb2
      have hB3 := hB.put hb2 ho2 hB.b2
      obtain ⟨⟨j0, j1, j2⟩, jz0, jz1, jz2⟩ := poly3 hU2.out
      clear ho2 hB HO hL2 q0 q1 q2 x0 x1 x2 HF HD
      go_wp2_with fail
      go_roundw
      case rel => exact ⟨j + 1, _, _, by omega, by rw [show k - ((j + 1 : Nat) : Int) = k - j - 1 by omega], HP2, hB3⟩
      case measure => simp [intOf]; omega
    · have hkj : k.toNat = j := by omega
      have hle : ¬ 0 < k - (j : Int) := by omega
      obtain ⟨⟨r0, r1, r2⟩, y0, y1, y2⟩ := poly3 hB.res
      obtain ⟨a0, a1, a2, a3, a4⟩ := hB.finish p d
      have A0 := Lib.hid a0
      have A1 := Lib.hid a1
      have A2 := Lib.hid a2
      have A3 := Lib.hid a3
      have A4 := Lib.hid a4
      have HKJ := Lib.hid hkj
      clear a0 a1 a2 a3 a4 hB hkj
      go_wp2_with fail
      exact bodyPost_ret (v := .tuple #[.agg #[.int .i64 p, .int .i64 d, .slice sa O.length sc], .bool true]) (by simp [results, Tryz.results74, go_sem, A0.out, A1.out, A2.out]) rfl ⟨_, rfl, O, A3.out, by rw [HKJ.out]; exact HO.out, A4.out⟩
end Go.Proofs.YtllklhakbanhaaaGreat
