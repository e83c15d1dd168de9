/-
  POWERS OF POLYNOMIALS, in plain mathematics; 'spec.l01Power'. Conditions: as each theorem states.
-/
import Derived.Test.YtpnlpmalkiaioaaTk
import Derived.Test.YtpnlpmalkiaioaaOn
namespace Go.Proofs.Ytpnlpmalkiaioaa
open Go.RowKit Go.Sort Go.Maps

/-- L has the terms of the power k of the polynomial with the terms xs. -/
def PowL (p : Int) (xs : List Tm) : Nat → List Tm → Prop
  | 0, L => IsP p L (fun e => if e = (0, 0, 0) then 1 else 0)
  | k + 1, L => ∃ M, PowL p xs k M ∧ IsP p L (mulF p M xs)
theorem PowL.unique {p : Int} {xs : List Tm} : ∀ {k : Nat} {L L' : List Tm}, PowL p xs k L → PowL p xs k L' → L = L'
  | 0, _, _, h, h' => IsP.unique h h'
  | _ + 1, _, _, ⟨_, h1, h2⟩, ⟨_, h1', h2'⟩ => by
    obtain rfl := PowL.unique h1 h1'
    exact h2.unique h2'
theorem PowL.isP {p : Int} {xs L : List Tm} : ∀ {k : Nat}, PowL p xs k L → ∃ f, IsP p L f
  | 0, h => ⟨_, h⟩
  | _ + 1, ⟨_, _, h⟩ => ⟨_, h⟩
theorem Valid.of_isP {p d : Int} {xs L : List Tm} {f : Int × Int × Int → Int} (hV : Valid p d xs) (h : IsP p L f) : Valid p d L :=
  ⟨hV.p2, hV.p13, hV.d1, hV.d3, h.1, fun t ht => ⟨(h.2.1 t ht).1, (h.2.1 t ht).2⟩⟩
theorem rowS_ne {s : Tm} {e : Int × Int × Int} : ∀ {ys : List Tm}, rowS s ys e ≠ 0 → ∃ t ∈ ys, addE (tmE s) (tmE t) = e
  | [], h => absurd rfl h
  | t :: r, h => by
    rw [rowS] at h
    by_cases hx : addE (tmE s) (tmE t) = e
    · exact ⟨t, by simp, hx⟩
    · rw [if_neg hx, Int.zero_add] at h
      obtain ⟨u, hu, hx⟩ := rowS_ne h
      exact ⟨u, by simp [hu], hx⟩
theorem mulS_ne {ys : List Tm} {e : Int × Int × Int} : ∀ {xs : List Tm}, mulS xs ys e ≠ 0 → ∃ s ∈ xs, ∃ t ∈ ys, addE (tmE s) (tmE t) = e
  | [], h => absurd rfl h
  | s :: r, h => by
    rw [mulS] at h
    by_cases hx : rowS s ys e = 0
    · rw [hx, Int.zero_add] at h
      obtain ⟨u, hu, hx⟩ := mulS_ne h
      exact ⟨u, by simp [hu], hx⟩
    · exact ⟨s, by simp, rowS_ne hx⟩
/-- No term of the power has a degree beyond the bound. -/
theorem PowL.deg {p d : Int} {xs : List Tm} (hV : Valid p d xs) : ∀ {k : Nat} {L : List Tm}, PowL p xs k L → ∀ t ∈ L, t.1 + t.2.1 + t.2.2.1 ≤ k * max (degI xs) 0
  | 0, L, h, t, ht => by
    have h1 := h.2.2 (tmE t) (h.2.1 t ht).1.1
    rw [atL_mem h.1 ht] at h1
    have h2 := (h.2.1 t ht).2.1
    by_cases hx : tmE t = (0, 0, 0)
    · simp [tmE] at hx
      obtain ⟨a, b, c⟩ := hx
      simp [a, b, c]
    · have h3 : t.2.2.2 = if tmE t = (0, 0, 0) then 1 else 0 := h1
      rw [if_neg hx] at h3
      omega
  | k + 1, L, ⟨M, h, h'⟩, t, ht => by
    have h1 := h'.2.2 (tmE t) (h'.2.1 t ht).1.1
    rw [atL_mem h'.1 ht] at h1
    have h2 := (h'.2.1 t ht).2.1
    have h3 : mulS M xs (tmE t) ≠ 0 := fun h0 => by
      rw [mulF, h0] at h1
      simp at h1
      omega
    obtain ⟨s, hs, u, hu, hx⟩ := mulS_ne h3
    have h4 := PowL.deg hV h s hs
    have h5 := deg_le hV u hu
    have h6 : degI xs ≤ max (degI xs) 0 := Int.le_max_left _ _
    have h7 : t.1 + t.2.1 + t.2.2.1 = (s.1 + s.2.1 + s.2.2.1) + (u.1 + u.2.1 + u.2.2.1) := by
      have := sum_addE (tmE s) (tmE u)
      rw [hx] at this
      exact this
    have h8 : ((k + 1 : Nat) : Int) * max (degI xs) 0 = k * max (degI xs) 0 + max (degI xs) 0 := by
      rw [Int.natCast_add, Int.add_mul]
      simp
    omega
theorem max_deg {p d : Int} {xs : List Tm} (hV : Valid p d xs) : 0 ≤ max (degI xs) 0 ∧ max (degI xs) 0 ≤ 12 := by
  obtain ⟨a, b⟩ := deg_bound hV
  omega
/-- The next product keeps the bound. -/
theorem PowL.fits {p d : Int} {xs M : List Tm} (hV : Valid p d xs) {j : Nat} (h : PowL p xs j M) {k : Int} (hj : (j : Int) + 1 ≤ k) (hk : k * max (degI xs) 0 ≤ 12) : M = [] ∨ xs = [] ∨ degI M + degI xs ≤ 12 := by
  by_cases hM : M = []
  · exact .inl hM
  by_cases hx : xs = []
  · exact .inr (.inl hx)
  refine .inr (.inr ?_)
  have h0 : degI M ≤ j * max (degI xs) 0 := by
    unfold degI
    cases hl : M.getLast? with
    | none => exact absurd (List.getLast?_eq_none_iff.1 hl) hM
    | some u => exact h.deg hV u (List.mem_of_getLast? hl)
  have h1 : degI xs ≤ max (degI xs) 0 := Int.le_max_left _ _
  have h2 : ((j : Int) + 1) * max (degI xs) 0 ≤ k * max (degI xs) 0 := Int.mul_le_mul_of_nonneg_right hj (max_deg hV).1
  rw [Int.add_mul] at h2
  simp at h2
  omega
theorem pow_ex {p d : Int} {xs : List Tm} (hV : Valid p d xs) {k : Int} (hk : k * max (degI xs) 0 ≤ 12) : ∀ j : Nat, (j : Int) ≤ k → ∃ L, PowL p xs j L
  | 0, _ => ⟨_, (IsP.one hV.p2 (e := (0, 0, 0)) ⟨by unfold byte3; simp, by simp⟩ 1).congr fun a _ => by
      have h1 : (1 : Int) % p = 1 := Int.emod_eq_of_lt (by omega) (by have := hV.p2; omega)
      rw [h1]⟩
  | j + 1, hj => by
    obtain ⟨M, hM⟩ := pow_ex hV hk j (by omega)
    obtain ⟨f, hf⟩ := hM.isP
    have hVM := hV.of_isP hf
    obtain ⟨L, hL⟩ := mul_ex hVM hV (fits_of hVM hV (hM.fits hV (by omega) hk))
    exact ⟨L, M, hM, hL⟩

set_option maxRecDepth 8000 in
set_option maxHeartbeats 8000000 in
theorem specPowL (p d k : Int) (v : Value) (xs : List Tm) (w : World) (hS : SliceT w v xs) (hV : Valid p d xs) (hk0 : 0 ≤ k) (hk12 : k ≤ 12) (hk : k * max (degI xs) 0 ≤ 12) :
    Calls Try.prog 53 #[.agg #[.int .i64 p, .int .i64 d, v], .int .i64 k] w fun e w' =>
      ∃ v' L, e = .returned (.tuple #[.agg #[.int .i64 p, .int .i64 d, v'], .bool true]) ∧ OwnP w' w.heap.size v' L ∧ PowL p xs k.toNat L ∧ Below w.heap.size w w' := by
  have hp2 := hV.p2
  have hp13 := hV.p13
  have hlx := hV.isP.len
  obtain ⟨dx1, dx2⟩ := deg_bound hV
  obtain ⟨mx1, mx2⟩ := max_deg hV
  have hm0 : 0 ≤ k * max (degI xs) 0 := Int.mul_nonneg hk0 mx1
  have hm1 : k * max (degI xs) 0 ≤ 12 * 12 := Int.mul_le_mul hk12 mx2 mx1 (by omega)
  have hw : wrap64 (k * max (degI xs) 0) = k * max (degI xs) 0 := IntWalk.wrap64_in _ (by omega)
  have hn : decide (12 < k * max (degI xs) 0) = false := by simpa using hk
  obtain ⟨a, cap, rfl, _⟩ := id hS
  obtain ⟨W, hW, hbW, ⟨hWs1, hWs2⟩, rx, rr⟩ := boxes2 w p d (.slice a xs.length cap)
  obtain ⟨⟨c0, c1, c2⟩, _⟩ := poly3 rx
  have h1p : IsP p (putL p [] (0, 0, 0) 1) (fun e => if e = (0, 0, 0) then 1 else 0) := (IsP.one hp2 (e := (0, 0, 0)) ⟨by unfold byte3; simp, by simp⟩ 1).congr fun a _ => by
    have h1 : (1 : Int) % p = 1 := Int.emod_eq_of_lt (by omega) (by omega)
    rw [h1]
  go_enter Try.func53, Try.ntmps53
  go_wp2_with fail
  rw [← hW]
  clear hW c0 c1 c2
  ((with_reducible refine (one_any p d 0 0 0 1 W hp2 hp13 (by unfold byte3; simp) (by omega) (by omega)).mono ?_); rintro e w1 ⟨v1, rfl, ho1, hb1⟩)
  generalize putL p [] (0, 0, 0) 1 = O1 at h1p ho1
  obtain ⟨sa1, sc1, rfl⟩ := owns_slice ho1
  have s1 := hb1.size
  obtain ⟨V, hV1, hbV, ⟨hVs1, hVs2⟩, rq⟩ := newbox w1 p d (.slice sa1 O1.length sc1)
  have hbWV := hb1.trans (hbV.mono hb1.size)
  have hst : Part w V W.heap.size w1.heap.size w.heap.size (w.heap.size + 1) p d (.slice a xs.length cap) (.slice sa1 O1.length sc1) O1 :=
    ⟨owns_belowT ho1 hbV, rq, rowIs_below rx hbWV rx.lt, rowIs_below rr hbWV rr.lt, hbW.trans (hbWV.mono hbW.size), by omega, by omega, by omega, by omega, by omega, by omega⟩
  have rx1 := rowIs_below rx hb1 rx.lt
  have xo : ∀ o, ((w1.alloc o).cell? ⟨w.heap.size, 0, none⟩ = some (.int .i64 p) ∧ (w1.alloc o).cell? ⟨w.heap.size, 1, none⟩ = some (.int .i64 d) ∧ (w1.alloc o).cell? ⟨w.heap.size, 2, none⟩ = some (.slice a xs.length cap)) := fun o => (poly3 (rowIs_below rx1 (box1 w1 o) rx1.lt)).1
  have hSV := hS.below hst.below
  have hbx := hV.byte
  clear rx rr rq ho1 rx1
  go_wp2_with fail
  rw [← hV1]
  clear hV1 xo
  ((with_reducible refine (specDegree_any p d _ xs V (by omega) hSV hbx).mono ?_); rintro e w2 ⟨rfl, hb2⟩)
  have hst2 := hst.later hb2
  clear hst hSV
  go_wp2_with fail
  have HX := Lib.hid hV
  have HK := Lib.hid hk
  have HP1 := Lib.hid (show PowL p xs 0 O1 from h1p)
  clear hn hw hm0 hm1 hk hV h1p hbx
  go_loopw [1] (fun kv wr => ∃ (j : Nat) (sv : Value) (O : List Tm), (j : Int) ≤ k ∧ kv = .int .i64 (k - j) ∧ Hid (PowL p xs j O) ∧ Part w wr W.heap.size w1.heap.size w.heap.size (w.heap.size + 1) p d (.slice a xs.length cap) sv O) (fun kv _ => (intOf kv).toNat)
  case atStart => exact ⟨0, _, O1, by omega, by simp, HP1, hst2⟩
  case round =>
    clear hst2 HP1
    obtain ⟨j, sv, O, hj, rfl, HO, hB⟩ := hrel
    obtain ⟨sa, sc, rfl⟩ := owns_slice hB.rows
    obtain ⟨⟨x0, x1, x2⟩, _⟩ := poly3 hB.arg
    obtain ⟨⟨q0, q1, q2⟩, z0, z1, z2⟩ := poly3 hB.out
    by_cases hlt : (j : Int) < k
    · have hlt' : 0 < k - (j : Int) := by omega
      obtain ⟨f, hf⟩ := HO.out.isP
      have hVO := HX.out.of_isP hf
      have hd := HO.out.fits HX.out (k := k) (by omega) HK.out
      have HF := Lib.hid hVO
      have HD := Lib.hid hd
      clear hf hVO hd z0 z1 z2
      go_wp2_with fail
      ((with_reducible refine (specTimes_any p d _ _ O xs wr (OwnP.slice hB.rows) (hS.below hB.below) HF.out HX.out HD.out).mono ?_); rintro e w2 ⟨v2, L2, rfl, ho2, hL2, hb2⟩)
      have HP2 : Hid (PowL p xs (j + 1) L2) := Lib.hid ⟨O, HO.out, hL2⟩
      obtain ⟨sa2, sc2, rfl⟩ := owns_slice ho2
      have hU2 := hB.later hb2
      have hB3 := hB.put hb2 ho2 hB.b2
      obtain ⟨⟨j0, j1, j2⟩, jz0, jz1, jz2⟩ := poly3 hU2.out
      clear ho2 hB HO hL2 q0 q1 q2 x0 x1 x2 HF HD
      go_wp2_with fail
      go_roundw
      case rel => exact ⟨j + 1, _, _, by omega, by rw [show k - ((j + 1 : Nat) : Int) = k - j - 1 by omega], HP2, hB3⟩
      case measure => simp [intOf]; omega
    · have hkj : k.toNat = j := by omega
      have hle : ¬ 0 < k - (j : Int) := by omega
      obtain ⟨⟨r0, r1, r2⟩, y0, y1, y2⟩ := poly3 hB.res
      obtain ⟨a0, a1, a2, a3, a4⟩ := hB.finish p d
      have A0 := Lib.hid a0
      have A1 := Lib.hid a1
      have A2 := Lib.hid a2
      have A3 := Lib.hid a3
      have A4 := Lib.hid a4
      have HKJ := Lib.hid hkj
      clear a0 a1 a2 a3 a4 hB hkj
      go_wp2_with fail
      exact bodyPost_ret (v := .tuple #[.agg #[.int .i64 p, .int .i64 d, .slice sa O.length sc], .bool true]) (by simp [results, Try.results53, go_sem, A0.out, A1.out, A2.out]) rfl ⟨_, rfl, O, A3.out, by rw [HKJ.out]; exact HO.out, A4.out⟩

set_option maxRecDepth 8000 in
set_option maxHeartbeats 8000000 in
theorem specPowB (p d k : Int) (v : Value) (xs : List Tm) (w : World) (hS : SliceT w v xs) (hV : Valid p d xs) (hk0 : 0 ≤ k) (hk12 : k ≤ 12) (hk : 12 < k * max (degI xs) 0) :
    Calls Try.prog 53 #[.agg #[.int .i64 p, .int .i64 d, v], .int .i64 k] w fun e w' =>
      ∃ v' L, e = .returned (.tuple #[.agg #[.int .i64 p, .int .i64 d, v'], .bool false]) ∧ OwnP w' w.heap.size v' L ∧ Below w.heap.size w w' := by
  have hp2 := hV.p2
  have hp13 := hV.p13
  have hlx := hV.isP.len
  obtain ⟨dx1, dx2⟩ := deg_bound hV
  obtain ⟨mx1, mx2⟩ := max_deg hV
  have hm0 : 0 ≤ k * max (degI xs) 0 := Int.mul_nonneg hk0 mx1
  have hm1 : k * max (degI xs) 0 ≤ 12 * 12 := Int.mul_le_mul hk12 mx2 mx1 (by omega)
  have hw : wrap64 (k * max (degI xs) 0) = k * max (degI xs) 0 := IntWalk.wrap64_in _ (by omega)
  have hn : decide (12 < k * max (degI xs) 0) = true := by simpa using hk
  obtain ⟨a, cap, rfl, _⟩ := id hS
  obtain ⟨W, hW, hbW, ⟨hWs1, hWs2⟩, rx, rr⟩ := boxes2 w p d (.slice a xs.length cap)
  obtain ⟨⟨c0, c1, c2⟩, _⟩ := poly3 rx
  go_enter Try.func53, Try.ntmps53
  go_wp2_with fail
  rw [← hW]
  clear hW c0 c1 c2
  ((with_reducible refine (one_any p d 0 0 0 1 W hp2 hp13 (by unfold byte3; simp) (by omega) (by omega)).mono ?_); rintro e w1 ⟨v1, rfl, ho1, hb1⟩)
  generalize putL p [] (0, 0, 0) 1 = O1 at ho1
  obtain ⟨sa1, sc1, rfl⟩ := owns_slice ho1
  have s1 := hb1.size
  obtain ⟨V, hV1, hbV, ⟨hVs1, hVs2⟩, rq⟩ := newbox w1 p d (.slice sa1 O1.length sc1)
  have hbWV := hb1.trans (hbV.mono hb1.size)
  have hst : Part w V W.heap.size w1.heap.size w.heap.size (w.heap.size + 1) p d (.slice a xs.length cap) (.slice sa1 O1.length sc1) O1 :=
    ⟨owns_belowT ho1 hbV, rq, rowIs_below rx hbWV rx.lt, rowIs_below rr hbWV rr.lt, hbW.trans (hbWV.mono hbW.size), by omega, by omega, by omega, by omega, by omega, by omega⟩
  have rx1 := rowIs_below rx hb1 rx.lt
  have xo : ∀ o, ((w1.alloc o).cell? ⟨w.heap.size, 0, none⟩ = some (.int .i64 p) ∧ (w1.alloc o).cell? ⟨w.heap.size, 1, none⟩ = some (.int .i64 d) ∧ (w1.alloc o).cell? ⟨w.heap.size, 2, none⟩ = some (.slice a xs.length cap)) := fun o => (poly3 (rowIs_below rx1 (box1 w1 o) rx1.lt)).1
  have hSV := hS.below hst.below
  have hbx := hV.byte
  clear rx rr rq ho1 rx1
  go_wp2_with fail
  rw [← hV1]
  clear hV1 xo
  ((with_reducible refine (specDegree_any p d _ xs V (by omega) hSV hbx).mono ?_); rintro e w2 ⟨rfl, hb2⟩)
  have hst2 := hst.later hb2
  clear hst hSV
  obtain ⟨⟨q0, q1, q2⟩, _⟩ := poly3 hst2.out
  obtain ⟨⟨r0, r1, r2⟩, y0, y1, y2⟩ := poly3 hst2.res
  obtain ⟨a0, a1, a2, a3, a4⟩ := hst2.finish p d
  have A0 := Lib.hid a0
  have A1 := Lib.hid a1
  have A2 := Lib.hid a2
  have A3 := Lib.hid a3
  have A4 := Lib.hid a4
  clear a0 a1 a2 a3 a4 hst2 hk
  go_wp2_with fail
  exact bodyPost_ret (v := .tuple #[.agg #[.int .i64 p, .int .i64 d, .slice sa1 O1.length sc1], .bool false]) (by simp [results, Try.results53, go_sem, A0.out, A1.out, A2.out]) rfl ⟨_, O1, rfl, A3.out, A4.out⟩
end Go.Proofs.Ytpnlpmalkiaioaa
