/-
  WALKS: 'spec.l03Told', 'spec.SymmetricFunction', 'impl.SymmetricFunction'. Conditions: the numbers fit their kinds.
-/
import Derived.Test.YtllklhakbanhaaaGreatS02
import Derived.Test.YtllklhakbanhaaaGreatS03
import Derived.Test.YtllklhakbanhaaaGreatQ52
namespace Go.Proofs.YtllklhakbanhaaaGreat
open Go.RowKit Go.Sort Go.Maps EchM

/-- What the symmetric function is. -/
noncomputable def syC (p n : Int) (L : List (Nat → Nat → Int)) (q d : Int) (xs : List Tm) (k : Int) : Int :=
  if actC p n L q d xs = 0 then (if 0 ≤ k ∧ k ≤ (orbL (allL p n.toNat L xs)).length then (if k * max (degI xs) 0 ≤ 12 then 0 else 3) else 2) else actC p n L q d xs
def syR (p : Int) (L : List (Nat → Nat → Int)) (xs : List Tm) (k : Int) (m : Nat) (S : List Tm) : Prop := S = symE p (orbL (allL p m L xs)).reverse k.toNat ∧ S.length ≤ 2197
abbrev SyO (p n : Int) (L : List (Nat → Nat → Int)) (q d : Int) (xs : List Tm) (k : Int) (o : OutP) : Prop := GpO p n (syC p n L q d xs k) (syR p L xs k) o
theorem syO_len {p n : Int} {L : List (Nat → Nat → Int)} {q d : Int} {xs : List Tm} {k : Int} {o : OutP} (h : SyO p n L q d xs k o) : o.S.length ≤ 1048576 :=
  gpO_len (fun _ _ hS => Nat.le_trans hS.2 (by omega)) h
theorem syC_zero {p n : Int} {L : List (Nat → Nat → Int)} {q d : Int} {xs : List Tm} {k : Int} (h : syC p n L q d xs k = 0) : actC p n L q d xs = 0 ∧ (0 ≤ k ∧ k ≤ (orbL (allL p n.toNat L xs)).length) ∧ k * max (degI xs) 0 ≤ 12 := by
  unfold syC at h
  by_cases hc : actC p n L q d xs = 0
  · rw [if_pos hc] at h
    by_cases hk : 0 ≤ k ∧ k ≤ (orbL (allL p n.toNat L xs)).length
    · rw [if_pos hk] at h
      by_cases hd : k * max (degI xs) 0 ≤ 12
      · exact ⟨hc, hk, hd⟩
      · rw [if_neg hd] at h; omega
    · rw [if_neg hk] at h; omega
  · rw [if_neg hc] at h; exact absurd h hc
theorem syO_ex {p n : Int} {L : List (Nat → Nat → Int)} {q d : Int} {xs : List Tm} {k : Int} (hby : ∀ x ∈ L, Byt x) (hxb : ∀ t ∈ xs, tmByte t) : ∃ o, SyO p n L q d xs k o := by
  by_cases hc : syC p n L q d xs k = 0
  · obtain ⟨hc', hk, hd⟩ := syC_zero hc
    obtain ⟨m, rfl, rfl, rfl, hG⟩ := grpP_of hby hxb hc'
    have hm := symE_ok hG.p2 hG.p13 hG.valid.d1 hG.valid.d3 (Int.le_max_right _ _) (orbL (allL q m L xs)).reverse (fun X hX => hG.orbB X (List.mem_reverse.1 hX)) k.toNat (by rw [Int.toNat_of_nonneg hk.1]; exact hd)
    exact ⟨_, .inr ⟨hc, m, _, rfl, ⟨rfl, hm.1.isP.len⟩, rfl⟩⟩
  · exact ⟨_, .inl ⟨hc, rfl⟩⟩
theorem syO_cases {p n : Int} {L : List (Nat → Nat → Int)} {q d : Int} {xs : List Tm} {k : Int} {o : OutP} (h : SyO p n L q d xs k o) :
    (actC p n L q d xs ≠ 0 ∧ o = noP (actC p n L q d xs)) ∨ (actC p n L q d xs = 0 ∧ ((¬ (0 ≤ k ∧ k ≤ (orbL (allL p n.toNat L xs)).length) ∧ o = noP 2) ∨ ((0 ≤ k ∧ k ≤ (orbL (allL p n.toNat L xs)).length) ∧ ((12 < k * max (degI xs) 0 ∧ o = noP 3) ∨
      (k * max (degI xs) 0 ≤ 12 ∧ o = ⟨p, n, symE p (orbL (allL p n.toNat L xs)).reverse k.toNat, 0⟩))))) := by
  rcases h with ⟨hc, rfl⟩ | ⟨hc, m, S, rfl, ⟨rfl, _⟩, rfl⟩
  · by_cases ha : actC p n L q d xs = 0
    · by_cases hk : 0 ≤ k ∧ k ≤ (orbL (allL p n.toNat L xs)).length
      · by_cases hd : k * max (degI xs) 0 ≤ 12
        · exact absurd (by unfold syC; rw [if_pos ha, if_pos hk, if_pos hd]) hc
        · exact .inr ⟨ha, .inr ⟨hk, .inl ⟨by omega, by unfold syC; rw [if_pos ha, if_pos hk, if_neg hd]⟩⟩⟩
      · exact .inr ⟨ha, .inl ⟨hk, by unfold syC; rw [if_pos ha, if_neg hk]⟩⟩
    · exact .inl ⟨ha, by unfold syC; rw [if_neg ha]⟩
  · obtain ⟨ha, hk, hd⟩ := syC_zero hc
    exact .inr ⟨ha, .inr ⟨hk, .inr ⟨hd, rfl⟩⟩⟩
theorem deg_k3 {p d : Int} {ts : List Tm} (hV : Valid p d ts) {k : Nat} (h1 : k ≤ 48) : wrap64 ((k : Int) * degI ts) = k * degI ts ∧ wrap64 ((k : Int) * max (degI ts) 0) = k * max (degI ts) 0 ∧ (12 < (k : Int) * degI ts ↔ 12 < (k : Int) * max (degI ts) 0) := by
  obtain ⟨q1, q2⟩ := deg_bound hV
  obtain ⟨m1, m2⟩ := max_deg hV
  have a1 : (k : Int) * degI ts ≤ k * 12 := Int.mul_le_mul_of_nonneg_left q2 (by omega)
  have a2 : (k : Int) * (-1) ≤ k * degI ts := Int.mul_le_mul_of_nonneg_left q1 (by omega)
  have b1 : (k : Int) * max (degI ts) 0 ≤ k * 12 := Int.mul_le_mul_of_nonneg_left m2 (by omega)
  have b2 : 0 ≤ (k : Int) * max (degI ts) 0 := Int.mul_nonneg (by omega) m1
  refine ⟨IntWalk.wrap64_in _ (by omega), IntWalk.wrap64_in _ (by omega), ?_⟩
  by_cases hq : degI ts = -1
  · have h1 : max (degI ts) 0 = 0 := by rw [hq]; rfl
    rw [h1, hq, Int.mul_zero]
    omega
  · have h1 : max (degI ts) 0 = degI ts := Int.max_eq_left (by omega)
    rw [h1]

set_option maxRecDepth 8000 in
set_option maxHeartbeats 8000000 in
theorem stold (p : Int) (m k : Nat) (u v : Value) (xs : List Tm) (O : List (List Tm)) (w : World) (hX : Valid p m xs) (h48 : O.length ≤ 48) (hV : ∀ X ∈ O, Valid p m X ∧ degB X (max (degI xs) 0)) (hk48 : k ≤ 48) (hU : SliceT w u xs) (hS : SlPn w p m v O)
    (o : OutP) (ho : (12 < (k : Int) * max (degI xs) 0 ∧ o = noP 3) ∨ ((k : Int) * max (degI xs) 0 ≤ 12 ∧ o = ⟨p, m, symE p O.reverse k, 0⟩)) :
    Calls Tryz.prog 67 #[.agg #[.int .i64 p, .int .i64 (m : Int), u], v, .int .i64 (k : Int)] w (ResO w o) := by
  obtain ⟨a, cap, rfl, _⟩ := id hS
  rw [List.length_map] at hS ⊢
  obtain ⟨ua, uc, rfl, _⟩ := id hU
  obtain ⟨W, hW, hbW, ⟨hWs1, hWs2⟩, rx, rr⟩ := boxes2 w p (m : Int) (.slice ua xs.length uc)
  obtain ⟨⟨x0, x1, x2⟩, _⟩ := poly3 rx
  have hxl : xs.length ≤ 1048576 := Nat.le_trans hX.isP.len (by omega)
  obtain ⟨_, hw, _⟩ := deg_k3 hX hk48
  go_enter Tryz.func67, Tryz.ntmps67
  go_wp2_with fail
  rw [← hW]
  clear hW
  ((with_reducible refine (specDegree_any p (m : Int) _ xs W hxl (hU.below hbW) hX.byte).mono ?_); rintro e w1 ⟨rfl, hb1⟩)
  have hbw1 := hbW.trans (hb1.mono hbW.size)
  have rr1 := rowIs_below rr hb1 rr.lt
  have rx1 := rowIs_below rx hb1 rx.lt
  clear x0 x1 x2
  rcases ho with ⟨hd, rfl⟩ | ⟨hd, rfl⟩
  · have hn : decide (12 < (k : Int) * max (degI xs) 0) = true := by simpa using hd
    clear hd
    obtain ⟨⟨r0, r1, r2⟩, z0, z1, z2⟩ := poly3 rr1
    obtain ⟨a0, a1, a2, a3, a4⟩ := fill_box (base := w.heap.size) rr1 (ownP_nil w1 w.heap.size) (Nat.le_refl _) hbw1 (by omega) 0 0
    have A0 := Lib.hid a0
    have A1 := Lib.hid a1
    have A2 := Lib.hid a2
    have A3 := Lib.hid a3
    have A4 := Lib.hid a4
    clear a0 a1 a2 a3 a4
    go_wp2_with fail
    exact bodyPost_ret (v := .tuple #[.agg #[.int .i64 0, .int .i64 0, .slice none 0 0], .int .i64 3]) (by simp [results, Tryz.results67, go_sem, A0.out, A1.out, A2.out]) rfl ⟨_, rfl, A3.out, A4.out⟩
  · have hn : decide (12 < (k : Int) * max (degI xs) 0) = false := by simpa using hd
    have HS := Lib.hid (ssym p m k (max (degI xs) 0) (.slice ua xs.length uc) (.slice a O.length cap) O w1 hX.p2 hX.p13 hX.d1 hX.d3 (by omega) (Int.le_max_right _ _) hV hd (by omega) (hS.below hbw1))
    obtain ⟨⟨x0, x1, x2⟩, _⟩ := poly3 rx1
    clear hd hV
    go_wp2_with fail
    ((with_reducible refine HS.out.mono ?_); rintro e w3 ⟨v3, rfl, ho3, hb3⟩)
    obtain ⟨sa3, sc3, rfl⟩ := owns_slice ho3
    have rr3 := rowIs_below rr1 hb3 rr1.lt
    obtain ⟨⟨r0, r1, r2⟩, z0, z1, z2⟩ := poly3 rr3
    obtain ⟨a0, a1, a2, a3, a4⟩ := fill_box (w := w) rr3 ho3 hbw1.size (hbw1.trans (hb3.mono hbw1.size)) (by omega) p (m : Int)
    have A0 := Lib.hid a0
    have A1 := Lib.hid a1
    have A2 := Lib.hid a2
    have A3 := Lib.hid a3
    have A4 := Lib.hid a4
    clear a0 a1 a2 a3 a4
    go_wp2_with fail
    exact bodyPost_ret (v := .tuple #[.agg #[.int .i64 p, .int .i64 (m : Int), .slice sa3 (symE p O.reverse k).length sc3], .int .i64 0]) (by simp [results, Tryz.results67, go_sem, A0.out, A1.out, A2.out]) rfl ⟨_, rfl, A3.out, A4.out⟩

set_option maxRecDepth 8000 in
set_option maxHeartbeats 16000000 in
theorem ssyf (p n : Int) (v : Value) (L : List (Nat → Nat → Int)) (q d : Int) (u : Value) (xs : List Tm) (k : Int) (w : World) (hl : L.length ≤ 1048576) (hS : SlM w v L) (hby : ∀ x ∈ L, Byt x) (hxl : xs.length ≤ 1048576) (hU : SliceT w u xs) (hxb : ∀ t ∈ xs, tmByte t) (o : OutP) (ho : SyO p n L q d xs k o) :
    Calls Tryz.prog 37 #[.agg #[.int .i64 p, .int .i64 n, v], .agg #[.int .i64 q, .int .i64 d, u], .int .i64 k] w (ResO w o) := by
  obtain ⟨W, hW, hbW, ⟨hWs1, hWs2⟩, rg, rx, rr⟩ := boxGPR w p n v q d u
  have hSW := hS.below hbW
  have hUW := hU.below hbW
  obtain ⟨a, cap, rfl, _⟩ := id hS
  obtain ⟨ua, uc, rfl, _⟩ := id hU
  obtain ⟨g0, g1, g2⟩ := gcells rg
  obtain ⟨⟨x0, x1, x2⟩, _⟩ := poly3 rx
  have HBY := Lib.hid hby
  have HXB := Lib.hid hxb
  clear hby hxb
  go_enter Tryz.func37, Tryz.ntmps37
  go_upto_region 1 with fail
  rw [← hW]
  clear hW
  go_wp2_with fail
  ((with_reducible refine (scode3 p n _ L q d _ xs W hl hSW HBY.out hxl hUW HXB.out).mono ?_); rintro e w1 ⟨rfl, hb1⟩)
  have hbw1 := hbW.trans (hb1.mono hbW.size)
  have rg1 := erow_below rg hb1 rg.lt
  have rx1 := erow_below rx hb1 rx.lt
  have rr1 := erow_below rr hb1 rr.lt
  have hS1 := hSW.below hb1
  have hU1 := hUW.below hb1
  have hs1 := hb1.size
  clear g0 g1 g2 x0 x1 x2 rg rx rr hb1
  rcases syO_cases ho with ⟨hc, rfl⟩ | ⟨hc, hrest⟩
  · obtain ⟨C, hC⟩ : ∃ C, actC p n L q d xs = C := ⟨_, rfl⟩
    have HC := Lib.hid hC
    rw [hC] at hc ⊢
    have hc' : (C != 0) = true := by simpa using hc
    clear hc hC ho
    obtain ⟨⟨r0, r1, r2⟩, z0, z1, z2⟩ := poly3 rr1
    obtain ⟨a0, a1, a2, a3, a4⟩ := fill_box (base := w.heap.size) rr1 (ownP_nil w1 w.heap.size) (Nat.le_refl _) hbw1 (by omega) 0 0
    have A0 := Lib.hid a0
    have A1 := Lib.hid a1
    have A2 := Lib.hid a2
    have A3 := Lib.hid a3
    have A4 := Lib.hid a4
    clear a0 a1 a2 a3 a4
    go_wp2_with fail
    exact bodyPost_ret (v := .tuple #[.agg #[.int .i64 0, .int .i64 0, .slice none 0 0], .int .i64 C]) (by simp [results, Tryz.results37, go_sem, A0.out, A1.out, A2.out]) rfl ⟨_, by rw [HC.out]; rfl, A3.out, A4.out⟩
  · obtain ⟨m, rfl, rfl, rfl, hG⟩ := grpP_of HBY.out HXB.out hc
    rw [hc]
    simp only [Int.toNat_natCast] at hrest
    have HV := Lib.hid hG.valid
    have HB := Lib.hid hG.orbB
    have hO1 := hG.orb1
    have hO48 := hG.orb48
    have HPO := Lib.hid (fun v w h1 h2 => spor hG v (.slice ua xs.length uc) w h1 h2)
    obtain ⟨O, hO⟩ : ∃ O, orbL (allL q m L xs) = O := ⟨_, rfl⟩
    rw [hO] at HPO hO1 hO48 HB hrest
    obtain ⟨g0, g1, g2⟩ := gcells rg1
    obtain ⟨⟨x0, x1, x2⟩, _⟩ := poly3 rx1
    clear hc ho hG hO
    go_wp2_with fail
    ((with_reducible refine (HPO.out _ w1 hS1 hU1).mono ?_); rintro e w5 ⟨v5, us, rfl, hP5, HB5⟩)
    have hR5 : SlPn w5 q m v5 O := hP5.slP
    obtain ⟨pa, pc, rfl⟩ := hP5.shape
    have rr5 := rowIs_below rr1 HB5 rr1.lt
    have rx5 := rowIs_below rx1 HB5 rx1.lt
    have hU5 := hU1.below HB5
    have hbw5 := hbw1.trans (HB5.mono hbw1.size)
    obtain ⟨⟨y0, y1, y2⟩, _⟩ := poly3 rx5
    clear g0 g1 g2 x0 x1 x2 HPO rg1 rx1
    rcases hrest with ⟨hk, rfl⟩ | ⟨hk, hrest⟩
    · have HD := Lib.hid (show (decide (0 ≤ k) && decide (k ≤ (O.length : Int))) = false by simpa using hk)
      clear hk
      go_wp2_with fail
      ((with_reducible refine (sin_is k 0 (O.length : Int) w5 _ HD.out).mono ?_); rintro e w2 ⟨rfl, rfl⟩)
      obtain ⟨⟨r0, r1, r2⟩, z0, z1, z2⟩ := poly3 rr5
      obtain ⟨a0, a1, a2, a3, a4⟩ := fill_box (base := w.heap.size) rr5 (ownP_nil w5 w.heap.size) (Nat.le_refl _) hbw5 (by omega) 0 0
      have A0 := Lib.hid a0
      have A1 := Lib.hid a1
      have A2 := Lib.hid a2
      have A3 := Lib.hid a3
      have A4 := Lib.hid a4
      clear a0 a1 a2 a3 a4
      go_wp2_with fail
      exact bodyPost_ret (v := .tuple #[.agg #[.int .i64 0, .int .i64 0, .slice none 0 0], .int .i64 2]) (by simp [results, Tryz.results37, go_sem, A0.out, A1.out, A2.out]) rfl ⟨_, rfl, A3.out, A4.out⟩
    · have HD := Lib.hid (show (decide (0 ≤ k) && decide (k ≤ (O.length : Int))) = true by simpa using hk)
      obtain ⟨k, rfl⟩ := Int.eq_ofNat_of_zero_le hk.1
      rw [Int.toNat_natCast] at hrest
      have hkl := hk.2
      clear hk
      have HT := Lib.hid (stold q m k (.slice ua xs.length uc) (.slice pa O.length pc) xs O w5 HV.out hO48 HB.out (by omega) hU5 hR5 o hrest)
      clear hrest HV HB
      obtain ⟨oP, oD, oS, oc⟩ := o
      go_wp2_with fail
      ((with_reducible refine (sin_is (k : Int) 0 (O.length : Int) w5 _ HD.out).mono ?_); rintro e w2 ⟨rfl, rfl⟩)
      go_wp2_with fail
      ((with_reducible refine HT.out.mono ?_); rintro e w3 ⟨v3, rfl, ho3, hb3⟩)
      simp only at ho3
      obtain ⟨sa3, sc3, rfl⟩ := owns_slice ho3
      obtain ⟨V, hV, hbV, _, rq⟩ := newbox w3 oP oD (.slice sa3 oS.length sc3)
      have hbq := hb3.trans (hbV.mono hb3.size)
      have rr3 := rowIs_below rr5 hbq rr5.lt
      obtain ⟨⟨q0, q1, q2⟩, _⟩ := poly3 rq
      obtain ⟨⟨r0, r1, r2⟩, z0, z1, z2⟩ := poly3 rr3
      obtain ⟨a0, a1, a2, a3, a4⟩ := fill_box (w := w) rr3 (owns_belowT ho3 hbV) hbw5.size (hbw5.trans (hbq.mono hbw5.size)) (by omega) oP oD
      have A0 := Lib.hid a0
      have A1 := Lib.hid a1
      have A2 := Lib.hid a2
      have A3 := Lib.hid a3
      have A4 := Lib.hid a4
      clear a0 a1 a2 a3 a4 HT y0 y1 y2
      go_upto_region 8 with fail
      rw [← hV]
      clear hV
      go_wp2_with fail
      exact bodyPost_ret (v := .tuple #[.agg #[.int .i64 oP, .int .i64 oD, .slice sa3 oS.length sc3], .int .i64 oc]) (by simp [results, Tryz.results37, go_sem, A0.out, A1.out, A2.out]) rfl ⟨_, rfl, A3.out, A4.out⟩

set_option maxRecDepth 8000 in
set_option maxHeartbeats 16000000 in
theorem isyf (p n : Int) (v : Value) (L : List (Nat → Nat → Int)) (q d : Int) (u : Value) (xs : List Tm) (k : Int) (w : World) (hl : L.length ≤ 1048576) (hS : SlM w v L) (hby : ∀ x ∈ L, Byt x) (hxl : xs.length ≤ 1048576) (hU : SliceT w u xs) (hxb : ∀ t ∈ xs, tmByte t) (o : OutP) (ho : SyO p n L q d xs k o) :
    Calls Tryz.prog 38 #[.agg #[.int .i64 p, .int .i64 n, v], .agg #[.int .i64 q, .int .i64 d, u], .int .i64 k] w (ResO w o) := by
  obtain ⟨W, hW, hbW, ⟨hWs1, hWs2⟩, rg, rx, rr⟩ := boxGPR w p n v q d u
  have hSW := hS.below hbW
  have hUW := hU.below hbW
  obtain ⟨a, cap, rfl, _⟩ := id hS
  obtain ⟨ua, uc, rfl, _⟩ := id hU
  obtain ⟨g0, g1, g2⟩ := gcells rg
  obtain ⟨⟨x0, x1, x2⟩, _⟩ := poly3 rx
  have HBY := Lib.hid hby
  have HXB := Lib.hid hxb
  clear hby hxb
  go_enter Tryz.func38, Tryz.ntmps38
  go_upto_region 1 with fail
  rw [← hW]
  clear hW
  go_wp2_with fail
  ((with_reducible refine (icode3 p n _ L q d _ xs W hl hSW HBY.out hxl hUW HXB.out).mono ?_); rintro e w1 ⟨rfl, hb1⟩)
  have hbw1 := hbW.trans (hb1.mono hbW.size)
  have rg1 := erow_below rg hb1 rg.lt
  have rx1 := erow_below rx hb1 rx.lt
  have rr1 := erow_below rr hb1 rr.lt
  have hS1 := hSW.below hb1
  have hU1 := hUW.below hb1
  have hs1 := hb1.size
  clear g0 g1 g2 x0 x1 x2 rg rx rr hb1
  rcases syO_cases ho with ⟨hc, rfl⟩ | ⟨hc, hrest⟩
  · obtain ⟨C, hC⟩ : ∃ C, actC p n L q d xs = C := ⟨_, rfl⟩
    have HC := Lib.hid hC
    rw [hC] at hc ⊢
    have hc' : (C != 0) = true := by simpa using hc
    clear hc hC ho
    obtain ⟨⟨r0, r1, r2⟩, z0, z1, z2⟩ := poly3 rr1
    obtain ⟨a0, a1, a2, a3, a4⟩ := fill_box (base := w.heap.size) rr1 (ownP_nil w1 w.heap.size) (Nat.le_refl _) hbw1 (by omega) 0 0
    have A0 := Lib.hid a0
    have A1 := Lib.hid a1
    have A2 := Lib.hid a2
    have A3 := Lib.hid a3
    have A4 := Lib.hid a4
    clear a0 a1 a2 a3 a4
    go_wp2_with fail
    exact bodyPost_ret (v := .tuple #[.agg #[.int .i64 0, .int .i64 0, .slice none 0 0], .int .i64 C]) (by simp [results, Tryz.results38, go_sem, A0.out, A1.out, A2.out]) rfl ⟨_, by rw [HC.out]; rfl, A3.out, A4.out⟩
  · obtain ⟨m, rfl, rfl, rfl, hG⟩ := grpP_of HBY.out HXB.out hc
    rw [hc]
    simp only [Int.toNat_natCast] at hrest
    have HV := Lib.hid hG.valid
    have HB := Lib.hid hG.orbB
    have hO1 := hG.orb1
    have hO48 := hG.orb48
    have hPS := polyB_sum hG.poly
    have HPS := Lib.hid hPS
    have HAC := Lib.hid (iactions q m (.slice a L.length cap) L w1.drew hl (hS1.below (Below.refl _ _).drew) hG.mat)
    have HPO := Lib.hid (fun v w h1 h2 => ipor hG v (.slice ua xs.length uc) w h1 h2)
    obtain ⟨O, hO⟩ : ∃ O, orbL (allL q m L xs) = O := ⟨_, rfl⟩
    rw [hO] at HPO hO1 hO48 HB hrest
    obtain ⟨g0, g1, g2⟩ := gcells rg1
    obtain ⟨⟨x0, x1, x2⟩, _⟩ := poly3 rx1
    have hbd : Below w1.heap.size w1 w1.drew := (Below.refl _ _).drew
    have X0 : w1.drew.cell? ⟨w.heap.size + 1, 0, none⟩ = some (.int .i64 q) := x0
    have X1 : w1.drew.cell? ⟨w.heap.size + 1, 1, none⟩ = some (.int .i64 (m : Int)) := x1
    have X2 : w1.drew.cell? ⟨w.heap.size + 1, 2, none⟩ = some (.slice ua xs.length uc) := x2
    have hzx : w.heap.size + 1 < w1.drew.heap.size := rx1.lt
    have hUd := hU1.below hbd
    clear hc ho hG hO hPS
    go_wp2_with fail
    go_cut [9] (fun s9 wx => ∃ a c, s9 = .slice a O.length c ∧ SlPn wx q m (.slice a O.length c) O ∧ Below w1.heap.size w1 wx)
    case first =>
      go_region_with (first
        | (go_at_call 53; (with_reducible refine HAC.out.mono ?_); rintro e w3 ⟨v3, rfl, hA3, hb3⟩; (obtain ⟨gb, gc, rfl, _⟩ := id hA3); have Q0 := (hb3.cell (p := ⟨w.heap.size + 1, 0, none⟩) hzx).trans X0; have Q1 := (hb3.cell (p := ⟨w.heap.size + 1, 1, none⟩) hzx).trans X1; have Q2 := (hb3.cell (p := ⟨w.heap.size + 1, 2, none⟩) hzx).trans X2; have HB3 := hbd.trans hb3)
        | (go_at_call 52; (with_reducible refine (HPO.out _ _ hA3 (hUd.below hb3)).mono ?_); rintro e w4 ⟨v4, us4, hi4, rfl, hP4, hb4⟩; have HB4 := HB3.trans (hb4.mono HB3.size)))
      all_goals
        obtain ⟨pa, pc, hv4⟩ := hP4.shape
        subst hv4
        go_wp2_with fail
        go_meet
        exact ⟨pa, pc, rfl, hP4.slP, HB4⟩
    case rest =>
    rename World => w5
    obtain ⟨pa, pc, rfl, hR5, HB5⟩ := hcut
    have rr5 := rowIs_below rr1 HB5 rr1.lt
    have rx5 := rowIs_below rx1 HB5 rx1.lt
    have hU5 := hU1.below HB5
    have hbw5 := hbw1.trans (HB5.mono hbw1.size)
    obtain ⟨⟨y0, y1, y2⟩, _⟩ := poly3 rx5
    clear g0 g1 g2 x0 x1 x2 X0 X1 X2 hzx hUd HAC HPO rg1 rx1
    rcases hrest with ⟨hk, rfl⟩ | ⟨hk, hrest⟩
    · obtain ⟨⟨r0, r1, r2⟩, z0, z1, z2⟩ := poly3 rr5
      obtain ⟨a0, a1, a2, a3, a4⟩ := fill_box (base := w.heap.size) rr5 (ownP_nil w5 w.heap.size) (Nat.le_refl _) hbw5 (by omega) 0 0
      have A0 := Lib.hid a0
      have A1 := Lib.hid a1
      have A2 := Lib.hid a2
      have A3 := Lib.hid a3
      have A4 := Lib.hid a4
      clear a0 a1 a2 a3 a4
      by_cases hk1 : k < 0
      · go_wp2_with fail
        exact bodyPost_ret (v := .tuple #[.agg #[.int .i64 0, .int .i64 0, .slice none 0 0], .int .i64 2]) (by simp [results, Tryz.results38, go_sem, A0.out, A1.out, A2.out]) rfl ⟨_, rfl, A3.out, A4.out⟩
      · have hk2 : (O.length : Int) < k := by omega
        go_wp2_with fail
        exact bodyPost_ret (v := .tuple #[.agg #[.int .i64 0, .int .i64 0, .slice none 0 0], .int .i64 2]) (by simp [results, Tryz.results38, go_sem, A0.out, A1.out, A2.out]) rfl ⟨_, rfl, A3.out, A4.out⟩
    · obtain ⟨k, rfl⟩ := Int.eq_ofNat_of_zero_le hk.1
      rw [Int.toNat_natCast] at hrest
      have hkl : k ≤ O.length := by omega
      have hk1 : ¬ (k : Int) < 0 := by omega
      have hk2 : ¬ (O.length : Int) < (k : Int) := by omega
      have hk3 : ¬ O.length < k := by omega
      obtain ⟨hw, _, hiff⟩ := deg_k3 HV.out (k := k) (by omega)
      have HIF := Lib.hid hiff
      have hDG := Lib.hid (degree_any2 q (m : Int) (.slice ua xs.length uc) xs w5 hxl hU5 HXB.out HPS.out)
      clear hk hiff
      go_wp2_with fail
      ((with_reducible refine hDG.out.mono ?_); rintro e w6 ⟨rfl, hb6⟩)
      have rr6 := rowIs_below rr5 hb6 rr5.lt
      have hbw6 := hbw5.trans (hb6.mono hbw5.size)
      have hR6 : SlPn w6 q m (.slice pa O.length pc) O := hR5.below hb6
      clear hDG y0 y1 y2
      rcases hrest with ⟨hd, rfl⟩ | ⟨hd, rfl⟩
      · have hn := HIF.out.2 hd
        have hn' : 12 < wrap64 ((k : Int) * degI xs) := by rw [hw]; exact hn
        clear hd
        obtain ⟨⟨r0, r1, r2⟩, z0, z1, z2⟩ := poly3 rr6
        obtain ⟨a0, a1, a2, a3, a4⟩ := fill_box (base := w.heap.size) rr6 (ownP_nil w6 w.heap.size) (Nat.le_refl _) hbw6 (by omega) 0 0
        have A0 := Lib.hid a0
        have A1 := Lib.hid a1
        have A2 := Lib.hid a2
        have A3 := Lib.hid a3
        have A4 := Lib.hid a4
        clear a0 a1 a2 a3 a4
        go_wp2_with fail
        exact bodyPost_ret (v := .tuple #[.agg #[.int .i64 0, .int .i64 0, .slice none 0 0], .int .i64 3]) (by simp [results, Tryz.results38, go_sem, A0.out, A1.out, A2.out]) rfl ⟨_, rfl, A3.out, A4.out⟩
      · have hn : ¬ 12 < (k : Int) * degI xs := fun h => by have := HIF.out.1 h; omega
        have hn' : ¬ 12 < wrap64 ((k : Int) * degI xs) := by rw [hw]; exact hn
        have HP := Lib.hid (iprods q m k (max (degI xs) 0) (.slice pa O.length pc) O w6 HV.out.p2 HV.out.p13 HV.out.d1 HV.out.d3 hO1 (by omega) (Int.le_max_right _ _) HB.out hd (by omega) hR6)
        clear hd
        go_wp2_with fail
        ((with_reducible refine HP.out.mono ?_); rintro e w3 ⟨v3, rfl, ho3, hb3⟩)
        obtain ⟨sa3, sc3, rfl⟩ := owns_slice ho3
        have rr3 := rowIs_below rr6 hb3 rr6.lt
        obtain ⟨⟨r0, r1, r2⟩, z0, z1, z2⟩ := poly3 rr3
        obtain ⟨a0, a1, a2, a3, a4⟩ := fill_box (w := w) rr3 ho3 hbw6.size (hbw6.trans (hb3.mono hbw6.size)) (by omega) q (m : Int)
        have A0 := Lib.hid a0
        have A1 := Lib.hid a1
        have A2 := Lib.hid a2
        have A3 := Lib.hid a3
        have A4 := Lib.hid a4
        clear a0 a1 a2 a3 a4
        go_wp2_with fail
        exact bodyPost_ret (v := .tuple #[.agg #[.int .i64 q, .int .i64 (m : Int), .slice sa3 (symE q O.reverse k).length sc3], .int .i64 0]) (by simp [results, Tryz.results38, go_sem, A0.out, A1.out, A2.out]) rfl ⟨_, rfl, A3.out, A4.out⟩
end Go.Proofs.YtllklhakbanhaaaGreat
