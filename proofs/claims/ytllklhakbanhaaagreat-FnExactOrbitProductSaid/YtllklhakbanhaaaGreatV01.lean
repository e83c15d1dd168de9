/-
  WALKS: 'spec.OrbitProduct', 'impl.OrbitProduct'. Conditions: the numbers fit their kinds.
  The law of 'FnExactOrbitProduct', walked. Conditions: as the theorem states.
-/
import Derived.Test.YtllklhakbanhaaaGreatS04
import Derived.Test.YtllklhakbanhaaaGreatQ43
namespace Go.Proofs.YtllklhakbanhaaaGreat
open Go.RowKit Go.Sort Go.Maps EchM

theorem symE_over {p d g : Int} (hp2 : 2 ≤ p) (hp13 : p ≤ 13) (d1 : 1 ≤ d) (d3 : d ≤ 3) (hg : 0 ≤ g) : ∀ (r : List (List Tm)) (j : Nat), (∀ Y ∈ r, Valid p d Y ∧ degB Y g) → r.length < j → (j : Int) * g ≤ 12 → symE p r j = []
  | [], j + 1, _, _, _ => symE_nil p j
  | X :: r, j + 1, h, hj, hk => by
    have hj' : r.length < j := by simpa using hj
    have e0 : ((j + 1 : Nat) : Int) * g = j * g + g := by rw [Int.natCast_add, Int.add_mul]; simp
    have e1 := symE_over hp2 hp13 d1 d3 hg r j (fun Y hY => h Y (by simp [hY])) hj' (by omega)
    have e2 := symE_over hp2 hp13 d1 d3 hg r (j + 1) (fun Y hY => h Y (by simp [hY])) (by omega) hk
    exact (symE_step hp2 hp13 d1 d3 hg (X := X) (r := r) h (j := j) hk (M := []) (S := []) (by rw [e1]; exact (IsP.nil p).congr fun e _ => by simp [mulF, mulS]) (by rw [e2]; exact (IsP.nil p).congr fun e _ => by simp [sumK, sumA, atL])).symm
theorem symE_prod {p d g : Int} (hp2 : 2 ≤ p) (hp13 : p ≤ 13) (d1 : 1 ≤ d) (d3 : d ≤ 3) (hg : 0 ≤ g) {X : List Tm} {r : List (List Tm)} (h : ∀ Y ∈ X :: r, Valid p d Y ∧ degB Y g) (hk : ((r.length + 1 : Nat) : Int) * g ≤ 12) {M : List Tm} (hM : IsP p M (mulF p (symE p r r.length) X)) : M = symE p (X :: r) (r.length + 1) := by
  have hV := isP_valid (d := d) hM hp2 hp13 d1 d3
  refine symE_step hp2 hp13 d1 d3 hg h hk hM ?_
  rw [symE_over hp2 hp13 d1 d3 hg r (r.length + 1) (fun Y hY => h Y (by simp [hY])) (by omega) hk]
  refine hV.isP.congr fun e he => ?_
  obtain ⟨h0, h1⟩ := hV.isP.bound (by omega) he
  simp [sumK, sumA, atL]
  exact (Int.emod_eq_of_lt h0 h1).symm
noncomputable def opC (p n : Int) (L : List (Nat → Nat → Int)) (q d : Int) (xs : List Tm) : Int :=
  if actC p n L q d xs = 0 then (if ((orbL (allL p n.toNat L xs)).length : Int) * max (degI xs) 0 ≤ 12 then 0 else 3) else actC p n L q d xs
def opR (p : Int) (L : List (Nat → Nat → Int)) (xs : List Tm) (m : Nat) (S : List Tm) : Prop := S = symE p (orbL (allL p m L xs)).reverse (orbL (allL p m L xs)).length ∧ S.length ≤ 2197
abbrev OpO (p n : Int) (L : List (Nat → Nat → Int)) (q d : Int) (xs : List Tm) (o : OutP) : Prop := GpO p n (opC p n L q d xs) (opR p L xs) o
theorem opO_len {p n : Int} {L : List (Nat → Nat → Int)} {q d : Int} {xs : List Tm} {o : OutP} (h : OpO p n L q d xs o) : o.S.length ≤ 1048576 :=
  gpO_len (fun _ _ hS => Nat.le_trans hS.2 (by omega)) h
theorem opC_zero {p n : Int} {L : List (Nat → Nat → Int)} {q d : Int} {xs : List Tm} (h : opC p n L q d xs = 0) : actC p n L q d xs = 0 ∧ ((orbL (allL p n.toNat L xs)).length : Int) * max (degI xs) 0 ≤ 12 := by
  unfold opC at h
  by_cases hc : actC p n L q d xs = 0
  · rw [if_pos hc] at h
    by_cases hd : ((orbL (allL p n.toNat L xs)).length : Int) * max (degI xs) 0 ≤ 12
    · exact ⟨hc, hd⟩
    · rw [if_neg hd] at h; omega
  · rw [if_neg hc] at h; exact absurd h hc
theorem opO_ex {p n : Int} {L : List (Nat → Nat → Int)} {q d : Int} {xs : List Tm} (hby : ∀ x ∈ L, Byt x) (hxb : ∀ t ∈ xs, tmByte t) : ∃ o, OpO p n L q d xs o := by
  by_cases hc : opC p n L q d xs = 0
  · obtain ⟨hc', hd⟩ := opC_zero hc
    obtain ⟨m, rfl, rfl, rfl, hG⟩ := grpP_of hby hxb hc'
    have hm := symE_ok hG.p2 hG.p13 hG.valid.d1 hG.valid.d3 (Int.le_max_right _ _) (orbL (allL q m L xs)).reverse (fun X hX => hG.orbB X (List.mem_reverse.1 hX)) (orbL (allL q m L xs)).length hd
    exact ⟨_, .inr ⟨hc, m, _, rfl, ⟨rfl, hm.1.isP.len⟩, rfl⟩⟩
  · exact ⟨_, .inl ⟨hc, rfl⟩⟩
theorem opO_cases {p n : Int} {L : List (Nat → Nat → Int)} {q d : Int} {xs : List Tm} {o : OutP} (h : OpO p n L q d xs o) :
    (actC p n L q d xs ≠ 0 ∧ o = noP (actC p n L q d xs)) ∨ (actC p n L q d xs = 0 ∧ ((12 < ((orbL (allL p n.toNat L xs)).length : Int) * max (degI xs) 0 ∧ o = noP 3) ∨
      (((orbL (allL p n.toNat L xs)).length : Int) * max (degI xs) 0 ≤ 12 ∧ o = ⟨p, n, symE p (orbL (allL p n.toNat L xs)).reverse (orbL (allL p n.toNat L xs)).length, 0⟩))) := by
  rcases h with ⟨hc, rfl⟩ | ⟨hc, m, S, rfl, ⟨rfl, _⟩, rfl⟩
  · by_cases ha : actC p n L q d xs = 0
    · by_cases hd : ((orbL (allL p n.toNat L xs)).length : Int) * max (degI xs) 0 ≤ 12
      · exact absurd (by unfold opC; rw [if_pos ha, if_pos hd]) hc
      · exact .inr ⟨ha, .inl ⟨by omega, by unfold opC; rw [if_pos ha, if_neg hd]⟩⟩
    · exact .inl ⟨ha, by unfold opC; rw [if_neg ha]⟩
  · obtain ⟨ha, hd⟩ := opC_zero hc
    exact .inr ⟨ha, .inr ⟨hd, rfl⟩⟩

set_option maxRecDepth 8000 in
set_option maxHeartbeats 16000000 in
theorem sopr (p n : Int) (v : Value) (L : List (Nat → Nat → Int)) (q d : Int) (u : Value) (xs : List Tm) (w : World) (hl : L.length ≤ 1048576) (hS : SlM w v L) (hby : ∀ x ∈ L, Byt x) (hxl : xs.length ≤ 1048576) (hU : SliceT w u xs) (hxb : ∀ t ∈ xs, tmByte t) (o : OutP) (ho : OpO p n L q d xs o) :
    Calls Tryz.prog 35 #[.agg #[.int .i64 p, .int .i64 n, v], .agg #[.int .i64 q, .int .i64 d, u]] w (ResO w o) := by
  obtain ⟨W, hW, hbW, ⟨hWs1, hWs2⟩, rg, rx, rr⟩ := boxGPR w p n v q d u
  have hSW := hS.below hbW
  have hUW := hU.below hbW
  obtain ⟨a, cap, rfl, _⟩ := id hS
  obtain ⟨ua, uc, rfl, _⟩ := id hU
  obtain ⟨g0, g1, g2⟩ := gcells rg
  obtain ⟨⟨x0, x1, x2⟩, _⟩ := poly3 rx
  have HBY := Lib.hid hby
  have HXB := Lib.hid hxb
  clear hby hxb
  go_enter Tryz.func35, Tryz.ntmps35
  go_upto_region 1 with fail
  rw [← hW]
  clear hW
  go_wp2_with fail
  ((with_reducible refine (scode3 p n _ L q d _ xs W hl hSW HBY.out hxl hUW HXB.out).mono ?_); rintro e w1 ⟨rfl, hb1⟩)
  have hbw1 := hbW.trans (hb1.mono hbW.size)
  have rg1 := erow_below rg hb1 rg.lt
  have rx1 := erow_below rx hb1 rx.lt
  have rr1 := erow_below rr hb1 rr.lt
  have hS1 := hSW.below hb1
  have hU1 := hUW.below hb1
  have hs1 := hb1.size
  clear g0 g1 g2 x0 x1 x2 rg rx rr hb1
  rcases opO_cases ho with ⟨hc, rfl⟩ | ⟨hc, hrest⟩
  · obtain ⟨C, hC⟩ : ∃ C, actC p n L q d xs = C := ⟨_, rfl⟩
    have HC := Lib.hid hC
    rw [hC] at hc ⊢
    have hc' : (C != 0) = true := by simpa using hc
    clear hc hC ho
    obtain ⟨⟨r0, r1, r2⟩, z0, z1, z2⟩ := poly3 rr1
    obtain ⟨a0, a1, a2, a3, a4⟩ := fill_box (base := w.heap.size) rr1 (ownP_nil w1 w.heap.size) (Nat.le_refl _) hbw1 (by omega) 0 0
    have A0 := Lib.hid a0
    have A1 := Lib.hid a1
    have A2 := Lib.hid a2
    have A3 := Lib.hid a3
    have A4 := Lib.hid a4
    clear a0 a1 a2 a3 a4
    go_wp2_with fail
    exact bodyPost_ret (v := .tuple #[.agg #[.int .i64 0, .int .i64 0, .slice none 0 0], .int .i64 C]) (by simp [results, Tryz.results35, go_sem, A0.out, A1.out, A2.out]) rfl ⟨_, by rw [HC.out]; rfl, A3.out, A4.out⟩
  · obtain ⟨m, rfl, rfl, rfl, hG⟩ := grpP_of HBY.out HXB.out hc
    rw [hc]
    simp only [Int.toNat_natCast] at hrest
    have HV := Lib.hid hG.valid
    have HB := Lib.hid hG.orbB
    have hO1 := hG.orb1
    have hO48 := hG.orb48
    have HPO := Lib.hid (fun v w h1 h2 => spor hG v (.slice ua xs.length uc) w h1 h2)
    obtain ⟨O, hO⟩ : ∃ O, orbL (allL q m L xs) = O := ⟨_, rfl⟩
    rw [hO] at HPO hO1 hO48 HB hrest
    obtain ⟨g0, g1, g2⟩ := gcells rg1
    obtain ⟨⟨x0, x1, x2⟩, _⟩ := poly3 rx1
    clear hc ho hG hO
    go_wp2_with fail
    ((with_reducible refine (HPO.out _ w1 hS1 hU1).mono ?_); rintro e w5 ⟨v5, us, rfl, hP5, HB5⟩)
    have hR5 : SlPn w5 q m v5 O := hP5.slP
    obtain ⟨pa, pc, rfl⟩ := hP5.shape
    have rr5 := rowIs_below rr1 HB5 rr1.lt
    have rx5 := rowIs_below rx1 HB5 rx1.lt
    have hU5 := hU1.below HB5
    have hbw5 := hbw1.trans (HB5.mono hbw1.size)
    obtain ⟨⟨y0, y1, y2⟩, _⟩ := poly3 rx5
    clear g0 g1 g2 x0 x1 x2 HPO rg1 rx1
    have HT := Lib.hid (stold q m O.length (.slice ua xs.length uc) (.slice pa O.length pc) xs O w5 HV.out hO48 HB.out hO48 hU5 hR5 o hrest)
    clear hrest HV HB
    obtain ⟨oP, oD, oS, oc⟩ := o
    go_wp2_with fail
    ((with_reducible refine HT.out.mono ?_); rintro e w3 ⟨v3, rfl, ho3, hb3⟩)
    simp only at ho3
    obtain ⟨sa3, sc3, rfl⟩ := owns_slice ho3
    obtain ⟨V, hV, hbV, _, rq⟩ := newbox w3 oP oD (.slice sa3 oS.length sc3)
    have hbq := hb3.trans (hbV.mono hb3.size)
    have rr3 := rowIs_below rr5 hbq rr5.lt
    obtain ⟨⟨q0, q1, q2⟩, _⟩ := poly3 rq
    obtain ⟨⟨r0, r1, r2⟩, z0, z1, z2⟩ := poly3 rr3
    obtain ⟨a0, a1, a2, a3, a4⟩ := fill_box (w := w) rr3 (owns_belowT ho3 hbV) hbw5.size (hbw5.trans (hbq.mono hbw5.size)) (by omega) oP oD
    have A0 := Lib.hid a0
    have A1 := Lib.hid a1
    have A2 := Lib.hid a2
    have A3 := Lib.hid a3
    have A4 := Lib.hid a4
    clear a0 a1 a2 a3 a4 HT y0 y1 y2
    go_upto_region 6 with fail
    rw [← hV]
    clear hV
    go_wp2_with fail
    exact bodyPost_ret (v := .tuple #[.agg #[.int .i64 oP, .int .i64 oD, .slice sa3 oS.length sc3], .int .i64 oc]) (by simp [results, Tryz.results35, go_sem, A0.out, A1.out, A2.out]) rfl ⟨_, rfl, A3.out, A4.out⟩

set_option maxRecDepth 8000 in
set_option maxHeartbeats 16000000 in
theorem iopr (p n : Int) (v : Value) (L : List (Nat → Nat → Int)) (q d : Int) (u : Value) (xs : List Tm) (w : World) (hl : L.length ≤ 1048576) (hS : SlM w v L) (hby : ∀ x ∈ L, Byt x) (hxl : xs.length ≤ 1048576) (hU : SliceT w u xs) (hxb : ∀ t ∈ xs, tmByte t) (o : OutP) (ho : OpO p n L q d xs o) :
    Calls Tryz.prog 36 #[.agg #[.int .i64 p, .int .i64 n, v], .agg #[.int .i64 q, .int .i64 d, u]] w (ResO w o) := by
  obtain ⟨W, hW, hbW, ⟨hWs1, hWs2⟩, rg, rx, rr⟩ := boxGPR w p n v q d u
  have hSW := hS.below hbW
  have hUW := hU.below hbW
  obtain ⟨a, cap, rfl, _⟩ := id hS
  obtain ⟨ua, uc, rfl, _⟩ := id hU
  obtain ⟨g0, g1, g2⟩ := gcells rg
  obtain ⟨⟨x0, x1, x2⟩, _⟩ := poly3 rx
  have HBY := Lib.hid hby
  have HXB := Lib.hid hxb
  clear hby hxb
  go_enter Tryz.func36, Tryz.ntmps36
  go_upto_region 1 with fail
  rw [← hW]
  clear hW
  go_wp2_with fail
  ((with_reducible refine (icode3 p n _ L q d _ xs W hl hSW HBY.out hxl hUW HXB.out).mono ?_); rintro e w1 ⟨rfl, hb1⟩)
  have hbw1 := hbW.trans (hb1.mono hbW.size)
  have rg1 := erow_below rg hb1 rg.lt
  have rx1 := erow_below rx hb1 rx.lt
  have rr1 := erow_below rr hb1 rr.lt
  have hS1 := hSW.below hb1
  have hU1 := hUW.below hb1
  have hs1 := hb1.size
  clear g0 g1 g2 x0 x1 x2 rg rx rr hb1
  rcases opO_cases ho with ⟨hc, rfl⟩ | ⟨hc, hrest⟩
  · obtain ⟨C, hC⟩ : ∃ C, actC p n L q d xs = C := ⟨_, rfl⟩
    have HC := Lib.hid hC
    rw [hC] at hc ⊢
    have hc' : (C != 0) = true := by simpa using hc
    clear hc hC ho
    obtain ⟨⟨r0, r1, r2⟩, z0, z1, z2⟩ := poly3 rr1
    obtain ⟨a0, a1, a2, a3, a4⟩ := fill_box (base := w.heap.size) rr1 (ownP_nil w1 w.heap.size) (Nat.le_refl _) hbw1 (by omega) 0 0
    have A0 := Lib.hid a0
    have A1 := Lib.hid a1
    have A2 := Lib.hid a2
    have A3 := Lib.hid a3
    have A4 := Lib.hid a4
    clear a0 a1 a2 a3 a4
    go_wp2_with fail
    exact bodyPost_ret (v := .tuple #[.agg #[.int .i64 0, .int .i64 0, .slice none 0 0], .int .i64 C]) (by simp [results, Tryz.results36, go_sem, A0.out, A1.out, A2.out]) rfl ⟨_, by rw [HC.out]; rfl, A3.out, A4.out⟩
  · obtain ⟨m, rfl, rfl, rfl, hG⟩ := grpP_of HBY.out HXB.out hc
    rw [hc]
    simp only [Int.toNat_natCast] at hrest
    have HV := Lib.hid hG.valid
    have HB := Lib.hid hG.orbB
    have hO1 := hG.orb1
    have hO48 := hG.orb48
    have hPS := polyB_sum hG.poly
    have HPS := Lib.hid hPS
    have HAC := Lib.hid (iactions q m (.slice a L.length cap) L w1.drew hl (hS1.below (Below.refl _ _).drew) hG.mat)
    have HPO := Lib.hid (fun v w h1 h2 => ipor hG v (.slice ua xs.length uc) w h1 h2)
    obtain ⟨O, hO⟩ : ∃ O, orbL (allL q m L xs) = O := ⟨_, rfl⟩
    rw [hO] at HPO hO1 hO48 HB hrest
    obtain ⟨g0, g1, g2⟩ := gcells rg1
    obtain ⟨⟨x0, x1, x2⟩, _⟩ := poly3 rx1
    have hbd : Below w1.heap.size w1 w1.drew := (Below.refl _ _).drew
    have X0 : w1.drew.cell? ⟨w.heap.size + 1, 0, none⟩ = some (.int .i64 q) := x0
    have X1 : w1.drew.cell? ⟨w.heap.size + 1, 1, none⟩ = some (.int .i64 (m : Int)) := x1
    have X2 : w1.drew.cell? ⟨w.heap.size + 1, 2, none⟩ = some (.slice ua xs.length uc) := x2
    have hzx : w.heap.size + 1 < w1.drew.heap.size := rx1.lt
    have hUd := hU1.below hbd
    clear hc ho hG hO hPS
    go_wp2_with fail
    go_cut [7] (fun s9 wx => ∃ a c, s9 = .slice a O.length c ∧ SlPn wx q m (.slice a O.length c) O ∧ Below w1.heap.size w1 wx)
    case first =>
      go_region_with (first
        | (go_at_call 53; (with_reducible refine HAC.out.mono ?_); rintro e w3 ⟨v3, rfl, hA3, hb3⟩; (obtain ⟨gb, gc, rfl, _⟩ := id hA3); have Q0 := (hb3.cell (p := ⟨w.heap.size + 1, 0, none⟩) hzx).trans X0; have Q1 := (hb3.cell (p := ⟨w.heap.size + 1, 1, none⟩) hzx).trans X1; have Q2 := (hb3.cell (p := ⟨w.heap.size + 1, 2, none⟩) hzx).trans X2; have HB3 := hbd.trans hb3)
        | (go_at_call 52; (with_reducible refine (HPO.out _ _ hA3 (hUd.below hb3)).mono ?_); rintro e w4 ⟨v4, us4, hi4, rfl, hP4, hb4⟩; have HB4 := HB3.trans (hb4.mono HB3.size)))
      all_goals
        obtain ⟨pa, pc, hv4⟩ := hP4.shape
        subst hv4
        go_wp2_with fail
        go_meet
        exact ⟨pa, pc, rfl, hP4.slP, HB4⟩
    case rest =>
    rename World => w5
    obtain ⟨pa, pc, rfl, hR5, HB5⟩ := hcut
    have rr5 := rowIs_below rr1 HB5 rr1.lt
    have rx5 := rowIs_below rx1 HB5 rx1.lt
    have hU5 := hU1.below HB5
    have hbw5 := hbw1.trans (HB5.mono hbw1.size)
    obtain ⟨⟨y0, y1, y2⟩, _⟩ := poly3 rx5
    clear g0 g1 g2 x0 x1 x2 X0 X1 X2 hzx hUd HAC HPO rg1 rx1
    obtain ⟨hw, _, hiff⟩ := deg_k3 HV.out (k := O.length) hO48
    have HIF := Lib.hid hiff
    have hDG := Lib.hid (degree_any2 q (m : Int) (.slice ua xs.length uc) xs w5 hxl hU5 HXB.out HPS.out)
    clear hiff
    go_wp2_with fail
    ((with_reducible refine hDG.out.mono ?_); rintro e w6 ⟨rfl, hb6⟩)
    have rr6 := rowIs_below rr5 hb6 rr5.lt
    have rx6 := rowIs_below rx5 hb6 rx5.lt
    have hbw6 := hbw5.trans (hb6.mono hbw5.size)
    have hR6 : SlPn w6 q m (.slice pa O.length pc) O := hR5.below hb6
    clear hDG y0 y1 y2
    rcases hrest with ⟨hd, rfl⟩ | ⟨hd, rfl⟩
    · have hn := HIF.out.2 hd
      have hn' : 12 < wrap64 ((O.length : Int) * degI xs) := by rw [hw]; exact hn
      clear hd
      obtain ⟨⟨r0, r1, r2⟩, z0, z1, z2⟩ := poly3 rr6
      obtain ⟨a0, a1, a2, a3, a4⟩ := fill_box (base := w.heap.size) rr6 (ownP_nil w6 w.heap.size) (Nat.le_refl _) hbw6 (by omega) 0 0
      have A0 := Lib.hid a0
      have A1 := Lib.hid a1
      have A2 := Lib.hid a2
      have A3 := Lib.hid a3
      have A4 := Lib.hid a4
      clear a0 a1 a2 a3 a4
      go_wp2_with fail
      exact bodyPost_ret (v := .tuple #[.agg #[.int .i64 0, .int .i64 0, .slice none 0 0], .int .i64 3]) (by simp [results, Tryz.results36, go_sem, A0.out, A1.out, A2.out]) rfl ⟨_, rfl, A3.out, A4.out⟩
    · have hn : ¬ 12 < (O.length : Int) * degI xs := fun h => by have := HIF.out.1 h; omega
      have hn' : ¬ 12 < wrap64 ((O.length : Int) * degI xs) := by rw [hw]; exact hn
      have HK := Lib.hid hd
      have hg : 0 ≤ max (degI xs) 0 := Int.le_max_right _ _
      obtain ⟨⟨y0, y1, y2⟩, _⟩ := poly3 rx6
      generalize hgg : max (degI xs) 0 = g at *
      have hp2 := HV.out.p2
      have hp13 := HV.out.p13
      have d1 := HV.out.d1
      have d3 := HV.out.d3
      clear hd
      go_wp2_with fail
      ((with_reducible refine (constant_any q (m : Int) 1 w6 (by omega) (by omega)).mono ?_); rintro e w7 ⟨v7, rfl, ho7, hb7⟩)
      rw [constL_one] at ho7
      obtain ⟨sa, sc, hv7⟩ := owns_slice ho7
      have hv7 : v7 = .slice sa 1 sc := hv7
      subst hv7
      obtain ⟨V, hV, hbV, _, rq⟩ := newbox w7 q (m : Int) (.slice sa 1 sc)
      have hoV : OwnP V w6.heap.size (.slice sa 1 sc) (symE q (O.take 0).reverse 0) := by rw [symE_zero]; exact owns_belowT ho7 hbV
      have hb6V := hb7.trans (hbV.mono hb7.size)
      obtain ⟨bx, hbx⟩ : ∃ bx, w7.heap.size = bx := ⟨_, rfl⟩
      have hb7s := hb7.size
      go_upto_region 8 with fail
      rw [← hV]
      clear hV
      rw [hbx] at rq hb7s
      clear hbx hbV y0 y1 y2 ho7 hb7
      go_wp2_with fail
      go_loopw [36] (fun i wr => ∃ (i1 : Nat) (sv : Value), i1 ≤ O.length ∧ i = .int .i64 i1 ∧ wr.rowIs bx 39 3 (polyF q (m : Int) sv) ∧ OwnP wr w6.heap.size sv (symE q (O.take i1).reverse i1) ∧ Below w6.heap.size w6 wr) (fun i _ => O.length - (intOf i).toNat)
      case atStart => exact ⟨0, _, by omega, rfl, rq, hoV, hb6V⟩
      case round =>
        clear rq hoV hb6V
        obtain ⟨i1, sv, hi, rfl, rq, hoS, hbr⟩ := hrel
        obtain ⟨wo, hwo⟩ : ∃ wo : World, wo = wr := ⟨_, rfl⟩
        subst hwo
        obtain ⟨ss, sk, rfl⟩ := owns_slice hoS
        by_cases hlt : i1 < O.length
        · have hlt' : (i1 : Int) < (O.length : Int) := by omega
          obtain ⟨bl, off, uu, rfl, hbl, _, c0, c1, c2, hT⟩ := SlP.nth (hR6.below hbr) hlt
          have HVX := Lib.hid (HB.out O[i1] (List.getElem_mem hlt))
          have HR := Lib.hid (fun (Y : List Tm) (hY : Y ∈ (O.take i1).reverse) => HB.out Y (List.mem_of_mem_take (List.mem_reverse.1 hY)))
          have HTR := Lib.hid (take_rev O i1 hlt)
          have hrl : (O.take i1).reverse.length = i1 := by rw [List.length_reverse, List.length_take]; omega
          generalize O[i1] = X at *
          have hjg : ((i1 + 1 : Nat) : Int) * g ≤ 12 := Int.le_trans (Int.mul_le_mul_of_nonneg_right (by omega) hg) HK.out
          have hjg2 : (i1 : Int) * g + g ≤ 12 := by
            have e : ((i1 + 1 : Nat) : Int) * g = i1 * g + g := by rw [Int.natCast_add, Int.add_mul]; simp
            omega
          have HAV := Lib.hid (symE_ok hp2 hp13 d1 d3 hg _ HR.out i1 (by omega))
          have HPR := Lib.hid (fun M h => symE_prod hp2 hp13 d1 d3 hg (X := X) (r := (O.take i1).reverse) (fun Y hY => by rcases List.mem_cons.1 hY with h | h; exact h ▸ HVX.out; exact HR.out Y h) (by rw [hrl]; exact hjg) (M := M) h)
          rw [hrl, ← HTR.out] at HPR
          obtain ⟨Z, hZ⟩ : ∃ Z, symE q (O.take (i1 + 1)).reverse (i1 + 1) = Z := ⟨_, rfl⟩
          rw [hZ] at HPR
          have HZ := Lib.hid hZ
          clear hZ
          generalize symE q (O.take i1).reverse i1 = A at *
          have HFT := Lib.hid (degB_fits HAV.out.2 HVX.out.2 hjg2)
          have HVA := Lib.hid HAV.out.1
          obtain ⟨ua2, uc2, rfl, _⟩ := id hT
          obtain ⟨V2, hV2, hbV2, _, rq2⟩ := newbox wo q (m : Int) (.slice ua2 X.length uc2)
          have rqV := rowIs_below rq hbV2 rq.lt
          have hoV := OwnP.slice (owns_belowT hoS hbV2)
          have hXV := hT.below hbV2
          have hbrV := hbr.trans (hbV2.mono hbr.size)
          obtain ⟨⟨q0, q1, q2⟩, _⟩ := poly3 rqV
          obtain ⟨⟨b0, b1, b2⟩, _⟩ := poly3 rq2
          clear HAV hrl
          go_upto_region 11 with fail
          rw [← hV2]
          clear hV2 c0 c1 c2 hT rq hoS
          go_wp2_with fail
          ((with_reducible refine (product_any q (m : Int) _ _ A X V2 hoV hXV HVA.out HVX.out.1 HFT.out).mono ?_); rintro e w8 ⟨v8, L8, rfl, ho8, hI8, hb8⟩)
          obtain rfl : L8 = Z := HPR.out _ hI8
          obtain ⟨s8, k8, rfl⟩ := owns_slice ho8
          have rq8 := rowIs_below rqV hb8 rqV.lt
          obtain ⟨⟨e0, e1, e2⟩, f0, f1, f2⟩ := poly3 rq8
          have hset := setB3 rq8 (OwnP.slice ho8) q (m : Int)
          have hoN : OwnP _ w6.heap.size (.slice s8 L8.length k8) L8 := owns_low (rep_own3 (i0 := 0) (i1 := 1) (i2 := 2) (x0 := .int .i64 q) (x1 := .int .i64 (m : Int)) (x2 := .slice s8 L8.length k8) ho8 rq8) hbrV.size
          have hbN := setL3 (hbrV.trans (hb8.mono hbrV.size)) (B0 := bx) hb7s (.int .i64 q) (.int .i64 (m : Int)) (.slice s8 L8.length k8)
          clear q0 q1 q2 b0 b1 b2 ho8 hI8 rqV hoV hXV rq8
          go_wp2_with fail
          go_roundw
          case rel => exact ⟨i1 + 1, _, by omega, by go_num, hset.1, by rw [HZ.out]; exact hoN, hbN⟩
          case measure => simp [intOf]; omega
        · obtain rfl : i1 = O.length := by omega
          rw [List.take_length] at hoS rq
          obtain ⟨⟨q0, q1, q2⟩, _⟩ := poly3 rq
          have rr3 := rowIs_below rr6 hbr rr6.lt
          obtain ⟨⟨r0, r1, r2⟩, z0, z1, z2⟩ := poly3 rr3
          obtain ⟨a0, a1, a2, a3, a4⟩ := fill_box (w := w) rr3 hoS hbw6.size (hbw6.trans (hbr.mono hbw6.size)) (by omega) q (m : Int)
          have A0 := Lib.hid a0
          have A1 := Lib.hid a1
          have A2 := Lib.hid a2
          have A3 := Lib.hid a3
          have A4 := Lib.hid a4
          clear a0 a1 a2 a3 a4
          go_wp2_with fail
          exact bodyPost_ret (v := .tuple #[.agg #[.int .i64 q, .int .i64 (m : Int), .slice ss (symE q O.reverse O.length).length sk], .int .i64 0]) (by simp [results, Tryz.results36, go_sem, A0.out, A1.out, A2.out]) rfl ⟨_, rfl, A3.out, A4.out⟩
end Go.Proofs.YtllklhakbanhaaaGreat
namespace Go.Proofs.YtllklhakbanhaaaGreat
open Go.RowKit Go.Sort Go.Maps EchM

set_option maxRecDepth 8000 in
set_option maxHeartbeats 16000000 in
theorem law_Opr (p n : Int) (v : Value) (L : List (Nat → Nat → Int)) (q d : Int) (u : Value) (xs : List Tm) (w : World) (hn : L.length ≤ 9223372036854775807) (hS : SlM w v L) (hby : ∀ x ∈ L, Byt x) (hnx : xs.length ≤ 9223372036854775807) (hU : SliceT w u xs) (hxb : ∀ t ∈ xs, tmByte t) :
    Calls Tryz.prog 7 #[.agg #[.int .i64 p, .int .i64 n, v], .agg #[.int .i64 q, .int .i64 d, u]] w fun e w' => e = .returned (.bool true) ∧ Below w.heap.size w w' := by
  obtain ⟨W, hW, hbW, ⟨hWs1, hWs2⟩, rG, rx⟩ := boxLGP w p n v q d u
  have hSW := hS.below hbW
  have hUW := hU.below hbW
  obtain ⟨a, cap, rfl, _⟩ := id hS
  obtain ⟨ua, uc, rfl, _⟩ := id hU
  obtain ⟨y0, y1, y2⟩ := gcells rG
  by_cases hbig : 1048576 < L.length
  · go_enter Tryz.func7, Tryz.ntmps7
    go_wp2_with fail
    rw [← hW]
    clear hW
    ((with_reducible refine (szgrp_no p n a L.length cap _ hbig hn).mono ?_); rintro e w1 ⟨rfl, hb1⟩)
    go_wp2_with fail
    go_ret
    exact ⟨rfl, hbW.trans (hb1.mono hbW.size)⟩
  have hl : L.length ≤ 1048576 := by omega
  have hpos : ¬ (1048576 - (L.length : Int)) < 0 := by omega
  clear hbig
  go_enter Tryz.func7, Tryz.ntmps7
  go_wp2_with fail
  rw [← hW]
  clear hW
  ((with_reducible refine (szgrp_ok p n a L.length cap _ hl).mono ?_); rintro e w1 ⟨rfl, hb1⟩)
  have rG1 := rowIs_below rG hb1 rG.lt
  have rx1 := rowIs_below rx hb1 rx.lt
  have hS1 := hSW.below hb1
  have hU1 := hUW.below hb1
  have hbw1 := hbW.trans (hb1.mono hbW.size)
  clear y0 y1 y2 rG rx hSW hUW hb1 hbW
  obtain ⟨⟨x0, x1, x2⟩, _⟩ := poly3 rx1
  have hlf0 : (0 : Int) ≤ 1048576 - (L.length : Int) := by omega
  have hlf1 : 1048576 - (L.length : Int) ≤ 1048576 := by omega
  obtain ⟨lf, hlf⟩ : ∃ lf, 1048576 - (L.length : Int) = lf := ⟨_, rfl⟩
  rw [hlf] at hlf0 hlf1 hpos ⊢
  clear hlf
  go_wp2_with fail
  ((with_reducible refine (szPoly_any q d lf _ xs _ hnx hlf0 hlf1 hU1).mono ?_); rintro e w2 ⟨rfl, hb2⟩)
  have rG2 := rowIs_below rG1 hb2 rG1.lt
  have rx2 := rowIs_below rx1 hb2 rx1.lt
  have hS2 := hS1.below hb2
  have hU2 := hU1.below hb2
  have hbw2 := hbw1.trans (hb2.mono hbw1.size)
  clear x0 x1 x2 rG1 rx1 hS1 hU1 hb2 hbw1 hpos
  by_cases hbig : lf - (xs.length : Int) < 0
  · have HL := Lib.hid (fleft_lt hbig)
    rw [HL.out]
    go_wp2
    go_ret
    exact ⟨rfl, hbw2⟩
  have HL := Lib.hid (fleft_ge hbig)
  have hxl : xs.length ≤ 1048576 := by omega
  obtain ⟨lf2, hlf3⟩ : ∃ lf2, lf - (xs.length : Int) = lf2 := ⟨_, rfl⟩
  rw [HL.out, hlf3]
  rw [hlf3] at hbig
  clear HL hlf3 hlf0 hlf1
  obtain ⟨o, ho⟩ : ∃ o, OpO p n L q d xs o := opO_ex hby hxb
  have hso : o.S.length ≤ 1048576 := opO_len ho
  have HSP := Lib.hid (fun v' u' w' h' k' => sopr p n v' L q d u' xs w' hl h' hby hxl k' hxb o ho)
  have HIM := Lib.hid (fun v' u' w' h' k' => iopr p n v' L q d u' xs w' hl h' hby hxl k' hxb o ho)
  clear ho
  obtain ⟨P, D, S, c⟩ := o
  simp only at hso
  have HBY := Lib.hid hby
  have HXB := Lib.hid hxb
  clear hby hxb
  have KK := Lib.hid (fun w' (h : Below w2.heap.size w2 w') => show ((w'.cell? ⟨w.heap.size + 1, 0, none⟩ = some (.int .i64 q) ∧ w'.cell? ⟨w.heap.size + 1, 1, none⟩ = some (.int .i64 d) ∧ w'.cell? ⟨w.heap.size + 1, 2, none⟩ = some (.slice ua xs.length uc)) ∧ (w'.cell? ⟨w.heap.size, 0, none⟩ = some (.int .i64 p) ∧ w'.cell? ⟨w.heap.size, 1, none⟩ = some (.int .i64 n) ∧ w'.cell? ⟨w.heap.size, 2, none⟩ = some (.slice a L.length cap))) from ⟨(poly3 (rowIs_below rx2 h rx2.lt)).1, gcells (rowIs_below rG2 h rG2.lt)⟩)
  go_wp2_with fail
  go_cut [6, 7] (fun s6 s7 wx => ∃ B0 a3 c3, s6 = .pointer (some ⟨B0, 0, none⟩) ∧ s7 = .int .i64 c ∧ wx.rowIs B0 39 3 (polyF P D (.slice a3 S.length c3)) ∧ Below w2.heap.size w2 wx ∧ SliceT wx (.slice a3 S.length c3) S ∧ w2.heap.size ≤ B0)
  case first =>
    go_region_held3 (fun w' => ((w'.cell? ⟨w.heap.size + 1, 0, none⟩ = some (.int .i64 q) ∧ w'.cell? ⟨w.heap.size + 1, 1, none⟩ = some (.int .i64 d) ∧ w'.cell? ⟨w.heap.size + 1, 2, none⟩ = some (.slice ua xs.length uc)) ∧ (w'.cell? ⟨w.heap.size, 0, none⟩ = some (.int .i64 p) ∧ w'.cell? ⟨w.heap.size, 1, none⟩ = some (.int .i64 n) ∧ w'.cell? ⟨w.heap.size, 2, none⟩ = some (.slice a L.length cap))))
      (first | with_reducible exact KK.out _ (Below.same _).drew | with_reducible exact KK.out _ HB13 | with_reducible exact KK.out _ HB14 | with_reducible exact KK.out _ HB15 | with_reducible exact KK.out _ (box1 _ _).drew | with_reducible exact KK.out _ (HB13.trans ((box1 _ _).mono HB13.size)) | with_reducible exact KK.out _ (HB14.trans ((box1 _ _).mono HB14.size)) | with_reducible exact KK.out _ (HB15.trans ((box1 _ _).mono HB15.size)) | with_reducible exact KK.out _ (setL3 HB15 HB14.size _ _ _) | with_reducible exact KK.out _ (setL3 HB15 HB13.size _ _ _) | with_reducible exact KK.out _ (setL3 HB15 (Nat.le_refl _) _ _ _))
      (first
      | (go_at_call 15; (with_reducible refine (togrp p n _ L _ hl (by first | with_reducible exact hS2.below (Below.same _).drew | with_reducible exact hS2.below (box1 _ _).drew)).mono ?_); rintro e w13 ⟨v13, rfl, own13, hb13⟩; have HB13 : Below w2.heap.size w2 w13 := (by first | exact (Below.same _).drew.trans hb13 | with_reducible exact (box1 _ _).drew.trans (hb13.mono (by simp))); (first | (have Z13 : w13.rowIs w2.heap.size 39 3 (polyF 0 0 (.slice none 0 0)) := rowIs_below (zboxD w2) hb13 (by simp); (obtain ⟨⟨e130, e131, e132⟩, f130, f131, f132⟩ := poly3 Z13)) | skip))
      | (go_at_call 16; (with_reducible refine (toPoly_any q d _ xs _ hxl (by first | with_reducible exact hU2.below HB13 | with_reducible exact (hU2.below HB13).below (box1 _ _))).mono ?_); rintro e w14 ⟨v14, rfl, own14, hb14⟩; have H14 : Below w13.heap.size w13 w14 := (by first | exact hb14 | with_reducible exact (box1 _ _).trans (hb14.mono (by simp))); have HB14 : Below w2.heap.size w2 w14 := HB13.trans (H14.mono HB13.size); (first | (have Z14 : w14.rowIs w13.heap.size 39 3 (polyF 0 0 (.slice none 0 0)) := rowIs_below (zbox w13) hb14 (by simp); (obtain ⟨⟨e140, e141, e142⟩, f140, f141, f142⟩ := poly3 Z14)) | (have Z14 := rowIs_below Z13 H14 Z13.lt; (obtain ⟨⟨e140, e141, e142⟩, f140, f141, f142⟩ := poly3 Z14)) | skip))
      | (go_at_call 35; (with_reducible refine (HSP.out _ _ _ (by first | with_reducible exact own13.slice.below H14 | with_reducible exact (own13.slice.below H14).below (box1 _ _)) (by first | with_reducible exact own14.slice | with_reducible exact own14.slice.below (box1 _ _))).mono ?_); rintro e w15 ⟨v15, rfl, ho15, hb15⟩; have H15 : Below w14.heap.size w14 w15 := (by first | exact hb15 | with_reducible exact (box1 _ _).trans (hb15.mono (by simp))); have HB15 : Below w2.heap.size w2 w15 := HB14.trans (H15.mono HB14.size); (first | (have Z15 : w15.rowIs w14.heap.size 39 3 (polyF 0 0 (.slice none 0 0)) := rowIs_below (zbox w14) hb15 (by simp); (obtain ⟨⟨e150, e151, e152⟩, f150, f151, f152⟩ := poly3 Z15)) | (have Z15 := rowIs_below Z14 H15 Z14.lt; (obtain ⟨⟨e150, e151, e152⟩, f150, f151, f152⟩ := poly3 Z15)) | skip); simp only at ho15; (obtain ⟨sa, sc, rfl⟩ := owns_slice ho15); have hsl := OwnP.slice ho15))
    all_goals
      go_wp2_with fail
      go_meet
      first
        | exact ⟨w15.heap.size, sa, sc, rfl, rfl, World.rowIs_alloc w15 #[Value.int .i64 P, .int .i64 D, .slice sa S.length sc] _ _ (fun i hi => by simp at hi; match i, hi with | 0, _ => rfl | 1, _ => rfl | 2, _ => rfl), HB15.trans ((box1 _ _).mono HB15.size), hsl.below (box1 _ _), HB15.size⟩
        | exact ⟨w14.heap.size, sa, sc, rfl, rfl, (setB3 Z15 hsl P D).1, setL3 HB15 HB14.size _ _ _, (setB3 Z15 hsl P D).2, HB14.size⟩
        | exact ⟨w13.heap.size, sa, sc, rfl, rfl, (setB3 Z15 hsl P D).1, setL3 HB15 HB13.size _ _ _, (setB3 Z15 hsl P D).2, HB13.size⟩
        | exact ⟨w2.heap.size, sa, sc, rfl, rfl, (setB3 Z15 hsl P D).1, setL3 HB15 (Nat.le_refl _) _ _ _, (setB3 Z15 hsl P D).2, Nat.le_refl _⟩
  case rest =>
    obtain ⟨B0, a3, c3, rfl, rfl, rb0, hb3, hs3, hB0⟩ := hcut
    have rG3 := rowIs_below rG2 hb3 rG2.lt
    have rx3 := rowIs_below rx2 hb3 rx2.lt
    have hS3 := hS2.below hb3
    have hU3 := hU2.below hb3
    have hbw3 := hbw2.trans (hb3.mono hbw2.size)
    clear KK rG2 rx2 hS2 hU2 hb3 hbw2 HSP hB0
    obtain ⟨y0, y1, y2⟩ := gcells rG3
    go_wp2_with fail
    ((with_reducible refine (togrp p n _ L _ hl hS3).mono ?_); rintro e w4 ⟨v4, rfl, own4, hb4⟩)
    clear y0 y1 y2
    obtain ⟨g4, f4, hv4, _⟩ := id own4
    subst hv4
    obtain ⟨V4, hV4, rb1, hbV4⟩ : ∃ V, V = w4.alloc (.cells #[.int .i64 p, .int .i64 n, .slice (some ⟨g4, 0, none⟩) L.length L.length] 35) ∧ V.rowIs w4.heap.size 35 3 (grpF p n (.slice (some ⟨g4, 0, none⟩) L.length L.length)) ∧ Below w4.heap.size w4 V := ⟨_, rfl, gbox w4 p n _ _, ebox1 _ _⟩
    have K := hb4.trans (hbV4.mono hb4.size)
    have hs4 := own4.slice.below hbV4
    have hB1 : w4.heap.size < V4.heap.size := rb1.lt
    clear own4 hbV4
    go_upto_region 10 with fail
    rw [← hV4]
    clear hV4
    obtain ⟨⟨x0, x1, x2⟩, _⟩ := poly3 (rowIs_below rx3 K rx3.lt)
    go_wp2_with fail
    ((with_reducible refine (toPoly_any q d _ xs _ hxl (hU3.below K)).mono ?_); rintro e w5 ⟨v5, rfl, own5, hb5⟩)
    clear x0 x1 x2
    obtain ⟨g5, f5, hv5, hg5, hr5, _⟩ := id own5
    subst hv5
    obtain ⟨V5, hV5, hbV5, ⟨hV5s1, hV5s2⟩, rb2⟩ := newbox w5 q d (.slice (some ⟨g5, 0, none⟩) xs.length xs.length)
    have hb5V := hb5.trans (hbV5.mono hb5.size)
    have K' := K.trans (hb5V.mono K.size)
    have rb1' := rowIs_below rb1 hb5V rb1.lt
    have hs4' := hs4.below hb5V
    have hx5 := own5.below hbV5
    have hg5lt : g5 < V5.heap.size := Nat.lt_of_lt_of_le hr5.lt hbV5.size
    have hwV4 : wc.heap.size ≤ V4.heap.size := K.size
    clear K rb1 hs4 own5 hr5 hbV5 hb5V hb5 hb4
    go_upto_region 11 with fail
    rw [← hV5]
    clear hV5
    obtain ⟨t0, t1, t2⟩ := gcells rb1'
    obtain ⟨⟨q0, q1, q2⟩, _⟩ := poly3 rb2
    go_wp2_with fail
    ((with_reducible refine (HIM.out _ _ _ hs4' hx5.slice).mono ?_); rintro e w6 ⟨v6, rfl, ho6, hb6⟩)
    simp only at ho6
    obtain ⟨a6, c6, rfl⟩ := owns_slice ho6
    obtain ⟨V6, hV6, hbV6, ⟨hV6s1, hV6s2⟩, rb3⟩ := newbox w6 P D (.slice a6 S.length c6)
    have hb6V := hb6.trans (hbV6.mono hb6.size)
    have hcc : (c != c) = false := by simp
    have rb1 := rowIs_below rb1' hb6V rb1'.lt
    have rb2' := rowIs_below rb2 hb6V rb2.lt
    have hs4 := hs4'.below hb6V
    have hx6 := hx5.below hb6V
    have ho : OwnP V6 V5.heap.size (.slice a6 S.length c6) S := owns_belowT ho6 hbV6
    have K := K'.trans (hb6V.mono K'.size)
    have hV5w6 : V5.heap.size ≤ w6.heap.size := hb6.size
    have hwV5 : wc.heap.size ≤ V5.heap.size := by omega
    clear t0 t1 t2 q0 q1 q2 rb1' rb2 hs4' hx5 K' ho6 hb6 hbV6 hb6V
    go_upto_region 12 with fail
    rw [← hV6]
    clear hV6
    obtain ⟨⟨q0, q1, q2⟩, _⟩ := poly3 rb3
    obtain ⟨⟨k0', k1', k2'⟩, _⟩ := poly3 (rowIs_below rb0 K rb0.lt)
    go_wp2_with fail
    ((with_reducible refine (eqPoly_same P D _ _ S _ hso (OwnP.slice ho) (hs3.below K)).mono ?_); rintro e w7 ⟨rfl, hb7⟩)
    have ho7 : OwnP w7 V5.heap.size (.slice a6 S.length c6) S := owns_belowT ho hb7
    have rb17 := rowIs_below rb1 hb7 rb1.lt
    have rb27 := rowIs_below rb2' hb7 rb2'.lt
    have rb37 := rowIs_below rb3 hb7 rb3.lt
    have hs47 := hs4.below hb7
    have hx7 := hx6.below hb7
    have K7 := K.trans (hb7.mono K.size)
    clear q0 q1 q2 k0' k1' k2' ho rb1 rb2' rb3 hs4 hx6 K hb7
    obtain ⟨y0, y1, y2⟩ := gcells (rowIs_below rG3 K7 rG3.lt)
    obtain ⟨t0, t1, t2⟩ := gcells rb17
    have T0 : w7.drew.cell? ⟨w4.heap.size, 0, none⟩ = some (.int .i64 p) := t0
    have T1 : w7.drew.cell? ⟨w4.heap.size, 1, none⟩ = some (.int .i64 n) := t1
    have T2 : w7.drew.cell? ⟨w4.heap.size, 2, none⟩ = some (.slice (some ⟨g4, 0, none⟩) L.length L.length) := t2
    have hz6 : w4.heap.size < w7.drew.heap.size := rb17.lt
    have hA6 : SlM w7.drew (.slice a L.length cap) L := (hS3.below K7).below (Below.refl _ _).drew
    have hX6 : SlM w7.drew (.slice (some ⟨g4, 0, none⟩) L.length L.length) L := hs47.below (Below.refl _ _).drew
    go_wp2_with fail
    go_cut [58] (fun s wx => s = .bool false ∧ Below w7.heap.size w7 wx)
    case first =>
      go_region_with (first
        | (go_at_call 15; (with_reducible refine (togrp p n _ L _ hl hA6).mono ?_); rintro e w17 ⟨v17, rfl, own17, hb17⟩; have Q0 := (hb17.cell (p := ⟨w4.heap.size, 0, none⟩) hz6).trans T0; have Q1 := (hb17.cell (p := ⟨w4.heap.size, 1, none⟩) hz6).trans T1; have Q2 := (hb17.cell (p := ⟨w4.heap.size, 2, none⟩) hz6).trans T2)
        | (go_at_call 19; (with_reducible refine (eqgrp p n _ _ L _ hl (hX6.below hb17) own17.slice).mono ?_); rintro e w18 ⟨rfl, hb18⟩))
      all_goals
        go_wp2_with fail
        go_meet
        exact ⟨rfl, (Below.refl _ _).drew.trans (hb17.trans (hb18.mono hb17.size))⟩
    case rest =>
    rename World => w8
    obtain ⟨rfl, hb8⟩ := hcut
    have rb18 := rowIs_below rb17 hb8 rb17.lt
    have rb28 := rowIs_below rb27 hb8 rb27.lt
    have rb38 := rowIs_below rb37 hb8 rb37.lt
    have hx8 := hx7.below hb8
    have ho8 : OwnP w8 V5.heap.size (.slice a6 S.length c6) S := owns_belowT ho7 hb8
    have K8 := K7.trans (hb8.mono K7.size)
    clear y0 y1 y2 t0 t1 t2 T0 T1 T2 hz6 hA6 hX6 rb17 rb27 rb37 hs47 hx7 K7 hb8 ho7
    obtain ⟨⟨x0, x1, x2⟩, _⟩ := poly3 (rowIs_below rx3 K8 rx3.lt)
    obtain ⟨⟨b0, b1, b2⟩, _⟩ := poly3 rb28
    have B0' : w8.drew.cell? ⟨w5.heap.size, 0, none⟩ = some (.int .i64 q) := b0
    have B1' : w8.drew.cell? ⟨w5.heap.size, 1, none⟩ = some (.int .i64 d) := b1
    have B2' : w8.drew.cell? ⟨w5.heap.size, 2, none⟩ = some (.slice (some ⟨g5, 0, none⟩) xs.length xs.length) := b2
    have hz8 : w5.heap.size < w8.drew.heap.size := rb28.lt
    have hA8 : SliceT w8.drew (.slice ua xs.length uc) xs := (hU3.below K8).below (Below.refl _ _).drew
    have hX8 : SliceT w8.drew (.slice (some ⟨g5, 0, none⟩) xs.length xs.length) xs := hx8.slice.below (Below.refl _ _).drew
    go_wp2_with fail
    go_cut [63] (fun s wx => s = .bool false ∧ Below w8.heap.size w8 wx)
    case first =>
      go_region_with (first
        | (go_at_call 16; (with_reducible refine (toPoly_any q d _ xs _ hxl hA8).mono ?_); rintro e w17 ⟨v17, rfl, own17, hb17⟩; have Q0 := (hb17.cell (p := ⟨w5.heap.size, 0, none⟩) hz8).trans B0'; have Q1 := (hb17.cell (p := ⟨w5.heap.size, 1, none⟩) hz8).trans B1'; have Q2 := (hb17.cell (p := ⟨w5.heap.size, 2, none⟩) hz8).trans B2')
        | (go_at_call 20; (with_reducible refine (eqPoly_same q d _ _ xs _ hxl (hX8.below hb17) own17.slice).mono ?_); rintro e w18 ⟨rfl, hb18⟩))
      all_goals
        go_wp2_with fail
        go_meet
        exact ⟨rfl, (Below.refl _ _).drew.trans (hb17.trans (hb18.mono hb17.size))⟩
    case rest =>
    rename World => w9
    obtain ⟨rfl, hb9⟩ := hcut
    have K9 := K8.trans (hb9.mono K8.size)
    have rb19 := rowIs_below rb18 hb9 rb18.lt
    have rb29 := rowIs_below rb28 hb9 rb28.lt
    have rb39 := rowIs_below rb38 hb9 rb38.lt
    have hx9 := hx8.below hb9
    have ho9 : OwnP w9 V5.heap.size (.slice a6 S.length c6) S := owns_belowT ho8 hb9
    clear x0 x1 x2 b0 b1 b2 B0' B1' B2' hz8 hA8 hX8 rb18 rb28 rb38 hx8 ho8 K8 hb9
    obtain ⟨t0, t1, t2⟩ := gcells rb19
    go_wp2_with fail
    ((with_reducible refine (markgrp p n _ _ _ 1 _ hl).mono ?_); rintro e w10 ⟨rfl, hb10⟩)
    have rb210 := rowIs_below rb29 hb10 rb29.lt
    have rb310 := rowIs_below rb39 hb10 rb39.lt
    have hx10 := hx9.below hb10
    have ho10 : OwnP w10 V5.heap.size (.slice a6 S.length c6) S := owns_belowT ho9 hb10
    have K10 := K9.trans (hb10.mono K9.size)
    clear t0 t1 t2 rb19 rb29 rb39 hx9 ho9 K9 hb10
    obtain ⟨⟨b0, b1, b2⟩, _⟩ := poly3 rb210
    go_wp2_with fail
    ((with_reducible refine (markPoly_own q d 1 _ hx10.own hxl (by decide) (by decide)).mono ?_); rintro e w11 ⟨rfl, _, hg11⟩)
    have hg11' : w10.grownBy w11 (some g5) := hg11
    have K11 := K10.grown hg11' K10.size (fun k hk => by simp at hk; omega)
    have hgn : (Value.slice a6 S.length c6).ownBlock = none ∨ (Value.slice a6 S.length c6).ownBlock ≠ some g5 := .inr (fun e => by have := (ho10.lt g5 e).1; omega)
    have ho11 : OwnP w11 V5.heap.size (.slice a6 S.length c6) S := ho10.kept hg11' hgn
    have rb311 : w11.rowIs w6.heap.size 39 3 (polyF P D (.slice a6 S.length c6)) := rb310.of_block (hg11'.block _ rb310.lt (by simp; omega))
    clear b0 b1 b2 rb210 rb310 hx10 ho10 K10 hg11 hg11' hgn
    have hnt : ¬ (1 + 4 * (xs.length : Int)) < 0 := by omega
    obtain ⟨kx, hkx⟩ : ∃ kx, (1 : Int) + 4 * (xs.length : Int) = kx := ⟨_, rfl⟩
    rw [hkx] at hnt ⊢
    clear hkx
    obtain ⟨⟨q0, q1, q2⟩, _⟩ := poly3 rb311
    obtain ⟨⟨k0', k1', k2'⟩, _⟩ := poly3 (rowIs_below rb0 K11 rb0.lt)
    go_wp2_with fail
    ((with_reducible refine (eqPoly_same P D _ _ S _ hso (OwnP.slice ho11) (hs3.below K11)).mono ?_); rintro e w12 ⟨rfl, hb12⟩)
    have ho12 : OwnP w12 V5.heap.size (.slice a6 S.length c6) S := owns_belowT ho11 hb12
    have rb312 := rowIs_below rb311 hb12 rb311.lt
    have K12 := K11.trans (hb12.mono K11.size)
    clear q0 q1 q2 k0' k1' k2' ho11 rb311 K11 hb12
    obtain ⟨⟨q0, q1, q2⟩, _⟩ := poly3 rb312
    go_wp2_with fail
    ((with_reducible refine (markPoly_own P D 1 _ (OwnG.of_owns ho12) hso (by decide) (by decide)).mono ?_); rintro e w13 ⟨rfl, hM, hg13⟩)
    have K13 := K12.grown hg13 K12.size (fun k hk => Nat.le_trans hwV5 (ho12.lt k hk).1)
    have rb313 := rowIs_grown rb312 hg13 ho12 (by decide)
    clear q0 q1 q2 ho12 rb312 K12 hg13 hnt
    have hq2 : ¬ (1 : Int) + 4 * (S.length : Int) < 0 := by omega
    have hq3 : ((1 : Int) + 4 * (S.length : Int) != 1 + 4 * (S.length : Int)) = false := by simp
    obtain ⟨⟨q0, q1, q2⟩, _⟩ := poly3 rb313
    go_wp2_with fail
    ((with_reducible refine (heldPoly_marks P D 1 _ hM hso (by decide) (by decide)).mono ?_); rintro e w14 ⟨rfl, hb14⟩)
    have K14 := K13.trans (hb14.mono K13.size)
    have hM14 := hM.below hb14
    have rb314 := rowIs_below rb313 hb14 rb313.lt
    have rG4 := rowIs_below rG3 K14 rG3.lt
    have rx4 := rowIs_below rx3 K14 rx3.lt
    have hS4 := hS3.below K14
    have hU4 := hU3.below K14
    clear q0 q1 q2 hM rb313 K13 hb14
    have KK := Lib.hid (fun w' (h : Below w14.heap.size w14 w') => show ((w'.cell? ⟨w.heap.size + 1, 0, none⟩ = some (.int .i64 q) ∧ w'.cell? ⟨w.heap.size + 1, 1, none⟩ = some (.int .i64 d) ∧ w'.cell? ⟨w.heap.size + 1, 2, none⟩ = some (.slice ua xs.length uc)) ∧ (w'.cell? ⟨w.heap.size, 0, none⟩ = some (.int .i64 p) ∧ w'.cell? ⟨w.heap.size, 1, none⟩ = some (.int .i64 n) ∧ w'.cell? ⟨w.heap.size, 2, none⟩ = some (.slice a L.length cap))) from ⟨(poly3 (rowIs_below rx4 h rx4.lt)).1, gcells (rowIs_below rG4 h rG4.lt)⟩)
    go_wp2_with fail
    go_cut [15, 16] (fun s6 s7 wx => ∃ B0 a3 c3, s6 = .pointer (some ⟨B0, 0, none⟩) ∧ s7 = .int .i64 c ∧ wx.rowIs B0 39 3 (polyF P D (.slice a3 S.length c3)) ∧ Below w14.heap.size w14 wx ∧ SliceT wx (.slice a3 S.length c3) S ∧ w14.heap.size ≤ B0)
    case first =>
      go_region_held3 (fun w' => ((w'.cell? ⟨w.heap.size + 1, 0, none⟩ = some (.int .i64 q) ∧ w'.cell? ⟨w.heap.size + 1, 1, none⟩ = some (.int .i64 d) ∧ w'.cell? ⟨w.heap.size + 1, 2, none⟩ = some (.slice ua xs.length uc)) ∧ (w'.cell? ⟨w.heap.size, 0, none⟩ = some (.int .i64 p) ∧ w'.cell? ⟨w.heap.size, 1, none⟩ = some (.int .i64 n) ∧ w'.cell? ⟨w.heap.size, 2, none⟩ = some (.slice a L.length cap))))
        (first | with_reducible exact KK.out _ (Below.same _).drew | with_reducible exact KK.out _ HB23 | with_reducible exact KK.out _ HB24 | with_reducible exact KK.out _ HB25 | with_reducible exact KK.out _ (box1 _ _).drew | with_reducible exact KK.out _ (HB23.trans ((box1 _ _).mono HB23.size)) | with_reducible exact KK.out _ (HB24.trans ((box1 _ _).mono HB24.size)) | with_reducible exact KK.out _ (HB25.trans ((box1 _ _).mono HB25.size)) | with_reducible exact KK.out _ (setL3 HB25 HB24.size _ _ _) | with_reducible exact KK.out _ (setL3 HB25 HB23.size _ _ _) | with_reducible exact KK.out _ (setL3 HB25 (Nat.le_refl _) _ _ _))
        (first
        | (go_at_call 15; (with_reducible refine (togrp p n _ L _ hl (by first | with_reducible exact hS4.below (Below.same _).drew | with_reducible exact hS4.below (box1 _ _).drew)).mono ?_); rintro e w23 ⟨v23, rfl, own23, hb23⟩; have HB23 : Below w14.heap.size w14 w23 := (by first | exact (Below.same _).drew.trans hb23 | with_reducible exact (box1 _ _).drew.trans (hb23.mono (by simp))); (first | (have Z23 : w23.rowIs w14.heap.size 39 3 (polyF 0 0 (.slice none 0 0)) := rowIs_below (zboxD w14) hb23 (by simp); (obtain ⟨⟨e230, e231, e232⟩, f230, f231, f232⟩ := poly3 Z23)) | skip))
        | (go_at_call 16; (with_reducible refine (toPoly_any q d _ xs _ hxl (by first | with_reducible exact hU4.below HB23 | with_reducible exact (hU4.below HB23).below (box1 _ _))).mono ?_); rintro e w24 ⟨v24, rfl, own24, hb24⟩; have H24 : Below w23.heap.size w23 w24 := (by first | exact hb24 | with_reducible exact (box1 _ _).trans (hb24.mono (by simp))); have HB24 : Below w14.heap.size w14 w24 := HB23.trans (H24.mono HB23.size); (first | (have Z24 : w24.rowIs w23.heap.size 39 3 (polyF 0 0 (.slice none 0 0)) := rowIs_below (zbox w23) hb24 (by simp); (obtain ⟨⟨e240, e241, e242⟩, f240, f241, f242⟩ := poly3 Z24)) | (have Z24 := rowIs_below Z23 H24 Z23.lt; (obtain ⟨⟨e240, e241, e242⟩, f240, f241, f242⟩ := poly3 Z24)) | skip))
        | (go_at_call 36; (with_reducible refine (HIM.out _ _ _ (by first | with_reducible exact own23.slice.below H24 | with_reducible exact (own23.slice.below H24).below (box1 _ _)) (by first | with_reducible exact own24.slice | with_reducible exact own24.slice.below (box1 _ _))).mono ?_); rintro e w25 ⟨v25, rfl, ho25, hb25⟩; have H25 : Below w24.heap.size w24 w25 := (by first | exact hb25 | with_reducible exact (box1 _ _).trans (hb25.mono (by simp))); have HB25 : Below w14.heap.size w14 w25 := HB24.trans (H25.mono HB24.size); (first | (have Z25 : w25.rowIs w24.heap.size 39 3 (polyF 0 0 (.slice none 0 0)) := rowIs_below (zbox w24) hb25 (by simp); (obtain ⟨⟨e250, e251, e252⟩, f250, f251, f252⟩ := poly3 Z25)) | (have Z25 := rowIs_below Z24 H25 Z24.lt; (obtain ⟨⟨e250, e251, e252⟩, f250, f251, f252⟩ := poly3 Z25)) | skip); simp only at ho25; (obtain ⟨sa, sc, rfl⟩ := owns_slice ho25); have hsl := OwnP.slice ho25))
      all_goals
        go_wp2_with fail
        go_meet
        first
          | exact ⟨w25.heap.size, sa, sc, rfl, rfl, World.rowIs_alloc w25 #[Value.int .i64 P, .int .i64 D, .slice sa S.length sc] _ _ (fun i hi => by simp at hi; match i, hi with | 0, _ => rfl | 1, _ => rfl | 2, _ => rfl), HB25.trans ((box1 _ _).mono HB25.size), hsl.below (box1 _ _), HB25.size⟩
          | exact ⟨w24.heap.size, sa, sc, rfl, rfl, (setB3 Z25 hsl P D).1, setL3 HB25 HB24.size _ _ _, (setB3 Z25 hsl P D).2, HB24.size⟩
          | exact ⟨w23.heap.size, sa, sc, rfl, rfl, (setB3 Z25 hsl P D).1, setL3 HB25 HB23.size _ _ _, (setB3 Z25 hsl P D).2, HB23.size⟩
          | exact ⟨w14.heap.size, sa, sc, rfl, rfl, (setB3 Z25 hsl P D).1, setL3 HB25 (Nat.le_refl _) _ _ _, (setB3 Z25 hsl P D).2, Nat.le_refl _⟩
    case rest =>
    rename World => w15
    obtain ⟨B3, a14, c14, rfl, rfl, rh, hb15, hs14, hB3⟩ := hcut
    have hM15 := hM14.below hb15
    have K15 := K14.trans (hb15.mono K14.size)
    have rb315 := rowIs_below rb314 hb15 rb314.lt
    clear KK rG4 rx4 hS4 hU4 hM14 K14 hb15 rb314
    obtain ⟨⟨q0, q1, q2⟩, _⟩ := poly3 rh
    obtain ⟨⟨k0', k1', k2'⟩, _⟩ := poly3 (rowIs_below rb0 K15 rb0.lt)
    go_wp2_with fail
    ((with_reducible refine (eqPoly_same P D _ _ S _ hso hs14 (hs3.below K15)).mono ?_); rintro e w16 ⟨rfl, hb16⟩)
    have hM16 := hM15.below hb16
    have K16 := K15.trans (hb16.mono K15.size)
    have rb316 := rowIs_below rb315 hb16 rb315.lt
    clear q0 q1 q2 k0' k1' k2' hM15 K15 hb16 rb315 rh hs14
    obtain ⟨⟨q0, q1, q2⟩, _⟩ := poly3 rb316
    go_wp2_with fail
    ((with_reducible refine (heldPoly_marks P D 1 _ hM16 hso (by decide) (by decide)).mono ?_); rintro e w17 ⟨rfl, hb17⟩)
    have hend := hbw3.trans ((K16.trans (hb17.mono K16.size)).mono hbw3.size)
    clear q0 q1 q2
    go_wp2
    go_ret
    exact ⟨rfl, hend⟩
end Go.Proofs.YtllklhakbanhaaaGreat
