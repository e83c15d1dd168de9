/-
  WALKS: 'spec.AddPolys', 'impl.AddPolys'. Conditions: as each theorem states.
-/
import Derived.Test.YtpnlpmalkiaioaaPl
import Derived.Test.YtpnlpmalkiaioaaE
namespace Go.Proofs.Ytpnlpmalkiaioaa
open Go.RowKit Go.Sort Go.Maps

theorem num_is (p a : Int) (w : World) (B : Bool) (h : (decide (0 ≤ a) && decide (a < p)) = B) : Calls Try.prog 36 #[.int .i64 p, .int .i64 a] w fun e w' => e = .returned (.bool B) ∧ w = w' := by
  subst h
  by_cases h0 : 0 ≤ a
  · by_cases h1 : a < p
    · go_enter Try.func36, Try.ntmps36
      go_wp2
      go_ret
      exact ⟨by simp [h0, h1], rfl⟩
    · have h1' : decide (a < p) = false := by simpa using h1
      go_enter Try.func36, Try.ntmps36
      go_wp2
      go_ret
      exact ⟨by simp, rfl⟩
  · have h0' : decide (0 ≤ a) = false := by simpa using h0
    go_enter Try.func36, Try.ntmps36
    go_wp2
    go_ret
    exact ⟨by simp, rfl⟩

/-- The coefficients of x and k times y together. -/
def addF (p k : Int) (xs ys : List Tm) (e : Int × Int × Int) : Int := (atL xs e + k * atL ys e) % p
theorem plus_ex {p d k : Int} {xs : List Tm} (hP : ∃ f, IsP p xs f) (ys : List Tm) (hV : Valid p d ys) : ∃ L, IsP p L (addF p k xs ys) := by
  obtain ⟨f, hP⟩ := hP
  have hP0 : IsP p xs (atL xs) := ⟨hP.1, hP.2.1, fun _ _ => rfl⟩
  have key : ∀ i, i ≤ ys.length → ∃ O, IsP p O (addF p k xs (ys.take i)) := fun i => by
    induction i with
    | zero => exact fun _ => ⟨xs, hP0.congr fun e he => by
        have hp := hV.p2
        have := hP0.bound (by omega) he
        simp [addF, atL]; exact (Int.emod_eq_of_lt this.1 this.2).symm⟩
    | succ i ih =>
      intro hi
      obtain ⟨O, hO⟩ := ih (by omega)
      have hlt : i < ys.length := by omega
      obtain ⟨hm, _⟩ := hV.mem ys[i] (List.getElem_mem _)
      refine ⟨_, (hO.put hV.p2 (e := tmE ys[i]) hm (k * ys[i].2.2.2)).congr fun e _ => ?_⟩
      unfold addF
      rw [plus_step (p := p) (k := k) (f := atL xs) hV.asc i hlt e]
      by_cases hx : e = tmE ys[i]
      · rw [if_pos hx, if_pos hx, atL_take_new hV.asc i hlt]
        simp [Int.add_comm]
      · rw [if_neg hx, if_neg hx]
  have := key ys.length (Nat.le_refl _)
  rwa [List.take_length] at this

theorem like_zero {p d p' d' : Int} {xs ys : List Tm} (h : likeC p d xs p' d' ys = 0) : p = p' ∧ d = d' ∧ isPolyB p d xs = true ∧ isPolyB p' d' ys = true := by
  unfold likeC at h
  split at h
  · rename_i h1
    split at h
    · rename_i h2
      simp at h1
      exact ⟨h2.1, h2.2, h1.1, h1.2⟩
    · cases h
  · cases h
theorem like_num {p d p' d' : Int} {xs ys : List Tm} : likeC p d xs p' d' ys = 0 ∨ likeC p d xs p' d' ys = 1 ∨ likeC p d xs p' d' ys = 2 := by
  unfold likeC
  split
  · split
    · exact .inl rfl
    · exact .inr (.inr rfl)
  · exact .inr (.inl rfl)

/-- What 'AddPolys' gives. -/
def AddO (p d : Int) (xs : List Tm) (p' d' : Int) (ys : List Tm) (k : Int) (o : OutP) : Prop :=
  (∃ c, likeC p d xs p' d' ys = c ∧ c ≠ 0 ∧ o = noP c) ∨ (likeC p d xs p' d' ys = 0 ∧ (decide (0 ≤ k) && decide (k ≤ p - 1)) = false ∧ o = noP 2) ∨
    (likeC p d xs p' d' ys = 0 ∧ (decide (0 ≤ k) && decide (k ≤ p - 1)) = true ∧ ∃ L, IsP p L (addF p k xs ys) ∧ o = ⟨p, d, L, 0⟩)
theorem addO_ex (p d : Int) (xs : List Tm) (p' d' : Int) (ys : List Tm) (k : Int) (hby : ∀ t ∈ xs, tmByte t) (hby' : ∀ t ∈ ys, tmByte t) : ∃ o, AddO p d xs p' d' ys k o := by
  by_cases h0 : likeC p d xs p' d' ys = 0
  · cases hD : (decide (0 ≤ k) && decide (k ≤ p - 1))
    · exact ⟨_, .inr (.inl ⟨h0, hD, rfl⟩)⟩
    · obtain ⟨rfl, rfl, h1, h2⟩ := like_zero h0
      obtain ⟨L, hL⟩ := plus_ex (k := k) ⟨_, (valid_of h1 hby).isP⟩ ys (valid_of h2 hby')
      exact ⟨_, .inr (.inr ⟨h0, hD, L, hL, rfl⟩)⟩
  · exact ⟨_, .inl ⟨_, rfl, h0, rfl⟩⟩
theorem addO_len {p d p' d' k : Int} {xs ys : List Tm} {o : OutP} (h : AddO p d xs p' d' ys k o) : o.S.length ≤ 1048576 := by
  rcases h with ⟨c, _, _, rfl⟩ | ⟨_, _, rfl⟩ | ⟨_, _, L, hL, rfl⟩
  · simp [noP]
  · simp [noP]
  · exact Nat.le_trans hL.len (by omega)

set_option maxRecDepth 8000 in
set_option maxHeartbeats 8000000 in
theorem specAdd (p d p' d' k : Int) (v v' : Value) (xs ys : List Tm) (w : World) (hl : xs.length ≤ 1048576) (hl' : ys.length ≤ 1048576) (hS : SliceT w v xs) (hS' : SliceT w v' ys) (hby : ∀ t ∈ xs, tmByte t) (hby' : ∀ t ∈ ys, tmByte t) (o : OutP) (ho : AddO p d xs p' d' ys k o) :
    Calls Try.prog 18 #[.agg #[.int .i64 p, .int .i64 d, v], .agg #[.int .i64 p', .int .i64 d', v'], .int .i64 k] w (ResO w o) := by
  obtain ⟨a, cap, rfl, _⟩ := id hS
  obtain ⟨a', cap', rfl, _⟩ := id hS'
  obtain ⟨W, hW, hbW, ⟨hWs1, hWs2⟩, rx, ry, rr⟩ := pair3 w p d (.slice a xs.length cap) p' d' (.slice a' ys.length cap')
  have hSW := hS.below hbW
  have hSW' := hS'.below hbW
  obtain ⟨⟨c0, c1, c2⟩, _⟩ := poly3 rx
  obtain ⟨⟨d0, d1, d2⟩, _⟩ := poly3 ry
  go_enter Try.func18, Try.ntmps18
  go_wp2_with fail
  rw [← hW]
  clear hW
  ((with_reducible refine (like_any p d p' d' _ _ xs ys W hl hl' hSW hSW' hby hby').mono ?_); rintro e w1 ⟨rfl, hb1⟩)
  clear c0 c1 c2 d0 d1 d2
  have rx1 := rowIs_below rx hb1 rx.lt
  have ry1 := rowIs_below ry hb1 ry.lt
  have rr1 := rowIs_below rr hb1 rr.lt
  have hbw1 := hbW.trans (hb1.mono hbW.size)
  have hS1 := hSW.below hb1
  have hS1' := hSW'.below hb1
  have s1 := hb1.size
  obtain ⟨⟨c0, c1, c2⟩, _⟩ := poly3 rx1
  obtain ⟨⟨d0, d1, d2⟩, _⟩ := poly3 ry1
  obtain ⟨⟨r0, r1, r2⟩, z0, z1, z2⟩ := poly3 rr1
  obtain ⟨a0, a1, a2, a3, a4⟩ := fill_box (base := w.heap.size) rr1 (ownP_nil w1 w.heap.size) (Nat.le_refl _) hbw1 (by omega) 0 0
  have A0 := Lib.hid a0
  have A1 := Lib.hid a1
  have A2 := Lib.hid a2
  have A3 := Lib.hid a3
  have A4 := Lib.hid a4
  clear a0 a1 a2 a3 a4 rx rr ry
  rcases ho with ⟨c, hc, hc0, rfl⟩ | ⟨hc, hD, rfl⟩ | ⟨hc, hD, L, hL, rfl⟩
  · rw [hc]
    have e0 : (c == 0) = false := by simpa using hc0
    have e1 : (c != 0) = true := by simpa using hc0
    clear hc hc0
    go_wp2_with fail
    exact bodyPost_ret (v := .tuple #[.agg #[.int .i64 0, .int .i64 0, .slice none 0 0], .int .i64 c]) (by simp [results, Try.results18, go_sem, A0.out, A1.out, A2.out]) rfl ⟨_, rfl, A3.out, A4.out⟩
  · obtain ⟨rfl, rfl, h1, h2⟩ := like_zero hc
    have hv := valid_of h1 hby
    have hp2 := hv.p2
    have hp13 := hv.p13
    rw [hc]
    have hD' := Lib.hid hD
    clear hc hD hv h1 h2
    go_wp2_with fail
    ((with_reducible refine (sin_is k 0 (p - 1) w1 _ hD'.out).mono ?_); rintro e w2 ⟨rfl, rfl⟩)
    go_wp2_with fail
    exact bodyPost_ret (v := .tuple #[.agg #[.int .i64 0, .int .i64 0, .slice none 0 0], .int .i64 2]) (by simp [results, Try.results18, go_sem, A0.out, A1.out, A2.out]) rfl ⟨_, rfl, A3.out, A4.out⟩
  · obtain ⟨rfl, rfl, h1, h2⟩ := like_zero hc
    have hv := valid_of h1 hby
    have hv' := valid_of h2 hby'
    have hp2 := hv.p2
    have hp13 := hv.p13
    have hk : 0 ≤ k ∧ k < p := by simp at hD; omega
    rw [hc]
    have hD' := Lib.hid hD
    clear hc hD h1 h2 A0 A1 A2 A3 A4
    go_wp2_with fail
    ((with_reducible refine (sin_is k 0 (p - 1) w1 _ hD'.out).mono ?_); rintro e w2 ⟨rfl, rfl⟩)
    go_wp2_with fail
    ((with_reducible refine (specPlus p d k _ _ xs ys (atL xs) w1 hS1 hS1' hv.isP hv' hk.1 hk.2).mono ?_); rintro e w2 ⟨v2, L2, rfl, ho2, hL2, hb2⟩)
    obtain rfl : L2 = L := hL2.unique hL
    obtain ⟨sa2, sc2, rfl⟩ := owns_slice ho2
    have rr2 := rowIs_below rr1 hb2 rr1.lt
    obtain ⟨a0, a1, a2, a3, a4⟩ := fill_box rr2 ho2 hbw1.size (hbw1.trans (hb2.mono hbw1.size)) (by omega) p d
    have A0 := Lib.hid a0
    have A1 := Lib.hid a1
    have A2 := Lib.hid a2
    have A3 := Lib.hid a3
    have A4 := Lib.hid a4
    clear a0 a1 a2 a3 a4 c0 c1 c2 d0 d1 d2 r0 r1 r2 z0 z1 z2 ho2 hk
    obtain ⟨⟨r0, r1, r2⟩, z0, z1, z2⟩ := poly3 rr2
    go_wp2_with fail
    exact bodyPost_ret (v := .tuple #[.agg #[.int .i64 p, .int .i64 d, .slice sa2 L2.length sc2], .int .i64 0]) (by simp [results, Try.results18, go_sem, A0.out, A1.out, A2.out]) rfl ⟨_, rfl, A3.out, A4.out⟩

set_option maxRecDepth 8000 in
set_option maxHeartbeats 8000000 in
theorem implAdd (p d p' d' k : Int) (v v' : Value) (xs ys : List Tm) (w : World) (hl : xs.length ≤ 1048576) (hl' : ys.length ≤ 1048576) (hS : SliceT w v xs) (hS' : SliceT w v' ys) (hby : ∀ t ∈ xs, tmByte t) (hby' : ∀ t ∈ ys, tmByte t) (o : OutP) (ho : AddO p d xs p' d' ys k o) :
    Calls Try.prog 20 #[.agg #[.int .i64 p, .int .i64 d, v], .agg #[.int .i64 p', .int .i64 d', v'], .int .i64 k] w (ResO w o) := by
  obtain ⟨a, cap, rfl, _⟩ := id hS
  obtain ⟨a', cap', rfl, _⟩ := id hS'
  obtain ⟨W, hW, hbW, ⟨hWs1, hWs2⟩, rx, ry, rr⟩ := pair3 w p d (.slice a xs.length cap) p' d' (.slice a' ys.length cap')
  have hSW := hS.below hbW
  have hSW' := hS'.below hbW
  have hmm := @run_makeMap Try.prog
  obtain ⟨⟨c0, c1, c2⟩, _⟩ := poly3 rx
  obtain ⟨⟨d0, d1, d2⟩, _⟩ := poly3 ry
  go_enter Try.func20, Try.ntmps20
  go_wp2_with fail
  rw [← hW]
  clear hW
  ((with_reducible refine (check_any p d p' d' _ _ xs ys W hl hl' hSW hSW' hby hby').mono ?_); rintro e w1 ⟨rfl, hb1⟩)
  clear c0 c1 c2 d0 d1 d2
  have rx1 := rowIs_below rx hb1 rx.lt
  have ry1 := rowIs_below ry hb1 ry.lt
  have rr1 := rowIs_below rr hb1 rr.lt
  have hbw1 := hbW.trans (hb1.mono hbW.size)
  have hS1 := hSW.below hb1
  have hS1' := hSW'.below hb1
  have s1 := hb1.size
  obtain ⟨⟨c0, c1, c2⟩, _⟩ := poly3 rx1
  obtain ⟨⟨d0, d1, d2⟩, _⟩ := poly3 ry1
  obtain ⟨⟨r0, r1, r2⟩, z0, z1, z2⟩ := poly3 rr1
  obtain ⟨a0, a1, a2, a3, a4⟩ := fill_box (base := w.heap.size) rr1 (ownP_nil w1 w.heap.size) (Nat.le_refl _) hbw1 (by omega) 0 0
  have A0 := Lib.hid a0
  have A1 := Lib.hid a1
  have A2 := Lib.hid a2
  have A3 := Lib.hid a3
  have A4 := Lib.hid a4
  clear a0 a1 a2 a3 a4 rx rr ry
  rcases ho with ⟨c, hc, hc0, rfl⟩ | ⟨hc, hD, rfl⟩ | ⟨hc, hD, L, hL, rfl⟩
  · rw [hc]
    have e1 : (c != 0) = true := by simpa using hc0
    clear hc hc0
    go_wp2_with fail
    exact bodyPost_ret (v := .tuple #[.agg #[.int .i64 0, .int .i64 0, .slice none 0 0], .int .i64 c]) (by simp [results, Try.results20, go_sem, A0.out, A1.out, A2.out]) rfl ⟨_, rfl, A3.out, A4.out⟩
  · obtain ⟨rfl, rfl, h1, h2⟩ := like_zero hc
    have hD2 : (decide (0 ≤ k) && decide (k < p)) = false := by rw [← hD]; congr 1; rw [decide_eq_decide]; omega
    rw [hc]
    have hD' := Lib.hid hD2
    clear hc hD hD2 h1 h2
    go_wp2_with fail
    ((with_reducible refine (num_is p k w1 _ hD'.out).mono ?_); rintro e w2 ⟨rfl, rfl⟩)
    go_wp2_with fail
    exact bodyPost_ret (v := .tuple #[.agg #[.int .i64 0, .int .i64 0, .slice none 0 0], .int .i64 2]) (by simp [results, Try.results20, go_sem, A0.out, A1.out, A2.out]) rfl ⟨_, rfl, A3.out, A4.out⟩
  · obtain ⟨rfl, rfl, h1, h2⟩ := like_zero hc
    have hv := valid_of h1 hby
    have hv' := valid_of h2 hby'
    have hp2 := hv.p2
    have hp13 := hv.p13
    have hlx := hv.isP.len
    have hly := hv'.isP.len
    have hk : 0 ≤ k ∧ k < p := by simp at hD; omega
    have hD2 : (decide (0 ≤ k) && decide (k < p)) = true := by simp; exact hk
    rw [hc]
    have hD' := Lib.hid hD2
    clear hc hD hD2 h1 h2 A0 A1 A2 A3 A4
    have hm := World.ownsMap_made (H := Unit) w1 Try.prog 48 (plainElem Try.prog 2)
    obtain ⟨V, hV1, hbV, hVs1⟩ : ∃ V, V = w1.alloc (.map #[] 0) ∧ Below w1.heap.size w1 V ∧ w1.heap.size + 1 ≤ V.heap.size := ⟨_, rfl, box1 _ _, by simp⟩
    rw [← hV1] at hm
    have hst : MapSt w V w1.heap.size 0 w.heap.size (w.heap.size + 2) p d (.slice a xs.length cap) (.map []) :=
      ⟨hm, rowIs_below rx1 hbV rx1.lt, rowIs_below rr1 hbV rr1.lt, hbw1.trans (hbV.mono hbw1.size), hbw1.size, by omega⟩
    have ry2 := rowIs_below ry1 hbV ry1.lt
    have xo0 : ∀ o, (w1.alloc o).cell? ⟨w.heap.size, 0, none⟩ = some (.int .i64 p) := fun o => ((box1 w1 o).cell rx1.lt).trans c0
    have xo1 : ∀ o, (w1.alloc o).cell? ⟨w.heap.size, 1, none⟩ = some (.int .i64 d) := fun o => ((box1 w1 o).cell rx1.lt).trans c1
    have xo2 : ∀ o, (w1.alloc o).cell? ⟨w.heap.size, 2, none⟩ = some (.slice a xs.length cap) := fun o => ((box1 w1 o).cell rx1.lt).trans c2
    go_wp2_with fail
    ((with_reducible refine (num_is p k w1 _ hD'.out).mono ?_); rintro e w2 ⟨rfl, rfl⟩)
    go_wp2_with fail
    rw [← hV1]
    clear hV1 xo0 xo1 xo2 hm c0 c1 c2 d0 d1 d2 r0 r1 r2 z0 z1 z2 rx1 ry1 rr1
    ((with_reducible refine (addTimes_any p d 1 _ xs V _ _ _ (fun _ => 0) (by omega) (hS1.below hbV) hv hst.map (by omega) (fun e _ => cf_empty e) (fun e _ => ⟨by omega, by omega⟩) (by omega) (by omega)).mono ?_); rintro e w2 ⟨D2, rfl, hM2, hf2, hg2⟩)
    have hst2 := hst.wrote hg2 hM2
    have ry3 := ry2.of_block (hg2.block _ ry2.lt (by simpa using row_not_map ry2 hst.map))
    have hf2' : ∀ e, byte3 e → cf D2 e = atL xs e := fun e he => by
      have := hv.at_bound e
      rw [hf2 e he, Int.zero_add, Int.one_mul, Int.emod_eq_of_lt this.1 this.2]
    clear hf2
    obtain ⟨⟨d0, d1, d2⟩, _⟩ := poly3 ry3
    go_wp2_with fail
    ((with_reducible refine (addTimes_any p d k _ ys w2 _ _ _ (atL xs) (by omega) ((hS1'.below hbV).beside hst.map hg2) hv' hst2.map (by omega) hf2' (fun e _ => hv.at_bound e) hk.1 hk.2).mono ?_); rintro e w3 ⟨D3, rfl, hM3, hf3, hg3⟩)
    have hst3 := hst2.wrote hg3 hM3
    clear hf2' hst hst2 hg2 hg3 ry2 ry3 d0 d1 d2 hM2 hM3
    obtain ⟨⟨c0, c1, c2⟩, _⟩ := poly3 hst3.arg
    have hbd : ∀ e, byte3 e → 0 ≤ addF p k xs ys e ∧ addF p k xs ys e < p := fun e he => hL.bound (by omega) he
    have h12 : ∀ e, byte3 e → addF p k xs ys e ≠ 0 → e.1 + e.2.1 + e.2.2 ≤ 12 := fun e he hne => by
      rw [← hL.2.2 e he] at hne
      by_cases hmem : ∃ t ∈ L, tmE t = e
      · obtain ⟨t, ht, rfl⟩ := hmem
        exact (hL.2.1 t ht).1.2
      · exact absurd (atL_none fun t ht hx => hmem ⟨t, ht, hx⟩) hne
    go_wp2_with fail
    ((with_reducible refine (polyOf_any sort_says p d w1.heap.size _ D3 w3 hst3.map (by omega) (fun e he hne => h12 e he (by have := hf3 e he; unfold addF; rwa [← this]))).mono ?_); rintro e w4 ⟨v4, S, rfl, ho4, hgood, hb4⟩)
    obtain rfl : S = L := (hgood.isP hf3 hbd h12).unique hL
    obtain ⟨sa2, sc2, rfl⟩ := owns_slice ho4
    have rr2 := rowIs_below hst3.res hb4 hst3.res.lt
    obtain ⟨a0, a1, a2, a3, a4⟩ := fill_box rr2 ho4 hst3.below.size (hst3.below.trans (hb4.mono hst3.below.size)) (by omega) p d
    have A0 := Lib.hid a0
    have A1 := Lib.hid a1
    have A2 := Lib.hid a2
    have A3 := Lib.hid a3
    have A4 := Lib.hid a4
    clear a0 a1 a2 a3 a4 c0 c1 c2 ho4 hk hf3 hbd h12 hgood hst3
    obtain ⟨⟨r0, r1, r2⟩, z0, z1, z2⟩ := poly3 rr2
    go_wp2_with fail
    exact bodyPost_ret (v := .tuple #[.agg #[.int .i64 p, .int .i64 d, .slice sa2 S.length sc2], .int .i64 0]) (by simp [results, Try.results20, go_sem, A0.out, A1.out, A2.out]) rfl ⟨_, rfl, A3.out, A4.out⟩
end Go.Proofs.Ytpnlpmalkiaioaa
