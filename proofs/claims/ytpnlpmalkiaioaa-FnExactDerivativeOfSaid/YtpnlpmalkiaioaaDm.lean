/-
  WALKS: 'impl.DerivativeOf'. Conditions: as each theorem states.
-/
import Derived.Test.YtpnlpmalkiaioaaDi
namespace Go.Proofs.Ytpnlpmalkiaioaa
open Go.RowKit Go.Sort Go.Maps

theorem der_new {p i : Int} {ts : List Tm} (h : Asc ts) (k : Nat) (hk : k < ts.length) : der p i (ts.take k) (decE i (tmE ts[k])) = 0 := by
  unfold der
  rw [incE_decE, atL_take_new h k hk]
  simp

set_option maxRecDepth 8000 in
set_option maxHeartbeats 8000000 in
theorem implDer (p d i : Int) (v : Value) (ts : List Tm) (w : World) (hl : ts.length ≤ 1048576) (hS : SliceT w v ts) (hby : ∀ t ∈ ts, tmByte t) (o : OutP) (ho : DerO p d i ts o) :
    Calls Try.prog 28 #[.agg #[.int .i64 p, .int .i64 d, v], .int .i64 i] w (ResO w o) := by
  obtain ⟨a, cap, rfl, _⟩ := id hS
  obtain ⟨W, hW, hbW, ⟨hWs1, hWs2⟩, rx, rr⟩ := boxes2 w p d (.slice a ts.length cap)
  have hSW := hS.below hbW
  have hmm := @run_makeMap Try.prog
  obtain ⟨⟨c0, c1, c2⟩, _⟩ := poly3 rx
  go_enter Try.func28, Try.ntmps28
  go_wp2_with fail
  rw [← hW]
  clear hW
  ((with_reducible refine (isPoly_any p d _ ts W hl hSW hby).mono ?_); rintro e w1 ⟨rfl, hb1⟩)
  clear c0 c1 c2
  have rx1 := rowIs_below rx hb1 rx.lt
  have rr1 := rowIs_below rr hb1 rr.lt
  have hbw1 := hbW.trans (hb1.mono hbW.size)
  have hS1 := hSW.below hb1
  have s1 := hb1.size
  obtain ⟨⟨c0, c1, c2⟩, _⟩ := poly3 rx1
  obtain ⟨⟨r0, r1, r2⟩, z0, z1, z2⟩ := poly3 rr1
  obtain ⟨a0, a1, a2, a3, a4⟩ := fill_box (base := w.heap.size) rr1 (ownP_nil w1 w.heap.size) (Nat.le_refl _) hbw1 (by omega) 0 0
  have A0 := Lib.hid a0
  have A1 := Lib.hid a1
  have A2 := Lib.hid a2
  have A3 := Lib.hid a3
  have A4 := Lib.hid a4
  clear a0 a1 a2 a3 a4 rx rr
  rcases ho with ⟨hB, rfl⟩ | ⟨hB, hD, rfl⟩ | ⟨hB, hD, L, hL, rfl⟩
  · rw [hB]
    clear hB
    go_wp2_with fail
    exact bodyPost_ret (v := .tuple #[.agg #[.int .i64 0, .int .i64 0, .slice none 0 0], .int .i64 1]) (by simp [results, Try.results28, go_sem, A0.out, A1.out, A2.out]) rfl ⟨_, rfl, A3.out, A4.out⟩
  · have hv := valid_of hB hby
    rw [hB]
    by_cases h0 : i < 0
    · clear hB hD hv
      go_wp2_with fail
      exact bodyPost_ret (v := .tuple #[.agg #[.int .i64 0, .int .i64 0, .slice none 0 0], .int .i64 2]) (by simp [results, Try.results28, go_sem, A0.out, A1.out, A2.out]) rfl ⟨_, rfl, A3.out, A4.out⟩
    · have h1 : d ≤ i := by simp at hD; omega
      clear hB hD hv
      go_wp2_with fail
      exact bodyPost_ret (v := .tuple #[.agg #[.int .i64 0, .int .i64 0, .slice none 0 0], .int .i64 2]) (by simp [results, Try.results28, go_sem, A0.out, A1.out, A2.out]) rfl ⟨_, rfl, A3.out, A4.out⟩
  · have hv := valid_of hB hby
    have hd1 := hv.d1
    have hd3 := hv.d3
    have hp2 := hv.p2
    have hp13 := hv.p13
    have hi : i = 0 ∨ i = 1 ∨ i = 2 := by simp at hD; omega
    have h0 : ¬ i < 0 := by omega
    have h1 : ¬ d ≤ i := by simp at hD; omega
    have e0 : decide (i < 0) = false := by simpa using h0
    have e1 : decide (d ≤ i) = false := by simpa using h1
    rw [hB]
    clear hB hD A0 A1 A2 A3 A4
    have hm := World.ownsMap_made (H := Unit) w1 Try.prog 48 (plainElem Try.prog 2)
    obtain ⟨V, hV1, hbV, hVs1⟩ : ∃ V, V = w1.alloc (.map #[] 0) ∧ Below w1.heap.size w1 V ∧ w1.heap.size + 1 ≤ V.heap.size := ⟨_, rfl, box1 _ _, by simp⟩
    rw [← hV1] at hm
    have hst : MapSt w V w1.heap.size 0 w.heap.size (w.heap.size + 1) p d (.slice a ts.length cap) (.map []) :=
      ⟨hm, rowIs_below rx1 hbV rx1.lt, rowIs_below rr1 hbV rr1.lt, hbw1.trans (hbV.mono hbw1.size), hbw1.size, by omega⟩
    have xo : ∀ o, (w1.alloc o).cell? ⟨w.heap.size, 2, none⟩ = some (.slice a ts.length cap) := fun o => ((box1 w1 o).cell rx1.lt).trans c2
    go_wp2_with fail
    rw [← hV1]
    clear hV1 xo hm
    go_loopw [9, 27] (fun _ j wr => ∃ (k : Nat) (D : DataW Unit), k ≤ ts.length ∧ j = .int .i64 k ∧ Hid (∀ e, byte3 e → cf D e = der p i (ts.take k) e) ∧ MapSt w wr w1.heap.size k w.heap.size (w.heap.size + 1) p d (.slice a ts.length cap) D) (fun _ j _ => ts.length - (intOf j).toNat)
    case atStart => exact ⟨0, _, by omega, rfl, Lib.hid (fun e _ => by rw [cf_empty]; simp [der, atL]), hst⟩
    case round =>
      obtain ⟨k, D, hk, rfl, HD, hM⟩ := hrel
      have hSr := hS.below hM.below
      by_cases hlt1 : k < ts.length
      · have hlt' : (k : Int) < (ts.length : Int) := by omega
        obtain ⟨a', cap', hv', hcase⟩ := hSr
        simp at hv'
        obtain ⟨rfl, rfl⟩ := hv'
        rcases hcase with h0 | ⟨b, off, rfl, hltb, hTr⟩
        · rw [h0] at hlt1; exact absurd hlt1 (by simp)
        obtain ⟨c0, c1, c2, c3⟩ := hTr k hlt1
        obtain ⟨⟨⟨bx, by1, bz⟩, hs12⟩, bv1, bv2⟩ := hv.mem ts[k] (List.getElem_mem _)
        have hd1 := Lib.hid (fun e => der_step1 (p := p) (i := i) hv.asc k hlt1 e)
        have hd0 := Lib.hid (der_step0 (p := p) (i := i) hv.asc k hlt1)
        have hdn := Lib.hid (der_new (p := p) (i := i) hv.asc k hlt1)
        have hm0 := Lib.hid (decE_mono i (e := tmE ts[k]) ⟨⟨bx, by1, bz⟩, hs12⟩)
        simp only [tmE] at bx by1 bz
        generalize hx : ts[k].1 = x at *
        generalize hy : ts[k].2.1 = y at *
        generalize hz : ts[k].2.2.1 = z at *
        generalize hvv : ts[k].2.2.2 = v at *
        have htm : tmE ts[k] = (x, y, z) := by simp [tmE, hx, hy, hz]
        obtain ⟨⟨m0, m1, m2⟩, _⟩ := poly3 hM.arg
        have mo : ∀ o, (wr.alloc o).cell? ⟨w.heap.size, 0, none⟩ = some (.int .i64 p) := fun o => ((box1 wr o).cell hM.arg.lt).trans m0
        rcases hi with rfl | rfl | rfl
        · by_cases hz0 : x = 0
          · subst hz0
            have HD2 : Hid (∀ e, byte3 e → cf D e = der p 0 (ts.take (k + 1)) e) := Lib.hid (fun e he => (HD.out e he).trans (hd0.out (by rw [htm]; rfl) e he).symm)
            clear htm hd0 hd1 hm0 hdn hv hS hst hTr
            go_wp2_with fail
            go_roundw
            case rel => exact ⟨k + 1, _, by omega, by go_num, HD2, ⟨hM.map.mono (by omega) |>.alloc _, (hM.later (box1 _ _)).arg, (hM.later (box1 _ _)).res, (hM.later (box1 _ _)).below, hM.b1, hM.r1⟩⟩
            case measure => simp [intOf]; omega
          · have hne : ¬ x ≤ 0 := by omega
            have hx1 : 0 < x := by omega
            have g1 : 0 ≤ v * x := Int.mul_nonneg (by omega) (by omega)
            have g2 : v * x ≤ 13 * 12 := Int.mul_le_mul (by omega) (by omega) (by omega) (by omega)
            have hw : IntKind.i64.wrap (v * x) = v * x := IntWalk.i64_in _ (by omega)
            have hp0 : ¬ p = 0 := by omega
            have hp1 : (p == 0) = false := by simpa using hp0
            have hwx : IntKind.i64.wrap x = x := IntWalk.i64_in _ (by omega)
            have ht : (v * x).tmod p = v * x % p := Int.tmod_eq_emod_of_nonneg g1
            have q1 : 0 ≤ v * x % p := Int.emod_nonneg _ (by omega)
            have q2 : v * x % p < p := Int.emod_lt_of_pos _ (by omega)
            have hE : mono12 (x - 1, y, z) := by
              have := hm0.out (by rw [htm]; exact hx1)
              rw [htm] at this
              exact this
            have hE1 : byte3 (x - 1, y, z) := hE.1
            have hkey : keyOf Try.prog 48 (.agg #[.int .u8 (x - 1), .int .u8 (y), .int .u8 (z)]) = some (kE (x - 1, y, z)) := keyOf_vE (x - 1, y, z) hE1
            have HD2 : Hid (∀ e, byte3 e → cf (D.put (kE (x - 1, y, z)) (.lit (.int .i64 (v * x % p)))) e = der p 0 (ts.take (k + 1)) e) := Lib.hid (fun e he => by
              rw [cf_put hM.map.isMap hE1 he, hd1.out e, HD.out e he, hdn.out, htm, Int.add_zero, Int.mul_comm v x]
              rfl)
            clear htm hd0 hd1 hm0 hdn hv hS hst hTr
            go_wp2_with fail
            refine region_tail 11 (by kernel_rfl) (by kernel_rfl) ?_
            simp only [List.take_succ_cons, List.take_zero, List.drop_succ_cons, List.drop_zero]
            repeat still_step
            refine wpStill_nil ?_
            try simp only [hwx, hw, ht]
            have hMm := (hM.later ((box1 wr (.cells #[.int .u8 (x - 1), .int .u8 (y), .int .u8 (z), .int .i64 v] 74)).drew))
            go_wp2_with (at_mapUpdate; refine wpList_mapUpdate_own _ rfl _ _ _ 57 rfl 48 2 lawK Try.underlying57 (plainElem Try.prog 2) w1.heap.size k D rfl hMm.map (by unfold maxLen; omega) (.agg #[.int .u8 (x - 1), .int .u8 (y), .int .u8 (z)]) _ _ rfl rfl hkey _ [] (plainElem_int Try.underlying2 (wf64 q1 (by omega))) ?_; intro w2 hown2 hgrow2)
            go_roundw
            case rel => exact ⟨k + 1, _, by omega, by go_num, HD2, hMm.wrote hgrow2 hown2⟩
            case measure => simp [intOf]; omega
        · by_cases hz0 : y = 0
          · subst hz0
            have HD2 : Hid (∀ e, byte3 e → cf D e = der p 1 (ts.take (k + 1)) e) := Lib.hid (fun e he => (HD.out e he).trans (hd0.out (by rw [htm]; rfl) e he).symm)
            clear htm hd0 hd1 hm0 hdn hv hS hst hTr
            go_wp2_with fail
            go_roundw
            case rel => exact ⟨k + 1, _, by omega, by go_num, HD2, ⟨hM.map.mono (by omega) |>.alloc _, (hM.later (box1 _ _)).arg, (hM.later (box1 _ _)).res, (hM.later (box1 _ _)).below, hM.b1, hM.r1⟩⟩
            case measure => simp [intOf]; omega
          · have hne : ¬ y ≤ 0 := by omega
            have hx1 : 0 < y := by omega
            have g1 : 0 ≤ v * y := Int.mul_nonneg (by omega) (by omega)
            have g2 : v * y ≤ 13 * 12 := Int.mul_le_mul (by omega) (by omega) (by omega) (by omega)
            have hw : IntKind.i64.wrap (v * y) = v * y := IntWalk.i64_in _ (by omega)
            have hp0 : ¬ p = 0 := by omega
            have hp1 : (p == 0) = false := by simpa using hp0
            have hwx : IntKind.i64.wrap y = y := IntWalk.i64_in _ (by omega)
            have ht : (v * y).tmod p = v * y % p := Int.tmod_eq_emod_of_nonneg g1
            have q1 : 0 ≤ v * y % p := Int.emod_nonneg _ (by omega)
            have q2 : v * y % p < p := Int.emod_lt_of_pos _ (by omega)
            have hE : mono12 (x, y - 1, z) := by
              have := hm0.out (by rw [htm]; exact hx1)
              rw [htm] at this
              exact this
            have hE1 : byte3 (x, y - 1, z) := hE.1
            have hkey : keyOf Try.prog 48 (.agg #[.int .u8 (x), .int .u8 (y - 1), .int .u8 (z)]) = some (kE (x, y - 1, z)) := keyOf_vE (x, y - 1, z) hE1
            have HD2 : Hid (∀ e, byte3 e → cf (D.put (kE (x, y - 1, z)) (.lit (.int .i64 (v * y % p)))) e = der p 1 (ts.take (k + 1)) e) := Lib.hid (fun e he => by
              rw [cf_put hM.map.isMap hE1 he, hd1.out e, HD.out e he, hdn.out, htm, Int.add_zero, Int.mul_comm v y]
              rfl)
            clear htm hd0 hd1 hm0 hdn hv hS hst hTr
            go_wp2_with fail
            refine region_tail 11 (by kernel_rfl) (by kernel_rfl) ?_
            simp only [List.take_succ_cons, List.take_zero, List.drop_succ_cons, List.drop_zero]
            repeat still_step
            refine wpStill_nil ?_
            try simp only [hwx, hw, ht]
            have hMm := (hM.later ((box1 wr (.cells #[.int .u8 (x), .int .u8 (y - 1), .int .u8 (z), .int .i64 v] 74)).drew))
            go_wp2_with (at_mapUpdate; refine wpList_mapUpdate_own _ rfl _ _ _ 57 rfl 48 2 lawK Try.underlying57 (plainElem Try.prog 2) w1.heap.size k D rfl hMm.map (by unfold maxLen; omega) (.agg #[.int .u8 (x), .int .u8 (y - 1), .int .u8 (z)]) _ _ rfl rfl hkey _ [] (plainElem_int Try.underlying2 (wf64 q1 (by omega))) ?_; intro w2 hown2 hgrow2)
            go_roundw
            case rel => exact ⟨k + 1, _, by omega, by go_num, HD2, hMm.wrote hgrow2 hown2⟩
            case measure => simp [intOf]; omega
        · by_cases hz0 : z = 0
          · subst hz0
            have HD2 : Hid (∀ e, byte3 e → cf D e = der p 2 (ts.take (k + 1)) e) := Lib.hid (fun e he => (HD.out e he).trans (hd0.out (by rw [htm]; rfl) e he).symm)
            clear htm hd0 hd1 hm0 hdn hv hS hst hTr
            go_wp2_with fail
            go_roundw
            case rel => exact ⟨k + 1, _, by omega, by go_num, HD2, ⟨hM.map.mono (by omega) |>.alloc _, (hM.later (box1 _ _)).arg, (hM.later (box1 _ _)).res, (hM.later (box1 _ _)).below, hM.b1, hM.r1⟩⟩
            case measure => simp [intOf]; omega
          · have hne : ¬ z ≤ 0 := by omega
            have hx1 : 0 < z := by omega
            have g1 : 0 ≤ v * z := Int.mul_nonneg (by omega) (by omega)
            have g2 : v * z ≤ 13 * 12 := Int.mul_le_mul (by omega) (by omega) (by omega) (by omega)
            have hw : IntKind.i64.wrap (v * z) = v * z := IntWalk.i64_in _ (by omega)
            have hp0 : ¬ p = 0 := by omega
            have hp1 : (p == 0) = false := by simpa using hp0
            have hwx : IntKind.i64.wrap z = z := IntWalk.i64_in _ (by omega)
            have ht : (v * z).tmod p = v * z % p := Int.tmod_eq_emod_of_nonneg g1
            have q1 : 0 ≤ v * z % p := Int.emod_nonneg _ (by omega)
            have q2 : v * z % p < p := Int.emod_lt_of_pos _ (by omega)
            have hE : mono12 (x, y, z - 1) := by
              have := hm0.out (by rw [htm]; exact hx1)
              rw [htm] at this
              exact this
            have hE1 : byte3 (x, y, z - 1) := hE.1
            have hkey : keyOf Try.prog 48 (.agg #[.int .u8 (x), .int .u8 (y), .int .u8 (z - 1)]) = some (kE (x, y, z - 1)) := keyOf_vE (x, y, z - 1) hE1
            have HD2 : Hid (∀ e, byte3 e → cf (D.put (kE (x, y, z - 1)) (.lit (.int .i64 (v * z % p)))) e = der p 2 (ts.take (k + 1)) e) := Lib.hid (fun e he => by
              rw [cf_put hM.map.isMap hE1 he, hd1.out e, HD.out e he, hdn.out, htm, Int.add_zero, Int.mul_comm v z]
              rfl)
            clear htm hd0 hd1 hm0 hdn hv hS hst hTr
            go_wp2_with fail
            refine region_tail 11 (by kernel_rfl) (by kernel_rfl) ?_
            simp only [List.take_succ_cons, List.take_zero, List.drop_succ_cons, List.drop_zero]
            repeat still_step
            refine wpStill_nil ?_
            try simp only [hwx, hw, ht]
            have hMm := (hM.later ((box1 wr (.cells #[.int .u8 (x), .int .u8 (y), .int .u8 (z - 1), .int .i64 v] 74)).drew))
            go_wp2_with (at_mapUpdate; refine wpList_mapUpdate_own _ rfl _ _ _ 57 rfl 48 2 lawK Try.underlying57 (plainElem Try.prog 2) w1.heap.size k D rfl hMm.map (by unfold maxLen; omega) (.agg #[.int .u8 (x), .int .u8 (y), .int .u8 (z - 1)]) _ _ rfl rfl hkey _ [] (plainElem_int Try.underlying2 (wf64 q1 (by omega))) ?_; intro w2 hown2 hgrow2)
            go_roundw
            case rel => exact ⟨k + 1, _, by omega, by go_num, HD2, hMm.wrote hgrow2 hown2⟩
            case measure => simp [intOf]; omega
      · obtain rfl : k = ts.length := by omega
        obtain ⟨⟨m0, m1, m2⟩, _⟩ := poly3 hM.arg
        have hcf : ∀ e, byte3 e → cf D e = der p i ts e := by have := HD.out; rwa [List.take_length] at this
        have hbd : ∀ e, byte3 e → 0 ≤ der p i ts e ∧ der p i ts e < p := fun e he => hL.bound (by omega) he
        have h12 : ∀ e, byte3 e → der p i ts e ≠ 0 → e.1 + e.2.1 + e.2.2 ≤ 12 := fun e he hne => by
          rw [← hL.2.2 e he] at hne
          by_cases hmem : ∃ t ∈ L, tmE t = e
          · obtain ⟨t, ht, rfl⟩ := hmem
            exact (hL.2.1 t ht).1.2
          · exact absurd (atL_none fun t ht hx => hmem ⟨t, ht, hx⟩) hne
        clear hSr hst
        go_wp2_with fail
        refine (polyOf_any sort_says p d w1.heap.size ts.length D wr hM.map (by omega) (fun e he hne => h12 e he (by rw [← hcf e he]; exact hne))).mono ?_
        rintro e w2 ⟨v2, S, rfl, ho2, hgood, hb2⟩
        obtain rfl : S = L := (hgood.isP hcf hbd h12).unique hL
        obtain ⟨sa2, sc2, rfl⟩ := owns_slice ho2
        have rr2 := rowIs_below hM.res hb2 hM.res.lt
        obtain ⟨a0, a1, a2, a3, a4⟩ := fill_box rr2 ho2 hM.below.size (hM.below.trans (hb2.mono hM.below.size)) (by omega) p d
        have A0 := Lib.hid a0
        have A1 := Lib.hid a1
        have A2 := Lib.hid a2
        have A3 := Lib.hid a3
        have A4 := Lib.hid a4
        clear a0 a1 a2 a3 a4 c0 c1 c2 r0 r1 r2 z0 z1 z2 ho2 hi hcf hbd h12 hgood m0 m1 m2
        obtain ⟨⟨r0, r1, r2⟩, z0, z1, z2⟩ := poly3 rr2
        go_wp2_with fail
        exact bodyPost_ret (v := .tuple #[.agg #[.int .i64 p, .int .i64 d, .slice sa2 S.length sc2], .int .i64 0]) (by simp [results, Try.results28, go_sem, A0.out, A1.out, A2.out]) rfl ⟨_, rfl, A3.out, A4.out⟩
end Go.Proofs.Ytpnlpmalkiaioaa
