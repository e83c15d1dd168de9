/-
  SORTS of lists of matrices: the model's walk (an insertion). Conditions: as each theorem states.
-/
import Derived.Test.YtpbdbgajohacoaaSk
namespace Go.Proofs.Ytpbdbgajohacoaa
open Go.RowKit Go.Sort EchM

set_option maxRecDepth 8000 in
set_option maxHeartbeats 8000000 in
theorem ssorted (p n : Int) (v : Value) (L : List (Nat → Nat → Int)) (w : World) (hl : L.length ≤ 1048576) (hS : SlM w v L) :
    Calls Try.prog 72 #[.int .i64 p, .int .i64 n, v] w fun e w' => ∃ v' S, e = .returned (.agg #[.int .i64 p, .int .i64 n, v']) ∧ IsSort L S ∧ OwnG9 w' w.heap.size v' S ∧ Below w.heap.size w w' := by
  obtain ⟨W, hW, rR, rq, hrows, hbW, hWs⟩ : ∃ W, W = ((w.alloc (.cells #[.int .i64 0, .int .i64 0, .slice none 0 0] 26)).alloc (.cells #[] 55)).alloc (.cells #[.int .i64 p, .int .i64 n, .slice (some ⟨w.heap.size + 1, 0, none⟩) 0 0] 26) ∧ W.rowIs w.heap.size 26 3 (grpF 0 0 (.slice none 0 0)) ∧ W.rowIs (w.heap.size + 2) 26 3 (grpF p n (.slice (some ⟨w.heap.size + 1, 0, none⟩) 0 0)) ∧ W.ownsRow w.heap.size 55 9 (.slice (some ⟨w.heap.size + 1, 0, none⟩) 0 0) 0 [] ∧ Below w.heap.size w W ∧ w.heap.size + 3 ≤ W.heap.size := by
    refine ⟨_, rfl, ((gbox w 0 0 (.slice none 0 0) _).alloc _).alloc _, ?_, ?_, (ebox2 _ _ _).alloc (by simp; omega) _, by simp⟩
    · have := gbox ((w.alloc (.cells #[.int .i64 0, .int .i64 0, .slice none 0 0] 26)).alloc (.cells #[] 55)) p n (.slice (some ⟨w.heap.size + 1, 0, none⟩) 0 0) 26
      rw [World.size_alloc, World.size_alloc] at this
      exact this
    · have := own_zero (w.alloc (.cells #[.int .i64 0, .int .i64 0, .slice none 0 0] 26))
      rw [World.size_alloc] at this
      exact World.ownsRow.alloc (owns_mono this (Nat.le_succ _)) _
  have hSW := hS.below hbW
  obtain ⟨a, cap, rfl, hSc⟩ := id hS
  have hst : SPart w W (w.heap.size + 2) w.heap.size p n (.slice (some ⟨w.heap.size + 1, 0, none⟩) 0 0) [] := ⟨hrows, rq, rR, hbW, by omega, by omega, by omega⟩
  clear hrows rR
  go_enter Try.func72, Try.ntmps72
  go_wp2_with fail
  rw [← hW]
  clear hW rq
  go_loopw [8] (fun i wr => ∃ (k g sc : Nat) (O : List (Nat → Nat → Int)), k ≤ L.length ∧ i = .int .i64 k ∧ Hid (IsSort (L.take k) O) ∧ O.length = k ∧ SPart w wr (w.heap.size + 2) w.heap.size p n (.slice (some ⟨g, 0, none⟩) O.length sc) O) (fun i _ => L.length - (intOf i).toNat)
  case atStart => exact ⟨0, _, _, [], by omega, rfl, Lib.hid ⟨by simp, by simp⟩, rfl, hst⟩
  case round =>
    obtain ⟨k, g, sc, O, hk, rfl, HO, hO, hB⟩ := hrel
    by_cases hlt : k < L.length
    · have hlt' : (k : Int) < (L.length : Int) := by omega
      obtain ⟨b, off, rfl, hbb, hT⟩ : ∃ b off, a = some ⟨b, off, none⟩ ∧ b < w.heap.size ∧ MatsW w b off L := by
        rcases hSc with rfl | h
        · simp at hlt
        · exact h
      have HT := Lib.hid (List.take_succ_eq_append_getElem hlt)
      obtain ⟨x, hxe⟩ : ∃ x, L[k] = x := ⟨_, rfl⟩
      rw [hxe] at HT
      have HXE := Lib.hid hxe
      clear hxe
      have hOsc := own_cap hB.rows
      obtain ⟨o0, o1, o2⟩ := gcells hB.out
      have HLEN := Lib.hid hO
      clear hO
      obtain ⟨wo, hwo⟩ : ∃ wo : World, wo = wr := ⟨_, rfl⟩
      have hBo : SPart w wo (w.heap.size + 2) w.heap.size p n (.slice (some ⟨g, 0, none⟩) O.length sc) O := by rw [hwo]; exact hB
      go_wp2_with fail
      rw [← hwo]
      clear hwo o0 o1 o2 hB wr
      go_loopw [9] (fun i wr => ∃ (q : Nat), q ≤ O.length ∧ i = .int .i64 q ∧ Hid (∀ (i : Nat) (hi : i < O.length), q ≤ i → befM x O[i] = true) ∧ SPart w wr (w.heap.size + 2) w.heap.size p n (.slice (some ⟨g, 0, none⟩) O.length sc) O) (fun i _ => (intOf i).toNat)
      case atStart => exact ⟨O.length, by omega, rfl, Lib.hid (fun i hi h => by omega), hBo⟩
      case round =>
        obtain ⟨q, hq, rfl, HH, hB⟩ := hrel
        obtain ⟨o0, o1, o2⟩ := gcells hB.out
        obtain ⟨⟨a0, a1, a2⟩, ⟨a3, a4, a5⟩, a6, a7, a8⟩ := (hT.below hB.below hbb).nine hlt
        rw [HXE.out] at a0 a1 a2 a3 a4 a5 a6 a7 a8
        have z2 := cell_regrown o2
        have l0 := cell_regrown a0
        have l1 := cell_regrown a1
        have l2 := cell_regrown a2
        have l3 := cell_regrown a3
        have l4 := cell_regrown a4
        have l5 := cell_regrown a5
        have l6 := cell_regrown a6
        have l7 := cell_regrown a7
        have l8 := cell_regrown a8
        cases q
        case' zero =>
          have hd1 := fun w h => drop_sl (w := w) (g := g) (sc := sc) (k := 0) (L := O) (Nat.zero_le _) hOsc rfl h
          have hd2 := fun w h => take_sl (w := w) (g := g) (sc := sc) (k := 0) (L := O) (Nat.zero_le _) rfl h
          simp only [Nat.zero_mul, ite_self, Nat.sub_zero] at hd1
          have HLO : Hid (∀ (i : Nat) (hi : i < O.length), i < 0 → befM x O[i] = false) := Lib.hid (fun i hi h => by omega)
          go_wp2_with fail
          refine wp_region_quiet_below (by kernel_rfl) (by kernel_rfl) ?_
          repeat (go_big_quiet_step (fail))
          refine wpQuiet_nil ?_
          intro _ hw'
          obtain ⟨⟨dq, osq⟩, hw''⟩ := hw'
          subst hw''
          have hBx := hB.later (below_regrown wr dq osq)
          generalize grow (redrawn wr dq) osq = V at *
          have HN : Hid (IsSort (L.take (k + 1)) (O.take 0 ++ (x :: O.drop 0))) := Lib.hid (by rw [HT.out]; exact HO.out.insert hq HLO.out HH.out)
          have HL : Hid ((O.take 0).length + (O.drop 0).length = O.length) := Lib.hid (by simp)
          generalize O.drop 0 = D at hd1 HN HL
          generalize O.take 0 = T at hd2 HN HL
        case' succ q =>
          have hd1 := fun w h => drop_sl (w := w) (g := g) (sc := sc) (k := q + 1) (L := O) (by omega) hOsc rfl h
          have hd2 := fun w h => take_sl (w := w) (g := g) (sc := sc) (k := q + 1) (L := O) (by omega) rfl h
          obtain ⟨ta, hif⟩ : ∃ ta, (if sc = q + 1 then some (⟨g, 0, none⟩ : Addr) else some ⟨g, (q + 1) * 9, none⟩) = ta := ⟨_, rfl⟩
          rw [hif] at hd1
          have hc0 : (0 : Int) ≤ (q : Int) + 1 := by omega
          have hc1 : (q : Int) + 1 ≤ (O.length : Int) := by omega
          have hql : q < O.length := by omega
          have hqi : (q : Int) < (O.length : Int) := by omega
          have hT2 : MatsW wr g 0 O := by
            obtain ⟨a2, c2, hv2, h | ⟨b2, off2, ha2, _, hT2⟩⟩ := OwnG9.slice hB.rows
            · rw [h] at hql; simp at hql
            · cases hv2
              cases ha2
              exact hT2
          obtain ⟨⟨b0, b1, b2⟩, ⟨b3, b4, b5⟩, b6, b7, b8⟩ := hT2.nine hql
          have HS : Hid (∀ i (hi : i < O.length), i < q → befM O[q] O[i] = false) := Lib.hid (fun i hi h => List.pairwise_iff_getElem.1 HO.out.2 i q hi hql h)
          obtain ⟨y, hy⟩ : ∃ y, O[q] = y := ⟨_, rfl⟩
          rw [hy] at b0 b1 b2 b3 b4 b5 b6 b7 b8 HS
          have HY := Lib.hid hy
          clear hy
          simp only [Nat.zero_add] at b0 b1 b2 b3 b4 b5 b6 b7 b8
          have m0 := cell_regrown b0
          have m1 := cell_regrown b1
          have m2 := cell_regrown b2
          have m3 := cell_regrown b3
          have m4 := cell_regrown b4
          have m5 := cell_regrown b5
          have m6 := cell_regrown b6
          have m7 := cell_regrown b7
          have m8 := cell_regrown b8
          have kB : ∀ dd os, Calls Try.prog 86 #[.agg #[.int .u8 (x 0 0), .int .u8 (x 0 1), .int .u8 (x 0 2), .int .u8 (x 1 0), .int .u8 (x 1 1), .int .u8 (x 1 2), .int .u8 (x 2 0), .int .u8 (x 2 1), .int .u8 (x 2 2)], .agg #[.int .u8 (y 0 0), .int .u8 (y 0 1), .int .u8 (y 0 2), .int .u8 (y 1 0), .int .u8 (y 1 1), .int .u8 (y 1 2), .int .u8 (y 2 0), .int .u8 (y 2 1), .int .u8 (y 2 2)]] (grow (redrawn wr dd) os) fun e w'' => e = .returned (.bool (befM x y)) ∧ ∃ q : Regrown, w'' = grow (redrawn wr q.d) q.os := fun _ _ => Calls.regrown_of (sbefore x y _)
          have HE := Lib.hid (show befM x O[q] = befM x y by rw [HY.out])
          have hwq : wrap64 (q : Int) = (q : Int) := IntWalk.wrap64_in _ (by have := HLEN.out; omega)
          have hd0 : decide ((0 : Int) < (q : Int) + 1) = true := by rw [decide_eq_true_eq]; omega
          generalize befM x y = E at *
          go_wp2_with fail
          refine wp_region_quiet_below (by kernel_rfl) (by kernel_rfl) ?_
          repeat (go_big_quiet_step (first | with_reducible exact kB _ _))
          refine wpQuiet_nil ?_
          intro _ hw'
          obtain ⟨⟨dq, osq⟩, hw''⟩ := hw'
          subst hw''
          have hBx := hB.later (below_regrown wr dq osq)
          generalize grow (redrawn wr dq) osq = V at *
          clear kB m0 m1 m2 m3 m4 m5 m6 m7 m8 b0 b1 b2 b3 b4 b5 b6 b7 b8 hd0
          cases E
          case' true =>
            have HN : Hid (∀ (i : Nat) (hi : i < O.length), q ≤ i → befM x O[i] = true) := Lib.hid (fun i hi h => by
              by_cases hiq : i = q
              · subst hiq; exact HE.out
              · exact HH.out i hi (by omega))
            go_wp2_with fail
            go_roundw
            case rel => exact ⟨q, by omega, by rw [hwq], HN, hBx⟩
            case measure =>
              rw [hwq]
              simp only [intOf]
              omega
          case' false =>
            have HLO : Hid (∀ (i : Nat) (hi : i < O.length), i < q + 1 → befM x O[i] = false) := Lib.hid (fun i hi h => by
              by_cases hiq : i = q
              · subst hiq; exact HE.out
              · have h2 := HS.out i hi (by omega)
                have h1 := HE.out
                rw [HY.out] at h1
                exact befM_ntrans h1 h2)
            have HN : Hid (IsSort (L.take (k + 1)) (O.take (q + 1) ++ (x :: O.drop (q + 1)))) := Lib.hid (by rw [HT.out]; exact HO.out.insert hq HLO.out HH.out)
            have HL : Hid ((O.take (q + 1)).length + (O.drop (q + 1)).length = O.length) := Lib.hid (by simp; omega)
            generalize O.drop (q + 1) = D at hd1 HN HL
            generalize O.take (q + 1) = T at hd2 HN HL
        all_goals
          clear z2 l0 l1 l2 l3 l4 l5 l6 l7 l8 a0 a1 a2 a3 a4 a5 a6 a7 a8 o0 o1 o2
          have hSv := OwnG9.slice hBx.rows
          have hDr := hd1 _ (hSv.below ((ebox1 V (.cells #[.int .u8 (x 0 0), .int .u8 (x 0 1), .int .u8 (x 0 2), .int .u8 (x 1 0), .int .u8 (x 1 1), .int .u8 (x 1 2), .int .u8 (x 2 0), .int .u8 (x 2 1), .int .u8 (x 2 2)] 55)).drew))
          have hlO : T.length + D.length ≤ 1048576 := by have := HLEN.out; have := HL.out; omega
          have hxs : 1 + D.length ≤ 8388608 := by omega
          obtain ⟨⟨a0, a1, a2⟩, ⟨a3, a4, a5⟩, a6, a7, a8⟩ := (hT.below hBx.below hbb).nine hlt
          rw [HXE.out] at a0 a1 a2 a3 a4 a5 a6 a7 a8
          obtain ⟨o0, o1, o2⟩ := gcells hBx.out
          have qo := fun o => ((ebox1 V o).cell (p := ⟨w.heap.size + 2, 2, none⟩) hBx.out.lt).trans o2
          go_wp2_with fail
          go_cut [10] (fun s10 wx => ∃ va vc, s10 = .slice va (D.length + 1) vc ∧ Below V.heap.size V wx ∧ OwnG9 wx V.heap.size (.slice va (D.length + 1) vc) (x :: D))
          case first =>
            go_region_law (first
              | ((refine step_append_mats _ (by rfl) _ _ (by rfl) V.heap.size (.slice (some ⟨V.heap.size, 0, none⟩) 1 1) 1 (cell9 x) (by rfl) (World.ownsRow.drew (own_one V x)) _ D (by rfl) hDr hxs (by simp) ?_
                  intro v3 w3 hown3 hgrow3)))
            all_goals
              have hb3 := grown_below ((ebox1 V _).drew) (World.ownsRow.drew (own_one V x)) hgrow3 (by simp)
              have hOw3 : OwnG9 w3 V.heap.size v3 (x :: D) := by
                have h : w3.ownsRow V.heap.size 55 9 v3 (x :: D).length (cells9 (x :: D)) := by
                  rw [show (x :: D).length = 1 + D.length by simp; omega]
                  exact hown3
                exact h
              obtain ⟨va, vc, rfl⟩ := OwnG9.shape hOw3
              go_wp2_with fail
              go_meet
              exact ⟨va, vc, rfl, hb3, hOw3⟩
          case rest =>
            rename World => w3
            obtain ⟨va, vc, rfl, hb3, hOw3⟩ := hcut
            have hB3 := hBx.later hb3
            clear hb3 qo o0 o1 o2 a0 a1 a2 a3 a4 a5 a6 a7 a8 hDr
            obtain ⟨o0, o1, o2⟩ := gcells hB3.out
            have qo := fun o => ((ebox1 w3 o).cell (p := ⟨w.heap.size + 2, 2, none⟩) hB3.out.lt).trans o2
            have hTk := hd2 _ ((OwnG9.slice hB3.rows).below (ebox1 w3 (.cells #[] 55)))
            have hR0 := (OwnG9.slice hOw3).below (ebox1 w3 (.cells #[] 55))
            go_wp2_with (at_builtin; first
              | (refine wpList_append_mats _ rfl _ _ rfl w3.heap.size (.slice (some ⟨w3.heap.size, 0, none⟩) 0 0) 0 [] rfl (own_zero w3) _ T rfl hTk (by omega) (by simp) ?_
                 intro v4 w4 hown4 hgrow4
                 have hb4 := grown_below (ebox1 w3 _) (own_zero w3) hgrow4 (by simp)
                 have hB4 := hB3.later hb4
                 have hR4 := (OwnG9.slice hOw3).below hb4
                 have hO4 : w4.ownsRow w3.heap.size 55 9 v4 T.length (cells9 T) := by simpa using hown4
                 obtain ⟨sa4, sc4, rfl⟩ := mown_slice hO4
                 have hs4 : w3.heap.size ≤ w4.heap.size := hb4.size)
              | (refine wpList_append_mats _ rfl _ _ rfl w3.heap.size (.slice sa4 T.length sc4) T.length (cells9 T) rfl hO4 _ (x :: D) rfl hR4 (by simp; omega) hs4 ?_
                 intro v5 w5 hown5 hgrow5
                 have hb5 := hb4.trans ((grown_below (Below.refl _ _) hO4 hgrow5 hs4))
                 have hB5 := hB3.later hb5
                 have hfz := hB5.out.frozen 2
                 have hcl := hB5.out.cell (i := 2) (by omega)
                 obtain ⟨g5, sc5, rfl⟩ : ∃ g5 sc5, v5 = .slice (some ⟨g5, 0, none⟩) (T ++ (x :: D)).length sc5 := by
                   have h : w5.ownsRow w3.heap.size 55 9 v5 (T.length + D.length + 1) (cells9 T ++ cells9 (x :: D)) := by
                     rw [show T.length + D.length + 1 = T.length + (x :: D).length by simp; omega]; exact hown5
                   obtain ⟨g5, sc5, e⟩ := own_succ h
                   exact ⟨g5, sc5, by rw [e]; simp; omega⟩
                 have hO5 : w5.ownsRow w.heap.size 55 9 (.slice (some ⟨g5, 0, none⟩) (T ++ (x :: D)).length sc5) (T ++ (x :: D)).length (cells9 (T ++ (x :: D))) := by
                   refine owns_mono ?_ hB3.below.size
                   rw [show cells9 (T ++ (x :: D)) = cells9 T ++ cells9 (x :: D) by simp [cells9]]
                   simpa using hown5))
            have hl5 : (T ++ (x :: D)).length = T.length + (D.length + 1) := by simp
            go_roundw
            case rel => exact ⟨k + 1, g5, sc5, _, by omega, by go_num, HN, by have := HLEN.out; have := HL.out; omega, by rw [← hl5]; exact hB5.put hO5⟩
            case measure => simp [intOf]; omega
    · obtain rfl : k = L.length := by omega
      obtain ⟨j0, j1, j2⟩ := gcells hB.out
      have z0 := hB.res.frozen 0
      have z1 := hB.res.frozen 1
      have z2 := hB.res.frozen 2
      obtain ⟨r0, r1, r2⟩ := gcells hB.res
      clear hO
      have HL : Hid (IsSort L O) := Lib.hid (by have := HO.out; rwa [List.take_length] at this)
      go_wp2_with fail
      obtain ⟨v0, v1, v2, v3, v4⟩ := hB.finish p n
      exact bodyPost_ret (v := .agg #[.int .i64 p, .int .i64 n, .slice (some ⟨g, 0, none⟩) O.length sc]) (by simp [results, Try.results72, go_sem, v0, v1, v2]) rfl ⟨_, O, rfl, HL.out, v3, v4⟩
end Go.Proofs.Ytpbdbgajohacoaa
