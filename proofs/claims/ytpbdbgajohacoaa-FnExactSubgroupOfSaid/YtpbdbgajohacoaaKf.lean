/-
  INVERSES of matrices: the program's, walked. Conditions: as each theorem states.
-/
import Derived.Test.YtpbdbgajohacoaaKd
import Derived.Deep.RegionHeld3
namespace Go.Proofs.Ytpbdbgajohacoaa
open Go.RowKit Go.Sort EchM

theorem filled_agg (n : Nat) (g f : Nat → Nat → Int) (w : World) (h1 : 1 ≤ n) (h3 : n ≤ 3) (hf : fullM n g = f) :
    Calls Try.prog 97 #[.int .i64 (n : Int), .agg #[.int .u8 (g 0 0), .int .u8 (g 0 1), .int .u8 (g 0 2), .int .u8 (g 1 0), .int .u8 (g 1 1), .int .u8 (g 1 2), .int .u8 (g 2 0), .int .u8 (g 2 1), .int .u8 (g 2 2)]] w fun e w' => e = .returned (.agg #[.int .u8 (f 0 0), .int .u8 (f 0 1), .int .u8 (f 0 2), .int .u8 (f 1 0), .int .u8 (f 1 1), .int .u8 (f 1 2), .int .u8 (f 2 0), .int .u8 (f 2 1), .int .u8 (f 2 2)]) ∧ Below w.heap.size w w' := by
  subst hf; exact filled_any n g w h1 h3
theorem cof_agg (p : Int) (f : Nat → Nat → Int) (i j : Nat) (C : Int) (w : World) (hi : i < 3) (hj : j < 3) (h2 : 2 ≤ p) (h13 : p ≤ 13) (hf : ∀ i, i < 3 → ∀ j, j < 3 → 0 ≤ f i j ∧ f i j < p) (hC : cofP p f i j = C) :
    Calls Try.prog 98 #[.int .i64 p, .agg #[.int .u8 (f 0 0), .int .u8 (f 0 1), .int .u8 (f 0 2), .int .u8 (f 1 0), .int .u8 (f 1 1), .int .u8 (f 1 2), .int .u8 (f 2 0), .int .u8 (f 2 1), .int .u8 (f 2 2)], .int .i64 (i : Int), .int .i64 (j : Int)] w fun e w' => e = .returned (.int .i64 C) ∧ Below w.heap.size w w' := by
  subst hC; exact cof_any p f i j w hi hj h2 h13 hf
/-- The numbers of an inverse, up to a place (column by column). -/
def hupto (n : Nat) (H : Nat → Nat → Int) (i j : Nat) (a b : Nat) : Int := if (b < i ∧ a < n) ∨ (b = i ∧ a < j) then H a b else 0

set_option maxRecDepth 8000 in
set_option maxHeartbeats 8000000 in
theorem iinv (p : Int) (n : Nat) (g : Nat → Nat → Int) (w : World) (h2 : 2 ≤ p) (h13 : p ≤ 13) (h1 : 1 ≤ n) (h3 : n ≤ 3) (hg : ∀ i, i < 3 → ∀ j, j < 3 → 0 ≤ g i j ∧ g i j < p) :
    Calls Try.prog 96 #[.int .i64 p, .int .i64 (n : Int), mv g] w fun e w' =>
      e = .returned (mv (cutM n (hM p (epowI p (detP p (fullM n g)) (p - 2).toNat) (fullM n g)))) ∧ Below w.heap.size w w' := by
  have hF := full_bound (n := n) h2 hg
  obtain ⟨f, hf⟩ : ∃ f, fullM n g = f := ⟨_, rfl⟩
  have HFI := Lib.hid hf
  have cD := fun w => det_is p n g w h2 h13 h1 h3 hg (detP p f) (by rw [hf])
  have CD := Lib.hid cD
  have hdb := detP_bound h2 f
  have CI := Lib.hid (fun w => invmod p (detP p f) w h2 h13 hdb)
  rw [hf] at hF ⊢
  have HF := Lib.hid hF
  obtain ⟨F, hFF⟩ : ∃ F, epowI p (detP p f) (p - 2).toNat = F := ⟨_, rfl⟩
  have hF2 := epowI_small (p := p) (x := detP p f) h2 (p - 2).toNat
  rw [hFF] at hF2 CI ⊢
  obtain ⟨F0, F1⟩ := hF2
  obtain ⟨W, hW, rG, rR, hbW, hWs⟩ : ∃ W, W = (w.alloc (.cells #[.int .u8 (g 0 0), .int .u8 (g 0 1), .int .u8 (g 0 2), .int .u8 (g 1 0), .int .u8 (g 1 1), .int .u8 (g 1 2), .int .u8 (g 2 0), .int .u8 (g 2 1), .int .u8 (g 2 2)] 55)).alloc (.cells #[.int .u8 0, .int .u8 0, .int .u8 0, .int .u8 0, .int .u8 0, .int .u8 0, .int .u8 0, .int .u8 0, .int .u8 0] 55) ∧
      W.rowIs w.heap.size 55 9 (mF g) ∧ W.rowIs (w.heap.size + 1) 55 9 (mF fun _ _ => 0) ∧ Below w.heap.size w W ∧ w.heap.size + 2 ≤ W.heap.size := by
    refine ⟨_, rfl, (mbox w g _).alloc _, ?_, ebox2 _ _ _, by simp⟩
    have := mbox (w.alloc (.cells #[.int .u8 (g 0 0), .int .u8 (g 0 1), .int .u8 (g 0 2), .int .u8 (g 1 0), .int .u8 (g 1 1), .int .u8 (g 1 2), .int .u8 (g 2 0), .int .u8 (g 2 1), .int .u8 (g 2 2)] 55)) (fun _ _ => 0) 55
    rwa [World.size_alloc] at this
  clear hf hF cD hdb hFF hg
  generalize hDD : detP p f = D at *
  clear hDD
  obtain ⟨⟨c0, c1, c2⟩, ⟨c3, c4, c5⟩, c6, c7, c8⟩ := mcells rG
  unfold mv
  go_enter Try.func96, Try.ntmps96
  go_upto_region 1 with fail
  rw [← hW]
  clear hW
  go_wp2_with fail
  ((with_reducible refine (filled_agg n g f _ h1 h3 HFI.out).mono ?_); rintro e w1 ⟨rfl, hb1⟩)
  obtain ⟨V, hV, rV, hbV, hVs⟩ : ∃ V, V = w1.alloc (.cells #[.int .u8 (f 0 0), .int .u8 (f 0 1), .int .u8 (f 0 2), .int .u8 (f 1 0), .int .u8 (f 1 1), .int .u8 (f 1 2), .int .u8 (f 2 0), .int .u8 (f 2 1), .int .u8 (f 2 2)] 55) ∧ V.rowIs w1.heap.size 55 9 (mF f) ∧ Below w1.heap.size w1 V ∧ w1.heap.size < V.heap.size := ⟨_, rfl, mbox w1 f _, ebox1 _ _, by simp⟩
  go_upto_region 2 with fail
  rw [← hV]
  clear hV c0 c1 c2 c3 c4 c5 c6 c7 c8
  have hs1 := hb1.size
  have hbWV := hb1.trans (hbV.mono hs1)
  obtain ⟨⟨c0, c1, c2⟩, ⟨c3, c4, c5⟩, c6, c7, c8⟩ := mcells (erow_below rG hbWV rG.lt)
  go_wp2_with fail
  ((with_reducible refine (CD.out _).mono ?_); rintro e w2 ⟨rfl, hb2⟩)
  go_wp2_with fail
  ((with_reducible refine (CI.out _).mono ?_); rintro e w3 ⟨rfl, rfl⟩)
  have hs2 := hb2.size
  obtain ⟨Z, hZ, rZ, hbZ, hZs⟩ : ∃ Z, Z = w2.alloc (.cells #[.int .u8 0, .int .u8 0, .int .u8 0, .int .u8 0, .int .u8 0, .int .u8 0, .int .u8 0, .int .u8 0, .int .u8 0] 55) ∧ Z.rowIs w2.heap.size 55 9 (mF fun _ _ => 0) ∧ Below w2.heap.size w2 Z ∧ w2.heap.size < Z.heap.size := ⟨_, rfl, mbox w2 (fun _ _ => 0) _, ebox1 _ _, by simp⟩
  go_upto_region 4 with fail
  rw [← hZ]
  clear hZ c0 c1 c2 c3 c4 c5 c6 c7 c8
  have hbVZ := hb2.trans (hbZ.mono hs2)
  have rV2 := erow_below rV hbVZ rV.lt
  have hbWZ := hbWV.trans (hbVZ.mono (Nat.le_trans hs1 (Nat.le_of_lt hVs)))
  have rR2 := erow_below rR hbWZ rR.lt
  have hbwZ := hbW.trans (hbWZ.mono hbW.size)
  go_wp2_with fail
  go_loopw [22] (fun i wr => ∃ (k : Nat), k ≤ n ∧ i = .int .i64 k ∧ wr.rowIs (w.heap.size + 1) 55 9 (mF fun _ _ => 0) ∧ wr.rowIs w1.heap.size 55 9 (mF f) ∧ wr.rowIs w2.heap.size 55 9 (mF (hupto n (hM p F f) k 0)) ∧ Below w2.heap.size w2 wr) (fun i _ => n - (intOf i).toNat)
  case atStart => exact ⟨0, by omega, rfl, rR2, rV2, mF_congr rZ (fun a _ b _ => by simp [hupto]), hbZ⟩
  case round =>
    clear rR2 rV2
    obtain ⟨i, hi, rfl, qR, qF, qO, hb⟩ := hrel
    by_cases hlt : i < n
    · have hlt' : (i : Int) < (n : Int) := by omega
      go_wp2_with fail
      go_loopw [26] (fun s wr => ∃ (j : Nat), j ≤ n ∧ s = .int .i64 j ∧ wr.rowIs (w.heap.size + 1) 55 9 (mF fun _ _ => 0) ∧ wr.rowIs w1.heap.size 55 9 (mF f) ∧ wr.rowIs w2.heap.size 55 9 (mF (hupto n (hM p F f) i j)) ∧ Below w2.heap.size w2 wr) (fun s _ => n - (intOf s).toNat)
      case atStart => exact ⟨0, by omega, rfl, qR, qF, qO, hb⟩
      case round =>
        clear qR qF qO hb
        obtain ⟨j, hj, rfl, qR, qF, qO, hb⟩ := hrel
        by_cases hjt : j < n
        · have hjt' : (j : Int) < (n : Int) := by omega
          have hjt3 : (j : Int) < 3 := by omega
          have hlt3 : (i : Int) < 3 := by omega
          obtain ⟨C, hC⟩ : ∃ C, cofP p f i j = C := ⟨_, rfl⟩
          have HC := Lib.hid hC
          have hCb := cofP_bound h2 f i j
          rw [hC] at hCb
          have HH := Lib.hid (show hM p F f j i = C * F % p by rw [← hC]; rfl)
          clear hC
          obtain ⟨f0, f1⟩ := eprod_fit h13 hCb ⟨F0, F1⟩
          obtain ⟨X, hX⟩ : ∃ X, C * F % p = X := ⟨_, rfl⟩
          have hXb := emod_small (p := p) (a := C * F) h2
          rw [hX] at hXb HH
          obtain ⟨X0, X1⟩ := hXb
          have w1' : IntKind.i64.wrap (C * F) = C * F := IntWalk.i64_in _ (by omega)
          have w8 : IntKind.u8.wrap X = X := IntWalk.u8_in _ (by omega)
          have htm : (C * F).tmod p = X := by rw [Int.tmod_eq_emod_of_nonneg f0, hX]
          have hp0 : (p == 0) = false := by simp; omega
          have hp1 : ¬ p = 0 := by omega
          have hji : ¬ w1.heap.size = w2.heap.size := by omega
          have hmm : C * F % p = X := hX
          have cells := mcells qF
          have hlO := qO.lt
          have hlF := qF.lt
          have hs := hb.size
          have KK := Lib.hid (fun w' (h : Below wr.heap.size wr w') => show _ from mcells (erow_below qF h hlF))
          obtain ⟨⟨c0, c1, c2⟩, ⟨c3, c4, c5⟩, c6, c7, c8⟩ := cells
          have HX2 := Lib.hid hX
          clear hX
          go_wp2_with fail
          go_region_held3 (fun w' => (w'.cell? ⟨w1.heap.size, 0, none⟩ = some (.int .u8 (f 0 0)) ∧ w'.cell? ⟨w1.heap.size, 1, none⟩ = some (.int .u8 (f 0 1)) ∧ w'.cell? ⟨w1.heap.size, 2, none⟩ = some (.int .u8 (f 0 2))) ∧ (w'.cell? ⟨w1.heap.size, 3, none⟩ = some (.int .u8 (f 1 0)) ∧ w'.cell? ⟨w1.heap.size, 4, none⟩ = some (.int .u8 (f 1 1)) ∧ w'.cell? ⟨w1.heap.size, 5, none⟩ = some (.int .u8 (f 1 2))) ∧ (w'.cell? ⟨w1.heap.size, 6, none⟩ = some (.int .u8 (f 2 0)) ∧ w'.cell? ⟨w1.heap.size, 7, none⟩ = some (.int .u8 (f 2 1)) ∧ w'.cell? ⟨w1.heap.size, 8, none⟩ = some (.int .u8 (f 2 2))))
            (first | with_reducible exact KK.out _ (Below.refl _ _).drew | with_reducible exact KK.out _ HB5 | with_reducible exact K6)
            (first | ((with_reducible refine (cof_agg p f i j C _ (by omega) (by omega) h2 h13 HF.out HC.out).mono ?_); rintro e w5 ⟨rfl, hb5⟩; have HB5 : Below wr.heap.size wr w5 := (Below.refl _ _).drew.trans hb5; have q5 := erow_below qO HB5 hlO; have y0 := mcell q5 (i := j) (j := i) (by omega) (by omega); have z0 := q5.frozen (j * 3 + i); have K6 := mcells ((erow_below qF HB5 hlF).setOther (a := ⟨w2.heap.size, j * 3 + i, none⟩) hji (.int .u8 X))))
          all_goals
            have hst := mF_congr (h := hupto n (hM p F f) i (j + 1)) (mset (i := j) (j := i) q5 (by omega) X) (fun a ha b hb => by
              unfold upd hupto
              by_cases e : a = j ∧ b = i
              · obtain ⟨rfl, rfl⟩ := e
                rw [if_pos ⟨rfl, rfl⟩, if_pos (by omega), HH.out]
              · rw [if_neg e]
                by_cases e2 : (b < i ∧ a < n) ∨ (b = i ∧ a < j)
                · rw [if_pos e2, if_pos (by omega)]
                · rw [if_neg e2, if_neg (by omega)])
            have q6 := (erow_below qR HB5 qR.lt).setOther (a := ⟨w2.heap.size, j * 3 + i, none⟩) (by simp; omega) (.int .u8 X)
            have q7 := (erow_below qF HB5 qF.lt).setOther (a := ⟨w2.heap.size, j * 3 + i, none⟩) (by simp; omega) (.int .u8 X)
            have q8 : Below w2.heap.size w2 (w5.setCell ⟨w2.heap.size, j * 3 + i, none⟩ (.int .u8 X)) := (hb.trans (HB5.mono hs)).setCell (Nat.le_refl _) _
            clear hmm htm w1' w8 KK
            go_wp2_with fail
            go_roundw
            case rel => exact ⟨j + 1, by omega, by go_num, q6, q7, hst, q8⟩
            case measure => simp [intOf]; omega
        · obtain rfl : j = n := by omega
          have qO2 := mF_congr (h := hupto j (hM p F f) (i + 1) 0) qO (fun a _ b _ => by
            unfold hupto
            by_cases e2 : (b < i ∧ a < j) ∨ (b = i ∧ a < j)
            · rw [if_pos e2, if_pos (by omega)]
            · rw [if_neg e2, if_neg (by omega)])
          go_wp2_with fail
          go_roundw
          case rel => exact ⟨i + 1, by omega, by go_num, qR, qF, qO2, hb⟩
          case measure => simp [intOf]; omega
    · obtain rfl : i = n := by omega
      have q4 := mF_congr (h := cutM i (hM p F f)) qO (fun a _ b _ => by
        unfold hupto cutM
        by_cases e2 : a < i ∧ b < i
        · rw [if_pos (.inl ⟨e2.2, e2.1⟩), if_pos e2]
        · rw [if_neg (by omega), if_neg e2])
      obtain ⟨r, hr⟩ : ∃ r, cutM i (hM p F f) = r := ⟨_, rfl⟩
      rw [hr] at q4
      have HRQ := Lib.hid hr
      clear hr
      obtain ⟨⟨o0, o1, o2⟩, ⟨o3, o4, o5⟩, o6, o7, o8⟩ := mcells q4
      obtain ⟨⟨y0, y1, y2⟩, ⟨y3, y4, y5⟩, y6, y7, y8⟩ := mcells qR
      have z0 := qR.frozen 0
      have z1 := qR.frozen 1
      have z2 := qR.frozen 2
      have z3 := qR.frozen 3
      have z4 := qR.frozen 4
      have z5 := qR.frozen 5
      have z6 := qR.frozen 6
      have z7 := qR.frozen 7
      have z8 := qR.frozen 8
      have hbe := hbW.trans (((hb1.trans (hbV.mono hs1)).mono hbW.size).trans ((hb2.trans (hb.mono hs2)).mono (by have := hbWV.size; have := hbW.size; omega)))
      obtain ⟨hf1, hf2⟩ := mfill (w := w) (B := w.heap.size) qR hbe (by omega) r
      obtain ⟨⟨v0, v1, v2⟩, ⟨v3, v4, v5⟩, v6, v7, v8⟩ := mcells hf1
      have V0 := Lib.hid v0
      have V1 := Lib.hid v1
      have V2 := Lib.hid v2
      have V3 := Lib.hid v3
      have V4 := Lib.hid v4
      have V5 := Lib.hid v5
      have V6 := Lib.hid v6
      have V7 := Lib.hid v7
      have V8 := Lib.hid v8
      have HF2 := Lib.hid hf2
      clear hf1 hf2 v0 v1 v2 v3 v4 v5 v6 v7 v8 qO q4
      go_wp2_with fail
      exact bodyPost_ret (v := mv r) (by simp [results, Try.results96, go_sem, mv, V0.out, V1.out, V2.out, V3.out, V4.out, V5.out, V6.out, V7.out, V8.out]) rfl ⟨by rw [← HRQ.out]; rfl, HF2.out⟩
end Go.Proofs.Ytpbdbgajohacoaa
