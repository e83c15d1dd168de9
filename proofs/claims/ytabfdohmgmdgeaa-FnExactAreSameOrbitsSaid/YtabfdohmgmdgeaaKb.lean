/-
  PRODUCTS of matrices: the model's. Conditions: as each theorem states.
-/
import Derived.Test.YtabfdohmgmdgeaaKa
namespace Go.Proofs.Ytabfdohmgmdgeaa
open Go.RowKit Go.Sort EchM

theorem psum_out {n : Nat} {g h : Nat → Nat → Int} (hg : Out0 n g) (hh : Out0 n h) {i j : Nat} (hi : i < 3) (hj : j < 3) (ho : n ≤ i ∨ n ≤ j) : ∀ k, k ≤ 3 → psum g h i j k = 0
  | 0, _ => rfl
  | k + 1, hk => by
    rw [psum, psum_out hg hh hi hj ho k (by omega)]
    rcases ho with h1 | h1
    · rw [hg i hi k (by omega) (.inl h1)]; omega
    · rw [hh k (by omega) j hj (.inr h1)]; omega
theorem psum_size {n : Nat} {g h : Nat → Nat → Int} (hg : Out0 n g) {i j : Nat} (hi : i < 3) (hn : n ≤ 3) : psum g h i j n = psum g h i j 3 := by
  have key : ∀ k, n ≤ k → k ≤ 3 → psum g h i j k = psum g h i j n := by
    intro k
    induction k with
    | zero => intro h1 _; rw [show n = 0 by omega]
    | succ k ih =>
      intro h1 h2
      by_cases e : n = k + 1
      · rw [e]
      · rw [psum, ih (by omega) (by omega), hg i hi k (by omega) (.inr (by omega))]; omega
  exact (key 3 hn (by omega)).symm
theorem prodM_out {p : Int} {n : Nat} {g h : Nat → Nat → Int} (hg : Out0 n g) (hh : Out0 n h) : Out0 n (prodM p g h) := fun i hi j hj ho => by
  rw [prodM, psum_out hg hh hi hj ho 3 (by omega)]; simp

set_option maxRecDepth 8000 in
set_option maxHeartbeats 8000000 in
theorem sprod (p : Int) (n : Nat) (g h : Nat → Nat → Int) (w : World) (h2 : 2 ≤ p) (h13 : p ≤ 13) (hg : ∀ i, i < 3 → ∀ j, j < 3 → 0 ≤ g i j ∧ g i j < p) (hh : ∀ i, i < 3 → ∀ j, j < 3 → 0 ≤ h i j ∧ h i j < p) (hn3 : n ≤ 3) (hog : Out0 n g) (hoh : Out0 n h) :
    Calls Try.prog 26 #[.int .i64 p, .int .i64 (n : Int), mv g, mv h] w fun e w' => e = .returned (mv (prodM p g h)) ∧ Below w.heap.size w w' := by
  obtain ⟨W, hW, rG, rH, rR, rO, hbW, hWs⟩ : ∃ W, W = ((((w.alloc (.cells #[.int .u8 (g 0 0), .int .u8 (g 0 1), .int .u8 (g 0 2), .int .u8 (g 1 0), .int .u8 (g 1 1), .int .u8 (g 1 2), .int .u8 (g 2 0), .int .u8 (g 2 1), .int .u8 (g 2 2)] 56)).alloc (.cells #[.int .u8 (h 0 0), .int .u8 (h 0 1), .int .u8 (h 0 2), .int .u8 (h 1 0), .int .u8 (h 1 1), .int .u8 (h 1 2), .int .u8 (h 2 0), .int .u8 (h 2 1), .int .u8 (h 2 2)] 56)).alloc (.cells #[.int .u8 0, .int .u8 0, .int .u8 0, .int .u8 0, .int .u8 0, .int .u8 0, .int .u8 0, .int .u8 0, .int .u8 0] 56)).alloc (.cells #[.int .u8 0, .int .u8 0, .int .u8 0, .int .u8 0, .int .u8 0, .int .u8 0, .int .u8 0, .int .u8 0, .int .u8 0] 56)) ∧
      W.rowIs w.heap.size 56 9 (mF g) ∧ W.rowIs (w.heap.size + 1) 56 9 (mF h) ∧ W.rowIs (w.heap.size + 2) 56 9 (mF fun _ _ => 0) ∧ W.rowIs (w.heap.size + 3) 56 9 (mF fun _ _ => 0) ∧ Below w.heap.size w W ∧ w.heap.size + 4 ≤ W.heap.size := by
    refine ⟨_, rfl, (((mbox w g _).alloc _).alloc _).alloc _, ?_, ?_, ?_, ((ebox2 _ _ _).alloc (by simp; omega) _).alloc (by simp; omega) _, by simp⟩
    · have := mbox (w.alloc (.cells #[.int .u8 (g 0 0), .int .u8 (g 0 1), .int .u8 (g 0 2), .int .u8 (g 1 0), .int .u8 (g 1 1), .int .u8 (g 1 2), .int .u8 (g 2 0), .int .u8 (g 2 1), .int .u8 (g 2 2)] 56)) h 56
      rw [World.size_alloc] at this
      exact (this.alloc _).alloc _
    · have := mbox ((w.alloc (.cells #[.int .u8 (g 0 0), .int .u8 (g 0 1), .int .u8 (g 0 2), .int .u8 (g 1 0), .int .u8 (g 1 1), .int .u8 (g 1 2), .int .u8 (g 2 0), .int .u8 (g 2 1), .int .u8 (g 2 2)] 56)).alloc (.cells #[.int .u8 (h 0 0), .int .u8 (h 0 1), .int .u8 (h 0 2), .int .u8 (h 1 0), .int .u8 (h 1 1), .int .u8 (h 1 2), .int .u8 (h 2 0), .int .u8 (h 2 1), .int .u8 (h 2 2)] 56)) (fun _ _ => 0) 56
      rw [World.size_alloc, World.size_alloc] at this
      exact this.alloc _
    · have := mbox (((w.alloc (.cells #[.int .u8 (g 0 0), .int .u8 (g 0 1), .int .u8 (g 0 2), .int .u8 (g 1 0), .int .u8 (g 1 1), .int .u8 (g 1 2), .int .u8 (g 2 0), .int .u8 (g 2 1), .int .u8 (g 2 2)] 56)).alloc (.cells #[.int .u8 (h 0 0), .int .u8 (h 0 1), .int .u8 (h 0 2), .int .u8 (h 1 0), .int .u8 (h 1 1), .int .u8 (h 1 2), .int .u8 (h 2 0), .int .u8 (h 2 1), .int .u8 (h 2 2)] 56)).alloc (.cells #[.int .u8 0, .int .u8 0, .int .u8 0, .int .u8 0, .int .u8 0, .int .u8 0, .int .u8 0, .int .u8 0, .int .u8 0] 56)) (fun _ _ => 0) 56
      rw [World.size_alloc, World.size_alloc, World.size_alloc] at this
      exact this
  have HGG := Lib.hid hg
  have HHH := Lib.hid hh
  have HOG := Lib.hid hog
  have HPO := Lib.hid (prodM_out (p := p) hog hoh)
  clear hg hh hog hoh
  unfold mv
  go_enter Try.func26, Try.ntmps26
  go_upto_region 2 with fail
  rw [← hW]
  clear hW
  go_wp2_with fail
  go_loopw [10] (fun i wr => ∃ (k : Nat), k ≤ n ∧ i = .int .i64 k ∧ wr.rowIs w.heap.size 56 9 (mF g) ∧ wr.rowIs (w.heap.size + 1) 56 9 (mF h) ∧ wr.rowIs (w.heap.size + 2) 56 9 (mF fun _ _ => 0) ∧ wr.rowIs (w.heap.size + 3) 56 9 (mF (pupto p g h k 0)) ∧ Below w.heap.size w wr) (fun i _ => n - (intOf i).toNat)
  case atStart => exact ⟨0, by omega, rfl, rG, rH, rR, mF_congr rO (fun a _ b _ => by simp [pupto]), hbW⟩
  case round =>
    obtain ⟨i, hi, rfl, qG, qH, qR, qO, hb⟩ := hrel
    by_cases hltn : i < n
    · have hlt' : (i : Int) < (n : Int) := by omega
      have hlt : i < 3 := by omega
      go_wp2_with fail
      go_loopw [11] (fun s wr => ∃ (j : Nat), j ≤ n ∧ s = .int .i64 j ∧ wr.rowIs w.heap.size 56 9 (mF g) ∧ wr.rowIs (w.heap.size + 1) 56 9 (mF h) ∧ wr.rowIs (w.heap.size + 2) 56 9 (mF fun _ _ => 0) ∧ wr.rowIs (w.heap.size + 3) 56 9 (mF (pupto p g h i j)) ∧ Below w.heap.size w wr) (fun s _ => n - (intOf s).toNat)
      case atStart => exact ⟨0, by omega, rfl, qG, qH, qR, qO, hb⟩
      case round =>
        clear qG qH qR qO hb
        obtain ⟨j, hj, rfl, qG, qH, qR, qO, hb⟩ := hrel
        by_cases hjtn : j < n
        · have hjt' : (j : Int) < (n : Int) := by omega
          have hjt : j < 3 := by omega
          obtain ⟨wo, rfl⟩ : ∃ wo : World, wo = wr := ⟨_, rfl⟩
          go_wp2_with fail
          go_loopw [12, 13] (fun s u wr => ∃ (k : Nat), k ≤ n ∧ s = .int .i64 (psum g h i j k) ∧ u = .int .i64 k ∧ ∃ n, wr = wo.drewN n) (fun _ u _ => n - (intOf u).toNat)
          case atStart => exact ⟨0, by omega, rfl, rfl, 0, rfl⟩
          case round =>
            obtain ⟨k, hk, rfl, rfl, nd, rfl⟩ := hrel
            obtain ⟨s0, s1⟩ := psum_bound h13 HGG.out HHH.out hlt hjt k (by omega)
            by_cases hktn : k < n
            · have hkt' : (k : Int) < (n : Int) := by omega
              have hkt : k < 3 := by omega
              have c0 := mcell qG (i := i) (j := k) hlt hkt
              have c1 := mcell qH (i := k) (j := j) hkt hjt
              obtain ⟨x0, x1⟩ := HGG.out i hlt k hkt
              obtain ⟨y0, y1⟩ := HHH.out k hkt j hjt
              obtain ⟨f0, f1⟩ := eprod_fit h13 ⟨x0, x1⟩ ⟨y0, y1⟩
              have HS := Lib.hid (show psum g h i j k + g i k * h k j = psum g h i j (k + 1) from rfl)
              generalize g i k = X at c0 x0 x1 f0 f1 HS
              generalize h k j = Y at c1 y0 y1 f0 f1 HS
              generalize psum g h i j k = S at s0 s1 HS ⊢
              have w1 : IntKind.i64.wrap (X * Y) = X * Y := IntWalk.i64_in _ (by omega)
              have w2 : IntKind.i64.wrap (S + X * Y) = S + X * Y := IntWalk.i64_in _ (by omega)
              go_wp2_with fail
              go_quiet (fail)
              go_wp2_with fail
              go_roundw
              case rel => exact ⟨k + 1, by omega, by rw [← HS.out], by go_num, _, rfl⟩
              case measure => simp [intOf]; omega
            · obtain rfl : k = n := by omega
              have HP := Lib.hid (show psum g h i j k % p = prodM p g h i j by rw [psum_size HOG.out hlt hn3]; rfl)
              have hst := mF_congr (h := pupto p g h i (j + 1)) (mset (i := i) (j := j) qO hjt (prodM p g h i j)) (fun a _ b _ => pupto_next a b)
              obtain ⟨m0, m1⟩ := prodM_bound h2 g h i j
              have y0 := mcell qO (i := i) (j := j) hlt hjt
              have z0 := qO.frozen (i * 3 + j)
              have htm : (psum g h i j k).tmod p = psum g h i j k % p := Int.tmod_eq_emod_of_nonneg s0
              rw [HP.out] at htm
              have hmm : psum g h i j k % p = prodM p g h i j := HP.out
              generalize prodM p g h i j = X at hst m0 m1 htm hmm
              generalize psum g h i j k = S at s0 s1 htm hmm ⊢
              have w8 : IntKind.u8.wrap X = X := IntWalk.u8_in _ (by omega)
              have oG : (((wo.drewN nd).drew).setCell ⟨w.heap.size + 3, i * 3 + j, none⟩ (.int .u8 X)).rowIs w.heap.size 56 9 (mF g) := qG.setOther (by simp) _
              have oH : (((wo.drewN nd).drew).setCell ⟨w.heap.size + 3, i * 3 + j, none⟩ (.int .u8 X)).rowIs (w.heap.size + 1) 56 9 (mF h) := qH.setOther (by simp) _
              have oR : (((wo.drewN nd).drew).setCell ⟨w.heap.size + 3, i * 3 + j, none⟩ (.int .u8 X)).rowIs (w.heap.size + 2) 56 9 (mF fun _ _ => 0) := qR.setOther (by simp) _
              have oO : (((wo.drewN nd).drew).setCell ⟨w.heap.size + 3, i * 3 + j, none⟩ (.int .u8 X)).rowIs (w.heap.size + 3) 56 9 (mF (pupto p g h i (j + 1))) := hst
              have oB : Below w.heap.size w (((wo.drewN nd).drew).setCell ⟨w.heap.size + 3, i * 3 + j, none⟩ (.int .u8 X)) := ((below_drewN hb nd).drew).setCell (by simp) _
              go_wp2_with fail
              go_region
              all_goals
                go_wp2_with fail
                go_roundw
                case rel => exact ⟨j + 1, by omega, by go_num, oG, oH, oR, oO, oB⟩
                case measure => simp [intOf]; omega
        · obtain rfl : j = n := by omega
          have qO2 := mF_congr (h := pupto p g h (i + 1) 0) qO (fun a ha b hb => by
            unfold pupto
            by_cases e2 : a < i ∨ (a = i ∧ b < j)
            · rw [if_pos e2, if_pos (by omega)]
            · rw [if_neg e2]
              by_cases e3 : a = i
              · rw [if_pos (by omega), HPO.out a ha b hb (.inr (by omega))]
              · rw [if_neg (by omega)])
          go_wp2_with fail
          go_roundw
          case rel => exact ⟨i + 1, by omega, by go_num, qG, qH, qR, qO2, hb⟩
          case measure => simp [intOf]; omega
    · obtain rfl : i = n := by omega
      have q4 := mF_congr (h := prodM p g h) qO (fun a ha b hb => by
        unfold pupto
        by_cases e : a < i
        · rw [if_pos (.inl e)]
        · rw [if_neg (by omega), HPO.out a ha b hb (.inl (by omega))])
      obtain ⟨r, hr⟩ : ∃ r, prodM p g h = r := ⟨_, rfl⟩
      rw [hr] at q4
      have HRQ := Lib.hid hr
      clear hr
      obtain ⟨⟨o0, o1, o2⟩, ⟨o3, o4, o5⟩, o6, o7, o8⟩ := mcells q4
      obtain ⟨⟨y0, y1, y2⟩, ⟨y3, y4, y5⟩, y6, y7, y8⟩ := mcells qR
      have z0 := qR.frozen 0
      have z1 := qR.frozen 1
      have z2 := qR.frozen 2
      have z3 := qR.frozen 3
      have z4 := qR.frozen 4
      have z5 := qR.frozen 5
      have z6 := qR.frozen 6
      have z7 := qR.frozen 7
      have z8 := qR.frozen 8
      obtain ⟨hf1, hf2⟩ := mfill (w := w) (B := w.heap.size) qR hb (by omega) r
      obtain ⟨⟨v0, v1, v2⟩, ⟨v3, v4, v5⟩, v6, v7, v8⟩ := mcells hf1
      have V0 := Lib.hid v0
      have V1 := Lib.hid v1
      have V2 := Lib.hid v2
      have V3 := Lib.hid v3
      have V4 := Lib.hid v4
      have V5 := Lib.hid v5
      have V6 := Lib.hid v6
      have V7 := Lib.hid v7
      have V8 := Lib.hid v8
      have HF2 := Lib.hid hf2
      clear hf1 hf2 v0 v1 v2 v3 v4 v5 v6 v7 v8 qO q4
      go_wp2_with fail
      exact bodyPost_ret (v := mv r) (by simp [results, Try.results26, go_sem, mv, V0.out, V1.out, V2.out, V3.out, V4.out, V5.out, V6.out, V7.out, V8.out]) rfl ⟨by rw [← HRQ.out]; rfl, HF2.out⟩
end Go.Proofs.Ytabfdohmgmdgeaa
