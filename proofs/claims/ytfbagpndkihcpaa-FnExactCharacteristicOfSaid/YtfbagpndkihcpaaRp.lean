/-
  CHARACTERISTIC polynomials of matrices: the program's walk; both functions. Conditions: as each theorem states.
-/
import Derived.Test.YtfbagpndkihcpaaRo
import Derived.Test.YtfbagpndkihcpaaLb
namespace Go.Proofs.Ytfbagpndkihcpaa
open Go.RowKit Go.Sort EchM

theorem cof_agg (p : Int) (g : Nat → Nat → Int) (i : Nat) (w : World) (C : Int) (hi : i < 3) (h2 : 2 ≤ p) (h13 : p ≤ 13) (hg : ∀ i, i < 3 → ∀ j, j < 3 → 0 ≤ g i j ∧ g i j < p) (hC : cofP p g i i = C) :
    Calls Try.prog 55 #[.int .i64 p, .agg #[.int .u8 (g 0 0), .int .u8 (g 0 1), .int .u8 (g 0 2), .int .u8 (g 1 0), .int .u8 (g 1 1), .int .u8 (g 1 2), .int .u8 (g 2 0), .int .u8 (g 2 1), .int .u8 (g 2 2)], .int .i64 (i : Int), .int .i64 (i : Int)] w fun e w' => e = .returned (.int .i64 C) ∧ Below w.heap.size w w' := by
  subst hC
  exact cof_any p g i i w hi hi h2 h13 hg
theorem idet_agg (p : Int) (g : Nat → Nat → Int) (w : World) (D : Int) (h2 : 2 ≤ p) (h13 : p ≤ 13) (hg : ∀ i, i < 3 → ∀ j, j < 3 → 0 ≤ g i j ∧ g i j < p) (hD : detP p (fullM 3 g) = D) :
    Calls Try.prog 54 #[.int .i64 p, .int .i64 3, .agg #[.int .u8 (g 0 0), .int .u8 (g 0 1), .int .u8 (g 0 2), .int .u8 (g 1 0), .int .u8 (g 1 1), .int .u8 (g 1 2), .int .u8 (g 2 0), .int .u8 (g 2 1), .int .u8 (g 2 2)]] w fun e w' => e = .returned (.int .i64 D) ∧ Below w.heap.size w w' := by
  subst hD
  exact det_any p 3 g w h2 h13 (by omega) (by omega) hg
theorem slice_top (m B : Nat) (h1 : 1 ≤ m) (h3 : m ≤ 3) (W : World) :
    (Instr.slice 22 (.slice (some ⟨B, 0, none⟩) 4 4) none (some (.int .i64 ((m : Int) + 1))) (some (.int .i64 ((m : Int) + 1)))).run Try.prog W = .ok (.slice (some ⟨B, 0, none⟩) (m + 1) (m + 1)) W := by
  obtain ⟨i0, hi, hz0, hz1, hz2⟩ := info_parts einfoI
  have hm : m = 1 ∨ m = 2 ∨ m = 3 := by omega
  rcases hm with rfl | rfl | rfl
  all_goals simp [Instr.slice, run_underlying Try.underlying22, Instr.sliceBounds, run_sliceBound, sizeOf, typeInfo, hi, Addr.add]

set_option maxRecDepth 8000 in
set_option maxHeartbeats 8000000 in
theorem ichar (p : Int) (m : Nat) (g : Nat → Nat → Int) (w : World) (hx : MatV p m g) :
    Calls Try.prog 39 #[.int .i64 p, .int .i64 (m : Int), .agg #[.int .u8 (g 0 0), .int .u8 (g 0 1), .int .u8 (g 0 2), .int .u8 (g 1 0), .int .u8 (g 1 1), .int .u8 (g 1 2), .int .u8 (g 2 0), .int .u8 (g 2 1), .int .u8 (g 2 2)]] w fun e w' => ∃ v', e = .returned v' ∧ OwnV w' w.heap.size v' (chL p m g) ∧ Below w.heap.size w w' := by
  have h2 := hx.h2
  have h13 := hx.h13
  have m1 := hx.m1
  have m3 := hx.m3
  have HB := Lib.hid hx.bound
  have HT := Lib.hid (fun i hi => trF_bound h13 hx.bound i hi)
  have HC := Lib.hid (cfF_bound h2 h13 g)
  have HCO := Lib.hid (fun i w hi => cof_agg p g i w _ hi h2 h13 hx.bound rfl)
  have HCB := Lib.hid (fun i => cofP_bound h2 g i i)
  clear hx
  obtain ⟨W, hW, rX, hbW⟩ : ∃ W, W = w.alloc (.cells #[.int .u8 (g 0 0), .int .u8 (g 0 1), .int .u8 (g 0 2), .int .u8 (g 1 0), .int .u8 (g 1 1), .int .u8 (g 1 2), .int .u8 (g 2 0), .int .u8 (g 2 1), .int .u8 (g 2 2)] 36) ∧ W.rowIs w.heap.size 36 9 (mF g) ∧ Below w.heap.size w W := ⟨_, rfl, mbox w g _, ebox1 _ _⟩
  go_enter Try.func39, Try.ntmps39
  go_upto_region 1 with fail
  rw [← hW]
  clear hW
  go_wp2_with fail
  go_loopw [7, 8, 11] (fun t mm i wr => ∃ (k : Nat), k ≤ 3 ∧ t = .int .i64 (trF g k) ∧ mm = .int .i64 (cfF p g k) ∧ i = .int .i64 k ∧ Below W.heap.size W wr) (fun _ _ i _ => 3 - (intOf i).toNat)
  case atStart => exact ⟨0, by omega, rfl, rfl, rfl, Below.refl _ _⟩
  case round =>
    obtain ⟨k, hk, rfl, rfl, rfl, hb⟩ := hrel
    obtain ⟨t0, t1⟩ := HT.out k (by omega)
    obtain ⟨n0, n1⟩ := HC.out k
    have rd : wr.rowIs w.heap.size 36 9 (mF g) := erow_below rX hb rX.lt
    by_cases hlt : k < 3
    · have hlt' : (k : Int) < 3 := by omega
      have cc := mcell rd (i := k) (j := k) (by omega) (by omega)
      obtain ⟨⟨c0, c1, c2⟩, ⟨c3, c4, c5⟩, c6, c7, c8⟩ := mcells rd
      obtain ⟨x0, x1⟩ := HB.out k (by omega) k (by omega)
      obtain ⟨y0, y1⟩ := HCB.out k
      have HS := Lib.hid (show trF g k + g k k = trF g (k + 1) from rfl)
      have HM := Lib.hid (show cfF p g k + cofP p g k k = cfF p g (k + 1) from rfl)
      have CC := Lib.hid (fun w => HCO.out k w hlt)
      obtain ⟨X, hX⟩ : ∃ X, g k k = X := ⟨_, rfl⟩
      rw [hX] at cc x0 x1 HS
      clear hX
      generalize cofP p g k k = C at *
      generalize trF g k = T at *
      generalize cfF p g k = M at *
      have w1 : IntKind.i64.wrap (T + X) = T + X := IntWalk.i64_in _ (by omega)
      have w2 : IntKind.i64.wrap (M + C) = M + C := IntWalk.i64_in _ (by omega)
      clear rd
      go_wp2_with fail
      ((with_reducible refine (CC.out _).mono ?_); rintro e w4 ⟨rfl, hb4⟩)
      have hb5 := hb.trans (hb4.mono hb.size)
      clear hb4 cc c0 c1 c2 c3 c4 c5 c6 c7 c8
      go_wp2_with fail
      go_roundw
      case rel => exact ⟨k + 1, by omega, by rw [← HS.out], by rw [← HM.out], by go_num, hb5⟩
      case measure => simp [intOf]; omega
    · obtain rfl : k = 3 := by omega
      obtain ⟨D, hD⟩ : ∃ D, detP p (fullM 3 g) = D := ⟨_, rfl⟩
      have HX := Lib.hid (show chL p m g = [1, (p - 1) * trF g 3 % p, cfF p g 3 % p, (p - 1) * D % p].take (m + 1) by rw [← hD]; rfl)
      have d0 : 0 ≤ D ∧ D < p := by rw [← hD]; exact emod_small h2
      have HDD := Lib.hid (fun w => idet_agg p g w D h2 h13 HB.out hD)
      clear hD
      obtain ⟨⟨c0, c1, c2⟩, ⟨c3, c4, c5⟩, c6, c7, c8⟩ := mcells rd
      have hVW : w.heap.size < wr.heap.size := rd.lt
      have hb' := hbW.trans (hb.mono hbW.size)
      obtain ⟨t2, t3⟩ := HT.out 3 (by omega)
      clear rd rX hbW hb
      generalize trF g 3 = T at *
      generalize cfF p g 3 = M at *
      obtain ⟨f0, f1⟩ : 0 ≤ (p - 1) * T ∧ (p - 1) * T ≤ 12 * 39 := ⟨Int.mul_nonneg (by omega) (by omega), Int.mul_le_mul (by omega) (by omega) (by omega) (by omega)⟩
      obtain ⟨e0, e1⟩ : 0 ≤ (p - 1) * D ∧ (p - 1) * D ≤ 12 * 12 := ⟨Int.mul_nonneg (by omega) (by omega), Int.mul_le_mul (by omega) (by omega) (by omega) (by omega)⟩
      have w0 : IntKind.i64.wrap (p - 1) = p - 1 := IntWalk.i64_in _ (by omega)
      have w1 : IntKind.i64.wrap ((p - 1) * T) = (p - 1) * T := IntWalk.i64_in _ (by omega)
      have w2 : IntKind.i64.wrap ((p - 1) * D) = (p - 1) * D := IntWalk.i64_in _ (by omega)
      have g1 : ((p - 1) * T).tmod p = (p - 1) * T % p := Int.tmod_eq_emod_of_nonneg f0
      have g2 : ((p - 1) * D).tmod p = (p - 1) * D % p := Int.tmod_eq_emod_of_nonneg e0
      have g3 : M.tmod p = M % p := Int.tmod_eq_emod_of_nonneg n0
      have hp0 : ¬ p = 0 := by omega
      have hp1 : (p == 0) = false := by simpa using hp0
      have hp2 : ¬ p = -1 := by omega
      have q0 := emod_small (a := (p - 1) * T) h2
      have q1 := emod_small (a := (p - 1) * D) h2
      have q2 := emod_small (a := M) h2
      have k1 : IntKind.i64.wrap ((p - 1) * T % p) = (p - 1) * T % p := IntWalk.i64_in _ (by omega)
      have k2 : IntKind.i64.wrap ((p - 1) * D % p) = (p - 1) * D % p := IntWalk.i64_in _ (by omega)
      have k3 : IntKind.i64.wrap (M % p) = M % p := IntWalk.i64_in _ (by omega)
      have KK := Lib.hid (fun w' (h : Below wr.heap.size wr w') => show w'.cell? ⟨w.heap.size, 0, none⟩ = some (.int .u8 (g 0 0)) ∧ w'.cell? ⟨w.heap.size, 1, none⟩ = some (.int .u8 (g 0 1)) ∧ w'.cell? ⟨w.heap.size, 2, none⟩ = some (.int .u8 (g 0 2)) ∧ w'.cell? ⟨w.heap.size, 3, none⟩ = some (.int .u8 (g 1 0)) ∧ w'.cell? ⟨w.heap.size, 4, none⟩ = some (.int .u8 (g 1 1)) ∧ w'.cell? ⟨w.heap.size, 5, none⟩ = some (.int .u8 (g 1 2)) ∧ w'.cell? ⟨w.heap.size, 6, none⟩ = some (.int .u8 (g 2 0)) ∧ w'.cell? ⟨w.heap.size, 7, none⟩ = some (.int .u8 (g 2 1)) ∧ w'.cell? ⟨w.heap.size, 8, none⟩ = some (.int .u8 (g 2 2)) from
          ⟨(h.cell (p := ⟨_, 0, none⟩) hVW).trans c0, (h.cell (p := ⟨_, 1, none⟩) hVW).trans c1, (h.cell (p := ⟨_, 2, none⟩) hVW).trans c2, (h.cell (p := ⟨_, 3, none⟩) hVW).trans c3, (h.cell (p := ⟨_, 4, none⟩) hVW).trans c4, (h.cell (p := ⟨_, 5, none⟩) hVW).trans c5, (h.cell (p := ⟨_, 6, none⟩) hVW).trans c6, (h.cell (p := ⟨_, 7, none⟩) hVW).trans c7, (h.cell (p := ⟨_, 8, none⟩) hVW).trans c8⟩)
      have hVd : Below wr.heap.size wr wr.drew := (Below.refl _ _).drew
      go_wp2_with fail
      go_region_held3 (fun w' => w'.cell? ⟨w.heap.size, 0, none⟩ = some (.int .u8 (g 0 0)) ∧ w'.cell? ⟨w.heap.size, 1, none⟩ = some (.int .u8 (g 0 1)) ∧ w'.cell? ⟨w.heap.size, 2, none⟩ = some (.int .u8 (g 0 2)) ∧ w'.cell? ⟨w.heap.size, 3, none⟩ = some (.int .u8 (g 1 0)) ∧ w'.cell? ⟨w.heap.size, 4, none⟩ = some (.int .u8 (g 1 1)) ∧ w'.cell? ⟨w.heap.size, 5, none⟩ = some (.int .u8 (g 1 2)) ∧ w'.cell? ⟨w.heap.size, 6, none⟩ = some (.int .u8 (g 2 0)) ∧ w'.cell? ⟨w.heap.size, 7, none⟩ = some (.int .u8 (g 2 1)) ∧ w'.cell? ⟨w.heap.size, 8, none⟩ = some (.int .u8 (g 2 2)))
        (first | with_reducible exact KK.out _ hVd | with_reducible exact KK.out _ hb5' | with_reducible exact KK.out _ (hb5'.alloc hb5'.size _))
        (first
          | ((with_reducible refine (HDD.out _).mono ?_); rintro e w5 ⟨rfl, hb5⟩
             have hb5' : Below wr.heap.size wr w5 := lbel_drew hb5))
      all_goals
        have hsl5 := slice_top m w5.heap.size m1 m3
        go_wp2_with fail
        go_ret
        refine ⟨_, rfl, ?_, (hb'.trans (hb5'.mono hb'.size)).alloc (Nat.le_trans hb'.size hb5'.size) _⟩
        rw [HX.out]
        refine .inr ⟨w5.heap.size, m + 1, 4, fun q => [Value.int .i64 1, .int .i64 ((p - 1) * T % p), .int .i64 (M % p), .int .i64 ((p - 1) * D % p)].getD q (.int .i64 0), ?_, Nat.le_trans hb'.size hb5'.size, ?_, World.rowIs_alloc _ _ _ _ (fun i hi => ?_), fun q hq => ?_⟩
        · simp only [List.length_take, List.length_cons, List.length_nil]; rw [Nat.min_eq_left (by omega)]; rfl
        · simp only [List.length_take, List.length_cons, List.length_nil]; omega
        · have hi4 : i = 0 ∨ i = 1 ∨ i = 2 ∨ i = 3 := by simp at hi; omega
          rcases hi4 with rfl | rfl | rfl | rfl <;> rfl
        · have hq4 : q = 0 ∨ q = 1 ∨ q = 2 ∨ q = 3 := by simp at hq; omega
          simp only [List.getElem_take]
          rcases hq4 with rfl | rfl | rfl | rfl <;> rfl

theorem sChar (p n : Int) (g : Nat → Nat → Int) (w : World) (hg : Byt g) :
    Calls Try.prog 21 #[.int .i64 p, .int .i64 n, .agg #[.int .u8 (g 0 0), .int .u8 (g 0 1), .int .u8 (g 0 2), .int .u8 (g 1 0), .int .u8 (g 1 1), .int .u8 (g 1 2), .int .u8 (g 2 0), .int .u8 (g 2 1), .int .u8 (g 2 2)]] w fun e w' => ∃ v', e = .returned (.tuple #[v', .int .i64 (rChar p n g).2]) ∧ Sl w' v' (rChar p n g).1 ∧ Below w.heap.size w w' := by
  obtain ⟨W, hW, rX, hbW⟩ : ∃ W, W = w.alloc (.cells #[.int .u8 (g 0 0), .int .u8 (g 0 1), .int .u8 (g 0 2), .int .u8 (g 1 0), .int .u8 (g 1 1), .int .u8 (g 1 2), .int .u8 (g 2 0), .int .u8 (g 2 1), .int .u8 (g 2 2)] 36) ∧ W.rowIs w.heap.size 36 9 (mF g) ∧ Below w.heap.size w W := ⟨_, rfl, mbox w g _, ebox1 _ _⟩
  cases h1 : isMat p n g
  · have HX : Hid (rChar p n g = ([], 2)) := Lib.hid (by simp [rChar, h1])
    have HG := Lib.hid (fun w => smat_is p n g w hg false h1)
    clear h1 hg
    go_enter Try.func21, Try.ntmps21
    go_wp2_with fail
    rw [← hW]
    clear hW
    ((with_reducible refine (HG.out _).mono ?_); rintro e w1 ⟨rfl, hb1⟩)
    go_wp2_with fail
    go_ret2
    rw [HX.out]
    exact ⟨_, rfl, ⟨none, 0, rfl, .inl rfl⟩, hbW.trans (hb1.mono hbW.size)⟩
  · obtain ⟨m, rfl, hx⟩ := matV_of hg h1
    have HX : Hid (rChar p (m : Int) g = (chL p m g, 0)) := Lib.hid (by simp [rChar, h1])
    have HG := Lib.hid (fun w => smat_is p (m : Int) g w hg true h1)
    have HC := Lib.hid (fun w => schar p m g w hx)
    clear h1 hg hx
    go_enter Try.func21, Try.ntmps21
    go_wp2_with fail
    rw [← hW]
    clear hW
    ((with_reducible refine (HG.out _).mono ?_); rintro e w1 ⟨rfl, hb1⟩)
    have r1 := erow_below rX hb1 rX.lt
    obtain ⟨⟨c0, c1, c2⟩, ⟨c3, c4, c5⟩, c6, c7, c8⟩ := mcells r1
    have hb2 := hbW.trans (hb1.mono hbW.size)
    clear rX r1 hbW hb1
    go_wp2_with fail
    ((with_reducible refine (HC.out _).mono ?_); rintro e w2 ⟨v2, rfl, ho, hb3⟩)
    obtain ⟨a2, k2, rfl⟩ := ho.shape
    go_wp2_with fail
    go_ret2
    rw [HX.out]
    exact ⟨_, rfl, ho.slice, hb2.trans (hb3.mono hb2.size)⟩

theorem iChar (p n : Int) (g : Nat → Nat → Int) (w : World) (hg : Byt g) :
    Calls Try.prog 23 #[.int .i64 p, .int .i64 n, .agg #[.int .u8 (g 0 0), .int .u8 (g 0 1), .int .u8 (g 0 2), .int .u8 (g 1 0), .int .u8 (g 1 1), .int .u8 (g 1 2), .int .u8 (g 2 0), .int .u8 (g 2 1), .int .u8 (g 2 2)]] w fun e w' => ∃ v', e = .returned (.tuple #[v', .int .i64 (rChar p n g).2]) ∧ OwnV w' w.heap.size v' (rChar p n g).1 ∧ Below w.heap.size w w' := by
  obtain ⟨W, hW, rX, hbW⟩ : ∃ W, W = w.alloc (.cells #[.int .u8 (g 0 0), .int .u8 (g 0 1), .int .u8 (g 0 2), .int .u8 (g 1 0), .int .u8 (g 1 1), .int .u8 (g 1 2), .int .u8 (g 2 0), .int .u8 (g 2 1), .int .u8 (g 2 2)] 36) ∧ W.rowIs w.heap.size 36 9 (mF g) ∧ Below w.heap.size w W := ⟨_, rfl, mbox w g _, ebox1 _ _⟩
  cases h1 : isMat p n g
  · have HX : Hid (rChar p n g = ([], 2)) := Lib.hid (by simp [rChar, h1])
    have HG := Lib.hid (fun w => ismat_is p n g w hg false h1)
    clear h1 hg
    go_enter Try.func23, Try.ntmps23
    go_wp2_with fail
    rw [← hW]
    clear hW
    ((with_reducible refine (HG.out _).mono ?_); rintro e w1 ⟨rfl, hb1⟩)
    go_wp2_with fail
    go_ret2
    rw [HX.out]
    exact ⟨_, rfl, OwnV.none _ _, hbW.trans (hb1.mono hbW.size)⟩
  · obtain ⟨m, rfl, hx⟩ := matV_of hg h1
    have HX : Hid (rChar p (m : Int) g = (chL p m g, 0)) := Lib.hid (by simp [rChar, h1])
    have HG := Lib.hid (fun w => ismat_is p (m : Int) g w hg true h1)
    have HC := Lib.hid (fun w => ichar p m g w hx)
    clear h1 hg hx
    go_enter Try.func23, Try.ntmps23
    go_wp2_with fail
    rw [← hW]
    clear hW
    ((with_reducible refine (HG.out _).mono ?_); rintro e w1 ⟨rfl, hb1⟩)
    have r1 := erow_below rX hb1 rX.lt
    obtain ⟨⟨c0, c1, c2⟩, ⟨c3, c4, c5⟩, c6, c7, c8⟩ := mcells r1
    have hb2 := hbW.trans (hb1.mono hbW.size)
    clear rX r1 hbW hb1
    go_wp2_with fail
    ((with_reducible refine (HC.out _).mono ?_); rintro e w2 ⟨v2, rfl, ho, hb3⟩)
    obtain ⟨a2, k2, rfl⟩ := ho.shape
    go_wp2_with fail
    go_ret2
    rw [HX.out]
    exact ⟨_, rfl, ho.mono hb2.size, hb2.trans (hb3.mono hb2.size)⟩
end Go.Proofs.Ytfbagpndkihcpaa
