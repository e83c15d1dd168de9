/-
  WALKS of the model: whether something is a matrix. Conditions: the numbers are bytes.
-/
import Derived.Test.YtpbdbgajohacoaaEg
import Derived.Test.YtpbdbgajohacoaaEs
namespace Go.Proofs.Ytpbdbgajohacoaa
open Go.RowKit Go.Sort EchM

theorem eprime_is (p : Int) (w : World) (B : Bool) (h : pB p = B) : Calls Try.prog 37 #[.int .i64 p] w fun e w' => e = .returned (.bool B) ∧ w = w' := by rw [← h]; exact eprime p w
theorem ein_is (n a b : Int) (w : World) (B : Bool) (h : (decide (a ≤ n) && decide (n ≤ b)) = B) : Calls Try.prog 38 #[.int .i64 n, .int .i64 a, .int .i64 b] w fun e w' => e = .returned (.bool B) ∧ w = w' := by rw [← h]; exact ein n a b w
theorem sinv_agg (p : Int) (n : Nat) (g : Nat → Nat → Int) (w : World) (hp : PrimeS p) (h1 : 1 ≤ n) (h3 : n ≤ 3) (hg : ∀ i, i < 3 → ∀ j, j < 3 → 0 ≤ g i j ∧ g i j < p) :
    Calls Try.prog 71 #[.int .i64 p, .int .i64 (n : Int), .agg #[.int .u8 (g 0 0), .int .u8 (g 0 1), .int .u8 (g 0 2), .int .u8 (g 1 0), .int .u8 (g 1 1), .int .u8 (g 1 2), .int .u8 (g 2 0), .int .u8 (g 2 1), .int .u8 (g 2 2)]] w fun e w' =>
      (∃ r b, e = .returned (.tuple #[.agg #[.int .u8 (r 0 0), .int .u8 (r 0 1), .int .u8 (r 0 2), .int .u8 (r 1 0), .int .u8 (r 1 1), .int .u8 (r 1 2), .int .u8 (r 2 0), .int .u8 (r 2 1), .int .u8 (r 2 2)], .bool b]) ∧ (b = true ↔ okR n (echL p (gRows n g))) ∧ (b = true → r = cutM n (behind n (echL p (gRows n g))))) ∧ Below w.heap.size w w' :=
  sinv_any p n g w hp h1 h3 hg

set_option maxRecDepth 8000 in
set_option maxHeartbeats 8000000 in
theorem smat_any (p n : Int) (g : Nat → Nat → Int) (w : World) (hg : Byt g) :
    Calls Try.prog 39 #[.int .i64 p, .int .i64 n, mv g] w fun e w' => e = .returned (.bool (isMat p n g)) ∧ Below w.heap.size w w' := by
  obtain ⟨W, hW, rW, hbW⟩ : ∃ W, W = w.alloc (.cells #[.int .u8 (g 0 0), .int .u8 (g 0 1), .int .u8 (g 0 2), .int .u8 (g 1 0), .int .u8 (g 1 1), .int .u8 (g 1 2), .int .u8 (g 2 0), .int .u8 (g 2 1), .int .u8 (g 2 2)] 55) ∧ W.rowIs w.heap.size 55 9 (mF g) ∧ Below w.heap.size w W := ⟨_, rfl, mbox w g _, ebox1 _ _⟩
  unfold mv
  have HG := Lib.hid hg
  clear hg
  cases hp : pB p
  · have HX := Lib.hid (show isMat p n g = false by simp [isMat, hp])
    have HP := Lib.hid hp
    clear hp
    go_enter Try.func39, Try.ntmps39
    go_wp2_with fail
    rw [← hW]
    clear hW
    ((with_reducible refine (eprime_is p _ false HP.out).mono ?_); rintro e w1 ⟨rfl, rfl⟩)
    go_wp2_with fail
    go_ret
    exact ⟨by rw [HX.out]; rfl, hbW⟩
  · have HP := Lib.hid hp
    cases hv : (decide (1 ≤ n) && decide (n ≤ 3))
    · have HX := Lib.hid (show isMat p n g = false by rw [isMat, hv]; simp)
      have HV := Lib.hid hv
      clear hp hv
      go_enter Try.func39, Try.ntmps39
      go_wp2_with fail
      rw [← hW]
      clear hW
      ((with_reducible refine (eprime_is p _ true HP.out).mono ?_); rintro e w1 ⟨rfl, rfl⟩)
      go_wp2_with fail
      ((with_reducible refine (ein_is n 1 3 _ false HV.out).mono ?_); rintro e w2 ⟨rfl, rfl⟩)
      go_wp2_with fail
      go_ret
      exact ⟨by rw [HX.out]; rfl, hbW⟩
    · have HV := Lib.hid hv
      obtain ⟨h2, h13⟩ := pB_le hp
      have hps := pB_set hp
      simp only [Bool.and_eq_true, decide_eq_true_eq] at hv
      obtain ⟨m, rfl⟩ := Int.eq_ofNat_of_zero_le (show 0 ≤ n by omega)
      have HY := Lib.hid (show isMat p m g = (hasB p m g && decide (detP p (fullM m g) ≠ 0)) by rw [isMat, hp, HV.out]; simp)
      have hm1 : 1 ≤ m := by omega
      have hm3 : m ≤ 3 := by omega
      clear hp hv
      go_enter Try.func39, Try.ntmps39
      go_wp2_with fail
      rw [← hW]
      clear hW
      ((with_reducible refine (eprime_is p _ true HP.out).mono ?_); rintro e w1 ⟨rfl, rfl⟩)
      go_wp2_with fail
      ((with_reducible refine (ein_is m 1 3 _ true HV.out).mono ?_); rintro e w2 ⟨rfl, rfl⟩)
      go_wp2_with fail
      go_loop [7] (fun i => ∃ (k : Nat), k ≤ 3 ∧ i = .int .i64 k ∧ Hid (∀ i, i < k → ∀ j, j < 3 → okC p m (g i j) i j = true)) (fun i => 3 - (intOf i).toNat)
      case atStart => exact ⟨0, by omega, rfl, Lib.hid (fun i hi => by omega)⟩
      case round =>
        obtain ⟨k, hk, rfl, HU⟩ := hrel
        by_cases hlt : k < 3
        · have hlt' : (k : Int) < 3 := by omega
          go_wp2_with fail
          go_loop [8] (fun i => ∃ (j : Nat), j ≤ 3 ∧ i = .int .i64 j ∧ Hid (∀ j', j' < j → okC p m (g k j') k j' = true)) (fun i => 3 - (intOf i).toNat)
          case atStart => exact ⟨0, by omega, rfl, Lib.hid (fun j hj => by omega)⟩
          case round =>
            obtain ⟨j, hj, rfl, HW⟩ := hrel
            by_cases hjt : j < 3
            · have hjt' : (j : Int) < 3 := by omega
              have c0 := mcell rW (i := k) (j := j) hlt hjt
              have hx := HG.out k hlt j hjt
              have HNo := Lib.hid (fun h => hasB_no (p := p) (n := m) (g := g) hlt hjt (okC_no h))
              have HYes : (g k j < p → ((k : Int) < (m : Int) ∧ (j : Int) < (m : Int)) ∨ g k j = 0 → Hid (∀ j', j' < j + 1 → okC p m (g k j') k j' = true)) := fun h1 h2 => Lib.hid (fun j' hj' => by
                by_cases e : j' = j
                · subst e; exact okC_yes h1 h2
                · exact HW.out j' (by omega))
              have HYY := Lib.hid HYes
              clear HYes
              generalize hX : g k j = X at c0 hx HNo HYY
              clear hX
              obtain ⟨x0, x1⟩ := hx
              by_cases h1 : p ≤ X
              · have HX := Lib.hid (show isMat p m g = false by rw [HY.out, HNo.out (.inl h1)]; rfl)
                clear HNo HYY
                go_wp2_with fail
                all_goals go_ret
                all_goals exact ⟨by rw [HX.out]; rfl, hbW⟩
              · by_cases hz : X = 0
                · have HN := HYY.out (by omega) (.inr hz)
                  subst hz
                  clear HNo HYY
                  by_cases h2' : (k : Int) < (m : Int)
                  · by_cases h3' : (j : Int) < (m : Int)
                    · go_wp2_with fail
                      go_round
                      case rel => exact ⟨j + 1, by omega, by go_num, HN⟩
                      case measure => simp [intOf]; omega
                    · go_wp2_with fail
                      go_round
                      case rel => exact ⟨j + 1, by omega, by go_num, HN⟩
                      case measure => simp [intOf]; omega
                  · go_wp2_with fail
                    go_round
                    case rel => exact ⟨j + 1, by omega, by go_num, HN⟩
                    case measure => simp [intOf]; omega
                · have hq : (X != 0) = true := by simp [hz]
                  by_cases h2' : (k : Int) < (m : Int)
                  · by_cases h3' : (j : Int) < (m : Int)
                    · have HN := HYY.out (by omega) (.inl ⟨h2', h3'⟩)
                      clear HNo HYY hz
                      go_wp2_with fail
                      go_round
                      case rel => exact ⟨j + 1, by omega, by go_num, HN⟩
                      case measure => simp [intOf]; omega
                    · have HX := Lib.hid (show isMat p m g = false by rw [HY.out, HNo.out (.inr ⟨.inr (by omega), hz⟩)]; rfl)
                      clear HNo HYY hz
                      go_wp2_with fail
                      go_ret
                      exact ⟨by rw [HX.out]; rfl, hbW⟩
                  · have HX := Lib.hid (show isMat p m g = false by rw [HY.out, HNo.out (.inr ⟨.inl (by omega), hz⟩)]; rfl)
                    clear HNo HYY hz
                    go_wp2_with fail
                    go_ret
                    exact ⟨by rw [HX.out]; rfl, hbW⟩
            · obtain rfl : j = 3 := by omega
              have HN : Hid (∀ i, i < k + 1 → ∀ j, j < 3 → okC p m (g i j) i j = true) := Lib.hid (fun i hi j hj => by
                by_cases e : i = k
                · subst e; exact HW.out j hj
                · exact HU.out i (by omega) j hj)
              go_wp2_with fail
              go_round
              case rel => exact ⟨k + 1, by omega, by go_num, HN⟩
              case measure => simp [intOf]; omega
        · obtain rfl : k = 3 := by omega
          have hh := hasB_yes HU.out
          have HB := Lib.hid (hasB_bound HG.out hh)
          have HO := Lib.hid (hasB_out hh)
          have HM := Lib.hid (ech_mat hps hm1 hm3 (g := g) (fun i hi j hj => HB.out i (by omega) j (by omega)) HO.out).1
          have HX := Lib.hid (show isMat p m g = decide (detP p (fullM m g) ≠ 0) by rw [HY.out, hh]; rfl)
          clear hh
          obtain ⟨⟨c0, c1, c2⟩, ⟨c3, c4, c5⟩, c6, c7, c8⟩ := mcells rW
          go_wp2_with fail
          ((with_reducible refine (sinv_agg p m g _ hps hm1 hm3 HB.out).mono ?_); rintro e w4 ⟨⟨r, b, rfl, hb, _⟩, hb4⟩)
          have HBB := Lib.hid (show isMat p m g = b by
            rw [HX.out, ← Bool.coe_iff_coe, hb]; simp only [decide_eq_true_eq]; exact HM.out.symm)
          have hb5 := hbW.trans (hb4.mono hbW.size)
          have hb6 := Lib.hid (fun o => hb5.alloc hb5.size o)
          clear hb c0 c1 c2 c3 c4 c5 c6 c7 c8
          go_wp2_with fail
          go_ret
          exact ⟨by rw [HBB.out]; rfl, hb6.out _⟩
end Go.Proofs.Ytpbdbgajohacoaa
