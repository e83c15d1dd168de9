/-
  GROUPS: the program's order of matrices, walked. Conditions: as each theorem states.
-/
import Derived.Test.YtpbdbgajohacoaaGe
namespace Go.Proofs.Ytpbdbgajohacoaa
open Go.RowKit Go.Sort EchM

def cmpRow (g h : Nat → Nat → Int) (i : Nat) : Int := then3 (cmpB (g i 0) (h i 0)) (cmpB (g i 1) (h i 1)) (cmpB (g i 2) (h i 2))
def cF (g h : Nat → Nat → Int) : Nat → Int
  | 0 => then3 (cmpRow g h 0) (cmpRow g h 1) (cmpRow g h 2)
  | 1 => if cmpRow g h 1 = 0 then cmpRow g h 2 else cmpRow g h 1
  | 2 => cmpRow g h 2
  | _ => 0
def cmpM (g h : Nat → Nat → Int) : Int := cF g h 0
theorem cF_0 (g h : Nat → Nat → Int) : cF g h 0 = if cmpRow g h 0 = 0 then cF g h 1 else cmpRow g h 0 := rfl
theorem cF_1 (g h : Nat → Nat → Int) : cF g h 1 = if cmpRow g h 1 = 0 then cF g h 2 else cmpRow g h 1 := rfl
theorem cF_2 (g h : Nat → Nat → Int) : cF g h 2 = if cmpRow g h 2 = 0 then cF g h 3 else cmpRow g h 2 := by
  show cmpRow g h 2 = if cmpRow g h 2 = 0 then 0 else cmpRow g h 2
  split <;> omega
theorem cmpB_cases (a b : Int) : (a < b ∧ cmpB a b = -1) ∨ (a = b ∧ cmpB a b = 0) ∨ (b < a ∧ cmpB a b = 1) := by
  unfold cmpB
  rcases Int.lt_trichotomy a b with h | h | h
  · exact .inl ⟨h, if_pos h⟩
  · exact .inr (.inl ⟨h, by rw [if_neg (by omega), if_neg (by omega)]⟩)
  · exact .inr (.inr ⟨h, by rw [if_neg (by omega), if_pos h]⟩)
theorem row_plain (a0 b0 a1 b1 a2 b2 : Int) (t : Bool) : (if a0 = b0 then (if a1 = b1 then (if a2 = b2 then t else decide (a2 < b2)) else decide (a1 < b1)) else decide (a0 < b0)) = if then3 (cmpB a0 b0) (cmpB a1 b1) (cmpB a2 b2) = 0 then t else decide (then3 (cmpB a0 b0) (cmpB a1 b1) (cmpB a2 b2) < 0) := by
  unfold then3
  rcases cmpB_cases a0 b0 with ⟨h, e⟩ | ⟨h, e⟩ | ⟨h, e⟩
  · have n : ¬ a0 = b0 := by omega
    simp [e, n, h]
  · rcases cmpB_cases a1 b1 with ⟨k, f⟩ | ⟨k, f⟩ | ⟨k, f⟩
    · have n : ¬ a1 = b1 := by omega
      rw [e, f, if_pos h]; simp [n, k]
    · rcases cmpB_cases a2 b2 with ⟨l, d⟩ | ⟨l, d⟩ | ⟨l, d⟩
      · have n : ¬ a2 = b2 := by omega
        rw [e, f, d, if_pos h, if_pos k]; simp [n, l]
      · rw [e, f, d, if_pos h, if_pos k, if_pos l]; rfl
      · have n : ¬ a2 = b2 := by omega
        have m : b2 ≤ a2 := by omega
        rw [e, f, d, if_pos h, if_pos k]; simp [n, m]
    · have n : ¬ a1 = b1 := by omega
      have m : b1 ≤ a1 := by omega
      rw [e, f, if_pos h]; simp [n, m]
  · have n : ¬ a0 = b0 := by omega
    have m : b0 ≤ a0 := by omega
    simp [e, n, m]
/-- From a place on: the sign of the program's comparison, and the model's order. -/
theorem bef_sign (g h : Nat → Nat → Int) : decide (cmpM g h < 0) = befM g h := by
  have row : ∀ i, i < 3 → (cmpRow g h i = 0 → befA g h (9 - i * 3) (i * 3) = befA g h (9 - (i + 1) * 3) ((i + 1) * 3)) ∧ (cmpRow g h i ≠ 0 → befA g h (9 - i * 3) (i * 3) = decide (cmpRow g h i < 0)) := fun i hi => by
    have e0 := befA_step (g := g) (h := h) hi (j := 0) (by omega)
    have e1 := befA_step (g := g) (h := h) hi (j := 1) (by omega)
    have e2 := befA_step (g := g) (h := h) hi (j := 2) (by omega)
    simp only [Nat.add_zero, Nat.zero_add, Nat.reduceAdd] at e0 e1 e2
    rw [show i * 3 + 3 = (i + 1) * 3 by omega] at e2
    have e := row_plain (g i 0) (h i 0) (g i 1) (h i 1) (g i 2) (h i 2) (befA g h (9 - (i + 1) * 3) ((i + 1) * 3))
    rw [← e2, ← e1, ← e0] at e
    exact ⟨fun q => e.trans (if_pos q), fun q => e.trans (if_neg q)⟩
  unfold cmpM befM
  rw [cF_0, cF_1]
  show _ = befA g h (9 - 0 * 3) (0 * 3)
  by_cases h0 : cmpRow g h 0 = 0
  · rw [if_pos h0, (row 0 (by omega)).1 h0]
    by_cases h1 : cmpRow g h 1 = 0
    · rw [if_pos h1, (row 1 (by omega)).1 h1]
      show decide (cmpRow g h 2 < 0) = _
      by_cases h2 : cmpRow g h 2 = 0
      · rw [(row 2 (by omega)).1 h2, h2]; rfl
      · rw [(row 2 (by omega)).2 h2]
    · rw [if_neg h1, (row 1 (by omega)).2 h1]
  · rw [if_neg h0, (row 0 (by omega)).2 h0]

set_option maxRecDepth 8000 in
set_option maxHeartbeats 8000000 in
theorem icompare (g h : Nat → Nat → Int) (w : World) : Calls Try.prog 83 #[mv g, mv h] w fun e w' => e = .returned (.int .i64 (cmpM g h)) ∧ Below w.heap.size w w' := by
  obtain ⟨W, hW, r1, r2, hbW⟩ : ∃ W, W = (w.alloc (.cells #[.int .u8 (g 0 0), .int .u8 (g 0 1), .int .u8 (g 0 2), .int .u8 (g 1 0), .int .u8 (g 1 1), .int .u8 (g 1 2), .int .u8 (g 2 0), .int .u8 (g 2 1), .int .u8 (g 2 2)] 55)).alloc (.cells #[.int .u8 (h 0 0), .int .u8 (h 0 1), .int .u8 (h 0 2), .int .u8 (h 1 0), .int .u8 (h 1 1), .int .u8 (h 1 2), .int .u8 (h 2 0), .int .u8 (h 2 1), .int .u8 (h 2 2)] 55) ∧
      W.rowIs w.heap.size 55 9 (mF g) ∧ W.rowIs (w.heap.size + 1) 55 9 (mF h) ∧ Below w.heap.size w W := by
    refine ⟨_, rfl, (mbox w g _).alloc _, ?_, ebox2 _ _ _⟩
    have := mbox (w.alloc (.cells #[.int .u8 (g 0 0), .int .u8 (g 0 1), .int .u8 (g 0 2), .int .u8 (g 1 0), .int .u8 (g 1 1), .int .u8 (g 1 2), .int .u8 (g 2 0), .int .u8 (g 2 1), .int .u8 (g 2 2)] 55)) h 55
    rwa [World.size_alloc] at this
  unfold mv
  go_enter Try.func83, Try.ntmps83
  go_upto_region 1 with fail
  rw [← hW]
  clear hW
  go_wp2_with fail
  go_loopw [7] (fun i wr => ∃ (k : Nat), k ≤ 3 ∧ i = .int .i64 k ∧ Hid (cmpM g h = cF g h k) ∧ Below W.heap.size W wr) (fun i _ => 3 - (intOf i).toNat)
  case atStart => exact ⟨0, by omega, rfl, Lib.hid rfl, Below.refl _ _⟩
  case round =>
    obtain ⟨k, hk, rfl, HU, hb⟩ := hrel
    by_cases hlt : k < 3
    · obtain ⟨⟨a0, a1, a2⟩, ⟨a3, a4, a5⟩, a6, a7, a8⟩ := mcells (erow_below r1 hb r1.lt)
      obtain ⟨⟨b0, b1, b2⟩, ⟨b3, b4, b5⟩, b6, b7, b8⟩ := mcells (erow_below r2 hb r2.lt)
      have h3 : k = 0 ∨ k = 1 ∨ k = 2 := by omega
      clear hlt hk
      rcases h3 with rfl | rfl | rfl
      · have HR := Lib.hid (HU.out.trans (cF_0 g h))
        obtain ⟨R, hR⟩ : ∃ R, cmpRow g h 0 = R := ⟨_, rfl⟩
        have cK : ∀ dd os, Calls Try.prog 102 #[.slice (some ⟨w.heap.size, 0, none⟩) 3 3, .slice (some ⟨w.heap.size + 1, 0, none⟩) 3 3] (grow (redrawn wr dd) os) fun e w'' => e = .returned (.int .i64 R) ∧ ∃ q : Regrown, w'' = grow (redrawn wr q.d) q.os := fun dd os =>
          (scmp3 w.heap.size 0 3 (w.heap.size + 1) 0 3 _ _ _ _ _ _ (grow (redrawn wr dd) os) (cell_regrown a0 dd os) (cell_regrown a1 dd os) (cell_regrown a2 dd os) (cell_regrown b0 dd os) (cell_regrown b1 dd os) (cell_regrown b2 dd os)).mono fun _ _ ⟨he, hw⟩ => ⟨by rw [he, ← hR]; rfl, ⟨dd, os⟩, hw⟩
        rw [hR] at HR
        clear hR a0 a1 a2 a3 a4 a5 a6 a7 a8 b0 b1 b2 b3 b4 b5 b6 b7 b8
        by_cases hz : R = 0
        · have HN := Lib.hid (HR.out.trans (if_pos hz))
          subst hz
          go_wp2_with fail
          refine wp_region_quiet_below (by kernel_rfl) (by kernel_rfl) ?_
          repeat (go_big_quiet_step (first | with_reducible exact cK _ _))
          refine wpQuiet_nil ?_
          intro _ hw'
          obtain ⟨⟨dq, osq⟩, hw''⟩ := hw'
          subst hw''
          have hb2 := hb.trans ((below_regrown wr dq osq).mono hb.size)
          generalize grow (redrawn wr dq) osq = V at *
          clear cK
          go_wp2_with fail
          go_roundw
          case rel => exact ⟨1, by omega, by go_num, HN, hb2⟩
          case measure => simp [intOf]
        · have HN := Lib.hid (HR.out.trans (if_neg hz))
          have hq : (R != 0) = true := by simp [hz]
          clear hz
          go_wp2_with fail
          refine wp_region_quiet_below (by kernel_rfl) (by kernel_rfl) ?_
          repeat (go_big_quiet_step (first | with_reducible exact cK _ _))
          refine wpQuiet_nil ?_
          intro _ hw'
          obtain ⟨⟨dq, osq⟩, hw''⟩ := hw'
          subst hw''
          have hb2 := hb.trans ((below_regrown wr dq osq).mono hb.size)
          generalize grow (redrawn wr dq) osq = V at *
          clear cK
          go_wp2_with fail
          go_ret
          exact ⟨by rw [HN.out]; rfl, hbW.trans (hb2.mono hbW.size)⟩
      · have HR := Lib.hid (HU.out.trans (cF_1 g h))
        obtain ⟨R, hR⟩ : ∃ R, cmpRow g h 1 = R := ⟨_, rfl⟩
        have cK : ∀ dd os, Calls Try.prog 102 #[.slice (some ⟨w.heap.size, 3, none⟩) 3 3, .slice (some ⟨w.heap.size + 1, 3, none⟩) 3 3] (grow (redrawn wr dd) os) fun e w'' => e = .returned (.int .i64 R) ∧ ∃ q : Regrown, w'' = grow (redrawn wr q.d) q.os := fun dd os =>
          (scmp3 w.heap.size 3 3 (w.heap.size + 1) 3 3 _ _ _ _ _ _ (grow (redrawn wr dd) os) (cell_regrown a3 dd os) (cell_regrown a4 dd os) (cell_regrown a5 dd os) (cell_regrown b3 dd os) (cell_regrown b4 dd os) (cell_regrown b5 dd os)).mono fun _ _ ⟨he, hw⟩ => ⟨by rw [he, ← hR]; rfl, ⟨dd, os⟩, hw⟩
        rw [hR] at HR
        clear hR a0 a1 a2 a3 a4 a5 a6 a7 a8 b0 b1 b2 b3 b4 b5 b6 b7 b8
        by_cases hz : R = 0
        · have HN := Lib.hid (HR.out.trans (if_pos hz))
          subst hz
          go_wp2_with fail
          refine wp_region_quiet_below (by kernel_rfl) (by kernel_rfl) ?_
          repeat (go_big_quiet_step (first | with_reducible exact cK _ _))
          refine wpQuiet_nil ?_
          intro _ hw'
          obtain ⟨⟨dq, osq⟩, hw''⟩ := hw'
          subst hw''
          have hb2 := hb.trans ((below_regrown wr dq osq).mono hb.size)
          generalize grow (redrawn wr dq) osq = V at *
          clear cK
          go_wp2_with fail
          go_roundw
          case rel => exact ⟨2, by omega, by go_num, HN, hb2⟩
          case measure => simp [intOf]
        · have HN := Lib.hid (HR.out.trans (if_neg hz))
          have hq : (R != 0) = true := by simp [hz]
          clear hz
          go_wp2_with fail
          refine wp_region_quiet_below (by kernel_rfl) (by kernel_rfl) ?_
          repeat (go_big_quiet_step (first | with_reducible exact cK _ _))
          refine wpQuiet_nil ?_
          intro _ hw'
          obtain ⟨⟨dq, osq⟩, hw''⟩ := hw'
          subst hw''
          have hb2 := hb.trans ((below_regrown wr dq osq).mono hb.size)
          generalize grow (redrawn wr dq) osq = V at *
          clear cK
          go_wp2_with fail
          go_ret
          exact ⟨by rw [HN.out]; rfl, hbW.trans (hb2.mono hbW.size)⟩
      · have HR := Lib.hid (HU.out.trans (cF_2 g h))
        obtain ⟨R, hR⟩ : ∃ R, cmpRow g h 2 = R := ⟨_, rfl⟩
        have cK : ∀ dd os, Calls Try.prog 102 #[.slice (some ⟨w.heap.size, 6, none⟩) 3 3, .slice (some ⟨w.heap.size + 1, 6, none⟩) 3 3] (grow (redrawn wr dd) os) fun e w'' => e = .returned (.int .i64 R) ∧ ∃ q : Regrown, w'' = grow (redrawn wr q.d) q.os := fun dd os =>
          (scmp3 w.heap.size 6 3 (w.heap.size + 1) 6 3 _ _ _ _ _ _ (grow (redrawn wr dd) os) (cell_regrown a6 dd os) (cell_regrown a7 dd os) (cell_regrown a8 dd os) (cell_regrown b6 dd os) (cell_regrown b7 dd os) (cell_regrown b8 dd os)).mono fun _ _ ⟨he, hw⟩ => ⟨by rw [he, ← hR]; rfl, ⟨dd, os⟩, hw⟩
        rw [hR] at HR
        clear hR a0 a1 a2 a3 a4 a5 a6 a7 a8 b0 b1 b2 b3 b4 b5 b6 b7 b8
        by_cases hz : R = 0
        · have HN := Lib.hid (HR.out.trans (if_pos hz))
          subst hz
          go_wp2_with fail
          refine wp_region_quiet_below (by kernel_rfl) (by kernel_rfl) ?_
          repeat (go_big_quiet_step (first | with_reducible exact cK _ _))
          refine wpQuiet_nil ?_
          intro _ hw'
          obtain ⟨⟨dq, osq⟩, hw''⟩ := hw'
          subst hw''
          have hb2 := hb.trans ((below_regrown wr dq osq).mono hb.size)
          generalize grow (redrawn wr dq) osq = V at *
          clear cK
          go_wp2_with fail
          go_roundw
          case rel => exact ⟨3, by omega, by go_num, HN, hb2⟩
          case measure => simp [intOf]
        · have HN := Lib.hid (HR.out.trans (if_neg hz))
          have hq : (R != 0) = true := by simp [hz]
          clear hz
          go_wp2_with fail
          refine wp_region_quiet_below (by kernel_rfl) (by kernel_rfl) ?_
          repeat (go_big_quiet_step (first | with_reducible exact cK _ _))
          refine wpQuiet_nil ?_
          intro _ hw'
          obtain ⟨⟨dq, osq⟩, hw''⟩ := hw'
          subst hw''
          have hb2 := hb.trans ((below_regrown wr dq osq).mono hb.size)
          generalize grow (redrawn wr dq) osq = V at *
          clear cK
          go_wp2_with fail
          go_ret
          exact ⟨by rw [HN.out]; rfl, hbW.trans (hb2.mono hbW.size)⟩
    · obtain rfl : k = 3 := by omega
      have HX : Hid (cmpM g h = 0) := Lib.hid (by rw [HU.out]; rfl)
      go_wp2_with fail
      go_ret
      exact ⟨by rw [HX.out]; rfl, hbW.trans (hb.mono hbW.size)⟩
end Go.Proofs.Ytpbdbgajohacoaa
