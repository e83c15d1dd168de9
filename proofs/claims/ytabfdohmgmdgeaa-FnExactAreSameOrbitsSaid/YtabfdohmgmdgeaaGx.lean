/-
  GROUPS: the program's order of matrices. Conditions: as each theorem states.
  GROUPS: the program's order of matrices, walked. Conditions: as each theorem states.
  KEYS: nine bytes (a matrix) as a map's key. Conditions: as each theorem states.
-/
import Derived.Test.YtabfdohmgmdgeaaGy
import Derived.Maps.Own
import Derived.Maps.OwnOps
import Derived.Maps.RangeWalk
import Derived.Maps.Views
import Derived.DeepKeys4
namespace Go.Proofs.Ytabfdohmgmdgeaa
open Go.RowKit Go.Sort EchM

def cmpB (a b : Int) : Int := if a < b then -1 else if b < a then 1 else 0
def then3 (a b c : Int) : Int := if a = 0 then (if b = 0 then c else b) else a
theorem cmpB_zero {a b : Int} : cmpB a b = 0 ↔ a = b := by unfold cmpB; split <;> (try split) <;> omega
theorem mnan8 (a : Int) (w : World) : Calls Try.prog 67 #[.int .u8 a] w fun e w' => e = .returned (.bool false) ∧ w' = w := by
  have ha : (a != a) = false := by simp
  go_enter Try.func67, Try.ntmps67
  go_wp2
  go_ret
  exact ⟨rfl, rfl⟩
set_option maxRecDepth 8000 in
set_option maxHeartbeats 1000000 in
theorem mcmp8 (a b : Int) (w : World) : Calls Try.prog 64 #[.int .u8 a, .int .u8 b] w fun e w' => e = .returned (.int .i64 (cmpB a b)) ∧ w' = w := by
  go_enter Try.func64, Try.ntmps64
  go_wp2_with fail
  ((with_reducible refine (mnan8 a _).mono ?_); rintro e w1 ⟨rfl, rfl⟩)
  go_wp2_with fail
  ((with_reducible refine (mnan8 b _).mono ?_); rintro e w1 ⟨rfl, rfl⟩)
  go_wp2
  all_goals go_ret
  all_goals refine ⟨?_, rfl⟩
  all_goals go_light
  all_goals (unfold cmpB; congr 2; (repeat' split) <;> first | rfl | (exfalso; omega))
theorem mcmp8_is (a b c : Int) (w : World) (h : cmpB a b = c) : Calls Try.prog 64 #[.int .u8 a, .int .u8 b] w fun e w' => e = .returned (.int .i64 c) ∧ w' = w := by subst h; exact mcmp8 a b w

set_option maxRecDepth 8000 in
set_option maxHeartbeats 4000000 in
theorem scmp3 (b o c b' o' c' : Nat) (x y z x' y' z' : Int) (w : World)
    (c0 : w.cell? ⟨b, o, none⟩ = some (.int .u8 x)) (c1 : w.cell? ⟨b, o + 1, none⟩ = some (.int .u8 y)) (c2 : w.cell? ⟨b, o + 2, none⟩ = some (.int .u8 z))
    (d0 : w.cell? ⟨b', o', none⟩ = some (.int .u8 x')) (d1 : w.cell? ⟨b', o' + 1, none⟩ = some (.int .u8 y')) (d2 : w.cell? ⟨b', o' + 2, none⟩ = some (.int .u8 z')) :
    Calls Try.prog 54 #[.slice (some ⟨b, o, none⟩) 3 c, .slice (some ⟨b', o', none⟩) 3 c'] w fun e w' => e = .returned (.int .i64 (then3 (cmpB x x') (cmpB y y') (cmpB z z'))) ∧ w' = w := by
  obtain ⟨A, hA⟩ : ∃ A, cmpB x x' = A := ⟨_, rfl⟩
  obtain ⟨B, hB⟩ : ∃ B, cmpB y y' = B := ⟨_, rfl⟩
  obtain ⟨C, hC⟩ : ∃ C, cmpB z z' = C := ⟨_, rfl⟩
  rw [hA, hB, hC]
  have HA := Lib.hid hA
  have HB := Lib.hid hB
  have HC := Lib.hid hC
  clear hA hB hC
  by_cases h0 : A = 0
  · by_cases h1 : B = 0
    · by_cases h2 : C = 0
      · have HX := Lib.hid (show then3 A B C = 0 by rw [then3, if_pos h0, if_pos h1, h2])
        subst h0 h1 h2
        go_enter Try.func54, Try.ntmps54
        go_wp2
        refine wp_loop_rounds 4 ?_
        rw [rounds_succ]
        go_wp2_with fail
        ((with_reducible refine (mcmp8_is _ _ _ _ HA.out).mono ?_); rintro e w1 ⟨rfl, rfl⟩)
        go_wp2
        rw [rounds_succ]
        go_wp2_with fail
        ((with_reducible refine (mcmp8_is _ _ _ _ HB.out).mono ?_); rintro e w2 ⟨rfl, rfl⟩)
        go_wp2
        rw [rounds_succ]
        go_wp2_with fail
        ((with_reducible refine (mcmp8_is _ _ _ _ HC.out).mono ?_); rintro e w3 ⟨rfl, rfl⟩)
        go_wp2
        rw [rounds_succ]
        go_wp2
        go_ret
        exact ⟨by rw [HX.out]; rfl, rfl⟩
      · have HX := Lib.hid (show then3 A B C = C by rw [then3, if_pos h0, if_pos h1])
        have hq : (C != 0) = true := by simp [h2]
        subst h0 h1
        clear h2
        go_enter Try.func54, Try.ntmps54
        go_wp2
        refine wp_loop_rounds 4 ?_
        rw [rounds_succ]
        go_wp2_with fail
        ((with_reducible refine (mcmp8_is _ _ _ _ HA.out).mono ?_); rintro e w1 ⟨rfl, rfl⟩)
        go_wp2
        rw [rounds_succ]
        go_wp2_with fail
        ((with_reducible refine (mcmp8_is _ _ _ _ HB.out).mono ?_); rintro e w2 ⟨rfl, rfl⟩)
        go_wp2
        rw [rounds_succ]
        go_wp2_with fail
        ((with_reducible refine (mcmp8_is _ _ _ _ HC.out).mono ?_); rintro e w3 ⟨rfl, rfl⟩)
        go_wp2
        go_ret
        exact ⟨by rw [HX.out]; rfl, rfl⟩
    · have HX := Lib.hid (show then3 A B C = B by rw [then3, if_pos h0, if_neg h1])
      have hq : (B != 0) = true := by simp [h1]
      subst h0
      clear h1
      go_enter Try.func54, Try.ntmps54
      go_wp2
      refine wp_loop_rounds 4 ?_
      rw [rounds_succ]
      go_wp2_with fail
      ((with_reducible refine (mcmp8_is _ _ _ _ HA.out).mono ?_); rintro e w1 ⟨rfl, rfl⟩)
      go_wp2
      rw [rounds_succ]
      go_wp2_with fail
      ((with_reducible refine (mcmp8_is _ _ _ _ HB.out).mono ?_); rintro e w2 ⟨rfl, rfl⟩)
      go_wp2
      go_ret
      exact ⟨by rw [HX.out]; rfl, rfl⟩
  · have HX := Lib.hid (show then3 A B C = A by rw [then3, if_neg h0])
    have hq : (A != 0) = true := by simp [h0]
    clear h0
    go_enter Try.func54, Try.ntmps54
    go_wp2
    refine wp_loop_rounds 4 ?_
    rw [rounds_succ]
    go_wp2_with fail
    ((with_reducible refine (mcmp8_is _ _ _ _ HA.out).mono ?_); rintro e w1 ⟨rfl, rfl⟩)
    go_wp2
    go_ret
    exact ⟨by rw [HX.out]; rfl, rfl⟩
end Go.Proofs.Ytabfdohmgmdgeaa
namespace Go.Proofs.Ytabfdohmgmdgeaa
open Go.RowKit Go.Sort EchM

def cmpRow (g h : Nat → Nat → Int) (i : Nat) : Int := then3 (cmpB (g i 0) (h i 0)) (cmpB (g i 1) (h i 1)) (cmpB (g i 2) (h i 2))
def cF (g h : Nat → Nat → Int) : Nat → Int
  | 0 => then3 (cmpRow g h 0) (cmpRow g h 1) (cmpRow g h 2)
  | 1 => if cmpRow g h 1 = 0 then cmpRow g h 2 else cmpRow g h 1
  | 2 => cmpRow g h 2
  | _ => 0
def cmpM (g h : Nat → Nat → Int) : Int := cF g h 0
theorem cF_0 (g h : Nat → Nat → Int) : cF g h 0 = if cmpRow g h 0 = 0 then cF g h 1 else cmpRow g h 0 := rfl
theorem cF_1 (g h : Nat → Nat → Int) : cF g h 1 = if cmpRow g h 1 = 0 then cF g h 2 else cmpRow g h 1 := rfl
theorem cF_2 (g h : Nat → Nat → Int) : cF g h 2 = if cmpRow g h 2 = 0 then cF g h 3 else cmpRow g h 2 := by
  show cmpRow g h 2 = if cmpRow g h 2 = 0 then 0 else cmpRow g h 2
  split <;> omega
theorem cmpB_cases (a b : Int) : (a < b ∧ cmpB a b = -1) ∨ (a = b ∧ cmpB a b = 0) ∨ (b < a ∧ cmpB a b = 1) := by
  unfold cmpB
  rcases Int.lt_trichotomy a b with h | h | h
  · exact .inl ⟨h, if_pos h⟩
  · exact .inr (.inl ⟨h, by rw [if_neg (by omega), if_neg (by omega)]⟩)
  · exact .inr (.inr ⟨h, by rw [if_neg (by omega), if_pos h]⟩)
theorem row_plain (a0 b0 a1 b1 a2 b2 : Int) (t : Bool) : (if a0 = b0 then (if a1 = b1 then (if a2 = b2 then t else decide (a2 < b2)) else decide (a1 < b1)) else decide (a0 < b0)) = if then3 (cmpB a0 b0) (cmpB a1 b1) (cmpB a2 b2) = 0 then t else decide (then3 (cmpB a0 b0) (cmpB a1 b1) (cmpB a2 b2) < 0) := by
  unfold then3
  rcases cmpB_cases a0 b0 with ⟨h, e⟩ | ⟨h, e⟩ | ⟨h, e⟩
  · have n : ¬ a0 = b0 := by omega
    simp [e, n, h]
  · rcases cmpB_cases a1 b1 with ⟨k, f⟩ | ⟨k, f⟩ | ⟨k, f⟩
    · have n : ¬ a1 = b1 := by omega
      rw [e, f, if_pos h]; simp [n, k]
    · rcases cmpB_cases a2 b2 with ⟨l, d⟩ | ⟨l, d⟩ | ⟨l, d⟩
      · have n : ¬ a2 = b2 := by omega
        rw [e, f, d, if_pos h, if_pos k]; simp [n, l]
      · rw [e, f, d, if_pos h, if_pos k, if_pos l]; rfl
      · have n : ¬ a2 = b2 := by omega
        have m : b2 ≤ a2 := by omega
        rw [e, f, d, if_pos h, if_pos k]; simp [n, m]
    · have n : ¬ a1 = b1 := by omega
      have m : b1 ≤ a1 := by omega
      rw [e, f, if_pos h]; simp [n, m]
  · have n : ¬ a0 = b0 := by omega
    have m : b0 ≤ a0 := by omega
    simp [e, n, m]
/-- From a place on: the sign of the program's comparison, and the model's order. -/
theorem bef_sign (g h : Nat → Nat → Int) : decide (cmpM g h < 0) = befM g h := by
  have row : ∀ i, i < 3 → (cmpRow g h i = 0 → befA g h (9 - i * 3) (i * 3) = befA g h (9 - (i + 1) * 3) ((i + 1) * 3)) ∧ (cmpRow g h i ≠ 0 → befA g h (9 - i * 3) (i * 3) = decide (cmpRow g h i < 0)) := fun i hi => by
    have e0 := befA_step (g := g) (h := h) hi (j := 0) (by omega)
    have e1 := befA_step (g := g) (h := h) hi (j := 1) (by omega)
    have e2 := befA_step (g := g) (h := h) hi (j := 2) (by omega)
    simp only [Nat.add_zero, Nat.zero_add, Nat.reduceAdd] at e0 e1 e2
    rw [show i * 3 + 3 = (i + 1) * 3 by omega] at e2
    have e := row_plain (g i 0) (h i 0) (g i 1) (h i 1) (g i 2) (h i 2) (befA g h (9 - (i + 1) * 3) ((i + 1) * 3))
    rw [← e2, ← e1, ← e0] at e
    exact ⟨fun q => e.trans (if_pos q), fun q => e.trans (if_neg q)⟩
  unfold cmpM befM
  rw [cF_0, cF_1]
  show _ = befA g h (9 - 0 * 3) (0 * 3)
  by_cases h0 : cmpRow g h 0 = 0
  · rw [if_pos h0, (row 0 (by omega)).1 h0]
    by_cases h1 : cmpRow g h 1 = 0
    · rw [if_pos h1, (row 1 (by omega)).1 h1]
      show decide (cmpRow g h 2 < 0) = _
      by_cases h2 : cmpRow g h 2 = 0
      · rw [(row 2 (by omega)).1 h2, h2]; rfl
      · rw [(row 2 (by omega)).2 h2]
    · rw [if_neg h1, (row 1 (by omega)).2 h1]
  · rw [if_neg h0, (row 0 (by omega)).2 h0]

set_option maxRecDepth 8000 in
set_option maxHeartbeats 8000000 in
theorem icompare (g h : Nat → Nat → Int) (w : World) : Calls Try.prog 45 #[mv g, mv h] w fun e w' => e = .returned (.int .i64 (cmpM g h)) ∧ Below w.heap.size w w' := by
  obtain ⟨W, hW, r1, r2, hbW⟩ : ∃ W, W = (w.alloc (.cells #[.int .u8 (g 0 0), .int .u8 (g 0 1), .int .u8 (g 0 2), .int .u8 (g 1 0), .int .u8 (g 1 1), .int .u8 (g 1 2), .int .u8 (g 2 0), .int .u8 (g 2 1), .int .u8 (g 2 2)] 56)).alloc (.cells #[.int .u8 (h 0 0), .int .u8 (h 0 1), .int .u8 (h 0 2), .int .u8 (h 1 0), .int .u8 (h 1 1), .int .u8 (h 1 2), .int .u8 (h 2 0), .int .u8 (h 2 1), .int .u8 (h 2 2)] 56) ∧
      W.rowIs w.heap.size 56 9 (mF g) ∧ W.rowIs (w.heap.size + 1) 56 9 (mF h) ∧ Below w.heap.size w W := by
    refine ⟨_, rfl, (mbox w g _).alloc _, ?_, ebox2 _ _ _⟩
    have := mbox (w.alloc (.cells #[.int .u8 (g 0 0), .int .u8 (g 0 1), .int .u8 (g 0 2), .int .u8 (g 1 0), .int .u8 (g 1 1), .int .u8 (g 1 2), .int .u8 (g 2 0), .int .u8 (g 2 1), .int .u8 (g 2 2)] 56)) h 56
    rwa [World.size_alloc] at this
  unfold mv
  go_enter Try.func45, Try.ntmps45
  go_upto_region 1 with fail
  rw [← hW]
  clear hW
  go_wp2_with fail
  go_loopw [7] (fun i wr => ∃ (k : Nat), k ≤ 3 ∧ i = .int .i64 k ∧ Hid (cmpM g h = cF g h k) ∧ Below W.heap.size W wr) (fun i _ => 3 - (intOf i).toNat)
  case atStart => exact ⟨0, by omega, rfl, Lib.hid rfl, Below.refl _ _⟩
  case round =>
    obtain ⟨k, hk, rfl, HU, hb⟩ := hrel
    by_cases hlt : k < 3
    · obtain ⟨⟨a0, a1, a2⟩, ⟨a3, a4, a5⟩, a6, a7, a8⟩ := mcells (erow_below r1 hb r1.lt)
      obtain ⟨⟨b0, b1, b2⟩, ⟨b3, b4, b5⟩, b6, b7, b8⟩ := mcells (erow_below r2 hb r2.lt)
      have h3 : k = 0 ∨ k = 1 ∨ k = 2 := by omega
      clear hlt hk
      rcases h3 with rfl | rfl | rfl
      · have HR := Lib.hid (HU.out.trans (cF_0 g h))
        obtain ⟨R, hR⟩ : ∃ R, cmpRow g h 0 = R := ⟨_, rfl⟩
        have cK : ∀ dd os, Calls Try.prog 54 #[.slice (some ⟨w.heap.size, 0, none⟩) 3 3, .slice (some ⟨w.heap.size + 1, 0, none⟩) 3 3] (grow (redrawn wr dd) os) fun e w'' => e = .returned (.int .i64 R) ∧ ∃ q : Regrown, w'' = grow (redrawn wr q.d) q.os := fun dd os =>
          (scmp3 w.heap.size 0 3 (w.heap.size + 1) 0 3 _ _ _ _ _ _ (grow (redrawn wr dd) os) (cell_regrown a0 dd os) (cell_regrown a1 dd os) (cell_regrown a2 dd os) (cell_regrown b0 dd os) (cell_regrown b1 dd os) (cell_regrown b2 dd os)).mono fun _ _ ⟨he, hw⟩ => ⟨by rw [he, ← hR]; rfl, ⟨dd, os⟩, hw⟩
        rw [hR] at HR
        clear hR a0 a1 a2 a3 a4 a5 a6 a7 a8 b0 b1 b2 b3 b4 b5 b6 b7 b8
        by_cases hz : R = 0
        · have HN := Lib.hid (HR.out.trans (if_pos hz))
          subst hz
          go_wp2_with fail
          refine wp_region_quiet_below (by kernel_rfl) (by kernel_rfl) ?_
          repeat (go_big_quiet_step (first | with_reducible exact cK _ _))
          refine wpQuiet_nil ?_
          intro _ hw'
          obtain ⟨⟨dq, osq⟩, hw''⟩ := hw'
          subst hw''
          have hb2 := hb.trans ((below_regrown wr dq osq).mono hb.size)
          generalize grow (redrawn wr dq) osq = V at *
          clear cK
          go_wp2_with fail
          go_roundw
          case rel => exact ⟨1, by omega, by go_num, HN, hb2⟩
          case measure => simp [intOf]
        · have HN := Lib.hid (HR.out.trans (if_neg hz))
          have hq : (R != 0) = true := by simp [hz]
          clear hz
          go_wp2_with fail
          refine wp_region_quiet_below (by kernel_rfl) (by kernel_rfl) ?_
          repeat (go_big_quiet_step (first | with_reducible exact cK _ _))
          refine wpQuiet_nil ?_
          intro _ hw'
          obtain ⟨⟨dq, osq⟩, hw''⟩ := hw'
          subst hw''
          have hb2 := hb.trans ((below_regrown wr dq osq).mono hb.size)
          generalize grow (redrawn wr dq) osq = V at *
          clear cK
          go_wp2_with fail
          go_ret
          exact ⟨by rw [HN.out]; rfl, hbW.trans (hb2.mono hbW.size)⟩
      · have HR := Lib.hid (HU.out.trans (cF_1 g h))
        obtain ⟨R, hR⟩ : ∃ R, cmpRow g h 1 = R := ⟨_, rfl⟩
        have cK : ∀ dd os, Calls Try.prog 54 #[.slice (some ⟨w.heap.size, 3, none⟩) 3 3, .slice (some ⟨w.heap.size + 1, 3, none⟩) 3 3] (grow (redrawn wr dd) os) fun e w'' => e = .returned (.int .i64 R) ∧ ∃ q : Regrown, w'' = grow (redrawn wr q.d) q.os := fun dd os =>
          (scmp3 w.heap.size 3 3 (w.heap.size + 1) 3 3 _ _ _ _ _ _ (grow (redrawn wr dd) os) (cell_regrown a3 dd os) (cell_regrown a4 dd os) (cell_regrown a5 dd os) (cell_regrown b3 dd os) (cell_regrown b4 dd os) (cell_regrown b5 dd os)).mono fun _ _ ⟨he, hw⟩ => ⟨by rw [he, ← hR]; rfl, ⟨dd, os⟩, hw⟩
        rw [hR] at HR
        clear hR a0 a1 a2 a3 a4 a5 a6 a7 a8 b0 b1 b2 b3 b4 b5 b6 b7 b8
        by_cases hz : R = 0
        · have HN := Lib.hid (HR.out.trans (if_pos hz))
          subst hz
          go_wp2_with fail
          refine wp_region_quiet_below (by kernel_rfl) (by kernel_rfl) ?_
          repeat (go_big_quiet_step (first | with_reducible exact cK _ _))
          refine wpQuiet_nil ?_
          intro _ hw'
          obtain ⟨⟨dq, osq⟩, hw''⟩ := hw'
          subst hw''
          have hb2 := hb.trans ((below_regrown wr dq osq).mono hb.size)
          generalize grow (redrawn wr dq) osq = V at *
          clear cK
          go_wp2_with fail
          go_roundw
          case rel => exact ⟨2, by omega, by go_num, HN, hb2⟩
          case measure => simp [intOf]
        · have HN := Lib.hid (HR.out.trans (if_neg hz))
          have hq : (R != 0) = true := by simp [hz]
          clear hz
          go_wp2_with fail
          refine wp_region_quiet_below (by kernel_rfl) (by kernel_rfl) ?_
          repeat (go_big_quiet_step (first | with_reducible exact cK _ _))
          refine wpQuiet_nil ?_
          intro _ hw'
          obtain ⟨⟨dq, osq⟩, hw''⟩ := hw'
          subst hw''
          have hb2 := hb.trans ((below_regrown wr dq osq).mono hb.size)
          generalize grow (redrawn wr dq) osq = V at *
          clear cK
          go_wp2_with fail
          go_ret
          exact ⟨by rw [HN.out]; rfl, hbW.trans (hb2.mono hbW.size)⟩
      · have HR := Lib.hid (HU.out.trans (cF_2 g h))
        obtain ⟨R, hR⟩ : ∃ R, cmpRow g h 2 = R := ⟨_, rfl⟩
        have cK : ∀ dd os, Calls Try.prog 54 #[.slice (some ⟨w.heap.size, 6, none⟩) 3 3, .slice (some ⟨w.heap.size + 1, 6, none⟩) 3 3] (grow (redrawn wr dd) os) fun e w'' => e = .returned (.int .i64 R) ∧ ∃ q : Regrown, w'' = grow (redrawn wr q.d) q.os := fun dd os =>
          (scmp3 w.heap.size 6 3 (w.heap.size + 1) 6 3 _ _ _ _ _ _ (grow (redrawn wr dd) os) (cell_regrown a6 dd os) (cell_regrown a7 dd os) (cell_regrown a8 dd os) (cell_regrown b6 dd os) (cell_regrown b7 dd os) (cell_regrown b8 dd os)).mono fun _ _ ⟨he, hw⟩ => ⟨by rw [he, ← hR]; rfl, ⟨dd, os⟩, hw⟩
        rw [hR] at HR
        clear hR a0 a1 a2 a3 a4 a5 a6 a7 a8 b0 b1 b2 b3 b4 b5 b6 b7 b8
        by_cases hz : R = 0
        · have HN := Lib.hid (HR.out.trans (if_pos hz))
          subst hz
          go_wp2_with fail
          refine wp_region_quiet_below (by kernel_rfl) (by kernel_rfl) ?_
          repeat (go_big_quiet_step (first | with_reducible exact cK _ _))
          refine wpQuiet_nil ?_
          intro _ hw'
          obtain ⟨⟨dq, osq⟩, hw''⟩ := hw'
          subst hw''
          have hb2 := hb.trans ((below_regrown wr dq osq).mono hb.size)
          generalize grow (redrawn wr dq) osq = V at *
          clear cK
          go_wp2_with fail
          go_roundw
          case rel => exact ⟨3, by omega, by go_num, HN, hb2⟩
          case measure => simp [intOf]
        · have HN := Lib.hid (HR.out.trans (if_neg hz))
          have hq : (R != 0) = true := by simp [hz]
          clear hz
          go_wp2_with fail
          refine wp_region_quiet_below (by kernel_rfl) (by kernel_rfl) ?_
          repeat (go_big_quiet_step (first | with_reducible exact cK _ _))
          refine wpQuiet_nil ?_
          intro _ hw'
          obtain ⟨⟨dq, osq⟩, hw''⟩ := hw'
          subst hw''
          have hb2 := hb.trans ((below_regrown wr dq osq).mono hb.size)
          generalize grow (redrawn wr dq) osq = V at *
          clear cK
          go_wp2_with fail
          go_ret
          exact ⟨by rw [HN.out]; rfl, hbW.trans (hb2.mono hbW.size)⟩
    · obtain rfl : k = 3 := by omega
      have HX : Hid (cmpM g h = 0) := Lib.hid (by rw [HU.out]; rfl)
      go_wp2_with fail
      go_ret
      exact ⟨by rw [HX.out]; rfl, hbW.trans (hb.mono hbW.size)⟩
end Go.Proofs.Ytabfdohmgmdgeaa
namespace Go.Proofs.Ytabfdohmgmdgeaa
open Go.RowKit Go.Sort Go.Maps EchM

theorem laidOutM : laidOutB Try.prog = true := by kernel_rfl
theorem cells8M : Try.prog.cellsOf 5 = 1 := by kernel_rfl
theorem wf8M {n : Int} : (Lit.int .u8 n).wf = true ↔ 0 ≤ n ∧ n ≤ 255 := by
  simp [Lit.wf, IntKind.min, IntKind.max, IntKind.bits, IntKind.signed]
theorem keyLits_u8M (m : Nat) (v : Value) : Try.prog.keyLits (m + 1) 5 [v] = match v with | .int .u8 n => if (Lit.int .u8 n).wf = true then some [.int .u8 n] else none | _ => none := by
  cases v with
  | int k n => cases k <;> simp [Program.keyLits, Try.underlying5]
  | _ => simp [Program.keyLits, Try.underlying5]
theorem rowMK : (56 : TypeId) < Try.prog.types.size := of_decide_eq_true (by kernel_rfl)
theorem lawM : Keyed Try.prog 56 := Keyed.of_law (deep_law_laid laidOutM (m := 3) (by omega) rowMK (by kernel_rfl) (by rw [Try.underlying56]))
theorem keyTypeM : Try.prog.keyType 56 = true := by kernel_rfl

/-- The value of nine bytes, and what it reads as. -/
def lM (g : Nat → Nat → Int) : List Lit := [.int .u8 (g 0 0), .int .u8 (g 0 1), .int .u8 (g 0 2), .int .u8 (g 1 0), .int .u8 (g 1 1), .int .u8 (g 1 2), .int .u8 (g 2 0), .int .u8 (g 2 1), .int .u8 (g 2 2)]
def kM (g : Nat → Nat → Int) : Lit := .string (keyBytes (lM g))
def byteM (g : Nat → Nat → Int) : Prop := ∀ i j, i < 3 → j < 3 → 0 ≤ g i j ∧ g i j ≤ 255
abbrev BM := { g : Nat → Nat → Int // byteM g }
instance : Inhabited BM := ⟨⟨fun _ _ => 0, fun _ _ _ _ => by simp⟩⟩

theorem fuelM : ∃ m, Try.prog.types.size = m + 2 := ⟨Try.prog.types.size - 2, by have : 2 ≤ Try.prog.types.size := of_decide_eq_true (by kernel_rfl); omega⟩
theorem cellsM : Try.prog.cellsOf 56 = 9 := by kernel_rfl
theorem cells3 : Try.prog.cellsOf 54 = 3 := by kernel_rfl
theorem keyLits_row (m : Nat) (a b c : Value) : Try.prog.keyLits (m + 2) 54 [a, b, c] = (Try.prog.keyLits (m + 1) 5 [a]).bind fun x => (Try.prog.keyLits (m + 1) 5 [b]).bind fun y => (Try.prog.keyLits (m + 1) 5 [c]).bind fun z => some (x ++ (y ++ z)) := by
  rw [Program.keyLits.eq_def]
  simp only [Try.underlying54, cells3, cells8M, show List.range 3 = [0, 1, 2] from rfl, List.length_cons, List.length_nil, Nat.zero_add, Nat.reduceAdd, if_true, List.mapM_cons, List.mapM_nil, Nat.zero_mul, Nat.one_mul, List.drop_zero, List.take_succ_cons, List.take_zero, Nat.reduceMul, List.drop_succ_cons]
  generalize Try.prog.keyLits (m + 1) 5 [a] = x
  generalize Try.prog.keyLits (m + 1) 5 [b] = y
  generalize Try.prog.keyLits (m + 1) 5 [c] = z
  cases x <;> cases y <;> cases z <;> simp
theorem keyLits_mat (m : Nat) (a0 a1 a2 b0 b1 b2 c0 c1 c2 : Value) : Try.prog.keyLits (m + 3) 56 [a0, a1, a2, b0, b1, b2, c0, c1, c2] = (Try.prog.keyLits (m + 2) 54 [a0, a1, a2]).bind fun x => (Try.prog.keyLits (m + 2) 54 [b0, b1, b2]).bind fun y => (Try.prog.keyLits (m + 2) 54 [c0, c1, c2]).bind fun z => some (x ++ (y ++ z)) := by
  rw [Program.keyLits.eq_def]
  simp only [Try.underlying56, cellsM, cells3, show List.range 3 = [0, 1, 2] from rfl, List.length_cons, List.length_nil, Nat.zero_add, Nat.reduceAdd, if_true, List.mapM_cons, List.mapM_nil, Nat.zero_mul, Nat.one_mul, List.drop_zero, List.take_succ_cons, List.take_zero, Nat.reduceMul, List.drop_succ_cons]
  generalize Try.prog.keyLits (m + 2) 54 [a0, a1, a2] = x
  generalize Try.prog.keyLits (m + 2) 54 [b0, b1, b2] = y
  generalize Try.prog.keyLits (m + 2) 54 [c0, c1, c2] = z
  cases x <;> cases y <;> cases z <;> simp
/-- One byte, the other way. -/
theorem u8_inv {m : Nat} {v : Value} {ls : List Lit} (h : Try.prog.keyLits (m + 1) 5 [v] = some ls) : ∃ n : Int, v = .int .u8 n ∧ (0 ≤ n ∧ n ≤ 255) := by
  rw [keyLits_u8M] at h
  cases v with
  | int k n =>
    cases k <;> try (simp at h; done)
    by_cases hn : 0 ≤ n ∧ n ≤ 255
    · exact ⟨n, rfl, hn⟩
    · simp [wf8M, hn] at h
  | _ => simp at h
theorem row_inv {m : Nat} {a b c : Value} {ls : List Lit} (h : Try.prog.keyLits (m + 2) 54 [a, b, c] = some ls) : ∃ x y z : Int, a = .int .u8 x ∧ b = .int .u8 y ∧ c = .int .u8 z ∧ (0 ≤ x ∧ x ≤ 255) ∧ (0 ≤ y ∧ y ≤ 255) ∧ (0 ≤ z ∧ z ≤ 255) := by
  rw [keyLits_row] at h
  obtain ⟨_, h1, h⟩ := Option.bind_eq_some_iff.1 h
  obtain ⟨_, h2, h⟩ := Option.bind_eq_some_iff.1 h
  obtain ⟨_, h3, h⟩ := Option.bind_eq_some_iff.1 h
  obtain ⟨x, rfl, hx⟩ := u8_inv h1
  obtain ⟨y, rfl, hy⟩ := u8_inv h2
  obtain ⟨z, rfl, hz⟩ := u8_inv h3
  exact ⟨x, y, z, rfl, rfl, rfl, hx, hy, hz⟩
theorem keyOf_mv (g : Nat → Nat → Int) (h : byteM g) : keyOf Try.prog 56 (mv g) = some (kM g) := by
  obtain ⟨m, hm⟩ := fuelM
  have q := fun i j hi hj => wf8M.2 (h i j hi hj)
  simp [keyOf, Try.underlying56, keyTypeM, mv, Value.formed, cellsM, Value.cells, hm, keyLits_mat, keyLits_row, keyLits_u8M, q, kM, lM]
theorem list9 {α : Type} (l : List α) (h : l.length = 9) : ∃ a0 a1 a2 b0 b1 b2 c0 c1 c2, l = [a0, a1, a2, b0, b1, b2, c0, c1, c2] := by
  match l, h with
  | [a0, a1, a2, b0, b1, b2, c0, c1, c2], _ => exact ⟨a0, a1, a2, b0, b1, b2, c0, c1, c2, rfl⟩
theorem invM (key : Value) (kl : Lit) (h : keyOf Try.prog 56 key = some kl) : ∃ x : BM, key = mv x.1 := by
  obtain ⟨m, hm⟩ := fuelM
  cases key with
  | agg cs =>
    obtain ⟨l⟩ := cs
    simp only [keyOf, Try.underlying56, keyTypeM, Value.formed, cellsM, Value.cells, hm, Bool.true_and] at h
    split at h
    · rename_i hl
      obtain ⟨a0, a1, a2, b0, b1, b2, c0, c1, c2, rfl⟩ := list9 l (by simpa using hl)
      rw [keyLits_mat] at h
      cases h1 : Try.prog.keyLits (m + 2) 54 [a0, a1, a2] with
      | none => simp [h1] at h
      | some l1 =>
        cases h2 : Try.prog.keyLits (m + 2) 54 [b0, b1, b2] with
        | none => simp [h1, h2] at h
        | some l2 =>
          cases h3 : Try.prog.keyLits (m + 2) 54 [c0, c1, c2] with
          | none => simp [h1, h2, h3] at h
          | some l3 =>
            obtain ⟨x0, x1, x2, rfl, rfl, rfl, hx0, hx1, hx2⟩ := row_inv h1
            obtain ⟨y0, y1, y2, rfl, rfl, rfl, hy0, hy1, hy2⟩ := row_inv h2
            obtain ⟨z0, z1, z2, rfl, rfl, rfl, hz0, hz1, hz2⟩ := row_inv h3
            refine ⟨⟨fun i j => ([x0, x1, x2, y0, y1, y2, z0, z1, z2] : List Int).getD (i * 3 + j) 0, fun i j hi hj => ?_⟩, rfl⟩
            have hi' : i = 0 ∨ i = 1 ∨ i = 2 := by omega
            have hj' : j = 0 ∨ j = 1 ∨ j = 2 := by omega
            rcases hi' with rfl | rfl | rfl <;> rcases hj' with rfl | rfl | rfl <;> assumption
    · cases h
  | _ => simp [keyOf, Try.underlying56, Value.formed] at h
theorem kM_inj {g h : Nat → Nat → Int} (hg : byteM g) (hh : byteM h) (e : kM g = kM h) : ∀ i j, i < 3 → j < 3 → g i j = h i j := by
  have := lawM.inj (keyOf_mv g hg) (e ▸ keyOf_mv h hh)
  simp [mv] at this
  obtain ⟨e0, e1, e2, e3, e4, e5, e6, e7, e8⟩ := this
  intro i j hi hj
  have hi' : i = 0 ∨ i = 1 ∨ i = 2 := by omega
  have hj' : j = 0 ∨ j = 1 ∨ j = 2 := by omega
  rcases hi' with rfl | rfl | rfl <;> rcases hj' with rfl | rfl | rfl <;> assumption
theorem kM_congr {g h : Nat → Nat → Int} (e : ∀ i j, i < 3 → j < 3 → g i j = h i j) : kM g = kM h := by
  have q := fun i j hi hj => e i j hi hj
  simp [kM, lM, q]
theorem kM_key (g : Nat → Nat → Int) : WideAt.IsKeyLit (kM g) := trivial
end Go.Proofs.Ytabfdohmgmdgeaa
