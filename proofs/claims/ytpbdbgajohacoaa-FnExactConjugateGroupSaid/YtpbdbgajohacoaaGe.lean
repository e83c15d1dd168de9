/-
  GROUPS: the program's order of matrices. Conditions: as each theorem states.
-/
import Derived.Test.YtpbdbgajohacoaaGd
namespace Go.Proofs.Ytpbdbgajohacoaa
open Go.RowKit Go.Sort EchM

def cmpB (a b : Int) : Int := if a < b then -1 else if b < a then 1 else 0
def then3 (a b c : Int) : Int := if a = 0 then (if b = 0 then c else b) else a
theorem cmpB_zero {a b : Int} : cmpB a b = 0 ↔ a = b := by unfold cmpB; split <;> (try split) <;> omega
theorem mnan8 (a : Int) (w : World) : Calls Try.prog 140 #[.int .u8 a] w fun e w' => e = .returned (.bool false) ∧ w' = w := by
  have ha : (a != a) = false := by simp
  go_enter Try.func140, Try.ntmps140
  go_wp2
  go_ret
  exact ⟨rfl, rfl⟩
set_option maxRecDepth 8000 in
set_option maxHeartbeats 1000000 in
theorem mcmp8 (a b : Int) (w : World) : Calls Try.prog 123 #[.int .u8 a, .int .u8 b] w fun e w' => e = .returned (.int .i64 (cmpB a b)) ∧ w' = w := by
  go_enter Try.func123, Try.ntmps123
  go_wp2_with fail
  ((with_reducible refine (mnan8 a _).mono ?_); rintro e w1 ⟨rfl, rfl⟩)
  go_wp2_with fail
  ((with_reducible refine (mnan8 b _).mono ?_); rintro e w1 ⟨rfl, rfl⟩)
  go_wp2
  all_goals go_ret
  all_goals refine ⟨?_, rfl⟩
  all_goals go_light
  all_goals (unfold cmpB; congr 2; (repeat' split) <;> first | rfl | (exfalso; omega))
theorem mcmp8_is (a b c : Int) (w : World) (h : cmpB a b = c) : Calls Try.prog 123 #[.int .u8 a, .int .u8 b] w fun e w' => e = .returned (.int .i64 c) ∧ w' = w := by subst h; exact mcmp8 a b w

set_option maxRecDepth 8000 in
set_option maxHeartbeats 4000000 in
theorem scmp3 (b o c b' o' c' : Nat) (x y z x' y' z' : Int) (w : World)
    (c0 : w.cell? ⟨b, o, none⟩ = some (.int .u8 x)) (c1 : w.cell? ⟨b, o + 1, none⟩ = some (.int .u8 y)) (c2 : w.cell? ⟨b, o + 2, none⟩ = some (.int .u8 z))
    (d0 : w.cell? ⟨b', o', none⟩ = some (.int .u8 x')) (d1 : w.cell? ⟨b', o' + 1, none⟩ = some (.int .u8 y')) (d2 : w.cell? ⟨b', o' + 2, none⟩ = some (.int .u8 z')) :
    Calls Try.prog 102 #[.slice (some ⟨b, o, none⟩) 3 c, .slice (some ⟨b', o', none⟩) 3 c'] w fun e w' => e = .returned (.int .i64 (then3 (cmpB x x') (cmpB y y') (cmpB z z'))) ∧ w' = w := by
  obtain ⟨A, hA⟩ : ∃ A, cmpB x x' = A := ⟨_, rfl⟩
  obtain ⟨B, hB⟩ : ∃ B, cmpB y y' = B := ⟨_, rfl⟩
  obtain ⟨C, hC⟩ : ∃ C, cmpB z z' = C := ⟨_, rfl⟩
  rw [hA, hB, hC]
  have HA := Lib.hid hA
  have HB := Lib.hid hB
  have HC := Lib.hid hC
  clear hA hB hC
  by_cases h0 : A = 0
  · by_cases h1 : B = 0
    · by_cases h2 : C = 0
      · have HX := Lib.hid (show then3 A B C = 0 by rw [then3, if_pos h0, if_pos h1, h2])
        subst h0 h1 h2
        go_enter Try.func102, Try.ntmps102
        go_wp2
        refine wp_loop_rounds 4 ?_
        rw [rounds_succ]
        go_wp2_with fail
        ((with_reducible refine (mcmp8_is _ _ _ _ HA.out).mono ?_); rintro e w1 ⟨rfl, rfl⟩)
        go_wp2
        rw [rounds_succ]
        go_wp2_with fail
        ((with_reducible refine (mcmp8_is _ _ _ _ HB.out).mono ?_); rintro e w2 ⟨rfl, rfl⟩)
        go_wp2
        rw [rounds_succ]
        go_wp2_with fail
        ((with_reducible refine (mcmp8_is _ _ _ _ HC.out).mono ?_); rintro e w3 ⟨rfl, rfl⟩)
        go_wp2
        rw [rounds_succ]
        go_wp2
        go_ret
        exact ⟨by rw [HX.out]; rfl, rfl⟩
      · have HX := Lib.hid (show then3 A B C = C by rw [then3, if_pos h0, if_pos h1])
        have hq : (C != 0) = true := by simp [h2]
        subst h0 h1
        clear h2
        go_enter Try.func102, Try.ntmps102
        go_wp2
        refine wp_loop_rounds 4 ?_
        rw [rounds_succ]
        go_wp2_with fail
        ((with_reducible refine (mcmp8_is _ _ _ _ HA.out).mono ?_); rintro e w1 ⟨rfl, rfl⟩)
        go_wp2
        rw [rounds_succ]
        go_wp2_with fail
        ((with_reducible refine (mcmp8_is _ _ _ _ HB.out).mono ?_); rintro e w2 ⟨rfl, rfl⟩)
        go_wp2
        rw [rounds_succ]
        go_wp2_with fail
        ((with_reducible refine (mcmp8_is _ _ _ _ HC.out).mono ?_); rintro e w3 ⟨rfl, rfl⟩)
        go_wp2
        go_ret
        exact ⟨by rw [HX.out]; rfl, rfl⟩
    · have HX := Lib.hid (show then3 A B C = B by rw [then3, if_pos h0, if_neg h1])
      have hq : (B != 0) = true := by simp [h1]
      subst h0
      clear h1
      go_enter Try.func102, Try.ntmps102
      go_wp2
      refine wp_loop_rounds 4 ?_
      rw [rounds_succ]
      go_wp2_with fail
      ((with_reducible refine (mcmp8_is _ _ _ _ HA.out).mono ?_); rintro e w1 ⟨rfl, rfl⟩)
      go_wp2
      rw [rounds_succ]
      go_wp2_with fail
      ((with_reducible refine (mcmp8_is _ _ _ _ HB.out).mono ?_); rintro e w2 ⟨rfl, rfl⟩)
      go_wp2
      go_ret
      exact ⟨by rw [HX.out]; rfl, rfl⟩
  · have HX := Lib.hid (show then3 A B C = A by rw [then3, if_neg h0])
    have hq : (A != 0) = true := by simp [h0]
    clear h0
    go_enter Try.func102, Try.ntmps102
    go_wp2
    refine wp_loop_rounds 4 ?_
    rw [rounds_succ]
    go_wp2_with fail
    ((with_reducible refine (mcmp8_is _ _ _ _ HA.out).mono ?_); rintro e w1 ⟨rfl, rfl⟩)
    go_wp2
    go_ret
    exact ⟨by rw [HX.out]; rfl, rfl⟩
end Go.Proofs.Ytpbdbgajohacoaa
