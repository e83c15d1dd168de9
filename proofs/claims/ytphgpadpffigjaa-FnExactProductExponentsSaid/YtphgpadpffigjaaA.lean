/-
  WALKS of the small functions on exponents: sums, bounds, equality. Conditions: none beyond what each theorem states.
-/
import Derived.Test.YtphgpadpffigjaaRows
import Derived.WalkKit
import Derived.WalkSpells
import Derived.WalkLawsBesides
import Derived.Lib.QuietBelow
import Derived.Deep.Light
namespace Go.Proofs.Ytphgpadpffigjaa
open Go.RowKit Go.Sort

theorem box1 (w : World) (o : Obj) : Below w.heap.size w (w.alloc o) := (Below.refl _ _).alloc (Nat.le_refl _) o
theorem box2 (w : World) (o p : Obj) : Below w.heap.size w ((w.alloc o).alloc p) := (box1 w o).alloc (by simp) p

set_option maxHeartbeats 400000 in
theorem in_any (n a b : Int) (w : World) :
    Calls Try.prog 52 #[.int .i64 n, .int .i64 a, .int .i64 b] w fun e w' => e = .returned (.bool (decide (a ≤ n) && decide (n ≤ b))) ∧ w = w' := by
  by_cases h : a ≤ n
  · go_enter Try.func52, Try.ntmps52
    go_wp2
    go_ret
    exact ⟨by simp; omega, rfl⟩
  · go_enter Try.func52, Try.ntmps52
    go_wp2
    go_ret
    exact ⟨by simp; omega, rfl⟩

set_option maxHeartbeats 400000 in
theorem sum_any (x y z : Int) (w : World) (hx : 0 ≤ x ∧ x ≤ 255) (hy : 0 ≤ y ∧ y ≤ 255) (hz : 0 ≤ z ∧ z ≤ 255) :
    Calls Try.prog 89 #[.agg #[.int .u8 x, .int .u8 y, .int .u8 z]] w fun e w' => e = .returned (.int .i64 (x + y + z)) ∧ Below w.heap.size w w' := by
  obtain ⟨hx1, hx2⟩ := hx
  obtain ⟨hy1, hy2⟩ := hy
  obtain ⟨hz1, hz2⟩ := hz
  go_enter Try.func89, Try.ntmps89
  go_wp2
  go_ret
  exact ⟨rfl, (Below.refl _ _).alloc (Nat.le_refl _) _⟩

/-- What the capped sum gives. -/
def capd (s : Int) : Int := if s ≤ 12 then s else 13

set_option maxHeartbeats 1000000 in
theorem capped_any (b o cap : Nat) (x y z : Int) (w : World) (hx : 0 ≤ x ∧ x ≤ 255) (hy : 0 ≤ y ∧ y ≤ 255) (hz : 0 ≤ z ∧ z ≤ 255)
    (c0 : w.cell? ⟨b, o, none⟩ = some (.int .u8 x)) (c1 : w.cell? ⟨b, o + 1, none⟩ = some (.int .u8 y)) (c2 : w.cell? ⟨b, o + 2, none⟩ = some (.int .u8 z)) :
    Calls Try.prog 122 #[.slice (some ⟨b, o, none⟩) 3 cap] w fun e w' => e = .returned (.int .i64 (capd (x + y + z))) ∧ w = w' := by
  obtain ⟨hx1, hx2⟩ := hx
  obtain ⟨hy1, hy2⟩ := hy
  obtain ⟨hz1, hz2⟩ := hz
  by_cases h1 : 12 < x
  · go_enter Try.func122, Try.ntmps122
    go_wp2
    refine wp_loop_rounds 4 ?_
    rw [rounds_succ]; go_wp2
    go_ret
    exact ⟨by simp [capd]; omega, rfl⟩
  · by_cases h2 : 12 - x < y
    · go_enter Try.func122, Try.ntmps122
      go_wp2
      refine wp_loop_rounds 4 ?_
      rw [rounds_succ]; go_wp2
      rw [rounds_succ]; go_wp2
      go_ret
      exact ⟨by simp [capd]; omega, rfl⟩
    · by_cases h3 : 12 - (x + y) < z
      · go_enter Try.func122, Try.ntmps122
        go_wp2
        refine wp_loop_rounds 4 ?_
        rw [rounds_succ]; go_wp2
        rw [rounds_succ]; go_wp2
        rw [rounds_succ]; go_wp2
        go_ret
        exact ⟨by simp [capd]; omega, rfl⟩
      · go_enter Try.func122, Try.ntmps122
        go_wp2
        refine wp_loop_rounds 4 ?_
        rw [rounds_succ]; go_wp2
        rw [rounds_succ]; go_wp2
        rw [rounds_succ]; go_wp2
        rw [rounds_succ]; go_wp2
        go_ret
        exact ⟨by simp [capd]; omega, rfl⟩

/-- The exponents beyond the letters are 0. -/
def tailOk (d x y z : Int) : Bool := (decide (0 < d) || x == 0) && (decide (1 < d) || y == 0) && (decide (2 < d) || z == 0)
/-- Exponents of a monomial in d letters. -/
def expsOk (d x y z : Int) : Bool := tailOk d x y z && decide (x + y + z ≤ 12)

set_option maxHeartbeats 1000000 in
theorem exps_any (d x y z : Int) (w : World) (hd : 1 ≤ d ∧ d ≤ 3) (hx : 0 ≤ x ∧ x ≤ 255) (hy : 0 ≤ y ∧ y ≤ 255) (hz : 0 ≤ z ∧ z ≤ 255) :
    Calls Try.prog 87 #[.int .i64 d, .agg #[.int .u8 x, .int .u8 y, .int .u8 z]] w fun e w' => e = .returned (.bool (expsOk d x y z)) ∧ Below w.heap.size w w' := by
  have ho : d = 1 ∨ d = 2 ∨ d = 3 := by omega
  clear hd
  rcases ho with rfl | rfl | rfl
  all_goals
    go_enter Try.func87, Try.ntmps87
    go_wp2
    refine wp_loop_rounds 4 ?_
    iterate 4 (all_goals (try (rw [rounds_succ]; go_wp2_with (go_at_call 89; refine (sum_any x y z _ hx hy hz).mono ?_; rintro e w1 ⟨rfl, hb⟩))))
    all_goals go_ret
    all_goals refine ⟨?_, ?_⟩
    all_goals first | exact box1 _ _ | exact (box1 _ _).trans (hb.mono (by simp)) | (go_light; simp_all [expsOk, tailOk]; done)

set_option maxHeartbeats 1000000 in
theorem monomial_any (d x y z : Int) (w : World) (hd : 1 ≤ d ∧ d ≤ 3) (hx : 0 ≤ x ∧ x ≤ 255) (hy : 0 ≤ y ∧ y ≤ 255) (hz : 0 ≤ z ∧ z ≤ 255) :
    Calls Try.prog 107 #[.int .i64 d, .agg #[.int .u8 x, .int .u8 y, .int .u8 z]] w fun e w' => e = .returned (.bool (expsOk d x y z)) ∧ Below w.heap.size w w' := by
  have ho : d = 1 ∨ d = 2 ∨ d = 3 := by omega
  clear hd
  rcases ho with rfl | rfl | rfl
  all_goals
    go_enter Try.func107, Try.ntmps107
    go_wp2
    refine wp_loop_rounds 4 ?_
    iterate 4 (all_goals (try (rw [rounds_succ]; go_wp2_with (go_at_call 122; refine (capped_any _ _ _ x y z _ hx hy hz (by simp [World.cell?_alloc_at]) (by simp [World.cell?_alloc_at]) (by simp [World.cell?_alloc_at])).mono ?_; rintro e w1 ⟨rfl, rfl⟩))))
    all_goals go_ret
    all_goals refine ⟨?_, box1 _ _⟩
    all_goals go_light
    all_goals simp_all [expsOk, tailOk, capd]
    all_goals (split <;> simp <;> omega)

set_option maxHeartbeats 1000000 in
theorem eqExps_any (x y z x' y' z' : Int) (w : World) :
    Calls Try.prog 127 #[.agg #[.int .u8 x, .int .u8 y, .int .u8 z], .agg #[.int .u8 x', .int .u8 y', .int .u8 z']] w fun e w' => e = .returned (.bool (x == x' && y == y' && z == z')) ∧ Below w.heap.size w w' := by
  go_enter Try.func127, Try.ntmps127
  go_wp2
  refine wp_loop_rounds 4 ?_
  iterate 4 (all_goals (try (rw [rounds_succ]; go_wp2; try (go_quiet (fail); go_wp2))))
  all_goals go_ret
  all_goals refine ⟨?_, by repeat (first | exact box2 _ _ _ | refine below_drewN ?_ _)⟩
  all_goals go_light
  all_goals simp_all

theorem eqExps_refl (x y z : Int) (w : World) :
    Calls Try.prog 127 #[.agg #[.int .u8 x, .int .u8 y, .int .u8 z], .agg #[.int .u8 x, .int .u8 y, .int .u8 z]] w fun e w' => e = .returned (.bool true) ∧ Below w.heap.size w w' :=
  (eqExps_any x y z x y z w).mono fun _ _ ⟨he, hb⟩ => ⟨by rw [he]; simp, hb⟩

end Go.Proofs.Ytphgpadpffigjaa
