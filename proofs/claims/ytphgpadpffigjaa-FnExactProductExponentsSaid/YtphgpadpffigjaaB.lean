/-
  WALKS: primes, comparing monomials (model and program). Conditions: exponents are bytes.
-/
import Derived.Test.YtphgpadpffigjaaA
import Derived.Lib.Hide
import Derived.StillTailTactics
namespace Go.Proofs.Ytphgpadpffigjaa
open Go.RowKit Go.Sort

def primeB (p : Int) : Bool := p == 2 || p == 3 || p == 5 || p == 7 || p == 11 || p == 13
theorem prime_cases (p : Int) : (p = 2 ∨ p = 3 ∨ p = 5 ∨ p = 7 ∨ p = 11 ∨ p = 13) ∨ (p == 2) = false ∧ (p == 3) = false ∧ (p == 5) = false ∧ (p == 7) = false ∧ (p == 11) = false ∧ (p == 13) = false := by
  simp; omega

set_option maxHeartbeats 1000000 in
theorem specPrime_any (p : Int) (w : World) : Calls Try.prog 51 #[.int .i64 p] w fun e w' => e = .returned (.bool (primeB p)) ∧ w = w' := by
  rcases prime_cases p with (rfl | rfl | rfl | rfl | rfl | rfl) | ⟨h2, h3, h5, h7, h11, h13⟩
  all_goals
    go_enter Try.func51, Try.ntmps51
    go_wp2
    go_ret
    first | exact ⟨rfl, rfl⟩ | exact ⟨by simp [primeB, h2, h3, h5, h7, h11, h13], rfl⟩

set_option maxHeartbeats 1000000 in
theorem prime_any (p : Int) (w : World) : Calls Try.prog 58 #[.int .i64 p] w fun e w' => e = .returned (.bool (primeB p)) ∧ w = w' := by
  rcases prime_cases p with (rfl | rfl | rfl | rfl | rfl | rfl) | ⟨h2, h3, h5, h7, h11, h13⟩
  all_goals
    go_enter Try.func58, Try.ntmps58
    go_wp2
    go_ret
    first | exact ⟨rfl, rfl⟩ | exact ⟨by simp [primeB, h2, h3, h5, h7, h11, h13], rfl⟩

def cmpI (a b : Int) : Int := if a < b then -1 else if b < a then 1 else 0

theorem compare64nan (a : Int) (w : World) : Calls Try.prog 143 #[.int .i64 a] w fun e w' => e = .returned (.bool false) ∧ w = w' := by
  have ha : (a != a) = false := by simp
  go_enter Try.func143, Try.ntmps143
  go_wp2
  go_ret
  exact ⟨rfl, rfl⟩
set_option maxHeartbeats 1000000 in
theorem compare64_any (a b : Int) (w : World) : Calls Try.prog 131 #[.int .i64 a, .int .i64 b] w fun e w' => e = .returned (.int .i64 (cmpI a b)) ∧ w' = w := by
  go_enter Try.func131, Try.ntmps131
  go_wp2_with fail
  ((with_reducible refine (compare64nan a _).mono ?_); rintro e w1 ⟨rfl, rfl⟩)
  go_wp2_with fail
  ((with_reducible refine (compare64nan b _).mono ?_); rintro e w1 ⟨rfl, rfl⟩)
  go_wp2
  all_goals go_ret
  all_goals refine ⟨?_, rfl⟩
  all_goals go_light
  all_goals (unfold cmpI; congr 2; (repeat' split) <;> first | rfl | (exfalso; omega))

theorem compare8nan (a : Int) (w : World) : Calls Try.prog 144 #[.int .u8 a] w fun e w' => e = .returned (.bool false) ∧ w = w' := by
  have ha : (a != a) = false := by simp
  go_enter Try.func144, Try.ntmps144
  go_wp2
  go_ret
  exact ⟨rfl, rfl⟩
set_option maxHeartbeats 1000000 in
theorem compare8_any (a b : Int) (w : World) : Calls Try.prog 132 #[.int .u8 a, .int .u8 b] w fun e w' => e = .returned (.int .i64 (cmpI a b)) ∧ w' = w := by
  go_enter Try.func132, Try.ntmps132
  go_wp2_with fail
  ((with_reducible refine (compare8nan a _).mono ?_); rintro e w1 ⟨rfl, rfl⟩)
  go_wp2_with fail
  ((with_reducible refine (compare8nan b _).mono ?_); rintro e w1 ⟨rfl, rfl⟩)
  go_wp2
  all_goals go_ret
  all_goals refine ⟨?_, rfl⟩
  all_goals go_light
  all_goals (unfold cmpI; congr 2; (repeat' split) <;> first | rfl | (exfalso; omega))

def or3 (x y z : Int) : Int := if x = 0 then (if y = 0 then z else y) else x

set_option maxHeartbeats 1000000 in
theorem or_any (b : Nat) (x y z : Int) (w : World) (c0 : w.cell? ⟨b, 0, none⟩ = some (.int .i64 x)) (c1 : w.cell? ⟨b, 1, none⟩ = some (.int .i64 y)) (c2 : w.cell? ⟨b, 2, none⟩ = some (.int .i64 z)) :
    Calls Try.prog 130 #[.slice (some ⟨b, 0, none⟩) 3 3] w fun e w' => e = .returned (.int .i64 (or3 x y z)) ∧ w = w' := by
  go_enter Try.func130, Try.ntmps130
  go_wp2
  refine wp_loop_rounds 4 ?_
  iterate 4 (all_goals (try (rw [rounds_succ]; go_wp2)))
  all_goals go_ret
  all_goals refine ⟨?_, rfl⟩
  all_goals go_light
  all_goals (unfold or3; congr 2; simp_all)

theorem capped_still (b o cap : Nat) (x y z : Int) (w : World) (hx : 0 ≤ x ∧ x ≤ 255) (hy : 0 ≤ y ∧ y ≤ 255) (hz : 0 ≤ z ∧ z ≤ 255)
    (c0 : w.cell? ⟨b, o, none⟩ = some (.int .u8 x)) (c1 : w.cell? ⟨b, o + 1, none⟩ = some (.int .u8 y)) (c2 : w.cell? ⟨b, o + 2, none⟩ = some (.int .u8 z)) :
    Calls Try.prog 122 #[.slice (some ⟨b, o, none⟩) 3 cap] w fun e w' => e = .returned (.int .i64 (capd (x + y + z))) ∧ w' = w :=
  (capped_any b o cap x y z w hx hy hz c0 c1 c2).mono fun _ _ ⟨he, hw⟩ => ⟨he, hw.symm⟩

/-- A region whose first n operations leave the world alone and whose others follow one another. -/
theorem region_tail {P : Program} {id : Nat} {Q : Exit → Act → World → Prop} {a : Act} {w : World} {l : List Oper} (n : Nat) (hm : P.follows .mixedOrders = true) (hB : Region.lexTailB .any l.toArray n = true)
    (h : wpStill P l.toArray w.drew (fun a' => wpList P l.toArray Q (l.drop n) a' w.drew) (l.take n) a) : (Code.region id l.toArray true).wp P Q a w :=
  wp_region_still_tail n hm hB h

/-- What the program's comparison gives. -/
def cmpE (a b : Int × Int × Int) : Int := or3 (cmpI (capd (a.1 + a.2.1 + a.2.2)) (capd (b.1 + b.2.1 + b.2.2))) (cmpI b.1 a.1) (cmpI b.2.1 a.2.1)

set_option maxHeartbeats 2000000 in
set_option maxRecDepth 100000 in
theorem compareExps_any (x y z x' y' z' : Int) (w : World) (hx : 0 ≤ x ∧ x ≤ 255) (hy : 0 ≤ y ∧ y ≤ 255) (hz : 0 ≤ z ∧ z ≤ 255) (hx' : 0 ≤ x' ∧ x' ≤ 255) (hy' : 0 ≤ y' ∧ y' ≤ 255) (hz' : 0 ≤ z' ∧ z' ≤ 255) :
    Calls Try.prog 108 #[.agg #[.int .u8 x, .int .u8 y, .int .u8 z], .agg #[.int .u8 x', .int .u8 y', .int .u8 z']] w fun e w' => e = .returned (.int .i64 (cmpE (x, y, z) (x', y', z'))) ∧ Below w.heap.size w w' := by
  go_enter Try.func108, Try.ntmps108
  go_wp2
  refine region_tail 15 (by kernel_rfl) (by kernel_rfl) ?_
  simp only [List.take_succ_cons, List.take_zero, List.drop_succ_cons, List.drop_zero]
  repeat still_step
  still_call (capped_still _ _ _ x y z _ hx hy hz (by go_simp) (by go_simp) (by go_simp))
  repeat still_step
  still_call (capped_still _ _ _ x' y' z' _ hx' hy' hz' (by go_simp) (by go_simp) (by go_simp))
  repeat still_step
  still_call (compare64_any _ _ _)
  repeat still_step
  still_call (compare8_any _ _ _)
  repeat still_step
  still_call (compare8_any _ _ _)
  repeat still_step
  refine wpStill_nil ?_
  go_wp2_with fail
  ((with_reducible refine (or_any _ (cmpI (capd (x + y + z)) (capd (x' + y' + z'))) (cmpI x' x) (cmpI y' y) _ (by go_simp) (by go_simp) (by go_simp)).mono ?_); rintro e w1 ⟨rfl, rfl⟩)
  go_wp2
  go_ret
  exact ⟨rfl, ((box2 _ _ _).alloc (by simp; omega) _).drew⟩

end Go.Proofs.Ytphgpadpffigjaa
