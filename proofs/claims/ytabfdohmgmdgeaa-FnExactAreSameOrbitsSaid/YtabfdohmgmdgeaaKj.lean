/-
  ORDERS of matrices: units, powers, the program's search. Conditions: as each theorem states.
-/
import Derived.Test.YtabfdohmgmdgeaaKi
import Derived.Test.YtabfdohmgmdgeaaMv
namespace Go.Proofs.Ytabfdohmgmdgeaa
open Go.RowKit Go.Sort EchM

/-- Another block than the one that a matrix is stored into. -/
theorem mother {Z : World} {B B1 n : Nat} {t : TypeId} {F : Nat → Value} (hZ : Z.rowIs B t n F) (hne : B ≠ B1) (r : Nat → Nat → Int) : (((((((((Z.setCell ⟨B1, 0, none⟩ (.int .u8 (r 0 0))).setCell ⟨B1, 1, none⟩ (.int .u8 (r 0 1))).setCell ⟨B1, 2, none⟩ (.int .u8 (r 0 2))).setCell ⟨B1, 3, none⟩ (.int .u8 (r 1 0))).setCell ⟨B1, 4, none⟩ (.int .u8 (r 1 1))).setCell ⟨B1, 5, none⟩ (.int .u8 (r 1 2))).setCell ⟨B1, 6, none⟩ (.int .u8 (r 2 0))).setCell ⟨B1, 7, none⟩ (.int .u8 (r 2 1))).setCell ⟨B1, 8, none⟩ (.int .u8 (r 2 2))).rowIs B t n F := (((((((((hZ.setOther hne _).setOther hne _).setOther hne _).setOther hne _).setOther hne _).setOther hne _).setOther hne _).setOther hne _).setOther hne _)
def uM (n : Nat) (i j : Nat) : Int := if i = j ∧ i < n then 1 else 0
def pw (p : Int) (g : Nat → Nat → Int) : Nat → (Nat → Nat → Int)
  | 0 => g
  | 1 => g
  | k + 2 => prodM p (pw p g (k + 1)) g
theorem pw_next (p : Int) (g : Nat → Nat → Int) {k : Nat} (h : 1 ≤ k) : pw p g (k + 1) = prodM p (pw p g k) g := by
  obtain ⟨j, rfl⟩ : ∃ j, k = j + 1 := ⟨k - 1, by omega⟩
  rfl
def srch (p : Int) (g u : Nat → Nat → Int) : Nat → Nat → Nat
  | 0, _ => 0
  | f + 1, k => if eqM (pw p g k) u then k else srch p g u f (k + 1)
theorem srch_hit {p : Int} {g u : Nat → Nat → Int} {k : Nat} (h : k ≤ 3000) (he : eqM (pw p g k) u = true) : srch p g u (3001 - k) k = k := by
  rw [show 3001 - k = (3000 - k) + 1 by omega, srch, he]; rfl
theorem srch_miss {p : Int} {g u : Nat → Nat → Int} {k : Nat} (h : k ≤ 3000) (he : eqM (pw p g k) u = false) : srch p g u (3001 - k) k = srch p g u (3001 - (k + 1)) (k + 1) := by
  rw [show 3001 - k = (3001 - (k + 1)) + 1 by omega, srch, he]; rfl
theorem pw_ok {p : Int} {n : Nat} {g : Nat → Nat → Int} (h2 : 2 ≤ p) (hg : ∀ i, i < 3 → ∀ j, j < 3 → 0 ≤ g i j ∧ g i j < p) (ho : Out0 n g) : ∀ k, (∀ i, i < 3 → ∀ j, j < 3 → 0 ≤ pw p g k i j ∧ pw p g k i j < p) ∧ Out0 n (pw p g k)
  | 0 => ⟨hg, ho⟩
  | 1 => ⟨hg, ho⟩
  | k + 2 => ⟨fun i _ j _ => prodM_bound h2 _ _ i j, prodM_out (pw_ok h2 hg ho (k + 1)).2 ho⟩
/-- What 'OrderOfMatrix' gives. -/
def ordR (p n : Int) (g : Nat → Nat → Int) : Int × Int := if isMat p n g then (if srch p g (uM n.toNat) 3000 1 = 0 then (0, 3) else ((srch p g (uM n.toNat) 3000 1 : Int), 0)) else (0, 2)

set_option maxRecDepth 8000 in
set_option maxHeartbeats 4000000 in
theorem iunit (n : Nat) (u : Nat → Nat → Int) (w : World) (h1 : 1 ≤ n) (h3 : n ≤ 3) (hu : uM n = u) :
    Calls Try.prog 56 #[.int .i64 (n : Int)] w fun e w' => e = .returned (.agg #[.int .u8 (u 0 0), .int .u8 (u 0 1), .int .u8 (u 0 2), .int .u8 (u 1 0), .int .u8 (u 1 1), .int .u8 (u 1 2), .int .u8 (u 2 0), .int .u8 (u 2 1), .int .u8 (u 2 2)]) ∧ Below w.heap.size w w' := by
  subst hu
  have hn : n = 1 ∨ n = 2 ∨ n = 3 := by omega
  rcases hn with rfl | rfl | rfl
  all_goals
    simp only [uM]
    simp
    go_enter Try.func56, Try.ntmps56
    go_wp2
    refine wp_loop_rounds 4 ?_
    iterate 4 (try (rw [rounds_succ]; go_wp2))
  · exact bodyPost_ret (v := mv (uM 1)) (by simp [results, Try.results56, go_sem, mv, uM]) rfl ⟨by simp [mv, uM], ebox2 _ _ _⟩
  · exact bodyPost_ret (v := mv (uM 2)) (by simp [results, Try.results56, go_sem, mv, uM]) rfl ⟨by simp [mv, uM], ebox2 _ _ _⟩
  · exact bodyPost_ret (v := mv (uM 3)) (by simp [results, Try.results56, go_sem, mv, uM]) rfl ⟨by simp [mv, uM], ebox2 _ _ _⟩
set_option maxRecDepth 8000 in
set_option maxHeartbeats 4000000 in
theorem sunit (n : Nat) (u : Nat → Nat → Int) (w : World) (h1 : 1 ≤ n) (h3 : n ≤ 3) (hu : uM n = u) :
    Calls Try.prog 27 #[.int .i64 (n : Int)] w fun e w' => e = .returned (.agg #[.int .u8 (u 0 0), .int .u8 (u 0 1), .int .u8 (u 0 2), .int .u8 (u 1 0), .int .u8 (u 1 1), .int .u8 (u 1 2), .int .u8 (u 2 0), .int .u8 (u 2 1), .int .u8 (u 2 2)]) ∧ Below w.heap.size w w' := by
  subst hu
  have hn : n = 1 ∨ n = 2 ∨ n = 3 := by omega
  rcases hn with rfl | rfl | rfl
  all_goals
    simp only [uM]
    simp
    go_enter Try.func27, Try.ntmps27
    go_wp2
    refine wp_loop_rounds 4 ?_
    iterate 4 (try (rw [rounds_succ]; go_wp2))
  · exact bodyPost_ret (v := mv (uM 1)) (by simp [results, Try.results27, go_sem, mv, uM]) rfl ⟨by simp [mv, uM], ebox2 _ _ _⟩
  · exact bodyPost_ret (v := mv (uM 2)) (by simp [results, Try.results27, go_sem, mv, uM]) rfl ⟨by simp [mv, uM], ebox2 _ _ _⟩
  · exact bodyPost_ret (v := mv (uM 3)) (by simp [results, Try.results27, go_sem, mv, uM]) rfl ⟨by simp [mv, uM], ebox2 _ _ _⟩
end Go.Proofs.Ytabfdohmgmdgeaa
