/-
  WALKS: marking a polynomial whose terms lie in an array of the call's own, and reading the marks back. Conditions: as each theorem states.
-/
import Derived.Test.YtggogmbhlfddlaaMr
import Derived.Test.YtggogmbhlfddlaaMk
namespace Go.Proofs.Ytggogmbhlfddlaa
open Go.RowKit Go.Sort

theorem heldT_zero (a : Option Addr) (c : Nat) (k0 : Int) (w : World) :
    Calls Try.prog 75 #[.slice a 0 c, .int .i64 k0] w fun e w' => e = .returned (.int .i64 k0) ∧ w = w' := by
  go_enter Try.func75, Try.ntmps75
  go_wp2
  refine wp_loop_rounds 1 ?_
  rw [rounds_succ]
  go_wp2
  go_ret
  exact ⟨rfl, rfl⟩

theorem heldS_marks {v : Value} {n : Nat} {k0 : Int} (w : World) (h : MarksT w v n k0) (hn : n ≤ 1048576) (h0 : 0 ≤ k0) (h1 : k0 ≤ 1000000000) :
    Calls Try.prog 75 #[v, .int .i64 k0] w fun e w' => e = .returned (.int .i64 (k0 + 4 * n)) ∧ w = w' := by
  rcases h with ⟨rfl, rfl⟩ | ⟨g, cap, rfl, _, hc⟩
  · exact (heldT_zero none 0 k0 w).mono fun e w' ⟨he, hw⟩ => ⟨by rw [he]; simp, hw⟩
  · exact heldT_any g n cap k0 w hc hn h0 h1

set_option maxHeartbeats 1000000 in
theorem heldPoly_marks {v : Value} {n : Nat} (p d k0 : Int) (w : World) (h : MarksT w v n k0) (hn : n ≤ 1048576) (h0 : 0 ≤ k0) (h1 : k0 ≤ 1000000000) :
    Calls Try.prog 34 #[.agg #[.int .i64 p, .int .i64 d, v], .int .i64 k0] w fun e w' => e = .returned (.int .i64 (k0 + 4 * n)) ∧ Below w.heap.size w w' := by
  have hO : ∀ o, MarksT (w.alloc o) v n k0 := fun o => h.below (box1 _ _)
  obtain ⟨a, m, c, hv⟩ : ∃ a m c, v = .slice a m c := by
    rcases h with ⟨rfl, _⟩ | ⟨g, cap, rfl, _⟩
    · exact ⟨_, _, _, rfl⟩
    · exact ⟨_, _, _, rfl⟩
  subst hv
  have hq : ¬ k0 + 4 * (n : Int) < 0 := by omega
  go_enter Try.func34, Try.ntmps34
  go_wp2_with fail
  ((with_reducible refine (heldS_marks _ (hO _) hn h0 h1).mono ?_); rintro e w1 ⟨rfl, rfl⟩)
  go_wp2
  go_ret
  exact ⟨rfl, box1 _ _⟩
end Go.Proofs.Ytggogmbhlfddlaa
