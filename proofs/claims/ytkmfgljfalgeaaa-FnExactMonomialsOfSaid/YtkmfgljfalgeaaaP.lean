/-
  'laws.FnExactMonomialsOf' returns true, whatever its two integers are, and leaves all that was there as it was. Conditions: none.
-/
import Derived.Test.YtkmfgljfalgeaaaO
import Derived.ProofKit
import Derived.OpenShut
namespace Go.Proofs.Ytkmfgljfalgeaaa
open Go.RowKit Go.Sort

theorem eqExpsS_zero (a a' : Option Addr) (c c' : Nat) (w : World) :
    Calls Try.prog 26 #[.slice a 0 c, .slice a' 0 c'] w fun e w' => e = .returned (.bool true) ∧ Below w.heap.size w w' := by
  go_enter Try.func26, Try.ntmps26
  go_wp2
  refine wp_loop_rounds 1 ?_
  rw [rounds_succ]
  go_wp2
  go_ret
  exact ⟨rfl, Below.refl _ _⟩
theorem mark_zero (a : Option Addr) (c : Nat) (w : World) :
    Calls Try.prog 27 #[.slice a 0 c, .int .i64 1] w fun e w' => e = .returned (.int .i64 1) ∧ w = w' := by
  go_enter Try.func27, Try.ntmps27
  go_wp2
  refine wp_loop_rounds 1 ?_
  rw [rounds_succ]
  go_wp2
  go_ret
  exact ⟨rfl, rfl⟩
theorem held_zero (a : Option Addr) (c : Nat) (w : World) :
    Calls Try.prog 28 #[.slice a 0 c, .int .i64 1] w fun e w' => e = .returned (.int .i64 1) ∧ w = w' := by
  go_enter Try.func28, Try.ntmps28
  go_wp2
  refine wp_loop_rounds 1 ?_
  rw [rounds_succ]
  go_wp2
  go_ret
  exact ⟨rfl, rfl⟩

theorem eqExpsS_same (v v' : Value) (l : List (Int × Int × Int)) (w : World) (hl : l.length ≤ 1000000) (h : LaysE w v l) (h' : LaysE w v' l) :
    Calls Try.prog 26 #[v, v'] w fun e w' => e = .returned (.bool true) ∧ Below w.heap.size w w' := by
  rcases h with ⟨rfl, rfl⟩ | ⟨g, cap, rfl, hg, hc⟩
  · rcases h' with ⟨rfl, _⟩ | ⟨g', cap', rfl, _, _⟩
    · exact eqExpsS_zero _ _ _ _ _
    · exact eqExpsS_zero _ _ _ _ _
  · rcases h' with ⟨rfl, rfl⟩ | ⟨g', cap', rfl, hg', hc'⟩
    · exact eqExpsS_zero _ _ _ _ _
    · exact eqExpsS_some g g' cap cap' l w hl hc hc'

theorem LaysE.keep {w w' : World} {v : Value} {l : List (Int × Int × Int)} (h : LaysE w v l) (hs : w.heap.size ≤ w'.heap.size) (hk : ∀ c, v.ownBlock = some c → w'.heap[c]? = w.heap[c]?) : LaysE w' v l := by
  rcases h with h | ⟨g, cap, rfl, hg, hc⟩
  · exact .inl h
  · exact .inr ⟨g, cap, rfl, Nat.lt_of_lt_of_le hg hs, fun j u hj => (World.cell?_of_block (w := w) (a := ⟨g, j, none⟩) (hk g rfl)).trans (hc j u hj)⟩

/-- The marks of n monomials stand in the array of v. -/
def MarksE (w : World) (v : Value) (n : Nat) : Prop :=
  (v = .slice none 0 0 ∧ n = 0) ∨ ∃ g cap, v = .slice (some ⟨g, 0, none⟩) n cap ∧ g < w.heap.size ∧ ∀ j, j < n * 3 → w.cell? ⟨g, j, none⟩ = some (markV j)
theorem MarksE.below {w w' : World} {v : Value} {n : Nat} (h : MarksE w v n) (hb : Below w.heap.size w w') : MarksE w' v n := by
  rcases h with h | ⟨g, cap, hv, hg, hc⟩
  · exact .inl h
  · exact .inr ⟨g, cap, hv, Nat.lt_of_lt_of_le hg hb.size, fun j hj => (hb.cell (p := ⟨g, j, none⟩) hg).trans (hc j hj)⟩

theorem mark_owns {base : Nat} {v : Value} {n : Nat} {xs : List Value} (w : World) (h : w.ownsRow base 52 3 v n xs) (hn : n ≤ 1000000) :
    Calls Try.prog 27 #[v, .int .i64 1] w fun e w' => e = .returned (.int .i64 (1 + 3 * n)) ∧ MarksE w' v n ∧ w.grownBy w' v.ownBlock := by
  have hl := h.lt
  obtain ⟨_, ⟨rfl, rfl⟩ | ⟨g, cap, cur, rfl, _, hg, hcap, _, hsz, _⟩⟩ := h
  · exact (mark_zero none 0 w).mono fun e w' ⟨he, hw⟩ => ⟨he, .inl ⟨rfl, rfl⟩, by subst hw; exact ⟨rfl, rfl, rfl, Nat.le_refl _, fun _ _ _ => rfl⟩⟩
  · have hrow : w.rowIs g 52 (cap * 3) (fun i => cur.getD i undef) := by
      refine ⟨cur, hg, hsz, fun i hi => ?_⟩
      simp [Array.getD, hsz, hi]
    exact (mark_any g n cap (cap * 3) _ w hrow (by omega) hn).mono fun e w' ⟨he, f', hr', hf', hgr⟩ =>
      ⟨he, .inr ⟨g, cap, rfl, hr'.lt, fun j hj => (hr'.cell (by omega)).trans (by rw [hf' j hj])⟩, hgr⟩
theorem held_marks {v : Value} {n : Nat} (w : World) (h : MarksE w v n) (hn : n ≤ 1000000) :
    Calls Try.prog 28 #[v, .int .i64 1] w fun e w' => e = .returned (.int .i64 (1 + 3 * n)) ∧ w = w' := by
  rcases h with ⟨rfl, rfl⟩ | ⟨g, cap, rfl, _, hc⟩
  · exact held_zero none 0 w
  · exact held_any g n cap w hc hn

/-- The worlds of the law, one behind the other: what was read stays. -/
theorem keep_mark {W1 w3 w4 : World} {e : TypeId} {v v' : Value} {l : List (Int × Int × Int)} {n : Nat} {xs : List Value} (hL : LaysE w3 v l) (hlt : ∀ c, v.ownBlock = some c → c < W1.heap.size)
    (hown : w3.ownsRow W1.heap.size e 3 v' n xs) (hg : w3.grownBy w4 v'.ownBlock) : LaysE w4 v l :=
  hL.keep hg.size fun c hc => by
    have hcl : c < w3.heap.size := by
      rcases hL with ⟨rfl, _⟩ | ⟨g, cap, rfl, hgl, _⟩
      · simp [Value.ownBlock] at hc
      · simp [Value.ownBlock] at hc; omega
    refine hg.block c hcl fun e => ?_
    have h1 := hlt c hc
    have h2 := (hown.lt c e.symm).1
    omega

set_option maxHeartbeats 2000000 in
theorem law_monomials (a0 a1 : Int) (w : World) :
    Calls Try.prog 8 #[.int .i64 a0, .int .i64 a1] w fun e w' => e = .returned (.bool true) ∧ Below w.heap.size w w' := by
  have hle := monL_le a0 a1
  have hcc : (monC a0 a1 != monC a0 a1) = false := by simp
  have hqq : ((1 : Int) + 3 * ((monL a0 a1).length : Int) != 1 + 3 * ((monL a0 a1).length : Int)) = false := by simp
  have hq0 : ¬ (1 : Int) + 3 * ((monL a0 a1).length : Int) < 0 := by omega
  have hl : (monL a0 a1).length ≤ 1000000 := by omega
  go_enter Try.func8, Try.ntmps8
  go_wp2_with fail
  ((with_reducible refine (specMon a0 a1 w).mono ?_); rintro e w1 ⟨v0, rfl, hown0, hb1⟩)
  go_wp2_with fail
  ((with_reducible refine (implMon a0 a1 w1).mono ?_); rintro e w2 ⟨v1, rfl, hown1, hb2⟩)
  have L0 := (LaysE.of_owns hown0).below hb2
  have L1 := LaysE.of_owns hown1
  go_wp2_with fail
  ((with_reducible refine (eqExpsS_same v1 v0 _ w2 hl L1 L0).mono ?_); rintro e w3 ⟨rfl, hb3⟩)
  go_wp2_with fail
  have own3 := owns_below hown1 hb3
  ((with_reducible refine (mark_owns w3 own3 hl).mono ?_); rintro e w4 ⟨rfl, hM4, hg4⟩)
  have L4 := keep_mark (L0.below hb3) (fun c hc => (hown0.lt c hc).2) own3 hg4
  go_wp2_with fail
  ((with_reducible refine (held_marks w4 hM4 hl).mono ?_); rintro e w5 ⟨rfl, rfl⟩)
  go_wp2_with fail
  ((with_reducible refine (implMon a0 a1 w4).mono ?_); rintro e w5 ⟨v2, rfl, hown2, hb5⟩)
  have L5 := L4.below hb5
  have L6 := LaysE.of_owns hown2
  go_wp2_with fail
  ((with_reducible refine (eqExpsS_same v2 v0 _ w5 hl L6 L5).mono ?_); rintro e w6 ⟨rfl, hb6⟩)
  go_wp2_with fail
  have M6 := (hM4.below hb5).below hb6
  ((with_reducible refine (held_marks w6 M6 hl).mono ?_); rintro e w7 ⟨rfl, rfl⟩)
  go_wp2
  go_ret
  refine ⟨rfl, ?_⟩
  have s1 := hb1.size
  have s2 := hb2.size
  have s3 := hb3.size
  have s4 := hg4.size
  have s5 := hb5.size
  exact ((((hb1.trans (hb2.mono s1)).trans (hb3.mono (by omega))).grown hg4 (by omega) (fun k hk => Nat.le_trans s1 (own3.lt k hk).1)).trans (hb5.mono (by omega))).trans (hb6.mono (by omega))

end Go.Proofs.Ytkmfgljfalgeaaa
