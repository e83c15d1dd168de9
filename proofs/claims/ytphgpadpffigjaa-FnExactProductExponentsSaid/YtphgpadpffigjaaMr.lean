/-
  LISTS OF TERMS of the call's own, marked. Conditions: as each theorem states.. Conditions: as each theorem states.
-/
import Derived.Test.YtphgpadpffigjaaMm
namespace Go.Proofs.Ytphgpadpffigjaa
open Go.RowKit Go.Sort

/-- A slice of n terms in an array of the call's own (from block base on), or nil. -/
def OwnG (w : World) (base : Nat) (v : Value) (n : Nat) : Prop :=
  (v = .slice none 0 0 ∧ n = 0) ∨ ∃ g cap N f, v = .slice (some ⟨g, 0, none⟩) n cap ∧ base ≤ g ∧ n * 4 ≤ N ∧ w.rowIs g 92 N f
theorem OwnT.own {w : World} {base : Nat} {v : Value} {ts : List Tm} (h : OwnT w base v ts) : OwnG w base v ts.length := by
  obtain ⟨g, f, hv, hb, hr, _⟩ := h
  exact .inr ⟨g, _, _, f, hv, hb, Nat.le_refl _, hr⟩
theorem OwnG.of_owns {w : World} {base : Nat} {v : Value} {n : Nat} {xs : List Value} (h : w.ownsRow base 92 4 v n xs) : OwnG w base v n := by
  obtain ⟨_, ⟨hv, hn⟩ | ⟨g, cap, cur, hv, hb, hg, hcap, _, hsz, _⟩⟩ := h
  · exact .inl ⟨hv, hn⟩
  · refine .inr ⟨g, cap, cap * 4, fun i => cur.getD i undef, hv, hb, by omega, cur, hg, hsz, fun i hi => ?_⟩
    simp [Array.getD, hsz, hi]
theorem OwnG.below {w w' : World} {base : Nat} {v : Value} {n : Nat} (h : OwnG w base v n) (hb : Below w.heap.size w w') : OwnG w' base v n := by
  rcases h with h | ⟨g, cap, N, f, hv, hg, hN, hr⟩
  · exact .inl h
  · exact .inr ⟨g, cap, N, f, hv, hg, hN, rowIs_below hr hb hr.lt⟩
theorem OwnG.lt {w : World} {base : Nat} {v : Value} {n : Nat} (h : OwnG w base v n) : ∀ c, v.ownBlock = some c → base ≤ c ∧ c < w.heap.size := by
  rcases h with ⟨rfl, _⟩ | ⟨g, cap, N, f, rfl, hg, _, hr⟩
  · intro c hc; simp [Value.ownBlock] at hc
  · intro c hc; simp [Value.ownBlock] at hc; subst hc; exact ⟨hg, hr.lt⟩
/-- Another array than the one that is written stays. -/
theorem OwnG.keep {w w' : World} {base : Nat} {v : Value} {n : Nat} {row : Option Nat} (h : OwnG w base v n) (hg : w.grownBy w' row) (hne : v.ownBlock = none ∨ v.ownBlock ≠ row) : OwnG w' base v n := by
  rcases h with h | ⟨g, cap, N, f, rfl, hb, hN, hr⟩
  · exact .inl h
  · refine .inr ⟨g, cap, N, f, rfl, hb, hN, hr.of_block (hg.block g hr.lt ?_)⟩
    rcases hne with h | h
    · simp [Value.ownBlock] at h
    · simpa [Value.ownBlock] using h
theorem SliceT.keep {w w' : World} {v : Value} {ts : List Tm} {row : Option Nat} (h : SliceT w v ts) (hg : w.grownBy w' row) (hne : ∀ c, v.ownBlock = some c → some c ≠ row) : SliceT w' v ts := by
  obtain ⟨a, cap, rfl, h | ⟨b, off, rfl, hlt, hT⟩⟩ := h
  · exact ⟨a, cap, rfl, .inl h⟩
  · refine ⟨_, cap, rfl, .inr ⟨b, off, rfl, Nat.lt_of_lt_of_le hlt hg.size, fun k hk => ?_⟩⟩
    have hb := hg.block b hlt (hne b rfl)
    obtain ⟨h0, h1, h2, h3⟩ := hT k hk
    exact ⟨(World.cell?_of_block (w := w) (a := ⟨b, _, none⟩) hb).trans h0, (World.cell?_of_block (w := w) (a := ⟨b, _, none⟩) hb).trans h1, (World.cell?_of_block (w := w) (a := ⟨b, _, none⟩) hb).trans h2, (World.cell?_of_block (w := w) (a := ⟨b, _, none⟩) hb).trans h3⟩

/-- The marks from k0 on stand in the array of v. -/
def MarksT (w : World) (v : Value) (n : Nat) (k0 : Int) : Prop :=
  (v = .slice none 0 0 ∧ n = 0) ∨ ∃ g cap, v = .slice (some ⟨g, 0, none⟩) n cap ∧ g < w.heap.size ∧ ∀ j, j < n * 4 → w.cell? ⟨g, j, none⟩ = some (markT k0 j)
theorem MarksT.below {w w' : World} {v : Value} {n : Nat} {k0 : Int} (h : MarksT w v n k0) (hb : Below w.heap.size w w') : MarksT w' v n k0 := by
  rcases h with h | ⟨g, cap, hv, hg, hc⟩
  · exact .inl h
  · exact .inr ⟨g, cap, hv, Nat.lt_of_lt_of_le hg hb.size, fun j hj => (hb.cell (p := ⟨g, j, none⟩) hg).trans (hc j hj)⟩

theorem markT_zero (a : Option Addr) (c : Nat) (k0 : Int) (w : World) :
    Calls Try.prog 39 #[.slice a 0 c, .int .i64 k0] w fun e w' => e = .returned (.int .i64 k0) ∧ w = w' := by
  go_enter Try.func39, Try.ntmps39
  go_wp2
  refine wp_loop_rounds 1 ?_
  rw [rounds_succ]
  go_wp2
  go_ret
  exact ⟨rfl, rfl⟩
theorem markS_own {base : Nat} {v : Value} {n : Nat} (k0 : Int) (w : World) (h : OwnG w base v n) (hn : n ≤ 1048576) (h0 : 0 ≤ k0) (h1 : k0 ≤ 1000000000) :
    Calls Try.prog 39 #[v, .int .i64 k0] w fun e w' => e = .returned (.int .i64 (k0 + 4 * n)) ∧ MarksT w' v n k0 ∧ w.grownBy w' v.ownBlock := by
  rcases h with ⟨rfl, rfl⟩ | ⟨g, cap, N, f, rfl, hb, hN, hr⟩
  · exact (markT_zero none 0 k0 w).mono fun e w' ⟨he, hw⟩ => ⟨by rw [he]; simp, .inl ⟨rfl, rfl⟩, by subst hw; exact ⟨rfl, rfl, rfl, Nat.le_refl _, fun _ _ _ => rfl⟩⟩
  · exact (markT_any g n cap N k0 f w hr hN hn h0 h1).mono fun e w' ⟨he, f', hr', hf', hgr⟩ =>
      ⟨he, .inr ⟨g, cap, rfl, hr'.lt, fun j hj => (hr'.cell (by omega)).trans (by rw [hf' j hj])⟩, hgr⟩
theorem grown_box {w w' : World} {o : Obj} {row : Option Nat} (h : (w.alloc o).grownBy w' row) : w.grownBy w' row := by
  have hs := h.size
  simp only [World.size_alloc] at hs
  exact ⟨h.os, h.tape, h.output, by omega, fun k hk hne => (h.block k (by simp; omega) hne).trans ((box1 w o).block k hk)⟩

set_option maxHeartbeats 1000000 in
theorem markPoly_own {base : Nat} {v : Value} {n : Nat} (p d k0 : Int) (w : World) (h : OwnG w base v n) (hn : n ≤ 1048576) (h0 : 0 ≤ k0) (h1 : k0 ≤ 1000000000) :
    Calls Try.prog 21 #[.agg #[.int .i64 p, .int .i64 d, v], .int .i64 k0] w fun e w' => e = .returned (.int .i64 (k0 + 4 * n)) ∧ MarksT w' v n k0 ∧ w.grownBy w' v.ownBlock := by
  have hO : ∀ o, OwnG (w.alloc o) base v n := fun o => h.below (box1 _ _)
  obtain ⟨a, m, c, hv⟩ : ∃ a m c, v = .slice a m c := by
    rcases h with ⟨rfl, _⟩ | ⟨g, cap, N, f, rfl, _⟩
    · exact ⟨_, _, _, rfl⟩
    · exact ⟨_, _, _, rfl⟩
  subst hv
  go_enter Try.func21, Try.ntmps21
  go_wp2_with fail
  ((with_reducible refine (markS_own k0 _ (hO _) hn h0 h1).mono ?_); rintro e w1 ⟨rfl, hM, hg⟩)
  go_wp2
  go_ret
  exact ⟨rfl, hM, grown_box hg⟩
end Go.Proofs.Ytphgpadpffigjaa
