/-
  WALKS of the laws on groups: copying a group; the law of 'FnExactIsGroup'. Conditions: as each theorem states.
-/
import Derived.Test.YtabfdohmgmdgeaaJd
namespace Go.Proofs.Ytabfdohmgmdgeaa
open Go.RowKit Go.Sort EchM

theorem gold_cells {W w1 : World} (hb : Below W.heap.size W w1) : (∀ b o, b < W.heap.size → w1.cell? ⟨b, o, none⟩ = W.cell? ⟨b, o, none⟩) ∧ (∀ b o, b < W.heap.size → w1.frozen? ⟨b, o, none⟩ = W.frozen? ⟨b, o, none⟩) :=
  ⟨fun b o h => hb.cell (p := ⟨b, o, none⟩) h, fun b o h => hb.frozen (p := ⟨b, o, none⟩) h⟩
set_option maxRecDepth 8000 in
set_option maxHeartbeats 4000000 in
theorem togrp (p n : Int) (v : Value) (L : List (Nat → Nat → Int)) (w : World) (hl : L.length ≤ 1048576) (hS : SlM w v L) :
    Calls Try.prog 6 #[.agg #[.int .i64 p, .int .i64 n, v]] w fun e w' => ∃ v', e = .returned (.agg #[.int .i64 p, .int .i64 n, v']) ∧ OwnM w' w.heap.size v' L ∧ Below w.heap.size w w' := by
  have hb3 : ∀ o1 o2 o3, Below w.heap.size w (((w.alloc o1).alloc o2).alloc o3) := fun o1 o2 o3 => (ebox2 _ _ _).alloc (by simp; omega) _
  have hS3 : ∀ o1 o2 o3, SlM (((w.alloc o1).alloc o2).alloc o3) v L := fun o1 o2 o3 => hS.below (hb3 _ _ _)
  obtain ⟨a, cap, hv, _⟩ := id hS
  subst hv
  go_enter Try.func6, Try.ntmps6
  go_wp2_with fail
  ((with_reducible refine (tomats _ L _ hl (hS3 _ _ _)).mono ?_); rintro e w1 ⟨v', rfl, hown, hb⟩)
  obtain ⟨hc, hf⟩ := gold_cells hb
  have hz : w.heap.size + 1 + 1 < w1.heap.size := by have := hb.size; simp at this; omega
  have hb0 := (hb3 _ _ _).trans (hb.mono (by simp; omega))
  obtain ⟨g, f, rfl, hg, hr, ht⟩ := hown
  simp only [World.size_alloc] at hg
  have HT := Lib.hid ht
  clear hb hS3 hb3 ht
  go_wp2_with fail
  exact bodyPost_ret (v := .agg #[.int .i64 p, .int .i64 n, .slice (some ⟨g, 0, none⟩) L.length L.length]) (by simp [results, Try.results6, go_sem, hc]) rfl ⟨_, rfl, ⟨g, f, rfl, by omega, by repeat (first | with_reducible exact hr | with_reducible refine World.rowIs.setOther ?_ (by simp; omega) _), HT.out⟩, by repeat (first | with_reducible exact hb0 | with_reducible refine Below.setCell ?_ (by simp; try omega) _)⟩
end Go.Proofs.Ytabfdohmgmdgeaa
