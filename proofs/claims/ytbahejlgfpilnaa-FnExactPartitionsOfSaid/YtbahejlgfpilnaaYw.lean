/-
  WALKS: 'impl.placesOf'. Conditions: as the theorem states.
  FRAMES of loops over a function's rounds; the monomials' exponents. Conditions: as each theorem states.
-/
import Derived.Test.YtbahejlgfpilnaaYa
import Derived.Test.YtbahejlgfpilnaaLs2
import Derived.Maps.OwnIn
namespace Go.Proofs.Ytbahejlgfpilnaa
open Go.RowKit Go.Sort Go.Maps Go.Shelf

attribute [local go_sem] Oper.semAt_some

abbrev allF (Bs : Nat) : Value := .func (.func 221) #[] #[.pointer (some ⟨Bs, 0, none⟩)]
set_option maxHeartbeats 1000000 in
theorem iplaces (d n : Int) (w : World) : Calls Try.prog 97 #[.int .i64 d, .int .i64 n] w fun e w' => ∃ Bs sv, e = .returned (allF Bs) ∧ (w.heap.size ≤ Bs ∧ Bs < w'.heap.size) ∧ w'.cell? ⟨Bs, 0, none⟩ = some sv ∧ SlEI w.heap.size w'.heap.size w' sv (monL d n) ∧ Below w.heap.size w w' := by
  go_enter Try.func97, Try.ntmps97
  go_wp2_with fail
  ((with_reducible refine (implMon d n w).mono ?_); rintro e w1 ⟨v, rfl, hO, hb1⟩)
  have hS := slE_of hO
  obtain ⟨a, cap, rfl, _⟩ := id hS
  have hs := hb1.size
  clear hO
  go_wp2_with fail
  ((with_reducible refine (gall a (monL d n).length cap w1).mono ?_); rintro e w2 ⟨rfl, rfl⟩)
  have hb2 : Below w1.heap.size w1 (w1.alloc (.cells #[.slice a (monL d n).length cap] 176)) := box1 _ _
  go_wp2_with fail
  go_ret
  refine ⟨w1.heap.size, .slice a (monL d n).length cap, rfl, ⟨hs, by simp⟩, ?_, (hS.kept (KpI.of_below hb2)).mono (Nat.le_refl _) (by simp), hb1.trans (hb2.mono hs)⟩
  exact (World.rowIs_alloc w1 #[.slice a (monL d n).length cap] 176 (fun _ => .slice a (monL d n).length cap) (fun i hi => by simp at hi; subst hi; rfl)).cell (i := 0) (by simp)
end Go.Proofs.Ytbahejlgfpilnaa
namespace Go.Proofs.Ytbahejlgfpilnaa
open Go.RowKit Go.Sort Go.Maps Go.Shelf

theorem yrow {w w' : World} {b B n : Nat} {t : TypeId} {f : Nat → Value} (h : w.rowIs B t n f) (hg : w.grownBy w' (some b)) (hne : B ≠ b) : w'.rowIs B t n f := h.of_block (hg.block B h.lt (by simpa using hne))

/-- A frame goes on where blocks of a loop's own turn. -/
theorem ygrown {w0 X Y : World} {rb : Nat} {row : Option Nat} (h : w0.grownBy X (some rb)) (hg : X.grownBy Y row) (hr : ∀ r, row = some r → w0.heap.size ≤ r) : w0.grownBy Y (some rb) :=
  ⟨hg.os.trans h.os, hg.tape.trans h.tape, hg.output.trans h.output, Nat.le_trans h.size hg.size, fun b hb hne => (hg.block b (Nat.lt_of_lt_of_le hb h.size) (fun e => by have := hr b e.symm; omega)).trans (h.block b hb hne)⟩
theorem yset {w0 X : World} {rb o : Nat} {v : Value} (h : w0.grownBy X (some rb)) : w0.grownBy (X.drew.setCell ⟨rb, o, none⟩ v) (some rb) :=
  ⟨h.os, h.tape, h.output, by simpa using h.size, fun b hb hne => (Deep.blk_setCell_other X.drew ⟨rb, o, none⟩ v b (fun e => hne (by rw [show b = rb from e]))).trans (h.block b hb hne)⟩
theorem monL_byte (d n : Int) : ∀ e ∈ monL d n, byte3 e := by
  unfold monL
  split
  · rename_i h
    simp [monB] at h
    intro e he
    simp only [outerL, innerL, pick, List.mem_flatMap, List.mem_range] at he
    obtain ⟨s, hs, k, hk, hp⟩ := he
    split at hp
    · simp at hp
      subst hp
      refine ⟨⟨?_, ?_⟩, ⟨?_, ?_⟩, ?_, ?_⟩ <;> simp <;> omega
    · simp at hp
  · intro e he
    simp at he

end Go.Proofs.Ytbahejlgfpilnaa
