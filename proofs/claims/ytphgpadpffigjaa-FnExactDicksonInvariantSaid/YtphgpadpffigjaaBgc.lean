/-
  FRAMES beside one block. Conditions: as each theorem states.
  MAPS later. Conditions: as each theorem states.
-/
import Derived.Test.YtphgpadpffigjaaCx
namespace Go.Proofs.Ytphgpadpffigjaa
open Go.RowKit Go.Sort Go.Maps

theorem rowG {w w' : World} {b B n : Nat} {t : TypeId} {f : Nat → Value} (h : w.rowIs B t n f) (hg : w.grownBy w' (some b)) (hne : B ≠ b) : w'.rowIs B t n f := h.of_block (hg.block B h.lt (by simpa using hne))
theorem gBelow {w w' : World} {b : Nat} (h : Below w.heap.size w w') : w.grownBy w' (some b) := ⟨h.os, h.tape, h.output, h.size, fun k hk _ => h.block k hk⟩
theorem gSetNew {w w' : World} {b q o : Nat} {v : Value} (h : w.grownBy w' (some b)) (hq : w.heap.size ≤ q) : w.grownBy (w'.setCell ⟨q, o, none⟩ v) (some b) :=
  ⟨h.os, h.tape, h.output, by rw [World.size_setCell]; exact h.size, fun k hk hne => (Below.heap_setCell w' ⟨q, o, none⟩ v k (by show k ≠ q; omega)).trans (h.block k hk hne)⟩
end Go.Proofs.Ytphgpadpffigjaa
namespace Go.Proofs.Ytphgpadpffigjaa
open Go.RowKit Go.Sort Go.Maps

theorem MapE.later {w w' : World} {b n : Nat} {D : DataW Unit} (h : MapE w b n D) (hb : Below w.heap.size w w') : MapE w' b n D :=
  h.kept (row := none) ⟨hb.os, hb.tape, hb.output, hb.size, fun k hk _ => hb.block k hk⟩ (by simp)
end Go.Proofs.Ytphgpadpffigjaa
