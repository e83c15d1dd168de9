/-
  A map of coefficients in the making. Conditions: as each theorem states.
-/
import Derived.Test.YtphgpadpffigjaaIsp
import Derived.Test.YtphgpadpffigjaaIns
namespace Go.Proofs.Ytphgpadpffigjaa
open Go.RowKit Go.Sort Go.Maps

/-- A map of coefficients in the making, beside the boxes of the argument and the result. -/
structure MapSt (w wr : World) (b n a r : Nat) (p d : Int) (xv : Value) (D : DataW Unit) : Prop where
  map : MapE wr b n D
  arg : wr.rowIs a 36 3 (polyF p d xv)
  res : wr.rowIs r 36 3 (polyF 0 0 (.slice none 0 0))
  below : Below w.heap.size w wr
  b1 : w.heap.size ≤ b
  r1 : w.heap.size ≤ r
theorem row_not_map {w : World} {a b n m : Nat} {t : TypeId} {f : Nat → Value} {D : DataW Unit} (h : w.rowIs a t n f) (h' : MapE w b m D) : a ≠ b := by
  intro e
  subst e
  obtain ⟨c, hc, _⟩ := h
  obtain ⟨es, clock, hb, _⟩ := h'
  rw [hc] at hb
  simp at hb
theorem MapSt.later {w wr w1 : World} {b n a r : Nat} {p d : Int} {xv : Value} {D : DataW Unit} (h : MapSt w wr b n a r p d xv D) (hb : Below wr.heap.size wr w1) : MapSt w w1 b n a r p d xv D :=
  ⟨h.map.kept (row := none) ⟨hb.os, hb.tape, hb.output, hb.size, fun k hk _ => hb.block k hk⟩ (by simp), rowIs_below h.arg hb h.arg.lt, rowIs_below h.res hb h.res.lt, h.below.trans (hb.mono h.below.size), h.b1, h.r1⟩
theorem MapSt.wrote {w wr w1 : World} {b n n' a r : Nat} {p d : Int} {xv : Value} {D D' : DataW Unit} (h : MapSt w wr b n a r p d xv D) (hg : wr.grownBy w1 (some b)) (hm : MapE w1 b n' D') : MapSt w w1 b n' a r p d xv D' :=
  ⟨hm, h.arg.of_block (hg.block a h.arg.lt (by simpa using row_not_map h.arg h.map)), h.res.of_block (hg.block r h.res.lt (by simpa using row_not_map h.res h.map)), h.below.grown hg h.below.size (fun k hk => by simp at hk; have := h.b1; omega), h.b1, h.r1⟩
end Go.Proofs.Ytphgpadpffigjaa
