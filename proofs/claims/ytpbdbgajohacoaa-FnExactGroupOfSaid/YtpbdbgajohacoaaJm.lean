/-
  A list of matrices as an argument of a law, opened. Conditions: the argument can be read as data.
-/
import Derived.Test.YtpbdbgajohacoaaJg
namespace Go.Proofs.Ytpbdbgajohacoaa
open Go.ChangeShapes Go.WideShapes Go.ChangeAt Go.RowKit Go.Sort Go.Joins Go.Deep

theorem readMats : Try.prog.readableRec 22 = true ∧ 22 < Try.prog.types.size := ⟨by kernel_rfl, of_decide_eq_true (by kernel_rfl)⟩
set_option maxRecDepth 100000 in
theorem open_mats {H : Type} {enc : TypeId × Value → H} {w : World} {held : Bool} {r : Reach} {b0 : Nat} {v : Value} {d : DataW H} {p : List MemPlace} (hv : Value.okWide Try.prog w r b0 22 v) (h : DataW.Trod enc Try.prog w 0 (fun _ => true) held 22 v d p) :
    ∃ L : List (Nat → Nat → Int), SlM w v L ∧ (∀ g ∈ L, Byt g) ∧ L.length ≤ 9223372036854775807 := by
  obtain ⟨a0, len0, cap0, rfl⟩ := okWide_slice Try.underlying22 hv
  obtain ⟨fuel, hf⟩ := h
  exact mats_of (v := .slice a0 len0 cap0) hf
end Go.Proofs.Ytpbdbgajohacoaa
