/-
  No cell of these rows narrows 'for every input' (looked for: loops, veiled, ifaces, maps, wideKeys, modest, calm, conditions, laid).
  DERIVED. THE GIVEN ROWS OF THIS SEAT. 6 by the template 'for every input the law returns true; each argument reads behind the call as it read before'; 0 by the template 'total and deterministic' (their statements: YtphgpadpffigjaaTotals.lean).
  GIVEN WITH THE SEED: the statements are not yours to turn. If you find one false, say at which input.
  Laid BY PROGRAM, IN A SANDBOX (cutbox-rows.mjs): the forced cells as the released guide's own fill.sh prints them over the translation 31f27a9c988bd9e3… (all of the seat's roots in one cut). By AI agents, Wed Nov 11 2026. No macro, syntax, notation, axiom, sorry.
-/
import Derived.Test.YtphgpadpffigjaaChecked
import GoSem.Claim
import GoSem.ClaimJoined
import GoSem.ClaimMapViews
import Derived.JoinedTies
import Derived.KernelRfl
namespace Go.Proofs.Ytphgpadpffigjaa
/- THE CELL 'sum', in the pinned program and in every row, IS THE sha256 OF THE DUMP (.gsa) THAT YtphgpadpffigjaaProg.lean LOADS. Nothing in Lean hashes anything: it is a label: what it is worth is what the hold of that sum in a sandbox is worth. -/
noncomputable def Try.pinned : Pinned := { name := "ytphgpadpffigjaa", sum := "31f27a9c988bd9e37e88c05a7954f475f586bd2b3919ee7bd4628e77f82b8e4e", checked := Try.checked }
namespace Rows
def none {H : Type} : Left H := { results := [], args := [] }

/-- 'laws.FnExactProductExponents': WHATEVER THE INPUT: true; the input reads as it did. -/
def fnExactProductExponentsSpec : ChangeSpec := { name := "fnExactProductExponents", fn := fun _ => fun
  | [d1, d2] => { results := [.lit (.bool true)], args := [d1, d2] }
  | _ => none }
def fnExactProductExponentsRow : OpenClaim := { program := "ytphgpadpffigjaa", sum := "31f27a9c988bd9e37e88c05a7954f475f586bd2b3919ee7bd4628e77f82b8e4e", func := "loop.example/g01285/laws.FnExactProductExponents", spec := "fnExactProductExponents", unfollowed := true, recurses := true, plainKeys := false, apart := false }
def FnExactProductExponentsSaid : Prop := fnExactProductExponentsRow.holds Try.pinned (OpenSpec.ofChange fnExactProductExponentsSpec)

/-- ITS FALSE NEIGHBOUR: 'it returns false'. Refute it at one input. -/
def fnExactProductExponentsWrong : ChangeSpec := { name := "fnExactProductExponents", fn := fun _ => fun
  | [d1, d2] => { results := [.lit (.bool false)], args := [d1, d2] }
  | _ => none }
def FnExactProductExponentsWrongFalsely : Prop := fnExactProductExponentsRow.holds Try.pinned (OpenSpec.ofChange fnExactProductExponentsWrong)

/-- 'laws.FnExactJacobianOf': WHATEVER THE INPUT: true; the input reads as it did. -/
def fnExactJacobianOfSpec : ChangeSpec := { name := "fnExactJacobianOf", fn := fun _ => fun
  | [d] => { results := [.lit (.bool true)], args := [d] }
  | _ => none }
def fnExactJacobianOfRow : OpenClaim := { program := "ytphgpadpffigjaa", sum := "31f27a9c988bd9e37e88c05a7954f475f586bd2b3919ee7bd4628e77f82b8e4e", func := "loop.example/g01285/laws.FnExactJacobianOf", spec := "fnExactJacobianOf", unfollowed := true, recurses := true, plainKeys := false, apart := false }
def FnExactJacobianOfSaid : Prop := fnExactJacobianOfRow.holds Try.pinned (OpenSpec.ofChange fnExactJacobianOfSpec)

/-- ITS FALSE NEIGHBOUR: 'it returns false'. Refute it at one input. -/
def fnExactJacobianOfWrong : ChangeSpec := { name := "fnExactJacobianOf", fn := fun _ => fun
  | [d] => { results := [.lit (.bool false)], args := [d] }
  | _ => none }
def FnExactJacobianOfWrongFalsely : Prop := fnExactJacobianOfRow.holds Try.pinned (OpenSpec.ofChange fnExactJacobianOfWrong)

/-- 'laws.FnExactDicksonInvariant': WHATEVER THE INPUT: true; the input reads as it did. -/
def fnExactDicksonInvariantSpec : ChangeSpec := { name := "fnExactDicksonInvariant", fn := fun _ => fun
  | [d1, d2, d3] => { results := [.lit (.bool true)], args := [d1, d2, d3] }
  | _ => none }
def fnExactDicksonInvariantRow : OpenClaim := { program := "ytphgpadpffigjaa", sum := "31f27a9c988bd9e37e88c05a7954f475f586bd2b3919ee7bd4628e77f82b8e4e", func := "loop.example/g01285/laws.FnExactDicksonInvariant", spec := "fnExactDicksonInvariant", unfollowed := true, recurses := true, plainKeys := false, apart := false }
def FnExactDicksonInvariantSaid : Prop := fnExactDicksonInvariantRow.holds Try.pinned (OpenSpec.ofChange fnExactDicksonInvariantSpec)

/-- ITS FALSE NEIGHBOUR: 'it returns false'. Refute it at one input. -/
def fnExactDicksonInvariantWrong : ChangeSpec := { name := "fnExactDicksonInvariant", fn := fun _ => fun
  | [d1, d2, d3] => { results := [.lit (.bool false)], args := [d1, d2, d3] }
  | _ => none }
def FnExactDicksonInvariantWrongFalsely : Prop := fnExactDicksonInvariantRow.holds Try.pinned (OpenSpec.ofChange fnExactDicksonInvariantWrong)

/-- 'laws.FnExactIsSymmetric': WHATEVER THE INPUT: true; the input reads as it did. -/
def fnExactIsSymmetricSpec : ChangeSpec := { name := "fnExactIsSymmetric", fn := fun _ => fun
  | [d] => { results := [.lit (.bool true)], args := [d] }
  | _ => none }
def fnExactIsSymmetricRow : OpenClaim := { program := "ytphgpadpffigjaa", sum := "31f27a9c988bd9e37e88c05a7954f475f586bd2b3919ee7bd4628e77f82b8e4e", func := "loop.example/g01285/laws.FnExactIsSymmetric", spec := "fnExactIsSymmetric", unfollowed := true, recurses := true, plainKeys := false, apart := false }
def FnExactIsSymmetricSaid : Prop := fnExactIsSymmetricRow.holds Try.pinned (OpenSpec.ofChange fnExactIsSymmetricSpec)

/-- ITS FALSE NEIGHBOUR: 'it returns false'. Refute it at one input. -/
def fnExactIsSymmetricWrong : ChangeSpec := { name := "fnExactIsSymmetric", fn := fun _ => fun
  | [d] => { results := [.lit (.bool false)], args := [d] }
  | _ => none }
def FnExactIsSymmetricWrongFalsely : Prop := fnExactIsSymmetricRow.holds Try.pinned (OpenSpec.ofChange fnExactIsSymmetricWrong)

/-- 'laws.FnExactVandermondePoly': WHATEVER THE INPUT: true; the input reads as it did. -/
def fnExactVandermondePolySpec : ChangeSpec := { name := "fnExactVandermondePoly", fn := fun _ => fun
  | [d1, d2] => { results := [.lit (.bool true)], args := [d1, d2] }
  | _ => none }
def fnExactVandermondePolyRow : OpenClaim := { program := "ytphgpadpffigjaa", sum := "31f27a9c988bd9e37e88c05a7954f475f586bd2b3919ee7bd4628e77f82b8e4e", func := "loop.example/g01285/laws.FnExactVandermondePoly", spec := "fnExactVandermondePoly", unfollowed := true, recurses := true, plainKeys := false, apart := false }
def FnExactVandermondePolySaid : Prop := fnExactVandermondePolyRow.holds Try.pinned (OpenSpec.ofChange fnExactVandermondePolySpec)

/-- ITS FALSE NEIGHBOUR: 'it returns false'. Refute it at one input. -/
def fnExactVandermondePolyWrong : ChangeSpec := { name := "fnExactVandermondePoly", fn := fun _ => fun
  | [d1, d2] => { results := [.lit (.bool false)], args := [d1, d2] }
  | _ => none }
def FnExactVandermondePolyWrongFalsely : Prop := fnExactVandermondePolyRow.holds Try.pinned (OpenSpec.ofChange fnExactVandermondePolyWrong)

/-- 'laws.FnExactIsAlternating': WHATEVER THE INPUT: true; the input reads as it did. -/
def fnExactIsAlternatingSpec : ChangeSpec := { name := "fnExactIsAlternating", fn := fun _ => fun
  | [d] => { results := [.lit (.bool true)], args := [d] }
  | _ => none }
def fnExactIsAlternatingRow : OpenClaim := { program := "ytphgpadpffigjaa", sum := "31f27a9c988bd9e37e88c05a7954f475f586bd2b3919ee7bd4628e77f82b8e4e", func := "loop.example/g01285/laws.FnExactIsAlternating", spec := "fnExactIsAlternating", unfollowed := true, recurses := true, plainKeys := false, apart := false }
def FnExactIsAlternatingSaid : Prop := fnExactIsAlternatingRow.holds Try.pinned (OpenSpec.ofChange fnExactIsAlternatingSpec)

/-- ITS FALSE NEIGHBOUR: 'it returns false'. Refute it at one input. -/
def fnExactIsAlternatingWrong : ChangeSpec := { name := "fnExactIsAlternating", fn := fun _ => fun
  | [d] => { results := [.lit (.bool false)], args := [d] }
  | _ => none }
def FnExactIsAlternatingWrongFalsely : Prop := fnExactIsAlternatingRow.holds Try.pinned (OpenSpec.ofChange fnExactIsAlternatingWrong)

/- THE SECOND FORM. 'bulk': how many values and letters a reading holds, each counted each time it is reached (what is shared counts as often as it is met; a slice's spare places count too). A statement '..UptoSaid' is the law's where the arguments, and the package variables that the reading takes, are together of bulk at most 1048576: NARROWER than '..Said'. Prove '..Said' where nothing that the law and all that it calls make is longer than what came in: it says more and counts as full. Else prove '..UptoSaid'. A law counts once. -/
mutual
def uptoBulk {H : Type} : DataW H → Nat
  | .lit (.string bytes) => bytes.length + 1
  | .lit _ => 1
  | .nil => 1
  | .ptr d => uptoBulk d + 1
  | .slice elems spare => uptoBulkAll elems + uptoBulkAll spare + 1
  | .agg parts => uptoBulkAll parts + 1
  | .iface _ d => uptoBulk d + 1
  | .map entries => uptoBulkEntries entries + 1
  | .held _ => 1
def uptoBulkAll {H : Type} : List (DataW H) → Nat
  | [] => 0
  | d :: r => uptoBulk d + uptoBulkAll r
def uptoBulkEntries {H : Type} : List (Lit × DataW H) → Nat
  | [] => 0
  | x :: r => uptoBulkEntry x + uptoBulkEntries r
def uptoBulkEntry {H : Type} : Lit × DataW H → Nat
  | (.string bytes, d) => bytes.length + uptoBulk d + 1
  | (_, d) => uptoBulk d + 1
 end
def uptoSmall : (H : Type) → List (DataW H) → Bool := fun _ ds => decide (uptoBulkAll ds ≤ 1048576)
def OpenSpec.upto (s : _root_.Go.ChangeSpec) : _root_.Go.OpenSpec := { _root_.Go.OpenSpec.ofChange s with cond := some uptoSmall }

/-- 'laws.FnExactProductExponents', WHERE WHAT IT READS IS OF BULK AT MOST 1048576: true; the input reads as it did. -/
def fnExactProductExponentsUptoRow : OpenClaim := { program := "ytphgpadpffigjaa", sum := "31f27a9c988bd9e37e88c05a7954f475f586bd2b3919ee7bd4628e77f82b8e4e", func := "loop.example/g01285/laws.FnExactProductExponents", spec := "fnExactProductExponents", unfollowed := true, recurses := true, plainKeys := false, apart := false, narrowed := true }
def FnExactProductExponentsUptoSaid : Prop := fnExactProductExponentsUptoRow.holds Try.pinned (OpenSpec.upto fnExactProductExponentsSpec)

/-- 'laws.FnExactJacobianOf', WHERE WHAT IT READS IS OF BULK AT MOST 1048576: true; the input reads as it did. -/
def fnExactJacobianOfUptoRow : OpenClaim := { program := "ytphgpadpffigjaa", sum := "31f27a9c988bd9e37e88c05a7954f475f586bd2b3919ee7bd4628e77f82b8e4e", func := "loop.example/g01285/laws.FnExactJacobianOf", spec := "fnExactJacobianOf", unfollowed := true, recurses := true, plainKeys := false, apart := false, narrowed := true }
def FnExactJacobianOfUptoSaid : Prop := fnExactJacobianOfUptoRow.holds Try.pinned (OpenSpec.upto fnExactJacobianOfSpec)

/-- 'laws.FnExactDicksonInvariant', WHERE WHAT IT READS IS OF BULK AT MOST 1048576: true; the input reads as it did. -/
def fnExactDicksonInvariantUptoRow : OpenClaim := { program := "ytphgpadpffigjaa", sum := "31f27a9c988bd9e37e88c05a7954f475f586bd2b3919ee7bd4628e77f82b8e4e", func := "loop.example/g01285/laws.FnExactDicksonInvariant", spec := "fnExactDicksonInvariant", unfollowed := true, recurses := true, plainKeys := false, apart := false, narrowed := true }
def FnExactDicksonInvariantUptoSaid : Prop := fnExactDicksonInvariantUptoRow.holds Try.pinned (OpenSpec.upto fnExactDicksonInvariantSpec)

/-- 'laws.FnExactIsSymmetric', WHERE WHAT IT READS IS OF BULK AT MOST 1048576: true; the input reads as it did. -/
def fnExactIsSymmetricUptoRow : OpenClaim := { program := "ytphgpadpffigjaa", sum := "31f27a9c988bd9e37e88c05a7954f475f586bd2b3919ee7bd4628e77f82b8e4e", func := "loop.example/g01285/laws.FnExactIsSymmetric", spec := "fnExactIsSymmetric", unfollowed := true, recurses := true, plainKeys := false, apart := false, narrowed := true }
def FnExactIsSymmetricUptoSaid : Prop := fnExactIsSymmetricUptoRow.holds Try.pinned (OpenSpec.upto fnExactIsSymmetricSpec)

/-- 'laws.FnExactVandermondePoly', WHERE WHAT IT READS IS OF BULK AT MOST 1048576: true; the input reads as it did. -/
def fnExactVandermondePolyUptoRow : OpenClaim := { program := "ytphgpadpffigjaa", sum := "31f27a9c988bd9e37e88c05a7954f475f586bd2b3919ee7bd4628e77f82b8e4e", func := "loop.example/g01285/laws.FnExactVandermondePoly", spec := "fnExactVandermondePoly", unfollowed := true, recurses := true, plainKeys := false, apart := false, narrowed := true }
def FnExactVandermondePolyUptoSaid : Prop := fnExactVandermondePolyUptoRow.holds Try.pinned (OpenSpec.upto fnExactVandermondePolySpec)

/-- 'laws.FnExactIsAlternating', WHERE WHAT IT READS IS OF BULK AT MOST 1048576: true; the input reads as it did. -/
def fnExactIsAlternatingUptoRow : OpenClaim := { program := "ytphgpadpffigjaa", sum := "31f27a9c988bd9e37e88c05a7954f475f586bd2b3919ee7bd4628e77f82b8e4e", func := "loop.example/g01285/laws.FnExactIsAlternating", spec := "fnExactIsAlternating", unfollowed := true, recurses := true, plainKeys := false, apart := false, narrowed := true }
def FnExactIsAlternatingUptoSaid : Prop := fnExactIsAlternatingUptoRow.holds Try.pinned (OpenSpec.upto fnExactIsAlternatingSpec)

end Rows
end Go.Proofs.Ytphgpadpffigjaa
