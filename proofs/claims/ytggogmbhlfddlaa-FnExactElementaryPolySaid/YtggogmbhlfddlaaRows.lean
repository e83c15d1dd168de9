/-
  No cell of these rows narrows 'for every input' (looked for: loops, veiled, ifaces, maps, wideKeys, modest, calm, conditions, laid).
  DERIVED. THE GIVEN ROWS OF THIS SEAT. 9 by the template 'for every input the law returns true; each argument reads behind the call as it read before'; 0 by the template 'total and deterministic' (their statements: YtggogmbhlfddlaaTotals.lean).
  GIVEN WITH THE SEED: the statements are not yours to turn. If you find one false, say at which input.
  Laid BY PROGRAM, IN A SANDBOX (cutbox-rows.mjs): the forced cells as the released guide's own fill.sh prints them over the translation 286cfc7a5af1d7d0… (all of the seat's roots in one cut). By AI agents, Wed Nov 11 2026. No macro, syntax, notation, axiom, sorry.
-/
import Derived.Test.YtggogmbhlfddlaaChecked
import GoSem.Claim
import GoSem.ClaimJoined
import GoSem.ClaimMapViews
import Derived.JoinedTies
import Derived.KernelRfl
namespace Go.Proofs.Ytggogmbhlfddlaa
/- THE CELL 'sum', in the pinned program and in every row, IS THE sha256 OF THE DUMP (.gsa) THAT YtggogmbhlfddlaaProg.lean LOADS. Nothing in Lean hashes anything: it is a label: what it is worth is what the hold of that sum in a sandbox is worth. -/
noncomputable def Try.pinned : Pinned := { name := "ytggogmbhlfddlaa", sum := "286cfc7a5af1d7d0d76b7fcfc4b49fafd8a32c68294b2ce43995072decbeca9b", checked := Try.checked }
namespace Rows
def none {H : Type} : Left H := { results := [], args := [] }

/-- 'laws.FnExactReduceRows': WHATEVER THE INPUT: true; the input reads as it did. -/
def fnExactReduceRowsSpec : ChangeSpec := { name := "fnExactReduceRows", fn := fun _ => fun
  | [d1, d2, d3] => { results := [.lit (.bool true)], args := [d1, d2, d3] }
  | _ => none }
def fnExactReduceRowsRow : OpenClaim := { program := "ytggogmbhlfddlaa", sum := "286cfc7a5af1d7d0d76b7fcfc4b49fafd8a32c68294b2ce43995072decbeca9b", func := "loop.example/g01285/laws.FnExactReduceRows", spec := "fnExactReduceRows", unfollowed := true, recurses := true, plainKeys := false, apart := false }
def FnExactReduceRowsSaid : Prop := fnExactReduceRowsRow.holds Try.pinned (OpenSpec.ofChange fnExactReduceRowsSpec)

/-- ITS FALSE NEIGHBOUR: 'it returns false'. Refute it at one input. -/
def fnExactReduceRowsWrong : ChangeSpec := { name := "fnExactReduceRows", fn := fun _ => fun
  | [d1, d2, d3] => { results := [.lit (.bool false)], args := [d1, d2, d3] }
  | _ => none }
def FnExactReduceRowsWrongFalsely : Prop := fnExactReduceRowsRow.holds Try.pinned (OpenSpec.ofChange fnExactReduceRowsWrong)

/-- 'laws.FnExactProductExponents': WHATEVER THE INPUT: true; the input reads as it did. -/
def fnExactProductExponentsSpec : ChangeSpec := { name := "fnExactProductExponents", fn := fun _ => fun
  | [d1, d2] => { results := [.lit (.bool true)], args := [d1, d2] }
  | _ => none }
def fnExactProductExponentsRow : OpenClaim := { program := "ytggogmbhlfddlaa", sum := "286cfc7a5af1d7d0d76b7fcfc4b49fafd8a32c68294b2ce43995072decbeca9b", func := "loop.example/g01285/laws.FnExactProductExponents", spec := "fnExactProductExponents", unfollowed := true, recurses := true, plainKeys := false, apart := false }
def FnExactProductExponentsSaid : Prop := fnExactProductExponentsRow.holds Try.pinned (OpenSpec.ofChange fnExactProductExponentsSpec)

/-- ITS FALSE NEIGHBOUR: 'it returns false'. Refute it at one input. -/
def fnExactProductExponentsWrong : ChangeSpec := { name := "fnExactProductExponents", fn := fun _ => fun
  | [d1, d2] => { results := [.lit (.bool false)], args := [d1, d2] }
  | _ => none }
def FnExactProductExponentsWrongFalsely : Prop := fnExactProductExponentsRow.holds Try.pinned (OpenSpec.ofChange fnExactProductExponentsWrong)

/-- 'laws.FnExactPartitionsOf': WHATEVER THE INPUT: true; the input reads as it did. -/
def fnExactPartitionsOfSpec : ChangeSpec := { name := "fnExactPartitionsOf", fn := fun _ => fun
  | [d1, d2] => { results := [.lit (.bool true)], args := [d1, d2] }
  | _ => none }
def fnExactPartitionsOfRow : OpenClaim := { program := "ytggogmbhlfddlaa", sum := "286cfc7a5af1d7d0d76b7fcfc4b49fafd8a32c68294b2ce43995072decbeca9b", func := "loop.example/g01285/laws.FnExactPartitionsOf", spec := "fnExactPartitionsOf", unfollowed := true, recurses := true, plainKeys := false, apart := false }
def FnExactPartitionsOfSaid : Prop := fnExactPartitionsOfRow.holds Try.pinned (OpenSpec.ofChange fnExactPartitionsOfSpec)

/-- ITS FALSE NEIGHBOUR: 'it returns false'. Refute it at one input. -/
def fnExactPartitionsOfWrong : ChangeSpec := { name := "fnExactPartitionsOf", fn := fun _ => fun
  | [d1, d2] => { results := [.lit (.bool false)], args := [d1, d2] }
  | _ => none }
def FnExactPartitionsOfWrongFalsely : Prop := fnExactPartitionsOfRow.holds Try.pinned (OpenSpec.ofChange fnExactPartitionsOfWrong)

/-- 'laws.FnExactMonomialSum': WHATEVER THE INPUT: true; the input reads as it did. -/
def fnExactMonomialSumSpec : ChangeSpec := { name := "fnExactMonomialSum", fn := fun _ => fun
  | [d1, d2] => { results := [.lit (.bool true)], args := [d1, d2] }
  | _ => none }
def fnExactMonomialSumRow : OpenClaim := { program := "ytggogmbhlfddlaa", sum := "286cfc7a5af1d7d0d76b7fcfc4b49fafd8a32c68294b2ce43995072decbeca9b", func := "loop.example/g01285/laws.FnExactMonomialSum", spec := "fnExactMonomialSum", unfollowed := true, recurses := true, plainKeys := false, apart := false }
def FnExactMonomialSumSaid : Prop := fnExactMonomialSumRow.holds Try.pinned (OpenSpec.ofChange fnExactMonomialSumSpec)

/-- ITS FALSE NEIGHBOUR: 'it returns false'. Refute it at one input. -/
def fnExactMonomialSumWrong : ChangeSpec := { name := "fnExactMonomialSum", fn := fun _ => fun
  | [d1, d2] => { results := [.lit (.bool false)], args := [d1, d2] }
  | _ => none }
def FnExactMonomialSumWrongFalsely : Prop := fnExactMonomialSumRow.holds Try.pinned (OpenSpec.ofChange fnExactMonomialSumWrong)

/-- 'laws.FnExactElementaryPoly': WHATEVER THE INPUT: true; the input reads as it did. -/
def fnExactElementaryPolySpec : ChangeSpec := { name := "fnExactElementaryPoly", fn := fun _ => fun
  | [d1, d2, d3] => { results := [.lit (.bool true)], args := [d1, d2, d3] }
  | _ => none }
def fnExactElementaryPolyRow : OpenClaim := { program := "ytggogmbhlfddlaa", sum := "286cfc7a5af1d7d0d76b7fcfc4b49fafd8a32c68294b2ce43995072decbeca9b", func := "loop.example/g01285/laws.FnExactElementaryPoly", spec := "fnExactElementaryPoly", unfollowed := true, recurses := true, plainKeys := false, apart := false }
def FnExactElementaryPolySaid : Prop := fnExactElementaryPolyRow.holds Try.pinned (OpenSpec.ofChange fnExactElementaryPolySpec)

/-- ITS FALSE NEIGHBOUR: 'it returns false'. Refute it at one input. -/
def fnExactElementaryPolyWrong : ChangeSpec := { name := "fnExactElementaryPoly", fn := fun _ => fun
  | [d1, d2, d3] => { results := [.lit (.bool false)], args := [d1, d2, d3] }
  | _ => none }
def FnExactElementaryPolyWrongFalsely : Prop := fnExactElementaryPolyRow.holds Try.pinned (OpenSpec.ofChange fnExactElementaryPolyWrong)

/-- 'laws.FnExactCompletePoly': WHATEVER THE INPUT: true; the input reads as it did. -/
def fnExactCompletePolySpec : ChangeSpec := { name := "fnExactCompletePoly", fn := fun _ => fun
  | [d1, d2, d3] => { results := [.lit (.bool true)], args := [d1, d2, d3] }
  | _ => none }
def fnExactCompletePolyRow : OpenClaim := { program := "ytggogmbhlfddlaa", sum := "286cfc7a5af1d7d0d76b7fcfc4b49fafd8a32c68294b2ce43995072decbeca9b", func := "loop.example/g01285/laws.FnExactCompletePoly", spec := "fnExactCompletePoly", unfollowed := true, recurses := true, plainKeys := false, apart := false }
def FnExactCompletePolySaid : Prop := fnExactCompletePolyRow.holds Try.pinned (OpenSpec.ofChange fnExactCompletePolySpec)

/-- ITS FALSE NEIGHBOUR: 'it returns false'. Refute it at one input. -/
def fnExactCompletePolyWrong : ChangeSpec := { name := "fnExactCompletePoly", fn := fun _ => fun
  | [d1, d2, d3] => { results := [.lit (.bool false)], args := [d1, d2, d3] }
  | _ => none }
def FnExactCompletePolyWrongFalsely : Prop := fnExactCompletePolyRow.holds Try.pinned (OpenSpec.ofChange fnExactCompletePolyWrong)

/-- 'laws.FnExactPowerSumPoly': WHATEVER THE INPUT: true; the input reads as it did. -/
def fnExactPowerSumPolySpec : ChangeSpec := { name := "fnExactPowerSumPoly", fn := fun _ => fun
  | [d1, d2, d3] => { results := [.lit (.bool true)], args := [d1, d2, d3] }
  | _ => none }
def fnExactPowerSumPolyRow : OpenClaim := { program := "ytggogmbhlfddlaa", sum := "286cfc7a5af1d7d0d76b7fcfc4b49fafd8a32c68294b2ce43995072decbeca9b", func := "loop.example/g01285/laws.FnExactPowerSumPoly", spec := "fnExactPowerSumPoly", unfollowed := true, recurses := true, plainKeys := false, apart := false }
def FnExactPowerSumPolySaid : Prop := fnExactPowerSumPolyRow.holds Try.pinned (OpenSpec.ofChange fnExactPowerSumPolySpec)

/-- ITS FALSE NEIGHBOUR: 'it returns false'. Refute it at one input. -/
def fnExactPowerSumPolyWrong : ChangeSpec := { name := "fnExactPowerSumPoly", fn := fun _ => fun
  | [d1, d2, d3] => { results := [.lit (.bool false)], args := [d1, d2, d3] }
  | _ => none }
def FnExactPowerSumPolyWrongFalsely : Prop := fnExactPowerSumPolyRow.holds Try.pinned (OpenSpec.ofChange fnExactPowerSumPolyWrong)

/-- 'laws.FnExactIsSymmetric': WHATEVER THE INPUT: true; the input reads as it did. -/
def fnExactIsSymmetricSpec : ChangeSpec := { name := "fnExactIsSymmetric", fn := fun _ => fun
  | [d] => { results := [.lit (.bool true)], args := [d] }
  | _ => none }
def fnExactIsSymmetricRow : OpenClaim := { program := "ytggogmbhlfddlaa", sum := "286cfc7a5af1d7d0d76b7fcfc4b49fafd8a32c68294b2ce43995072decbeca9b", func := "loop.example/g01285/laws.FnExactIsSymmetric", spec := "fnExactIsSymmetric", unfollowed := true, recurses := true, plainKeys := false, apart := false }
def FnExactIsSymmetricSaid : Prop := fnExactIsSymmetricRow.holds Try.pinned (OpenSpec.ofChange fnExactIsSymmetricSpec)

/-- ITS FALSE NEIGHBOUR: 'it returns false'. Refute it at one input. -/
def fnExactIsSymmetricWrong : ChangeSpec := { name := "fnExactIsSymmetric", fn := fun _ => fun
  | [d] => { results := [.lit (.bool false)], args := [d] }
  | _ => none }
def FnExactIsSymmetricWrongFalsely : Prop := fnExactIsSymmetricRow.holds Try.pinned (OpenSpec.ofChange fnExactIsSymmetricWrong)

/-- 'laws.FnExactVandermondePoly': WHATEVER THE INPUT: true; the input reads as it did. -/
def fnExactVandermondePolySpec : ChangeSpec := { name := "fnExactVandermondePoly", fn := fun _ => fun
  | [d1, d2] => { results := [.lit (.bool true)], args := [d1, d2] }
  | _ => none }
def fnExactVandermondePolyRow : OpenClaim := { program := "ytggogmbhlfddlaa", sum := "286cfc7a5af1d7d0d76b7fcfc4b49fafd8a32c68294b2ce43995072decbeca9b", func := "loop.example/g01285/laws.FnExactVandermondePoly", spec := "fnExactVandermondePoly", unfollowed := true, recurses := true, plainKeys := false, apart := false }
def FnExactVandermondePolySaid : Prop := fnExactVandermondePolyRow.holds Try.pinned (OpenSpec.ofChange fnExactVandermondePolySpec)

/-- ITS FALSE NEIGHBOUR: 'it returns false'. Refute it at one input. -/
def fnExactVandermondePolyWrong : ChangeSpec := { name := "fnExactVandermondePoly", fn := fun _ => fun
  | [d1, d2] => { results := [.lit (.bool false)], args := [d1, d2] }
  | _ => none }
def FnExactVandermondePolyWrongFalsely : Prop := fnExactVandermondePolyRow.holds Try.pinned (OpenSpec.ofChange fnExactVandermondePolyWrong)

/- THE SECOND FORM. 'bulk': how many values and letters a reading holds, each counted each time it is reached (what is shared counts as often as it is met; a slice's spare places count too). A statement '..UptoSaid' is the law's where the arguments, and the package variables that the reading takes, are together of bulk at most 1048576: NARROWER than '..Said'. Prove '..Said' where nothing that the law and all that it calls make is longer than what came in: it says more and counts as full. Else prove '..UptoSaid'. A law counts once. -/
mutual
def uptoBulk {H : Type} : DataW H → Nat
  | .lit (.string bytes) => bytes.length + 1
  | .lit _ => 1
  | .nil => 1
  | .ptr d => uptoBulk d + 1
  | .slice elems spare => uptoBulkAll elems + uptoBulkAll spare + 1
  | .agg parts => uptoBulkAll parts + 1
  | .iface _ d => uptoBulk d + 1
  | .map entries => uptoBulkEntries entries + 1
  | .held _ => 1
def uptoBulkAll {H : Type} : List (DataW H) → Nat
  | [] => 0
  | d :: r => uptoBulk d + uptoBulkAll r
def uptoBulkEntries {H : Type} : List (Lit × DataW H) → Nat
  | [] => 0
  | x :: r => uptoBulkEntry x + uptoBulkEntries r
def uptoBulkEntry {H : Type} : Lit × DataW H → Nat
  | (.string bytes, d) => bytes.length + uptoBulk d + 1
  | (_, d) => uptoBulk d + 1
 end
def uptoSmall : (H : Type) → List (DataW H) → Bool := fun _ ds => decide (uptoBulkAll ds ≤ 1048576)
def OpenSpec.upto (s : _root_.Go.ChangeSpec) : _root_.Go.OpenSpec := { _root_.Go.OpenSpec.ofChange s with cond := some uptoSmall }

/-- 'laws.FnExactReduceRows', WHERE WHAT IT READS IS OF BULK AT MOST 1048576: true; the input reads as it did. -/
def fnExactReduceRowsUptoRow : OpenClaim := { program := "ytggogmbhlfddlaa", sum := "286cfc7a5af1d7d0d76b7fcfc4b49fafd8a32c68294b2ce43995072decbeca9b", func := "loop.example/g01285/laws.FnExactReduceRows", spec := "fnExactReduceRows", unfollowed := true, recurses := true, plainKeys := false, apart := false, narrowed := true }
def FnExactReduceRowsUptoSaid : Prop := fnExactReduceRowsUptoRow.holds Try.pinned (OpenSpec.upto fnExactReduceRowsSpec)

/-- 'laws.FnExactProductExponents', WHERE WHAT IT READS IS OF BULK AT MOST 1048576: true; the input reads as it did. -/
def fnExactProductExponentsUptoRow : OpenClaim := { program := "ytggogmbhlfddlaa", sum := "286cfc7a5af1d7d0d76b7fcfc4b49fafd8a32c68294b2ce43995072decbeca9b", func := "loop.example/g01285/laws.FnExactProductExponents", spec := "fnExactProductExponents", unfollowed := true, recurses := true, plainKeys := false, apart := false, narrowed := true }
def FnExactProductExponentsUptoSaid : Prop := fnExactProductExponentsUptoRow.holds Try.pinned (OpenSpec.upto fnExactProductExponentsSpec)

/-- 'laws.FnExactPartitionsOf', WHERE WHAT IT READS IS OF BULK AT MOST 1048576: true; the input reads as it did. -/
def fnExactPartitionsOfUptoRow : OpenClaim := { program := "ytggogmbhlfddlaa", sum := "286cfc7a5af1d7d0d76b7fcfc4b49fafd8a32c68294b2ce43995072decbeca9b", func := "loop.example/g01285/laws.FnExactPartitionsOf", spec := "fnExactPartitionsOf", unfollowed := true, recurses := true, plainKeys := false, apart := false, narrowed := true }
def FnExactPartitionsOfUptoSaid : Prop := fnExactPartitionsOfUptoRow.holds Try.pinned (OpenSpec.upto fnExactPartitionsOfSpec)

/-- 'laws.FnExactMonomialSum', WHERE WHAT IT READS IS OF BULK AT MOST 1048576: true; the input reads as it did. -/
def fnExactMonomialSumUptoRow : OpenClaim := { program := "ytggogmbhlfddlaa", sum := "286cfc7a5af1d7d0d76b7fcfc4b49fafd8a32c68294b2ce43995072decbeca9b", func := "loop.example/g01285/laws.FnExactMonomialSum", spec := "fnExactMonomialSum", unfollowed := true, recurses := true, plainKeys := false, apart := false, narrowed := true }
def FnExactMonomialSumUptoSaid : Prop := fnExactMonomialSumUptoRow.holds Try.pinned (OpenSpec.upto fnExactMonomialSumSpec)

/-- 'laws.FnExactElementaryPoly', WHERE WHAT IT READS IS OF BULK AT MOST 1048576: true; the input reads as it did. -/
def fnExactElementaryPolyUptoRow : OpenClaim := { program := "ytggogmbhlfddlaa", sum := "286cfc7a5af1d7d0d76b7fcfc4b49fafd8a32c68294b2ce43995072decbeca9b", func := "loop.example/g01285/laws.FnExactElementaryPoly", spec := "fnExactElementaryPoly", unfollowed := true, recurses := true, plainKeys := false, apart := false, narrowed := true }
def FnExactElementaryPolyUptoSaid : Prop := fnExactElementaryPolyUptoRow.holds Try.pinned (OpenSpec.upto fnExactElementaryPolySpec)

/-- 'laws.FnExactCompletePoly', WHERE WHAT IT READS IS OF BULK AT MOST 1048576: true; the input reads as it did. -/
def fnExactCompletePolyUptoRow : OpenClaim := { program := "ytggogmbhlfddlaa", sum := "286cfc7a5af1d7d0d76b7fcfc4b49fafd8a32c68294b2ce43995072decbeca9b", func := "loop.example/g01285/laws.FnExactCompletePoly", spec := "fnExactCompletePoly", unfollowed := true, recurses := true, plainKeys := false, apart := false, narrowed := true }
def FnExactCompletePolyUptoSaid : Prop := fnExactCompletePolyUptoRow.holds Try.pinned (OpenSpec.upto fnExactCompletePolySpec)

/-- 'laws.FnExactPowerSumPoly', WHERE WHAT IT READS IS OF BULK AT MOST 1048576: true; the input reads as it did. -/
def fnExactPowerSumPolyUptoRow : OpenClaim := { program := "ytggogmbhlfddlaa", sum := "286cfc7a5af1d7d0d76b7fcfc4b49fafd8a32c68294b2ce43995072decbeca9b", func := "loop.example/g01285/laws.FnExactPowerSumPoly", spec := "fnExactPowerSumPoly", unfollowed := true, recurses := true, plainKeys := false, apart := false, narrowed := true }
def FnExactPowerSumPolyUptoSaid : Prop := fnExactPowerSumPolyUptoRow.holds Try.pinned (OpenSpec.upto fnExactPowerSumPolySpec)

/-- 'laws.FnExactIsSymmetric', WHERE WHAT IT READS IS OF BULK AT MOST 1048576: true; the input reads as it did. -/
def fnExactIsSymmetricUptoRow : OpenClaim := { program := "ytggogmbhlfddlaa", sum := "286cfc7a5af1d7d0d76b7fcfc4b49fafd8a32c68294b2ce43995072decbeca9b", func := "loop.example/g01285/laws.FnExactIsSymmetric", spec := "fnExactIsSymmetric", unfollowed := true, recurses := true, plainKeys := false, apart := false, narrowed := true }
def FnExactIsSymmetricUptoSaid : Prop := fnExactIsSymmetricUptoRow.holds Try.pinned (OpenSpec.upto fnExactIsSymmetricSpec)

/-- 'laws.FnExactVandermondePoly', WHERE WHAT IT READS IS OF BULK AT MOST 1048576: true; the input reads as it did. -/
def fnExactVandermondePolyUptoRow : OpenClaim := { program := "ytggogmbhlfddlaa", sum := "286cfc7a5af1d7d0d76b7fcfc4b49fafd8a32c68294b2ce43995072decbeca9b", func := "loop.example/g01285/laws.FnExactVandermondePoly", spec := "fnExactVandermondePoly", unfollowed := true, recurses := true, plainKeys := false, apart := false, narrowed := true }
def FnExactVandermondePolyUptoSaid : Prop := fnExactVandermondePolyUptoRow.holds Try.pinned (OpenSpec.upto fnExactVandermondePolySpec)

end Rows
end Go.Proofs.Ytggogmbhlfddlaa
