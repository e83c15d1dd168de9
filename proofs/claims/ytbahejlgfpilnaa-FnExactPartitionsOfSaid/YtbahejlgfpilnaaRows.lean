/-
  No cell of these rows narrows 'for every input' (looked for: loops, veiled, ifaces, maps, wideKeys, modest, calm, conditions, laid).
  DERIVED. THE GIVEN ROWS OF THIS SEAT. 11 by the template 'for every input the law returns true; each argument reads behind the call as it read before'; 0 by the template 'total and deterministic' (their statements: YtbahejlgfpilnaaTotals.lean).
  GIVEN WITH THE SEED: the statements are not yours to turn. If you find one false, say at which input.
  Laid BY PROGRAM, IN A SANDBOX (cutbox-rows.mjs): the forced cells as the released guide's own fill.sh prints them over the translation ce046f25b9a4fc04… (all of the seat's roots in one cut). By AI agents, Wed Nov 11 2026. No macro, syntax, notation, axiom, sorry.
-/
import Derived.Test.YtbahejlgfpilnaaChecked
import GoSem.Claim
import GoSem.ClaimJoined
import GoSem.ClaimMapViews
import Derived.JoinedTies
import Derived.KernelRfl
namespace Go.Proofs.Ytbahejlgfpilnaa
/- THE CELL 'sum', in the pinned program and in every row, IS THE sha256 OF THE DUMP (.gsa) THAT YtbahejlgfpilnaaProg.lean LOADS. Nothing in Lean hashes anything: it is a label: what it is worth is what the hold of that sum in a sandbox is worth. -/
noncomputable def Try.pinned : Pinned := { name := "ytbahejlgfpilnaa", sum := "ce046f25b9a4fc04c9ef472e8d5c323e902cebadf790e37ef4fbd2ea8e8bdbf5", checked := Try.checked }
namespace Rows
def none {H : Type} : Left H := { results := [], args := [] }

/-- 'laws.FnExactProductExponents': WHATEVER THE INPUT: true; the input reads as it did. -/
def fnExactProductExponentsSpec : ChangeSpec := { name := "fnExactProductExponents", fn := fun _ => fun
  | [d1, d2] => { results := [.lit (.bool true)], args := [d1, d2] }
  | _ => none }
def fnExactProductExponentsRow : OpenClaim := { program := "ytbahejlgfpilnaa", sum := "ce046f25b9a4fc04c9ef472e8d5c323e902cebadf790e37ef4fbd2ea8e8bdbf5", func := "loop.example/g01285/laws.FnExactProductExponents", spec := "fnExactProductExponents", unfollowed := true, recurses := true, plainKeys := false, apart := false }
def FnExactProductExponentsSaid : Prop := fnExactProductExponentsRow.holds Try.pinned (OpenSpec.ofChange fnExactProductExponentsSpec)

/-- ITS FALSE NEIGHBOUR: 'it returns false'. Refute it at one input. -/
def fnExactProductExponentsWrong : ChangeSpec := { name := "fnExactProductExponents", fn := fun _ => fun
  | [d1, d2] => { results := [.lit (.bool false)], args := [d1, d2] }
  | _ => none }
def FnExactProductExponentsWrongFalsely : Prop := fnExactProductExponentsRow.holds Try.pinned (OpenSpec.ofChange fnExactProductExponentsWrong)

/-- 'laws.FnExactMirrorOf': WHATEVER THE INPUT: true; the input reads as it did. -/
def fnExactMirrorOfSpec : ChangeSpec := { name := "fnExactMirrorOf", fn := fun _ => fun
  | [d1, d2, d3] => { results := [.lit (.bool true)], args := [d1, d2, d3] }
  | _ => none }
def fnExactMirrorOfRow : OpenClaim := { program := "ytbahejlgfpilnaa", sum := "ce046f25b9a4fc04c9ef472e8d5c323e902cebadf790e37ef4fbd2ea8e8bdbf5", func := "loop.example/g01285/laws.FnExactMirrorOf", spec := "fnExactMirrorOf", unfollowed := true, recurses := true, plainKeys := false, apart := false }
def FnExactMirrorOfSaid : Prop := fnExactMirrorOfRow.holds Try.pinned (OpenSpec.ofChange fnExactMirrorOfSpec)

/-- ITS FALSE NEIGHBOUR: 'it returns false'. Refute it at one input. -/
def fnExactMirrorOfWrong : ChangeSpec := { name := "fnExactMirrorOf", fn := fun _ => fun
  | [d1, d2, d3] => { results := [.lit (.bool false)], args := [d1, d2, d3] }
  | _ => none }
def FnExactMirrorOfWrongFalsely : Prop := fnExactMirrorOfRow.holds Try.pinned (OpenSpec.ofChange fnExactMirrorOfWrong)

/-- 'laws.FnExactJacobianOf': WHATEVER THE INPUT: true; the input reads as it did. -/
def fnExactJacobianOfSpec : ChangeSpec := { name := "fnExactJacobianOf", fn := fun _ => fun
  | [d] => { results := [.lit (.bool true)], args := [d] }
  | _ => none }
def fnExactJacobianOfRow : OpenClaim := { program := "ytbahejlgfpilnaa", sum := "ce046f25b9a4fc04c9ef472e8d5c323e902cebadf790e37ef4fbd2ea8e8bdbf5", func := "loop.example/g01285/laws.FnExactJacobianOf", spec := "fnExactJacobianOf", unfollowed := true, recurses := true, plainKeys := false, apart := false }
def FnExactJacobianOfSaid : Prop := fnExactJacobianOfRow.holds Try.pinned (OpenSpec.ofChange fnExactJacobianOfSpec)

/-- ITS FALSE NEIGHBOUR: 'it returns false'. Refute it at one input. -/
def fnExactJacobianOfWrong : ChangeSpec := { name := "fnExactJacobianOf", fn := fun _ => fun
  | [d] => { results := [.lit (.bool false)], args := [d] }
  | _ => none }
def FnExactJacobianOfWrongFalsely : Prop := fnExactJacobianOfRow.holds Try.pinned (OpenSpec.ofChange fnExactJacobianOfWrong)

/-- 'laws.FnExactDicksonInvariant': WHATEVER THE INPUT: true; the input reads as it did. -/
def fnExactDicksonInvariantSpec : ChangeSpec := { name := "fnExactDicksonInvariant", fn := fun _ => fun
  | [d1, d2, d3] => { results := [.lit (.bool true)], args := [d1, d2, d3] }
  | _ => none }
def fnExactDicksonInvariantRow : OpenClaim := { program := "ytbahejlgfpilnaa", sum := "ce046f25b9a4fc04c9ef472e8d5c323e902cebadf790e37ef4fbd2ea8e8bdbf5", func := "loop.example/g01285/laws.FnExactDicksonInvariant", spec := "fnExactDicksonInvariant", unfollowed := true, recurses := true, plainKeys := false, apart := false }
def FnExactDicksonInvariantSaid : Prop := fnExactDicksonInvariantRow.holds Try.pinned (OpenSpec.ofChange fnExactDicksonInvariantSpec)

/-- ITS FALSE NEIGHBOUR: 'it returns false'. Refute it at one input. -/
def fnExactDicksonInvariantWrong : ChangeSpec := { name := "fnExactDicksonInvariant", fn := fun _ => fun
  | [d1, d2, d3] => { results := [.lit (.bool false)], args := [d1, d2, d3] }
  | _ => none }
def FnExactDicksonInvariantWrongFalsely : Prop := fnExactDicksonInvariantRow.holds Try.pinned (OpenSpec.ofChange fnExactDicksonInvariantWrong)

/-- 'laws.FnExactPartitionsOf': WHATEVER THE INPUT: true; the input reads as it did. -/
def fnExactPartitionsOfSpec : ChangeSpec := { name := "fnExactPartitionsOf", fn := fun _ => fun
  | [d1, d2] => { results := [.lit (.bool true)], args := [d1, d2] }
  | _ => none }
def fnExactPartitionsOfRow : OpenClaim := { program := "ytbahejlgfpilnaa", sum := "ce046f25b9a4fc04c9ef472e8d5c323e902cebadf790e37ef4fbd2ea8e8bdbf5", func := "loop.example/g01285/laws.FnExactPartitionsOf", spec := "fnExactPartitionsOf", unfollowed := true, recurses := true, plainKeys := false, apart := false }
def FnExactPartitionsOfSaid : Prop := fnExactPartitionsOfRow.holds Try.pinned (OpenSpec.ofChange fnExactPartitionsOfSpec)

/-- ITS FALSE NEIGHBOUR: 'it returns false'. Refute it at one input. -/
def fnExactPartitionsOfWrong : ChangeSpec := { name := "fnExactPartitionsOf", fn := fun _ => fun
  | [d1, d2] => { results := [.lit (.bool false)], args := [d1, d2] }
  | _ => none }
def FnExactPartitionsOfWrongFalsely : Prop := fnExactPartitionsOfRow.holds Try.pinned (OpenSpec.ofChange fnExactPartitionsOfWrong)

/-- 'laws.FnExactMonomialSum': WHATEVER THE INPUT: true; the input reads as it did. -/
def fnExactMonomialSumSpec : ChangeSpec := { name := "fnExactMonomialSum", fn := fun _ => fun
  | [d1, d2] => { results := [.lit (.bool true)], args := [d1, d2] }
  | _ => none }
def fnExactMonomialSumRow : OpenClaim := { program := "ytbahejlgfpilnaa", sum := "ce046f25b9a4fc04c9ef472e8d5c323e902cebadf790e37ef4fbd2ea8e8bdbf5", func := "loop.example/g01285/laws.FnExactMonomialSum", spec := "fnExactMonomialSum", unfollowed := true, recurses := true, plainKeys := false, apart := false }
def FnExactMonomialSumSaid : Prop := fnExactMonomialSumRow.holds Try.pinned (OpenSpec.ofChange fnExactMonomialSumSpec)

/-- ITS FALSE NEIGHBOUR: 'it returns false'. Refute it at one input. -/
def fnExactMonomialSumWrong : ChangeSpec := { name := "fnExactMonomialSum", fn := fun _ => fun
  | [d1, d2] => { results := [.lit (.bool false)], args := [d1, d2] }
  | _ => none }
def FnExactMonomialSumWrongFalsely : Prop := fnExactMonomialSumRow.holds Try.pinned (OpenSpec.ofChange fnExactMonomialSumWrong)

/-- 'laws.FnExactIsSymmetric': WHATEVER THE INPUT: true; the input reads as it did. -/
def fnExactIsSymmetricSpec : ChangeSpec := { name := "fnExactIsSymmetric", fn := fun _ => fun
  | [d] => { results := [.lit (.bool true)], args := [d] }
  | _ => none }
def fnExactIsSymmetricRow : OpenClaim := { program := "ytbahejlgfpilnaa", sum := "ce046f25b9a4fc04c9ef472e8d5c323e902cebadf790e37ef4fbd2ea8e8bdbf5", func := "loop.example/g01285/laws.FnExactIsSymmetric", spec := "fnExactIsSymmetric", unfollowed := true, recurses := true, plainKeys := false, apart := false }
def FnExactIsSymmetricSaid : Prop := fnExactIsSymmetricRow.holds Try.pinned (OpenSpec.ofChange fnExactIsSymmetricSpec)

/-- ITS FALSE NEIGHBOUR: 'it returns false'. Refute it at one input. -/
def fnExactIsSymmetricWrong : ChangeSpec := { name := "fnExactIsSymmetric", fn := fun _ => fun
  | [d] => { results := [.lit (.bool false)], args := [d] }
  | _ => none }
def FnExactIsSymmetricWrongFalsely : Prop := fnExactIsSymmetricRow.holds Try.pinned (OpenSpec.ofChange fnExactIsSymmetricWrong)

/-- 'laws.FnExactSymmetricOf': WHATEVER THE INPUT: true; the input reads as it did. -/
def fnExactSymmetricOfSpec : ChangeSpec := { name := "fnExactSymmetricOf", fn := fun _ => fun
  | [d] => { results := [.lit (.bool true)], args := [d] }
  | _ => none }
def fnExactSymmetricOfRow : OpenClaim := { program := "ytbahejlgfpilnaa", sum := "ce046f25b9a4fc04c9ef472e8d5c323e902cebadf790e37ef4fbd2ea8e8bdbf5", func := "loop.example/g01285/laws.FnExactSymmetricOf", spec := "fnExactSymmetricOf", unfollowed := true, recurses := true, plainKeys := false, apart := false }
def FnExactSymmetricOfSaid : Prop := fnExactSymmetricOfRow.holds Try.pinned (OpenSpec.ofChange fnExactSymmetricOfSpec)

/-- ITS FALSE NEIGHBOUR: 'it returns false'. Refute it at one input. -/
def fnExactSymmetricOfWrong : ChangeSpec := { name := "fnExactSymmetricOf", fn := fun _ => fun
  | [d] => { results := [.lit (.bool false)], args := [d] }
  | _ => none }
def FnExactSymmetricOfWrongFalsely : Prop := fnExactSymmetricOfRow.holds Try.pinned (OpenSpec.ofChange fnExactSymmetricOfWrong)

/-- 'laws.FnExactVandermondePoly': WHATEVER THE INPUT: true; the input reads as it did. -/
def fnExactVandermondePolySpec : ChangeSpec := { name := "fnExactVandermondePoly", fn := fun _ => fun
  | [d1, d2] => { results := [.lit (.bool true)], args := [d1, d2] }
  | _ => none }
def fnExactVandermondePolyRow : OpenClaim := { program := "ytbahejlgfpilnaa", sum := "ce046f25b9a4fc04c9ef472e8d5c323e902cebadf790e37ef4fbd2ea8e8bdbf5", func := "loop.example/g01285/laws.FnExactVandermondePoly", spec := "fnExactVandermondePoly", unfollowed := true, recurses := true, plainKeys := false, apart := false }
def FnExactVandermondePolySaid : Prop := fnExactVandermondePolyRow.holds Try.pinned (OpenSpec.ofChange fnExactVandermondePolySpec)

/-- ITS FALSE NEIGHBOUR: 'it returns false'. Refute it at one input. -/
def fnExactVandermondePolyWrong : ChangeSpec := { name := "fnExactVandermondePoly", fn := fun _ => fun
  | [d1, d2] => { results := [.lit (.bool false)], args := [d1, d2] }
  | _ => none }
def FnExactVandermondePolyWrongFalsely : Prop := fnExactVandermondePolyRow.holds Try.pinned (OpenSpec.ofChange fnExactVandermondePolyWrong)

/-- 'laws.FnExactValuesOf': WHATEVER THE INPUT: true; the input reads as it did. -/
def fnExactValuesOfSpec : ChangeSpec := { name := "fnExactValuesOf", fn := fun _ => fun
  | [d1, d2] => { results := [.lit (.bool true)], args := [d1, d2] }
  | _ => none }
def fnExactValuesOfRow : OpenClaim := { program := "ytbahejlgfpilnaa", sum := "ce046f25b9a4fc04c9ef472e8d5c323e902cebadf790e37ef4fbd2ea8e8bdbf5", func := "loop.example/g01285/laws.FnExactValuesOf", spec := "fnExactValuesOf", unfollowed := true, recurses := true, plainKeys := false, apart := false }
def FnExactValuesOfSaid : Prop := fnExactValuesOfRow.holds Try.pinned (OpenSpec.ofChange fnExactValuesOfSpec)

/-- ITS FALSE NEIGHBOUR: 'it returns false'. Refute it at one input. -/
def fnExactValuesOfWrong : ChangeSpec := { name := "fnExactValuesOf", fn := fun _ => fun
  | [d1, d2] => { results := [.lit (.bool false)], args := [d1, d2] }
  | _ => none }
def FnExactValuesOfWrongFalsely : Prop := fnExactValuesOfRow.holds Try.pinned (OpenSpec.ofChange fnExactValuesOfWrong)

/-- 'laws.FnExactAreSameOrbits': WHATEVER THE INPUT: true; the input reads as it did. -/
def fnExactAreSameOrbitsSpec : ChangeSpec := { name := "fnExactAreSameOrbits", fn := fun _ => fun
  | [d1, d2, d3] => { results := [.lit (.bool true)], args := [d1, d2, d3] }
  | _ => none }
def fnExactAreSameOrbitsRow : OpenClaim := { program := "ytbahejlgfpilnaa", sum := "ce046f25b9a4fc04c9ef472e8d5c323e902cebadf790e37ef4fbd2ea8e8bdbf5", func := "loop.example/g01285/laws.FnExactAreSameOrbits", spec := "fnExactAreSameOrbits", unfollowed := true, recurses := true, plainKeys := false, apart := false }
def FnExactAreSameOrbitsSaid : Prop := fnExactAreSameOrbitsRow.holds Try.pinned (OpenSpec.ofChange fnExactAreSameOrbitsSpec)

/-- ITS FALSE NEIGHBOUR: 'it returns false'. Refute it at one input. -/
def fnExactAreSameOrbitsWrong : ChangeSpec := { name := "fnExactAreSameOrbits", fn := fun _ => fun
  | [d1, d2, d3] => { results := [.lit (.bool false)], args := [d1, d2, d3] }
  | _ => none }
def FnExactAreSameOrbitsWrongFalsely : Prop := fnExactAreSameOrbitsRow.holds Try.pinned (OpenSpec.ofChange fnExactAreSameOrbitsWrong)

/- THE SECOND FORM. 'bulk': how many values and letters a reading holds, each counted each time it is reached (what is shared counts as often as it is met; a slice's spare places count too). A statement '..UptoSaid' is the law's where the arguments, and the package variables that the reading takes, are together of bulk at most 1048576: NARROWER than '..Said'. Prove '..Said' where nothing that the law and all that it calls make is longer than what came in: it says more and counts as full. Else prove '..UptoSaid'. A law counts once. -/
mutual
def uptoBulk {H : Type} : DataW H → Nat
  | .lit (.string bytes) => bytes.length + 1
  | .lit _ => 1
  | .nil => 1
  | .ptr d => uptoBulk d + 1
  | .slice elems spare => uptoBulkAll elems + uptoBulkAll spare + 1
  | .agg parts => uptoBulkAll parts + 1
  | .iface _ d => uptoBulk d + 1
  | .map entries => uptoBulkEntries entries + 1
  | .held _ => 1
def uptoBulkAll {H : Type} : List (DataW H) → Nat
  | [] => 0
  | d :: r => uptoBulk d + uptoBulkAll r
def uptoBulkEntries {H : Type} : List (Lit × DataW H) → Nat
  | [] => 0
  | x :: r => uptoBulkEntry x + uptoBulkEntries r
def uptoBulkEntry {H : Type} : Lit × DataW H → Nat
  | (.string bytes, d) => bytes.length + uptoBulk d + 1
  | (_, d) => uptoBulk d + 1
 end
def uptoSmall : (H : Type) → List (DataW H) → Bool := fun _ ds => decide (uptoBulkAll ds ≤ 1048576)
def OpenSpec.upto (s : _root_.Go.ChangeSpec) : _root_.Go.OpenSpec := { _root_.Go.OpenSpec.ofChange s with cond := some uptoSmall }

/-- 'laws.FnExactProductExponents', WHERE WHAT IT READS IS OF BULK AT MOST 1048576: true; the input reads as it did. -/
def fnExactProductExponentsUptoRow : OpenClaim := { program := "ytbahejlgfpilnaa", sum := "ce046f25b9a4fc04c9ef472e8d5c323e902cebadf790e37ef4fbd2ea8e8bdbf5", func := "loop.example/g01285/laws.FnExactProductExponents", spec := "fnExactProductExponents", unfollowed := true, recurses := true, plainKeys := false, apart := false, narrowed := true }
def FnExactProductExponentsUptoSaid : Prop := fnExactProductExponentsUptoRow.holds Try.pinned (OpenSpec.upto fnExactProductExponentsSpec)

/-- 'laws.FnExactMirrorOf', WHERE WHAT IT READS IS OF BULK AT MOST 1048576: true; the input reads as it did. -/
def fnExactMirrorOfUptoRow : OpenClaim := { program := "ytbahejlgfpilnaa", sum := "ce046f25b9a4fc04c9ef472e8d5c323e902cebadf790e37ef4fbd2ea8e8bdbf5", func := "loop.example/g01285/laws.FnExactMirrorOf", spec := "fnExactMirrorOf", unfollowed := true, recurses := true, plainKeys := false, apart := false, narrowed := true }
def FnExactMirrorOfUptoSaid : Prop := fnExactMirrorOfUptoRow.holds Try.pinned (OpenSpec.upto fnExactMirrorOfSpec)

/-- 'laws.FnExactJacobianOf', WHERE WHAT IT READS IS OF BULK AT MOST 1048576: true; the input reads as it did. -/
def fnExactJacobianOfUptoRow : OpenClaim := { program := "ytbahejlgfpilnaa", sum := "ce046f25b9a4fc04c9ef472e8d5c323e902cebadf790e37ef4fbd2ea8e8bdbf5", func := "loop.example/g01285/laws.FnExactJacobianOf", spec := "fnExactJacobianOf", unfollowed := true, recurses := true, plainKeys := false, apart := false, narrowed := true }
def FnExactJacobianOfUptoSaid : Prop := fnExactJacobianOfUptoRow.holds Try.pinned (OpenSpec.upto fnExactJacobianOfSpec)

/-- 'laws.FnExactDicksonInvariant', WHERE WHAT IT READS IS OF BULK AT MOST 1048576: true; the input reads as it did. -/
def fnExactDicksonInvariantUptoRow : OpenClaim := { program := "ytbahejlgfpilnaa", sum := "ce046f25b9a4fc04c9ef472e8d5c323e902cebadf790e37ef4fbd2ea8e8bdbf5", func := "loop.example/g01285/laws.FnExactDicksonInvariant", spec := "fnExactDicksonInvariant", unfollowed := true, recurses := true, plainKeys := false, apart := false, narrowed := true }
def FnExactDicksonInvariantUptoSaid : Prop := fnExactDicksonInvariantUptoRow.holds Try.pinned (OpenSpec.upto fnExactDicksonInvariantSpec)

/-- 'laws.FnExactPartitionsOf', WHERE WHAT IT READS IS OF BULK AT MOST 1048576: true; the input reads as it did. -/
def fnExactPartitionsOfUptoRow : OpenClaim := { program := "ytbahejlgfpilnaa", sum := "ce046f25b9a4fc04c9ef472e8d5c323e902cebadf790e37ef4fbd2ea8e8bdbf5", func := "loop.example/g01285/laws.FnExactPartitionsOf", spec := "fnExactPartitionsOf", unfollowed := true, recurses := true, plainKeys := false, apart := false, narrowed := true }
def FnExactPartitionsOfUptoSaid : Prop := fnExactPartitionsOfUptoRow.holds Try.pinned (OpenSpec.upto fnExactPartitionsOfSpec)

/-- 'laws.FnExactMonomialSum', WHERE WHAT IT READS IS OF BULK AT MOST 1048576: true; the input reads as it did. -/
def fnExactMonomialSumUptoRow : OpenClaim := { program := "ytbahejlgfpilnaa", sum := "ce046f25b9a4fc04c9ef472e8d5c323e902cebadf790e37ef4fbd2ea8e8bdbf5", func := "loop.example/g01285/laws.FnExactMonomialSum", spec := "fnExactMonomialSum", unfollowed := true, recurses := true, plainKeys := false, apart := false, narrowed := true }
def FnExactMonomialSumUptoSaid : Prop := fnExactMonomialSumUptoRow.holds Try.pinned (OpenSpec.upto fnExactMonomialSumSpec)

/-- 'laws.FnExactIsSymmetric', WHERE WHAT IT READS IS OF BULK AT MOST 1048576: true; the input reads as it did. -/
def fnExactIsSymmetricUptoRow : OpenClaim := { program := "ytbahejlgfpilnaa", sum := "ce046f25b9a4fc04c9ef472e8d5c323e902cebadf790e37ef4fbd2ea8e8bdbf5", func := "loop.example/g01285/laws.FnExactIsSymmetric", spec := "fnExactIsSymmetric", unfollowed := true, recurses := true, plainKeys := false, apart := false, narrowed := true }
def FnExactIsSymmetricUptoSaid : Prop := fnExactIsSymmetricUptoRow.holds Try.pinned (OpenSpec.upto fnExactIsSymmetricSpec)

/-- 'laws.FnExactSymmetricOf', WHERE WHAT IT READS IS OF BULK AT MOST 1048576: true; the input reads as it did. -/
def fnExactSymmetricOfUptoRow : OpenClaim := { program := "ytbahejlgfpilnaa", sum := "ce046f25b9a4fc04c9ef472e8d5c323e902cebadf790e37ef4fbd2ea8e8bdbf5", func := "loop.example/g01285/laws.FnExactSymmetricOf", spec := "fnExactSymmetricOf", unfollowed := true, recurses := true, plainKeys := false, apart := false, narrowed := true }
def FnExactSymmetricOfUptoSaid : Prop := fnExactSymmetricOfUptoRow.holds Try.pinned (OpenSpec.upto fnExactSymmetricOfSpec)

/-- 'laws.FnExactVandermondePoly', WHERE WHAT IT READS IS OF BULK AT MOST 1048576: true; the input reads as it did. -/
def fnExactVandermondePolyUptoRow : OpenClaim := { program := "ytbahejlgfpilnaa", sum := "ce046f25b9a4fc04c9ef472e8d5c323e902cebadf790e37ef4fbd2ea8e8bdbf5", func := "loop.example/g01285/laws.FnExactVandermondePoly", spec := "fnExactVandermondePoly", unfollowed := true, recurses := true, plainKeys := false, apart := false, narrowed := true }
def FnExactVandermondePolyUptoSaid : Prop := fnExactVandermondePolyUptoRow.holds Try.pinned (OpenSpec.upto fnExactVandermondePolySpec)

/-- 'laws.FnExactValuesOf', WHERE WHAT IT READS IS OF BULK AT MOST 1048576: true; the input reads as it did. -/
def fnExactValuesOfUptoRow : OpenClaim := { program := "ytbahejlgfpilnaa", sum := "ce046f25b9a4fc04c9ef472e8d5c323e902cebadf790e37ef4fbd2ea8e8bdbf5", func := "loop.example/g01285/laws.FnExactValuesOf", spec := "fnExactValuesOf", unfollowed := true, recurses := true, plainKeys := false, apart := false, narrowed := true }
def FnExactValuesOfUptoSaid : Prop := fnExactValuesOfUptoRow.holds Try.pinned (OpenSpec.upto fnExactValuesOfSpec)

/-- 'laws.FnExactAreSameOrbits', WHERE WHAT IT READS IS OF BULK AT MOST 1048576: true; the input reads as it did. -/
def fnExactAreSameOrbitsUptoRow : OpenClaim := { program := "ytbahejlgfpilnaa", sum := "ce046f25b9a4fc04c9ef472e8d5c323e902cebadf790e37ef4fbd2ea8e8bdbf5", func := "loop.example/g01285/laws.FnExactAreSameOrbits", spec := "fnExactAreSameOrbits", unfollowed := true, recurses := true, plainKeys := false, apart := false, narrowed := true }
def FnExactAreSameOrbitsUptoSaid : Prop := fnExactAreSameOrbitsUptoRow.holds Try.pinned (OpenSpec.upto fnExactAreSameOrbitsSpec)

end Rows
end Go.Proofs.Ytbahejlgfpilnaa
