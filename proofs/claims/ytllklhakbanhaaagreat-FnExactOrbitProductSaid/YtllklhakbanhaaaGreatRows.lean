/-
  No cell of these rows narrows 'for every input' (looked for: loops, veiled, ifaces, maps, wideKeys, modest, calm, conditions, laid).
  DERIVED. THE GIVEN ROWS OF THIS SEAT. 9 by the template 'for every input the law returns true; each argument reads behind the call as it read before'; 0 by the template 'total and deterministic' (their statements: YtllklhakbanhaaaGreatTotals.lean).
  GIVEN WITH THE SEED: the statements are not yours to turn. If you find one false, say at which input.
  Laid BY PROGRAM, IN A SANDBOX (cutbox-rows.mjs): the forced cells as the released guide's own fill.sh prints them over the translation ea84b1bb36159672… (all of the seat's roots in one cut). By AI agents, Wed Nov 11 2026. No macro, syntax, notation, axiom, sorry.
-/
import Derived.Test.YtllklhakbanhaaaGreatChecked
import GoSem.Claim
import GoSem.ClaimJoined
import GoSem.ClaimMapViews
import Derived.JoinedTies
import Derived.KernelRfl
namespace Go.Proofs.YtllklhakbanhaaaGreat
/- THE CELL 'sum', in the pinned program and in every row, IS THE sha256 OF THE DUMP (.gsa) THAT YtllklhakbanhaaaGreatProg.lean LOADS. Nothing in Lean hashes anything: it is a label: what it is worth is what the hold of that sum in a sandbox is worth. -/
noncomputable def Tryz.pinned : Pinned := { name := "ytllklhakbanhaaagreat", sum := "ea84b1bb36159672a88235c16e7f57490b068c3455a3b96f34de72a5476fd0bf", checked := Tryz.checked }
namespace Rows
def none {H : Type} : Left H := { results := [], args := [] }

/-- 'laws.FnExactOrbitOfPoly': WHATEVER THE INPUT: true; the input reads as it did. -/
def fnExactOrbitOfPolySpec : ChangeSpec := { name := "fnExactOrbitOfPoly", fn := fun _ => fun
  | [d1, d2] => { results := [.lit (.bool true)], args := [d1, d2] }
  | _ => none }
def fnExactOrbitOfPolyRow : OpenClaim := { program := "ytllklhakbanhaaagreat", sum := "ea84b1bb36159672a88235c16e7f57490b068c3455a3b96f34de72a5476fd0bf", func := "loop.example/g01285/laws.FnExactOrbitOfPoly", spec := "fnExactOrbitOfPoly", unfollowed := true, recurses := true, plainKeys := false, apart := false }
def FnExactOrbitOfPolySaid : Prop := fnExactOrbitOfPolyRow.holds Tryz.pinned (OpenSpec.ofChange fnExactOrbitOfPolySpec)

/-- ITS FALSE NEIGHBOUR: 'it returns false'. Refute it at one input. -/
def fnExactOrbitOfPolyWrong : ChangeSpec := { name := "fnExactOrbitOfPoly", fn := fun _ => fun
  | [d1, d2] => { results := [.lit (.bool false)], args := [d1, d2] }
  | _ => none }
def FnExactOrbitOfPolyWrongFalsely : Prop := fnExactOrbitOfPolyRow.holds Tryz.pinned (OpenSpec.ofChange fnExactOrbitOfPolyWrong)

/-- 'laws.FnExactIsInvariant': WHATEVER THE INPUT: true; the input reads as it did. -/
def fnExactIsInvariantSpec : ChangeSpec := { name := "fnExactIsInvariant", fn := fun _ => fun
  | [d1, d2] => { results := [.lit (.bool true)], args := [d1, d2] }
  | _ => none }
def fnExactIsInvariantRow : OpenClaim := { program := "ytllklhakbanhaaagreat", sum := "ea84b1bb36159672a88235c16e7f57490b068c3455a3b96f34de72a5476fd0bf", func := "loop.example/g01285/laws.FnExactIsInvariant", spec := "fnExactIsInvariant", unfollowed := true, recurses := true, plainKeys := false, apart := false }
def FnExactIsInvariantSaid : Prop := fnExactIsInvariantRow.holds Tryz.pinned (OpenSpec.ofChange fnExactIsInvariantSpec)

/-- ITS FALSE NEIGHBOUR: 'it returns false'. Refute it at one input. -/
def fnExactIsInvariantWrong : ChangeSpec := { name := "fnExactIsInvariant", fn := fun _ => fun
  | [d1, d2] => { results := [.lit (.bool false)], args := [d1, d2] }
  | _ => none }
def FnExactIsInvariantWrongFalsely : Prop := fnExactIsInvariantRow.holds Tryz.pinned (OpenSpec.ofChange fnExactIsInvariantWrong)

/-- 'laws.FnExactStabiliserOfPoly': WHATEVER THE INPUT: true; the input reads as it did. -/
def fnExactStabiliserOfPolySpec : ChangeSpec := { name := "fnExactStabiliserOfPoly", fn := fun _ => fun
  | [d1, d2] => { results := [.lit (.bool true)], args := [d1, d2] }
  | _ => none }
def fnExactStabiliserOfPolyRow : OpenClaim := { program := "ytllklhakbanhaaagreat", sum := "ea84b1bb36159672a88235c16e7f57490b068c3455a3b96f34de72a5476fd0bf", func := "loop.example/g01285/laws.FnExactStabiliserOfPoly", spec := "fnExactStabiliserOfPoly", unfollowed := true, recurses := true, plainKeys := false, apart := false }
def FnExactStabiliserOfPolySaid : Prop := fnExactStabiliserOfPolyRow.holds Tryz.pinned (OpenSpec.ofChange fnExactStabiliserOfPolySpec)

/-- ITS FALSE NEIGHBOUR: 'it returns false'. Refute it at one input. -/
def fnExactStabiliserOfPolyWrong : ChangeSpec := { name := "fnExactStabiliserOfPoly", fn := fun _ => fun
  | [d1, d2] => { results := [.lit (.bool false)], args := [d1, d2] }
  | _ => none }
def FnExactStabiliserOfPolyWrongFalsely : Prop := fnExactStabiliserOfPolyRow.holds Tryz.pinned (OpenSpec.ofChange fnExactStabiliserOfPolyWrong)

/-- 'laws.FnExactOrbitSum': WHATEVER THE INPUT: true; the input reads as it did. -/
def fnExactOrbitSumSpec : ChangeSpec := { name := "fnExactOrbitSum", fn := fun _ => fun
  | [d1, d2] => { results := [.lit (.bool true)], args := [d1, d2] }
  | _ => none }
def fnExactOrbitSumRow : OpenClaim := { program := "ytllklhakbanhaaagreat", sum := "ea84b1bb36159672a88235c16e7f57490b068c3455a3b96f34de72a5476fd0bf", func := "loop.example/g01285/laws.FnExactOrbitSum", spec := "fnExactOrbitSum", unfollowed := true, recurses := true, plainKeys := false, apart := false }
def FnExactOrbitSumSaid : Prop := fnExactOrbitSumRow.holds Tryz.pinned (OpenSpec.ofChange fnExactOrbitSumSpec)

/-- ITS FALSE NEIGHBOUR: 'it returns false'. Refute it at one input. -/
def fnExactOrbitSumWrong : ChangeSpec := { name := "fnExactOrbitSum", fn := fun _ => fun
  | [d1, d2] => { results := [.lit (.bool false)], args := [d1, d2] }
  | _ => none }
def FnExactOrbitSumWrongFalsely : Prop := fnExactOrbitSumRow.holds Tryz.pinned (OpenSpec.ofChange fnExactOrbitSumWrong)

/-- 'laws.FnExactOrbitProduct': WHATEVER THE INPUT: true; the input reads as it did. -/
def fnExactOrbitProductSpec : ChangeSpec := { name := "fnExactOrbitProduct", fn := fun _ => fun
  | [d1, d2] => { results := [.lit (.bool true)], args := [d1, d2] }
  | _ => none }
def fnExactOrbitProductRow : OpenClaim := { program := "ytllklhakbanhaaagreat", sum := "ea84b1bb36159672a88235c16e7f57490b068c3455a3b96f34de72a5476fd0bf", func := "loop.example/g01285/laws.FnExactOrbitProduct", spec := "fnExactOrbitProduct", unfollowed := true, recurses := true, plainKeys := false, apart := false }
def FnExactOrbitProductSaid : Prop := fnExactOrbitProductRow.holds Tryz.pinned (OpenSpec.ofChange fnExactOrbitProductSpec)

/-- ITS FALSE NEIGHBOUR: 'it returns false'. Refute it at one input. -/
def fnExactOrbitProductWrong : ChangeSpec := { name := "fnExactOrbitProduct", fn := fun _ => fun
  | [d1, d2] => { results := [.lit (.bool false)], args := [d1, d2] }
  | _ => none }
def FnExactOrbitProductWrongFalsely : Prop := fnExactOrbitProductRow.holds Tryz.pinned (OpenSpec.ofChange fnExactOrbitProductWrong)

/-- 'laws.FnExactSymmetricFunction': WHATEVER THE INPUT: true; the input reads as it did. -/
def fnExactSymmetricFunctionSpec : ChangeSpec := { name := "fnExactSymmetricFunction", fn := fun _ => fun
  | [d1, d2, d3] => { results := [.lit (.bool true)], args := [d1, d2, d3] }
  | _ => none }
def fnExactSymmetricFunctionRow : OpenClaim := { program := "ytllklhakbanhaaagreat", sum := "ea84b1bb36159672a88235c16e7f57490b068c3455a3b96f34de72a5476fd0bf", func := "loop.example/g01285/laws.FnExactSymmetricFunction", spec := "fnExactSymmetricFunction", unfollowed := true, recurses := true, plainKeys := false, apart := false }
def FnExactSymmetricFunctionSaid : Prop := fnExactSymmetricFunctionRow.holds Tryz.pinned (OpenSpec.ofChange fnExactSymmetricFunctionSpec)

/-- ITS FALSE NEIGHBOUR: 'it returns false'. Refute it at one input. -/
def fnExactSymmetricFunctionWrong : ChangeSpec := { name := "fnExactSymmetricFunction", fn := fun _ => fun
  | [d1, d2, d3] => { results := [.lit (.bool false)], args := [d1, d2, d3] }
  | _ => none }
def FnExactSymmetricFunctionWrongFalsely : Prop := fnExactSymmetricFunctionRow.holds Tryz.pinned (OpenSpec.ofChange fnExactSymmetricFunctionWrong)

/-- 'laws.FnExactPowerSum': WHATEVER THE INPUT: true; the input reads as it did. -/
def fnExactPowerSumSpec : ChangeSpec := { name := "fnExactPowerSum", fn := fun _ => fun
  | [d1, d2, d3] => { results := [.lit (.bool true)], args := [d1, d2, d3] }
  | _ => none }
def fnExactPowerSumRow : OpenClaim := { program := "ytllklhakbanhaaagreat", sum := "ea84b1bb36159672a88235c16e7f57490b068c3455a3b96f34de72a5476fd0bf", func := "loop.example/g01285/laws.FnExactPowerSum", spec := "fnExactPowerSum", unfollowed := true, recurses := true, plainKeys := false, apart := false }
def FnExactPowerSumSaid : Prop := fnExactPowerSumRow.holds Tryz.pinned (OpenSpec.ofChange fnExactPowerSumSpec)

/-- ITS FALSE NEIGHBOUR: 'it returns false'. Refute it at one input. -/
def fnExactPowerSumWrong : ChangeSpec := { name := "fnExactPowerSum", fn := fun _ => fun
  | [d1, d2, d3] => { results := [.lit (.bool false)], args := [d1, d2, d3] }
  | _ => none }
def FnExactPowerSumWrongFalsely : Prop := fnExactPowerSumRow.holds Tryz.pinned (OpenSpec.ofChange fnExactPowerSumWrong)

/-- 'laws.FnExactTransferOf': WHATEVER THE INPUT: true; the input reads as it did. -/
def fnExactTransferOfSpec : ChangeSpec := { name := "fnExactTransferOf", fn := fun _ => fun
  | [d1, d2] => { results := [.lit (.bool true)], args := [d1, d2] }
  | _ => none }
def fnExactTransferOfRow : OpenClaim := { program := "ytllklhakbanhaaagreat", sum := "ea84b1bb36159672a88235c16e7f57490b068c3455a3b96f34de72a5476fd0bf", func := "loop.example/g01285/laws.FnExactTransferOf", spec := "fnExactTransferOf", unfollowed := true, recurses := true, plainKeys := false, apart := false }
def FnExactTransferOfSaid : Prop := fnExactTransferOfRow.holds Tryz.pinned (OpenSpec.ofChange fnExactTransferOfSpec)

/-- ITS FALSE NEIGHBOUR: 'it returns false'. Refute it at one input. -/
def fnExactTransferOfWrong : ChangeSpec := { name := "fnExactTransferOf", fn := fun _ => fun
  | [d1, d2] => { results := [.lit (.bool false)], args := [d1, d2] }
  | _ => none }
def FnExactTransferOfWrongFalsely : Prop := fnExactTransferOfRow.holds Tryz.pinned (OpenSpec.ofChange fnExactTransferOfWrong)

/-- 'laws.FnExactCharacterOf': WHATEVER THE INPUT: true; the input reads as it did. -/
def fnExactCharacterOfSpec : ChangeSpec := { name := "fnExactCharacterOf", fn := fun _ => fun
  | [d1, d2] => { results := [.lit (.bool true)], args := [d1, d2] }
  | _ => none }
def fnExactCharacterOfRow : OpenClaim := { program := "ytllklhakbanhaaagreat", sum := "ea84b1bb36159672a88235c16e7f57490b068c3455a3b96f34de72a5476fd0bf", func := "loop.example/g01285/laws.FnExactCharacterOf", spec := "fnExactCharacterOf", unfollowed := true, recurses := true, plainKeys := false, apart := false }
def FnExactCharacterOfSaid : Prop := fnExactCharacterOfRow.holds Tryz.pinned (OpenSpec.ofChange fnExactCharacterOfSpec)

/-- ITS FALSE NEIGHBOUR: 'it returns false'. Refute it at one input. -/
def fnExactCharacterOfWrong : ChangeSpec := { name := "fnExactCharacterOf", fn := fun _ => fun
  | [d1, d2] => { results := [.lit (.bool false)], args := [d1, d2] }
  | _ => none }
def FnExactCharacterOfWrongFalsely : Prop := fnExactCharacterOfRow.holds Tryz.pinned (OpenSpec.ofChange fnExactCharacterOfWrong)

/- THE SECOND FORM. 'bulk': how many values and letters a reading holds, each counted each time it is reached (what is shared counts as often as it is met; a slice's spare places count too). A statement '..UptoSaid' is the law's where the arguments, and the package variables that the reading takes, are together of bulk at most 1048576: NARROWER than '..Said'. Prove '..Said' where nothing that the law and all that it calls make is longer than what came in: it says more and counts as full. Else prove '..UptoSaid'. A law counts once. -/
mutual
def uptoBulk {H : Type} : DataW H → Nat
  | .lit (.string bytes) => bytes.length + 1
  | .lit _ => 1
  | .nil => 1
  | .ptr d => uptoBulk d + 1
  | .slice elems spare => uptoBulkAll elems + uptoBulkAll spare + 1
  | .agg parts => uptoBulkAll parts + 1
  | .iface _ d => uptoBulk d + 1
  | .map entries => uptoBulkEntries entries + 1
  | .held _ => 1
def uptoBulkAll {H : Type} : List (DataW H) → Nat
  | [] => 0
  | d :: r => uptoBulk d + uptoBulkAll r
def uptoBulkEntries {H : Type} : List (Lit × DataW H) → Nat
  | [] => 0
  | x :: r => uptoBulkEntry x + uptoBulkEntries r
def uptoBulkEntry {H : Type} : Lit × DataW H → Nat
  | (.string bytes, d) => bytes.length + uptoBulk d + 1
  | (_, d) => uptoBulk d + 1
 end
def uptoSmall : (H : Type) → List (DataW H) → Bool := fun _ ds => decide (uptoBulkAll ds ≤ 1048576)
def OpenSpec.upto (s : _root_.Go.ChangeSpec) : _root_.Go.OpenSpec := { _root_.Go.OpenSpec.ofChange s with cond := some uptoSmall }

/-- 'laws.FnExactOrbitOfPoly', WHERE WHAT IT READS IS OF BULK AT MOST 1048576: true; the input reads as it did. -/
def fnExactOrbitOfPolyUptoRow : OpenClaim := { program := "ytllklhakbanhaaagreat", sum := "ea84b1bb36159672a88235c16e7f57490b068c3455a3b96f34de72a5476fd0bf", func := "loop.example/g01285/laws.FnExactOrbitOfPoly", spec := "fnExactOrbitOfPoly", unfollowed := true, recurses := true, plainKeys := false, apart := false, narrowed := true }
def FnExactOrbitOfPolyUptoSaid : Prop := fnExactOrbitOfPolyUptoRow.holds Tryz.pinned (OpenSpec.upto fnExactOrbitOfPolySpec)

/-- 'laws.FnExactIsInvariant', WHERE WHAT IT READS IS OF BULK AT MOST 1048576: true; the input reads as it did. -/
def fnExactIsInvariantUptoRow : OpenClaim := { program := "ytllklhakbanhaaagreat", sum := "ea84b1bb36159672a88235c16e7f57490b068c3455a3b96f34de72a5476fd0bf", func := "loop.example/g01285/laws.FnExactIsInvariant", spec := "fnExactIsInvariant", unfollowed := true, recurses := true, plainKeys := false, apart := false, narrowed := true }
def FnExactIsInvariantUptoSaid : Prop := fnExactIsInvariantUptoRow.holds Tryz.pinned (OpenSpec.upto fnExactIsInvariantSpec)

/-- 'laws.FnExactStabiliserOfPoly', WHERE WHAT IT READS IS OF BULK AT MOST 1048576: true; the input reads as it did. -/
def fnExactStabiliserOfPolyUptoRow : OpenClaim := { program := "ytllklhakbanhaaagreat", sum := "ea84b1bb36159672a88235c16e7f57490b068c3455a3b96f34de72a5476fd0bf", func := "loop.example/g01285/laws.FnExactStabiliserOfPoly", spec := "fnExactStabiliserOfPoly", unfollowed := true, recurses := true, plainKeys := false, apart := false, narrowed := true }
def FnExactStabiliserOfPolyUptoSaid : Prop := fnExactStabiliserOfPolyUptoRow.holds Tryz.pinned (OpenSpec.upto fnExactStabiliserOfPolySpec)

/-- 'laws.FnExactOrbitSum', WHERE WHAT IT READS IS OF BULK AT MOST 1048576: true; the input reads as it did. -/
def fnExactOrbitSumUptoRow : OpenClaim := { program := "ytllklhakbanhaaagreat", sum := "ea84b1bb36159672a88235c16e7f57490b068c3455a3b96f34de72a5476fd0bf", func := "loop.example/g01285/laws.FnExactOrbitSum", spec := "fnExactOrbitSum", unfollowed := true, recurses := true, plainKeys := false, apart := false, narrowed := true }
def FnExactOrbitSumUptoSaid : Prop := fnExactOrbitSumUptoRow.holds Tryz.pinned (OpenSpec.upto fnExactOrbitSumSpec)

/-- 'laws.FnExactOrbitProduct', WHERE WHAT IT READS IS OF BULK AT MOST 1048576: true; the input reads as it did. -/
def fnExactOrbitProductUptoRow : OpenClaim := { program := "ytllklhakbanhaaagreat", sum := "ea84b1bb36159672a88235c16e7f57490b068c3455a3b96f34de72a5476fd0bf", func := "loop.example/g01285/laws.FnExactOrbitProduct", spec := "fnExactOrbitProduct", unfollowed := true, recurses := true, plainKeys := false, apart := false, narrowed := true }
def FnExactOrbitProductUptoSaid : Prop := fnExactOrbitProductUptoRow.holds Tryz.pinned (OpenSpec.upto fnExactOrbitProductSpec)

/-- 'laws.FnExactSymmetricFunction', WHERE WHAT IT READS IS OF BULK AT MOST 1048576: true; the input reads as it did. -/
def fnExactSymmetricFunctionUptoRow : OpenClaim := { program := "ytllklhakbanhaaagreat", sum := "ea84b1bb36159672a88235c16e7f57490b068c3455a3b96f34de72a5476fd0bf", func := "loop.example/g01285/laws.FnExactSymmetricFunction", spec := "fnExactSymmetricFunction", unfollowed := true, recurses := true, plainKeys := false, apart := false, narrowed := true }
def FnExactSymmetricFunctionUptoSaid : Prop := fnExactSymmetricFunctionUptoRow.holds Tryz.pinned (OpenSpec.upto fnExactSymmetricFunctionSpec)

/-- 'laws.FnExactPowerSum', WHERE WHAT IT READS IS OF BULK AT MOST 1048576: true; the input reads as it did. -/
def fnExactPowerSumUptoRow : OpenClaim := { program := "ytllklhakbanhaaagreat", sum := "ea84b1bb36159672a88235c16e7f57490b068c3455a3b96f34de72a5476fd0bf", func := "loop.example/g01285/laws.FnExactPowerSum", spec := "fnExactPowerSum", unfollowed := true, recurses := true, plainKeys := false, apart := false, narrowed := true }
def FnExactPowerSumUptoSaid : Prop := fnExactPowerSumUptoRow.holds Tryz.pinned (OpenSpec.upto fnExactPowerSumSpec)

/-- 'laws.FnExactTransferOf', WHERE WHAT IT READS IS OF BULK AT MOST 1048576: true; the input reads as it did. -/
def fnExactTransferOfUptoRow : OpenClaim := { program := "ytllklhakbanhaaagreat", sum := "ea84b1bb36159672a88235c16e7f57490b068c3455a3b96f34de72a5476fd0bf", func := "loop.example/g01285/laws.FnExactTransferOf", spec := "fnExactTransferOf", unfollowed := true, recurses := true, plainKeys := false, apart := false, narrowed := true }
def FnExactTransferOfUptoSaid : Prop := fnExactTransferOfUptoRow.holds Tryz.pinned (OpenSpec.upto fnExactTransferOfSpec)

/-- 'laws.FnExactCharacterOf', WHERE WHAT IT READS IS OF BULK AT MOST 1048576: true; the input reads as it did. -/
def fnExactCharacterOfUptoRow : OpenClaim := { program := "ytllklhakbanhaaagreat", sum := "ea84b1bb36159672a88235c16e7f57490b068c3455a3b96f34de72a5476fd0bf", func := "loop.example/g01285/laws.FnExactCharacterOf", spec := "fnExactCharacterOf", unfollowed := true, recurses := true, plainKeys := false, apart := false, narrowed := true }
def FnExactCharacterOfUptoSaid : Prop := fnExactCharacterOfUptoRow.holds Tryz.pinned (OpenSpec.upto fnExactCharacterOfSpec)

end Rows
end Go.Proofs.YtllklhakbanhaaaGreat
