/-
  No cell of these rows narrows 'for every input' (looked for: loops, veiled, ifaces, maps, wideKeys, modest, calm, conditions, laid).
  DERIVED. THE GIVEN ROWS OF THIS SEAT. 2 by the template 'for every input the law returns true; each argument reads behind the call as it read before'; 0 by the template 'total and deterministic' (their statements: YtgbnlnpffhlipaaTotals.lean).
  GIVEN WITH THE SEED: the statements are not yours to turn. If you find one false, say at which input.
  Laid BY PROGRAM, IN A SANDBOX (cutbox-rows.mjs): the forced cells as the released guide's own fill.sh prints them over the translation b90c11368c27e168… (all of the seat's roots in one cut). By AI agents, Wed Nov 11 2026. No macro, syntax, notation, axiom, sorry.
-/
import Derived.Test.YtgbnlnpffhlipaaChecked
import GoSem.Claim
import GoSem.ClaimJoined
import GoSem.ClaimMapViews
import Derived.JoinedTies
import Derived.KernelRfl
namespace Go.Proofs.Ytgbnlnpffhlipaa
/- THE CELL 'sum', in the pinned program and in every row, IS THE sha256 OF THE DUMP (.gsa) THAT YtgbnlnpffhlipaaProg.lean LOADS. Nothing in Lean hashes anything: it is a label: what it is worth is what the hold of that sum in a sandbox is worth. -/
noncomputable def Try.pinned : Pinned := { name := "ytgbnlnpffhlipaa", sum := "b90c11368c27e168afb7cae77acb83bfb282cac2da1c55f3b73ca22130a0226d", checked := Try.checked }
namespace Rows
def none {H : Type} : Left H := { results := [], args := [] }

/-- 'laws.FnExactSeriesOfDegrees': WHATEVER THE INPUT: true; the input reads as it did. -/
def fnExactSeriesOfDegreesSpec : ChangeSpec := { name := "fnExactSeriesOfDegrees", fn := fun _ => fun
  | [d1, d2] => { results := [.lit (.bool true)], args := [d1, d2] }
  | _ => none }
def fnExactSeriesOfDegreesRow : OpenClaim := { program := "ytgbnlnpffhlipaa", sum := "b90c11368c27e168afb7cae77acb83bfb282cac2da1c55f3b73ca22130a0226d", func := "loop.example/g01285/laws.FnExactSeriesOfDegrees", spec := "fnExactSeriesOfDegrees", unfollowed := true, recurses := true, apart := false }
def FnExactSeriesOfDegreesSaid : Prop := fnExactSeriesOfDegreesRow.holds Try.pinned (OpenSpec.ofChange fnExactSeriesOfDegreesSpec)

/-- ITS FALSE NEIGHBOUR: 'it returns false'. Refute it at one input. -/
def fnExactSeriesOfDegreesWrong : ChangeSpec := { name := "fnExactSeriesOfDegrees", fn := fun _ => fun
  | [d1, d2] => { results := [.lit (.bool false)], args := [d1, d2] }
  | _ => none }
def FnExactSeriesOfDegreesWrongFalsely : Prop := fnExactSeriesOfDegreesRow.holds Try.pinned (OpenSpec.ofChange fnExactSeriesOfDegreesWrong)

/-- 'laws.FnExactCountingSeries': WHATEVER THE INPUT: true; the input reads as it did. -/
def fnExactCountingSeriesSpec : ChangeSpec := { name := "fnExactCountingSeries", fn := fun _ => fun
  | [d1, d2] => { results := [.lit (.bool true)], args := [d1, d2] }
  | _ => none }
def fnExactCountingSeriesRow : OpenClaim := { program := "ytgbnlnpffhlipaa", sum := "b90c11368c27e168afb7cae77acb83bfb282cac2da1c55f3b73ca22130a0226d", func := "loop.example/g01285/laws.FnExactCountingSeries", spec := "fnExactCountingSeries", unfollowed := true, recurses := true, apart := false }
def FnExactCountingSeriesSaid : Prop := fnExactCountingSeriesRow.holds Try.pinned (OpenSpec.ofChange fnExactCountingSeriesSpec)

/-- ITS FALSE NEIGHBOUR: 'it returns false'. Refute it at one input. -/
def fnExactCountingSeriesWrong : ChangeSpec := { name := "fnExactCountingSeries", fn := fun _ => fun
  | [d1, d2] => { results := [.lit (.bool false)], args := [d1, d2] }
  | _ => none }
def FnExactCountingSeriesWrongFalsely : Prop := fnExactCountingSeriesRow.holds Try.pinned (OpenSpec.ofChange fnExactCountingSeriesWrong)

/- THE SECOND FORM. 'bulk': how many values and letters a reading holds, each counted each time it is reached (what is shared counts as often as it is met; a slice's spare places count too). A statement '..UptoSaid' is the law's where the arguments, and the package variables that the reading takes, are together of bulk at most 1048576: NARROWER than '..Said'. Prove '..Said' where nothing that the law and all that it calls make is longer than what came in: it says more and counts as full. Else prove '..UptoSaid'. A law counts once. -/
mutual
def uptoBulk {H : Type} : DataW H → Nat
  | .lit (.string bytes) => bytes.length + 1
  | .lit _ => 1
  | .nil => 1
  | .ptr d => uptoBulk d + 1
  | .slice elems spare => uptoBulkAll elems + uptoBulkAll spare + 1
  | .agg parts => uptoBulkAll parts + 1
  | .iface _ d => uptoBulk d + 1
  | .map entries => uptoBulkEntries entries + 1
  | .held _ => 1
def uptoBulkAll {H : Type} : List (DataW H) → Nat
  | [] => 0
  | d :: r => uptoBulk d + uptoBulkAll r
def uptoBulkEntries {H : Type} : List (Lit × DataW H) → Nat
  | [] => 0
  | x :: r => uptoBulkEntry x + uptoBulkEntries r
def uptoBulkEntry {H : Type} : Lit × DataW H → Nat
  | (.string bytes, d) => bytes.length + uptoBulk d + 1
  | (_, d) => uptoBulk d + 1
 end
def uptoSmall : (H : Type) → List (DataW H) → Bool := fun _ ds => decide (uptoBulkAll ds ≤ 1048576)
def OpenSpec.upto (s : _root_.Go.ChangeSpec) : _root_.Go.OpenSpec := { _root_.Go.OpenSpec.ofChange s with cond := some uptoSmall }

/-- 'laws.FnExactSeriesOfDegrees', WHERE WHAT IT READS IS OF BULK AT MOST 1048576: true; the input reads as it did. -/
def fnExactSeriesOfDegreesUptoRow : OpenClaim := { program := "ytgbnlnpffhlipaa", sum := "b90c11368c27e168afb7cae77acb83bfb282cac2da1c55f3b73ca22130a0226d", func := "loop.example/g01285/laws.FnExactSeriesOfDegrees", spec := "fnExactSeriesOfDegrees", unfollowed := true, recurses := true, apart := false, narrowed := true }
def FnExactSeriesOfDegreesUptoSaid : Prop := fnExactSeriesOfDegreesUptoRow.holds Try.pinned (OpenSpec.upto fnExactSeriesOfDegreesSpec)

/-- 'laws.FnExactCountingSeries', WHERE WHAT IT READS IS OF BULK AT MOST 1048576: true; the input reads as it did. -/
def fnExactCountingSeriesUptoRow : OpenClaim := { program := "ytgbnlnpffhlipaa", sum := "b90c11368c27e168afb7cae77acb83bfb282cac2da1c55f3b73ca22130a0226d", func := "loop.example/g01285/laws.FnExactCountingSeries", spec := "fnExactCountingSeries", unfollowed := true, recurses := true, apart := false, narrowed := true }
def FnExactCountingSeriesUptoSaid : Prop := fnExactCountingSeriesUptoRow.holds Try.pinned (OpenSpec.upto fnExactCountingSeriesSpec)

end Rows
end Go.Proofs.Ytgbnlnpffhlipaa
