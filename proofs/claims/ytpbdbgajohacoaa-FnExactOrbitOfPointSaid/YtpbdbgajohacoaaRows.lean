/-
  No cell of these rows narrows 'for every input' (looked for: loops, veiled, ifaces, maps, wideKeys, modest, calm, conditions, laid).
  DERIVED. THE GIVEN ROWS OF THIS SEAT. 6 by the template 'for every input the law returns true; each argument reads behind the call as it read before'; 0 by the template 'total and deterministic' (their statements: YtpbdbgajohacoaaTotals.lean).
  GIVEN WITH THE SEED: the statements are not yours to turn. If you find one false, say at which input.
  Laid BY PROGRAM, IN A SANDBOX (cutbox-rows.mjs): the forced cells as the released guide's own fill.sh prints them over the translation eccd4ed8dee0ef1d… (all of the seat's roots in one cut). By AI agents, Wed Nov 11 2026. No macro, syntax, notation, axiom, sorry.
-/
import Derived.Test.YtpbdbgajohacoaaChecked
import GoSem.Claim
import GoSem.ClaimJoined
import GoSem.ClaimMapViews
import Derived.JoinedTies
import Derived.KernelRfl
namespace Go.Proofs.Ytpbdbgajohacoaa
/- THE CELL 'sum', in the pinned program and in every row, IS THE sha256 OF THE DUMP (.gsa) THAT YtpbdbgajohacoaaProg.lean LOADS. Nothing in Lean hashes anything: it is a label: what it is worth is what the hold of that sum in a sandbox is worth. -/
noncomputable def Try.pinned : Pinned := { name := "ytpbdbgajohacoaa", sum := "eccd4ed8dee0ef1d55504ed427bda185aa4ef744c56a54bb3e032e340739c0ab", checked := Try.checked }
namespace Rows
def none {H : Type} : Left H := { results := [], args := [] }

/-- 'laws.FnExactGroupOf': WHATEVER THE INPUT: true; the input reads as it did. -/
def fnExactGroupOfSpec : ChangeSpec := { name := "fnExactGroupOf", fn := fun _ => fun
  | [d1, d2, d3] => { results := [.lit (.bool true)], args := [d1, d2, d3] }
  | _ => none }
def fnExactGroupOfRow : OpenClaim := { program := "ytpbdbgajohacoaa", sum := "eccd4ed8dee0ef1d55504ed427bda185aa4ef744c56a54bb3e032e340739c0ab", func := "loop.example/g01285/laws.FnExactGroupOf", spec := "fnExactGroupOf", unfollowed := true, recurses := true, plainKeys := false, apart := false }
def FnExactGroupOfSaid : Prop := fnExactGroupOfRow.holds Try.pinned (OpenSpec.ofChange fnExactGroupOfSpec)

/-- ITS FALSE NEIGHBOUR: 'it returns false'. Refute it at one input. -/
def fnExactGroupOfWrong : ChangeSpec := { name := "fnExactGroupOf", fn := fun _ => fun
  | [d1, d2, d3] => { results := [.lit (.bool false)], args := [d1, d2, d3] }
  | _ => none }
def FnExactGroupOfWrongFalsely : Prop := fnExactGroupOfRow.holds Try.pinned (OpenSpec.ofChange fnExactGroupOfWrong)

/-- 'laws.FnExactCentreOf': WHATEVER THE INPUT: true; the input reads as it did. -/
def fnExactCentreOfSpec : ChangeSpec := { name := "fnExactCentreOf", fn := fun _ => fun
  | [d] => { results := [.lit (.bool true)], args := [d] }
  | _ => none }
def fnExactCentreOfRow : OpenClaim := { program := "ytpbdbgajohacoaa", sum := "eccd4ed8dee0ef1d55504ed427bda185aa4ef744c56a54bb3e032e340739c0ab", func := "loop.example/g01285/laws.FnExactCentreOf", spec := "fnExactCentreOf", unfollowed := true, recurses := true, plainKeys := false, apart := false }
def FnExactCentreOfSaid : Prop := fnExactCentreOfRow.holds Try.pinned (OpenSpec.ofChange fnExactCentreOfSpec)

/-- ITS FALSE NEIGHBOUR: 'it returns false'. Refute it at one input. -/
def fnExactCentreOfWrong : ChangeSpec := { name := "fnExactCentreOf", fn := fun _ => fun
  | [d] => { results := [.lit (.bool false)], args := [d] }
  | _ => none }
def FnExactCentreOfWrongFalsely : Prop := fnExactCentreOfRow.holds Try.pinned (OpenSpec.ofChange fnExactCentreOfWrong)

/-- 'laws.FnExactOrbitOfPoint': WHATEVER THE INPUT: true; the input reads as it did. -/
def fnExactOrbitOfPointSpec : ChangeSpec := { name := "fnExactOrbitOfPoint", fn := fun _ => fun
  | [d1, d2] => { results := [.lit (.bool true)], args := [d1, d2] }
  | _ => none }
def fnExactOrbitOfPointRow : OpenClaim := { program := "ytpbdbgajohacoaa", sum := "eccd4ed8dee0ef1d55504ed427bda185aa4ef744c56a54bb3e032e340739c0ab", func := "loop.example/g01285/laws.FnExactOrbitOfPoint", spec := "fnExactOrbitOfPoint", unfollowed := true, recurses := true, plainKeys := false, apart := false }
def FnExactOrbitOfPointSaid : Prop := fnExactOrbitOfPointRow.holds Try.pinned (OpenSpec.ofChange fnExactOrbitOfPointSpec)

/-- ITS FALSE NEIGHBOUR: 'it returns false'. Refute it at one input. -/
def fnExactOrbitOfPointWrong : ChangeSpec := { name := "fnExactOrbitOfPoint", fn := fun _ => fun
  | [d1, d2] => { results := [.lit (.bool false)], args := [d1, d2] }
  | _ => none }
def FnExactOrbitOfPointWrongFalsely : Prop := fnExactOrbitOfPointRow.holds Try.pinned (OpenSpec.ofChange fnExactOrbitOfPointWrong)

/-- 'laws.FnExactStabiliserOf': WHATEVER THE INPUT: true; the input reads as it did. -/
def fnExactStabiliserOfSpec : ChangeSpec := { name := "fnExactStabiliserOf", fn := fun _ => fun
  | [d1, d2] => { results := [.lit (.bool true)], args := [d1, d2] }
  | _ => none }
def fnExactStabiliserOfRow : OpenClaim := { program := "ytpbdbgajohacoaa", sum := "eccd4ed8dee0ef1d55504ed427bda185aa4ef744c56a54bb3e032e340739c0ab", func := "loop.example/g01285/laws.FnExactStabiliserOf", spec := "fnExactStabiliserOf", unfollowed := true, recurses := true, plainKeys := false, apart := false }
def FnExactStabiliserOfSaid : Prop := fnExactStabiliserOfRow.holds Try.pinned (OpenSpec.ofChange fnExactStabiliserOfSpec)

/-- ITS FALSE NEIGHBOUR: 'it returns false'. Refute it at one input. -/
def fnExactStabiliserOfWrong : ChangeSpec := { name := "fnExactStabiliserOf", fn := fun _ => fun
  | [d1, d2] => { results := [.lit (.bool false)], args := [d1, d2] }
  | _ => none }
def FnExactStabiliserOfWrongFalsely : Prop := fnExactStabiliserOfRow.holds Try.pinned (OpenSpec.ofChange fnExactStabiliserOfWrong)

/-- 'laws.FnExactSubgroupOf': WHATEVER THE INPUT: true; the input reads as it did. -/
def fnExactSubgroupOfSpec : ChangeSpec := { name := "fnExactSubgroupOf", fn := fun _ => fun
  | [d1, d2] => { results := [.lit (.bool true)], args := [d1, d2] }
  | _ => none }
def fnExactSubgroupOfRow : OpenClaim := { program := "ytpbdbgajohacoaa", sum := "eccd4ed8dee0ef1d55504ed427bda185aa4ef744c56a54bb3e032e340739c0ab", func := "loop.example/g01285/laws.FnExactSubgroupOf", spec := "fnExactSubgroupOf", unfollowed := true, recurses := true, plainKeys := false, apart := false }
def FnExactSubgroupOfSaid : Prop := fnExactSubgroupOfRow.holds Try.pinned (OpenSpec.ofChange fnExactSubgroupOfSpec)

/-- ITS FALSE NEIGHBOUR: 'it returns false'. Refute it at one input. -/
def fnExactSubgroupOfWrong : ChangeSpec := { name := "fnExactSubgroupOf", fn := fun _ => fun
  | [d1, d2] => { results := [.lit (.bool false)], args := [d1, d2] }
  | _ => none }
def FnExactSubgroupOfWrongFalsely : Prop := fnExactSubgroupOfRow.holds Try.pinned (OpenSpec.ofChange fnExactSubgroupOfWrong)

/-- 'laws.FnExactConjugateGroup': WHATEVER THE INPUT: true; the input reads as it did. -/
def fnExactConjugateGroupSpec : ChangeSpec := { name := "fnExactConjugateGroup", fn := fun _ => fun
  | [d1, d2] => { results := [.lit (.bool true)], args := [d1, d2] }
  | _ => none }
def fnExactConjugateGroupRow : OpenClaim := { program := "ytpbdbgajohacoaa", sum := "eccd4ed8dee0ef1d55504ed427bda185aa4ef744c56a54bb3e032e340739c0ab", func := "loop.example/g01285/laws.FnExactConjugateGroup", spec := "fnExactConjugateGroup", unfollowed := true, recurses := true, plainKeys := false, apart := false }
def FnExactConjugateGroupSaid : Prop := fnExactConjugateGroupRow.holds Try.pinned (OpenSpec.ofChange fnExactConjugateGroupSpec)

/-- ITS FALSE NEIGHBOUR: 'it returns false'. Refute it at one input. -/
def fnExactConjugateGroupWrong : ChangeSpec := { name := "fnExactConjugateGroup", fn := fun _ => fun
  | [d1, d2] => { results := [.lit (.bool false)], args := [d1, d2] }
  | _ => none }
def FnExactConjugateGroupWrongFalsely : Prop := fnExactConjugateGroupRow.holds Try.pinned (OpenSpec.ofChange fnExactConjugateGroupWrong)

/- THE SECOND FORM. 'bulk': how many values and letters a reading holds, each counted each time it is reached (what is shared counts as often as it is met; a slice's spare places count too). A statement '..UptoSaid' is the law's where the arguments, and the package variables that the reading takes, are together of bulk at most 1048576: NARROWER than '..Said'. Prove '..Said' where nothing that the law and all that it calls make is longer than what came in: it says more and counts as full. Else prove '..UptoSaid'. A law counts once. -/
mutual
def uptoBulk {H : Type} : DataW H → Nat
  | .lit (.string bytes) => bytes.length + 1
  | .lit _ => 1
  | .nil => 1
  | .ptr d => uptoBulk d + 1
  | .slice elems spare => uptoBulkAll elems + uptoBulkAll spare + 1
  | .agg parts => uptoBulkAll parts + 1
  | .iface _ d => uptoBulk d + 1
  | .map entries => uptoBulkEntries entries + 1
  | .held _ => 1
def uptoBulkAll {H : Type} : List (DataW H) → Nat
  | [] => 0
  | d :: r => uptoBulk d + uptoBulkAll r
def uptoBulkEntries {H : Type} : List (Lit × DataW H) → Nat
  | [] => 0
  | x :: r => uptoBulkEntry x + uptoBulkEntries r
def uptoBulkEntry {H : Type} : Lit × DataW H → Nat
  | (.string bytes, d) => bytes.length + uptoBulk d + 1
  | (_, d) => uptoBulk d + 1
 end
def uptoSmall : (H : Type) → List (DataW H) → Bool := fun _ ds => decide (uptoBulkAll ds ≤ 1048576)
def OpenSpec.upto (s : _root_.Go.ChangeSpec) : _root_.Go.OpenSpec := { _root_.Go.OpenSpec.ofChange s with cond := some uptoSmall }

/-- 'laws.FnExactGroupOf', WHERE WHAT IT READS IS OF BULK AT MOST 1048576: true; the input reads as it did. -/
def fnExactGroupOfUptoRow : OpenClaim := { program := "ytpbdbgajohacoaa", sum := "eccd4ed8dee0ef1d55504ed427bda185aa4ef744c56a54bb3e032e340739c0ab", func := "loop.example/g01285/laws.FnExactGroupOf", spec := "fnExactGroupOf", unfollowed := true, recurses := true, plainKeys := false, apart := false, narrowed := true }
def FnExactGroupOfUptoSaid : Prop := fnExactGroupOfUptoRow.holds Try.pinned (OpenSpec.upto fnExactGroupOfSpec)

/-- 'laws.FnExactCentreOf', WHERE WHAT IT READS IS OF BULK AT MOST 1048576: true; the input reads as it did. -/
def fnExactCentreOfUptoRow : OpenClaim := { program := "ytpbdbgajohacoaa", sum := "eccd4ed8dee0ef1d55504ed427bda185aa4ef744c56a54bb3e032e340739c0ab", func := "loop.example/g01285/laws.FnExactCentreOf", spec := "fnExactCentreOf", unfollowed := true, recurses := true, plainKeys := false, apart := false, narrowed := true }
def FnExactCentreOfUptoSaid : Prop := fnExactCentreOfUptoRow.holds Try.pinned (OpenSpec.upto fnExactCentreOfSpec)

/-- 'laws.FnExactOrbitOfPoint', WHERE WHAT IT READS IS OF BULK AT MOST 1048576: true; the input reads as it did. -/
def fnExactOrbitOfPointUptoRow : OpenClaim := { program := "ytpbdbgajohacoaa", sum := "eccd4ed8dee0ef1d55504ed427bda185aa4ef744c56a54bb3e032e340739c0ab", func := "loop.example/g01285/laws.FnExactOrbitOfPoint", spec := "fnExactOrbitOfPoint", unfollowed := true, recurses := true, plainKeys := false, apart := false, narrowed := true }
def FnExactOrbitOfPointUptoSaid : Prop := fnExactOrbitOfPointUptoRow.holds Try.pinned (OpenSpec.upto fnExactOrbitOfPointSpec)

/-- 'laws.FnExactStabiliserOf', WHERE WHAT IT READS IS OF BULK AT MOST 1048576: true; the input reads as it did. -/
def fnExactStabiliserOfUptoRow : OpenClaim := { program := "ytpbdbgajohacoaa", sum := "eccd4ed8dee0ef1d55504ed427bda185aa4ef744c56a54bb3e032e340739c0ab", func := "loop.example/g01285/laws.FnExactStabiliserOf", spec := "fnExactStabiliserOf", unfollowed := true, recurses := true, plainKeys := false, apart := false, narrowed := true }
def FnExactStabiliserOfUptoSaid : Prop := fnExactStabiliserOfUptoRow.holds Try.pinned (OpenSpec.upto fnExactStabiliserOfSpec)

/-- 'laws.FnExactSubgroupOf', WHERE WHAT IT READS IS OF BULK AT MOST 1048576: true; the input reads as it did. -/
def fnExactSubgroupOfUptoRow : OpenClaim := { program := "ytpbdbgajohacoaa", sum := "eccd4ed8dee0ef1d55504ed427bda185aa4ef744c56a54bb3e032e340739c0ab", func := "loop.example/g01285/laws.FnExactSubgroupOf", spec := "fnExactSubgroupOf", unfollowed := true, recurses := true, plainKeys := false, apart := false, narrowed := true }
def FnExactSubgroupOfUptoSaid : Prop := fnExactSubgroupOfUptoRow.holds Try.pinned (OpenSpec.upto fnExactSubgroupOfSpec)

/-- 'laws.FnExactConjugateGroup', WHERE WHAT IT READS IS OF BULK AT MOST 1048576: true; the input reads as it did. -/
def fnExactConjugateGroupUptoRow : OpenClaim := { program := "ytpbdbgajohacoaa", sum := "eccd4ed8dee0ef1d55504ed427bda185aa4ef744c56a54bb3e032e340739c0ab", func := "loop.example/g01285/laws.FnExactConjugateGroup", spec := "fnExactConjugateGroup", unfollowed := true, recurses := true, plainKeys := false, apart := false, narrowed := true }
def FnExactConjugateGroupUptoSaid : Prop := fnExactConjugateGroupUptoRow.holds Try.pinned (OpenSpec.upto fnExactConjugateGroupSpec)

end Rows
end Go.Proofs.Ytpbdbgajohacoaa
