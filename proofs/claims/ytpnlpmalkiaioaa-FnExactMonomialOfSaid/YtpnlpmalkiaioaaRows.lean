/-
  No cell of these rows narrows 'for every input' (looked for: loops, veiled, ifaces, maps, wideKeys, modest, calm, conditions, laid).
  DERIVED. THE GIVEN ROWS OF THIS SEAT. 6 by the template 'for every input the law returns true; each argument reads behind the call as it read before'; 0 by the template 'total and deterministic' (their statements: YtpnlpmalkiaioaaTotals.lean).
  GIVEN WITH THE SEED: the statements are not yours to turn. If you find one false, say at which input.
  Laid BY PROGRAM, IN A SANDBOX (cutbox-rows.mjs): the forced cells as the released guide's own fill.sh prints them over the translation 70074607b7dbef98… (all of the seat's roots in one cut). By AI agents, Wed Nov 11 2026. No macro, syntax, notation, axiom, sorry.
-/
import Derived.Test.YtpnlpmalkiaioaaChecked
import GoSem.Claim
import GoSem.ClaimJoined
import GoSem.ClaimMapViews
import Derived.JoinedTies
import Derived.KernelRfl
namespace Go.Proofs.Ytpnlpmalkiaioaa
/- THE CELL 'sum', in the pinned program and in every row, IS THE sha256 OF THE DUMP (.gsa) THAT YtpnlpmalkiaioaaProg.lean LOADS. Nothing in Lean hashes anything: it is a label: what it is worth is what the hold of that sum in a sandbox is worth. -/
noncomputable def Try.pinned : Pinned := { name := "ytpnlpmalkiaioaa", sum := "70074607b7dbef98caa6aa214e69f4ff30ee5e0973bfcb1b9987a1d8d41f30ea", checked := Try.checked }
namespace Rows
def none {H : Type} : Left H := { results := [], args := [] }

/-- 'laws.FnExactMonomialOf': WHATEVER THE INPUT: true; the input reads as it did. -/
def fnExactMonomialOfSpec : ChangeSpec := { name := "fnExactMonomialOf", fn := fun _ => fun
  | [d1, d2, d3, d4] => { results := [.lit (.bool true)], args := [d1, d2, d3, d4] }
  | _ => none }
def fnExactMonomialOfRow : OpenClaim := { program := "ytpnlpmalkiaioaa", sum := "70074607b7dbef98caa6aa214e69f4ff30ee5e0973bfcb1b9987a1d8d41f30ea", func := "loop.example/g01285/laws.FnExactMonomialOf", spec := "fnExactMonomialOf", unfollowed := true, recurses := true, plainKeys := false, apart := false }
def FnExactMonomialOfSaid : Prop := fnExactMonomialOfRow.holds Try.pinned (OpenSpec.ofChange fnExactMonomialOfSpec)

/-- ITS FALSE NEIGHBOUR: 'it returns false'. Refute it at one input. -/
def fnExactMonomialOfWrong : ChangeSpec := { name := "fnExactMonomialOf", fn := fun _ => fun
  | [d1, d2, d3, d4] => { results := [.lit (.bool false)], args := [d1, d2, d3, d4] }
  | _ => none }
def FnExactMonomialOfWrongFalsely : Prop := fnExactMonomialOfRow.holds Try.pinned (OpenSpec.ofChange fnExactMonomialOfWrong)

/-- 'laws.FnExactAddPolys': WHATEVER THE INPUT: true; the input reads as it did. -/
def fnExactAddPolysSpec : ChangeSpec := { name := "fnExactAddPolys", fn := fun _ => fun
  | [d1, d2, d3] => { results := [.lit (.bool true)], args := [d1, d2, d3] }
  | _ => none }
def fnExactAddPolysRow : OpenClaim := { program := "ytpnlpmalkiaioaa", sum := "70074607b7dbef98caa6aa214e69f4ff30ee5e0973bfcb1b9987a1d8d41f30ea", func := "loop.example/g01285/laws.FnExactAddPolys", spec := "fnExactAddPolys", unfollowed := true, recurses := true, plainKeys := false, apart := false }
def FnExactAddPolysSaid : Prop := fnExactAddPolysRow.holds Try.pinned (OpenSpec.ofChange fnExactAddPolysSpec)

/-- ITS FALSE NEIGHBOUR: 'it returns false'. Refute it at one input. -/
def fnExactAddPolysWrong : ChangeSpec := { name := "fnExactAddPolys", fn := fun _ => fun
  | [d1, d2, d3] => { results := [.lit (.bool false)], args := [d1, d2, d3] }
  | _ => none }
def FnExactAddPolysWrongFalsely : Prop := fnExactAddPolysRow.holds Try.pinned (OpenSpec.ofChange fnExactAddPolysWrong)

/-- 'laws.FnExactMultiplyPolys': WHATEVER THE INPUT: true; the input reads as it did. -/
def fnExactMultiplyPolysSpec : ChangeSpec := { name := "fnExactMultiplyPolys", fn := fun _ => fun
  | [d1, d2] => { results := [.lit (.bool true)], args := [d1, d2] }
  | _ => none }
def fnExactMultiplyPolysRow : OpenClaim := { program := "ytpnlpmalkiaioaa", sum := "70074607b7dbef98caa6aa214e69f4ff30ee5e0973bfcb1b9987a1d8d41f30ea", func := "loop.example/g01285/laws.FnExactMultiplyPolys", spec := "fnExactMultiplyPolys", unfollowed := true, recurses := true, plainKeys := false, apart := false }
def FnExactMultiplyPolysSaid : Prop := fnExactMultiplyPolysRow.holds Try.pinned (OpenSpec.ofChange fnExactMultiplyPolysSpec)

/-- ITS FALSE NEIGHBOUR: 'it returns false'. Refute it at one input. -/
def fnExactMultiplyPolysWrong : ChangeSpec := { name := "fnExactMultiplyPolys", fn := fun _ => fun
  | [d1, d2] => { results := [.lit (.bool false)], args := [d1, d2] }
  | _ => none }
def FnExactMultiplyPolysWrongFalsely : Prop := fnExactMultiplyPolysRow.holds Try.pinned (OpenSpec.ofChange fnExactMultiplyPolysWrong)

/-- 'laws.FnExactPowerPoly': WHATEVER THE INPUT: true; the input reads as it did. -/
def fnExactPowerPolySpec : ChangeSpec := { name := "fnExactPowerPoly", fn := fun _ => fun
  | [d1, d2] => { results := [.lit (.bool true)], args := [d1, d2] }
  | _ => none }
def fnExactPowerPolyRow : OpenClaim := { program := "ytpnlpmalkiaioaa", sum := "70074607b7dbef98caa6aa214e69f4ff30ee5e0973bfcb1b9987a1d8d41f30ea", func := "loop.example/g01285/laws.FnExactPowerPoly", spec := "fnExactPowerPoly", unfollowed := true, recurses := true, plainKeys := false, apart := false }
def FnExactPowerPolySaid : Prop := fnExactPowerPolyRow.holds Try.pinned (OpenSpec.ofChange fnExactPowerPolySpec)

/-- ITS FALSE NEIGHBOUR: 'it returns false'. Refute it at one input. -/
def fnExactPowerPolyWrong : ChangeSpec := { name := "fnExactPowerPoly", fn := fun _ => fun
  | [d1, d2] => { results := [.lit (.bool false)], args := [d1, d2] }
  | _ => none }
def FnExactPowerPolyWrongFalsely : Prop := fnExactPowerPolyRow.holds Try.pinned (OpenSpec.ofChange fnExactPowerPolyWrong)

/-- 'laws.FnExactPartOfDegree': WHATEVER THE INPUT: true; the input reads as it did. -/
def fnExactPartOfDegreeSpec : ChangeSpec := { name := "fnExactPartOfDegree", fn := fun _ => fun
  | [d1, d2] => { results := [.lit (.bool true)], args := [d1, d2] }
  | _ => none }
def fnExactPartOfDegreeRow : OpenClaim := { program := "ytpnlpmalkiaioaa", sum := "70074607b7dbef98caa6aa214e69f4ff30ee5e0973bfcb1b9987a1d8d41f30ea", func := "loop.example/g01285/laws.FnExactPartOfDegree", spec := "fnExactPartOfDegree", unfollowed := true, recurses := true, plainKeys := false, apart := false }
def FnExactPartOfDegreeSaid : Prop := fnExactPartOfDegreeRow.holds Try.pinned (OpenSpec.ofChange fnExactPartOfDegreeSpec)

/-- ITS FALSE NEIGHBOUR: 'it returns false'. Refute it at one input. -/
def fnExactPartOfDegreeWrong : ChangeSpec := { name := "fnExactPartOfDegree", fn := fun _ => fun
  | [d1, d2] => { results := [.lit (.bool false)], args := [d1, d2] }
  | _ => none }
def FnExactPartOfDegreeWrongFalsely : Prop := fnExactPartOfDegreeRow.holds Try.pinned (OpenSpec.ofChange fnExactPartOfDegreeWrong)

/-- 'laws.FnExactDerivativeOf': WHATEVER THE INPUT: true; the input reads as it did. -/
def fnExactDerivativeOfSpec : ChangeSpec := { name := "fnExactDerivativeOf", fn := fun _ => fun
  | [d1, d2] => { results := [.lit (.bool true)], args := [d1, d2] }
  | _ => none }
def fnExactDerivativeOfRow : OpenClaim := { program := "ytpnlpmalkiaioaa", sum := "70074607b7dbef98caa6aa214e69f4ff30ee5e0973bfcb1b9987a1d8d41f30ea", func := "loop.example/g01285/laws.FnExactDerivativeOf", spec := "fnExactDerivativeOf", unfollowed := true, recurses := true, plainKeys := false, apart := false }
def FnExactDerivativeOfSaid : Prop := fnExactDerivativeOfRow.holds Try.pinned (OpenSpec.ofChange fnExactDerivativeOfSpec)

/-- ITS FALSE NEIGHBOUR: 'it returns false'. Refute it at one input. -/
def fnExactDerivativeOfWrong : ChangeSpec := { name := "fnExactDerivativeOf", fn := fun _ => fun
  | [d1, d2] => { results := [.lit (.bool false)], args := [d1, d2] }
  | _ => none }
def FnExactDerivativeOfWrongFalsely : Prop := fnExactDerivativeOfRow.holds Try.pinned (OpenSpec.ofChange fnExactDerivativeOfWrong)

/- THE SECOND FORM. 'bulk': how many values and letters a reading holds, each counted each time it is reached (what is shared counts as often as it is met; a slice's spare places count too). A statement '..UptoSaid' is the law's where the arguments, and the package variables that the reading takes, are together of bulk at most 1048576: NARROWER than '..Said'. Prove '..Said' where nothing that the law and all that it calls make is longer than what came in: it says more and counts as full. Else prove '..UptoSaid'. A law counts once. -/
mutual
def uptoBulk {H : Type} : DataW H → Nat
  | .lit (.string bytes) => bytes.length + 1
  | .lit _ => 1
  | .nil => 1
  | .ptr d => uptoBulk d + 1
  | .slice elems spare => uptoBulkAll elems + uptoBulkAll spare + 1
  | .agg parts => uptoBulkAll parts + 1
  | .iface _ d => uptoBulk d + 1
  | .map entries => uptoBulkEntries entries + 1
  | .held _ => 1
def uptoBulkAll {H : Type} : List (DataW H) → Nat
  | [] => 0
  | d :: r => uptoBulk d + uptoBulkAll r
def uptoBulkEntries {H : Type} : List (Lit × DataW H) → Nat
  | [] => 0
  | x :: r => uptoBulkEntry x + uptoBulkEntries r
def uptoBulkEntry {H : Type} : Lit × DataW H → Nat
  | (.string bytes, d) => bytes.length + uptoBulk d + 1
  | (_, d) => uptoBulk d + 1
 end
def uptoSmall : (H : Type) → List (DataW H) → Bool := fun _ ds => decide (uptoBulkAll ds ≤ 1048576)
def OpenSpec.upto (s : _root_.Go.ChangeSpec) : _root_.Go.OpenSpec := { _root_.Go.OpenSpec.ofChange s with cond := some uptoSmall }

/-- 'laws.FnExactMonomialOf', WHERE WHAT IT READS IS OF BULK AT MOST 1048576: true; the input reads as it did. -/
def fnExactMonomialOfUptoRow : OpenClaim := { program := "ytpnlpmalkiaioaa", sum := "70074607b7dbef98caa6aa214e69f4ff30ee5e0973bfcb1b9987a1d8d41f30ea", func := "loop.example/g01285/laws.FnExactMonomialOf", spec := "fnExactMonomialOf", unfollowed := true, recurses := true, plainKeys := false, apart := false, narrowed := true }
def FnExactMonomialOfUptoSaid : Prop := fnExactMonomialOfUptoRow.holds Try.pinned (OpenSpec.upto fnExactMonomialOfSpec)

/-- 'laws.FnExactAddPolys', WHERE WHAT IT READS IS OF BULK AT MOST 1048576: true; the input reads as it did. -/
def fnExactAddPolysUptoRow : OpenClaim := { program := "ytpnlpmalkiaioaa", sum := "70074607b7dbef98caa6aa214e69f4ff30ee5e0973bfcb1b9987a1d8d41f30ea", func := "loop.example/g01285/laws.FnExactAddPolys", spec := "fnExactAddPolys", unfollowed := true, recurses := true, plainKeys := false, apart := false, narrowed := true }
def FnExactAddPolysUptoSaid : Prop := fnExactAddPolysUptoRow.holds Try.pinned (OpenSpec.upto fnExactAddPolysSpec)

/-- 'laws.FnExactMultiplyPolys', WHERE WHAT IT READS IS OF BULK AT MOST 1048576: true; the input reads as it did. -/
def fnExactMultiplyPolysUptoRow : OpenClaim := { program := "ytpnlpmalkiaioaa", sum := "70074607b7dbef98caa6aa214e69f4ff30ee5e0973bfcb1b9987a1d8d41f30ea", func := "loop.example/g01285/laws.FnExactMultiplyPolys", spec := "fnExactMultiplyPolys", unfollowed := true, recurses := true, plainKeys := false, apart := false, narrowed := true }
def FnExactMultiplyPolysUptoSaid : Prop := fnExactMultiplyPolysUptoRow.holds Try.pinned (OpenSpec.upto fnExactMultiplyPolysSpec)

/-- 'laws.FnExactPowerPoly', WHERE WHAT IT READS IS OF BULK AT MOST 1048576: true; the input reads as it did. -/
def fnExactPowerPolyUptoRow : OpenClaim := { program := "ytpnlpmalkiaioaa", sum := "70074607b7dbef98caa6aa214e69f4ff30ee5e0973bfcb1b9987a1d8d41f30ea", func := "loop.example/g01285/laws.FnExactPowerPoly", spec := "fnExactPowerPoly", unfollowed := true, recurses := true, plainKeys := false, apart := false, narrowed := true }
def FnExactPowerPolyUptoSaid : Prop := fnExactPowerPolyUptoRow.holds Try.pinned (OpenSpec.upto fnExactPowerPolySpec)

/-- 'laws.FnExactPartOfDegree', WHERE WHAT IT READS IS OF BULK AT MOST 1048576: true; the input reads as it did. -/
def fnExactPartOfDegreeUptoRow : OpenClaim := { program := "ytpnlpmalkiaioaa", sum := "70074607b7dbef98caa6aa214e69f4ff30ee5e0973bfcb1b9987a1d8d41f30ea", func := "loop.example/g01285/laws.FnExactPartOfDegree", spec := "fnExactPartOfDegree", unfollowed := true, recurses := true, plainKeys := false, apart := false, narrowed := true }
def FnExactPartOfDegreeUptoSaid : Prop := fnExactPartOfDegreeUptoRow.holds Try.pinned (OpenSpec.upto fnExactPartOfDegreeSpec)

/-- 'laws.FnExactDerivativeOf', WHERE WHAT IT READS IS OF BULK AT MOST 1048576: true; the input reads as it did. -/
def fnExactDerivativeOfUptoRow : OpenClaim := { program := "ytpnlpmalkiaioaa", sum := "70074607b7dbef98caa6aa214e69f4ff30ee5e0973bfcb1b9987a1d8d41f30ea", func := "loop.example/g01285/laws.FnExactDerivativeOf", spec := "fnExactDerivativeOf", unfollowed := true, recurses := true, plainKeys := false, apart := false, narrowed := true }
def FnExactDerivativeOfUptoSaid : Prop := fnExactDerivativeOfUptoRow.holds Try.pinned (OpenSpec.upto fnExactDerivativeOfSpec)

end Rows
end Go.Proofs.Ytpnlpmalkiaioaa
