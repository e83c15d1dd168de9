/-
  No cell of these rows narrows 'for every input' (looked for: loops, veiled, ifaces, maps, wideKeys, modest, calm, conditions, laid).
  DERIVED. THE GIVEN ROWS OF THIS SEAT. 6 by the template 'for every input the law returns true; each argument reads behind the call as it read before'; 0 by the template 'total and deterministic' (their statements: YtbhgbifliihlbaaTotals.lean).
  GIVEN WITH THE SEED: the statements are not yours to turn. If you find one false, say at which input.
  Laid BY PROGRAM, IN A SANDBOX (cutbox-rows.mjs): the forced cells as the released guide's own fill.sh prints them over the translation 62ed477ac7a513e6… (all of the seat's roots in one cut). By AI agents, Wed Nov 11 2026. No macro, syntax, notation, axiom, sorry.
-/
import Derived.Test.YtbhgbifliihlbaaChecked
import GoSem.Claim
import GoSem.ClaimJoined
import GoSem.ClaimMapViews
import Derived.JoinedTies
import Derived.KernelRfl
namespace Go.Proofs.Ytbhgbifliihlbaa
/- THE CELL 'sum', in the pinned program and in every row, IS THE sha256 OF THE DUMP (.gsa) THAT YtbhgbifliihlbaaProg.lean LOADS. Nothing in Lean hashes anything: it is a label: what it is worth is what the hold of that sum in a sandbox is worth. -/
noncomputable def Try.pinned : Pinned := { name := "ytbhgbifliihlbaa", sum := "62ed477ac7a513e6158e52586a9395ad5d9e9c3df9155311e935a61241cb6fa2", checked := Try.checked }
namespace Rows
def none {H : Type} : Left H := { results := [], args := [] }

/-- 'laws.FnExactReduceRows': WHATEVER THE INPUT: true; the input reads as it did. -/
def fnExactReduceRowsSpec : ChangeSpec := { name := "fnExactReduceRows", fn := fun _ => fun
  | [d1, d2, d3] => { results := [.lit (.bool true)], args := [d1, d2, d3] }
  | _ => none }
def fnExactReduceRowsRow : OpenClaim := { program := "ytbhgbifliihlbaa", sum := "62ed477ac7a513e6158e52586a9395ad5d9e9c3df9155311e935a61241cb6fa2", func := "loop.example/g01285/laws.FnExactReduceRows", spec := "fnExactReduceRows", unfollowed := true, recurses := true, plainKeys := false, apart := false }
def FnExactReduceRowsSaid : Prop := fnExactReduceRowsRow.holds Try.pinned (OpenSpec.ofChange fnExactReduceRowsSpec)

/-- ITS FALSE NEIGHBOUR: 'it returns false'. Refute it at one input. -/
def fnExactReduceRowsWrong : ChangeSpec := { name := "fnExactReduceRows", fn := fun _ => fun
  | [d1, d2, d3] => { results := [.lit (.bool false)], args := [d1, d2, d3] }
  | _ => none }
def FnExactReduceRowsWrongFalsely : Prop := fnExactReduceRowsRow.holds Try.pinned (OpenSpec.ofChange fnExactReduceRowsWrong)

/-- 'laws.FnExactProductExponents': WHATEVER THE INPUT: true; the input reads as it did. -/
def fnExactProductExponentsSpec : ChangeSpec := { name := "fnExactProductExponents", fn := fun _ => fun
  | [d1, d2] => { results := [.lit (.bool true)], args := [d1, d2] }
  | _ => none }
def fnExactProductExponentsRow : OpenClaim := { program := "ytbhgbifliihlbaa", sum := "62ed477ac7a513e6158e52586a9395ad5d9e9c3df9155311e935a61241cb6fa2", func := "loop.example/g01285/laws.FnExactProductExponents", spec := "fnExactProductExponents", unfollowed := true, recurses := true, plainKeys := false, apart := false }
def FnExactProductExponentsSaid : Prop := fnExactProductExponentsRow.holds Try.pinned (OpenSpec.ofChange fnExactProductExponentsSpec)

/-- ITS FALSE NEIGHBOUR: 'it returns false'. Refute it at one input. -/
def fnExactProductExponentsWrong : ChangeSpec := { name := "fnExactProductExponents", fn := fun _ => fun
  | [d1, d2] => { results := [.lit (.bool false)], args := [d1, d2] }
  | _ => none }
def FnExactProductExponentsWrongFalsely : Prop := fnExactProductExponentsRow.holds Try.pinned (OpenSpec.ofChange fnExactProductExponentsWrong)

/-- 'laws.FnExactProductOfList': WHATEVER THE INPUT: true; the input reads as it did. -/
def fnExactProductOfListSpec : ChangeSpec := { name := "fnExactProductOfList", fn := fun _ => fun
  | [d1, d2] => { results := [.lit (.bool true)], args := [d1, d2] }
  | _ => none }
def fnExactProductOfListRow : OpenClaim := { program := "ytbhgbifliihlbaa", sum := "62ed477ac7a513e6158e52586a9395ad5d9e9c3df9155311e935a61241cb6fa2", func := "loop.example/g01285/laws.FnExactProductOfList", spec := "fnExactProductOfList", unfollowed := true, recurses := true, plainKeys := false, apart := false }
def FnExactProductOfListSaid : Prop := fnExactProductOfListRow.holds Try.pinned (OpenSpec.ofChange fnExactProductOfListSpec)

/-- ITS FALSE NEIGHBOUR: 'it returns false'. Refute it at one input. -/
def fnExactProductOfListWrong : ChangeSpec := { name := "fnExactProductOfList", fn := fun _ => fun
  | [d1, d2] => { results := [.lit (.bool false)], args := [d1, d2] }
  | _ => none }
def FnExactProductOfListWrongFalsely : Prop := fnExactProductOfListRow.holds Try.pinned (OpenSpec.ofChange fnExactProductOfListWrong)

/-- 'laws.FnExactRowOfPoly': WHATEVER THE INPUT: true; the input reads as it did. -/
def fnExactRowOfPolySpec : ChangeSpec := { name := "fnExactRowOfPoly", fn := fun _ => fun
  | [d1, d2] => { results := [.lit (.bool true)], args := [d1, d2] }
  | _ => none }
def fnExactRowOfPolyRow : OpenClaim := { program := "ytbhgbifliihlbaa", sum := "62ed477ac7a513e6158e52586a9395ad5d9e9c3df9155311e935a61241cb6fa2", func := "loop.example/g01285/laws.FnExactRowOfPoly", spec := "fnExactRowOfPoly", unfollowed := true, recurses := true, plainKeys := false, apart := false }
def FnExactRowOfPolySaid : Prop := fnExactRowOfPolyRow.holds Try.pinned (OpenSpec.ofChange fnExactRowOfPolySpec)

/-- ITS FALSE NEIGHBOUR: 'it returns false'. Refute it at one input. -/
def fnExactRowOfPolyWrong : ChangeSpec := { name := "fnExactRowOfPoly", fn := fun _ => fun
  | [d1, d2] => { results := [.lit (.bool false)], args := [d1, d2] }
  | _ => none }
def FnExactRowOfPolyWrongFalsely : Prop := fnExactRowOfPolyRow.holds Try.pinned (OpenSpec.ofChange fnExactRowOfPolyWrong)

/-- 'laws.FnExactPolyOfRow': WHATEVER THE INPUT: true; the input reads as it did. -/
def fnExactPolyOfRowSpec : ChangeSpec := { name := "fnExactPolyOfRow", fn := fun _ => fun
  | [d1, d2, d3, d4] => { results := [.lit (.bool true)], args := [d1, d2, d3, d4] }
  | _ => none }
def fnExactPolyOfRowRow : OpenClaim := { program := "ytbhgbifliihlbaa", sum := "62ed477ac7a513e6158e52586a9395ad5d9e9c3df9155311e935a61241cb6fa2", func := "loop.example/g01285/laws.FnExactPolyOfRow", spec := "fnExactPolyOfRow", unfollowed := true, recurses := true, plainKeys := false, apart := false }
def FnExactPolyOfRowSaid : Prop := fnExactPolyOfRowRow.holds Try.pinned (OpenSpec.ofChange fnExactPolyOfRowSpec)

/-- ITS FALSE NEIGHBOUR: 'it returns false'. Refute it at one input. -/
def fnExactPolyOfRowWrong : ChangeSpec := { name := "fnExactPolyOfRow", fn := fun _ => fun
  | [d1, d2, d3, d4] => { results := [.lit (.bool false)], args := [d1, d2, d3, d4] }
  | _ => none }
def FnExactPolyOfRowWrongFalsely : Prop := fnExactPolyOfRowRow.holds Try.pinned (OpenSpec.ofChange fnExactPolyOfRowWrong)

/-- 'laws.FnExactFreeNumber': WHATEVER THE INPUT: true; the input reads as it did. -/
def fnExactFreeNumberSpec : ChangeSpec := { name := "fnExactFreeNumber", fn := fun _ => fun
  | [d1, d2] => { results := [.lit (.bool true)], args := [d1, d2] }
  | _ => none }
def fnExactFreeNumberRow : OpenClaim := { program := "ytbhgbifliihlbaa", sum := "62ed477ac7a513e6158e52586a9395ad5d9e9c3df9155311e935a61241cb6fa2", func := "loop.example/g01285/laws.FnExactFreeNumber", spec := "fnExactFreeNumber", unfollowed := true, recurses := true, plainKeys := false, apart := false }
def FnExactFreeNumberSaid : Prop := fnExactFreeNumberRow.holds Try.pinned (OpenSpec.ofChange fnExactFreeNumberSpec)

/-- ITS FALSE NEIGHBOUR: 'it returns false'. Refute it at one input. -/
def fnExactFreeNumberWrong : ChangeSpec := { name := "fnExactFreeNumber", fn := fun _ => fun
  | [d1, d2] => { results := [.lit (.bool false)], args := [d1, d2] }
  | _ => none }
def FnExactFreeNumberWrongFalsely : Prop := fnExactFreeNumberRow.holds Try.pinned (OpenSpec.ofChange fnExactFreeNumberWrong)

/- THE SECOND FORM. 'bulk': how many values and letters a reading holds, each counted each time it is reached (what is shared counts as often as it is met; a slice's spare places count too). A statement '..UptoSaid' is the law's where the arguments, and the package variables that the reading takes, are together of bulk at most 1048576: NARROWER than '..Said'. Prove '..Said' where nothing that the law and all that it calls make is longer than what came in: it says more and counts as full. Else prove '..UptoSaid'. A law counts once. -/
mutual
def uptoBulk {H : Type} : DataW H → Nat
  | .lit (.string bytes) => bytes.length + 1
  | .lit _ => 1
  | .nil => 1
  | .ptr d => uptoBulk d + 1
  | .slice elems spare => uptoBulkAll elems + uptoBulkAll spare + 1
  | .agg parts => uptoBulkAll parts + 1
  | .iface _ d => uptoBulk d + 1
  | .map entries => uptoBulkEntries entries + 1
  | .held _ => 1
def uptoBulkAll {H : Type} : List (DataW H) → Nat
  | [] => 0
  | d :: r => uptoBulk d + uptoBulkAll r
def uptoBulkEntries {H : Type} : List (Lit × DataW H) → Nat
  | [] => 0
  | x :: r => uptoBulkEntry x + uptoBulkEntries r
def uptoBulkEntry {H : Type} : Lit × DataW H → Nat
  | (.string bytes, d) => bytes.length + uptoBulk d + 1
  | (_, d) => uptoBulk d + 1
 end
def uptoSmall : (H : Type) → List (DataW H) → Bool := fun _ ds => decide (uptoBulkAll ds ≤ 1048576)
def OpenSpec.upto (s : _root_.Go.ChangeSpec) : _root_.Go.OpenSpec := { _root_.Go.OpenSpec.ofChange s with cond := some uptoSmall }

/-- 'laws.FnExactReduceRows', WHERE WHAT IT READS IS OF BULK AT MOST 1048576: true; the input reads as it did. -/
def fnExactReduceRowsUptoRow : OpenClaim := { program := "ytbhgbifliihlbaa", sum := "62ed477ac7a513e6158e52586a9395ad5d9e9c3df9155311e935a61241cb6fa2", func := "loop.example/g01285/laws.FnExactReduceRows", spec := "fnExactReduceRows", unfollowed := true, recurses := true, plainKeys := false, apart := false, narrowed := true }
def FnExactReduceRowsUptoSaid : Prop := fnExactReduceRowsUptoRow.holds Try.pinned (OpenSpec.upto fnExactReduceRowsSpec)

/-- 'laws.FnExactProductExponents', WHERE WHAT IT READS IS OF BULK AT MOST 1048576: true; the input reads as it did. -/
def fnExactProductExponentsUptoRow : OpenClaim := { program := "ytbhgbifliihlbaa", sum := "62ed477ac7a513e6158e52586a9395ad5d9e9c3df9155311e935a61241cb6fa2", func := "loop.example/g01285/laws.FnExactProductExponents", spec := "fnExactProductExponents", unfollowed := true, recurses := true, plainKeys := false, apart := false, narrowed := true }
def FnExactProductExponentsUptoSaid : Prop := fnExactProductExponentsUptoRow.holds Try.pinned (OpenSpec.upto fnExactProductExponentsSpec)

/-- 'laws.FnExactProductOfList', WHERE WHAT IT READS IS OF BULK AT MOST 1048576: true; the input reads as it did. -/
def fnExactProductOfListUptoRow : OpenClaim := { program := "ytbhgbifliihlbaa", sum := "62ed477ac7a513e6158e52586a9395ad5d9e9c3df9155311e935a61241cb6fa2", func := "loop.example/g01285/laws.FnExactProductOfList", spec := "fnExactProductOfList", unfollowed := true, recurses := true, plainKeys := false, apart := false, narrowed := true }
def FnExactProductOfListUptoSaid : Prop := fnExactProductOfListUptoRow.holds Try.pinned (OpenSpec.upto fnExactProductOfListSpec)

/-- 'laws.FnExactRowOfPoly', WHERE WHAT IT READS IS OF BULK AT MOST 1048576: true; the input reads as it did. -/
def fnExactRowOfPolyUptoRow : OpenClaim := { program := "ytbhgbifliihlbaa", sum := "62ed477ac7a513e6158e52586a9395ad5d9e9c3df9155311e935a61241cb6fa2", func := "loop.example/g01285/laws.FnExactRowOfPoly", spec := "fnExactRowOfPoly", unfollowed := true, recurses := true, plainKeys := false, apart := false, narrowed := true }
def FnExactRowOfPolyUptoSaid : Prop := fnExactRowOfPolyUptoRow.holds Try.pinned (OpenSpec.upto fnExactRowOfPolySpec)

/-- 'laws.FnExactPolyOfRow', WHERE WHAT IT READS IS OF BULK AT MOST 1048576: true; the input reads as it did. -/
def fnExactPolyOfRowUptoRow : OpenClaim := { program := "ytbhgbifliihlbaa", sum := "62ed477ac7a513e6158e52586a9395ad5d9e9c3df9155311e935a61241cb6fa2", func := "loop.example/g01285/laws.FnExactPolyOfRow", spec := "fnExactPolyOfRow", unfollowed := true, recurses := true, plainKeys := false, apart := false, narrowed := true }
def FnExactPolyOfRowUptoSaid : Prop := fnExactPolyOfRowUptoRow.holds Try.pinned (OpenSpec.upto fnExactPolyOfRowSpec)

/-- 'laws.FnExactFreeNumber', WHERE WHAT IT READS IS OF BULK AT MOST 1048576: true; the input reads as it did. -/
def fnExactFreeNumberUptoRow : OpenClaim := { program := "ytbhgbifliihlbaa", sum := "62ed477ac7a513e6158e52586a9395ad5d9e9c3df9155311e935a61241cb6fa2", func := "loop.example/g01285/laws.FnExactFreeNumber", spec := "fnExactFreeNumber", unfollowed := true, recurses := true, plainKeys := false, apart := false, narrowed := true }
def FnExactFreeNumberUptoSaid : Prop := fnExactFreeNumberUptoRow.holds Try.pinned (OpenSpec.upto fnExactFreeNumberSpec)

end Rows
end Go.Proofs.Ytbhgbifliihlbaa
