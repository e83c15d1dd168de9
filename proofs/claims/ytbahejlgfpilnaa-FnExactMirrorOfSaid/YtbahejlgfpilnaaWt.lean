/-
  ROWS loaded and stored whole in plain regions: laws told by the operation's text. Conditions: as each theorem states.
-/
import Derived.Deep.MidRow
namespace Go.Proofs.Ytbahejlgfpilnaa

theorem list_store_row {P : Program} {ops : Array Oper} {rest : List Oper} {Q : Exit → Act → World → Prop} {a : Act} {w w' : World} {tt : TypeId} {pos : String} {af : Array Edge} {ty : TypeId} {x y : Tmp} (b f : Nat) (cs : List Value)
    (hx : a.eval (.tmp x) = .pointer (some ⟨b, f, none⟩)) (hy : a.eval (.tmp y) = .agg cs.toArray) (ht : w.there b f cs.length) (hi : (P.info? ty).map (·.size) = some cs.length) (h1 : ∀ v ∈ cs, v.oneCell' = true) (hw : w.setCells b f cs = w')
    (h : wpList P ops Q rest a w') : wpList P ops Q ({ dst := none, op := .store ty (.tmp x) (.tmp y), type := tt, pos := pos, after := af, guard := none } :: rest) a w :=
  wpList_store_mid rfl ty (.tmp x) (.tmp y) rfl b f cs.toArray hx hy (by simpa using ht) (by simpa using hi) (all_oneCell_toArray h1) (by simpa [Act.put, hw] using h)
theorem list_load_row {P : Program} {ops : Array Oper} {rest : List Oper} {Q : Exit → Act → World → Prop} {a : Act} {w : World} {tt : TypeId} {pos : String} {af : Array Edge} {ty : TypeId} {x d : Tmp} (b f : Nat) (cs : List Value) (td : TypeDesc)
    (hx : a.eval (.tmp x) = .pointer (some ⟨b, f, none⟩)) (hc : w.rangeAt b f cs) (hu : P.underlying ty = some td) (hd : td.isRow = true) (hi : (P.info? ty).map (·.size) = some cs.length)
    (h : wpList P ops Q rest (a.put (some d) (.agg cs.toArray)) w) : wpList P ops Q ({ dst := some d, op := .load ty (.tmp x), type := tt, pos := pos, after := af, guard := none } :: rest) a w :=
  wpList_load_mid rfl ty (.tmp x) rfl b f hx cs td hc hu hd hi h
end Go.Proofs.Ytbahejlgfpilnaa
