/-
  ACTIONS: what a matrix makes of the letters, in memory. Conditions: as each theorem states.
-/
import Derived.Test.YtllklhakbanhaaaGreatQ13
import Derived.Test.YtllklhakbanhaaaGreatQ19
import Derived.Test.YtllklhakbanhaaaGreatQ26
namespace Go.Proofs.YtllklhakbanhaaaGreat
open Go.RowKit Go.Sort Go.Maps EchM

theorem infoPoly : (Tryz.prog.info? 39).map (fun i => (i.zero, i.size, i.bytes)) = some (some (.agg #[.int .i64 0, .int .i64 0, .slice none 0 0]), 3, 40) := by kernel_rfl
def madeP (n : Nat) : Array Value := madeCells (Value.agg #[.int .i64 0, .int .i64 0, .slice none 0 0]).cells (n * 3)
theorem madeP_row (w : World) (n : Nat) (t : TypeId) : (w.alloc (.cells (madeP n) t)).rowIs w.heap.size t (n * 3) (fun i => (madeP n).getD i undef) := by
  have hs : (madeP n).size = n * 3 := by simp [madeP, madeCells]
  refine ⟨madeP n, heap_alloc_new w _, hs, fun i hi => ?_⟩
  simp [Array.getD, hs, hi]
/-- The polynomials that the letters become. -/
def formsP (p : Int) (n : Nat) (g : Nat → Nat → Int) : List Pm := (List.range n).map fun j => (p, (n : Int), formL g j)
theorem formsP_len (p : Int) (n : Nat) (g : Nat → Nat → Int) : (formsP p n g).length = n := by simp [formsP]
theorem formsP_at {p : Int} {n : Nat} {g : Nat → Nat → Int} {j : Nat} (h : j < (formsP p n g).length) : (formsP p n g)[j] = (p, (n : Int), formL g j) := by simp [formsP]
theorem formsP_tms (p : Int) (n : Nat) (g : Nat → Nat → Int) : tmsL (formsP p n g) = formsL g n := by
  simp [tmsL, formsP, formsL]
/-- The first j polynomials of a row are there. -/
structure FormsW (w : World) (base gb n : Nat) (p : Int) (g : Nat → Nat → Int) (j : Nat) (F : Nat → Value) : Prop where
  row : w.rowIs gb 39 (n * 3) F
  at' : ∀ i, i < j → ∃ u, F (i * 3) = .int .i64 p ∧ F (i * 3 + 1) = .int .i64 n ∧ F (i * 3 + 2) = u ∧ OwnP w base u (formL g i)
theorem FormsW.later {w w' : World} {base gb n : Nat} {p : Int} {g : Nat → Nat → Int} {j : Nat} {F : Nat → Value} (h : FormsW w base gb n p g j F) (hb : Below w.heap.size w w') : FormsW w' base gb n p g j F :=
  ⟨rowIs_below h.row hb h.row.lt, fun i hi => by
    obtain ⟨u, a, b, c, d⟩ := h.at' i hi
    exact ⟨u, a, b, c, owns_belowT d hb⟩⟩
theorem own_set {w : World} {base b i N : Nat} {f : Nat → Value} {v x : Value} {S : List Tm} (h : OwnP w base v S) (hr : w.rowIs b 39 N f) : OwnP (w.setCell ⟨b, i, none⟩ x) base v S :=
  h.kept (row := some b) ⟨rfl, rfl, rfl, by rw [World.size_setCell]; exact Nat.le_refl _, fun k hk hne => Below.heap_setCell w ⟨b, i, none⟩ x k (fun e => hne (by rw [e]))⟩ (own_ne hr h (by decide))
theorem own_set3 {w : World} {base b i0 i1 i2 N : Nat} {f : Nat → Value} {v x0 x1 x2 : Value} {S : List Tm} (h : OwnP w base v S) (hr : w.rowIs b 39 N f) : OwnP (((w.setCell ⟨b, i0, none⟩ x0).setCell ⟨b, i1, none⟩ x1).setCell ⟨b, i2, none⟩ x2) base v S :=
  own_set (own_set (own_set h hr) (hr.set i0 x0)) ((hr.set i0 x0).set i1 x1)
theorem FormsW.put {w : World} {base base' gb n : Nat} {p : Int} {g : Nat → Nat → Int} {j : Nat} {F : Nat → Value} {u : Value} (h : FormsW w base gb n p g j F) (ho : OwnP w base' u (formL g j)) (hb : base ≤ base') :
    FormsW (((w.setCell ⟨gb, j * 3, none⟩ (.int .i64 p)).setCell ⟨gb, j * 3 + 1, none⟩ (.int .i64 n)).setCell ⟨gb, j * 3 + 2, none⟩ u) base gb n p g (j + 1) (fun i => if i = j * 3 + 2 then u else if i = j * 3 + 1 then .int .i64 n else if i = j * 3 then .int .i64 p else F i) := by
  refine ⟨((h.row.set (j * 3) (.int .i64 p)).set (j * 3 + 1) (.int .i64 n)).set (j * 3 + 2) u, fun i hi => ?_⟩
  by_cases e : i = j
  · subst e
    refine ⟨u, ?_, ?_, ?_, owns_low (own_set3 ho h.row) hb⟩
    · rw [if_neg (by omega), if_neg (by omega), if_pos rfl]
    · rw [if_neg (by omega), if_pos rfl]
    · rw [if_pos rfl]
  · obtain ⟨v, a, b, c, d⟩ := h.at' i (by omega)
    refine ⟨v, ?_, ?_, ?_, own_set3 d h.row⟩
    · rw [if_neg (by omega), if_neg (by omega), if_neg (by omega), a]
    · rw [if_neg (by omega), if_neg (by omega), if_neg (by omega), b]
    · rw [if_neg (by omega), if_neg (by omega), if_neg (by omega), c]
theorem FormsW.done {w : World} {base gb n : Nat} {p : Int} {g : Nat → Nat → Int} {F : Nat → Value} (h : FormsW w base gb n p g n F) : SlP w (.slice (some ⟨gb, 0, none⟩) n n) (formsP p n g) := by
  refine ⟨some ⟨gb, 0, none⟩, n, by rw [formsP_len], .inr ⟨gb, 0, rfl, h.row.lt, fun k hk => ?_⟩⟩
  rw [formsP_len] at hk
  rw [formsP_at]
  obtain ⟨u, a, b, c, d⟩ := h.at' k hk
  refine ⟨u, ?_, ?_, ?_, OwnP.slice d⟩
  · rw [Nat.zero_add, h.row.cell (by omega), a]
  · rw [Nat.zero_add, h.row.cell (by omega), b]
  · rw [Nat.zero_add, h.row.cell (by omega), c]
theorem unE_row {w : World} {i : Nat} (hi : i < 3) : ((w.alloc (.cells #[.int .u8 0, .int .u8 0, .int .u8 0] 88)).setCell ⟨w.heap.size, i, none⟩ (.int .u8 1)).rowIs w.heap.size 88 3 (expsF (unE i).1 (unE i).2.1 (unE i).2.2) := by
  have h := World.rowIs_alloc w #[Value.int .u8 0, .int .u8 0, .int .u8 0] 88 (expsF 0 0 0) (fun i hi => by simp at hi; match i, hi with | 0, _ => rfl | 1, _ => rfl | 2, _ => rfl)
  refine (h.set i (.int .u8 1)).congr fun k hk => ?_
  match i, k, hi, hk with
  | 0, 0, _, _ => rfl
  | 0, 1, _, _ => rfl
  | 0, 2, _, _ => rfl
  | 1, 0, _, _ => rfl
  | 1, 1, _, _ => rfl
  | 1, 2, _, _ => rfl
  | 2, 0, _, _ => rfl
  | 2, 1, _, _ => rfl
  | 2, 2, _, _ => rfl
end Go.Proofs.YtllklhakbanhaaaGreat
