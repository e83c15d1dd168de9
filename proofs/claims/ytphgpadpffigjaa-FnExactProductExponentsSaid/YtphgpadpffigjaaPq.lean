/-
  A polynomial in the making, beside boxes. Conditions: as each theorem states.
-/
import Derived.Test.YtphgpadpffigjaaPw
import Derived.Deep.RegionLaw
import Derived.Deep.AppendLies
namespace Go.Proofs.Ytphgpadpffigjaa
open Go.RowKit Go.Sort

/-- What stands in memory while a polynomial's terms are chosen: its own three cells (block q), the rows of its terms, the argument's box, the result's (blocks a and r). -/
structure Part (w wr : World) (base q a r : Nat) (p d : Int) (xv sv : Value) (O : List Tm) : Prop where
  rows : wr.ownsRow base 92 4 sv O.length (cells4 O)
  out : wr.rowIs q 36 3 (polyF p d sv)
  arg : wr.rowIs a 36 3 (polyF p d xv)
  res : wr.rowIs r 36 3 (polyF 0 0 (.slice none 0 0))
  below : Below w.heap.size w wr
  b1 : w.heap.size ≤ base
  b2 : base ≤ wr.heap.size
  b3 : w.heap.size ≤ q
  b4 : w.heap.size ≤ r
  qa : a ≠ q
  qr : r ≠ q
theorem Part.later {w wr w1 : World} {base q a r : Nat} {p d : Int} {xv sv : Value} {O : List Tm} (h : Part w wr base q a r p d xv sv O) (hb : Below wr.heap.size wr w1) : Part w w1 base q a r p d xv sv O :=
  ⟨owns_belowT h.rows hb, rowIs_below h.out hb h.out.lt, rowIs_below h.arg hb h.arg.lt, rowIs_below h.res hb h.res.lt, h.below.trans (hb.mono h.below.size), h.b1, Nat.le_trans h.b2 hb.size, h.b3, h.b4, h.qa, h.qr⟩
theorem Part.more {w wr wx w2 : World} {base q a r : Nat} {p d : Int} {xv sv sv' : Value} {O : List Tm} {t : Tm} (h : Part w wr base q a r p d xv sv O) (hb : Below wr.heap.size wr wx)
    (hg : wx.grownBy w2 sv.ownBlock) (ho : w2.ownsRow base 92 4 sv' (O.length + 1) (cells4 O ++ cell4 t)) : Part w (w2.setCell ⟨q, 2, none⟩ sv') base q a r p d xv sv' (O ++ [t]) ∧ w2.rowIs q 36 3 (polyF p d sv) := by
  have h1 := h.later hb
  have hn1 : 36 ≠ 92 := by decide
  have r1 := rowIs_grown h1.out hg h1.rows hn1
  have r2 := rowIs_grown h1.arg hg h1.rows hn1
  have r4 := rowIs_grown h1.res hg h1.rows hn1
  refine ⟨⟨?_, ?_, r2.setOther (by simpa using fun e => h.qa e) _, r4.setOther (by simpa using fun e => h.qr e) _, ?_, h.b1, ?_, h.b3, h.b4, h.qa, h.qr⟩, r1⟩
  · rw [cells4_snoc, show (O ++ [t]).length = O.length + 1 by simp]
    exact ho.kept (row := some q) ⟨rfl, rfl, rfl, by rw [World.size_setCell]; exact Nat.le_refl _, fun k hk hne => Below.heap_setCell w2 ⟨q, 2, none⟩ sv' k (fun e => hne (by rw [e]))⟩ (own_ne r1 ho hn1)
  · refine (r1.set 2 sv').congr fun i hi => ?_
    rw [congrFun (polyF_set p d sv sv') i, if_pos hi]
  · have hb1 := h.b1
    have hb3 := h.b3
    exact (h1.below.grown hg (Nat.le_trans hb1 h1.b2) (fun k hk => Nat.le_trans hb1 (h1.rows.lt k hk).1)).setCell (by simpa using hb3) _
  · rw [World.size_setCell]; exact Nat.le_trans h1.b2 hg.size
theorem Part.finish {w wr : World} {base q a r : Nat} {p d : Int} {xv sv : Value} {O : List Tm} (h : Part w wr base q a r p d xv sv O) (p' d' : Int) :
    (((wr.setCell ⟨r, 0, none⟩ (.int .i64 p')).setCell ⟨r, 1, none⟩ (.int .i64 d')).setCell ⟨r, 2, none⟩ sv).cell? ⟨r, 0, none⟩ = some (.int .i64 p') ∧
    (((wr.setCell ⟨r, 0, none⟩ (.int .i64 p')).setCell ⟨r, 1, none⟩ (.int .i64 d')).setCell ⟨r, 2, none⟩ sv).cell? ⟨r, 1, none⟩ = some (.int .i64 d') ∧
    (((wr.setCell ⟨r, 0, none⟩ (.int .i64 p')).setCell ⟨r, 1, none⟩ (.int .i64 d')).setCell ⟨r, 2, none⟩ sv).cell? ⟨r, 2, none⟩ = some sv ∧
    (((wr.setCell ⟨r, 0, none⟩ (.int .i64 p')).setCell ⟨r, 1, none⟩ (.int .i64 d')).setCell ⟨r, 2, none⟩ sv).ownsRow w.heap.size 92 4 sv O.length (cells4 O) ∧
    Below w.heap.size w (((wr.setCell ⟨r, 0, none⟩ (.int .i64 p')).setCell ⟨r, 1, none⟩ (.int .i64 d')).setCell ⟨r, 2, none⟩ sv) := by
  have R := ((h.res.set 0 (.int .i64 p')).set 1 (.int .i64 d')).set 2 sv
  have hb1 := h.b1
  have hb4 := h.b4
  refine ⟨R.cell (i := 0) (by omega), R.cell (i := 1) (by omega), R.cell (i := 2) (by omega), ?_, ((h.below.setCell (by simpa using hb4) _).setCell (by simpa using hb4) _).setCell (by simpa using hb4) _⟩
  refine owns_low (h.rows.kept (row := some r) ⟨rfl, rfl, rfl, by simp only [World.size_setCell]; exact Nat.le_refl _, fun k hk hne => ?_⟩ (own_ne h.res h.rows (by decide))) hb1
  have hk : k ≠ r := fun e => hne (by rw [e])
  exact (Below.heap_setCell _ ⟨r, 2, none⟩ sv k hk).trans ((Below.heap_setCell _ ⟨r, 1, none⟩ _ k hk).trans (Below.heap_setCell _ ⟨r, 0, none⟩ _ k hk))
end Go.Proofs.Ytphgpadpffigjaa
