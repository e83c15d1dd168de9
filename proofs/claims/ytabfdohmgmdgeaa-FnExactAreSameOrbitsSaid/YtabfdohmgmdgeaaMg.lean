/-
  LISTS OF MATRICES that grow, and a group that is built in a block of its own. Conditions: as each theorem states.
-/
import Derived.Test.YtabfdohmgmdgeaaJc
import Derived.Test.YtabfdohmgmdgeaaEz
import Derived.Test.YtabfdohmgmdgeaaGy
import Derived.Deep.RegionLaw
import Derived.Deep.RegionWith
namespace Go.Proofs.Ytabfdohmgmdgeaa
open Go.RowKit Go.Sort EchM

theorem mrow_grown {w w' : World} {b n m base size : Nat} {t e : TypeId} {f : Nat → Value} {v : Value} {xs : List Value} (h : w.rowIs b t n f) (hg : w.grownBy w' v.ownBlock) (ho : w.ownsRow base e size v m xs) (hne : t ≠ e) : w'.rowIs b t n f := by
  refine h.of_block (hg.block b h.lt fun hb => ?_)
  obtain ⟨c, hc, _⟩ := h
  obtain ⟨_, ⟨rfl, _⟩ | ⟨g, cap, cur, rfl, _, hgc, _⟩⟩ := ho
  · simp [Value.ownBlock] at hb
  · simp [Value.ownBlock] at hb
    subst hb
    rw [hc] at hgc
    simp at hgc
    exact hne hgc.2


theorem mown_ne {w : World} {b n m base size : Nat} {t e : TypeId} {f : Nat → Value} {v : Value} {xs : List Value} (h : w.rowIs b t n f) (ho : w.ownsRow base e size v m xs) (hne : t ≠ e) : v.ownBlock = none ∨ v.ownBlock ≠ some b := by
  obtain ⟨c, hc, _⟩ := h
  obtain ⟨_, ⟨rfl, _⟩ | ⟨g, cap, cur, rfl, _, hgc, _⟩⟩ := ho
  · exact .inl rfl
  · refine .inr fun hb => ?_
    simp [Value.ownBlock] at hb
    subst hb
    rw [hc] at hgc
    simp at hgc
    exact hne hgc.2

theorem mown_slice {w : World} {base : Nat} {e : TypeId} {size : Nat} {v : Value} {n : Nat} {xs : List Value} (h : w.ownsRow base e size v n xs) : ∃ a c, v = .slice a n c := by
  obtain ⟨_, ⟨hv, hn⟩ | ⟨g, cap, cur, hv, _⟩⟩ := h
  · exact ⟨none, 0, by rw [hv, hn]⟩
  · exact ⟨_, _, hv⟩

theorem mown_set {w : World} {base : Nat} {e : TypeId} {size n : Nat} {v : Value} {xs : List Value} (h : w.ownsRow base e size v n xs) (b o : Nat) (x : Value) (hne : v.ownBlock ≠ some b) : (w.setCell ⟨b, o, none⟩ x).ownsRow base e size v n xs :=
  h.kept (row := some b) ⟨rfl, rfl, rfl, by rw [World.size_setCell]; exact Nat.le_refl _, fun k hk hk2 => Below.heap_setCell w ⟨b, o, none⟩ x k (fun e => hk2 (by rw [e]))⟩ (.inr hne)
/-- The cells of a list of matrices. -/
def cell9 (g : Nat → Nat → Int) : List Value := [.int .u8 (g 0 0), .int .u8 (g 0 1), .int .u8 (g 0 2), .int .u8 (g 1 0), .int .u8 (g 1 1), .int .u8 (g 1 2), .int .u8 (g 2 0), .int .u8 (g 2 1), .int .u8 (g 2 2)]
def cells9 (L : List (Nat → Nat → Int)) : List Value := L.flatMap cell9
theorem cells9_snoc (L : List (Nat → Nat → Int)) (g : Nat → Nat → Int) : cells9 (L ++ [g]) = cells9 L ++ cell9 g := by simp [cells9]
theorem cells9_len (L : List (Nat → Nat → Int)) : (cells9 L).length = L.length * 9 := by
  induction L with
  | nil => rfl
  | cons x r ih => simp [cells9, cell9] at ih ⊢; omega
theorem cell9_one (g : Nat → Nat → Int) : ∀ u ∈ cell9 g, u.oneCell' = true := by
  intro u hu
  simp only [cell9, List.mem_cons, List.not_mem_nil, or_false] at hu
  rcases hu with rfl | rfl | rfl | rfl | rfl | rfl | rfl | rfl | rfl <;> rfl
theorem cells9_one (L : List (Nat → Nat → Int)) : ∀ u ∈ cells9 L, u.oneCell' = true := by
  intro u hu
  simp only [cells9, List.mem_flatMap] at hu
  obtain ⟨g, _, hg⟩ := hu
  exact cell9_one g u hg
theorem cells9_at : ∀ (L : List (Nat → Nat → Int)) (k : Nat) (hk : k < L.length) (i j : Nat), i < 3 → j < 3 → (cells9 L)[k * 9 + (i * 3 + j)]? = some (.int .u8 (L[k] i j))
  | [], k, hk, _, _, _, _ => by simp at hk
  | x :: r, 0, _, i, j, hi, hj => by
    have e : cells9 (x :: r) = cell9 x ++ cells9 r := by simp [cells9]
    have hi' : i = 0 ∨ i = 1 ∨ i = 2 := by omega
    have hj' : j = 0 ∨ j = 1 ∨ j = 2 := by omega
    rw [e, List.getElem?_append_left (by simp [cell9]; omega)]
    rcases hi' with rfl | rfl | rfl <;> rcases hj' with rfl | rfl | rfl <;> rfl
  | x :: r, k + 1, hk, i, j, hi, hj => by
    have e : cells9 (x :: r) = cell9 x ++ cells9 r := by simp [cells9]
    rw [e, List.getElem?_append_right (by simp [cell9]; omega), show (k + 1) * 9 + (i * 3 + j) - (cell9 x).length = k * 9 + (i * 3 + j) by simp [cell9]; omega, cells9_at r k (by simpa using hk) i j hi hj]
    rfl
/-- A list of matrices of the call's own, which may grow. -/
def OwnG9 (w : World) (base : Nat) (v : Value) (L : List (Nat → Nat → Int)) : Prop := w.ownsRow base 56 9 v L.length (cells9 L)
theorem OwnG9.below {w w' : World} {base : Nat} {v : Value} {L : List (Nat → Nat → Int)} (h : OwnG9 w base v L) (hb : Below w.heap.size w w') : OwnG9 w' base v L := eowns_below h hb
theorem OwnG9.mono {w : World} {base base' : Nat} {v : Value} {L : List (Nat → Nat → Int)} (h : OwnG9 w base v L) (hb : base' ≤ base) : OwnG9 w base' v L := owns_mono h hb
theorem OwnG9.slice {w : World} {base : Nat} {v : Value} {L : List (Nat → Nat → Int)} (h : OwnG9 w base v L) : SlM w v L := by
  have h' := h
  obtain ⟨_, ⟨hv, hn⟩ | ⟨g, cap, cur, hv, _, hg, _⟩⟩ := h
  · have : L = [] := List.eq_nil_of_length_eq_zero hn
    subst this
    exact ⟨none, 0, hv, .inl rfl⟩
  · refine ⟨_, _, hv, .inr ⟨g, 0, rfl, (World.ownsRow.lt h' g (by rw [hv]; rfl)).2, fun k hk i j hi hj => ?_⟩⟩
    have := World.ownsRow.cells h' (g := g) (by rw [hv]; rfl) (k * 9 + (i * 3 + j)) _ (cells9_at L k hk i j hi hj)
    rwa [show (⟨g, 0, none⟩ : Addr).add (k * 9 + (i * 3 + j)) = ⟨g, 0 + k * 9 + (i * 3 + j), none⟩ by unfold Addr.add; split <;> simp_all] at this
theorem OwnG9.shape {w : World} {base : Nat} {v : Value} {L : List (Nat → Nat → Int)} (h : OwnG9 w base v L) : ∃ a c, v = .slice a L.length c := mown_slice h
theorem OwnG9.nil {w : World} {base : Nat} (hb : base ≤ w.heap.size) {t : TypeId} (ht : t = 56) : OwnG9 (w.alloc (.cells #[] t)) base (.slice (some ⟨w.heap.size, 0, none⟩) 0 0) [] := by
  subst ht
  have := World.ownsRow_made (base := base) (e := 56) (size := 9) w #[] 0 hb (by simp [maxLen]) rfl
  simpa [OwnG9, cells9] using this
theorem ownG9_none (w : World) (base : Nat) : OwnG9 w base (.slice none 0 0) [] := World.ownsRow_nil _ _ _ _
theorem grpF_set (p n : Int) (v v' : Value) : (fun j => if j = 2 then v' else grpF p n v j) = fun j => if j < 3 then grpF p n v' j else (if j = 2 then v' else grpF p n v j) := by
  funext j
  match j with
  | 0 => rfl
  | 1 => rfl
  | 2 => rfl
  | j + 3 => simp [grpF]; intro h; omega
/-- What stands in memory while a group's elements are chosen: its own three cells (block q), the rows of its terms, the argument's box, the result's (blocks a and r). -/
structure GPart (w wr : World) (base q a r : Nat) (p d : Int) (xv sv : Value) (O : List (Nat → Nat → Int)) : Prop where
  rows : wr.ownsRow base 56 9 sv O.length (cells9 O)
  out : wr.rowIs q 31 3 (grpF p d sv)
  arg : wr.rowIs a 31 3 (grpF p d xv)
  res : wr.rowIs r 31 3 (grpF 0 0 (.slice none 0 0))
  below : Below w.heap.size w wr
  b1 : w.heap.size ≤ base
  b2 : base ≤ wr.heap.size
  b3 : w.heap.size ≤ q
  b4 : w.heap.size ≤ r
  qa : a ≠ q
  qr : r ≠ q
theorem GPart.later {w wr w1 : World} {base q a r : Nat} {p d : Int} {xv sv : Value} {O : List (Nat → Nat → Int)} (h : GPart w wr base q a r p d xv sv O) (hb : Below wr.heap.size wr w1) : GPart w w1 base q a r p d xv sv O :=
  ⟨eowns_below h.rows hb, erow_below h.out hb h.out.lt, erow_below h.arg hb h.arg.lt, erow_below h.res hb h.res.lt, h.below.trans (hb.mono h.below.size), h.b1, Nat.le_trans h.b2 hb.size, h.b3, h.b4, h.qa, h.qr⟩
theorem GPart.more {w wr wx w2 : World} {base q a r : Nat} {p d : Int} {xv sv sv' : Value} {O : List (Nat → Nat → Int)} {t : Nat → Nat → Int} (h : GPart w wr base q a r p d xv sv O) (hb : Below wr.heap.size wr wx)
    (hg : wx.grownBy w2 sv.ownBlock) (ho : w2.ownsRow base 56 9 sv' (O.length + 1) (cells9 O ++ cell9 t)) : GPart w (w2.setCell ⟨q, 2, none⟩ sv') base q a r p d xv sv' (O ++ [t]) ∧ w2.rowIs q 31 3 (grpF p d sv) := by
  have h1 := h.later hb
  have hn1 : 31 ≠ 56 := by decide
  have r1 := mrow_grown h1.out hg h1.rows hn1
  have r2 := mrow_grown h1.arg hg h1.rows hn1
  have r4 := mrow_grown h1.res hg h1.rows hn1
  refine ⟨⟨?_, ?_, r2.setOther (by simpa using fun e => h.qa e) _, r4.setOther (by simpa using fun e => h.qr e) _, ?_, h.b1, ?_, h.b3, h.b4, h.qa, h.qr⟩, r1⟩
  · rw [cells9_snoc, show (O ++ [t]).length = O.length + 1 by simp]
    exact ho.kept (row := some q) ⟨rfl, rfl, rfl, by rw [World.size_setCell]; exact Nat.le_refl _, fun k hk hne => Below.heap_setCell w2 ⟨q, 2, none⟩ sv' k (fun e => hne (by rw [e]))⟩ (mown_ne r1 ho hn1)
  · refine (r1.set 2 sv').congr fun i hi => ?_
    rw [congrFun (grpF_set p d sv sv') i, if_pos hi]
  · have hb1 := h.b1
    have hb3 := h.b3
    exact (h1.below.grown hg (Nat.le_trans hb1 h1.b2) (fun k hk => Nat.le_trans hb1 (h1.rows.lt k hk).1)).setCell (by simpa using hb3) _
  · rw [World.size_setCell]; exact Nat.le_trans h1.b2 hg.size
theorem GPart.finish {w wr : World} {base q a r : Nat} {p d : Int} {xv sv : Value} {O : List (Nat → Nat → Int)} (h : GPart w wr base q a r p d xv sv O) (p' d' : Int) :
    (((wr.setCell ⟨r, 0, none⟩ (.int .i64 p')).setCell ⟨r, 1, none⟩ (.int .i64 d')).setCell ⟨r, 2, none⟩ sv).cell? ⟨r, 0, none⟩ = some (.int .i64 p') ∧
    (((wr.setCell ⟨r, 0, none⟩ (.int .i64 p')).setCell ⟨r, 1, none⟩ (.int .i64 d')).setCell ⟨r, 2, none⟩ sv).cell? ⟨r, 1, none⟩ = some (.int .i64 d') ∧
    (((wr.setCell ⟨r, 0, none⟩ (.int .i64 p')).setCell ⟨r, 1, none⟩ (.int .i64 d')).setCell ⟨r, 2, none⟩ sv).cell? ⟨r, 2, none⟩ = some sv ∧
    (((wr.setCell ⟨r, 0, none⟩ (.int .i64 p')).setCell ⟨r, 1, none⟩ (.int .i64 d')).setCell ⟨r, 2, none⟩ sv).ownsRow w.heap.size 56 9 sv O.length (cells9 O) ∧
    Below w.heap.size w (((wr.setCell ⟨r, 0, none⟩ (.int .i64 p')).setCell ⟨r, 1, none⟩ (.int .i64 d')).setCell ⟨r, 2, none⟩ sv) := by
  have R := ((h.res.set 0 (.int .i64 p')).set 1 (.int .i64 d')).set 2 sv
  have hb1 := h.b1
  have hb4 := h.b4
  refine ⟨R.cell (i := 0) (by omega), R.cell (i := 1) (by omega), R.cell (i := 2) (by omega), ?_, ((h.below.setCell (by simpa using hb4) _).setCell (by simpa using hb4) _).setCell (by simpa using hb4) _⟩
  refine owns_mono (h.rows.kept (row := some r) ⟨rfl, rfl, rfl, by simp only [World.size_setCell]; exact Nat.le_refl _, fun k hk hne => ?_⟩ (mown_ne h.res h.rows (by decide))) hb1
  have hk : k ≠ r := fun e => hne (by rw [e])
  exact (Below.heap_setCell _ ⟨r, 2, none⟩ sv k hk).trans ((Below.heap_setCell _ ⟨r, 1, none⟩ _ k hk).trans (Below.heap_setCell _ ⟨r, 0, none⟩ _ k hk))

end Go.Proofs.Ytabfdohmgmdgeaa
