/-
  SORTING TERMS, in plain mathematics, and what an array holds behind it. Conditions: as each theorem states.
  WALKS: 'impl.compareExps' and the closure of 'impl.polyOf', with what they leave behind. Conditions: as each theorem states.
  WALKS: 'impl.polyOf'. Conditions: as each theorem states.
-/
import Derived.Test.YtbhgbifliihlbaaR03
import Derived.Shelf.SlSortCmp.InsertionK
namespace Go.Proofs.Ytbhgbifliihlbaa
open Go.RowKit Go.Sort Go.Shelf Go.Lib

abbrev TB := { t : Tm // byte3 (tmE t) }
instance : Inhabited TB := ⟨⟨(0, 0, 0, 0), by simp [byte3, tmE]⟩⟩
def encT (x : TB) : List Value := cell4 x.1
def cfT (x y : TB) : Int := cmpE (tmE x.1) (tmE y.1)

theorem cmpE_lt (a b : Int × Int × Int) : cmpE a b < 0 ↔ capd (a.1 + a.2.1 + a.2.2) < capd (b.1 + b.2.1 + b.2.2) ∨ capd (a.1 + a.2.1 + a.2.2) = capd (b.1 + b.2.1 + b.2.2) ∧ (b.1 < a.1 ∨ b.1 = a.1 ∧ b.2.1 < a.2.1) := by
  unfold cmpE or3 cmpI
  generalize capd (a.1 + a.2.1 + a.2.2) = u
  generalize capd (b.1 + b.2.1 + b.2.2) = v
  rcases Int.lt_trichotomy u v with h | h | h
  · simp [h]
  · subst h
    rcases Int.lt_trichotomy b.1 a.1 with h | h | h
    · simp [h]
    · rw [h]
      rcases Int.lt_trichotomy b.2.1 a.2.1 with h' | h' | h'
      · simp [h']
      · simp [h']
      · have h1 : ¬ b.2.1 < a.2.1 := by omega
        simp [h', h1]
    · have h1 : ¬ b.1 < a.1 := by omega
      have h2 : ¬ b.1 = a.1 := by omega
      simp [h, h1, h2]
  · have h1 : ¬ u < v := by omega
    have h2 : ¬ u = v := by omega
    simp [h, h1, h2]
theorem swoT : SWO (ltOf cfT) where
  irrefl x := by unfold ltOf cfT; rw [decide_eq_false_iff_not, cmpE_lt]; omega
  trans x y z h1 h2 := by unfold ltOf cfT at *; rw [decide_eq_true_eq, cmpE_lt] at *; omega
  ntrans x y z h1 h2 := by unfold ltOf cfT at *; rw [decide_eq_false_iff_not, cmpE_lt] at *; omega

theorem asc_sorted (d : Array TB) (hs : SortedIn (ltOf cfT) 0 d.size d) (hn : d.toList.Pairwise fun a b => tmE a.1 ≠ tmE b.1) (h12 : ∀ x ∈ d.toList, x.1.1 + x.1.2.1 + x.1.2.2.1 ≤ 12) : Asc (d.toList.map (·.1)) := by
  unfold Asc
  rw [List.pairwise_map, List.pairwise_iff_getElem]
  intro i j hi hj hij
  have hi' : i < d.size := by simpa using hi
  have hj' : j < d.size := by simpa using hj
  have h := hs i j (Nat.zero_le _) hij hj'
  rw [getElem!_pos d i hi', getElem!_pos d j hj'] at h
  have hne := List.pairwise_iff_getElem.1 hn i j hi hj hij
  have a1 := h12 _ (List.getElem_mem hi)
  have a2 := h12 _ (List.getElem_mem hj)
  simp only [Array.getElem_toList] at hne a1 a2 ⊢
  unfold ltOf cfT at h
  rw [decide_eq_false_iff_not, Int.not_lt] at h
  have hb := cmpE_before (tmE d[j].1) (tmE d[i].1) (by simpa [tmE] using a2) (by simpa [tmE] using a1)
  rw [decide_eq_true h] at hb
  rcases before_total (tmE d[i].1) (tmE d[j].1) with h' | h' | h'
  · exact h'
  · exact absurd h' hne
  · rw [h'] at hb; exact absurd hb (by simp)

theorem cells4_get : ∀ (L : List Tm) (t : Nat), (cells4 L)[t]? = (L[t / 4]?).bind fun x => (cell4 x)[t % 4]?
  | [], t => by simp [cells4]
  | x :: r, t => by
    have e : cells4 (x :: r) = cell4 x ++ cells4 r := by simp [cells4]
    rw [e]
    by_cases h : t < 4
    · rw [List.getElem?_append_left (by simpa [cell4] using h), Nat.div_eq_of_lt h, Nat.mod_eq_of_lt h]; rfl
    · obtain ⟨s, rfl⟩ : ∃ s, t = s + 4 := ⟨t - 4, by omega⟩
      rw [List.getElem?_append_right (by simp [cell4]), show s + 4 - (cell4 x).length = s by simp [cell4], cells4_get r s, Nat.add_div_right s (by omega), Nat.add_mod_right, List.getElem?_cons_succ]
theorem cells4_len (L : List Tm) : (cells4 L).length = L.length * 4 := by
  induction L with
  | nil => rfl
  | cons x r ih => simp [cells4, cell4] at ih ⊢; omega

theorem flat_cells (d : Array TB) : (flatK encT 4 d).toList = cells4 (d.toList.map (·.1)) := by
  apply List.ext_getElem?
  intro t
  by_cases h : t < d.size * 4
  · have h4 : t / 4 < d.size := by omega
    have hm : t % 4 < 4 := Nat.mod_lt _ (by omega)
    rw [cells4_get, List.getElem?_map, Array.getElem?_toList, Array.getElem?_toList, Array.getElem?_eq_getElem h4, Array.getElem?_eq_getElem (by simpa using h)]
    have hg := get_flatK encT 4 d t h
    rw [getElem!_pos (flatK encT 4 d) t (by simpa using h), getElem!_pos d (t / 4) h4] at hg
    rw [hg]
    show some _ = (cell4 d[t / 4].1)[t % 4]?
    have hl : t % 4 < (cell4 d[t / 4].1).length := by simpa [cell4] using hm
    rw [List.getElem?_eq_getElem hl]
    unfold encT
    rw [getElem!_pos (cell4 d[t / 4].1) (t % 4) hl]
  · rw [List.getElem?_eq_none (by simp; omega), List.getElem?_eq_none (by rw [cells4_len]; simp; omega)]

theorem put_take (F cur : Array Value) (h : F.size ≤ cur.size) : (putCells id 0 F cur).toList.take F.size = F.toList := by
  apply List.ext_getElem?
  intro t
  by_cases ht : t < F.size
  · rw [List.getElem?_take_of_lt ht, Array.getElem?_toList, Array.getElem?_toList, Array.getElem?_eq_getElem (by simp [putCells]; omega), Array.getElem?_eq_getElem ht]
    simp [putCells, ht]
  · rw [List.getElem?_eq_none (by simp; omega), List.getElem?_eq_none (by simp; omega)]

theorem heap_sort (w : World) (n g : Nat) (d : Array TB) (os : Array Obj) : (sortWorldK encT 4 w g 0 n d os).heap = w.heap.modify g (onCells (putCells id 0 (flatK encT 4 d))) ++ os := rfl
theorem sorted_owns {w : World} {base g cap : Nat} {O : List Tm} (h : w.ownsRow base 115 4 (.slice (some ⟨g, 0, none⟩) O.length cap) O.length (cells4 O)) (n : Nat) (d : Array TB) (os : Array Obj) (hd : d.size = O.length) :
    (sortWorldK encT 4 w g 0 n d os).ownsRow base 115 4 (.slice (some ⟨g, 0, none⟩) (d.toList.map (·.1)).length cap) (d.toList.map (·.1)).length (cells4 (d.toList.map (·.1))) ∧ w.grownBy (sortWorldK encT 4 w g 0 n d os) (some g) := by
  obtain ⟨_, ⟨hv, _⟩ | ⟨g', cap', cur, hv, hb, hg, hc1, hc2, hsz, htk⟩⟩ := h
  · simp at hv
  · simp at hv
    obtain ⟨rfl, rfl⟩ := hv
    have hlt : g < w.heap.size := (Array.getElem?_eq_some_iff.1 hg).1
    have hlen : (d.toList.map (·.1)).length = O.length := by simp [hd]
    have hheap : (sortWorldK encT 4 w g 0 n d os).heap[g]? = some (.cells (putCells id 0 (flatK encT 4 d) cur) 115 (0, 0)) := by
      rw [heap_sort, Array.getElem?_append_left (by simpa using hlt), Array.getElem?_modify, if_pos rfl, hg]
      rfl
    refine ⟨⟨by rw [cells4_len], .inr ⟨g, cap, _, rfl, hb, hheap, by omega, hc2, by simp [putCells, hsz], ?_⟩⟩, ⟨rfl, rfl, rfl, ?_, fun k hk hne => ?_⟩⟩
    · rw [← flat_cells, ← put_take (flatK encT 4 d) cur (by simp; omega)]
      simp
    · rw [heap_sort]
      simp
    · rw [heap_sort, Array.getElem?_append_left (by simpa using hk), Array.getElem?_modify, if_neg (fun e => hne (by rw [e]))]

theorem owns_holds {w : World} {base g cap : Nat} {O : List Tm} (h : w.ownsRow base 115 4 (.slice (some ⟨g, 0, none⟩) O.length cap) O.length (cells4 O)) (d : Array TB) (hd : d.toList.map (·.1) = O) : HoldsK encT 4 w g 0 d ∧ g < w.heap.size := by
  obtain ⟨_, ⟨hv, _⟩ | ⟨g', cap', cur, hv, hb, hg, hc1, hc2, hsz, htk⟩⟩ := h
  · simp at hv
  · simp at hv
    obtain ⟨rfl, rfl⟩ := hv
    refine ⟨fun j hj => ?_, (Array.getElem?_eq_some_iff.1 hg).1⟩
    have hj' : j < O.length * 4 := by rw [← hd]; simpa using hj
    have hjc : j < cur.size := by
      have : O.length * 4 ≤ cap * 4 := Nat.mul_le_mul_right 4 hc1
      omega
    have hv : (flatK encT 4 d)[j]! = cur[j] := by
      rw [getElem!_pos (flatK encT 4 d) j hj]
      have e : (flatK encT 4 d).toList = cur.toList.take (O.length * 4) := by rw [flat_cells, hd, htk]
      have e2 := congrArg (fun l => l[j]?) e
      simp only [List.getElem?_take_of_lt hj', Array.getElem?_toList] at e2
      rw [Array.getElem?_eq_getElem hj, Array.getElem?_eq_getElem hjc] at e2
      simpa using e2
    refine ⟨?_, ?_⟩
    · rw [hv]
      simp [World.cell?, hg, hjc]
    · simp [World.frozen?, hg]
end Go.Proofs.Ytbhgbifliihlbaa
namespace Go.Proofs.Ytbhgbifliihlbaa
open Go.RowKit Go.Sort Go.Shelf Go.Lib

/-- Some draws, and blocks behind what was there. -/
def Grew (w w' : World) : Prop := ∃ q os, w' = grow (w.drewN q) os
theorem Grew.refl (w : World) : Grew w w := ⟨0, #[], by rw [grow_empty]; rfl⟩
theorem Grew.alloc {w w' : World} (h : Grew w w') (o : Obj) : Grew w (w'.alloc o) := by
  obtain ⟨q, os, rfl⟩ := h
  exact ⟨q, os ++ #[o], by rw [alloc_eq_grow, grow_grow]⟩
theorem Grew.drew {w w' : World} (h : Grew w w') : Grew w w'.drew := by
  obtain ⟨q, os, rfl⟩ := h
  exact ⟨q + 1, os, rfl⟩
theorem Grew.trans {w w' w'' : World} (h : Grew w w') (h' : Grew w' w'') : Grew w w'' := by
  obtain ⟨q, os, rfl⟩ := h
  obtain ⟨q', os', rfl⟩ := h'
  refine ⟨q + q', os ++ os', ?_⟩
  show grow (grow ((w.drewN q).drewN q') os) os' = _
  rw [grow_grow]
  simp [World.drewN, Nat.add_assoc]
theorem Grew.below {w w' : World} (h : Grew w w') : Below w.heap.size w w' := by
  obtain ⟨q, os, rfl⟩ := h
  exact ⟨rfl, rfl, rfl, by simp [grow, World.drewN], fun k hk => by simp [grow, World.drewN, Array.getElem?_append, hk]⟩

set_option maxHeartbeats 2000000 in
set_option maxRecDepth 100000 in
theorem compareExps_grew (x y z x' y' z' : Int) (w : World) (hx : 0 ≤ x ∧ x ≤ 255) (hy : 0 ≤ y ∧ y ≤ 255) (hz : 0 ≤ z ∧ z ≤ 255) (hx' : 0 ≤ x' ∧ x' ≤ 255) (hy' : 0 ≤ y' ∧ y' ≤ 255) (hz' : 0 ≤ z' ∧ z' ≤ 255) :
    Calls Try.prog 111 #[.agg #[.int .u8 x, .int .u8 y, .int .u8 z], .agg #[.int .u8 x', .int .u8 y', .int .u8 z']] w fun e w' => e = .returned (.int .i64 (cmpE (x, y, z) (x', y', z'))) ∧ Grew w w' := by
  go_enter Try.func111, Try.ntmps111
  go_wp2
  refine region_tail 15 (by kernel_rfl) (by kernel_rfl) ?_
  simp only [List.take_succ_cons, List.take_zero, List.drop_succ_cons, List.drop_zero]
  repeat still_step
  still_call (capped_still _ _ _ x y z _ hx hy hz (by go_simp) (by go_simp) (by go_simp))
  repeat still_step
  still_call (capped_still _ _ _ x' y' z' _ hx' hy' hz' (by go_simp) (by go_simp) (by go_simp))
  repeat still_step
  still_call (compare64_any _ _ _)
  repeat still_step
  still_call (compare8_any _ _ _)
  repeat still_step
  still_call (compare8_any _ _ _)
  repeat still_step
  refine wpStill_nil ?_
  go_wp2_with fail
  ((with_reducible refine (or_any _ (cmpI (capd (x + y + z)) (capd (x' + y' + z'))) (cmpI x' x) (cmpI y' y) _ (by go_simp) (by go_simp) (by go_simp)).mono ?_); rintro e w1 ⟨rfl, rfl⟩)
  go_wp2
  go_ret
  exact ⟨rfl, ((((Grew.refl _).alloc _).alloc _).alloc _).drew⟩

set_option maxHeartbeats 1000000 in
theorem closT (x y : TB) (w : World) : Calls Try.prog 126 #[.agg (encT x).toArray, .agg (encT y).toArray] w fun e w' => e = .returned (.int .i64 (cfT x y)) ∧ Grew w w' := by
  obtain ⟨⟨x0, x1, x2, xv⟩, hx0, hx1, hx2⟩ := x
  obtain ⟨⟨y0, y1, y2, yv⟩, hy0, hy1, hy2⟩ := y
  simp only [tmE] at hx0 hx1 hx2 hy0 hy1 hy2
  show Calls Try.prog 126 #[.agg #[.int .u8 x0, .int .u8 x1, .int .u8 x2, .int .i64 xv], .agg #[.int .u8 y0, .int .u8 y1, .int .u8 y2, .int .i64 yv]] w fun e w' => e = .returned (.int .i64 (cmpE (x0, x1, x2) (y0, y1, y2))) ∧ Grew w w'
  go_enter Try.func126, Try.ntmps126
  go_wp2_with fail
  ((with_reducible refine (compareExps_grew x0 x1 x2 y0 y1 y2 _ hx0 hx1 hx2 hy0 hy1 hy2).mono ?_); rintro e w1 ⟨rfl, hg⟩)
  go_wp2
  go_ret
  exact ⟨rfl, (((Grew.refl _).alloc _).alloc _).trans hg⟩

theorem cmpLaysT (blk off size : Nat) (w : World) : CmpLays Try.prog 126 #[] encT 4 cfT blk off size w :=
  fun _ _ _ _ x y => by
    rw [Array.append_empty]
    exact closT x y _

end Go.Proofs.Ytbhgbifliihlbaa
namespace Go.Proofs.Ytbhgbifliihlbaa
open Go.RowKit Go.Sort Go.Maps

/-- What the sort does to a list of terms that the call owns (proved apart). -/
def SortSays : Prop := ∀ (v : Value) (O : List Tm) (base : Nat) (w : World), w.ownsRow base 115 4 v O.length (cells4 O) → (∀ t ∈ O, byte3 (tmE t)) → (∀ t ∈ O, t.1 + t.2.1 + t.2.2.1 ≤ 12) → (O.Pairwise fun a b => tmE a ≠ tmE b) → O.length < 4611686018427387904 →
    Calls Try.prog 125 #[v, .func (.func 126) #[] #[]] w fun e w' => e = .returned (.tuple #[]) ∧ ∃ S, S.Perm O ∧ Asc S ∧ w'.ownsRow base 115 4 v S.length (cells4 S) ∧ w.grownBy w' v.ownBlock

/-- What stands in memory while a polynomial is gathered: its own three cells (block q), the rows of its terms, the result's cells (block r). -/
structure Gath (w wr : World) (base q r : Nat) (p d : Int) (sv : Value) (O : List Tm) : Prop where
  rows : wr.ownsRow base 115 4 sv O.length (cells4 O)
  out : wr.rowIs q 40 3 (polyF p d sv)
  res : wr.rowIs r 40 3 (polyF 0 0 (.slice none 0 0))
  below : Below w.heap.size w wr
  b1 : w.heap.size ≤ base
  b2 : base ≤ wr.heap.size
  b3 : w.heap.size ≤ q ∧ q < base
  b4 : w.heap.size ≤ r ∧ r < base
  qr : r ≠ q
theorem Gath.later {w wr w1 : World} {base q r : Nat} {p d : Int} {sv : Value} {O : List Tm} (h : Gath w wr base q r p d sv O) (hb : Below wr.heap.size wr w1) : Gath w w1 base q r p d sv O :=
  ⟨owns_belowT h.rows hb, rowIs_below h.out hb h.out.lt, rowIs_below h.res hb h.res.lt, h.below.trans (hb.mono h.below.size), h.b1, Nat.le_trans h.b2 hb.size, h.b3, h.b4, h.qr⟩
/-- Another block of the call's own is turned (a map's iterator). -/
theorem Gath.turned {w wr w1 : World} {base q r i : Nat} {p d : Int} {sv : Value} {O : List Tm} (h : Gath w wr base q r p d sv O) (hg : wr.grownBy w1 (some i)) (hi : w.heap.size ≤ i ∧ i < base) (hq : i ≠ q) (hr : i ≠ r) : Gath w w1 base q r p d sv O := by
  refine ⟨h.rows.kept hg ?_, h.out.of_block (hg.block q h.out.lt (by simpa using fun e => hq e.symm)), h.res.of_block (hg.block r h.res.lt (by simpa using fun e => hr e.symm)), ?_, h.b1, Nat.le_trans h.b2 hg.size, h.b3, h.b4, h.qr⟩
  · have := h.rows.lt
    cases hs : sv.ownBlock with
    | none => exact .inl rfl
    | some g => exact .inr (by have h2 := (this g hs).1; simp; omega)
  · exact h.below.grown hg h.below.size (fun k hk => by simp at hk; omega)
theorem Gath.more {w wr wx w2 : World} {base q r : Nat} {p d : Int} {sv sv' : Value} {O : List Tm} {t : Tm} (h : Gath w wr base q r p d sv O) (hb : Below wr.heap.size wr wx)
    (hg : wx.grownBy w2 sv.ownBlock) (ho : w2.ownsRow base 115 4 sv' (O.length + 1) (cells4 O ++ cell4 t)) : Gath w (w2.setCell ⟨q, 2, none⟩ sv') base q r p d sv' (O ++ [t]) ∧ w2.rowIs q 40 3 (polyF p d sv) := by
  have h1 := h.later hb
  have hn1 : 40 ≠ 115 := by decide
  have r1 := rowIs_grown h1.out hg h1.rows hn1
  have r4 := rowIs_grown h1.res hg h1.rows hn1
  refine ⟨⟨?_, ?_, r4.setOther (by simpa using fun e => h.qr e) _, ?_, h.b1, ?_, h.b3, h.b4, h.qr⟩, r1⟩
  · rw [cells4_snoc, show (O ++ [t]).length = O.length + 1 by simp]
    exact ho.kept (row := some q) ⟨rfl, rfl, rfl, by rw [World.size_setCell]; exact Nat.le_refl _, fun k hk hne => Below.heap_setCell w2 ⟨q, 2, none⟩ sv' k (fun e => hne (by rw [e]))⟩ (own_ne r1 ho hn1)
  · refine (r1.set 2 sv').congr fun i hi => ?_
    rw [congrFun (polyF_set p d sv sv') i, if_pos hi]
  · have hb1 := h.b1
    have hb3 := h.b3.1
    exact (h1.below.grown hg (Nat.le_trans hb1 h1.b2) (fun k hk => Nat.le_trans hb1 (h1.rows.lt k hk).1)).setCell (by simpa using hb3) _
  · rw [World.size_setCell]; exact Nat.le_trans h1.b2 hg.size
theorem Gath.sorted {w wr w2 : World} {base q r : Nat} {p d : Int} {sv : Value} {O S : List Tm} (h : Gath w wr base q r p d sv O) (hg : wr.grownBy w2 sv.ownBlock) (ho : w2.ownsRow base 115 4 sv S.length (cells4 S)) : Gath w w2 base q r p d sv S := by
  have hn1 : 40 ≠ 115 := by decide
  have hb1 := h.b1
  exact ⟨ho, rowIs_grown h.out hg h.rows hn1, rowIs_grown h.res hg h.rows hn1, h.below.grown hg (Nat.le_trans hb1 h.b2) (fun k hk => Nat.le_trans hb1 (h.rows.lt k hk).1), h.b1, Nat.le_trans h.b2 hg.size, h.b3, h.b4, h.qr⟩
theorem Gath.finish {w wr : World} {base q r : Nat} {p d : Int} {sv : Value} {O : List Tm} (h : Gath w wr base q r p d sv O) (p' d' : Int) :
    (((wr.setCell ⟨r, 0, none⟩ (.int .i64 p')).setCell ⟨r, 1, none⟩ (.int .i64 d')).setCell ⟨r, 2, none⟩ sv).cell? ⟨r, 0, none⟩ = some (.int .i64 p') ∧
    (((wr.setCell ⟨r, 0, none⟩ (.int .i64 p')).setCell ⟨r, 1, none⟩ (.int .i64 d')).setCell ⟨r, 2, none⟩ sv).cell? ⟨r, 1, none⟩ = some (.int .i64 d') ∧
    (((wr.setCell ⟨r, 0, none⟩ (.int .i64 p')).setCell ⟨r, 1, none⟩ (.int .i64 d')).setCell ⟨r, 2, none⟩ sv).cell? ⟨r, 2, none⟩ = some sv ∧
    (((wr.setCell ⟨r, 0, none⟩ (.int .i64 p')).setCell ⟨r, 1, none⟩ (.int .i64 d')).setCell ⟨r, 2, none⟩ sv).ownsRow w.heap.size 115 4 sv O.length (cells4 O) ∧
    Below w.heap.size w (((wr.setCell ⟨r, 0, none⟩ (.int .i64 p')).setCell ⟨r, 1, none⟩ (.int .i64 d')).setCell ⟨r, 2, none⟩ sv) := by
  have R := ((h.res.set 0 (.int .i64 p')).set 1 (.int .i64 d')).set 2 sv
  have hb1 := h.b1
  have hb4 := h.b4.1
  refine ⟨R.cell (i := 0) (by omega), R.cell (i := 1) (by omega), R.cell (i := 2) (by omega), ?_, ((h.below.setCell (by simpa using hb4) _).setCell (by simpa using hb4) _).setCell (by simpa using hb4) _⟩
  refine owns_low (h.rows.kept (row := some r) ⟨rfl, rfl, rfl, by simp only [World.size_setCell]; exact Nat.le_refl _, fun k hk hne => ?_⟩ (own_ne h.res h.rows (by decide))) hb1
  have hk : k ≠ r := fun e => hne (by rw [e])
  exact (Below.heap_setCell _ ⟨r, 2, none⟩ sv k hk).trans ((Below.heap_setCell _ ⟨r, 1, none⟩ _ k hk).trans (Below.heap_setCell _ ⟨r, 0, none⟩ _ k hk))

/-- Three bytes. -/
structure E3 where
  x : Int
  y : Int
  z : Int
  h : byte3 (x, y, z)
theorem invK3 (key : Value) (kl : Lit) (h : keyOf Try.prog 113 key = some kl) : ∃ e : E3, key = .agg #[.int .u8 e.x, .int .u8 e.y, .int .u8 e.z] := by
  obtain ⟨⟨⟨x, y, z⟩, hx⟩, rfl⟩ := invK key kl h
  exact ⟨⟨x, y, z, hx⟩, rfl⟩

/-- The map that is ranged over, and what has been gathered. -/
def Rg (wr : World) (b it n : Nat) (D : DataW Unit) (left : Lit → Bool) (cnt : Nat) (O : List Tm) : Prop :=
  wr.ranges Try.prog 113 (plainElem Try.prog 2) b it n D left cnt ∧ Got D left O ∧ O.length + cnt ≤ n

/-- A step of the loop over the map, in the words of coefficients. -/
theorem next_terms (w : World) {ops : Array Oper} {rest : List Oper} {o : Oper} {a : Act} {Q : Exit → Act → World → Prop}
    (hg : o.guard = none) (it : Operand) (hop : o.op = Op.next it false) (b r n : Nat) (D : DataW Unit) (left : Lit → Bool) (cnt : Nat) (O : List Tm) (adr : Addr) (v0 : Value) (F : World → Prop) (hF : ∀ w', w.grownBy w' (some r) → w'.heap.size = w.heap.size → F w')
    (hit : a.eval it = .pointer (some ⟨r, 0, none⟩)) (h : Rg w b r n D left cnt O) (hq : w.cell? adr = some v0) (hne : adr.block ≠ r)
    (hDone : (∀ kl, left kl = false) → wpList Try.prog ops Q rest (a.put o.dst (.tuple #[.bool false])) w)
    (hMore : ∀ (ex ey ez c : Int) (w' : World), Hid (byte3 (ex, ey, ez) ∧ w'.rangeLeft b r < w.rangeLeft b r ∧ F w' ∧ w'.heap.size = w.heap.size ∧
        (c = 0 → ∃ left' cnt', Rg w' b r n D left' cnt' O) ∧ (c ≠ 0 → (∃ left' cnt', Rg w' b r n D left' cnt' (O ++ [mkT (ex, ey, ez) c]) ∧ O.length + 1 ≤ n))) → w'.cell? adr = some v0 → (∀ o, (w'.alloc o).cell? adr = some v0) →
      (Instr.entry (.pointer (some ⟨r, 0, none⟩))).run Try.prog w' = .ok (.tuple #[.agg #[.int .u8 ex, .int .u8 ey, .int .u8 ez], .int .i64 c]) w' →
      wpList Try.prog ops Q rest (a.put o.dst (.tuple #[.bool true, .agg #[.int .u8 ex, .int .u8 ey, .int .u8 ez], .int .i64 c])) w') :
    wpList Try.prog ops Q (o :: rest) a w := by
  obtain ⟨hrg, hGot, hcnt⟩ := h
  refine wpList_next_ranges w hg it hop 113 lawK (plainElem Try.prog 2) (fun e : E3 => .agg #[.int .u8 e.x, .int .u8 e.y, .int .u8 e.z]) (fun c : Int => .int .i64 c) invK3 (fun v y h => let ⟨a, h1, _⟩ := plainElem_int_inv Try.underlying2 h; ⟨a, h1⟩) b r n D left cnt hit hrg (fun _ hl => hDone hl) ?_
  rintro ⟨ex, ey, ez, hx⟩ c kl y w1 cnt1 hkey hlk hRv hat hrg1 hlt1 hg1 hs1 hen
  have hkl : kl = kE (ex, ey, ez) := by
    have := keyOf_vE (ex, ey, ez) hx
    unfold vE at this
    rw [hkey] at this
    exact Option.some.inj this
  subst hkl
  obtain ⟨c', hc', rfl, _⟩ := plainElem_int_inv Try.underlying2 hRv
  simp only [Value.int.injEq, true_and] at hc'
  subst hc'
  have hcf := cf_of_at (hat (.lit (.int .i64 0)))
  refine hMore ex ey ez c w1 (Lib.hid ⟨hx, by rw [hrg1.left_eq, hrg.left_eq]; exact hlt1, hF _ hg1 hs1, hs1, fun hc => ⟨_, _, hrg1, hGot.skip hx (by rw [hcf]; exact hc), by omega⟩, fun hc => ⟨_, _, ⟨hrg1, ?_, by simp; omega⟩, by omega⟩⟩) ?_ (fun o => ?_) hen
  · have := hGot.take hx hlk (by rw [hcf]; exact hc)
    rwa [hcf] at this
  · exact (World.cell?_of_block (w := w) (a := adr) (hg1.block adr.block (block_lt_of_cell hq) (by simpa using hne))).trans hq
  · have h1 := (World.cell?_of_block (w := w) (a := adr) (hg1.block adr.block (block_lt_of_cell hq) (by simpa using hne))).trans hq
    exact ((box1 w1 o).cell (block_lt_of_cell h1)).trans h1

set_option maxRecDepth 8000 in
set_option maxHeartbeats 4000000 in
theorem polyOf_any (hsort : SortSays) (p d : Int) (b n : Nat) (D : DataW Unit) (w : World) (hown : MapE w b n D) (hn : n ≤ 1099511627776) (h12 : ∀ e, byte3 e → cf D e ≠ 0 → e.1 + e.2.1 + e.2.2 ≤ 12) :
    Calls Try.prog 104 #[.int .i64 p, .int .i64 d, .map (some b)] w fun e w' =>
      ∃ v' S, e = .returned (.agg #[.int .i64 p, .int .i64 d, v']) ∧ w'.ownsRow w.heap.size 115 4 v' S.length (cells4 S) ∧ Good D S ∧ Below w.heap.size w w' := by
  obtain ⟨i0, hi, hz0, hz1, hz2⟩ := info_parts infoTerm
  have hbl := hown.lt
  obtain ⟨W, hW, hbW, ⟨hWs1, hWs2⟩, rr, rq⟩ : ∃ W, W = (w.alloc (.cells #[.int .i64 0, .int .i64 0, .slice none 0 0] 40)).alloc (.cells #[.int .i64 p, .int .i64 d, .slice none 0 0] 40) ∧ Below w.heap.size w W ∧ (W.heap.size ≤ w.heap.size + 2 ∧ w.heap.size + 2 ≤ W.heap.size) ∧
      W.rowIs w.heap.size 40 3 (polyF 0 0 (.slice none 0 0)) ∧
      W.rowIs (w.heap.size + 1) 40 3 (polyF p d (.slice none 0 0)) := by
    refine ⟨_, rfl, box2 _ _ _, ⟨by simp, by simp⟩, ?_, ?_⟩
    · refine World.rowIs.alloc (World.rowIs_alloc w #[Value.int .i64 0, .int .i64 0, .slice none 0 0] _ _ (fun i hi => ?_)) _
      simp at hi; match i, hi with | 0, _ => rfl | 1, _ => rfl | 2, _ => rfl
    · have := World.rowIs_alloc (w.alloc (.cells #[.int .i64 0, .int .i64 0, .slice none 0 0] 40)) #[Value.int .i64 p, .int .i64 d, .slice none 0 0] 40 (polyF p d (.slice none 0 0)) (fun i hi => by simp at hi; match i, hi with | 0, _ => rfl | 1, _ => rfl | 2, _ => rfl)
      simpa using this
  have hownW : MapE W b n D := hown.kept (row := none) ⟨hbW.os, hbW.tape, hbW.output, hbW.size, fun k hk _ => hbW.block k hk⟩ (by simp)
  go_enter Try.func104, Try.ntmps104
  go_wp2_with (first | (at_range; rw [← hW]; refine wpList_range_own _ rfl _ 126 rfl 113 2 lawK Try.underlying126 _ b n D rfl hownW ?_; intro w0 hrg0 hg0 hs0) | fail)
  go_frame
  have hst : Gath w w0 (W.heap.size + 1) (w.heap.size + 1) w.heap.size p d (.slice none 0 0) [] := by
    refine ⟨⟨rfl, .inl ⟨rfl, rfl⟩⟩, rq.of_block (hg0.block _ rq.lt (by simp)), rr.of_block (hg0.block _ rr.lt (by simp)), hbW.grown hg0 hbW.size (fun k hk => by simp at hk), by omega, by omega, ⟨by omega, by omega⟩, ⟨by omega, by omega⟩, by omega⟩
  have hsz := hownW.size_le
  clear hW rr rq hg0 hs0
  go_loopw [9] (fun _ wr => ∃ left cnt sv O, Rg wr b W.heap.size n D left cnt O ∧ Gath w wr (W.heap.size + 1) (w.heap.size + 1) w.heap.size p d sv O) (fun _ wr => wr.rangeLeft b W.heap.size)
  case atStart => exact ⟨_, _, _, [], ⟨hrg0, Got.start D, by simpa using hsz⟩, hst⟩
  case round =>
    clear hrg0 hst
    obtain ⟨left, cnt, sv, O, hRg, hB⟩ := hrel
    obtain ⟨sa, sc, rfl⟩ := owns_slice hB.rows
    have q2 : wr.cell? ⟨w.heap.size + 1, 2, none⟩ = some (.slice sa O.length sc) := hB.out.cell (i := 2) (by omega)
    have hF : ∀ w', wr.grownBy w' (some W.heap.size) → w'.heap.size = wr.heap.size → Gath w w' (W.heap.size + 1) (w.heap.size + 1) w.heap.size p d (.slice sa O.length sc) O := fun w' hg _ => hB.turned hg ⟨by omega, by omega⟩ (by omega) (by omega)
    go_wp2_with (first | (at_next; refine next_terms _ rfl _ rfl b W.heap.size n D left cnt O ⟨w.heap.size + 1, 2, none⟩ (.slice sa O.length sc) _ hF rfl hRg q2 (by simp; omega) (fun hl0 => ?_) (fun ex ey ez c w1 hh q3 q4 hen => ?_)) | (at_builtin; refine wpList_append_own _ rfl _ _ 38 rfl (W.heap.size + 1) 115 i0 _ 4 16 Try.underlying38 hi hz0 hz1 hz2 rfl (by decide) _ _ _ rfl (Gath.later (Gath.later hh.out.2.2.1 (box1 _ _)) (box1 _ _)).rows ⟨w1.heap.size + 1, 0, none⟩ 1 1 (cell4 (mkT (ex, ey, ez) c)) rfl rfl ?d1 ?d2 ?d3 ?d4 ?d5 ?_) | fail)
    · obtain ⟨_, hGot, hcnt⟩ := hRg
      have h12' : ∀ t ∈ O, t.1 + t.2.1 + t.2.2.1 ≤ 12 := fun t ht => by
        obtain ⟨a1, a2, a3, _⟩ := hGot.1 t ht
        exact h12 (tmE t) a1 (by rw [← a2]; exact a3)
      refine (hsort _ O (W.heap.size + 1) wr hB.rows (fun t ht => (hGot.1 t ht).1) h12' hGot.2.1 (by omega)).mono ?_
      rintro e w2 ⟨rfl, S, hp, ha, ho, hg⟩
      have hgood := hGot.good hl0 hp ha
      have hl : S.length = O.length := hp.length_eq
      rw [← hl] at ho hg hB
      have hS := hB.sorted hg (by rw [hl] at ho ⊢; exact ho)
      clear hB q2 hGot hg ho hl
      have j0 := hS.out.cell (i := 0) (by omega)
      have j1 := hS.out.cell (i := 1) (by omega)
      have j2 := hS.out.cell (i := 2) (by omega)
      have r0 := hS.res.cell (i := 0) (by omega)
      have r1 := hS.res.cell (i := 1) (by omega)
      have r2 := hS.res.cell (i := 2) (by omega)
      have z0 := hS.res.frozen 0
      have z1 := hS.res.frozen 1
      have z2 := hS.res.frozen 2
      simp [polyF] at j0 j1 j2 r0 r1 r2
      go_wp2_with fail
      obtain ⟨v0, v1, v2, v3, v4⟩ := hS.finish p d
      exact bodyPost_ret (v := .agg #[.int .i64 p, .int .i64 d, .slice sa S.length sc]) (by simp [results, Try.results104, go_sem, v0, v1, v2]) rfl ⟨_, S, rfl, v3, hgood, v4⟩
    case d1 =>
      intro j u hj
      match j, hj with
      | 0, hj => simp [cell4, mkT] at hj; subst hj; simp [World.cell?_alloc_at, Addr.add]
      | 1, hj => simp [cell4, mkT] at hj; subst hj; simp [World.cell?_alloc_at, Addr.add]
      | 2, hj => simp [cell4, mkT] at hj; subst hj; simp [World.cell?_alloc_at, Addr.add]
      | 3, hj => simp [cell4, mkT] at hj; subst hj; simp [World.cell?_alloc_at, Addr.add]
    case d2 => intro u hu; simp [cell4] at hu; rcases hu with rfl | rfl | rfl | rfl <;> rfl
    case d3 => obtain ⟨_, _, _, _, _, h⟩ := hh.out; obtain ⟨_, _, _, h⟩ := h (by simpa using ‹(c != 0) = true›); unfold maxLen; omega
    case d4 => obtain ⟨_, _, _, _, _, h⟩ := hh.out; obtain ⟨_, _, _, h⟩ := h (by simpa using ‹(c != 0) = true›); omega
    case d5 => have := hB.b2; have := hh.out.2.2.2.1; simp only [World.size_alloc] at *; omega
    · intro sv3 w3 hown3 hgrow3 _
      obtain ⟨hx, hlt, hB1, hs1, _, hmore⟩ := hh.out
      obtain ⟨left', cnt', hR', hOn⟩ := hmore (by simpa using ‹(c != 0) = true›)
      have hBb := hB1.later (box1 w1 (.cells #[.int .u8 ex, .int .u8 ey, .int .u8 ez] 113))
      have hs1' : wr.heap.size ≤ w1.heap.size := by omega
      obtain ⟨sa3, sc3, rfl⟩ := owns_slice hown3
      obtain ⟨hB3, r3⟩ := hBb.more (box1 _ _) hgrow3 (t := mkT (ex, ey, ez) c) (by simpa using hown3)
      have hfz3 := r3.frozen 2
      have hcl3 : w3.cell? ⟨w.heap.size + 1, 2, none⟩ = some (.slice sa O.length sc) := r3.cell (i := 2) (by omega)
      clear hown3 r3 hmore hh hs1 hF hi hz0 hz1 hz2
      have hrow := hB1.rows.lt
      have hR3 : (w3.setCell ⟨w.heap.size + 1, 2, none⟩ (.slice sa3 (O.length + 1) sc3)).ranges Try.prog 113 (plainElem Try.prog 2) b W.heap.size n D left' cnt' := by
        refine World.ranges.kept (((hR'.1.alloc _).alloc _).kept hgrow3 ?_ ?_) (row := some (w.heap.size + 1)) ⟨rfl, rfl, rfl, by rw [World.size_setCell]; exact Nat.le_refl _, fun k hk hne => Below.heap_setCell w3 ⟨w.heap.size + 1, 2, none⟩ _ k (fun e => hne (by rw [e]))⟩ (by simp; omega) (by simp; omega)
        · intro e; have := (hrow _ e.symm).1; omega
        · intro e; have := (hrow _ e.symm).1; omega
      have hfin : (∃ left cnt sv O_1, Rg (w3.setCell ⟨w.heap.size + 1, 2, none⟩ (.slice sa3 (O.length + 1) sc3)) b W.heap.size n D left cnt O_1 ∧ Gath w (w3.setCell ⟨w.heap.size + 1, 2, none⟩ (.slice sa3 (O.length + 1) sc3)) (W.heap.size + 1) (w.heap.size + 1) w.heap.size p d sv O_1) ∧
          (w3.setCell ⟨w.heap.size + 1, 2, none⟩ (.slice sa3 (O.length + 1) sc3)).rangeLeft b W.heap.size < wr.rangeLeft b W.heap.size :=
        ⟨⟨left', cnt', _, _, ⟨hR3, hR'.2⟩, hB3⟩, by rw [hR3.left_eq, ← hR'.1.left_eq]; exact hlt⟩
      have HF := Lib.hid hfin
      clear hfin hR3 hrow hR' hB3 hB1 hBb hB hRg hgrow3 hOn hlt hx
      go_wp2_with fail
      exact HF.out
    · obtain ⟨hx, hlt, hB1, hs1, hzero, _⟩ := hh.out
      obtain ⟨left', cnt', hR'⟩ := hzero (by simpa using ‹(c != 0) = false›)
      refine ⟨⟨left', cnt', _, O, ⟨hR'.1.alloc _, hR'.2⟩, hB1.later (box1 _ _)⟩, ?_⟩
      rw [(hR'.1.alloc _).left_eq, ← hR'.1.left_eq]
      exact hlt
end Go.Proofs.Ytbhgbifliihlbaa
