/-
  SUMS of polynomials, in plain mathematics. Conditions: as each theorem states.
  MAPS OF POLYNOMIALS by monomials; what has been put in. Conditions: as each theorem states.
  MAPS OF POLYNOMIALS: what stays, and the look-up. Conditions: as each theorem states.
  WALKS: 'impl.product'. Conditions: as each theorem states.
  WALKS: 'impl.putIn': what a monomial becomes. Conditions: as the theorem states.
-/
import Derived.Test.YtbhgbifliihlbaaGreatQ10
import Derived.Test.YtbhgbifliihlbaaGreatQ02
import Derived.Maps.OwnSet
import Derived.Test.YtbhgbifliihlbaaGreatQ07
import Derived.Test.YtbhgbifliihlbaaGreatQ06
import Derived.Deep.DeepCutAuto
import Derived.Deep.RegionHeld3
namespace Go.Proofs.YtbhgbifliihlbaaGreat
open Go.RowKit Go.Sort Go.Maps

/-- The coefficients of x and k times y together. -/
def addF (p k : Int) (xs ys : List Tm) (e : Int × Int × Int) : Int := (atL xs e + k * atL ys e) % p
theorem plus_ex {p d k : Int} {xs : List Tm} (hP : ∃ f, IsP p xs f) (ys : List Tm) (hV : Valid p d ys) : ∃ L, IsP p L (addF p k xs ys) := by
  obtain ⟨f, hP⟩ := hP
  have hP0 : IsP p xs (atL xs) := ⟨hP.1, hP.2.1, fun _ _ => rfl⟩
  have key : ∀ i, i ≤ ys.length → ∃ O, IsP p O (addF p k xs (ys.take i)) := fun i => by
    induction i with
    | zero => exact fun _ => ⟨xs, hP0.congr fun e he => by
        have hp := hV.p2
        have := hP0.bound (by omega) he
        simp [addF, atL]; exact (Int.emod_eq_of_lt this.1 this.2).symm⟩
    | succ i ih =>
      intro hi
      obtain ⟨O, hO⟩ := ih (by omega)
      have hlt : i < ys.length := by omega
      obtain ⟨hm, _⟩ := hV.mem ys[i] (List.getElem_mem _)
      refine ⟨_, (hO.put hV.p2 (e := tmE ys[i]) hm (k * ys[i].2.2.2)).congr fun e _ => ?_⟩
      unfold addF
      rw [plus_step (p := p) (k := k) (f := atL xs) hV.asc i hlt e]
      by_cases hx : e = tmE ys[i]
      · rw [if_pos hx, if_pos hx, atL_take_new hV.asc i hlt]
        simp [Int.add_comm]
      · rw [if_neg hx, if_neg hx]
  have := key ys.length (Nat.le_refl _)
  rwa [List.take_length] at this
end Go.Proofs.YtbhgbifliihlbaaGreat
namespace Go.Proofs.YtbhgbifliihlbaaGreat
open Go.RowKit Go.Sort Go.Maps

/-- A value as an element: told by itself. -/
def elemP (v : Value) : Option (DataW Value × List MemPlace) := some (.held v, [])
abbrev MapP (w : World) (b n : Nat) (D : DataW Value) : Prop := w.ownsMap Tryz.prog 55 elemP b n D
/-- The polynomial 0 as a value. -/
abbrev zP : DataW Value := .held (.agg #[.int .i64 0, .int .i64 0, .slice none 0 0])
theorem zeroP (w : World) : (zeroValue 39).run Tryz.prog w = .ok (.agg #[.int .i64 0, .int .i64 0, .slice none 0 0]) w := by kernel_rfl
/-- A map of what monomials become, in block b: each of them right. -/
structure DoneP (w : World) (b n : Nat) (D : DataW Value) (p d : Int) (Ls : List (List Tm)) : Prop where
  map : MapP w b n D
  one : Maps.has D (kE (0, 0, 0)) = true
  ok : ∀ e, byte3 e → Maps.has D (kE e) = true → ∃ v L, D.atKey (kE e) zP = .held (.agg #[.int .i64 p, .int .i64 d, v]) ∧ SliceT w v L ∧ PrR p (facL Ls e) L
/-- A list of terms is not in the map's block. -/
theorem SliceT.besideP {w w' : World} {b n : Nat} {D : DataW Value} {v : Value} {ts : List Tm} (h : SliceT w v ts) (hM : MapP w b n D) (hg : w.grownBy w' (some b)) : SliceT w' v ts := by
  obtain ⟨a, cap, hv, h | ⟨b1, off, ha, hlt, hT⟩⟩ := h
  · exact ⟨a, cap, hv, .inl h⟩
  by_cases hn : ts = []
  · exact ⟨a, cap, hv, .inl hn⟩
  refine ⟨a, cap, hv, .inr ⟨b1, off, ha, Nat.lt_of_lt_of_le hlt hg.size, ?_⟩⟩
  have hne : b1 ≠ b := fun e => by
    obtain ⟨es, clock, hb, _⟩ := hM
    have h0 := (hT 0 (List.length_pos_iff.2 hn)).1
    rw [e] at h0
    simp [World.cell?, hb] at h0
  have q : ∀ o, w'.cell? ⟨b1, o, none⟩ = w.cell? ⟨b1, o, none⟩ := fun o => hg.cell_far ⟨b1, o, none⟩ hlt (by simpa using hne)
  intro k hk
  obtain ⟨c0, c1, c2, c3⟩ := hT k hk
  exact ⟨(q _).trans c0, (q _).trans c1, (q _).trans c2, (q _).trans c3⟩
theorem DoneP.later {w w' : World} {b n : Nat} {D : DataW Value} {p d : Int} {Ls : List (List Tm)} (h : DoneP w b n D p d Ls) (hb : Below w.heap.size w w') : DoneP w' b n D p d Ls :=
  ⟨h.map.kept (row := none) ⟨hb.os, hb.tape, hb.output, hb.size, fun k hk _ => hb.block k hk⟩ (by simp), h.one, fun e he hh => by
    obtain ⟨v, L, h1, h2, h3⟩ := h.ok e he hh
    exact ⟨v, L, h1, h2.below hb, h3⟩⟩
/-- Other blocks are written: not those that hold what the map has (they are told by a bound). -/
theorem DoneP.most {w : World} {b n n' : Nat} {D : DataW Value} {p d : Int} {Ls : List (List Tm)} (h : DoneP w b n D p d Ls) (hn : n ≤ n') : DoneP w b n' D p d Ls :=
  ⟨h.map.mono hn, h.one, h.ok⟩
theorem DoneP.put {w w' : World} {b n : Nat} {D : DataW Value} {p d : Int} {Ls : List (List Tm)} {e : Int × Int × Int} {v : Value} {L : List Tm} (h : DoneP w b n D p d Ls) (he : byte3 e) (hS : SliceT w v L) (hL : PrR p (facL Ls e) L)
    (hm : MapP w' b (n + 1) (D.put (kE e) (.held (.agg #[.int .i64 p, .int .i64 d, v])))) (hg : w.grownBy w' (some b)) : DoneP w' b (n + 1) (D.put (kE e) (.held (.agg #[.int .i64 p, .int .i64 d, v]))) p d Ls := by
  have hD : IsMap D := h.map.isMap
  have hz : byte3 ((0 : Int), (0 : Int), (0 : Int)) := by unfold byte3; simp
  refine ⟨hm, ?_, fun e' he' hh => ?_⟩
  · by_cases hx : ((0 : Int), (0 : Int), (0 : Int)) = e
    · rw [hx]; exact has_put_same hD (kE_key _) _
    · rw [has_put_other (kE_ne hz he hx)]; exact h.one
  · by_cases hx : e' = e
    · subst hx
      exact ⟨v, L, atKey_put_same hD (kE_key _) _ _, hS.besideP h.map hg, hL⟩
    · rw [has_put_other (kE_ne he' he hx)] at hh
      obtain ⟨v', L', h1, h2, h3⟩ := h.ok e' he' hh
      exact ⟨v', L', by rw [atKey_put_other (kE_ne he' he hx)]; exact h1, h2.besideP h.map hg, h3⟩
end Go.Proofs.YtbhgbifliihlbaaGreat
namespace Go.Proofs.YtbhgbifliihlbaaGreat
open Go.RowKit Go.Sort Go.Maps

theorem cell_beyond {w : World} {b n i : Nat} {t : TypeId} {f : Nat → Value} (h : w.rowIs b t n f) (hi : n ≤ i) : w.cell? ⟨b, i, none⟩ = none := by
  obtain ⟨c, hc, hn, _⟩ := h
  simp [World.cell?, hc]
  omega
/-- A box of a polynomial holds no terms. -/
theorem SliceT.setBox {w : World} {v u : Value} {ts : List Tm} {q i : Nat} {t : TypeId} {F : Nat → Value} (h : SliceT w v ts) (hr : w.rowIs q t 3 F) : SliceT (w.setCell ⟨q, i, none⟩ u) v ts := by
  obtain ⟨a, cap, hv, h | ⟨b1, off, ha, hlt, hT⟩⟩ := h
  · exact ⟨a, cap, hv, .inl h⟩
  by_cases hn : ts = []
  · exact ⟨a, cap, hv, .inl hn⟩
  have hne : b1 ≠ q := fun e => by
    have h0 := (hT 0 (List.length_pos_iff.2 hn)).2.2.2
    rw [e, cell_beyond hr (by omega)] at h0
    simp at h0
  have q1 : ∀ o, (w.setCell ⟨q, i, none⟩ u).cell? ⟨b1, o, none⟩ = w.cell? ⟨b1, o, none⟩ := fun o => by
    unfold World.cell?
    rw [Below.heap_setCell _ ⟨q, i, none⟩ u b1 hne]
  refine ⟨a, cap, hv, .inr ⟨b1, off, ha, by rw [World.size_setCell]; exact hlt, fun k hk => ?_⟩⟩
  obtain ⟨c0, c1, c2, c3⟩ := hT k hk
  exact ⟨(q1 _).trans c0, (q1 _).trans c1, (q1 _).trans c2, (q1 _).trans c3⟩
theorem DoneP.setBox {w : World} {b n : Nat} {D : DataW Value} {p d : Int} {Ls : List (List Tm)} {q i : Nat} {u : Value} {t : TypeId} {F : Nat → Value} (h : DoneP w b n D p d Ls) (hr : w.rowIs q t 3 F) (hne : b ≠ q) : DoneP (w.setCell ⟨q, i, none⟩ u) b n D p d Ls :=
  ⟨h.map.setCell (by simpa using hne) u, h.one, fun e he hh => by
    obtain ⟨v, L, h1, h2, h3⟩ := h.ok e he hh
    exact ⟨v, L, h1, h2.setBox hr, h3⟩⟩
theorem MapP.ne {w : World} {b n B N : Nat} {D : DataW Value} {t : TypeId} {f : Nat → Value} (h : MapP w b n D) (hr : w.rowIs B t N f) : B ≠ b := fun e => by
  obtain ⟨es, clock, hb, _⟩ := h
  obtain ⟨c, hc, _⟩ := hr
  rw [e, hb] at hc
  simp at hc
theorem MapP.noCell {w : World} {b n : Nat} {D : DataW Value} (h : MapP w b n D) (o : Nat) : w.cell? ⟨b, o, none⟩ = none := by
  obtain ⟨es, clock, hb, _⟩ := h
  simp [World.cell?, hb]
theorem PolysW.besideP {w w' : World} {b n b1 off : Nat} {D : DataW Value} {G : List Pm} (h : PolysW w b1 off G) (hlt : b1 < w.heap.size) (hM : MapP w b n D) (hg : w.grownBy w' (some b)) : PolysW w' b1 off G := fun k hk => by
  obtain ⟨u, h0, h1, h2, hS⟩ := h k hk
  have hne : b1 ≠ b := fun e => by
    rw [e, hM.noCell] at h0
    simp at h0
  have q : ∀ o, w'.cell? ⟨b1, o, none⟩ = w.cell? ⟨b1, o, none⟩ := fun o => hg.cell_far ⟨b1, o, none⟩ hlt (by simpa using hne)
  exact ⟨u, (q _).trans h0, (q _).trans h1, (q _).trans h2, hS.besideP hM hg⟩
theorem SlP.besideP {w w' : World} {b n : Nat} {D : DataW Value} {v : Value} {G : List Pm} (h : SlP w v G) (hM : MapP w b n D) (hg : w.grownBy w' (some b)) : SlP w' v G := by
  obtain ⟨a, cap, hv, h | ⟨b1, off, ha, hlt, hT⟩⟩ := h
  · exact ⟨a, cap, hv, .inl h⟩
  · exact ⟨a, cap, hv, .inr ⟨b1, off, ha, Nat.lt_of_lt_of_le hlt hg.size, hT.besideP hlt hM hg⟩⟩
theorem rowG {w w' : World} {b B n : Nat} {t : TypeId} {f : Nat → Value} (h : w.rowIs B t n f) (hg : w.grownBy w' (some b)) (hne : B ≠ b) : w'.rowIs B t n f := h.of_block (hg.block B h.lt (by simpa using hne))
theorem gBelow {w w' : World} {b : Nat} (h : Below w.heap.size w w') : w.grownBy w' (some b) := ⟨h.os, h.tape, h.output, h.size, fun k hk _ => h.block k hk⟩
theorem gSetNew {w w' : World} {b q o : Nat} {v : Value} (h : w.grownBy w' (some b)) (hq : w.heap.size ≤ q) : w.grownBy (w'.setCell ⟨q, o, none⟩ v) (some b) :=
  ⟨h.os, h.tape, h.output, by rw [World.size_setCell]; exact h.size, fun k hk hne => (Below.heap_setCell w' ⟨q, o, none⟩ v k (by show k ≠ q; omega)).trans (h.block k hk hne)⟩
/-- The look-up of what is there. -/
theorem DoneP.yes {w : World} {b n : Nat} {D : DataW Value} {p d : Int} {Ls : List (List Tm)} {x y z : Int} (h : DoneP w b n D p d Ls) (he : byte3 (x, y, z)) (hh : Maps.has D (kE (x, y, z)) = true) : ∃ v L, (Instr.lookup 130 (.map (some b)) (.agg #[.int .u8 x, .int .u8 y, .int .u8 z]) true).run Tryz.prog w = .ok (.tuple #[.agg #[.int .i64 p, .int .i64 d, v], .bool true]) w ∧ SliceT w v L ∧ PrR p (facL Ls (x, y, z)) L := by
  obtain ⟨v, L, h1, h2, h3⟩ := h.ok _ he hh
  obtain ⟨v', ps, hrun, hv⟩ := h.map.look_ok lawK Tryz.underlying130 (zeroP w) (zd := zP) (zp := []) rfl (keyOf_vE (x, y, z) he)
  rw [h1] at hv
  simp [elemP] at hv
  rw [hh, hv.1] at hrun
  exact ⟨v, L, hrun, h2, h3⟩
theorem DoneP.no {w : World} {b n : Nat} {D : DataW Value} {p d : Int} {Ls : List (List Tm)} {x y z : Int} (h : DoneP w b n D p d Ls) (he : byte3 (x, y, z)) (hh : Maps.has D (kE (x, y, z)) = false) : (Instr.lookup 130 (.map (some b)) (.agg #[.int .u8 x, .int .u8 y, .int .u8 z]) true).run Tryz.prog w = .ok (.tuple #[.agg #[.int .i64 0, .int .i64 0, .slice none 0 0], .bool false]) w := by
  obtain ⟨v', ps, hrun, hv⟩ := h.map.look_ok lawK Tryz.underlying130 (zeroP w) (zd := zP) (zp := []) rfl (keyOf_vE (x, y, z) he)
  rw [atKey_of_not_has hh] at hv
  simp [elemP] at hv
  rw [hh, hv.1] at hrun
  exact hrun

/-- A monomial with one exponent less. -/
def downE (e : Int × Int × Int) (t : Nat) : Int × Int × Int := (if t = 0 then e.1 - 1 else e.1, if t = 1 then e.2.1 - 1 else e.2.1, if t = 2 then e.2.2 - 1 else e.2.2)
theorem downE_facts {Ls : List (List Tm)} {x y z : Int} {t s : Nat} (ht : t < 3) (h0 : 0 < nthE (x, y, z) t) (hb : byte3 (x, y, z)) (hs : x + y + z = s) (hz : ∀ i, t < i → nthE (x, y, z) i = 0) :
    byte3 (downE (x, y, z) t) ∧ (downE (x, y, z) t).1 + (downE (x, y, z) t).2.1 + (downE (x, y, z) t).2.2 = (s : Int) - 1 ∧ (∀ i, t < i → nthE (downE (x, y, z) t) i = 0) ∧ facL Ls (x, y, z) = nthL Ls t :: facL Ls (downE (x, y, z) t) ∧ bndE Ls (downE (x, y, z) t) + dgN Ls t = bndE Ls (x, y, z) := by
  obtain ⟨⟨a1, a2⟩, ⟨a3, a4⟩, a5, a6⟩ : (0 ≤ x ∧ x ≤ 255) ∧ (0 ≤ y ∧ y ≤ 255) ∧ (0 ≤ z ∧ z ≤ 255) := hb
  have z1 := hz 1
  have z2 := hz 2
  match t, ht with
  | 0, _ =>
    have h1 : y = 0 := by simpa [nthE] using z1 (by omega)
    have h2 : z = 0 := by simpa [nthE] using z2 (by omega)
    subst h1 h2
    have hx : 0 < x := by simpa [nthE] using h0
    refine ⟨by unfold byte3 downE; simp; omega, by simp [downE]; omega, fun i hi => ?_, fac_pos_a hx, ?_⟩
    · unfold nthE downE
      rw [if_neg (by omega)]
      simp
    · simp only [bndE, downE]
      simp [Int.sub_mul]
  | 1, _ =>
    have h2 : z = 0 := by simpa [nthE] using z2 (by omega)
    subst h2
    have hx : 0 < y := by simpa [nthE] using h0
    refine ⟨by unfold byte3 downE; simp; omega, by simp [downE]; omega, fun i hi => ?_, fac_pos_b hx, ?_⟩
    · unfold nthE downE
      rw [if_neg (by omega), if_neg (by omega)]
      simp
    · simp only [bndE, downE]
      simp [Int.sub_mul]
      omega
  | 2, _ =>
    have hx : 0 < z := by simpa [nthE] using h0
    refine ⟨by unfold byte3 downE; simp; omega, by simp [downE]; omega, fun i hi => ?_, fac_pos_c hx, ?_⟩
    · unfold nthE
      rw [if_neg (by omega), if_neg (by omega), if_neg (by omega)]
    · simp only [bndE, downE]
      simp [Int.sub_mul]
      omega
theorem down_row {w : World} {B : Nat} {x y z : Int} {t : Nat} (h : w.rowIs B 55 3 (expsF x y z)) (ht : t < 3) : (w.setCell ⟨B, t, none⟩ (.int .u8 (nthE (x, y, z) t - 1))).rowIs B 55 3 (expsF (downE (x, y, z) t).1 (downE (x, y, z) t).2.1 (downE (x, y, z) t).2.2) := by
  refine (h.set t _).congr fun i hi => ?_
  match t, i, ht, hi with
  | 0, 0, _, _ => rfl
  | 0, 1, _, _ => rfl
  | 0, 2, _, _ => rfl
  | 1, 0, _, _ => rfl
  | 1, 1, _, _ => rfl
  | 1, 2, _, _ => rfl
  | 2, 0, _, _ => rfl
  | 2, 1, _, _ => rfl
  | 2, 2, _, _ => rfl
theorem nthX_cell {w : World} {B : Nat} {x y z : Int} (h : w.rowIs B 55 3 (expsF x y z)) {k : Nat} (hk : k < 3) : w.cell? ⟨B, k, none⟩ = some (.int .u8 (nthE (x, y, z) k)) := by
  have := h.cell (i := k) (by omega)
  rw [this]
  match k, hk with
  | 0, _ => rfl
  | 1, _ => rfl
  | 2, _ => rfl
end Go.Proofs.YtbhgbifliihlbaaGreat
namespace Go.Proofs.YtbhgbifliihlbaaGreat
open Go.RowKit Go.Sort Go.Maps

/-- A map of coefficients in the making, beside the boxes of two arguments and the result. -/
structure MapSt2 (w wr : World) (b n a a2 r : Nat) (p d : Int) (xv yv : Value) (D : DataW Unit) : Prop where
  st : MapSt w wr b n a r p d xv D
  arg2 : wr.rowIs a2 39 3 (polyF p d yv)
theorem MapSt2.later {w wr w1 : World} {b n a a2 r : Nat} {p d : Int} {xv yv : Value} {D : DataW Unit} (h : MapSt2 w wr b n a a2 r p d xv yv D) (hb : Below wr.heap.size wr w1) : MapSt2 w w1 b n a a2 r p d xv yv D :=
  ⟨h.st.later hb, rowIs_below h.arg2 hb h.arg2.lt⟩
theorem MapSt2.wrote {w wr w1 : World} {b n n' a a2 r : Nat} {p d : Int} {xv yv : Value} {D D' : DataW Unit} (h : MapSt2 w wr b n a a2 r p d xv yv D) (hg : wr.grownBy w1 (some b)) (hm : MapE w1 b n' D') : MapSt2 w w1 b n' a a2 r p d xv yv D' :=
  ⟨h.st.wrote hg hm, h.arg2.of_block (hg.block a2 h.arg2.lt (by simpa using row_not_map h.arg2 h.st.map))⟩
theorem MapSt2.most {w wr : World} {b n n' a a2 r : Nat} {p d : Int} {xv yv : Value} {D : DataW Unit} (h : MapSt2 w wr b n a a2 r p d xv yv D) (hn : n ≤ n') : MapSt2 w wr b n' a a2 r p d xv yv D :=
  ⟨⟨h.st.map.mono hn, h.st.arg, h.st.res, h.st.below, h.st.b1, h.st.r1⟩, h.arg2⟩
/-- The exponents after j letters have been added. -/
def eAdd (x y z x' y' z' : Int) (j : Nat) : Nat → Value := expsF (if 0 < j then x + x' else x) (if 1 < j then y + y' else y) (if 2 < j then z + z' else z)
theorem erow1 (w : World) (o : Obj) (x y z : Int) : ((w.alloc o).alloc (.cells #[.int .u8 x, .int .u8 y, .int .u8 z] 55)).rowIs (w.heap.size + 1) 55 3 (expsF x y z) := by
  have := World.rowIs_alloc (w.alloc o) #[Value.int .u8 x, .int .u8 y, .int .u8 z] 55 (expsF x y z) (fun i hi => by simp at hi; match i, hi with | 0, _ => rfl | 1, _ => rfl | 2, _ => rfl)
  rwa [World.size_alloc] at this
theorem eset {w : World} {b : Nat} {x y z x' y' z' : Int} {j : Nat} (h : w.rowIs b 55 3 (eAdd x y z x' y' z' j)) (u : Int) (hj : j < 3) (hu : u = (if j = 0 then x + x' else if j = 1 then y + y' else z + z')) : (w.setCell ⟨b, j, none⟩ (.int .u8 u)).rowIs b 55 3 (eAdd x y z x' y' z' (j + 1)) := by
  refine (h.set j (.int .u8 u)).congr fun i hi => ?_
  subst hu
  match j, i, hj, hi with
  | 0, 0, _, _ => rfl
  | 0, 1, _, _ => rfl
  | 0, 2, _, _ => rfl
  | 1, 0, _, _ => rfl
  | 1, 1, _, _ => rfl
  | 1, 2, _, _ => rfl
  | 2, 0, _, _ => rfl
  | 2, 1, _, _ => rfl
  | 2, 2, _, _ => rfl

theorem gset {V w : World} {e : Nat} (h : V.grownBy w (some e)) (j : Nat) (v : Value) : V.grownBy (w.setCell ⟨e, j, none⟩ v).drew (some e) :=
  ⟨h.os, h.tape, h.output, by show _ ≤ (w.setCell ⟨e, j, none⟩ v).heap.size; rw [World.size_setCell]; exact h.size, fun k hk hne => (Below.heap_setCell w ⟨e, j, none⟩ v k (fun x => hne (by rw [x]))).trans (h.block k hk hne)⟩

set_option maxRecDepth 8000 in
set_option maxHeartbeats 16000000 in
theorem product_any (p d : Int) (v v' : Value) (xs ys : List Tm) (w : World) (hS : SliceT w v xs) (hS' : SliceT w v' ys) (hV : Valid p d xs) (hV' : Valid p d ys) (hfit : Fits xs ys) :
    Calls Tryz.prog 112 #[.agg #[.int .i64 p, .int .i64 d, v], .agg #[.int .i64 p, .int .i64 d, v']] w fun e w' =>
      ∃ v' L, e = .returned (.agg #[.int .i64 p, .int .i64 d, v']) ∧ OwnP w' w.heap.size v' L ∧ IsP p L (mulF p xs ys) ∧ Below w.heap.size w w' := by
  have hp2 := hV.p2
  have hp13 := hV.p13
  have hlx := hV.isP.len
  have hly := hV'.isP.len
  obtain ⟨L, hL⟩ := mul_ex hV hV' hfit
  obtain ⟨a, cap, rfl, _⟩ := id hS
  obtain ⟨a', cap', rfl, _⟩ := id hS'
  obtain ⟨W, hW, hbW, ⟨hWs1, hWs2⟩, rx, ry, rr⟩ := pair3 w p d (.slice a xs.length cap) p d (.slice a' ys.length cap')
  have hmm := @run_makeMap Tryz.prog
  have hm := World.ownsMap_made (H := Unit) W Tryz.prog 55 (plainElem Tryz.prog 2)
  obtain ⟨V, hV1, hbV, hVs1⟩ : ∃ V, V = W.alloc (.map #[] 0) ∧ Below W.heap.size W V ∧ W.heap.size + 1 ≤ V.heap.size := ⟨_, rfl, box1 _ _, by simp⟩
  rw [← hV1] at hm
  have hst : MapSt2 w V W.heap.size 0 w.heap.size (w.heap.size + 1) (w.heap.size + 2) p d (.slice a xs.length cap) (.slice a' ys.length cap') (.map []) :=
    ⟨⟨hm, rowIs_below rx hbV rx.lt, rowIs_below rr hbV rr.lt, hbW.trans (hbV.mono hbW.size), hbW.size, by omega⟩, rowIs_below ry hbV ry.lt⟩
  have xo : ∀ o, (W.alloc o).cell? ⟨w.heap.size, 2, none⟩ = some (.slice a xs.length cap) := fun o => ((box1 W o).cell rx.lt).trans (poly3 rx).1.2.2
  go_enter Tryz.func112, Tryz.ntmps112
  go_upto_region 1 with fail
  rw [← hW]
  clear hW
  go_wp2_with fail
  rw [← hV1]
  clear hV1 xo hm rx ry rr
  go_loopw [16] (fun j wr => ∃ (i : Nat) (D : DataW Unit), i ≤ xs.length ∧ j = .int .i64 i ∧ Hid (∀ e, byte3 e → cf D e = mulF p (xs.take i) ys e) ∧ MapSt2 w wr W.heap.size (i * 2197) w.heap.size (w.heap.size + 1) (w.heap.size + 2) p d (.slice a xs.length cap) (.slice a' ys.length cap') D) (fun j _ => xs.length - (intOf j).toNat)
  case atStart => exact ⟨0, _, by omega, rfl, Lib.hid (fun e _ => by rw [cf_empty]; simp [mulF_nil]), hst⟩
  case round =>
    clear hst
    obtain ⟨i, D, hi, rfl, HD, hM⟩ := hrel
    obtain ⟨wo, rfl⟩ : ∃ wo : World, wo = wr := ⟨_, rfl⟩
    by_cases hlt1 : i < xs.length
    · have hlt' : (i : Int) < (xs.length : Int) := by omega
      obtain ⟨A1, cap1, hv1, hcase1⟩ := hS.below hM.st.below
      simp at hv1
      obtain ⟨rfl, rfl⟩ := hv1
      rcases hcase1 with h0 | ⟨b1, off1, rfl, hltb1, hTx⟩
      · rw [h0] at hlt1; exact absurd hlt1 (by simp)
      obtain ⟨c0, c1, c2, c3⟩ := hTx i hlt1
      obtain ⟨⟨⟨bx, by1, bz⟩, hs12⟩, bv1, bv2⟩ := hV.mem xs[i] (List.getElem_mem _)
      have HF := Lib.hid (fun k (h : k < ys.length) e => prt_step p xs ys i xs[i] k h e)
      have HZ := Lib.hid (fun e => prt_zero p xs ys i xs[i] e)
      have HN := Lib.hid (fun e => prt_full p xs ys i hlt1 e)
      have HE := Lib.hid (fun (k : Nat) (h : k < ys.length) => hfit xs[i] (List.getElem_mem _) ys[k] (List.getElem_mem _))
      simp only [tmE] at bx by1 bz
      have HB := Lib.hid (fun k e => (⟨Int.emod_nonneg _ (by omega), Int.emod_lt_of_pos _ (by omega)⟩ : 0 ≤ prt p xs ys i xs[i] k e ∧ prt p xs ys i xs[i] k e < p))
      generalize hpr : prt p xs ys i xs[i] = F at HF HZ HN HB
      generalize hx : xs[i].1 = x at *
      generalize hy : xs[i].2.1 = y at *
      generalize hz : xs[i].2.2.1 = z at *
      generalize hvv : xs[i].2.2.2 = u at *
      have htm : tmE xs[i] = (x, y, z) := by simp [tmE, hx, hy, hz]
      rw [htm] at HF
      clear hpr hx hy hz hvv htm hTx hV
      have hM1 := hM.later (box1 wo (.cells #[.int .u8 x, .int .u8 y, .int .u8 z, .int .i64 u] 57))
      have rs := trow wo x y z u
      obtain ⟨⟨m0, m1, m2⟩, _⟩ := poly3 hM.st.arg
      have yo : ∀ o, (wo.alloc o).cell? ⟨w.heap.size + 1, 2, none⟩ = some (.slice a' ys.length cap') := fun o => ((box1 wo o).cell hM.arg2.lt).trans (poly3 hM.arg2).1.2.2
      have HD0 : Hid (∀ e, byte3 e → cf D e = F 0 e) := Lib.hid (fun e he => (HD.out e he).trans (HZ.out e).symm)
      go_wp2_with fail
      clear m0 m1 m2 c0 c1 c2 c3 yo HD HZ
      go_loopw [23] (fun j wr => ∃ (k : Nat) (D : DataW Unit), k ≤ ys.length ∧ j = .int .i64 k ∧ Hid (∀ e, byte3 e → cf D e = F k e) ∧ MapSt2 w wr W.heap.size (i * 2197 + k) w.heap.size (w.heap.size + 1) (w.heap.size + 2) p d (.slice (some ⟨b1, off1, none⟩) xs.length cap) (.slice a' ys.length cap') D ∧ wr.rowIs wo.heap.size 57 4 (tmF x y z u)) (fun j _ => ys.length - (intOf j).toNat)
      case atStart => exact ⟨0, D, by omega, rfl, HD0, hM1, rs⟩
      case round =>
        clear hM1 rs HD0 hM
        obtain ⟨k, D, hk, rfl, HD, hM, rs⟩ := hrel
        obtain ⟨wk, rfl⟩ : ∃ wk : World, wk = wr := ⟨_, rfl⟩
        by_cases hlt2 : k < ys.length
        · have hlt2' : (k : Int) < (ys.length : Int) := by omega
          obtain ⟨A2, cap2, hv2, hcase2⟩ := hS'.below hM.st.below
          simp at hv2
          obtain ⟨rfl, rfl⟩ := hv2
          rcases hcase2 with h0 | ⟨b2, off2, rfl, hltb2, hTy⟩
          · rw [h0] at hlt2; exact absurd hlt2 (by simp)
          obtain ⟨d0, d1, d2, d3⟩ := hTy k hlt2
          obtain ⟨⟨⟨bx', by1', bz'⟩, hs12'⟩, bv1', bv2'⟩ := hV'.mem ys[k] (List.getElem_mem _)
          have HS := Lib.hid (HF.out k hlt2)
          have hft := HE.out k hlt2
          simp only [tmE] at bx' by1' bz'
          generalize hx' : ys[k].1 = x' at *
          generalize hy' : ys[k].2.1 = y' at *
          generalize hz' : ys[k].2.2.1 = z' at *
          generalize hv' : ys[k].2.2.2 = u' at *
          have htm' : tmE ys[k] = (x', y', z') := by simp [tmE, hx', hy', hz']
          rw [htm'] at HS
          clear hx' hy' hz' hv' htm' hTy
          have hE1 : byte3 (x + x', y + y', z + z') := by unfold byte3; simp only []; omega
          have s0 := rs.cell (i := 0) (by omega)
          have s1 := rs.cell (i := 1) (by omega)
          have s2 := rs.cell (i := 2) (by omega)
          have s3 := rs.cell (i := 3) (by omega)
          simp [tmF] at s0 s1 s2 s3
          obtain ⟨V2, hV2, hbV2, ⟨hV2s1, hV2s2⟩, rt, re⟩ : ∃ V2, V2 = (wk.alloc (.cells #[.int .u8 x', .int .u8 y', .int .u8 z', .int .i64 u'] 57)).alloc (.cells #[.int .u8 x, .int .u8 y, .int .u8 z] 55) ∧ Below wk.heap.size wk V2 ∧ (V2.heap.size ≤ wk.heap.size + 2 ∧ wk.heap.size + 2 ≤ V2.heap.size) ∧
              V2.rowIs wk.heap.size 57 4 (tmF x' y' z' u') ∧ V2.rowIs (wk.heap.size + 1) 55 3 (eAdd x y z x' y' z' 0) :=
            ⟨_, rfl, box2 _ _ _, ⟨by simp, by simp⟩, (trow wk x' y' z' u').alloc _, erow1 wk _ x y z⟩
          obtain ⟨⟨m0, m1, m2⟩, _⟩ := poly3 hM.arg2
          have so : ∀ o, ((wk.alloc o).cell? ⟨wo.heap.size, 0, none⟩ = some (.int .u8 x) ∧ (wk.alloc o).cell? ⟨wo.heap.size, 1, none⟩ = some (.int .u8 y) ∧ (wk.alloc o).cell? ⟨wo.heap.size, 2, none⟩ = some (.int .u8 z)) := fun o =>
            ⟨((box1 wk o).cell (p := ⟨_, _, none⟩) rs.lt).trans s0, ((box1 wk o).cell (p := ⟨_, _, none⟩) rs.lt).trans s1, ((box1 wk o).cell (p := ⟨_, _, none⟩) rs.lt).trans s2⟩
          go_wp2_with fail
          rw [← hV2]
          clear hV2 so m0 m1 m2 d0 d1 d2 d3 s0 s1 s2 s3
          go_loopw [11, 29] (fun _ j wr => ∃ (jn : Nat) (ji : Int), ((jn = 0 ∧ ji = 0) ∨ (jn = 1 ∧ ji = 1) ∨ (jn = 2 ∧ ji = 2) ∨ (jn = 3 ∧ ji = 3)) ∧ j = .int .i64 ji ∧ wr.rowIs (wk.heap.size + 1) 55 3 (eAdd x y z x' y' z' jn) ∧ V2.grownBy wr (some (wk.heap.size + 1))) (fun _ j _ => 3 - (intOf j).toNat)
          case atStart => exact ⟨0, 0, .inl ⟨rfl, rfl⟩, rfl, re, World.grownBy.refl _ _⟩
          case round =>
            obtain ⟨jn, ji, hj, rfl, rej, hgr⟩ := hrel
            have rtj := rt.of_block (hgr.block _ rt.lt (by simp))
            rcases hj with ⟨rfl, rfl⟩ | ⟨rfl, rfl⟩ | ⟨rfl, rfl⟩ | ⟨rfl, rfl⟩
            · have m0 : wr.cell? ⟨wk.heap.size + 1, 0, none⟩ = some (.int .u8 x) := rej.cell (i := 0) (by omega)
              have m1 : wr.cell? ⟨wk.heap.size, 0, none⟩ = some (.int .u8 x') := rtj.cell (i := 0) (by omega)
              have m2 := rej.frozen 0
              have g1 : IntKind.u8.wrap (x + x') = x + x' := IntWalk.u8_in _ (by omega)
              have hre := eset rej (x + x') (by omega) rfl
              have hge := gset hgr 0 (.int .u8 (x + x'))
              have Hre := Lib.hid hre
              clear rej rtj re rt hre
              go_wp2_with fail
              refine region_tail 9 (by kernel_rfl) (by kernel_rfl) ?_
              simp only [List.take_succ_cons, List.take_zero, List.drop_succ_cons, List.drop_zero]
              repeat still_step
              refine wpStill_nil ?_
              go_wp2_with fail
              go_roundw
              case rel => exact ⟨1, 1, by omega, by go_num, Hre.out, hge⟩
              case measure => simp [intOf]
            · have m0 : wr.cell? ⟨wk.heap.size + 1, 1, none⟩ = some (.int .u8 y) := rej.cell (i := 1) (by omega)
              have m1 : wr.cell? ⟨wk.heap.size, 1, none⟩ = some (.int .u8 y') := rtj.cell (i := 1) (by omega)
              have m2 := rej.frozen 1
              have g1 : IntKind.u8.wrap (y + y') = y + y' := IntWalk.u8_in _ (by omega)
              have hre := eset rej (y + y') (by omega) rfl
              have hge := gset hgr 1 (.int .u8 (y + y'))
              have Hre := Lib.hid hre
              clear rej rtj re rt hre
              go_wp2_with fail
              refine region_tail 9 (by kernel_rfl) (by kernel_rfl) ?_
              simp only [List.take_succ_cons, List.take_zero, List.drop_succ_cons, List.drop_zero]
              repeat still_step
              refine wpStill_nil ?_
              go_wp2_with fail
              go_roundw
              case rel => exact ⟨2, 2, by omega, by go_num, Hre.out, hge⟩
              case measure => simp [intOf]
            · have m0 : wr.cell? ⟨wk.heap.size + 1, 2, none⟩ = some (.int .u8 z) := rej.cell (i := 2) (by omega)
              have m1 : wr.cell? ⟨wk.heap.size, 2, none⟩ = some (.int .u8 z') := rtj.cell (i := 2) (by omega)
              have m2 := rej.frozen 2
              have g1 : IntKind.u8.wrap (z + z') = z + z' := IntWalk.u8_in _ (by omega)
              have hre := eset rej (z + z') (by omega) rfl
              have hge := gset hgr 2 (.int .u8 (z + z'))
              have Hre := Lib.hid hre
              clear rej rtj re rt hre
              go_wp2_with fail
              refine region_tail 9 (by kernel_rfl) (by kernel_rfl) ?_
              simp only [List.take_succ_cons, List.take_zero, List.drop_succ_cons, List.drop_zero]
              repeat still_step
              refine wpStill_nil ?_
              go_wp2_with fail
              go_roundw
              case rel => exact ⟨3, 3, by omega, by go_num, Hre.out, hge⟩
              case measure => simp [intOf]
            · have hbj : Below wk.heap.size wk wr := hbV2.grown hgr hbV2.size (fun g e => by simp at e; omega)
              have hMj := hM.later hbj
              have rsj := rowIs_below rs hbj rs.lt
              have k0 : wr.cell? ⟨wk.heap.size + 1, 0, none⟩ = some (.int .u8 (x + x')) := rej.cell (i := 0) (by omega)
              have k1 : wr.cell? ⟨wk.heap.size + 1, 1, none⟩ = some (.int .u8 (y + y')) := rej.cell (i := 1) (by omega)
              have k2 : wr.cell? ⟨wk.heap.size + 1, 2, none⟩ = some (.int .u8 (z + z')) := rej.cell (i := 2) (by omega)
              have s3 : wr.cell? ⟨wo.heap.size, 3, none⟩ = some (.int .i64 u) := rsj.cell (i := 3) (by omega)
              have t3 : wr.cell? ⟨wk.heap.size, 3, none⟩ = some (.int .i64 u') := rtj.cell (i := 3) (by omega)
              obtain ⟨⟨p0, _, _⟩, _⟩ := poly3 hMj.st.arg
              have hkey : keyOf Tryz.prog 55 (.agg #[.int .u8 (x + x'), .int .u8 (y + y'), .int .u8 (z + z')]) = some (kE (x + x', y + y', z + z')) := keyOf_vE (x + x', y + y', z + z') hE1
              have hMd := hMj.later (Below.same wr).drew
              obtain ⟨c, hrun, hat, _⟩ := hMd.st.map.lookup_int lawK Tryz.underlying103 Tryz.underlying2 (zero64 _) hkey
              have hce : c = F k (x + x', y + y', z + z') := by rw [← HD.out _ hE1]; exact (cf_of_at hat).symm
              obtain ⟨b0, b1⟩ := HB.out k (x + x', y + y', z + z')
              rw [← hce] at b0 b1
              have HC := Lib.hid hce
              clear hce hat
              have g1 : 0 ≤ u * u' := Int.mul_nonneg (by omega) (by omega)
              have g2 : u * u' ≤ 13 * 13 := Int.mul_le_mul (by omega) (by omega) (by omega) (by omega)
              have hw : IntKind.i64.wrap (u * u') = u * u' := IntWalk.i64_in _ (by omega)
              have hw2 : IntKind.i64.wrap (c + u * u') = c + u * u' := IntWalk.i64_in _ (by omega)
              have hp0 : ¬ p = 0 := by omega
              have hp1 : (p == 0) = false := by simpa using hp0
              have ht : (c + u * u').tmod p = (c + u * u') % p := Int.tmod_eq_emod_of_nonneg (by omega)
              have q1 : 0 ≤ (c + u * u') % p := Int.emod_nonneg _ (by omega)
              have q2 : (c + u * u') % p < p := Int.emod_lt_of_pos _ (by omega)
              have HD2 : Hid (∀ e, byte3 e → cf (D.put (kE (x + x', y + y', z + z')) (.lit (.int .i64 ((c + u * u') % p)))) e = F (k + 1) e) := Lib.hid (fun e he => by
                rw [cf_put hMd.st.map.isMap hE1 he, HS.out e, HD.out e he, HC.out, Int.add_comm (F k _) (u * u')]
                rfl)
              clear HC HD HS HF HE HN hM hMj rej rtj re rt hgr
              go_wp2_with fail
              refine region_tail 14 (by kernel_rfl) (by kernel_rfl) ?_
              simp only [List.take_succ_cons, List.take_zero, List.drop_succ_cons, List.drop_zero]
              repeat still_step
              refine wpStill_nil ?_
              try simp only [hw, hw2, ht]
              go_wp2_with (at_mapUpdate; refine wpList_mapUpdate_own _ rfl _ _ _ 103 rfl 55 2 lawK Tryz.underlying103 (plainElem Tryz.prog 2) W.heap.size (i * 2197 + k) D rfl hMd.st.map (by unfold maxLen; omega) (.agg #[.int .u8 (x + x'), .int .u8 (y + y'), .int .u8 (z + z')]) _ _ rfl rfl hkey _ [] (plainElem_int Tryz.underlying2 (wf64 q1 (by omega))) ?_; intro w3 hown3 hgrow3)
              have rsd := rowIs_below rsj (Below.same wr).drew rsj.lt
              have rs3 := rsd.of_block (hgrow3.block _ rsd.lt (by simpa using row_not_map rsd hMd.st.map))
              have hM3 := (hMd.wrote hgrow3 hown3).most (n' := i * 2197 + (k + 1)) (by omega)
              go_roundw
              case rel => exact ⟨k + 1, _, by omega, by go_num, HD2, hM3, rs3⟩
              case measure => simp [intOf]; omega
        · obtain rfl : k = ys.length := by omega
          have HD2 : Hid (∀ e, byte3 e → cf D e = mulF p (xs.take (i + 1)) ys e) := Lib.hid (fun e he => (HD.out e he).trans (HN.out e))
          have hM2 := hM.most (n' := (i + 1) * 2197) (by omega)
          clear HD HN HF HE hM
          go_wp2_with fail
          go_roundw
          case rel => exact ⟨i + 1, D, by omega, by go_num, HD2, hM2⟩
          case measure => simp [intOf]; omega
    · obtain rfl : i = xs.length := by omega
      have hD := HD.out
      rw [List.take_length] at hD
      have HD2 := Lib.hid hD
      clear HD hD
      obtain ⟨⟨c0, c1, c2⟩, _⟩ := poly3 hM.st.arg
      have hbd : ∀ e, byte3 e → 0 ≤ mulF p xs ys e ∧ mulF p xs ys e < p := fun e he => hL.bound (by omega) he
      have h12 : ∀ e, byte3 e → mulF p xs ys e ≠ 0 → e.1 + e.2.1 + e.2.2 ≤ 12 := fun e he hne => by
        rw [← hL.2.2 e he] at hne
        by_cases hmem : ∃ t ∈ L, tmE t = e
        · obtain ⟨t, ht, rfl⟩ := hmem
          exact (hL.2.1 t ht).1.2
        · exact absurd (atL_none fun t ht hx => hmem ⟨t, ht, hx⟩) hne
      go_wp2_with fail
      ((with_reducible refine (polyOf_any sort_says p d W.heap.size _ D wo hM.st.map (by omega) (fun e he hne => h12 e he (by have := HD2.out e he; rwa [← this]))).mono ?_); rintro e w4 ⟨v4, S, rfl, ho4, hgood, hb4⟩)
      obtain rfl : S = L := (hgood.isP HD2.out hbd h12).unique hL
      obtain ⟨sa2, sc2, rfl⟩ := owns_slice ho4
      have rr2 := rowIs_below hM.st.res hb4 hM.st.res.lt
      obtain ⟨a0, a1, a2, a3, a4⟩ := fill_box rr2 ho4 hM.st.below.size (hM.st.below.trans (hb4.mono hM.st.below.size)) (by omega) p d
      have A0 := Lib.hid a0
      have A1 := Lib.hid a1
      have A2 := Lib.hid a2
      have A3 := Lib.hid a3
      have A4 := Lib.hid a4
      clear a0 a1 a2 a3 a4 c0 c1 c2 ho4 HD2 hbd h12 hgood hM
      obtain ⟨⟨r0, r1, r2⟩, z0, z1, z2⟩ := poly3 rr2
      go_wp2_with fail
      exact bodyPost_ret (v := .agg #[.int .i64 p, .int .i64 d, .slice sa2 S.length sc2]) (by simp [results, Tryz.results112, go_sem, A0.out, A1.out, A2.out]) rfl ⟨_, S, rfl, A3.out, hL, A4.out⟩
end Go.Proofs.YtbhgbifliihlbaaGreat
namespace Go.Proofs.YtbhgbifliihlbaaGreat
open Go.RowKit Go.Sort Go.Maps

theorem box_setD {Z0 w1 : World} {B0 base b n : Nat} {D : DataW Value} {p d : Int} {Ls : List (List Tm)} {F : Nat → Value} {v : Value} {S : List Tm} (hR : w1.rowIs B0 39 3 F) (hD : DoneP w1 b n D p d Ls) (hg : Z0.grownBy w1 (some b)) (hB : Z0.heap.size ≤ B0) (hs : OwnP w1 base v S) (P Q : Int) :
    (((w1.setCell ⟨B0, 0, none⟩ (.int .i64 P)).setCell ⟨B0, 1, none⟩ (.int .i64 Q)).setCell ⟨B0, 2, none⟩ v).rowIs B0 39 3 (polyF P Q v) ∧
    SliceT (((w1.setCell ⟨B0, 0, none⟩ (.int .i64 P)).setCell ⟨B0, 1, none⟩ (.int .i64 Q)).setCell ⟨B0, 2, none⟩ v) v S ∧
    DoneP (((w1.setCell ⟨B0, 0, none⟩ (.int .i64 P)).setCell ⟨B0, 1, none⟩ (.int .i64 Q)).setCell ⟨B0, 2, none⟩ v) b n D p d Ls ∧
    Z0.grownBy (((w1.setCell ⟨B0, 0, none⟩ (.int .i64 P)).setCell ⟨B0, 1, none⟩ (.int .i64 Q)).setCell ⟨B0, 2, none⟩ v) (some b) := by
  have hne := (hD.map.ne hR).symm
  have R1 := hR.set 0 (.int .i64 P)
  have R2 := R1.set 1 (.int .i64 Q)
  refine ⟨(R2.set 2 v).congr fun i hi => ?_, (((OwnP.slice hs).setBox hR).setBox R1).setBox R2, ((hD.setBox hR hne).setBox R1 hne).setBox R2 hne, gSetNew (gSetNew (gSetNew hg hB) hB) hB⟩
  match i, hi with
  | 0, _ => rfl
  | 1, _ => rfl
  | 2, _ => rfl
/-- The same where the terms lie anywhere. -/
theorem box_setS {Z0 w1 : World} {B0 b n : Nat} {D : DataW Value} {p d : Int} {Ls : List (List Tm)} {F : Nat → Value} {v : Value} {S : List Tm} (hR : w1.rowIs B0 39 3 F) (hD : DoneP w1 b n D p d Ls) (hg : Z0.grownBy w1 (some b)) (hB : Z0.heap.size ≤ B0) (hs : SliceT w1 v S) (P Q : Int) :
    (((w1.setCell ⟨B0, 0, none⟩ (.int .i64 P)).setCell ⟨B0, 1, none⟩ (.int .i64 Q)).setCell ⟨B0, 2, none⟩ v).rowIs B0 39 3 (polyF P Q v) ∧
    SliceT (((w1.setCell ⟨B0, 0, none⟩ (.int .i64 P)).setCell ⟨B0, 1, none⟩ (.int .i64 Q)).setCell ⟨B0, 2, none⟩ v) v S ∧
    DoneP (((w1.setCell ⟨B0, 0, none⟩ (.int .i64 P)).setCell ⟨B0, 1, none⟩ (.int .i64 Q)).setCell ⟨B0, 2, none⟩ v) b n D p d Ls ∧
    Z0.grownBy (((w1.setCell ⟨B0, 0, none⟩ (.int .i64 P)).setCell ⟨B0, 1, none⟩ (.int .i64 Q)).setCell ⟨B0, 2, none⟩ v) (some b) := by
  have hne := (hD.map.ne hR).symm
  have R1 := hR.set 0 (.int .i64 P)
  have R2 := R1.set 1 (.int .i64 Q)
  refine ⟨(R2.set 2 v).congr fun i hi => ?_, ((hs.setBox hR).setBox R1).setBox R2, ((hD.setBox hR hne).setBox R1 hne).setBox R2 hne, gSetNew (gSetNew (gSetNew hg hB) hB) hB⟩
  match i, hi with
  | 0, _ => rfl
  | 1, _ => rfl
  | 2, _ => rfl
/-- The boxes of a monomial and of the result. -/
theorem boxER (w : World) (x y z : Int) : ∃ W, W = (w.alloc (.cells #[.int .u8 x, .int .u8 y, .int .u8 z] 55)).alloc (.cells #[.int .i64 0, .int .i64 0, .slice none 0 0] 39) ∧ Below w.heap.size w W ∧ (W.heap.size ≤ w.heap.size + 2 ∧ w.heap.size + 2 ≤ W.heap.size) ∧
      W.rowIs w.heap.size 55 3 (expsF x y z) ∧ W.rowIs (w.heap.size + 1) 39 3 (polyF 0 0 (.slice none 0 0)) := by
  refine ⟨_, rfl, box2 _ _ _, ⟨by simp, by simp⟩, ?_, ?_⟩
  · refine World.rowIs.alloc (World.rowIs_alloc w #[Value.int .u8 x, .int .u8 y, .int .u8 z] _ _ (fun i hi => ?_)) _
    simp at hi; match i, hi with | 0, _ => rfl | 1, _ => rfl | 2, _ => rfl
  · have := World.rowIs_alloc (w.alloc (.cells #[.int .u8 x, .int .u8 y, .int .u8 z] 55)) #[Value.int .i64 0, .int .i64 0, .slice none 0 0] 39 (polyF 0 0 (.slice none 0 0)) (fun i hi => by simp at hi; match i, hi with | 0, _ => rfl | 1, _ => rfl | 2, _ => rfl)
    simpa using this
/-- What is asked of the list. -/
structure ListP (p d : Int) (G : List Pm) : Prop where
  l1 : 1 ≤ G.length
  l3 : G.length ≤ 3
  ok : ∀ g ∈ G, g.1 = p ∧ g.2.1 = d ∧ Valid p d g.2.2
theorem ListP.tms {p d : Int} {G : List Pm} (h : ListP p d G) : ∀ g ∈ tmsL G, Valid p d g := fun g hg => by
  simp only [tmsL, List.mem_map] at hg
  obtain ⟨x, hx, rfl⟩ := hg
  exact (h.ok x hx).2.2
theorem top_ex {x y z : Int} {n s : Nat} (hb : byte3 (x, y, z)) (hs : x + y + z = s) (h0 : 0 < s) (hz : ∀ i, n ≤ i → nthE (x, y, z) i = 0) : ∃ t, t < n ∧ t < 3 ∧ 0 < nthE (x, y, z) t ∧ ∀ i, t < i → nthE (x, y, z) i = 0 := by
  obtain ⟨⟨a1, a2⟩, ⟨a3, a4⟩, a5, a6⟩ : (0 ≤ x ∧ x ≤ 255) ∧ (0 ≤ y ∧ y ≤ 255) ∧ (0 ≤ z ∧ z ≤ 255) := hb
  have e0 : nthE (x, y, z) 0 = x := rfl
  have e1 : nthE (x, y, z) 1 = y := rfl
  have e2 : nthE (x, y, z) 2 = z := rfl
  have hi3 : ∀ i, 3 ≤ i → nthE (x, y, z) i = 0 := fun i hi => by
    unfold nthE; rw [if_neg (by omega), if_neg (by omega), if_neg (by omega)]
  have key : ∀ t, t < 3 → 0 < nthE (x, y, z) t → t < n := fun t _ h => Nat.lt_of_not_le fun hn => by
    have := hz t hn
    omega
  by_cases c2 : 0 < z
  · exact ⟨2, key 2 (by omega) (by rw [e2]; exact c2), by omega, by rw [e2]; exact c2, fun i hi => hi3 i (by omega)⟩
  · by_cases c1 : 0 < y
    · refine ⟨1, key 1 (by omega) (by rw [e1]; exact c1), by omega, by rw [e1]; exact c1, fun i hi => ?_⟩
      by_cases h : i = 2
      · subst h; rw [e2]; omega
      · exact hi3 i (by omega)
    · refine ⟨0, key 0 (by omega) (by rw [e0]; omega), by omega, by rw [e0]; omega, fun i hi => ?_⟩
      by_cases h : i = 2
      · subst h; rw [e2]; omega
      · by_cases h : i = 1
        · subst h; rw [e1]; omega
        · exact hi3 i (by omega)

set_option maxRecDepth 8000 in
set_option maxHeartbeats 16000000 in
theorem putIn_yes (p d : Int) (G : List Pm) (lv : Value) (b s : Nat) (x y z : Int) (n : Nat) (D : DataW Value) (w : World) (hbt : byte3 (x, y, z)) (hD : DoneP w b n D p d (tmsL G)) (hh : Maps.has D (kE (x, y, z)) = true) :
    Calls Tryz.prog 98 #[.agg #[.int .u8 x, .int .u8 y, .int .u8 z], lv, .map (some b)] w fun e w' =>
      ∃ v L D' n', e = .returned (.agg #[.int .i64 p, .int .i64 d, v]) ∧ SliceT w' v L ∧ PrR p (facL (tmsL G) (x, y, z)) L ∧ DoneP w' b n' D' p d (tmsL G) ∧ n' ≤ n + s ∧ w.grownBy w' (some b) := by
  obtain ⟨W, hW, hbW, ⟨hWs1, hWs2⟩, re, rr⟩ := boxER w x y z
  obtain ⟨v, L, hrun, hSv, hL⟩ := (hD.later hbW).yes hbt hh
  obtain ⟨A, c, rfl, _⟩ := id hSv
  have c0 : W.cell? ⟨w.heap.size, 0, none⟩ = some (.int .u8 x) := re.cell (i := 0) (by omega)
  have c1 : W.cell? ⟨w.heap.size, 1, none⟩ = some (.int .u8 y) := re.cell (i := 1) (by omega)
  have c2 : W.cell? ⟨w.heap.size, 2, none⟩ = some (.int .u8 z) := re.cell (i := 2) (by omega)
  obtain ⟨V, hV, hbV, _, rV⟩ := newbox W p d (.slice A L.length c)
  have rrV := rowIs_below rr hbV rr.lt
  have hDV := (hD.later hbW).later hbV
  obtain ⟨a0, a1, a2, a3⟩ := box_setS (Z0 := w) rrV hDV ((gBelow hbW).trans (gBelow hbV)) (by omega) (hSv.below hbV) p d
  obtain ⟨⟨m0, m1, m2⟩, _⟩ := poly3 a0
  obtain ⟨⟨r0, r1, r2⟩, z0, z1, z2⟩ := poly3 rrV
  obtain ⟨⟨q0, q1, q2⟩, _⟩ := poly3 rV
  have A0 := Lib.hid m0
  have A1 := Lib.hid m1
  have A2 := Lib.hid m2
  have A3 := Lib.hid a1
  have A4 := Lib.hid a2
  have A5 := Lib.hid a3
  clear m0 m1 m2 a0 a1 a2 a3 hDV rrV rV re rr hbV hSv hD
  go_enter Tryz.func98, Tryz.ntmps98
  go_upto_region 1 with fail
  rw [← hW]
  clear hW
  go_upto_region 2 with fail
  rw [← hV]
  clear hV c0 c1 c2
  go_wp2_with fail
  exact bodyPost_ret (v := .agg #[.int .i64 p, .int .i64 d, .slice A L.length c]) (by simp [results, Tryz.results98, go_sem, A0.out, A1.out, A2.out]) rfl ⟨_, L, D, n, rfl, A3.out, hL, A4.out, by omega, A5.out⟩

set_option maxRecDepth 8000 in
set_option maxHeartbeats 32000000 in
theorem putIn_any (p d : Int) (G : List Pm) (lv : Value) (b : Nat) (hLP : ListP p d G) : ∀ (s : Nat) (x y z : Int) (n : Nat) (D : DataW Value) (w : World), byte3 (x, y, z) → x + y + z = s → (∀ i, G.length ≤ i → nthE (x, y, z) i = 0) → bndE (tmsL G) (x, y, z) ≤ 12 → SlP w lv G → DoneP w b n D p d (tmsL G) → n + s ≤ 1048576 →
    Calls Tryz.prog 98 #[.agg #[.int .u8 x, .int .u8 y, .int .u8 z], lv, .map (some b)] w fun e w' =>
      ∃ v L D' n', e = .returned (.agg #[.int .i64 p, .int .i64 d, v]) ∧ SliceT w' v L ∧ PrR p (facL (tmsL G) (x, y, z)) L ∧ DoneP w' b n' D' p d (tmsL G) ∧ n' ≤ n + s ∧ w.grownBy w' (some b) := by
  intro s
  induction s with
  | zero =>
    intro x y z n D w hbt hs _ _ _ hD _
    obtain ⟨rfl, rfl, rfl⟩ : x = 0 ∧ y = 0 ∧ z = 0 := by
      obtain ⟨⟨a1, a2⟩, ⟨a3, a4⟩, a5, a6⟩ : (0 ≤ x ∧ x ≤ 255) ∧ (0 ≤ y ∧ y ≤ 255) ∧ (0 ≤ z ∧ z ≤ 255) := hbt
      omega
    exact putIn_yes p d G lv b 0 0 0 0 n D w hbt hD hD.one
  | succ s ih =>
    intro x y z n D w hbt hs hz hbd hG hD hn
    cases hh : Maps.has D (kE (x, y, z))
    case true => exact putIn_yes p d G lv b _ x y z n D w hbt hD hh
    obtain ⟨t, htn, ht3, ht0, htz⟩ := top_ex hbt hs (by omega) hz
    obtain ⟨hb', hs', hz0, hfac, hbe⟩ := downE_facts (Ls := tmsL G) ht3 ht0 hbt hs htz
    obtain ⟨x', hx'⟩ : ∃ x', (downE (x, y, z) t).1 = x' := ⟨_, rfl⟩
    obtain ⟨y', hy'⟩ : ∃ y', (downE (x, y, z) t).2.1 = y' := ⟨_, rfl⟩
    obtain ⟨z', hz'⟩ : ∃ z', (downE (x, y, z) t).2.2 = z' := ⟨_, rfl⟩
    have hdown : downE (x, y, z) t = (x', y', z') := by rw [← hx', ← hy', ← hz']
    have hrowD := fun (w : World) (B : Nat) (h : w.rowIs B 55 3 (expsF x y z)) => down_row h ht3
    simp only [hdown] at hb' hs' hz0 hfac hbe hrowD
    have hdg := dgN_nonneg (tmsL G) t
    have hg := hLP.ok G[t] (List.getElem_mem htn)
    have hnth := tmsL_nth htn
    have hzz : ∀ i, G.length ≤ i → nthE (x', y', z') i = 0 := fun i hi => hz0 i (by omega)
    -- the product of the others, and the product
    obtain ⟨L1, hL1⟩ : ∃ L1, PrR p (facL (tmsL G) (x', y', z')) L1 := pr_ex hg.2.2 (fac_valid hg.2.2 hLP.tms _ _ _) (by rw [sumD_facL _ hb']; omega)
    obtain ⟨f1, hf1⟩ := hL1.isP
    have hV1 := hg.2.2.of_isP hf1
    have hfit := fits_of hV1 hg.2.2 (PrR.room (fs := facL (tmsL G) (x', y', z')) (g := G[t].2.2) (fac_valid hg.2.2 hLP.tms _ _ _) hL1 (by rw [sumD, sumD_facL _ hb', ← hnth]; unfold dgN at hbe; omega))
    obtain ⟨L, hL⟩ := mul_ex hV1 hg.2.2 hfit
    have hPL : PrR p (facL (tmsL G) (x, y, z)) L := by rw [hfac, hnth]; exact ⟨L1, hL1, hL⟩
    obtain ⟨W, hW, hbW, ⟨hWs1, hWs2⟩, re, rr⟩ := boxER w x y z
    have hrun := (hD.later hbW).no hbt hh
    have c0 : W.cell? ⟨w.heap.size, 0, none⟩ = some (.int .u8 x) := re.cell (i := 0) (by omega)
    have c1 : W.cell? ⟨w.heap.size, 1, none⟩ = some (.int .u8 y) := re.cell (i := 1) (by omega)
    have c2 : W.cell? ⟨w.heap.size, 2, none⟩ = some (.int .u8 z) := re.cell (i := 2) (by omega)
    obtain ⟨V, hV, hbV, ⟨hVs1, hVs2⟩, rV⟩ := newbox W 0 0 (.slice none 0 0)
    have hbwV := hbW.trans (hbV.mono hbW.size)
    have rrV := rowIs_below rr hbV rr.lt
    have reV := rowIs_below re hbV re.lt
    have hDV := hD.later hbwV
    have hGV := hG.below hbwV
    obtain ⟨la, lc, rfl, hc⟩ := id hG
    have hlen : (1 : Int) ≤ (G.length : Int) ∧ (G.length : Int) ≤ 3 := ⟨by have := hLP.l1; omega, by have := hLP.l3; omega⟩
    obtain ⟨hlen1, hlen3⟩ := hlen
    obtain ⟨e0, e1⟩ : 0 < nthE (x, y, z) t ∧ nthE (x, y, z) t ≤ 255 := ⟨ht0, by
      obtain ⟨⟨a1, a2⟩, ⟨a3, a4⟩, a5, a6⟩ : (0 ≤ x ∧ x ≤ 255) ∧ (0 ≤ y ∧ y ≤ 255) ∧ (0 ≤ z ∧ z ≤ 255) := hbt
      unfold nthE
      repeat' split
      all_goals omega⟩
    have HR := Lib.hid (fun (k : Nat) (h : k < 3) => nthX_cell reV h)
    have HZ := Lib.hid htz
    go_enter Tryz.func98, Tryz.ntmps98
    go_upto_region 1 with fail
    rw [← hW]
    clear hW
    go_upto_region 2 with fail
    rw [← hV]
    clear hV c0 c1 c2 hrun
    go_wp2_with fail
    go_loop [9] (fun i => ∃ m : Nat, i = .int .i64 m ∧ t ≤ m ∧ m < G.length) (fun i => (intOf i).toNat)
    case atStart => exact ⟨G.length - 1, by rw [show ((G.length - 1 : Nat) : Int) = (G.length : Int) - 1 by omega], by omega, by omega⟩
    case round =>
      obtain ⟨m, rfl, htm, hmn⟩ := hrel
      have hm3 : m < 3 := by omega
      have hm3' : (m : Int) < 3 := by omega
      have c0 := HR.out m hm3
      by_cases hmt : m = t
      · subst hmt
        have hne : (nthE (x, y, z) m == 0) = false := by simp; omega
        have hw8 : IntKind.u8.wrap (nthE (x, y, z) m - 1) = nthE (x, y, z) m - 1 := IntWalk.u8_in _ (by omega)
        obtain ⟨b0, k0⟩ : V.cell? ⟨w.heap.size, 0, none⟩ = some (.int .u8 x) ∧ V.cell? ⟨w.heap.size, 1, none⟩ = some (.int .u8 y) := ⟨reV.cell (i := 0) (by omega), reV.cell (i := 1) (by omega)⟩
        have k2 : V.cell? ⟨w.heap.size, 2, none⟩ = some (.int .u8 z) := reV.cell (i := 2) (by omega)
        obtain ⟨X, hX, hbX, ⟨hXs1, hXs2⟩, rX⟩ : ∃ X, X = V.alloc (.cells #[.int .u8 x, .int .u8 y, .int .u8 z] 55) ∧ Below V.heap.size V X ∧ (X.heap.size ≤ V.heap.size + 1 ∧ V.heap.size + 1 ≤ X.heap.size) ∧ X.rowIs V.heap.size 55 3 (expsF x y z) :=
          ⟨_, rfl, box1 _ _, ⟨by simp, by simp⟩, World.rowIs_alloc V #[Value.int .u8 x, .int .u8 y, .int .u8 z] _ _ (fun i hi => by simp at hi; match i, hi with | 0, _ => rfl | 1, _ => rfl | 2, _ => rfl)⟩
        have g0 := nthX_cell rX hm3
        have g1 := rX.frozen m
        have rZ := hrowD X _ rX
        go_upto_region 8 with fail
        rw [← hX]
        clear hX
        obtain ⟨Z, hZ, hZ2⟩ : ∃ Z, Z = X.setCell ⟨V.heap.size, m, none⟩ (.int .u8 (nthE (x, y, z) m - 1)) ∧ Z.heap.size = X.heap.size := ⟨_, rfl, World.size_setCell _ _ _⟩
        rw [← hZ] at rZ
        have hbwX := hbwV.trans (hbX.mono hbwV.size)
        have hVw := hbwV.size
        have hbwZ : Below w.heap.size w Z := by rw [hZ]; exact hbwX.setCell (by simpa using hVw) _
        have hDZ := hD.later hbwZ
        have hGZ := hG.below hbwZ
        have reZ : Z.rowIs w.heap.size 55 3 (expsF x y z) := by
          rw [hZ]
          exact (rowIs_below re (hbV.trans (hbX.mono hbV.size)) re.lt).setOther (by simp; omega) _
        have rrZ : Z.rowIs (w.heap.size + 1) 39 3 (polyF 0 0 (.slice none 0 0)) := by
          rw [hZ]
          exact (rowIs_below rr (hbV.trans (hbX.mono hbV.size)) rr.lt).setOther (by simp; omega) _
        obtain ⟨bl, off, rfl, hbl, hT⟩ : ∃ bl off, la = some ⟨bl, off, none⟩ ∧ bl < Z.heap.size ∧ PolysW Z bl off G := by
          obtain ⟨la', lc', hv, hcs⟩ := hGZ
          simp at hv
          obtain ⟨rfl, rfl⟩ := hv
          rcases hcs with h | h
          · rw [h] at htn; simp at htn
          · exact h
        have hne2 : b < w.heap.size := hD.map.lt
        have hnZ : Z.heap.size ≠ b := by have := hbwZ.size; omega
        obtain ⟨u, h0, h1, h2, hu⟩ := hT m htn
        obtain ⟨ua, uc, rfl, _⟩ := id hu
        rw [hg.1] at h0
        rw [hg.2.1] at h1
        have hblb : bl ≠ b := fun e => by
          rw [e, hDZ.map.noCell] at h0
          simp at h0
        have KK := Lib.hid (fun w' (h : Z.grownBy w' (some b)) => show ((w'.cell? ⟨V.heap.size, 0, none⟩ = some (.int .u8 x') ∧ w'.cell? ⟨V.heap.size, 1, none⟩ = some (.int .u8 y') ∧ w'.cell? ⟨V.heap.size, 2, none⟩ = some (.int .u8 z')) ∧ (w'.cell? ⟨bl, off + m * 3, none⟩ = some (.int .i64 p) ∧ w'.cell? ⟨bl, off + m * 3 + 1, none⟩ = some (.int .i64 d) ∧ w'.cell? ⟨bl, off + m * 3 + 2, none⟩ = some (.slice ua G[m].2.2.length uc))) from by
          have r := rowG rZ h (by omega)
          have q : ∀ o, w'.cell? ⟨bl, o, none⟩ = Z.cell? ⟨bl, o, none⟩ := fun o => h.cell_far ⟨bl, o, none⟩ hbl (by simpa using hblb)
          exact ⟨⟨r.cell (i := 0) (by omega), r.cell (i := 1) (by omega), r.cell (i := 2) (by omega)⟩, (q _).trans h0, (q _).trans h1, (q _).trans h2⟩)
        have hnn : n + s ≤ 1048576 := by omega
        have hs'' : x' + y' + z' = (s : Int) := by omega
        have hbd' : bndE (tmsL G) (x', y', z') ≤ 12 := by omega
        have HVS := Lib.hid (And.intro hV1 (And.intro hg.2.2 hfit))
        have hMZ := hDZ.map
        go_upto_region 9 with fail
        rw [← hZ]
        clear hZ hZ2 h0 h1 h2 c0 b0 k0 k2 g0 g1 hrowD hw8 hne HR HZ
        go_cut [11] (fun s11 wx => ∃ (bx : Nat) (A : Option Addr) (c : Nat) (D' : DataW Value) (n' : Nat), s11 = .pointer (some ⟨bx, 0, none⟩) ∧ wx.rowIs bx 39 3 (polyF p d (.slice A L.length c)) ∧ SliceT wx (.slice A L.length c) L ∧ DoneP wx b n' D' p d (tmsL G) ∧ n' ≤ n + s ∧ Z.grownBy wx (some b) ∧ Z.heap.size ≤ bx)
        case first =>
          go_region_held3 (fun w' => ((w'.cell? ⟨V.heap.size, 0, none⟩ = some (.int .u8 x') ∧ w'.cell? ⟨V.heap.size, 1, none⟩ = some (.int .u8 y') ∧ w'.cell? ⟨V.heap.size, 2, none⟩ = some (.int .u8 z')) ∧ (w'.cell? ⟨bl, off + m * 3, none⟩ = some (.int .i64 p) ∧ w'.cell? ⟨bl, off + m * 3 + 1, none⟩ = some (.int .i64 d) ∧ w'.cell? ⟨bl, off + m * 3 + 2, none⟩ = some (.slice ua G[m].2.2.length uc))))
            (first | with_reducible exact KK.out _ (gSetNew (gSetNew (gSetNew HG14 HG13.size) HG13.size) HG13.size) | with_reducible exact KK.out _ (gSetNew (gSetNew (gSetNew HG14 (Nat.le_refl _)) (Nat.le_refl _)) (Nat.le_refl _)) | with_reducible exact KK.out _ (gBelow (Below.same _).drew) | with_reducible exact KK.out _ (gBelow (box1 _ _).drew) | with_reducible exact KK.out _ HG13 | with_reducible exact KK.out _ (HG13.trans (gBelow (box1 _ _))) | with_reducible exact KK.out _ HG14 | with_reducible exact KK.out _ (HG14.trans (gBelow (box1 _ _))))
            (first
            | (go_at_call 98; (with_reducible refine (ih x' y' z' n D _ hb' hs'' hzz hbd' (by first | with_reducible exact hGZ.below (Below.same _).drew | with_reducible exact hGZ.below (box1 _ _).drew) (by first | with_reducible exact hDZ.later (Below.same _).drew | with_reducible exact hDZ.later (box1 _ _).drew) hnn).mono ?_); rintro e w13 ⟨v13, L13, D13, n13, rfl, hS13, hL13, hD13, hn13, hg13⟩; have HG13 : Z.grownBy w13 (some b) := (by first | with_reducible exact (gBelow (Below.same _).drew).trans hg13 | with_reducible exact (gBelow (box1 _ _).drew).trans hg13); (first | (have ZR13 : w13.rowIs Z.heap.size 39 3 (polyF 0 0 (.slice none 0 0)) := rowG (zboxD Z) hg13 hnZ; obtain ⟨⟨e130, e131, e132⟩, f130, f131, f132⟩ := poly3 ZR13) | skip); (obtain rfl : L1 = L13 := hL1.unique hL13); (obtain ⟨a13, c13, rfl, _⟩ := id hS13))
            | (go_at_call 112; (with_reducible refine (product_any p d _ _ L1 G[m].2.2 _ (by first | with_reducible exact hS13 | with_reducible exact hS13.below (box1 _ _)) (by first | with_reducible exact hu.besideP hMZ HG13 | with_reducible exact (hu.besideP hMZ HG13).below (box1 _ _)) HVS.out.1 HVS.out.2.1 HVS.out.2.2).mono ?_); rintro e w14 ⟨v14, L14, rfl, ho14, hL14, hb14⟩; have H14 : Below w13.heap.size w13 w14 := (by first | with_reducible exact hb14 | with_reducible exact (box1 _ _).trans (hb14.mono (by simp))); have HG14 : Z.grownBy w14 (some b) := HG13.trans (gBelow H14); (first | (have ZR14 : w14.rowIs w13.heap.size 39 3 (polyF 0 0 (.slice none 0 0)) := rowIs_below (zbox w13) hb14 (by simp); obtain ⟨⟨e140, e141, e142⟩, f140, f141, f142⟩ := poly3 ZR14) | (have ZR14 := rowIs_below ZR13 H14 ZR13.lt; obtain ⟨⟨e140, e141, e142⟩, f140, f141, f142⟩ := poly3 ZR14) | skip); (obtain rfl : L = L14 := hL.unique hL14); (obtain ⟨sa, sc, rfl⟩ := owns_slice ho14)))
          all_goals
            go_wp2_with fail
            go_meet
            first
              | exact ⟨w14.heap.size, sa, sc, D13, n13, rfl, World.rowIs_alloc w14 #[Value.int .i64 p, .int .i64 d, .slice sa L.length sc] _ _ (fun i hi => by simp at hi; match i, hi with | 0, _ => rfl | 1, _ => rfl | 2, _ => rfl), (OwnP.slice ho14).below (box1 _ _), (hD13.later H14).later (box1 _ _), hn13, HG14.trans (gBelow (box1 _ _)), HG14.size⟩
              | exact ⟨w13.heap.size, sa, sc, D13, n13, rfl, (box_setD ZR14 (hD13.later H14) HG14 HG13.size ho14 p d).1, (box_setD ZR14 (hD13.later H14) HG14 HG13.size ho14 p d).2.1, (box_setD ZR14 (hD13.later H14) HG14 HG13.size ho14 p d).2.2.1, hn13, (box_setD ZR14 (hD13.later H14) HG14 HG13.size ho14 p d).2.2.2, HG13.size⟩
              | exact ⟨Z.heap.size, sa, sc, D13, n13, rfl, (box_setD ZR14 (hD13.later H14) HG14 (Nat.le_refl _) ho14 p d).1, (box_setD ZR14 (hD13.later H14) HG14 (Nat.le_refl _) ho14 p d).2.1, (box_setD ZR14 (hD13.later H14) HG14 (Nat.le_refl _) ho14 p d).2.2.1, hn13, (box_setD ZR14 (hD13.later H14) HG14 (Nat.le_refl _) ho14 p d).2.2.2, Nat.le_refl _⟩
        case rest =>
          obtain ⟨bx, A, c, D', n', rfl, rbx, hSx, hDx, hnx, hgx, hbx⟩ := hcut
          have hgw := (gBelow hbwZ).trans hgx
          have reC := rowG reZ hgx (by omega)
          have rrC := rowG rrZ hgx (by omega)
          have hbxb : bx ≠ b := by have := hbwZ.size; omega
          have hkey : keyOf Tryz.prog 55 (.agg #[.int .u8 x, .int .u8 y, .int .u8 z]) = some (kE (x, y, z)) := keyOf_vE (x, y, z) hbt
          have HE := Lib.hid (fun w2 (h1 : MapP w2 b (n' + 1) (D'.put (kE (x, y, z)) (.held (.agg #[.int .i64 p, .int .i64 d, .slice A L.length c])))) (h2 : wc.grownBy w2 (some b)) =>
            box_setS (Z0 := w) (rowG rrC h2 (by omega)) (hDx.put hbt hSx hPL h1 h2) (hgw.trans h2) (by omega) (hSx.besideP hDx.map h2) p d)
          have HB := Lib.hid (fun w2 (h2 : wc.grownBy w2 (some b)) => And.intro (rowG rrC h2 (by omega)) (rowG rbx h2 hbxb))
          have c0 : wc.cell? ⟨w.heap.size, 0, none⟩ = some (.int .u8 x) := reC.cell (i := 0) (by omega)
          have c1 : wc.cell? ⟨w.heap.size, 1, none⟩ = some (.int .u8 y) := reC.cell (i := 1) (by omega)
          have c2 : wc.cell? ⟨w.heap.size, 2, none⟩ = some (.int .u8 z) := reC.cell (i := 2) (by omega)
          obtain ⟨⟨b0, b1, b2⟩, _⟩ := poly3 rbx
          have hmap := hDx.map
          have hml : n' < maxLen := by unfold maxLen; omega
          have HPL := Lib.hid hPL
          have HNX : Hid (n' + 1 ≤ n + (s + 1)) := Lib.hid (by omega)
          clear KK HVS hu hT hDZ hGZ hMZ rZ reZ rrZ hD hG hDV hGV reC rrC rbx hSx hDx hPL hc hV1 hfit hL hL1 hf1 hfac hbe hbd hbd' htz hz hzz hz0 hnx hbx hgx hgw re rr reV rrV rV rX hbX hbV hbW hbwV hbwX hbwZ hg hnth ih
          go_wp2_with (at_mapUpdate; refine wpList_mapUpdate_own _ rfl _ _ _ 130 rfl 55 39 lawK Tryz.underlying130 elemP b n' D' rfl hmap hml (.agg #[.int .u8 x, .int .u8 y, .int .u8 z]) _ _ rfl rfl hkey (.held (.agg #[.int .i64 p, .int .i64 d, .slice A L.length c])) [] rfl ?_; intro w2 hown2 hgrow2; obtain ⟨⟨⟨r0, r1, r2⟩, z0, z1, z2⟩, ⟨q0, q1, q2⟩, _⟩ := And.intro (poly3 (HB.out w2 hgrow2).1) (poly3 (HB.out w2 hgrow2).2))
          obtain ⟨a0, a1, a2, a3⟩ := HE.out w2 hown2 hgrow2
          obtain ⟨⟨m0, m1, m2⟩, _⟩ := poly3 a0
          exact bodyPost_ret (v := .agg #[.int .i64 p, .int .i64 d, .slice A L.length c]) (by simp [results, Tryz.results98, go_sem, m0, m1, m2]) rfl ⟨_, rfl, L, a1, HPL.out, _, _, a2, HNX.out, a3⟩
      · have hq0 := HZ.out m (by omega)
        rw [hq0] at c0
        go_wp2_with fail
        go_round
        case rel => exact ⟨m - 1, by rw [show ((m - 1 : Nat) : Int) = (m : Int) - 1 by omega], by omega, by omega⟩
        case measure => simp [intOf]; omega
end Go.Proofs.YtbhgbifliihlbaaGreat
