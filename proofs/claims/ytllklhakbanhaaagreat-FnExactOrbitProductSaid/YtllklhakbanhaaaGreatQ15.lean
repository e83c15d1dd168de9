/-
  SUBSTITUTIONS: the model's road to what a monomial becomes, in plain mathematics. Conditions: as each theorem states.
  SUMS of polynomials, in plain mathematics. Conditions: as each theorem states.
  MAPS OF POLYNOMIALS by monomials; what has been put in. Conditions: as each theorem states.
  MAPS OF POLYNOMIALS: what stays, and the look-up. Conditions: as each theorem states.
-/
import Derived.Test.YtllklhakbanhaaaGreatQ14
import Derived.Test.YtllklhakbanhaaaGreatQ10
import Derived.Test.YtllklhakbanhaaaGreatQ07
import Derived.Test.YtllklhakbanhaaaGreatQ02
import Derived.Maps.OwnSet
namespace Go.Proofs.YtllklhakbanhaaaGreat
open Go.RowKit Go.Sort Go.Maps

/-- The factors of the first k letters; j more of the letter k. -/
def facK (Ls : List (List Tm)) (e : Int × Int × Int) : Nat → List (List Tm)
  | 0 => []
  | k + 1 => List.replicate (nthE e k).toNat (nthL Ls k) ++ facK Ls e k
def facP (Ls : List (List Tm)) (e : Int × Int × Int) (k j : Nat) : List (List Tm) := List.replicate j (nthL Ls k) ++ facK Ls e k
theorem facP_zero (Ls : List (List Tm)) (e : Int × Int × Int) (k : Nat) : facP Ls e k 0 = facK Ls e k := by simp [facP]
theorem facP_succ (Ls : List (List Tm)) (e : Int × Int × Int) (k j : Nat) : facP Ls e k (j + 1) = nthL Ls k :: facP Ls e k j := by simp [facP, List.replicate_succ]
theorem facP_full (Ls : List (List Tm)) (e : Int × Int × Int) (k : Nat) : facP Ls e k (nthE e k).toNat = facK Ls e (k + 1) := rfl
theorem facK_full {Ls : List (List Tm)} {e : Int × Int × Int} {n : Nat} (h1 : 1 ≤ n) (h3 : n ≤ 3) (hz : ∀ i, n ≤ i → nthE e i = 0) : facK Ls e n = facL Ls e := by
  have e0 : nthE e 0 = e.1 := rfl
  have e1 : nthE e 1 = e.2.1 := rfl
  have e2 : nthE e 2 = e.2.2 := rfl
  have hx : n = 1 ∨ n = 2 ∨ n = 3 := by omega
  unfold facL facN
  rcases hx with rfl | rfl | rfl
  · have h1 := hz 1 (by omega)
    have h2 := hz 2 (by omega)
    rw [e1] at h1
    rw [e2] at h2
    simp [facK, e0, h1, h2]
  · have h2 := hz 2 (by omega)
    rw [e2] at h2
    simp [facK, e0, e1, h2]
  · simp [facK, e0, e1, e2]
theorem sumD_facK {Ls : List (List Tm)} {e : Int × Int × Int} (he : mono12 e) : ∀ k : Nat, sumD (facK Ls e k) = bndK Ls e k
  | 0 => rfl
  | k + 1 => by
    rw [facK, bndK, sumD_append, sumD_replicate, sumD_facK he k, Int.toNat_of_nonneg (nthE_bound he k).1, Int.add_comm]
    rfl
theorem bndK_mono {Ls : List (List Tm)} {e : Int × Int × Int} (he : mono12 e) {k n : Nat} (h : k ≤ n) : bndK Ls e k ≤ bndK Ls e n := by
  induction n with
  | zero => obtain rfl : k = 0 := by omega
            exact Int.le_refl _
  | succ n ih =>
    by_cases hk : k = n + 1
    · subst hk; exact Int.le_refl _
    · have h1 := ih (by omega)
      have h2 : 0 ≤ nthE e n * dgN Ls n := Int.mul_nonneg (nthE_bound he n).1 (dgN_nonneg Ls n)
      rw [bndK]
      omega
/-- No part of the road has a greater degree bound. -/
theorem sumD_facP {Ls : List (List Tm)} {e : Int × Int × Int} (he : mono12 e) {k j n : Nat} (hj : (j : Int) ≤ nthE e k) (hk : k < n) (hb : bndK Ls e n ≤ 12) : sumD (facP Ls e k j) ≤ 12 := by
  have h1 := bndK_mono (Ls := Ls) he (show k + 1 ≤ n from hk)
  have h2 : (j : Int) * dgN Ls k ≤ nthE e k * dgN Ls k := Int.mul_le_mul_of_nonneg_right hj (dgN_nonneg Ls k)
  rw [facP, sumD_append, sumD_replicate, sumD_facK he]
  rw [bndK] at h1
  unfold dgN at *
  omega
theorem facK_valid {p d : Int} {Ls : List (List Tm)} {x : List Tm} (hx : Valid p d x) (hL : ∀ g ∈ Ls, Valid p d g) (e : Int × Int × Int) : ∀ k : Nat, ∀ g ∈ facK Ls e k, Valid p d g
  | 0, g, h => by simp [facK] at h
  | k + 1, g, h => by
    simp only [facK, List.mem_append, List.mem_replicate] at h
    rcases h with ⟨_, rfl⟩ | h
    · by_cases hk : k < Ls.length
      · rw [nthL_lt hk]; exact hL _ (List.getElem_mem hk)
      · rw [nthL_ge (by omega)]
        exact ⟨hx.p2, hx.p13, hx.d1, hx.d3, List.Pairwise.nil, fun t ht => by simp at ht⟩
    · exact facK_valid hx hL e k g h
theorem facP_valid {p d : Int} {Ls : List (List Tm)} {x : List Tm} (hx : Valid p d x) (hL : ∀ g ∈ Ls, Valid p d g) (e : Int × Int × Int) (k j : Nat) : ∀ g ∈ facP Ls e k j, Valid p d g := fun g h => by
  simp only [facP, List.mem_append, List.mem_replicate] at h
  rcases h with ⟨_, rfl⟩ | h
  · by_cases hk : k < Ls.length
    · rw [nthL_lt hk]; exact hL _ (List.getElem_mem hk)
    · rw [nthL_ge (by omega)]
      exact ⟨hx.p2, hx.p13, hx.d1, hx.d3, List.Pairwise.nil, fun t ht => by simp at ht⟩
  · exact facK_valid hx hL e k g h
/-- A number stands at the beginning of the road. -/
theorem PrV.one {p d v : Int} {x : List Tm} (hx : Valid p d x) : PrV p v [] (putL p [] (0, 0, 0) v) := by
  obtain ⟨M, hM⟩ := pr_ex hx (fs := []) (fun g hg => by simp at hg) (by simp [sumD])
  refine ⟨M, hM, (IsP.one hx.p2 (e := (0, 0, 0)) ⟨by unfold byte3; simp, by simp⟩ v).congr fun a ha => ?_⟩
  have h := hM.2.2 a ha
  rw [h]
  by_cases h0 : a = (0, 0, 0)
  · simp [h0]
  · simp [h0]
theorem PrV.isP {p v : Int} {fs : List (List Tm)} {L : List Tm} (h : PrV p v fs L) : ∃ f, IsP p L f := by
  obtain ⟨M, _, h⟩ := h
  exact ⟨_, h⟩
/-- At the end of the road. -/
theorem PrV.at {p v : Int} {fs : List (List Tm)} {L M : List Tm} (h : PrV p v fs L) (hM : PrR p fs M) (e : Int × Int × Int) (he : byte3 e) : atL L e = v * atL M e % p := by
  obtain ⟨M', h1, h2⟩ := h
  rw [h2.2.2 e he, h1.unique hM]
end Go.Proofs.YtllklhakbanhaaaGreat
namespace Go.Proofs.YtllklhakbanhaaaGreat
open Go.RowKit Go.Sort Go.Maps

/-- The coefficients of x and k times y together. -/
def addF (p k : Int) (xs ys : List Tm) (e : Int × Int × Int) : Int := (atL xs e + k * atL ys e) % p
theorem plus_ex {p d k : Int} {xs : List Tm} (hP : ∃ f, IsP p xs f) (ys : List Tm) (hV : Valid p d ys) : ∃ L, IsP p L (addF p k xs ys) := by
  obtain ⟨f, hP⟩ := hP
  have hP0 : IsP p xs (atL xs) := ⟨hP.1, hP.2.1, fun _ _ => rfl⟩
  have key : ∀ i, i ≤ ys.length → ∃ O, IsP p O (addF p k xs (ys.take i)) := fun i => by
    induction i with
    | zero => exact fun _ => ⟨xs, hP0.congr fun e he => by
        have hp := hV.p2
        have := hP0.bound (by omega) he
        simp [addF, atL]; exact (Int.emod_eq_of_lt this.1 this.2).symm⟩
    | succ i ih =>
      intro hi
      obtain ⟨O, hO⟩ := ih (by omega)
      have hlt : i < ys.length := by omega
      obtain ⟨hm, _⟩ := hV.mem ys[i] (List.getElem_mem _)
      refine ⟨_, (hO.put hV.p2 (e := tmE ys[i]) hm (k * ys[i].2.2.2)).congr fun e _ => ?_⟩
      unfold addF
      rw [plus_step (p := p) (k := k) (f := atL xs) hV.asc i hlt e]
      by_cases hx : e = tmE ys[i]
      · rw [if_pos hx, if_pos hx, atL_take_new hV.asc i hlt]
        simp [Int.add_comm]
      · rw [if_neg hx, if_neg hx]
  have := key ys.length (Nat.le_refl _)
  rwa [List.take_length] at this
end Go.Proofs.YtllklhakbanhaaaGreat
namespace Go.Proofs.YtllklhakbanhaaaGreat
open Go.RowKit Go.Sort Go.Maps

/-- A value as an element: told by itself. -/
def elemP (v : Value) : Option (DataW Value × List MemPlace) := some (.held v, [])
abbrev MapP (w : World) (b n : Nat) (D : DataW Value) : Prop := w.ownsMap Tryz.prog 88 elemP b n D
/-- The polynomial 0 as a value. -/
abbrev zP : DataW Value := .held (.agg #[.int .i64 0, .int .i64 0, .slice none 0 0])
theorem zeroP (w : World) : (zeroValue 39).run Tryz.prog w = .ok (.agg #[.int .i64 0, .int .i64 0, .slice none 0 0]) w := by kernel_rfl
/-- A map of what monomials become, in block b: each of them right. -/
structure DoneP (w : World) (b n : Nat) (D : DataW Value) (p d : Int) (Ls : List (List Tm)) : Prop where
  map : MapP w b n D
  one : Maps.has D (kE (0, 0, 0)) = true
  ok : ∀ e, byte3 e → Maps.has D (kE e) = true → ∃ v L, D.atKey (kE e) zP = .held (.agg #[.int .i64 p, .int .i64 d, v]) ∧ SliceT w v L ∧ PrR p (facL Ls e) L
/-- A list of terms is not in the map's block. -/
theorem SliceT.besideP {w w' : World} {b n : Nat} {D : DataW Value} {v : Value} {ts : List Tm} (h : SliceT w v ts) (hM : MapP w b n D) (hg : w.grownBy w' (some b)) : SliceT w' v ts := by
  obtain ⟨a, cap, hv, h | ⟨b1, off, ha, hlt, hT⟩⟩ := h
  · exact ⟨a, cap, hv, .inl h⟩
  by_cases hn : ts = []
  · exact ⟨a, cap, hv, .inl hn⟩
  refine ⟨a, cap, hv, .inr ⟨b1, off, ha, Nat.lt_of_lt_of_le hlt hg.size, ?_⟩⟩
  have hne : b1 ≠ b := fun e => by
    obtain ⟨es, clock, hb, _⟩ := hM
    have h0 := (hT 0 (List.length_pos_iff.2 hn)).1
    rw [e] at h0
    simp [World.cell?, hb] at h0
  have q : ∀ o, w'.cell? ⟨b1, o, none⟩ = w.cell? ⟨b1, o, none⟩ := fun o => hg.cell_far ⟨b1, o, none⟩ hlt (by simpa using hne)
  intro k hk
  obtain ⟨c0, c1, c2, c3⟩ := hT k hk
  exact ⟨(q _).trans c0, (q _).trans c1, (q _).trans c2, (q _).trans c3⟩
theorem DoneP.later {w w' : World} {b n : Nat} {D : DataW Value} {p d : Int} {Ls : List (List Tm)} (h : DoneP w b n D p d Ls) (hb : Below w.heap.size w w') : DoneP w' b n D p d Ls :=
  ⟨h.map.kept (row := none) ⟨hb.os, hb.tape, hb.output, hb.size, fun k hk _ => hb.block k hk⟩ (by simp), h.one, fun e he hh => by
    obtain ⟨v, L, h1, h2, h3⟩ := h.ok e he hh
    exact ⟨v, L, h1, h2.below hb, h3⟩⟩
/-- Other blocks are written: not those that hold what the map has (they are told by a bound). -/
theorem DoneP.most {w : World} {b n n' : Nat} {D : DataW Value} {p d : Int} {Ls : List (List Tm)} (h : DoneP w b n D p d Ls) (hn : n ≤ n') : DoneP w b n' D p d Ls :=
  ⟨h.map.mono hn, h.one, h.ok⟩
theorem DoneP.put {w w' : World} {b n : Nat} {D : DataW Value} {p d : Int} {Ls : List (List Tm)} {e : Int × Int × Int} {v : Value} {L : List Tm} (h : DoneP w b n D p d Ls) (he : byte3 e) (hS : SliceT w v L) (hL : PrR p (facL Ls e) L)
    (hm : MapP w' b (n + 1) (D.put (kE e) (.held (.agg #[.int .i64 p, .int .i64 d, v])))) (hg : w.grownBy w' (some b)) : DoneP w' b (n + 1) (D.put (kE e) (.held (.agg #[.int .i64 p, .int .i64 d, v]))) p d Ls := by
  have hD : IsMap D := h.map.isMap
  have hz : byte3 ((0 : Int), (0 : Int), (0 : Int)) := by unfold byte3; simp
  refine ⟨hm, ?_, fun e' he' hh => ?_⟩
  · by_cases hx : ((0 : Int), (0 : Int), (0 : Int)) = e
    · rw [hx]; exact has_put_same hD (kE_key _) _
    · rw [has_put_other (kE_ne hz he hx)]; exact h.one
  · by_cases hx : e' = e
    · subst hx
      exact ⟨v, L, atKey_put_same hD (kE_key _) _ _, hS.besideP h.map hg, hL⟩
    · rw [has_put_other (kE_ne he' he hx)] at hh
      obtain ⟨v', L', h1, h2, h3⟩ := h.ok e' he' hh
      exact ⟨v', L', by rw [atKey_put_other (kE_ne he' he hx)]; exact h1, h2.besideP h.map hg, h3⟩
end Go.Proofs.YtllklhakbanhaaaGreat
namespace Go.Proofs.YtllklhakbanhaaaGreat
open Go.RowKit Go.Sort Go.Maps

theorem cell_beyond {w : World} {b n i : Nat} {t : TypeId} {f : Nat → Value} (h : w.rowIs b t n f) (hi : n ≤ i) : w.cell? ⟨b, i, none⟩ = none := by
  obtain ⟨c, hc, hn, _⟩ := h
  simp [World.cell?, hc]
  omega
/-- A box of a polynomial holds no terms. -/
theorem SliceT.setBox {w : World} {v u : Value} {ts : List Tm} {q i : Nat} {t : TypeId} {F : Nat → Value} (h : SliceT w v ts) (hr : w.rowIs q t 3 F) : SliceT (w.setCell ⟨q, i, none⟩ u) v ts := by
  obtain ⟨a, cap, hv, h | ⟨b1, off, ha, hlt, hT⟩⟩ := h
  · exact ⟨a, cap, hv, .inl h⟩
  by_cases hn : ts = []
  · exact ⟨a, cap, hv, .inl hn⟩
  have hne : b1 ≠ q := fun e => by
    have h0 := (hT 0 (List.length_pos_iff.2 hn)).2.2.2
    rw [e, cell_beyond hr (by omega)] at h0
    simp at h0
  have q1 : ∀ o, (w.setCell ⟨q, i, none⟩ u).cell? ⟨b1, o, none⟩ = w.cell? ⟨b1, o, none⟩ := fun o => by
    unfold World.cell?
    rw [Below.heap_setCell _ ⟨q, i, none⟩ u b1 hne]
  refine ⟨a, cap, hv, .inr ⟨b1, off, ha, by rw [World.size_setCell]; exact hlt, fun k hk => ?_⟩⟩
  obtain ⟨c0, c1, c2, c3⟩ := hT k hk
  exact ⟨(q1 _).trans c0, (q1 _).trans c1, (q1 _).trans c2, (q1 _).trans c3⟩
theorem DoneP.setBox {w : World} {b n : Nat} {D : DataW Value} {p d : Int} {Ls : List (List Tm)} {q i : Nat} {u : Value} {t : TypeId} {F : Nat → Value} (h : DoneP w b n D p d Ls) (hr : w.rowIs q t 3 F) (hne : b ≠ q) : DoneP (w.setCell ⟨q, i, none⟩ u) b n D p d Ls :=
  ⟨h.map.setCell (by simpa using hne) u, h.one, fun e he hh => by
    obtain ⟨v, L, h1, h2, h3⟩ := h.ok e he hh
    exact ⟨v, L, h1, h2.setBox hr, h3⟩⟩
theorem MapP.ne {w : World} {b n B N : Nat} {D : DataW Value} {t : TypeId} {f : Nat → Value} (h : MapP w b n D) (hr : w.rowIs B t N f) : B ≠ b := fun e => by
  obtain ⟨es, clock, hb, _⟩ := h
  obtain ⟨c, hc, _⟩ := hr
  rw [e, hb] at hc
  simp at hc
theorem MapP.noCell {w : World} {b n : Nat} {D : DataW Value} (h : MapP w b n D) (o : Nat) : w.cell? ⟨b, o, none⟩ = none := by
  obtain ⟨es, clock, hb, _⟩ := h
  simp [World.cell?, hb]
theorem PolysW.besideP {w w' : World} {b n b1 off : Nat} {D : DataW Value} {G : List Pm} (h : PolysW w b1 off G) (hlt : b1 < w.heap.size) (hM : MapP w b n D) (hg : w.grownBy w' (some b)) : PolysW w' b1 off G := fun k hk => by
  obtain ⟨u, h0, h1, h2, hS⟩ := h k hk
  have hne : b1 ≠ b := fun e => by
    rw [e, hM.noCell] at h0
    simp at h0
  have q : ∀ o, w'.cell? ⟨b1, o, none⟩ = w.cell? ⟨b1, o, none⟩ := fun o => hg.cell_far ⟨b1, o, none⟩ hlt (by simpa using hne)
  exact ⟨u, (q _).trans h0, (q _).trans h1, (q _).trans h2, hS.besideP hM hg⟩
theorem SlP.besideP {w w' : World} {b n : Nat} {D : DataW Value} {v : Value} {G : List Pm} (h : SlP w v G) (hM : MapP w b n D) (hg : w.grownBy w' (some b)) : SlP w' v G := by
  obtain ⟨a, cap, hv, h | ⟨b1, off, ha, hlt, hT⟩⟩ := h
  · exact ⟨a, cap, hv, .inl h⟩
  · exact ⟨a, cap, hv, .inr ⟨b1, off, ha, Nat.lt_of_lt_of_le hlt hg.size, hT.besideP hlt hM hg⟩⟩
theorem rowG {w w' : World} {b B n : Nat} {t : TypeId} {f : Nat → Value} (h : w.rowIs B t n f) (hg : w.grownBy w' (some b)) (hne : B ≠ b) : w'.rowIs B t n f := h.of_block (hg.block B h.lt (by simpa using hne))
theorem gBelow {w w' : World} {b : Nat} (h : Below w.heap.size w w') : w.grownBy w' (some b) := ⟨h.os, h.tape, h.output, h.size, fun k hk _ => h.block k hk⟩
theorem gSetNew {w w' : World} {b q o : Nat} {v : Value} (h : w.grownBy w' (some b)) (hq : w.heap.size ≤ q) : w.grownBy (w'.setCell ⟨q, o, none⟩ v) (some b) :=
  ⟨h.os, h.tape, h.output, by rw [World.size_setCell]; exact h.size, fun k hk hne => (Below.heap_setCell w' ⟨q, o, none⟩ v k (by show k ≠ q; omega)).trans (h.block k hk hne)⟩
/-- The look-up of what is there. -/
theorem DoneP.yes {w : World} {b n : Nat} {D : DataW Value} {p d : Int} {Ls : List (List Tm)} {x y z : Int} (h : DoneP w b n D p d Ls) (he : byte3 (x, y, z)) (hh : Maps.has D (kE (x, y, z)) = true) : ∃ v L, (Instr.lookup 149 (.map (some b)) (.agg #[.int .u8 x, .int .u8 y, .int .u8 z]) true).run Tryz.prog w = .ok (.tuple #[.agg #[.int .i64 p, .int .i64 d, v], .bool true]) w ∧ SliceT w v L ∧ PrR p (facL Ls (x, y, z)) L := by
  obtain ⟨v, L, h1, h2, h3⟩ := h.ok _ he hh
  obtain ⟨v', ps, hrun, hv⟩ := h.map.look_ok lawK Tryz.underlying149 (zeroP w) (zd := zP) (zp := []) rfl (keyOf_vE (x, y, z) he)
  rw [h1] at hv
  simp [elemP] at hv
  rw [hh, hv.1] at hrun
  exact ⟨v, L, hrun, h2, h3⟩
theorem DoneP.no {w : World} {b n : Nat} {D : DataW Value} {p d : Int} {Ls : List (List Tm)} {x y z : Int} (h : DoneP w b n D p d Ls) (he : byte3 (x, y, z)) (hh : Maps.has D (kE (x, y, z)) = false) : (Instr.lookup 149 (.map (some b)) (.agg #[.int .u8 x, .int .u8 y, .int .u8 z]) true).run Tryz.prog w = .ok (.tuple #[.agg #[.int .i64 0, .int .i64 0, .slice none 0 0], .bool false]) w := by
  obtain ⟨v', ps, hrun, hv⟩ := h.map.look_ok lawK Tryz.underlying149 (zeroP w) (zd := zP) (zp := []) rfl (keyOf_vE (x, y, z) he)
  rw [atKey_of_not_has hh] at hv
  simp [elemP] at hv
  rw [hh, hv.1] at hrun
  exact hrun

/-- A monomial with one exponent less. -/
def downE (e : Int × Int × Int) (t : Nat) : Int × Int × Int := (if t = 0 then e.1 - 1 else e.1, if t = 1 then e.2.1 - 1 else e.2.1, if t = 2 then e.2.2 - 1 else e.2.2)
theorem downE_facts {Ls : List (List Tm)} {x y z : Int} {t s : Nat} (ht : t < 3) (h0 : 0 < nthE (x, y, z) t) (hb : byte3 (x, y, z)) (hs : x + y + z = s) (hz : ∀ i, t < i → nthE (x, y, z) i = 0) :
    byte3 (downE (x, y, z) t) ∧ (downE (x, y, z) t).1 + (downE (x, y, z) t).2.1 + (downE (x, y, z) t).2.2 = (s : Int) - 1 ∧ (∀ i, t < i → nthE (downE (x, y, z) t) i = 0) ∧ facL Ls (x, y, z) = nthL Ls t :: facL Ls (downE (x, y, z) t) ∧ bndE Ls (downE (x, y, z) t) + dgN Ls t = bndE Ls (x, y, z) := by
  obtain ⟨⟨a1, a2⟩, ⟨a3, a4⟩, a5, a6⟩ : (0 ≤ x ∧ x ≤ 255) ∧ (0 ≤ y ∧ y ≤ 255) ∧ (0 ≤ z ∧ z ≤ 255) := hb
  have z1 := hz 1
  have z2 := hz 2
  match t, ht with
  | 0, _ =>
    have h1 : y = 0 := by simpa [nthE] using z1 (by omega)
    have h2 : z = 0 := by simpa [nthE] using z2 (by omega)
    subst h1 h2
    have hx : 0 < x := by simpa [nthE] using h0
    refine ⟨by unfold byte3 downE; simp; omega, by simp [downE]; omega, fun i hi => ?_, fac_pos_a hx, ?_⟩
    · unfold nthE downE
      rw [if_neg (by omega)]
      simp
    · simp only [bndE, downE]
      simp [Int.sub_mul]
  | 1, _ =>
    have h2 : z = 0 := by simpa [nthE] using z2 (by omega)
    subst h2
    have hx : 0 < y := by simpa [nthE] using h0
    refine ⟨by unfold byte3 downE; simp; omega, by simp [downE]; omega, fun i hi => ?_, fac_pos_b hx, ?_⟩
    · unfold nthE downE
      rw [if_neg (by omega), if_neg (by omega)]
      simp
    · simp only [bndE, downE]
      simp [Int.sub_mul]
      omega
  | 2, _ =>
    have hx : 0 < z := by simpa [nthE] using h0
    refine ⟨by unfold byte3 downE; simp; omega, by simp [downE]; omega, fun i hi => ?_, fac_pos_c hx, ?_⟩
    · unfold nthE
      rw [if_neg (by omega), if_neg (by omega), if_neg (by omega)]
    · simp only [bndE, downE]
      simp [Int.sub_mul]
      omega
theorem down_row {w : World} {B : Nat} {x y z : Int} {t : Nat} (h : w.rowIs B 88 3 (expsF x y z)) (ht : t < 3) : (w.setCell ⟨B, t, none⟩ (.int .u8 (nthE (x, y, z) t - 1))).rowIs B 88 3 (expsF (downE (x, y, z) t).1 (downE (x, y, z) t).2.1 (downE (x, y, z) t).2.2) := by
  refine (h.set t _).congr fun i hi => ?_
  match t, i, ht, hi with
  | 0, 0, _, _ => rfl
  | 0, 1, _, _ => rfl
  | 0, 2, _, _ => rfl
  | 1, 0, _, _ => rfl
  | 1, 1, _, _ => rfl
  | 1, 2, _, _ => rfl
  | 2, 0, _, _ => rfl
  | 2, 1, _, _ => rfl
  | 2, 2, _, _ => rfl
theorem nthX_cell {w : World} {B : Nat} {x y z : Int} (h : w.rowIs B 88 3 (expsF x y z)) {k : Nat} (hk : k < 3) : w.cell? ⟨B, k, none⟩ = some (.int .u8 (nthE (x, y, z) k)) := by
  have := h.cell (i := k) (by omega)
  rw [this]
  match k, hk with
  | 0, _ => rfl
  | 1, _ => rfl
  | 2, _ => rfl
end Go.Proofs.YtllklhakbanhaaaGreat
