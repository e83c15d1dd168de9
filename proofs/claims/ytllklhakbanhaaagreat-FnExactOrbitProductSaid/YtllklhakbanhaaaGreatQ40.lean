/-
  LISTS OF POLYNOMIALS of the call's own, in the making. Conditions: as each theorem states.
  SUMS OF POLYNOMIALS, and what a group's matrices make of a polynomial, in plain mathematics. Conditions: as each theorem states.
-/
import Derived.Test.YtllklhakbanhaaaGreatQ36
import Derived.Test.YtllklhakbanhaaaGreatQ14
import Derived.Test.YtllklhakbanhaaaGreatQ32
import Derived.Test.YtllklhakbanhaaaGreatQ15
namespace Go.Proofs.YtllklhakbanhaaaGreat
open Go.RowKit Go.Sort Go.Maps EchM

/-- A list of polynomials of a prime and letters, of the call's own; the blocks of the terms ascend and lie below hi. -/
structure PMk (w : World) (base hi : Nat) (p : Int) (n : Nat) (v : Value) (us : List Value) (Ls : List (List Tm)) : Prop where
  len : us.length = Ls.length
  rows : w.ownsRow base 39 3 v Ls.length (cellsQ p n us)
  own : ∀ (i : Nat) (h : i < us.length) (h' : i < Ls.length), OwnP w base us[i] Ls[i]
  top : ∀ (i : Nat) (h : i < us.length) (b : Nat), us[i].ownBlock = some b → b < hi
  asc : ∀ (i j : Nat) (hi' : i < us.length) (hj : j < us.length), i < j → ∀ b b', us[i].ownBlock = some b → us[j].ownBlock = some b' → b < b'
theorem PMk.nil (w : World) (base : Nat) (p : Int) (n : Nat) : PMk w base base p n (.slice none 0 0) [] [] :=
  ⟨rfl, World.ownsRow_nil _ _ _ _, fun i h => by simp at h, fun i h => by simp at h, fun i j h => by simp at h⟩
theorem PMk.nilB {w : World} {base b : Nat} {p : Int} {n : Nat} (h : w.ownsRow base 39 3 (.slice (some ⟨b, 0, none⟩) 0 0) 0 []) : PMk w base base p n (.slice (some ⟨b, 0, none⟩) 0 0) [] [] :=
  ⟨rfl, h, fun i h => by simp at h, fun i h => by simp at h, fun i j h => by simp at h⟩
theorem PMk.below {w w' : World} {base hi : Nat} {p : Int} {n : Nat} {v : Value} {us : List Value} {Ls : List (List Tm)} (h : PMk w base hi p n v us Ls) (hb : Below w.heap.size w w') : PMk w' base hi p n v us Ls :=
  ⟨h.len, owns_belowT h.rows hb, fun i hi hi' => owns_belowT (h.own i hi hi') hb, h.top, h.asc⟩
theorem PMk.low {w : World} {base base' hi : Nat} {p : Int} {n : Nat} {v : Value} {us : List Value} {Ls : List (List Tm)} (h : PMk w base hi p n v us Ls) (hb : base' ≤ base) : PMk w base' hi p n v us Ls :=
  ⟨h.len, owns_low h.rows hb, fun i hi hi' => owns_low (h.own i hi hi') hb, h.top, h.asc⟩
theorem PMk.kept {w w' : World} {base hi : Nat} {p : Int} {n : Nat} {v : Value} {us : List Value} {Ls : List (List Tm)} (h : PMk w base hi p n v us Ls) {b : Nat} (hg : w.grownBy w' (some b)) (hb : b < base) : PMk w' base hi p n v us Ls := by
  have q : ∀ (k : Nat) (x : Value), x.ownBlock = some k → base ≤ k → x.ownBlock = none ∨ x.ownBlock ≠ some b := fun k x hx hk => .inr (fun e => by rw [e] at hx; injection hx with hx; omega)
  have q' : ∀ {e : TypeId} {size m : Nat} {x : Value} {xs : List Value}, w.ownsRow base e size x m xs → x.ownBlock = none ∨ x.ownBlock ≠ some b := fun {_ _ _ x _} hx => by
    cases hxb : x.ownBlock with
    | none => exact .inl rfl
    | some k => exact .inr (fun e => by injection e with e; have := (hx.lt k hxb).1; omega)
  exact ⟨h.len, h.rows.kept hg (q' h.rows), fun i hi hi' => (h.own i hi hi').kept hg (q' (h.own i hi hi')), h.top, h.asc⟩
theorem PMk.more {w w2 : World} {base hi b1 hi2 : Nat} {p : Int} {n : Nat} {v v2 u : Value} {us : List Value} {Ls : List (List Tm)} {X : List Tm} (h : PMk w base hi p n v us Ls) (ho : OwnP w b1 u X) (h1 : hi ≤ b1) (hb : base ≤ b1) (h2 : w.heap.size ≤ hi2)
    (hg : w.grownBy w2 v.ownBlock) (hr : w2.ownsRow base 39 3 v2 (Ls.length + 1) (cellsQ p n us ++ [.int .i64 p, .int .i64 (n : Int), u])) : PMk w2 base hi2 p n v2 (us ++ [u]) (Ls ++ [X]) := by
  have hl := h.len
  have hu : ∀ b, u.ownBlock = some b → b1 ≤ b ∧ b < hi2 := fun b e => ⟨(ho.lt b e).1, Nat.lt_of_lt_of_le (ho.lt b e).2 h2⟩
  refine ⟨by simp [hl], by rw [cellsQ_snoc]; simpa using hr, fun i hi hi' => ?_, fun i hi b e => ?_, fun i j hi' hj hij b b' e e' => ?_⟩
  · simp at hi
    by_cases e : i = us.length
    · subst e
      rw [List.getElem_append_right (by omega), List.getElem_append_right (by omega)]
      simp only [Nat.sub_self, hl, List.getElem_cons_zero]
      exact owns_low (ho.kept hg (own_own ho h.rows (by decide))) hb
    · rw [List.getElem_append_left (by omega), List.getElem_append_left (by omega)]
      exact (h.own i (by omega) (by omega)).kept hg (own_own (h.own i (by omega) (by omega)) h.rows (by decide))
  · simp at hi
    by_cases e1 : i = us.length
    · subst e1
      rw [List.getElem_append_right (by omega)] at e
      simp only [Nat.sub_self, List.getElem_cons_zero] at e
      exact (hu b e).2
    · rw [List.getElem_append_left (by omega)] at e
      exact Nat.lt_of_lt_of_le ((h.own i (by omega) (by omega)).lt b e).2 h2
  · simp at hi' hj
    rw [List.getElem_append_left (by omega)] at e
    by_cases e1 : j = us.length
    · subst e1
      rw [List.getElem_append_right (by omega)] at e'
      simp only [Nat.sub_self, List.getElem_cons_zero] at e'
      have := h.top i (by omega) b e
      have := (hu b' e').1
      omega
    · rw [List.getElem_append_left (by omega)] at e'
      exact h.asc i j (by omega) (by omega) hij b b' e e'
theorem PMk.slP {w : World} {base hi : Nat} {p : Int} {n : Nat} {v : Value} {us : List Value} {Ls : List (List Tm)} (h : PMk w base hi p n v us Ls) : SlP w v (Ls.map fun X => (p, (n : Int), X)) := by
  have hl := h.len
  obtain ⟨_, ⟨rfl, h0⟩ | ⟨b, cap, cur, rfl, hb, hg, hc1, hc2, hsz, htk⟩⟩ := id h.rows
  · refine ⟨none, 0, by rw [List.length_map, h0], .inl ?_⟩
    apply List.eq_nil_of_length_eq_zero
    rw [List.length_map, h0]
  · refine ⟨_, cap, by rw [List.length_map], .inr ⟨b, 0, rfl, (Array.getElem?_eq_some_iff.1 hg).1, fun k hk => ?_⟩⟩
    rw [List.length_map] at hk
    have hk' : k < us.length := by omega
    rw [List.getElem_map]
    have key : ∀ j, j < 3 → ∀ u, ([Value.int .i64 p, .int .i64 (n : Int), us[k]] : List Value)[j]? = some u → w.cell? ⟨b, 0 + k * 3 + j, none⟩ = some u := fun j hj u hu => by
      have e2 : (cellsQ p n us)[k * 3 + j]? = some u := (cellsQ_get p n us k j hk' hj).trans hu
      have hlt : k * 3 + j < Ls.length * 3 := by omega
      rw [← htk, List.getElem?_take_of_lt hlt, Array.getElem?_toList] at e2
      simp [World.cell?, hg, e2]
    exact ⟨us[k], key 0 (by omega) _ rfl, key 1 (by omega) _ rfl, key 2 (by omega) _ rfl, OwnP.slice (h.own k hk' hk)⟩
theorem PMk.shape {w : World} {base hi : Nat} {p : Int} {n : Nat} {v : Value} {us : List Value} {Ls : List (List Tm)} (h : PMk w base hi p n v us Ls) : ∃ a c, v = .slice a Ls.length c := owns_slice h.rows
/-- A list of polynomials that reads so. -/
abbrev SlPn (w : World) (p : Int) (n : Nat) (v : Value) (Ls : List (List Tm)) : Prop := SlP w v (Ls.map fun X => (p, (n : Int), X))
/-- The polynomial k of such a list. -/
theorem SlP.nth {w : World} {p : Int} {n : Nat} {a : Option Addr} {m c : Nat} {Ls : List (List Tm)} (h : SlPn w p n (.slice a m c) Ls) {k : Nat} (hk : k < Ls.length) : ∃ b off u, a = some ⟨b, off, none⟩ ∧ b < w.heap.size ∧ m = Ls.length ∧ w.cell? ⟨b, off + k * 3, none⟩ = some (.int .i64 p) ∧ w.cell? ⟨b, off + k * 3 + 1, none⟩ = some (.int .i64 (n : Int)) ∧ w.cell? ⟨b, off + k * 3 + 2, none⟩ = some u ∧ SliceT w u Ls[k] := by
  obtain ⟨b, off, ha, hlt, hP, hm⟩ := SlP.at h (by rw [List.length_map]; omega)
  obtain ⟨u, h0, h1, h2, h3⟩ := hP k (by rw [List.length_map]; exact hk)
  rw [List.getElem_map] at h0 h1 h3
  exact ⟨b, off, u, ha, hlt, by rw [hm, List.length_map], h0, h1, h2, h3⟩
end Go.Proofs.YtllklhakbanhaaaGreat
namespace Go.Proofs.YtllklhakbanhaaaGreat
open Go.RowKit Go.Sort Go.Maps EchM

/-- The coefficients of a sum. -/
def sumA : List (List Tm) → Int × Int × Int → Int
  | [], _ => 0
  | X :: r, e => atL X e + sumA r e
def sumK (p k : Int) (Ls : List (List Tm)) (e : Int × Int × Int) : Int := k * sumA Ls e % p
theorem sumA_snoc (X : List Tm) (e : Int × Int × Int) : ∀ l : List (List Tm), sumA (l ++ [X]) e = sumA l e + atL X e
  | [] => by simp [sumA]
  | Y :: r => by rw [List.cons_append, sumA, sumA, sumA_snoc X e r, Int.add_assoc]
theorem sumK_nil (p k : Int) (e : Int × Int × Int) : sumK p k [] e = 0 := by simp [sumK, sumA]
theorem sumK_snoc (p k : Int) (X : List Tm) (l : List (List Tm)) (e : Int × Int × Int) : (sumK p k l e + k * atL X e) % p = sumK p k (l ++ [X]) e := by
  unfold sumK
  rw [sumA_snoc, Int.mul_add, Int.add_emod (k * sumA l e) (k * atL X e) p, Int.add_emod (k * sumA l e % p) (k * atL X e) p, Int.emod_emod_of_dvd _ (Int.dvd_refl p)]
theorem sumK_bound {p k : Int} (hp : 2 ≤ p) (Ls : List (List Tm)) (e : Int × Int × Int) : 0 ≤ sumK p k Ls e ∧ sumK p k Ls e < p := ⟨Int.emod_nonneg _ (by omega), Int.emod_lt_of_pos _ (by omega)⟩
theorem sumA_ne {e : Int × Int × Int} : ∀ {Ls : List (List Tm)}, sumA Ls e ≠ 0 → ∃ X ∈ Ls, atL X e ≠ 0
  | [], h => by simp [sumA] at h
  | X :: r, h => by
    by_cases h0 : atL X e = 0
    · rw [sumA, h0, Int.zero_add] at h
      obtain ⟨Y, hY, h1⟩ := sumA_ne h
      exact ⟨Y, by simp [hY], h1⟩
    · exact ⟨X, by simp, h0⟩
theorem sumK_deg {p d k : Int} {Ls : List (List Tm)} (hV : ∀ X ∈ Ls, Valid p d X) {e : Int × Int × Int} (h : sumK p k Ls e ≠ 0) : e.1 + e.2.1 + e.2.2 ≤ 12 := by
  have h1 : sumA Ls e ≠ 0 := fun h0 => h (by unfold sumK; rw [h0]; simp)
  obtain ⟨X, hX, h2⟩ := sumA_ne h1
  obtain ⟨t, ht, rfl⟩ := atL_ne_mem h2
  exact ((hV X hX).mem t ht).1.2
theorem isP_valid {p d : Int} {L : List Tm} {f : Int × Int × Int → Int} (h : IsP p L f) (p2 : 2 ≤ p) (p13 : p ≤ 13) (d1 : 1 ≤ d) (d3 : d ≤ 3) : Valid p d L := ⟨p2, p13, d1, d3, h.1, fun t ht => h.2.1 t ht⟩
theorem sum_ex {p d k : Int} (hp : 2 ≤ p) : ∀ (n : Nat) (Ls : List (List Tm)), Ls.length = n → (∀ X ∈ Ls, Valid p d X) → ∃ O, IsP p O (sumK p k Ls)
  | 0, Ls, h, _ => by
    have : Ls = [] := List.eq_nil_of_length_eq_zero h
    subst this
    exact ⟨[], (IsP.nil p).congr fun e _ => (sumK_nil p k e).symm⟩
  | n + 1, Ls, h, hV => by
    have hne : Ls ≠ [] := fun e => by rw [e] at h; simp at h
    obtain ⟨l, X, rfl⟩ : ∃ l X, Ls = l ++ [X] := ⟨_, _, (List.dropLast_concat_getLast hne).symm⟩
    obtain ⟨O, hO⟩ := sum_ex hp n l (by simpa using h) (fun Y hY => hV Y (by simp [hY]))
    obtain ⟨O', hO'⟩ := plus_ex (k := k) (xs := O) ⟨_, hO⟩ X (hV X (by simp))
    exact ⟨O', hO'.congr fun e he => by unfold addF; rw [hO.2.2 e he]; exact sumK_snoc p k X l e⟩
/-- .. of what all matrices make of a polynomial. -/
theorem GrpP.ledV {p : Int} {m : Nat} {L : List (Nat → Nat → Int)} {xs : List Tm} (h : GrpP p m L xs) {x : Nat → Nat → Int} (hx : x ∈ L) : Valid p m (ledF p m xs x) :=
  isP_valid (h.isp hx) h.p2 h.p13 (by have := h.m1; omega) (by have := h.m3; omega)
/-- What all matrices make of a polynomial, in their order. -/
noncomputable def allL (p : Int) (m : Nat) (L : List (Nat → Nat → Int)) (xs : List Tm) : List (List Tm) := L.map (ledF p m xs)
theorem GrpP.allV {p : Int} {m : Nat} {L : List (Nat → Nat → Int)} {xs : List Tm} (h : GrpP p m L xs) : ∀ X ∈ allL p m L xs, Valid p m X := fun X hX => by
  obtain ⟨x, hx, rfl⟩ := List.mem_map.1 hX
  exact h.ledV hx
theorem allL_len (p : Int) (m : Nat) (L : List (Nat → Nat → Int)) (xs : List Tm) : (allL p m L xs).length = L.length := by simp [allL]
theorem allL_at (p : Int) (m : Nat) (L : List (Nat → Nat → Int)) (xs : List Tm) (k : Nat) (h : k < L.length) : (allL p m L xs)[k]'(by rw [allL_len]; exact h) = ledF p m xs L[k] := by simp [allL]
theorem allL_snoc (p : Int) (m : Nat) (L : List (Nat → Nat → Int)) (xs : List Tm) (k : Nat) (h : k < L.length) : allL p m (L.take (k + 1)) xs = allL p m (L.take k) xs ++ [ledF p m xs L[k]] := by
  unfold allL
  rw [List.take_succ_eq_append_getElem h, List.map_append]
  rfl
/-- An outcome that is a polynomial of a group's prime and letters, with a code. -/
def GpO (p n C : Int) (R : Nat → List Tm → Prop) (o : OutP) : Prop := (C ≠ 0 ∧ o = noP C) ∨ (C = 0 ∧ ∃ (m : Nat) (S : List Tm), n = (m : Int) ∧ R m S ∧ o = ⟨p, n, S, 0⟩)
end Go.Proofs.YtllklhakbanhaaaGreat
