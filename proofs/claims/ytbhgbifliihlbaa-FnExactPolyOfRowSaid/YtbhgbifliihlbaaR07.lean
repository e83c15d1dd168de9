/-
  THE STATE OF A LAW of a function of two polynomials. Conditions: as each theorem states.
  LISTS: the first that fails a test; the first polynomial of a list. Conditions: as each theorem states.
  PRODUCTS OF POLYNOMIALS, in plain mathematics. Conditions: as each theorem states.
  THE ALGEBRA OF PRODUCTS, in plain mathematics: they do not depend on the order; a number goes out of a product. Conditions: as each theorem states.
  A map of coefficients in the making. Conditions: as each theorem states.
  WALKS: 'impl.addTimes'. Conditions: as each theorem states.
-/
import Derived.Test.YtbhgbifliihlbaaR06
import Derived.Test.YtbhgbifliihlbaaR05
import Derived.Test.YtbhgbifliihlbaaR03
namespace Go.Proofs.Ytbhgbifliihlbaa
open Go.RowKit Go.Sort

/-- The boxes of a law of two polynomials: those of LawSt, the second argument's (A'), its copy's (C). -/
structure LawSt2 (w wr : World) (A B0 B1 B2 N0 : Nat) (p d P D : Int) (va s0 v1 s2 : Value) (ts S : List Tm) (A' C : Nat) (p' d' : Int) (va' v1' : Value) (ys : List Tm) : Prop where
  st : LawSt w wr A B0 B1 B2 N0 p d P D va s0 v1 s2 ts S
  ay : wr.rowIs A' 51 3 (polyF p' d' va')
  c1 : wr.rowIs C 40 3 (polyF p' d' v1')
  sa : SliceB wr w.heap.size va' ys
theorem LawSt2.step {w wr w' : World} {A B0 B1 B2 N0 : Nat} {p d P D : Int} {va s0 v1 s2 : Value} {ts S : List Tm} {A' C : Nat} {p' d' : Int} {va' v1' : Value} {ys : List Tm} {row : Option Nat} (h : LawSt2 w wr A B0 B1 B2 N0 p d P D va s0 v1 s2 ts S A' C p' d' va' v1' ys) (hg : wr.grownBy w' row) (hr : ∀ g, row = some g → N0 ≤ g ∧ ∃ N f, wr.rowIs g 115 N f) :
    LawSt2 w w' A B0 B1 B2 N0 p d P D va s0 v1 s2 ts S A' C p' d' va' v1' ys := by
  obtain ⟨n1, n2⟩ := h.st.n0
  have key : ∀ b t f, wr.rowIs b t 3 f → t ≠ 115 → w'.rowIs b t 3 f := fun b t f hb ht => hb.of_block (hg.block b hb.lt fun e => by
    obtain ⟨_, N, f', hrow⟩ := hr b e.symm
    exact rowIs_ne hb hrow ht rfl)
  exact ⟨h.st.step hg hr, key _ _ _ h.ay (by decide), key _ _ _ h.c1 (by decide), h.sa.kept hg h.st.below.size fun g e => Nat.le_trans n1 (hr g e).1⟩
theorem LawSt2.on {w wr w' : World} {A B0 B1 B2 N0 : Nat} {p d P D : Int} {va s0 v1 s2 : Value} {ts S : List Tm} {A' C : Nat} {p' d' : Int} {va' v1' : Value} {ys : List Tm} (h : LawSt2 w wr A B0 B1 B2 N0 p d P D va s0 v1 s2 ts S A' C p' d' va' v1' ys) (hb : Below wr.heap.size wr w') : LawSt2 w w' A B0 B1 B2 N0 p d P D va s0 v1 s2 ts S A' C p' d' va' v1' ys :=
  h.step (below_grown hb) (fun g e => by simp at e)
/-- The two boxes of laws' polynomials at the head of a law. -/
theorem lpair (w : World) (p d : Int) (v : Value) (p' d' : Int) (v' : Value) : ∃ W, W = (w.alloc (.cells #[.int .i64 p, .int .i64 d, v] 51)).alloc (.cells #[.int .i64 p', .int .i64 d', v'] 51) ∧ Below w.heap.size w W ∧ (W.heap.size ≤ w.heap.size + 2 ∧ w.heap.size + 2 ≤ W.heap.size) ∧
      W.rowIs w.heap.size 51 3 (polyF p d v) ∧ W.rowIs (w.heap.size + 1) 51 3 (polyF p' d' v') := by
  refine ⟨_, rfl, box2 _ _ _, ⟨by simp, by simp⟩, ?_, ?_⟩
  · refine World.rowIs.alloc (World.rowIs_alloc w #[Value.int .i64 p, .int .i64 d, v] _ _ (fun i hi => ?_)) _
    simp at hi; match i, hi with | 0, _ => rfl | 1, _ => rfl | 2, _ => rfl
  · have := World.rowIs_alloc (w.alloc (.cells #[.int .i64 p, .int .i64 d, v] 51)) #[Value.int .i64 p', .int .i64 d', v'] 51 (polyF p' d' v') (fun i hi => by simp at hi; match i, hi with | 0, _ => rfl | 1, _ => rfl | 2, _ => rfl)
    simpa using this
/-- A new box of a polynomial. -/
theorem newbox (w : World) (p d : Int) (v : Value) : ∃ V, V = w.alloc (.cells #[.int .i64 p, .int .i64 d, v] 40) ∧ Below w.heap.size w V ∧ (V.heap.size ≤ w.heap.size + 1 ∧ w.heap.size + 1 ≤ V.heap.size) ∧ V.rowIs w.heap.size 40 3 (polyF p d v) :=
  ⟨_, rfl, box1 _ _, ⟨by simp, by simp⟩, World.rowIs_alloc w #[Value.int .i64 p, .int .i64 d, v] _ _ (fun i hi => by simp at hi; match i, hi with | 0, _ => rfl | 1, _ => rfl | 2, _ => rfl)⟩
theorem zbox (w : World) : (w.alloc (.cells #[.int .i64 0, .int .i64 0, .slice none 0 0] 40)).rowIs w.heap.size 40 3 (polyF 0 0 (.slice none 0 0)) :=
  World.rowIs_alloc w #[Value.int .i64 0, .int .i64 0, .slice none 0 0] _ _ (fun i hi => by simp at hi; match i, hi with | 0, _ => rfl | 1, _ => rfl | 2, _ => rfl)
theorem zboxD (w : World) : (w.alloc (.cells #[.int .i64 0, .int .i64 0, .slice none 0 0] 40)).drew.rowIs w.heap.size 40 3 (polyF 0 0 (.slice none 0 0)) := zbox w
/-- A polynomial put into a new box that lay ahead of it. -/
theorem box_set {w Z : World} {B0 base : Nat} {F : Nat → Value} {v : Value} {S : List Tm} (hZ : Z.rowIs B0 40 3 F) (hb : Below w.heap.size w Z) (hB : w.heap.size ≤ B0) (hs : OwnP Z base v S) (P D : Int) :
    (((Z.setCell ⟨B0, 0, none⟩ (.int .i64 P)).setCell ⟨B0, 1, none⟩ (.int .i64 D)).setCell ⟨B0, 2, none⟩ v).rowIs B0 40 3 (polyF P D v) ∧
    Below w.heap.size w (((Z.setCell ⟨B0, 0, none⟩ (.int .i64 P)).setCell ⟨B0, 1, none⟩ (.int .i64 D)).setCell ⟨B0, 2, none⟩ v) ∧
    SliceT (((Z.setCell ⟨B0, 0, none⟩ (.int .i64 P)).setCell ⟨B0, 1, none⟩ (.int .i64 D)).setCell ⟨B0, 2, none⟩ v) v S := by
  refine ⟨(((hZ.set 0 (.int .i64 P)).set 1 (.int .i64 D)).set 2 v).congr fun i hi => ?_, ((hb.setCell (by simpa using hB) _).setCell (by simpa using hB) _).setCell (by simpa using hB) _, ?_⟩
  · match i, hi with
    | 0, _ => rfl
    | 1, _ => rfl
    | 2, _ => rfl
  · refine OwnP.slice (base := base) (hs.kept (row := some B0) ⟨rfl, rfl, rfl, by simp only [World.size_setCell]; exact Nat.le_refl _, fun k hk hne => ?_⟩ (own_ne hZ hs (by decide)))
    have hk : k ≠ B0 := fun e => hne (by rw [e])
    exact (Below.heap_setCell _ ⟨B0, 2, none⟩ v k hk).trans ((Below.heap_setCell _ ⟨B0, 1, none⟩ _ k hk).trans (Below.heap_setCell _ ⟨B0, 0, none⟩ _ k hk))
/-- The cells of two boxes. -/
def Cells6 (A A' : Nat) (p d : Int) (va : Value) (p' d' : Int) (va' : Value) (w : World) : Prop :=
  (w.cell? ⟨A, 0, none⟩ = some (.int .i64 p) ∧ w.cell? ⟨A, 1, none⟩ = some (.int .i64 d) ∧ w.cell? ⟨A, 2, none⟩ = some va) ∧ (w.cell? ⟨A', 0, none⟩ = some (.int .i64 p') ∧ w.cell? ⟨A', 1, none⟩ = some (.int .i64 d') ∧ w.cell? ⟨A', 2, none⟩ = some va')
theorem Cells6.of {w : World} {A A' : Nat} {t : TypeId} {p d : Int} {va : Value} {p' d' : Int} {va' : Value} (h : w.rowIs A t 3 (polyF p d va)) (h' : w.rowIs A' t 3 (polyF p' d' va')) : Cells6 A A' p d va p' d' va' w :=
  ⟨(poly3 h).1, (poly3 h').1⟩
theorem Cells6.below {w w' : World} {A A' : Nat} {p d : Int} {va : Value} {p' d' : Int} {va' : Value} {B : Nat} (h : Cells6 A A' p d va p' d' va' w) (hb : Below B w w') (hA : A < B) (hA' : A' < B) : Cells6 A A' p d va p' d' va' w' := by
  obtain ⟨⟨a, b, c⟩, d, e, f⟩ := h
  exact ⟨⟨(hb.cell (p := ⟨A, _, none⟩) hA).trans a, (hb.cell (p := ⟨A, _, none⟩) hA).trans b, (hb.cell (p := ⟨A, _, none⟩) hA).trans c⟩, (hb.cell (p := ⟨A', _, none⟩) hA').trans d, (hb.cell (p := ⟨A', _, none⟩) hA').trans e, (hb.cell (p := ⟨A', _, none⟩) hA').trans f⟩
end Go.Proofs.Ytbhgbifliihlbaa
namespace Go.Proofs.Ytbhgbifliihlbaa
open Go.RowKit Go.Sort

theorem first_outP {α : Type} (B : α → Bool) : ∀ (l : List α), l.all B = false → ∃ (j : Nat) (h : j < l.length), B l[j] = false ∧ ∀ (i : Nat) (h : i < l.length), i < j → B l[i] = true
  | [], h => by simp at h
  | a :: r, h => by
    cases ha : B a
    · exact ⟨0, by simp, by simpa using ha, fun i _ hij => by omega⟩
    · have hr : r.all B = false := by
        simp only [List.all_cons, ha, Bool.true_and] at h
        exact h
      obtain ⟨j, hj, hn, hp⟩ := first_outP B r hr
      refine ⟨j + 1, by simp; omega, by simpa using hn, fun i hi hij => ?_⟩
      cases i with
      | zero => simpa using ha
      | succ i => simpa using hp i (by simpa using hi) (by omega)

/-- The first of a list. -/
def hdP (G : List Pm) : Pm := G.headD (0, 0, [])
theorem hdP_at {G : List Pm} (h : 0 < G.length) : hdP G = G[0] := by
  cases G with
  | nil => simp at h
  | cons a r => rfl
/-- Whether a polynomial has the prime p and is like another one. -/
def likeT (p : Int) (g0 g : Pm) : Bool := decide (g.1 = p) && (decide (g.1 = g0.1) && decide (g.2.1 = g0.2.1))

end Go.Proofs.Ytbhgbifliihlbaa
namespace Go.Proofs.Ytbhgbifliihlbaa
open Go.RowKit Go.Sort Go.Maps

def addE (a b : Int × Int × Int) : Int × Int × Int := (a.1 + b.1, a.2.1 + b.2.1, a.2.2 + b.2.2)
/-- The coefficients of a term times a list of terms. -/
def rowS (s : Tm) : List Tm → Int × Int × Int → Int
  | [], _ => 0
  | t :: r, e => (if addE (tmE s) (tmE t) = e then s.2.2.2 * t.2.2.2 else 0) + rowS s r e
def mulS : List Tm → List Tm → Int × Int × Int → Int
  | [], _, _ => 0
  | s :: r, ys, e => rowS s ys e + mulS r ys e
/-- The coefficients of the product. -/
def mulF (p : Int) (xs ys : List Tm) (e : Int × Int × Int) : Int := mulS xs ys e % p
theorem rowS_snoc (s t : Tm) (e : Int × Int × Int) : ∀ l : List Tm, rowS s (l ++ [t]) e = rowS s l e + if addE (tmE s) (tmE t) = e then s.2.2.2 * t.2.2.2 else 0
  | [] => by simp [rowS]
  | u :: r => by rw [List.cons_append, rowS, rowS, rowS_snoc s t e r, Int.add_assoc]
theorem mulS_snoc (s : Tm) (ys : List Tm) (e : Int × Int × Int) : ∀ l : List Tm, mulS (l ++ [s]) ys e = mulS l ys e + rowS s ys e
  | [] => by simp [mulS]
  | u :: r => by rw [List.cons_append, mulS, mulS, mulS_snoc s ys e r, Int.add_assoc]
theorem rowS_take (s : Tm) (ys : List Tm) (k : Nat) (h : k < ys.length) (e : Int × Int × Int) : rowS s (ys.take (k + 1)) e = rowS s (ys.take k) e + if addE (tmE s) (tmE ys[k]) = e then s.2.2.2 * ys[k].2.2.2 else 0 := by
  rw [List.take_succ_eq_append_getElem h, rowS_snoc]
theorem mulS_take (xs ys : List Tm) (k : Nat) (h : k < xs.length) (e : Int × Int × Int) : mulS (xs.take (k + 1)) ys e = mulS (xs.take k) ys e + rowS xs[k] ys e := by
  rw [List.take_succ_eq_append_getElem h, mulS_snoc]
/-- .. when i terms of the first have been taken, and k of the second with the next one. -/
def prt (p : Int) (xs ys : List Tm) (i : Nat) (s : Tm) (k : Nat) (e : Int × Int × Int) : Int := (mulS (xs.take i) ys e + rowS s (ys.take k) e) % p
theorem prt_zero (p : Int) (xs ys : List Tm) (i : Nat) (s : Tm) (e : Int × Int × Int) : prt p xs ys i s 0 e = mulF p (xs.take i) ys e := by
  simp [prt, rowS, mulF]
theorem prt_full (p : Int) (xs ys : List Tm) (i : Nat) (h : i < xs.length) (e : Int × Int × Int) : prt p xs ys i xs[i] ys.length e = mulF p (xs.take (i + 1)) ys e := by
  simp [prt, mulF, mulS_take xs ys i h, List.take_length]
theorem prt_step (p : Int) (xs ys : List Tm) (i : Nat) (s : Tm) (k : Nat) (h : k < ys.length) (e : Int × Int × Int) :
    prt p xs ys i s (k + 1) e = if e = addE (tmE s) (tmE ys[k]) then (s.2.2.2 * ys[k].2.2.2 + prt p xs ys i s k (addE (tmE s) (tmE ys[k]))) % p else prt p xs ys i s k e := by
  unfold prt
  rw [rowS_take s ys k h]
  by_cases hx : e = addE (tmE s) (tmE ys[k])
  · subst hx
    rw [if_pos rfl, if_pos rfl, ← Int.add_assoc, Int.add_comm, Int.add_emod, Int.emod_emod_of_dvd _ (Int.dvd_refl p) |>.symm]
    simp [Int.add_emod]
  · rw [if_neg hx, if_neg (fun hy => hx hy.symm), Int.add_zero]
theorem mulF_nil (p : Int) (ys : List Tm) (e : Int × Int × Int) : mulF p [] ys e = 0 := by simp [mulF, mulS]
theorem rowS_nil (s : Tm) (e : Int × Int × Int) : rowS s [] e = 0 := rfl
theorem mulS_nil (e : Int × Int × Int) : ∀ xs : List Tm, mulS xs [] e = 0
  | [] => rfl
  | s :: r => by rw [mulS, rowS_nil, mulS_nil e r]; rfl
theorem sum_addE (a b : Int × Int × Int) : (addE a b).1 + (addE a b).2.1 + (addE a b).2.2 = (a.1 + a.2.1 + a.2.2) + (b.1 + b.2.1 + b.2.2) := by unfold addE; simp only []; omega
theorem addE_mono {a b : Int × Int × Int} (ha : byte3 a) (hb : byte3 b) (h : (a.1 + a.2.1 + a.2.2) + (b.1 + b.2.1 + b.2.2) ≤ 12) : mono12 (addE a b) := by
  obtain ⟨⟨a1, a2⟩, ⟨a3, a4⟩, a5, a6⟩ := ha
  obtain ⟨⟨b1, b2⟩, ⟨b3, b4⟩, b5, b6⟩ := hb
  refine ⟨⟨⟨?_, ?_⟩, ⟨?_, ?_⟩, ?_, ?_⟩, ?_⟩ <;> simp only [addE] <;> omega

/-- The degrees of the terms allow the product. -/
def Fits (xs ys : List Tm) : Prop := ∀ s ∈ xs, ∀ t ∈ ys, (s.1 + s.2.1 + s.2.2.1) + (t.1 + t.2.1 + t.2.2.1) ≤ 12

theorem mul_ex {p d : Int} {xs ys : List Tm} (hV : Valid p d xs) (hV' : Valid p d ys) (h : Fits xs ys) : ∃ L, IsP p L (mulF p xs ys) := by
  have hp := hV.p2
  have row : ∀ i, (hi : i < xs.length) → (∃ O, IsP p O (mulF p (xs.take i) ys)) → ∀ k, k ≤ ys.length → ∃ O, IsP p O (prt p xs ys i xs[i] k) := fun i hi h0 k => by
    induction k with
    | zero => exact fun _ => h0.imp fun O hO => hO.congr fun e _ => (prt_zero p xs ys i xs[i] e).symm
    | succ k ih =>
      intro hk
      obtain ⟨O, hO⟩ := ih (by omega)
      have hlt : k < ys.length := by omega
      obtain ⟨⟨m1, _⟩, _⟩ := hV.mem xs[i] (List.getElem_mem _)
      obtain ⟨⟨m2, _⟩, _⟩ := hV'.mem ys[k] (List.getElem_mem _)
      exact ⟨_, (hO.put hp (e := addE (tmE xs[i]) (tmE ys[k])) (addE_mono m1 m2 (h _ (List.getElem_mem _) _ (List.getElem_mem _))) (xs[i].2.2.2 * ys[k].2.2.2)).congr fun e _ => (prt_step p xs ys i xs[i] k hlt e).symm⟩
  have key : ∀ i, i ≤ xs.length → ∃ O, IsP p O (mulF p (xs.take i) ys) := fun i => by
    induction i with
    | zero => exact fun _ => ⟨[], (IsP.nil p).congr fun e _ => by simp [mulF_nil]⟩
    | succ i ih =>
      intro hi
      have hlt : i < xs.length := by omega
      exact (row i hlt (ih (by omega)) ys.length (Nat.le_refl _)).imp fun O hO => hO.congr fun e _ => prt_full p xs ys i hlt e
  have := key xs.length (Nat.le_refl _)
  rwa [List.take_length] at this
end Go.Proofs.Ytbhgbifliihlbaa
namespace Go.Proofs.Ytbhgbifliihlbaa
open Go.RowKit Go.Sort Go.Maps

theorem addE_comm (a b : Int × Int × Int) : addE a b = addE b a := by simp [addE, Int.add_comm]
theorem mulS_right (t : Tm) (r : List Tm) (e : Int × Int × Int) : ∀ xs : List Tm, mulS xs (t :: r) e = rowS t xs e + mulS xs r e
  | [] => by simp [mulS, rowS]
  | s :: q => by
    rw [mulS, mulS, mulS_right t r e q, rowS, rowS, addE_comm, Int.mul_comm s.2.2.2]
    omega
/-- Products do not depend on the order. -/
theorem mulS_comm (e : Int × Int × Int) (xs : List Tm) : ∀ ys : List Tm, mulS xs ys e = mulS ys xs e
  | [] => by rw [mulS_nil]; rfl
  | t :: r => by rw [mulS_right, mulS_comm e xs r]; rfl
theorem mulF_comm (p : Int) (xs ys : List Tm) (e : Int × Int × Int) : mulF p xs ys e = mulF p ys xs e := by rw [mulF, mulF, mulS_comm]

def subE (a b : Int × Int × Int) : Int × Int × Int := (a.1 - b.1, a.2.1 - b.2.1, a.2.2 - b.2.2)
theorem addE_sub {a b e : Int × Int × Int} : addE a b = e ↔ a = subE e b := by
  obtain ⟨a1, a2, a3⟩ := a
  obtain ⟨b1, b2, b3⟩ := b
  obtain ⟨e1, e2, e3⟩ := e
  simp [addE, subE]
  omega
/-- The coefficients of a product, told by the coefficients of the first factor. -/
def colS (f : Int × Int × Int → Int) : List Tm → Int × Int × Int → Int
  | [], _ => 0
  | t :: r, e => f (subE e (tmE t)) * t.2.2.2 + colS f r e
theorem colS_add (f g : Int × Int × Int → Int) (e : Int × Int × Int) : ∀ ys : List Tm, colS (fun a => f a + g a) ys e = colS f ys e + colS g ys e
  | [] => by simp [colS]
  | t :: r => by rw [colS, colS, colS, colS_add f g e r, Int.add_mul]; omega
theorem colS_zero (e : Int × Int × Int) : ∀ ys : List Tm, colS (fun _ => 0) ys e = 0
  | [] => rfl
  | t :: r => by rw [colS, colS_zero e r]; simp
theorem colS_congr {f g : Int × Int × Int → Int} (h : ∀ a, f a = g a) (e : Int × Int × Int) : ∀ ys : List Tm, colS f ys e = colS g ys e
  | [] => rfl
  | t :: r => by rw [colS, colS, h, colS_congr h e r]
theorem rowS_col (s : Tm) (e : Int × Int × Int) : ∀ ys : List Tm, rowS s ys e = colS (fun a => if tmE s = a then s.2.2.2 else 0) ys e
  | [] => rfl
  | t :: r => by
    rw [rowS, colS, rowS_col s e r]
    by_cases h : addE (tmE s) (tmE t) = e
    · rw [if_pos h, if_pos (addE_sub.1 h)]
    · rw [if_neg h, if_neg (fun h' => h (addE_sub.2 h'))]; simp
theorem atL_cons {s : Tm} {r : List Tm} (h : Asc (s :: r)) (a : Int × Int × Int) : atL (s :: r) a = (if tmE s = a then s.2.2.2 else 0) + atL r a := by
  rw [atL]
  by_cases hx : tmE s = a
  · subst hx
    rw [if_pos rfl, if_pos rfl, atL_none (ts := r) (fun t ht hx => before_ne ((List.pairwise_cons.1 h).1 t ht) hx.symm)]
    simp
  · rw [if_neg hx, if_neg hx, Int.zero_add]
theorem mulS_col (ys : List Tm) (e : Int × Int × Int) : ∀ {xs : List Tm}, Asc xs → mulS xs ys e = colS (atL xs) ys e
  | [], _ => (colS_zero e ys).symm
  | s :: r, h => by
    rw [mulS, mulS_col ys e (List.pairwise_cons.1 h).2, rowS_col, ← colS_add]
    exact colS_congr (fun a => (atL_cons h a).symm) e ys
theorem colS_mod (p : Int) (f : Int × Int × Int → Int) (e : Int × Int × Int) : ∀ ys : List Tm, colS (fun a => f a % p) ys e % p = colS f ys e % p
  | [] => rfl
  | t :: r => by
    rw [colS, colS, Int.add_emod, colS_mod p f e r, ← Int.add_emod_emod, Int.mul_emod, Int.emod_emod_of_dvd _ (Int.dvd_refl p), ← Int.mul_emod, ← Int.add_emod_emod]
    simp [Int.add_emod]
theorem colS_scale (v : Int) (f : Int × Int × Int → Int) (e : Int × Int × Int) : ∀ ys : List Tm, colS (fun a => v * f a) ys e = v * colS f ys e
  | [] => by simp [colS]
  | t :: r => by rw [colS, colS, colS_scale v f e r, Int.mul_add, Int.mul_assoc]
/-- The coefficient at any exponents, bytes or not. -/
theorem IsP.all {p : Int} {L M : List Tm} {f : Int × Int × Int → Int} {v : Int} (h : IsP p L (fun e => v * atL M e % p)) (hM : IsP p M f) (e : Int × Int × Int) : atL L e = v * atL M e % p := by
  by_cases he : byte3 e
  · exact h.2.2 e he
  · rw [atL_none (ts := L) (fun t ht hx => he (by rw [← hx]; exact (h.2.1 t ht).1.1)), atL_none (ts := M) (fun t ht hx => he (by rw [← hx]; exact (hM.2.1 t ht).1.1))]
    simp
/-- A number goes out of a product. -/
theorem mulF_scale {p : Int} {L M ys : List Tm} {f : Int × Int × Int → Int} {v : Int} (h : IsP p L (fun e => v * atL M e % p)) (hM : IsP p M f) (e : Int × Int × Int) : mulF p L ys e = v * mulF p M ys e % p := by
  rw [mulF, mulF, mulS_col ys e h.1, mulS_col ys e hM.1, colS_congr (fun a => IsP.all h hM a) e ys, colS_mod, colS_scale]
  simp [Int.mul_emod]
end Go.Proofs.Ytbhgbifliihlbaa
namespace Go.Proofs.Ytbhgbifliihlbaa
open Go.RowKit Go.Sort Go.Maps

/-- A map of coefficients in the making, beside the boxes of the argument and the result. -/
structure MapSt (w wr : World) (b n a r : Nat) (p d : Int) (xv : Value) (D : DataW Unit) : Prop where
  map : MapE wr b n D
  arg : wr.rowIs a 40 3 (polyF p d xv)
  res : wr.rowIs r 40 3 (polyF 0 0 (.slice none 0 0))
  below : Below w.heap.size w wr
  b1 : w.heap.size ≤ b
  r1 : w.heap.size ≤ r
theorem row_not_map {w : World} {a b n m : Nat} {t : TypeId} {f : Nat → Value} {D : DataW Unit} (h : w.rowIs a t n f) (h' : MapE w b m D) : a ≠ b := by
  intro e
  subst e
  obtain ⟨c, hc, _⟩ := h
  obtain ⟨es, clock, hb, _⟩ := h'
  rw [hc] at hb
  simp at hb
theorem MapSt.later {w wr w1 : World} {b n a r : Nat} {p d : Int} {xv : Value} {D : DataW Unit} (h : MapSt w wr b n a r p d xv D) (hb : Below wr.heap.size wr w1) : MapSt w w1 b n a r p d xv D :=
  ⟨h.map.kept (row := none) ⟨hb.os, hb.tape, hb.output, hb.size, fun k hk _ => hb.block k hk⟩ (by simp), rowIs_below h.arg hb h.arg.lt, rowIs_below h.res hb h.res.lt, h.below.trans (hb.mono h.below.size), h.b1, h.r1⟩
theorem MapSt.wrote {w wr w1 : World} {b n n' a r : Nat} {p d : Int} {xv : Value} {D D' : DataW Unit} (h : MapSt w wr b n a r p d xv D) (hg : wr.grownBy w1 (some b)) (hm : MapE w1 b n' D') : MapSt w w1 b n' a r p d xv D' :=
  ⟨hm, h.arg.of_block (hg.block a h.arg.lt (by simpa using row_not_map h.arg h.map)), h.res.of_block (hg.block r h.res.lt (by simpa using row_not_map h.res h.map)), h.below.grown hg h.below.size (fun k hk => by simp at hk; have := h.b1; omega), h.b1, h.r1⟩
end Go.Proofs.Ytbhgbifliihlbaa
namespace Go.Proofs.Ytbhgbifliihlbaa
open Go.RowKit Go.Sort Go.Maps

theorem SliceT.beside {w w' : World} {v : Value} {ts : List Tm} {b n : Nat} {D : DataW Unit} (h : SliceT w v ts) (hM : MapE w b n D) (hg : w.grownBy w' (some b)) : SliceT w' v ts := by
  obtain ⟨a, cap, hv, h | ⟨c, off, ha, hlt, hT⟩⟩ := h
  · exact ⟨a, cap, hv, .inl h⟩
  · by_cases hn : ts = []
    · exact ⟨a, cap, hv, .inl hn⟩
    refine SliceT.keep ⟨a, cap, hv, .inr ⟨c, off, ha, hlt, hT⟩⟩ hg fun c' hc' => ?_
    subst hv ha
    simp [Value.ownBlock] at hc'
    subst hc'
    intro e
    simp at e
    subst e
    have h0 := (hT 0 (List.length_pos_iff.2 hn)).1
    obtain ⟨es, clock, hb, _⟩ := hM
    simp [World.cell?, hb] at h0

/-- What the next term adds. -/
theorem plus_step {p k : Int} {ts : List Tm} {f : Int × Int × Int → Int} (h : Asc ts) (j : Nat) (hj : j < ts.length) (e : Int × Int × Int) :
    (f e + k * atL (ts.take (j + 1)) e) % p = if e = tmE ts[j] then (f (tmE ts[j]) + k * ts[j].2.2.2) % p else (f e + k * atL (ts.take j) e) % p := by
  rw [atL_take h j hj]
  by_cases hx : e = tmE ts[j]
  · subst hx
    rw [if_pos rfl, if_pos rfl]
  · rw [if_neg hx, if_neg (fun hy => hx hy.symm)]

theorem gTrans {w w1 w2 : World} {row : Option Nat} (h : w.grownBy w1 row) (h' : w1.grownBy w2 row) : w.grownBy w2 row :=
  ⟨h'.os.trans h.os, h'.tape.trans h.tape, h'.output.trans h.output, Nat.le_trans h.size h'.size, fun k hk hne => (h'.block k (Nat.lt_of_lt_of_le hk h.size) hne).trans (h.block k hk hne)⟩

set_option maxRecDepth 8000 in
set_option maxHeartbeats 8000000 in
theorem addTimes_any (p d k : Int) (v : Value) (ts : List Tm) (w : World) (b n : Nat) (D : DataW Unit) (f : Int × Int × Int → Int) (hl : ts.length ≤ 1048576) (hS : SliceT w v ts) (hV : Valid p d ts) (hM : MapE w b n D) (hn : n ≤ 1000000000)
    (hf : ∀ e, byte3 e → cf D e = f e) (hfb : ∀ e, byte3 e → 0 ≤ f e ∧ f e < p) (hk0 : 0 ≤ k) (hk1 : k < p) :
    Calls Try.prog 113 #[.map (some b), .agg #[.int .i64 p, .int .i64 d, v], .int .i64 k] w fun e w' =>
      ∃ D', e = .returned (.tuple #[]) ∧ MapE w' b (n + ts.length) D' ∧ (∀ e, byte3 e → cf D' e = (f e + k * atL ts e) % p) ∧ w.grownBy w' (some b) := by
  have hp2 := hV.p2
  have hp13 := hV.p13
  obtain ⟨a, cap, rfl, _⟩ := id hS
  obtain ⟨W, hW, hbW, hWs, rx⟩ : ∃ W, W = w.alloc (.cells #[.int .i64 p, .int .i64 d, .slice a ts.length cap] 40) ∧ Below w.heap.size w W ∧ w.heap.size < W.heap.size ∧
      W.rowIs w.heap.size 40 3 (polyF p d (.slice a ts.length cap)) :=
    ⟨_, rfl, box1 _ _, by simp, World.rowIs_alloc w #[Value.int .i64 p, .int .i64 d, .slice a ts.length cap] _ _ (fun i hi => by simp at hi; match i, hi with | 0, _ => rfl | 1, _ => rfl | 2, _ => rfl)⟩
  obtain ⟨⟨c0, c1, c2⟩, _⟩ := poly3 rx
  have hMW : MapE W b n D := hM.kept (row := none) ⟨hbW.os, hbW.tape, hbW.output, hbW.size, fun k hk _ => hbW.block k hk⟩ (by simp)
  have hgW : w.grownBy W (some b) := ⟨hbW.os, hbW.tape, hbW.output, hbW.size, fun k hk _ => hbW.block k hk⟩
  have hSW := hS.beside hM hgW
  go_enter Try.func113, Try.ntmps113
  go_wp2_with fail
  rw [← hW]
  clear hW c0 c1 c2
  go_loopw [11] (fun j wr => ∃ (j' : Nat) (D : DataW Unit), j' ≤ ts.length ∧ j = .int .i64 j' ∧ Hid (∀ e, byte3 e → cf D e = (f e + k * atL (ts.take j') e) % p) ∧ MapE wr b (n + j') D ∧ W.grownBy wr (some b) ∧ wr.rowIs w.heap.size 40 3 (polyF p d (.slice a ts.length cap))) (fun j _ => ts.length - (intOf j).toNat)
  case atStart => exact ⟨0, D, by omega, rfl, Lib.hid (fun e he => by rw [hf e he]; simp [atL]; exact (Int.emod_eq_of_lt (hfb e he).1 (hfb e he).2).symm), hMW, ⟨rfl, rfl, rfl, Nat.le_refl _, fun _ _ _ => rfl⟩, rx⟩
  case round =>
    obtain ⟨j, D1, hj, rfl, HD, hM1, hgr, rx1⟩ := hrel
    have hSr := hSW.beside hMW hgr
    obtain ⟨⟨m0, m1, m2⟩, _⟩ := poly3 rx1
    by_cases hlt1 : j < ts.length
    · have hlt' : (j : Int) < (ts.length : Int) := by omega
      obtain ⟨a', cap', hv', hcase⟩ := hSr
      simp at hv'
      obtain ⟨rfl, rfl⟩ := hv'
      rcases hcase with h0 | ⟨c, off, rfl, hltb, hTr⟩
      · rw [h0] at hlt1; exact absurd hlt1 (by simp)
      obtain ⟨c0, c1, c2, c3⟩ := hTr j hlt1
      obtain ⟨⟨⟨bx, by1, bz⟩, hs12⟩, bv1, bv2⟩ := hV.mem ts[j] (List.getElem_mem _)
      have hd1 := Lib.hid (fun e => plus_step (p := p) (k := k) (f := f) hV.asc j hlt1 e)
      have hfe := hfb (tmE ts[j]) ⟨bx, by1, bz⟩
      have hHe := HD.out (tmE ts[j]) ⟨bx, by1, bz⟩
      rw [atL_take_new hV.asc j hlt1, Int.mul_zero, Int.add_zero, Int.emod_eq_of_lt hfe.1 hfe.2] at hHe
      have HE := Lib.hid hHe
      clear hHe
      simp only [tmE] at bx by1 bz
      generalize hx : ts[j].1 = x at *
      generalize hy : ts[j].2.1 = y at *
      generalize hz : ts[j].2.2.1 = z at *
      generalize hvv : ts[j].2.2.2 = v at *
      have htm : tmE ts[j] = (x, y, z) := by simp [tmE, hx, hy, hz]
      rw [htm] at hfe HE
      generalize hfg : f (x, y, z) = fe at *
      have mo : ∀ o, (wr.alloc o).cell? ⟨w.heap.size, 0, none⟩ = some (.int .i64 p) := fun o => ((box1 wr o).cell rx1.lt).trans m0
      have hE1 : byte3 (x, y, z) := ⟨bx, by1, bz⟩
      have hkey : keyOf Try.prog 113 (.agg #[.int .u8 x, .int .u8 y, .int .u8 z]) = some (kE (x, y, z)) := keyOf_vE (x, y, z) hE1
      have hMm : MapE (wr.alloc (.cells #[.int .u8 x, .int .u8 y, .int .u8 z, .int .i64 v] 115)).drew b (n + j) D1 := (hM1.alloc _).kept (row := none) ⟨rfl, rfl, rfl, Nat.le_refl _, fun _ _ _ => rfl⟩ (by simp)
      obtain ⟨c, hrun, hat, _⟩ := hMm.lookup_int lawK Try.underlying126 Try.underlying2 (zero64 _) hkey
      have hce : c = fe := by rw [← HE.out]; exact (cf_of_at hat).symm
      subst hce
      have g1 : 0 ≤ k * v := Int.mul_nonneg (by omega) (by omega)
      have g2 : k * v ≤ 13 * 13 := Int.mul_le_mul (by omega) (by omega) (by omega) (by omega)
      have hw : IntKind.i64.wrap (k * v) = k * v := IntWalk.i64_in _ (by omega)
      have hw2 : IntKind.i64.wrap (c + k * v) = c + k * v := IntWalk.i64_in _ (by omega)
      have hp0 : ¬ p = 0 := by omega
      have hp1 : (p == 0) = false := by simpa using hp0
      have ht : (c + k * v).tmod p = (c + k * v) % p := Int.tmod_eq_emod_of_nonneg (by omega)
      have q1 : 0 ≤ (c + k * v) % p := Int.emod_nonneg _ (by omega)
      have q2 : (c + k * v) % p < p := Int.emod_lt_of_pos _ (by omega)
      have HD2 : Hid (∀ e, byte3 e → cf (D1.put (kE (x, y, z)) (.lit (.int .i64 ((c + k * v) % p)))) e = (f e + k * atL (ts.take (j + 1)) e) % p) := Lib.hid (fun e he => by
        rw [cf_put hM1.isMap hE1 he, hd1.out e, HD.out e he, htm, hfg])
      clear htm hd1 hV hS hTr hf hfb hat HE HD
      go_wp2_with fail
      refine region_tail 15 (by kernel_rfl) (by kernel_rfl) ?_
      simp only [List.take_succ_cons, List.take_zero, List.drop_succ_cons, List.drop_zero]
      repeat still_step
      refine wpStill_nil ?_
      try simp only [hw, hw2, ht]
      go_wp2_with (at_mapUpdate; refine wpList_mapUpdate_own _ rfl _ _ _ 126 rfl 113 2 lawK Try.underlying126 (plainElem Try.prog 2) b (n + j) D1 rfl hMm (by unfold maxLen; omega) (.agg #[.int .u8 x, .int .u8 y, .int .u8 z]) _ _ rfl rfl hkey _ [] (plainElem_int Try.underlying2 (wf64 q1 (by omega))) ?_; intro w2 hown2 hgrow2)
      have hgrow3 : (wr.alloc (.cells #[.int .u8 x, .int .u8 y, .int .u8 z, .int .i64 v] 115)).grownBy w2 (some b) := ⟨hgrow2.os, hgrow2.tape, hgrow2.output, hgrow2.size, hgrow2.block⟩
      go_roundw
      case rel => exact ⟨j + 1, _, by omega, by go_num, HD2, hown2, gTrans (gTrans hgr (World.grownBy_alloc wr _ (some b))) hgrow3, ((rx1.alloc _).of_block (hgrow3.block _ (Nat.lt_of_lt_of_le rx1.lt (by simp)) (by simpa using row_not_map rx1 hM1)))⟩
      case measure => simp [intOf]; omega
    · obtain rfl : j = ts.length := by omega
      have hD := HD.out
      rw [List.take_length] at hD
      have hgg : w.grownBy wr (some b) := gTrans hgW hgr
      clear hSr HD
      go_wp2_with fail
      go_end0
      exact ⟨_, rfl, hM1, hD, hgg⟩
end Go.Proofs.Ytbhgbifliihlbaa
