/-
  PRODUCTS OF POLYNOMIALS, in plain mathematics. Conditions: as each theorem states.
-/
import Derived.Test.YtbahejlgfpilnaaVl
import Derived.Test.YtbahejlgfpilnaaIsp
namespace Go.Proofs.Ytbahejlgfpilnaa
open Go.RowKit Go.Sort Go.Maps

def addE (a b : Int × Int × Int) : Int × Int × Int := (a.1 + b.1, a.2.1 + b.2.1, a.2.2 + b.2.2)
/-- The coefficients of a term times a list of terms. -/
def rowS (s : Tm) : List Tm → Int × Int × Int → Int
  | [], _ => 0
  | t :: r, e => (if addE (tmE s) (tmE t) = e then s.2.2.2 * t.2.2.2 else 0) + rowS s r e
def mulS : List Tm → List Tm → Int × Int × Int → Int
  | [], _, _ => 0
  | s :: r, ys, e => rowS s ys e + mulS r ys e
/-- The coefficients of the product. -/
def mulF (p : Int) (xs ys : List Tm) (e : Int × Int × Int) : Int := mulS xs ys e % p
theorem rowS_snoc (s t : Tm) (e : Int × Int × Int) : ∀ l : List Tm, rowS s (l ++ [t]) e = rowS s l e + if addE (tmE s) (tmE t) = e then s.2.2.2 * t.2.2.2 else 0
  | [] => by simp [rowS]
  | u :: r => by rw [List.cons_append, rowS, rowS, rowS_snoc s t e r, Int.add_assoc]
theorem mulS_snoc (s : Tm) (ys : List Tm) (e : Int × Int × Int) : ∀ l : List Tm, mulS (l ++ [s]) ys e = mulS l ys e + rowS s ys e
  | [] => by simp [mulS]
  | u :: r => by rw [List.cons_append, mulS, mulS, mulS_snoc s ys e r, Int.add_assoc]
theorem rowS_take (s : Tm) (ys : List Tm) (k : Nat) (h : k < ys.length) (e : Int × Int × Int) : rowS s (ys.take (k + 1)) e = rowS s (ys.take k) e + if addE (tmE s) (tmE ys[k]) = e then s.2.2.2 * ys[k].2.2.2 else 0 := by
  rw [List.take_succ_eq_append_getElem h, rowS_snoc]
theorem mulS_take (xs ys : List Tm) (k : Nat) (h : k < xs.length) (e : Int × Int × Int) : mulS (xs.take (k + 1)) ys e = mulS (xs.take k) ys e + rowS xs[k] ys e := by
  rw [List.take_succ_eq_append_getElem h, mulS_snoc]
/-- .. when i terms of the first have been taken, and k of the second with the next one. -/
def prt (p : Int) (xs ys : List Tm) (i : Nat) (s : Tm) (k : Nat) (e : Int × Int × Int) : Int := (mulS (xs.take i) ys e + rowS s (ys.take k) e) % p
theorem prt_zero (p : Int) (xs ys : List Tm) (i : Nat) (s : Tm) (e : Int × Int × Int) : prt p xs ys i s 0 e = mulF p (xs.take i) ys e := by
  simp [prt, rowS, mulF]
theorem prt_full (p : Int) (xs ys : List Tm) (i : Nat) (h : i < xs.length) (e : Int × Int × Int) : prt p xs ys i xs[i] ys.length e = mulF p (xs.take (i + 1)) ys e := by
  simp [prt, mulF, mulS_take xs ys i h, List.take_length]
theorem prt_step (p : Int) (xs ys : List Tm) (i : Nat) (s : Tm) (k : Nat) (h : k < ys.length) (e : Int × Int × Int) :
    prt p xs ys i s (k + 1) e = if e = addE (tmE s) (tmE ys[k]) then (s.2.2.2 * ys[k].2.2.2 + prt p xs ys i s k (addE (tmE s) (tmE ys[k]))) % p else prt p xs ys i s k e := by
  unfold prt
  rw [rowS_take s ys k h]
  by_cases hx : e = addE (tmE s) (tmE ys[k])
  · subst hx
    rw [if_pos rfl, if_pos rfl, ← Int.add_assoc, Int.add_comm, Int.add_emod, Int.emod_emod_of_dvd _ (Int.dvd_refl p) |>.symm]
    simp [Int.add_emod]
  · rw [if_neg hx, if_neg (fun hy => hx hy.symm), Int.add_zero]
theorem mulF_nil (p : Int) (ys : List Tm) (e : Int × Int × Int) : mulF p [] ys e = 0 := by simp [mulF, mulS]
theorem rowS_nil (s : Tm) (e : Int × Int × Int) : rowS s [] e = 0 := rfl
theorem mulS_nil (e : Int × Int × Int) : ∀ xs : List Tm, mulS xs [] e = 0
  | [] => rfl
  | s :: r => by rw [mulS, rowS_nil, mulS_nil e r]; rfl
theorem sum_addE (a b : Int × Int × Int) : (addE a b).1 + (addE a b).2.1 + (addE a b).2.2 = (a.1 + a.2.1 + a.2.2) + (b.1 + b.2.1 + b.2.2) := by unfold addE; simp only []; omega
theorem addE_mono {a b : Int × Int × Int} (ha : byte3 a) (hb : byte3 b) (h : (a.1 + a.2.1 + a.2.2) + (b.1 + b.2.1 + b.2.2) ≤ 12) : mono12 (addE a b) := by
  obtain ⟨⟨a1, a2⟩, ⟨a3, a4⟩, a5, a6⟩ := ha
  obtain ⟨⟨b1, b2⟩, ⟨b3, b4⟩, b5, b6⟩ := hb
  refine ⟨⟨⟨?_, ?_⟩, ⟨?_, ?_⟩, ?_, ?_⟩, ?_⟩ <;> simp only [addE] <;> omega

/-- The degrees of the terms allow the product. -/
def Fits (xs ys : List Tm) : Prop := ∀ s ∈ xs, ∀ t ∈ ys, (s.1 + s.2.1 + s.2.2.1) + (t.1 + t.2.1 + t.2.2.1) ≤ 12

theorem mul_ex {p d : Int} {xs ys : List Tm} (hV : Valid p d xs) (hV' : Valid p d ys) (h : Fits xs ys) : ∃ L, IsP p L (mulF p xs ys) := by
  have hp := hV.p2
  have row : ∀ i, (hi : i < xs.length) → (∃ O, IsP p O (mulF p (xs.take i) ys)) → ∀ k, k ≤ ys.length → ∃ O, IsP p O (prt p xs ys i xs[i] k) := fun i hi h0 k => by
    induction k with
    | zero => exact fun _ => h0.imp fun O hO => hO.congr fun e _ => (prt_zero p xs ys i xs[i] e).symm
    | succ k ih =>
      intro hk
      obtain ⟨O, hO⟩ := ih (by omega)
      have hlt : k < ys.length := by omega
      obtain ⟨⟨m1, _⟩, _⟩ := hV.mem xs[i] (List.getElem_mem _)
      obtain ⟨⟨m2, _⟩, _⟩ := hV'.mem ys[k] (List.getElem_mem _)
      exact ⟨_, (hO.put hp (e := addE (tmE xs[i]) (tmE ys[k])) (addE_mono m1 m2 (h _ (List.getElem_mem _) _ (List.getElem_mem _))) (xs[i].2.2.2 * ys[k].2.2.2)).congr fun e _ => (prt_step p xs ys i xs[i] k hlt e).symm⟩
  have key : ∀ i, i ≤ xs.length → ∃ O, IsP p O (mulF p (xs.take i) ys) := fun i => by
    induction i with
    | zero => exact fun _ => ⟨[], (IsP.nil p).congr fun e _ => by simp [mulF_nil]⟩
    | succ i ih =>
      intro hi
      have hlt : i < xs.length := by omega
      exact (row i hlt (ih (by omega)) ys.length (Nat.le_refl _)).imp fun O hO => hO.congr fun e _ => prt_full p xs ys i hlt e
  have := key xs.length (Nat.le_refl _)
  rwa [List.take_length] at this
end Go.Proofs.Ytbahejlgfpilnaa
