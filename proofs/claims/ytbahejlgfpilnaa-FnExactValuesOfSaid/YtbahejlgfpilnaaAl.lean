/-
  THE ALGEBRA OF PRODUCTS, in plain mathematics: they do not depend on the order; a number goes out of a product. Conditions: as each theorem states.
-/
import Derived.Test.YtbahejlgfpilnaaPr
namespace Go.Proofs.Ytbahejlgfpilnaa
open Go.RowKit Go.Sort Go.Maps

theorem addE_comm (a b : Int × Int × Int) : addE a b = addE b a := by simp [addE, Int.add_comm]
theorem mulS_right (t : Tm) (r : List Tm) (e : Int × Int × Int) : ∀ xs : List Tm, mulS xs (t :: r) e = rowS t xs e + mulS xs r e
  | [] => by simp [mulS, rowS]
  | s :: q => by
    rw [mulS, mulS, mulS_right t r e q, rowS, rowS, addE_comm, Int.mul_comm s.2.2.2]
    omega
/-- Products do not depend on the order. -/
theorem mulS_comm (e : Int × Int × Int) (xs : List Tm) : ∀ ys : List Tm, mulS xs ys e = mulS ys xs e
  | [] => by rw [mulS_nil]; rfl
  | t :: r => by rw [mulS_right, mulS_comm e xs r]; rfl
theorem mulF_comm (p : Int) (xs ys : List Tm) (e : Int × Int × Int) : mulF p xs ys e = mulF p ys xs e := by rw [mulF, mulF, mulS_comm]

def subE (a b : Int × Int × Int) : Int × Int × Int := (a.1 - b.1, a.2.1 - b.2.1, a.2.2 - b.2.2)
theorem addE_sub {a b e : Int × Int × Int} : addE a b = e ↔ a = subE e b := by
  obtain ⟨a1, a2, a3⟩ := a
  obtain ⟨b1, b2, b3⟩ := b
  obtain ⟨e1, e2, e3⟩ := e
  simp [addE, subE]
  omega
/-- The coefficients of a product, told by the coefficients of the first factor. -/
def colS (f : Int × Int × Int → Int) : List Tm → Int × Int × Int → Int
  | [], _ => 0
  | t :: r, e => f (subE e (tmE t)) * t.2.2.2 + colS f r e
theorem colS_add (f g : Int × Int × Int → Int) (e : Int × Int × Int) : ∀ ys : List Tm, colS (fun a => f a + g a) ys e = colS f ys e + colS g ys e
  | [] => by simp [colS]
  | t :: r => by rw [colS, colS, colS, colS_add f g e r, Int.add_mul]; omega
theorem colS_zero (e : Int × Int × Int) : ∀ ys : List Tm, colS (fun _ => 0) ys e = 0
  | [] => rfl
  | t :: r => by rw [colS, colS_zero e r]; simp
theorem colS_congr {f g : Int × Int × Int → Int} (h : ∀ a, f a = g a) (e : Int × Int × Int) : ∀ ys : List Tm, colS f ys e = colS g ys e
  | [] => rfl
  | t :: r => by rw [colS, colS, h, colS_congr h e r]
theorem rowS_col (s : Tm) (e : Int × Int × Int) : ∀ ys : List Tm, rowS s ys e = colS (fun a => if tmE s = a then s.2.2.2 else 0) ys e
  | [] => rfl
  | t :: r => by
    rw [rowS, colS, rowS_col s e r]
    by_cases h : addE (tmE s) (tmE t) = e
    · rw [if_pos h, if_pos (addE_sub.1 h)]
    · rw [if_neg h, if_neg (fun h' => h (addE_sub.2 h'))]; simp
theorem atL_cons {s : Tm} {r : List Tm} (h : Asc (s :: r)) (a : Int × Int × Int) : atL (s :: r) a = (if tmE s = a then s.2.2.2 else 0) + atL r a := by
  rw [atL]
  by_cases hx : tmE s = a
  · subst hx
    rw [if_pos rfl, if_pos rfl, atL_none (ts := r) (fun t ht hx => before_ne ((List.pairwise_cons.1 h).1 t ht) hx.symm)]
    simp
  · rw [if_neg hx, if_neg hx, Int.zero_add]
theorem mulS_col (ys : List Tm) (e : Int × Int × Int) : ∀ {xs : List Tm}, Asc xs → mulS xs ys e = colS (atL xs) ys e
  | [], _ => (colS_zero e ys).symm
  | s :: r, h => by
    rw [mulS, mulS_col ys e (List.pairwise_cons.1 h).2, rowS_col, ← colS_add]
    exact colS_congr (fun a => (atL_cons h a).symm) e ys
theorem colS_mod (p : Int) (f : Int × Int × Int → Int) (e : Int × Int × Int) : ∀ ys : List Tm, colS (fun a => f a % p) ys e % p = colS f ys e % p
  | [] => rfl
  | t :: r => by
    rw [colS, colS, Int.add_emod, colS_mod p f e r, ← Int.add_emod_emod, Int.mul_emod, Int.emod_emod_of_dvd _ (Int.dvd_refl p), ← Int.mul_emod, ← Int.add_emod_emod]
    simp [Int.add_emod]
theorem colS_scale (v : Int) (f : Int × Int × Int → Int) (e : Int × Int × Int) : ∀ ys : List Tm, colS (fun a => v * f a) ys e = v * colS f ys e
  | [] => by simp [colS]
  | t :: r => by rw [colS, colS, colS_scale v f e r, Int.mul_add, Int.mul_assoc]
/-- The coefficient at any exponents, bytes or not. -/
theorem IsP.all {p : Int} {L M : List Tm} {f : Int × Int × Int → Int} {v : Int} (h : IsP p L (fun e => v * atL M e % p)) (hM : IsP p M f) (e : Int × Int × Int) : atL L e = v * atL M e % p := by
  by_cases he : byte3 e
  · exact h.2.2 e he
  · rw [atL_none (ts := L) (fun t ht hx => he (by rw [← hx]; exact (h.2.1 t ht).1.1)), atL_none (ts := M) (fun t ht hx => he (by rw [← hx]; exact (hM.2.1 t ht).1.1))]
    simp
/-- A number goes out of a product. -/
theorem mulF_scale {p : Int} {L M ys : List Tm} {f : Int × Int × Int → Int} {v : Int} (h : IsP p L (fun e => v * atL M e % p)) (hM : IsP p M f) (e : Int × Int × Int) : mulF p L ys e = v * mulF p M ys e % p := by
  rw [mulF, mulF, mulS_col ys e h.1, mulS_col ys e hM.1, colS_congr (fun a => IsP.all h hM a) e ys, colS_mod, colS_scale]
  simp [Int.mul_emod]
end Go.Proofs.Ytbahejlgfpilnaa
