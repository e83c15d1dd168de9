/-
  SUBSTITUTIONS: what is asked of a polynomial and a list, in plain mathematics. Conditions: as each theorem states.
-/
import Derived.Test.YtbahejlgfpilnaaBv
import Derived.Test.YtbahejlgfpilnaaSc
namespace Go.Proofs.Ytbahejlgfpilnaa
open Go.RowKit Go.Sort Go.Maps

/-- The exponent number k. -/
def nthE (e : Int × Int × Int) (k : Nat) : Int := if k = 0 then e.1 else if k = 1 then e.2.1 else if k = 2 then e.2.2 else 0
theorem nthE_bound {e : Int × Int × Int} (h : mono12 e) (k : Nat) : 0 ≤ nthE e k ∧ nthE e k ≤ 12 := by
  obtain ⟨⟨⟨a1, _⟩, ⟨a2, _⟩, a3, _⟩, a4⟩ := h
  unfold nthE
  repeat' split
  all_goals omega
/-- The degree bound of the first k letters. -/
def bndK (Ls : List (List Tm)) (e : Int × Int × Int) : Nat → Int
  | 0 => 0
  | k + 1 => bndK Ls e k + nthE e k * dgN Ls k
theorem dgN_ge {Ls : List (List Tm)} {i : Nat} (h : Ls.length ≤ i) : dgN Ls i = 0 := by
  unfold dgN
  rw [nthL_ge h]
  rfl
theorem bndK_full {Ls : List (List Tm)} (h1 : 1 ≤ Ls.length) (h3 : Ls.length ≤ 3) (e : Int × Int × Int) : bndK Ls e Ls.length = bndE Ls e := by
  have hx : Ls.length = 1 ∨ Ls.length = 2 ∨ Ls.length = 3 := by omega
  rcases hx with h | h | h
  · have d1 := dgN_ge (Ls := Ls) (i := 1) (by omega)
    have d2 := dgN_ge (Ls := Ls) (i := 2) (by omega)
    rw [h]
    simp [bndK, bndE, nthE, d1, d2]
  · have d2 := dgN_ge (Ls := Ls) (i := 2) (by omega)
    rw [h]
    simp [bndK, bndE, nthE, d2]
  · rw [h]
    simp [bndK, bndE, nthE]
theorem bndK_bound {Ls : List (List Tm)} {e : Int × Int × Int} (he : mono12 e) (hd : ∀ i, dgN Ls i ≤ 12) : ∀ k : Nat, 0 ≤ bndK Ls e k ∧ bndK Ls e k ≤ 144 * (k : Int)
  | 0 => ⟨by simp [bndK], by simp [bndK]⟩
  | k + 1 => by
    obtain ⟨h0, h1⟩ := bndK_bound he hd k
    obtain ⟨a0, a1⟩ := nthE_bound he k
    have d0 := dgN_nonneg Ls k
    have m0 : 0 ≤ nthE e k * dgN Ls k := Int.mul_nonneg a0 d0
    have m1 : nthE e k * dgN Ls k ≤ 12 * 12 := Int.mul_le_mul a1 (hd k) d0 (by omega)
    rw [bndK]
    omega
/-- The terms of a list's polynomials. -/
def tmsL (G : List Pm) : List (List Tm) := G.map fun g => g.2.2
theorem tmsL_len (G : List Pm) : (tmsL G).length = G.length := by simp [tmsL]
theorem tmsL_nth {G : List Pm} {i : Nat} (h : i < G.length) : nthL (tmsL G) i = G[i].2.2 := by
  rw [nthL_lt (by rw [tmsL_len]; exact h)]
  simp [tmsL]
/-- The code of a substitution. -/
def subsC (p d : Int) (xs : List Tm) (G : List Pm) : Int :=
  if (isPolyB p d xs && G.all isPm) = true then
    (if (decide ((G.length : Int) = d) && G.all (likeT p (hdP G))) = true then
      (if xs.all (fun t => decide (bndE (tmsL G) (tmE t) ≤ 12)) = true then 0 else 3) else 2) else 1
theorem isPm_valid {g : Pm} (hok : PmOk g) (h : isPm g = true) : Valid g.1 g.2.1 g.2.2 := valid_of h hok.1
theorem dg_bound {G : List Pm} (hok : ∀ g ∈ G, PmOk g) (hp : G.all isPm = true) (i : Nat) : dgN (tmsL G) i ≤ 12 := by
  by_cases h : i < G.length
  · unfold dgN
    rw [tmsL_nth h]
    have hv := isPm_valid (hok _ (List.getElem_mem h)) (List.all_eq_true.1 hp _ (List.getElem_mem h))
    exact (max_deg hv).2
  · rw [dgN_ge (by rw [tmsL_len]; omega)]
    omega
end Go.Proofs.Ytbahejlgfpilnaa
