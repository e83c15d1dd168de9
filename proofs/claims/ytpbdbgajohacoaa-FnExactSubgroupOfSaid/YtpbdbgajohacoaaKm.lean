/-
  INVERSES of matrices: the model's and the program's are one. Conditions: as each theorem states.
-/
import Derived.Test.YtpbdbgajohacoaaMv
import Derived.Test.YtpbdbgajohacoaaKf
namespace Go.Proofs.Ytpbdbgajohacoaa
open Go.RowKit Go.Sort EchM

def invF (p : Int) (n : Nat) (g : Nat → Nat → Int) : Nat → Nat → Int := cutM n (hM p (epowI p (detP p (fullM n g)) (p - 2).toNat) (fullM n g))
theorem iinv_agg (p : Int) (n : Nat) (g r : Nat → Nat → Int) (w : World) (hg : MatV p n g) (hr : invF p n g = r) :
    Calls Try.prog 96 #[.int .i64 p, .int .i64 (n : Int), (.agg #[.int .u8 (g 0 0), .int .u8 (g 0 1), .int .u8 (g 0 2), .int .u8 (g 1 0), .int .u8 (g 1 1), .int .u8 (g 1 2), .int .u8 (g 2 0), .int .u8 (g 2 1), .int .u8 (g 2 2)])] w fun e w' => e = .returned (.agg #[.int .u8 (r 0 0), .int .u8 (r 0 1), .int .u8 (r 0 2), .int .u8 (r 1 0), .int .u8 (r 1 1), .int .u8 (r 1 2), .int .u8 (r 2 0), .int .u8 (r 2 1), .int .u8 (r 2 2)]) ∧ Below w.heap.size w w' := by subst hr; exact iinv p n g w hg.h2 hg.h13 hg.m1 hg.m3 hg.bound
theorem inv_same {p : Int} {n : Nat} {g : Nat → Nat → Int} (hg : MatV p n g) : okR n (echL p (gRows n g)) ∧ cutM n (behind n (echL p (gRows n g))) = invF p n g := by
  obtain ⟨h1, h2⟩ := ech_mat hg.prime hg.m1 hg.m3 (g := g) (fun i hi j hj => hg.bound i (by have := hg.m3; omega) j (by have := hg.m3; omega)) hg.out
  refine ⟨h1.2 hg.det, ?_⟩
  have hb := detP_bound hg.h2 (fullM n g)
  have hd := hg.det
  rw [h2 _ (epow_inv hg.prime (x := detP p (fullM n g)) (by omega) hb.2)]
  funext i j
  unfold invF cutM
  by_cases h : i < n ∧ j < n
  · rw [if_pos h, if_pos h]
    unfold behind
    have e : (uRows n (hM p (epowI p (detP p (fullM n g)) (p - 2).toNat) (fullM n g))).getD i [] = uRow n (hM p (epowI p (detP p (fullM n g)) (p - 2).toNat) (fullM n g)) i := by
      simp [uRows, h.1]
    rw [e, uRow, nth_rowF _ (by omega), if_neg (by omega), show n + j - n = j by omega]
  · rw [if_neg h, if_neg h]
theorem sinv_is (p : Int) (n : Nat) (g r : Nat → Nat → Int) (w : World) (hg : MatV p n g) (hr : invF p n g = r) :
    Calls Try.prog 71 #[.int .i64 p, .int .i64 (n : Int), (.agg #[.int .u8 (g 0 0), .int .u8 (g 0 1), .int .u8 (g 0 2), .int .u8 (g 1 0), .int .u8 (g 1 1), .int .u8 (g 1 2), .int .u8 (g 2 0), .int .u8 (g 2 1), .int .u8 (g 2 2)])] w fun e w' => e = .returned (.tuple #[(.agg #[.int .u8 (r 0 0), .int .u8 (r 0 1), .int .u8 (r 0 2), .int .u8 (r 1 0), .int .u8 (r 1 1), .int .u8 (r 1 2), .int .u8 (r 2 0), .int .u8 (r 2 1), .int .u8 (r 2 2)]), .bool true]) ∧ Below w.heap.size w w' := by
  subst hr
  obtain ⟨ho, he⟩ := inv_same hg
  refine (sinv_agg p n g w hg.prime hg.m1 hg.m3 hg.bound).mono fun e w' ⟨⟨r, b, h1, h2, h3⟩, hb⟩ => ⟨?_, hb⟩
  have hbt : b = true := h2.2 ho
  have hrr := h3 hbt
  rw [he] at hrr
  rw [h1, hbt, hrr]

end Go.Proofs.Ytpbdbgajohacoaa
