/-
  CHARACTERISTIC polynomials of matrices: plain mathematics. Conditions: as each theorem states.
-/
import Derived.Test.YtfbagpndkihcpaaMw
namespace Go.Proofs.Ytfbagpndkihcpaa
open Go.RowKit Go.Sort EchM

/-- The first i numbers of the diagonal, added. -/
def trF (g : Nat → Nat → Int) : Nat → Int
  | 0 => 0
  | i + 1 => trF g i + g i i
/-- The minors of the row i with the next c ones, added; those of the first i rows. -/
def mrF (g : Nat → Nat → Int) (i : Nat) : Nat → Int
  | 0 => 0
  | c + 1 => mrF g i c + (g i i * g (i + 1 + c) (i + 1 + c) - g i (i + 1 + c) * g (i + 1 + c) i)
def mnF (g : Nat → Nat → Int) (m : Nat) : Nat → Int
  | 0 => 0
  | i + 1 => mnF g m i + mrF g i (m - (i + 1))
/-- The cofactors of the diagonal, added. -/
def cfF (p : Int) (g : Nat → Nat → Int) : Nat → Int
  | 0 => 0
  | i + 1 => cfF p g i + cofP p g i i
def chL (p : Int) (m : Nat) (g : Nat → Nat → Int) : List Int :=
  [1, (p - 1) * trF g 3 % p, cfF p g 3 % p, (p - 1) * detP p (fullM 3 g) % p].take (m + 1)
theorem chL_len (p : Int) {m : Nat} (h3 : m ≤ 3) (g : Nat → Nat → Int) : (chL p m g).length = m + 1 := by
  simp [chL]; omega
def rChar (p n : Int) (g : Nat → Nat → Int) : List Int × Int := if isMat p n g then (chL p n.toNat g, 0) else ([], 2)
theorem rChar_len (p n : Int) (g : Nat → Nat → Int) : (rChar p n g).1.length ≤ 4 := by
  unfold rChar
  split
  · simp [chL]; omega
  · simp
theorem neg_mod {p x : Int} : (p - 1) * x % p = -x % p := by
  rw [show (p - 1) * x = -x + p * x by grind, Int.add_mul_emod_self_left]
theorem trF_bound {p : Int} (h13 : p ≤ 13) {g : Nat → Nat → Int} (hg : ∀ i, i < 3 → ∀ j, j < 3 → 0 ≤ g i j ∧ g i j < p) : ∀ i, i ≤ 3 → 0 ≤ trF g i ∧ trF g i ≤ 13 * i
  | 0, _ => by simp [trF]
  | i + 1, h => by
    have a := trF_bound h13 hg i (by omega)
    have b := hg i (by omega) i (by omega)
    simp only [trF]
    omega
theorem mrF_bound {p : Int} (h13 : p ≤ 13) {g : Nat → Nat → Int} (hg : ∀ i, i < 3 → ∀ j, j < 3 → 0 ≤ g i j ∧ g i j < p) {i : Nat} : ∀ c, i + c < 3 → -(169 * (c : Int)) ≤ mrF g i c ∧ mrF g i c ≤ 169 * c
  | 0, _ => by simp [mrF]
  | c + 1, h => by
    have a := mrF_bound h13 hg (i := i) c (by omega)
    have b := eprod_fit h13 (hg i (by omega) i (by omega)) (hg (i + 1 + c) (by omega) (i + 1 + c) (by omega))
    have d := eprod_fit h13 (hg i (by omega) (i + 1 + c) (by omega)) (hg (i + 1 + c) (by omega) i (by omega))
    simp only [mrF]
    omega
theorem mnF_bound {p : Int} (h13 : p ≤ 13) {g : Nat → Nat → Int} (hg : ∀ i, i < 3 → ∀ j, j < 3 → 0 ≤ g i j ∧ g i j < p) {m : Nat} (hm : m ≤ 3) : ∀ i, i ≤ m → -(600 * (i : Int)) ≤ mnF g m i ∧ mnF g m i ≤ 600 * i
  | 0, _ => by simp [mnF]
  | i + 1, h => by
    have a := mnF_bound h13 hg hm i (by omega)
    have b := mrF_bound h13 hg (i := i) (m - (i + 1)) (by omega)
    simp only [mnF]
    omega
theorem cfF_bound {p : Int} (h2 : 2 ≤ p) (h13 : p ≤ 13) (g : Nat → Nat → Int) : ∀ i, 0 ≤ cfF p g i ∧ cfF p g i ≤ 13 * i
  | 0 => by simp [cfF]
  | i + 1 => by
    have a := cfF_bound h2 h13 g i
    have b := cofP_bound h2 g i i
    simp only [cfF]
    omega
/-- In a matrix of the size m: the minors modulo p are the cofactors of the diagonal, and the trace is that of all three. -/
theorem tr_out {m : Nat} {g : Nat → Nat → Int} (ho : Out0 m g) (h1 : 1 ≤ m) (h3 : m ≤ 3) : trF g m = trF g 3 := by
  have e : ∀ i, i < 3 → m ≤ i → g i i = 0 := fun i hi hm => ho i hi i hi (.inl hm)
  have hm : m = 1 ∨ m = 2 ∨ m = 3 := by omega
  rcases hm with rfl | rfl | rfl
  · simp [trF, e 1 (by omega) (by omega), e 2 (by omega) (by omega)]
  · simp [trF, e 2 (by omega) (by omega)]
  · rfl
theorem emod3 (p a b c : Int) : (a % p + b % p + c % p) % p = (a + b + c) % p := by
  rw [Int.add_emod (a % p + b % p), Int.emod_emod_of_dvd _ (Int.dvd_refl p), ← Int.add_emod a b, ← Int.add_emod]
theorem cf_mod (p : Int) (g : Nat → Nat → Int) : cfF p g 3 % p = mnF g 3 3 % p := by
  simp only [cfF, Int.zero_add, cofP]
  rw [emod3]
  simp only [mnF, mrF, Nat.reduceAdd, Nat.reduceSub, Nat.reduceMod]
  obtain ⟨x, hx⟩ : ∃ x, g 1 2 * g 2 1 + g 2 0 * g 0 2 + g 0 1 * g 1 0 = x := ⟨_, rfl⟩
  rw [show (g 1 1 * g 2 2 + (p - 1) * (g 1 2 * g 2 1) + (g 2 2 * g 0 0 + (p - 1) * (g 2 0 * g 0 2)) + (g 0 0 * g 1 1 + (p - 1) * (g 0 1 * g 1 0))) = (0 + (0 + (g 0 0 * g 1 1 - g 0 1 * g 1 0) + (g 0 0 * g 2 2 - g 0 2 * g 2 0)) + (0 + (g 1 1 * g 2 2 - g 1 2 * g 2 1)) + 0) + p * x by rw [← hx]; grind, Int.add_mul_emod_self_left]
theorem mn_two (g : Nat → Nat → Int) (ho : Out0 2 g) : mnF g 2 2 = mnF g 3 3 := by
  have e1 := ho 0 (by omega) 2 (by omega) (.inr (by omega))
  have e2 := ho 2 (by omega) 2 (by omega) (.inr (by omega))
  have e3 := ho 1 (by omega) 2 (by omega) (.inr (by omega))
  simp only [mnF, mrF, Nat.reduceAdd, Nat.reduceSub, e1, e2, e3]
  grind
theorem ch_1 {p : Int} {g : Nat → Nat → Int} (ho : Out0 1 g) : chL p 1 g = [1, -trF g 1 % p] := by
  rw [tr_out ho (by omega) (by omega)]
  simp [chL, neg_mod]
theorem ch_2 {p : Int} {g : Nat → Nat → Int} (ho : Out0 2 g) : chL p 2 g = [1, -trF g 2 % p, mnF g 2 2 % p] := by
  rw [tr_out ho (by omega) (by omega), mn_two g ho]
  simp [chL, neg_mod, cf_mod]
theorem ch_3 {p : Int} {g : Nat → Nat → Int} : chL p 3 g = [1, -trF g 3 % p, mnF g 3 3 % p, -detP p (fullM 3 g) % p] := by
  simp [chL, neg_mod, cf_mod]
end Go.Proofs.Ytfbagpndkihcpaa
