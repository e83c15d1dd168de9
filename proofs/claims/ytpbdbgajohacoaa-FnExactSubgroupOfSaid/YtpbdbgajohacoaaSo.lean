/-
  CONJUGATES, in plain mathematics: products are associative, inverses undo them, conjugates of different matrices are different. Conditions: as each theorem states.
-/
import Derived.Test.YtpbdbgajohacoaaKm
import Derived.Test.YtpbdbgajohacoaaKj
namespace Go.Proofs.Ytpbdbgajohacoaa
open Go.RowKit EchM

def eq3 (a b : Nat → Nat → Int) : Prop := ∀ i, i < 3 → ∀ j, j < 3 → a i j = b i j
theorem eq3.symm {a b : Nat → Nat → Int} (h : eq3 a b) : eq3 b a := fun i hi j hj => (h i hi j hj).symm
theorem eq3.trans {a b c : Nat → Nat → Int} (h : eq3 a b) (h' : eq3 b c) : eq3 a c := fun i hi j hj => (h i hi j hj).trans (h' i hi j hj)
theorem prodM_is (p : Int) (a b : Nat → Nat → Int) (i j : Nat) : prodM p a b i j = (a i 0 * b 0 j + a i 1 * b 1 j + a i 2 * b 2 j) % p := by
  unfold prodM
  simp [psum]
theorem prodM_congr {p : Int} {a a' b b' : Nat → Nat → Int} (ha : eq3 a a') (hb : eq3 b b') : eq3 (prodM p a b) (prodM p a' b') := fun i hi j hj => by
  rw [prodM_is, prodM_is, ha i hi 0 (by omega), ha i hi 1 (by omega), ha i hi 2 (by omega), hb 0 (by omega) j hj, hb 1 (by omega) j hj, hb 2 (by omega) j hj]
theorem lin3 (p A B C c d e : Int) : (A % p * c + B % p * d + C % p * e) % p = (A * c + B * d + C * e) % p := by
  obtain ⟨a, ha⟩ := emod_ex p A
  obtain ⟨b, hb⟩ := emod_ex p B
  obtain ⟨g, hg⟩ := emod_ex p C
  rw [ha, hb, hg, show (A + p * a) * c + (B + p * b) * d + (C + p * g) * e = (A * c + B * d + C * e) + p * (a * c + b * d + g * e) by grind, Int.add_mul_emod_self_left]
theorem lin3' (p A B C c d e : Int) : (c * (A % p) + d * (B % p) + e * (C % p)) % p = (c * A + d * B + e * C) % p := by
  obtain ⟨a, ha⟩ := emod_ex p A
  obtain ⟨b, hb⟩ := emod_ex p B
  obtain ⟨g, hg⟩ := emod_ex p C
  rw [ha, hb, hg, show c * (A + p * a) + d * (B + p * b) + e * (C + p * g) = (c * A + d * B + e * C) + p * (c * a + d * b + e * g) by grind, Int.add_mul_emod_self_left]
theorem prod_assoc (p : Int) (a b c : Nat → Nat → Int) : eq3 (prodM p (prodM p a b) c) (prodM p a (prodM p b c)) := fun i _ j _ => by
  simp only [prodM_is]
  rw [lin3, lin3']
  congr 1
  grind
theorem prod_unit {p : Int} {n : Nat} {x : Nat → Nat → Int} (hx : ∀ i, i < 3 → ∀ j, j < 3 → 0 ≤ x i j ∧ x i j < p) (ho : Out0 n x) : eq3 (prodM p x (uM n)) x := fun i hi j hj => by
  obtain ⟨b0, b1⟩ := hx i hi j hj
  have h : x i 0 * uM n 0 j + x i 1 * uM n 1 j + x i 2 * uM n 2 j = x i j := by
    have h3 : j = 0 ∨ j = 1 ∨ j = 2 := by omega
    by_cases hn : j < n
    · rcases h3 with rfl | rfl | rfl <;> simp [uM, hn]
    · have hz := ho i hi j hj (.inr (by omega))
      rcases h3 with rfl | rfl | rfl <;> simp [uM, hn, hz]
  rw [prodM_is, h, Int.emod_eq_of_lt b0 b1]
theorem unit_prod {p : Int} {n : Nat} {x : Nat → Nat → Int} (hx : ∀ i, i < 3 → ∀ j, j < 3 → 0 ≤ x i j ∧ x i j < p) (ho : Out0 n x) : eq3 (prodM p (uM n) x) x := fun i hi j hj => by
  obtain ⟨b0, b1⟩ := hx i hi j hj
  have h : uM n i 0 * x 0 j + uM n i 1 * x 1 j + uM n i 2 * x 2 j = x i j := by
    have h3 : i = 0 ∨ i = 1 ∨ i = 2 := by omega
    by_cases hn : i < n
    · rcases h3 with rfl | rfl | rfl <;> simp [uM, hn]
    · have hz := ho i hi j hj (.inl (by omega))
      rcases h3 with rfl | rfl | rfl <;> simp [uM, hn, hz]
  rw [prodM_is, h, Int.emod_eq_of_lt b0 b1]
theorem invF_bound {p : Int} {n : Nat} {g : Nat → Nat → Int} (h2 : 2 ≤ p) : ∀ i, i < 3 → ∀ j, j < 3 → 0 ≤ invF p n g i j ∧ invF p n g i j < p := fun i _ j _ => by
  unfold invF cutM
  split
  · exact hM_bound h2 _ _ _
  · omega
theorem invF_out {p : Int} {n : Nat} {g : Nat → Nat → Int} : Out0 n (invF p n g) := fun i _ j _ h => by
  unfold invF cutM
  rw [if_neg (by omega)]
theorem dl_mod {p : Int} (h2 : 2 ≤ p) (i j : Nat) : dl i j % p = dl i j := by
  unfold dl
  split
  · exact Int.emod_eq_of_lt (by omega) (by omega)
  · simp
theorem inv_right {p : Int} {n : Nat} {g : Nat → Nat → Int} (hg : MatV p n g) : eq3 (prodM p g (invF p n g)) (uM n) := fun i hi j hj => by
  have hb := detP_bound hg.h2 (fullM n g)
  have hd := hg.det
  obtain ⟨hI, _, _⟩ := mat_inv hg.h2 hg.m1 hg.m3 hg.out (epow_inv hg.prime (x := detP p (fullM n g)) (by omega) hb.2)
  have o := fun k hk h => hg.out i hi k hk h
  have e : invF p n g = cutM n (hM p (epowI p (detP p (fullM n g)) (p - 2).toNat) (fullM n g)) := rfl
  rw [e, prodM_is]
  generalize hM p (epowI p (detP p (fullM n g)) (p - 2).toNat) (fullM n g) = H at *
  have m1 := hg.m1
  have m3 := hg.m3
  by_cases hin : i < n ∧ j < n
  · obtain ⟨t, ht⟩ := hI i hin.1 j hin.2
    have hs : g i 0 * cutM n H 0 j + g i 1 * cutM n H 1 j + g i 2 * cutM n H 2 j = dl i j + p * t := by
      have h3 : n = 1 ∨ n = 2 ∨ n = 3 := by omega
      rcases h3 with rfl | rfl | rfl
      · have o1 := o 1 (by omega) (.inr (by omega))
        have o2 := o 2 (by omega) (.inr (by omega))
        simp [sumL, List.range_succ] at ht
        simp [cutM, o1, o2, hin.2]
        omega
      · have o2 := o 2 (by omega) (.inr (by omega))
        simp [sumL, List.range_succ] at ht
        simp [cutM, o2, hin.2]
        omega
      · simp [sumL, List.range_succ] at ht
        simp [cutM, hin.2]
        omega
    rw [hs, Int.add_mul_emod_self_left, dl_mod hg.h2]
    unfold dl uM
    by_cases hij : i = j
    · subst hij; simp [hin.1]
    · rw [if_neg (fun e => hij e.symm), if_neg (fun e => hij e.1)]
  · have hz : g i 0 * cutM n H 0 j + g i 1 * cutM n H 1 j + g i 2 * cutM n H 2 j = 0 := by
      by_cases hi' : i < n
      · have hj' : ¬ j < n := fun h => hin ⟨hi', h⟩
        simp [cutM, hj']
      · rw [o 0 (by omega) (.inl (by omega)), o 1 (by omega) (.inl (by omega)), o 2 (by omega) (.inl (by omega))]; simp
    rw [hz]
    unfold uM
    rw [if_neg (by omega)]
    simp
/-- The conjugate of x by m. -/
def conjM (p : Int) (n : Nat) (m x : Nat → Nat → Int) : Nat → Nat → Int := prodM p (prodM p (invF p n m) x) m
theorem conj_back {p : Int} {n : Nat} {m x : Nat → Nat → Int} (hm : MatV p n m) (hx : MatV p n x) : eq3 (prodM p m (prodM p (conjM p n m x) (invF p n m))) x := by
  have ib := invF_bound (n := n) (g := m) hm.h2
  have io := invF_out (p := p) (n := n) (g := m)
  have pb : ∀ i, i < 3 → ∀ j, j < 3 → 0 ≤ prodM p (invF p n m) x i j ∧ prodM p (invF p n m) x i j < p := fun i _ j _ => prodM_bound hm.h2 _ _ _ _
  have po : Out0 n (prodM p (invF p n m) x) := prodM_out io hx.out
  have h1 : eq3 (prodM p (conjM p n m x) (invF p n m)) (prodM p (invF p n m) x) :=
    (prod_assoc p _ _ _).trans ((prodM_congr (fun _ _ _ _ => rfl) (inv_right hm)).trans (prod_unit pb po))
  have h2 : eq3 (prodM p m (prodM p (invF p n m) x)) x := (prod_assoc p _ _ _).symm.trans ((prodM_congr (inv_right hm) (fun _ _ _ _ => rfl)).trans (unit_prod hx.bound hx.out))
  exact (prodM_congr (fun _ _ _ _ => rfl) h1).trans h2
theorem conj_inj {p : Int} {n : Nat} {m x y : Nat → Nat → Int} (hm : MatV p n m) (hx : MatV p n x) (hy : MatV p n y) (h : eq3 (conjM p n m x) (conjM p n m y)) : eq3 x y :=
  (conj_back hm hx).symm.trans ((prodM_congr (fun _ _ _ _ => rfl) (prodM_congr h (fun _ _ _ _ => rfl))).trans (conj_back hm hy))
end Go.Proofs.Ytpbdbgajohacoaa
