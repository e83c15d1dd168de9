/-
  ORDERS in the model: plain mathematics; rows that can be resliced. Conditions: as each theorem states.
-/
import Derived.Test.YtbahejlgfpilnaaSyd
import Derived.Test.YtbahejlgfpilnaaLc
namespace Go.Proofs.Ytbahejlgfpilnaa
open Go.RowKit Go.Sort

/-- k put into a list at a place. -/
def insK (k : Int) (l : List Int) (a : Nat) : List Int := (l.take a ++ [k]) ++ l.drop a
/-- k put at each place, from the last one on. -/
def insAll (k : Nat) (l : List Int) : List (List Int) := (List.range (k + 1)).map fun i => insK k l (k - i)
def sOrd : Nat → List (List Int)
  | 0 => [[]]
  | k + 1 => (sOrd k).flatMap (insAll k)
def sgAll (k : Nat) (s : Int) : List Int := (List.range (k + 1)).map fun (i : Nat) => s * (1 - 2 * ((i : Int) % 2))
def sSg : Nat → List Int
  | 0 => [1]
  | k + 1 => (sSg k).flatMap (sgAll k)
theorem sOrd_row : ∀ (k : Nat), ∀ l ∈ sOrd k, l.length = k
  | 0, l, h => by simp [sOrd] at h; simp [h]
  | k + 1, l, h => by
    simp only [sOrd, List.mem_flatMap] at h
    obtain ⟨r, hr, hl⟩ := h
    simp only [insAll, List.mem_map, List.mem_range] at hl
    obtain ⟨i, hi, rfl⟩ := hl
    have := sOrd_row k r hr
    simp [insK]
    omega
theorem flat_len {α β : Type} (f : α → List β) (c : Nat) : ∀ (L : List α), (∀ x ∈ L, (f x).length = c) → (L.flatMap f).length = c * L.length
  | [], _ => by simp
  | x :: L, h => by
    rw [List.flatMap_cons, List.length_append, h x (by simp), flat_len f c L (fun y hy => h y (by simp [hy])), List.length_cons, Nat.mul_add, Nat.mul_one, Nat.add_comm]
theorem sOrd_len : ∀ (k : Nat), k ≤ 3 → (sOrd k).length ≤ 6 ∧ (sSg k).length = (sOrd k).length := fun k hk => by
  have : k = 0 ∨ k = 1 ∨ k = 2 ∨ k = 3 := by omega
  rcases this with rfl | rfl | rfl | rfl <;> decide
theorem sSg_one : ∀ (k : Nat), ∀ s ∈ sSg k, s = 1 ∨ s = -1
  | 0, s, h => by simp [sSg] at h; exact .inl h
  | k + 1, s, h => by
    simp only [sSg, List.mem_flatMap] at h
    obtain ⟨r, hr, hl⟩ := h
    simp only [sgAll, List.mem_map, List.mem_range] at hl
    obtain ⟨i, hi, rfl⟩ := hl
    have h2 : ((i : Int) % 2 = 0) ∨ ((i : Int) % 2 = 1) := by omega
    rcases sSg_one k r hr with rfl | rfl <;> rcases h2 with h2 | h2 <;> rw [h2] <;> simp
/-- What stands after i lists and j places of the next one. -/
def midO (k : Nat) (L : List (List Int)) (i j : Nat) : List (List Int) := (L.take i).flatMap (insAll k) ++ ((insAll k (L.getD i [])).take j)
def midS (k : Nat) (S : List Int) (i j : Nat) : List Int := (S.take i).flatMap (sgAll k) ++ ((sgAll k (S.getD i 0)).take j)
theorem midO_zero (k : Nat) (L : List (List Int)) (i : Nat) : midO k L i 0 = (L.take i).flatMap (insAll k) := by simp [midO]
theorem midS_zero (k : Nat) (S : List Int) (i : Nat) : midS k S i 0 = (S.take i).flatMap (sgAll k) := by simp [midS]
theorem midO_step {k : Nat} {L : List (List Int)} {i j : Nat} (hi : i < L.length) (hj : j ≤ k) : midO k L i (j + 1) = midO k L i j ++ [insK k L[i] (k - j)] := by
  unfold midO
  rw [show L.getD i [] = L[i] by simp [List.getD, hi], List.take_succ_eq_append_getElem (by simp [insAll]; omega), ← List.append_assoc]
  simp [insAll]
theorem midS_step {k : Nat} {S : List Int} {i j : Nat} (hi : i < S.length) (hj : j ≤ k) : midS k S i (j + 1) = midS k S i j ++ [S[i] * (1 - 2 * ((j : Int) % 2))] := by
  unfold midS
  rw [show S.getD i 0 = S[i] by simp [List.getD, hi], List.take_succ_eq_append_getElem (by simp [sgAll]; omega), ← List.append_assoc]
  simp [sgAll]
theorem midO_end {k : Nat} {L : List (List Int)} {i : Nat} (hi : i < L.length) : midO k L i (k + 1) = (L.take (i + 1)).flatMap (insAll k) := by
  unfold midO
  rw [List.take_of_length_le (show (insAll k (L.getD i [])).length ≤ k + 1 by simp [insAll]), show L.getD i [] = L[i] by simp [List.getD, hi], List.take_succ_eq_append_getElem hi, List.flatMap_append]
  simp
theorem midS_end {k : Nat} {S : List Int} {i : Nat} (hi : i < S.length) : midS k S i (k + 1) = (S.take (i + 1)).flatMap (sgAll k) := by
  unfold midS
  rw [List.take_of_length_le (show (sgAll k (S.getD i 0)).length ≤ k + 1 by simp [sgAll]), show S.getD i 0 = S[i] by simp [List.getD, hi], List.take_succ_eq_append_getElem hi, List.flatMap_append]
  simp
theorem midO_le {k : Nat} (hk : k ≤ 2) {i j : Nat} : (midO k (sOrd k) i j).length ≤ 12 := by
  have h1 : ((sOrd k).take i).length ≤ 2 := by
    have : k = 0 ∨ k = 1 ∨ k = 2 := by omega
    have h2 : (sOrd k).length ≤ 2 := by rcases this with rfl | rfl | rfl <;> decide
    rw [List.length_take]; omega
  have h3 := flat_len (insAll k) (k + 1) ((sOrd k).take i) (fun x _ => by simp [insAll])
  unfold midO
  rw [List.length_append, h3]
  have h4 : (insAll k ((sOrd k).getD i [])).length = k + 1 := by simp [insAll]
  have h6 : ((insAll k ((sOrd k).getD i [])).take j).length ≤ k + 1 := by rw [List.length_take, h4]; omega
  have h5 : (k + 1) * ((sOrd k).take i).length ≤ 3 * 2 := Nat.mul_le_mul (by omega) h1
  omega
/-- Both have the same orders. -/
theorem ord_same (d : Nat) (h : 1 ≤ d ∧ d ≤ 3) : ∀ l, l ∈ sOrd d ↔ l ∈ ordL d (d ^ d) := by
  have h1 : ∀ l ∈ sOrd 1, l ∈ ordL 1 (1 ^ 1) := by decide +kernel
  have h1' : ∀ l ∈ ordL 1 (1 ^ 1), l ∈ sOrd 1 := by decide +kernel
  have h2 : ∀ l ∈ sOrd 2, l ∈ ordL 2 (2 ^ 2) := by decide +kernel
  have h2' : ∀ l ∈ ordL 2 (2 ^ 2), l ∈ sOrd 2 := by decide +kernel
  have h3 : ∀ l ∈ sOrd 3, l ∈ ordL 3 (3 ^ 3) := by decide +kernel
  have h3' : ∀ l ∈ ordL 3 (3 ^ 3), l ∈ sOrd 3 := by decide +kernel
  have : d = 1 ∨ d = 2 ∨ d = 3 := by omega
  rcases this with rfl | rfl | rfl
  · exact fun l => ⟨h1 l, h1' l⟩
  · exact fun l => ⟨h2 l, h2' l⟩
  · exact fun l => ⟨h3 l, h3' l⟩

/-- Rows that can be resliced. -/
def CapO (O : List Row3) : Prop := ∀ e ∈ O, ∃ c, e.1 = .slice (some ⟨e.2.2, 0, none⟩) e.2.1.length c ∧ e.2.1.length ≤ c
theorem OwnL.rowC {w : World} {base : Nat} {v : Value} {l : List Int} (h : OwnL w base v l) (h0 : 0 < l.length) : ∃ g c, v = .slice (some ⟨g, 0, none⟩) l.length c ∧ l.length ≤ c ∧ base ≤ g ∧ RowAt w base (v, l, g) := by
  obtain ⟨g, hr⟩ := h.rowAt h0
  obtain ⟨_, h2⟩ := h
  rcases h2 with ⟨_, h3⟩ | ⟨g', cap, cur, hv, hb, _, hc, _⟩
  · omega
  · obtain ⟨c', _, _, hv', hb', _⟩ := id hr
    have hgg : g = g' := by
      have h5 : v = .slice (some ⟨g, 0, none⟩) l.length c' := hv'
      rw [hv] at h5
      simp at h5
      exact h5.1.symm
    subst hgg
    exact ⟨g, cap, hv, hc, hb, hr⟩
theorem RowsM.cell {w : World} {base : Nat} {v : Value} {O : List Row3} (h : RowsM w base v O) {i : Nat} (hi : i < O.length) : ∃ g c, v = .slice (some ⟨g, 0, none⟩) O.length c ∧ w.cell? ⟨g, i, none⟩ = some O[i].1 := by
  rcases owns_at h.owns with ⟨_, h0⟩ | ⟨g, cap, N, f, hv, hb, hN, hr, hf⟩
  · omega
  · exact ⟨g, cap, hv, by rw [hr.cell (by omega), hf i (by simpa using hi)]; simp⟩
theorem row_takeS {w : World} {base : Nat} {e : Row3} (h : RowAt w base e) (a cap : Nat) (ha : a ≤ e.2.1.length) : Sl w (.slice (some ⟨e.2.2, 0, none⟩) a cap) (e.2.1.take a) := by
  have hc := h.cs
  refine ⟨_, cap, by rw [List.length_take, Nat.min_eq_left ha], .inr ⟨e.2.2, 0, rfl, h.lt, fun k hk => ?_⟩⟩
  have hk' : k < e.2.1.length := by rw [List.length_take] at hk; omega
  rw [List.getElem_take]
  exact hc k hk'
theorem row_dropS {w : World} {base : Nat} {e : Row3} (h : RowAt w base e) (a cap : Nat) (ha : a ≤ e.2.1.length) (ad : Option Addr) (had : a < e.2.1.length → ad = some ⟨e.2.2, a, none⟩) : Sl w (.slice ad (e.2.1.length - a) cap) (e.2.1.drop a) := by
  have hc := h.cs
  refine ⟨ad, cap, by rw [List.length_drop], ?_⟩
  by_cases hlt : a < e.2.1.length
  · refine .inr ⟨e.2.2, a, had hlt, h.lt, fun k hk => ?_⟩
    have hk' : a + k < e.2.1.length := by rw [List.length_drop] at hk; omega
    have := hc (a + k) hk'
    rw [Nat.zero_add] at this
    rw [List.getElem_drop]
    exact this
  · exact .inl (List.drop_eq_nil_of_le (by omega))
end Go.Proofs.Ytbahejlgfpilnaa
