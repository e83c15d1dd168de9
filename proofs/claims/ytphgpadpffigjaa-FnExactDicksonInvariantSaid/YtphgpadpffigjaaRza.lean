/-
  SEARCHES in lists, a range of numbers in the model, a list of numbers in a block by a function. Conditions: as each theorem states.
-/
import Derived.Test.YtphgpadpffigjaaEm
import Derived.Test.YtphgpadpffigjaaLq
import Derived.Test.YtphgpadpffigjaaLa
namespace Go.Proofs.Ytphgpadpffigjaa
open Go.RowKit Go.Sort EchM

theorem first_out (B : Int → Bool) : ∀ (l : List Int), l.all B = false → ∃ (j : Nat) (h : j < l.length), B l[j] = false ∧ ∀ (i : Nat) (hi : i < l.length), i < j → B l[i] = true
  | [], h => by simp at h
  | a :: r, h => by
    cases ha : B a
    · exact ⟨0, by simp, by simpa using ha, fun i _ hij => by omega⟩
    · have hr : r.all B = false := by
        simp only [List.all_cons, ha, Bool.true_and] at h
        exact h
      obtain ⟨j, hj, hn, hp⟩ := first_out B r hr
      refine ⟨j + 1, by simp; omega, by simpa using hn, fun i hi hij => ?_⟩
      cases i with
      | zero => simpa using ha
      | succ i => simpa using hp i (by simpa using hi) (by omega)
theorem all_upto (B : Int → Bool) (l : List Int) (h : ∀ (j : Nat) (hj : j < l.length), j < l.length → B l[j] = true) : l.all B = true := by
  rw [List.all_eq_true]
  intro x hx
  obtain ⟨i, hi, rfl⟩ := List.mem_iff_getElem.1 hx
  exact h i hi hi
theorem rin_is (n a b : Int) (w : World) (B : Bool) (h : (decide (a ≤ n) && decide (n ≤ b)) = B) : Calls Try.prog 52 #[.int .i64 n, .int .i64 a, .int .i64 b] w fun e w' => e = .returned (.bool B) ∧ w' = w :=
  (ein n a b w).mono fun _ _ ⟨h1, h2⟩ => ⟨by rw [h1, h], h2.symm⟩
/-- The first n cells of a block hold the numbers of a function. -/
def RowF (w : World) (b n : Nat) (F : Nat → Int) : Prop := ∃ N f, n ≤ N ∧ w.rowIs b 2 N f ∧ ∀ q, q < n → f q = .int .i64 (F q)
theorem RowF.cell {w : World} {b n : Nat} {F : Nat → Int} (h : RowF w b n F) {k : Nat} (hk : k < n) : w.cell? ⟨b, k, none⟩ = some (.int .i64 (F k)) := by
  obtain ⟨N, f, hN, hr, hf⟩ := h
  rw [hr.cell (by omega), hf k hk]
theorem RowF.frozen {w : World} {b n : Nat} {F : Nat → Int} (h : RowF w b n F) (k : Nat) : w.frozen? ⟨b, k, none⟩ = false := by
  obtain ⟨N, f, hN, hr, hf⟩ := h
  exact hr.frozen k
theorem RowF.lt {w : World} {b n : Nat} {F : Nat → Int} (h : RowF w b n F) : b < w.heap.size := by
  obtain ⟨N, f, hN, hr, hf⟩ := h
  exact hr.lt
theorem RowF.set {w : World} {b n : Nat} {F G : Nat → Int} (h : RowF w b n F) (k : Nat) (x : Int) (hG : ∀ q, q < n → G q = if q = k then x else F q) : RowF (w.setCell ⟨b, k, none⟩ (.int .i64 x)) b n G := by
  obtain ⟨N, f, hN, hr, hf⟩ := h
  refine ⟨N, _, hN, hr.set k _, fun q hq => ?_⟩
  rw [hG q hq]
  by_cases e : q = k
  · simp [e]
  · simp [e, hf q hq]
theorem RowF.congr {w : World} {b n : Nat} {F G : Nat → Int} (h : RowF w b n F) (hG : ∀ q, q < n → F q = G q) : RowF w b n G := by
  obtain ⟨N, f, hN, hr, hf⟩ := h
  exact ⟨N, f, hN, hr, fun q hq => by rw [hf q hq, hG q hq]⟩
theorem RowF.below {w w' : World} {b n : Nat} {F : Nat → Int} (h : RowF w b n F) (hb : Below w.heap.size w w') : RowF w' b n F := by
  obtain ⟨N, f, hN, hr, hf⟩ := h
  exact ⟨N, f, hN, erow_below hr hb hr.lt, hf⟩
theorem RowF.other {w : World} {b n : Nat} {F : Nat → Int} (h : RowF w b n F) {a : Addr} (ha : b ≠ a.block) (v : Value) : RowF (w.setCell a v) b n F := by
  obtain ⟨N, f, hN, hr, hf⟩ := h
  exact ⟨N, f, hN, hr.setOther ha v, hf⟩
theorem RowF.toV {w : World} {b n base cap : Nat} {F : Nat → Int} {S : List Int} (h : RowF w b n F) (hb : base ≤ b) (hS : S = (List.range n).map F) : OwnV w base (.slice (some ⟨b, 0, none⟩) n cap) S := by
  obtain ⟨N, f, hN, hr, hf⟩ := h
  subst hS
  refine .inr ⟨b, cap, N, f, by simp, hb, by simpa using hN, hr, fun q hq => ?_⟩
  have hq' : q < n := by simpa using hq
  rw [hf q hq']
  simp
theorem RowF.drew {w : World} {b n : Nat} {F : Nat → Int} (h : RowF w b n F) : RowF w.drew b n F := h
theorem nth_map_range {n q : Nat} (F : Nat → Int) (h : q < n) : nth ((List.range n).map F) q = F q := by
  rw [nth_lt (by simpa using h)]; simp
theorem map_nth (O : List Int) : (List.range O.length).map (nth O) = O := by
  refine List.ext_getElem (by simp) fun j h1 h2 => ?_
  simp [nth_lt h2]
/-- What lies in a block of the call's own, by a function. -/
theorem ownV_rowF {w : World} {base : Nat} {v : Value} {S : List Int} (h : OwnV w base v S) (hl : 0 < S.length) : ∃ b cap, v = .slice (some ⟨b, 0, none⟩) S.length cap ∧ base ≤ b ∧ RowF w b S.length (nth S) := by
  rcases h with ⟨rfl, _⟩ | ⟨b, cap, N, f, hv, hb, hN, hr, hf⟩
  · simp at hl
  · simp only at hv hb hN hr hf
    exact ⟨b, cap, hv, hb, N, f, hN, hr, fun q hq => by rw [hf q hq, nth_lt hq]⟩
end Go.Proofs.Ytphgpadpffigjaa
