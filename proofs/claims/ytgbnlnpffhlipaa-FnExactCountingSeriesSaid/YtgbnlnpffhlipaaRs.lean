/-
  CYCLES of permutations: plain mathematics. Conditions: as each theorem states.
-/
import Derived.Test.YtgbnlnpffhlipaaRr
namespace Go.Proofs.Ytgbnlnpffhlipaa
open Go.RowKit Go.Sort EchM

/-- A mark at a place. -/
def mkS (s : Nat → Bool) (q : Nat) : Nat → Bool := fun j => if j = q then true else s j
/-- What a walk along a permutation marks, and how many steps it takes: at most f. -/
def walkC (l : List Int) : Nat → (Nat → Bool) → Nat → (Nat → Bool) × Nat
  | 0, s, _ => (s, 0)
  | f + 1, s, q => if s q then (s, 0) else ((walkC l f (mkS s q) (nth l q).toNat).1, (walkC l f (mkS s q) (nth l q).toNat).2 + 1)
theorem walkC_le (l : List Int) : ∀ f s q, (walkC l f s q).2 ≤ f
  | 0, _, _ => by simp [walkC]
  | f + 1, s, q => by
    rw [walkC]
    split
    · simp
    · have := walkC_le l f (mkS s q) (nth l q).toNat; simp; omega
/-- How many of the first n places are not marked. -/
def cntU (s : Nat → Bool) : Nat → Nat
  | 0 => 0
  | n + 1 => cntU s n + if s n then 0 else 1
theorem cntU_le (s : Nat → Bool) : ∀ n, cntU s n ≤ n
  | 0 => Nat.le_refl _
  | n + 1 => by have := cntU_le s n; simp only [cntU]; split <;> omega
theorem cntU_same {s : Nat → Bool} {q : Nat} : ∀ n, n ≤ q → cntU (mkS s q) n = cntU s n
  | 0, _ => rfl
  | n + 1, h => by
    simp only [cntU]
    rw [cntU_same n (by omega)]
    have : mkS s q n = s n := by simp [mkS]; omega
    rw [this]
theorem cntU_mk {s : Nat → Bool} {q : Nat} (hs : s q = false) : ∀ n, q < n → cntU (mkS s q) n + 1 = cntU s n
  | 0, h => by omega
  | n + 1, h => by
    simp only [cntU]
    by_cases e : q = n
    · subst e
      rw [cntU_same q (Nat.le_refl _), hs]
      simp [mkS]
    · have := cntU_mk hs n (by omega)
      have e2 : mkS s q n = s n := by simp [mkS]; omega
      rw [e2]
      omega
/-- The marks and the lengths found from the first k places. -/
def cyS (l : List Int) : Nat → (Nat → Bool) × List Int
  | 0 => (fun _ => false, [])
  | k + 1 => ((walkC l l.length (cyS l k).1 k).1, if 0 < (walkC l l.length (cyS l k).1 k).2 then (cyS l k).2 ++ [((walkC l l.length (cyS l k).1 k).2 : Int)] else (cyS l k).2)
theorem cyS_len (l : List Int) : ∀ k, (cyS l k).2.length ≤ k
  | 0 => by simp [cyS]
  | k + 1 => by
    have := cyS_len l k
    simp only [cyS]
    split
    · simp; omega
    · omega
theorem cyS_in (l : List Int) : ∀ k, ∀ x ∈ (cyS l k).2, 0 < x ∧ x ≤ l.length
  | 0 => by simp [cyS]
  | k + 1 => fun x hx => by
    simp only [cyS] at hx
    have hle := walkC_le l l.length (cyS l k).1 k
    split at hx
    · simp only [List.mem_append, List.mem_singleton] at hx
      rcases hx with hx | rfl
      · exact cyS_in l k x hx
      · omega
    · exact cyS_in l k x hx
/-- What a walk still has to do, from a place q with c steps behind it. -/
def WalkTo (l : List Int) (s0 : Nat → Bool) (st : Nat) (s : Nat → Bool) (q c : Nat) : Prop :=
  ∃ f, cntU s l.length ≤ f ∧ f + c ≤ l.length ∧ walkC l l.length s0 st = ((walkC l f s q).1, (walkC l f s q).2 + c)
theorem WalkTo.start (l : List Int) (s0 : Nat → Bool) (st : Nat) : WalkTo l s0 st s0 st 0 := ⟨l.length, cntU_le _ _, by omega, rfl⟩
theorem cntU_pos {s : Nat → Bool} {q : Nat} (hs : s q = false) : ∀ {n}, q < n → 0 < cntU s n
  | 0, h => by omega
  | n + 1, h => by
    simp only [cntU]
    by_cases e : q = n
    · subst e; rw [hs]; simp
    · have := cntU_pos hs (n := n) (by omega); omega
theorem WalkTo.next {l : List Int} {s0 s : Nat → Bool} {st q c : Nat} (h : WalkTo l s0 st s q c) (hs : s q = false) (hq : q < l.length) : WalkTo l s0 st (mkS s q) (nth l q).toNat (c + 1) ∧ c + 1 ≤ l.length := by
  obtain ⟨f, hf, hfc, he⟩ := h
  have h1 := cntU_mk hs l.length hq
  have h2 := cntU_pos hs hq
  obtain ⟨g, rfl⟩ : ∃ g, f = g + 1 := ⟨f - 1, by omega⟩
  refine ⟨⟨g, by omega, by omega, ?_⟩, by omega⟩
  rw [he, walkC, hs]
  simp
  omega
theorem WalkTo.done {l : List Int} {s0 s : Nat → Bool} {st q c : Nat} (h : WalkTo l s0 st s q c) (hs : s q = true) : walkC l l.length s0 st = (s, c) := by
  obtain ⟨f, _, _, he⟩ := h
  rw [he]
  cases f with
  | zero => simp [walkC]
  | succ f => rw [walkC, hs]; simp
theorem cyS_next {l : List Int} {k c : Nat} {s : Nat → Bool} (h : walkC l l.length (cyS l k).1 k = (s, c)) : cyS l (k + 1) = (s, if 0 < c then (cyS l k).2 ++ [(c : Int)] else (cyS l k).2) := by
  rw [cyS, h]

/-- A number put into a descending list, behind those that are not less. -/
def insD (c : Int) : List Int → List Int
  | [] => [c]
  | x :: r => if x < c then c :: x :: r else x :: insD c r
def Desc (l : List Int) : Prop := l.Pairwise fun a b => b ≤ a
theorem insD_perm (c : Int) : ∀ l, (insD c l).Perm (l ++ [c])
  | [] => List.Perm.refl _
  | x :: r => by
    rw [insD]
    split
    · exact (List.perm_append_singleton c (x :: r)).symm
    · exact (insD_perm c r).cons x
theorem insD_desc {c : Int} : ∀ {l}, Desc l → Desc (insD c l)
  | [], _ => by simp [insD, Desc]
  | x :: r, h => by
    rw [Desc, List.pairwise_cons] at h
    rw [insD]
    split
    · rename_i hx
      rw [Desc, List.pairwise_cons, List.pairwise_cons]
      refine ⟨fun y hy => ?_, h⟩
      simp only [List.mem_cons] at hy
      rcases hy with rfl | hy
      · omega
      · have := h.1 y hy; omega
    · rename_i hx
      rw [Desc, List.pairwise_cons]
      refine ⟨fun y hy => ?_, insD_desc h.2⟩
      have := (insD_perm c r).mem_iff.1 hy
      simp only [List.mem_append, List.mem_singleton] at this
      rcases this with hy | rfl
      · exact h.1 y hy
      · omega
theorem desc_unique {a b : List Int} (ha : Desc a) (hb : Desc b) (h : a.Perm b) : a = b :=
  List.Perm.eq_of_pairwise (le := fun a b => b ≤ a) (fun a b _ _ h1 h2 => by omega) ha hb h
theorem nth_c0 (x : Int) (r : List Int) : nth (x :: r) 0 = x := rfl
theorem nth_cs (x : Int) (r : List Int) (q : Nat) : nth (x :: r) (q + 1) = nth r q := by simp [nth]
theorem desc_nth {l : List Int} (h : Desc l) {a b : Nat} (hab : a ≤ b) (hb : b < l.length) : nth l b ≤ nth l a := by
  rw [nth_lt hb, nth_lt (by omega)]
  rcases Nat.lt_or_ge a b with h1 | h1
  · exact (List.pairwise_iff_getElem.1 h) a b (by omega) hb h1
  · have : a = b := by omega
    subst this
    exact Int.le_refl _
/-- The place of the insertion. -/
theorem insD_at (c : Int) : ∀ (l : List Int) (k : Nat), k ≤ l.length → (∀ q, q < l.length → k ≤ q → nth l q < c) → (∀ q, q < k → c ≤ nth l q) → insD c l = l.take k ++ c :: l.drop k
  | [], k, _, _, _ => by simp [insD]
  | x :: r, 0, _, h, _ => by
    have := h 0 (by simp) (by omega)
    rw [nth_c0] at this
    simp [insD, this]
  | x :: r, k + 1, hk, h, h2 => by
    have hx : ¬ x < c := by
      have h3 := h2 0 (by omega)
      rw [nth_c0] at h3
      omega
    rw [insD, if_neg hx, insD_at c r k (by simpa using hk) (fun q hq hkq => by have := h (q + 1) (by simpa using hq) (by omega); rwa [nth_cs] at this) (fun q hq => by
      have := h2 (q + 1) (by omega)
      rwa [nth_cs] at this)]
    simp
/-- The descending list of the lengths found from the first k places. -/
def cyD (l : List Int) : Nat → List Int
  | 0 => []
  | k + 1 => if 0 < (walkC l l.length (cyS l k).1 k).2 then insD ((walkC l l.length (cyS l k).1 k).2 : Int) (cyD l k) else cyD l k
theorem cyD_perm (l : List Int) : ∀ k, (cyD l k).Perm (cyS l k).2
  | 0 => List.Perm.refl _
  | k + 1 => by
    simp only [cyD, cyS]
    split
    · exact (insD_perm _ _).trans ((cyD_perm l k).append_right _)
    · exact cyD_perm l k
theorem cyD_desc (l : List Int) : ∀ k, Desc (cyD l k)
  | 0 => List.Pairwise.nil
  | k + 1 => by
    simp only [cyD]
    split
    · exact insD_desc (cyD_desc l k)
    · exact cyD_desc l k
theorem cyD_len (l : List Int) (k : Nat) : (cyD l k).length ≤ k := by
  rw [(cyD_perm l k).length_eq]; exact cyS_len l k
theorem cyD_in (l : List Int) (k : Nat) : ∀ x ∈ cyD l k, 0 < x ∧ x ≤ l.length := fun x hx => cyS_in l k x ((cyD_perm l k).mem_iff.1 hx)
theorem cyD_next {l : List Int} {k c : Nat} {s : Nat → Bool} (h : walkC l l.length (cyS l k).1 k = (s, c)) : cyD l (k + 1) = if 0 < c then insD (c : Int) (cyD l k) else cyD l k := by
  rw [cyD, h]
def rCyc (l : List Int) : List Int × Int := if permB l then (cyD l l.length, 0) else ([], 2)
theorem rCyc_len (l : List Int) (hl : l.length ≤ 1048576) : (rCyc l).1.length ≤ 1048576 := by
  unfold rCyc
  split
  · have := cyD_len l l.length; simp only; omega
  · simp
/-- The lengths, sorted, from behind. -/
theorem cyc_rev {l S : List Int} (hp : S.Perm (cyS l l.length).2) (hs : S.Pairwise fun a b => a ≤ b) : S.reverse = cyD l l.length :=
  desc_unique (by rw [Desc, List.pairwise_reverse]; exact hs) (cyD_desc l _) ((List.reverse_perm S).trans (hp.trans (cyD_perm l _).symm))
theorem perm_at {l : List Int} (h : permB l = true) {q : Nat} (hq : q < l.length) : 0 ≤ nth l q ∧ nth l q < l.length := by
  rw [nth_lt hq]
  exact (permB_iff.1 h).2.2.2 _ (List.getElem_mem hq)
end Go.Proofs.Ytgbnlnpffhlipaa
