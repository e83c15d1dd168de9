/-
  POLYNOMIALS, in plain mathematics: what a polynomial's terms are like. Conditions: as each theorem states.
-/
import Derived.Test.YtphgpadpffigjaaCf
namespace Go.Proofs.Ytphgpadpffigjaa
open Go.RowKit Go.Sort

/-- The terms of a polynomial modulo p in d letters. -/
structure Valid (p d : Int) (ts : List Tm) : Prop where
  p2 : 2 ≤ p
  p13 : p ≤ 13
  d1 : 1 ≤ d
  d3 : d ≤ 3
  asc : Asc ts
  mem : ∀ t ∈ ts, (byte3 (tmE t) ∧ t.1 + t.2.1 + t.2.2.1 ≤ 12) ∧ (1 ≤ t.2.2.2 ∧ t.2.2.2 < p)

theorem chain_asc (p d : Int) : ∀ (ts : List Tm) (o : Option Tm), chain p d o ts = true → Asc ts ∧ (∀ q, o = some q → ∀ t ∈ ts, beforeB (tmE q) (tmE t) = true) ∧ ∀ t ∈ ts, termOk p d t = true
  | [], o, _ => ⟨List.Pairwise.nil, fun _ _ t ht => by simp at ht, fun t ht => by simp at ht⟩
  | t :: r, o, h => by
    simp only [chain, Bool.and_eq_true] at h
    obtain ⟨h1, h2, h3⟩ := h
    obtain ⟨a1, a2, a3⟩ := chain_asc p d r (some t) h3
    refine ⟨List.pairwise_cons.2 ⟨fun u hu => a2 t rfl u hu, a1⟩, fun q hq u hu => ?_, fun u hu => ?_⟩
    · subst hq
      have hl : beforeB (tmE q) (tmE t) = true := h2
      rcases List.mem_cons.1 hu with rfl | hu
      · exact hl
      · exact before_trans hl (a2 t rfl u hu)
    · rcases List.mem_cons.1 hu with rfl | hu
      · exact h1
      · exact a3 u hu
theorem valid_of {p d : Int} {ts : List Tm} (h : isPolyB p d ts = true) (hby : ∀ t ∈ ts, tmByte t) : Valid p d ts := by
  unfold isPolyB at h
  simp only [Bool.and_eq_true, decide_eq_true_eq] at h
  obtain ⟨hp, ⟨h1, h3⟩, ht⟩ := h
  obtain ⟨q1, q2⟩ := prime_le hp
  have hc : chain p d none ts = true := by simpa [tailB, prevT] using ht
  obtain ⟨a1, _, a3⟩ := chain_asc p d ts none hc
  refine ⟨q1, q2, h1, h3, a1, fun t ht => ?_⟩
  have hk := a3 t ht
  have hs := termOk_sum hk
  obtain ⟨hb, _⟩ := hby t ht
  unfold termOk at hk
  simp only [Bool.and_eq_true, decide_eq_true_eq] at hk
  exact ⟨⟨hb, hs⟩, hk.2.1, by omega⟩

/-- A number that grows along the order. -/
def rank (e : Int × Int × Int) : Int := (e.1 + e.2.1 + e.2.2) * 169 + (12 - e.1) * 13 + (12 - e.2.1)
theorem rank_lt {a b : Int × Int × Int} (ha : byte3 a ∧ a.1 + a.2.1 + a.2.2 ≤ 12) (hb : byte3 b ∧ b.1 + b.2.1 + b.2.2 ≤ 12) (h : beforeB a b = true) : rank a < rank b := by
  obtain ⟨⟨⟨a1, a2⟩, ⟨a3, a4⟩, a5, a6⟩, a7⟩ := ha
  obtain ⟨⟨⟨b1, b2⟩, ⟨b3, b4⟩, b5, b6⟩, b7⟩ := hb
  obtain ⟨x, y, z⟩ := a
  obtain ⟨x', y', z'⟩ := b
  unfold beforeB at h
  unfold rank
  simp only [] at *
  simp at h
  split at h
  · split at h <;> omega
  · omega
theorem rank_bound {a : Int × Int × Int} (ha : byte3 a ∧ a.1 + a.2.1 + a.2.2 ≤ 12) : 0 ≤ rank a ∧ rank a < 2197 := by
  obtain ⟨⟨⟨a1, a2⟩, ⟨a3, a4⟩, a5, a6⟩, a7⟩ := ha
  unfold rank
  omega
theorem len_rank : ∀ (ts : List Tm), Asc ts → (∀ t ∈ ts, byte3 (tmE t) ∧ t.1 + t.2.1 + t.2.2.1 ≤ 12) → ∀ r : Int, r ≤ 2197 → (∀ t ∈ ts, r ≤ rank (tmE t)) → (ts.length : Int) ≤ 2197 - r
  | [], _, _, r, hr, _ => by simp; omega
  | t :: l, ha, hm, r, hr, hlo => by
    have hp := List.pairwise_cons.1 ha
    have h1 := rank_bound (hm t (by simp))
    have h2 := hlo t (by simp)
    have ih := len_rank l hp.2 (fun u hu => hm u (by simp [hu])) (rank (tmE t) + 1) (by omega) (fun u hu => by
      have := rank_lt (hm t (by simp)) (hm u (by simp [hu])) (hp.1 u hu)
      omega)
    simp
    omega
theorem asc_len {ts : List Tm} (ha : Asc ts) (hm : ∀ t ∈ ts, byte3 (tmE t) ∧ t.1 + t.2.1 + t.2.2.1 ≤ 12) : ts.length ≤ 2197 := by
  have := len_rank ts ha hm 0 (by omega) (fun t ht => (rank_bound (hm t ht)).1)
  omega

theorem atL_snoc : ∀ {a : List Tm} {u : Tm}, (∀ t ∈ a, tmE t ≠ tmE u) → ∀ e, atL (a ++ [u]) e = if tmE u = e then u.2.2.2 else atL a e
  | [], u, _, e => by simp [atL]
  | t :: r, u, h, e => by
    have ht := h t (by simp)
    rw [List.cons_append, atL, atL_snoc (fun x hx => h x (by simp [hx])), atL]
    by_cases h1 : tmE t = e
    · rw [if_pos h1, if_pos h1, if_neg (fun x => ht (h1.trans x.symm))]
    · rw [if_neg h1, if_neg h1]
theorem asc_before {ts : List Tm} (h : Asc ts) (k : Nat) (hk : k < ts.length) : ∀ t ∈ ts.take k, tmE t ≠ tmE ts[k] := fun t ht => by
  obtain ⟨i, hi, rfl⟩ := List.getElem_of_mem ht
  have hik : i < k := by simp at hi; omega
  rw [List.getElem_take]
  exact before_ne (List.pairwise_iff_getElem.1 h i k (by omega) hk hik)
theorem atL_take {ts : List Tm} (h : Asc ts) (k : Nat) (hk : k < ts.length) (e : Int × Int × Int) : atL (ts.take (k + 1)) e = if tmE ts[k] = e then ts[k].2.2.2 else atL (ts.take k) e := by
  rw [List.take_succ_eq_append_getElem hk]
  exact atL_snoc (asc_before h k hk) e
theorem atL_take_new {ts : List Tm} (h : Asc ts) (k : Nat) (hk : k < ts.length) : atL (ts.take k) (tmE ts[k]) = 0 := atL_none (asc_before h k hk)
theorem Valid.at_bound {p d : Int} {ts : List Tm} (h : Valid p d ts) (e : Int × Int × Int) : 0 ≤ atL ts e ∧ atL ts e < p := by
  have key : ∀ l : List Tm, (∀ t ∈ l, 1 ≤ t.2.2.2 ∧ t.2.2.2 < p) → 0 ≤ atL l e ∧ atL l e < p := fun l => by
    induction l with
    | nil => intro _; have := h.p2; simp [atL]; omega
    | cons t r ih =>
      intro hm
      rw [atL]
      split
      · have := hm t (by simp); omega
      · exact ih fun u hu => hm u (by simp [hu])
  exact key ts fun t ht => (h.mem t ht).2
end Go.Proofs.Ytphgpadpffigjaa
