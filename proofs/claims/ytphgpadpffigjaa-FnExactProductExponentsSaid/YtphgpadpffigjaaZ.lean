/-
  Plain mathematics: the order of monomials is strict and total; sorted lists of terms with the same coefficients are one list. Conditions: none.
-/
import Derived.Test.YtphgpadpffigjaaD
namespace Go.Proofs.Ytphgpadpffigjaa

/-- The value of the term with exponents e, 0 if there is none. -/
def atL : List Tm → Int × Int × Int → Int
  | [], _ => 0
  | t :: r, e => if tmE t = e then t.2.2.2 else atL r e
theorem atL_step (ts : List Tm) (e : Int × Int × Int) (k : Nat) (h : k < ts.length) : atL (ts.drop k) e = if tmE ts[k] = e then ts[k].2.2.2 else atL (ts.drop (k + 1)) e := by
  rw [List.drop_eq_getElem_cons h]; rfl

theorem before_irrefl (a : Int × Int × Int) : beforeB a a = false := by unfold beforeB; simp
theorem before_trans {a b c : Int × Int × Int} (h1 : beforeB a b = true) (h2 : beforeB b c = true) : beforeB a c = true := by
  obtain ⟨a0, a1, a2⟩ := a
  obtain ⟨b0, b1, b2⟩ := b
  obtain ⟨c0, c1, c2⟩ := c
  unfold beforeB at *
  dsimp only at *
  repeat' split at h1
  all_goals repeat' split at h2
  all_goals repeat' split
  all_goals simp only [decide_eq_true_eq] at *
  all_goals omega
theorem before_total (a b : Int × Int × Int) : beforeB a b = true ∨ a = b ∨ beforeB b a = true := by
  obtain ⟨a0, a1, a2⟩ := a
  obtain ⟨b0, b1, b2⟩ := b
  unfold beforeB
  dsimp only
  repeat' split
  all_goals simp only [decide_eq_true_eq, Prod.mk.injEq]
  all_goals omega

/-- Strictly ascending terms. -/
def Asc (ts : List Tm) : Prop := ts.Pairwise fun a b => beforeB (tmE a) (tmE b) = true
theorem atL_none {ts : List Tm} {e : Int × Int × Int} (h : ∀ t ∈ ts, tmE t ≠ e) : atL ts e = 0 := by
  induction ts with
  | nil => rfl
  | cons t r ih =>
    rw [atL, if_neg (h t (by simp))]
    exact ih fun u hu => h u (by simp [hu])
theorem before_ne {a b : Int × Int × Int} (h : beforeB a b = true) : a ≠ b := fun e => by
  subst e; rw [before_irrefl] at h; exact absurd h (by simp)

theorem asc_unique : ∀ (ts us : List Tm), Asc ts → Asc us → (∀ t ∈ ts, t.2.2.2 ≠ 0) → (∀ t ∈ us, t.2.2.2 ≠ 0) → (∀ e, atL ts e = atL us e) → ts = us
  | [], [], _, _, _, _, _ => rfl
  | [], u :: s, _, _, _, hu, h => by
    have := h (tmE u)
    rw [atL, atL, if_pos rfl] at this
    exact absurd this.symm (hu u (by simp))
  | t :: r, [], _, _, ht, _, h => by
    have := h (tmE t)
    rw [atL, atL, if_pos rfl] at this
    exact absurd this (ht t (by simp))
  | t :: r, u :: s, at', au, ht, hu, h => by
    have hr := List.pairwise_cons.1 at'
    have hs := List.pairwise_cons.1 au
    rcases before_total (tmE t) (tmE u) with hlt | he | hlt
    · exfalso
      have h0 : atL (u :: s) (tmE t) = 0 := atL_none fun x hx => by
        rcases List.mem_cons.1 hx with rfl | hx
        · exact (before_ne hlt).symm
        · exact (before_ne (before_trans hlt (hs.1 x hx))).symm
      have := h (tmE t)
      rw [h0, atL, if_pos rfl] at this
      exact ht t (by simp) this
    · have hv := h (tmE t)
      rw [atL, if_pos rfl, atL, if_pos he.symm] at hv
      have htu : t = u := by
        obtain ⟨a, b, c, v⟩ := t
        obtain ⟨a', b', c', v'⟩ := u
        simp [tmE] at he hv
        simp [he, hv]
      subst htu
      congr 1
      refine asc_unique r s hr.2 hs.2 (fun x hx => ht x (by simp [hx])) (fun x hx => hu x (by simp [hx])) fun e => ?_
      by_cases hte : tmE t = e
      · rw [atL_none (fun x hx => by rw [← hte]; exact (before_ne (hr.1 x hx)).symm), atL_none (fun x hx => by rw [← hte]; exact (before_ne (hs.1 x hx)).symm)]
      · have := h e
        rw [atL, if_neg hte, atL, if_neg hte] at this
        exact this
    · exfalso
      have h0 : atL (t :: r) (tmE u) = 0 := atL_none fun x hx => by
        rcases List.mem_cons.1 hx with rfl | hx
        · exact (before_ne hlt).symm
        · exact (before_ne (before_trans hlt (hr.1 x hx))).symm
      have := h (tmE u)
      rw [h0, atL, if_pos rfl] at this
      exact hu u (by simp) this.symm

end Go.Proofs.Ytphgpadpffigjaa
