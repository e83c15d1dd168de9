/-
  WHAT A MAP OF COEFFICIENTS HOLDS, in plain mathematics; what is gathered from it in any order, and sorted. Conditions: as each theorem states.
-/
import Derived.Test.YtphgpadpffigjaaKey
import Derived.Test.YtphgpadpffigjaaPu
namespace Go.Proofs.Ytphgpadpffigjaa
open Go.RowKit Go.Sort Go.Maps

/-- The coefficient that a map of coefficients holds at a monomial. -/
def cf (D : DataW Unit) (e : Int × Int × Int) : Int := match D.atKey (kE e) (.lit (.int .i64 0)) with | .lit (.int .i64 c) => c | _ => 0
abbrev MapE (w : World) (b n : Nat) (D : DataW Unit) : Prop := w.ownsMap Try.prog 75 (plainElem Try.prog 2) b n D
theorem cf_of_at {D : DataW Unit} {e : Int × Int × Int} {c : Int} (h : D.atKey (kE e) (.lit (.int .i64 0)) = .lit (.int .i64 c)) : cf D e = c := by
  unfold cf; rw [h]
theorem cf_empty (e : Int × Int × Int) : cf (.map []) e = 0 := by
  unfold cf; rw [atKey_of_not_has (by simp [Maps.has])]
theorem kE_ne {a b : Int × Int × Int} (ha : byte3 a) (hb : byte3 b) (h : a ≠ b) : kE a ≠ kE b := fun e => h (kE_inj ha hb e)
theorem cf_put {D : DataW Unit} (hD : IsMap D) {a b : Int × Int × Int} (ha : byte3 a) (hb : byte3 b) (v : Int) : cf (D.put (kE a) (.lit (.int .i64 v))) b = if b = a then v else cf D b := by
  by_cases h : b = a
  · rw [if_pos h, h]; exact cf_of_at (atKey_put_same hD (kE_key a) _ _)
  · rw [if_neg h]; unfold cf; rw [atKey_put_other (kE_ne hb ha h)]
theorem MapE.isMap {w : World} {b n : Nat} {D : DataW Unit} (h : MapE w b n D) : IsMap D := by
  obtain ⟨es, hD, _⟩ := h.entries lawK
  exact ⟨es, hD⟩
theorem MapE.size_le {w : World} {b n : Nat} {D : DataW Unit} (h : MapE w b n D) : Maps.size D ≤ n := by
  obtain ⟨es, clock, hb, F, hs, rfl⟩ := h
  show (List.foldr DataW.insert [] _).length ≤ n
  rw [length_sorted]
  simpa using hs

/-- What has been gathered: the terms of those entries that are no longer to come and not 0. -/
def Got (D : DataW Unit) (left : Lit → Bool) (O : List Tm) : Prop :=
  (∀ t ∈ O, byte3 (tmE t) ∧ t.2.2.2 = cf D (tmE t) ∧ t.2.2.2 ≠ 0 ∧ left (kE (tmE t)) = false) ∧ (O.Pairwise fun a b => tmE a ≠ tmE b) ∧ (∀ e, byte3 e → cf D e ≠ 0 → left (kE e) = false → mkT e (cf D e) ∈ O)
theorem Got.start (D : DataW Unit) : Got D (Maps.has D) [] :=
  ⟨fun t h => by simp at h, List.Pairwise.nil, fun e he hc hl => by
    unfold cf at hc
    rw [atKey_of_not_has hl] at hc
    exact absurd rfl hc⟩
theorem same_self (e : Int × Int × Int) : (kE e).sameKey (kE e) = true := by simp [kE, Lit.sameKey]
theorem Got.skip {D : DataW Unit} {left : Lit → Bool} {O : List Tm} (h : Got D left O) {e : Int × Int × Int} (he : byte3 e) (hc : cf D e = 0) : Got D (fun z => left z && !z.sameKey (kE e)) O := by
  refine ⟨fun t ht => ?_, h.2.1, fun e' he' hc' hl => ?_⟩
  · obtain ⟨a, b, c, d⟩ := h.1 t ht
    exact ⟨a, b, c, by simp [d]⟩
  · simp only [Bool.and_eq_false_iff, Bool.not_eq_false'] at hl
    rcases hl with hl | hl
    · exact h.2.2 e' he' hc' hl
    · exact absurd (kE_inj he' he (WideAt.sameKey_eq hl) ▸ hc) hc'
theorem Got.take {D : DataW Unit} {left : Lit → Bool} {O : List Tm} (h : Got D left O) {e : Int × Int × Int} (he : byte3 e) (hl0 : left (kE e) = true) (hc : cf D e ≠ 0) : Got D (fun z => left z && !z.sameKey (kE e)) (O ++ [mkT e (cf D e)]) := by
  refine ⟨fun t ht => ?_, ?_, fun e' he' hc' hl => ?_⟩
  · rcases List.mem_append.1 ht with ht | ht
    · obtain ⟨a, b, c, d⟩ := h.1 t ht
      exact ⟨a, b, c, by simp [d]⟩
    · simp at ht
      subst ht
      exact ⟨he, rfl, hc, by simp [tmE_mkT, same_self]⟩
  · refine List.pairwise_append.2 ⟨h.2.1, List.pairwise_singleton _ _, fun a ha b hb => ?_⟩
    simp at hb
    subst hb
    intro hx
    have := (h.1 a ha).2.2.2
    rw [hx, tmE_mkT, hl0] at this
    exact absurd this (by simp)
  · simp only [Bool.and_eq_false_iff, Bool.not_eq_false'] at hl
    rcases hl with hl | hl
    · exact List.mem_append.2 (.inl (h.2.2 e' he' hc' hl))
    · have := kE_inj he' he (WideAt.sameKey_eq hl)
      subst this
      simp
theorem atL_mem : ∀ {S : List Tm}, Asc S → ∀ {t : Tm}, t ∈ S → atL S (tmE t) = t.2.2.2
  | u :: r, h, t, ht => by
    have hr := List.pairwise_cons.1 h
    rcases List.mem_cons.1 ht with rfl | ht
    · rw [atL, if_pos rfl]
    · rw [atL, if_neg (before_ne (hr.1 t ht))]
      exact atL_mem hr.2 ht

/-- The terms of a map of coefficients, in order. -/
def Good (D : DataW Unit) (S : List Tm) : Prop :=
  Asc S ∧ (∀ t ∈ S, byte3 (tmE t) ∧ t.2.2.2 = cf D (tmE t) ∧ t.2.2.2 ≠ 0) ∧ (∀ e, byte3 e → atL S e = cf D e)
theorem Got.good {D : DataW Unit} {left : Lit → Bool} {O S : List Tm} (h : Got D left O) (hl : ∀ k, left k = false) (hp : S.Perm O) (ha : Asc S) : Good D S := by
  have hm : ∀ t ∈ S, byte3 (tmE t) ∧ t.2.2.2 = cf D (tmE t) ∧ t.2.2.2 ≠ 0 := fun t ht => by
    obtain ⟨a, b, c, _⟩ := h.1 t (hp.mem_iff.1 ht)
    exact ⟨a, b, c⟩
  refine ⟨ha, hm, fun e he => ?_⟩
  by_cases hc : cf D e = 0
  · rw [hc]
    refine atL_none fun t ht hx => ?_
    obtain ⟨_, b, c⟩ := hm t ht
    rw [hx, hc] at b
    exact c b
  · have := hp.mem_iff.2 (h.2.2 e he hc (hl _))
    have h2 := atL_mem ha this
    rw [tmE_mkT] at h2
    exact h2
/-- They are those of any ascending list with the same coefficients. -/
theorem Good.unique {D : DataW Unit} {S L : List Tm} (h : Good D S) (ha : Asc L) (hm : ∀ t ∈ L, byte3 (tmE t) ∧ t.2.2.2 ≠ 0) (hc : ∀ e, byte3 e → atL L e = cf D e) : S = L := by
  refine asc_unique S L h.1 ha (fun t ht => (h.2.1 t ht).2.2) (fun t ht => (hm t ht).2) fun e => ?_
  by_cases he : byte3 e
  · rw [h.2.2 e he, hc e he]
  · rw [atL_none (ts := S) (fun t ht hx => he (by rw [← hx]; exact (h.2.1 t ht).1)), atL_none (ts := L) (fun t ht hx => he (by rw [← hx]; exact (hm t ht).1))]
end Go.Proofs.Ytphgpadpffigjaa
