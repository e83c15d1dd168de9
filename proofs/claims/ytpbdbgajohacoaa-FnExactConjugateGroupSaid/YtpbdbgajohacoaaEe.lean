/-
  LISTS OF ROWS of the call's own. Conditions: as each theorem states.
-/
import Derived.Test.YtpbdbgajohacoaaEd
namespace Go.Proofs.Ytpbdbgajohacoaa
open Go.RowKit Go.Sort EchM

theorem einfoR : (Try.prog.info? 41).map (fun i => (i.zero, i.size, i.bytes)) = some (some (.slice none 0 0), 1, 24) := by kernel_rfl
/-- Two rows of different types lie in different blocks. -/
theorem own_apart {w : World} {base base' : Nat} {e e' : TypeId} {size size' n n' : Nat} {v v' : Value} {xs xs' : List Value} (h : w.ownsRow base e size v n xs) (h' : w.ownsRow base' e' size' v' n' xs') (hne : e ≠ e') : v.ownBlock = none ∨ v.ownBlock ≠ v'.ownBlock := by
  cases hv : v.ownBlock with
  | none => exact .inl rfl
  | some g =>
    refine .inr fun e2 => ?_
    obtain ⟨c, z, hc⟩ := Lib.ownsRow_kind h g hv
    obtain ⟨c', z', hc'⟩ := Lib.ownsRow_kind h' g e2.symm
    rw [hc] at hc'
    simp at hc'
    exact hne hc'.2.1
/-- A list of rows of the call's own. -/
def OwnR (w : World) (base : Nat) (v : Value) (L : List (List Int)) : Prop :=
  ∃ us : List Value, us.length = L.length ∧ w.ownsRow base 41 1 v L.length us ∧ ∀ (k : Nat) (h : k < L.length) (h' : k < us.length), OwnL w base us[k] L[k]
theorem OwnR.below {w w' : World} {base : Nat} {v : Value} {L : List (List Int)} (h : OwnR w base v L) (hb : Below w.heap.size w w') : OwnR w' base v L := by
  obtain ⟨us, h1, h2, h3⟩ := h
  exact ⟨us, h1, eowns_below h2 hb, fun k hk hk' => (h3 k hk hk').below hb⟩
theorem owns_mono {w : World} {base base' : Nat} {e : TypeId} {size n : Nat} {v : Value} {xs : List Value} (h : w.ownsRow base e size v n xs) (hb : base' ≤ base) : w.ownsRow base' e size v n xs := by
  obtain ⟨h1, h2⟩ := h
  refine ⟨h1, ?_⟩
  rcases h2 with h2 | ⟨g, cap, cur, hv, hg, r⟩
  · exact .inl h2
  · exact .inr ⟨g, cap, cur, hv, Nat.le_trans hb hg, r⟩
theorem OwnR.mono {w : World} {base base' : Nat} {v : Value} {L : List (List Int)} (h : OwnR w base v L) (hb : base' ≤ base) : OwnR w base' v L := by
  obtain ⟨us, h1, h2, h3⟩ := h
  exact ⟨us, h1, owns_mono h2 hb, fun k hk hk' => (h3 k hk hk').mono hb⟩
theorem OwnR.cells {w : World} {base : Nat} {v : Value} {L : List (List Int)} (h : OwnR w base v L) (hl : 0 < L.length) : ∃ g cap, v = .slice (some ⟨g, 0, none⟩) L.length cap ∧ base ≤ g ∧ g < w.heap.size ∧ ∀ (k : Nat) (h : k < L.length), ∃ u, w.cell? ⟨g, k, none⟩ = some u ∧ OwnL w base u L[k] := by
  obtain ⟨us, h1, h2, h3⟩ := h
  obtain ⟨g, cap, hv, hb, hlt⟩ := World.ownsRow.form h2 hl
  refine ⟨g, cap, hv, hb, hlt, fun k hk => ⟨us[k]'(by omega), ?_, h3 k hk (by omega)⟩⟩
  have := World.ownsRow.cells h2 (g := g) (by rw [hv]; rfl) k (us[k]'(by omega)) (by simp)
  rwa [show (⟨g, 0, none⟩ : Addr).add k = ⟨g, k, none⟩ by unfold Addr.add; split <;> simp_all] at this
theorem OwnR.slice {w : World} {base : Nat} {v : Value} {L : List (List Int)} (h : OwnR w base v L) : SlR w v L := by
  by_cases hl : 0 < L.length
  · obtain ⟨g, cap, hv, _, hlt, hc⟩ := h.cells hl
    refine ⟨_, _, hv, .inr ⟨g, 0, rfl, hlt, fun k hk => ?_⟩⟩
    obtain ⟨u, h1, h2⟩ := hc k hk
    exact ⟨u, by rw [Nat.zero_add]; exact h1, h2.slice⟩
  · have : L = [] := List.eq_nil_of_length_eq_zero (by omega)
    subst this
    obtain ⟨us, h1, h2, h3⟩ := h
    rcases h2.2 with ⟨hv, _⟩ | ⟨g, cap, cur, hv, _⟩
    · exact ⟨_, _, hv, .inl rfl⟩
    · exact ⟨_, _, hv, .inl rfl⟩
theorem OwnR.shape {w : World} {base : Nat} {v : Value} {L : List (List Int)} (h : OwnR w base v L) : ∃ a cap, v = .slice a L.length cap := by
  obtain ⟨a, cap, hv, _⟩ := h.slice; exact ⟨a, cap, hv⟩
theorem OwnL.shape {w : World} {base : Nat} {v : Value} {l : List Int} (h : OwnL w base v l) : ∃ a cap, v = .slice a l.length cap := h.slice.shape
/-- Behind an append to another list. -/
theorem OwnL.kept {w w' : World} {base base' : Nat} {v v' : Value} {l : List Int} {n : Nat} {us : List Value} (h : OwnL w base v l) (h' : w.ownsRow base' 41 1 v' n us) (hg : w.grownBy w' v'.ownBlock) : OwnL w' base v l :=
  World.ownsRow.kept h hg (own_apart h h' (by decide))
/-- A row put behind a list of rows. -/
theorem OwnR.push {w w' : World} {base : Nat} {v v' u : Value} {L : List (List Int)} {l : List Int} {us : List Value} (h1 : us.length = L.length) (h2 : w.ownsRow base 41 1 v L.length us) (h3 : ∀ (k : Nat) (h : k < L.length) (h' : k < us.length), OwnL w base us[k] L[k])
    (hu : OwnL w base u l) (ho : w'.ownsRow base 41 1 v' (L.length + 1) (us ++ [u])) (hg : w.grownBy w' v.ownBlock) : OwnR w' base v' (L ++ [l]) := by
  refine ⟨us ++ [u], by simp [h1], by simpa using ho, fun k hk hk' => ?_⟩
  by_cases hlt : k < L.length
  · have := (h3 k hlt (by omega)).kept h2 hg
    simpa [List.getElem_append_left, hlt, h1] using this
  · have e : k = L.length := by simp at hk; omega
    subst e
    have := hu.kept h2 hg
    simpa [List.getElem_append_right, h1] using this
theorem OwnR.nil {w : World} {base : Nat} (hb : base ≤ w.heap.size) {t : TypeId} (ht : t = 41) : OwnR (w.alloc (.cells #[] t)) base (.slice (some ⟨w.heap.size, 0, none⟩) 0 0) [] := by
  subst ht
  have := World.ownsRow_made (base := base) (e := 41) (size := 1) w #[] 0 hb (by simp [maxLen]) rfl
  exact ⟨[], rfl, by simpa using this, fun k h => by simp at h⟩
/-- A number of a list of the call's own is written. -/
theorem OwnL.set {w : World} {base g n cap : Nat} {l : List Int} (h : OwnL w base (.slice (some ⟨g, 0, none⟩) n cap) l) (k : Nat) (a : Int) : OwnL (w.setCell ⟨g, k, none⟩ (.int .i64 a)) base (.slice (some ⟨g, 0, none⟩) n cap) (l.set k a) := by
  have hn : n = l.length := by
    obtain ⟨a, c, hv⟩ := h.shape
    simp only [Value.slice.injEq] at hv
    exact hv.2.1
  subst hn
  have := (World.ownsRow.stored h k (.int .i64 a)).1
  simpa [OwnL, valsI, List.map_set] using this

/-- A row that is scaled up to a place. -/
def mixL (p c : Int) (O : List Int) (k : Nat) : List Int := (scaleL p c O).take k ++ O.drop k
theorem mixL_len (p c : Int) (O : List Int) (k : Nat) : (mixL p c O k).length = O.length := by
  simp [mixL, scaleL]; omega
theorem mixL_zero (p c : Int) (O : List Int) : mixL p c O 0 = O := by simp [mixL]
theorem mixL_end (p c : Int) (O : List Int) : mixL p c O O.length = scaleL p c O := by
  simp [mixL, List.take_of_length_le, scaleL]
theorem mixL_at {p c : Int} {O : List Int} {k : Nat} (h : k < O.length) (h' : k < (mixL p c O k).length) : (mixL p c O k)[k] = O[k] := by
  simp only [mixL]
  rw [List.getElem_append_right (by simp [scaleL]; omega)]
  simp [scaleL, Nat.min_eq_left (Nat.le_of_lt h)]
theorem mixL_set {p c : Int} {O : List Int} {k : Nat} (h : k < O.length) : (mixL p c O k).set k (O[k] * c % p) = mixL p c O (k + 1) := by
  refine List.ext_getElem (by simp [mixL_len]) fun j h1 h2 => ?_
  rw [mixL_len] at h2
  rw [List.getElem_set]
  have hs : (scaleL p c O).length = O.length := by simp [scaleL]
  split
  · rename_i e
    subst e
    simp only [mixL]
    rw [List.getElem_append_left (by simp [hs]; omega)]
    simp [scaleL]
  · rename_i hne
    simp only [mixL]
    by_cases hj : j < k
    · rw [List.getElem_append_left (by simp [hs]; omega), List.getElem_append_left (by simp [hs]; omega)]
      simp
    · rw [List.getElem_append_right (by simp [hs]; omega), List.getElem_append_right (by simp [hs]; omega)]
      simp [hs, Nat.min_eq_left (Nat.le_of_lt h), Nat.min_eq_left h]
      congr 1
      omega
theorem insL_len (p : Int) (own : List Int) (c : Nat) : ∀ (b : Bool) (L : List (List Int)), (insL p own c b L).length ≤ L.length + 1
  | true, [] => by simp [insL]
  | false, [] => by simp [insL]
  | true, q :: L => by have := insL_true p own c L; rw [insL, this]; simp
  | false, q :: L => by
    rw [insL]
    split
    · rw [insL_true]; simp
    · have := insL_len p own c false L; simp; omega
theorem stepL_len (p : Int) (L : List (List Int)) (r : List Int) : (stepL p L r).length ≤ L.length + 1 := by
  unfold stepL
  split
  · exact insL_len _ _ _ _ _
  · omega
theorem ech_snoc (p : Int) (R : List (List Int)) (k : Nat) (h : k < R.length) : echL p (R.take (k + 1)) = stepL p (echL p (R.take k)) R[k] := by
  unfold echL
  rw [List.take_succ_eq_append_getElem h, List.foldl_append]
  rfl
theorem ech_len (p : Int) (R : List (List Int)) : (echL p R).length ≤ R.length := by
  have key : ∀ (R L : List (List Int)), (R.foldl (stepL p) L).length ≤ L.length + R.length := by
    intro R
    induction R with
    | nil => intro L; simp
    | cons r R ih => intro L; have := ih (stepL p L r); have := stepL_len p L r; simp; omega
  have := key R []
  simpa [echL] using this
/-- What is still to be put behind what has been put. -/
theorem insL_next {p : Int} {own : List Int} {c : Nat} {L : List (List Int)} {k : Nat} (h : k < L.length) (b : Bool) :
    insL p own c b (L.drop k) = (if b = false ∧ c < leadN L[k] then [own] else []) ++ lessL p (nth L[k] c) L[k] own :: insL p own c (b || decide (c < leadN L[k])) (L.drop (k + 1)) := by
  rw [List.drop_eq_getElem_cons h]
  cases b
  · rw [insL]
    by_cases hc : c < leadN L[k]
    · simp [hc]
    · simp [hc]
  · rw [insL]; simp
end Go.Proofs.Ytpbdbgajohacoaa
