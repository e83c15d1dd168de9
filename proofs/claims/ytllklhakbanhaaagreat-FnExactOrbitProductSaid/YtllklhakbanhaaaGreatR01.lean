/-
  POWERS OF AN ORBIT: own lists of polynomials into which polynomials are stored; plain mathematics. Conditions: as each theorem states.
-/
import Derived.Test.YtllklhakbanhaaaGreatQ52
import Derived.Test.YtllklhakbanhaaaGreatQ48
import Derived.Test.YtllklhakbanhaaaGreatQ10
namespace Go.Proofs.YtllklhakbanhaaaGreat
open Go.RowKit Go.Sort Go.Maps EchM

theorem cellsQ_set (p : Int) (n : Nat) : ∀ (us : List Value) (k : Nat) (u : Value), k < us.length → (((cellsQ p n us).set (k * 3) (.int .i64 p)).set (k * 3 + 1) (.int .i64 (n : Int))).set (k * 3 + 2) u = cellsQ p n (us.set k u)
  | [], k, u, h => by simp at h
  | x :: r, 0, u, _ => rfl
  | x :: r, k + 1, u, h => by
    have := cellsQ_set p n r k u (by simpa using h)
    rw [show (k + 1) * 3 = k * 3 + 3 by omega]
    exact congrArg (fun l => Value.int .i64 p :: Value.int .i64 (n : Int) :: x :: l) this
theorem three_set (w : World) (b i0 i1 i2 : Nat) (v0 v1 v2 : Value) : w.grownBy (((w.setCell ⟨b, i0, none⟩ v0).setCell ⟨b, i1, none⟩ v1).setCell ⟨b, i2, none⟩ v2) (some b) :=
  gSame (gSame (gSame (World.grownBy.refl w _) _ _) _ _) _ _
/-- A polynomial stored into a list of the call's own. -/
theorem PRk.put {w : World} {base b l cap : Nat} {p : Int} {n : Nat} {us : List Value} {Ls : List (List Tm)} (h : PRk w base p n (.slice (some ⟨b, 0, none⟩) l cap) us Ls) {k : Nat} (hk : k < Ls.length) {u : Value} {X : List Tm} (ho : OwnP w 0 u X) :
    PRk (((w.setCell ⟨b, k * 3, none⟩ (.int .i64 p)).setCell ⟨b, k * 3 + 1, none⟩ (.int .i64 (n : Int))).setCell ⟨b, k * 3 + 2, none⟩ u) base p n (.slice (some ⟨b, 0, none⟩) l cap) (us.set k u) (Ls.set k X) := by
  have hl := h.len
  obtain ⟨a, c, hv⟩ := h.shape
  injection hv with _ hl2 _
  subst hl2
  have hg := three_set w b (k * 3) (k * 3 + 1) (k * 3 + 2) (.int .i64 p) (.int .i64 (n : Int)) u
  have h1 := (h.rows.stored (k * 3) (.int .i64 p)).1
  have h2 := (h1.stored (k * 3 + 1) (.int .i64 (n : Int))).1
  have h3 := (h2.stored (k * 3 + 2) u).1
  rw [cellsQ_set p n us k u (by omega)] at h3
  refine ⟨by simp [hl], by rw [List.length_set]; exact h3, fun i hi hi' => ?_⟩
  simp at hi hi'
  by_cases e : k = i
  · subst e
    rw [List.getElem_set_self, List.getElem_set_self]
    exact ho.kept hg (own_own ho h.rows (by decide))
  · rw [List.getElem_set_ne e, List.getElem_set_ne e]
    exact (h.own i hi hi').kept hg (own_own (h.own i hi hi') h.rows (by decide))
theorem PRk.froz {w : World} {base b l cap : Nat} {p : Int} {n : Nat} {us : List Value} {Ls : List (List Tm)} (h : PRk w base p n (.slice (some ⟨b, 0, none⟩) l cap) us Ls) (i : Nat) : w.frozen? ⟨b, i, none⟩ = false := by
  obtain ⟨a, c, hv⟩ := h.shape
  injection hv with _ hl2 _
  subst hl2
  exact h.rows.frozenAt i
theorem PMk.plain {w : World} {base hi : Nat} {p : Int} {n : Nat} {v : Value} {us : List Value} {Ls : List (List Tm)} (h : PMk w base hi p n v us Ls) : PRk w base p n v us Ls :=
  ⟨h.len, h.rows, fun i hi hi' => owns_low (h.own i hi hi') (Nat.zero_le _)⟩
/-- The polynomial k of a list of the call's own: its cells, its terms. -/
theorem PRk.nthO {w : World} {base b l c : Nat} {p : Int} {n : Nat} {us : List Value} {Ls : List (List Tm)} (h : PRk w base p n (.slice (some ⟨b, 0, none⟩) l c) us Ls) {k : Nat} (hk : k < Ls.length) :
    ∃ u, w.cell? ⟨b, k * 3, none⟩ = some (.int .i64 p) ∧ w.cell? ⟨b, k * 3 + 1, none⟩ = some (.int .i64 (n : Int)) ∧ w.cell? ⟨b, k * 3 + 2, none⟩ = some u ∧ OwnP w 0 u Ls[k] := by
  have hl := h.len
  obtain ⟨a, c', hv⟩ := h.shape
  injection hv with _ hl2 _
  subst hl2
  have hk' : k < us.length := by omega
  have key : ∀ j, j < 3 → ∀ u, ([Value.int .i64 p, .int .i64 (n : Int), us[k]] : List Value)[j]? = some u → w.cell? ⟨b, k * 3 + j, none⟩ = some u := fun j hj u hu => by
    rw [h.rows.cellAt (k * 3 + j) (by omega)]
    exact (cellsQ_get p n us k j hk' hj).trans hu
  exact ⟨us[k], key 0 (by omega) _ rfl, key 1 (by omega) _ rfl, key 2 (by omega) _ rfl, h.own k hk' hk⟩
theorem PRk.at {w : World} {base : Nat} {p : Int} {n : Nat} {v : Value} {us : List Value} {Ls : List (List Tm)} (h : PRk w base p n v us Ls) (h0 : 1 ≤ Ls.length) : ∃ b c, v = .slice (some ⟨b, 0, none⟩) Ls.length c ∧ base ≤ b ∧ b < w.heap.size := by
  obtain ⟨_, ⟨_, h1⟩ | ⟨b, cap, cur, rfl, hb, hg, _⟩⟩ := id h.rows
  · omega
  · exact ⟨b, cap, rfl, hb, (Array.getElem?_eq_some_iff.1 hg).1⟩

/-- A list, the first i members of which have been changed. -/
def pwL {α : Type} (f : α → α) (O : List α) (i : Nat) : List α := (O.take i).map f ++ O.drop i
theorem pwL_len {α : Type} (f : α → α) (O : List α) (i : Nat) : (pwL f O i).length = O.length := by
  unfold pwL
  rw [List.length_append, List.length_map, List.length_take, List.length_drop]
  omega
theorem pwL_zero {α : Type} (f : α → α) (O : List α) : pwL f O 0 = O := by simp [pwL]
theorem pwL_all {α : Type} (f : α → α) (O : List α) : pwL f O O.length = O.map f := by simp [pwL]
theorem pwL_at {α : Type} (f : α → α) (O : List α) (i : Nat) (h : i < O.length) : (pwL f O i)[i]'(by rw [pwL_len]; exact h) = O[i] := by
  unfold pwL
  rw [List.getElem_append_right (by simp; omega)]
  simp [List.length_take, Nat.min_eq_left (Nat.le_of_lt h)]
theorem pwL_set {α : Type} (f : α → α) : ∀ (O : List α) (i : Nat) (h : i < O.length), (pwL f O i).set i (f O[i]) = pwL f O (i + 1)
  | x :: r, 0, _ => by simp [pwL]
  | x :: r, i + 1, h => by
    have := pwL_set f r i (by simpa using h)
    simpa [pwL] using this
theorem pwL_same {α : Type} (f : α → α) (O : List α) (i : Nat) (h : i < O.length) : (pwL f O i).set i O[i] = pwL f O i := by
  rw [← pwL_at f O i h, List.set_getElem_self]

/-- The power j of a polynomial. -/
noncomputable def powT (p : Int) (j : Nat) (X : List Tm) : List Tm := Classical.epsilon (PowL p X j)
theorem powT_is {p d K : Int} {X : List Tm} (hV : Valid p d X) (hk : K * max (degI X) 0 ≤ 12) {j : Nat} (hj : (j : Int) ≤ K) : PowL p X j (powT p j X) := Classical.epsilon_spec (pow_ex hV hk j hj)
theorem powT_eq {p d K : Int} {X L : List Tm} (hV : Valid p d X) (hk : K * max (degI X) 0 ≤ 12) {j : Nat} (hj : (j : Int) ≤ K) (h : PowL p X j L) : L = powT p j X := h.unique (powT_is hV hk hj)
theorem powT_valid {p d K : Int} {X : List Tm} (hV : Valid p d X) (hk : K * max (degI X) 0 ≤ 12) {j : Nat} (hj : (j : Int) ≤ K) : Valid p d (powT p j X) := by
  obtain ⟨f, hf⟩ := (powT_is hV hk hj).isP
  exact hV.of_isP hf
theorem rowS_unit (e : Int × Int × Int) : ∀ {X : List Tm}, Asc X → rowS (0, 0, 0, 1) X e = atL X e
  | [], _ => rfl
  | t :: r, h => by
    have h1 : addE (tmE (0, 0, 0, 1)) (tmE t) = tmE t := by simp [addE, tmE]
    rw [rowS, atL_cons h, rowS_unit e (List.pairwise_cons.1 h).2, h1]
    simp
theorem pow_one {p d : Int} {X : List Tm} (hV : Valid p d X) : PowL p X 1 X := by
  have hp2 := hV.p2
  refine ⟨[(0, 0, 0, 1)], ⟨List.pairwise_singleton _ _, fun t ht => ?_, fun e he => ?_⟩, hV.isP.congr fun e he => ?_⟩
  · simp at ht
    subst ht
    exact ⟨⟨by unfold byte3 tmE; simp, by simp [tmE]⟩, Int.le_refl _, by show (1 : Int) < p; omega⟩
  · by_cases h : e = (0, 0, 0)
    · subst h; rfl
    · show atL [(0, 0, 0, 1)] e = if e = (0, 0, 0) then 1 else 0
      rw [if_neg h, atL, if_neg (fun h' => h h'.symm)]; rfl
  · obtain ⟨h0, h1⟩ := hV.isP.bound (by omega) he
    rw [mulF, mulS, mulS, Int.add_zero, rowS_unit e hV.asc, Int.emod_eq_of_lt h0 h1]

/-- What a matrix makes of a polynomial has no greater degree. -/
theorem Led.deg {p : Int} {n : Nat} {g : Nat → Nat → Int} {xs L : List Tm} (hM : MatP p n g) (hX : Valid p n xs) (hL : Led p n g xs L) : ∀ t ∈ L, t.1 + t.2.1 + t.2.2.1 ≤ degI xs := by
  intro t ht
  obtain ⟨P, hP, hI⟩ := hL
  have h1 := hI.2.2 (tmE t) (hI.2.1 t ht).1.1
  rw [atL_mem hI.1 ht] at h1
  have h2 := (hI.2.1 t ht).2.1
  have h3 : sumF P xs (tmE t) ≠ 0 := fun h0 => by
    rw [subF, h0] at h1
    simp at h1
    omega
  obtain ⟨s, hs, h4⟩ := sumF_ne h3
  obtain ⟨u, hu, hx⟩ := atL_ne_mem h4
  have h5 := PrR.deg (fs := facL (formsL g n) (tmE s)) (fac_valid hX hM.valid _ _ _) (hP s hs) u hu
  rw [sumD_facL _ (hX.mem s hs).1.1] at h5
  have h7 := deg_le hX s hs
  have hd : ∀ i, dgN (formsL g n) i ≤ 1 := fun i => by
    unfold dgN
    by_cases hi : i < n
    · rw [formsL_nth g n i hi]
      have := formL_deg (hM.form hi)
      omega
    · rw [nthL_ge (by rw [formsL_len]; omega)]
      exact Int.le_of_lt (by decide)
  obtain ⟨⟨⟨a1, _⟩, ⟨a2, _⟩, a3, _⟩, _⟩ := (hX.mem s hs).1
  unfold bndE at h5
  have m0 := Int.mul_le_mul_of_nonneg_left (hd 0) a1
  have m1 := Int.mul_le_mul_of_nonneg_left (hd 1) a2
  have m2 := Int.mul_le_mul_of_nonneg_left (hd 2) a3
  have hx2 : u.1 = t.1 ∧ u.2.1 = t.2.1 ∧ u.2.2.1 = t.2.2.1 := by simpa [tmE] using hx
  obtain ⟨x1, x2, x3⟩ := hx2
  simp only [tmE] at *
  omega
theorem GrpP.orbD {p : Int} {m : Nat} {L : List (Nat → Nat → Int)} {xs : List Tm} (h : GrpP p m L xs) {K : Int} (hK : 0 ≤ K) (hk : K * max (degI xs) 0 ≤ 12) : ∀ X ∈ orbL (allL p m L xs), K * max (degI X) 0 ≤ 12 := fun X hX => by
  obtain ⟨x, hx, rfl⟩ := List.mem_map.1 (orbL_mem hX)
  have hd := Led.deg (h.mat x hx) h.valid (h.led hx)
  have h1 : max (degI (ledF p m xs x)) 0 ≤ max (degI xs) 0 := by
    have h2 : degI (ledF p m xs x) ≤ max (degI xs) 0 := by
      unfold degI
      cases hl : (ledF p m xs x).getLast? with
      | none => exact Int.le_trans (by decide) (Int.le_max_right _ _)
      | some u => exact Int.le_trans (hd u (List.mem_of_getLast? hl)) (Int.le_max_left _ _)
    omega
  exact Int.le_trans (Int.mul_le_mul_of_nonneg_left h1 hK) hk
theorem deg_k2 {p d k : Int} {ts : List Tm} (hV : Valid p d ts) (h0 : 1 ≤ k) : 12 < k * degI ts ↔ 12 < k * max (degI ts) 0 := by
  obtain ⟨q1, q2⟩ := deg_bound hV
  by_cases hq : degI ts = -1
  · have h1 : max (degI ts) 0 = 0 := by rw [hq]; rfl
    rw [h1, hq, Int.mul_zero]
    omega
  · have h1 : max (degI ts) 0 = degI ts := Int.max_eq_left (by omega)
    rw [h1]
theorem deg_w {p d k : Int} {ts : List Tm} (hV : Valid p d ts) (h0 : 1 ≤ k) (h1 : k ≤ 12) : wrap64 (k * degI ts) = k * degI ts ∧ wrap64 (k * max (degI ts) 0) = k * max (degI ts) 0 := by
  obtain ⟨q1, q2⟩ := deg_bound hV
  obtain ⟨m1, m2⟩ := max_deg hV
  have a1 : k * degI ts ≤ k * 12 := Int.mul_le_mul_of_nonneg_left q2 (by omega)
  have a2 : k * (-1) ≤ k * degI ts := Int.mul_le_mul_of_nonneg_left q1 (by omega)
  have b1 : k * max (degI ts) 0 ≤ k * 12 := Int.mul_le_mul_of_nonneg_left m2 (by omega)
  have b2 : 0 ≤ k * max (degI ts) 0 := Int.mul_nonneg (by omega) m1
  exact ⟨IntWalk.wrap64_in _ (by omega), IntWalk.wrap64_in _ (by omega)⟩

/-- What the power sum is. -/
noncomputable def psC (p n : Int) (L : List (Nat → Nat → Int)) (q d : Int) (xs : List Tm) (k : Int) : Int :=
  if actC p n L q d xs = 0 then (if 1 ≤ k ∧ k ≤ 12 then (if k * max (degI xs) 0 ≤ 12 then 0 else 3) else 2) else actC p n L q d xs
def psR (p : Int) (L : List (Nat → Nat → Int)) (xs : List Tm) (k : Int) (m : Nat) (S : List Tm) : Prop := IsP p S (sumK p 1 ((orbL (allL p m L xs)).map (powT p k.toNat)))
abbrev PsO (p n : Int) (L : List (Nat → Nat → Int)) (q d : Int) (xs : List Tm) (k : Int) (o : OutP) : Prop := GpO p n (psC p n L q d xs k) (psR p L xs k) o
theorem psO_len {p n : Int} {L : List (Nat → Nat → Int)} {q d : Int} {xs : List Tm} {k : Int} {o : OutP} (h : PsO p n L q d xs k o) : o.S.length ≤ 1048576 :=
  gpO_len (fun _ _ hS => Nat.le_trans (IsP.len hS) (by omega)) h
theorem psC_zero {p n : Int} {L : List (Nat → Nat → Int)} {q d : Int} {xs : List Tm} {k : Int} (h : psC p n L q d xs k = 0) : actC p n L q d xs = 0 ∧ (1 ≤ k ∧ k ≤ 12) ∧ k * max (degI xs) 0 ≤ 12 := by
  unfold psC at h
  by_cases hc : actC p n L q d xs = 0
  · rw [if_pos hc] at h
    by_cases hk : 1 ≤ k ∧ k ≤ 12
    · rw [if_pos hk] at h
      by_cases hd : k * max (degI xs) 0 ≤ 12
      · exact ⟨hc, hk, hd⟩
      · rw [if_neg hd] at h; omega
    · rw [if_neg hk] at h; omega
  · rw [if_neg hc] at h; exact absurd h hc
theorem GrpP.powV {p : Int} {m : Nat} {L : List (Nat → Nat → Int)} {xs : List Tm} (h : GrpP p m L xs) {k : Int} (hk : 1 ≤ k) (hd : k * max (degI xs) 0 ≤ 12) : ∀ X ∈ (orbL (allL p m L xs)).map (powT p k.toNat), Valid p m X := fun X hX => by
  obtain ⟨Y, hY, rfl⟩ := List.mem_map.1 hX
  exact powT_valid (h.allV Y (orbL_mem hY)) (h.orbD (by omega) hd Y hY) (by omega)
theorem psO_ex {p n : Int} {L : List (Nat → Nat → Int)} {q d : Int} {xs : List Tm} {k : Int} (hby : ∀ x ∈ L, Byt x) (hxb : ∀ t ∈ xs, tmByte t) : ∃ o, PsO p n L q d xs k o := by
  by_cases hc : psC p n L q d xs k = 0
  · obtain ⟨hc', hk, hd⟩ := psC_zero hc
    obtain ⟨m, rfl, rfl, rfl, hG⟩ := grpP_of hby hxb hc'
    obtain ⟨S, hS⟩ := sum_ex (k := 1) hG.p2 _ ((orbL (allL q m L xs)).map (powT q k.toNat)) rfl (hG.powV hk.1 hd)
    exact ⟨_, .inr ⟨hc, m, S, rfl, hS, rfl⟩⟩
  · exact ⟨_, .inl ⟨hc, rfl⟩⟩
theorem psO_cases {p n : Int} {L : List (Nat → Nat → Int)} {q d : Int} {xs : List Tm} {k : Int} {o : OutP} (h : PsO p n L q d xs k o) :
    (actC p n L q d xs ≠ 0 ∧ o = noP (actC p n L q d xs)) ∨ (actC p n L q d xs = 0 ∧ ¬ (1 ≤ k ∧ k ≤ 12) ∧ o = noP 2) ∨ (actC p n L q d xs = 0 ∧ (1 ≤ k ∧ k ≤ 12) ∧ 12 < k * max (degI xs) 0 ∧ o = noP 3) ∨
      (actC p n L q d xs = 0 ∧ (1 ≤ k ∧ k ≤ 12) ∧ k * max (degI xs) 0 ≤ 12 ∧ ∃ (m : Nat) (S : List Tm), n = (m : Int) ∧ psR p L xs k m S ∧ o = ⟨p, n, S, 0⟩) := by
  rcases h with ⟨hc, rfl⟩ | ⟨hc, h⟩
  · by_cases ha : actC p n L q d xs = 0
    · by_cases hk : 1 ≤ k ∧ k ≤ 12
      · by_cases hd : k * max (degI xs) 0 ≤ 12
        · exact absurd (by unfold psC; rw [if_pos ha, if_pos hk, if_pos hd]) hc
        · exact .inr (.inr (.inl ⟨ha, hk, by omega, by unfold psC; rw [if_pos ha, if_pos hk, if_neg hd]⟩))
      · exact .inr (.inl ⟨ha, hk, by unfold psC; rw [if_pos ha, if_neg hk]⟩)
    · exact .inl ⟨ha, by unfold psC; rw [if_neg ha]⟩
  · obtain ⟨ha, hk, hd⟩ := psC_zero hc
    exact .inr (.inr (.inr ⟨ha, hk, hd, h⟩))

/-- What stands in memory while a member of the list is being raised: the list, the box of the member as it was. -/
structure PwJ (w wi : World) (b l cap xb : Nat) (p : Int) (m : Nat) (us : List Value) (Ls : List (List Tm)) (u : Value) (X : List Tm) : Prop where
  lst : PRk wi w.heap.size p m (.slice (some ⟨b, 0, none⟩) l cap) us Ls
  box : wi.rowIs xb 39 3 (polyF p (m : Int) u)
  own : OwnP wi 0 u X
  bel : Below w.heap.size w wi
theorem setB {w wr : World} {b i0 i1 i2 : Nat} (h : Below w.heap.size w wr) (hB : w.heap.size ≤ b) (u0 u1 u2 : Value) :
    Below w.heap.size w (((wr.setCell ⟨b, i0, none⟩ u0).setCell ⟨b, i1, none⟩ u1).setCell ⟨b, i2, none⟩ u2) :=
  ((h.setCell (by simpa using hB) _).setCell (by simpa using hB) _).setCell (by simpa using hB) _
theorem PwJ.put {w wi w2 : World} {b l cap xb : Nat} {p : Int} {m : Nat} {us : List Value} {Ls : List (List Tm)} {u u2 : Value} {X Y : List Tm} (h : PwJ w wi b l cap xb p m us Ls u X) (hb : Below wi.heap.size wi w2) (ho : OwnP w2 0 u2 Y) (hwb : w.heap.size ≤ b) (hne : xb ≠ b) {k : Nat} (hk : k < Ls.length) :
    PwJ w (((w2.setCell ⟨b, k * 3, none⟩ (.int .i64 p)).setCell ⟨b, k * 3 + 1, none⟩ (.int .i64 (m : Int))).setCell ⟨b, k * 3 + 2, none⟩ u2) b l cap xb p m (us.set k u2) (Ls.set k Y) u X :=
  ⟨(h.lst.below hb).put hk ho, (((rowIs_below h.box hb h.box.lt).setOther (by simpa using hne) _).setOther (by simpa using hne) _).setOther (by simpa using hne) _,
    (owns_belowT h.own hb).kept (three_set w2 b _ _ _ _ _ _) (own_own (owns_belowT h.own hb) (h.lst.below hb).rows (by decide)), setB (h.bel.trans (hb.mono h.bel.size)) hwb _ _ _⟩
end Go.Proofs.YtllklhakbanhaaaGreat
