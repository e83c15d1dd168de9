/-
  SYMMETRIC FUNCTIONS of a list of polynomials, in plain mathematics: as both sides reckon them, one polynomial after the other. Conditions: as each theorem states.
  ROWS OF POLYNOMIALS into which polynomials are stored, by the index; symmetric functions on the way. Conditions: as each theorem states.
-/
import Derived.Test.YtllklhakbanhaaaGreatR01
namespace Go.Proofs.YtllklhakbanhaaaGreat
open Go.RowKit Go.Sort Go.Maps EchM

/-- The symmetric function j of a list (its last polynomial first). -/
noncomputable def symE (p : Int) : List (List Tm) → Nat → List Tm
  | _, 0 => [(0, 0, 0, 1)]
  | [], _ + 1 => []
  | X :: r, j + 1 => Classical.epsilon fun L => ∃ M, IsP p M (mulF p (symE p r j) X) ∧ IsP p L (sumK p 1 [symE p r (j + 1), M])
theorem unit_isP {p : Int} (hp : 2 ≤ p) : IsP p [(0, 0, 0, 1)] (fun e => if e = (0, 0, 0) then 1 else 0) := by
  refine ⟨List.pairwise_singleton _ _, fun t ht => ?_, fun e he => ?_⟩
  · simp at ht
    subst ht
    exact ⟨⟨by unfold byte3 tmE; simp, by simp [tmE]⟩, Int.le_refl _, by show (1 : Int) < p; omega⟩
  · by_cases h : e = (0, 0, 0)
    · subst h; rfl
    · show atL [(0, 0, 0, 1)] e = if e = (0, 0, 0) then 1 else 0
      rw [if_neg h, atL, if_neg (fun h' => h h'.symm)]; rfl
def degB (L : List Tm) (B : Int) : Prop := ∀ t ∈ L, t.1 + t.2.1 + t.2.2.1 ≤ B
theorem degB_fits {xs ys : List Tm} {A B : Int} (h : degB xs A) (h' : degB ys B) (hs : A + B ≤ 12) : Fits xs ys := fun s hs' t ht => by
  have := h s hs'
  have := h' t ht
  omega
theorem mul_degB {p A B : Int} {xs ys M : List Tm} (h : degB xs A) (h' : degB ys B) (hM : IsP p M (mulF p xs ys)) : degB M (A + B) := fun t ht => by
  have h1 := hM.2.2 (tmE t) (hM.2.1 t ht).1.1
  rw [atL_mem hM.1 ht] at h1
  have h2 := (hM.2.1 t ht).2.1
  have h3 : mulS xs ys (tmE t) ≠ 0 := fun h0 => by
    rw [mulF, h0] at h1
    simp at h1
    omega
  obtain ⟨s, hs, u, hu, hx⟩ := mulS_ne h3
  have h4 := h s hs
  have h5 := h' u hu
  have h7 : t.1 + t.2.1 + t.2.2.1 = (s.1 + s.2.1 + s.2.2.1) + (u.1 + u.2.1 + u.2.2.1) := by
    have := sum_addE (tmE s) (tmE u)
    rw [hx] at this
    exact this
  omega
theorem sum_degB {p k B : Int} {Ls : List (List Tm)} {L : List Tm} (h : ∀ X ∈ Ls, degB X B) (hL : IsP p L (sumK p k Ls)) : degB L B := fun t ht => by
  have h1 := hL.2.2 (tmE t) (hL.2.1 t ht).1.1
  rw [atL_mem hL.1 ht] at h1
  have h2 := (hL.2.1 t ht).2.1
  have h3 : sumA Ls (tmE t) ≠ 0 := fun h0 => by
    rw [sumK, h0] at h1
    simp at h1
    omega
  obtain ⟨X, hX, h4⟩ := sumA_ne h3
  obtain ⟨u, hu, hx⟩ := atL_ne_mem h4
  have h5 := h X hX u hu
  have hx2 : u.1 = t.1 ∧ u.2.1 = t.2.1 ∧ u.2.2.1 = t.2.2.1 := by simpa [tmE] using hx
  omega
/-- What the symmetric functions are, where the degrees fit. -/
theorem symE_ok {p d g : Int} (hp2 : 2 ≤ p) (hp13 : p ≤ 13) (d1 : 1 ≤ d) (d3 : d ≤ 3) (hg : 0 ≤ g) : ∀ (r : List (List Tm)), (∀ X ∈ r, Valid p d X ∧ degB X g) → ∀ j : Nat, (j : Int) * g ≤ 12 → Valid p d (symE p r j) ∧ degB (symE p r j) (j * g)
  | _, _, 0, _ => by
    rw [symE.eq_def]
    exact ⟨isP_valid (unit_isP hp2) hp2 hp13 d1 d3, fun t ht => by simp at ht; subst ht; simp⟩
  | [], _, j + 1, _ => by
    rw [symE.eq_def]
    exact ⟨⟨hp2, hp13, d1, d3, List.Pairwise.nil, fun t ht => by simp at ht⟩, fun t ht => by simp at ht⟩
  | X :: r, h, j + 1, hj => by
    have e1 : ((j + 1 : Nat) : Int) * g = j * g + g := by rw [Int.natCast_add, Int.add_mul]; simp
    have e0 : 0 ≤ (j : Int) * g := Int.mul_nonneg (by omega) hg
    obtain ⟨hA, hAd⟩ := symE_ok hp2 hp13 d1 d3 hg r (fun Y hY => h Y (by simp [hY])) j (by omega)
    obtain ⟨hB, hBd⟩ := symE_ok hp2 hp13 d1 d3 hg r (fun Y hY => h Y (by simp [hY])) (j + 1) hj
    obtain ⟨hX, hXd⟩ := h X (by simp)
    obtain ⟨M, hM⟩ := mul_ex hA hX (degB_fits hAd hXd (by omega))
    have hMV := isP_valid (d := d) hM hp2 hp13 d1 d3
    obtain ⟨S, hS⟩ := sum_ex (d := d) (k := 1) hp2 2 [symE p r (j + 1), M] rfl (fun Y hY => by simp at hY; rcases hY with h | h <;> subst h <;> assumption)
    have hE : ∃ M, IsP p M (mulF p (symE p r j) X) ∧ IsP p (symE p (X :: r) (j + 1)) (sumK p 1 [symE p r (j + 1), M]) := by
      rw [symE.eq_def p (X :: r)]
      exact Classical.epsilon_spec (p := fun L => ∃ M, IsP p M (mulF p (symE p r j) X) ∧ IsP p L (sumK p 1 [symE p r (j + 1), M])) ⟨S, M, hM, hS⟩
    obtain ⟨M', hM', hS'⟩ := hE
    refine ⟨isP_valid hS' hp2 hp13 d1 d3, sum_degB (fun Y hY => ?_) hS'⟩
    simp at hY
    rcases hY with rfl | rfl
    · exact hBd
    · rw [e1]
      exact mul_degB hAd hXd hM'
theorem symE_step {p d g : Int} (_hp2 : 2 ≤ p) (_hp13 : p ≤ 13) (_d1 : 1 ≤ d) (_d3 : d ≤ 3) (_hg : 0 ≤ g) {X : List Tm} {r : List (List Tm)} (_h : ∀ Y ∈ X :: r, Valid p d Y ∧ degB Y g) {j : Nat} (_hj : ((j + 1 : Nat) : Int) * g ≤ 12) {M S : List Tm}
    (hM : IsP p M (mulF p (symE p r j) X)) (hS : IsP p S (sumK p 1 [symE p r (j + 1), M])) : S = symE p (X :: r) (j + 1) := by
  have hE : ∃ M, IsP p M (mulF p (symE p r j) X) ∧ IsP p (symE p (X :: r) (j + 1)) (sumK p 1 [symE p r (j + 1), M]) := by
    rw [symE.eq_def p (X :: r)]
    exact Classical.epsilon_spec (p := fun L => ∃ M, IsP p M (mulF p (symE p r j) X) ∧ IsP p L (sumK p 1 [symE p r (j + 1), M])) ⟨S, M, hM, hS⟩
  obtain ⟨M', hM', hS'⟩ := hE
  obtain rfl := hM'.unique hM
  exact hS.unique hS'
theorem symE_zero (p : Int) (r : List (List Tm)) : symE p r 0 = [(0, 0, 0, 1)] := by rw [symE.eq_def]
theorem symE_nil (p : Int) (j : Nat) : symE p [] (j + 1) = [] := by rw [symE.eq_def]
theorem take_rev (O : List (List Tm)) (i : Nat) (h : i < O.length) : (O.take (i + 1)).reverse = O[i] :: (O.take i).reverse := by
  rw [List.take_succ_eq_append_getElem h, List.reverse_append]
  rfl
end Go.Proofs.YtllklhakbanhaaaGreat
namespace Go.Proofs.YtllklhakbanhaaaGreat
open Go.RowKit Go.Sort Go.Maps EchM

/-- The first j polynomials of a row of N cells are T 0, T 1, .. -/
structure FrW (w : World) (base gb N : Nat) (p : Int) (m : Nat) (T : Nat → List Tm) (j : Nat) (F : Nat → Value) : Prop where
  row : w.rowIs gb 39 N F
  fit : j * 3 ≤ N
  at' : ∀ i, i < j → F (i * 3) = .int .i64 p ∧ F (i * 3 + 1) = .int .i64 (m : Int) ∧ OwnP w base (F (i * 3 + 2)) (T i)
theorem FrW.later {w w' : World} {base gb N : Nat} {p : Int} {m : Nat} {T : Nat → List Tm} {j : Nat} {F : Nat → Value} (h : FrW w base gb N p m T j F) (hb : Below w.heap.size w w') : FrW w' base gb N p m T j F :=
  ⟨rowIs_below h.row hb h.row.lt, h.fit, fun i hi => ⟨(h.at' i hi).1, (h.at' i hi).2.1, owns_belowT (h.at' i hi).2.2 hb⟩⟩
theorem FrW.congr {w : World} {base gb N : Nat} {p : Int} {m : Nat} {T T' : Nat → List Tm} {j : Nat} {F : Nat → Value} (h : FrW w base gb N p m T j F) (e : ∀ i, i < j → T i = T' i) : FrW w base gb N p m T' j F :=
  ⟨h.row, h.fit, fun i hi => ⟨(h.at' i hi).1, (h.at' i hi).2.1, by rw [← e i hi]; exact (h.at' i hi).2.2⟩⟩
theorem FrW.put {w : World} {base base' gb N : Nat} {p : Int} {m : Nat} {T : Nat → List Tm} {j : Nat} {F : Nat → Value} (h : FrW w base gb N p m T j F) {i j' : Nat} {u : Value} {X : List Tm} (ho : OwnP w base' u X) (hb : base ≤ base') (hj : ∀ l, l < j' → l = i ∨ l < j) (hf : j' * 3 ≤ N) :
    FrW (((w.setCell ⟨gb, i * 3, none⟩ (.int .i64 p)).setCell ⟨gb, i * 3 + 1, none⟩ (.int .i64 (m : Int))).setCell ⟨gb, i * 3 + 2, none⟩ u) base gb N p m (fun l => if l = i then X else T l) j' (fun l => if l = i * 3 + 2 then u else if l = i * 3 + 1 then .int .i64 (m : Int) else if l = i * 3 then .int .i64 p else F l) := by
  refine ⟨((h.row.set (i * 3) (.int .i64 p)).set (i * 3 + 1) (.int .i64 (m : Int))).set (i * 3 + 2) u, hf, fun l hl => ?_⟩
  by_cases e : l = i
  · subst e
    refine ⟨?_, ?_, ?_⟩
    · rw [if_neg (by omega), if_neg (by omega), if_pos rfl]
    · rw [if_neg (by omega), if_pos rfl]
    · rw [if_pos rfl, if_pos rfl]
      exact owns_low (own_set3 ho h.row) hb
  · obtain ⟨a, b, c⟩ := h.at' l (by rcases hj l hl with h | h; exact absurd h e; exact h)
    refine ⟨?_, ?_, ?_⟩
    · rw [if_neg (by omega), if_neg (by omega), if_neg (by omega), a]
    · rw [if_neg (by omega), if_neg (by omega), if_neg (by omega), b]
    · rw [if_neg (by omega), if_neg (by omega), if_neg (by omega), if_neg e]
      exact own_set3 c h.row
theorem FrW.cells {w : World} {base gb N : Nat} {p : Int} {m : Nat} {T : Nat → List Tm} {j : Nat} {F : Nat → Value} (h : FrW w base gb N p m T j F) {i : Nat} (hi : i < j) :
    ∃ u, w.cell? ⟨gb, i * 3, none⟩ = some (.int .i64 p) ∧ w.cell? ⟨gb, i * 3 + 1, none⟩ = some (.int .i64 (m : Int)) ∧ w.cell? ⟨gb, i * 3 + 2, none⟩ = some u ∧ OwnP w base u (T i) := by
  obtain ⟨a, b, c⟩ := h.at' i hi
  have hf := h.fit
  exact ⟨_, (h.row.cell (by omega)).trans (by rw [a]), (h.row.cell (by omega)).trans (by rw [b]), h.row.cell (by omega), c⟩
theorem FrW.any {w : World} {base gb N : Nat} {p : Int} {m : Nat} {T : Nat → List Tm} {j : Nat} {F : Nat → Value} (h : FrW w base gb N p m T j F) {i : Nat} (hi : i * 3 + 3 ≤ N) :
    (w.cell? ⟨gb, i * 3, none⟩ = some (F (i * 3)) ∧ w.cell? ⟨gb, i * 3 + 1, none⟩ = some (F (i * 3 + 1)) ∧ w.cell? ⟨gb, i * 3 + 2, none⟩ = some (F (i * 3 + 2))) ∧ w.frozen? ⟨gb, i * 3, none⟩ = false ∧ w.frozen? ⟨gb, i * 3 + 1, none⟩ = false ∧ w.frozen? ⟨gb, i * 3 + 2, none⟩ = false :=
  ⟨⟨h.row.cell (by omega), h.row.cell (by omega), h.row.cell (by omega)⟩, h.row.frozen _, h.row.frozen _, h.row.frozen _⟩
/-- Two polynomials in a new slice. -/
theorem two_sl {w : World} {p : Int} {m : Nat} {u v : Value} {A M : List Tm} (hA : SliceT w u A) (hM : SliceT w v M) : SlPn (w.alloc (.cells #[.int .i64 p, .int .i64 (m : Int), u, .int .i64 p, .int .i64 (m : Int), v] 39)) p m (.slice (some ⟨w.heap.size, 0, none⟩) 2 2) [A, M] := by
  have hb := box1 w (.cells #[.int .i64 p, .int .i64 (m : Int), u, .int .i64 p, .int .i64 (m : Int), v] 39)
  have hr := World.rowIs_alloc w #[Value.int .i64 p, .int .i64 (m : Int), u, .int .i64 p, .int .i64 (m : Int), v] 39 (fun i => (#[Value.int .i64 p, .int .i64 (m : Int), u, .int .i64 p, .int .i64 (m : Int), v] : Array Value).getD i undef) (fun i hi => by simp at hi; match i, hi with | 0, _ => rfl | 1, _ => rfl | 2, _ => rfl | 3, _ => rfl | 4, _ => rfl | 5, _ => rfl)
  refine ⟨some ⟨w.heap.size, 0, none⟩, 2, rfl, .inr ⟨w.heap.size, 0, rfl, hr.lt, fun k hk => ?_⟩⟩
  match k, hk with
  | 0, _ => exact ⟨u, hr.cell (i := 0) (by simp), hr.cell (i := 1) (by simp), hr.cell (i := 2) (by simp), hA.below hb⟩
  | 1, _ => exact ⟨v, hr.cell (i := 3) (by simp), hr.cell (i := 4) (by simp), hr.cell (i := 5) (by simp), hM.below hb⟩
noncomputable def allF (p : Int) (O : List (List Tm)) (i : Nat) (l : Nat) : List Tm := symE p (O.take i).reverse l
noncomputable def mixF (p : Int) (O : List (List Tm)) (i j l : Nat) : List Tm := if j < l then symE p (O.take (i + 1)).reverse l else symE p (O.take i).reverse l
theorem mixF_zero (p : Int) (O : List (List Tm)) (i l : Nat) : mixF p O i 0 l = allF p O (i + 1) l := by
  unfold mixF allF
  by_cases h : 0 < l
  · rw [if_pos h]
  · obtain rfl : l = 0 := by omega
    rw [if_neg h, symE_zero, symE_zero]
theorem mixF_start (p : Int) (O : List (List Tm)) {i k l : Nat} (h : l < k + 1) : allF p O i l = mixF p O i k l := by
  unfold mixF allF
  rw [if_neg (by omega)]
theorem mixF_set (p : Int) (O : List (List Tm)) (i j l : Nat) : (if l = j + 1 then symE p (O.take (i + 1)).reverse (j + 1) else mixF p O i (j + 1) l) = mixF p O i j l := by
  unfold mixF
  by_cases e : l = j + 1
  · subst e
    rw [if_pos rfl, if_pos (by omega)]
  · rw [if_neg e]
    by_cases h : j + 1 < l
    · rw [if_pos h, if_pos (by omega)]
    · rw [if_neg h, if_neg (by omega)]
theorem mixF_low (p : Int) (O : List (List Tm)) {i j l : Nat} (h : l ≤ j) : mixF p O i j l = symE p (O.take i).reverse l := by
  unfold mixF
  rw [if_neg (by omega)]
theorem allF_zero (p : Int) (O : List (List Tm)) (l : Nat) : (if l = 0 then [(0, 0, 0, 1)] else []) = allF p O 0 l := by
  unfold allF
  match l with
  | 0 => rw [if_pos rfl, symE_zero]
  | l + 1 => rw [if_neg (by omega)]; exact (symE_nil p l).symm
theorem constL_zero : constL 0 = [] := rfl
theorem constL_one : constL 1 = [(0, 0, 0, 1)] := rfl
theorem max_degB {p d : Int} {X : List Tm} (h : Valid p d X) : degB X (max (degI X) 0) := fun t ht => Int.le_trans (deg_le h t ht) (Int.le_max_left _ _)
theorem GrpP.orbB {p : Int} {m : Nat} {L : List (Nat → Nat → Int)} {xs : List Tm} (h : GrpP p m L xs) : ∀ X ∈ orbL (allL p m L xs), Valid p m X ∧ degB X (max (degI xs) 0) := fun X hX => by
  obtain ⟨x, hx, rfl⟩ := List.mem_map.1 (orbL_mem hX)
  exact ⟨h.ledV hx, fun t ht => Int.le_trans (Led.deg (h.mat x hx) h.valid (h.led hx) t ht) (Int.le_max_left _ _)⟩
end Go.Proofs.YtllklhakbanhaaaGreat
