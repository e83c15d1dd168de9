/-
  A body with several labels, each of which a goto may lead back to: a relation and a measure by label. Conditions: none.
  ORBITS of polynomials: plain mathematics; the program's walk: 'impl.polyOrbit'. Conditions: as each theorem states.
-/
import Derived.Test.YtllklhakbanhaaaGreatRows
import Derived.WalkKit
import Derived.ScopeJumps
import Derived.WalkMore
import Derived.Test.YtllklhakbanhaaaGreatQ47
namespace Go.Proofs.YtllklhakbanhaaaGreat
open Go

/-- A way out by a goto meets J of its label; every other way out meets Q. -/
def byLabels (J : Nat → Act → World → Prop) (Q : Exit → Act → World → Prop) : Exit → Act → World → Prop
  | .goto l, a, w => J l a w
  | e, a, w => Q e a w

/-- From each label on the rest of the body lowers the measure wherever it jumps again: then the body ends as Q says. -/
theorem scope_labels {P : Program} {a : Act} {w : World} {Q : Exit → Act → World → Prop} {c : Code} (tail : Nat → Code) (J : Nat → Act → World → Prop) (size : Nat → Act → World → Nat)
    (known : ∀ l a w, J l a w → findLabel c l = some (tail l)) (first : c.wp P (byLabels J Q) a w)
    (again : ∀ l a w, J l a w → (tail l).wp P (byLabels (fun l' a' w' => J l' a' w' ∧ size l' a' w' < size l a w) Q) a w) : (Code.scope c).wp P Q a w := by
  intro b k cs
  have from_label : ∀ m l a w, size l a w ≤ m → J l a w → ∃ e a' w', Q e a' w' ∧ Arrives P (lone (b.at a (.code (tail l) :: .inScope c :: k)) cs w) b k cs e a' w' := by
    intro m
    induction m with
    | zero =>
      intro l a w hm hJ
      obtain ⟨e, a₁, w₁, hq, harr⟩ := again l a w hJ b (.inScope c :: k) cs
      cases e with
      | goto l' => exact absurd hq.2 (by omega)
      | normal => exact ⟨.normal, a₁, w₁, hq, Steps.trans harr (.one step_inScope)⟩
      | exit id => exact ⟨.exit id, a₁, w₁, hq, fun k' hk => harr k' (by simp [exitTo, hk])⟩
      | ret => exact ⟨_, a₁, w₁, hq, harr⟩
      | panic ch => exact ⟨_, a₁, w₁, hq, harr⟩
      | outgrown => exact ⟨_, a₁, w₁, hq, harr⟩
    | succ m ih =>
      intro l a w hm hJ
      obtain ⟨e, a₁, w₁, hq, harr⟩ := again l a w hJ b (.inScope c :: k) cs
      cases e with
      | goto l' =>
        obtain ⟨e₂, a₂, w₂, hq₂, harr₂⟩ := ih l' a₁ w₁ (by have := hq.2; omega) hq.1
        exact ⟨e₂, a₂, w₂, hq₂, .of_steps (harr _ (by simp [gotoIn, known l' a₁ w₁ hq.1])) harr₂⟩
      | normal => exact ⟨.normal, a₁, w₁, hq, Steps.trans harr (.one step_inScope)⟩
      | exit id => exact ⟨.exit id, a₁, w₁, hq, fun k' hk => harr k' (by simp [exitTo, hk])⟩
      | ret => exact ⟨_, a₁, w₁, hq, harr⟩
      | panic ch => exact ⟨_, a₁, w₁, hq, harr⟩
      | outgrown => exact ⟨_, a₁, w₁, hq, harr⟩
  obtain ⟨e, a₁, w₁, hq, harr⟩ := first b (.inScope c :: k) cs
  cases e with
  | goto l =>
    obtain ⟨e₂, a₂, w₂, hq₂, harr₂⟩ := from_label _ l a₁ w₁ (Nat.le_refl _) hq
    exact ⟨e₂, a₂, w₂, hq₂, .of_steps (.head step_scope (harr _ (by simp [gotoIn, known l a₁ w₁ hq]))) harr₂⟩
  | normal => exact ⟨.normal, a₁, w₁, hq, .head step_scope (Steps.trans harr (.one step_inScope))⟩
  | exit id => exact ⟨.exit id, a₁, w₁, hq, fun k' hk => .head step_scope (harr k' (by simp [exitTo, hk]))⟩
  | ret => exact ⟨_, a₁, w₁, hq, .of_steps (.one step_scope) harr⟩
  | panic ch => exact ⟨_, a₁, w₁, hq, .of_steps (.one step_scope) harr⟩
  | outgrown => exact ⟨_, a₁, w₁, hq, .of_steps (.one step_scope) harr⟩
/-- What a jump to one of two labels owes: its relation, and less than N. -/
def twoJumps (J0 J1 : Act → World → Prop) (s0 s1 : Act → World → Nat) (N : Nat) (l : Nat) (a : Act) (w : World) : Prop :=
  (l = 0 ∧ J0 a w ∧ s0 a w < N) ∨ (l = 1 ∧ J1 a w ∧ s1 a w < N)
/-- Two labels, 0 and 1; what stands behind label 1 is walked once, and serves where the run comes to it from label 0. -/
theorem scope_two {P : Program} {a : Act} {w : World} {Q : Exit → Act → World → Prop} {c t0 t1 : Code} (h0 : findLabel c 0 = some t0) (h1 : findLabel c 1 = some t1) (J0 J1 : Act → World → Prop) (s0 s1 : Act → World → Nat)
    (again1 : ∀ N a w, J1 a w → s1 a w ≤ N → t1.wp P (byLabels (twoJumps J0 J1 s0 s1 N) Q) a w)
    (again0 : (∀ N a w, J1 a w → s1 a w ≤ N → t1.wp P (byLabels (twoJumps J0 J1 s0 s1 N) Q) a w) → ∀ N a w, J0 a w → s0 a w ≤ N → t0.wp P (byLabels (twoJumps J0 J1 s0 s1 N) Q) a w)
    (first : (∀ N a w, J0 a w → s0 a w ≤ N → t0.wp P (byLabels (twoJumps J0 J1 s0 s1 N) Q) a w) → ∃ N, c.wp P (byLabels (twoJumps J0 J1 s0 s1 N) Q) a w) : (Code.scope c).wp P Q a w := by
  obtain ⟨N, hN⟩ := first (again0 again1)
  refine scope_labels (fun l => if l = 0 then t0 else t1) (fun l a w => (l = 0 ∧ J0 a w) ∨ (l = 1 ∧ J1 a w)) (fun l a w => if l = 0 then s0 a w else s1 a w) ?_ ?_ ?_
  · rintro l a w (⟨rfl, _⟩ | ⟨rfl, _⟩)
    · exact h0
    · exact h1
  · refine Code.wp_mono (fun e a w h => ?_) hN
    cases e <;> first | exact h | skip
    rcases h with ⟨h1, h2, _⟩ | ⟨h1, h2, _⟩
    · exact .inl ⟨h1, h2⟩
    · exact .inr ⟨h1, h2⟩
  · rintro l a w (⟨rfl, hJ⟩ | ⟨rfl, hJ⟩)
    · refine Code.wp_mono (fun e a w h => ?_) (again0 again1 _ a w hJ (Nat.le_refl _))
      cases e <;> first | exact h | skip
      rcases h with ⟨rfl, h2, h3⟩ | ⟨rfl, h2, h3⟩
      · exact ⟨.inl ⟨rfl, h2⟩, h3⟩
      · exact ⟨.inr ⟨rfl, h2⟩, h3⟩
    · refine Code.wp_mono (fun e a w h => ?_) (again1 _ a w hJ (Nat.le_refl _))
      cases e <;> first | exact h | skip
      rcases h with ⟨rfl, h2, h3⟩ | ⟨rfl, h2, h3⟩
      · exact ⟨.inl ⟨rfl, h2⟩, h3⟩
      · exact ⟨.inr ⟨rfl, h2⟩, h3⟩
/-- Each label's rest without the label itself. -/
theorem scope_two_rest {P : Program} {a : Act} {w : World} {Q : Exit → Act → World → Prop} {c r0 r1 : Code} (h0 : findLabel c 0 = some (.seq .skip r0)) (h1 : findLabel c 1 = some (.seq .skip r1)) (J0 J1 : Act → World → Prop) (s0 s1 : Act → World → Nat)
    (again1 : ∀ N a w, J1 a w → s1 a w ≤ N → r1.wp P (byLabels (twoJumps J0 J1 s0 s1 N) Q) a w)
    (again0 : (∀ N a w, J1 a w → s1 a w ≤ N → r1.wp P (byLabels (twoJumps J0 J1 s0 s1 N) Q) a w) → ∀ N a w, J0 a w → s0 a w ≤ N → r0.wp P (byLabels (twoJumps J0 J1 s0 s1 N) Q) a w)
    (first : (∀ N a w, J0 a w → s0 a w ≤ N → r0.wp P (byLabels (twoJumps J0 J1 s0 s1 N) Q) a w) → ∃ N, c.wp P (byLabels (twoJumps J0 J1 s0 s1 N) Q) a w) : (Code.scope c).wp P Q a w :=
  scope_two h0 h1 J0 J1 s0 s1 (fun N a w hJ hs => wp_seq (wp_skip (again1 N a w hJ hs))) (fun _ N a w hJ hs => wp_seq (wp_skip (again0 again1 N a w hJ hs))) fun _ => first (again0 again1)
theorem byLabels_ret {J : Nat → Act → World → Prop} {Q : Exit → Act → World → Prop} {a : Act} {w : World} (h : Q .ret a w) : byLabels J Q .ret a w := h
end Go.Proofs.YtllklhakbanhaaaGreat
namespace Go.Proofs.YtllklhakbanhaaaGreat
open Go.RowKit Go.Sort Go.Maps EchM

/-- One more polynomial, if it is not there yet. -/
def orbS (O : List (List Tm)) (X : List Tm) : List (List Tm) := if O.any (fun Y => sameT Y X) then O else O ++ [X]
def orbL (Ls : List (List Tm)) : List (List Tm) := Ls.foldl orbS []
theorem orbL_snoc (l : List (List Tm)) (X : List Tm) : orbL (l ++ [X]) = orbS (orbL l) X := by simp [orbL, List.foldl_append]
theorem orbS_len (O : List (List Tm)) (X : List Tm) : (orbS O X).length ≤ O.length + 1 := by
  unfold orbS; split <;> simp
theorem orbF_len : ∀ (Ls O : List (List Tm)), (Ls.foldl orbS O).length ≤ O.length + Ls.length
  | [], O => by simp
  | X :: r, O => by
    have := orbF_len r (orbS O X)
    have := orbS_len O X
    simp only [List.foldl_cons, List.length_cons]
    omega
theorem orbL_len (Ls : List (List Tm)) : (orbL Ls).length ≤ Ls.length := by
  have := orbF_len Ls []
  simpa [orbL] using this
theorem orbF_mem {Y : List Tm} : ∀ (Ls O : List (List Tm)), Y ∈ Ls.foldl orbS O → Y ∈ O ∨ Y ∈ Ls
  | [], O, h => .inl h
  | X :: r, O, h => by
    rcases orbF_mem r (orbS O X) h with h | h
    · unfold orbS at h
      split at h
      · exact .inl h
      · rcases List.mem_append.1 h with h | h
        · exact .inl h
        · simp at h; exact .inr (by simp [h])
    · exact .inr (by simp [h])
theorem orbL_mem {Ls : List (List Tm)} {Y : List Tm} (h : Y ∈ orbL Ls) : Y ∈ Ls := by
  rcases orbF_mem Ls [] h with h | h
  · simp at h
  · exact h
theorem orbF_pos : ∀ (Ls O : List (List Tm)), 1 ≤ O.length → 1 ≤ (Ls.foldl orbS O).length
  | [], O, h => h
  | X :: r, O, h => orbF_pos r (orbS O X) (by
    unfold orbS
    split
    · exact h
    · simp)
theorem orbL_pos {Ls : List (List Tm)} (h : 1 ≤ Ls.length) : 1 ≤ (orbL Ls).length := by
  match Ls, h with
  | X :: r, _ => exact orbF_pos r (orbS [] X) (by simp [orbS])
theorem any_take {α : Type} (f : α → Bool) (O : List α) (k : Nat) (h : k < O.length) : (O.take (k + 1)).any f = ((O.take k).any f || f O[k]) := by
  rw [List.take_succ_eq_append_getElem h, List.any_append]; simp

/-- What stands in memory at a jump. -/
structure PoJ (w V wr : World) (fb bx hi : Nat) (p : Int) (m : Nat) (u v : Value) (us : List Value) (O : List (List Tm)) : Prop where
  mkk : PMk wr V.heap.size hi p m v us O
  hi1 : hi ≤ wr.heap.size
  hi2 : V.heap.size ≤ hi
  grow : V.grownBy wr (some bx)
  arg : wr.rowIs fb 39 3 (polyF p (m : Int) u)
def frPo (p : Int) (m : Nat) (gb gc n xl uc fb bx : Nat) (ua : Option Addr) (s5 s7 s8 : Value) (u2 u9 u10 u11 u12 u13 u14 u15 u16 u17 u18 u19 u20 u21 u22 u23 u24 u25 u26 u27 u28 u29 u30 u31 u32 u33 u34 u35 u36 u37 : Value) : Act := { tmps := #[.slice (some ⟨gb, 0, none⟩) n gc, .agg #[.int .i64 p, .int .i64 (m : Int), .slice ua xl uc], u2, .pointer (some ⟨fb, 0, none⟩), .slice none 0 0, s5, .pointer (some ⟨bx, 0, none⟩), s7, s8, u9, u10, u11, u12, u13, u14, u15, u16, u17, u18, u19, u20, u21, u22, u23, u24, u25, u26, u27, u28, u29, u30, u31, u32, u33, u34, u35, u36, u37], defers := [] }
def PJ0 (p : Int) (m : Nat) (L : List (Nat → Nat → Int)) (xs : List Tm) (gb gc uc fb bx : Nat) (ua : Option Addr) (w V : World) (a' : Act) (wr : World) : Prop :=
  ∃ (i hi : Nat) (sv : Value) (us : List Value) (P D : Int) (bv s7 s8 u2 u9 u10 u11 u12 u13 u14 u15 u16 u17 u18 u19 u20 u21 u22 u23 u24 u25 u26 u27 u28 u29 u30 u31 u32 u33 u34 u35 u36 u37 : Value), a' = frPo p m gb gc L.length xs.length uc fb bx ua sv s7 s8 u2 u9 u10 u11 u12 u13 u14 u15 u16 u17 u18 u19 u20 u21 u22 u23 u24 u25 u26 u27 u28 u29 u30 u31 u32 u33 u34 u35 u36 u37 ∧ s7 = .int .i64 (i : Int) ∧ i ≤ L.length ∧ PoJ w V wr fb bx hi p m (.slice ua xs.length uc) sv us (orbL (allL p m (L.take i) xs)) ∧ wr.rowIs bx 39 3 (polyF P D bv)
def PJ1 (p : Int) (m : Nat) (L : List (Nat → Nat → Int)) (xs : List Tm) (gb gc uc fb bx : Nat) (ua : Option Addr) (w V : World) (a' : Act) (wr : World) : Prop :=
  ∃ (i k hi b1 : Nat) (sv : Value) (us : List Value) (X : List Tm) (bv s7 s8 u2 u9 u10 u11 u12 u13 u14 u15 u16 u17 u18 u19 u20 u21 u22 u23 u24 u25 u26 u27 u28 u29 u30 u31 u32 u33 u34 u35 u36 u37 : Value), a' = frPo p m gb gc L.length xs.length uc fb bx ua sv s7 s8 u2 u9 u10 u11 u12 u13 u14 u15 u16 u17 u18 u19 u20 u21 u22 u23 u24 u25 u26 u27 u28 u29 u30 u31 u32 u33 u34 u35 u36 u37 ∧ s7 = .int .i64 ((i + 1 : Nat) : Int) ∧ s8 = .int .i64 (k : Int) ∧ i < L.length ∧ k ≤ (orbL (allL p m (L.take i) xs)).length ∧ PoJ w V wr fb bx hi p m (.slice ua xs.length uc) sv us (orbL (allL p m (L.take i) xs)) ∧ wr.rowIs bx 39 3 (polyF p (m : Int) bv) ∧ OwnP wr b1 bv X ∧ hi ≤ b1 ∧ Hid (orbL (allL p m (L.take (i + 1)) xs) = orbS (orbL (allL p m (L.take i) xs)) X) ∧ X.length ≤ 2197 ∧ Hid (((orbL (allL p m (L.take i) xs)).take k).any (fun Y => sameT Y X) = false)
def PS0 (a : Act) (_ : World) : Nat := (49 - (intOf (a.tmps.getD 7 undef)).toNat) * 100
def PS1 (a : Act) (_ : World) : Nat := (49 - (intOf (a.tmps.getD 7 undef)).toNat) * 100 + 99 - (intOf (a.tmps.getD 8 undef)).toNat
theorem pset3 (w : World) (A : Nat) (v0 v1 v2 : Value) : w.grownBy (((w.setCell ⟨A, 0, none⟩ v0).setCell ⟨A, 1, none⟩ v1).setCell ⟨A, 2, none⟩ v2) (some A) :=
  gSame (gSame (gSame (World.grownBy.refl w _) _ _) _ _) _ _
theorem PoJ.below {w V wr w1 : World} {fb bx hi : Nat} {p : Int} {m : Nat} {u v : Value} {us : List Value} {O : List (List Tm)} (h : PoJ w V wr fb bx hi p m u v us O) (hb : Below wr.heap.size wr w1) : PoJ w V w1 fb bx hi p m u v us O :=
  ⟨h.mkk.below hb, Nat.le_trans h.hi1 hb.size, h.hi2, h.grow.trans (gBelow hb), rowIs_below h.arg hb h.arg.lt⟩
theorem PoJ.box {w V wr : World} {fb bx hi : Nat} {p : Int} {m : Nat} {u v : Value} {us : List Value} {O : List (List Tm)} (h : PoJ w V wr fb bx hi p m u v us O) (hbx : bx < V.heap.size) (hne : fb ≠ bx) (v0 v1 v2 : Value) : PoJ w V (((wr.setCell ⟨bx, 0, none⟩ v0).setCell ⟨bx, 1, none⟩ v1).setCell ⟨bx, 2, none⟩ v2) fb bx hi p m u v us O :=
  ⟨h.mkk.kept (pset3 wr bx v0 v1 v2) hbx, by have := h.hi1; simpa using this, h.hi2, h.grow.trans (pset3 wr bx v0 v1 v2), setO3 h.arg hne v0 v1 v2⟩

set_option maxRecDepth 8000 in
set_option maxHeartbeats 16000000 in
theorem ipor {p : Int} {m : Nat} {L : List (Nat → Nat → Int)} {xs : List Tm} (h : GrpP p m L xs) (v u : Value) (w : World) (hA : SlA w v p m L) (hU : SliceT w u xs) :
    Calls Tryz.prog 52 #[v, .agg #[.int .i64 p, .int .i64 (m : Int), u]] w fun e w' => ∃ v' us hi, e = .returned v' ∧ PMk w' w.heap.size hi p m v' us (orbL (allL p m L xs)) ∧ Below w.heap.size w w' := by
  obtain ⟨i0, hi0, hz0, hz1, hz2⟩ := info_parts infoPoly
  have hl := h.l48
  have hxl2 := h.xlen
  obtain ⟨gb, gc, rfl, hgl, hAc⟩ := id hA
  obtain ⟨ua, uc, rfl, _⟩ := id hU
  obtain ⟨W, hW, hbW, ⟨hWs1, hWs2⟩, rf⟩ := newbox w p (m : Int) (.slice ua xs.length uc)
  obtain ⟨V, hV, hbV, ⟨hVs1, hVs2⟩, rb⟩ := newbox W 0 0 (.slice none 0 0)
  have hbwV := hbW.trans (hbV.mono hbW.size)
  have rfV := rowIs_below rf hbV rf.lt
  have hUV := hU.below hbwV
  have HAA := Lib.hid (fun w' (hb : Below w.heap.size w w') => (fun k hk => by
    obtain ⟨B, hc, hB⟩ := hAc k hk
    exact ⟨B, (hb.cell (p := ⟨gb, k, none⟩) hgl).trans hc, hB.below hb⟩ : ∀ (k : Nat) (h : k < L.length), ∃ B, w'.cell? ⟨gb, k, none⟩ = some (actV B) ∧ ActW w' B p m L[k]))
  have HG := Lib.hid h
  have hfx : w.heap.size ≠ W.heap.size := by omega
  have hbxV : W.heap.size < V.heap.size := rb.lt
  have hwbx : w.heap.size ≤ W.heap.size := hbW.size
  have hst : PoJ w V V w.heap.size W.heap.size V.heap.size p m (.slice ua xs.length uc) (.slice none 0 0) [] (orbL (allL p m (L.take 0) xs)) := ⟨PMk.nil _ _ _ _, Nat.le_refl _, Nat.le_refl _, World.grownBy.refl _ _, rfV⟩
  clear h hA hAc rf rfV hbW hbV
  go_enter Tryz.func52, Tryz.ntmps52
  go_wp2_with fail
  rw [← hW]
  clear hW
  refine scope_two_rest rfl rfl (PJ0 p m L xs gb gc uc w.heap.size W.heap.size ua w V) (PJ1 p m L xs gb gc uc w.heap.size W.heap.size ua w V) PS0 PS1 ?_ ?_ ?_
  · rintro N a' wr ⟨i, k, hi, b1, sv, us, X, bv, s7, s8, u2, u9, u10, u11, u12, u13, u14, u15, u16, u17, u18, u19, u20, u21, u22, u23, u24, u25, u26, u27, u28, u29, u30, u31, u32, u33, u34, u35, u36, u37, rfl, rfl, rfl, hiL, hkO, hJ, rB, hbv, hib, HN, hXl, HK⟩ hN
    clear hst hV
    unfold frPo
    have hOl := orbL_len (allL p m (L.take i) xs)
    rw [allL_len, List.length_take] at hOl
    obtain ⟨O, hOO⟩ : ∃ O, orbL (allL p m (L.take i) xs) = O := ⟨_, rfl⟩
    rw [hOO] at hOl hkO hJ HN HK
    have hOl2 : O.length ≤ 47 := by omega
    obtain ⟨sa, sc, rfl⟩ := hJ.mkk.shape
    obtain ⟨ba, bc, rfl⟩ := owns_slice hbv
    have hN1 : (49 - (i + 1)) * 100 + 99 - k ≤ N := hN
    clear hN hOl
    obtain ⟨⟨q0, q1, q2⟩, z0, z1, z2⟩ := poly3 rB
    by_cases hk : k < O.length
    · have hne : ((k : Int) == (O.length : Int)) = false := by simp; omega
      have hk' : (k : Int) < (O.length : Int) := by omega
      obtain ⟨b, off, uu, rfl, hbl, hmm, c0, c1, c2, hT⟩ := SlP.nth hJ.mkk.slP hk
      clear hmm
      have HSN := Lib.hid (any_take (fun Y => sameT Y X) O k hk)
      have HY := Lib.hid (show O[k] ∈ O from List.getElem_mem hk)
      have hYm : O[k] ∈ allL p m (L.take i) xs := orbL_mem (by rw [hOO]; exact List.getElem_mem hk)
      have hYl : O[k].length ≤ 2197 := by
        obtain ⟨x, hx, he⟩ := List.mem_map.1 hYm
        rw [← he]
        exact HG.out.len (List.mem_of_mem_take hx)
      clear hYm
      generalize O[k] = Y at *
      have hTd : SliceT wr.drew uu Y := hT.below (Below.refl _ _).drew
      have hBd : SliceT wr.drew (.slice ba X.length bc) X := (OwnP.slice hbv).below (Below.refl _ _).drew
      obtain ⟨ya, yc, rfl, _⟩ := id hT
      go_wp2_with fail
      go_cut [35] (fun s wx => s = .bool (sameT Y X) ∧ Below wr.heap.size wr wx)
      case first =>
        go_region_with
          ((go_at_call 61; (with_reducible refine (isame p m p m _ _ Y X _ (by omega) (by omega) hTd hBd).mono ?_); rintro e w4 ⟨rfl, hb4⟩))
        all_goals
          go_wp2_with fail
          go_meet
          exact ⟨rfl, (Below.refl _ _).drew.trans hb4⟩
      case rest =>
        rename World => w4
        obtain ⟨rfl, hb4⟩ := hcut
        have hJ4 := hJ.below hb4
        have rB4 := rowIs_below rB hb4 rB.lt
        have hbv4 : OwnP w4 b1 (.slice ba X.length bc) X := owns_belowT hbv hb4
        clear q0 q1 q2 z0 z1 z2 c0 c1 c2 hTd hBd hT hJ rB hbv
        cases hf : sameT Y X
        · have HK2 : Hid ((O.take (k + 1)).any (fun Y => sameT Y X) = false) := Lib.hid (by rw [HSN.out, HK.out, hf]; rfl)
          have hMS : (49 - (i + 1)) * 100 + 99 - (k + 1) < N := by omega
          clear hf HSN HK
          go_wp2_with fail
          refine wp_goto ?_
          exact .inr ⟨rfl, ⟨i, k + 1, hi, b1, _, us, X, _, _, _, _, _, _, _, _, _, _, _, _, _, _, _, _, _, _, _, _, _, _, _, _, _, _, _, _, _, _, _, _, _, rfl, rfl, by go_num, hiL, by rw [hOO]; omega, by rw [hOO]; exact hJ4, rB4, hbv4, hib, by rw [hOO]; exact HN, hXl, by rw [hOO]; exact HK2⟩, hMS⟩
        · have HE : Hid (orbL (allL p m (L.take (i + 1)) xs) = O) := Lib.hid (by
            rw [HN.out, orbS, if_pos]
            rw [List.any_eq_true]
            exact ⟨Y, HY.out, hf⟩)
          have hMS : (49 - (i + 1)) * 100 < N := by omega
          clear hf HSN HK
          go_wp2_with fail
          refine wp_goto ?_
          exact .inl ⟨rfl, ⟨i + 1, hi, _, us, _, _, _, _, _, _, _, _, _, _, _, _, _, _, _, _, _, _, _, _, _, _, _, _, _, _, _, _, _, _, _, _, _, _, _, rfl, rfl, by omega, by rw [HE.out]; exact hJ4, rB4⟩, hMS⟩
    · obtain rfl : k = O.length := by omega
      have hee : ((O.length : Int) == (O.length : Int)) = true := by simp
      have HE : Hid (orbL (allL p m (L.take (i + 1)) xs) = O ++ [X]) := Lib.hid (by
        have hk2 := HK.out
        rw [List.take_length] at hk2
        rw [HN.out, orbS, hk2]
        rfl)
      have hMS : (49 - (i + 1)) * 100 < N := by omega
      have hb4 : Below wr.heap.size wr (wr.alloc (.cells #[.int .i64 p, .int .i64 (m : Int), .slice ba X.length bc] 39)) := box1 _ _
      have st4 := hJ.mkk.below hb4
      have hmx : O.length + 1 ≤ maxLen := by unfold maxLen; omega
      have hmb : (O.length + 1) * 40 ≤ 140737488355328 := by omega
      have hVr : V.heap.size ≤ wr.heap.size := hJ.grow.size
      have hbs : V.heap.size ≤ (wr.alloc (.cells #[.int .i64 p, .int .i64 (m : Int), .slice ba X.length bc] 39)).heap.size := Nat.le_trans hVr hb4.size
      have hJ4 := hJ.below hb4
      have rB4 := rowIs_below rB hb4 rB.lt
      have hbv4 : OwnP _ b1 (.slice ba X.length bc) X := owns_belowT hbv hb4
      clear HK hN1
      go_wp2_with (at_builtin; refine wpList_append_lies _ rfl _ _ 30 rfl V.heap.size 39 i0 _ 3 40 Tryz.underlying30 hi0 hz0 hz1 hz2 rfl (by decide) (.slice sa O.length sc) O.length (cellsQ p m us) rfl st4.rows ⟨wr.heap.size, 0, none⟩ 1 1 [.int .i64 p, .int .i64 (m : Int), .slice ba X.length bc] rfl rfl (one_poly wr p (m : Int) _) (by intro y hy; simp at hy; rcases hy with rfl | rfl | rfl <;> rfl) (by omega) hmx hmb hbs _ rfl ?_)
      intro gg cap3 w8 hown8 hgrow8 hat8 hlt8
      have stN := st4.more (u := .slice ba X.length bc) (X := X) (hi2 := (wr.alloc (.cells #[.int .i64 p, .int .i64 (m : Int), .slice ba X.length bc] 39)).heap.size) hbv4 hib (Nat.le_trans hJ.hi2 hib) (Nat.le_refl _) hgrow8 hown8
      have hbl8 : ∀ q, (Value.slice sa O.length sc).ownBlock = some q → V.heap.size ≤ q := fun q hq => (st4.rows.lt q hq).1
      have hgr8 : V.grownBy w8 (some W.heap.size) := by
        refine ⟨hgrow8.os.trans hJ4.grow.os, hgrow8.tape.trans hJ4.grow.tape, hgrow8.output.trans hJ4.grow.output, Nat.le_trans hJ4.grow.size hgrow8.size, fun q hq hne => ?_⟩
        exact (hgrow8.block q (Nat.lt_of_lt_of_le hq hJ4.grow.size) (fun e => by have := hbl8 q e.symm; omega)).trans (hJ4.grow.block q hq hne)
      have hrow8 : ∀ (bq : Nat) (F : Nat → Value), bq < V.heap.size → (wr.alloc (.cells #[.int .i64 p, .int .i64 (m : Int), .slice ba X.length bc] 39)).rowIs bq 39 3 F → w8.rowIs bq 39 3 F := fun bq F hq hr => hr.of_block (hgrow8.block bq hr.lt (fun e => by have := hbl8 bq e.symm; omega))
      have hJ8 : PoJ w V w8 w.heap.size W.heap.size _ p m (.slice ua xs.length uc) _ _ (O ++ [X]) := ⟨stN, hgrow8.size, hbs, hgr8, hrow8 _ _ (by omega) hJ4.arg⟩
      have rB8 := hrow8 _ _ hbxV rB4
      clear hown8 hgrow8 hat8 st4 stN hgr8 hrow8 hJ4 rB4 hbl8
      go_wp2_with fail
      refine wp_goto ?_
      exact .inl ⟨rfl, ⟨i + 1, _, _, _, _, _, _, _, _, _, _, _, _, _, _, _, _, _, _, _, _, _, _, _, _, _, _, _, _, _, _, _, _, _, _, _, _, _, _, rfl, rfl, by omega, by rw [HE.out]; exact hJ8, rB8⟩, hMS⟩
  · rintro key N a' wr ⟨i, hi, sv, us, P, D, bv, s7, s8, u2, u9, u10, u11, u12, u13, u14, u15, u16, u17, u18, u19, u20, u21, u22, u23, u24, u25, u26, u27, u28, u29, u30, u31, u32, u33, u34, u35, u36, u37, rfl, rfl, hiL, hJ, rB⟩ hN
    have KEY := Lib.hid key
    clear key hst hV
    have hN1 : (49 - i) * 100 ≤ N := hN
    clear hN
    unfold frPo
    obtain ⟨sa, sc, rfl⟩ := hJ.mkk.shape
    by_cases hlt : i < L.length
    · have hne : ((i : Int) == (L.length : Int)) = false := by simp; omega
      have hlt' : (i : Int) < (L.length : Int) := by omega
      have hbr : Below w.heap.size w wr := hbwV.grown hJ.grow hbwV.size (fun q e => by simp at e; omega)
      obtain ⟨B, c0, hB⟩ := HAA.out wr hbr i hlt
      have HA := Lib.hid (fun w' h1 h2 => HG.out.act (List.getElem_mem hlt) B (.slice ua xs.length uc) w' h1 h2)
      have HX := Lib.hid (HG.out.len (List.getElem_mem hlt))
      have HN := Lib.hid (show orbL (allL p m (L.take (i + 1)) xs) = orbS (orbL (allL p m (L.take i) xs)) (ledF p m xs L[i]) by rw [allL_snoc p m L xs i hlt, orbL_snoc])
      have hbd : Below wr.heap.size wr wr.drew := (Below.refl _ _).drew
      have hUd : SliceT wr.drew (.slice ua xs.length uc) xs := (hU.below hbr).below hbd
      have hBd : ActW wr.drew B p m L[i] := hB.below hbd
      generalize ledF p m xs L[i] = X at *
      obtain ⟨⟨p0, p1, p2⟩, _⟩ := poly3 hJ.arg
      obtain ⟨ol, hol⟩ : ∃ ol, (orbL (allL p m (L.take i) xs)).length = ol := ⟨_, rfl⟩
      rw [hol]
      go_wp2_with fail
      go_cut [6] (fun s wx => s = .pointer (some ⟨W.heap.size, 0, none⟩) ∧ ∃ bv, wx.rowIs W.heap.size 39 3 (polyF p (m : Int) bv) ∧ OwnP wx wr.heap.size bv X ∧ PoJ w V wx w.heap.size W.heap.size hi p m (.slice ua xs.length uc) (.slice sa ol sc) us (orbL (allL p m (L.take i) xs)))
      case first =>
        go_region_with
          ((go_at_call 120; (with_reducible refine (HA.out _ hBd hUd).mono ?_); rintro e w3 ⟨v3, rfl, ho3, hb3⟩; have HB3 := hbd.trans hb3; have rB3 := rowIs_below rB HB3 rB.lt; (obtain ⟨⟨e0, e1, e2⟩, f0, f1, f2⟩ := poly3 rB3); (obtain ⟨sa3, sc3, rfl⟩ := owns_slice ho3)))
        all_goals
          have hset := setB3 rB3 (OwnP.slice ho3) p (m : Int)
          have hoN : OwnP _ wr.heap.size (.slice sa3 X.length sc3) X := rep_own3 (i0 := 0) (i1 := 1) (i2 := 2) (x0 := .int .i64 p) (x1 := .int .i64 (m : Int)) (x2 := .slice sa3 X.length sc3) ho3 rB3
          have hJN := (hJ.below HB3).box hbxV hfx (.int .i64 p) (.int .i64 (m : Int)) (.slice sa3 X.length sc3)
          rw [hol] at hJN
          go_wp2_with fail
          go_meet
          exact ⟨rfl, _, hset.1, hoN, hJN⟩
      case rest =>
        rename World => wx
        obtain ⟨rfl, bv3, rB3, ho3, hJ3⟩ := hcut
        have hhi := hJ.hi1
        have hMS : (49 - (i + 1)) * 100 + 99 - 0 ≤ N := by omega
        have HK : Hid (((orbL (allL p m (L.take i) xs)).take 0).any (fun Y => sameT Y X) = false) := Lib.hid (by simp)
        clear p0 p1 p2 c0 hB hBd hUd HA hJ rB hN1
        go_wp2_with fail
        go_step3
        go_step
        go_step
        exact KEY.out N _ _ ⟨i, 0, hi, _, _, us, X, _, _, _, _, _, _, _, _, _, _, _, _, _, _, _, _, _, _, _, _, _, _, _, _, _, _, _, _, _, _, _, _, _, rfl, by go_num, rfl, hlt, by omega, hJ3, rB3, ho3, hhi, HN, HX.out, HK⟩ hMS
    · obtain rfl : i = L.length := by omega
      have hee : ((L.length : Int) == (L.length : Int)) = true := by simp
      have hbr : Below w.heap.size w wr := hbwV.grown hJ.grow hbwV.size (fun q e => by simp at e; omega)
      have hM := hJ.mkk.low hbwV.size
      rw [List.take_length] at hM ⊢
      have HM := Lib.hid hM
      obtain ⟨ol, hol⟩ : ∃ ol, (orbL (allL p m L xs)).length = ol := ⟨_, rfl⟩
      rw [hol] at HM ⊢
      clear hM hJ hN1 KEY hol
      go_wp2_with fail
      refine byLabels_ret ?_
      exact bodyPost_ret (v := .slice sa ol sc) (by simp [results, Tryz.results52, go_sem]) rfl ⟨_, _, _, rfl, HM.out, hbr⟩
  · intro key
    have KEY := Lib.hid key
    clear key
    refine ⟨(49 - 0) * 100, ?_⟩
    go_wp2_with fail
    rw [← hV]
    go_step3
    go_step
    go_step
    exact KEY.out _ _ _ ⟨0, _, _, _, _, _, _, _, _, _, _, _, _, _, _, _, _, _, _, _, _, _, _, _, _, _, _, _, _, _, _, _, _, _, _, _, _, _, _, rfl, rfl, by omega, hst, rb⟩ (Nat.le_refl _)
end Go.Proofs.YtllklhakbanhaaaGreat
