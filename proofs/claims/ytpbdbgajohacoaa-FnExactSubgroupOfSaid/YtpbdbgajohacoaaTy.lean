/-
  SETS of matrices in a map of bools, by the program. Conditions: as each theorem states.
  A body with several labels, each of which a goto may lead back to: a relation and a measure by label. Conditions: none.
  GROUPS OF LISTS: 'impl.closure', walked. Conditions: the matrices' numbers fit.
-/
import Derived.Test.YtpbdbgajohacoaaTz
import Derived.ScopeJumps
import Derived.WalkMore
import Derived.Deep.AppendLies
namespace Go.Proofs.Ytpbdbgajohacoaa
open Go.RowKit Go.Sort Go.Maps EchM

abbrev MapB (w : World) (b n : Nat) (D : DataW Unit) : Prop := w.ownsMap Try.prog 55 (plainElem Try.prog 4) b n D
theorem MapB.isMap {w : World} {b n : Nat} {D : DataW Unit} (h : MapB w b n D) : IsMap D := by
  obtain ⟨es, hD, _⟩ := h.entries lawM
  exact ⟨es, hD⟩
theorem MapB.later {w w' : World} {b n : Nat} {D : DataW Unit} (h : MapB w b n D) (hb : Below w.heap.size w w') : MapB w' b n D :=
  h.kept (row := none) ⟨hb.os, hb.tape, hb.output, hb.size, fun k hk _ => hb.block k hk⟩ (by simp)
/-- What the map says: which matrices are in the list. -/
def SetD (D : DataW Unit) (O : List (Nat → Nat → Int)) : Prop := ∀ g, byteM g → D.atKey (kM g) (.lit (.bool false)) = .lit (.bool (decide (0 ≤ findM O g)))
theorem SetD.start : SetD (.map []) [] := fun _ _ => rfl
theorem find_snoc (O : List (Nat → Nat → Int)) (x g : Nat → Nat → Int) : decide (0 ≤ findM (O ++ [x]) g) = (decide (0 ≤ findM O g) || eqM x g) := by
  have h1 := findA_in g (O ++ [x]) 0
  have h2 := findA_in g O 0
  unfold findM
  rw [Bool.eq_iff_iff]
  simp only [Bool.or_eq_true, decide_eq_true_eq]
  rw [h1, h2]
  simp only [List.mem_append, List.mem_singleton]
  constructor
  · rintro ⟨y, hy | rfl, he⟩
    · exact .inl ⟨y, hy, he⟩
    · exact .inr he
  · rintro (⟨y, hy, he⟩ | he)
    · exact ⟨y, .inl hy, he⟩
    · exact ⟨x, .inr rfl, he⟩
theorem SetD.put {D : DataW Unit} {O : List (Nat → Nat → Int)} {x : Nat → Nat → Int} (hD : IsMap D) (h : SetD D O) (hx : byteM x) : SetD (D.put (kM x) (.lit (.bool true))) (O ++ [x]) := fun g hg => by
  rw [find_snoc]
  by_cases e : eqM x g = true
  · rw [kM_congr (g := g) (h := x) (fun i j hi hj => (eqM_iff.1 e i j hi hj).symm), atKey_put_same hD (kM_key _), e]
    simp
  · have hne : kM g ≠ kM x := fun q => e (eqM_iff.2 fun i j hi hj => (kM_inj hg hx q i j hi hj).symm)
    rw [atKey_put_other hne, h g hg]
    simp at e
    simp [e]
theorem zeroBM (w : World) : (zeroValue 4).run Try.prog w = .ok (.bool false) w := by kernel_rfl
theorem bool_inv {v : Value} {B : Bool} {ps : List MemPlace} (h : plainElem (H := Unit) Try.prog 4 v = some (.lit (.bool B), ps)) : v = .bool B := by
  cases v <;> simp_all [plainElem]
theorem mapB_look {w : World} {b n : Nat} {D : DataW Unit} {O : List (Nat → Nat → Int)} (h : MapB w b n D) (hs : SetD D O) {g : Nat → Nat → Int} (hg : byteM g) :
    (Instr.lookup 90 (.map (some b)) (.agg #[.int .u8 (g 0 0), .int .u8 (g 0 1), .int .u8 (g 0 2), .int .u8 (g 1 0), .int .u8 (g 1 1), .int .u8 (g 1 2), .int .u8 (g 2 0), .int .u8 (g 2 1), .int .u8 (g 2 2)]) false).run Try.prog w = .ok (.bool (decide (0 ≤ findM O g))) w := by
  obtain ⟨v, ps, hrun, hv⟩ := h.lookup lawM Try.underlying90 (zeroBM w) (plainElem_bool Try.underlying4 false) (keyOf_mv g hg)
  rw [hs g hg] at hv
  have := bool_inv hv
  subst this
  exact hrun
end Go.Proofs.Ytpbdbgajohacoaa
namespace Go.Proofs.Ytpbdbgajohacoaa
open Go

/-- A way out by a goto meets J of its label; every other way out meets Q. -/
def byLabels (J : Nat → Act → World → Prop) (Q : Exit → Act → World → Prop) : Exit → Act → World → Prop
  | .goto l, a, w => J l a w
  | e, a, w => Q e a w

/-- From each label on the rest of the body lowers the measure wherever it jumps again: then the body ends as Q says. -/
theorem scope_labels {P : Program} {a : Act} {w : World} {Q : Exit → Act → World → Prop} {c : Code} (tail : Nat → Code) (J : Nat → Act → World → Prop) (size : Nat → Act → World → Nat)
    (known : ∀ l a w, J l a w → findLabel c l = some (tail l)) (first : c.wp P (byLabels J Q) a w)
    (again : ∀ l a w, J l a w → (tail l).wp P (byLabels (fun l' a' w' => J l' a' w' ∧ size l' a' w' < size l a w) Q) a w) : (Code.scope c).wp P Q a w := by
  intro b k cs
  have from_label : ∀ m l a w, size l a w ≤ m → J l a w → ∃ e a' w', Q e a' w' ∧ Arrives P (lone (b.at a (.code (tail l) :: .inScope c :: k)) cs w) b k cs e a' w' := by
    intro m
    induction m with
    | zero =>
      intro l a w hm hJ
      obtain ⟨e, a₁, w₁, hq, harr⟩ := again l a w hJ b (.inScope c :: k) cs
      cases e with
      | goto l' => exact absurd hq.2 (by omega)
      | normal => exact ⟨.normal, a₁, w₁, hq, Steps.trans harr (.one step_inScope)⟩
      | exit id => exact ⟨.exit id, a₁, w₁, hq, fun k' hk => harr k' (by simp [exitTo, hk])⟩
      | ret => exact ⟨_, a₁, w₁, hq, harr⟩
      | panic ch => exact ⟨_, a₁, w₁, hq, harr⟩
      | outgrown => exact ⟨_, a₁, w₁, hq, harr⟩
    | succ m ih =>
      intro l a w hm hJ
      obtain ⟨e, a₁, w₁, hq, harr⟩ := again l a w hJ b (.inScope c :: k) cs
      cases e with
      | goto l' =>
        obtain ⟨e₂, a₂, w₂, hq₂, harr₂⟩ := ih l' a₁ w₁ (by have := hq.2; omega) hq.1
        exact ⟨e₂, a₂, w₂, hq₂, .of_steps (harr _ (by simp [gotoIn, known l' a₁ w₁ hq.1])) harr₂⟩
      | normal => exact ⟨.normal, a₁, w₁, hq, Steps.trans harr (.one step_inScope)⟩
      | exit id => exact ⟨.exit id, a₁, w₁, hq, fun k' hk => harr k' (by simp [exitTo, hk])⟩
      | ret => exact ⟨_, a₁, w₁, hq, harr⟩
      | panic ch => exact ⟨_, a₁, w₁, hq, harr⟩
      | outgrown => exact ⟨_, a₁, w₁, hq, harr⟩
  obtain ⟨e, a₁, w₁, hq, harr⟩ := first b (.inScope c :: k) cs
  cases e with
  | goto l =>
    obtain ⟨e₂, a₂, w₂, hq₂, harr₂⟩ := from_label _ l a₁ w₁ (Nat.le_refl _) hq
    exact ⟨e₂, a₂, w₂, hq₂, .of_steps (.head step_scope (harr _ (by simp [gotoIn, known l a₁ w₁ hq]))) harr₂⟩
  | normal => exact ⟨.normal, a₁, w₁, hq, .head step_scope (Steps.trans harr (.one step_inScope))⟩
  | exit id => exact ⟨.exit id, a₁, w₁, hq, fun k' hk => .head step_scope (harr k' (by simp [exitTo, hk]))⟩
  | ret => exact ⟨_, a₁, w₁, hq, .of_steps (.one step_scope) harr⟩
  | panic ch => exact ⟨_, a₁, w₁, hq, .of_steps (.one step_scope) harr⟩
  | outgrown => exact ⟨_, a₁, w₁, hq, .of_steps (.one step_scope) harr⟩
/-- What a jump to one of two labels owes: its relation, and less than N. -/
def twoJumps (J0 J1 : Act → World → Prop) (s0 s1 : Act → World → Nat) (N : Nat) (l : Nat) (a : Act) (w : World) : Prop :=
  (l = 0 ∧ J0 a w ∧ s0 a w < N) ∨ (l = 1 ∧ J1 a w ∧ s1 a w < N)
/-- Two labels, 0 and 1; what stands behind label 1 is walked once, and serves where the run comes to it from label 0. -/
theorem scope_two {P : Program} {a : Act} {w : World} {Q : Exit → Act → World → Prop} {c t0 t1 : Code} (h0 : findLabel c 0 = some t0) (h1 : findLabel c 1 = some t1) (J0 J1 : Act → World → Prop) (s0 s1 : Act → World → Nat)
    (again1 : ∀ N a w, J1 a w → s1 a w ≤ N → t1.wp P (byLabels (twoJumps J0 J1 s0 s1 N) Q) a w)
    (again0 : (∀ N a w, J1 a w → s1 a w ≤ N → t1.wp P (byLabels (twoJumps J0 J1 s0 s1 N) Q) a w) → ∀ N a w, J0 a w → s0 a w ≤ N → t0.wp P (byLabels (twoJumps J0 J1 s0 s1 N) Q) a w)
    (first : (∀ N a w, J0 a w → s0 a w ≤ N → t0.wp P (byLabels (twoJumps J0 J1 s0 s1 N) Q) a w) → ∃ N, c.wp P (byLabels (twoJumps J0 J1 s0 s1 N) Q) a w) : (Code.scope c).wp P Q a w := by
  obtain ⟨N, hN⟩ := first (again0 again1)
  refine scope_labels (fun l => if l = 0 then t0 else t1) (fun l a w => (l = 0 ∧ J0 a w) ∨ (l = 1 ∧ J1 a w)) (fun l a w => if l = 0 then s0 a w else s1 a w) ?_ ?_ ?_
  · rintro l a w (⟨rfl, _⟩ | ⟨rfl, _⟩)
    · exact h0
    · exact h1
  · refine Code.wp_mono (fun e a w h => ?_) hN
    cases e <;> first | exact h | skip
    rcases h with ⟨h1, h2, _⟩ | ⟨h1, h2, _⟩
    · exact .inl ⟨h1, h2⟩
    · exact .inr ⟨h1, h2⟩
  · rintro l a w (⟨rfl, hJ⟩ | ⟨rfl, hJ⟩)
    · refine Code.wp_mono (fun e a w h => ?_) (again0 again1 _ a w hJ (Nat.le_refl _))
      cases e <;> first | exact h | skip
      rcases h with ⟨rfl, h2, h3⟩ | ⟨rfl, h2, h3⟩
      · exact ⟨.inl ⟨rfl, h2⟩, h3⟩
      · exact ⟨.inr ⟨rfl, h2⟩, h3⟩
    · refine Code.wp_mono (fun e a w h => ?_) (again1 _ a w hJ (Nat.le_refl _))
      cases e <;> first | exact h | skip
      rcases h with ⟨rfl, h2, h3⟩ | ⟨rfl, h2, h3⟩
      · exact ⟨.inl ⟨rfl, h2⟩, h3⟩
      · exact ⟨.inr ⟨rfl, h2⟩, h3⟩
/-- Each label's rest without the label itself. -/
theorem scope_two_rest {P : Program} {a : Act} {w : World} {Q : Exit → Act → World → Prop} {c r0 r1 : Code} (h0 : findLabel c 0 = some (.seq .skip r0)) (h1 : findLabel c 1 = some (.seq .skip r1)) (J0 J1 : Act → World → Prop) (s0 s1 : Act → World → Nat)
    (again1 : ∀ N a w, J1 a w → s1 a w ≤ N → r1.wp P (byLabels (twoJumps J0 J1 s0 s1 N) Q) a w)
    (again0 : (∀ N a w, J1 a w → s1 a w ≤ N → r1.wp P (byLabels (twoJumps J0 J1 s0 s1 N) Q) a w) → ∀ N a w, J0 a w → s0 a w ≤ N → r0.wp P (byLabels (twoJumps J0 J1 s0 s1 N) Q) a w)
    (first : (∀ N a w, J0 a w → s0 a w ≤ N → r0.wp P (byLabels (twoJumps J0 J1 s0 s1 N) Q) a w) → ∃ N, c.wp P (byLabels (twoJumps J0 J1 s0 s1 N) Q) a w) : (Code.scope c).wp P Q a w :=
  scope_two h0 h1 J0 J1 s0 s1 (fun N a w hJ hs => wp_seq (wp_skip (again1 N a w hJ hs))) (fun _ N a w hJ hs => wp_seq (wp_skip (again0 again1 N a w hJ hs))) fun _ => first (again0 again1)
end Go.Proofs.Ytpbdbgajohacoaa
namespace Go.Proofs.Ytpbdbgajohacoaa
open Go.RowKit Go.Sort Go.Maps EchM

theorem grown_set1 {w w' : World} {A : Nat} (h : w.grownBy w' (some A)) (o : Nat) (v : Value) : w.grownBy (w'.setCell ⟨A, o, none⟩ v) (some A) :=
  h.trans ⟨rfl, rfl, rfl, by rw [World.size_setCell]; exact Nat.le_refl _, fun k hk hk2 => Below.heap_setCell w' ⟨A, o, none⟩ v k (fun e => hk2 (by rw [e]))⟩
theorem grown_set9 (w : World) (A : Nat) (v0 v1 v2 v3 v4 v5 v6 v7 v8 : Value) : w.grownBy (((((((((w.setCell ⟨A, 0, none⟩ v0).setCell ⟨A, 1, none⟩ v1).setCell ⟨A, 2, none⟩ v2).setCell ⟨A, 3, none⟩ v3).setCell ⟨A, 4, none⟩ v4).setCell ⟨A, 5, none⟩ v5).setCell ⟨A, 6, none⟩ v6).setCell ⟨A, 7, none⟩ v7).setCell ⟨A, 8, none⟩ v8) (some A) :=
  grown_set1 (grown_set1 (grown_set1 (grown_set1 (grown_set1 (grown_set1 (grown_set1 (grown_set1 (grown_set1 (World.grownBy.refl w _) _ _) _ _) _ _) _ _) _ _) _ _) _ _) _ _) _ _
theorem below_then {w w1 w2 : World} {A : Nat} (h : Below w.heap.size w w1) (hg : w1.grownBy w2 (some A)) : w.grownBy w2 (some A) :=
  ⟨hg.os.trans h.os, hg.tape.trans h.tape, hg.output.trans h.output, Nat.le_trans h.size hg.size, fun k hk hne => (hg.block k (Nat.lt_of_lt_of_le hk h.size) hne).trans (h.block k hk)⟩
theorem nine_grown {w w' : World} {b off k A : Nat} {x : Nat → Nat → Int} (h : ((w.cell? ⟨b, off + k * 9, none⟩ = some (.int .u8 (x 0 0)) ∧ w.cell? ⟨b, off + k * 9 + 1, none⟩ = some (.int .u8 (x 0 1)) ∧ w.cell? ⟨b, off + k * 9 + 2, none⟩ = some (.int .u8 (x 0 2))) ∧ (w.cell? ⟨b, off + k * 9 + 3, none⟩ = some (.int .u8 (x 1 0)) ∧ w.cell? ⟨b, off + k * 9 + 4, none⟩ = some (.int .u8 (x 1 1)) ∧ w.cell? ⟨b, off + k * 9 + 5, none⟩ = some (.int .u8 (x 1 2))) ∧ (w.cell? ⟨b, off + k * 9 + 6, none⟩ = some (.int .u8 (x 2 0)) ∧ w.cell? ⟨b, off + k * 9 + 7, none⟩ = some (.int .u8 (x 2 1)) ∧ w.cell? ⟨b, off + k * 9 + 8, none⟩ = some (.int .u8 (x 2 2))))) (hg : w.grownBy w' (some A)) (hlt : b < w.heap.size) (hne : b ≠ A) : ((w'.cell? ⟨b, off + k * 9, none⟩ = some (.int .u8 (x 0 0)) ∧ w'.cell? ⟨b, off + k * 9 + 1, none⟩ = some (.int .u8 (x 0 1)) ∧ w'.cell? ⟨b, off + k * 9 + 2, none⟩ = some (.int .u8 (x 0 2))) ∧ (w'.cell? ⟨b, off + k * 9 + 3, none⟩ = some (.int .u8 (x 1 0)) ∧ w'.cell? ⟨b, off + k * 9 + 4, none⟩ = some (.int .u8 (x 1 1)) ∧ w'.cell? ⟨b, off + k * 9 + 5, none⟩ = some (.int .u8 (x 1 2))) ∧ (w'.cell? ⟨b, off + k * 9 + 6, none⟩ = some (.int .u8 (x 2 0)) ∧ w'.cell? ⟨b, off + k * 9 + 7, none⟩ = some (.int .u8 (x 2 1)) ∧ w'.cell? ⟨b, off + k * 9 + 8, none⟩ = some (.int .u8 (x 2 2)))) :=
  have q : ∀ o, w'.cell? ⟨b, o, none⟩ = w.cell? ⟨b, o, none⟩ := fun o => hg.cell_far ⟨b, o, none⟩ hlt (fun e => hne (by simpa using e))
  ⟨⟨(q _).trans h.1.1, (q _).trans h.1.2.1, (q _).trans h.1.2.2⟩, ⟨(q _).trans h.2.1.1, (q _).trans h.2.1.2.1, (q _).trans h.2.1.2.2⟩, (q _).trans h.2.2.1, (q _).trans h.2.2.2.1, (q _).trans h.2.2.2.2⟩
theorem row_grown {w w' : World} {b n A : Nat} {t : TypeId} {f : Nat → Value} (h : w.rowIs b t n f) (hg : w.grownBy w' (some A)) (hne : b ≠ A) : w'.rowIs b t n f := h.of_block (hg.block b h.lt (fun e => hne (by simpa using e)))

/-- What stands in memory at a jump: the elements, the set, the box. -/
structure Clo (w wr : World) (bm bx g l sc : Nat) (O : List (Nat → Nat → Int)) (D : DataW Unit) : Prop where
  own : wr.ownsRow w.heap.size 55 9 (.slice (some ⟨g, 0, none⟩) l sc) l (cells9 O)
  len : O.length = l
  map : MapB wr bm l D
  set : SetD D O
  box : ∃ q, wr.rowIs bx 55 9 (mF q)
  ne : g ≠ bx
  nm : g ≠ bm
  nb : bx ≠ bm
  below : Below w.heap.size w wr
  bas : w.heap.size ≤ bm ∧ w.heap.size ≤ bx ∧ bm < wr.heap.size
theorem Clo.stored {w wr wx : World} {bm bx g l sc : Nat} {O : List (Nat → Nat → Int)} {D : DataW Unit} {q : Nat → Nat → Int} (h : Clo w wr bm bx g l sc O D) (hg : wr.grownBy wx (some bx)) (hr : wx.rowIs bx 55 9 (mF q)) : Clo w wx bm bx g l sc O D :=
  ⟨h.own.kept hg (.inr (by simpa [Value.ownBlock] using h.ne)), h.len, h.map.kept hg (by simpa using fun e => h.nb e.symm), h.set, ⟨q, hr⟩, h.ne, h.nm, h.nb, h.below.grown hg h.below.size (fun k e => by have := h.bas; simp at e; omega), h.bas.1, h.bas.2.1, Nat.lt_of_lt_of_le h.bas.2.2 hg.size⟩
def frF (p : Int) (n : Nat) (a : Option Addr) (m cap bm bx g l sc : Nat) (s10 s11 : Value) (u3 u4 u5 u13 u14 u15 u16 u17 u18 u19 u20 u21 u22 u23 u24 u25 u26 u27 u28 u29 u30 u31 u32 u33 u34 u35 u36 u37 u38 u39 u40 u41 u42 u43 u44 u45 u46 u47 u48 u49 u50 u51 u52 u53 u54 u55 : Value) : Act := { tmps := #[.int .i64 p, .int .i64 (n : Int), .slice a m cap, u3, u4, u5, .slice none 0 0, .bool false, .slice (some ⟨g, 0, none⟩) l sc, .map (some bm), s10, s11, .pointer (some ⟨bx, 0, none⟩), u13, u14, u15, u16, u17, u18, u19, u20, u21, u22, u23, u24, u25, u26, u27, u28, u29, u30, u31, u32, u33, u34, u35, u36, u37, u38, u39, u40, u41, u42, u43, u44, u45, u46, u47, u48, u49, u50, u51, u52, u53, u54, u55], defers := [] }
def CJ0 (p : Int) (n : Nat) (G : List (Nat → Nat → Int)) (a : Option Addr) (cap : Nat) (w : World) (a' : Act) (wr : World) : Prop :=
  ∃ (bm bx g l sc i : Nat) (O : List (Nat → Nat → Int)) (D : DataW Unit) (s10 s11 u3 u4 u5 u13 u14 u15 u16 u17 u18 u19 u20 u21 u22 u23 u24 u25 u26 u27 u28 u29 u30 u31 u32 u33 u34 u35 u36 u37 u38 u39 u40 u41 u42 u43 u44 u45 u46 u47 u48 u49 u50 u51 u52 u53 u54 u55 : Value), a' = frF p n a G.length cap bm bx g l sc s10 s11 u3 u4 u5 u13 u14 u15 u16 u17 u18 u19 u20 u21 u22 u23 u24 u25 u26 u27 u28 u29 u30 u31 u32 u33 u34 u35 u36 u37 u38 u39 u40 u41 u42 u43 u44 u45 u46 u47 u48 u49 u50 u51 u52 u53 u54 u55 ∧ s10 = .int .i64 (i : Int) ∧ i ≤ l ∧ l ≤ 48 ∧ Hid (Bfs p n G O i 0) ∧ Clo w wr bm bx g l sc O D
def CJ1 (p : Int) (n : Nat) (G : List (Nat → Nat → Int)) (a : Option Addr) (cap : Nat) (w : World) (a' : Act) (wr : World) : Prop :=
  ∃ (bm bx g l sc i k : Nat) (O : List (Nat → Nat → Int)) (D : DataW Unit) (s10 s11 u3 u4 u5 u13 u14 u15 u16 u17 u18 u19 u20 u21 u22 u23 u24 u25 u26 u27 u28 u29 u30 u31 u32 u33 u34 u35 u36 u37 u38 u39 u40 u41 u42 u43 u44 u45 u46 u47 u48 u49 u50 u51 u52 u53 u54 u55 : Value), a' = frF p n a G.length cap bm bx g l sc s10 s11 u3 u4 u5 u13 u14 u15 u16 u17 u18 u19 u20 u21 u22 u23 u24 u25 u26 u27 u28 u29 u30 u31 u32 u33 u34 u35 u36 u37 u38 u39 u40 u41 u42 u43 u44 u45 u46 u47 u48 u49 u50 u51 u52 u53 u54 u55 ∧ s10 = .int .i64 (i : Int) ∧ s11 = .int .i64 (k : Int) ∧ i < l ∧ k ≤ G.length ∧ l ≤ 48 ∧ Hid (Bfs p n G O i k) ∧ Clo w wr bm bx g l sc O D
def MS0 (m : Nat) (a : Act) (_ : World) : Nat := (49 - (intOf (a.tmps.getD 10 undef)).toNat) * (m + 2)
def MS1 (m : Nat) (a : Act) (_ : World) : Nat := (48 - (intOf (a.tmps.getD 10 undef)).toNat) * (m + 2) + (m + 1 - (intOf (a.tmps.getD 11 undef)).toNat)
theorem ms_fall {i m : Nat} (h : i ≤ 48) : (48 - i) * (m + 2) + (m + 1) ≤ (49 - i) * (m + 2) := by
  have : 49 - i = (48 - i) + 1 := by omega
  rw [this, Nat.succ_mul]
  omega

theorem byLabels_ret {J : Nat → Act → World → Prop} {Q : Exit → Act → World → Prop} {a : Act} {w : World} (h : Q .ret a w) : byLabels J Q .ret a w := h
set_option maxRecDepth 8000 in
set_option maxHeartbeats 16000000 in
theorem iclosure (p : Int) (n : Nat) (v : Value) (G : List (Nat → Nat → Int)) (w : World) (h2 : 2 ≤ p) (h13 : p ≤ 13) (n1 : 1 ≤ n) (n3 : n ≤ 3) (hl : G.length ≤ 1048576) (hG : ∀ g ∈ G, (∀ i, i < 3 → ∀ j, j < 3 → 0 ≤ g i j ∧ g i j < p) ∧ Out0 n g) (hS : SlM w v G) :
    Calls Try.prog 46 #[.int .i64 p, .int .i64 (n : Int), v] w fun e w' => ((∃ v' O, e = .returned (.tuple #[v', .bool true]) ∧ Closed48 p n G O ∧ OwnG9 w' w.heap.size v' O) ∨ (e = .returned (.tuple #[.slice none 0 0, .bool false]) ∧ Over48 p n G)) ∧ Below w.heap.size w w' := by
  obtain ⟨i0, hi, hz0, hz1, hz2⟩ := info_parts infoMat
  obtain ⟨u, hu⟩ : ∃ u, uM n = u := ⟨_, rfl⟩
  have HU := Lib.hid (fun w => iunit n u w n1 n3 hu)
  obtain ⟨a, cap, rfl, hSc⟩ := id hS
  have HG := Lib.hid hG
  have hub : byteM u := by rw [← hu]; exact uM_byte n
  have HSTART := Lib.hid (show Bfs p n G [cut3 u] 0 0 from by rw [← hu]; exact Bfs.start p n G)
  clear hG hu
  go_enter Try.func46, Try.ntmps46
  go_wp2_with fail
  refine scope_two_rest rfl rfl (CJ0 p n G a cap w) (CJ1 p n G a cap w) (MS0 G.length) (MS1 G.length) ?_ ?_ ?_
  · rintro N a' wr ⟨bm, bx, g, l, sc, i, k, O, D, s10, s11, u3, u4, u5, u13, u14, u15, u16, u17, u18, u19, u20, u21, u22, u23, u24, u25, u26, u27, u28, u29, u30, u31, u32, u33, u34, u35, u36, u37, u38, u39, u40, u41, u42, u43, u44, u45, u46, u47, u48, u49, u50, u51, u52, u53, u54, u55, rfl, rfl, rfl, hlt, hk, h48, HB, hC⟩ hN
    clear HU HSTART
    unfold frF
    have hN1 : (48 - i) * (G.length + 2) + (G.length + 1 - k) ≤ N := hN
    clear hN
    by_cases hkt : k < G.length
    · have hne : ((k : Int) == (G.length : Int)) = false := by simp; omega
      have hkt' : (k : Int) < (G.length : Int) := by omega
      have hlt' : (i : Int) < (l : Int) := by omega
      have hlen := hC.len
      have hltO : i < O.length := by omega
      have hMS : (48 - i) * (G.length + 2) + (G.length + 1 - (k + 1)) < N := by omega
      obtain ⟨b, off, rfl, hbb, hT⟩ : ∃ b off, a = some ⟨b, off, none⟩ ∧ b < w.heap.size ∧ MatsW w b off G := by
        rcases hSc with rfl | h
        · simp at hkt
        · exact h
      obtain ⟨hgl, hT1⟩ : g < wr.heap.size ∧ MatsW wr g 0 O := by
        obtain ⟨a2, c2, hv2, h | ⟨b2, off2, ha2, hl2, hT2⟩⟩ := OwnG9.slice (show OwnG9 wr w.heap.size (.slice (some ⟨g, 0, none⟩) l sc) O from by unfold OwnG9; rw [hlen]; exact hC.own)
        · rw [h] at hltO; simp at hltO
        · cases hv2
          cases ha2
          exact ⟨hl2, hT2⟩
      have hbltw : b < wr.heap.size := Nat.lt_of_lt_of_le hbb hC.below.size
      have hbx : b ≠ bx := by have := hC.bas.2.1; omega
      have hgx := hC.ne
      have h9y := (hT.below hC.below hbb).nine hkt
      have h9x := hT1.nine hltO
      obtain ⟨q, hqx⟩ := hC.box
      have hxl := hqx.lt
      obtain ⟨hgb, hgo⟩ := HG.out G[k] (List.getElem_mem hkt)
      obtain ⟨hxb, hxo⟩ := (HB.out.reach O[i] (List.getElem_mem hltO)).fit h2 (fun g hg => (HG.out g hg).2)
      obtain ⟨r, hr⟩ : ∃ r, prodM p O[i] G[k] = r := ⟨_, rfl⟩
      have hrb : byteM r := by rw [← hr]; exact prodM_byte h2 h13 _ _
      have HC := Lib.hid (fun w => iprod_bd p O[i] G[k] r w h2 h13 hxb hgb hr)
      have HP : Hid (pr3 p O[i] G[k] = cut3 r) := Lib.hid (by rw [pr3, hr])
      have HHIT := Lib.hid (fun (hm : cut3 r ∈ O) => HB.out.hit hltO hkt (by rw [HP.out]; exact hm))
      have HMISS : Hid (cut3 r ∉ O → Bfs p n G (O ++ [cut3 r]) i (k + 1)) := Lib.hid (fun hm => by
        have := HB.out.miss hltO hkt (by rw [HP.out]; exact hm)
        rwa [HP.out] at this)
      have HF : Hid (findM O r < 0 ↔ cut3 r ∉ O) := Lib.hid (by rw [find_same]; exact find_cut HB.out.cuts (cut_cut r))
      have HCL := Lib.hid hC
      have HLE := Lib.hid hlen
      clear hgb hgo hxb hxo hr HP HB hN1 hC hT hT1 hne
      generalize O[i] = x at *
      generalize G[k] = y at *
      have KKh := Lib.hid (fun w' (hq : Below wr.heap.size wr w') => show ((w'.cell? ⟨g, i * 9, none⟩ = some (.int .u8 (x 0 0)) ∧ w'.cell? ⟨g, i * 9 + 1, none⟩ = some (.int .u8 (x 0 1)) ∧ w'.cell? ⟨g, i * 9 + 2, none⟩ = some (.int .u8 (x 0 2))) ∧ (w'.cell? ⟨g, i * 9 + 3, none⟩ = some (.int .u8 (x 1 0)) ∧ w'.cell? ⟨g, i * 9 + 4, none⟩ = some (.int .u8 (x 1 1)) ∧ w'.cell? ⟨g, i * 9 + 5, none⟩ = some (.int .u8 (x 1 2))) ∧ (w'.cell? ⟨g, i * 9 + 6, none⟩ = some (.int .u8 (x 2 0)) ∧ w'.cell? ⟨g, i * 9 + 7, none⟩ = some (.int .u8 (x 2 1)) ∧ w'.cell? ⟨g, i * 9 + 8, none⟩ = some (.int .u8 (x 2 2)))) ∧ ((w'.cell? ⟨b, off + k * 9, none⟩ = some (.int .u8 (y 0 0)) ∧ w'.cell? ⟨b, off + k * 9 + 1, none⟩ = some (.int .u8 (y 0 1)) ∧ w'.cell? ⟨b, off + k * 9 + 2, none⟩ = some (.int .u8 (y 0 2))) ∧ (w'.cell? ⟨b, off + k * 9 + 3, none⟩ = some (.int .u8 (y 1 0)) ∧ w'.cell? ⟨b, off + k * 9 + 4, none⟩ = some (.int .u8 (y 1 1)) ∧ w'.cell? ⟨b, off + k * 9 + 5, none⟩ = some (.int .u8 (y 1 2))) ∧ (w'.cell? ⟨b, off + k * 9 + 6, none⟩ = some (.int .u8 (y 2 0)) ∧ w'.cell? ⟨b, off + k * 9 + 7, none⟩ = some (.int .u8 (y 2 1)) ∧ w'.cell? ⟨b, off + k * 9 + 8, none⟩ = some (.int .u8 (y 2 2)))) from ⟨by have := nine_belowB h9x hq hgl; simpa using this, nine_belowB h9y hq hbltw⟩)
      have KSh := Lib.hid (fun w' (hq : Below wr.heap.size wr w') (u0 u1 u2 u3 u4 u5 u6 u7 u8 : Int) => show (((((((((((w'.setCell ⟨bx, 0, none⟩ (.int .u8 (u0))).setCell ⟨bx, 1, none⟩ (.int .u8 (u1))).setCell ⟨bx, 2, none⟩ (.int .u8 (u2))).setCell ⟨bx, 3, none⟩ (.int .u8 (u3))).setCell ⟨bx, 4, none⟩ (.int .u8 (u4))).setCell ⟨bx, 5, none⟩ (.int .u8 (u5))).setCell ⟨bx, 6, none⟩ (.int .u8 (u6))).setCell ⟨bx, 7, none⟩ (.int .u8 (u7))).setCell ⟨bx, 8, none⟩ (.int .u8 (u8))).cell? ⟨g, i * 9, none⟩ = some (.int .u8 (x 0 0)) ∧ (((((((((w'.setCell ⟨bx, 0, none⟩ (.int .u8 (u0))).setCell ⟨bx, 1, none⟩ (.int .u8 (u1))).setCell ⟨bx, 2, none⟩ (.int .u8 (u2))).setCell ⟨bx, 3, none⟩ (.int .u8 (u3))).setCell ⟨bx, 4, none⟩ (.int .u8 (u4))).setCell ⟨bx, 5, none⟩ (.int .u8 (u5))).setCell ⟨bx, 6, none⟩ (.int .u8 (u6))).setCell ⟨bx, 7, none⟩ (.int .u8 (u7))).setCell ⟨bx, 8, none⟩ (.int .u8 (u8))).cell? ⟨g, i * 9 + 1, none⟩ = some (.int .u8 (x 0 1)) ∧ (((((((((w'.setCell ⟨bx, 0, none⟩ (.int .u8 (u0))).setCell ⟨bx, 1, none⟩ (.int .u8 (u1))).setCell ⟨bx, 2, none⟩ (.int .u8 (u2))).setCell ⟨bx, 3, none⟩ (.int .u8 (u3))).setCell ⟨bx, 4, none⟩ (.int .u8 (u4))).setCell ⟨bx, 5, none⟩ (.int .u8 (u5))).setCell ⟨bx, 6, none⟩ (.int .u8 (u6))).setCell ⟨bx, 7, none⟩ (.int .u8 (u7))).setCell ⟨bx, 8, none⟩ (.int .u8 (u8))).cell? ⟨g, i * 9 + 2, none⟩ = some (.int .u8 (x 0 2))) ∧ ((((((((((w'.setCell ⟨bx, 0, none⟩ (.int .u8 (u0))).setCell ⟨bx, 1, none⟩ (.int .u8 (u1))).setCell ⟨bx, 2, none⟩ (.int .u8 (u2))).setCell ⟨bx, 3, none⟩ (.int .u8 (u3))).setCell ⟨bx, 4, none⟩ (.int .u8 (u4))).setCell ⟨bx, 5, none⟩ (.int .u8 (u5))).setCell ⟨bx, 6, none⟩ (.int .u8 (u6))).setCell ⟨bx, 7, none⟩ (.int .u8 (u7))).setCell ⟨bx, 8, none⟩ (.int .u8 (u8))).cell? ⟨g, i * 9 + 3, none⟩ = some (.int .u8 (x 1 0)) ∧ (((((((((w'.setCell ⟨bx, 0, none⟩ (.int .u8 (u0))).setCell ⟨bx, 1, none⟩ (.int .u8 (u1))).setCell ⟨bx, 2, none⟩ (.int .u8 (u2))).setCell ⟨bx, 3, none⟩ (.int .u8 (u3))).setCell ⟨bx, 4, none⟩ (.int .u8 (u4))).setCell ⟨bx, 5, none⟩ (.int .u8 (u5))).setCell ⟨bx, 6, none⟩ (.int .u8 (u6))).setCell ⟨bx, 7, none⟩ (.int .u8 (u7))).setCell ⟨bx, 8, none⟩ (.int .u8 (u8))).cell? ⟨g, i * 9 + 4, none⟩ = some (.int .u8 (x 1 1)) ∧ (((((((((w'.setCell ⟨bx, 0, none⟩ (.int .u8 (u0))).setCell ⟨bx, 1, none⟩ (.int .u8 (u1))).setCell ⟨bx, 2, none⟩ (.int .u8 (u2))).setCell ⟨bx, 3, none⟩ (.int .u8 (u3))).setCell ⟨bx, 4, none⟩ (.int .u8 (u4))).setCell ⟨bx, 5, none⟩ (.int .u8 (u5))).setCell ⟨bx, 6, none⟩ (.int .u8 (u6))).setCell ⟨bx, 7, none⟩ (.int .u8 (u7))).setCell ⟨bx, 8, none⟩ (.int .u8 (u8))).cell? ⟨g, i * 9 + 5, none⟩ = some (.int .u8 (x 1 2))) ∧ ((((((((((w'.setCell ⟨bx, 0, none⟩ (.int .u8 (u0))).setCell ⟨bx, 1, none⟩ (.int .u8 (u1))).setCell ⟨bx, 2, none⟩ (.int .u8 (u2))).setCell ⟨bx, 3, none⟩ (.int .u8 (u3))).setCell ⟨bx, 4, none⟩ (.int .u8 (u4))).setCell ⟨bx, 5, none⟩ (.int .u8 (u5))).setCell ⟨bx, 6, none⟩ (.int .u8 (u6))).setCell ⟨bx, 7, none⟩ (.int .u8 (u7))).setCell ⟨bx, 8, none⟩ (.int .u8 (u8))).cell? ⟨g, i * 9 + 6, none⟩ = some (.int .u8 (x 2 0)) ∧ (((((((((w'.setCell ⟨bx, 0, none⟩ (.int .u8 (u0))).setCell ⟨bx, 1, none⟩ (.int .u8 (u1))).setCell ⟨bx, 2, none⟩ (.int .u8 (u2))).setCell ⟨bx, 3, none⟩ (.int .u8 (u3))).setCell ⟨bx, 4, none⟩ (.int .u8 (u4))).setCell ⟨bx, 5, none⟩ (.int .u8 (u5))).setCell ⟨bx, 6, none⟩ (.int .u8 (u6))).setCell ⟨bx, 7, none⟩ (.int .u8 (u7))).setCell ⟨bx, 8, none⟩ (.int .u8 (u8))).cell? ⟨g, i * 9 + 7, none⟩ = some (.int .u8 (x 2 1)) ∧ (((((((((w'.setCell ⟨bx, 0, none⟩ (.int .u8 (u0))).setCell ⟨bx, 1, none⟩ (.int .u8 (u1))).setCell ⟨bx, 2, none⟩ (.int .u8 (u2))).setCell ⟨bx, 3, none⟩ (.int .u8 (u3))).setCell ⟨bx, 4, none⟩ (.int .u8 (u4))).setCell ⟨bx, 5, none⟩ (.int .u8 (u5))).setCell ⟨bx, 6, none⟩ (.int .u8 (u6))).setCell ⟨bx, 7, none⟩ (.int .u8 (u7))).setCell ⟨bx, 8, none⟩ (.int .u8 (u8))).cell? ⟨g, i * 9 + 8, none⟩ = some (.int .u8 (x 2 2)))) ∧ (((((((((((w'.setCell ⟨bx, 0, none⟩ (.int .u8 (u0))).setCell ⟨bx, 1, none⟩ (.int .u8 (u1))).setCell ⟨bx, 2, none⟩ (.int .u8 (u2))).setCell ⟨bx, 3, none⟩ (.int .u8 (u3))).setCell ⟨bx, 4, none⟩ (.int .u8 (u4))).setCell ⟨bx, 5, none⟩ (.int .u8 (u5))).setCell ⟨bx, 6, none⟩ (.int .u8 (u6))).setCell ⟨bx, 7, none⟩ (.int .u8 (u7))).setCell ⟨bx, 8, none⟩ (.int .u8 (u8))).cell? ⟨b, off + k * 9, none⟩ = some (.int .u8 (y 0 0)) ∧ (((((((((w'.setCell ⟨bx, 0, none⟩ (.int .u8 (u0))).setCell ⟨bx, 1, none⟩ (.int .u8 (u1))).setCell ⟨bx, 2, none⟩ (.int .u8 (u2))).setCell ⟨bx, 3, none⟩ (.int .u8 (u3))).setCell ⟨bx, 4, none⟩ (.int .u8 (u4))).setCell ⟨bx, 5, none⟩ (.int .u8 (u5))).setCell ⟨bx, 6, none⟩ (.int .u8 (u6))).setCell ⟨bx, 7, none⟩ (.int .u8 (u7))).setCell ⟨bx, 8, none⟩ (.int .u8 (u8))).cell? ⟨b, off + k * 9 + 1, none⟩ = some (.int .u8 (y 0 1)) ∧ (((((((((w'.setCell ⟨bx, 0, none⟩ (.int .u8 (u0))).setCell ⟨bx, 1, none⟩ (.int .u8 (u1))).setCell ⟨bx, 2, none⟩ (.int .u8 (u2))).setCell ⟨bx, 3, none⟩ (.int .u8 (u3))).setCell ⟨bx, 4, none⟩ (.int .u8 (u4))).setCell ⟨bx, 5, none⟩ (.int .u8 (u5))).setCell ⟨bx, 6, none⟩ (.int .u8 (u6))).setCell ⟨bx, 7, none⟩ (.int .u8 (u7))).setCell ⟨bx, 8, none⟩ (.int .u8 (u8))).cell? ⟨b, off + k * 9 + 2, none⟩ = some (.int .u8 (y 0 2))) ∧ ((((((((((w'.setCell ⟨bx, 0, none⟩ (.int .u8 (u0))).setCell ⟨bx, 1, none⟩ (.int .u8 (u1))).setCell ⟨bx, 2, none⟩ (.int .u8 (u2))).setCell ⟨bx, 3, none⟩ (.int .u8 (u3))).setCell ⟨bx, 4, none⟩ (.int .u8 (u4))).setCell ⟨bx, 5, none⟩ (.int .u8 (u5))).setCell ⟨bx, 6, none⟩ (.int .u8 (u6))).setCell ⟨bx, 7, none⟩ (.int .u8 (u7))).setCell ⟨bx, 8, none⟩ (.int .u8 (u8))).cell? ⟨b, off + k * 9 + 3, none⟩ = some (.int .u8 (y 1 0)) ∧ (((((((((w'.setCell ⟨bx, 0, none⟩ (.int .u8 (u0))).setCell ⟨bx, 1, none⟩ (.int .u8 (u1))).setCell ⟨bx, 2, none⟩ (.int .u8 (u2))).setCell ⟨bx, 3, none⟩ (.int .u8 (u3))).setCell ⟨bx, 4, none⟩ (.int .u8 (u4))).setCell ⟨bx, 5, none⟩ (.int .u8 (u5))).setCell ⟨bx, 6, none⟩ (.int .u8 (u6))).setCell ⟨bx, 7, none⟩ (.int .u8 (u7))).setCell ⟨bx, 8, none⟩ (.int .u8 (u8))).cell? ⟨b, off + k * 9 + 4, none⟩ = some (.int .u8 (y 1 1)) ∧ (((((((((w'.setCell ⟨bx, 0, none⟩ (.int .u8 (u0))).setCell ⟨bx, 1, none⟩ (.int .u8 (u1))).setCell ⟨bx, 2, none⟩ (.int .u8 (u2))).setCell ⟨bx, 3, none⟩ (.int .u8 (u3))).setCell ⟨bx, 4, none⟩ (.int .u8 (u4))).setCell ⟨bx, 5, none⟩ (.int .u8 (u5))).setCell ⟨bx, 6, none⟩ (.int .u8 (u6))).setCell ⟨bx, 7, none⟩ (.int .u8 (u7))).setCell ⟨bx, 8, none⟩ (.int .u8 (u8))).cell? ⟨b, off + k * 9 + 5, none⟩ = some (.int .u8 (y 1 2))) ∧ ((((((((((w'.setCell ⟨bx, 0, none⟩ (.int .u8 (u0))).setCell ⟨bx, 1, none⟩ (.int .u8 (u1))).setCell ⟨bx, 2, none⟩ (.int .u8 (u2))).setCell ⟨bx, 3, none⟩ (.int .u8 (u3))).setCell ⟨bx, 4, none⟩ (.int .u8 (u4))).setCell ⟨bx, 5, none⟩ (.int .u8 (u5))).setCell ⟨bx, 6, none⟩ (.int .u8 (u6))).setCell ⟨bx, 7, none⟩ (.int .u8 (u7))).setCell ⟨bx, 8, none⟩ (.int .u8 (u8))).cell? ⟨b, off + k * 9 + 6, none⟩ = some (.int .u8 (y 2 0)) ∧ (((((((((w'.setCell ⟨bx, 0, none⟩ (.int .u8 (u0))).setCell ⟨bx, 1, none⟩ (.int .u8 (u1))).setCell ⟨bx, 2, none⟩ (.int .u8 (u2))).setCell ⟨bx, 3, none⟩ (.int .u8 (u3))).setCell ⟨bx, 4, none⟩ (.int .u8 (u4))).setCell ⟨bx, 5, none⟩ (.int .u8 (u5))).setCell ⟨bx, 6, none⟩ (.int .u8 (u6))).setCell ⟨bx, 7, none⟩ (.int .u8 (u7))).setCell ⟨bx, 8, none⟩ (.int .u8 (u8))).cell? ⟨b, off + k * 9 + 7, none⟩ = some (.int .u8 (y 2 1)) ∧ (((((((((w'.setCell ⟨bx, 0, none⟩ (.int .u8 (u0))).setCell ⟨bx, 1, none⟩ (.int .u8 (u1))).setCell ⟨bx, 2, none⟩ (.int .u8 (u2))).setCell ⟨bx, 3, none⟩ (.int .u8 (u3))).setCell ⟨bx, 4, none⟩ (.int .u8 (u4))).setCell ⟨bx, 5, none⟩ (.int .u8 (u5))).setCell ⟨bx, 6, none⟩ (.int .u8 (u6))).setCell ⟨bx, 7, none⟩ (.int .u8 (u7))).setCell ⟨bx, 8, none⟩ (.int .u8 (u8))).cell? ⟨b, off + k * 9 + 8, none⟩ = some (.int .u8 (y 2 2)))) from by
        have h9x' := nine_grown (nine_belowB h9x hq hgl) (grown_set9 w' bx (.int .u8 u0) (.int .u8 u1) (.int .u8 u2) (.int .u8 u3) (.int .u8 u4) (.int .u8 u5) (.int .u8 u6) (.int .u8 u7) (.int .u8 u8)) (Nat.lt_of_lt_of_le hgl hq.size) hgx
        have h9y' := nine_grown (nine_belowB h9y hq hbltw) (grown_set9 w' bx (.int .u8 u0) (.int .u8 u1) (.int .u8 u2) (.int .u8 u3) (.int .u8 u4) (.int .u8 u5) (.int .u8 u6) (.int .u8 u7) (.int .u8 u8)) (Nat.lt_of_lt_of_le hbltw hq.size) hbx
        rw [Nat.zero_add] at h9x'
        exact ⟨h9x', h9y'⟩)
      clear h9x h9y
      have hne : ((k : Int) == (G.length : Int)) = false := by simp; omega
      go_wp2_with fail
      go_cut [12] (fun s12 wx => s12 = .pointer (some ⟨bx, 0, none⟩) ∧ wx.rowIs bx 55 9 (mF r) ∧ wr.grownBy wx (some bx))
      case first =>
        go_region_held3 (fun w' => ((w'.cell? ⟨g, i * 9, none⟩ = some (.int .u8 (x 0 0)) ∧ w'.cell? ⟨g, i * 9 + 1, none⟩ = some (.int .u8 (x 0 1)) ∧ w'.cell? ⟨g, i * 9 + 2, none⟩ = some (.int .u8 (x 0 2))) ∧ (w'.cell? ⟨g, i * 9 + 3, none⟩ = some (.int .u8 (x 1 0)) ∧ w'.cell? ⟨g, i * 9 + 4, none⟩ = some (.int .u8 (x 1 1)) ∧ w'.cell? ⟨g, i * 9 + 5, none⟩ = some (.int .u8 (x 1 2))) ∧ (w'.cell? ⟨g, i * 9 + 6, none⟩ = some (.int .u8 (x 2 0)) ∧ w'.cell? ⟨g, i * 9 + 7, none⟩ = some (.int .u8 (x 2 1)) ∧ w'.cell? ⟨g, i * 9 + 8, none⟩ = some (.int .u8 (x 2 2)))) ∧ ((w'.cell? ⟨b, off + k * 9, none⟩ = some (.int .u8 (y 0 0)) ∧ w'.cell? ⟨b, off + k * 9 + 1, none⟩ = some (.int .u8 (y 0 1)) ∧ w'.cell? ⟨b, off + k * 9 + 2, none⟩ = some (.int .u8 (y 0 2))) ∧ (w'.cell? ⟨b, off + k * 9 + 3, none⟩ = some (.int .u8 (y 1 0)) ∧ w'.cell? ⟨b, off + k * 9 + 4, none⟩ = some (.int .u8 (y 1 1)) ∧ w'.cell? ⟨b, off + k * 9 + 5, none⟩ = some (.int .u8 (y 1 2))) ∧ (w'.cell? ⟨b, off + k * 9 + 6, none⟩ = some (.int .u8 (y 2 0)) ∧ w'.cell? ⟨b, off + k * 9 + 7, none⟩ = some (.int .u8 (y 2 1)) ∧ w'.cell? ⟨b, off + k * 9 + 8, none⟩ = some (.int .u8 (y 2 2)))))
          (first | (with_reducible refine KSh.out _ HB5 _ _ _ _ _ _ _ _ _) | with_reducible exact KKh.out _ (Below.refl _ _).drew | with_reducible exact KKh.out _ (Below.refl _ _) | with_reducible exact KKh.out _ HB5)
          (first
          | (go_at_call 56; (with_reducible refine (HC.out _).mono ?_); rintro e w5 ⟨rfl, hb5⟩; have HB5 : Below wr.heap.size wr w5 := (by first | with_reducible exact tbel_drew hb5 | with_reducible exact hb5); (have ZR5 : w5.rowIs bx 55 9 (mF q) := erow_below hqx HB5 hxl; obtain ⟨⟨e50, e51, e52⟩, ⟨e53, e54, e55⟩, e56, e57, e58⟩ := mcells ZR5; have fz0 := ZR5.frozen 0; have fz1 := ZR5.frozen 1; have fz2 := ZR5.frozen 2; have fz3 := ZR5.frozen 3; have fz4 := ZR5.frozen 4; have fz5 := ZR5.frozen 5; have fz6 := ZR5.frozen 6; have fz7 := ZR5.frozen 7; have fz8 := ZR5.frozen 8)))
        all_goals
          go_wp2_with fail
          go_meet
          with_reducible exact ⟨rfl, (mfill ZR5 (HB5.mono (Nat.le_of_lt hxl)) (Nat.le_refl _) r).1, below_then HB5 (grown_set9 w5 bx _ _ _ _ _ _ _ _ _)⟩
      case rest =>
        rename World => wx
        obtain ⟨rfl, rB, hgx2⟩ := hcut
        have hCx : Clo w wx bm bx g l sc O D := HCL.out.stored hgx2 rB
        have HCX := Lib.hid hCx
        obtain ⟨⟨d0, d1, d2⟩, ⟨d3, d4, d5⟩, d6, d7, d8⟩ := mcells rB
        have hlook := mapB_look hCx.map hCx.set hrb
        clear KKh KSh HC hqx HCL hgx2
        by_cases hm : cut3 r ∈ O
        · have hF : 0 ≤ findM O r := by
            rcases Int.lt_or_le (findM O r) 0 with h | h
            · exact absurd hm (HF.out.1 h)
            · exact h
          rw [decide_eq_true hF] at hlook
          have HN := Lib.hid (HHIT.out hm)
          clear hF hm HF HHIT HMISS hCx rB
          go_wp2_with fail
          refine wp_goto ?_
          exact .inr ⟨rfl, ⟨bm, bx, g, l, sc, i, k + 1, O, D, _, _, _, _, _, _, _, _, _, _, _, _, _, _, _, _, _, _, _, _, _, _, _, _, _, _, _, _, _, _, _, _, _, _, _, _, _, _, _, _, _, _, _, _, _, _, _, _, rfl, rfl, by go_num, hlt, by omega, h48, HN, HCX.out⟩, hMS⟩
        · have hF : ¬ 0 ≤ findM O r := by have := HF.out.2 hm; omega
          rw [decide_eq_false hF] at hlook
          have HN := Lib.hid (HMISS.out hm)
          clear hF hm HF HHIT HMISS
          by_cases h49 : l = 48
          · subst h49
            have HOV : Hid (Over48 p n G) := Lib.hid ⟨_, HN.out.nd, HN.out.reach, by simp; omega⟩
            have HBE := Lib.hid hCx.below
            clear HN hCx rB HLE
            go_wp2_with fail
            refine byLabels_ret ?_
            exact bodyPost_ret (v := .tuple #[.slice none 0 0, .bool false]) (by simp [results, Try.results46, go_sem]) rfl ⟨.inr ⟨rfl, HOV.out⟩, HBE.out⟩
          · have he : ((l : Int) == 48) = false := by simp; omega
            have hl48 : l < 48 := by omega
            obtain ⟨w8, hrun, hmap8, hg8⟩ := hCx.map.update lawM Try.underlying90 (by unfold maxLen; omega) (keyOf_mv r hrb) (plainElem_bool Try.underlying4 true)
            unfold mv at hrun
            have HM8 : MapB w8 bm (l + 1) (D.put (kM r) (.lit (.bool true))) := hmap8
            have HS8 : SetD (D.put (kM r) (.lit (.bool true))) (O ++ [cut3 r]) := by
              intro g hg
              rw [SetD.put (x := r) hCx.map.isMap hCx.set hrb g hg, find_snoc, find_snoc]
              rfl
            have hcc : cells9 (O ++ [cut3 r]) = cells9 O ++ cells9 [r] := by simp [cells9, cell9_cut]
            have rB8 := row_grown rB hg8 hCx.nb
            obtain ⟨⟨e0, e1, e2⟩, ⟨e3, e4, e5⟩, e6, e7, e8⟩ := mcells rB8
            have hown8 := hCx.own.kept hg8 (.inr (by simpa [Value.ownBlock] using hCx.nm))
            have hbs := hCx.bas
            have hbel8 : Below w.heap.size w w8 := hCx.below.grown hg8 hCx.below.size (fun k e => by simp at e; omega)
            have hbm8 : bm < w8.heap.size := Nat.lt_of_lt_of_le hbs.2.2 hg8.size
            have hbx8 : bx < w8.heap.size := rB8.lt
            have hne8 := hCx.ne
            have hnm8 := hCx.nm
            have hnb8 := hCx.nb
            have HNEWS := Lib.hid (show ∀ j u, (cells9 [r])[j]? = some u → (w8.alloc (.cells #[.int .u8 (r 0 0), .int .u8 (r 0 1), .int .u8 (r 0 2), .int .u8 (r 1 0), .int .u8 (r 1 1), .int .u8 (r 1 2), .int .u8 (r 2 0), .int .u8 (r 2 1), .int .u8 (r 2 2)] 55)).cell? ((⟨w8.heap.size, 0, none⟩ : Addr).add j) = some u from by
              obtain ⟨a2, c2, hv2, h | ⟨b2, off2, ha2, hl2, hT2⟩⟩ := OwnG9.slice (base := w8.heap.size) (show OwnG9 _ _ _ [r] from own_r w8 r)
              · simp at h
              · cases hv2
                cases ha2
                exact mats_cells hT2)
            have HW8 := Lib.hid (show w.heap.size ≤ (w8.alloc (.cells #[.int .u8 (r 0 0), .int .u8 (r 0 1), .int .u8 (r 0 2), .int .u8 (r 1 0), .int .u8 (r 1 1), .int .u8 (r 1 2), .int .u8 (r 2 0), .int .u8 (r 2 1), .int .u8 (r 2 2)] 55)).heap.size from Nat.le_trans hbel8.size (by simp))
            clear hCx h49 rB hg8 hmap8
            go_wp2_with (at_builtin; refine wpList_append_lies _ rfl _ _ 24 rfl w.heap.size 55 i0 _ 9 9 Try.underlying24 hi hz0 hz1 hz2 rfl (by decide) (.slice (some ⟨g, 0, none⟩) l sc) l (cells9 O) rfl (hown8.alloc _) ⟨w8.heap.size, 0, none⟩ 1 1 (cells9 [r]) rfl (cells9_len [r]) HNEWS.out (cells9_one [r]) (by decide) (by unfold maxLen; omega) (by omega) HW8.out (w8.heap.size + 1) (by simp) ?_; intro g7 c7 w7 hown7 hgrow7 hat7 hlt7; (have hgrow7' : (w8.alloc (.cells #[.int .u8 (r 0 0), .int .u8 (r 0 1), .int .u8 (r 0 2), .int .u8 (r 1 0), .int .u8 (r 1 1), .int .u8 (r 1 2), .int .u8 (r 2 0), .int .u8 (r 2 1), .int .u8 (r 2 2)] 55)).grownBy w7 (some g) := hgrow7); clear hgrow7)
            have hg7 : g7 = g ∨ g7 = w8.heap.size + 1 := by
              rcases hat7 with h | h
              · left; simpa [Value.ownBlock] using h.symm
              · exact .inr h
            have HC7 : Clo w w7 bm bx g7 (l + 1) c7 (O ++ [cut3 r]) (D.put (kM r) (.lit (.bool true))) :=
              ⟨by rw [hcc]; exact hown7, by simp [HLE.out], (HM8.alloc _).kept hgrow7' (by simpa using fun e => hnm8 e.symm), HS8, ⟨r, row_grown (erow_below rB8 (ebox1 _ _) hbx8) hgrow7' (fun e => hne8 e.symm)⟩, by omega, by omega, hnb8, (hbel8.alloc hbel8.size _).grown hgrow7' HW8.out (fun k e => by simp at e; subst e; exact (hown8.lt g rfl).1), hbs.1, hbs.2.1, Nat.lt_of_lt_of_le hbm8 (Nat.le_trans (by simp) hgrow7'.size)⟩
            refine wp_goto ?_
            exact .inr ⟨rfl, ⟨bm, bx, g7, l + 1, c7, i, k + 1, O ++ [cut3 r], _, _, _, _, _, _, _, _, _, _, _, _, _, _, _, _, _, _, _, _, _, _, _, _, _, _, _, _, _, _, _, _, _, _, _, _, _, _, _, _, _, _, _, _, _, _, _, _, _, rfl, rfl, by go_num, by omega, by omega, by omega, HN, HC7⟩, hMS⟩
    · obtain rfl : k = G.length := by omega
      have hee : ((G.length : Int) == (G.length : Int)) = true := by simp
      have HN := Lib.hid (HB.out.next (Nat.le_refl _))
      have hMS : (49 - (i + 1)) * (G.length + 2) < N := by
        rw [show 49 - (i + 1) = 48 - i by omega]; omega
      clear hN1
      go_wp2_with fail
      refine wp_goto ?_
      exact .inl ⟨rfl, ⟨bm, bx, g, l, sc, i + 1, O, D, _, _, _, _, _, _, _, _, _, _, _, _, _, _, _, _, _, _, _, _, _, _, _, _, _, _, _, _, _, _, _, _, _, _, _, _, _, _, _, _, _, _, _, _, _, _, _, _, rfl, by go_num, by omega, h48, HN, hC⟩, hMS⟩
  · rintro key N a' wr ⟨bm, bx, g, l, sc, i, O, D, s10, s11, u3, u4, u5, u13, u14, u15, u16, u17, u18, u19, u20, u21, u22, u23, u24, u25, u26, u27, u28, u29, u30, u31, u32, u33, u34, u35, u36, u37, u38, u39, u40, u41, u42, u43, u44, u45, u46, u47, u48, u49, u50, u51, u52, u53, u54, u55, rfl, rfl, hiO, h48, HB, hC⟩ hN
    have KEY := Lib.hid key
    clear key HU HSTART
    have hN1 : (49 - i) * (G.length + 2) ≤ N := hN
    clear hN
    unfold frF
    by_cases hlt : i < l
    · have hne : ((i : Int) == (l : Int)) = false := by simp; omega
      have hMS : (48 - i) * (G.length + 2) + (G.length + 1 - 0) ≤ N := Nat.le_trans (ms_fall (by omega)) hN1
      clear hN1
      go_wp2_with fail
      go_step3
      go_step
      go_step
      exact KEY.out N _ _ ⟨bm, bx, g, l, sc, i, 0, O, D, _, _, _, _, _, _, _, _, _, _, _, _, _, _, _, _, _, _, _, _, _, _, _, _, _, _, _, _, _, _, _, _, _, _, _, _, _, _, _, _, _, _, _, _, _, _, _, _, rfl, rfl, rfl, hlt, by omega, h48, HB, hC⟩ hMS
    · obtain rfl : i = l := by omega
      have hee : ((i : Int) == (i : Int)) = true := by simp
      have hlen := hC.len
      have HCL : Hid (Closed48 p n G O) := Lib.hid ⟨HB.out.nd, fun x => ⟨HB.out.reach x, HB.out.all (by omega) x⟩, by omega⟩
      have HOW := Lib.hid (show OwnG9 wr w.heap.size (.slice (some ⟨g, 0, none⟩) i sc) O from by unfold OwnG9; rw [hlen]; exact hC.own)
      have HBE := Lib.hid hC.below
      clear hN1 HB hC hlen KEY
      go_wp2_with fail
      refine byLabels_ret ?_
      exact bodyPost_ret (v := .tuple #[.slice (some ⟨g, 0, none⟩) i sc, .bool true]) (by simp [results, Try.results46, go_sem]) rfl ⟨.inl ⟨_, O, rfl, HCL.out, HOW.out⟩, HBE.out⟩
  · intro key
    have KEY := Lib.hid key
    clear key
    refine ⟨(49 - 0) * (G.length + 2), ?_⟩
    go_wp2_with fail
    ((with_reducible refine (HU.out _).mono ?_); rintro e w1 ⟨rfl, hb1⟩)
    obtain ⟨V, hV, hmap, hown, hbV, hVs⟩ : ∃ V, V = (w1.alloc (.cells #[.int .u8 (u 0 0), .int .u8 (u 0 1), .int .u8 (u 0 2), .int .u8 (u 1 0), .int .u8 (u 1 1), .int .u8 (u 1 2), .int .u8 (u 2 0), .int .u8 (u 2 1), .int .u8 (u 2 2)] 55)).alloc (.map #[] 0) ∧ MapB V (w1.heap.size + 1) 0 (.map []) ∧ V.ownsRow w1.heap.size 55 9 (.slice (some ⟨w1.heap.size, 0, none⟩) 1 1) 1 (cells9 [cut3 u]) ∧ Below w1.heap.size w1 V ∧ V.heap.size = w1.heap.size + 2 := by
      refine ⟨_, rfl, ?_, ?_, ebox2 _ _ _, by simp⟩
      · have := World.ownsMap_made (H := Unit) (w1.alloc (.cells #[.int .u8 (u 0 0), .int .u8 (u 0 1), .int .u8 (u 0 2), .int .u8 (u 1 0), .int .u8 (u 1 1), .int .u8 (u 1 2), .int .u8 (u 2 0), .int .u8 (u 2 1), .int .u8 (u 2 2)] 55)) Try.prog 55 (plainElem Try.prog 4)
        rwa [World.size_alloc] at this
      · rw [show cells9 [cut3 u] = cell9 u by simp [cells9, cell9_cut]]
        exact (own_one w1 u).alloc _
    obtain ⟨w2, hrun, hmap2, hg2⟩ := hmap.update lawM Try.underlying90 (by unfold maxLen; omega) (keyOf_mv u hub) (plainElem_bool Try.underlying4 true)
    unfold mv at hrun
    have HM2 : MapB w2 (w1.heap.size + 1) 1 (DataW.put (.map []) (kM u) (.lit (.bool true))) := hmap2
    have HS2 : SetD (DataW.put (.map []) (kM u) (.lit (.bool true))) [cut3 u] := by
      have := SetD.put (x := u) hmap.isMap SetD.start hub
      intro g hg
      rw [this g hg]
      rfl
    have hown2 := hown.kept hg2 (.inr (by simp [Value.ownBlock]))
    have hs1 := hb1.size
    have hbw2 : Below w.heap.size w w2 := (hb1.trans (hbV.mono hb1.size)).grown hg2 (Nat.le_trans hb1.size hbV.size) (fun k e => by simp at e; omega)
    have hz2 : w1.heap.size + 2 ≤ w2.heap.size := by have := hg2.size; omega
    have HCC := Lib.hid (show Clo w (w2.alloc (.cells #[.int .u8 0, .int .u8 0, .int .u8 0, .int .u8 0, .int .u8 0, .int .u8 0, .int .u8 0, .int .u8 0, .int .u8 0] 55)) (w1.heap.size + 1) w2.heap.size w1.heap.size 1 1 [cut3 u] _ from
      ⟨owns_mono (hown2.alloc _) hs1, rfl, HM2.alloc _, HS2, ⟨fun _ _ => 0, mbox w2 (fun _ _ => 0) _⟩, by omega, by omega, by omega, hbw2.trans ((ebox1 _ _).mono hbw2.size), by omega, by omega, by simp; omega⟩)
    clear hVs hown hbV hg2 HM2 HS2 hown2 hbw2 hz2 hs1
    rw [hV] at hrun
    have hmm := @run_makeMap Try.prog
    go_wp2_with fail
    go_step3
    go_step
    go_step
    exact KEY.out _ _ _ ⟨w1.heap.size + 1, w2.heap.size, w1.heap.size, 1, 1, 0, [cut3 u], _, _, _, _, _, _, _, _, _, _, _, _, _, _, _, _, _, _, _, _, _, _, _, _, _, _, _, _, _, _, _, _, _, _, _, _, _, _, _, _, _, _, _, _, _, _, _, _, _, rfl, rfl, by omega, by omega, HSTART, HCC.out⟩ (Nat.le_refl _)
end Go.Proofs.Ytpbdbgajohacoaa
