/-
  ENDLESS SERIES that are ranged over: what an iterator and the body of a loop promise each other, told by the blocks that the body owns; a law for the loop. Conditions: as each theorem states.
-/
import Derived.Test.YtgbnlnpffhlipaaLa
import Derived.RangeFuncNested
import Derived.RangeFuncBound
import Derived.RangeFuncCalls
import Derived.RangeFuncLeaves
import Derived.Shelf.Abstract
import Derived.Shelf.RegionOpen
import Derived.OwnWalkIn
import Derived.TacticsInMore
import Derived.LoopNIn
import Derived.LoopIn
namespace Go.Proofs.Ytgbnlnpffhlipaa
open Go.RowKit Go.Sort Go.Shelf

attribute [local go_sem] Oper.semAt_some

/-- The blocks of a set lie as they lay. -/
structure Frm (fp : Nat → Prop) (A B : World) : Prop where
  os : B.os = A.os
  tape : B.tape = A.tape
  output : B.output = A.output
  size : A.heap.size ≤ B.heap.size
  same : ∀ b, b < A.heap.size → fp b → B.heap[b]? = A.heap[b]?
theorem Frm.refl (fp : Nat → Prop) (A : World) : Frm fp A A := ⟨rfl, rfl, rfl, Nat.le_refl _, fun _ _ _ => rfl⟩
theorem Frm.trans {fp : Nat → Prop} {A B C : World} (h : Frm fp A B) (k : Frm fp B C) : Frm fp A C :=
  ⟨k.os.trans h.os, k.tape.trans h.tape, k.output.trans h.output, Nat.le_trans h.size k.size, fun b hb hf => (k.same b (Nat.lt_of_lt_of_le hb h.size) hf).trans (h.same b hb hf)⟩
theorem Frm.mono {fp fp' : Nat → Prop} {A B : World} (h : Frm fp A B) (hs : ∀ b, b < A.heap.size → fp' b → fp b) : Frm fp' A B :=
  ⟨h.os, h.tape, h.output, h.size, fun b hb hf => h.same b hb (hs b hb hf)⟩
theorem Frm.of_below {n : Nat} {A B : World} (h : Below n A B) {fp : Nat → Prop} (hf : ∀ b, b < A.heap.size → fp b → b < n) : Frm fp A B :=
  ⟨h.os, h.tape, h.output, h.size, fun b hb hfb => h.block b (hf b hb hfb)⟩
theorem Frm.below {fp : Nat → Prop} {n : Nat} {A B : World} (h : Frm fp A B) (hn : n ≤ A.heap.size) (hf : ∀ b, b < n → fp b) : Below n A B :=
  ⟨h.os, h.tape, h.output, h.size, fun b hb => h.same b (by omega) (hf b hb)⟩
theorem Frm.grown {fp : Nat → Prop} {A B : World} {row : Option Nat} (h : A.grownBy B row) (hf : ∀ b, b < A.heap.size → fp b → some b ≠ row) : Frm fp A B :=
  ⟨h.os, h.tape, h.output, h.size, fun b hb hfb => h.block b hb (hf b hb hfb)⟩
theorem Frm.alloc (fp : Nat → Prop) (A : World) (o : Obj) : Frm fp A (A.alloc o) := Frm.of_below (ebox1 A o) (fun _ hb _ => hb)
theorem Frm.putObj {fp : Nat → Prop} {A : World} {l : Nat} (o : Obj) (hl : ¬ fp l) : Frm fp A (A.putObj l o) :=
  Frm.grown (grownBy_putObj' A l o) (fun b _ hb e => by cases e; exact hl hb)
theorem Frm.drew (fp : Nat → Prop) (A : World) : Frm fp A A.drew := ⟨rfl, rfl, rfl, Nat.le_refl _, fun _ _ _ => rfl⟩
theorem Frm.setCell {fp : Nat → Prop} {A : World} {a : Addr} (v : Value) (hl : ¬ fp a.block) : Frm fp A (A.setCell a v) :=
  ⟨rfl, rfl, rfl, by rw [World.size_setCell]; exact Nat.le_refl _, fun b _ hb => Below.heap_setCell A a v b (fun e => hl (by rw [← e]; exact hb))⟩

theorem Frm.then {fp fp1 : Nat → Prop} {A B C : World} (h : Frm (fun b => ¬ fp b) A B) (k : Frm (fun b => ¬ fp1 b) B C) (hs : ∀ b, fp1 b → fp b ∨ A.heap.size ≤ b) : Frm (fun b => ¬ fp b) A C :=
  ⟨k.os.trans h.os, k.tape.trans h.tape, k.output.trans h.output, Nat.le_trans h.size k.size, fun b hb hf =>
    (k.same b (Nat.lt_of_lt_of_le hb h.size) (fun h1 => (hs b h1).elim hf (fun h2 => by omega))).trans (h.same b hb hf)⟩

/-- An endless series as an iterator: whatever body takes its numbers in turn, and stops ahead of the number N. The body owns the blocks of a set; the iterator leaves them as they are, and the body leaves all others. -/
def SeqE (F : Fence) (n : Nat) (P : Program) (g : Nat) (lb : Array Value) (S : Nat → Int) (N : Nat) (w : World) : Prop :=
  ∀ (l : Nat) (J Jx : List Int → (Nat → Prop) → World → Prop) (fp : Nat → Prop) (W : World), Below w.heap.size w W → (∀ b, fp b → w.heap.size ≤ b) →
    (∀ pre fp A B, J pre fp A → Frm fp A B → J pre fp B) → (∀ pre fp A, Jx pre fp A → ∀ B, Frm fp A B → Jx pre fp B) → (∀ pre fp A, J pre fp A → pre.length < N ∧ ∀ b, fp b → b < A.heap.size) →
    (∀ pre fp A, (∀ b, fp b → w.heap.size ≤ b) → J pre fp A → YieldAt F (n - 1) P l #[.int .i64 (S pre.length)] A fun e W' => ∃ fp', Frm (fun b => ¬ fp b) A W' ∧ (∀ b, fp' b → fp b ∨ A.heap.size ≤ b) ∧ (∀ b, fp' b → b < W'.heap.size) ∧
      ((e = .returned (.bool true) ∧ J (pre ++ [S pre.length]) fp' W') ∨ (e = .returned (.bool false) ∧ Jx (pre ++ [S pre.length]) fp' W'))) →
    J [] fp W →
    CallsIn F n P g (#[.func (.yield l) #[] #[]] ++ lb) W fun e W' => (∃ v, e = .returned v) ∧ ∃ pre fp', Frm (fun b => ¬ fp b) W W' ∧ (∀ b, fp' b → fp b ∨ W.heap.size ≤ b) ∧ (∀ b, fp' b → b < W'.heap.size) ∧ Jx pre fp' W'

/-- How the body of a round may be left. -/
def postE (I : List Int → (Nat → Prop) → World → Prop) (Ix : Code → List Int → (Nat → Prop) → World → Prop) (pre : List Int) (fp : Nat → Prop) (A : World) : Exit → Act → World → Prop
  | .normal, _, W => ∃ fp', Frm (fun b => ¬ fp b) A W ∧ (∀ b, fp' b → fp b ∨ A.heap.size ≤ b) ∧ (∀ b, fp' b → b < W.heap.size) ∧ I pre fp' W
  | .ret, _, W => ∃ fp', Frm (fun b => ¬ fp b) A W ∧ (∀ b, fp' b → fp b ∨ A.heap.size ≤ b) ∧ (∀ b, fp' b → b < W.heap.size) ∧ Ix .ret pre fp' W
  | .exit id, _, W => ∃ fp', Frm (fun b => ¬ fp b) A W ∧ (∀ b, fp' b → fp b ∨ A.heap.size ≤ b) ∧ (∀ b, fp' b → b < W.heap.size) ∧ Ix (.exit id) pre fp' W
  | .goto t, _, W => ∃ fp', Frm (fun b => ¬ fp b) A W ∧ (∀ b, fp' b → fp b ∨ A.heap.size ≤ b) ∧ (∀ b, fp' b → b < W.heap.size) ∧ Ix (.goto t) pre fp' W
  | .panic _, _, _ => False
  | .outgrown, _, _ => False

/-- The loop's own blocks beside those of its body. -/
def withL (fp : Nat → Prop) (D : Nat) : Nat → Prop := fun b => fp b ∨ b = D ∨ b = D + 1

variable {F : Fence} {n : Nat} {P : Program}
set_option maxHeartbeats 1000000 in
/-- A LOOP OVER AN ENDLESS SERIES. -/
theorem wpIn_range_E {g : Operand} {ps : Array Tmp} {assign body : Code} {Q : Exit → Act → World → Prop} {a : Act} {w : World} (hro : F.round = none) (h1 : 1 ≤ n)
    {gf : Nat} {lb : Array Value} (hg : a.eval g = .func (.func gf) #[] lb) (hFg : F.fn gf) (eg : ∀ args w, (callFunc gf args).run P w = .ok (.enter gf args) w)
    {S : Nat → Int} {N : Nat} {w0 : World} (hseq : SeqE F (n - 1) P gf lb S N w0) (hb0 : Below w0.heap.size w0 w) (hps : ps.size = 1)
    (I : List Int → (Nat → Prop) → World → Prop) (Ix : Code → List Int → (Nat → Prop) → World → Prop)
    (hIf : ∀ pre fp A B, I pre fp A → Frm fp A B → I pre fp B) (hXf : ∀ c pre fp A B, Ix c pre fp A → Frm fp A B → Ix c pre fp B)
    (hIb : ∀ pre fp A, I pre fp A → pre.length < N ∧ ∀ b, fp b → b < A.heap.size)
    (fp0 : Nat → Prop) (hfp0 : ∀ b, fp0 b → w0.heap.size ≤ b) (h0 : I [] fp0 w)
    (hround : ∀ (l : Nat) (pre : List Int) (fp : Nat → Prop) (W : World), I pre fp W → (∀ b, fp b → w0.heap.size ≤ b) →
      assign.wpIn (F.inRound l) (n - 1 - 1) P (Exit.then (fun a₁ W₁ => ∃ fp1, Frm (fun b => ¬ fp b) W W₁ ∧ (∀ b, fp1 b → fp b ∨ W.heap.size ≤ b) ∧ (∀ b, fp1 b → b < W₁.heap.size) ∧
        ∀ W₂, Frm fp1 W₁ W₂ → body.wpIn (F.inRound l) (n - 1 - 1) P (postE I Ix (pre ++ [S pre.length]) fp1 W₂) a₁ W₂) (fun _ _ _ => False))
        { tmps := (ps.zip #[.int .i64 (S pre.length)]).foldl (fun t (p, v) => t.setIfInBounds p v) a.tmps, defers := [] } W)
    (hstop : ∀ (D : Nat) (c : Code) (pre : List Int) (fp : Nat → Prop) (W : World), w.heap.size ≤ D → Ix c pre fp W → ¬ fp D → Frm (fun b => ¬ fp0 b) w W → W.heap[D]? = some (.deferred (some [])) →
      c.wpIn F n P Q { a with defers := { target := .collected D, args := #[] } :: a.defers } W) :
    (Code.rangeFunc g ps assign body).wpIn F n P Q a w := by
  refine wpIn_rangeFunc fun fn hfn => ?_
  rw [hro]
  obtain ⟨rec, hrec⟩ : ∃ rec : LoopState → Option Code → Loop, rec = fun st pe => { state := st, pending := pe, fn, tmps := a.tmps, params := ps, assign, body, defers := w.heap.size } := ⟨_, rfl⟩
  obtain ⟨D, hD⟩ : ∃ D, w.heap.size = D := ⟨_, rfl⟩
  obtain ⟨W1, hW1⟩ : ∃ W1, (w.alloc (.deferred (some []))).alloc (.loop (rec .ready none)) = W1 := ⟨_, rfl⟩
  have hL1 : W1.heap[D + 1]? = some (.loop (rec .ready none)) := by
    rw [← hW1, ← hD]
    have h := World.alloc_heap_new (w.alloc (.deferred (some []))) (.loop (rec .ready none))
    rwa [World.size_alloc] at h
  have hK1 : W1.heap[D]? = some (.deferred (some [])) := by
    rw [← hW1, ← hD]
    exact (Below.heap_alloc _ _ _ (by simp)).trans (World.alloc_heap_new w _)
  have hF1 : ∀ fp, Frm fp w W1 := fun fp => by
    rw [← hW1]; exact (Frm.alloc fp w _).trans (Frm.alloc fp _ _)
  have hb1 : Below w0.heap.size w0 W1 := hb0.trans ((hF1 (fun _ => True)).below hb0.size (fun _ _ => trivial))
  have hs1 : W1.heap.size = D + 2 := by rw [← hW1, ← hD]; simp
  have hl0 := (hIb _ _ _ h0).2
  have hsz0 := hb0.size
  refine ⟨D + 1, [{ target := .collected D, args := #[] }], W1, { target := .fn (.func gf) lb, args := #[.func (.yield (D + 1)) #[] #[]] }, W1, gf,
    #[.func (.yield (D + 1)) #[] #[]] ++ lb, W1, ?_, ?_, ?_, ?_, fun _ => h1, ?_⟩
  · rw [← hW1, hrec, ← hD]; exact run_enterLoop_outer _ _ _ _ _
  · simp only [resolve, hg]
    simp [go_sem]
  · intro f' hf'; simp [Target.leads] at hf'; subst hf'; exact hFg
  · simp [invoke, go_sem, eg]
  · refine (hseq (D + 1)
      (fun pre fq W => ∃ fp, fq = withL fp D ∧ I pre fp W ∧ ¬ fp D ∧ ¬ fp (D + 1) ∧ W.heap[D + 1]? = some (.loop (rec .ready none)) ∧ W.heap[D]? = some (.deferred (some [])))
      (fun pre fq W => ∃ fp c, fq = withL fp D ∧ Ix c pre fp W ∧ ¬ fp D ∧ ¬ fp (D + 1) ∧ W.heap[D + 1]? = some (.loop (rec .done (some c))) ∧ W.heap[D]? = some (.deferred (some [])))
      (withL fp0 D) W1 hb1 (fun b hb => by
        rcases hb with h | h | h
        · exact hfp0 b h
        · omega
        · omega) ?_ ?_ ?_ ?_
      ⟨fp0, rfl, hIf _ _ _ _ h0 (hF1 _), fun h => by have := hl0 _ h; omega, fun h => by have := hl0 _ h; omega, hL1, hK1⟩).mono ?_
    · rintro pre fq A B ⟨fp, rfl, hi, h1, h2, hl, hk⟩ hf
      exact ⟨fp, rfl, hIf _ _ _ _ hi (hf.mono fun b _ h => .inl h), h1, h2, (hf.same _ (Array.getElem?_eq_some_iff.1 hl).1 (.inr (.inr rfl))).trans hl, (hf.same _ (Array.getElem?_eq_some_iff.1 hk).1 (.inr (.inl rfl))).trans hk⟩
    · rintro pre fq A ⟨fp, c, rfl, hi, h1, h2, hl, hk⟩ B hf
      exact ⟨fp, c, rfl, hXf _ _ _ _ _ hi (hf.mono fun b _ h => .inl h), h1, h2, (hf.same _ (Array.getElem?_eq_some_iff.1 hl).1 (.inr (.inr rfl))).trans hl, (hf.same _ (Array.getElem?_eq_some_iff.1 hk).1 (.inr (.inl rfl))).trans hk⟩
    · rintro pre fq A ⟨fp, rfl, hi, _, _, hl, hk⟩
      have hlt := (Array.getElem?_eq_some_iff.1 hl).1
      refine ⟨(hIb _ _ _ hi).1, fun b hb => ?_⟩
      rcases hb with h | h | h
      · exact (hIb _ _ _ hi).2 b h
      · omega
      · omega
    · -- one round
      rintro pre fq W hge ⟨fp, rfl, hi, hn1, hn2, hl, hk⟩
      have hlt := (Array.getElem?_eq_some_iff.1 hl).1
      have hy := run_yield (P := P) (args := #[Value.int .i64 (S pre.length)]) hl (by rw [hrec]; simp [hps])
      rw [hrec] at hy
      refine ⟨fn, _, assign, body, hy, roundIn_of_wpIn hfn (wpIn_mono (hround (D + 1) pre fp W hi (fun b hb => hge b (.inl hb))) ?_)⟩
      clear hy
      rintro e a3 W3 hp
      cases e with
      | normal =>
        obtain ⟨fp1, hfa, hs, hlt1, hbody⟩ := hp
        have hm1 : ¬ fp1 D := fun h => (hs D h).elim hn1 (fun h' => by omega)
        have hm2 : ¬ fp1 (D + 1) := fun h => (hs _ h).elim hn2 (fun h' => by omega)
        have hl3 := (hfa.same _ hlt hn2).trans hl
        have hk3 := (hfa.same D (by omega) hn1).trans hk
        have hlt3 := (Array.getElem?_eq_some_iff.1 hl3).1
        refine ⟨_, run_beginRound hl3 (by rw [hrec]), ?_⟩
        have hl4 : (W3.putObj (D + 1) (.loop { rec .ready none with state := .busy })).heap[D + 1]? = some (.loop { rec .ready none with state := .busy }) := World.putObj_heap_same hlt3
        have hk4 : (W3.putObj (D + 1) (.loop { rec .ready none with state := .busy })).heap[D]? = some (.deferred (some [])) := (World.putObj_heap_other (by omega)).trans hk3
        have hf4 : Frm fp1 W3 (W3.putObj (D + 1) (.loop { rec .ready none with state := .busy })) := Frm.putObj _ hm2
        have hs4 := hf4.size
        refine wpIn_mono (hbody _ hf4) ?_
        have fin : ∀ (jump : Option Code) (fp' : Nat → Prop) (W5 : World), Frm (fun b => ¬ fp1 b) (W3.putObj (D + 1) (.loop { rec .ready none with state := .busy })) W5 → (∀ b, fp' b → fp1 b ∨ (W3.putObj (D + 1) (.loop { rec .ready none with state := .busy })).heap.size ≤ b) → (∀ b, fp' b → b < W5.heap.size) →
            ∃ W6, (Instr.endRound (D + 1) jump).run P W5 = .ok (.bool jump.isNone) W6 ∧ Frm fp' W5 W6 ∧ ¬ fp' D ∧ ¬ fp' (D + 1) ∧ Frm (fun b => ¬ withL fp D b) W W6 ∧ (∀ b, withL fp' D b → withL fp D b ∨ W.heap.size ≤ b) ∧ (∀ b, withL fp' D b → b < W6.heap.size) ∧
              W6.heap[D + 1]? = some (.loop (rec (if jump.isNone then .ready else .done) jump)) ∧ W6.heap[D]? = some (.deferred (some [])) := fun jump fp' W5 hf5 hs5 hlt5 => by
          have hl5 := (hf5.same _ (Array.getElem?_eq_some_iff.1 hl4).1 hm2).trans hl4
          have hk5 := (hf5.same _ (Array.getElem?_eq_some_iff.1 hk4).1 hm1).trans hk4
          have hr := run_endRound (P := P) jump hl5
          have hlt5' := (Array.getElem?_eq_some_iff.1 hl5).1
          have hsa := hfa.size
          have q1 : ¬ fp' D := fun h => (hs5 D h).elim hm1 (fun h' => by omega)
          have q2 : ¬ fp' (D + 1) := fun h => (hs5 _ h).elim hm2 (fun h' => by omega)
          rw [hrec] at hr ⊢
          refine ⟨_, hr, Frm.putObj _ q2, q1, q2, ?_, fun b hb => ?_, fun b hb => ?_, World.putObj_heap_same hlt5', (World.putObj_heap_other (by omega)).trans hk5⟩
          · have k : Frm (fun b => ¬ withL fp1 D b) W3 (W5.putObj (D + 1) (.loop { rec (if jump.isNone then .ready else .done) jump with defers := w.heap.size })) :=
              ((Frm.putObj _ (fun h => h (.inr (.inr rfl)))).trans (hf5.mono (fun b _ h h' => h (.inl h')))).trans (Frm.putObj _ (fun h => h (.inr (.inr rfl))))
            rw [hrec] at k
            exact (hfa.mono (fp' := fun b => ¬ withL fp D b) (fun b _ h h' => h (.inl h'))).then k (fun b hb => by
              rcases hb with h | h | h
              · exact (hs b h).imp .inl id
              · exact .inl (.inr (.inl h))
              · exact .inl (.inr (.inr h)))
          · rcases hb with h | h | h
            · rcases hs5 b h with h' | h'
              · rcases hs b h' with h'' | h''
                · exact .inl (.inl h'')
                · exact .inr h''
              · exact .inr (by omega)
            · exact .inl (.inr (.inl h))
            · exact .inl (.inr (.inr h))
          · have e : ∀ o, (W5.putObj (D + 1) o).heap.size = W5.heap.size := fun o => by simp [World.putObj]
            rw [e]
            rcases hb with h | h | h
            · exact hlt5 b h
            · omega
            · omega
        rintro e a5 W5 hp
        cases e with
        | normal =>
          obtain ⟨fp', hf5, hs5, hlt5, hi5⟩ := hp
          obtain ⟨W6, hr, hf6, q1, q2, hfr, hsb, hl6, hl, hk⟩ := fin none fp' W5 hf5 hs5 hlt5
          exact ⟨_, _, hr, withL fp' D, hfr, hsb, hl6, .inl ⟨rfl, fp', rfl, hIf _ _ _ _ hi5 hf6, q1, q2, hl, hk⟩⟩
        | ret =>
          obtain ⟨fp', hf5, hs5, hlt5, hi5⟩ := hp
          obtain ⟨W6, hr, hf6, q1, q2, hfr, hsb, hl6, hl, hk⟩ := fin (some .ret) fp' W5 hf5 hs5 hlt5
          exact ⟨_, _, hr, withL fp' D, hfr, hsb, hl6, .inr ⟨rfl, fp', .ret, rfl, hXf _ _ _ _ _ hi5 hf6, q1, q2, hl, hk⟩⟩
        | exit id =>
          obtain ⟨fp', hf5, hs5, hlt5, hi5⟩ := hp
          obtain ⟨W6, hr, hf6, q1, q2, hfr, hsb, hl6, hl, hk⟩ := fin (some (.exit id)) fp' W5 hf5 hs5 hlt5
          exact ⟨_, _, hr, withL fp' D, hfr, hsb, hl6, .inr ⟨rfl, fp', .exit id, rfl, hXf _ _ _ _ _ hi5 hf6, q1, q2, hl, hk⟩⟩
        | goto t =>
          obtain ⟨fp', hf5, hs5, hlt5, hi5⟩ := hp
          obtain ⟨W6, hr, hf6, q1, q2, hfr, hsb, hl6, hl, hk⟩ := fin (some (.goto t)) fp' W5 hf5 hs5 hlt5
          exact ⟨_, _, hr, withL fp' D, hfr, hsb, hl6, .inr ⟨rfl, fp', .goto t, rfl, hXf _ _ _ _ _ hi5 hf6, q1, q2, hl, hk⟩⟩
        | panic ch => exact hp.elim
        | outgrown => exact hp.elim
      | _ => exact hp.elim
    · rintro e W2 ⟨⟨v, rfl⟩, pre, fq, hfr, hsub, hlt2, fp, c, rfl, hi, hn1, hn2, hl, hk⟩
      refine ⟨some c, _, by have h := run_endLoop (P := P) hl (by rw [hrec]; simp); rw [hrec] at h; exact h, ?_⟩
      refine hstop D c pre fp _ (by omega) (hXf _ _ _ _ _ hi (Frm.putObj _ hn2)) hn1 ?_ ((World.putObj_heap_other (by omega)).trans hk)
      refine (hF1 _).then (hfr.trans (Frm.putObj _ (fun h => h (.inr (.inr rfl))))) (fun b hb => ?_)
      rcases hb with h | h | h
      · exact .inl h
      · exact .inr (by omega)
      · exact .inr (by omega)
end Go.Proofs.Ytgbnlnpffhlipaa
