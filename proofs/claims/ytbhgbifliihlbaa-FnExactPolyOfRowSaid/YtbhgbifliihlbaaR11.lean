/-
  ENDLESS SERIES that are ranged over: what an iterator and the body of a loop promise each other, told by the blocks that the body owns; a law for the loop. Conditions: as each theorem states.
  LISTS OF NUMBERS of the call's own. Conditions: as each theorem states.
  LISTS of numbers in a law: compared, marked, held. Conditions: as each theorem states.
  LISTS of 64-bit numbers in a law: copied, compared, marked, read back. Conditions: as each theorem states.
  ENDLESS SERIES: the series 1, 0, 0, .. of no degrees; the first numbers of a series, in a slice. Conditions: as each theorem states.
-/
import Derived.Test.YtbhgbifliihlbaaR10
import Derived.RangeFuncNested
import Derived.RangeFuncBound
import Derived.RangeFuncCalls
import Derived.RangeFuncLeaves
import Derived.Shelf.Abstract
import Derived.Shelf.RegionOpen
import Derived.OwnWalkIn
import Derived.TacticsInMore
import Derived.LoopNIn
import Derived.LoopIn
import Derived.Maps.AppendAt
import Derived.Maps.OwnIn
namespace Go.Proofs.Ytbhgbifliihlbaa
open Go.RowKit Go.Sort Go.Shelf

attribute [local go_sem] Oper.semAt_some

/-- The blocks of a set lie as they lay. -/
structure Frm (fp : Nat → Prop) (A B : World) : Prop where
  os : B.os = A.os
  tape : B.tape = A.tape
  output : B.output = A.output
  size : A.heap.size ≤ B.heap.size
  same : ∀ b, b < A.heap.size → fp b → B.heap[b]? = A.heap[b]?
theorem Frm.refl (fp : Nat → Prop) (A : World) : Frm fp A A := ⟨rfl, rfl, rfl, Nat.le_refl _, fun _ _ _ => rfl⟩
theorem Frm.trans {fp : Nat → Prop} {A B C : World} (h : Frm fp A B) (k : Frm fp B C) : Frm fp A C :=
  ⟨k.os.trans h.os, k.tape.trans h.tape, k.output.trans h.output, Nat.le_trans h.size k.size, fun b hb hf => (k.same b (Nat.lt_of_lt_of_le hb h.size) hf).trans (h.same b hb hf)⟩
theorem Frm.mono {fp fp' : Nat → Prop} {A B : World} (h : Frm fp A B) (hs : ∀ b, b < A.heap.size → fp' b → fp b) : Frm fp' A B :=
  ⟨h.os, h.tape, h.output, h.size, fun b hb hf => h.same b hb (hs b hb hf)⟩
theorem Frm.of_below {n : Nat} {A B : World} (h : Below n A B) {fp : Nat → Prop} (hf : ∀ b, b < A.heap.size → fp b → b < n) : Frm fp A B :=
  ⟨h.os, h.tape, h.output, h.size, fun b hb hfb => h.block b (hf b hb hfb)⟩
theorem Frm.below {fp : Nat → Prop} {n : Nat} {A B : World} (h : Frm fp A B) (hn : n ≤ A.heap.size) (hf : ∀ b, b < n → fp b) : Below n A B :=
  ⟨h.os, h.tape, h.output, h.size, fun b hb => h.same b (by omega) (hf b hb)⟩
theorem Frm.grown {fp : Nat → Prop} {A B : World} {row : Option Nat} (h : A.grownBy B row) (hf : ∀ b, b < A.heap.size → fp b → some b ≠ row) : Frm fp A B :=
  ⟨h.os, h.tape, h.output, h.size, fun b hb hfb => h.block b hb (hf b hb hfb)⟩
theorem Frm.alloc (fp : Nat → Prop) (A : World) (o : Obj) : Frm fp A (A.alloc o) := Frm.of_below (ebox1 A o) (fun _ hb _ => hb)
theorem Frm.putObj {fp : Nat → Prop} {A : World} {l : Nat} (o : Obj) (hl : ¬ fp l) : Frm fp A (A.putObj l o) :=
  Frm.grown (grownBy_putObj' A l o) (fun b _ hb e => by cases e; exact hl hb)
theorem Frm.drew (fp : Nat → Prop) (A : World) : Frm fp A A.drew := ⟨rfl, rfl, rfl, Nat.le_refl _, fun _ _ _ => rfl⟩
theorem Frm.setCell {fp : Nat → Prop} {A : World} {a : Addr} (v : Value) (hl : ¬ fp a.block) : Frm fp A (A.setCell a v) :=
  ⟨rfl, rfl, rfl, by rw [World.size_setCell]; exact Nat.le_refl _, fun b _ hb => Below.heap_setCell A a v b (fun e => hl (by rw [← e]; exact hb))⟩

theorem Frm.then {fp fp1 : Nat → Prop} {A B C : World} (h : Frm (fun b => ¬ fp b) A B) (k : Frm (fun b => ¬ fp1 b) B C) (hs : ∀ b, fp1 b → fp b ∨ A.heap.size ≤ b) : Frm (fun b => ¬ fp b) A C :=
  ⟨k.os.trans h.os, k.tape.trans h.tape, k.output.trans h.output, Nat.le_trans h.size k.size, fun b hb hf =>
    (k.same b (Nat.lt_of_lt_of_le hb h.size) (fun h1 => (hs b h1).elim hf (fun h2 => by omega))).trans (h.same b hb hf)⟩

/-- An endless series as an iterator: whatever body takes its numbers in turn, and stops ahead of the number N. The body owns the blocks of a set; the iterator leaves them as they are, and the body leaves all others. -/
def SeqE (F : Fence) (n : Nat) (P : Program) (g : Nat) (lb : Array Value) (S : Nat → Int) (N : Nat) (w : World) : Prop :=
  ∀ (l : Nat) (J Jx : List Int → (Nat → Prop) → World → Prop) (fp : Nat → Prop) (W : World), Below w.heap.size w W → (∀ b, fp b → w.heap.size ≤ b) →
    (∀ pre fp A B, J pre fp A → Frm fp A B → J pre fp B) → (∀ pre fp A, Jx pre fp A → ∀ B, Frm fp A B → Jx pre fp B) → (∀ pre fp A, J pre fp A → pre.length < N ∧ ∀ b, fp b → b < A.heap.size) →
    (∀ pre fp A, (∀ b, fp b → w.heap.size ≤ b) → J pre fp A → YieldAt F (n - 1) P l #[.int .i64 (S pre.length)] A fun e W' => ∃ fp', Frm (fun b => ¬ fp b) A W' ∧ (∀ b, fp' b → fp b ∨ A.heap.size ≤ b) ∧ (∀ b, fp' b → b < W'.heap.size) ∧
      ((e = .returned (.bool true) ∧ J (pre ++ [S pre.length]) fp' W') ∨ (e = .returned (.bool false) ∧ Jx (pre ++ [S pre.length]) fp' W'))) →
    J [] fp W →
    CallsIn F n P g (#[.func (.yield l) #[] #[]] ++ lb) W fun e W' => (∃ v, e = .returned v) ∧ ∃ pre fp', Frm (fun b => ¬ fp b) W W' ∧ (∀ b, fp' b → fp b ∨ W.heap.size ≤ b) ∧ (∀ b, fp' b → b < W'.heap.size) ∧ Jx pre fp' W'

/-- How the body of a round may be left. -/
def postE (I : List Int → (Nat → Prop) → World → Prop) (Ix : Code → List Int → (Nat → Prop) → World → Prop) (pre : List Int) (fp : Nat → Prop) (A : World) : Exit → Act → World → Prop
  | .normal, _, W => ∃ fp', Frm (fun b => ¬ fp b) A W ∧ (∀ b, fp' b → fp b ∨ A.heap.size ≤ b) ∧ (∀ b, fp' b → b < W.heap.size) ∧ I pre fp' W
  | .ret, _, W => ∃ fp', Frm (fun b => ¬ fp b) A W ∧ (∀ b, fp' b → fp b ∨ A.heap.size ≤ b) ∧ (∀ b, fp' b → b < W.heap.size) ∧ Ix .ret pre fp' W
  | .exit id, _, W => ∃ fp', Frm (fun b => ¬ fp b) A W ∧ (∀ b, fp' b → fp b ∨ A.heap.size ≤ b) ∧ (∀ b, fp' b → b < W.heap.size) ∧ Ix (.exit id) pre fp' W
  | .goto t, _, W => ∃ fp', Frm (fun b => ¬ fp b) A W ∧ (∀ b, fp' b → fp b ∨ A.heap.size ≤ b) ∧ (∀ b, fp' b → b < W.heap.size) ∧ Ix (.goto t) pre fp' W
  | .panic _, _, _ => False
  | .outgrown, _, _ => False

/-- The loop's own blocks beside those of its body. -/
def withL (fp : Nat → Prop) (D : Nat) : Nat → Prop := fun b => fp b ∨ b = D ∨ b = D + 1

variable {F : Fence} {n : Nat} {P : Program}
set_option maxHeartbeats 1000000 in
/-- A LOOP OVER AN ENDLESS SERIES. -/
theorem wpIn_range_E {g : Operand} {ps : Array Tmp} {assign body : Code} {Q : Exit → Act → World → Prop} {a : Act} {w : World} (hro : F.round = none) (h1 : 1 ≤ n)
    {gf : Nat} {lb : Array Value} (hg : a.eval g = .func (.func gf) #[] lb) (hFg : F.fn gf) (eg : ∀ args w, (callFunc gf args).run P w = .ok (.enter gf args) w)
    {S : Nat → Int} {N : Nat} {w0 : World} (hseq : SeqE F (n - 1) P gf lb S N w0) (hb0 : Below w0.heap.size w0 w) (hps : ps.size = 1)
    (I : List Int → (Nat → Prop) → World → Prop) (Ix : Code → List Int → (Nat → Prop) → World → Prop)
    (hIf : ∀ pre fp A B, I pre fp A → Frm fp A B → I pre fp B) (hXf : ∀ c pre fp A B, Ix c pre fp A → Frm fp A B → Ix c pre fp B)
    (hIb : ∀ pre fp A, I pre fp A → pre.length < N ∧ ∀ b, fp b → b < A.heap.size)
    (fp0 : Nat → Prop) (hfp0 : ∀ b, fp0 b → w0.heap.size ≤ b) (h0 : I [] fp0 w)
    (hround : ∀ (l : Nat) (pre : List Int) (fp : Nat → Prop) (W : World), I pre fp W → (∀ b, fp b → w0.heap.size ≤ b) →
      assign.wpIn (F.inRound l) (n - 1 - 1) P (Exit.then (fun a₁ W₁ => ∃ fp1, Frm (fun b => ¬ fp b) W W₁ ∧ (∀ b, fp1 b → fp b ∨ W.heap.size ≤ b) ∧ (∀ b, fp1 b → b < W₁.heap.size) ∧
        ∀ W₂, Frm fp1 W₁ W₂ → body.wpIn (F.inRound l) (n - 1 - 1) P (postE I Ix (pre ++ [S pre.length]) fp1 W₂) a₁ W₂) (fun _ _ _ => False))
        { tmps := (ps.zip #[.int .i64 (S pre.length)]).foldl (fun t (p, v) => t.setIfInBounds p v) a.tmps, defers := [] } W)
    (hstop : ∀ (D : Nat) (c : Code) (pre : List Int) (fp : Nat → Prop) (W : World), w.heap.size ≤ D → Ix c pre fp W → ¬ fp D → Frm (fun b => ¬ fp0 b) w W → W.heap[D]? = some (.deferred (some [])) →
      c.wpIn F n P Q { a with defers := { target := .collected D, args := #[] } :: a.defers } W) :
    (Code.rangeFunc g ps assign body).wpIn F n P Q a w := by
  refine wpIn_rangeFunc fun fn hfn => ?_
  rw [hro]
  obtain ⟨rec, hrec⟩ : ∃ rec : LoopState → Option Code → Loop, rec = fun st pe => { state := st, pending := pe, fn, tmps := a.tmps, params := ps, assign, body, defers := w.heap.size } := ⟨_, rfl⟩
  obtain ⟨D, hD⟩ : ∃ D, w.heap.size = D := ⟨_, rfl⟩
  obtain ⟨W1, hW1⟩ : ∃ W1, (w.alloc (.deferred (some []))).alloc (.loop (rec .ready none)) = W1 := ⟨_, rfl⟩
  have hL1 : W1.heap[D + 1]? = some (.loop (rec .ready none)) := by
    rw [← hW1, ← hD]
    have h := World.alloc_heap_new (w.alloc (.deferred (some []))) (.loop (rec .ready none))
    rwa [World.size_alloc] at h
  have hK1 : W1.heap[D]? = some (.deferred (some [])) := by
    rw [← hW1, ← hD]
    exact (Below.heap_alloc _ _ _ (by simp)).trans (World.alloc_heap_new w _)
  have hF1 : ∀ fp, Frm fp w W1 := fun fp => by
    rw [← hW1]; exact (Frm.alloc fp w _).trans (Frm.alloc fp _ _)
  have hb1 : Below w0.heap.size w0 W1 := hb0.trans ((hF1 (fun _ => True)).below hb0.size (fun _ _ => trivial))
  have hs1 : W1.heap.size = D + 2 := by rw [← hW1, ← hD]; simp
  have hl0 := (hIb _ _ _ h0).2
  have hsz0 := hb0.size
  refine ⟨D + 1, [{ target := .collected D, args := #[] }], W1, { target := .fn (.func gf) lb, args := #[.func (.yield (D + 1)) #[] #[]] }, W1, gf,
    #[.func (.yield (D + 1)) #[] #[]] ++ lb, W1, ?_, ?_, ?_, ?_, fun _ => h1, ?_⟩
  · rw [← hW1, hrec, ← hD]; exact run_enterLoop_outer _ _ _ _ _
  · simp only [resolve, hg]
    simp [go_sem]
  · intro f' hf'; simp [Target.leads] at hf'; subst hf'; exact hFg
  · simp [invoke, go_sem, eg]
  · refine (hseq (D + 1)
      (fun pre fq W => ∃ fp, fq = withL fp D ∧ I pre fp W ∧ ¬ fp D ∧ ¬ fp (D + 1) ∧ W.heap[D + 1]? = some (.loop (rec .ready none)) ∧ W.heap[D]? = some (.deferred (some [])))
      (fun pre fq W => ∃ fp c, fq = withL fp D ∧ Ix c pre fp W ∧ ¬ fp D ∧ ¬ fp (D + 1) ∧ W.heap[D + 1]? = some (.loop (rec .done (some c))) ∧ W.heap[D]? = some (.deferred (some [])))
      (withL fp0 D) W1 hb1 (fun b hb => by
        rcases hb with h | h | h
        · exact hfp0 b h
        · omega
        · omega) ?_ ?_ ?_ ?_
      ⟨fp0, rfl, hIf _ _ _ _ h0 (hF1 _), fun h => by have := hl0 _ h; omega, fun h => by have := hl0 _ h; omega, hL1, hK1⟩).mono ?_
    · rintro pre fq A B ⟨fp, rfl, hi, h1, h2, hl, hk⟩ hf
      exact ⟨fp, rfl, hIf _ _ _ _ hi (hf.mono fun b _ h => .inl h), h1, h2, (hf.same _ (Array.getElem?_eq_some_iff.1 hl).1 (.inr (.inr rfl))).trans hl, (hf.same _ (Array.getElem?_eq_some_iff.1 hk).1 (.inr (.inl rfl))).trans hk⟩
    · rintro pre fq A ⟨fp, c, rfl, hi, h1, h2, hl, hk⟩ B hf
      exact ⟨fp, c, rfl, hXf _ _ _ _ _ hi (hf.mono fun b _ h => .inl h), h1, h2, (hf.same _ (Array.getElem?_eq_some_iff.1 hl).1 (.inr (.inr rfl))).trans hl, (hf.same _ (Array.getElem?_eq_some_iff.1 hk).1 (.inr (.inl rfl))).trans hk⟩
    · rintro pre fq A ⟨fp, rfl, hi, _, _, hl, hk⟩
      have hlt := (Array.getElem?_eq_some_iff.1 hl).1
      refine ⟨(hIb _ _ _ hi).1, fun b hb => ?_⟩
      rcases hb with h | h | h
      · exact (hIb _ _ _ hi).2 b h
      · omega
      · omega
    · -- one round
      rintro pre fq W hge ⟨fp, rfl, hi, hn1, hn2, hl, hk⟩
      have hlt := (Array.getElem?_eq_some_iff.1 hl).1
      have hy := run_yield (P := P) (args := #[Value.int .i64 (S pre.length)]) hl (by rw [hrec]; simp [hps])
      rw [hrec] at hy
      refine ⟨fn, _, assign, body, hy, roundIn_of_wpIn hfn (wpIn_mono (hround (D + 1) pre fp W hi (fun b hb => hge b (.inl hb))) ?_)⟩
      clear hy
      rintro e a3 W3 hp
      cases e with
      | normal =>
        obtain ⟨fp1, hfa, hs, hlt1, hbody⟩ := hp
        have hm1 : ¬ fp1 D := fun h => (hs D h).elim hn1 (fun h' => by omega)
        have hm2 : ¬ fp1 (D + 1) := fun h => (hs _ h).elim hn2 (fun h' => by omega)
        have hl3 := (hfa.same _ hlt hn2).trans hl
        have hk3 := (hfa.same D (by omega) hn1).trans hk
        have hlt3 := (Array.getElem?_eq_some_iff.1 hl3).1
        refine ⟨_, run_beginRound hl3 (by rw [hrec]), ?_⟩
        have hl4 : (W3.putObj (D + 1) (.loop { rec .ready none with state := .busy })).heap[D + 1]? = some (.loop { rec .ready none with state := .busy }) := World.putObj_heap_same hlt3
        have hk4 : (W3.putObj (D + 1) (.loop { rec .ready none with state := .busy })).heap[D]? = some (.deferred (some [])) := (World.putObj_heap_other (by omega)).trans hk3
        have hf4 : Frm fp1 W3 (W3.putObj (D + 1) (.loop { rec .ready none with state := .busy })) := Frm.putObj _ hm2
        have hs4 := hf4.size
        refine wpIn_mono (hbody _ hf4) ?_
        have fin : ∀ (jump : Option Code) (fp' : Nat → Prop) (W5 : World), Frm (fun b => ¬ fp1 b) (W3.putObj (D + 1) (.loop { rec .ready none with state := .busy })) W5 → (∀ b, fp' b → fp1 b ∨ (W3.putObj (D + 1) (.loop { rec .ready none with state := .busy })).heap.size ≤ b) → (∀ b, fp' b → b < W5.heap.size) →
            ∃ W6, (Instr.endRound (D + 1) jump).run P W5 = .ok (.bool jump.isNone) W6 ∧ Frm fp' W5 W6 ∧ ¬ fp' D ∧ ¬ fp' (D + 1) ∧ Frm (fun b => ¬ withL fp D b) W W6 ∧ (∀ b, withL fp' D b → withL fp D b ∨ W.heap.size ≤ b) ∧ (∀ b, withL fp' D b → b < W6.heap.size) ∧
              W6.heap[D + 1]? = some (.loop (rec (if jump.isNone then .ready else .done) jump)) ∧ W6.heap[D]? = some (.deferred (some [])) := fun jump fp' W5 hf5 hs5 hlt5 => by
          have hl5 := (hf5.same _ (Array.getElem?_eq_some_iff.1 hl4).1 hm2).trans hl4
          have hk5 := (hf5.same _ (Array.getElem?_eq_some_iff.1 hk4).1 hm1).trans hk4
          have hr := run_endRound (P := P) jump hl5
          have hlt5' := (Array.getElem?_eq_some_iff.1 hl5).1
          have hsa := hfa.size
          have q1 : ¬ fp' D := fun h => (hs5 D h).elim hm1 (fun h' => by omega)
          have q2 : ¬ fp' (D + 1) := fun h => (hs5 _ h).elim hm2 (fun h' => by omega)
          rw [hrec] at hr ⊢
          refine ⟨_, hr, Frm.putObj _ q2, q1, q2, ?_, fun b hb => ?_, fun b hb => ?_, World.putObj_heap_same hlt5', (World.putObj_heap_other (by omega)).trans hk5⟩
          · have k : Frm (fun b => ¬ withL fp1 D b) W3 (W5.putObj (D + 1) (.loop { rec (if jump.isNone then .ready else .done) jump with defers := w.heap.size })) :=
              ((Frm.putObj _ (fun h => h (.inr (.inr rfl)))).trans (hf5.mono (fun b _ h h' => h (.inl h')))).trans (Frm.putObj _ (fun h => h (.inr (.inr rfl))))
            rw [hrec] at k
            exact (hfa.mono (fp' := fun b => ¬ withL fp D b) (fun b _ h h' => h (.inl h'))).then k (fun b hb => by
              rcases hb with h | h | h
              · exact (hs b h).imp .inl id
              · exact .inl (.inr (.inl h))
              · exact .inl (.inr (.inr h)))
          · rcases hb with h | h | h
            · rcases hs5 b h with h' | h'
              · rcases hs b h' with h'' | h''
                · exact .inl (.inl h'')
                · exact .inr h''
              · exact .inr (by omega)
            · exact .inl (.inr (.inl h))
            · exact .inl (.inr (.inr h))
          · have e : ∀ o, (W5.putObj (D + 1) o).heap.size = W5.heap.size := fun o => by simp [World.putObj]
            rw [e]
            rcases hb with h | h | h
            · exact hlt5 b h
            · omega
            · omega
        rintro e a5 W5 hp
        cases e with
        | normal =>
          obtain ⟨fp', hf5, hs5, hlt5, hi5⟩ := hp
          obtain ⟨W6, hr, hf6, q1, q2, hfr, hsb, hl6, hl, hk⟩ := fin none fp' W5 hf5 hs5 hlt5
          exact ⟨_, _, hr, withL fp' D, hfr, hsb, hl6, .inl ⟨rfl, fp', rfl, hIf _ _ _ _ hi5 hf6, q1, q2, hl, hk⟩⟩
        | ret =>
          obtain ⟨fp', hf5, hs5, hlt5, hi5⟩ := hp
          obtain ⟨W6, hr, hf6, q1, q2, hfr, hsb, hl6, hl, hk⟩ := fin (some .ret) fp' W5 hf5 hs5 hlt5
          exact ⟨_, _, hr, withL fp' D, hfr, hsb, hl6, .inr ⟨rfl, fp', .ret, rfl, hXf _ _ _ _ _ hi5 hf6, q1, q2, hl, hk⟩⟩
        | exit id =>
          obtain ⟨fp', hf5, hs5, hlt5, hi5⟩ := hp
          obtain ⟨W6, hr, hf6, q1, q2, hfr, hsb, hl6, hl, hk⟩ := fin (some (.exit id)) fp' W5 hf5 hs5 hlt5
          exact ⟨_, _, hr, withL fp' D, hfr, hsb, hl6, .inr ⟨rfl, fp', .exit id, rfl, hXf _ _ _ _ _ hi5 hf6, q1, q2, hl, hk⟩⟩
        | goto t =>
          obtain ⟨fp', hf5, hs5, hlt5, hi5⟩ := hp
          obtain ⟨W6, hr, hf6, q1, q2, hfr, hsb, hl6, hl, hk⟩ := fin (some (.goto t)) fp' W5 hf5 hs5 hlt5
          exact ⟨_, _, hr, withL fp' D, hfr, hsb, hl6, .inr ⟨rfl, fp', .goto t, rfl, hXf _ _ _ _ _ hi5 hf6, q1, q2, hl, hk⟩⟩
        | panic ch => exact hp.elim
        | outgrown => exact hp.elim
      | _ => exact hp.elim
    · rintro e W2 ⟨⟨v, rfl⟩, pre, fq, hfr, hsub, hlt2, fp, c, rfl, hi, hn1, hn2, hl, hk⟩
      refine ⟨some c, _, by have h := run_endLoop (P := P) hl (by rw [hrec]; simp); rw [hrec] at h; exact h, ?_⟩
      refine hstop D c pre fp _ (by omega) (hXf _ _ _ _ _ hi (Frm.putObj _ hn2)) hn1 ?_ ((World.putObj_heap_other (by omega)).trans hk)
      refine (hF1 _).then (hfr.trans (Frm.putObj _ (fun h => h (.inr (.inr rfl))))) (fun b hb => ?_)
      rcases hb with h | h | h
      · exact .inl h
      · exact .inr (by omega)
      · exact .inr (by omega)
end Go.Proofs.Ytbhgbifliihlbaa
namespace Go.Proofs.Ytbhgbifliihlbaa
open Go.RowKit Go.Sort

theorem ngrown_setT {w wr : World} {g : Nat} (h : w.grownBy wr (some g)) (o : Nat) (v : Value) : w.grownBy (wr.setCell ⟨g, o, none⟩ v) (some g) :=
  ⟨h.os, h.tape, h.output, by rw [World.size_setCell]; exact h.size, fun k hk hne => (Below.heap_setCell wr ⟨g, o, none⟩ v k (fun e => hne (by rw [e]))).trans (h.block k hk hne)⟩

set_option maxHeartbeats 1000000 in
def nmadeI (n : Nat) : Array Value := madeCells #[.int .i64 0] n
theorem nmadeI_row (w : World) (n : Nat) (t : TypeId) : (w.alloc (.cells (nmadeI n) t)).rowIs w.heap.size t n (fun _ => .int .i64 0) := World.rowIs_made w (.int .i64 0) n t

/-- A list of numbers in a block of the call's own. -/
def nOwnI (w : World) (base : Nat) (v : Value) (l : List Int) : Prop :=
  ∃ g f, v = .slice (some ⟨g, 0, none⟩) l.length l.length ∧ base ≤ g ∧ w.rowIs g 2 l.length f ∧ ∀ (j : Nat) (h : j < l.length), f j = .int .i64 l[j]
theorem nOwnI.slice {w : World} {base : Nat} {v : Value} {l : List Int} (h : nOwnI w base v l) : Sl w v l := by
  obtain ⟨g, f, rfl, _, hr, hf⟩ := h
  exact ⟨_, _, rfl, .inr ⟨g, 0, rfl, hr.lt, fun k hk => by rw [Nat.zero_add, hr.cell hk, hf k hk]⟩⟩
theorem nOwnI.below {w w' : World} {base : Nat} {v : Value} {l : List Int} (h : nOwnI w base v l) (hb : Below w.heap.size w w') : nOwnI w' base v l := by
  obtain ⟨g, f, rfl, hg, hr, hf⟩ := h
  exact ⟨g, f, rfl, hg, erow_below hr hb hr.lt, hf⟩
theorem nOwnI.row {w : World} {base : Nat} {v : Value} {l : List Int} (h : nOwnI w base v l) : ∀ g, v.ownBlock = some g → base ≤ g ∧ ∃ N f, w.rowIs g 2 N f := by
  obtain ⟨g, f, rfl, hg, hr, hf⟩ := h
  intro c hc
  simp [Value.ownBlock] at hc
  subst hc
  exact ⟨hg, _, f, hr⟩
/-- A list of numbers that lies below a block. -/
def nSliceIB (w : World) (B : Nat) (v : Value) (l : List Int) : Prop :=
  ∃ a cap, v = .slice a l.length cap ∧ (l = [] ∨ ∃ b off, a = some ⟨b, off, none⟩ ∧ b < B ∧ Cs w b off l)
theorem Sl.bound {w : World} {v : Value} {l : List Int} (h : Sl w v l) : nSliceIB w w.heap.size v l := h
theorem nSliceIB.slice {w : World} {B : Nat} {v : Value} {l : List Int} (h : nSliceIB w B v l) (hB : B ≤ w.heap.size) : Sl w v l := by
  obtain ⟨a, cap, hv, h | ⟨b, off, ha, hlt, hT⟩⟩ := h
  · exact ⟨a, cap, hv, .inl h⟩
  · exact ⟨a, cap, hv, .inr ⟨b, off, ha, by omega, hT⟩⟩
theorem nSliceIB.kept {w w' : World} {B : Nat} {v : Value} {l : List Int} {row : Option Nat} (h : nSliceIB w B v l) (hg : w.grownBy w' row) (hB : B ≤ w.heap.size) (hr : ∀ g, row = some g → B ≤ g) : nSliceIB w' B v l := by
  obtain ⟨a, cap, hv, h | ⟨b, off, ha, hlt, hT⟩⟩ := h
  · exact ⟨a, cap, hv, .inl h⟩
  · refine ⟨a, cap, hv, .inr ⟨b, off, ha, hlt, fun k hk => ?_⟩⟩
    have hne : some b ≠ row := fun e => by have := hr b e.symm; omega
    exact (World.cell?_of_block (w := w) (a := ⟨b, off + k, none⟩) (hg.block b (by omega) hne)).trans (hT k hk)


def AwI (v : Value) (l : List Int) (g : Nat) : Prop := l = [] ∨ v.ownBlock ≠ some g
theorem Sl.away {w : World} {v : Value} {l : List Int} {g : Nat} (h : Sl w v l) (hg : w.heap.size ≤ g) : AwI v l g := by
  obtain ⟨a, cap, rfl, h | ⟨b, off, rfl, hlt, _⟩⟩ := h
  · exact .inl h
  · refine .inr fun e => ?_
    simp [Value.ownBlock] at e
    omega
theorem Sl.kept2 {w w' : World} {v : Value} {l : List Int} {g : Nat} (h : Sl w v l) (hg : w.grownBy w' (some g)) (hn : AwI v l g) : Sl w' v l := by
  obtain ⟨a, cap, rfl, h | ⟨b, off, rfl, hlt, hT⟩⟩ := h
  · exact ⟨a, cap, rfl, .inl h⟩
  · rcases hn with h | hn
    · exact ⟨_, cap, rfl, .inl h⟩
    · have hne : some b ≠ some g := fun e => hn (by simpa [Value.ownBlock] using e)
      exact ⟨_, cap, rfl, .inr ⟨b, off, rfl, Nat.lt_of_lt_of_le hlt hg.size, fun k hk => (World.cell?_of_block (w := w) (a := ⟨b, _, none⟩) (hg.block b hlt hne)).trans (hT k hk)⟩⟩
/-- A row by its header: the value, what it reads as, the block it lies in. -/
abbrev Row3 := Value × (List Int × Nat)
def RowAt (w : World) (base : Nat) (e : Row3) : Prop :=
  ∃ cap N f, e.1 = .slice (some ⟨e.2.2, 0, none⟩) e.2.1.length cap ∧ base ≤ e.2.2 ∧ e.2.1.length ≤ N ∧ w.rowIs e.2.2 2 N f ∧ ∀ (q : Nat) (h : q < e.2.1.length), f q = .int .i64 e.2.1[q]
theorem RowAt.cs {w : World} {base : Nat} {e : Row3} (h : RowAt w base e) : Cs w e.2.2 0 e.2.1 := fun k hk => by
  obtain ⟨cap, N, f, _, _, hN, hr, hf⟩ := h
  rw [Nat.zero_add, hr.cell (by omega), hf k hk]
theorem RowAt.lt {w : World} {base : Nat} {e : Row3} (h : RowAt w base e) : e.2.2 < w.heap.size := by
  obtain ⟨cap, N, f, _, _, hN, hr, hf⟩ := h; exact hr.lt
theorem RowAt.sl {w : World} {base : Nat} {e : Row3} (h : RowAt w base e) : Sl w e.1 e.2.1 := by
  obtain ⟨cap, N, f, hv, _⟩ := id h
  exact ⟨_, cap, hv, .inr ⟨e.2.2, 0, rfl, h.lt, h.cs⟩⟩
theorem RowAt.kept {w w' : World} {base g : Nat} {e : Row3} (h : RowAt w base e) (hg : w.grownBy w' (some g)) (hne : e.2.2 ≠ g) : RowAt w' base e := by
  obtain ⟨cap, N, f, hv, hb, hN, hr, hf⟩ := h
  exact ⟨cap, N, f, hv, hb, hN, hr.of_block (hg.block _ hr.lt fun q => hne (by simpa using q)), hf⟩
theorem RowAt.below {w w' : World} {base : Nat} {e : Row3} (h : RowAt w base e) (hb : Below w.heap.size w w') : RowAt w' base e := by
  obtain ⟨cap, N, f, hv, hb', hN, hr, hf⟩ := h
  exact ⟨cap, N, f, hv, hb', hN, erow_below hr hb hr.lt, hf⟩
theorem RowAt.mono {w : World} {base base' : Nat} {e : Row3} (h : RowAt w base e) (hb : base' ≤ base) : RowAt w base' e := by
  obtain ⟨cap, N, f, hv, hb', r⟩ := h
  exact ⟨cap, N, f, hv, Nat.le_trans hb hb', r⟩
/-- The numbers from k on. -/
def seqL (k : Int) (n : Nat) : List Int := (List.range n).map fun (i : Nat) => k + (i : Int)
theorem seqL_len (k : Int) (n : Nat) : (seqL k n).length = n := by simp [seqL]
theorem seqL_at (k : Int) (n q : Nat) (h : q < (seqL k n).length) : (seqL k n)[q] = k + (q : Int) := by simp [seqL]

/-- A list of numbers as an answer: in a block of its own, or none. -/
def OwnV (w : World) (base : Nat) (v : Value) (S : List Int) : Prop := (S = [] ∧ ∃ a c, v = .slice a 0 c) ∨ ∃ b, RowAt w base (v, S, b)
theorem OwnV.none (w : World) (base : Nat) : OwnV w base (.slice none 0 0) [] := .inl ⟨rfl, _, _, rfl⟩
theorem OwnV.below {w w' : World} {base : Nat} {v : Value} {S : List Int} (h : OwnV w base v S) (hb : Below w.heap.size w w') : OwnV w' base v S :=
  h.imp id fun ⟨b, h⟩ => ⟨b, h.below hb⟩
theorem OwnV.mono {w : World} {base base' : Nat} {v : Value} {S : List Int} (h : OwnV w base v S) (hb : base' ≤ base) : OwnV w base' v S :=
  h.imp id fun ⟨b, h⟩ => ⟨b, h.mono hb⟩
theorem OwnV.kept {w w' : World} {base b0 : Nat} {v : Value} {S : List Int} (h : OwnV w base v S) (hg : w.grownBy w' (some b0)) (hlt : b0 < base) : OwnV w' base v S :=
  h.imp id fun ⟨b, h⟩ => ⟨b, h.kept hg (by obtain ⟨_, _, _, _, hb, _⟩ := h; simp only at hb ⊢; omega)⟩
theorem OwnV.sl {w : World} {base : Nat} {v : Value} {S : List Int} (h : OwnV w base v S) : Sl w v S := by
  rcases h with ⟨rfl, a, c, rfl⟩ | ⟨b, h⟩
  · exact ⟨a, c, rfl, .inl rfl⟩
  · exact h.sl
theorem OwnV.shape {w : World} {base : Nat} {v : Value} {S : List Int} (h : OwnV w base v S) : ∃ a c, v = .slice a S.length c := by
  obtain ⟨a, c, hv, _⟩ := h.sl; exact ⟨a, c, hv⟩
/-- A list of the call's own that may have grown, as an answer. -/
theorem OwnL.toV {w : World} {base : Nat} {v : Value} {l : List Int} (h : OwnL w base v l) : OwnV w base v l := by
  obtain ⟨hx, ⟨hv, hn⟩ | ⟨g, cap, cur, hv, hbg, hg, hnc, hcap, hsz, htk⟩⟩ := h
  · exact .inl ⟨List.eq_nil_of_length_eq_zero hn, none, 0, hv⟩
  · have hsz' : cur.size = cap := by omega
    refine .inr ⟨g, cap, cap, fun j => (cur[j]?).getD (.int .i64 0), hv, hbg, hnc, ⟨cur, hg, hsz', fun i hi => ?_⟩, fun q hq => ?_⟩
    · have hi' : i < cur.size := by omega
      simp [hi']
    · have h1 : (cur.toList.take (l.length * 1))[q]? = some (.int .i64 l[q]) := by rw [htk]; simp [valsI]
      rw [List.getElem?_take_of_lt (by simpa using hq)] at h1
      simp only [Array.getElem?_toList] at h1
      simp [h1]
theorem nOwnI.kept {w w' : World} {base g : Nat} {v : Value} {l : List Int} (h : nOwnI w base v l) (hg : w.grownBy w' (some g)) (hlt : g < base) : nOwnI w' base v l := by
  obtain ⟨b, f, rfl, hb, hr, hf⟩ := h
  exact ⟨b, f, rfl, hb, hr.of_block (hg.block b hr.lt (fun e => by simp at e; omega)), hf⟩
end Go.Proofs.Ytbhgbifliihlbaa
namespace Go.Proofs.Ytbhgbifliihlbaa
open Go.RowKit Go.Sort

set_option maxHeartbeats 1000000 in
theorem neqI_some (g o cap g' o' cap' : Nat) (l : List Int) (w : World) (hl : l.length ≤ 1048576) (hT : Cs w g o l) (hT' : Cs w g' o' l) :
    Calls Try.prog 26 #[.slice (some ⟨g, o, none⟩) l.length cap, .slice (some ⟨g', o', none⟩) l.length cap'] w fun e w' => e = .returned (.bool true) ∧ Below w.heap.size w w' := by
  have hnn : ((l.length : Int) != (l.length : Int)) = false := by simp
  go_enter Try.func26, Try.ntmps26
  go_wp2
  go_loopw [5] (fun i wr => ∃ k : Nat, k ≤ l.length ∧ i = .int .i64 k ∧ ∃ n, wr = w.drewN n) (fun i _ => l.length - (intOf i).toNat)
  case atStart => exact ⟨0, by omega, rfl, 0, rfl⟩
  case round =>
    obtain ⟨k, hk, rfl, n, rfl⟩ := hrel
    by_cases hlt : k < l.length
    · have hlt' : (k : Int) < (l.length : Int) := by omega
      have a0 := hT k hlt
      have b0 := hT' k hlt
      have hq : (l[k] != l[k]) = false := by simp
      go_wp2
      go_quiet (fail)
      go_wp2
      go_roundw
      case rel => exact ⟨k + 1, by omega, by go_num, _, rfl⟩
      case measure => simp [intOf]; omega
    · obtain rfl : k = l.length := by omega
      go_wp2
      go_ret
      exact ⟨rfl, below_drewN (Below.refl _ _) n⟩

theorem neqI_zero (a a' : Option Addr) (c c' : Nat) (w : World) :
    Calls Try.prog 26 #[.slice a 0 c, .slice a' 0 c'] w fun e w' => e = .returned (.bool true) ∧ Below w.heap.size w w' := by
  go_enter Try.func26, Try.ntmps26
  go_wp2
  refine wp_loop_rounds 1 ?_
  rw [rounds_succ]
  go_wp2
  go_ret
  exact ⟨rfl, Below.refl _ _⟩

theorem neqI_same (v v' : Value) (l : List Int) (w : World) (hl : l.length ≤ 1048576) (hS : Sl w v l) (hS' : Sl w v' l) :
    Calls Try.prog 26 #[v, v'] w fun e w' => e = .returned (.bool true) ∧ Below w.heap.size w w' := by
  obtain ⟨a, cap, rfl, h⟩ := hS
  obtain ⟨a', cap', rfl, h'⟩ := hS'
  cases l with
  | nil => exact neqI_zero _ _ _ _ _
  | cons t r =>
    rcases h with h | ⟨b, off, rfl, hlt, hT⟩
    · cases h
    · rcases h' with h' | ⟨b', off', rfl, hlt', hT'⟩
      · cases h'
      · exact neqI_some b off cap b' off' cap' _ w hl hT hT'



set_option maxHeartbeats 1000000 in
theorem nmarkI_own {base : Nat} {v : Value} {l : List Int} (k0 : Int) (w : World) (h : nOwnI w base v l) (hn : l.length ≤ 1048576) (h0 : 0 ≤ k0) (h1 : k0 ≤ 1000000000) :
    Calls Try.prog 27 #[v, .int .i64 k0] w fun e w' => e = .returned (.int .i64 (k0 + l.length)) ∧ w.grownBy w' v.ownBlock := by
  obtain ⟨g, f, rfl, hg, hr, hf⟩ := h
  clear hf
  simp only [Value.ownBlock]
  generalize l.length = n at *
  go_enter Try.func27, Try.ntmps27
  go_wp2
  go_loopw [1, 5] (fun m i wr => ∃ k : Nat, k ≤ n ∧ i = .int .i64 k ∧ m = .int .i64 (k0 + k) ∧ (∃ f', wr.rowIs g 2 n f') ∧ w.grownBy wr (some g)) (fun _ i _ => n - (intOf i).toNat)
  case atStart => exact ⟨0, by omega, rfl, by simp, ⟨f, hr⟩, World.grownBy.refl _ _⟩
  case round =>
    obtain ⟨k, hk, rfl, rfl, ⟨f', hr'⟩, hg'⟩ := hrel
    by_cases hlt : k < n
    · have hlt' : (k : Int) < (n : Int) := by omega
      have c0 := hr'.cell hlt
      have z0 := hr'.frozen k
      have hr2 := hr'.set k (.int .i64 (k0 + k))
      have hg2 := ngrown_setT hg' k (.int .i64 (k0 + k))
      clear hr' hg' hr
      go_wp2
      go_roundw
      case rel => exact ⟨k + 1, by omega, by go_num, by go_num, ⟨_, hr2⟩, hg2⟩
      case measure => simp [intOf]; omega
    · obtain rfl : k = n := by omega
      go_wp2
      go_ret
      exact ⟨rfl, hg'⟩

set_option maxHeartbeats 1000000 in
theorem rmark (base : Nat) (e : Row3) (k0 : Int) (w : World) (h : RowAt w base e) (hn : e.2.1.length ≤ 1048576) (h0 : 0 ≤ k0) (h1 : k0 ≤ 1000000000) :
    Calls Try.prog 27 #[e.1, .int .i64 k0] w fun r w' => r = .returned (.int .i64 (k0 + e.2.1.length)) ∧ RowAt w' base (e.1, seqL k0 e.2.1.length, e.2.2) ∧ w.grownBy w' (some e.2.2) := by
  obtain ⟨u, l, g⟩ := e
  obtain ⟨cap, N, f, hu, hg, hN, hr, hf⟩ := h
  simp only at hu hg hN hr hf hn ⊢
  subst hu
  clear hf
  have hsl := seqL_len k0 l.length
  suffices hh : Calls Try.prog 27 #[.slice (some ⟨g, 0, none⟩) l.length cap, .int .i64 k0] w fun r w' => r = .returned (.int .i64 (k0 + l.length)) ∧ (∃ f', w'.rowIs g 2 N f' ∧ ∀ q, q < l.length → f' q = .int .i64 (k0 + (q : Int))) ∧ w.grownBy w' (some g) by
    refine hh.mono fun r w' ⟨hr', ⟨f', hrow, hf'⟩, hgr⟩ => ⟨hr', ⟨cap, N, f', by simp only [hsl], hg, by simp only [hsl]; exact hN, hrow, fun q hq => ?_⟩, hgr⟩
    rw [hf' q (by simpa [hsl] using hq)]
    simp only [seqL_at]
  clear hsl
  generalize l.length = n at *
  go_enter Try.func27, Try.ntmps27
  go_wp2
  go_loopw [1, 5] (fun m i wr => ∃ k : Nat, k ≤ n ∧ i = .int .i64 k ∧ m = .int .i64 (k0 + k) ∧ (∃ f', wr.rowIs g 2 N f' ∧ Hid (∀ q, q < k → f' q = .int .i64 (k0 + (q : Int)))) ∧ w.grownBy wr (some g)) (fun _ i _ => n - (intOf i).toNat)
  case atStart => exact ⟨0, by omega, rfl, by simp, ⟨f, hr, Lib.hid (fun q h => by omega)⟩, World.grownBy.refl _ _⟩
  case round =>
    obtain ⟨k, hk, rfl, rfl, ⟨f', hr', HF⟩, hg'⟩ := hrel
    by_cases hlt : k < n
    · have hlt' : (k : Int) < (n : Int) := by omega
      have c0 := hr'.cell (i := k) (by omega)
      have z0 := hr'.frozen k
      have hr2 := hr'.set k (.int .i64 (k0 + k))
      have hg2 := ngrown_setT hg' k (.int .i64 (k0 + k))
      have HN : Hid (∀ q, q < k + 1 → (fun j => if j = k then Value.int .i64 (k0 + (k : Int)) else f' j) q = .int .i64 (k0 + (q : Int))) := Lib.hid (fun q hq => by
        by_cases e : q = k
        · subst e; simp
        · simp only [if_neg e]; exact HF.out q (by omega))
      clear hr' hg' hr HF
      go_wp2
      go_roundw
      case rel => exact ⟨k + 1, by omega, by go_num, by go_num, ⟨_, hr2, HN⟩, hg2⟩
      case measure => simp [intOf]; omega
    · obtain rfl : k = n := by omega
      have HN := HF.out
      go_wp2
      go_ret
      exact ⟨rfl, ⟨f', hr', HN⟩, hg'⟩
set_option maxHeartbeats 1000000 in
theorem rheld (u : Value) (n : Nat) (k0 : Int) (w : World) (hS : Sl w u (seqL k0 n)) (hn : n ≤ 1048576) (h0 : 0 ≤ k0) (h1 : k0 ≤ 1000000000) :
    Calls Try.prog 34 #[u, .int .i64 k0] w fun r w' => r = .returned (.int .i64 (k0 + n)) ∧ w' = w := by
  obtain ⟨a, cap, rfl, hc⟩ := hS
  have HSQ := Lib.hid (seqL_at k0 n)
  have hsl := seqL_len k0 n
  have HL := Lib.hid hsl
  rw [hsl]
  clear hsl
  go_enter Try.func34, Try.ntmps34
  go_wp2_with fail
  go_loop [1, 5] (fun m i => ∃ k : Nat, k ≤ n ∧ i = .int .i64 k ∧ m = .int .i64 (k0 + k)) (fun _ i => n - (intOf i).toNat)
  case atStart => exact ⟨0, by omega, rfl, by simp⟩
  case round =>
    obtain ⟨k, hk, rfl, rfl⟩ := hrel
    by_cases hlt : k < n
    · have hlt' : (k : Int) < (n : Int) := by omega
      have hks : k < (seqL k0 n).length := by rw [HL.out]; exact hlt
      obtain ⟨b, off, rfl, hbb, hT⟩ : ∃ b off, a = some ⟨b, off, none⟩ ∧ b < w.heap.size ∧ Cs w b off (seqL k0 n) := by
        rcases hc with h | h
        · rw [h] at hks; simp at hks
        · exact h
      have c0 := hT k hks
      rw [HSQ.out k hks] at c0
      have hne : (k0 + (k : Int) != k0 + (k : Int)) = false := by simp
      clear hks
      go_wp2_with fail
      go_round
      case rel => exact ⟨k + 1, by omega, by go_num, by go_num⟩
      case measure => simp [intOf]; omega
    · obtain rfl : k = n := by omega
      go_wp2_with fail
      go_ret
      exact ⟨rfl, rfl⟩


theorem rmark_none (a : Option Addr) (c : Nat) (k0 : Int) (w : World) :
    Calls Try.prog 27 #[.slice a 0 c, .int .i64 k0] w fun r w' => r = .returned (.int .i64 k0) ∧ w' = w := by
  go_enter Try.func27, Try.ntmps27
  go_wp2
  refine wp_loop_rounds 1 ?_
  rw [rounds_succ]
  go_wp2
  go_ret
  exact ⟨rfl, rfl⟩
theorem OwnV.mark {w : World} {base : Nat} {v : Value} {S : List Int} (h : OwnV w base v S) (hl : S.length ≤ 1048576) (hbw : base ≤ w.heap.size) :
    Calls Try.prog 27 #[v, .int .i64 1] w fun r w' => r = .returned (.int .i64 (1 + (S.length : Int))) ∧ OwnV w' base v (seqL 1 S.length) ∧ Below base w w' := by
  rcases h with ⟨rfl, a, c, rfl⟩ | ⟨b, h⟩
  · exact (rmark_none a c 1 w).mono fun r w' ⟨hr, hw⟩ => ⟨by simpa using hr, .inl ⟨by simp [seqL], a, c, rfl⟩, by rw [hw]; exact ⟨rfl, rfl, rfl, Nat.le_refl _, fun _ _ => rfl⟩⟩
  · refine (rmark base (v, S, b) 1 w h hl (by decide) (by decide)).mono fun r w' ⟨hr, hrow, hg⟩ => ⟨hr, .inr ⟨b, hrow⟩, ?_⟩
    obtain ⟨_, _, _, _, hb, _⟩ := h
    exact ⟨hg.os, hg.tape, hg.output, hg.size, fun k hk => hg.block k (by omega) (fun e => by simp at e hb; omega)⟩
theorem OwnV.held {w : World} {base : Nat} {v : Value} {n : Nat} (h : OwnV w base v (seqL 1 n)) (hl : n ≤ 1048576) :
    Calls Try.prog 34 #[v, .int .i64 1] w fun r w' => r = .returned (.int .i64 (1 + (n : Int))) ∧ w' = w :=
  rheld v n 1 w h.sl hl (by decide) (by decide)
end Go.Proofs.Ytbhgbifliihlbaa
namespace Go.Proofs.Ytbhgbifliihlbaa
open Go.RowKit Go.Sort

set_option maxHeartbeats 1000000 in
theorem ntoI_some (b off cap : Nat) (l : List Int) (w : World) (hl : l.length ≤ 1048576) (hb : b < w.heap.size) (hT : Cs w b off l) :
    Calls Try.prog 23 #[.slice (some ⟨b, off, none⟩) l.length cap] w fun e w' =>
      e = .returned (.slice (some ⟨w.heap.size, 0, none⟩) l.length l.length) ∧ ∃ f, w'.rowIs w.heap.size 2 l.length f ∧ (∀ (j : Nat) (h : j < l.length), f j = .int .i64 l[j]) ∧ Below w.heap.size w w' := by
  obtain ⟨i0, hi, hz0, hz1, hz2⟩ := info_parts einfoI
  have hmk : ∀ w, (Instr.makeSlice 37 (.int .i64 (l.length : Int)) (.int .i64 (l.length : Int))).run Try.prog w = .ok (.slice (some ⟨w.heap.size, 0, none⟩) l.length l.length) (w.alloc (.cells (nmadeI l.length) 2)) := fun w => by
    have h := run_make (P := Try.prog) w 37 2 i0 _ Try.underlying37 hi hz0 .i64 .i64 (l.length : Int) (l.length : Int) (by omega) (by omega) (by rw [hz2]; omega) (by omega)
    rw [hz1] at h
    simpa [nmadeI, Value.cells] using h
  clear hi hz0 hz1 hz2
  go_enter Try.func23, Try.ntmps23
  go_wp2
  go_loopw [4] (fun i wr => ∃ k : Nat, k ≤ l.length ∧ i = .int .i64 k ∧ Below w.heap.size w wr ∧ ∃ f, wr.rowIs w.heap.size 2 l.length f ∧ (∀ (j : Nat) (h : j < l.length), j < k → f j = .int .i64 l[j])) (fun i _ => l.length - (intOf i).toNat)
  case atStart => exact ⟨0, by omega, rfl, ebox1 _ _, _, nmadeI_row w _ _, fun j _ h => by omega⟩
  case round =>
    obtain ⟨k, hk, rfl, hbel, f, hrow, hrt⟩ := hrel
    by_cases hlt : k < l.length
    · have hlt' : (k : Int) < (l.length : Int) := by omega
      have c0 := (hT.below hbel hb) k hlt
      have d0 := hrow.cell hlt
      have f0 := hrow.frozen k
      have rows := hrow.set k (.int .i64 l[k])
      have R : ∀ (j : Nat) (h : j < l.length), j < k + 1 → (fun j => if j = k then Value.int .i64 l[k] else f j) j = .int .i64 l[j] := fun j h hjk => by
        by_cases e : j = k
        · subst e; simp
        · simp only [if_neg e]; exact hrt j h (by omega)
      clear hrow
      go_wp2
      go_roundw
      case rel => exact ⟨k + 1, by omega, by go_num, hbel.setCell (Nat.le_refl _) _, _, rows, R⟩
      case measure => simp [intOf]; omega
    · obtain rfl : k = l.length := by omega
      go_wp2
      go_ret
      exact ⟨rfl, f, hrow, fun j h => hrt j h h, hbel⟩

theorem ntoI_any (v : Value) (l : List Int) (w : World) (hl : l.length ≤ 1048576) (hS : Sl w v l) :
    Calls Try.prog 23 #[v] w fun e w' => ∃ v', e = .returned v' ∧ Sl w' v' l ∧ Below w.heap.size w w' := by
  obtain ⟨a, cap, rfl, h | ⟨b, off, rfl, hlt, hT⟩⟩ := hS
  · subst h
    obtain ⟨i0, hi, hz0, hz1, hz2⟩ := info_parts einfoI
    have hmk : ∀ w, (Instr.makeSlice 37 (.int .i64 0) (.int .i64 0)).run Try.prog w = .ok (.slice (some ⟨w.heap.size, 0, none⟩) 0 0) (w.alloc (.cells (nmadeI 0) 2)) := fun w => by
      have h := run_make (P := Try.prog) w 37 2 i0 _ Try.underlying37 hi hz0 .i64 .i64 0 0 (by omega) (by omega) (by rw [hz2]; omega) (by omega)
      rw [hz1] at h
      simpa [nmadeI, Value.cells] using h
    clear hi hz0 hz1 hz2
    go_enter Try.func23, Try.ntmps23
    go_wp2
    refine wp_loop_rounds 1 ?_
    rw [rounds_succ]
    go_wp2
    go_ret
    exact ⟨_, rfl, ⟨_, 0, rfl, .inl rfl⟩, ebox1 _ _⟩
  · exact (ntoI_some b off cap l w hl hlt hT).mono fun e w' ⟨he, f, hr, ht, hb⟩ => ⟨_, he, ⟨_, _, rfl, .inr ⟨w.heap.size, 0, rfl, hr.lt, fun k hk => by rw [Nat.zero_add, hr.cell hk, ht k hk]⟩⟩, hb⟩

theorem ntoI_own (v : Value) (l : List Int) (w : World) (hl : l.length ≤ 1048576) (hS : Sl w v l) :
    Calls Try.prog 23 #[v] w fun e w' => ∃ v', e = .returned v' ∧ nOwnI w' w.heap.size v' l ∧ Below w.heap.size w w' := by
  obtain ⟨a, cap, rfl, h | ⟨b, off, rfl, hlt, hT⟩⟩ := hS
  · subst h
    obtain ⟨i0, hi, hz0, hz1, hz2⟩ := info_parts einfoI
    have hmk : ∀ w, (Instr.makeSlice 37 (.int .i64 0) (.int .i64 0)).run Try.prog w = .ok (.slice (some ⟨w.heap.size, 0, none⟩) 0 0) (w.alloc (.cells (nmadeI 0) 2)) := fun w => by
      have h := run_make (P := Try.prog) w 37 2 i0 _ Try.underlying37 hi hz0 .i64 .i64 0 0 (by omega) (by omega) (by rw [hz2]; omega) (by omega)
      rw [hz1] at h
      simpa [nmadeI, Value.cells] using h
    clear hi hz0 hz1 hz2
    go_enter Try.func23, Try.ntmps23
    go_wp2
    refine wp_loop_rounds 1 ?_
    rw [rounds_succ]
    go_wp2
    go_ret
    exact ⟨_, rfl, ⟨w.heap.size, _, rfl, Nat.le_refl _, nmadeI_row w 0 _, fun j h => by simp at h⟩, ebox1 _ _⟩
  · refine (ntoI_some b off cap l w hl hlt hT).mono fun e w' ⟨he, f, hr, hf, hb⟩ => ⟨_, he, ⟨w.heap.size, f, rfl, Nat.le_refl _, hr, hf⟩, hb⟩
end Go.Proofs.Ytbhgbifliihlbaa
namespace Go.Proofs.Ytbhgbifliihlbaa
open Go.RowKit Go.Sort Go.Shelf

attribute [local go_sem] Oper.semAt_some

theorem yield_any {m : Nat} (m' : Nat) {P : Program} {l : Nat} {args : Array Value} {W : World} {R : Ending → World → Prop} (h : YieldAt Fence.wide m P l args W R) : YieldAt Fence.wide m' P l args W R := by
  obtain ⟨fn, tmps, assign, body, hy, hF, hR⟩ := h
  exact ⟨fn, tmps, assign, body, hy, hF, fun c cs _ => hR c cs (fun d hd => by cases hd)⟩
theorem least_fun {α : Type} (R : Nat → α → Prop) : ∃ m : α → Nat, ∀ a, (∃ k, R k a) → R (m a) a ∧ ∀ k, R k a → m a ≤ k := by
  have key : ∀ a, ∃ m, (∃ k, R k a) → R m a ∧ ∀ k, R k a → m ≤ k := fun a => by
    rcases Classical.em (∃ k, R k a) with h | h
    · obtain ⟨k, hk⟩ := h
      have : ∀ n k, k ≤ n → R k a → ∃ m, R m a ∧ ∀ j, R j a → m ≤ j := by
        intro n
        induction n with
        | zero => exact fun k hk hR => ⟨k, hR, fun j _ => by omega⟩
        | succ n ih =>
          intro k hk hR
          rcases Classical.em (∃ j, R j a ∧ j < k) with h | h
          · obtain ⟨j, hj, hlt⟩ := h
            exact ih j (by omega) hj
          · exact ⟨k, hR, fun j hj => by
              rcases Nat.lt_or_ge j k with h' | h'
              · exact absurd ⟨j, hj, h'⟩ h
              · exact h'⟩
      obtain ⟨m, hm⟩ := this k k (Nat.le_refl _) hk
      exact ⟨m, fun _ => hm⟩
    · exact ⟨0, fun h' => absurd h' h⟩
  obtain ⟨f, hf⟩ := Classical.axiomOfChoice key
  exact ⟨f, hf⟩
/-- The series of no degrees. -/
def oneS (k : Nat) : Int := if k = 0 then 1 else 0

set_option maxRecDepth 100000 in
set_option maxHeartbeats 2000000 in
theorem only_one (n N : Nat) (hn : 1 ≤ n) (w : World) : SeqE Fence.wide n Try.prog 116 #[] oneS N w := by
  intro l J Jx fp W hW hfp hJf hXf hJb hY h0
  obtain ⟨ms, hms⟩ := least_fun (fun k (x : Value × World) => ∃ pre fq, N - pre.length = k ∧ x.1 = .int .i64 (oneS pre.length) ∧ J pre fq x.2 ∧ Frm (fun b => ¬ fp b) W x.2 ∧ (∀ b, fq b → fp b ∨ W.heap.size ≤ b))
  have hge := hW.size
  refine callsIn_of_wp Try.func116 rfl trivial ?_ rfl
  simp only [Try.ntmps116, List.size_toArray, List.length_cons, List.length_nil, Nat.reduceAdd, Nat.reduceSub, Array.replicate_succ, Array.replicate_zero, List.push_toArray, List.append_toArray, List.nil_append, List.cons_append]
  gi_wp2
  gi_loopw [2] (fun v wr => ∃ k, (fun k (x : Value × World) => ∃ pre fq, N - pre.length = k ∧ x.1 = .int .i64 (oneS pre.length) ∧ J pre fq x.2 ∧ Frm (fun b => ¬ fp b) W x.2 ∧ (∀ b, fq b → fp b ∨ W.heap.size ≤ b)) k (v, wr)) (fun v wr => ms (v, wr))
  case atStart => exact ⟨_, [], fp, rfl, rfl, h0, Frm.refl _ _, fun b hb => .inl hb⟩
  case round =>
    obtain ⟨⟨pre, fq, hk, hv, hJ, hF, hs⟩, _⟩ := hms (_, _) hrel
    simp only at hv
    subst hv
    have hlen := (hJb _ _ _ hJ).1
    obtain ⟨fn, tmps, assign, body, hy, hR⟩ := hY pre fq wr (fun b hb => (hs b hb).elim (hfp b) (fun h => by omega)) hJ
    clear hrel
    gi_wp2
    refine hR.mono ?_
    rintro e W3 ⟨fq3, hF3, hs3, hl3, (⟨rfl, hJ3⟩ | ⟨rfl, hJx3⟩)⟩
    · have hsz := hF.size
      have hR3 : ∃ pre' fq', N - pre'.length = N - (pre.length + 1) ∧ (Value.int .i64 0) = .int .i64 (oneS pre'.length) ∧ J pre' fq' W3 ∧ Frm (fun b => ¬ fp b) W W3 ∧ (∀ b, fq' b → fp b ∨ W.heap.size ≤ b) :=
        ⟨pre ++ [oneS pre.length], fq3, by simp, by simp [oneS], hJ3, hF.then hF3 hs, fun b hb => (hs3 b hb).elim (hs b) (fun h => .inr (by omega))⟩
      have HM := Lib.hid ((hms (Value.int .i64 0, W3) ⟨_, hR3⟩).2 _ hR3)
      have HR3 := Lib.hid hR3
      have HK := Lib.hid hk
      clear hR3 hk
      gi_wp2
      go_roundw
      case rel => exact ⟨_, HR3.out⟩
      case measure =>
        have h1 := HM.out
        have h2 := HK.out
        show ms (Value.int .i64 0, W3) < ms (Value.int .i64 (oneS pre.length), wr)
        omega
    · have hsz := hF.size
      gi_wp2
      go_end0
      exact ⟨⟨_, rfl⟩, _, fq3, hF.then hF3 hs, fun b hb => (hs3 b hb).elim (hs b) (fun h => .inr (by omega)), hl3, hJx3⟩

/-- A value that is an endless series. -/
def SerV (v : Value) (S : Nat → Int) (N : Nat) (w : World) : Prop :=
  ∃ gf lb, v = .func (.func gf) #[] lb ∧ (∀ args w, (callFunc gf args).run Try.prog w = .ok (.enter gf args) w) ∧ ∀ n, 1 ≤ n → SeqE Fence.wide n Try.prog gf lb S N w
theorem OwnL.of_heap {A B : World} {base : Nat} {v : Value} {l : List Int} (h : OwnL A base v l) (e : ∀ g, v.ownBlock = some g → B.heap[g]? = A.heap[g]?) : OwnL B base v l := by
  obtain ⟨h1, h2 | ⟨g, cap, cur, hv, hb, hg, r⟩⟩ := h
  · exact ⟨h1, .inl h2⟩
  · exact ⟨h1, .inr ⟨g, cap, cur, hv, hb, (e g (by rw [hv]; rfl)).trans hg, r⟩⟩
/-- What upTo owns: the box of its bound, that of its slice, the slice's block. -/
def upFp (B : Nat) (v : Value) : Nat → Prop := fun b => b = B ∨ b = B + 1 ∨ v.ownBlock = some b
structure UpI (B : Nat) (k : Nat) (S : Nat → Int) (pre : List Int) (fp : Nat → Prop) (v : Value) (W : World) : Prop where
  fp : fp = upFp B v
  kb : W.rowIs B 2 1 (fun _ => .int .i64 (k : Int))
  vb : W.rowIs (B + 1) 37 1 (fun _ => v)
  row : OwnL W (B + 2) v pre
  is : pre = (List.range pre.length).map S
theorem UpI.frame {B k : Nat} {S : Nat → Int} {pre : List Int} {fp : Nat → Prop} {v : Value} {A W : World} (h : UpI B k S pre fp v A) (hf : Frm fp A W) : UpI B k S pre fp v W := by
  have hfp := h.fp
  subst hfp
  exact ⟨rfl, h.kb.of_block (hf.same _ h.kb.lt (.inl rfl)), h.vb.of_block (hf.same _ h.vb.lt (.inr (.inl rfl))), h.row.of_heap (fun g hg => hf.same g (World.ownsRow.lt h.row g hg).2 (.inr (.inr hg))), h.is⟩
theorem UpI.lt {B k : Nat} {S : Nat → Int} {pre : List Int} {fp : Nat → Prop} {v : Value} {A : World} (h : UpI B k S pre fp v A) : ∀ b, fp b → b < A.heap.size := fun b hb => by
  have hfp := h.fp
  subst hfp
  rcases hb with rfl | rfl | hb
  · exact h.kb.lt
  · exact h.vb.lt
  · exact (World.ownsRow.lt h.row b hb).2
theorem UpI.more {B k : Nat} {S : Nat → Int} {pre : List Int} {fp : Nat → Prop} {v v' : Value} {A W1 : World} {x : Int} {o : Obj} (h : UpI B k S pre fp v A) (hx : x = S pre.length) (hB : B + 2 ≤ A.heap.size)
    (ho : OwnL W1 (B + 2) v' (pre ++ [x])) (hg : (A.alloc o).grownBy W1 v.ownBlock) (hv : v'.ownBlock = v.ownBlock ∨ v'.ownBlock = some (A.alloc o).heap.size) :
    W1.rowIs (B + 1) 37 1 (fun _ => v) ∧ UpI B k S (pre ++ [x]) (upFp B v') v' (W1.setCell ⟨B + 1, 0, none⟩ v') ∧ Frm (fun b => ¬ fp b) A (W1.setCell ⟨B + 1, 0, none⟩ v') ∧ ∀ b, upFp B v' b → fp b ∨ A.heap.size ≤ b := by
  have hfp := h.fp
  subst hfp
  have hne : ∀ b, b < B + 2 → some b ≠ v.ownBlock := fun b hb e => by have := (World.ownsRow.lt h.row b e.symm).1; omega
  have hne' : ∀ b, b < B + 2 → v'.ownBlock ≠ some b := fun b hb e => by have := (World.ownsRow.lt ho b e).1; omega
  have k1 : W1.rowIs B 2 1 (fun _ => .int .i64 (k : Int)) := (h.kb.alloc o).of_block (hg.block _ (h.kb.alloc o).lt (hne _ (by omega)))
  have v1 : W1.rowIs (B + 1) 37 1 (fun _ => v) := (h.vb.alloc o).of_block (hg.block _ (h.vb.alloc o).lt (hne _ (by omega)))
  refine ⟨v1, ⟨rfl, k1.setOther (by simp) _, (v1.set 0 v').congr (fun i hi => by simp; omega), ?_, ?_⟩, ?_, fun b hb => ?_⟩
  · exact ho.of_heap (fun g hgg => Below.heap_setCell W1 ⟨B + 1, 0, none⟩ v' g (fun e => hne' (B + 1) (by omega) (by rw [hgg, e])))
  · rw [List.length_append, List.length_singleton, List.range_succ, List.map_append, ← h.is, hx]; rfl
  · refine ((Frm.alloc _ A o).trans (Frm.grown hg fun b _ hb e => hb (.inr (.inr e.symm)))).trans (Frm.setCell _ (fun hb => hb (.inr (.inl rfl))))
  · rcases hb with rfl | rfl | hb
    · exact .inl (.inl rfl)
    · exact .inl (.inr (.inl rfl))
    · rcases hv with e | e
      · exact .inl (.inr (.inr (by rw [← e]; exact hb)))
      · rw [e] at hb; simp at hb; exact .inr (by omega)
theorem only_ser (N : Nat) (w : World) : SerV (.func (.func 116) #[] #[]) oneS N w :=
  ⟨_, _, rfl, enters_of Try.func116 (by kernel_rfl) rfl, fun n hn => only_one n N hn w⟩

set_option maxRecDepth 100000 in
set_option maxHeartbeats 4000000 in
/-- The first k + 1 numbers of a series. -/
theorem iupto (k : Nat) (sv : Value) (S : Nat → Int) (w : World) (hk : k ≤ 1000) (hS : SerV sv S (k + 1) w) :
    Calls Try.prog 78 #[.int .i64 (k : Int), sv] w fun e w' => ∃ v', e = .returned v' ∧ OwnV w' w.heap.size v' ((List.range (k + 1)).map S) ∧ Below w.heap.size w w' := by
  obtain ⟨gf, lb, rfl, eg, hseq⟩ := hS
  obtain ⟨i0, hi, hz0, hz1, hz2⟩ := info_parts einfoI
  refine (callsIn_wide (n := 9)).1 ?_
  refine callsIn_of_wp_marks Try.func78 rfl trivial ?_ rfl
  simp only [Try.ntmps78, List.size_toArray, List.length_cons, List.length_nil, Nat.reduceAdd, Nat.reduceSub, Array.replicate_succ, Array.replicate_zero, List.push_toArray, List.append_toArray, List.nil_append, List.cons_append]
  gi_wp2
  obtain ⟨W0, hW0, hb0, hI0⟩ : ∃ W0, W0 = (w.alloc (.cells #[.int .i64 (k : Int)] 2)).alloc (.cells #[.slice none 0 0] 37) ∧ Below w.heap.size w W0 ∧ UpI w.heap.size k S [] (upFp w.heap.size (.slice none 0 0)) (.slice none 0 0) W0 := by
    refine ⟨_, rfl, ebox2 _ _ _, rfl, ?_, ?_, World.ownsRow_nil _ _ _ _, rfl⟩
    · exact (World.rowIs_alloc w #[.int .i64 (k : Int)] _ _ (fun i hi => by simp at hi; subst hi; rfl)).alloc _
    · have h := World.rowIs_alloc (w.alloc (.cells #[.int .i64 (k : Int)] 2)) #[.slice none 0 0] 37 (fun _ => .slice none 0 0) (fun i hi => by simp at hi; subst hi; rfl)
      rw [World.size_alloc] at h
      exact h
  rw [← hW0]
  clear hW0
  have hs0 := hb0.size
  refine wpIn_range_E rfl (by omega) (gf := gf) (lb := lb) rfl trivial eg (hseq 8 (by omega)) hb0 rfl
    (fun pre fp W => pre.length < k + 1 ∧ ∃ v, UpI w.heap.size k S pre fp v W)
    (fun c pre fp W => c = .exit 0 ∧ pre.length = k + 1 ∧ ∃ v, UpI w.heap.size k S pre fp v W)
    (fun pre fp A B ⟨h1, v, h2⟩ hf => ⟨h1, v, h2.frame hf⟩) (fun c pre fp A B ⟨h0, h1, v, h2⟩ hf => ⟨h0, h1, v, h2.frame hf⟩) (fun pre fp A ⟨h1, v, h2⟩ => ⟨h1, h2.lt⟩)
    (upFp w.heap.size (.slice none 0 0)) (fun b hb => ?_) ⟨by simp, _, hI0⟩ ?round ?stop
  · rcases hb with rfl | rfl | h
    · exact Nat.le_refl _
    · omega
    · simp [Value.ownBlock] at h
  case round =>
    rintro l pre fp W ⟨hlen, v, hI⟩ _
    gi_wp2
    refine ⟨fp, Frm.refl _ _, fun b h => .inl h, hI.lt, fun W2 hf2 => ?_⟩
    have hI2 := hI.frame hf2
    have hfp := hI2.fp
    subst hfp
    have c0 := hI2.kb.cell (i := 0) (by omega)
    have c1 := hI2.vb.cell (i := 0) (by omega)
    have f1 := hI2.vb.frozen 0
    have hB2 : w.heap.size + 2 ≤ W2.heap.size := by have := hI2.vb.lt; omega
    have hln : ((pre ++ [S pre.length]).length : Nat) = pre.length + 1 := by simp
    gi_wp2_with (gi_at_builtin; go_loud (refine wpListIn_append_own_at _ rfl _ _ 37 rfl (w.heap.size + 2) 2 i0 _ 1 8 Try.underlying37 hi hz0 hz1 hz2 rfl (by decide) v pre.length (valsI pre) rfl (World.ownsRow.alloc hI2.row _) ⟨W2.heap.size, 0, none⟩ 1 1 [.int .i64 (S pre.length)] rfl rfl (World.news_of_block (cs := #[.int .i64 (S pre.length)]) (t := 2) (fr := (0, 0)) (heap_alloc_new W2 _)) (by simp [Value.oneCell']) (by unfold maxLen; omega) (by omega) (by simp; omega) ?_; intro v' w1 hown' hgrow _ hblk; obtain ⟨g', cap', rfl⟩ := ownsRow_succ hown'; obtain ⟨u1, u2, u3, u4⟩ := UpI.more (x := S pre.length) hI2 rfl hB2 (by have h := hown'; rw [valsI_snoc] at h; simpa [OwnL] using h) hgrow hblk; have e1 := u1.cell (i := 0) (by omega); have e2 := u1.frozen 0; have e3 := u2.kb.cell (i := 0) (by omega); have e4 := u2.vb.cell (i := 0) (by omega)))
    · exact ⟨_, u3, u4, u2.lt, rfl, by rw [hln]; omega, _, u2⟩
    · exact ⟨_, u3, u4, u2.lt, by rw [hln]; omega, _, u2⟩
  case stop =>
    rintro D c pre fp W hD ⟨rfl, hlen, v, hI⟩ hnD hfr hK
    have c1 := hI.vb.cell (i := 0) (by omega)
    have hfp := hI.fp
    subst hfp
    have hnv : v.ownBlock ≠ some D := fun e => hnD (.inr (.inr e))
    have hlt := (Array.getElem?_eq_some_iff.1 hK).1
    gi_wp2
    refine ⟨by simp, .inl ⟨_, _, rfl, run_takeDeferred hK, ?_⟩⟩
    refine ⟨_, results_tmp rfl _ _ _, v, rfl, ?_, ?_⟩
    · have h : OwnL (W.putObj D (.deferred none)) (w.heap.size + 2) v pre := hI.row.of_heap (fun g hg => World.putObj_heap_other (fun e => hnv (by rw [hg, e])))
      have h2 := h.toV.mono (show w.heap.size ≤ w.heap.size + 2 by omega)
      rw [hI.is, hlen] at h2
      exact h2
    · have hf : Below w.heap.size W0 W := hfr.below (by omega) (fun b hb h => by
        rcases h with rfl | rfl | h
        · omega
        · omega
        · simp [Value.ownBlock] at h)
      exact (hb0.trans hf).trans (belowK_b (w := w) (Nat.le_refl _) W D _ _ (by omega) hK rfl rfl)
end Go.Proofs.Ytbhgbifliihlbaa
