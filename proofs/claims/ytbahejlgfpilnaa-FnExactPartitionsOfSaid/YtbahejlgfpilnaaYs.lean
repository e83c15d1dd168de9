/-
  A drawn region inside a fence (in a round too): its still head in any order, then its tail. Conditions: as the theorem states.
-/
import Derived.StillTail
import Derived.StillTailTactics
import Derived.StillTactics
import Derived.OwnWalkIn
import Derived.OrdersIn
import Derived.TacticsInMore
namespace Go.Proofs.Ytbahejlgfpilnaa
open Go

def noDefer (ops : Array Oper) : Bool := ops.all fun o => match o.op with | .defer _ => false | _ => true

section
variable {F : Fence} {nF : Nat} {P : Program} {ops : Array Oper} {md : Region.Mode} {w : World} {Q : Exit → Act → World → Prop}

theorem wpOpIn_of_stOp (hF : ∀ f, F.fn f) (hdp : F.depth.isSome = true → 1 ≤ nF) (hC : ∀ f args w R, Calls P f args w R → CallsIn F (nF - 1) P f args w R) (hD : noDefer ops = true) {i : Nat} {Ks : Act → Prop} {K : Act → World → Prop} {a : Act}
    (hK : ∀ a', Ks a' → K a' w) (h : stOp P ops w i Ks a) : wpOpIn F nF P ops Q i K a w := by
  cases hi : ops[i]? with
  | none =>
    unfold stOp at h
    simp only [hi] at h
    unfold wpOpIn
    simp only [hi]
    exact hK _ h
  | some o =>
    obtain ⟨v, hy, hk⟩ := yieldsAt_of_stOp hi h
    have hs : o.semAt F.round a.eval = execOp a.eval o := Oper.semAt_plain F _ _ (fun c hc => by
      unfold noDefer at hD
      have := (Array.all_eq_true.1 hD) i (Array.getElem?_eq_some_iff.1 hi).1
      rw [(Array.getElem?_eq_some_iff.1 hi).2, hc] at this
      cases this)
    unfold wpOpIn
    simp only [hi]
    rcases hy with ⟨hw, hv | ⟨hv, rfl⟩ | ⟨f, args, hv, hc⟩⟩ | ⟨hw, rfl⟩
    · simp only [hw, if_true, Oper.wpIn, hs, hv, Oper.uponIn]
      exact ⟨fun f _ => hF f, hK _ hk⟩
    · simp only [hw, if_true, Oper.wpIn, hs, hv, Oper.uponIn]
      exact ⟨fun f _ => hF f, hK _ hk⟩
    · simp only [hw, if_true, Oper.wpIn, hs, hv, Oper.uponIn]
      exact ⟨fun f _ => hF f, hdp, (hC _ _ _ _ hc).mono fun e w'' he => by obtain ⟨rfl, rfl⟩ := he; exact hK _ hk⟩
    · simp only [hw, Bool.false_eq_true, if_false]
      exact ⟨fun f _ => hF f, hK _ hk⟩

theorem wpAnyIn_of_head (hF : ∀ f, F.fn f) (hdp : F.depth.isSome = true → 1 ≤ nF) (hC : ∀ f args w R, Calls P f args w R → CallsIn F (nF - 1) P f args w R) (hD : noDefer ops = true) {n g : Nat} {L : Array Bool → Act → Prop}
    (hL : ∀ listed a, L listed a → wpAnyIn F nF P md ops Q g listed a w) :
    ∀ (f : Nat) (listed : Array Bool) (a : Act), wpAnyL P md ops w n L f listed a → wpAnyIn F nF P md ops Q (f + g) listed a w
  | 0, listed, a, h => by rw [Nat.zero_add]; exact hL _ _ h
  | f + 1, listed, a, h => by
    rw [Nat.add_right_comm]
    exact ⟨fun h0 => absurd h0 h.1, fun i hi => wpOpIn_of_stOp hF hdp hC hD (fun a' h' => wpAnyIn_of_head hF hdp hC hD hL f _ a' h') (h.2 i hi).2⟩

theorem wpAnyIn_of_seq : ∀ (l : List Oper) (k : Nat) (listed : Array Bool) (a : Act) (w : World), (∀ j, l[j]? = ops[k + j]?) →
    Region.seqB md ops l.length k listed = true → wpListIn F nF P ops Q l a w → wpAnyIn F nF P md ops Q l.length listed a w
  | [], _, _, _, _, _, hB, h => ⟨by simpa [Region.seqB] using hB, h⟩
  | o :: l, k, listed, a, w, hl, hB, h => by
    have h0 : ops[k]? = some o := by simpa using (hl 0).symm
    simp only [List.length_cons, Region.seqB, Bool.and_eq_true, decide_eq_true_eq] at hB
    refine ⟨fun h1 => (by rw [hB.1] at h1; cases h1), fun i hi => ?_⟩
    rw [hB.1] at hi
    obtain rfl : i = k := by simpa using hi
    have hw : wpOpIn F nF P ops Q i (wpListIn F nF P ops Q l) a w := by unfold wpOpIn; simp only [h0]; exact h
    exact wpOpIn_mono (fun a' w' h' => wpAnyIn_of_seq l (i + 1) _ a' w' (fun j => by have := hl (j + 1); simpa [Nat.add_assoc, Nat.add_comm 1 j] using this) hB.2 h') hw

/-- The first n operations leave the world alone, the others follow one another. -/
theorem region_tailIn {id : Nat} {a : Act} {l : List Oper} (n : Nat) (hF : ∀ f, F.fn f) (hdp : F.depth.isSome = true → 1 ≤ nF) (hC : ∀ f args w R, Calls P f args w R → CallsIn F (nF - 1) P f args w R) (hD : noDefer l.toArray = true) (hm : P.follows .mixedOrders = true) (hB : Region.lexTailB .any l.toArray n = true)
    (h : wpStill P l.toArray w.drew (fun a' => wpListIn F nF P l.toArray Q (l.drop n) a' w.drew) (l.take n) a) : (Code.region id l.toArray true).wpIn F nF P Q a w := by
  simp only [Region.lexTailB, Bool.and_eq_true, decide_eq_true_eq] at hB
  obtain ⟨⟨⟨⟨hsel, hn⟩, hs⟩, hc⟩, hlex⟩ := hB
  have htl : (l.take n).length = n := by
    have : n < l.length := by simpa using hn
    simp
    omega
  have hdl : (l.drop n).length = l.toArray.size - n := by simp
  have inv0 : HeadInv .any l.toArray n (Array.replicate l.toArray.size false) :=
    ⟨by simp, fun j oj _ hl => (by rw [getD_replicate_false] at hl; cases hl), fun t _ ht => getD_in (by simpa using ht) (getD_replicate_false _ _)⟩
  have H := wpAnyL_lex (md := .any) (g := l.toArray.size - n) hsel hs hc hn (l.take n) 0 _ a (fun j hj => by
    have hj' : j < n := by rw [htl] at hj; exact hj
    simp [hj']) (by simpa using htl) inv0 (by rw [htl]; exact hlex) h
  refine wpIn_region_any hm ?_
  have := wpAnyIn_of_head (Q := Q) (g := l.toArray.size - n) hF hdp hC hD (fun listed a' hL => by
    have := wpAnyIn_of_seq (md := .any) (Q := Q) (l.drop n) n listed a' w.drew (fun j => by simp [List.getElem?_drop]) (by rw [hdl]; exact hL.1) hL.2
    rwa [hdl] at this) _ _ _ H
  rw [htl, Nat.add_sub_of_le (Nat.le_of_lt hn)] at this
  exact this
end
end Go.Proofs.Ytbahejlgfpilnaa
