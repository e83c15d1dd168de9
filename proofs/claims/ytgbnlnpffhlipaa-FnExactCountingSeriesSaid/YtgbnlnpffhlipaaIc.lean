/-
  ENDLESS SERIES: one degree more. Conditions: as each theorem states.
-/
import Derived.Test.YtgbnlnpffhlipaaIb
namespace Go.Proofs.Ytgbnlnpffhlipaa
open Go.RowKit Go.Sort Go.Shelf

attribute [local go_sem] Oper.semAt_some

/-- The series S with one degree more. -/
def dS (S : Nat → Int) (d k : Nat) : Int := if _h : 1 ≤ d ∧ d ≤ k then S k + dS S d (k - d) else S k
termination_by k
decreasing_by omega
theorem dS_lt {S : Nat → Int} {d k : Nat} (h : k < d) : dS S d k = S k := by rw [dS, dif_neg (by omega)]
theorem dS_ge {S : Nat → Int} {d k : Nat} (hd : 1 ≤ d) (h : d ≤ k) : dS S d k = S k + dS S d (k - d) := by rw [dS, dif_pos ⟨hd, h⟩]
def lsS (D : Nat → Int) (n : Nat) : List Int := (List.range n).map D
theorem lsS_len (D : Nat → Int) (n : Nat) : (lsS D n).length = n := by simp [lsS]
theorem lsS_succ (D : Nat → Int) (n : Nat) : lsS D (n + 1) = lsS D n ++ [D n] := by simp [lsS, List.range_succ]
theorem lsS_get (D : Nat → Int) (n k : Nat) (h : k < (lsS D n).length) : (lsS D n)[k] = D k := by simp [lsS]

def dgFp (B q : Nat) (v : Value) (fo : Nat → Prop) : Nat → Prop := fun b => b = B ∨ b = B + 1 ∨ b = q ∨ v.ownBlock = some b ∨ fo b
/-- A round's state: n numbers are kept, m of them were yielded. -/
structure DgI (oq : Option Obj) (B q l d : Nat) (D : Nat → Int) (J : List Int → (Nat → Prop) → World → Prop) (n m : Nat) (fp : Nat → Prop) (v : Value) (fo : Nat → Prop) (W : World) : Prop where
  fp : fp = dgFp B q v fo
  yb : W.rowIs B 43 1 (fun _ => .func (.yield l) #[] #[])
  vb : W.rowIs (B + 1) 22 1 (fun _ => v)
  qb : W.rowIs q 2 1 (fun _ => .int .i64 (d : Int))
  qo : W.heap[q]? = oq
  row : OwnL W (B + 2) v (lsS D n)
  j : J (lsS D m) fo W
  lt : ∀ b, fo b → b < W.heap.size
  off : ∀ b, fo b → b ≠ B ∧ b ≠ B + 1 ∧ b ≠ q ∧ v.ownBlock ≠ some b
variable {oq : Option Obj} {B q l d : Nat} {D : Nat → Int} {J J' : List Int → (Nat → Prop) → World → Prop} {n m m' : Nat} {fp fo fo' : Nat → Prop} {v v' : Value} {A W W1 : World}
theorem DgI.frame (h : DgI oq B q l d D J n m fp v fo A) (hJ : ∀ pre fp A B, J pre fp A → Frm fp A B → J pre fp B) (hf : Frm fp A W) : DgI oq B q l d D J n m fp v fo W := by
  have hfp := h.fp
  subst hfp
  exact ⟨rfl, h.yb.of_block (hf.same _ h.yb.lt (.inl rfl)), h.vb.of_block (hf.same _ h.vb.lt (.inr (.inl rfl))), h.qb.of_block (hf.same _ h.qb.lt (.inr (.inr (.inl rfl)))), (hf.same _ h.qb.lt (.inr (.inr (.inl rfl)))).trans h.qo,
    h.row.of_heap (fun g hg => hf.same g (World.ownsRow.lt h.row g hg).2 (.inr (.inr (.inr (.inl hg))))), hJ _ _ _ _ h.j (hf.mono fun b _ hb => .inr (.inr (.inr (.inr hb)))), fun b hb => Nat.lt_of_lt_of_le (h.lt b hb) hf.size, h.off⟩
theorem DgI.below (h : DgI oq B q l d D J n m fp v fo A) : ∀ b, fp b → b < A.heap.size := fun b hb => by
  have hfp := h.fp
  subst hfp
  rcases hb with rfl | rfl | rfl | hb | hb
  · exact h.yb.lt
  · exact h.vb.lt
  · exact h.qb.lt
  · exact (World.ownsRow.lt h.row b hb).2
  · exact h.lt b hb
theorem DgI.more {x : Int} {o : Obj} (h : DgI oq B q l d D J n m fp v fo A) (hJ : ∀ pre fp A B, J pre fp A → Frm fp A B → J pre fp B) (hx : x = D n) (hB : B + 2 ≤ A.heap.size) (hq : q < B)
    (ho : OwnL W1 (B + 2) v' (lsS D n ++ [x])) (hg : (A.alloc o).grownBy W1 v.ownBlock) (hv : v'.ownBlock = v.ownBlock ∨ v'.ownBlock = some (A.alloc o).heap.size) :
    W1.rowIs (B + 1) 22 1 (fun _ => v) ∧ DgI oq B q l d D J (n + 1) m (dgFp B q v' fo) v' fo (W1.setCell ⟨B + 1, 0, none⟩ v') ∧ Frm (fun b => ¬ fp b) A (W1.setCell ⟨B + 1, 0, none⟩ v') ∧ ∀ b, dgFp B q v' fo b → fp b ∨ A.heap.size ≤ b := by
  have hfp := h.fp
  subst hfp
  have hne : ∀ b, b < B + 2 → some b ≠ v.ownBlock := fun b hb e => by have := (World.ownsRow.lt h.row b e.symm).1; omega
  have hne' : ∀ b, b < B + 2 → v'.ownBlock ≠ some b := fun b hb e => by have := (World.ownsRow.lt ho b e).1; omega
  have y1 : W1.rowIs B 43 1 (fun _ => .func (.yield l) #[] #[]) := (h.yb.alloc o).of_block (hg.block _ (h.yb.alloc o).lt (hne _ (by omega)))
  have q1 : W1.rowIs q 2 1 (fun _ => .int .i64 (d : Int)) := (h.qb.alloc o).of_block (hg.block _ (h.qb.alloc o).lt (hne _ (by omega)))
  have v1 : W1.rowIs (B + 1) 22 1 (fun _ => v) := (h.vb.alloc o).of_block (hg.block _ (h.vb.alloc o).lt (hne _ (by omega)))
  have qq : (W1.setCell ⟨B + 1, 0, none⟩ v').heap[q]? = oq := ((Below.heap_setCell W1 ⟨B + 1, 0, none⟩ v' q (by simp; omega)).trans ((hg.block _ (h.qb.alloc o).lt (hne _ (by omega))).trans (Below.heap_alloc A o q h.qb.lt))).trans h.qo
  have hF : Frm fo A (W1.setCell ⟨B + 1, 0, none⟩ v') := ((Frm.alloc _ A o).trans (Frm.grown hg fun b _ hb e => (h.off b hb).2.2.2 e.symm)).trans (Frm.setCell _ (fun hb => (h.off _ hb).2.1 rfl))
  refine ⟨v1, ⟨rfl, y1.setOther (by simp) _, (v1.set 0 v').congr (fun i hi => by simp; omega), q1.setOther (by simp; omega) _, qq, ?_, hJ _ _ _ _ h.j hF, fun b hb => Nat.lt_of_lt_of_le (h.lt b hb) hF.size, fun b hb => ?_⟩, ?_, fun b hb => ?_⟩
  · rw [lsS_succ, ← hx]
    exact ho.of_heap (fun g hgg => Below.heap_setCell W1 ⟨B + 1, 0, none⟩ v' g (fun e => hne' (B + 1) (by omega) (by rw [hgg, e])))
  · obtain ⟨h1, h2, h3, h4⟩ := h.off b hb
    refine ⟨h1, h2, h3, fun e => ?_⟩
    rcases hv with e' | e'
    · exact h4 (by rw [← e']; exact e)
    · have hb2 := h.lt b hb
      rw [e'] at e; simp at e; omega
  · refine ((Frm.alloc _ A o).trans (Frm.grown hg fun b _ hb e => hb (.inr (.inr (.inr (.inl e.symm)))))).trans (Frm.setCell _ (fun hb => hb (.inr (.inl rfl))))
  · rcases hb with rfl | rfl | rfl | hb | hb
    · exact .inl (.inl rfl)
    · exact .inl (.inr (.inl rfl))
    · exact .inl (.inr (.inr (.inl rfl)))
    · rcases hv with e | e
      · exact .inl (.inr (.inr (.inr (.inl (by rw [← e]; exact hb)))))
      · rw [e] at hb; simp at hb; exact .inr (by omega)
    · exact .inl (.inr (.inr (.inr (.inr hb))))
theorem DgI.yielded (h : DgI oq B q l d D J n m fp v fo A) (hf : Frm (fun b => ¬ fo b) A W) (hs : ∀ b, fo' b → fo b ∨ A.heap.size ≤ b) (hl : ∀ b, fo' b → b < W.heap.size) (hj : J' (lsS D m') fo' W) :
    DgI oq B q l d D J' n m' (dgFp B q v fo') v fo' W ∧ Frm (fun b => ¬ fp b) A W ∧ ∀ b, dgFp B q v fo' b → fp b ∨ A.heap.size ≤ b := by
  have hfp := h.fp
  subst hfp
  refine ⟨⟨rfl, h.yb.of_block (hf.same _ h.yb.lt fun hb => (h.off _ hb).1 rfl), h.vb.of_block (hf.same _ h.vb.lt fun hb => (h.off _ hb).2.1 rfl), h.qb.of_block (hf.same _ h.qb.lt fun hb => (h.off _ hb).2.2.1 rfl), (hf.same _ h.qb.lt fun hb => (h.off _ hb).2.2.1 rfl).trans h.qo,
    h.row.of_heap (fun g hg => hf.same g (World.ownsRow.lt h.row g hg).2 fun hb => (h.off _ hb).2.2.2 hg), hj, hl, fun b hb => ?_⟩, hf.mono fun b _ hb hb' => hb (.inr (.inr (.inr (.inr hb')))), fun b hb => ?_⟩
  · rcases hs b hb with h1 | h1
    · exact h.off b h1
    · have h2 := h.yb.lt
      have h3 := h.vb.lt
      have h4 := h.qb.lt
      refine ⟨by omega, by omega, by omega, fun e => ?_⟩
      have := (World.ownsRow.lt h.row b e).2
      omega
  · rcases hb with rfl | rfl | rfl | hb | hb
    · exact .inl (.inl rfl)
    · exact .inl (.inr (.inl rfl))
    · exact .inl (.inr (.inr (.inl rfl)))
    · exact .inl (.inr (.inr (.inr (.inl hb))))
    · exact (hs b hb).imp (fun h1 => .inr (.inr (.inr (.inr h1)))) id
end Go.Proofs.Ytgbnlnpffhlipaa
