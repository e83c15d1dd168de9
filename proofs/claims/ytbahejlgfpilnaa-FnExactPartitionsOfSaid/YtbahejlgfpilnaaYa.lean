/-
  slices.All at a list of exponents: the places and the elements, in their order. Conditions: as each theorem states.
-/
import Derived.Test.YtbahejlgfpilnaaNz
import Derived.RangeFuncNested
import Derived.RangeFuncBound
import Derived.RangeFuncCalls
import Derived.RangeFuncLeaves
import Derived.Shelf.Abstract
import Derived.Shelf.RegionOpen
import Derived.OwnWalkIn
import Derived.TacticsInMore
import Derived.LoopNIn
import Derived.LoopIn
namespace Go.Proofs.Ytbahejlgfpilnaa
open Go.RowKit Go.Sort Go.Shelf

attribute [local go_sem] Oper.semAt_some

abbrev EX3 := Int × Int × Int
/-- Blocks between two marks are as they were. -/
structure KpI (lo hi : Nat) (w w' : World) : Prop where
  size : w.heap.size ≤ w'.heap.size
  block : ∀ b, lo ≤ b → b < hi → w'.heap[b]? = w.heap[b]?
theorem KpI.refl (lo hi : Nat) (w : World) : KpI lo hi w w := ⟨Nat.le_refl _, fun _ _ _ => rfl⟩
theorem KpI.trans {lo hi : Nat} {A B C : World} (h : KpI lo hi A B) (k : KpI lo hi B C) : KpI lo hi A C := ⟨Nat.le_trans h.size k.size, fun b h1 h2 => (k.block b h1 h2).trans (h.block b h1 h2)⟩
theorem KpI.of_below {lo hi : Nat} {A B : World} (h : Below hi A B) : KpI lo hi A B := ⟨h.size, fun b _ h2 => h.block b h2⟩
theorem KpI.putObj {lo hi : Nat} {w : World} (hn : hi ≤ w.heap.size) (W : World) (l : Nat) (o o' : Obj) (hl : w.heap.size ≤ l) (h : W.heap[l]? = some o) (h1 : o.isCells = false) (h2 : o.isWalk = false) : KpI lo hi W (W.putObj l o') :=
  KpI.of_below (belowK_b hn W l o o' hl h h1 h2)
theorem KpI.of_grown {lo hi : Nat} {A B : World} {row : Option Nat} (h : A.grownBy B row) (hh : hi ≤ A.heap.size) (hr : ∀ g, row = some g → g < lo) : KpI lo hi A B := ⟨h.size, fun b h1 h2 => h.block b (by omega) (fun e => by have := hr b e.symm; omega)⟩
/-- A slice that reads as a list of exponents, in a block between two marks. -/
def ExW (w : World) (b off : Nat) (l : List EX3) : Prop := ∀ (k : Nat) (h : k < l.length), w.cell? ⟨b, off + k * 3, none⟩ = some (.int .u8 l[k].1) ∧ w.cell? ⟨b, off + k * 3 + 1, none⟩ = some (.int .u8 l[k].2.1) ∧ w.cell? ⟨b, off + k * 3 + 2, none⟩ = some (.int .u8 l[k].2.2)
def SlEI (lo hi : Nat) (w : World) (v : Value) (l : List EX3) : Prop :=
  ∃ a cap, v = .slice a l.length cap ∧ (l = [] ∨ ∃ b off, a = some ⟨b, off, none⟩ ∧ (lo ≤ b ∧ b < hi) ∧ ExW w b off l)
theorem ExW.kept {w w' : World} {b off lo hi : Nat} {l : List EX3} (h : ExW w b off l) (hb : KpI lo hi w w') (h1 : lo ≤ b) (h2 : b < hi) : ExW w' b off l := fun k hk => by
  obtain ⟨c0, c1, c2⟩ := h k hk
  have q : ∀ o, w'.cell? ⟨b, o, none⟩ = w.cell? ⟨b, o, none⟩ := fun o => World.cell?_of_block (a := ⟨b, o, none⟩) (hb.block b h1 h2)
  exact ⟨(q _).trans c0, (q _).trans c1, (q _).trans c2⟩
theorem SlEI.kept {lo hi : Nat} {w w' : World} {v : Value} {l : List EX3} (h : SlEI lo hi w v l) (hb : KpI lo hi w w') : SlEI lo hi w' v l := by
  obtain ⟨a, cap, hv, h | ⟨b, off, ha, ⟨h1, h2⟩, hT⟩⟩ := h
  · exact ⟨a, cap, hv, .inl h⟩
  · exact ⟨a, cap, hv, .inr ⟨b, off, ha, ⟨h1, h2⟩, hT.kept hb h1 h2⟩⟩
theorem SlEI.mono {lo hi lo' hi' : Nat} {w : World} {v : Value} {l : List EX3} (h : SlEI lo hi w v l) (h1 : lo' ≤ lo) (h2 : hi ≤ hi') : SlEI lo' hi' w v l := by
  obtain ⟨a, cap, hv, h | ⟨b, off, ha, ⟨h3, h4⟩, hT⟩⟩ := h
  · exact ⟨a, cap, hv, .inl h⟩
  · exact ⟨a, cap, hv, .inr ⟨b, off, ha, ⟨by omega, by omega⟩, hT⟩⟩
theorem slE_of {w : World} {base : Nat} {v : Value} {l : List EX3} (h : w.ownsRow base 107 3 v l.length (cells3 l)) : SlEI base w.heap.size w v l := by
  have hlt := h.lt
  rcases LaysE.of_owns h with ⟨rfl, rfl⟩ | ⟨g, cap, rfl, hg, hc⟩
  · exact ⟨none, 0, rfl, .inl rfl⟩
  · refine ⟨_, cap, rfl, .inr ⟨g, 0, rfl, ⟨(hlt g rfl).1, hg⟩, fun k hk => ?_⟩⟩
    obtain ⟨h0, h1, h2⟩ := cells3_at l k hk
    rw [Nat.zero_add]
    exact ⟨hc _ _ h0, hc _ _ h1, hc _ _ h2⟩
/-- What a round is handed. -/
abbrev encE (l : List EX3) (x : Fin l.length) : Array Value := #[.int .i64 (x.1 : Int), .agg #[.int .u8 (l[x.1]'x.2).1, .int .u8 (l[x.1]'x.2).2.1, .int .u8 (l[x.1]'x.2).2.2]]

set_option maxRecDepth 100000 in
set_option maxHeartbeats 2000000 in
/-- The closure of slices.All, for every body of a loop that keeps what lay below n₀. -/
theorem gall1 (F : Fence) (n : Nat) (h7 : F.fn 221) (hro : F.round = none) (hn : 1 ≤ n) (l Bs m₀ n₀ B0 : Nat) (sv : Value) (L : List EX3) (hl : L.length ≤ 1048576) (J Jx : List (Fin L.length) → World → Prop) (hJ : AbidesFrom B0 J)
    (hY : ∀ pre (x : Fin L.length) W, J pre W → pre.length < L.length → YieldAt F (n - 1) Try.prog l (encE L x) W fun e W' =>
      (e = .returned (.bool true) ∧ J (pre ++ [x]) W' ∧ KpI m₀ n₀ W W') ∨ (e = .returned (.bool false) ∧ Jx (pre ++ [x]) W'))
    (W : World) (hn₀ : n₀ ≤ W.heap.size) (hBs : W.cell? ⟨Bs, 0, none⟩ = some sv) (hS : SlEI m₀ n₀ W sv L) (h0 : J [] W) :
    CallsIn F n Try.prog 221 #[.func (.yield l) #[] #[], .pointer (some ⟨Bs, 0, none⟩)] W fun e W' => (∃ v, e = .returned v) ∧
      ((∃ ys, ys = List.finRange L.length ∧ J ys W') ∨ (∃ pre, pre <+: List.finRange L.length ∧ Jx pre W')) := by
  obtain ⟨a, cap, rfl, hSc⟩ := hS
  refine callsIn_of_wp Try.func221 rfl h7 ?_ hro
  simp only [Try.ntmps221, List.size_toArray, List.length_cons, List.length_nil, Nat.reduceAdd, Nat.reduceSub, Array.replicate_succ, Array.replicate_zero, List.push_toArray, List.append_toArray, List.nil_append, List.cons_append]
  gi_wp2
  gi_loopw [7] (fun i wr => ∃ k : Nat, k ≤ L.length ∧ i = .int .i64 k ∧ J ((List.finRange L.length).take k) wr ∧ KpI m₀ n₀ W wr)
    (fun i _ => L.length - (intOf i).toNat)
  case atStart => exact ⟨0, Nat.zero_le _, rfl, by simpa using h0, KpI.refl _ _ _⟩
  case round =>
    obtain ⟨k, hk, rfl, hJs, hnx⟩ := hrel
    by_cases hlt : k < L.length
    · have hlt' : (k : Int) < (L.length : Int) := by omega
      obtain ⟨b, off, rfl, hbb, hT⟩ : ∃ b off, a = some ⟨b, off, none⟩ ∧ (m₀ ≤ b ∧ b < n₀) ∧ ExW W b off L := by
        rcases hSc with rfl | h
        · simp at hlt
        · exact h
      obtain ⟨a0, a1, a2⟩ := (hT.kept hnx hbb.1 hbb.2) k hlt
      have hlf : k < (List.finRange L.length).length := by simpa using hlt
      have htk : ((List.finRange L.length).take k).length < L.length := by simp; omega
      have HS : Hid ((List.finRange L.length).take (k + 1) = (List.finRange L.length).take k ++ [⟨k, hlt⟩]) := Lib.hid (by
        rw [List.take_succ_eq_append_getElem hlf]; simp)
      have HP : Hid ((List.finRange L.length).take (k + 1) <+: List.finRange L.length) := Lib.hid (List.take_prefix _ _)
      have hsz : n₀ ≤ wr.heap.size := Nat.le_trans hn₀ hnx.size
      obtain ⟨ex, hex⟩ : ∃ e, L[k].1 = e := ⟨_, rfl⟩
      obtain ⟨ey, hey⟩ : ∃ e, L[k].2.1 = e := ⟨_, rfl⟩
      obtain ⟨ez, hez⟩ : ∃ e, L[k].2.2 = e := ⟨_, rfl⟩
      have hJ1 : J ((List.finRange L.length).take k) (wr.alloc (.cells #[.int .u8 ex, .int .u8 ey, .int .u8 ez] 107)) := hJ _ _ _ none hJs (World.grownBy_alloc wr _ none) (fun r e => by cases e)
      have hyy := hY _ ⟨k, hlt⟩ _ hJ1 htk
      unfold encE at hyy
      simp only [hex, hey, hez] at hyy
      rw [hex] at a0
      rw [hey] at a1
      rw [hez] at a2
      obtain ⟨fn, tmps, assign, body, hy, hR⟩ := hyy
      have hb1 : KpI m₀ n₀ wr (wr.alloc (.cells #[.int .u8 ex, .int .u8 ey, .int .u8 ez] 107)) := KpI.of_below ((Below.refl n₀ wr).alloc hsz _)
      clear hJ1 hex hey hez
      gi_wp2
      refine hR.mono ?_
      rintro e W3 (⟨rfl, hJ3, hk3⟩ | ⟨rfl, hJx3⟩)
      · gi_wp2
        go_roundw
        case rel => exact ⟨k + 1, by omega, by simp, by rw [HS.out]; exact hJ3, hnx.trans (hb1.trans hk3)⟩
        case measure => simp [intOf]; omega
      · gi_wp2
        refine bodyPost_ret (results_none rfl _ _ _) rfl ?_
        exact ⟨⟨_, rfl⟩, .inr ⟨_, by rw [← HS.out]; exact HP.out, hJx3⟩⟩
    · obtain rfl : k = L.length := by omega
      gi_wp2
      go_end0
      exact ⟨⟨_, rfl⟩, .inl ⟨_, rfl, by
        have e : (List.finRange L.length).take L.length = List.finRange L.length := List.take_of_length_le (by simp)
        rwa [e] at hJs⟩⟩

/-- slices.All(s): the slice value is boxed; the function value captures the box. -/
theorem gall (a : Option Addr) (len cap : Nat) (w : World) :
    Calls Try.prog 165 #[.slice a len cap] w fun e w' => e = .returned (.func (.func 221) #[] #[.pointer (some ⟨w.heap.size, 0, none⟩)]) ∧ w' = w.alloc (.cells #[.slice a len cap] 176) := by
  have hmf : ∀ (fn : Fn) (first cap : Array Value) (w : World), (Instr.makeFunc fn first cap).run Try.prog w = .ok (.func fn first cap) w := fun _ _ _ _ => rfl
  go_enter Try.func165, Try.ntmps165
  go_wp2
  go_ret
  exact ⟨rfl, rfl⟩

theorem gall_stops (F : Fence) (n : Nat) (h7 : F.fn 221) (hro : F.round = none) (hn : 1 ≤ n) (Bs m₀ n₀ : Nat) (sv : Value) (L : List EX3) (hl : L.length ≤ 1048576) (w : World) (hBs : Bs < w.heap.size) (hn₀ : n₀ ≤ w.heap.size)
    (hc : w.cell? ⟨Bs, 0, none⟩ = some sv) (hS : SlEI m₀ n₀ w sv L) :
    SeqStopsK F n Try.prog 221 #[.pointer (some ⟨Bs, 0, none⟩)] (encE L) (KpI m₀ n₀) (fun ys => ys = List.finRange L.length) (fun pre => pre <+: List.finRange L.length) L.length w := fun l J Jx W hW hJ _ hY h0 =>
  gall1 F n h7 hro hn l Bs m₀ n₀ W.heap.size sv L hl J Jx hJ hY W (Nat.le_trans hn₀ hW.size) ((hW.cell (p := ⟨Bs, 0, none⟩) hBs).trans hc) (hS.kept (KpI.of_below (hW.mono hn₀))) h0
end Go.Proofs.Ytbahejlgfpilnaa
