/-
  LISTS of 64-bit numbers in memory: read, of the call's own, grown. Conditions: as each theorem states.
  COPIES of lists of numbers by the model. Conditions: as each theorem states.
  LISTS OF NUMBERS of the call's own. Conditions: as each theorem states.
  LISTS OF LISTS of numbers: read, of the call's own. Conditions: as each theorem states.
-/
import Derived.Test.YtllklhakbanhaaaGreatRows
import Derived.WalkKit
import Derived.WalkSpells
import Derived.WalkLawsBesides
import Derived.Lib.QuietBelow
import Derived.Lib.Hide
import Derived.Lib.OwnKind
import Derived.StillTailTactics
import Derived.Deep.Light
import Derived.Deep.AppendLies
import Derived.BigQuiet
import Derived.IntWalk
import Derived.Deep.OwnRows
import Derived.Deep.RegionHeld3
namespace Go.Proofs.YtllklhakbanhaaaGreat
open Go.RowKit Go.Sort

theorem ebox1 (w : World) (o : Obj) : Below w.heap.size w (w.alloc o) := (Below.refl _ _).alloc (Nat.le_refl _) o
theorem ebox2 (w : World) (o p : Obj) : Below w.heap.size w ((w.alloc o).alloc p) := (ebox1 w o).alloc (by simp) p
theorem erow_below {w w' : World} {b n B : Nat} {t : TypeId} {f : Nat → Value} (h : w.rowIs b t n f) (hb : Below B w w') (hB : b < B) : w'.rowIs b t n f := h.of_block (hb.block b hB)
theorem eowns_below {w w' : World} {base : Nat} {e : TypeId} {size : Nat} {v : Value} {n : Nat} {xs : List Value} (h : w.ownsRow base e size v n xs) (hb : Below w.heap.size w w') : w'.ownsRow base e size v n xs :=
  h.kept (row := none) ⟨hb.os, hb.tape, hb.output, hb.size, fun k hk _ => hb.block k hk⟩ (by cases v.ownBlock <;> simp)

/-- A list of numbers in cells; a slice that reads as a list. -/
def Cs (w : World) (b off : Nat) (l : List Int) : Prop := ∀ (k : Nat) (h : k < l.length), w.cell? ⟨b, off + k, none⟩ = some (.int .i64 l[k])
def Sl (w : World) (v : Value) (l : List Int) : Prop :=
  ∃ a cap, v = .slice a l.length cap ∧ (l = [] ∨ ∃ b off, a = some ⟨b, off, none⟩ ∧ b < w.heap.size ∧ Cs w b off l)
theorem Cs.below {w w' : World} {b off B : Nat} {l : List Int} (h : Cs w b off l) (hb : Below B w w') (hB : b < B) : Cs w' b off l := fun k hk => (hb.cell (p := ⟨b, _, none⟩) hB).trans (h k hk)
theorem Sl.below {w w' : World} {v : Value} {l : List Int} (h : Sl w v l) (hb : Below w.heap.size w w') : Sl w' v l := by
  obtain ⟨a, cap, hv, h | ⟨b, off, ha, hlt, hT⟩⟩ := h
  · exact ⟨a, cap, hv, .inl h⟩
  · exact ⟨a, cap, hv, .inr ⟨b, off, ha, Nat.lt_of_lt_of_le hlt hb.size, hT.below hb hlt⟩⟩
/-- A list of numbers of the call's own. -/
def valsI (l : List Int) : List Value := l.map (Value.int .i64)
def OwnL (w : World) (base : Nat) (v : Value) (l : List Int) : Prop := w.ownsRow base 2 1 v l.length (valsI l)
theorem OwnL.below {w w' : World} {base : Nat} {v : Value} {l : List Int} (h : OwnL w base v l) (hb : Below w.heap.size w w') : OwnL w' base v l := eowns_below h hb
theorem OwnL.slice {w : World} {base : Nat} {v : Value} {l : List Int} (h : OwnL w base v l) : Sl w v l := by
  have h' := h
  obtain ⟨_, ⟨hv, hn⟩ | ⟨g, cap, cur, hv, _, hg, _⟩⟩ := h
  · have : l = [] := List.eq_nil_of_length_eq_zero hn
    subst this
    exact ⟨none, 0, hv, .inl rfl⟩
  · refine ⟨_, _, hv, .inr ⟨g, 0, rfl, (h'.lt g (by rw [hv]; rfl)).2, fun k hk => ?_⟩⟩
    have := h'.cells (g := g) (by rw [hv]; rfl) k (.int .i64 l[k]) (by simp [valsI, hk])
    rwa [show (⟨g, 0, none⟩ : Addr).add k = ⟨g, 0 + k, none⟩ by unfold Addr.add; split <;> simp_all] at this
theorem valsI_snoc (l : List Int) (a : Int) : valsI l ++ [.int .i64 a] = valsI (l ++ [a]) := by simp [valsI]
theorem einfoI : (Tryz.prog.info? 2).map (fun i => (i.zero, i.size, i.bytes)) = some (some (.int .i64 0), 1, 8) := by kernel_rfl

theorem Sl.shape {w : World} {v : Value} {l : List Int} (h : Sl w v l) : ∃ a cap, v = .slice a l.length cap := by
  obtain ⟨a, cap, hv, _⟩ := h; exact ⟨a, cap, hv⟩
theorem OwnL.shape {w : World} {base : Nat} {v : Value} {l : List Int} (h : OwnL w base v l) : ∃ a cap, v = .slice a l.length cap := h.slice.shape
theorem OwnL.form {w : World} {base : Nat} {v : Value} {l : List Int} (h : OwnL w base v l) (hl : 0 < l.length) : ∃ g cap, v = .slice (some ⟨g, 0, none⟩) l.length cap ∧ base ≤ g ∧ g < w.heap.size ∧ ∀ (k : Nat) (hk : k < l.length), w.cell? ⟨g, k, none⟩ = some (.int .i64 l[k]) := by
  obtain ⟨g, cap, hv, h1, h2⟩ := World.ownsRow.form h hl
  refine ⟨g, cap, hv, h1, h2, fun k hk => ?_⟩
  have := World.ownsRow.cells h (g := g) (by rw [hv]; rfl) k (.int .i64 l[k]) (by simp [valsI, hk])
  rwa [show (⟨g, 0, none⟩ : Addr).add k = ⟨g, k, none⟩ by unfold Addr.add; split <;> simp_all] at this
theorem OwnL.mono {w : World} {base base' : Nat} {v : Value} {l : List Int} (h : OwnL w base v l) (hb : base' ≤ base) : OwnL w base' v l := by
  obtain ⟨h1, h2⟩ := h
  refine ⟨h1, ?_⟩
  rcases h2 with h2 | ⟨g, cap, cur, hv, hg, r⟩
  · exact .inl h2
  · exact .inr ⟨g, cap, cur, hv, Nat.le_trans hb hg, r⟩
theorem vals_one (l : List Int) : ∀ u ∈ valsI l, u.oneCell' = true := by
  intro u hu
  obtain ⟨a, _, rfl⟩ := List.mem_map.1 hu
  rfl
theorem vals_cells {w : World} {b off : Nat} {l : List Int} (h : Cs w b off l) : ∀ j u, (valsI l)[j]? = some u → w.cell? ((⟨b, off, none⟩ : Addr).add j) = some u := by
  intro j u hu
  have hadd : (⟨b, off, none⟩ : Addr).add j = ⟨b, off + j, none⟩ := by unfold Addr.add; split <;> simp_all
  rw [hadd]
  have hj : j < l.length := by
    rcases Nat.lt_or_ge j l.length with h' | h'
    · exact h'
    · rw [List.getElem?_eq_none (by simpa [valsI] using h')] at hu; cases hu
  have : u = .int .i64 l[j] := by simpa [valsI, hj] using hu.symm
  rw [this]; exact h j hj

/-- All numbers of a slice put behind those of a list of the call's own. -/
theorem wpList_append_ints (w : World) {ops : Array Oper} {rest : List Oper} {o : Oper} {a : Act} {Q : Exit → Act → World → Prop} (hgd : o.guard = none) (s x : Operand)
    (ho : o.op = .call { callee := .builtin .append, args := #[s, x], argTypes := #[50, 50] })
    (base : Nat) (v : Value) (xs : List Int) (hs : a.eval s = v) (hown : OwnL w base v xs)
    (v2 : Value) (ts : List Int) (hx : a.eval x = v2) (hS : Sl w v2 ts) (h63 : xs.length + ts.length ≤ 8388608) (hbase : base ≤ w.heap.size)
    (h : ∀ v' w', OwnL w' base v' (xs ++ ts) → w.grownBy w' v.ownBlock → wpList Tryz.prog ops Q rest (a.put o.dst v') w') : wpList Tryz.prog ops Q (o :: rest) a w := by
  obtain ⟨i0, hi, hz0, hz1, hz2⟩ := info_parts einfoI
  obtain ⟨A, cap, rfl, hcase⟩ := hS
  rcases A with _ | ad
  · have hn : ts = [] := by
      rcases hcase with h | ⟨b, off, h, _⟩
      · exact h
      · cases h
    subst hn
    refine wpList_plain hgd fun K hK => ?_
    have hrun : ∀ ty, (Builtin.append_ #[50, 50] ty #[v, .slice none 0 cap]).run Tryz.prog w = .ok v w := fun ty => by
      rcases hown.2 with ⟨rfl, hl⟩ | ⟨g, c, cur, rfl, _, _, hnc, _⟩
      · simp [Builtin.append_, run_underlying Tryz.underlying50, sizeOf, typeInfo, hi, Builtin.lenOf, Builtin.firstCells]
      · simp [Builtin.append_, run_underlying Tryz.underlying50, sizeOf, typeInfo, hi, Builtin.lenOf, Builtin.firstCells, hnc, storeCells]
    unfold Oper.wp execOp
    simp only [ho, resolve, invoke, builtin, Sem.run_bind, Sem.run_pure, Result.andThen_ok, List.map_toArray, List.map_cons, List.map_nil, hs, hx]
    rw [show (List.length ([] : List Int)) = 0 from rfl, hrun]
    exact hK _ _ (h v w (by simpa using hown) (World.grownBy.refl w _))
  · refine wpList_append_own w hgd s x 50 ho base 2 i0 _ 1 8 Tryz.underlying50 hi hz0 hz1 hz2 rfl (by decide) v xs.length (valsI xs) hs hown ad ts.length cap (valsI ts) hx (by simp [valsI]) ?_ (vals_one ts) (by unfold maxLen; omega) (by omega) hbase fun v' w' h1 h2 _ => h v' w' (by simpa [OwnL, valsI] using h1) h2
    intro j u hu
    rcases hcase with rfl | ⟨b, off, hA, hlt, hT⟩
    · simp [valsI] at hu
    · simp at hA
      subst hA
      exact vals_cells hT j u hu

set_option maxRecDepth 8000 in
set_option maxHeartbeats 400000 in
theorem ein (n a b : Int) (w : World) :
    Calls Tryz.prog 71 #[.int .i64 n, .int .i64 a, .int .i64 b] w fun e w' => e = .returned (.bool (decide (a ≤ n) && decide (n ≤ b))) ∧ w = w' := by
  by_cases h : a ≤ n
  · go_enter Tryz.func71, Tryz.ntmps71
    go_wp2
    go_ret
    exact ⟨by simp; omega, rfl⟩
  · go_enter Tryz.func71, Tryz.ntmps71
    go_wp2
    go_ret
    exact ⟨by simp; omega, rfl⟩
end Go.Proofs.YtllklhakbanhaaaGreat
namespace Go.Proofs.YtllklhakbanhaaaGreat
open Go.RowKit Go.Sort

theorem eown (v : Value) (l : List Int) (w : World) (hl : l.length ≤ 1048576) (hS : Sl w v l) :
    Calls Tryz.prog 172 #[v] w fun e w' => ∃ v', e = .returned v' ∧ OwnL w' w.heap.size v' l ∧ Below w.heap.size w w' := by
  have hS2 := fun o => hS.below (ebox1 w o)
  have ho : ∀ t, t = 2 → OwnL (w.alloc (.cells #[] t)) w.heap.size (.slice (some ⟨w.heap.size, 0, none⟩) 0 0) [] := fun t ht => by
    subst ht
    have := World.ownsRow_made (base := w.heap.size) (e := 2) (size := 1) w #[] 0 (by omega) (by simp [maxLen]) rfl
    simpa [OwnL, valsI] using this
  obtain ⟨a, cap, rfl, _⟩ := id hS
  go_enter Tryz.func172, Tryz.ntmps172
  go_wp2_with (at_builtin; refine wpList_append_ints _ rfl _ _ rfl w.heap.size (.slice (some ⟨w.heap.size, 0, none⟩) 0 0) [] rfl (ho _ rfl) (.slice a l.length cap) l rfl (hS2 _) (by simp; omega) (by simp) ?_)
  intro v' w' h1 h2
  have hb : Below w.heap.size w w' := (ebox1 w _).grown h2 (by simp) (fun k hk => by simp [Value.ownBlock] at hk; omega)
  go_wp2
  go_ret
  exact ⟨_, rfl, h1, hb⟩

end Go.Proofs.YtllklhakbanhaaaGreat
namespace Go.Proofs.YtllklhakbanhaaaGreat
open Go.RowKit Go.Sort

theorem ngrown_setT {w wr : World} {g : Nat} (h : w.grownBy wr (some g)) (o : Nat) (v : Value) : w.grownBy (wr.setCell ⟨g, o, none⟩ v) (some g) :=
  ⟨h.os, h.tape, h.output, by rw [World.size_setCell]; exact h.size, fun k hk hne => (Below.heap_setCell wr ⟨g, o, none⟩ v k (fun e => hne (by rw [e]))).trans (h.block k hk hne)⟩

set_option maxHeartbeats 1000000 in
def nmadeI (n : Nat) : Array Value := madeCells #[.int .i64 0] n
theorem nmadeI_row (w : World) (n : Nat) (t : TypeId) : (w.alloc (.cells (nmadeI n) t)).rowIs w.heap.size t n (fun _ => .int .i64 0) := World.rowIs_made w (.int .i64 0) n t

/-- A list of numbers in a block of the call's own. -/
def nOwnI (w : World) (base : Nat) (v : Value) (l : List Int) : Prop :=
  ∃ g f, v = .slice (some ⟨g, 0, none⟩) l.length l.length ∧ base ≤ g ∧ w.rowIs g 2 l.length f ∧ ∀ (j : Nat) (h : j < l.length), f j = .int .i64 l[j]
theorem nOwnI.slice {w : World} {base : Nat} {v : Value} {l : List Int} (h : nOwnI w base v l) : Sl w v l := by
  obtain ⟨g, f, rfl, _, hr, hf⟩ := h
  exact ⟨_, _, rfl, .inr ⟨g, 0, rfl, hr.lt, fun k hk => by rw [Nat.zero_add, hr.cell hk, hf k hk]⟩⟩
theorem nOwnI.below {w w' : World} {base : Nat} {v : Value} {l : List Int} (h : nOwnI w base v l) (hb : Below w.heap.size w w') : nOwnI w' base v l := by
  obtain ⟨g, f, rfl, hg, hr, hf⟩ := h
  exact ⟨g, f, rfl, hg, erow_below hr hb hr.lt, hf⟩
theorem nOwnI.row {w : World} {base : Nat} {v : Value} {l : List Int} (h : nOwnI w base v l) : ∀ g, v.ownBlock = some g → base ≤ g ∧ ∃ N f, w.rowIs g 2 N f := by
  obtain ⟨g, f, rfl, hg, hr, hf⟩ := h
  intro c hc
  simp [Value.ownBlock] at hc
  subst hc
  exact ⟨hg, _, f, hr⟩
/-- A list of numbers that lies below a block. -/
def nSliceIB (w : World) (B : Nat) (v : Value) (l : List Int) : Prop :=
  ∃ a cap, v = .slice a l.length cap ∧ (l = [] ∨ ∃ b off, a = some ⟨b, off, none⟩ ∧ b < B ∧ Cs w b off l)
theorem Sl.bound {w : World} {v : Value} {l : List Int} (h : Sl w v l) : nSliceIB w w.heap.size v l := h
theorem nSliceIB.slice {w : World} {B : Nat} {v : Value} {l : List Int} (h : nSliceIB w B v l) (hB : B ≤ w.heap.size) : Sl w v l := by
  obtain ⟨a, cap, hv, h | ⟨b, off, ha, hlt, hT⟩⟩ := h
  · exact ⟨a, cap, hv, .inl h⟩
  · exact ⟨a, cap, hv, .inr ⟨b, off, ha, by omega, hT⟩⟩
theorem nSliceIB.kept {w w' : World} {B : Nat} {v : Value} {l : List Int} {row : Option Nat} (h : nSliceIB w B v l) (hg : w.grownBy w' row) (hB : B ≤ w.heap.size) (hr : ∀ g, row = some g → B ≤ g) : nSliceIB w' B v l := by
  obtain ⟨a, cap, hv, h | ⟨b, off, ha, hlt, hT⟩⟩ := h
  · exact ⟨a, cap, hv, .inl h⟩
  · refine ⟨a, cap, hv, .inr ⟨b, off, ha, hlt, fun k hk => ?_⟩⟩
    have hne : some b ≠ row := fun e => by have := hr b e.symm; omega
    exact (World.cell?_of_block (w := w) (a := ⟨b, off + k, none⟩) (hg.block b (by omega) hne)).trans (hT k hk)


def AwI (v : Value) (l : List Int) (g : Nat) : Prop := l = [] ∨ v.ownBlock ≠ some g
theorem Sl.away {w : World} {v : Value} {l : List Int} {g : Nat} (h : Sl w v l) (hg : w.heap.size ≤ g) : AwI v l g := by
  obtain ⟨a, cap, rfl, h | ⟨b, off, rfl, hlt, _⟩⟩ := h
  · exact .inl h
  · refine .inr fun e => ?_
    simp [Value.ownBlock] at e
    omega
theorem Sl.kept2 {w w' : World} {v : Value} {l : List Int} {g : Nat} (h : Sl w v l) (hg : w.grownBy w' (some g)) (hn : AwI v l g) : Sl w' v l := by
  obtain ⟨a, cap, rfl, h | ⟨b, off, rfl, hlt, hT⟩⟩ := h
  · exact ⟨a, cap, rfl, .inl h⟩
  · rcases hn with h | hn
    · exact ⟨_, cap, rfl, .inl h⟩
    · have hne : some b ≠ some g := fun e => hn (by simpa [Value.ownBlock] using e)
      exact ⟨_, cap, rfl, .inr ⟨b, off, rfl, Nat.lt_of_lt_of_le hlt hg.size, fun k hk => (World.cell?_of_block (w := w) (a := ⟨b, _, none⟩) (hg.block b hlt hne)).trans (hT k hk)⟩⟩
/-- A row by its header: the value, what it reads as, the block it lies in. -/
abbrev Row3 := Value × (List Int × Nat)
def RowAt (w : World) (base : Nat) (e : Row3) : Prop :=
  ∃ cap N f, e.1 = .slice (some ⟨e.2.2, 0, none⟩) e.2.1.length cap ∧ base ≤ e.2.2 ∧ e.2.1.length ≤ N ∧ w.rowIs e.2.2 2 N f ∧ ∀ (q : Nat) (h : q < e.2.1.length), f q = .int .i64 e.2.1[q]
theorem RowAt.cs {w : World} {base : Nat} {e : Row3} (h : RowAt w base e) : Cs w e.2.2 0 e.2.1 := fun k hk => by
  obtain ⟨cap, N, f, _, _, hN, hr, hf⟩ := h
  rw [Nat.zero_add, hr.cell (by omega), hf k hk]
theorem RowAt.lt {w : World} {base : Nat} {e : Row3} (h : RowAt w base e) : e.2.2 < w.heap.size := by
  obtain ⟨cap, N, f, _, _, hN, hr, hf⟩ := h; exact hr.lt
theorem RowAt.sl {w : World} {base : Nat} {e : Row3} (h : RowAt w base e) : Sl w e.1 e.2.1 := by
  obtain ⟨cap, N, f, hv, _⟩ := id h
  exact ⟨_, cap, hv, .inr ⟨e.2.2, 0, rfl, h.lt, h.cs⟩⟩
theorem RowAt.kept {w w' : World} {base g : Nat} {e : Row3} (h : RowAt w base e) (hg : w.grownBy w' (some g)) (hne : e.2.2 ≠ g) : RowAt w' base e := by
  obtain ⟨cap, N, f, hv, hb, hN, hr, hf⟩ := h
  exact ⟨cap, N, f, hv, hb, hN, hr.of_block (hg.block _ hr.lt fun q => hne (by simpa using q)), hf⟩
theorem RowAt.below {w w' : World} {base : Nat} {e : Row3} (h : RowAt w base e) (hb : Below w.heap.size w w') : RowAt w' base e := by
  obtain ⟨cap, N, f, hv, hb', hN, hr, hf⟩ := h
  exact ⟨cap, N, f, hv, hb', hN, erow_below hr hb hr.lt, hf⟩
theorem RowAt.mono {w : World} {base base' : Nat} {e : Row3} (h : RowAt w base e) (hb : base' ≤ base) : RowAt w base' e := by
  obtain ⟨cap, N, f, hv, hb', r⟩ := h
  exact ⟨cap, N, f, hv, Nat.le_trans hb hb', r⟩
/-- The numbers from k on. -/
def seqL (k : Int) (n : Nat) : List Int := (List.range n).map fun (i : Nat) => k + (i : Int)
theorem seqL_len (k : Int) (n : Nat) : (seqL k n).length = n := by simp [seqL]
theorem seqL_at (k : Int) (n q : Nat) (h : q < (seqL k n).length) : (seqL k n)[q] = k + (q : Int) := by simp [seqL]

/-- A list of numbers as an answer: in a block of its own, or none. -/
def OwnV (w : World) (base : Nat) (v : Value) (S : List Int) : Prop := (S = [] ∧ ∃ a c, v = .slice a 0 c) ∨ ∃ b, RowAt w base (v, S, b)
theorem OwnV.none (w : World) (base : Nat) : OwnV w base (.slice none 0 0) [] := .inl ⟨rfl, _, _, rfl⟩
theorem OwnV.below {w w' : World} {base : Nat} {v : Value} {S : List Int} (h : OwnV w base v S) (hb : Below w.heap.size w w') : OwnV w' base v S :=
  h.imp id fun ⟨b, h⟩ => ⟨b, h.below hb⟩
theorem OwnV.mono {w : World} {base base' : Nat} {v : Value} {S : List Int} (h : OwnV w base v S) (hb : base' ≤ base) : OwnV w base' v S :=
  h.imp id fun ⟨b, h⟩ => ⟨b, h.mono hb⟩
theorem OwnV.kept {w w' : World} {base b0 : Nat} {v : Value} {S : List Int} (h : OwnV w base v S) (hg : w.grownBy w' (some b0)) (hlt : b0 < base) : OwnV w' base v S :=
  h.imp id fun ⟨b, h⟩ => ⟨b, h.kept hg (by obtain ⟨_, _, _, _, hb, _⟩ := h; simp only at hb ⊢; omega)⟩
theorem OwnV.sl {w : World} {base : Nat} {v : Value} {S : List Int} (h : OwnV w base v S) : Sl w v S := by
  rcases h with ⟨rfl, a, c, rfl⟩ | ⟨b, h⟩
  · exact ⟨a, c, rfl, .inl rfl⟩
  · exact h.sl
theorem OwnV.shape {w : World} {base : Nat} {v : Value} {S : List Int} (h : OwnV w base v S) : ∃ a c, v = .slice a S.length c := by
  obtain ⟨a, c, hv, _⟩ := h.sl; exact ⟨a, c, hv⟩
/-- A list of the call's own that may have grown, as an answer. -/
theorem OwnL.toV {w : World} {base : Nat} {v : Value} {l : List Int} (h : OwnL w base v l) : OwnV w base v l := by
  obtain ⟨hx, ⟨hv, hn⟩ | ⟨g, cap, cur, hv, hbg, hg, hnc, hcap, hsz, htk⟩⟩ := h
  · exact .inl ⟨List.eq_nil_of_length_eq_zero hn, none, 0, hv⟩
  · have hsz' : cur.size = cap := by omega
    refine .inr ⟨g, cap, cap, fun j => (cur[j]?).getD (.int .i64 0), hv, hbg, hnc, ⟨cur, hg, hsz', fun i hi => ?_⟩, fun q hq => ?_⟩
    · have hi' : i < cur.size := by omega
      simp [hi']
    · have h1 : (cur.toList.take (l.length * 1))[q]? = some (.int .i64 l[q]) := by rw [htk]; simp [valsI]
      rw [List.getElem?_take_of_lt (by simpa using hq)] at h1
      simp only [Array.getElem?_toList] at h1
      simp [h1]
theorem nOwnI.kept {w w' : World} {base g : Nat} {v : Value} {l : List Int} (h : nOwnI w base v l) (hg : w.grownBy w' (some g)) (hlt : g < base) : nOwnI w' base v l := by
  obtain ⟨b, f, rfl, hb, hr, hf⟩ := h
  exact ⟨b, f, rfl, hb, hr.of_block (hg.block b hr.lt (fun e => by simp at e; omega)), hf⟩
end Go.Proofs.YtllklhakbanhaaaGreat
namespace Go.Proofs.YtllklhakbanhaaaGreat
open Go.RowKit Go.Sort

/-- A slice that reads as a list of rows. -/
def RowsW (w : World) (b off : Nat) (L : List (List Int)) : Prop := ∀ (k : Nat) (h : k < L.length), ∃ v, w.cell? ⟨b, off + k, none⟩ = some v ∧ Sl w v L[k]
def SlR (w : World) (v : Value) (L : List (List Int)) : Prop :=
  ∃ a cap, v = .slice a L.length cap ∧ (L = [] ∨ ∃ b off, a = some ⟨b, off, none⟩ ∧ b < w.heap.size ∧ RowsW w b off L)
theorem RowsW.below {w w' : World} {b off : Nat} {L : List (List Int)} (h : RowsW w b off L) (hb : Below w.heap.size w w') (hB : b < w.heap.size) : RowsW w' b off L := fun k hk => by
  obtain ⟨v, h1, h2⟩ := h k hk
  exact ⟨v, (hb.cell (p := ⟨b, _, none⟩) hB).trans h1, h2.below hb⟩
theorem SlR.below {w w' : World} {v : Value} {L : List (List Int)} (h : SlR w v L) (hb : Below w.heap.size w w') : SlR w' v L := by
  obtain ⟨a, cap, hv, h | ⟨b, off, ha, hlt, hT⟩⟩ := h
  · exact ⟨a, cap, hv, .inl h⟩
  · exact ⟨a, cap, hv, .inr ⟨b, off, ha, Nat.lt_of_lt_of_le hlt hb.size, hT.below hb hlt⟩⟩
theorem einfoR : (Tryz.prog.info? 50).map (fun i => (i.zero, i.size, i.bytes)) = some (some (.slice none 0 0), 1, 24) := by kernel_rfl
/-- The block of the headers. -/
def HeadR (w : World) (g : Nat) (O : List Row3) : Prop := ∃ N f, O.length ≤ N ∧ w.rowIs g 50 N f ∧ ∀ (q : Nat) (h : q < O.length), f q = O[q].1
theorem head_row {w : World} {g base : Nat} {O : List Row3} {e : Row3} (h : HeadR w g O) (he : RowAt w base e) : e.2.2 ≠ g := by
  obtain ⟨N, f, _, ⟨cur, hc, _⟩, _⟩ := h
  obtain ⟨_, N', f', _, _, _, ⟨cur', hc', _⟩, _⟩ := he
  intro e2
  rw [e2, hc] at hc'
  simp at hc'
theorem head_at {w : World} {g : Nat} {O : List Row3} (h : HeadR w g O) {q : Nat} (hq : q < O.length) : w.cell? ⟨g, q, none⟩ = some O[q].1 := by
  obtain ⟨N, f, hN, hr, hf⟩ := h
  rw [hr.cell (by omega), hf q hq]
theorem head_kept {w w' : World} {g b : Nat} {O : List Row3} (h : HeadR w g O) (hg : w.grownBy w' (some b)) (hne : b ≠ g) : HeadR w' g O := by
  obtain ⟨N, f, hN, hr, hf⟩ := h
  exact ⟨N, f, hN, hr.of_block (hg.block _ hr.lt fun e => hne (by simpa using e.symm)), hf⟩
theorem head_below {w w' : World} {g : Nat} {O : List Row3} (h : HeadR w g O) (hb : Below w.heap.size w w') : HeadR w' g O := by
  obtain ⟨N, f, hN, hr, hf⟩ := h
  exact ⟨N, f, hN, erow_below hr hb hr.lt, hf⟩
/-- Lists of lists of numbers of the call's own: each in a block of its own. -/
def OwnRR (w : World) (base : Nat) (v : Value) (S : List (List Int)) : Prop :=
  ∃ O : List Row3, O.map (·.2.1) = S ∧ ((O = [] ∧ ∃ a c, v = .slice a 0 c) ∨ ∃ g cap, v = .slice (some ⟨g, 0, none⟩) O.length cap ∧ base ≤ g ∧ HeadR w g O) ∧ (∀ e ∈ O, RowAt w base e) ∧ (O.map (·.2.2)).Nodup
theorem OwnRR.none (w : World) (base : Nat) : OwnRR w base (.slice none 0 0) [] := ⟨[], rfl, .inl ⟨rfl, _, _, rfl⟩, by simp, by simp⟩
theorem OwnRR.below {w w' : World} {base : Nat} {v : Value} {S : List (List Int)} (h : OwnRR w base v S) (hb : Below w.heap.size w w') : OwnRR w' base v S := by
  obtain ⟨O, h1, h2, h3, h4⟩ := h
  exact ⟨O, h1, h2.imp id fun ⟨g, cap, a, b, c⟩ => ⟨g, cap, a, b, head_below c hb⟩, fun e he => (h3 e he).below hb, h4⟩
theorem OwnRR.kept {w w' : World} {base b0 : Nat} {v : Value} {S : List (List Int)} (h : OwnRR w base v S) (hg : w.grownBy w' (some b0)) (hlt : b0 < base) : OwnRR w' base v S := by
  obtain ⟨O, h1, h2, h3, h4⟩ := h
  refine ⟨O, h1, h2.imp id fun ⟨g, cap, a, b, c⟩ => ⟨g, cap, a, b, head_kept c hg (by omega)⟩, fun e he => (h3 e he).kept hg ?_, h4⟩
  obtain ⟨_, _, _, _, hb, _⟩ := h3 e he
  omega
theorem OwnRR.slR {w : World} {base : Nat} {v : Value} {S : List (List Int)} (h : OwnRR w base v S) : SlR w v S := by
  obtain ⟨O, rfl, h2, h3, h4⟩ := h
  rcases h2 with ⟨rfl, a, c, rfl⟩ | ⟨g, cap, rfl, _, hh⟩
  · exact ⟨a, c, rfl, .inl rfl⟩
  · have hlt : g < w.heap.size := by obtain ⟨_, _, _, hr, _⟩ := hh; exact hr.lt
    refine ⟨_, cap, by rw [List.length_map], .inr ⟨g, 0, rfl, hlt, fun k hk => ?_⟩⟩
    have hk' : k < O.length := by simpa using hk
    exact ⟨O[k].1, by rw [Nat.zero_add]; exact head_at hh hk', by rw [List.getElem_map]; exact (h3 _ (List.getElem_mem hk')).sl⟩
theorem OwnRR.shape {w : World} {base : Nat} {v : Value} {S : List (List Int)} (h : OwnRR w base v S) : ∃ a c, v = .slice a S.length c := by
  obtain ⟨a, c, hv, _⟩ := h.slR; exact ⟨a, c, hv⟩
end Go.Proofs.YtllklhakbanhaaaGreat
