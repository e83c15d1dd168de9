/-
  LISTS of 64-bit numbers in memory: read, of the call's own, grown. Conditions: as each theorem states.
  COPIES of lists of numbers by the model. Conditions: as each theorem states.
  LISTS OF NUMBERS of the call's own. Conditions: as each theorem states.
  LISTS OF LISTS of numbers: read, of the call's own. Conditions: as each theorem states.
  WALKS of the model on rows modulo p: small functions, the first place other than 0, copies, rows less multiples of rows. Conditions: as each theorem states.
  WALKS of the model on rows modulo p: copies, inverses of numbers, rows less multiples of rows. Conditions: as each theorem states.
  WALKS of the model on rows modulo p: a row less a multiple of another one. Conditions: as each theorem states.
  WALKS of the model on rows modulo p: lists of rows; what is left of a row. Conditions: as each theorem states.
  LISTS OF ROWS of the call's own. Conditions: as each theorem states.
-/
import Derived.Test.YtbhgbifliihlbaaGreatRows
import Derived.WalkKit
import Derived.WalkSpells
import Derived.WalkLawsBesides
import Derived.Lib.QuietBelow
import Derived.Lib.Hide
import Derived.Lib.OwnKind
import Derived.StillTailTactics
import Derived.Deep.Light
import Derived.Deep.AppendLies
import Derived.BigQuiet
import Derived.IntWalk
import Derived.Deep.OwnRows
import Derived.Deep.RegionHeld3
import Derived.Test.YtbhgbifliihlbaaGreatQ09
namespace Go.Proofs.YtbhgbifliihlbaaGreat
open Go.RowKit Go.Sort

theorem ebox1 (w : World) (o : Obj) : Below w.heap.size w (w.alloc o) := (Below.refl _ _).alloc (Nat.le_refl _) o
theorem ebox2 (w : World) (o p : Obj) : Below w.heap.size w ((w.alloc o).alloc p) := (ebox1 w o).alloc (by simp) p
theorem erow_below {w w' : World} {b n B : Nat} {t : TypeId} {f : Nat → Value} (h : w.rowIs b t n f) (hb : Below B w w') (hB : b < B) : w'.rowIs b t n f := h.of_block (hb.block b hB)
theorem eowns_below {w w' : World} {base : Nat} {e : TypeId} {size : Nat} {v : Value} {n : Nat} {xs : List Value} (h : w.ownsRow base e size v n xs) (hb : Below w.heap.size w w') : w'.ownsRow base e size v n xs :=
  h.kept (row := none) ⟨hb.os, hb.tape, hb.output, hb.size, fun k hk _ => hb.block k hk⟩ (by cases v.ownBlock <;> simp)

/-- A list of numbers in cells; a slice that reads as a list. -/
def Cs (w : World) (b off : Nat) (l : List Int) : Prop := ∀ (k : Nat) (h : k < l.length), w.cell? ⟨b, off + k, none⟩ = some (.int .i64 l[k])
def Sl (w : World) (v : Value) (l : List Int) : Prop :=
  ∃ a cap, v = .slice a l.length cap ∧ (l = [] ∨ ∃ b off, a = some ⟨b, off, none⟩ ∧ b < w.heap.size ∧ Cs w b off l)
theorem Cs.below {w w' : World} {b off B : Nat} {l : List Int} (h : Cs w b off l) (hb : Below B w w') (hB : b < B) : Cs w' b off l := fun k hk => (hb.cell (p := ⟨b, _, none⟩) hB).trans (h k hk)
theorem Sl.below {w w' : World} {v : Value} {l : List Int} (h : Sl w v l) (hb : Below w.heap.size w w') : Sl w' v l := by
  obtain ⟨a, cap, hv, h | ⟨b, off, ha, hlt, hT⟩⟩ := h
  · exact ⟨a, cap, hv, .inl h⟩
  · exact ⟨a, cap, hv, .inr ⟨b, off, ha, Nat.lt_of_lt_of_le hlt hb.size, hT.below hb hlt⟩⟩
/-- A list of numbers of the call's own. -/
def valsI (l : List Int) : List Value := l.map (Value.int .i64)
def OwnL (w : World) (base : Nat) (v : Value) (l : List Int) : Prop := w.ownsRow base 2 1 v l.length (valsI l)
theorem OwnL.below {w w' : World} {base : Nat} {v : Value} {l : List Int} (h : OwnL w base v l) (hb : Below w.heap.size w w') : OwnL w' base v l := eowns_below h hb
theorem OwnL.slice {w : World} {base : Nat} {v : Value} {l : List Int} (h : OwnL w base v l) : Sl w v l := by
  have h' := h
  obtain ⟨_, ⟨hv, hn⟩ | ⟨g, cap, cur, hv, _, hg, _⟩⟩ := h
  · have : l = [] := List.eq_nil_of_length_eq_zero hn
    subst this
    exact ⟨none, 0, hv, .inl rfl⟩
  · refine ⟨_, _, hv, .inr ⟨g, 0, rfl, (h'.lt g (by rw [hv]; rfl)).2, fun k hk => ?_⟩⟩
    have := h'.cells (g := g) (by rw [hv]; rfl) k (.int .i64 l[k]) (by simp [valsI, hk])
    rwa [show (⟨g, 0, none⟩ : Addr).add k = ⟨g, 0 + k, none⟩ by unfold Addr.add; split <;> simp_all] at this
theorem valsI_snoc (l : List Int) (a : Int) : valsI l ++ [.int .i64 a] = valsI (l ++ [a]) := by simp [valsI]
theorem einfoI : (Tryz.prog.info? 2).map (fun i => (i.zero, i.size, i.bytes)) = some (some (.int .i64 0), 1, 8) := by kernel_rfl

theorem Sl.shape {w : World} {v : Value} {l : List Int} (h : Sl w v l) : ∃ a cap, v = .slice a l.length cap := by
  obtain ⟨a, cap, hv, _⟩ := h; exact ⟨a, cap, hv⟩
theorem OwnL.shape {w : World} {base : Nat} {v : Value} {l : List Int} (h : OwnL w base v l) : ∃ a cap, v = .slice a l.length cap := h.slice.shape
theorem OwnL.form {w : World} {base : Nat} {v : Value} {l : List Int} (h : OwnL w base v l) (hl : 0 < l.length) : ∃ g cap, v = .slice (some ⟨g, 0, none⟩) l.length cap ∧ base ≤ g ∧ g < w.heap.size ∧ ∀ (k : Nat) (hk : k < l.length), w.cell? ⟨g, k, none⟩ = some (.int .i64 l[k]) := by
  obtain ⟨g, cap, hv, h1, h2⟩ := World.ownsRow.form h hl
  refine ⟨g, cap, hv, h1, h2, fun k hk => ?_⟩
  have := World.ownsRow.cells h (g := g) (by rw [hv]; rfl) k (.int .i64 l[k]) (by simp [valsI, hk])
  rwa [show (⟨g, 0, none⟩ : Addr).add k = ⟨g, k, none⟩ by unfold Addr.add; split <;> simp_all] at this
theorem OwnL.mono {w : World} {base base' : Nat} {v : Value} {l : List Int} (h : OwnL w base v l) (hb : base' ≤ base) : OwnL w base' v l := by
  obtain ⟨h1, h2⟩ := h
  refine ⟨h1, ?_⟩
  rcases h2 with h2 | ⟨g, cap, cur, hv, hg, r⟩
  · exact .inl h2
  · exact .inr ⟨g, cap, cur, hv, Nat.le_trans hb hg, r⟩
theorem vals_one (l : List Int) : ∀ u ∈ valsI l, u.oneCell' = true := by
  intro u hu
  obtain ⟨a, _, rfl⟩ := List.mem_map.1 hu
  rfl
theorem vals_cells {w : World} {b off : Nat} {l : List Int} (h : Cs w b off l) : ∀ j u, (valsI l)[j]? = some u → w.cell? ((⟨b, off, none⟩ : Addr).add j) = some u := by
  intro j u hu
  have hadd : (⟨b, off, none⟩ : Addr).add j = ⟨b, off + j, none⟩ := by unfold Addr.add; split <;> simp_all
  rw [hadd]
  have hj : j < l.length := by
    rcases Nat.lt_or_ge j l.length with h' | h'
    · exact h'
    · rw [List.getElem?_eq_none (by simpa [valsI] using h')] at hu; cases hu
  have : u = .int .i64 l[j] := by simpa [valsI, hj] using hu.symm
  rw [this]; exact h j hj

/-- All numbers of a slice put behind those of a list of the call's own. -/
theorem wpList_append_ints (w : World) {ops : Array Oper} {rest : List Oper} {o : Oper} {a : Act} {Q : Exit → Act → World → Prop} (hgd : o.guard = none) (s x : Operand)
    (ho : o.op = .call { callee := .builtin .append, args := #[s, x], argTypes := #[30, 30] })
    (base : Nat) (v : Value) (xs : List Int) (hs : a.eval s = v) (hown : OwnL w base v xs)
    (v2 : Value) (ts : List Int) (hx : a.eval x = v2) (hS : Sl w v2 ts) (h63 : xs.length + ts.length ≤ 8388608) (hbase : base ≤ w.heap.size)
    (h : ∀ v' w', OwnL w' base v' (xs ++ ts) → w.grownBy w' v.ownBlock → wpList Tryz.prog ops Q rest (a.put o.dst v') w') : wpList Tryz.prog ops Q (o :: rest) a w := by
  obtain ⟨i0, hi, hz0, hz1, hz2⟩ := info_parts einfoI
  obtain ⟨A, cap, rfl, hcase⟩ := hS
  rcases A with _ | ad
  · have hn : ts = [] := by
      rcases hcase with h | ⟨b, off, h, _⟩
      · exact h
      · cases h
    subst hn
    refine wpList_plain hgd fun K hK => ?_
    have hrun : ∀ ty, (Builtin.append_ #[30, 30] ty #[v, .slice none 0 cap]).run Tryz.prog w = .ok v w := fun ty => by
      rcases hown.2 with ⟨rfl, hl⟩ | ⟨g, c, cur, rfl, _, _, hnc, _⟩
      · simp [Builtin.append_, run_underlying Tryz.underlying30, sizeOf, typeInfo, hi, Builtin.lenOf, Builtin.firstCells]
      · simp [Builtin.append_, run_underlying Tryz.underlying30, sizeOf, typeInfo, hi, Builtin.lenOf, Builtin.firstCells, hnc, storeCells]
    unfold Oper.wp execOp
    simp only [ho, resolve, invoke, builtin, Sem.run_bind, Sem.run_pure, Result.andThen_ok, List.map_toArray, List.map_cons, List.map_nil, hs, hx]
    rw [show (List.length ([] : List Int)) = 0 from rfl, hrun]
    exact hK _ _ (h v w (by simpa using hown) (World.grownBy.refl w _))
  · refine wpList_append_own w hgd s x 30 ho base 2 i0 _ 1 8 Tryz.underlying30 hi hz0 hz1 hz2 rfl (by decide) v xs.length (valsI xs) hs hown ad ts.length cap (valsI ts) hx (by simp [valsI]) ?_ (vals_one ts) (by unfold maxLen; omega) (by omega) hbase fun v' w' h1 h2 _ => h v' w' (by simpa [OwnL, valsI] using h1) h2
    intro j u hu
    rcases hcase with rfl | ⟨b, off, hA, hlt, hT⟩
    · simp [valsI] at hu
    · simp at hA
      subst hA
      exact vals_cells hT j u hu

set_option maxRecDepth 8000 in
set_option maxHeartbeats 400000 in
theorem ein (n a b : Int) (w : World) :
    Calls Tryz.prog 51 #[.int .i64 n, .int .i64 a, .int .i64 b] w fun e w' => e = .returned (.bool (decide (a ≤ n) && decide (n ≤ b))) ∧ w = w' := by
  by_cases h : a ≤ n
  · go_enter Tryz.func51, Tryz.ntmps51
    go_wp2
    go_ret
    exact ⟨by simp; omega, rfl⟩
  · go_enter Tryz.func51, Tryz.ntmps51
    go_wp2
    go_ret
    exact ⟨by simp; omega, rfl⟩
end Go.Proofs.YtbhgbifliihlbaaGreat
namespace Go.Proofs.YtbhgbifliihlbaaGreat
open Go.RowKit Go.Sort

theorem eown (v : Value) (l : List Int) (w : World) (hl : l.length ≤ 1048576) (hS : Sl w v l) :
    Calls Tryz.prog 126 #[v] w fun e w' => ∃ v', e = .returned v' ∧ OwnL w' w.heap.size v' l ∧ Below w.heap.size w w' := by
  have hS2 := fun o => hS.below (ebox1 w o)
  have ho : ∀ t, t = 2 → OwnL (w.alloc (.cells #[] t)) w.heap.size (.slice (some ⟨w.heap.size, 0, none⟩) 0 0) [] := fun t ht => by
    subst ht
    have := World.ownsRow_made (base := w.heap.size) (e := 2) (size := 1) w #[] 0 (by omega) (by simp [maxLen]) rfl
    simpa [OwnL, valsI] using this
  obtain ⟨a, cap, rfl, _⟩ := id hS
  go_enter Tryz.func126, Tryz.ntmps126
  go_wp2_with (at_builtin; refine wpList_append_ints _ rfl _ _ rfl w.heap.size (.slice (some ⟨w.heap.size, 0, none⟩) 0 0) [] rfl (ho _ rfl) (.slice a l.length cap) l rfl (hS2 _) (by simp; omega) (by simp) ?_)
  intro v' w' h1 h2
  have hb : Below w.heap.size w w' := (ebox1 w _).grown h2 (by simp) (fun k hk => by simp [Value.ownBlock] at hk; omega)
  go_wp2
  go_ret
  exact ⟨_, rfl, h1, hb⟩

end Go.Proofs.YtbhgbifliihlbaaGreat
namespace Go.Proofs.YtbhgbifliihlbaaGreat
open Go.RowKit Go.Sort

theorem ngrown_setT {w wr : World} {g : Nat} (h : w.grownBy wr (some g)) (o : Nat) (v : Value) : w.grownBy (wr.setCell ⟨g, o, none⟩ v) (some g) :=
  ⟨h.os, h.tape, h.output, by rw [World.size_setCell]; exact h.size, fun k hk hne => (Below.heap_setCell wr ⟨g, o, none⟩ v k (fun e => hne (by rw [e]))).trans (h.block k hk hne)⟩

set_option maxHeartbeats 1000000 in
def nmadeI (n : Nat) : Array Value := madeCells #[.int .i64 0] n
theorem nmadeI_row (w : World) (n : Nat) (t : TypeId) : (w.alloc (.cells (nmadeI n) t)).rowIs w.heap.size t n (fun _ => .int .i64 0) := World.rowIs_made w (.int .i64 0) n t

/-- A list of numbers in a block of the call's own. -/
def nOwnI (w : World) (base : Nat) (v : Value) (l : List Int) : Prop :=
  ∃ g f, v = .slice (some ⟨g, 0, none⟩) l.length l.length ∧ base ≤ g ∧ w.rowIs g 2 l.length f ∧ ∀ (j : Nat) (h : j < l.length), f j = .int .i64 l[j]
theorem nOwnI.slice {w : World} {base : Nat} {v : Value} {l : List Int} (h : nOwnI w base v l) : Sl w v l := by
  obtain ⟨g, f, rfl, _, hr, hf⟩ := h
  exact ⟨_, _, rfl, .inr ⟨g, 0, rfl, hr.lt, fun k hk => by rw [Nat.zero_add, hr.cell hk, hf k hk]⟩⟩
theorem nOwnI.below {w w' : World} {base : Nat} {v : Value} {l : List Int} (h : nOwnI w base v l) (hb : Below w.heap.size w w') : nOwnI w' base v l := by
  obtain ⟨g, f, rfl, hg, hr, hf⟩ := h
  exact ⟨g, f, rfl, hg, erow_below hr hb hr.lt, hf⟩
theorem nOwnI.row {w : World} {base : Nat} {v : Value} {l : List Int} (h : nOwnI w base v l) : ∀ g, v.ownBlock = some g → base ≤ g ∧ ∃ N f, w.rowIs g 2 N f := by
  obtain ⟨g, f, rfl, hg, hr, hf⟩ := h
  intro c hc
  simp [Value.ownBlock] at hc
  subst hc
  exact ⟨hg, _, f, hr⟩
/-- A list of numbers that lies below a block. -/
def nSliceIB (w : World) (B : Nat) (v : Value) (l : List Int) : Prop :=
  ∃ a cap, v = .slice a l.length cap ∧ (l = [] ∨ ∃ b off, a = some ⟨b, off, none⟩ ∧ b < B ∧ Cs w b off l)
theorem Sl.bound {w : World} {v : Value} {l : List Int} (h : Sl w v l) : nSliceIB w w.heap.size v l := h
theorem nSliceIB.slice {w : World} {B : Nat} {v : Value} {l : List Int} (h : nSliceIB w B v l) (hB : B ≤ w.heap.size) : Sl w v l := by
  obtain ⟨a, cap, hv, h | ⟨b, off, ha, hlt, hT⟩⟩ := h
  · exact ⟨a, cap, hv, .inl h⟩
  · exact ⟨a, cap, hv, .inr ⟨b, off, ha, by omega, hT⟩⟩
theorem nSliceIB.kept {w w' : World} {B : Nat} {v : Value} {l : List Int} {row : Option Nat} (h : nSliceIB w B v l) (hg : w.grownBy w' row) (hB : B ≤ w.heap.size) (hr : ∀ g, row = some g → B ≤ g) : nSliceIB w' B v l := by
  obtain ⟨a, cap, hv, h | ⟨b, off, ha, hlt, hT⟩⟩ := h
  · exact ⟨a, cap, hv, .inl h⟩
  · refine ⟨a, cap, hv, .inr ⟨b, off, ha, hlt, fun k hk => ?_⟩⟩
    have hne : some b ≠ row := fun e => by have := hr b e.symm; omega
    exact (World.cell?_of_block (w := w) (a := ⟨b, off + k, none⟩) (hg.block b (by omega) hne)).trans (hT k hk)


def AwI (v : Value) (l : List Int) (g : Nat) : Prop := l = [] ∨ v.ownBlock ≠ some g
theorem Sl.away {w : World} {v : Value} {l : List Int} {g : Nat} (h : Sl w v l) (hg : w.heap.size ≤ g) : AwI v l g := by
  obtain ⟨a, cap, rfl, h | ⟨b, off, rfl, hlt, _⟩⟩ := h
  · exact .inl h
  · refine .inr fun e => ?_
    simp [Value.ownBlock] at e
    omega
theorem Sl.kept2 {w w' : World} {v : Value} {l : List Int} {g : Nat} (h : Sl w v l) (hg : w.grownBy w' (some g)) (hn : AwI v l g) : Sl w' v l := by
  obtain ⟨a, cap, rfl, h | ⟨b, off, rfl, hlt, hT⟩⟩ := h
  · exact ⟨a, cap, rfl, .inl h⟩
  · rcases hn with h | hn
    · exact ⟨_, cap, rfl, .inl h⟩
    · have hne : some b ≠ some g := fun e => hn (by simpa [Value.ownBlock] using e)
      exact ⟨_, cap, rfl, .inr ⟨b, off, rfl, Nat.lt_of_lt_of_le hlt hg.size, fun k hk => (World.cell?_of_block (w := w) (a := ⟨b, _, none⟩) (hg.block b hlt hne)).trans (hT k hk)⟩⟩
/-- A row by its header: the value, what it reads as, the block it lies in. -/
abbrev Row3 := Value × (List Int × Nat)
def RowAt (w : World) (base : Nat) (e : Row3) : Prop :=
  ∃ cap N f, e.1 = .slice (some ⟨e.2.2, 0, none⟩) e.2.1.length cap ∧ base ≤ e.2.2 ∧ e.2.1.length ≤ N ∧ w.rowIs e.2.2 2 N f ∧ ∀ (q : Nat) (h : q < e.2.1.length), f q = .int .i64 e.2.1[q]
theorem RowAt.cs {w : World} {base : Nat} {e : Row3} (h : RowAt w base e) : Cs w e.2.2 0 e.2.1 := fun k hk => by
  obtain ⟨cap, N, f, _, _, hN, hr, hf⟩ := h
  rw [Nat.zero_add, hr.cell (by omega), hf k hk]
theorem RowAt.lt {w : World} {base : Nat} {e : Row3} (h : RowAt w base e) : e.2.2 < w.heap.size := by
  obtain ⟨cap, N, f, _, _, hN, hr, hf⟩ := h; exact hr.lt
theorem RowAt.sl {w : World} {base : Nat} {e : Row3} (h : RowAt w base e) : Sl w e.1 e.2.1 := by
  obtain ⟨cap, N, f, hv, _⟩ := id h
  exact ⟨_, cap, hv, .inr ⟨e.2.2, 0, rfl, h.lt, h.cs⟩⟩
theorem RowAt.kept {w w' : World} {base g : Nat} {e : Row3} (h : RowAt w base e) (hg : w.grownBy w' (some g)) (hne : e.2.2 ≠ g) : RowAt w' base e := by
  obtain ⟨cap, N, f, hv, hb, hN, hr, hf⟩ := h
  exact ⟨cap, N, f, hv, hb, hN, hr.of_block (hg.block _ hr.lt fun q => hne (by simpa using q)), hf⟩
theorem RowAt.below {w w' : World} {base : Nat} {e : Row3} (h : RowAt w base e) (hb : Below w.heap.size w w') : RowAt w' base e := by
  obtain ⟨cap, N, f, hv, hb', hN, hr, hf⟩ := h
  exact ⟨cap, N, f, hv, hb', hN, erow_below hr hb hr.lt, hf⟩
theorem RowAt.mono {w : World} {base base' : Nat} {e : Row3} (h : RowAt w base e) (hb : base' ≤ base) : RowAt w base' e := by
  obtain ⟨cap, N, f, hv, hb', r⟩ := h
  exact ⟨cap, N, f, hv, Nat.le_trans hb hb', r⟩
/-- The numbers from k on. -/
def seqL (k : Int) (n : Nat) : List Int := (List.range n).map fun (i : Nat) => k + (i : Int)
theorem seqL_len (k : Int) (n : Nat) : (seqL k n).length = n := by simp [seqL]
theorem seqL_at (k : Int) (n q : Nat) (h : q < (seqL k n).length) : (seqL k n)[q] = k + (q : Int) := by simp [seqL]

/-- A list of numbers as an answer: in a block of its own, or none. -/
def OwnV (w : World) (base : Nat) (v : Value) (S : List Int) : Prop := (S = [] ∧ ∃ a c, v = .slice a 0 c) ∨ ∃ b, RowAt w base (v, S, b)
theorem OwnV.none (w : World) (base : Nat) : OwnV w base (.slice none 0 0) [] := .inl ⟨rfl, _, _, rfl⟩
theorem OwnV.below {w w' : World} {base : Nat} {v : Value} {S : List Int} (h : OwnV w base v S) (hb : Below w.heap.size w w') : OwnV w' base v S :=
  h.imp id fun ⟨b, h⟩ => ⟨b, h.below hb⟩
theorem OwnV.mono {w : World} {base base' : Nat} {v : Value} {S : List Int} (h : OwnV w base v S) (hb : base' ≤ base) : OwnV w base' v S :=
  h.imp id fun ⟨b, h⟩ => ⟨b, h.mono hb⟩
theorem OwnV.kept {w w' : World} {base b0 : Nat} {v : Value} {S : List Int} (h : OwnV w base v S) (hg : w.grownBy w' (some b0)) (hlt : b0 < base) : OwnV w' base v S :=
  h.imp id fun ⟨b, h⟩ => ⟨b, h.kept hg (by obtain ⟨_, _, _, _, hb, _⟩ := h; simp only at hb ⊢; omega)⟩
theorem OwnV.sl {w : World} {base : Nat} {v : Value} {S : List Int} (h : OwnV w base v S) : Sl w v S := by
  rcases h with ⟨rfl, a, c, rfl⟩ | ⟨b, h⟩
  · exact ⟨a, c, rfl, .inl rfl⟩
  · exact h.sl
theorem OwnV.shape {w : World} {base : Nat} {v : Value} {S : List Int} (h : OwnV w base v S) : ∃ a c, v = .slice a S.length c := by
  obtain ⟨a, c, hv, _⟩ := h.sl; exact ⟨a, c, hv⟩
/-- A list of the call's own that may have grown, as an answer. -/
theorem OwnL.toV {w : World} {base : Nat} {v : Value} {l : List Int} (h : OwnL w base v l) : OwnV w base v l := by
  obtain ⟨hx, ⟨hv, hn⟩ | ⟨g, cap, cur, hv, hbg, hg, hnc, hcap, hsz, htk⟩⟩ := h
  · exact .inl ⟨List.eq_nil_of_length_eq_zero hn, none, 0, hv⟩
  · have hsz' : cur.size = cap := by omega
    refine .inr ⟨g, cap, cap, fun j => (cur[j]?).getD (.int .i64 0), hv, hbg, hnc, ⟨cur, hg, hsz', fun i hi => ?_⟩, fun q hq => ?_⟩
    · have hi' : i < cur.size := by omega
      simp [hi']
    · have h1 : (cur.toList.take (l.length * 1))[q]? = some (.int .i64 l[q]) := by rw [htk]; simp [valsI]
      rw [List.getElem?_take_of_lt (by simpa using hq)] at h1
      simp only [Array.getElem?_toList] at h1
      simp [h1]
theorem nOwnI.kept {w w' : World} {base g : Nat} {v : Value} {l : List Int} (h : nOwnI w base v l) (hg : w.grownBy w' (some g)) (hlt : g < base) : nOwnI w' base v l := by
  obtain ⟨b, f, rfl, hb, hr, hf⟩ := h
  exact ⟨b, f, rfl, hb, hr.of_block (hg.block b hr.lt (fun e => by simp at e; omega)), hf⟩
end Go.Proofs.YtbhgbifliihlbaaGreat
namespace Go.Proofs.YtbhgbifliihlbaaGreat
open Go.RowKit Go.Sort

/-- A slice that reads as a list of rows. -/
def RowsW (w : World) (b off : Nat) (L : List (List Int)) : Prop := ∀ (k : Nat) (h : k < L.length), ∃ v, w.cell? ⟨b, off + k, none⟩ = some v ∧ Sl w v L[k]
def SlR (w : World) (v : Value) (L : List (List Int)) : Prop :=
  ∃ a cap, v = .slice a L.length cap ∧ (L = [] ∨ ∃ b off, a = some ⟨b, off, none⟩ ∧ b < w.heap.size ∧ RowsW w b off L)
theorem RowsW.below {w w' : World} {b off : Nat} {L : List (List Int)} (h : RowsW w b off L) (hb : Below w.heap.size w w') (hB : b < w.heap.size) : RowsW w' b off L := fun k hk => by
  obtain ⟨v, h1, h2⟩ := h k hk
  exact ⟨v, (hb.cell (p := ⟨b, _, none⟩) hB).trans h1, h2.below hb⟩
theorem SlR.below {w w' : World} {v : Value} {L : List (List Int)} (h : SlR w v L) (hb : Below w.heap.size w w') : SlR w' v L := by
  obtain ⟨a, cap, hv, h | ⟨b, off, ha, hlt, hT⟩⟩ := h
  · exact ⟨a, cap, hv, .inl h⟩
  · exact ⟨a, cap, hv, .inr ⟨b, off, ha, Nat.lt_of_lt_of_le hlt hb.size, hT.below hb hlt⟩⟩
theorem einfoR : (Tryz.prog.info? 30).map (fun i => (i.zero, i.size, i.bytes)) = some (some (.slice none 0 0), 1, 24) := by kernel_rfl
/-- The block of the headers. -/
def HeadR (w : World) (g : Nat) (O : List Row3) : Prop := ∃ N f, O.length ≤ N ∧ w.rowIs g 30 N f ∧ ∀ (q : Nat) (h : q < O.length), f q = O[q].1
theorem head_row {w : World} {g base : Nat} {O : List Row3} {e : Row3} (h : HeadR w g O) (he : RowAt w base e) : e.2.2 ≠ g := by
  obtain ⟨N, f, _, ⟨cur, hc, _⟩, _⟩ := h
  obtain ⟨_, N', f', _, _, _, ⟨cur', hc', _⟩, _⟩ := he
  intro e2
  rw [e2, hc] at hc'
  simp at hc'
theorem head_at {w : World} {g : Nat} {O : List Row3} (h : HeadR w g O) {q : Nat} (hq : q < O.length) : w.cell? ⟨g, q, none⟩ = some O[q].1 := by
  obtain ⟨N, f, hN, hr, hf⟩ := h
  rw [hr.cell (by omega), hf q hq]
theorem head_kept {w w' : World} {g b : Nat} {O : List Row3} (h : HeadR w g O) (hg : w.grownBy w' (some b)) (hne : b ≠ g) : HeadR w' g O := by
  obtain ⟨N, f, hN, hr, hf⟩ := h
  exact ⟨N, f, hN, hr.of_block (hg.block _ hr.lt fun e => hne (by simpa using e.symm)), hf⟩
theorem head_below {w w' : World} {g : Nat} {O : List Row3} (h : HeadR w g O) (hb : Below w.heap.size w w') : HeadR w' g O := by
  obtain ⟨N, f, hN, hr, hf⟩ := h
  exact ⟨N, f, hN, erow_below hr hb hr.lt, hf⟩
/-- Lists of lists of numbers of the call's own: each in a block of its own. -/
def OwnRR (w : World) (base : Nat) (v : Value) (S : List (List Int)) : Prop :=
  ∃ O : List Row3, O.map (·.2.1) = S ∧ ((O = [] ∧ ∃ a c, v = .slice a 0 c) ∨ ∃ g cap, v = .slice (some ⟨g, 0, none⟩) O.length cap ∧ base ≤ g ∧ HeadR w g O) ∧ (∀ e ∈ O, RowAt w base e) ∧ (O.map (·.2.2)).Nodup
theorem OwnRR.none (w : World) (base : Nat) : OwnRR w base (.slice none 0 0) [] := ⟨[], rfl, .inl ⟨rfl, _, _, rfl⟩, by simp, by simp⟩
theorem OwnRR.below {w w' : World} {base : Nat} {v : Value} {S : List (List Int)} (h : OwnRR w base v S) (hb : Below w.heap.size w w') : OwnRR w' base v S := by
  obtain ⟨O, h1, h2, h3, h4⟩ := h
  exact ⟨O, h1, h2.imp id fun ⟨g, cap, a, b, c⟩ => ⟨g, cap, a, b, head_below c hb⟩, fun e he => (h3 e he).below hb, h4⟩
theorem OwnRR.kept {w w' : World} {base b0 : Nat} {v : Value} {S : List (List Int)} (h : OwnRR w base v S) (hg : w.grownBy w' (some b0)) (hlt : b0 < base) : OwnRR w' base v S := by
  obtain ⟨O, h1, h2, h3, h4⟩ := h
  refine ⟨O, h1, h2.imp id fun ⟨g, cap, a, b, c⟩ => ⟨g, cap, a, b, head_kept c hg (by omega)⟩, fun e he => (h3 e he).kept hg ?_, h4⟩
  obtain ⟨_, _, _, _, hb, _⟩ := h3 e he
  omega
theorem OwnRR.slR {w : World} {base : Nat} {v : Value} {S : List (List Int)} (h : OwnRR w base v S) : SlR w v S := by
  obtain ⟨O, rfl, h2, h3, h4⟩ := h
  rcases h2 with ⟨rfl, a, c, rfl⟩ | ⟨g, cap, rfl, _, hh⟩
  · exact ⟨a, c, rfl, .inl rfl⟩
  · have hlt : g < w.heap.size := by obtain ⟨_, _, _, hr, _⟩ := hh; exact hr.lt
    refine ⟨_, cap, by rw [List.length_map], .inr ⟨g, 0, rfl, hlt, fun k hk => ?_⟩⟩
    have hk' : k < O.length := by simpa using hk
    exact ⟨O[k].1, by rw [Nat.zero_add]; exact head_at hh hk', by rw [List.getElem_map]; exact (h3 _ (List.getElem_mem hk')).sl⟩
theorem OwnRR.shape {w : World} {base : Nat} {v : Value} {S : List (List Int)} (h : OwnRR w base v S) : ∃ a c, v = .slice a S.length c := by
  obtain ⟨a, c, hv, _⟩ := h.slR; exact ⟨a, c, hv⟩
end Go.Proofs.YtbhgbifliihlbaaGreat
namespace Go.Proofs.YtbhgbifliihlbaaGreat
open Go.RowKit Go.Sort EchM

def pB (p : Int) : Bool := p == 2 || p == 3 || p == 5 || p == 7 || p == 11 || p == 13
theorem pB_cases (p : Int) : (p = 2 ∨ p = 3 ∨ p = 5 ∨ p = 7 ∨ p = 11 ∨ p = 13) ∨ (p == 2) = false ∧ (p == 3) = false ∧ (p == 5) = false ∧ (p == 7) = false ∧ (p == 11) = false ∧ (p == 13) = false := by
  simp; omega
theorem pB_le {p : Int} (h : pB p = true) : 2 ≤ p ∧ p ≤ 13 := by
  simp [pB] at h; omega
theorem pB_set {p : Int} (h : pB p = true) : PrimeS p := by
  simp [pB] at h; unfold PrimeS; omega

set_option maxRecDepth 8000 in
set_option maxHeartbeats 1000000 in
theorem eprime (p : Int) (w : World) : Calls Tryz.prog 50 #[.int .i64 p] w fun e w' => e = .returned (.bool (pB p)) ∧ w = w' := by
  rcases pB_cases p with (rfl | rfl | rfl | rfl | rfl | rfl) | ⟨h2, h3, h5, h7, h11, h13⟩
  all_goals
    go_enter Tryz.func50, Tryz.ntmps50
    go_wp2
    go_ret
    first | exact ⟨rfl, rfl⟩ | exact ⟨by simp [pB, h2, h3, h5, h7, h11, h13], rfl⟩
set_option maxRecDepth 8000 in
set_option maxHeartbeats 1000000 in
theorem iprime (p : Int) (w : World) : Calls Tryz.prog 64 #[.int .i64 p] w fun e w' => e = .returned (.bool (pB p)) ∧ w = w' := by
  rcases pB_cases p with (rfl | rfl | rfl | rfl | rfl | rfl) | ⟨h2, h3, h5, h7, h11, h13⟩
  all_goals
    go_enter Tryz.func64, Tryz.ntmps64
    go_wp2
    go_ret
    first | exact ⟨rfl, rfl⟩ | exact ⟨by simp [pB, h2, h3, h5, h7, h11, h13], rfl⟩

set_option maxRecDepth 8000 in
set_option maxHeartbeats 400000 in
theorem ivars (n : Int) (w : World) :
    Calls Tryz.prog 65 #[.int .i64 n] w fun e w' => e = .returned (.bool (decide (1 ≤ n) && decide (n ≤ 3))) ∧ w = w' := by
  by_cases h : 1 ≤ n
  · go_enter Tryz.func65, Tryz.ntmps65
    go_wp2
    go_ret
    exact ⟨by simp; omega, rfl⟩
  · go_enter Tryz.func65, Tryz.ntmps65
    go_wp2
    go_ret
    exact ⟨by simp; omega, rfl⟩

theorem tmod_neg {p x : Int} (h2 : 2 ≤ p) (h0 : x < 0) : -p < x.tmod p ∧ x.tmod p ≤ 0 ∧ x.tmod p % p = x % p := by
  have h1 : x.tmod p = -((-x) % p) := by
    have := Int.neg_tmod (a := -x) (b := p)
    rw [Int.neg_neg] at this
    rw [this, Int.tmod_eq_emod_of_nonneg (by omega)]
  have a := Int.emod_nonneg (-x) (b := p) (by omega)
  have b := Int.emod_lt_of_pos (-x) (b := p) (by omega)
  refine ⟨by omega, by omega, ?_⟩
  rw [h1]
  obtain ⟨t, ht⟩ := dvd_emod p (-x)
  rw [show -((-x) % p) = x + p * (-t) by grind, Int.add_mul_emod_self_left]

set_option maxRecDepth 8000 in
set_option maxHeartbeats 1000000 in
theorem emod_any (p x : Int) (w : World) (h2 : 2 ≤ p) (h13 : p ≤ 13) (h0 : -1000000000 ≤ x) (h1 : x ≤ 1000000000) :
    Calls Tryz.prog 37 #[.int .i64 p, .int .i64 x] w fun e w' => e = .returned (.int .i64 (x % p)) ∧ w = w' := by
  by_cases hx : 0 ≤ x
  · have g0 : 0 ≤ x % p := Int.emod_nonneg _ (by omega)
    have g1 : x % p < p := Int.emod_lt_of_pos _ (by omega)
    have HQ := Lib.hid (show (x % p + p) % p = x % p by rw [Int.add_emod_right, Int.emod_emod_of_dvd _ (Int.dvd_refl p)])
    go_enter Tryz.func37, Tryz.ntmps37
    go_wp2
    go_ret
    exact ⟨by show Ending.returned (.int .i64 ((x % p + p) % p)) = _; rw [HQ.out], rfl⟩
  · obtain ⟨g0, g1, g2⟩ := tmod_neg h2 (x := x) (by omega)
    have HQ := Lib.hid g2
    clear g2
    generalize hT : x.tmod p = T at *
    have hw : IntKind.i64.wrap T = T := IntWalk.i64_in _ (by omega)
    go_enter Tryz.func37, Tryz.ntmps37
    go_wp2
    go_ret
    exact ⟨by rw [← HQ.out]; rfl, rfl⟩

/-- The first place of a number other than 0, as a number: -1 if there is none. -/
def leadI (l : List Int) : Int := if leadN l < l.length then (leadN l : Int) else -1
theorem lead_next {l : List Int} {k : Nat} (hk : k ≤ leadN l) (hl : k < l.length) (h : l[k] = 0) : k + 1 ≤ leadN l := by
  rcases Nat.lt_or_ge k (leadN l) with h' | h'
  · exact h'
  · have e : leadN l = k := by omega
    exact absurd (by rw [e, nth_lt hl, h]) (lead_at (r := l) (by omega))
theorem lead_is {l : List Int} {k : Nat} (hk : k ≤ leadN l) (hl : k < l.length) (h : l[k] ≠ 0) : leadN l = k :=
  lead_eq (fun j hj => lead_before (by omega)) (by rw [nth_lt hl]; exact h)

set_option maxRecDepth 8000 in
set_option maxHeartbeats 1000000 in
theorem elead (v : Value) (l : List Int) (w : World) (hl : l.length ≤ 1048576) (hS : Sl w v l) :
    Calls Tryz.prog 100 #[v] w fun e w' => e = .returned (.int .i64 (leadI l)) ∧ w' = w := by
  obtain ⟨a, cap, rfl, h⟩ := hS
  go_enter Tryz.func100, Tryz.ntmps100
  go_wp2
  go_loop [3] (fun i => ∃ k : Nat, k ≤ l.length ∧ i = .int .i64 k ∧ Hid (k ≤ leadN l)) (fun i => l.length - (intOf i).toNat)
  case atStart => exact ⟨0, by omega, rfl, Lib.hid (by omega)⟩
  case round =>
    obtain ⟨k, hk, rfl, HU⟩ := hrel
    by_cases hlt : k < l.length
    · have hlt' : (k : Int) < (l.length : Int) := by omega
      obtain ⟨b, off, rfl, hb, hT⟩ : ∃ b off, a = some ⟨b, off, none⟩ ∧ b < w.heap.size ∧ Cs w b off l := by
        rcases h with rfl | h
        · simp at hlt
        · exact h
      have c0 := hT k hlt
      by_cases hz : l[k] = 0
      · have HN : Hid (k + 1 ≤ leadN l) := Lib.hid (lead_next HU.out hlt hz)
        have hq : (l[k] != 0) = false := by simp [hz]
        rw [hz] at c0
        clear hz hq
        go_wp2
        go_round
        case rel => exact ⟨k + 1, by omega, by go_num, HN⟩
        case measure => simp [intOf]; omega
      · have HX : Hid (leadI l = k) := Lib.hid (by rw [leadI, lead_is HU.out hlt hz, if_pos hlt])
        have hq : (l[k] != 0) = true := by simp [hz]
        clear hz
        go_wp2
        go_ret
        exact ⟨by rw [HX.out]; rfl, rfl⟩
    · obtain rfl : k = l.length := by omega
      have HX : Hid (leadI l = -1) := Lib.hid (by rw [leadI, if_neg]; have := HU.out; omega)
      go_wp2
      go_ret
      exact ⟨by rw [HX.out]; rfl, rfl⟩
end Go.Proofs.YtbhgbifliihlbaaGreat
namespace Go.Proofs.YtbhgbifliihlbaaGreat
open Go.RowKit Go.Sort EchM

theorem emod_still (p x : Int) (w : World) (h2 : 2 ≤ p) (h13 : p ≤ 13) (h0 : -1000000000 ≤ x) (h1 : x ≤ 1000000000) :
    Calls Tryz.prog 37 #[.int .i64 p, .int .i64 x] w fun e w' => e = .returned (.int .i64 (x % p)) ∧ w' = w :=
  (emod_any p x w h2 h13 h0 h1).mono fun _ _ ⟨he, hw⟩ => ⟨he, hw.symm⟩
theorem emod_small {p a : Int} (h2 : 2 ≤ p) : 0 ≤ a % p ∧ a % p < p := ⟨Int.emod_nonneg _ (by omega), Int.emod_lt_of_pos _ (by omega)⟩
theorem eprod_fit {p a b : Int} (h13 : p ≤ 13) (ha : 0 ≤ a ∧ a < p) (hb : 0 ≤ b ∧ b < p) : 0 ≤ a * b ∧ a * b ≤ 169 := by
  refine ⟨Int.mul_nonneg ha.1 hb.1, ?_⟩
  have h1 : a * b ≤ 13 * 13 := Int.mul_le_mul (by omega) (by omega) hb.1 (by omega)
  omega

set_option maxRecDepth 8000 in
set_option maxHeartbeats 1000000 in
theorem einv (p x : Int) (w : World) (h2 : 2 ≤ p) (h13 : p ≤ 13) (hx : 0 ≤ x ∧ x < p) :
    Calls Tryz.prog 22 #[.int .i64 p, .int .i64 x] w fun e w' => e = .returned (.int .i64 (invP p x)) ∧ w' = w := by
  obtain ⟨hx1, hx2⟩ := hx
  have hm : x % p = x := Int.emod_eq_of_lt hx1 hx2
  go_enter Tryz.func22, Tryz.ntmps22
  go_wp2
  go_loop [5] (fun i => ∃ k : Int, (1 ≤ k ∧ k ≤ p) ∧ i = .int .i64 k ∧ Hid (invP p x = invA p x (p - k).toNat k)) (fun i => (p - intOf i).toNat)
  case atStart => exact ⟨1, ⟨by omega, by omega⟩, rfl, Lib.hid rfl⟩
  case round =>
    obtain ⟨k, ⟨hk1, hk2⟩, rfl, HU⟩ := hrel
    by_cases hlt : k < p
    · obtain ⟨f0, f1⟩ := eprod_fit h13 (a := k) (b := x) ⟨by omega, hlt⟩ ⟨hx1, hx2⟩
      have hs : Hid (invP p x = if k * x % p = 1 then k else invA p x (p - (k + 1)).toNat (k + 1)) := Lib.hid (by
        rw [HU.out, show (p - k).toNat = (p - (k + 1)).toNat + 1 by omega, invA, hm])
      have hmm := Lib.hid hm
      clear hm
      by_cases hz : k * x % p = 1
      · have HX : Hid (invP p x = k) := Lib.hid (by rw [hs.out, if_pos hz])
        have hq : (k * x % p == 1) = true := by simp [hz]
        clear hz
        go_wp2_with fail
        ((with_reducible refine (emod_still p x _ h2 h13 (by omega) (by omega)).mono ?_); rintro e w1 ⟨rfl, rfl⟩)
        simp only [hmm.out]
        go_wp2
        go_ret
        exact ⟨by rw [HX.out]; rfl, rfl⟩
      · have HX : Hid (invP p x = invA p x (p - (k + 1)).toNat (k + 1)) := Lib.hid (by rw [hs.out, if_neg hz])
        have hq : (k * x % p == 1) = false := by simp [hz]
        clear hz
        go_wp2_with fail
        ((with_reducible refine (emod_still p x _ h2 h13 (by omega) (by omega)).mono ?_); rintro e w1 ⟨rfl, rfl⟩)
        simp only [hmm.out]
        go_wp2
        go_round
        case rel => exact ⟨k + 1, ⟨by omega, by omega⟩, by go_num, HX⟩
        case measure => simp [intOf]; omega
    · obtain rfl : k = p := by omega
      have HX : Hid (invP k x = 0) := Lib.hid (by rw [HU.out, show (k - k).toNat = 0 by omega, invA])
      go_wp2
      go_ret
      exact ⟨by rw [HX.out]; rfl, rfl⟩
end Go.Proofs.YtbhgbifliihlbaaGreat
namespace Go.Proofs.YtbhgbifliihlbaaGreat
open Go.RowKit Go.Sort EchM

/-- A region whose first n operations leave the world alone and whose others follow one another. -/
theorem eregion_tail {P : Program} {id : Nat} {Q : Exit → Act → World → Prop} {a : Act} {w : World} {l : List Oper} (n : Nat) (hm : P.follows .mixedOrders = true) (hB : Region.lexTailB .any l.toArray n = true)
    (h : wpStill P l.toArray w.drew (fun a' => wpList P l.toArray Q (l.drop n) a' w.drew) (l.take n) a) : (Code.region id l.toArray true).wp P Q a w :=
  wp_region_still_tail n hm hB h

theorem less_snoc {p K : Int} {r o : List Int} {k : Nat} (hk : k < r.length) (ho : r.length = o.length) : (lessL p K r o).take (k + 1) = (lessL p K r o).take k ++ [(r[k] - K * o[k]'(by omega)) % p] := by
  have hl : k < (lessL p K r o).length := by rw [len_less ho]; exact hk
  rw [List.take_succ_eq_append_getElem hl]
  simp [lessL]

set_option maxRecDepth 8000 in
set_option maxHeartbeats 2000000 in
theorem eless (p K : Int) (v v' : Value) (r o : List Int) (m : Nat) (w : World) (h2 : 2 ≤ p) (h13 : p ≤ 13) (hm : m ≤ 1048576) (hr : InP p m r) (ho : InP p m o) (hK : 0 ≤ K ∧ K < p) (hS : Sl w v r) (hS' : Sl w v' o) :
    Calls Tryz.prog 114 #[.int .i64 p, v, v', .int .i64 K] w fun e w' => ∃ v2, e = .returned v2 ∧ OwnL w' w.heap.size v2 (lessL p K r o) ∧ Below w.heap.size w w' := by
  obtain ⟨i0, hi, hz0, hz1, hz2⟩ := info_parts einfoI
  have hle : r.length ≤ m := by rw [hr.1]; omega
  have hlo : o.length ≤ r.length := by rw [ho.1, hr.1]; omega
  have hlo' : r.length ≤ o.length := by rw [ho.1, hr.1]; omega
  have hz : ∀ t, t = 2 → OwnL (w.alloc (.cells #[] t)) w.heap.size (.slice (some ⟨w.heap.size, 0, none⟩) 0 0) [] := fun t ht => by
    subst ht
    have := World.ownsRow_made (base := w.heap.size) (e := 2) (size := 1) w #[] 0 (by omega) (by simp [maxLen]) rfl
    simpa [OwnL, valsI] using this
  obtain ⟨a, cap, rfl, h⟩ := hS
  obtain ⟨a', cap', rfl, h'⟩ := hS'
  go_enter Tryz.func114, Tryz.ntmps114
  go_wp2
  go_loopw [9, 10] (fun s i wr => ∃ (k : Nat) (O : List Int) (sa : Option Addr) (sc : Nat), k ≤ r.length ∧ O.length ≤ k ∧ s = .slice sa O.length sc ∧ i = .int .i64 k ∧ Hid (O = (lessL p K r o).take k) ∧ OwnL wr w.heap.size (.slice sa O.length sc) O ∧ Below w.heap.size w wr) (fun _ i _ => r.length - (intOf i).toNat)
  case atStart => exact ⟨0, [], _, _, by omega, by simp, rfl, rfl, Lib.hid (by simp), hz _ rfl, ebox1 _ _⟩
  case round =>
    obtain ⟨k, O, sa, sc, hk, hO, rfl, rfl, HU, hown, hb⟩ := hrel
    by_cases hlt : k < r.length
    · have hlt' : (k : Int) < (r.length : Int) := by omega
      have hlo2 : (k : Int) < (o.length : Int) := by omega
      obtain ⟨b, off, rfl, hbb, hT⟩ : ∃ b off, a = some ⟨b, off, none⟩ ∧ b < w.heap.size ∧ Cs w b off r := by
        rcases h with rfl | h
        · simp at hlt
        · exact h
      obtain ⟨b', off', rfl, hbb', hT'⟩ : ∃ b off, a' = some ⟨b, off, none⟩ ∧ b < w.heap.size ∧ Cs w b off o := by
        rcases h' with rfl | h'
        · simp at hlo2; omega
        · exact h'
      have c0 := hT.below hb hbb k (by omega)
      have d0 := hT'.below hb hbb' k (by omega)
      have q0 := hr.2 r[k] (List.getElem_mem _)
      have q1 := ho.2 o[k] (List.getElem_mem _)
      have HN : Hid (O ++ [(r[k] - K * o[k]) % p] = (lessL p K r o).take (k + 1)) := Lib.hid (by rw [HU.out, less_snoc (by omega) (by omega)])
      clear h h' hT hT' HU
      generalize r[k] = x at *
      generalize o[k] = y at *
      obtain ⟨f0, f1⟩ := eprod_fit h13 (a := K) (b := y) hK q1
      have hs := hb.size
      have hmx : O.length + 1 ≤ maxLen := by unfold maxLen; omega
      have hmb : (O.length + 1) * 8 ≤ 140737488355328 := by omega
      have hw1 : IntKind.i64.wrap (K * y) = K * y := IntWalk.i64_in _ (by omega)
      have hw2 : IntKind.i64.wrap (x - K * y) = x - K * y := IntWalk.i64_in _ (by omega)
      go_wp2_with fail
      have B1 : -1000000000 ≤ x - K * y := by omega
      have B2 : x - K * y ≤ 1000000000 := by omega
      have KK := Lib.hid (fun w' (h : Below w.heap.size wr w') => show w'.cell? ⟨b, off + k, none⟩ = some (.int .i64 x) ∧ w'.cell? ⟨b', off' + k, none⟩ = some (.int .i64 y) from
        ⟨(h.cell (p := ⟨_, _, none⟩) hbb).trans c0, (h.cell (p := ⟨_, _, none⟩) hbb').trans d0⟩)
      go_region_held3 (fun w' => w'.cell? ⟨b, off + k, none⟩ = some (.int .i64 x) ∧ w'.cell? ⟨b', off' + k, none⟩ = some (.int .i64 y))
        (first | with_reducible exact KK.out _ (Below.refl _ _).drew | with_reducible exact KK.out _ ((ebox1 _ _).mono hs).drew | with_reducible exact KK.out _ hb1)
        (first
          | ((with_reducible refine (emod_still p (x - K * y) _ h2 h13 B1 B2).mono ?_); rintro e w1 ⟨rfl, rfl⟩)
          | ((refine step_append_lies _ (by rfl) _ _ _ (by rfl) w.heap.size 2 i0 _ 1 8 Tryz.underlying30 hi hz0 hz1 hz2 rfl (by omega) (.slice sa O.length sc) O.length (valsI O) (by rfl) ((World.ownsRow.alloc hown _).drew) ⟨wr.heap.size, 0, none⟩ 1 1 [.int .i64 ((x - K * y) % p)] (by rfl) (by rfl) (World.news_of_block (cs := #[.int .i64 ((x - K * y) % p)]) (t := 2) (fr := (0, 0)) (heap_alloc_new wr _)) (by simp [Value.oneCell']) (by omega) hmx hmb (by simp; omega) (wr.heap.size + 1) (by simp) ?_
              intro gg cap3 w3 hown3 hgrow3 hat hlt3
              have hb1 : Below w.heap.size wr w3 := ((ebox1 wr _).mono hs).drew.grown hgrow3 (by simp; omega) (fun q hq => (World.ownsRow.lt hown q hq).1)
              clear hat)))
      all_goals
        go_wp2_with fail
        go_roundw
        case rel => exact ⟨k + 1, O ++ [(x - K * y) % p], some ⟨gg, 0, none⟩, cap3, by omega, by simp; omega, by simp, by go_num, HN, by simpa [OwnL, valsI] using hown3, hb.trans hb1⟩
        case measure => simp [intOf]; omega
    · obtain rfl : k = r.length := by omega
      have HX : Hid (lessL p K r o = O) := Lib.hid (by rw [HU.out, ← len_less (p := p) (k := K) (r := r) (o := o) (by omega), List.take_length])
      go_wp2
      go_ret
      exact ⟨_, rfl, by rw [HX.out]; exact hown, hb⟩
end Go.Proofs.YtbhgbifliihlbaaGreat
namespace Go.Proofs.YtbhgbifliihlbaaGreat
open Go.RowKit Go.Sort EchM

theorem elead_at (v : Value) (l : List Int) (n : Nat) (w : World) (hl : l.length ≤ 1048576) (hS : Sl w v l) (h1 : leadN l = n) (h2 : n < l.length) :
    Calls Tryz.prog 100 #[v] w fun e w' => e = .returned (.int .i64 (n : Int)) ∧ w' = w :=
  (elead v l w hl hS).mono fun _ _ ⟨he, hw⟩ => ⟨by rw [he, leadI, h1, if_pos h2], hw⟩
theorem restL_snoc (p : Int) (L : List (List Int)) (q r : List Int) : restL p (L ++ [q]) r = if nth (restL p L r) (leadN q) = 0 then restL p L r else lessL p (nth (restL p L r) (leadN q)) (restL p L r) q := by
  unfold restL; rw [List.foldl_append]; rfl
theorem restL_take {p : Int} {L : List (List Int)} {r : List Int} {k : Nat} (hk : k < L.length) : restL p (L.take (k + 1)) r = if nth (restL p (L.take k) r) (leadN L[k]) = 0 then restL p (L.take k) r else lessL p (nth (restL p (L.take k) r) (leadN L[k])) (restL p (L.take k) r) L[k] := by
  rw [List.take_succ_eq_append_getElem hk, restL_snoc]
theorem restL_inP {p : Int} (hp : 0 < p) {m : Nat} : ∀ (L : List (List Int)) (r : List Int), (∀ q ∈ L, InP p m q) → InP p m r → InP p m (restL p L r)
  | [], _, _, hr => hr
  | q :: L, r, h, hr => by
    have e : restL p (q :: L) r = restL p L (if nth r (leadN q) = 0 then r else lessL p (nth r (leadN q)) r q) := rfl
    rw [e]
    refine restL_inP hp L _ (fun x hx => h x (by simp [hx])) ?_
    split
    · exact hr
    · exact inP_less hp hr (h q (by simp))

set_option maxRecDepth 8000 in
set_option maxHeartbeats 2000000 in
theorem erest (p : Int) (v v' : Value) (L : List (List Int)) (r : List Int) (m : Nat) (w : World) (h2 : 2 ≤ p) (h13 : p ≤ 13) (hm : m ≤ 1048576) (hLl : L.length ≤ 1048576) (hL : ∀ q ∈ L, InP p m q ∧ leadN q < m) (hr : InP p m r) (hS : SlR w v L) (hS' : Sl w v' r) :
    Calls Tryz.prog 113 #[.int .i64 p, v, v'] w fun e w' => ∃ v2, e = .returned v2 ∧ OwnL w' w.heap.size v2 (restL p L r) ∧ Below w.heap.size w w' := by
  have hle : r.length ≤ m := by rw [hr.1]; omega
  obtain ⟨a, cap, rfl, h⟩ := hS
  obtain ⟨a', cap', rfl⟩ := hS'.shape
  go_enter Tryz.func113, Tryz.ntmps113
  go_wp2_with fail
  ((with_reducible refine (eown _ r _ (by omega) hS').mono ?_); rintro e w1 ⟨v1, rfl, hown1, hb1⟩)
  obtain ⟨sa1, sc1, rfl⟩ := hown1.slice.shape
  go_wp2
  go_loopw [7, 8] (fun s i wr => ∃ (k : Nat) (O : List Int) (sa : Option Addr) (sc : Nat), k ≤ L.length ∧ s = .slice sa O.length sc ∧ i = .int .i64 k ∧ Hid (O = restL p (L.take k) r) ∧ OwnL wr w.heap.size (.slice sa O.length sc) O ∧ Below w.heap.size w wr) (fun _ i _ => L.length - (intOf i).toNat)
  case atStart => exact ⟨0, r, sa1, sc1, by omega, rfl, rfl, Lib.hid (by simp [restL]), hown1, hb1⟩
  case round =>
    obtain ⟨k, O, sa, sc, hk, rfl, rfl, HU, hown, hb⟩ := hrel
    by_cases hlt : k < L.length
    · have hlt' : (k : Int) < (L.length : Int) := by omega
      obtain ⟨b, off, rfl, hbb, hT⟩ : ∃ b off, a = some ⟨b, off, none⟩ ∧ b < w.heap.size ∧ RowsW w b off L := by
        rcases h with rfl | h
        · simp at hlt
        · exact h
      obtain ⟨vq, c0', hq'⟩ := hT k hlt
      have c0 := (hb.cell (p := ⟨b, _, none⟩) hbb).trans c0'
      have hq := hq'.below hb
      clear c0' hq' hT h
      obtain ⟨i1, i2⟩ := hL L[k] (List.getElem_mem _)
      have hO : InP p m O := by rw [HU.out]; exact restL_inP (by omega) _ _ (fun q hq => (hL q (List.mem_of_mem_take hq)).1) hr
      have HN := Lib.hid (restL_take (p := p) (r := r) hlt)
      have hln : leadN L[k] < O.length := by rw [hO.1]; exact i2
      have hlq : L[k].length ≤ 1048576 := by rw [i1.1]; exact hm
      have hl2 : leadN L[k] < L[k].length := by rw [i1.1]; exact i2
      rw [← HU.out] at HN
      generalize hq0 : L[k] = q at hq i1 i2 HN hln hlq hl2
      clear hq0
      obtain ⟨n, hn⟩ : ∃ n, leadN q = n := ⟨_, rfl⟩
      rw [hn] at HN hln hl2
      have HNN := Lib.hid hn
      clear hn
      have hln' : (n : Int) < (O.length : Int) := by omega
      obtain ⟨g, cp, hv, hg1, hg2, hc⟩ := hown.form (by omega)
      simp only [Value.slice.injEq] at hv
      obtain ⟨rfl, _, rfl⟩ := hv
      have d0 := hc n hln
      have hK := hO.nth (by omega) n
      rw [nth_lt hln] at HN hK
      obtain ⟨aq, cq, rfl⟩ := hq.shape
      clear hc
      go_wp2_with fail
      ((with_reducible refine (elead_at _ q n _ hlq hq HNN.out hl2).mono ?_); rintro e w2 ⟨rfl, rfl⟩)
      by_cases hz : O[n] = 0
      · have hN2 : Hid (O = restL p (L.take (k + 1)) r) := Lib.hid (by rw [HN.out, if_pos hz])
        have hq2 : (O[n] != 0) = false := by simp [hz]
        rw [hz] at d0
        clear hz hq2 HN
        go_wp2_with fail
        go_roundw
        case rel => exact ⟨k + 1, O, _, _, by omega, rfl, by go_num, hN2, hown, hb⟩
        case measure => simp [intOf]; omega
      · have hN2 : Hid (lessL p O[n] O q = restL p (L.take (k + 1)) r) := Lib.hid (by rw [HN.out, if_neg hz])
        have hq2 : (O[n] != 0) = true := by simp [hz]
        clear hz HN
        go_wp2_with fail
        ((with_reducible refine (eless p O[n] _ _ O q m _ h2 h13 hm hO i1 hK hown.slice hq).mono ?_); rintro e w3 ⟨v3, rfl, hown3, hb3⟩)
        obtain ⟨s3, c3, rfl⟩ := hown3.slice.shape
        have hs := hb.size
        go_wp2_with fail
        go_roundw
        case rel => exact ⟨k + 1, lessL p O[n] O q, s3, c3, by omega, rfl, by go_num, hN2, OwnL.mono hown3 hs, hb.trans (hb3.mono hs)⟩
        case measure => simp [intOf]; omega
    · obtain rfl : k = L.length := by omega
      have HX : Hid (restL p L r = O) := Lib.hid (by rw [HU.out, List.take_length])
      go_wp2
      go_ret
      exact ⟨_, rfl, by rw [HX.out]; exact hown, hb⟩
end Go.Proofs.YtbhgbifliihlbaaGreat
namespace Go.Proofs.YtbhgbifliihlbaaGreat
open Go.RowKit Go.Sort EchM


/-- Two rows of different types lie in different blocks. -/
theorem own_apart {w : World} {base base' : Nat} {e e' : TypeId} {size size' n n' : Nat} {v v' : Value} {xs xs' : List Value} (h : w.ownsRow base e size v n xs) (h' : w.ownsRow base' e' size' v' n' xs') (hne : e ≠ e') : v.ownBlock = none ∨ v.ownBlock ≠ v'.ownBlock := by
  cases hv : v.ownBlock with
  | none => exact .inl rfl
  | some g =>
    refine .inr fun e2 => ?_
    obtain ⟨c, z, hc⟩ := Lib.ownsRow_kind h g hv
    obtain ⟨c', z', hc'⟩ := Lib.ownsRow_kind h' g e2.symm
    rw [hc] at hc'
    simp at hc'
    exact hne hc'.2.1
/-- A list of rows of the call's own. -/
def OwnR (w : World) (base : Nat) (v : Value) (L : List (List Int)) : Prop :=
  ∃ us : List Value, us.length = L.length ∧ w.ownsRow base 30 1 v L.length us ∧ ∀ (k : Nat) (h : k < L.length) (h' : k < us.length), OwnL w base us[k] L[k]
theorem OwnR.below {w w' : World} {base : Nat} {v : Value} {L : List (List Int)} (h : OwnR w base v L) (hb : Below w.heap.size w w') : OwnR w' base v L := by
  obtain ⟨us, h1, h2, h3⟩ := h
  exact ⟨us, h1, eowns_below h2 hb, fun k hk hk' => (h3 k hk hk').below hb⟩
theorem owns_mono {w : World} {base base' : Nat} {e : TypeId} {size n : Nat} {v : Value} {xs : List Value} (h : w.ownsRow base e size v n xs) (hb : base' ≤ base) : w.ownsRow base' e size v n xs := by
  obtain ⟨h1, h2⟩ := h
  refine ⟨h1, ?_⟩
  rcases h2 with h2 | ⟨g, cap, cur, hv, hg, r⟩
  · exact .inl h2
  · exact .inr ⟨g, cap, cur, hv, Nat.le_trans hb hg, r⟩
theorem OwnR.mono {w : World} {base base' : Nat} {v : Value} {L : List (List Int)} (h : OwnR w base v L) (hb : base' ≤ base) : OwnR w base' v L := by
  obtain ⟨us, h1, h2, h3⟩ := h
  exact ⟨us, h1, owns_mono h2 hb, fun k hk hk' => (h3 k hk hk').mono hb⟩
theorem OwnR.cells {w : World} {base : Nat} {v : Value} {L : List (List Int)} (h : OwnR w base v L) (hl : 0 < L.length) : ∃ g cap, v = .slice (some ⟨g, 0, none⟩) L.length cap ∧ base ≤ g ∧ g < w.heap.size ∧ ∀ (k : Nat) (h : k < L.length), ∃ u, w.cell? ⟨g, k, none⟩ = some u ∧ OwnL w base u L[k] := by
  obtain ⟨us, h1, h2, h3⟩ := h
  obtain ⟨g, cap, hv, hb, hlt⟩ := World.ownsRow.form h2 hl
  refine ⟨g, cap, hv, hb, hlt, fun k hk => ⟨us[k]'(by omega), ?_, h3 k hk (by omega)⟩⟩
  have := World.ownsRow.cells h2 (g := g) (by rw [hv]; rfl) k (us[k]'(by omega)) (by simp)
  rwa [show (⟨g, 0, none⟩ : Addr).add k = ⟨g, k, none⟩ by unfold Addr.add; split <;> simp_all] at this
theorem OwnR.slice {w : World} {base : Nat} {v : Value} {L : List (List Int)} (h : OwnR w base v L) : SlR w v L := by
  by_cases hl : 0 < L.length
  · obtain ⟨g, cap, hv, _, hlt, hc⟩ := h.cells hl
    refine ⟨_, _, hv, .inr ⟨g, 0, rfl, hlt, fun k hk => ?_⟩⟩
    obtain ⟨u, h1, h2⟩ := hc k hk
    exact ⟨u, by rw [Nat.zero_add]; exact h1, h2.slice⟩
  · have : L = [] := List.eq_nil_of_length_eq_zero (by omega)
    subst this
    obtain ⟨us, h1, h2, h3⟩ := h
    rcases h2.2 with ⟨hv, _⟩ | ⟨g, cap, cur, hv, _⟩
    · exact ⟨_, _, hv, .inl rfl⟩
    · exact ⟨_, _, hv, .inl rfl⟩
theorem OwnR.shape {w : World} {base : Nat} {v : Value} {L : List (List Int)} (h : OwnR w base v L) : ∃ a cap, v = .slice a L.length cap := by
  obtain ⟨a, cap, hv, _⟩ := h.slice; exact ⟨a, cap, hv⟩
/-- Behind an append to another list. -/
theorem OwnL.kept {w w' : World} {base base' : Nat} {v v' : Value} {l : List Int} {n : Nat} {us : List Value} (h : OwnL w base v l) (h' : w.ownsRow base' 30 1 v' n us) (hg : w.grownBy w' v'.ownBlock) : OwnL w' base v l :=
  World.ownsRow.kept h hg (own_apart h h' (by decide))
/-- A row put behind a list of rows. -/
theorem OwnR.push {w w' : World} {base : Nat} {v v' u : Value} {L : List (List Int)} {l : List Int} {us : List Value} (h1 : us.length = L.length) (h2 : w.ownsRow base 30 1 v L.length us) (h3 : ∀ (k : Nat) (h : k < L.length) (h' : k < us.length), OwnL w base us[k] L[k])
    (hu : OwnL w base u l) (ho : w'.ownsRow base 30 1 v' (L.length + 1) (us ++ [u])) (hg : w.grownBy w' v.ownBlock) : OwnR w' base v' (L ++ [l]) := by
  refine ⟨us ++ [u], by simp [h1], by simpa using ho, fun k hk hk' => ?_⟩
  by_cases hlt : k < L.length
  · have := (h3 k hlt (by omega)).kept h2 hg
    simpa [List.getElem_append_left, hlt, h1] using this
  · have e : k = L.length := by simp at hk; omega
    subst e
    have := hu.kept h2 hg
    simpa [List.getElem_append_right, h1] using this
theorem OwnR.nil {w : World} {base : Nat} (hb : base ≤ w.heap.size) {t : TypeId} (ht : t = 30) : OwnR (w.alloc (.cells #[] t)) base (.slice (some ⟨w.heap.size, 0, none⟩) 0 0) [] := by
  subst ht
  have := World.ownsRow_made (base := base) (e := 30) (size := 1) w #[] 0 hb (by simp [maxLen]) rfl
  exact ⟨[], rfl, by simpa using this, fun k h => by simp at h⟩
/-- A number of a list of the call's own is written. -/
theorem OwnL.set {w : World} {base g n cap : Nat} {l : List Int} (h : OwnL w base (.slice (some ⟨g, 0, none⟩) n cap) l) (k : Nat) (a : Int) : OwnL (w.setCell ⟨g, k, none⟩ (.int .i64 a)) base (.slice (some ⟨g, 0, none⟩) n cap) (l.set k a) := by
  have hn : n = l.length := by
    obtain ⟨a, c, hv⟩ := h.shape
    simp only [Value.slice.injEq] at hv
    exact hv.2.1
  subst hn
  have := (World.ownsRow.stored h k (.int .i64 a)).1
  simpa [OwnL, valsI, List.map_set] using this

/-- A row that is scaled up to a place. -/
def mixL (p c : Int) (O : List Int) (k : Nat) : List Int := (scaleL p c O).take k ++ O.drop k
theorem mixL_len (p c : Int) (O : List Int) (k : Nat) : (mixL p c O k).length = O.length := by
  simp [mixL, scaleL]; omega
theorem mixL_zero (p c : Int) (O : List Int) : mixL p c O 0 = O := by simp [mixL]
theorem mixL_end (p c : Int) (O : List Int) : mixL p c O O.length = scaleL p c O := by
  simp [mixL, List.take_of_length_le, scaleL]
theorem mixL_at {p c : Int} {O : List Int} {k : Nat} (h : k < O.length) (h' : k < (mixL p c O k).length) : (mixL p c O k)[k] = O[k] := by
  simp only [mixL]
  rw [List.getElem_append_right (by simp [scaleL]; omega)]
  simp [scaleL, Nat.min_eq_left (Nat.le_of_lt h)]
theorem mixL_set {p c : Int} {O : List Int} {k : Nat} (h : k < O.length) : (mixL p c O k).set k (O[k] * c % p) = mixL p c O (k + 1) := by
  refine List.ext_getElem (by simp [mixL_len]) fun j h1 h2 => ?_
  rw [mixL_len] at h2
  rw [List.getElem_set]
  have hs : (scaleL p c O).length = O.length := by simp [scaleL]
  split
  · rename_i e
    subst e
    simp only [mixL]
    rw [List.getElem_append_left (by simp [hs]; omega)]
    simp [scaleL]
  · rename_i hne
    simp only [mixL]
    by_cases hj : j < k
    · rw [List.getElem_append_left (by simp [hs]; omega), List.getElem_append_left (by simp [hs]; omega)]
      simp
    · rw [List.getElem_append_right (by simp [hs]; omega), List.getElem_append_right (by simp [hs]; omega)]
      simp [hs, Nat.min_eq_left (Nat.le_of_lt h), Nat.min_eq_left h]
      congr 1
      omega
theorem insL_len (p : Int) (own : List Int) (c : Nat) : ∀ (b : Bool) (L : List (List Int)), (insL p own c b L).length ≤ L.length + 1
  | true, [] => by simp [insL]
  | false, [] => by simp [insL]
  | true, q :: L => by have := insL_true p own c L; rw [insL, this]; simp
  | false, q :: L => by
    rw [insL]
    split
    · rw [insL_true]; simp
    · have := insL_len p own c false L; simp; omega
theorem stepL_len (p : Int) (L : List (List Int)) (r : List Int) : (stepL p L r).length ≤ L.length + 1 := by
  unfold stepL
  split
  · exact insL_len _ _ _ _ _
  · omega
theorem ech_snoc (p : Int) (R : List (List Int)) (k : Nat) (h : k < R.length) : echL p (R.take (k + 1)) = stepL p (echL p (R.take k)) R[k] := by
  unfold echL
  rw [List.take_succ_eq_append_getElem h, List.foldl_append]
  rfl
theorem ech_len (p : Int) (R : List (List Int)) : (echL p R).length ≤ R.length := by
  have key : ∀ (R L : List (List Int)), (R.foldl (stepL p) L).length ≤ L.length + R.length := by
    intro R
    induction R with
    | nil => intro L; simp
    | cons r R ih => intro L; have := ih (stepL p L r); have := stepL_len p L r; simp; omega
  have := key R []
  simpa [echL] using this
/-- What is still to be put behind what has been put. -/
theorem insL_next {p : Int} {own : List Int} {c : Nat} {L : List (List Int)} {k : Nat} (h : k < L.length) (b : Bool) :
    insL p own c b (L.drop k) = (if b = false ∧ c < leadN L[k] then [own] else []) ++ lessL p (nth L[k] c) L[k] own :: insL p own c (b || decide (c < leadN L[k])) (L.drop (k + 1)) := by
  rw [List.drop_eq_getElem_cons h]
  cases b
  · rw [insL]
    by_cases hc : c < leadN L[k]
    · simp [hc]
    · simp [hc]
  · rw [insL]; simp
end Go.Proofs.YtbhgbifliihlbaaGreat
