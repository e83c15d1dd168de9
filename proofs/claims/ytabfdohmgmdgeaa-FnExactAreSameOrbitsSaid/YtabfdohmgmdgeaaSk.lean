/-
  SORTS of lists of matrices: the model's walk (an insertion). Conditions: as each theorem states.
-/
import Derived.Test.YtabfdohmgmdgeaaSy
namespace Go.Proofs.Ytabfdohmgmdgeaa
open Go.RowKit Go.Sort EchM

theorem mats_cells {w : World} {b off : Nat} {L : List (Nat → Nat → Int)} (h : MatsW w b off L) : ∀ (j : Nat) (u : Value), (cells9 L)[j]? = some u → w.cell? ((⟨b, off, none⟩ : Addr).add j) = some u := fun j u hu => by
  have hj : j < L.length * 9 := by
    have := (List.getElem?_eq_some_iff.1 hu).1
    rwa [cells9_len] at this
  have hk : j / 9 < L.length := by omega
  have e := cells9_at L (j / 9) hk (j % 9 / 3) (j % 9 % 3) (by omega) (by omega)
  have c := h (j / 9) hk (j % 9 / 3) (j % 9 % 3) (by omega) (by omega)
  rw [show j / 9 * 9 + (j % 9 / 3 * 3 + j % 9 % 3) = j by omega] at e
  rw [e] at hu
  cases hu
  rw [show off + j / 9 * 9 + (j % 9 / 3 * 3 + j % 9 % 3) = off + j by omega] at c
  rw [show (⟨b, off, none⟩ : Addr).add j = ⟨b, off + j, none⟩ by unfold Addr.add; split <;> simp_all]
  exact c
/-- append of a slice of matrices, whatever it is, to one of the call's own. -/
theorem wp_append_mats (w : World) {o : Oper} {a : Act} {K : Act → World → Prop} {Q : Exit → Act → World → Prop} (s x : Operand)
    (ho : o.op = .call { callee := .builtin .append, args := #[s, x], argTypes := #[29, 29] })
    (base : Nat) (v : Value) (n : Nat) (xs : List Value) (hs : a.eval s = v) (hown : w.ownsRow base 56 9 v n xs)
    (v2 : Value) (L : List (Nat → Nat → Int)) (hx : a.eval x = v2) (hS : SlM w v2 L) (h63 : n + L.length ≤ 8388608) (hbase : base ≤ w.heap.size)
    (h : ∀ v' w', w'.ownsRow base 56 9 v' (n + L.length) (xs ++ cells9 L) → w.grownBy w' v.ownBlock → K (a.put o.dst v') w') : Oper.wp Try.prog o a w K Q := by
  obtain ⟨i0, hi, hz0, hz1, hz2⟩ := info_parts infoMat
  obtain ⟨A, cap, rfl, hcase⟩ := hS
  rcases A with _ | ad
  · have hn : L = [] := by
      rcases hcase with h | ⟨b, off, h, _⟩
      · exact h
      · cases h
    subst hn
    have hrun : ∀ ty, (Builtin.append_ #[29, 29] ty #[v, .slice none 0 cap]).run Try.prog w = .ok v w := fun ty => by
      rcases hown.2 with ⟨rfl, rfl⟩ | ⟨g, c, cur, rfl, _, _, hnc, _⟩
      · simp [Builtin.append_, run_underlying Try.underlying29, sizeOf, typeInfo, hi, Builtin.lenOf, Builtin.firstCells]
      · simp [Builtin.append_, run_underlying Try.underlying29, sizeOf, typeInfo, hi, Builtin.lenOf, Builtin.firstCells, hnc, storeCells]
    unfold Oper.wp execOp
    simp only [ho, resolve, invoke, builtin, Sem.run_bind, Sem.run_pure, Result.andThen_ok, List.map_toArray, List.map_cons, List.map_nil, hs, hx]
    rw [show (List.length ([] : List (Nat → Nat → Int))) = 0 from rfl, hrun]
    exact h v w (by simpa [cells9] using hown) (World.grownBy.refl w _)
  · refine wp_append_own w s x 29 ho base 56 i0 _ 9 9 Try.underlying29 hi hz0 hz1 hz2 rfl (by decide) v n xs hs hown ad L.length cap (cells9 L) hx (cells9_len L) ?_ (cells9_one L) (by unfold maxLen; omega) (by omega) hbase fun v' w' h1 h2 _ => h v' w' h1 h2
    intro j u hu
    rcases hcase with rfl | ⟨b, off, hA, hlt, hT⟩
    · simp [cells9] at hu
    · simp at hA
      subst hA
      exact mats_cells hT j u hu
theorem wpList_append_mats (w : World) {ops : Array Oper} {rest : List Oper} {o : Oper} {a : Act} {Q : Exit → Act → World → Prop} (hgd : o.guard = none) (s x : Operand)
    (ho : o.op = .call { callee := .builtin .append, args := #[s, x], argTypes := #[29, 29] })
    (base : Nat) (v : Value) (n : Nat) (xs : List Value) (hs : a.eval s = v) (hown : w.ownsRow base 56 9 v n xs)
    (v2 : Value) (L : List (Nat → Nat → Int)) (hx : a.eval x = v2) (hS : SlM w v2 L) (h63 : n + L.length ≤ 8388608) (hbase : base ≤ w.heap.size)
    (h : ∀ v' w', w'.ownsRow base 56 9 v' (n + L.length) (xs ++ cells9 L) → w.grownBy w' v.ownBlock → wpList Try.prog ops Q rest (a.put o.dst v') w') : wpList Try.prog ops Q (o :: rest) a w :=
  wpList_plain hgd fun _ hK => wp_append_mats w s x ho base v n xs hs hown v2 L hx hS h63 hbase fun v' w' h1 h2 => hK _ _ (h v' w' h1 h2)
theorem step_append_mats (w : World) {ops : Array Oper} {o : Oper} {a : Act} {K : Act → World → Prop} {Q : Exit → Act → World → Prop} {E : Prop} (hgd : o.guard = none) (s x : Operand)
    (ho : o.op = .call { callee := .builtin .append, args := #[s, x], argTypes := #[29, 29] })
    (base : Nat) (v : Value) (n : Nat) (xs : List Value) (hs : a.eval s = v) (hown : w.ownsRow base 56 9 v n xs)
    (v2 : Value) (L : List (Nat → Nat → Int)) (hx : a.eval x = v2) (hS : SlM w v2 L) (h63 : n + L.length ≤ 8388608) (hbase : base ≤ w.heap.size)
    (h : ∀ v' w', w'.ownsRow base 56 9 v' (n + L.length) (xs ++ cells9 L) → w.grownBy w' v.ownBlock → K (a.put o.dst v') w') :
    if Region.wanted o (yielded ops a.tmps) = true then Oper.wp Try.prog o a w K Q else E := by
  have hw : Region.wanted o (yielded ops a.tmps) = true := by simp [Region.wanted, hgd]
  rw [if_pos hw]
  exact wp_append_mats w s x ho base v n xs hs hown v2 L hx hS h63 hbase h

theorem matsDrop {w : World} {b off k : Nat} {L : List (Nat → Nat → Int)} (h : MatsW w b off L) : MatsW w b (off + k * 9) (L.drop k) := fun i hi x y hx hy => by
  have := h (k + i) (by simp at hi; omega) x y hx hy
  rw [List.getElem_drop]
  rwa [show off + (k + i) * 9 + (x * 3 + y) = off + k * 9 + i * 9 + (x * 3 + y) by omega] at this
theorem matsTake {w : World} {b off k : Nat} {L : List (Nat → Nat → Int)} (h : MatsW w b off L) : MatsW w b off (L.take k) := fun i hi x y hx hy => by
  rw [List.getElem_take]
  exact h i (by simp at hi; omega) x y hx hy

theorem drop_sl {w : World} {g n sc k : Nat} {L : List (Nat → Nat → Int)} (hk : k ≤ n) (hn : n ≤ sc) (hL : L.length = n) (hS : SlM w (.slice (some ⟨g, 0, none⟩) n sc) L) : SlM w (.slice (if sc = k then some ⟨g, 0, none⟩ else some ⟨g, k * 9, none⟩) (n - k) (sc - k)) (L.drop k) := by
  refine ⟨_, _, by rw [List.length_drop, hL], ?_⟩
  obtain ⟨a, cap, hv, h | ⟨b, off, ha, hlt, hT⟩⟩ := hS
  · exact .inl (by rw [h]; simp)
  · cases hv
    cases ha
    by_cases hsk : sc = k
    · exact .inl (List.drop_eq_nil_of_le (by omega))
    · refine .inr ⟨g, 0 + k * 9, ?_, hlt, matsDrop hT⟩
      rw [if_neg hsk, Nat.zero_add]
theorem take_sl {w : World} {g n sc k : Nat} {L : List (Nat → Nat → Int)} (hk : k ≤ n) (hL : L.length = n) (hS : SlM w (.slice (some ⟨g, 0, none⟩) n sc) L) : SlM w (.slice (some ⟨g, 0, none⟩) k sc) (L.take k) := by
  refine ⟨_, _, by rw [List.length_take, hL, Nat.min_eq_left hk], ?_⟩
  obtain ⟨a, cap, hv, h | ⟨b, off, ha, hlt, hT⟩⟩ := hS
  · exact .inl (by rw [h]; simp)
  · cases hv
    cases ha
    exact .inr ⟨g, 0, rfl, hlt, matsTake hT⟩

/-- A group in the making, out of nothing but a prime, a size and a list. -/
structure SPart (w wr : World) (q r : Nat) (p d : Int) (sv : Value) (O : List (Nat → Nat → Int)) : Prop where
  rows : wr.ownsRow w.heap.size 56 9 sv O.length (cells9 O)
  out : wr.rowIs q 31 3 (grpF p d sv)
  res : wr.rowIs r 31 3 (grpF 0 0 (.slice none 0 0))
  below : Below w.heap.size w wr
  b3 : w.heap.size ≤ q
  b4 : w.heap.size ≤ r
  qr : r ≠ q
theorem SPart.later {w wr w1 : World} {q r : Nat} {p d : Int} {sv : Value} {O : List (Nat → Nat → Int)} (h : SPart w wr q r p d sv O) (hb : Below wr.heap.size wr w1) : SPart w w1 q r p d sv O :=
  ⟨eowns_below h.rows hb, erow_below h.out hb h.out.lt, erow_below h.res hb h.res.lt, h.below.trans (hb.mono h.below.size), h.b3, h.b4, h.qr⟩
theorem SPart.put {w wr : World} {q r : Nat} {p d : Int} {sv sv' : Value} {O O' : List (Nat → Nat → Int)} (h : SPart w wr q r p d sv O) (ho : wr.ownsRow w.heap.size 56 9 sv' O'.length (cells9 O')) : SPart w (wr.setCell ⟨q, 2, none⟩ sv') q r p d sv' O' := by
  have hb3 := h.b3
  refine ⟨mown_set ho q 2 sv' (by
      rcases mown_ne h.out ho (by decide) with e | e
      · rw [e]; simp
      · exact e), ?_, h.res.setOther (by simpa using fun e => h.qr e) _, h.below.setCell (by simpa using hb3) _, h.b3, h.b4, h.qr⟩
  refine (h.out.set 2 sv').congr fun i hi => ?_
  rw [congrFun (grpF_set p d sv sv') i, if_pos hi]
theorem SPart.finish {w wr : World} {q r : Nat} {p d : Int} {sv : Value} {O : List (Nat → Nat → Int)} (h : SPart w wr q r p d sv O) (p' d' : Int) :
    (((wr.setCell ⟨r, 0, none⟩ (.int .i64 p')).setCell ⟨r, 1, none⟩ (.int .i64 d')).setCell ⟨r, 2, none⟩ sv).cell? ⟨r, 0, none⟩ = some (.int .i64 p') ∧
    (((wr.setCell ⟨r, 0, none⟩ (.int .i64 p')).setCell ⟨r, 1, none⟩ (.int .i64 d')).setCell ⟨r, 2, none⟩ sv).cell? ⟨r, 1, none⟩ = some (.int .i64 d') ∧
    (((wr.setCell ⟨r, 0, none⟩ (.int .i64 p')).setCell ⟨r, 1, none⟩ (.int .i64 d')).setCell ⟨r, 2, none⟩ sv).cell? ⟨r, 2, none⟩ = some sv ∧
    OwnG9 (((wr.setCell ⟨r, 0, none⟩ (.int .i64 p')).setCell ⟨r, 1, none⟩ (.int .i64 d')).setCell ⟨r, 2, none⟩ sv) w.heap.size sv O ∧
    Below w.heap.size w (((wr.setCell ⟨r, 0, none⟩ (.int .i64 p')).setCell ⟨r, 1, none⟩ (.int .i64 d')).setCell ⟨r, 2, none⟩ sv) := by
  have R := ((h.res.set 0 (.int .i64 p')).set 1 (.int .i64 d')).set 2 sv
  have hb4 := h.b4
  have hne : sv.ownBlock ≠ some r := by
    rcases mown_ne h.res h.rows (by decide) with e | e
    · rw [e]; simp
    · exact e
  exact ⟨R.cell (i := 0) (by omega), R.cell (i := 1) (by omega), R.cell (i := 2) (by omega), mown_set (mown_set (mown_set h.rows _ _ _ hne) _ _ _ hne) _ _ _ hne, ((h.below.setCell (by simpa using hb4) _).setCell (by simpa using hb4) _).setCell (by simpa using hb4) _⟩
theorem own_cap {w : World} {base n : Nat} {e : TypeId} {size : Nat} {sa : Option Addr} {m sc : Nat} {xs : List Value} (h : w.ownsRow base e size (.slice sa m sc) n xs) : n ≤ sc := by
  obtain ⟨_, ⟨hv, hn⟩ | ⟨g, cap, cur, hv, _, _, hnc, _⟩⟩ := h
  · cases hv; omega
  · cases hv; exact hnc
theorem own_succ {W : World} {base : Nat} {e : TypeId} {size : Nat} {v : Value} {k : Nat} {xs : List Value} (h : W.ownsRow base e size v (k + 1) xs) : ∃ g cap, v = .slice (some ⟨g, 0, none⟩) (k + 1) cap := by
  rcases h.2 with ⟨_, h0⟩ | ⟨g, cap, _, rfl, _⟩
  · omega
  · exact ⟨g, cap, rfl⟩
theorem own_one (w : World) (x : Nat → Nat → Int) : (w.alloc (.cells #[.int .u8 (x 0 0), .int .u8 (x 0 1), .int .u8 (x 0 2), .int .u8 (x 1 0), .int .u8 (x 1 1), .int .u8 (x 1 2), .int .u8 (x 2 0), .int .u8 (x 2 1), .int .u8 (x 2 2)] 56)).ownsRow w.heap.size 56 9 (.slice (some ⟨w.heap.size, 0, none⟩) 1 1) 1 (cell9 x) :=
  ⟨rfl, .inr ⟨w.heap.size, 1, _, rfl, Nat.le_refl _, heap_alloc_new w _, Nat.le_refl _, by simp [maxLen], rfl, rfl⟩⟩
theorem own_zero (w : World) : (w.alloc (.cells #[] 56)).ownsRow w.heap.size 56 9 (.slice (some ⟨w.heap.size, 0, none⟩) 0 0) 0 [] :=
  World.ownsRow_made (base := w.heap.size) (e := 56) (size := 9) w #[] 0 (Nat.le_refl _) (by simp [maxLen]) rfl
theorem grown_below {w w1 w2 : World} {base n : Nat} {e : TypeId} {size : Nat} {v : Value} {xs : List Value} (hb : Below base w w1) (ho : w1.ownsRow base e size v n xs) (hg : w1.grownBy w2 v.ownBlock) (hle : base ≤ w1.heap.size) : Below base w w2 :=
  hb.grown hg hle fun k hk => (ho.lt k hk).1
end Go.Proofs.Ytabfdohmgmdgeaa
