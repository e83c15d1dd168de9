/-
  LISTS OF LISTS of numbers by their headers: read, appended, resliced. Conditions: as each theorem states.
-/
import Derived.Test.YtabfdohmgmdgeaaUa
import Derived.Test.YtabfdohmgmdgeaaSk
namespace Go.Proofs.Ytabfdohmgmdgeaa
open Go.RowKit Go.Sort EchM

/-- Cells that hold a list of values. -/
def VW (w : World) (b off : Nat) (us : List Value) : Prop := ∀ (k : Nat) (h : k < us.length), w.cell? ⟨b, off + k, none⟩ = some us[k]
def SlV (w : World) (v : Value) (us : List Value) : Prop :=
  ∃ a cap, v = .slice a us.length cap ∧ (us = [] ∨ ∃ b off, a = some ⟨b, off, none⟩ ∧ b < w.heap.size ∧ VW w b off us)
theorem VW.below {w w' : World} {b off B : Nat} {us : List Value} (h : VW w b off us) (hb : Below B w w') (hB : b < B) : VW w' b off us := fun k hk => (hb.cell (p := ⟨b, _, none⟩) hB).trans (h k hk)
theorem SlV.below {w w' : World} {v : Value} {us : List Value} (h : SlV w v us) (hb : Below w.heap.size w w') : SlV w' v us := by
  obtain ⟨a, cap, hv, h | ⟨b, off, ha, hlt, hT⟩⟩ := h
  · exact ⟨a, cap, hv, .inl h⟩
  · exact ⟨a, cap, hv, .inr ⟨b, off, ha, Nat.lt_of_lt_of_le hlt hb.size, hT.below hb hlt⟩⟩
def OwnHv (w : World) (base : Nat) (v : Value) (us : List Value) : Prop := w.ownsRow base 25 1 v us.length us
theorem OwnHv.below {w w' : World} {base : Nat} {v : Value} {us : List Value} (h : OwnHv w base v us) (hb : Below w.heap.size w w') : OwnHv w' base v us := eowns_below h hb
theorem OwnHv.mono {w : World} {base base' : Nat} {v : Value} {us : List Value} (h : OwnHv w base v us) (hb : base' ≤ base) : OwnHv w base' v us := owns_mono h hb
theorem OwnHv.shape {w : World} {base : Nat} {v : Value} {us : List Value} (h : OwnHv w base v us) : ∃ a c, v = .slice a us.length c := mown_slice h
theorem OwnHv.slice {w : World} {base : Nat} {v : Value} {us : List Value} (h : OwnHv w base v us) : SlV w v us := by
  by_cases hl : 0 < us.length
  · obtain ⟨g, cap, hv, hb, hlt⟩ := World.ownsRow.form h hl
    refine ⟨_, _, hv, .inr ⟨g, 0, rfl, hlt, fun k hk => ?_⟩⟩
    have := World.ownsRow.cells h (g := g) (by rw [hv]; rfl) k us[k] (by simp)
    rw [Nat.zero_add]
    rwa [show (⟨g, 0, none⟩ : Addr).add k = ⟨g, k, none⟩ by unfold Addr.add; split <;> simp_all] at this
  · obtain ⟨a, c, hv⟩ := h.shape
    exact ⟨a, c, hv, .inl (List.eq_nil_of_length_eq_zero (by omega))⟩
theorem vw_cells {w : World} {b off : Nat} {us : List Value} (h : VW w b off us) : ∀ (j : Nat) (u : Value), us[j]? = some u → w.cell? ((⟨b, off, none⟩ : Addr).add j) = some u := fun j u hu => by
  obtain ⟨hj, rfl⟩ := List.getElem?_eq_some_iff.1 hu
  rw [Go.WideShapes.add_plain]
  exact h j hj
theorem own_oneV (w : World) (u : Value) : (w.alloc (.cells #[u] 25)).ownsRow w.heap.size 25 1 (.slice (some ⟨w.heap.size, 0, none⟩) 1 1) 1 [u] :=
  ⟨rfl, .inr ⟨w.heap.size, 1, _, rfl, Nat.le_refl _, heap_alloc_new w _, Nat.le_refl _, by simp [maxLen], rfl, rfl⟩⟩
theorem own_zeroV (w : World) : (w.alloc (.cells #[] 25)).ownsRow w.heap.size 25 1 (.slice (some ⟨w.heap.size, 0, none⟩) 0 0) 0 [] := by
  have := World.ownsRow_made (base := w.heap.size) (e := 25) (size := 1) w #[] 0 (by simp) (by simp [maxLen]) rfl
  simpa using this
/-- append of a slice of slices, whatever it is, to one of the call's own. -/
theorem wp_append_vals (w : World) {o : Oper} {a : Act} {K : Act → World → Prop} {Q : Exit → Act → World → Prop} (s x : Operand)
    (ho : o.op = .call { callee := .builtin .append, args := #[s, x], argTypes := #[61, 61] })
    (base : Nat) (v : Value) (n : Nat) (xs : List Value) (hs : a.eval s = v) (hown : w.ownsRow base 25 1 v n xs)
    (v2 : Value) (L : List Value) (hx : a.eval x = v2) (hS : SlV w v2 L) (h1 : ∀ u ∈ L, u.oneCell' = true) (h63 : n + L.length ≤ 1048576) (hbase : base ≤ w.heap.size)
    (h : ∀ v' w', w'.ownsRow base 25 1 v' (n + L.length) (xs ++ L) → w.grownBy w' v.ownBlock → K (a.put o.dst v') w') : Oper.wp Try.prog o a w K Q := by
  obtain ⟨i0, hi, hz0, hz1, hz2⟩ := info_parts einfoR
  obtain ⟨A, cap, rfl, hcase⟩ := hS
  rcases A with _ | ad
  · have hn : L = [] := by
      rcases hcase with h | ⟨b, off, h, _⟩
      · exact h
      · cases h
    subst hn
    have hrun : ∀ ty, (Builtin.append_ #[61, 61] ty #[v, .slice none 0 cap]).run Try.prog w = .ok v w := fun ty => by
      rcases hown.2 with ⟨rfl, rfl⟩ | ⟨g, c, cur, rfl, _, _, hnc, _⟩
      · simp [Builtin.append_, run_underlying Try.underlying61, sizeOf, typeInfo, hi, Builtin.lenOf, Builtin.firstCells]
      · simp [Builtin.append_, run_underlying Try.underlying61, sizeOf, typeInfo, hi, Builtin.lenOf, Builtin.firstCells, hnc, storeCells]
    unfold Oper.wp execOp
    simp only [ho, resolve, invoke, builtin, Sem.run_bind, Sem.run_pure, Result.andThen_ok, List.map_toArray, List.map_cons, List.map_nil, hs, hx]
    rw [show (List.length ([] : List Value)) = 0 from rfl, hrun]
    exact h v w (by simpa using hown) (World.grownBy.refl w _)
  · refine wp_append_own w s x 61 ho base 25 i0 _ 1 24 Try.underlying61 hi hz0 hz1 hz2 rfl (by decide) v n xs hs hown ad L.length cap L hx (by simp) ?_ h1 (by unfold maxLen; omega) (by omega) hbase fun v' w' h1 h2 _ => h v' w' h1 h2
    intro j u hu
    rcases hcase with rfl | ⟨b, off, hA, hlt, hT⟩
    · simp at hu
    · simp at hA
      subst hA
      exact vw_cells hT j u hu
theorem wpList_append_vals (w : World) {ops : Array Oper} {rest : List Oper} {o : Oper} {a : Act} {Q : Exit → Act → World → Prop} (hgd : o.guard = none) (s x : Operand)
    (ho : o.op = .call { callee := .builtin .append, args := #[s, x], argTypes := #[61, 61] })
    (base : Nat) (v : Value) (n : Nat) (xs : List Value) (hs : a.eval s = v) (hown : w.ownsRow base 25 1 v n xs)
    (v2 : Value) (L : List Value) (hx : a.eval x = v2) (hS : SlV w v2 L) (h1 : ∀ u ∈ L, u.oneCell' = true) (h63 : n + L.length ≤ 1048576) (hbase : base ≤ w.heap.size)
    (h : ∀ v' w', w'.ownsRow base 25 1 v' (n + L.length) (xs ++ L) → w.grownBy w' v.ownBlock → wpList Try.prog ops Q rest (a.put o.dst v') w') : wpList Try.prog ops Q (o :: rest) a w :=
  wpList_plain hgd fun _ hK => wp_append_vals w s x ho base v n xs hs hown v2 L hx hS h1 h63 hbase fun v' w' h1 h2 => hK _ _ (h v' w' h1 h2)
theorem vwDrop {w : World} {b off k : Nat} {L : List Value} (h : VW w b off L) : VW w b (off + k) (L.drop k) := fun i hi => by
  have hi' : k + i < L.length := by simp at hi; omega
  rw [List.getElem_drop, Nat.add_assoc]
  exact h (k + i) hi'
theorem vwTake {w : World} {b off k : Nat} {L : List Value} (h : VW w b off L) : VW w b off (L.take k) := fun i hi => by
  have hi' : i < L.length := by simp at hi; omega
  rw [List.getElem_take]
  exact h i hi'
theorem drop_slV {w : World} {g n sc k : Nat} {L : List Value} (hk : k ≤ n) (hn : n ≤ sc) (hL : L.length = n) (hS : SlV w (.slice (some ⟨g, 0, none⟩) n sc) L) : SlV w (.slice (if sc = k then some ⟨g, 0, none⟩ else some ⟨g, k, none⟩) (n - k) (sc - k)) (L.drop k) := by
  refine ⟨_, _, by rw [List.length_drop, hL], ?_⟩
  obtain ⟨a, cap, hv, h | ⟨b, off, ha, hlt, hT⟩⟩ := hS
  · exact .inl (by rw [h]; simp)
  · cases hv
    cases ha
    by_cases hsk : sc = k
    · exact .inl (List.drop_eq_nil_of_le (by omega))
    · refine .inr ⟨g, 0 + k, ?_, hlt, vwDrop hT⟩
      rw [if_neg hsk, Nat.zero_add]
theorem take_slV {w : World} {g n sc k : Nat} {L : List Value} (hk : k ≤ n) (hL : L.length = n) (hS : SlV w (.slice (some ⟨g, 0, none⟩) n sc) L) : SlV w (.slice (some ⟨g, 0, none⟩) k sc) (L.take k) := by
  refine ⟨_, _, by rw [List.length_take, hL, Nat.min_eq_left hk], ?_⟩
  obtain ⟨a, cap, hv, h | ⟨b, off, ha, hlt, hT⟩⟩ := hS
  · exact .inl (by rw [h]; simp)
  · cases hv
    cases ha
    exact .inr ⟨g, 0, rfl, hlt, vwTake hT⟩
/-- Rows by their headers: a value and what it reads as. -/
abbrev Row := Value × List Int
theorem Sl.one {w : World} {v : Value} {l : List Int} (h : Sl w v l) : v.oneCell' = true := by
  obtain ⟨a, cap, rfl, _⟩ := h; rfl
theorem rows_one {w : World} {O : List Row} (h : ∀ e ∈ O, Sl w e.1 e.2) : ∀ u ∈ O.map (·.1), u.oneCell' = true := fun u hu => by
  obtain ⟨e, he, rfl⟩ := List.mem_map.1 hu
  exact (h e he).one
theorem slR_of {w : World} {v : Value} {O : List Row} (h : SlV w v (O.map (·.1))) (hr : ∀ e ∈ O, Sl w e.1 e.2) : SlR w v (O.map (·.2)) := by
  obtain ⟨a, cap, hv, h | ⟨b, off, ha, hlt, hT⟩⟩ := h
  · have : O = [] := by simpa using h
    subst this
    exact ⟨a, cap, by simpa using hv, .inl rfl⟩
  · refine ⟨a, cap, by simpa using hv, .inr ⟨b, off, ha, hlt, fun k hk => ?_⟩⟩
    have hk' : k < O.length := by simpa using hk
    refine ⟨O[k].1, ?_, by simpa using hr _ (List.getElem_mem hk')⟩
    rw [hT k (by simpa using hk'), List.getElem_map]
end Go.Proofs.Ytabfdohmgmdgeaa
