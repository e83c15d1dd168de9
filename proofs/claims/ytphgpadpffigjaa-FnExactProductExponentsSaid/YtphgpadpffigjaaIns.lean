/-
  WALKS: 'impl.constant'. Conditions: as each theorem states.
-/
import Derived.Test.YtphgpadpffigjaaSort
namespace Go.Proofs.Ytphgpadpffigjaa
open Go.RowKit Go.Sort Go.Maps

abbrev OwnP (w : World) (base : Nat) (v : Value) (S : List Tm) : Prop := w.ownsRow base 92 4 v S.length (cells4 S)
theorem OwnP.slice {w : World} {base : Nat} {v : Value} {S : List Tm} (h : OwnP w base v S) : SliceT w v S := by
  obtain ⟨_, ⟨rfl, h0⟩ | ⟨g, cap, cur, rfl, hb, hg, hc1, hc2, hsz, htk⟩⟩ := id h
  · have := List.eq_nil_of_length_eq_zero h0
    subst this
    exact ⟨none, 0, rfl, .inl rfl⟩
  · refine ⟨_, cap, rfl, .inr ⟨g, 0, rfl, (Array.getElem?_eq_some_iff.1 hg).1, fun k hk => ?_⟩⟩
    have key : ∀ j, j < 4 → ∀ u, (cell4 S[k])[j]? = some u → w.cell? ⟨g, 0 + k * 4 + j, none⟩ = some u := fun j hj u hu => by
      have e := cells4_get S (k * 4 + j)
      rw [show (k * 4 + j) / 4 = k by omega, show (k * 4 + j) % 4 = j by omega, List.getElem?_eq_getElem hk] at e
      have e2 : (cells4 S)[k * 4 + j]? = some u := e.trans hu
      have hlt : k * 4 + j < S.length * 4 := by omega
      rw [← htk, List.getElem?_take_of_lt hlt, Array.getElem?_toList] at e2
      have hcs : k * 4 + j < cur.size := (Array.getElem?_eq_some_iff.1 e2).1
      simp [World.cell?, hg, e2]
    exact ⟨key 0 (by omega) _ rfl, key 1 (by omega) _ rfl, key 2 (by omega) _ rfl, key 3 (by omega) _ rfl⟩

/-- 'map[K]V{k: v}': an entry of a literal. -/
theorem wpList_insert_own {H : Type} {P : Program} (w : World) {ops : Array Oper} {rest : List Oper} {o : Oper} {a : Act} {Q : Exit → Act → World → Prop}
    (hg : o.guard = none) (m x v : Operand) (t : TypeId) (hop : o.op = Op.insert t m x v)
    (k e : TypeId) (K : Keyed P k) (ht : P.underlying t = some (.map k e)) (R : Value → Option (DataW H × List MemPlace)) (b n : Nat) (D : DataW H)
    (hm : a.eval m = .map (some b)) (hown : w.ownsMap P k R b n D) (hn : n < maxLen) (key val : Value) (kl : Lit) (hx : a.eval x = key) (hv : a.eval v = val) (hkey : keyOf P k key = some kl)
    (d : DataW H) (ps : List MemPlace) (hval : R val = some (d, ps))
    (hK : ∀ w', w'.ownsMap P k R b (n + 1) (D.put kl d) → w.grownBy w' (some b) → wpList P ops Q rest (a.put o.dst undef) w') :
    wpList P ops Q (o :: rest) a w := by
  refine wpList_plain hg fun K' hK' => ?_
  obtain ⟨w', hrun, r1, r2⟩ := hown.update K ht hn hkey hval
  unfold Oper.wp
  simp [execOp, hop, hm, hx, hv, hrun, Result.andThen]
  exact hK' _ _ (hK w' r1 r2)

theorem Good.one {D : DataW Unit} {S : List Tm} {e : Int × Int × Int} {v : Int} (he : byte3 e) (hv : ∀ a, byte3 a → cf D a = if a = e then v else 0) (h : Good D S) : S = if v = 0 then [] else [mkT e v] := by
  refine h.unique ?_ ?_ ?_
  · split
    · exact List.Pairwise.nil
    · exact List.pairwise_singleton _ _
  · intro t ht
    split at ht
    · simp at ht
    · simp at ht
      subst ht
      exact ⟨he, ‹¬ v = 0›⟩
  · intro a ha
    rw [hv a ha]
    split
    · rename_i h0
      subst h0
      simp [atL]
    · rw [atL]
      by_cases hx : tmE (mkT e v) = a
      · rw [if_pos hx, if_pos (by rw [← hx]; rfl)]; rfl
      · rw [if_neg hx, if_neg (fun y => hx (by rw [y]; rfl))]; rfl

/-- A polynomial stored into the result's box. -/
theorem fill_box {w w2 : World} {base r : Nat} {v : Value} {S : List Tm} {F : Nat → Value} (hres : w2.rowIs r 36 3 F) (ho : OwnP w2 base v S) (hbase : w.heap.size ≤ base) (hb : Below w.heap.size w w2) (hr : w.heap.size ≤ r) (p d : Int) :
    (((w2.setCell ⟨r, 0, none⟩ (.int .i64 p)).setCell ⟨r, 1, none⟩ (.int .i64 d)).setCell ⟨r, 2, none⟩ v).cell? ⟨r, 0, none⟩ = some (.int .i64 p) ∧
    (((w2.setCell ⟨r, 0, none⟩ (.int .i64 p)).setCell ⟨r, 1, none⟩ (.int .i64 d)).setCell ⟨r, 2, none⟩ v).cell? ⟨r, 1, none⟩ = some (.int .i64 d) ∧
    (((w2.setCell ⟨r, 0, none⟩ (.int .i64 p)).setCell ⟨r, 1, none⟩ (.int .i64 d)).setCell ⟨r, 2, none⟩ v).cell? ⟨r, 2, none⟩ = some v ∧
    OwnP (((w2.setCell ⟨r, 0, none⟩ (.int .i64 p)).setCell ⟨r, 1, none⟩ (.int .i64 d)).setCell ⟨r, 2, none⟩ v) w.heap.size v S ∧
    Below w.heap.size w (((w2.setCell ⟨r, 0, none⟩ (.int .i64 p)).setCell ⟨r, 1, none⟩ (.int .i64 d)).setCell ⟨r, 2, none⟩ v) := by
  have R := ((hres.set 0 (.int .i64 p)).set 1 (.int .i64 d)).set 2 v
  refine ⟨R.cell (i := 0) (by omega), R.cell (i := 1) (by omega), R.cell (i := 2) (by omega), ?_, ((hb.setCell (by simpa using hr) _).setCell (by simpa using hr) _).setCell (by simpa using hr) _⟩
  refine owns_low (World.ownsRow.kept ho (row := some r) ⟨rfl, rfl, rfl, by simp only [World.size_setCell]; exact Nat.le_refl _, fun k hk hne => ?_⟩ (own_ne hres ho (by decide))) hbase
  have hk : k ≠ r := fun e => hne (by rw [e])
  exact (Below.heap_setCell _ ⟨r, 2, none⟩ v k hk).trans ((Below.heap_setCell _ ⟨r, 1, none⟩ _ k hk).trans (Below.heap_setCell _ ⟨r, 0, none⟩ _ k hk))

theorem wf64 {n : Int} (h : 0 ≤ n) (h2 : n ≤ 9223372036854775807) : (Lit.int .i64 n).wf = true := by
  simp [Lit.wf, IntKind.min, IntKind.max, IntKind.bits, IntKind.signed]; omega

/-- The terms of a constant. -/
def constL (v : Int) : List Tm := if v = 0 then [] else [mkT (0, 0, 0) v]
end Go.Proofs.Ytphgpadpffigjaa
