/-
  POLYNOMIALS in the making beside two others; appends of terms. Conditions: as each theorem states.. Conditions: as each theorem states.
-/
import Derived.Test.YtphgpadpffigjaaCj
import Derived.Test.YtphgpadpffigjaaTm
namespace Go.Proofs.Ytphgpadpffigjaa
open Go.RowKit Go.Sort

theorem cells4_terms {w : World} {b off : Nat} {ts : List Tm} (hT : Terms w b off ts) : ∀ j u, (cells4 ts)[j]? = some u → w.cell? ((⟨b, off, none⟩ : Addr).add j) = some u := by
  intro j u hu
  have hadd : (⟨b, off, none⟩ : Addr).add j = ⟨b, off + j, none⟩ := by unfold Addr.add; split <;> simp_all
  rw [hadd]
  have key : ∀ (l : List Tm) (o : Nat), Terms w b o l → ∀ j u, (cells4 l)[j]? = some u → w.cell? ⟨b, o + j, none⟩ = some u := fun l => by
    induction l with
    | nil => intro o _ j u h; simp [cells4] at h
    | cons t r ih =>
      intro o h j u hu
      have h0 := h 0 (by simp)
      simp only [Nat.zero_mul, Nat.add_zero, List.getElem_cons_zero] at h0
      have hr : Terms w b (o + 4) r := fun k hk => by
        have := h (k + 1) (by simp; omega)
        simp only [List.getElem_cons_succ] at this
        rwa [show o + (k + 1) * 4 = o + 4 + k * 4 by omega] at this
      match j, hu with
      | 0, hu => simp [cells4, cell4] at hu; subst hu; exact h0.1
      | 1, hu => simp [cells4, cell4] at hu; subst hu; exact h0.2.1
      | 2, hu => simp [cells4, cell4] at hu; subst hu; exact h0.2.2.1
      | 3, hu => simp [cells4, cell4] at hu; subst hu; exact h0.2.2.2
      | j + 4, hu =>
        have hu' : (cells4 r)[j]? = some u := by simpa [cells4, cell4] using hu
        have := ih (o + 4) hr j u hu'
        rwa [show o + 4 + j = o + (j + 4) by omega] at this
  exact key ts off hT j u hu
theorem cells4_one (ts : List Tm) : ∀ u ∈ cells4 ts, u.oneCell' = true := by
  intro u hu
  simp only [cells4, List.mem_flatMap] at hu
  obtain ⟨t, _, h⟩ := hu
  simp [cell4] at h
  rcases h with rfl | rfl | rfl | rfl <;> rfl

/-- All terms of a slice put behind those of a list of the call's own. -/
theorem wpList_append_terms (w : World) {ops : Array Oper} {rest : List Oper} {o : Oper} {a : Act} {Q : Exit → Act → World → Prop} (hgd : o.guard = none) (s x : Operand)
    (ho : o.op = .call { callee := .builtin .append, args := #[s, x], argTypes := #[34, 34] })
    (base : Nat) (v : Value) (n : Nat) (xs : List Value) (hs : a.eval s = v) (hown : w.ownsRow base 92 4 v n xs)
    (v2 : Value) (ts : List Tm) (hx : a.eval x = v2) (hS : SliceT w v2 ts) (h63 : n + ts.length ≤ 8388608) (hbase : base ≤ w.heap.size)
    (h : ∀ v' w', w'.ownsRow base 92 4 v' (n + ts.length) (xs ++ cells4 ts) → w.grownBy w' v.ownBlock → wpList Try.prog ops Q rest (a.put o.dst v') w') : wpList Try.prog ops Q (o :: rest) a w := by
  obtain ⟨i0, hi, hz0, hz1, hz2⟩ := info_parts infoTerm
  obtain ⟨A, cap, rfl, hcase⟩ := hS
  rcases A with _ | ad
  · have hn : ts = [] := by
      rcases hcase with h | ⟨b, off, h, _⟩
      · exact h
      · cases h
    subst hn
    refine wpList_plain hgd fun K hK => ?_
    have hrun : ∀ ty, (Builtin.append_ #[34, 34] ty #[v, .slice none 0 cap]).run Try.prog w = .ok v w := fun ty => by
      rcases hown.2 with ⟨rfl, rfl⟩ | ⟨g, c, cur, rfl, _, _, hnc, _⟩
      · simp [Builtin.append_, run_underlying Try.underlying34, sizeOf, typeInfo, hi, Builtin.lenOf, Builtin.firstCells]
      · simp [Builtin.append_, run_underlying Try.underlying34, sizeOf, typeInfo, hi, Builtin.lenOf, Builtin.firstCells, hnc, storeCells]
    unfold Oper.wp execOp
    simp only [ho, resolve, invoke, builtin, Sem.run_bind, Sem.run_pure, Result.andThen_ok, List.map_toArray, List.map_cons, List.map_nil, hs, hx]
    rw [show (List.length ([] : List Tm)) = 0 from rfl, hrun]
    exact hK _ _ (h v w (by simpa [cells4] using hown) (World.grownBy.refl w _))
  · refine wpList_append_own w hgd s x 34 ho base 92 i0 _ 4 16 Try.underlying34 hi hz0 hz1 hz2 rfl (by decide) v n xs hs hown ad ts.length cap (cells4 ts) hx (cells4_len ts) ?_ (cells4_one ts) (by unfold maxLen; omega) (by omega) hbase fun v' w' h1 h2 _ => h v' w' h1 h2
    intro j u hu
    rcases hcase with rfl | ⟨b, off, hA, hlt, hT⟩
    · simp [cells4] at hu
    · simp at hA
      subst hA
      exact cells4_terms hT j u hu

/-- A polynomial in the making, beside the boxes of two arguments. -/
structure Part2 (w wr : World) (base q a a2 r : Nat) (p d p' d' : Int) (xv yv sv : Value) (O : List Tm) : Prop where
  part : Part w wr base q a r p d xv sv O
  arg2 : wr.rowIs a2 36 3 (polyF p' d' yv)
  qa2 : a2 ≠ q
theorem Part2.later {w wr w1 : World} {base q a a2 r : Nat} {p d p' d' : Int} {xv yv sv : Value} {O : List Tm} (h : Part2 w wr base q a a2 r p d p' d' xv yv sv O) (hb : Below wr.heap.size wr w1) : Part2 w w1 base q a a2 r p d p' d' xv yv sv O :=
  ⟨h.part.later hb, rowIs_below h.arg2 hb h.arg2.lt, h.qa2⟩
theorem Part2.put {w wr w2 : World} {base base2 q a a2 r : Nat} {p d p' d' : Int} {xv yv sv v2 : Value} {O O2 : List Tm} (h : Part2 w wr base q a a2 r p d p' d' xv yv sv O) (hb : Below wr.heap.size wr w2) (ho : OwnP w2 base2 v2 O2) (hb2 : base ≤ base2) :
    Part2 w (((w2.setCell ⟨q, 0, none⟩ (.int .i64 p)).setCell ⟨q, 1, none⟩ (.int .i64 d)).setCell ⟨q, 2, none⟩ v2) base q a a2 r p d p' d' xv yv v2 O2 :=
  ⟨h.part.put hb ho hb2, (((rowIs_below h.arg2 hb h.arg2.lt).setOther (by simpa using fun e => h.qa2 e) _).setOther (by simpa using fun e => h.qa2 e) _).setOther (by simpa using fun e => h.qa2 e) _, h.qa2⟩
theorem Part2.moreL {w wr w2 : World} {base q a a2 r : Nat} {p d p' d' : Int} {xv yv sv sv' : Value} {O ts : List Tm} (h : Part2 w wr base q a a2 r p d p' d' xv yv sv O)
    (hg : wr.grownBy w2 sv.ownBlock) (ho : w2.ownsRow base 92 4 sv' (O.length + ts.length) (cells4 O ++ cells4 ts)) : Part2 w (w2.setCell ⟨q, 2, none⟩ sv') base q a a2 r p d p' d' xv yv sv' (O ++ ts) ∧ w2.rowIs q 36 3 (polyF p d sv) := by
  have h1 := h.part
  have hn1 : 36 ≠ 92 := by decide
  have r1 := rowIs_grown h1.out hg h1.rows hn1
  have r2 := rowIs_grown h1.arg hg h1.rows hn1
  have r3 := rowIs_grown h.arg2 hg h1.rows hn1
  have r4 := rowIs_grown h1.res hg h1.rows hn1
  refine ⟨⟨⟨?_, ?_, r2.setOther (by simpa using fun e => h1.qa e) _, r4.setOther (by simpa using fun e => h1.qr e) _, ?_, h1.b1, ?_, h1.b3, h1.b4, h1.qa, h1.qr⟩, r3.setOther (by simpa using fun e => h.qa2 e) _, h.qa2⟩, r1⟩
  · rw [show cells4 (O ++ ts) = cells4 O ++ cells4 ts by simp [cells4], show (O ++ ts).length = O.length + ts.length by simp]
    exact ho.kept (row := some q) ⟨rfl, rfl, rfl, by rw [World.size_setCell]; exact Nat.le_refl _, fun k hk hne => Below.heap_setCell w2 ⟨q, 2, none⟩ sv' k (fun e => hne (by rw [e]))⟩ (own_ne r1 ho hn1)
  · refine (r1.set 2 sv').congr fun i hi => ?_
    rw [congrFun (polyF_set p d sv sv') i, if_pos hi]
  · have hb1 := h1.b1
    have hb3 := h1.b3
    exact (h1.below.grown hg (Nat.le_trans hb1 h1.b2) (fun k hk => Nat.le_trans hb1 (h1.rows.lt k hk).1)).setCell (by simpa using hb3) _
  · rw [World.size_setCell]; exact Nat.le_trans h1.b2 hg.size
end Go.Proofs.Ytphgpadpffigjaa
