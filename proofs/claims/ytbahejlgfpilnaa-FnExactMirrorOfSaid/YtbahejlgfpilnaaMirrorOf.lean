/-
  'laws.FnExactMirrorOf' returns true for every input, and each argument reads afterwards as it read before. Conditions: none.
-/
import Derived.Test.YtbahejlgfpilnaaMirLaw
import Derived.Test.YtbahejlgfpilnaaJb
namespace Go.Proofs.Ytbahejlgfpilnaa.fnExactMirrorOf
open Go.ChangeShapes Go.WideShapes Go.ChangeAt Go.RowKit Go.Joins Go.Deep

set_option maxRecDepth 100000 in
theorem lifted (os : Os) (started : os.Started) (H : Type) (enc : TypeId × Value → H) :
    ReturnsInHanded {} Try.checked os 4 .any (Rows.fnExactMirrorOfSpec.pre6 enc Try.prog Try.f4 Rows.fnExactMirrorOfRow.domain false) (Rows.fnExactMirrorOfSpec.post enc Try.prog Try.f4 false true false false) := by
  refine returnsInHanded_of_change (C := Try.checked) mown started (by kernel_rfl) Try.func4
    (ChangeSpec.witness6 (enc := enc) (C := Try.checked) false ⟨#[], #[.int .i64 0, .int .i64 0, .agg #[.int .u8 0, .int .u8 0, .int .u8 0, .int .u8 0, .int .u8 0, .int .u8 0, .int .u8 0, .int .u8 0, .int .u8 0]], []⟩ 8 (by kernel_rfl) (by kernel_rfl) (by kernel_rfl) (by kernel_rfl)) ?_
  intro W base args ds gs before hval0 hW hcnd _
  have hval : ∀ (j : Nat) t v, Try.f4.params[j]? = some t → args[j]? = some v → Value.okWide Try.prog W .any base t v := hval0
  have hW' := hW
  obtain ⟨p, q, hA0, hV, rfl, _, _⟩ := hW
  have hA : DataW.TrodAll enc Try.prog W 0 (fun _ => true) true Try.f4.params.toList args.toList ds p := hA0
  rw [Try.params4] at hA hval
  obtain ⟨v0, vs0, d0, ds0, p0, q0, hargs, rfl, rfl, h0, r0⟩ := trodAll_cons hA
  obtain ⟨v1, vs1, d1, ds1, p1, q1, rfl, rfl, rfl, h1, r1⟩ := trodAll_cons r0
  obtain ⟨v2, vs2, d2, ds2, p2, q2, rfl, rfl, rfl, h2, r2⟩ := trodAll_cons r1
  obtain ⟨rfl, rfl, rfl⟩ := trodAll_nil r2
  obtain rfl : args = #[v0, v1, v2] := by cases args; simp_all
  obtain ⟨rfl, rfl⟩ := trodVars_none hV
  have hlt2 : ∀ x ∈ p2, x.block < W.heap.size := fun x hx => hW'.lt x (by simp [hx])
  obtain ⟨a0, rfl, rfl, rfl, w0⟩ := open_int Try.underlying2 (hval 0 2 v0 rfl rfl) h0
  obtain ⟨a1, rfl, rfl, rfl, w1⟩ := open_int Try.underlying2 (hval 1 2 v1 rfl rfl) h1
  obtain ⟨g2, rfl, hb2⟩ := open_mat (hval 2 35 v2 rfl rfl) h2
  clear hA0 hval0 hcnd
  simp only [List.append_nil] at hW'
  refine (law_Mir a0 a1 g2 W hb2).mono fun e W' ⟨he, hg⟩ => ?_
  subst he
  exact ⟨_, rfl, mrow_end (pa := (([] : List MemPlace) ++ (([] : List MemPlace) ++ (p2 ++ [])))) (pv := []) hW' hg (fun _ _ _ => (trodAll_cons_mk (shut_bool Try.underlying4 _) trodAll_mk0))
    (trodAll_cons_mk (shut_int Try.underlying2 w0) (trodAll_cons_mk (shut_int Try.underlying2 w1) (trodAll_cons_mk (Below.trod mlaidOut readMat.1 readMat.2 h2 hg hlt2) trodAll_mk0))) rfl (fun p h => .inl (by simpa using h))⟩

theorem jmay : Try.pinned.checked.prog.mayEnter = true := by kernel_rfl
theorem jlift : (Rows.fnExactMirrorOfRow.lifted == Try.pinned.checked.prog.liftsFinal) = true := by kernel_rfl
theorem jmake : (Try.pinned.checked.prog.make == some Rows.fnExactMirrorOfRow.make) = true := by kernel_rfl
theorem junf : (Rows.fnExactMirrorOfRow.unfollowed == Try.pinned.checked.prog.unfollowed 4) = true := by kernel_rfl
theorem jrec : (Rows.fnExactMirrorOfRow.recurses == Try.pinned.checked.prog.recurses 4) = true := by kernel_rfl
theorem jin : (Rows.fnExactMirrorOfRow.inPlace == Try.pinned.checked.prog.inPlace 4) = true := by kernel_rfl
theorem jnam : (Rows.fnExactMirrorOfRow.named == Try.pinned.checked.prog.varsNamed 4) = true := by kernel_rfl
theorem joined : joinedFacts Try.pinned.checked.prog 4 Try.f4 Rows.fnExactMirrorOfSpec Rows.fnExactMirrorOfRow = true := by
  unfold joinedFacts
  rw [jmay, jlift, jmake, junf, jrec, jin, jnam]
  kernel_rfl

theorem over : Rows.fnExactMirrorOfRow.holds Try.pinned (OpenSpec.ofChange Rows.fnExactMirrorOfSpec) :=
  OpenClaim.holds_of_wide 4 Try.f4 rfl rfl rfl rfl rfl rfl rfl ⟨rfl, rfl, rfl, rfl, rfl⟩ rfl rfl rfl rfl rfl (by kernel_rfl) Try.func4 joined
    (of_decide_eq_true (by kernel_rfl)) (by unfold Func.isWrapper; first | (rw [if_pos (by decide +kernel)]; kernel_rfl) | (rw [if_neg (by decide +kernel)]; exact ⟨rfl, rfl⟩))
    (fun os started H enc _ => lifted os started H enc)

/-- The statement. -/
theorem proved : Rows.FnExactMirrorOfSaid :=
  over
#print axioms proved
end Go.Proofs.Ytbahejlgfpilnaa.fnExactMirrorOf
