/-
  'laws.FnExactDicksonInvariant' returns true for every input, and each argument reads afterwards as it read before. Conditions: none.
-/
import Derived.Test.YtphgpadpffigjaaDa3
import Derived.Test.YtphgpadpffigjaaLd
namespace Go.Proofs.Ytphgpadpffigjaa.fnExactDicksonInvariant
open Go.ChangeShapes Go.WideShapes Go.ChangeAt Go.RowKit Go.Joins Go.Deep

set_option maxRecDepth 100000 in
theorem lifted (os : Os) (started : os.Started) (H : Type) (enc : TypeId × Value → H) :
    ReturnsInHanded {} Try.checked os 5 .any (Rows.fnExactDicksonInvariantSpec.pre6 enc Try.prog Try.f5 Rows.fnExactDicksonInvariantRow.domain false) (Rows.fnExactDicksonInvariantSpec.post enc Try.prog Try.f5 false true false false) := by
  refine returnsInHanded_of_change (C := Try.checked) mown started (by kernel_rfl) Try.func5
    (ChangeSpec.witness6 (enc := enc) (C := Try.checked) false ⟨#[], #[.int .i64 0, .int .i64 0, .int .i64 0], []⟩ 8 (by kernel_rfl) (by kernel_rfl) (by kernel_rfl) (by kernel_rfl)) ?_
  intro W base args ds gs before hval0 hW hcnd _
  have hval : ∀ (j : Nat) t v, Try.f5.params[j]? = some t → args[j]? = some v → Value.okWide Try.prog W .any base t v := hval0
  have hW' := hW
  obtain ⟨p, q, hA0, hV, rfl, _, _⟩ := hW
  have hA : DataW.TrodAll enc Try.prog W 0 (fun _ => true) true Try.f5.params.toList args.toList ds p := hA0
  rw [Try.params5] at hA hval
  obtain ⟨v0, vs0, d0, ds0, p0, q0, hargs, rfl, rfl, h0, r0⟩ := trodAll_cons hA
  obtain ⟨v1, vs1, d1, ds1, p1, q1, rfl, rfl, rfl, h1, r1⟩ := trodAll_cons r0
  obtain ⟨v2, vs2, d2, ds2, p2, q2, rfl, rfl, rfl, h2, r2⟩ := trodAll_cons r1
  obtain ⟨rfl, rfl, rfl⟩ := trodAll_nil r2
  obtain rfl : args = #[v0, v1, v2] := by cases args; simp_all
  obtain ⟨rfl, rfl⟩ := trodVars_none hV
  obtain ⟨a0, rfl, rfl, rfl, w0⟩ := open_int Try.underlying2 (hval 0 2 v0 rfl rfl) h0
  obtain ⟨a1, rfl, rfl, rfl, w1⟩ := open_int Try.underlying2 (hval 1 2 v1 rfl rfl) h1
  obtain ⟨a2, rfl, rfl, rfl, w2⟩ := open_int Try.underlying2 (hval 2 2 v2 rfl rfl) h2
  clear hA0 hval0 hcnd
  simp only [List.append_nil] at hW'
  refine (law_dk a0 a1 a2 W ).mono fun e W' ⟨he, hg⟩ => ?_
  subst he
  exact ⟨_, rfl, mrow_end (pa := (([] : List MemPlace) ++ (([] : List MemPlace) ++ (([] : List MemPlace) ++ [])))) (pv := []) hW' hg (fun _ _ _ => (trodAll_cons_mk (shut_bool Try.underlying4 _) trodAll_mk0))
    (trodAll_cons_mk (shut_int Try.underlying2 w0) (trodAll_cons_mk (shut_int Try.underlying2 w1) (trodAll_cons_mk (shut_int Try.underlying2 w2) trodAll_mk0))) rfl (fun p h => by simp at h)⟩

theorem jmay : Try.pinned.checked.prog.mayEnter = true := by kernel_rfl
theorem jlift : (Rows.fnExactDicksonInvariantRow.lifted == Try.pinned.checked.prog.liftsFinal) = true := by kernel_rfl
theorem jmake : (Try.pinned.checked.prog.make == some Rows.fnExactDicksonInvariantRow.make) = true := by kernel_rfl
theorem junf : (Rows.fnExactDicksonInvariantRow.unfollowed == Try.pinned.checked.prog.unfollowed 5) = true := by kernel_rfl
theorem jrec : (Rows.fnExactDicksonInvariantRow.recurses == Try.pinned.checked.prog.recurses 5) = true := by kernel_rfl
theorem jin : (Rows.fnExactDicksonInvariantRow.inPlace == Try.pinned.checked.prog.inPlace 5) = true := by kernel_rfl
theorem jnam : (Rows.fnExactDicksonInvariantRow.named == Try.pinned.checked.prog.varsNamed 5) = true := by kernel_rfl
theorem joined : joinedFacts Try.pinned.checked.prog 5 Try.f5 Rows.fnExactDicksonInvariantSpec Rows.fnExactDicksonInvariantRow = true := by
  unfold joinedFacts
  rw [jmay, jlift, jmake, junf, jrec, jin, jnam]
  kernel_rfl

theorem over : Rows.fnExactDicksonInvariantRow.holds Try.pinned (OpenSpec.ofChange Rows.fnExactDicksonInvariantSpec) :=
  OpenClaim.holds_of_wide 5 Try.f5 rfl rfl rfl rfl rfl rfl rfl ⟨rfl, rfl, rfl, rfl, rfl⟩ rfl rfl rfl rfl rfl (by kernel_rfl) Try.func5 joined
    (of_decide_eq_true (by kernel_rfl)) (by unfold Func.isWrapper; first | (rw [if_pos (by decide +kernel)]; kernel_rfl) | (rw [if_neg (by decide +kernel)]; exact ⟨rfl, rfl⟩))
    (fun os started H enc _ => lifted os started H enc)

/-- The statement. -/
theorem proved : Rows.FnExactDicksonInvariantSaid :=
  over
#print axioms proved
end Go.Proofs.Ytphgpadpffigjaa.fnExactDicksonInvariant
