/-
  'laws.FnExactIsAlternating' returns true for every input, and each argument reads afterwards as it read before. Conditions: none.
-/
import Derived.Test.YtphgpadpffigjaaRb
import Derived.Test.YtphgpadpffigjaaLd
import Derived.Test.YtphgpadpffigjaaQ
namespace Go.Proofs.Ytphgpadpffigjaa.fnExactIsAlternating
open Go.ChangeShapes Go.WideShapes Go.ChangeAt Go.RowKit Go.Joins Go.Deep

set_option maxRecDepth 100000 in
theorem lifted (os : Os) (started : os.Started) (H : Type) (enc : TypeId × Value → H) :
    ReturnsInHanded {} Try.checked os 8 .any (Rows.fnExactIsAlternatingSpec.pre6 enc Try.prog Try.f8 Rows.fnExactIsAlternatingRow.domain false) (Rows.fnExactIsAlternatingSpec.post enc Try.prog Try.f8 false true false false) := by
  refine returnsInHanded_of_change (C := Try.checked) mown started (by kernel_rfl) Try.func8
    (ChangeSpec.witness6 (enc := enc) (C := Try.checked) false ⟨#[], #[.agg #[.int .i64 0, .int .i64 0, .slice none 0 0]], []⟩ 8 (by kernel_rfl) (by kernel_rfl) (by kernel_rfl) (by kernel_rfl)) ?_
  intro W base args ds gs before hval0 hW hcnd _
  have hval : ∀ (j : Nat) t v, Try.f8.params[j]? = some t → args[j]? = some v → Value.okWide Try.prog W .any base t v := hval0
  have hW' := hW
  obtain ⟨p, q, hA0, hV, rfl, _, _⟩ := hW
  have hA : DataW.TrodAll enc Try.prog W 0 (fun _ => true) true Try.f8.params.toList args.toList ds p := hA0
  rw [Try.params8] at hA hval
  obtain ⟨v0, vs0, d0, ds0, p0, q0, hargs, rfl, rfl, h0, r0⟩ := trodAll_cons hA
  obtain ⟨rfl, rfl, rfl⟩ := trodAll_nil r0
  obtain rfl : args = #[v0] := by cases args; simp_all
  obtain ⟨rfl, rfl⟩ := trodVars_none hV
  have hlt0 : ∀ x ∈ p0, x.block < W.heap.size := fun x hx => hW'.lt x (by simp [hx])
  obtain ⟨a0, e0, sv0, ts0, rfl, hS0, hby0, hn0⟩ := open_poly (hval 0 46 v0 rfl rfl) h0
  clear hA0 hval0 hcnd
  simp only [List.append_nil] at hW'
  refine (law_ial a0 e0 sv0 ts0 W hn0 hS0 hby0).mono fun e W' ⟨he, hg⟩ => ?_
  subst he
  exact ⟨_, rfl, mrow_end (pa := (p0 ++ [])) (pv := []) hW' hg (fun _ _ _ => (trodAll_cons_mk (shut_bool Try.underlying4 _) trodAll_mk0))
    (trodAll_cons_mk (Below.trod mlaidOut readPoly.1 readPoly.2 h0 hg hlt0) trodAll_mk0) rfl (fun p h => .inl (by simpa using h))⟩

theorem jmay : Try.pinned.checked.prog.mayEnter = true := by kernel_rfl
theorem jlift : (Rows.fnExactIsAlternatingRow.lifted == Try.pinned.checked.prog.liftsFinal) = true := by kernel_rfl
theorem jmake : (Try.pinned.checked.prog.make == some Rows.fnExactIsAlternatingRow.make) = true := by kernel_rfl
theorem junf : (Rows.fnExactIsAlternatingRow.unfollowed == Try.pinned.checked.prog.unfollowed 8) = true := by kernel_rfl
theorem jrec : (Rows.fnExactIsAlternatingRow.recurses == Try.pinned.checked.prog.recurses 8) = true := by kernel_rfl
theorem jin : (Rows.fnExactIsAlternatingRow.inPlace == Try.pinned.checked.prog.inPlace 8) = true := by kernel_rfl
theorem jnam : (Rows.fnExactIsAlternatingRow.named == Try.pinned.checked.prog.varsNamed 8) = true := by kernel_rfl
theorem joined : joinedFacts Try.pinned.checked.prog 8 Try.f8 Rows.fnExactIsAlternatingSpec Rows.fnExactIsAlternatingRow = true := by
  unfold joinedFacts
  rw [jmay, jlift, jmake, junf, jrec, jin, jnam]
  kernel_rfl

theorem over : Rows.fnExactIsAlternatingRow.holds Try.pinned (OpenSpec.ofChange Rows.fnExactIsAlternatingSpec) :=
  OpenClaim.holds_of_wide 8 Try.f8 rfl rfl rfl rfl rfl rfl rfl ⟨rfl, rfl, rfl, rfl, rfl⟩ rfl rfl rfl rfl rfl (by kernel_rfl) Try.func8 joined
    (of_decide_eq_true (by kernel_rfl)) (by unfold Func.isWrapper; first | (rw [if_pos (by decide +kernel)]; kernel_rfl) | (rw [if_neg (by decide +kernel)]; exact ⟨rfl, rfl⟩))
    (fun os started H enc _ => lifted os started H enc)

/-- The statement. -/
theorem proved : Rows.FnExactIsAlternatingSaid :=
  over
#print axioms proved
end Go.Proofs.Ytphgpadpffigjaa.fnExactIsAlternating
