/-
  'laws.FnExactProductExponents' returns true for every input, and each argument reads afterwards as it read before. Conditions: none.
-/
import Derived.Test.YtphgpadpffigjaaPe10
import Derived.Test.YtphgpadpffigjaaLd
import Derived.Test.YtphgpadpffigjaaPe11
namespace Go.Proofs.Ytphgpadpffigjaa.fnExactProductExponents
open Go.ChangeShapes Go.WideShapes Go.ChangeAt Go.RowKit Go.Joins Go.Deep

set_option maxRecDepth 100000 in
theorem lifted (os : Os) (started : os.Started) (H : Type) (enc : TypeId × Value → H) :
    ReturnsInHanded {} Try.checked os 3 .any (Rows.fnExactProductExponentsSpec.pre6 enc Try.prog Try.f3 Rows.fnExactProductExponentsRow.domain false) (Rows.fnExactProductExponentsSpec.post enc Try.prog Try.f3 false true false false) := by
  refine returnsInHanded_of_change (C := Try.checked) mown started (by kernel_rfl) Try.func3
    (ChangeSpec.witness6 (enc := enc) (C := Try.checked) false ⟨#[], #[.slice none 0 0, .int .i64 0], []⟩ 8 (by kernel_rfl) (by kernel_rfl) (by kernel_rfl) (by kernel_rfl)) ?_
  intro W base args ds gs before hval0 hW hcnd _
  have hval : ∀ (j : Nat) t v, Try.f3.params[j]? = some t → args[j]? = some v → Value.okWide Try.prog W .any base t v := hval0
  have hW' := hW
  obtain ⟨p, q, hA0, hV, rfl, _, _⟩ := hW
  have hA : DataW.TrodAll enc Try.prog W 0 (fun _ => true) true Try.f3.params.toList args.toList ds p := hA0
  rw [Try.params3] at hA hval
  obtain ⟨v0, vs0, d0, ds0, p0, q0, hargs, rfl, rfl, h0, r0⟩ := trodAll_cons hA
  obtain ⟨v1, vs1, d1, ds1, p1, q1, rfl, rfl, rfl, h1, r1⟩ := trodAll_cons r0
  obtain ⟨rfl, rfl, rfl⟩ := trodAll_nil r1
  obtain rfl : args = #[v0, v1] := by cases args; simp_all
  obtain ⟨rfl, rfl⟩ := trodVars_none hV
  have hlt0 : ∀ x ∈ p0, x.block < W.heap.size := fun x hx => hW'.lt x (by simp [hx])
  obtain ⟨G0, hS0, hn0, hr0, hb0⟩ := open_polys (hval 0 22 v0 rfl rfl) h0
  obtain ⟨a1, rfl, rfl, rfl, w1⟩ := open_int Try.underlying2 (hval 1 2 v1 rfl rfl) h1
  clear hA0 hval0 hcnd
  simp only [List.append_nil] at hW'
  refine (law_Pe v0 G0 a1 W hn0 hr0 hb0 hS0).mono fun e W' ⟨he, hg⟩ => ?_
  subst he
  exact ⟨_, rfl, mrow_end (pa := (p0 ++ (([] : List MemPlace) ++ []))) (pv := []) hW' hg (fun _ _ _ => (trodAll_cons_mk (shut_bool Try.underlying4 _) trodAll_mk0))
    (trodAll_cons_mk (Below.trod mlaidOut readPolys.1 readPolys.2 h0 hg hlt0) (trodAll_cons_mk (shut_int Try.underlying2 w1) trodAll_mk0)) rfl (fun p h => .inl (by simpa using h))⟩

theorem jmay : Try.pinned.checked.prog.mayEnter = true := by kernel_rfl
theorem jlift : (Rows.fnExactProductExponentsRow.lifted == Try.pinned.checked.prog.liftsFinal) = true := by kernel_rfl
theorem jmake : (Try.pinned.checked.prog.make == some Rows.fnExactProductExponentsRow.make) = true := by kernel_rfl
theorem junf : (Rows.fnExactProductExponentsRow.unfollowed == Try.pinned.checked.prog.unfollowed 3) = true := by kernel_rfl
theorem jrec : (Rows.fnExactProductExponentsRow.recurses == Try.pinned.checked.prog.recurses 3) = true := by kernel_rfl
theorem jin : (Rows.fnExactProductExponentsRow.inPlace == Try.pinned.checked.prog.inPlace 3) = true := by kernel_rfl
theorem jnam : (Rows.fnExactProductExponentsRow.named == Try.pinned.checked.prog.varsNamed 3) = true := by kernel_rfl
theorem joined : joinedFacts Try.pinned.checked.prog 3 Try.f3 Rows.fnExactProductExponentsSpec Rows.fnExactProductExponentsRow = true := by
  unfold joinedFacts
  rw [jmay, jlift, jmake, junf, jrec, jin, jnam]
  kernel_rfl

theorem over : Rows.fnExactProductExponentsRow.holds Try.pinned (OpenSpec.ofChange Rows.fnExactProductExponentsSpec) :=
  OpenClaim.holds_of_wide 3 Try.f3 rfl rfl rfl rfl rfl rfl rfl ⟨rfl, rfl, rfl, rfl, rfl⟩ rfl rfl rfl rfl rfl (by kernel_rfl) Try.func3 joined
    (of_decide_eq_true (by kernel_rfl)) (by unfold Func.isWrapper; first | (rw [if_pos (by decide +kernel)]; kernel_rfl) | (rw [if_neg (by decide +kernel)]; exact ⟨rfl, rfl⟩))
    (fun os started H enc _ => lifted os started H enc)

/-- The statement. -/
theorem proved : Rows.FnExactProductExponentsSaid :=
  over
#print axioms proved
end Go.Proofs.Ytphgpadpffigjaa.fnExactProductExponents
