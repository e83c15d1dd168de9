/-
  'laws.FnExactVandermondePoly' returns true for every input, and each argument reads afterwards as it read before. Conditions: none.
-/
import Derived.Test.YtphgpadpffigjaaQb
import Derived.Test.YtphgpadpffigjaaLd
namespace Go.Proofs.Ytphgpadpffigjaa.fnExactVandermondePoly
open Go.ChangeShapes Go.WideShapes Go.ChangeAt Go.RowKit Go.Joins Go.Deep

set_option maxRecDepth 100000 in
theorem lifted (os : Os) (started : os.Started) (H : Type) (enc : TypeId × Value → H) :
    ReturnsInHanded {} Try.checked os 7 .any (Rows.fnExactVandermondePolySpec.pre6 enc Try.prog Try.f7 Rows.fnExactVandermondePolyRow.domain false) (Rows.fnExactVandermondePolySpec.post enc Try.prog Try.f7 false true false false) := by
  refine returnsInHanded_of_change (C := Try.checked) mown started (by kernel_rfl) Try.func7
    (ChangeSpec.witness6 (enc := enc) (C := Try.checked) false ⟨#[], #[.int .i64 0, .int .i64 0], []⟩ 8 (by kernel_rfl) (by kernel_rfl) (by kernel_rfl) (by kernel_rfl)) ?_
  intro W base args ds gs before hval0 hW hcnd _
  have hval : ∀ (j : Nat) t v, Try.f7.params[j]? = some t → args[j]? = some v → Value.okWide Try.prog W .any base t v := hval0
  have hW' := hW
  obtain ⟨p, q, hA0, hV, rfl, _, _⟩ := hW
  have hA : DataW.TrodAll enc Try.prog W 0 (fun _ => true) true Try.f7.params.toList args.toList ds p := hA0
  rw [Try.params7] at hA hval
  obtain ⟨v0, vs0, d0, ds0, p0, q0, hargs, rfl, rfl, h0, r0⟩ := trodAll_cons hA
  obtain ⟨v1, vs1, d1, ds1, p1, q1, rfl, rfl, rfl, h1, r1⟩ := trodAll_cons r0
  obtain ⟨rfl, rfl, rfl⟩ := trodAll_nil r1
  obtain rfl : args = #[v0, v1] := by cases args; simp_all
  obtain ⟨rfl, rfl⟩ := trodVars_none hV
  obtain ⟨a0, rfl, rfl, rfl, w0⟩ := open_int Try.underlying2 (hval 0 2 v0 rfl rfl) h0
  obtain ⟨a1, rfl, rfl, rfl, w1⟩ := open_int Try.underlying2 (hval 1 2 v1 rfl rfl) h1
  clear hA0 hval0 hcnd
  simp only [List.append_nil] at hW'
  refine (law_vn a0 a1 W ).mono fun e W' ⟨he, hg⟩ => ?_
  subst he
  exact ⟨_, rfl, mrow_end (pa := (([] : List MemPlace) ++ (([] : List MemPlace) ++ []))) (pv := []) hW' hg (fun _ _ _ => (trodAll_cons_mk (shut_bool Try.underlying4 _) trodAll_mk0))
    (trodAll_cons_mk (shut_int Try.underlying2 w0) (trodAll_cons_mk (shut_int Try.underlying2 w1) trodAll_mk0)) rfl (fun p h => by simp at h)⟩

theorem jmay : Try.pinned.checked.prog.mayEnter = true := by kernel_rfl
theorem jlift : (Rows.fnExactVandermondePolyRow.lifted == Try.pinned.checked.prog.liftsFinal) = true := by kernel_rfl
theorem jmake : (Try.pinned.checked.prog.make == some Rows.fnExactVandermondePolyRow.make) = true := by kernel_rfl
theorem junf : (Rows.fnExactVandermondePolyRow.unfollowed == Try.pinned.checked.prog.unfollowed 7) = true := by kernel_rfl
theorem jrec : (Rows.fnExactVandermondePolyRow.recurses == Try.pinned.checked.prog.recurses 7) = true := by kernel_rfl
theorem jin : (Rows.fnExactVandermondePolyRow.inPlace == Try.pinned.checked.prog.inPlace 7) = true := by kernel_rfl
theorem jnam : (Rows.fnExactVandermondePolyRow.named == Try.pinned.checked.prog.varsNamed 7) = true := by kernel_rfl
theorem joined : joinedFacts Try.pinned.checked.prog 7 Try.f7 Rows.fnExactVandermondePolySpec Rows.fnExactVandermondePolyRow = true := by
  unfold joinedFacts
  rw [jmay, jlift, jmake, junf, jrec, jin, jnam]
  kernel_rfl

theorem over : Rows.fnExactVandermondePolyRow.holds Try.pinned (OpenSpec.ofChange Rows.fnExactVandermondePolySpec) :=
  OpenClaim.holds_of_wide 7 Try.f7 rfl rfl rfl rfl rfl rfl rfl ⟨rfl, rfl, rfl, rfl, rfl⟩ rfl rfl rfl rfl rfl (by kernel_rfl) Try.func7 joined
    (of_decide_eq_true (by kernel_rfl)) (by unfold Func.isWrapper; first | (rw [if_pos (by decide +kernel)]; kernel_rfl) | (rw [if_neg (by decide +kernel)]; exact ⟨rfl, rfl⟩))
    (fun os started H enc _ => lifted os started H enc)

/-- The statement. -/
theorem proved : Rows.FnExactVandermondePolySaid :=
  over
#print axioms proved
end Go.Proofs.Ytphgpadpffigjaa.fnExactVandermondePoly
