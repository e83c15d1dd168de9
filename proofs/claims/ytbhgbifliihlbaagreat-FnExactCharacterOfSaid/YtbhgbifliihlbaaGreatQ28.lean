/-
  'laws.FnExactCharacterOf' returns true for every input, and each argument reads afterwards as it read before. Conditions: none.
-/
import Derived.Test.YtbhgbifliihlbaaGreatQ26
import Derived.Test.YtbhgbifliihlbaaGreatQ27
namespace Go.Proofs.YtbhgbifliihlbaaGreat.fnExactCharacterOf
open Go.ChangeShapes Go.WideShapes Go.ChangeAt Go.RowKit Go.Joins Go.Deep

set_option maxRecDepth 100000 in
theorem lifted (os : Os) (started : os.Started) (H : Type) (enc : TypeId × Value → H) :
    ReturnsInHanded {} Tryz.checked os 3 .any (Rows.fnExactCharacterOfSpec.pre6 enc Tryz.prog Tryz.f3 Rows.fnExactCharacterOfRow.domain false) (Rows.fnExactCharacterOfSpec.post enc Tryz.prog Tryz.f3 false true false false) := by
  refine returnsInHanded_of_change (C := Tryz.checked) mown started (by kernel_rfl) Tryz.func3
    (ChangeSpec.witness6 (enc := enc) (C := Tryz.checked) false ⟨#[], #[.agg #[.int .i64 0, .int .i64 0, .slice none 0 0], .agg #[.int .i64 0, .int .i64 0, .slice none 0 0]], []⟩ 8 (by kernel_rfl) (by kernel_rfl) (by kernel_rfl) (by kernel_rfl)) ?_
  intro W base args ds gs before hval0 hW hcnd _
  have hval : ∀ (j : Nat) t v, Tryz.f3.params[j]? = some t → args[j]? = some v → Value.okWide Tryz.prog W .any base t v := hval0
  have hW' := hW
  obtain ⟨p, q, hA0, hV, rfl, _, _⟩ := hW
  have hA : DataW.TrodAll enc Tryz.prog W 0 (fun _ => true) true Tryz.f3.params.toList args.toList ds p := hA0
  rw [Tryz.params3] at hA hval
  obtain ⟨v0, vs0, d0, ds0, p0, q0, hargs, rfl, rfl, h0, r0⟩ := trodAll_cons hA
  obtain ⟨v1, vs1, d1, ds1, p1, q1, rfl, rfl, rfl, h1, r1⟩ := trodAll_cons r0
  obtain ⟨rfl, rfl, rfl⟩ := trodAll_nil r1
  obtain rfl : args = #[v0, v1] := by cases args; simp_all
  obtain ⟨rfl, rfl⟩ := trodVars_none hV
  have hlt0 : ∀ x ∈ p0, x.block < W.heap.size := fun x hx => hW'.lt x (by simp [hx])
  have hlt1 : ∀ x ∈ p1, x.block < W.heap.size := fun x hx => hW'.lt x (by simp [hx])
  obtain ⟨a0, e0, sv0, L0, rfl, hS0, hby0, hn0⟩ := open_group (hval 0 24 v0 rfl rfl) h0
  obtain ⟨a1, e1, sv1, ts1, rfl, hS1, hby1, hn1⟩ := open_poly (hval 1 27 v1 rfl rfl) h1
  clear hA0 hval0 hcnd
  simp only [List.append_nil] at hW'
  refine (law_Ch a0 e0 sv0 L0 a1 e1 sv1 ts1 W hn0 hS0 hby0 hn1 hS1 hby1).mono fun e W' ⟨he, hg⟩ => ?_
  subst he
  exact ⟨_, rfl, mrow_end (pa := (p0 ++ (p1 ++ []))) (pv := []) hW' hg (fun _ _ _ => (trodAll_cons_mk (shut_bool Tryz.underlying4 _) trodAll_mk0))
    (trodAll_cons_mk (Below.trod mlaidOut readGrp.1 readGrp.2 h0 hg hlt0) (trodAll_cons_mk (Below.trod mlaidOut readPoly.1 readPoly.2 h1 hg hlt1) trodAll_mk0)) rfl (fun p h => .inl (by simpa using h))⟩

theorem over : Rows.fnExactCharacterOfRow.holds Tryz.pinned (OpenSpec.ofChange Rows.fnExactCharacterOfSpec) :=
  OpenClaim.holds_of_wide 3 Tryz.f3 rfl rfl rfl rfl rfl rfl rfl ⟨rfl, rfl, rfl, rfl, rfl⟩ rfl rfl rfl rfl rfl (by kernel_rfl) Tryz.func3 (by kernel_rfl)
    (of_decide_eq_true (by kernel_rfl)) (by unfold Func.isWrapper; first | (rw [if_pos (by decide +kernel)]; kernel_rfl) | (rw [if_neg (by decide +kernel)]; exact ⟨rfl, rfl⟩))
    (fun os started H enc _ => lifted os started H enc)

/-- The statement. -/
theorem proved : Rows.FnExactCharacterOfSaid :=
  over
#print axioms proved
end Go.Proofs.YtbhgbifliihlbaaGreat.fnExactCharacterOf
