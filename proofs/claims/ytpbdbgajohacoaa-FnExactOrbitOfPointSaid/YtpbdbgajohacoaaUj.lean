/-
  LISTS OF LISTS of numbers of the call's own, as an answer: kept, marked, read back. Conditions: as each theorem states.
-/
import Derived.Test.YtpbdbgajohacoaaUi
namespace Go.Proofs.Ytpbdbgajohacoaa
open Go.RowKit Go.Sort EchM

/-- Lists of lists of numbers of the call's own: each in a block of its own. -/
def OwnRR (w : World) (base : Nat) (v : Value) (S : List (List Int)) : Prop :=
  ∃ O : List Row3, O.map (·.2.1) = S ∧ ((O = [] ∧ ∃ a c, v = .slice a 0 c) ∨ ∃ g cap, v = .slice (some ⟨g, 0, none⟩) O.length cap ∧ base ≤ g ∧ HeadR w g O) ∧ (∀ e ∈ O, RowAt w base e) ∧ (O.map (·.2.2)).Nodup
theorem OwnRR.none (w : World) (base : Nat) : OwnRR w base (.slice none 0 0) [] := ⟨[], rfl, .inl ⟨rfl, _, _, rfl⟩, by simp, by simp⟩
theorem OwnRR.below {w w' : World} {base : Nat} {v : Value} {S : List (List Int)} (h : OwnRR w base v S) (hb : Below w.heap.size w w') : OwnRR w' base v S := by
  obtain ⟨O, h1, h2, h3, h4⟩ := h
  exact ⟨O, h1, h2.imp id fun ⟨g, cap, a, b, c⟩ => ⟨g, cap, a, b, head_below c hb⟩, fun e he => (h3 e he).below hb, h4⟩
theorem OwnRR.kept {w w' : World} {base b0 : Nat} {v : Value} {S : List (List Int)} (h : OwnRR w base v S) (hg : w.grownBy w' (some b0)) (hlt : b0 < base) : OwnRR w' base v S := by
  obtain ⟨O, h1, h2, h3, h4⟩ := h
  refine ⟨O, h1, h2.imp id fun ⟨g, cap, a, b, c⟩ => ⟨g, cap, a, b, head_kept c hg (by omega)⟩, fun e he => (h3 e he).kept hg ?_, h4⟩
  obtain ⟨_, _, _, _, hb, _⟩ := h3 e he
  omega
theorem OwnRR.slR {w : World} {base : Nat} {v : Value} {S : List (List Int)} (h : OwnRR w base v S) : SlR w v S := by
  obtain ⟨O, rfl, h2, h3, h4⟩ := h
  rcases h2 with ⟨rfl, a, c, rfl⟩ | ⟨g, cap, rfl, _, hh⟩
  · exact ⟨a, c, rfl, .inl rfl⟩
  · have hlt : g < w.heap.size := by obtain ⟨_, _, _, hr, _⟩ := hh; exact hr.lt
    refine ⟨_, cap, by rw [List.length_map], .inr ⟨g, 0, rfl, hlt, fun k hk => ?_⟩⟩
    have hk' : k < O.length := by simpa using hk
    exact ⟨O[k].1, by rw [Nat.zero_add]; exact head_at hh hk', by rw [List.getElem_map]; exact (h3 _ (List.getElem_mem hk')).sl⟩
theorem OwnRR.shape {w : World} {base : Nat} {v : Value} {S : List (List Int)} (h : OwnRR w base v S) : ∃ a c, v = .slice a S.length c := by
  obtain ⟨a, c, hv, _⟩ := h.slR; exact ⟨a, c, hv⟩
/-- Marked rows: what reading back gives. -/
def MkdRR (w : World) (base : Nat) (v : Value) (tot : Nat) : Prop :=
  ((∃ a c, v = .slice a 0 c) ∧ tot = 0) ∨ ∃ g cap O, v = .slice (some ⟨g, 0, none⟩) (List.length O) cap ∧ O.length ≤ 1048576 ∧ (∀ e ∈ O, e.2.1.length ≤ 64) ∧ HeadR w g (markL 1 O) ∧ (∀ e ∈ markL 1 O, RowAt w base e) ∧ tot = totL O
theorem MkdRR.below {w w' : World} {base : Nat} {v : Value} {tot : Nat} (h : MkdRR w base v tot) (hb : Below w.heap.size w w') : MkdRR w' base v tot :=
  h.imp id fun ⟨g, cap, O, a, b, c, d, e, f⟩ => ⟨g, cap, O, a, b, c, head_below d hb, fun x hx => (e x hx).below hb, f⟩
theorem mark_none (a : Option Addr) (c : Nat) (w : World) :
    Calls Try.prog 28 #[.slice a 0 c, .int .i64 1] w fun r w' => r = .returned (.int .i64 1) ∧ w' = w := by
  go_enter Try.func28, Try.ntmps28
  go_wp2
  refine wp_loop_rounds 1 ?_
  rw [rounds_succ]
  go_wp2
  go_ret
  exact ⟨rfl, rfl⟩
theorem held_none (a : Option Addr) (c : Nat) (w : World) :
    Calls Try.prog 29 #[.slice a 0 c, .int .i64 1] w fun r w' => r = .returned (.int .i64 1) ∧ w' = w := by
  go_enter Try.func29, Try.ntmps29
  go_wp2
  refine wp_loop_rounds 1 ?_
  rw [rounds_succ]
  go_wp2
  go_ret
  exact ⟨rfl, rfl⟩
theorem OwnRR.mark {w : World} {base : Nat} {v : Value} {S : List (List Int)} (h : OwnRR w base v S) (hl : S.length ≤ 1048576) (hlr : ∀ r ∈ S, r.length ≤ 64) (hbw : base ≤ w.heap.size) :
    ∃ tot : Nat, tot ≤ 64 * 1048576 ∧ Calls Try.prog 28 #[v, .int .i64 1] w fun r w' => r = .returned (.int .i64 (1 + (tot : Int))) ∧ MkdRR w' base v tot ∧ Below base w w' := by
  obtain ⟨O, rfl, h2, h3, h4⟩ := h
  have hlr' : ∀ e ∈ O, e.2.1.length ≤ 64 := fun e he => hlr _ (List.mem_map_of_mem he)
  have hl' : O.length ≤ 1048576 := by simpa using hl
  rcases h2 with ⟨rfl, a, c, rfl⟩ | ⟨g, cap, rfl, hg, hh⟩
  · exact ⟨0, by omega, (mark_none a c w).mono fun r w' ⟨hr, hw⟩ => ⟨by simpa using hr, .inl ⟨⟨a, c, rfl⟩, rfl⟩, by rw [hw]; exact ⟨rfl, rfl, rfl, Nat.le_refl _, fun _ _ => rfl⟩⟩⟩
  · refine ⟨totL O, Nat.le_trans (totL_bound hlr') (Nat.mul_le_mul_left _ hl'), (markrows base g cap O w hl' hlr' hh h3 h4).mono fun r w' ⟨hr, h5, h6, h7⟩ => ⟨hr, .inr ⟨g, cap, O, rfl, hl', hlr', h5, h6.out, rfl⟩, h7.below (fun b hb => ?_) hbw⟩⟩
    obtain ⟨e, he, rfl⟩ := List.mem_map.1 hb
    obtain ⟨_, _, _, _, hb', _⟩ := h3 e he
    exact hb'
theorem MkdRR.held {w : World} {base : Nat} {v : Value} {tot : Nat} (h : MkdRR w base v tot) :
    Calls Try.prog 29 #[v, .int .i64 1] w fun r w' => r = .returned (.int .i64 (1 + (tot : Int))) ∧ w' = w := by
  rcases h with ⟨⟨a, c, rfl⟩, rfl⟩ | ⟨g, cap, O, rfl, hl, hlr, hh, hr, rfl⟩
  · exact (held_none a c w).mono fun r w' ⟨h1, h2⟩ => ⟨by simpa using h1, h2⟩
  · exact heldrows g cap O w hl hlr hh fun e he => (hr e he).sl
end Go.Proofs.Ytpbdbgajohacoaa
