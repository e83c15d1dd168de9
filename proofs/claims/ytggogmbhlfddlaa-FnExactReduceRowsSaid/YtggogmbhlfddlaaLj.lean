/-
  LISTS OF LISTS of numbers as a law's own copy: kept, marked; an answer beside them. Conditions: as each theorem states.
-/
import Derived.Test.YtggogmbhlfddlaaLg
import Derived.Test.YtggogmbhlfddlaaLi
namespace Go.Proofs.Ytggogmbhlfddlaa
open Go.RowKit Go.Sort

/-- Lists of lists of numbers of the call's own, in blocks below a bound. -/
def OwnRT (w : World) (base top : Nat) (v : Value) (S : List (List Int)) : Prop :=
  ∃ O : List Row3, O.map (·.2.1) = S ∧ ((O = [] ∧ ∃ a c, v = .slice a 0 c) ∨ ∃ g cap, v = .slice (some ⟨g, 0, none⟩) O.length cap ∧ base ≤ g ∧ HeadR w g O) ∧ (∀ e ∈ O, RowAt w base e ∧ e.2.2 < top) ∧ (O.map (·.2.2)).Nodup
theorem OwnRR.top {w : World} {base : Nat} {v : Value} {S : List (List Int)} (h : OwnRR w base v S) : OwnRT w base w.heap.size v S := by
  obtain ⟨O, h1, h2, h3, h4⟩ := h
  exact ⟨O, h1, h2, fun e he => ⟨h3 e he, (h3 e he).lt⟩, h4⟩
theorem OwnRT.rr {w : World} {base top : Nat} {v : Value} {S : List (List Int)} (h : OwnRT w base top v S) : OwnRR w base v S := by
  obtain ⟨O, h1, h2, h3, h4⟩ := h
  exact ⟨O, h1, h2, fun e he => (h3 e he).1, h4⟩
theorem OwnRT.below {w w' : World} {base top : Nat} {v : Value} {S : List (List Int)} (h : OwnRT w base top v S) (hb : Below w.heap.size w w') : OwnRT w' base top v S := by
  obtain ⟨O, h1, h2, h3, h4⟩ := h
  exact ⟨O, h1, h2.imp id fun ⟨g, cap, a, b, c⟩ => ⟨g, cap, a, b, head_below c hb⟩, fun e he => ⟨(h3 e he).1.below hb, (h3 e he).2⟩, h4⟩
theorem totL_map : ∀ O : List Row3, totL O = totR (O.map (·.2.1))
  | [] => rfl
  | e :: O => by simp [totL, totR, totL_map O]
theorem OwnV.keptB {w w' : World} {base : Nat} {v : Value} {S : List Int} {bs : List Nat} (h : OwnV w base v S) (hg : GrewB bs w w') (hb : ∀ b ∈ bs, b < base) : OwnV w' base v S := by
  refine h.imp id fun ⟨b, cap, N, f, hv, hbb, hN, hr, hf⟩ => ⟨b, cap, N, f, hv, hbb, hN, hr.of_block (hg.block _ hr.lt fun q => ?_), hf⟩
  have h1 : b < base := hb _ q
  have h2 : base ≤ b := hbb
  omega
/-- A mark in a list of lists leaves an answer that came behind. -/
theorem OwnRT.mark {w : World} {base top : Nat} {v v5 : Value} {L : List (List Int)} {S : List Int} (h : OwnRT w base top v L) (hl : L.length ≤ 1048576) (ht : totR L ≤ 67108864) (hlr : ∀ r ∈ L, r.length ≤ 1048576) (hbw : base ≤ w.heap.size) (h5 : OwnV w top v5 S) :
    Calls Try.prog 17 #[v, .int .i64 1] w fun r w' => r = .returned (.int .i64 (1 + (totR L : Int))) ∧ OwnV w' top v5 S ∧ Below base w w' := by
  obtain ⟨O, rfl, h2, h3, h4⟩ := h
  have hlr' : ∀ e ∈ O, e.2.1.length ≤ 1048576 := fun e he => hlr _ (List.mem_map_of_mem he)
  have hl' : O.length ≤ 1048576 := by simpa using hl
  rcases h2 with ⟨rfl, a, c, rfl⟩ | ⟨g, cap, rfl, hg, hh⟩
  · exact (mark_none a c w).mono fun r w' ⟨hr, hw⟩ => ⟨by simpa [totR] using hr, by rw [hw]; exact h5, by rw [hw]; exact ⟨rfl, rfl, rfl, Nat.le_refl _, fun _ _ => rfl⟩⟩
  · rw [← totL_map] at ht ⊢
    refine (markrowsT base g cap O w hl' hlr' ht hh (fun e he => (h3 e he).1) h4).mono fun r w' ⟨hr, _, _, h7⟩ => ⟨hr, h5.keptB h7 (fun b hb => ?_), h7.below (fun b hb => ?_) hbw⟩
    · obtain ⟨e, he, rfl⟩ := List.mem_map.1 hb
      exact (h3 e he).2
    · obtain ⟨e, he, rfl⟩ := List.mem_map.1 hb
      obtain ⟨_, _, _, _, hb', _⟩ := (h3 e he).1
      exact hb'
end Go.Proofs.Ytggogmbhlfddlaa
