/-
  LISTS OF LISTS of numbers: how many numbers, from the headers. Conditions: as each theorem states.
  LISTS OF LISTS of numbers in a law: marked and read back, whatever the rows' lengths. Conditions: as each theorem states.
-/
import Derived.Test.YtphgpadpffigjaaPe08
namespace Go.Proofs.Ytphgpadpffigjaa
open Go.RowKit Go.Sort

theorem totL_map : ∀ O : List Row3, totL O = totR (O.map (·.2.1))
  | [] => rfl
  | e :: O => by simp [totL, totR, totL_map O]
end Go.Proofs.Ytphgpadpffigjaa
namespace Go.Proofs.Ytphgpadpffigjaa
open Go.RowKit Go.Sort

theorem OwnRR.keptB {w w' : World} {base : Nat} {v : Value} {S : List (List Int)} {bs : List Nat} (h : OwnRR w base v S) (hg : GrewB bs w w') (hb : ∀ b ∈ bs, b < base) : OwnRR w' base v S := by
  obtain ⟨O, h1, h2, h3, h4⟩ := h
  have ne : ∀ b, base ≤ b → b ∉ bs := fun b hle q => by have := hb b q; omega
  refine ⟨O, h1, h2.imp id fun ⟨g, cap, a, b, N, f, c, hr, hf⟩ => ⟨g, cap, a, b, N, f, c, hr.of_block (hg.block _ hr.lt (ne g b)), hf⟩, fun e he => ?_, h4⟩
  obtain ⟨cap, N, f, hv, hbb, hN, hr, hf⟩ := h3 e he
  exact ⟨cap, N, f, hv, hbb, hN, hr.of_block (hg.block _ hr.lt (ne _ hbb)), hf⟩
theorem OwnRR.mono {w : World} {base base' : Nat} {v : Value} {S : List (List Int)} (h : OwnRR w base v S) (hb : base' ≤ base) : OwnRR w base' v S := by
  obtain ⟨O, h1, h2, h3, h4⟩ := h
  exact ⟨O, h1, h2.imp id fun ⟨g, cap, a, b, c⟩ => ⟨g, cap, a, Nat.le_trans hb b, c⟩, fun e he => (h3 e he).mono hb, h4⟩
set_option maxRecDepth 8000 in
set_option maxHeartbeats 4000000 in
theorem heldrowsT (g cap : Nat) (O : List Row3) (w : World) (hl : O.length ≤ 1048576) (hlr : ∀ e ∈ O, e.2.1.length ≤ 1048576) (htot : totL O ≤ 67108864) (hh : HeadR w g (markL 1 O)) (hr : ∀ e ∈ markL 1 O, Sl w e.1 e.2.1) :
    Calls Try.prog 17 #[.slice (some ⟨g, 0, none⟩) O.length cap, .int .i64 1] w fun r w' => r = .returned (.int .i64 (1 + totL O)) ∧ w' = w := by
  have HLR := Lib.hid hlr
  have HR : Hid (∀ (q : Nat) (h : q < O.length), w.cell? ⟨g, q, none⟩ = some O[q].1 ∧ Sl w O[q].1 (seqL (1 + totL (O.take q)) O[q].2.1.length)) := Lib.hid (fun q hq => by
    have hq' : q < (markL 1 O).length := by rw [markL_len]; exact hq
    have c := head_at hh hq'
    have s := hr _ (List.getElem_mem hq')
    rw [markL_at 1 O q hq] at c s
    exact ⟨c, s⟩)
  have HTO := Lib.hid htot
  clear hr hlr hh htot
  go_enter Try.func17, Try.ntmps17
  go_wp2_with fail
  go_loop [1, 5] (fun m i => ∃ k : Nat, k ≤ O.length ∧ i = .int .i64 k ∧ m = .int .i64 (1 + (totL (O.take k) : Int))) (fun _ i => O.length - (intOf i).toNat)
  case atStart => exact ⟨0, by omega, rfl, by simp [totL]⟩
  case round =>
    obtain ⟨k, hk, rfl, rfl⟩ := hrel
    by_cases hlt : k < O.length
    · have hlt' : (k : Int) < (O.length : Int) := by omega
      obtain ⟨c0, s0⟩ := HR.out k hlt
      have hbd : totL (O.take k) ≤ 67108864 := Nat.le_trans (totL_sub O k) HTO.out
      have HTT : Hid ((1 + (totL (O.take k) : Int)) + (O[k].2.1.length : Int) = 1 + (totL (O.take (k + 1)) : Int)) := Lib.hid (by rw [totL_take hlt]; omega)
      have HHD := Lib.hid (rheld O[k].1 O[k].2.1.length (1 + (totL (O.take k) : Int)) w s0 (HLR.out _ (List.getElem_mem hlt)) (by omega) (by omega))
      have hnn : ¬ (1 + (totL (O.take k) : Int)) + (O[k].2.1.length : Int) < 0 := by omega
      clear hbd s0
      generalize O[k] = e at *
      obtain ⟨u, l, b⟩ := e
      simp only at c0 hnn
      go_wp2_with fail
      ((with_reducible refine HHD.out.mono ?_); rintro r w2 ⟨rfl, rfl⟩)
      clear HHD
      go_wp2_with fail
      go_round
      case rel => exact ⟨k + 1, by omega, by go_num, by rw [← HTT.out]⟩
      case measure => simp [intOf]; omega
    · obtain rfl : k = O.length := by omega
      have HTT : Hid (totL (O.take O.length) = totL O) := Lib.hid (by rw [List.take_length])
      rw [HTT.out]
      go_wp2_with fail
      go_ret
      exact ⟨rfl, rfl⟩
/-- Marked rows: what reading back gives. -/
def MkdRT (w : World) (base : Nat) (v : Value) (tot : Nat) : Prop :=
  ((∃ a c, v = .slice a 0 c) ∧ tot = 0) ∨ ∃ g cap O, v = .slice (some ⟨g, 0, none⟩) (List.length O) cap ∧ O.length ≤ 1048576 ∧ (∀ e ∈ O, e.2.1.length ≤ 1048576) ∧ totL O ≤ 67108864 ∧ HeadR w g (markL 1 O) ∧ (∀ e ∈ markL 1 O, RowAt w base e) ∧ tot = totL O
theorem MkdRT.below {w w' : World} {base : Nat} {v : Value} {tot : Nat} (h : MkdRT w base v tot) (hb : Below w.heap.size w w') : MkdRT w' base v tot :=
  h.imp id fun ⟨g, cap, O, a, b, c, t, d, e, f⟩ => ⟨g, cap, O, a, b, c, t, head_below d hb, fun x hx => (e x hx).below hb, f⟩
theorem held_noneT (a : Option Addr) (c : Nat) (w : World) :
    Calls Try.prog 17 #[.slice a 0 c, .int .i64 1] w fun r w' => r = .returned (.int .i64 1) ∧ w' = w := by
  go_enter Try.func17, Try.ntmps17
  go_wp2
  refine wp_loop_rounds 1 ?_
  rw [rounds_succ]
  go_wp2
  go_ret
  exact ⟨rfl, rfl⟩
theorem OwnRR.markT {w : World} {base : Nat} {v : Value} {S : List (List Int)} (h : OwnRR w base v S) (hl : S.length ≤ 1048576) (hlr : ∀ r ∈ S, r.length ≤ 1048576) (ht : totR S ≤ 67108864) (hbw : base ≤ w.heap.size) :
    Calls Try.prog 16 #[v, .int .i64 1] w fun r w' => r = .returned (.int .i64 (1 + (totR S : Int))) ∧ MkdRT w' base v (totR S) ∧ Below base w w' := by
  obtain ⟨O, rfl, h2, h3, h4⟩ := h
  have hlr' : ∀ e ∈ O, e.2.1.length ≤ 1048576 := fun e he => hlr _ (List.mem_map_of_mem he)
  have hl' : O.length ≤ 1048576 := by simpa using hl
  rcases h2 with ⟨rfl, a, c, rfl⟩ | ⟨g, cap, rfl, hg, hh⟩
  · exact (mark_none a c w).mono fun r w' ⟨hr, hw⟩ => ⟨by simpa [totR] using hr, .inl ⟨⟨a, c, rfl⟩, rfl⟩, by rw [hw]; exact ⟨rfl, rfl, rfl, Nat.le_refl _, fun _ _ => rfl⟩⟩
  · rw [← totL_map] at ht ⊢
    refine (markrowsT base g cap O w hl' hlr' ht hh h3 h4).mono fun r w' ⟨hr, h5, h6, h7⟩ => ⟨hr, .inr ⟨g, cap, O, rfl, hl', hlr', ht, h5, h6.out, rfl⟩, h7.below (fun b hb => ?_) hbw⟩
    obtain ⟨e, he, rfl⟩ := List.mem_map.1 hb
    obtain ⟨_, _, _, _, hb', _⟩ := h3 e he
    exact hb'
theorem MkdRT.held {w : World} {base : Nat} {v : Value} {tot : Nat} (h : MkdRT w base v tot) :
    Calls Try.prog 17 #[v, .int .i64 1] w fun r w' => r = .returned (.int .i64 (1 + (tot : Int))) ∧ w' = w := by
  rcases h with ⟨⟨a, c, rfl⟩, rfl⟩ | ⟨g, cap, O, rfl, hl, hlr, ht, hh, hr, rfl⟩
  · exact (held_noneT a c w).mono fun r w' ⟨h1, h2⟩ => ⟨by simpa using h1, h2⟩
  · exact heldrowsT g cap O w hl hlr ht hh fun e he => (hr e he).sl
end Go.Proofs.Ytphgpadpffigjaa
