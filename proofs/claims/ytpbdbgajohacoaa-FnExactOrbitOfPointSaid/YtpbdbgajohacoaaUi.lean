/-
  WALKS of the laws on lists of lists of numbers of the call's own: all marked, all read back. Conditions: as each theorem states.
-/
import Derived.Test.YtpbdbgajohacoaaUh
namespace Go.Proofs.Ytpbdbgajohacoaa
open Go.RowKit Go.Sort EchM

/-- Blocks of a list may have changed, no other. -/
structure GrewB (bs : List Nat) (w w' : World) : Prop where
  os : w'.os = w.os
  tape : w'.tape = w.tape
  output : w'.output = w.output
  size : w.heap.size ≤ w'.heap.size
  block : ∀ k, k < w.heap.size → k ∉ bs → w'.heap[k]? = w.heap[k]?
theorem GrewB.refl (bs : List Nat) (w : World) : GrewB bs w w := ⟨rfl, rfl, rfl, Nat.le_refl _, fun _ _ _ => rfl⟩
theorem GrewB.step {bs : List Nat} {w w' w'' : World} {b : Nat} (h : GrewB bs w w') (hb : b ∈ bs) (hg : w'.grownBy w'' (some b)) : GrewB bs w w'' :=
  ⟨hg.os.trans h.os, hg.tape.trans h.tape, hg.output.trans h.output, Nat.le_trans h.size hg.size, fun k hk hn => (hg.block k (Nat.lt_of_lt_of_le hk h.size) (fun e => hn (by simp at e; rw [e]; exact hb))).trans (h.block k hk hn)⟩
theorem GrewB.below {bs : List Nat} {w w' : World} {base : Nat} (h : GrewB bs w w') (hb : ∀ b ∈ bs, base ≤ b) (hw : base ≤ w.heap.size) : Below base w w' :=
  ⟨h.os, h.tape, h.output, h.size, fun k hk => h.block k (by omega) (fun e => by have := hb k e; omega)⟩
theorem head_at {w : World} {g : Nat} {O : List Row3} (h : HeadR w g O) {q : Nat} (hq : q < O.length) : w.cell? ⟨g, q, none⟩ = some O[q].1 := by
  obtain ⟨N, f, hN, hr, hf⟩ := h
  rw [hr.cell (by omega), hf q hq]
theorem head_kept {w w' : World} {g b : Nat} {O : List Row3} (h : HeadR w g O) (hg : w.grownBy w' (some b)) (hne : b ≠ g) : HeadR w' g O := by
  obtain ⟨N, f, hN, hr, hf⟩ := h
  exact ⟨N, f, hN, hr.of_block (hg.block _ hr.lt fun e => hne (by simpa using e.symm)), hf⟩
theorem head_mark {w : World} {g : Nat} {O : List Row3} {k : Int} (h : HeadR w g O) : HeadR w g (markL k O) := by
  obtain ⟨N, f, hN, hr, hf⟩ := h
  refine ⟨N, f, by rw [markL_len]; exact hN, hr, fun q hq => ?_⟩
  have hq' : q < O.length := by rwa [markL_len] at hq
  rw [hf q hq', markL_at k O q hq']
theorem head_below {w w' : World} {g : Nat} {O : List Row3} (h : HeadR w g O) (hb : Below w.heap.size w w') : HeadR w' g O := by
  obtain ⟨N, f, hN, hr, hf⟩ := h
  exact ⟨N, f, hN, erow_below hr hb hr.lt, hf⟩
/-- What is marked up to k. -/
def Mkd (w : World) (base : Nat) (O : List Row3) (k : Nat) : Prop := ∀ (q : Nat) (h : q < O.length), RowAt w base (if q < k then (O[q].1, seqL (1 + totL (O.take q)) O[q].2.1.length, O[q].2.2) else O[q])
theorem Mkd.step {w w' : World} {base : Nat} {O : List Row3} {k : Nat} (h : Mkd w base O k) (hnd : (O.map (·.2.2)).Nodup) (hk : k < O.length) (hg : w.grownBy w' (some O[k].2.2)) (hn : RowAt w' base (O[k].1, seqL (1 + totL (O.take k)) O[k].2.1.length, O[k].2.2)) : Mkd w' base O (k + 1) := fun q hq => by
  by_cases e : q = k
  · subst e; rw [if_pos (by omega)]; exact hn
  · have hb : O[q].2.2 ≠ O[k].2.2 := fun e2 => e (by
      have h1 : (O.map (·.2.2))[q]'(by simpa using hq) = (O.map (·.2.2))[k]'(by simpa using hk) := by simpa using e2
      exact (List.getElem_inj hnd).1 h1)
    have := h q hq
    by_cases hlt : q < k
    · rw [if_pos hlt] at this
      rw [if_pos (by omega)]
      exact this.kept hg hb
    · rw [if_neg hlt] at this
      rw [if_neg (by omega)]
      exact this.kept hg hb
theorem Mkd.done {w : World} {base : Nat} {O : List Row3} (h : Mkd w base O O.length) : ∀ e ∈ markL 1 O, RowAt w base e := fun e he => by
  obtain ⟨q, hq, rfl⟩ := List.getElem_of_mem he
  have hq' : q < O.length := by rwa [markL_len] at hq
  have := h q hq'
  rw [if_pos hq'] at this
  rw [markL_at 1 O q hq']
  exact this

set_option maxRecDepth 8000 in
set_option maxHeartbeats 4000000 in
theorem markrows (base g cap : Nat) (O : List Row3) (w : World) (hl : O.length ≤ 1048576) (hlr : ∀ e ∈ O, e.2.1.length ≤ 64) (hh : HeadR w g O) (hr : ∀ e ∈ O, RowAt w base e) (hnd : (O.map (·.2.2)).Nodup) :
    Calls Try.prog 28 #[.slice (some ⟨g, 0, none⟩) O.length cap, .int .i64 1] w fun r w' => r = .returned (.int .i64 (1 + totL O)) ∧ HeadR w' g (markL 1 O) ∧ Hid (∀ e ∈ markL 1 O, RowAt w' base e) ∧ GrewB (O.map (·.2.2)) w w' := by
  have HNG : Hid (∀ e ∈ O, e.2.2 ≠ g) := Lib.hid (fun e he => head_row hh (hr e he))
  have HND := Lib.hid hnd
  have HLR := Lib.hid hlr
  have HM0 : Hid (Mkd w base O 0) := Lib.hid (fun q hq => by rw [if_neg (by omega)]; exact hr _ (List.getElem_mem hq))
  clear hr hnd hlr
  go_enter Try.func28, Try.ntmps28
  go_wp2_with fail
  go_loopw [1, 5] (fun m i wr => ∃ k : Nat, k ≤ O.length ∧ i = .int .i64 k ∧ m = .int .i64 (1 + (totL (O.take k) : Int)) ∧ HeadR wr g O ∧ Hid (Mkd wr base O k) ∧ GrewB (O.map (·.2.2)) w wr) (fun _ i _ => O.length - (intOf i).toNat)
  case atStart => exact ⟨0, by omega, rfl, by simp [totL], hh, HM0, GrewB.refl _ _⟩
  case round =>
    clear hh HM0
    obtain ⟨k, hk, rfl, rfl, hH, HM, hG⟩ := hrel
    by_cases hlt : k < O.length
    · have hlt' : (k : Int) < (O.length : Int) := by omega
      have c0 := head_at hH hlt
      have hrk : RowAt wr base O[k] := by have := HM.out k hlt; rwa [if_neg (by omega)] at this
      have hbd : totL (O.take k) ≤ 64 * (O.take k).length := totL_bound fun e he => HLR.out e (List.mem_of_mem_take he)
      have hbl : (O.take k).length ≤ 1048576 := by rw [List.length_take]; omega
      have HMK := Lib.hid (rmark base O[k] (1 + (totL (O.take k) : Int)) wr hrk (Nat.le_trans (HLR.out _ (List.getElem_mem hlt)) (by decide)) (by omega) (by omega))
      have HTT : Hid ((1 + (totL (O.take k) : Int)) + (O[k].2.1.length : Int) = 1 + (totL (O.take (k + 1)) : Int)) := Lib.hid (by rw [totL_take hlt]; omega)
      have HBM : Hid (O[k].2.2 ∈ O.map (·.2.2)) := Lib.hid (List.mem_map_of_mem (List.getElem_mem hlt))
      have HNK := Lib.hid (HNG.out _ (List.getElem_mem hlt))
      have HST := Lib.hid (fun w' hg hn => Mkd.step (w' := w') HM.out HND.out hlt hg hn)
      clear hbd hbl hrk
      generalize O[k] = e at *
      obtain ⟨u, l, b⟩ := e
      simp only at c0
      go_wp2_with fail
      ((with_reducible refine HMK.out.mono ?_); rintro r w2 ⟨rfl, hrow, hg⟩)
      have HMN := Lib.hid (HST.out _ hg hrow)
      have hH2 := head_kept hH hg HNK.out
      have hG2 := hG.step HBM.out hg
      clear HMK HST hrow hg hH hG c0
      go_wp2_with fail
      go_roundw
      case rel => exact ⟨k + 1, by omega, by go_num, by rw [← HTT.out], hH2, HMN, hG2⟩
      case measure => simp [intOf]; omega
    · obtain rfl : k = O.length := by omega
      have HDN := Lib.hid HM.out.done
      have hHM := head_mark (k := 1) hH
      have HTT : Hid (totL (O.take O.length) = totL O) := Lib.hid (by rw [List.take_length])
      rw [HTT.out]
      clear hH HM
      go_wp2_with fail
      go_ret
      exact ⟨rfl, hHM, HDN, hG⟩

set_option maxHeartbeats 1000000 in
theorem rheld (u : Value) (n : Nat) (k0 : Int) (w : World) (hS : Sl w u (seqL k0 n)) (hn : n ≤ 1048576) (h0 : 0 ≤ k0) (h1 : k0 ≤ 1000000000) :
    Calls Try.prog 65 #[u, .int .i64 k0] w fun r w' => r = .returned (.int .i64 (k0 + n)) ∧ w' = w := by
  obtain ⟨a, cap, rfl, hc⟩ := hS
  have HSQ := Lib.hid (seqL_at k0 n)
  have hsl := seqL_len k0 n
  have HL := Lib.hid hsl
  rw [hsl]
  clear hsl
  go_enter Try.func65, Try.ntmps65
  go_wp2_with fail
  go_loop [1, 5] (fun m i => ∃ k : Nat, k ≤ n ∧ i = .int .i64 k ∧ m = .int .i64 (k0 + k)) (fun _ i => n - (intOf i).toNat)
  case atStart => exact ⟨0, by omega, rfl, by simp⟩
  case round =>
    obtain ⟨k, hk, rfl, rfl⟩ := hrel
    by_cases hlt : k < n
    · have hlt' : (k : Int) < (n : Int) := by omega
      have hks : k < (seqL k0 n).length := by rw [HL.out]; exact hlt
      obtain ⟨b, off, rfl, hbb, hT⟩ : ∃ b off, a = some ⟨b, off, none⟩ ∧ b < w.heap.size ∧ Cs w b off (seqL k0 n) := by
        rcases hc with h | h
        · rw [h] at hks; simp at hks
        · exact h
      have c0 := hT k hks
      rw [HSQ.out k hks] at c0
      have hne : (k0 + (k : Int) != k0 + (k : Int)) = false := by simp
      clear hks
      go_wp2_with fail
      go_round
      case rel => exact ⟨k + 1, by omega, by go_num, by go_num⟩
      case measure => simp [intOf]; omega
    · obtain rfl : k = n := by omega
      go_wp2_with fail
      go_ret
      exact ⟨rfl, rfl⟩

set_option maxRecDepth 8000 in
set_option maxHeartbeats 4000000 in
theorem heldrows (g cap : Nat) (O : List Row3) (w : World) (hl : O.length ≤ 1048576) (hlr : ∀ e ∈ O, e.2.1.length ≤ 64) (hh : HeadR w g (markL 1 O)) (hr : ∀ e ∈ markL 1 O, Sl w e.1 e.2.1) :
    Calls Try.prog 29 #[.slice (some ⟨g, 0, none⟩) O.length cap, .int .i64 1] w fun r w' => r = .returned (.int .i64 (1 + totL O)) ∧ w' = w := by
  have HLR := Lib.hid hlr
  have HR : Hid (∀ (q : Nat) (h : q < O.length), w.cell? ⟨g, q, none⟩ = some O[q].1 ∧ Sl w O[q].1 (seqL (1 + totL (O.take q)) O[q].2.1.length)) := Lib.hid (fun q hq => by
    have hq' : q < (markL 1 O).length := by rw [markL_len]; exact hq
    have c := head_at hh hq'
    have s := hr _ (List.getElem_mem hq')
    rw [markL_at 1 O q hq] at c s
    exact ⟨c, s⟩)
  clear hr hlr hh
  go_enter Try.func29, Try.ntmps29
  go_wp2_with fail
  go_loop [1, 5] (fun m i => ∃ k : Nat, k ≤ O.length ∧ i = .int .i64 k ∧ m = .int .i64 (1 + (totL (O.take k) : Int))) (fun _ i => O.length - (intOf i).toNat)
  case atStart => exact ⟨0, by omega, rfl, by simp [totL]⟩
  case round =>
    obtain ⟨k, hk, rfl, rfl⟩ := hrel
    by_cases hlt : k < O.length
    · have hlt' : (k : Int) < (O.length : Int) := by omega
      obtain ⟨c0, s0⟩ := HR.out k hlt
      have hbd : totL (O.take k) ≤ 64 * (O.take k).length := totL_bound fun e he => HLR.out e (List.mem_of_mem_take he)
      have hbl : (O.take k).length ≤ 1048576 := by rw [List.length_take]; omega
      have HTT : Hid ((1 + (totL (O.take k) : Int)) + (O[k].2.1.length : Int) = 1 + (totL (O.take (k + 1)) : Int)) := Lib.hid (by rw [totL_take hlt]; omega)
      have HHD := Lib.hid (rheld O[k].1 O[k].2.1.length (1 + (totL (O.take k) : Int)) w s0 (Nat.le_trans (HLR.out _ (List.getElem_mem hlt)) (by decide)) (by omega) (by omega))
      have hnn : ¬ (1 + (totL (O.take k) : Int)) + (O[k].2.1.length : Int) < 0 := by omega
      clear hbd hbl s0
      generalize O[k] = e at *
      obtain ⟨u, l, b⟩ := e
      simp only at c0 hnn
      go_wp2_with fail
      ((with_reducible refine HHD.out.mono ?_); rintro r w2 ⟨rfl, rfl⟩)
      clear HHD
      go_wp2_with fail
      go_round
      case rel => exact ⟨k + 1, by omega, by go_num, by rw [← HTT.out]⟩
      case measure => simp [intOf]; omega
    · obtain rfl : k = O.length := by omega
      have HTT : Hid (totL (O.take O.length) = totL O) := Lib.hid (by rw [List.take_length])
      rw [HTT.out]
      go_wp2_with fail
      go_ret
      exact ⟨rfl, rfl⟩
end Go.Proofs.Ytpbdbgajohacoaa
