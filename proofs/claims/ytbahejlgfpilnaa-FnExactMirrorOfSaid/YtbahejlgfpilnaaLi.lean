/-
  LISTS OF LISTS of numbers in a law: marked. Conditions: as each theorem states.
-/
import Derived.Test.YtbahejlgfpilnaaLf
namespace Go.Proofs.Ytbahejlgfpilnaa
open Go.RowKit Go.Sort

/-- What a mark makes of the rows. -/
def markL : Int → List Row3 → List Row3
  | _, [] => []
  | k, e :: O => (e.1, seqL k e.2.1.length, e.2.2) :: markL (k + e.2.1.length) O
def totL : List Row3 → Nat
  | [] => 0
  | e :: O => e.2.1.length + totL O
theorem markL_len : ∀ (k : Int) (O : List Row3), (markL k O).length = O.length
  | _, [] => rfl
  | k, e :: O => by simp [markL, markL_len _ O]
theorem markL_at : ∀ (k : Int) (O : List Row3) (q : Nat) (h : q < O.length), (markL k O)[q]'(by rw [markL_len]; exact h) = (O[q].1, seqL (k + totL (O.take q)) O[q].2.1.length, O[q].2.2)
  | _, [], _, h => by simp at h
  | k, e :: O, 0, _ => by simp [markL, totL]
  | k, e :: O, q + 1, h => by
    simp only [markL, List.getElem_cons_succ, List.take_succ_cons, totL]
    rw [markL_at _ O q (by simpa using h)]
    congr 3
    simp
    omega
theorem totL_take {O : List Row3} {q : Nat} (h : q < O.length) : totL (O.take (q + 1)) = totL (O.take q) + O[q].2.1.length := by
  induction O generalizing q with
  | nil => simp at h
  | cons e O ih =>
    cases q with
    | zero => simp [totL]
    | succ q =>
      simp only [List.take_succ_cons, totL, List.getElem_cons_succ]
      rw [ih (by simpa using h)]
      omega
theorem totL_bound {n : Nat} : ∀ {O : List Row3}, (∀ e ∈ O, e.2.1.length ≤ n) → totL O ≤ n * O.length
  | [], _ => by simp [totL]
  | e :: O, h => by
    have h1 := h e (by simp)
    have h2 := totL_bound (n := n) (O := O) fun x hx => h x (by simp [hx])
    simp only [totL, List.length_cons, Nat.mul_succ]
    omega
theorem totL_sub : ∀ (O : List Row3) (k : Nat), totL (O.take k) ≤ totL O
  | [], k => by simp [totL]
  | e :: O, 0 => by simp [totL]
  | e :: O, k + 1 => by
    simp only [List.take_succ_cons, totL]
    have := totL_sub O k
    omega
/-- Blocks of a list may have changed, no other. -/
structure GrewB (bs : List Nat) (w w' : World) : Prop where
  os : w'.os = w.os
  tape : w'.tape = w.tape
  output : w'.output = w.output
  size : w.heap.size ≤ w'.heap.size
  block : ∀ k, k < w.heap.size → k ∉ bs → w'.heap[k]? = w.heap[k]?
theorem GrewB.refl (bs : List Nat) (w : World) : GrewB bs w w := ⟨rfl, rfl, rfl, Nat.le_refl _, fun _ _ _ => rfl⟩
theorem GrewB.step {bs : List Nat} {w w' w'' : World} {b : Nat} (h : GrewB bs w w') (hb : b ∈ bs) (hg : w'.grownBy w'' (some b)) : GrewB bs w w'' :=
  ⟨hg.os.trans h.os, hg.tape.trans h.tape, hg.output.trans h.output, Nat.le_trans h.size hg.size, fun k hk hn => (hg.block k (Nat.lt_of_lt_of_le hk h.size) (fun e => hn (by simp at e; rw [e]; exact hb))).trans (h.block k hk hn)⟩
theorem GrewB.below {bs : List Nat} {w w' : World} {base : Nat} (h : GrewB bs w w') (hb : ∀ b ∈ bs, base ≤ b) (hw : base ≤ w.heap.size) : Below base w w' :=
  ⟨h.os, h.tape, h.output, h.size, fun k hk => h.block k (by omega) (fun e => by have := hb k e; omega)⟩
theorem head_mark {w : World} {g : Nat} {O : List Row3} {k : Int} (h : HeadR w g O) : HeadR w g (markL k O) := by
  obtain ⟨N, f, hN, hr, hf⟩ := h
  refine ⟨N, f, by rw [markL_len]; exact hN, hr, fun q hq => ?_⟩
  have hq' : q < O.length := by rwa [markL_len] at hq
  rw [hf q hq', markL_at k O q hq']
/-- What is marked up to k. -/
def Mkd (w : World) (base : Nat) (O : List Row3) (k : Nat) : Prop := ∀ (q : Nat) (h : q < O.length), RowAt w base (if q < k then (O[q].1, seqL (1 + totL (O.take q)) O[q].2.1.length, O[q].2.2) else O[q])
theorem Mkd.step {w w' : World} {base : Nat} {O : List Row3} {k : Nat} (h : Mkd w base O k) (hnd : (O.map (·.2.2)).Nodup) (hk : k < O.length) (hg : w.grownBy w' (some O[k].2.2)) (hn : RowAt w' base (O[k].1, seqL (1 + totL (O.take k)) O[k].2.1.length, O[k].2.2)) : Mkd w' base O (k + 1) := fun q hq => by
  by_cases e : q = k
  · subst e; rw [if_pos (by omega)]; exact hn
  · have hb : O[q].2.2 ≠ O[k].2.2 := fun e2 => e (by
      have h1 : (O.map (·.2.2))[q]'(by simpa using hq) = (O.map (·.2.2))[k]'(by simpa using hk) := by simpa using e2
      exact (List.getElem_inj hnd).1 h1)
    have := h q hq
    by_cases hlt : q < k
    · rw [if_pos hlt] at this
      rw [if_pos (by omega)]
      exact this.kept hg hb
    · rw [if_neg hlt] at this
      rw [if_neg (by omega)]
      exact this.kept hg hb
theorem Mkd.done {w : World} {base : Nat} {O : List Row3} (h : Mkd w base O O.length) : ∀ e ∈ markL 1 O, RowAt w base e := fun e he => by
  obtain ⟨q, hq, rfl⟩ := List.getElem_of_mem he
  have hq' : q < O.length := by rwa [markL_len] at hq
  have := h q hq'
  rw [if_pos hq'] at this
  rw [markL_at 1 O q hq']
  exact this

set_option maxRecDepth 8000 in
set_option maxHeartbeats 4000000 in
theorem markrowsT (base g cap : Nat) (O : List Row3) (w : World) (hl : O.length ≤ 1048576) (hlr : ∀ e ∈ O, e.2.1.length ≤ 1048576) (htot : totL O ≤ 67108864) (hh : HeadR w g O) (hr : ∀ e ∈ O, RowAt w base e) (hnd : (O.map (·.2.2)).Nodup) :
    Calls Try.prog 21 #[.slice (some ⟨g, 0, none⟩) O.length cap, .int .i64 1] w fun r w' => r = .returned (.int .i64 (1 + totL O)) ∧ HeadR w' g (markL 1 O) ∧ Hid (∀ e ∈ markL 1 O, RowAt w' base e) ∧ GrewB (O.map (·.2.2)) w w' := by
  have HNG : Hid (∀ e ∈ O, e.2.2 ≠ g) := Lib.hid (fun e he => head_row hh (hr e he))
  have HND := Lib.hid hnd
  have HLR := Lib.hid hlr
  have HM0 : Hid (Mkd w base O 0) := Lib.hid (fun q hq => by rw [if_neg (by omega)]; exact hr _ (List.getElem_mem hq))
  clear hr hnd hlr
  go_enter Try.func21, Try.ntmps21
  go_wp2_with fail
  go_loopw [1, 5] (fun m i wr => ∃ k : Nat, k ≤ O.length ∧ i = .int .i64 k ∧ m = .int .i64 (1 + (totL (O.take k) : Int)) ∧ HeadR wr g O ∧ Hid (Mkd wr base O k) ∧ GrewB (O.map (·.2.2)) w wr) (fun _ i _ => O.length - (intOf i).toNat)
  case atStart => exact ⟨0, by omega, rfl, by simp [totL], hh, HM0, GrewB.refl _ _⟩
  case round =>
    clear hh HM0
    obtain ⟨k, hk, rfl, rfl, hH, HM, hG⟩ := hrel
    by_cases hlt : k < O.length
    · have hlt' : (k : Int) < (O.length : Int) := by omega
      have c0 := head_at hH hlt
      have hrk : RowAt wr base O[k] := by have := HM.out k hlt; rwa [if_neg (by omega)] at this
      have hbd : totL (O.take k) ≤ 67108864 := Nat.le_trans (totL_sub O k) htot
      have HMK := Lib.hid (rmark base O[k] (1 + (totL (O.take k) : Int)) wr hrk (HLR.out _ (List.getElem_mem hlt)) (by omega) (by omega))
      have HTT : Hid ((1 + (totL (O.take k) : Int)) + (O[k].2.1.length : Int) = 1 + (totL (O.take (k + 1)) : Int)) := Lib.hid (by rw [totL_take hlt]; omega)
      have HBM : Hid (O[k].2.2 ∈ O.map (·.2.2)) := Lib.hid (List.mem_map_of_mem (List.getElem_mem hlt))
      have HNK := Lib.hid (HNG.out _ (List.getElem_mem hlt))
      have HST := Lib.hid (fun w' hg hn => Mkd.step (w' := w') HM.out HND.out hlt hg hn)
      clear hbd hrk
      generalize O[k] = e at *
      obtain ⟨u, l, b⟩ := e
      simp only at c0
      go_wp2_with fail
      ((with_reducible refine HMK.out.mono ?_); rintro r w2 ⟨rfl, hrow, hg⟩)
      have HMN := Lib.hid (HST.out _ hg hrow)
      have hH2 := head_kept hH hg HNK.out
      have hG2 := hG.step HBM.out hg
      clear HMK HST hrow hg hH hG c0
      go_wp2_with fail
      go_roundw
      case rel => exact ⟨k + 1, by omega, by go_num, by rw [← HTT.out], hH2, HMN, hG2⟩
      case measure => simp [intOf]; omega
    · obtain rfl : k = O.length := by omega
      have HDN := Lib.hid HM.out.done
      have hHM := head_mark (k := 1) hH
      have HTT : Hid (totL (O.take O.length) = totL O) := Lib.hid (by rw [List.take_length])
      rw [HTT.out]
      clear hH HM
      go_wp2_with fail
      go_ret
      exact ⟨rfl, hHM, HDN, hG⟩
theorem mark_none (a : Option Addr) (c : Nat) (w : World) :
    Calls Try.prog 21 #[.slice a 0 c, .int .i64 1] w fun r w' => r = .returned (.int .i64 1) ∧ w' = w := by
  go_enter Try.func21, Try.ntmps21
  go_wp2
  refine wp_loop_rounds 1 ?_
  rw [rounds_succ]
  go_wp2
  go_ret
  exact ⟨rfl, rfl⟩
end Go.Proofs.Ytbahejlgfpilnaa
