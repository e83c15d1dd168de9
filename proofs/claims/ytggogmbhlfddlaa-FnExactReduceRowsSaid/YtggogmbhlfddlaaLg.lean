/-
  LISTS OF LISTS of numbers in a law: measured, copied. Conditions: as each theorem states.
-/
import Derived.Test.YtggogmbhlfddlaaLf
namespace Go.Proofs.Ytggogmbhlfddlaa
open Go.RowKit Go.Sort

/-- What is left of a bound. -/
def leftI (left n : Int) : Int := if left < n then -1 else left - n
theorem leftI_lt {left n : Int} (h : left < n) : leftI left n = -1 := if_pos h
theorem leftI_ge {left n : Int} (h : n ≤ left) : leftI left n = left - n := if_neg (by omega)
theorem szI (v : Value) (l : List Int) (left : Int) (w : World) (h0 : 0 ≤ left) (h1 : left ≤ 1048576) (hl : l.length ≤ 9223372036854775807) (hS : Sl w v l) :
    Calls Try.prog 47 #[v, .int .i64 left] w fun e w' => e = .returned (.int .i64 (leftI left l.length)) ∧ w' = w := by
  obtain ⟨a, cap, rfl, _⟩ := hS
  by_cases h : left < l.length
  · have h' : left - (l.length : Int) < 0 := by omega
    go_enter Try.func47, Try.ntmps47
    go_wp2
    go_ret
    exact ⟨by rw [leftI_lt h]; rfl, rfl⟩
  · have h' : ¬ left - (l.length : Int) < 0 := by omega
    go_enter Try.func47, Try.ntmps47
    go_wp2
    go_ret
    exact ⟨by rw [leftI_ge (by omega)]; rfl, rfl⟩
/-- All numbers of a list of lists. -/
def totR (L : List (List Int)) : Nat := (L.map List.length).sum
theorem totR_take {L : List (List Int)} {k : Nat} (h : k < L.length) : totR (L.take (k + 1)) = totR (L.take k) + L[k].length := by
  unfold totR
  rw [List.take_succ_eq_append_getElem h, List.map_append, List.sum_append]
  simp
theorem totR_le (L : List (List Int)) (k : Nat) : totR (L.take k) ≤ totR L := by
  have h : totR L = totR (L.take k) + totR (L.drop k) := by
    unfold totR
    rw [← List.sum_append, ← List.map_append, List.take_append_drop]
  omega
theorem totR_row {L : List (List Int)} {r : List Int} (h : r ∈ L) : r.length ≤ totR L := by
  obtain ⟨k, hk, rfl⟩ := List.mem_iff_getElem.1 h
  have h1 := totR_take hk
  have h2 := totR_le L (k + 1)
  omega

set_option maxHeartbeats 1000000 in
theorem szrows (v : Value) (L : List (List Int)) (left : Int) (w : World) (h0 : 0 ≤ left) (h1 : left ≤ 1048576) (hl : L.length ≤ 9223372036854775807) (hlr : ∀ r ∈ L, r.length ≤ 9223372036854775807) (hS : SlR w v L) :
    Calls Try.prog 12 #[v, .int .i64 left] w fun e w' => e = .returned (.int .i64 (leftI left (L.length + totR L))) ∧ w' = w := by
  obtain ⟨a, cap, rfl, hc⟩ := hS
  by_cases h : left < L.length
  · have h' : left - (L.length : Int) < 0 := by omega
    go_enter Try.func12, Try.ntmps12
    go_wp2
    go_ret
    exact ⟨by rw [leftI_lt (by omega)]; rfl, rfl⟩
  · have h' : ¬ left - (L.length : Int) < 0 := by omega
    go_enter Try.func12, Try.ntmps12
    go_wp2
    go_loop [1, 5] (fun m i => ∃ k : Nat, k ≤ L.length ∧ i = .int .i64 k ∧ ∃ q : Int, m = .int .i64 q ∧ q = left - L.length - totR (L.take k) ∧ 0 ≤ q ∧ q ≤ 1048576) (fun _ i => L.length - (intOf i).toNat)
    case atStart => exact ⟨0, by omega, rfl, _, rfl, by simp [totR], by omega, by omega⟩
    case round =>
      obtain ⟨k, hk, rfl, q, rfl, hq, hq0, hq1⟩ := hrel
      by_cases hlt : k < L.length
      · have hlt' : (k : Int) < (L.length : Int) := by omega
        obtain ⟨b, off, rfl, hbb, hT⟩ : ∃ b off, a = some ⟨b, off, none⟩ ∧ b < w.heap.size ∧ RowsW w b off L := by
          rcases hc with rfl | h
          · simp at hlt
          · exact h
        obtain ⟨u, c0, s0⟩ := hT k hlt
        have hrl := hlr _ (List.getElem_mem hlt)
        have HT := Lib.hid (totR_take hlt)
        have HL := Lib.hid (totR_le L (k + 1))
        have HQ := Lib.hid hq
        clear hq
        go_wp2_with fail
        ((with_reducible refine (szI u L[k] q _ hq0 hq1 hrl s0).mono ?_); rintro e w1 ⟨rfl, rfl⟩)
        by_cases hneg : q < L[k].length
        · rw [leftI_lt hneg]
          have HN : Hid (left < (L.length : Int) + (totR L : Int)) := Lib.hid (by
            have h1 := HT.out
            have h2 := HL.out
            have h3 := HQ.out
            omega)
          clear hneg
          go_wp2_with fail
          go_ret
          exact ⟨by rw [leftI_lt HN.out]; rfl, rfl⟩
        · rw [leftI_ge (by omega)]
          obtain ⟨q2, hq2⟩ : ∃ q2, q - (L[k].length : Int) = q2 := ⟨_, rfl⟩
          have hq20 : 0 ≤ q2 := by omega
          have hq21 : q2 ≤ 1048576 := by omega
          have hq22 : ¬ q2 < 0 := by omega
          have HN : Hid (q2 = left - L.length - totR (L.take (k + 1))) := Lib.hid (by
            have h1 := HT.out
            have h3 := HQ.out
            omega)
          rw [hq2]
          clear hneg hq2
          go_wp2_with fail
          go_round
          case rel => exact ⟨k + 1, by omega, by go_num, q2, rfl, HN.out, hq20, hq21⟩
          case measure => simp [intOf]; omega
      · obtain rfl : k = L.length := by omega
        rw [List.take_length] at hq
        have HQ := Lib.hid hq
        clear hq
        go_wp2_with fail
        go_ret
        have h3 := HQ.out
        exact ⟨by rw [leftI_ge (by omega), ← Int.sub_sub, ← h3]; rfl, rfl⟩

set_option maxHeartbeats 1000000 in
theorem torows (v : Value) (L : List (List Int)) (w : World) (hl : L.length ≤ 1048576) (hlr : ∀ r ∈ L, r.length ≤ 1048576) (hS : SlR w v L) :
    Calls Try.prog 14 #[v] w fun e w' => ∃ v', e = .returned v' ∧ OwnRR w' w.heap.size v' L ∧ Below w.heap.size w w' := by
  obtain ⟨i0, hi, hz0, hz1, hz2⟩ := info_parts einfoR
  obtain ⟨a, cap, rfl, hc⟩ := hS
  have hmk : ∀ w, (Instr.makeSlice 22 (.int .i64 (L.length : Int)) (.int .i64 (L.length : Int))).run Try.prog w = .ok (.slice (some ⟨w.heap.size, 0, none⟩) L.length L.length) (w.alloc (.cells (madeCells #[.slice none 0 0] L.length) 39)) := fun w => by
    have h := run_make (P := Try.prog) w 22 39 i0 _ Try.underlying22 hi hz0 .i64 .i64 (L.length : Int) (L.length : Int) (by omega) (by omega) (by rw [hz2]; omega) (by omega)
    rw [hz1] at h
    simpa [Value.cells] using h
  clear hi hz0 hz1 hz2
  have hr0 := World.rowIs_made w (.slice none 0 0) L.length 39
  go_enter Try.func14, Try.ntmps14
  go_wp2
  go_loopw [4] (fun i wr => ∃ k : Nat, k ≤ L.length ∧ i = .int .i64 k ∧ Below w.heap.size w wr ∧ ∃ (O : List Row3) (f : Nat → Value), O.map (·.2.1) = L.take k ∧ wr.rowIs w.heap.size 39 L.length f ∧ (∀ (q : Nat) (h : q < O.length), f q = O[q].1) ∧ (∀ e ∈ O, RowAt wr (w.heap.size + 1) e) ∧ (O.map (·.2.2)).Nodup) (fun i _ => L.length - (intOf i).toNat)
  case atStart => exact ⟨0, by omega, rfl, ebox1 _ _, [], _, rfl, hr0, by simp, by simp, by simp⟩
  case round =>
    clear hr0 hmk
    obtain ⟨k, hk, rfl, hbel, O, f, hO, hrow, hf, hat, hnd⟩ := hrel
    by_cases hlt : k < L.length
    · have hlt' : (k : Int) < (L.length : Int) := by omega
      obtain ⟨b, off, rfl, hbb, hT⟩ : ∃ b off, a = some ⟨b, off, none⟩ ∧ b < w.heap.size ∧ RowsW w b off L := by
        rcases hc with rfl | h
        · simp at hlt
        · exact h
      obtain ⟨u, c0, s0⟩ := (hT.below hbel hbb) k hlt
      have HL := Lib.hid (hlr _ (List.getElem_mem hlt))
      have hOk : Hid (O.length = k) := Lib.hid (by
        have h := congrArg List.length hO
        simp at h; omega)
      have HO := Lib.hid hO
      have HF := Lib.hid hf
      have HA := Lib.hid hat
      have HND := Lib.hid hnd
      have hsw := hrow.lt
      clear hO hf hat hnd
      go_wp2_with fail
      ((with_reducible refine (ntoI_own u L[k] _ HL.out s0).mono ?_); rintro e w3 ⟨v3, rfl, ho, hb3⟩)
      obtain ⟨g, f3, rfl, hg, hr3, hf3⟩ := ho
      have hrow3 := erow_below hrow hb3 hsw
      have d0 := hrow3.cell (i := k) hlt
      have f0 := hrow3.frozen k
      have hbel3 := hbel.trans (hb3.mono hbel.size)
      have hne : g ≠ w.heap.size := by omega
      obtain ⟨sv, hsv⟩ : ∃ sv, sv = Value.slice (some ⟨g, 0, none⟩) L[k].length L[k].length := ⟨_, rfl⟩
      have hrow4 := hrow3.set k sv
      have hb4 := hbel3.setCell (p := ⟨w.heap.size, k, none⟩) (Nat.le_refl _) sv
      have hR4 : RowAt (w3.setCell ⟨w.heap.size, k, none⟩ sv) (w.heap.size + 1) (sv, L[k], g) := ⟨L[k].length, L[k].length, f3, hsv, (show w.heap.size + 1 ≤ g by omega), Nat.le_refl _, hr3.setOther (by simpa using hne) _, hf3⟩
      have hA4 : ∀ e ∈ O, RowAt (w3.setCell ⟨w.heap.size, k, none⟩ sv) (w.heap.size + 1) e := fun e he => ((HA.out e he).below hb3).kept (g := w.heap.size) (ngrown_setT (World.grownBy.refl _ _) k sv) (by
        obtain ⟨_, _, _, _, hb', _⟩ := HA.out e he
        omega)
      have HG : Hid (g ∉ O.map (·.2.2)) := Lib.hid (fun hm => by
        obtain ⟨e, he, h2⟩ := List.mem_map.1 hm
        have := (HA.out e he).lt
        omega)
      have HR : Hid (∃ (O' : List Row3) (f' : Nat → Value), O'.map (·.2.1) = L.take (k + 1) ∧ (w3.setCell ⟨w.heap.size, k, none⟩ sv).rowIs w.heap.size 39 L.length f' ∧ (∀ (q : Nat) (h : q < O'.length), f' q = O'[q].1) ∧ (∀ e ∈ O', RowAt (w3.setCell ⟨w.heap.size, k, none⟩ sv) (w.heap.size + 1) e) ∧ (O'.map (·.2.2)).Nodup) := Lib.hid (by
        refine ⟨O ++ [(sv, L[k], g)], _, ?_, hrow4, fun q hq => ?_, fun e he => ?_, ?_⟩
        · rw [List.map_append, HO.out, List.take_succ_eq_append_getElem hlt]; rfl
        · rw [List.length_append, List.length_singleton, hOk.out] at hq
          by_cases e : q = k
          · subst e
            simp [hOk.out]
          · have hq' : q < O.length := by rw [hOk.out]; omega
            rw [List.getElem_append_left hq']
            simp only [if_neg e]
            exact HF.out q hq'
        · rcases List.mem_append.1 he with h | h
          · exact hA4 e h
          · obtain rfl := List.mem_singleton.1 h
            exact hR4
        · rw [List.map_append, List.nodup_append]
          refine ⟨HND.out, by simp, fun a ha b hb e => ?_⟩
          simp at hb
          exact HG.out (by rw [← hb, ← e]; exact ha))
      clear hrow4 hrow3 hrow hR4 hA4 hb3 hr3 hf3 hbel
      subst hsv
      go_wp2_with fail
      go_roundw
      case rel => exact ⟨k + 1, by omega, by go_num, hb4, HR.out⟩
      case measure => simp [intOf]; omega
    · obtain rfl : k = L.length := by omega
      rw [List.take_length] at hO
      have hOl : O.length = L.length := by rw [← hO, List.length_map]
      go_wp2_with fail
      go_ret
      refine ⟨_, rfl, ⟨O, hO, .inr ⟨w.heap.size, L.length, by rw [hOl]; rfl, Nat.le_refl _, L.length, f, by omega, hrow, hf⟩, fun e he => (hat e he).mono (by omega), hnd⟩, hbel⟩
end Go.Proofs.Ytggogmbhlfddlaa
