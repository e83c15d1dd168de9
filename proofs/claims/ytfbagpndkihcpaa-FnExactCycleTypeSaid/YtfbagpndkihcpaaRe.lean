/-
  SHIFTS of series: the model's walk and the program's. Conditions: as each theorem states.
-/
import Derived.Test.YtfbagpndkihcpaaRa
import Derived.Lib.SlBuf
namespace Go.Proofs.Ytfbagpndkihcpaa
open Go.RowKit Go.Sort EchM

/-- The shift of a list by k. -/
def shL (a : List Int) (k : Nat) : List Int := (List.range a.length).map fun i => if k ≤ i then nth a (i - k) else 0
theorem shL_len (a : List Int) (k : Nat) : (shL a k).length = a.length := by simp [shL]
theorem shL_at (a : List Int) (k i : Nat) (h : i < (shL a k).length) : (shL a k)[i] = if k ≤ i then nth a (i - k) else 0 := by simp [shL]
def rShift (a : List Int) (k : Int) : List Int × Int := if serB a && (decide (0 ≤ k) && decide (k ≤ 40)) then (shL a k.toNat, 0) else ([], 2)
theorem rShift_len (a : List Int) (k : Int) (ha : a.length ≤ 1048576) : (rShift a k).1.length ≤ 1048576 := by
  unfold rShift
  split
  · simp only [shL_len]; omega
  · simp
/-- What has been written of the shift before the place i. -/
def shF (a : List Int) (k i q : Nat) : Value := .int .i64 (if k ≤ q ∧ q < i then nth a (q - k) else 0)

set_option maxRecDepth 8000 in
set_option maxHeartbeats 4000000 in
theorem ssh (v : Value) (a : List Int) (k : Nat) (w : World) (hla : a.length ≤ 1048576) (hk : k ≤ 1048576) (hS : Sl w v a) :
    Calls Try.prog 30 #[v, .int .i64 (k : Int)] w fun e w' => ∃ v', e = .returned v' ∧ nOwnI w' w.heap.size v' (shL a k) ∧ Below w.heap.size w w' := by
  obtain ⟨i0, hi, hz0, hz1, hz2⟩ := info_parts einfoI
  obtain ⟨aa, ac, rfl, hc⟩ := id hS
  have hmk : ∀ w, (Instr.makeSlice 22 (.int .i64 (a.length : Int)) (.int .i64 (a.length : Int))).run Try.prog w = .ok (.slice (some ⟨w.heap.size, 0, none⟩) a.length a.length) (w.alloc (.cells (nmadeI a.length) 2)) := fun w => by
    have h := run_make (P := Try.prog) w 22 2 i0 _ Try.underlying22 hi hz0 .i64 .i64 (a.length : Int) (a.length : Int) (by omega) (by omega) (by rw [hz2]; omega) (by omega)
    rw [hz1] at h
    simpa [nmadeI, Value.cells] using h
  clear hi hz0 hz1 hz2
  go_enter Try.func30, Try.ntmps30
  go_wp2_with fail
  go_loopw [6] (fun u wr => ∃ (i : Nat), k ≤ i ∧ (i ≤ a.length ∨ i = k) ∧ u = .int .i64 i ∧ wr.rowIs w.heap.size 2 a.length (shF a k i) ∧ Below w.heap.size w wr) (fun u _ => a.length - (intOf u).toNat)
  case atStart => exact ⟨k, Nat.le_refl _, .inr rfl, rfl, (nmadeI_row w a.length _).congr (fun q _ => by unfold shF; rw [if_neg (by omega)]), ebox1 _ _⟩
  case round =>
    obtain ⟨i, hki, hik, rfl, hO, hbel⟩ := hrel
    by_cases hlt : i < a.length
    · have hlt' : (i : Int) < (a.length : Int) := by omega
      obtain ⟨b, off, rfl, hbb, hT⟩ : ∃ b off, aa = some ⟨b, off, none⟩ ∧ b < w.heap.size ∧ Cs w b off a := by
        rcases hc with rfl | h
        · simp at hlt
        · exact h
      have h0 : ¬ (i : Int) - (k : Int) < 0 := by omega
      have h1 : (i : Int) - (k : Int) < (a.length : Int) := by omega
      have h2 : ((i : Int) - (k : Int)).toNat = i - k := by omega
      have c0 := (hT.below hbel hbb) (i - k) (by omega)
      have e0 := nth_lt (r := a) (show i - k < a.length by omega)
      rw [← e0] at c0
      have d0 := hO.cell hlt
      have f0 := hO.frozen i
      have rows := (hO.set i (.int .i64 (nth a (i - k)))).congr (g := shF a k (i + 1)) (fun q hq => by
        unfold shF
        by_cases e : q = i
        · subst e; simp [hki]
        · simp only [if_neg e]
          congr 1
          by_cases e2 : k ≤ q ∧ q < i
          · rw [if_pos e2, if_pos (by omega)]
          · rw [if_neg e2, if_neg (by omega)])
      have hb2 := hbel.setCell (p := ⟨w.heap.size, i, none⟩) (Nat.le_refl _) (.int .i64 (nth a (i - k)))
      clear hO hbel e0
      generalize nth a (i - k) = X at *
      go_wp2_with fail
      go_roundw
      case rel => exact ⟨i + 1, by omega, by omega, by go_num, rows, hb2⟩
      case measure => simp [intOf]; omega
    · have hlt' : ¬ (i : Int) < (a.length : Int) := by omega
      go_wp2_with fail
      go_ret
      refine ⟨_, rfl, ⟨w.heap.size, shF a k i, by rw [shL_len]; rfl, Nat.le_refl _, by rw [shL_len]; exact hO, fun q hq => ?_⟩, hbel⟩
      have hq' : q < a.length := by rwa [shL_len] at hq
      rw [shL_at]
      unfold shF
      congr 1
      by_cases e : k ≤ q
      · rw [if_pos ⟨e, by omega⟩, if_pos e]
      · rw [if_neg (fun h => e h.1), if_neg e]

theorem nOwnI.toV {w : World} {base : Nat} {v : Value} {l : List Int} (h : nOwnI w base v l) : OwnV w base v l := by
  obtain ⟨g, f, rfl, hg, hr, hf⟩ := h
  exact .inr ⟨g, l.length, l.length, f, rfl, hg, Nat.le_refl _, hr, hf⟩

theorem sShift (v : Value) (a : List Int) (k : Int) (w : World) (hla : a.length ≤ 1048576) (hS : Sl w v a) :
    Calls Try.prog 15 #[v, .int .i64 k] w fun e w' => ∃ v', e = .returned (.tuple #[v', .int .i64 (rShift a k).2]) ∧ Sl w' v' (rShift a k).1 ∧ Below w.heap.size w w' := by
  obtain ⟨aa, ac, rfl, _⟩ := id hS
  cases h1 : serB a
  · have HX : Hid (rShift a k = ([], 2)) := Lib.hid (by simp [rShift, h1])
    have H1 := Lib.hid h1
    clear h1
    go_enter Try.func15, Try.ntmps15
    go_wp2_with fail
    ((with_reducible refine (sser _ a _ hla hS).mono ?_); rintro e w1 ⟨rfl, rfl⟩)
    rw [H1.out]
    go_wp2_with fail
    go_ret2
    rw [HX.out]
    exact ⟨_, rfl, ⟨none, 0, rfl, .inl rfl⟩, Below.refl _ _⟩
  cases h2 : (decide (0 ≤ k) && decide (k ≤ 40))
  · have HX : Hid (rShift a k = ([], 2)) := Lib.hid (by unfold rShift; rw [h2, Bool.and_false]; rfl)
    have H1 := Lib.hid h1
    have H2 := Lib.hid h2
    clear h1 h2
    go_enter Try.func15, Try.ntmps15
    go_wp2_with fail
    ((with_reducible refine (sser _ a _ hla hS).mono ?_); rintro e w1 ⟨rfl, rfl⟩)
    rw [H1.out]
    go_wp2_with fail
    ((with_reducible refine (sin_is k 0 40 _ false H2.out).mono ?_); rintro e w2 ⟨rfl, rfl⟩)
    go_wp2_with fail
    go_ret2
    rw [HX.out]
    exact ⟨_, rfl, ⟨none, 0, rfl, .inl rfl⟩, Below.refl _ _⟩
  have HX : Hid (rShift a k = (shL a k.toNat, 0)) := Lib.hid (by unfold rShift; rw [h1, h2]; rfl)
  have H1 := Lib.hid h1
  have H2 := Lib.hid h2
  obtain ⟨n, rfl⟩ : ∃ n : Nat, k = (n : Int) := ⟨k.toNat, by simp at h2; omega⟩
  have hn : n ≤ 1048576 := by simp at h2; omega
  clear h1 h2
  go_enter Try.func15, Try.ntmps15
  go_wp2_with fail
  ((with_reducible refine (sser _ a _ hla hS).mono ?_); rintro e w1 ⟨rfl, rfl⟩)
  rw [H1.out]
  go_wp2_with fail
  ((with_reducible refine (sin_is (n : Int) 0 40 _ true H2.out).mono ?_); rintro e w2 ⟨rfl, rfl⟩)
  go_wp2_with fail
  ((with_reducible refine (ssh _ a n _ hla hn hS).mono ?_); rintro e w3 ⟨v', rfl, ho, hb⟩)
  obtain ⟨a5, c5, rfl, _⟩ := id ho.slice
  go_wp2_with fail
  go_ret2
  rw [HX.out]
  exact ⟨_, rfl, ho.slice, hb⟩

/-- 'copy(shifted[k:], a)'. -/
theorem copy_shift (w : World) (g k : Nat) (a : List Int) (aa : Option Addr) (ac : Nat) (f : Nat → Value) (hr : w.rowIs g 2 a.length f) (hk : k < a.length) (hc : a = [] ∨ ∃ b off, aa = some ⟨b, off, none⟩ ∧ b < w.heap.size ∧ Cs w b off a) (ty : TypeId) :
    (Builtin.copy_ #[22, 22] ty #[.slice (some ⟨g, k, none⟩) (a.length - k) (a.length - k), .slice aa a.length ac]).run Try.prog w = .ok (.int .i64 ((a.length - k : Nat) : Int)) (w.setCells g k ((valsI a).take (a.length - k))) := by
  obtain ⟨b, off, rfl, hbb, hT⟩ : ∃ b off, aa = some ⟨b, off, none⟩ ∧ b < w.heap.size ∧ Cs w b off a := by
    rcases hc with rfl | h
    · simp at hk
    · exact h
  have hl : ((valsI a).take (a.length - k)).length = a.length - k := by simp [valsI]
  have h := run_copy_cells (P := Try.prog) w 22 22 ty 2 g k (a.length - k) (a.length - k) ⟨b, off, none⟩ a.length ac ((valsI a).take (a.length - k)) Try.underlying22 (by kernel_rfl)
    (by rw [hl]; exact (Nat.min_eq_right (by omega)).symm)
    (fun j u hj => by
      rw [List.getElem?_take] at hj
      split at hj
      · exact vals_cells hT j u hj
      · cases hj)
    (fun j hj => by rw [hr.cell (by omega)]; rfl) (fun j _ => hr.frozen _)
    (fun u hu => vals_one a u (List.mem_of_mem_take hu))
  rw [hl] at h
  exact h
theorem row_setCells {g n : Nat} {t : TypeId} : ∀ (vs : List Value) (o : Nat) {w : World} {f : Nat → Value}, w.rowIs g t n f → (w.setCells g o vs).rowIs g t n (fun q => if h : o ≤ q ∧ q < o + vs.length then vs[q - o]'(by omega) else f q)
  | [], o, w, f, h => h.congr fun q _ => by rw [dif_neg (by simp)]
  | v :: r, o, w, f, h => by
    refine (row_setCells r (o + 1) (h.set o v)).congr fun q hq => ?_
    by_cases e : q = o
    · subst e
      rw [dif_neg (by omega), dif_pos (by simp)]
      simp
    · by_cases e2 : o + 1 ≤ q ∧ q < o + 1 + r.length
      · rw [dif_pos e2, dif_pos (by simp; omega)]
        rw [List.getElem_cons, dif_neg (by omega)]
        congr 1
      · rw [dif_neg e2, dif_neg (by simp; omega), if_neg e]

set_option maxRecDepth 8000 in
set_option maxHeartbeats 4000000 in
theorem iShift (v : Value) (a : List Int) (k : Int) (w : World) (hla : a.length ≤ 1048576) (hS : Sl w v a) :
    Calls Try.prog 16 #[v, .int .i64 k] w fun e w' => ∃ v', e = .returned (.tuple #[v', .int .i64 (rShift a k).2]) ∧ OwnV w' w.heap.size v' (rShift a k).1 ∧ Below w.heap.size w w' := by
  obtain ⟨i0, hi, hz0, hz1, hz2⟩ := info_parts einfoI
  obtain ⟨aa, ac, rfl, hc⟩ := id hS
  cases h1 : serB a
  · have HX : Hid (rShift a k = ([], 2)) := Lib.hid (by simp [rShift, h1])
    have H1 := Lib.hid h1
    clear h1
    go_enter Try.func16, Try.ntmps16
    go_wp2_with fail
    ((with_reducible refine (iser _ a _ hla hS).mono ?_); rintro e w1 ⟨rfl, rfl⟩)
    rw [H1.out]
    go_wp2_with fail
    go_ret2
    rw [HX.out]
    exact ⟨_, rfl, OwnV.none _ _, Below.refl _ _⟩
  by_cases h0 : k < 0
  · have HX : Hid (rShift a k = ([], 2)) := Lib.hid (by unfold rShift; rw [decide_eq_false (show ¬ 0 ≤ k by omega)]; simp)
    have H1 := Lib.hid h1
    clear h1
    go_enter Try.func16, Try.ntmps16
    go_wp2_with fail
    ((with_reducible refine (iser _ a _ hla hS).mono ?_); rintro e w1 ⟨rfl, rfl⟩)
    rw [H1.out]
    go_wp2_with fail
    go_ret2
    rw [HX.out]
    exact ⟨_, rfl, OwnV.none _ _, Below.refl _ _⟩
  by_cases h40 : 40 < k
  · have HX : Hid (rShift a k = ([], 2)) := Lib.hid (by unfold rShift; rw [decide_eq_false (show ¬ k ≤ 40 by omega)]; simp)
    have H1 := Lib.hid h1
    clear h1
    go_enter Try.func16, Try.ntmps16
    go_wp2_with fail
    ((with_reducible refine (iser _ a _ hla hS).mono ?_); rintro e w1 ⟨rfl, rfl⟩)
    rw [H1.out]
    go_wp2_with fail
    go_ret2
    rw [HX.out]
    exact ⟨_, rfl, OwnV.none _ _, Below.refl _ _⟩
  have HX : Hid (rShift a k = (shL a k.toNat, 0)) := Lib.hid (by unfold rShift; rw [h1, decide_eq_true (show 0 ≤ k by omega), decide_eq_true (show k ≤ 40 by omega)]; rfl)
  have H1 := Lib.hid h1
  obtain ⟨n, rfl⟩ : ∃ n : Nat, k = (n : Int) := ⟨k.toNat, by omega⟩
  clear h1
  have hmk : ∀ w, (Instr.makeSlice 22 (.int .i64 (a.length : Int)) (.int .i64 (a.length : Int))).run Try.prog w = .ok (.slice (some ⟨w.heap.size, 0, none⟩) a.length a.length) (w.alloc (.cells (nmadeI a.length) 2)) := fun w => by
    have h := run_make (P := Try.prog) w 22 2 i0 _ Try.underlying22 hi hz0 .i64 .i64 (a.length : Int) (a.length : Int) (by omega) (by omega) (by rw [hz2]; omega) (by omega)
    rw [hz1] at h
    simpa [nmadeI, Value.cells] using h
  have hso : ∀ w, (Go.sizeOf 2).run Try.prog w = .ok 1 w := fun w => by simp [sizeOf, typeInfo, hi, hz1]
  clear hi hz0 hz1 hz2
  obtain ⟨W, hW, rW, hbW⟩ : ∃ W, W = w.alloc (.cells (nmadeI a.length) 2) ∧ W.rowIs w.heap.size 2 a.length (fun _ => .int .i64 0) ∧ Below w.heap.size w W := ⟨_, rfl, nmadeI_row w _ _, ebox1 _ _⟩
  by_cases hn : n < a.length
  · have hn' : (n : Int) < (a.length : Int) := by omega
    have hcW := hS.below hbW
    obtain ⟨aa', ac', e', hcW⟩ := hcW
    obtain ⟨rfl, rfl⟩ : aa = aa' ∧ ac = ac' := by simpa using e'
    have hcp := copy_shift W w.heap.size n a aa ac _ rW hn hcW
    have hrows := row_setCells ((valsI a).take (a.length - n)) n rW
    have hbel := Go.Lib.below_setCells w.heap.size (Nat.le_refl _) ((valsI a).take (a.length - n)) n hbW
    have hl : ((valsI a).take (a.length - n)).length = a.length - n := by simp [valsI]
    have hown : OwnV (W.setCells w.heap.size n ((valsI a).take (a.length - n))) w.heap.size (.slice (some ⟨w.heap.size, 0, none⟩) a.length a.length) (shL a n) := by
      refine .inr ⟨w.heap.size, a.length, a.length, _, by simp only [shL_len], Nat.le_refl _, by simp only [shL_len]; exact Nat.le_refl _, hrows, fun q hq => ?_⟩
      have hq' : q < a.length := by simpa only [shL_len] using hq
      simp only [shL_at]
      by_cases e : n ≤ q
      · rw [dif_pos (by rw [hl]; omega), if_pos e, nth_lt (by omega), List.getElem_take]
        simp [valsI]
      · rw [dif_neg (by omega), if_neg e]
    rw [hW] at hcp hown hbel
    have HOW := Lib.hid (And.intro hown hbel)
    clear rW hbW hcW hrows hl hown hbel hW
    have hsl : ∀ W' : World, (Instr.slice 22 (.slice (some ⟨w.heap.size, 0, none⟩) a.length a.length) (some (.int .i64 (n : Int))) none none).run Try.prog W' = .ok (.slice (some ⟨w.heap.size, n, none⟩) (a.length - n) (a.length - n)) W' := fun W' => by
      have h := Go.Lib.run_slice_tailV (P := Try.prog) W' 22 2 Try.underlying22 hso w.heap.size a.length n (by omega)
      unfold Go.Lib.tailV at h
      rw [if_neg (by omega)] at h
      exact h
    go_enter Try.func16, Try.ntmps16
    go_wp2_with fail
    ((with_reducible refine (iser _ a _ hla hS).mono ?_); rintro e w1 ⟨rfl, rfl⟩)
    rw [H1.out]
    go_wp2_with fail
    go_ret2
    rw [HX.out]
    exact ⟨_, rfl, HOW.out.1, HOW.out.2⟩
  · have hn' : ¬ (n : Int) < (a.length : Int) := by omega
    go_enter Try.func16, Try.ntmps16
    go_wp2_with fail
    ((with_reducible refine (iser _ a _ hla hS).mono ?_); rintro e w1 ⟨rfl, rfl⟩)
    rw [H1.out]
    go_wp2_with fail
    go_ret2
    rw [HX.out]
    refine ⟨_, rfl, .inr ⟨w1.heap.size, a.length, a.length, _, by simp only [Int.toNat_natCast, shL_len]; rfl, Nat.le_refl _, by simp only [Int.toNat_natCast, shL_len]; exact Nat.le_refl _, nmadeI_row w1 _ _, fun q hq => ?_⟩, ebox1 _ _⟩
    have hq' : q < a.length := by simpa only [Int.toNat_natCast, shL_len] using hq
    simp only [Int.toNat_natCast, shL_at]
    rw [if_neg (by omega)]
end Go.Proofs.Ytfbagpndkihcpaa
