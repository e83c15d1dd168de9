/-
  SERIES OF DEGREES: the model. Conditions: as each theorem states.
-/
import Derived.Test.YtgbnlnpffhlipaaIe
namespace Go.Proofs.Ytgbnlnpffhlipaa
open Go.RowKit Go.Sort EchM

/-- The numbers up to n are those of the series with one degree more. -/
def dM (S : Nat → Int) (d n q : Nat) : Int := if q < n then dS S d q else S q
theorem dM_at {S : Nat → Int} {d n : Nat} (hd : 1 ≤ d) (h : d ≤ n) : dM S d n n + dM S d n (n - d) = dS S d n := by
  rw [dS_ge hd h]
  unfold dM
  rw [if_neg (by omega), if_pos (by omega)]
theorem dM_succ {S : Nat → Int} {d n q : Nat} : dM S d (n + 1) q = if q = n then dS S d n else dM S d n q := by
  unfold dM
  by_cases h : q = n
  · subst h; simp
  · by_cases h2 : q < n
    · simp [h, h2]; omega
    · simp [h, h2]; omega
theorem dM_start {S : Nat → Int} {d q : Nat} : dM S d d q = S q := by
  unfold dM
  split
  · exact dS_lt (by assumption)
  · rfl

set_option maxRecDepth 8000 in
set_option maxHeartbeats 8000000 in
theorem sof4 (v : Value) (l : List Int) (k : Nat) (w : World) (hk : k ≤ 40) (hd : DegL l) (hS : Sl w v l) :
    Calls Try.prog 19 #[v, .int .i64 (k : Int)] w fun e w' => ∃ v', e = .returned v' ∧ OwnV w' w.heap.size v' ((List.range (k + 1)).map (serL l)) ∧ Below w.heap.size w w' := by
  obtain ⟨i0, hi, hz0, hz1, hz2⟩ := info_parts einfoI
  obtain ⟨a, cap, rfl, hc⟩ := hS
  have hl := hd.1
  have HD := Lib.hid hd.2
  have HBD := Lib.hid (serL_bound hd)
  clear hd
  have hmk : ∀ w, (Instr.makeSlice 22 (.int .i64 ((k : Int) + 1)) (.int .i64 ((k : Int) + 1))).run Try.prog w = .ok (.slice (some ⟨w.heap.size, 0, none⟩) (k + 1) (k + 1)) (w.alloc (.cells (nmadeI (k + 1)) 2)) := fun w => by
    have h := run_make (P := Try.prog) w 22 2 i0 _ Try.underlying22 hi hz0 .i64 .i64 ((k : Int) + 1) ((k : Int) + 1) (by omega) (by omega) (by rw [hz2]; omega) (by omega)
    rw [hz1] at h
    simpa [nmadeI, Value.cells] using h
  clear hi hz0 hz1 hz2
  have hmk1 := hmk w
  clear hmk
  obtain ⟨wx, hwx, hr0, hb0⟩ : ∃ wx, wx = w.alloc (.cells (nmadeI (k + 1)) 2) ∧ wx.rowIs w.heap.size 2 (k + 1) (fun _ => .int .i64 0) ∧ Below w.heap.size w wx := ⟨_, rfl, nmadeI_row w (k + 1) 2, ebox1 w _⟩
  rw [← hwx] at hmk1
  clear hwx
  have d0 := hr0.cell (i := 0) (by omega)
  have f0 := hr0.frozen 0
  have hF0 : Hid (RowF (wx.setCell ⟨w.heap.size, 0, none⟩ (.int .i64 1)) w.heap.size (k + 1) (serL (l.take 0))) := Lib.hid ⟨k + 1, _, Nat.le_refl _, hr0.set 0 _, fun q hq => by
    by_cases e : q = 0
    · subst e; simp [serL, oneS]
    · simp [e, serL, oneS]⟩
  have hB0 : Hid (Below w.heap.size w (wx.setCell ⟨w.heap.size, 0, none⟩ (.int .i64 1))) := Lib.hid (hb0.setCell (Nat.le_refl _) _)
  clear hr0 hb0
  go_enter Try.func19, Try.ntmps19
  go_wp2
  go_loopw [6] (fun i wr => ∃ j : Nat, j ≤ l.length ∧ i = .int .i64 j ∧ RowF wr w.heap.size (k + 1) (serL (l.take j)) ∧ Below w.heap.size w wr) (fun i _ => l.length - (intOf i).toNat)
  case atStart => exact ⟨0, by omega, rfl, hF0.out, hB0.out⟩
  case round =>
    clear hF0 hB0 d0 f0 hmk1
    obtain ⟨j, hj, rfl, hF, hbel⟩ := hrel
    by_cases hlt : j < l.length
    · have hlt' : (j : Int) < (l.length : Int) := by omega
      obtain ⟨b, off, rfl, hbb, hT⟩ : ∃ b off, a = some ⟨b, off, none⟩ ∧ b < w.heap.size ∧ Cs w b off l := by
        rcases hc with rfl | h
        · simp at hlt
        · exact h
      have c0 := (hT.below hbel hbb) j hlt
      obtain ⟨e0, e1⟩ := HD.out j hlt
      have HSN := Lib.hid (serL_snoc l j hlt)
      have HBJ := Lib.hid (HBD.out (j + 1))
      have HT := Lib.hid hT
      clear hT
      obtain ⟨d, hd⟩ : ∃ d : Nat, l[j] = (d : Int) := ⟨l[j].toNat, by omega⟩
      have HD2 : Hid (l[j].toNat = d) := Lib.hid (by omega)
      rw [hd] at c0
      have hd1 : 1 ≤ d := by omega
      have hd40 : d ≤ 40 := by omega
      have HCE := Lib.hid hd
      clear hd e0 e1
      obtain ⟨S, hSS⟩ : ∃ S, serL (l.take j) = S := ⟨_, rfl⟩
      rw [hSS] at hF HSN
      have HBS : Hid (∀ q, q < 41 → 0 ≤ dS S d q ∧ dS S d q ≤ 7984925229121) := Lib.hid (fun q hq => by
        have h := HBJ.out q hq
        rwa [HSN.out, HD2.out] at h)
      clear hSS
      go_wp2_with fail
      obtain ⟨wo, hwo⟩ : ∃ wo, wo = wr := ⟨_, rfl⟩
      go_loopw [7] (fun i wr => ∃ n : Nat, d ≤ n ∧ n ≤ k + 1 + d ∧ i = .int .i64 n ∧ RowF wr w.heap.size (k + 1) (dM S d n) ∧ Below w.heap.size w wr) (fun i _ => k + 1 + d - (intOf i).toNat)
      case atStart => exact ⟨d, by omega, by omega, rfl, hF.congr (fun q _ => dM_start.symm), hbel⟩
      case round =>
        clear hF hbel c0 hwo
        obtain ⟨n, hn1, hn2, rfl, hF, hbel⟩ := hrel
        by_cases hlk : n ≤ k
        · have hlk' : (n : Int) ≤ (k : Int) := by omega
          have c0 := (HT.out.below hbel hbb) j hlt
          rw [HCE.out] at c0
          have c1 := hF.cell (k := n) (by omega)
          have c2 := hF.cell (k := n - d) (by omega)
          have f1 := hF.frozen n
          have hat := dM_at (S := S) hd1 hn1
          have hbb1 := HBS.out n (by omega)
          obtain ⟨X, hX⟩ : ∃ X, dM S d n n = X := ⟨_, rfl⟩
          obtain ⟨Y, hY⟩ : ∃ Y, dM S d n (n - d) = Y := ⟨_, rfl⟩
          obtain ⟨m, hm⟩ : ∃ m, n - d = m := ⟨_, rfl⟩
          rw [hX] at c1 hat
          rw [hY] at c2 hat
          rw [hm] at c2
          have hmm : (n : Int) - (d : Int) = (m : Int) := by omega
          have hmk2 : m < k + 1 := by omega
          have hnk2 : n < k + 1 := by omega
          have hwx : IntKind.i64.wrap (X + Y) = X + Y := IntWalk.i64_in _ (by omega)
          have hF2 : RowF (wr.drew.setCell ⟨w.heap.size, n, none⟩ (.int .i64 (X + Y))) w.heap.size (k + 1) (dM S d (n + 1)) := hF.drew.set n (X + Y) (fun q _ => by rw [hat]; exact dM_succ)
          have hb2 : Below w.heap.size w (wr.drew.setCell ⟨w.heap.size, n, none⟩ (.int .i64 (X + Y))) := hbel.drew.setCell (by simp) _
          clear hF hbel hat hbb1 hX hY hm
          go_wp2_with fail
          go_region
          all_goals
            go_wp2_with fail
            go_roundw
            case rel => exact ⟨n + 1, by omega, by omega, by go_num, hF2, hb2⟩
            case measure => simp [intOf]; omega
        · have hlk' : ¬ (n : Int) ≤ (k : Int) := by omega
          have hFn : RowF wr w.heap.size (k + 1) (serL (l.take (j + 1))) := hF.congr (fun q hq => by
            rw [HSN.out, HD2.out]
            unfold dM
            rw [if_pos (by omega)])
          clear hF
          go_wp2_with fail
          go_roundw
          case rel => exact ⟨j + 1, by omega, by go_num, hFn, hbel⟩
          case measure => simp [intOf]; omega
    · obtain rfl : j = l.length := by omega
      rw [List.take_length] at hF
      go_wp2_with fail
      go_ret
      exact ⟨_, rfl, hF.toV (Nat.le_refl _) rfl, hbel⟩

theorem sSer (v : Value) (l : List Int) (k : Int) (w : World) (hl : l.length ≤ 1048576) (hS : Sl w v l) :
    Calls Try.prog 5 #[v, .int .i64 k] w fun e w' => ∃ v', e = .returned (.tuple #[v', .int .i64 (rSer l k).2]) ∧ Sl w' v' (rSer l k).1 ∧ Below w.heap.size w w' := by
  obtain ⟨aa, ac, rfl, _⟩ := id hS
  cases h1 : degB l
  · have HX : Hid (rSer l k = ([], 2)) := Lib.hid (by simp [rSer, h1])
    have H1 := Lib.hid h1
    clear h1
    go_enter Try.func5, Try.ntmps5
    go_wp2_with fail
    ((with_reducible refine (sdeg _ l _ hl hS).mono ?_); rintro e w1 ⟨rfl, rfl⟩)
    rw [H1.out]
    go_wp2_with fail
    go_ret2
    rw [HX.out]
    exact ⟨_, rfl, ⟨none, 0, rfl, .inl rfl⟩, Below.refl _ _⟩
  cases h2 : (decide (0 ≤ k) && decide (k ≤ 40))
  · have HX : Hid (rSer l k = ([], 2)) := Lib.hid (by simp only [rSer, h2, Bool.and_false]; rfl)
    have H1 := Lib.hid h1
    have H2 := Lib.hid h2
    clear h1 h2
    go_enter Try.func5, Try.ntmps5
    go_wp2_with fail
    ((with_reducible refine (sdeg _ l _ hl hS).mono ?_); rintro e w1 ⟨rfl, rfl⟩)
    rw [H1.out]
    go_wp2_with fail
    ((with_reducible refine (sin_is k 0 40 _ _ H2.out).mono ?_); rintro e w1 ⟨rfl, rfl⟩)
    go_wp2_with fail
    go_ret2
    rw [HX.out]
    exact ⟨_, rfl, ⟨none, 0, rfl, .inl rfl⟩, Below.refl _ _⟩
  · have h3 : 0 ≤ k ∧ k ≤ 40 := by simpa using h2
    obtain ⟨n, rfl⟩ : ∃ n : Nat, k = (n : Int) := ⟨k.toNat, by omega⟩
    have HX : Hid (rSer l (n : Int) = ((List.range (n + 1)).map (serL l), 0)) := Lib.hid (by simp [rSer, h1]; omega)
    have hn : n ≤ 40 := by omega
    have H1 := Lib.hid h1
    have H2 := Lib.hid h2
    clear h1 h2 h3
    go_enter Try.func5, Try.ntmps5
    go_wp2_with fail
    ((with_reducible refine (sdeg _ l _ hl hS).mono ?_); rintro e w1 ⟨rfl, rfl⟩)
    rw [H1.out]
    go_wp2_with fail
    ((with_reducible refine (sin_is (n : Int) 0 40 _ _ H2.out).mono ?_); rintro e w1 ⟨rfl, rfl⟩)
    go_wp2_with fail
    ((with_reducible refine (sof4 _ l n _ hn (degL_of H1.out) hS).mono ?_); rintro e w2 ⟨v2, rfl, ho, hb2⟩)
    go_wp2_with fail
    go_ret2
    rw [HX.out]
    exact ⟨_, rfl, ho.sl, hb2⟩
end Go.Proofs.Ytgbnlnpffhlipaa
