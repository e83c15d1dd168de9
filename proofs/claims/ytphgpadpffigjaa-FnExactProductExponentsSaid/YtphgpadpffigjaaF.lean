/-
  WALKS: polynomials as arguments of the laws: sizes, copies, comparing; 'IsPoly' of model and program at every polynomial value. Conditions: as each theorem states.
-/
import Derived.Test.YtphgpadpffigjaaE
namespace Go.Proofs.Ytphgpadpffigjaa
open Go.RowKit Go.Sort

/-- A slice that reads as these terms. -/
def SliceT (w : World) (v : Value) (ts : List Tm) : Prop :=
  ∃ a cap, v = .slice a ts.length cap ∧ (ts = [] ∨ ∃ b off, a = some ⟨b, off, none⟩ ∧ b < w.heap.size ∧ Terms w b off ts)
theorem SliceT.below {w w' : World} {v : Value} {ts : List Tm} (h : SliceT w v ts) (hb : Below w.heap.size w w') : SliceT w' v ts := by
  obtain ⟨a, cap, hv, h | ⟨b, off, ha, hlt, hT⟩⟩ := h
  · exact ⟨a, cap, hv, .inl h⟩
  · exact ⟨a, cap, hv, .inr ⟨b, off, ha, Nat.lt_of_lt_of_le hlt hb.size, hT.below hb hlt⟩⟩
/-- A slice of the call's own that holds these terms. -/
def OwnT (w : World) (base : Nat) (v : Value) (ts : List Tm) : Prop :=
  ∃ g f, v = .slice (some ⟨g, 0, none⟩) ts.length ts.length ∧ base ≤ g ∧ w.rowIs g 92 (ts.length * 4) f ∧ rowT ts ts.length f
theorem OwnT.slice {w : World} {base : Nat} {v : Value} {ts : List Tm} (h : OwnT w base v ts) : SliceT w v ts := by
  obtain ⟨g, f, hv, _, hr, ht⟩ := h
  refine ⟨_, _, hv, .inr ⟨g, 0, rfl, hr.lt, fun k hk => ?_⟩⟩
  obtain ⟨h0, h1, h2, h3⟩ := ht k hk hk
  refine ⟨?_, ?_, ?_, ?_⟩
  · rw [Nat.zero_add, hr.cell (by omega), h0]
  · rw [Nat.zero_add, hr.cell (by omega), h1]
  · rw [Nat.zero_add, hr.cell (by omega), h2]
  · rw [Nat.zero_add, hr.cell (by omega), h3]
theorem OwnT.below {w w' : World} {base : Nat} {v : Value} {ts : List Tm} (h : OwnT w base v ts) (hb : Below w.heap.size w w') : OwnT w' base v ts := by
  obtain ⟨g, f, hv, hg, hr, ht⟩ := h
  exact ⟨g, f, hv, hg, rowIs_below hr hb hr.lt, ht⟩

theorem toTermS_any (v : Value) (ts : List Tm) (w : World) (hl : ts.length ≤ 1048576) (hS : SliceT w v ts) :
    Calls Try.prog 65 #[v] w fun e w' => ∃ v', e = .returned v' ∧ OwnT w' w.heap.size v' ts ∧ Below w.heap.size w w' := by
  obtain ⟨a, cap, rfl, h | ⟨b, off, rfl, hlt, hT⟩⟩ := hS
  · subst h
    obtain ⟨i0, hi, hz0, hz1, hz2⟩ := info_parts infoTerm
    have hmk : ∀ w, (Instr.makeSlice 34 (.int .i64 0) (.int .i64 0)).run Try.prog w = .ok (.slice (some ⟨w.heap.size, 0, none⟩) 0 0) (w.alloc (.cells (madeT 0) 92)) := fun w => by
      have h := run_make (P := Try.prog) w 34 92 i0 _ Try.underlying34 hi hz0 .i64 .i64 0 0 (by omega) (by omega) (by rw [hz2]; omega) (by omega)
      rw [hz1] at h
      simpa [madeT] using h
    clear hi hz0 hz1 hz2
    go_enter Try.func65, Try.ntmps65
    go_wp2
    refine wp_loop_rounds 1 ?_
    rw [rounds_succ]
    go_wp2
    go_ret
    exact ⟨_, rfl, ⟨w.heap.size, _, rfl, Nat.le_refl _, madeT_row w 0 _, fun j h => by simp at h⟩, box1 _ _⟩
  · exact (toTermS_some b off cap ts w hl hlt hT).mono fun e w' ⟨he, f, hr, ht, hb⟩ => ⟨_, he, ⟨w.heap.size, f, rfl, Nat.le_refl _, hr, ht⟩, hb⟩

/-- A polynomial value. -/
abbrev pv (p d : Int) (v : Value) : Value := .agg #[.int .i64 p, .int .i64 d, v]

set_option maxHeartbeats 1000000 in
theorem toPoly_any (p d : Int) (v : Value) (ts : List Tm) (w : World) (hl : ts.length ≤ 1048576) (hS : SliceT w v ts) :
    Calls Try.prog 27 #[.agg #[.int .i64 p, .int .i64 d, v]] w fun e w' => ∃ v', e = .returned (.agg #[.int .i64 p, .int .i64 d, v']) ∧ OwnT w' w.heap.size v' ts ∧ Below w.heap.size w w' := by
  have hS3 : ∀ o1 o2 o3, SliceT (((w.alloc o1).alloc o2).alloc o3) v ts := fun o1 o2 o3 => hS.below (box3 _ _ _ _)
  obtain ⟨a, cap, hv, _⟩ := id hS
  subst hv
  go_enter Try.func27, Try.ntmps27
  go_wp2_with fail
  ((with_reducible refine (toTermS_any _ ts _ hl (hS3 _ _ _)).mono ?_); rintro e w1 ⟨v', rfl, hown, hb⟩)
  obtain ⟨hc, hf⟩ := old_cells hb
  have hz : w.heap.size + 1 + 1 < w1.heap.size := by have := hb.size; simp at this; omega
  have hb0 := (box3 _ _ _ _).trans (hb.mono (by simp; omega))
  obtain ⟨g, f, rfl, hg, hr, ht⟩ := hown
  simp only [World.size_alloc] at hg
  clear hb hS3
  go_wp2
  exact bodyPost_ret (v := .agg #[.int .i64 p, .int .i64 d, .slice (some ⟨g, 0, none⟩) ts.length ts.length]) (by simp [results, Try.results27, go_sem, hc]) rfl ⟨_, rfl, ⟨g, f, rfl, by omega, by repeat (first | with_reducible exact hr | with_reducible refine World.rowIs.setOther ?_ (by simp; omega) _), ht⟩, by repeat (first | with_reducible exact hb0 | with_reducible refine Below.setCell ?_ (by simp; try omega) _)⟩

theorem isPoly_nil (p d : Int) (a : Option Addr) (cap : Nat) (w : World) (hp : primeB p = true) (h1 : 1 ≤ d) (h3 : d ≤ 3) :
    Calls Try.prog 66 #[.agg #[.int .i64 p, .int .i64 d, .slice a 0 cap]] w fun e w' => e = .returned (.bool true) ∧ Below w.heap.size w w' := by
  have HP := Lib.hid hp
  clear hp
  go_enter Try.func66, Try.ntmps66
  go_wp2_with fail
  ((with_reducible refine (prime_yes _ _ HP.out).mono ?_); rintro e w1 ⟨rfl, rfl⟩)
  go_wp2_with fail
  ((with_reducible refine (vars_t _ _ h1 h3).mono ?_); rintro e w1 ⟨rfl, rfl⟩)
  go_wp2
  refine wp_loop_rounds 1 ?_
  rw [rounds_succ]
  go_wp2
  go_ret
  exact ⟨rfl, box1 _ _⟩

theorem isPoly_any (p d : Int) (v : Value) (ts : List Tm) (w : World) (hl : ts.length ≤ 1048576) (hS : SliceT w v ts) (hby : ∀ t ∈ ts, tmByte t) :
    Calls Try.prog 66 #[.agg #[.int .i64 p, .int .i64 d, v]] w fun e w' => e = .returned (.bool (isPolyB p d ts)) ∧ Below w.heap.size w w' := by
  cases hp : primeB p
  · have HB : Hid (isPolyB p d ts = false) := Lib.hid (by simp [isPolyB, hp])
    have HP := Lib.hid hp
    clear hp
    obtain ⟨a, cap, rfl, _⟩ := hS
    go_enter Try.func66, Try.ntmps66
    go_wp2_with fail
    ((with_reducible refine (prime_no _ _ HP.out).mono ?_); rintro e w1 ⟨rfl, rfl⟩)
    go_wp2
    go_ret
    exact ⟨by rw [HB.out]; rfl, box1 _ _⟩
  · by_cases hd : 1 ≤ d ∧ d ≤ 3
    · obtain ⟨h1, h3⟩ := hd
      have hB : isPolyB p d ts = tailB p d ts 0 := by simp [isPolyB, hp, h1, h3]
      rw [hB]
      obtain ⟨a, cap, rfl, h | ⟨b, off, rfl, hlt, hT⟩⟩ := hS
      · subst h
        exact (isPoly_nil p d a cap w hp h1 h3).mono fun e w' ⟨he, hb⟩ => ⟨by rw [he]; rfl, hb⟩
      · exact isPoly_in p d b off cap ts w hl hlt hT hby hp h1 h3
    · have HB : Hid (isPolyB p d ts = false) := Lib.hid (by simp [isPolyB]; omega)
      have HP := Lib.hid hp
      have hd' : d < 1 ∨ 3 < d := by omega
      clear hp hd
      obtain ⟨a, cap, rfl, _⟩ := hS
      go_enter Try.func66, Try.ntmps66
      go_wp2_with fail
      ((with_reducible refine (prime_yes _ _ HP.out).mono ?_); rintro e w1 ⟨rfl, rfl⟩)
      go_wp2_with fail
      ((with_reducible refine (vars_f _ _ hd').mono ?_); rintro e w1 ⟨rfl, rfl⟩)
      go_wp2
      go_ret
      exact ⟨by rw [HB.out]; rfl, box1 _ _⟩

theorem specIs_nil (p d : Int) (a : Option Addr) (cap : Nat) (w : World) (hp : primeB p = true) (h1 : 1 ≤ d) (h3 : d ≤ 3) :
    Calls Try.prog 42 #[.agg #[.int .i64 p, .int .i64 d, .slice a 0 cap]] w fun e w' => e = .returned (.bool true) ∧ Below w.heap.size w w' := by
  have HP := Lib.hid hp
  have hin : (decide (1 ≤ d) && decide (d ≤ 3)) = true := by simp [h1, h3]
  have HIN := Lib.hid hin
  clear hp hin
  go_enter Try.func42, Try.ntmps42
  go_wp2_with fail
  ((with_reducible refine (sprime_is _ _ true HP.out).mono ?_); rintro e w1 ⟨rfl, rfl⟩)
  go_wp2_with fail
  ((with_reducible refine (sin_is _ _ _ _ true HIN.out).mono ?_); rintro e w1 ⟨rfl, rfl⟩)
  go_wp2
  refine wp_loop_rounds 1 ?_
  rw [rounds_succ]
  go_wp2
  go_ret
  exact ⟨rfl, box1 _ _⟩

theorem specIs_any (p d : Int) (v : Value) (ts : List Tm) (w : World) (hl : ts.length ≤ 1048576) (hS : SliceT w v ts) (hby : ∀ t ∈ ts, tmByte t) :
    Calls Try.prog 42 #[.agg #[.int .i64 p, .int .i64 d, v]] w fun e w' => e = .returned (.bool (isPolyB p d ts)) ∧ Below w.heap.size w w' := by
  cases hp : primeB p
  · have HB : Hid (isPolyB p d ts = false) := Lib.hid (by simp [isPolyB, hp])
    have HP := Lib.hid hp
    clear hp
    obtain ⟨a, cap, rfl, _⟩ := hS
    go_enter Try.func42, Try.ntmps42
    go_wp2_with fail
    ((with_reducible refine (sprime_is _ _ false HP.out).mono ?_); rintro e w1 ⟨rfl, rfl⟩)
    go_wp2
    go_ret
    exact ⟨by rw [HB.out]; rfl, box1 _ _⟩
  · by_cases hd : 1 ≤ d ∧ d ≤ 3
    · obtain ⟨h1, h3⟩ := hd
      have hB : isPolyB p d ts = tailB p d ts 0 := by simp [isPolyB, hp, h1, h3]
      rw [hB]
      obtain ⟨a, cap, rfl, h | ⟨b, off, rfl, hlt, hT⟩⟩ := hS
      · subst h
        exact (specIs_nil p d a cap w hp h1 h3).mono fun e w' ⟨he, hb⟩ => ⟨by rw [he]; rfl, hb⟩
      · exact specIs_in p d b off cap ts w hl hlt hT hby hp h1 h3
    · have HB : Hid (isPolyB p d ts = false) := Lib.hid (by simp [isPolyB]; omega)
      have HP := Lib.hid hp
      have HIN : Hid ((decide (1 ≤ d) && decide (d ≤ 3)) = false) := Lib.hid (by simp; omega)
      clear hp hd
      obtain ⟨a, cap, rfl, _⟩ := hS
      go_enter Try.func42, Try.ntmps42
      go_wp2_with fail
      ((with_reducible refine (sprime_is _ _ true HP.out).mono ?_); rintro e w1 ⟨rfl, rfl⟩)
      go_wp2_with fail
      ((with_reducible refine (sin_is _ _ _ _ false HIN.out).mono ?_); rintro e w1 ⟨rfl, rfl⟩)
      go_wp2
      go_ret
      exact ⟨by rw [HB.out]; rfl, box1 _ _⟩

/-- The size that is left behind a polynomial, -1 if none is. -/
def leftOf (left : Int) (n : Nat) : Int := if left - n < 0 then -1 else left - n
theorem szPoly_any (p d left : Int) (v : Value) (ts : List Tm) (w : World) (hn : ts.length ≤ 9223372036854775807) (h0 : 0 ≤ left) (h1 : left ≤ 1048576) (hS : SliceT w v ts) :
    Calls Try.prog 25 #[.agg #[.int .i64 p, .int .i64 d, v], .int .i64 left] w fun e w' => e = .returned (.int .i64 (leftOf left ts.length)) ∧ Below w.heap.size w w' := by
  obtain ⟨a, cap, rfl, _⟩ := hS
  by_cases h : left - ts.length < 0
  · go_enter Try.func25, Try.ntmps25
    go_wp2_with go_in
    go_ret
    exact ⟨by simp [leftOf, h], box1 _ _⟩
  · go_enter Try.func25, Try.ntmps25
    go_wp2_with go_in
    go_ret
    exact ⟨by simp [leftOf]; omega, box1 _ _⟩

end Go.Proofs.Ytphgpadpffigjaa
