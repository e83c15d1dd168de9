/-
  WALKS of the program: 'IsMatrix' at every value. Conditions: the numbers are bytes.
-/
import Derived.Test.YtpbdbgajohacoaaEr
namespace Go.Proofs.Ytpbdbgajohacoaa
open Go.RowKit Go.Sort EchM

/-- Whether p, n and g make a matrix. -/
def isMat (p n : Int) (g : Nat → Nat → Int) : Bool := pB p && ((decide (1 ≤ n) && decide (n ≤ 3)) && (hasB p n g && decide (detP p (fullM n.toNat g) ≠ 0)))
theorem okC_bound {p n x : Int} {i j : Nat} (h : okC p n x i j = true) : x < p ∧ ((n ≤ i ∨ n ≤ j) → x = 0) := by
  unfold okC at h
  simp only [Bool.and_eq_true, Bool.or_eq_true, decide_eq_true_eq] at h
  omega
theorem hasB_all {p n : Int} {g : Nat → Nat → Int} (h : hasB p n g = true) : ∀ i, i < 3 → ∀ j, j < 3 → okC p n (g i j) i j = true := by
  unfold hasB at h
  simp only [Bool.and_eq_true] at h
  obtain ⟨⟨⟨⟨a, b⟩, c⟩, ⟨d, e⟩, f⟩, ⟨x, y⟩, z⟩ := h
  intro i hi j hj
  have hi3 : i = 0 ∨ i = 1 ∨ i = 2 := by omega
  have hj3 : j = 0 ∨ j = 1 ∨ j = 2 := by omega
  rcases hi3 with rfl | rfl | rfl <;> rcases hj3 with rfl | rfl | rfl <;> assumption
theorem hasB_bound {p n : Int} {g : Nat → Nat → Int} (hg : Byt g) (h : hasB p n g = true) : ∀ i, i < 3 → ∀ j, j < 3 → 0 ≤ g i j ∧ g i j < p := fun i hi j hj => ⟨(hg i hi j hj).1, (okC_bound (hasB_all h i hi j hj)).1⟩
theorem hasB_out {p : Int} {n : Nat} {g : Nat → Nat → Int} (h : hasB p n g = true) : Out0 n g := fun i hi j hj ho => (okC_bound (hasB_all h i hi j hj)).2 (by omega)

theorem iprime_is (p : Int) (w : World) (B : Bool) (h : pB p = B) : Calls Try.prog 43 #[.int .i64 p] w fun e w' => e = .returned (.bool B) ∧ w = w' := by rw [← h]; exact iprime p w
theorem ivars_is (n : Int) (w : World) (B : Bool) (h : (decide (1 ≤ n) && decide (n ≤ 3)) = B) : Calls Try.prog 44 #[.int .i64 n] w fun e w' => e = .returned (.bool B) ∧ w = w' := by rw [← h]; exact ivars n w
theorem has_is (p n : Int) (g : Nat → Nat → Int) (w : World) (hg : Byt g) (B : Bool) (h : hasB p n g = B) :
    Calls Try.prog 77 #[.int .i64 p, .int .i64 n, .agg #[.int .u8 (g 0 0), .int .u8 (g 0 1), .int .u8 (g 0 2), .int .u8 (g 1 0), .int .u8 (g 1 1), .int .u8 (g 1 2), .int .u8 (g 2 0), .int .u8 (g 2 1), .int .u8 (g 2 2)]] w fun e w' => e = .returned (.bool B) ∧ Below w.heap.size w w' := by rw [← h]; exact has_any p n g w hg
theorem det_is (p : Int) (n : Nat) (g : Nat → Nat → Int) (w : World) (h2 : 2 ≤ p) (h13 : p ≤ 13) (h1 : 1 ≤ n) (h3 : n ≤ 3) (hg : ∀ i, i < 3 → ∀ j, j < 3 → 0 ≤ g i j ∧ g i j < p) (D : Int) (h : detP p (fullM n g) = D) :
    Calls Try.prog 78 #[.int .i64 p, .int .i64 (n : Int), .agg #[.int .u8 (g 0 0), .int .u8 (g 0 1), .int .u8 (g 0 2), .int .u8 (g 1 0), .int .u8 (g 1 1), .int .u8 (g 1 2), .int .u8 (g 2 0), .int .u8 (g 2 1), .int .u8 (g 2 2)]] w fun e w' => e = .returned (.int .i64 D) ∧ Below w.heap.size w w' := by rw [← h]; exact det_any p n g w h2 h13 h1 h3 hg

set_option maxRecDepth 8000 in
set_option maxHeartbeats 4000000 in
theorem isMatrix_any (p n : Int) (g : Nat → Nat → Int) (w : World) (hg : Byt g) :
    Calls Try.prog 42 #[.int .i64 p, .int .i64 n, mv g] w fun e w' => e = .returned (.bool (isMat p n g)) ∧ Below w.heap.size w w' := by
  obtain ⟨W, hW, rW, hbW⟩ : ∃ W, W = w.alloc (.cells #[.int .u8 (g 0 0), .int .u8 (g 0 1), .int .u8 (g 0 2), .int .u8 (g 1 0), .int .u8 (g 1 1), .int .u8 (g 1 2), .int .u8 (g 2 0), .int .u8 (g 2 1), .int .u8 (g 2 2)] 55) ∧ W.rowIs w.heap.size 55 9 (mF g) ∧ Below w.heap.size w W := ⟨_, rfl, mbox w g _, ebox1 _ _⟩
  unfold mv
  cases hp : pB p
  · have HX := Lib.hid (show isMat p n g = false by simp [isMat, hp])
    have HP := Lib.hid hp
    clear hp hg
    go_enter Try.func42, Try.ntmps42
    go_wp2_with fail
    rw [← hW]
    clear hW
    ((with_reducible refine (iprime_is p _ false HP.out).mono ?_); rintro e w1 ⟨rfl, rfl⟩)
    go_wp2_with fail
    go_ret
    exact ⟨by rw [HX.out]; rfl, hbW⟩
  · have HP := Lib.hid hp
    cases hv : (decide (1 ≤ n) && decide (n ≤ 3))
    · have HX := Lib.hid (show isMat p n g = false by rw [isMat, hv]; simp)
      have HV := Lib.hid hv
      clear hp hg hv
      go_enter Try.func42, Try.ntmps42
      go_wp2_with fail
      rw [← hW]
      clear hW
      ((with_reducible refine (iprime_is p _ true HP.out).mono ?_); rintro e w1 ⟨rfl, rfl⟩)
      go_wp2_with fail
      ((with_reducible refine (ivars_is n _ false HV.out).mono ?_); rintro e w2 ⟨rfl, rfl⟩)
      go_wp2_with fail
      go_ret
      exact ⟨by rw [HX.out]; rfl, hbW⟩
    · have HV := Lib.hid hv
      obtain ⟨⟨⟨c0, c1, c2⟩, ⟨c3, c4, c5⟩, c6, c7, c8⟩⟩ := And.intro (mcells rW) trivial
      cases hh : hasB p n g
      · have HX := Lib.hid (show isMat p n g = false by rw [isMat, hh]; simp)
        have HH := Lib.hid hh
        clear hp hv hh
        have HG := Lib.hid hg
        clear hg
        go_enter Try.func42, Try.ntmps42
        go_wp2_with fail
        rw [← hW]
        clear hW
        ((with_reducible refine (iprime_is p _ true HP.out).mono ?_); rintro e w1 ⟨rfl, rfl⟩)
        go_wp2_with fail
        ((with_reducible refine (ivars_is n _ true HV.out).mono ?_); rintro e w2 ⟨rfl, rfl⟩)
        go_wp2_with fail
        ((with_reducible refine (has_is p n g _ HG.out false HH.out).mono ?_); rintro e w3 ⟨rfl, hb3⟩)
        go_wp2_with fail
        go_ret
        exact ⟨by rw [HX.out]; rfl, hbW.trans (hb3.mono hbW.size)⟩
      · have hb := hasB_bound hg hh
        obtain ⟨h2, h13⟩ := pB_le hp
        simp only [Bool.and_eq_true, decide_eq_true_eq] at hv
        obtain ⟨m, rfl⟩ := Int.eq_ofNat_of_zero_le (show 0 ≤ n by omega)
        obtain ⟨D, hD⟩ : ∃ D, detP p (fullM m g) = D := ⟨_, rfl⟩
        have HX := Lib.hid (show isMat p m g = decide (D ≠ 0) by rw [isMat, hp, hh, HV.out, ← hD]; simp)
        have HD := Lib.hid hD
        have HH := Lib.hid hh
        have HB := Lib.hid hb
        have HG := Lib.hid hg
        have hm1 : 1 ≤ m := by omega
        have hm3 : m ≤ 3 := by omega
        clear hp hv hh hb hg hD
        go_enter Try.func42, Try.ntmps42
        go_wp2_with fail
        rw [← hW]
        clear hW
        ((with_reducible refine (iprime_is p _ true HP.out).mono ?_); rintro e w1 ⟨rfl, rfl⟩)
        go_wp2_with fail
        ((with_reducible refine (ivars_is m _ true HV.out).mono ?_); rintro e w2 ⟨rfl, rfl⟩)
        go_wp2_with fail
        ((with_reducible refine (has_is p m g _ HG.out true HH.out).mono ?_); rintro e w3 ⟨rfl, hb3⟩)
        obtain ⟨⟨d0, d1, d2⟩, ⟨d3, d4, d5⟩, d6, d7, d8⟩ := mcells (erow_below rW hb3 rW.lt)
        clear c0 c1 c2 c3 c4 c5 c6 c7 c8
        go_wp2_with fail
        ((with_reducible refine (det_is p m g _ h2 h13 hm1 hm3 HB.out D HD.out).mono ?_); rintro e w4 ⟨rfl, hb4⟩)
        have hb5 := (hbW.trans (hb3.mono hbW.size)).trans (hb4.mono (Nat.le_trans hbW.size hb3.size))
        go_wp2_with fail
        go_ret
        have hD2 : (D != 0) = decide (D ≠ 0) := by by_cases h : D = 0 <;> simp [h]
        exact ⟨by rw [HX.out, ← hD2]; rfl, hb5⟩
end Go.Proofs.Ytpbdbgajohacoaa
