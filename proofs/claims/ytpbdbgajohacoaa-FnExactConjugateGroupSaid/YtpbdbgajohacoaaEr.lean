/-
  WALKS of the program on matrices: determinants, whether something is a matrix. Conditions: as each theorem states.
-/
import Derived.Test.YtpbdbgajohacoaaEq
namespace Go.Proofs.Ytpbdbgajohacoaa
open Go.RowKit Go.Sort EchM

theorem cof_row0 (p : Int) (f : Nat → Nat → Int) (j : Nat) (w : World) (hj : j < 3) (h2 : 2 ≤ p) (h13 : p ≤ 13) (hf : ∀ i, i < 3 → ∀ j, j < 3 → 0 ≤ f i j ∧ f i j < p) :
    Calls Try.prog 98 #[.int .i64 p, mv f, .int .i64 0, .int .i64 (j : Int)] w fun e w' => e = .returned (.int .i64 (cofP p f 0 j)) ∧ Below w.heap.size w w' := by
  have hj3 : j = 0 ∨ j = 1 ∨ j = 2 := by omega
  rcases hj3 with rfl | rfl | rfl
  · exact cof_00 p f w h2 h13 hf
  · exact cof_01 p f w h2 h13 hf
  · exact cof_02 p f w h2 h13 hf
theorem cof_any (p : Int) (f : Nat → Nat → Int) (i j : Nat) (w : World) (hi : i < 3) (hj : j < 3) (h2 : 2 ≤ p) (h13 : p ≤ 13) (hf : ∀ i, i < 3 → ∀ j, j < 3 → 0 ≤ f i j ∧ f i j < p) :
    Calls Try.prog 98 #[.int .i64 p, mv f, .int .i64 (i : Int), .int .i64 (j : Int)] w fun e w' => e = .returned (.int .i64 (cofP p f i j)) ∧ Below w.heap.size w w' := by
  have hi3 : i = 0 ∨ i = 1 ∨ i = 2 := by omega
  have hj3 : j = 0 ∨ j = 1 ∨ j = 2 := by omega
  rcases hi3 with rfl | rfl | rfl
  · exact cof_row0 p f j w hj h2 h13 hf
  · rcases hj3 with rfl | rfl | rfl
    · exact cof_10 p f w h2 h13 hf
    · exact cof_11 p f w h2 h13 hf
    · exact cof_12 p f w h2 h13 hf
  · rcases hj3 with rfl | rfl | rfl
    · exact cof_20 p f w h2 h13 hf
    · exact cof_21 p f w h2 h13 hf
    · exact cof_22 p f w h2 h13 hf
theorem full_bound {p : Int} {n : Nat} {g : Nat → Nat → Int} (h2 : 2 ≤ p) (hg : ∀ i, i < 3 → ∀ j, j < 3 → 0 ≤ g i j ∧ g i j < p) : ∀ i, i < 3 → ∀ j, j < 3 → 0 ≤ fullM n g i j ∧ fullM n g i j < p := fun i hi j hj => by
  unfold fullM
  split
  · omega
  · exact hg i hi j hj
/-- The sum of a determinant up to a column. -/
def dsum (p : Int) (f : Nat → Nat → Int) : Nat → Int
  | 0 => 0
  | j + 1 => dsum p f j + f 0 j * cofP p f 0 j
theorem cofP_bound {p : Int} (h2 : 2 ≤ p) (f : Nat → Nat → Int) (i j : Nat) : 0 ≤ cofP p f i j ∧ cofP p f i j < p := emod_small h2
theorem dsum_bound {p : Int} (h2 : 2 ≤ p) (h13 : p ≤ 13) {f : Nat → Nat → Int} (hf : ∀ i, i < 3 → ∀ j, j < 3 → 0 ≤ f i j ∧ f i j < p) : ∀ j, j ≤ 3 → 0 ≤ dsum p f j ∧ dsum p f j ≤ 169 * j
  | 0, _ => ⟨by simp [dsum], by simp [dsum]⟩
  | j + 1, hj => by
    have ih := dsum_bound h2 h13 hf j (by omega)
    obtain ⟨f0, f1⟩ := eprod_fit h13 (hf 0 (by omega) j (by omega)) (cofP_bound h2 f 0 j)
    rw [dsum]
    omega

set_option maxRecDepth 8000 in
set_option maxHeartbeats 4000000 in
theorem det_any (p : Int) (n : Nat) (g : Nat → Nat → Int) (w : World) (h2 : 2 ≤ p) (h13 : p ≤ 13) (h1 : 1 ≤ n) (h3 : n ≤ 3) (hg : ∀ i, i < 3 → ∀ j, j < 3 → 0 ≤ g i j ∧ g i j < p) :
    Calls Try.prog 78 #[.int .i64 p, .int .i64 (n : Int), mv g] w fun e w' => e = .returned (.int .i64 (detP p (fullM n g))) ∧ Below w.heap.size w w' := by
  have hF := full_bound (n := n) h2 hg
  have HM := Lib.hid (show mv g = .agg #[.int .u8 (g 0 0), .int .u8 (g 0 1), .int .u8 (g 0 2), .int .u8 (g 1 0), .int .u8 (g 1 1), .int .u8 (g 1 2), .int .u8 (g 2 0), .int .u8 (g 2 1), .int .u8 (g 2 2)] from rfl)
  obtain ⟨f, hf⟩ : ∃ f, fullM n g = f := ⟨_, rfl⟩
  have HM2 := Lib.hid (show mv f = .agg #[.int .u8 (f 0 0), .int .u8 (f 0 1), .int .u8 (f 0 2), .int .u8 (f 1 0), .int .u8 (f 1 1), .int .u8 (f 1 2), .int .u8 (f 2 0), .int .u8 (f 2 1), .int .u8 (f 2 2)] from rfl)
  have cF := fun w => filled_any n g w h1 h3
  rw [hf] at hF cF ⊢
  rw [HM.out] at cF ⊢
  rw [HM2.out] at cF
  have HF := Lib.hid hF
  have CF := Lib.hid cF
  have cC : ∀ (j : Nat) (w : World), j < 3 → Calls Try.prog 98 #[.int .i64 p, .agg #[.int .u8 (f 0 0), .int .u8 (f 0 1), .int .u8 (f 0 2), .int .u8 (f 1 0), .int .u8 (f 1 1), .int .u8 (f 1 2), .int .u8 (f 2 0), .int .u8 (f 2 1), .int .u8 (f 2 2)], .int .i64 0, .int .i64 (j : Int)] w fun e w' => e = .returned (.int .i64 (cofP p f 0 j)) ∧ Below w.heap.size w w' :=
    fun j w hj => cof_row0 p f j w hj h2 h13 hF
  have CC := Lib.hid cC
  have DB := Lib.hid (fun j hj => dsum_bound h2 h13 hF j hj)
  have HD := Lib.hid (show detP p f = dsum p f 3 % p by simp [detP, dsum])
  clear hf hF cF cC HM HM2
  go_enter Try.func78, Try.ntmps78
  go_wp2_with fail
  generalize hW : w.alloc _ = W
  have hbW : Below w.heap.size w W := by rw [← hW]; exact ebox1 _ _
  clear hW
  ((with_reducible refine (CF.out W).mono ?_); rintro e w1 ⟨rfl, hb1⟩)
  have hb2 := hbW.trans (hb1.mono hbW.size)
  obtain ⟨V, hV, rV, hbV⟩ : ∃ V, V = w1.alloc (.cells #[.int .u8 (f 0 0), .int .u8 (f 0 1), .int .u8 (f 0 2), .int .u8 (f 1 0), .int .u8 (f 1 1), .int .u8 (f 1 2), .int .u8 (f 2 0), .int .u8 (f 2 1), .int .u8 (f 2 2)] 55) ∧ V.rowIs w1.heap.size 55 9 (mF f) ∧ Below w1.heap.size w1 V := ⟨_, rfl, mbox w1 f _, ebox1 _ _⟩
  have hb3 := hb2.trans (hbV.mono hb2.size)
  go_wp2_with fail
  rw [← hV]
  clear hV
  go_loopw [8, 16] (fun s i wr => ∃ (k : Nat), k ≤ 3 ∧ s = .int .i64 (dsum p f k) ∧ i = .int .i64 k ∧ Below V.heap.size V wr) (fun _ i _ => 3 - (intOf i).toNat)
  case atStart => exact ⟨0, by omega, rfl, rfl, Below.refl _ _⟩
  case round =>
    obtain ⟨k, hk, rfl, rfl, hb⟩ := hrel
    have rr := erow_below rV hb rV.lt
    obtain ⟨d0, d1⟩ := DB.out k hk
    by_cases hlt : k < 3
    · have hlt' : (k : Int) < 3 := by omega
      have hI := idx3 (f 0) hlt
      obtain ⟨⟨c0, c1, c2⟩, ⟨c3, c4, c5⟩, c6, c7, c8⟩ := mcells rr
      obtain ⟨x0, x1⟩ := HF.out 0 (by omega) k hlt
      obtain ⟨y0, y1⟩ := cofP_bound h2 f 0 k
      obtain ⟨f0, f1⟩ := eprod_fit h13 ⟨x0, x1⟩ ⟨y0, y1⟩
      have HS := Lib.hid (show dsum p f k + f 0 k * cofP p f 0 k = dsum p f (k + 1) from rfl)
      clear rr
      go_wp2_with fail
      ((with_reducible refine (CC.out k _ hlt).mono ?_); rintro e w4 ⟨rfl, hb4⟩)
      have hb5 := hb.trans (hb4.mono hb.size)
      go_wp2_with fail
      go_roundw
      case rel => exact ⟨k + 1, by omega, by rw [← HS.out], by go_num, hb5⟩
      case measure => simp [intOf]; omega
    · obtain rfl : k = 3 := by omega
      go_wp2_with fail
      go_ret
      exact ⟨by rw [HD.out]; rfl, hb3.trans (hb.mono hb3.size)⟩
end Go.Proofs.Ytpbdbgajohacoaa
