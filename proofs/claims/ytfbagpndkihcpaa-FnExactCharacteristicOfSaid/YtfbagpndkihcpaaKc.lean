/-
  DETERMINANTS: the model's. Conditions: as each theorem states.
-/
import Derived.Test.YtfbagpndkihcpaaEn
namespace Go.Proofs.Ytfbagpndkihcpaa
open Go.RowKit Go.Sort EchM

def minorE (f : Nat → Nat → Int) (k : Nat) : Int := f 1 ((k + 1) % 3) * f 2 ((k + 2) % 3) - f 1 ((k + 2) % 3) * f 2 ((k + 1) % 3)
def esum (f : Nat → Nat → Int) : Nat → Int
  | 0 => 0
  | k + 1 => esum f k + f 0 k * minorE f k
theorem esum_end (f : Nat → Nat → Int) : esum f 3 = detE f := by simp [esum, minorE, detE]
theorem mul_in {a b A B : Int} (ha : 0 ≤ a ∧ a ≤ A) (hb : -B ≤ b ∧ b ≤ B) : -(A * B) ≤ a * b ∧ a * b ≤ A * B := by
  have hB : 0 ≤ B := by omega
  have h1 : a * b ≤ a * B := Int.mul_le_mul_of_nonneg_left hb.2 ha.1
  have h2 : a * B ≤ A * B := Int.mul_le_mul_of_nonneg_right ha.2 hB
  have h3 : a * (-B) ≤ a * b := Int.mul_le_mul_of_nonneg_left hb.1 ha.1
  have h4 : a * (-B) = -(a * B) := by rw [Int.mul_neg]
  omega
theorem minor_in {p : Int} (h13 : p ≤ 13) {f : Nat → Nat → Int} (hf : ∀ i, i < 3 → ∀ j, j < 3 → 0 ≤ f i j ∧ f i j < p) (k : Nat) : -169 ≤ minorE f k ∧ minorE f k ≤ 169 := by
  obtain ⟨a0, a1⟩ := eprod_fit h13 (hf 1 (by omega) ((k + 1) % 3) (by omega)) (hf 2 (by omega) ((k + 2) % 3) (by omega))
  obtain ⟨b0, b1⟩ := eprod_fit h13 (hf 1 (by omega) ((k + 2) % 3) (by omega)) (hf 2 (by omega) ((k + 1) % 3) (by omega))
  unfold minorE
  omega
theorem esum_in {p : Int} (h13 : p ≤ 13) {f : Nat → Nat → Int} (hf : ∀ i, i < 3 → ∀ j, j < 3 → 0 ≤ f i j ∧ f i j < p) : ∀ k : Nat, k ≤ 3 → -(2197 * (k : Int)) ≤ esum f k ∧ esum f k ≤ 2197 * (k : Int)
  | 0, _ => ⟨by simp [esum], by simp [esum]⟩
  | k + 1, hk => by
    have ih := esum_in h13 hf k (by omega)
    obtain ⟨x0, x1⟩ := hf 0 (by omega) k (by omega)
    have := mul_in (A := 13) (B := 169) ⟨x0, by omega⟩ (minor_in h13 hf k)
    rw [esum]
    omega
/-- A matrix, filled up to a place. -/
def fillTo (n k : Nat) (g : Nat → Nat → Int) (a b : Nat) : Int := if (b = a ∧ n ≤ a) ∧ a < k then 1 else g a b

set_option maxRecDepth 8000 in
set_option maxHeartbeats 8000000 in
theorem sdet (p : Int) (n : Nat) (g : Nat → Nat → Int) (w : World) (h2 : 2 ≤ p) (h13 : p ≤ 13) (h3 : n ≤ 3) (hg : ∀ i, i < 3 → ∀ j, j < 3 → 0 ≤ g i j ∧ g i j < p) :
    Calls Try.prog 50 #[.int .i64 p, .int .i64 (n : Int), mv g] w fun e w' => e = .returned (.int .i64 (detP p (fullM n g))) ∧ Below w.heap.size w w' := by
  have hF : ∀ i, i < 3 → ∀ j, j < 3 → 0 ≤ fullM n g i j ∧ fullM n g i j < p := fun i hi j hj => by
    unfold fullM
    split
    · omega
    · exact hg i hi j hj
  obtain ⟨f, hf⟩ : ∃ f, fullM n g = f := ⟨_, rfl⟩
  have HFF := Lib.hid (show ∀ a b, a < 3 → fillTo n 3 g a b = f a b from fun a b ha => by
    rw [← hf]; unfold fillTo fullM
    by_cases e : b = a ∧ n ≤ a
    · rw [if_pos ⟨e, ha⟩, if_pos e]
    · rw [if_neg (fun h => e h.1), if_neg e])
  rw [hf] at hF ⊢
  have HF := Lib.hid hF
  have HD := Lib.hid (show detP p f = esum f 3 % p by rw [esum_end, detP_eq])
  obtain ⟨W, hW, rW, hbW⟩ : ∃ W, W = w.alloc (.cells #[.int .u8 (g 0 0), .int .u8 (g 0 1), .int .u8 (g 0 2), .int .u8 (g 1 0), .int .u8 (g 1 1), .int .u8 (g 1 2), .int .u8 (g 2 0), .int .u8 (g 2 1), .int .u8 (g 2 2)] 36) ∧ W.rowIs w.heap.size 36 9 (mF g) ∧ Below w.heap.size w W := ⟨_, rfl, mbox w g _, ebox1 _ _⟩
  clear hf hF hg
  unfold mv
  go_enter Try.func50, Try.ntmps50
  go_upto_region 1 with fail
  rw [← hW]
  clear hW
  go_wp2_with fail
  go_loopw [7] (fun i wr => ∃ (k : Nat), (n ≤ k ∧ k ≤ 3) ∧ i = .int .i64 k ∧ wr.rowIs w.heap.size 36 9 (mF (fillTo n k g)) ∧ Below w.heap.size w wr) (fun i _ => 3 - (intOf i).toNat)
  case atStart => exact ⟨n, ⟨by omega, h3⟩, rfl, mF_congr rW (fun a _ b _ => by unfold fillTo; rw [if_neg (by omega)]), hbW⟩
  case round =>
    obtain ⟨k, ⟨hk1, hk⟩, rfl, qW, hb⟩ := hrel
    by_cases hlt : k < 3
    · have hlt' : (k : Int) < 3 := by omega
      have y0 := mcell qW (i := k) (j := k) hlt hlt
      have z0 := qW.frozen (k * 3 + k)
      have hst := mF_congr (h := fillTo n (k + 1) g) (mset (i := k) (j := k) qW hlt 1) (fun a _ b _ => by
        unfold upd fillTo
        by_cases e : a = k ∧ b = k
        · obtain ⟨rfl, rfl⟩ := e
          rw [if_pos ⟨rfl, rfl⟩, if_pos (by omega)]
        · rw [if_neg e]
          by_cases e2 : (b = a ∧ n ≤ a) ∧ a < k
          · rw [if_pos e2, if_pos (by omega)]
          · rw [if_neg e2, if_neg (by omega)])
      go_wp2_with fail
      go_roundw
      case rel => exact ⟨k + 1, by omega, by go_num, hst, hb.setCell (by simp) _⟩
      case measure => simp [intOf]; omega
    · obtain rfl : k = 3 := by omega
      have qF := mF_congr (h := f) qW (fun a ha b _ => HFF.out a b ha)
      obtain ⟨⟨c0, c1, c2⟩, ⟨c3, c4, c5⟩, c6, c7, c8⟩ := mcells qF
      have s1 : IntKind.i64.wrap 1 = 1 := by decide
      have s2 : IntKind.i64.wrap 2 = 2 := by decide
      clear qW
      obtain ⟨wo, rfl⟩ : ∃ wo : World, wo = wr := ⟨_, rfl⟩
      go_wp2_with fail
      go_loopw [8, 9] (fun s i wr => ∃ (k : Nat), k ≤ 3 ∧ s = .int .i64 (esum f k) ∧ i = .int .i64 k ∧ ∃ nd, wr = wo.drewN nd) (fun _ i _ => 3 - (intOf i).toNat)
      case atStart => exact ⟨0, by omega, rfl, rfl, 0, rfl⟩
      case round =>
        obtain ⟨k, hk, rfl, rfl, nd, rfl⟩ := hrel
        obtain ⟨S0, S1⟩ := esum_in h13 HF.out k hk
        by_cases hlt : k < 3
        · have h3' : k = 0 ∨ k = 1 ∨ k = 2 := by omega
          rcases h3' with rfl | rfl | rfl
          · have HS := Lib.hid (show esum f 0 + f 0 0 * (f 1 1 * f 2 2 - f 1 2 * f 2 1) = esum f 1 from rfl)
            obtain ⟨x0, x1⟩ := HF.out 0 (by omega) 0 (by omega)
            have b0 := HF.out 1 (by omega) 1 (by omega)
            have b1 := HF.out 2 (by omega) 2 (by omega)
            have b2 := HF.out 1 (by omega) 2 (by omega)
            have b3 := HF.out 2 (by omega) 1 (by omega)
            generalize f 0 0 = X at *
            generalize f 1 1 = a at *
            generalize f 2 2 = b at *
            generalize f 1 2 = c at *
            generalize f 2 1 = d at *
            generalize esum f 0 = S at *
            obtain ⟨f0, f1⟩ := eprod_fit h13 b0 b1
            obtain ⟨g0, g1⟩ := eprod_fit h13 b2 b3
            have hm := mul_in (a := X) (b := a * b - c * d) (A := 13) (B := 169) ⟨x0, by omega⟩ ⟨by omega, by omega⟩
            have w1 : IntKind.i64.wrap (a * b) = a * b := IntWalk.i64_in _ (by omega)
            have w2 : IntKind.i64.wrap (c * d) = c * d := IntWalk.i64_in _ (by omega)
            have w3 : IntKind.i64.wrap (a * b - c * d) = a * b - c * d := IntWalk.i64_in _ (by omega)
            have w4 : IntKind.i64.wrap (X * (a * b - c * d)) = X * (a * b - c * d) := IntWalk.i64_in _ (by omega)
            have w5 : IntKind.i64.wrap (S + X * (a * b - c * d)) = S + X * (a * b - c * d) := IntWalk.i64_in _ (by omega)
            go_wp2_with fail
            go_quiet (fail)
            go_wp2_with fail
            go_roundw
            case rel => exact ⟨1, by omega, by rw [← HS.out], by go_num, _, rfl⟩
            case measure => simp [intOf]
          · have HS := Lib.hid (show esum f 1 + f 0 1 * (f 1 2 * f 2 0 - f 1 0 * f 2 2) = esum f 2 from rfl)
            obtain ⟨x0, x1⟩ := HF.out 0 (by omega) 1 (by omega)
            have b0 := HF.out 1 (by omega) 2 (by omega)
            have b1 := HF.out 2 (by omega) 0 (by omega)
            have b2 := HF.out 1 (by omega) 0 (by omega)
            have b3 := HF.out 2 (by omega) 2 (by omega)
            generalize f 0 1 = X at *
            generalize f 1 2 = a at *
            generalize f 2 0 = b at *
            generalize f 1 0 = c at *
            generalize f 2 2 = d at *
            generalize esum f 1 = S at *
            obtain ⟨f0, f1⟩ := eprod_fit h13 b0 b1
            obtain ⟨g0, g1⟩ := eprod_fit h13 b2 b3
            have hm := mul_in (a := X) (b := a * b - c * d) (A := 13) (B := 169) ⟨x0, by omega⟩ ⟨by omega, by omega⟩
            have w1 : IntKind.i64.wrap (a * b) = a * b := IntWalk.i64_in _ (by omega)
            have w2 : IntKind.i64.wrap (c * d) = c * d := IntWalk.i64_in _ (by omega)
            have w3 : IntKind.i64.wrap (a * b - c * d) = a * b - c * d := IntWalk.i64_in _ (by omega)
            have w4 : IntKind.i64.wrap (X * (a * b - c * d)) = X * (a * b - c * d) := IntWalk.i64_in _ (by omega)
            have w5 : IntKind.i64.wrap (S + X * (a * b - c * d)) = S + X * (a * b - c * d) := IntWalk.i64_in _ (by omega)
            go_wp2_with fail
            go_quiet (fail)
            go_wp2_with fail
            go_roundw
            case rel => exact ⟨2, by omega, by rw [← HS.out], by go_num, _, rfl⟩
            case measure => simp [intOf]
          · have HS := Lib.hid (show esum f 2 + f 0 2 * (f 1 0 * f 2 1 - f 1 1 * f 2 0) = esum f 3 from rfl)
            obtain ⟨x0, x1⟩ := HF.out 0 (by omega) 2 (by omega)
            have b0 := HF.out 1 (by omega) 0 (by omega)
            have b1 := HF.out 2 (by omega) 1 (by omega)
            have b2 := HF.out 1 (by omega) 1 (by omega)
            have b3 := HF.out 2 (by omega) 0 (by omega)
            generalize f 0 2 = X at *
            generalize f 1 0 = a at *
            generalize f 2 1 = b at *
            generalize f 1 1 = c at *
            generalize f 2 0 = d at *
            generalize esum f 2 = S at *
            obtain ⟨f0, f1⟩ := eprod_fit h13 b0 b1
            obtain ⟨g0, g1⟩ := eprod_fit h13 b2 b3
            have hm := mul_in (a := X) (b := a * b - c * d) (A := 13) (B := 169) ⟨x0, by omega⟩ ⟨by omega, by omega⟩
            have w1 : IntKind.i64.wrap (a * b) = a * b := IntWalk.i64_in _ (by omega)
            have w2 : IntKind.i64.wrap (c * d) = c * d := IntWalk.i64_in _ (by omega)
            have w3 : IntKind.i64.wrap (a * b - c * d) = a * b - c * d := IntWalk.i64_in _ (by omega)
            have w4 : IntKind.i64.wrap (X * (a * b - c * d)) = X * (a * b - c * d) := IntWalk.i64_in _ (by omega)
            have w5 : IntKind.i64.wrap (S + X * (a * b - c * d)) = S + X * (a * b - c * d) := IntWalk.i64_in _ (by omega)
            go_wp2_with fail
            go_quiet (fail)
            go_wp2_with fail
            go_roundw
            case rel => exact ⟨3, by omega, by rw [← HS.out], by go_num, _, rfl⟩
            case measure => simp [intOf]
        · obtain rfl : k = 3 := by omega
          go_wp2_with fail
          ((with_reducible refine (emod_any p (esum f 3) _ h2 h13 (by omega) (by omega)).mono ?_); rintro e w4 ⟨rfl, rfl⟩)
          go_wp2_with fail
          go_ret
          exact ⟨by rw [HD.out]; rfl, below_drewN hb nd⟩
end Go.Proofs.Ytfbagpndkihcpaa
