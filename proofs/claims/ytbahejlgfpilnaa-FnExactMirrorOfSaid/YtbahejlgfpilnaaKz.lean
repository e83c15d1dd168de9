/-
  POWERS and inverses modulo a prime: the program's. Conditions: as each theorem states.
-/
import Derived.Test.YtbahejlgfpilnaaEz
import Derived.IntWalk
namespace Go.Proofs.Ytbahejlgfpilnaa
open Go.RowKit Go.Sort EchM

def epowI (p x : Int) : Nat → Int
  | 0 => 1
  | n + 1 => epowI p x n * x % p
theorem epowI_small {p x : Int} (h2 : 2 ≤ p) : ∀ n, 0 ≤ epowI p x n ∧ epowI p x n < p
  | 0 => ⟨by simp [epowI], by simp [epowI]; omega⟩
  | _ + 1 => emod_small h2

set_option maxHeartbeats 1000000 in
theorem epow_any (p x : Int) (n : Nat) (w : World) (h2 : 2 ≤ p) (h13 : p ≤ 13) (hx : 0 ≤ x ∧ x < p) (hn : n ≤ 255) :
    Calls Try.prog 232 #[.int .i64 p, .int .i64 x, .int .i64 n] w fun e w' => e = .returned (.int .i64 (epowI p x n)) ∧ w = w' := by
  obtain ⟨hx1, hx2⟩ := hx
  go_enter Try.func232, Try.ntmps232
  go_wp2
  go_loop [7, 9] (fun s i => ∃ (k : Nat) (S : Int), k ≤ n ∧ i = .int .i64 k ∧ s = .int .i64 S ∧ Hid (S = epowI p x k) ∧ 0 ≤ S ∧ S < p) (fun _ i => n - (intOf i).toNat)
  case atStart => exact ⟨0, 1, by omega, rfl, rfl, Lib.hid rfl, by omega, by omega⟩
  case round =>
    obtain ⟨k, S, hk, rfl, rfl, HS, s0, s1⟩ := hrel
    by_cases hlt : k < n
    · have hlt' : (k : Int) < (n : Int) := by omega
      obtain ⟨f0, f1⟩ := eprod_fit h13 ⟨s0, s1⟩ ⟨hx1, hx2⟩
      obtain ⟨g0, g1⟩ := emod_small (p := p) (a := S * x) h2
      go_wp2
      go_round
      case rel => exact ⟨k + 1, S * x % p, by omega, by go_num, rfl, Lib.hid (by rw [epowI, ← HS.out]), g0, g1⟩
      case measure => simp [intOf]; omega
    · obtain rfl : k = n := by omega
      go_wp2
      go_ret
      exact ⟨by rw [← HS.out]; rfl, rfl⟩
theorem epow_inv {p : Int} (hp : PrimeS p) {x : Int} (h0 : 0 < x) (h1 : x < p) : x * epowI p x (p - 2).toNat % p = 1 := by
  have key : ∀ x : Fin 13, ∀ p ∈ [(2 : Int), 3, 5, 7, 11, 13], (0 < x.val ∧ (x.val : Int) < p) → (x.val : Int) * epowI p x.val (p - 2).toNat % p = 1 := by decide
  obtain ⟨n, rfl⟩ := Int.eq_ofNat_of_zero_le (Int.le_of_lt h0)
  have := hp.le
  exact key ⟨n, by omega⟩ p (by unfold PrimeS at hp; simp; omega) ⟨by simpa using h0, h1⟩
theorem invmod (p x : Int) (w : World) (h2 : 2 ≤ p) (h13 : p ≤ 13) (hx : 0 ≤ x ∧ x < p) :
    Calls Try.prog 214 #[.int .i64 p, .int .i64 x] w fun e w' => e = .returned (.int .i64 (epowI p x (p - 2).toNat)) ∧ w = w' := by
  obtain ⟨E, hE⟩ := Int.eq_ofNat_of_zero_le (show 0 ≤ p - 2 by omega)
  have hEE := Lib.hid (show (p - 2).toNat = E by omega)
  have hw : IntKind.i64.wrap (p - 2) = (E : Int) := by rw [hE]; exact IntWalk.i64_in _ (by omega)
  have hw2 : p - 2 = (E : Int) := hE
  have hE5 : E ≤ 255 := by omega
  clear hE
  go_enter Try.func214, Try.ntmps214
  go_wp2_with fail
  ((with_reducible refine (epow_any p x E _ h2 h13 hx hE5).mono ?_); rintro e w1 ⟨rfl, rfl⟩)
  go_wp2_with fail
  go_ret
  exact ⟨by rw [hEE.out]; rfl, rfl⟩
end Go.Proofs.Ytbahejlgfpilnaa
