/-
  WALKS: 'spec.l01Point', 'impl.powerModulo'; values of terms. Conditions: as each theorem states.
-/
import Derived.Test.YtkmfgljfalgeaaaVa
import Derived.Test.YtkmfgljfalgeaaaE
namespace Go.Proofs.Ytkmfgljfalgeaaa
open Go.RowKit Go.Sort

theorem inNum (x p : Int) (w : World) (B : Bool) (h : numB p x = B) : Calls Try.prog 50 #[.int .i64 x, .int .i64 0, .int .i64 (p - 1)] w fun e w' => e = .returned (.bool B) ∧ w = w' :=
  sin_is x 0 (p - 1) w B (by rw [← h]; unfold numB; congr 1; simp; omega)

theorem all_upto (p : Int) (l : List Int) (h : ∀ (j : Nat) (hj : j < l.length), j < l.length → numB p l[j] = true) : l.all (numB p) = true := by
  rw [List.all_eq_true]
  intro x hx
  obtain ⟨i, hi, rfl⟩ := List.mem_iff_getElem.1 hx
  exact h i hi hi

set_option maxHeartbeats 1000000 in
theorem point_some (p d : Int) (b off cap : Nat) (l : List Int) (w : World) (h2 : 2 ≤ p) (h13 : p ≤ 13) (hl : l.length ≤ 1048576) (hT : CellsI w b off l) :
    Calls Try.prog 46 #[.int .i64 p, .int .i64 d, .slice (some ⟨b, off, none⟩) l.length cap] w fun e w' => e = .returned (.bool (ptB p d l)) ∧ w = w' := by
  go_enter Try.func46, Try.ntmps46
  go_wp2
  go_loop [7] (fun i => ∃ k : Nat, k ≤ l.length ∧ i = .int .i64 k ∧ Hid (∀ (j : Nat) (hj : j < l.length), j < k → numB p l[j] = true)) (fun i => l.length - (intOf i).toNat)
  case atStart => exact ⟨0, by omega, rfl, Lib.hid (fun j _ h => by omega)⟩
  case round =>
    obtain ⟨k, hk, rfl, HU⟩ := hrel
    by_cases hlt : k < l.length
    · have hlt' : (k : Int) < (l.length : Int) := by omega
      have c0 := hT k hlt
      cases hB : numB p l[k]
      · have HX : Hid (ptB p d l = false) := Lib.hid (by
          unfold ptB
          have : l.all (numB p) = false := by
            rw [List.all_eq_false]
            exact ⟨_, List.getElem_mem hlt, by simp [hB]⟩
          rw [this]; simp)
        have HB := Lib.hid hB
        clear hB
        go_wp2_with fail
        ((with_reducible refine (inNum _ _ _ false HB.out).mono ?_); rintro e w1 ⟨rfl, rfl⟩)
        go_wp2
        go_ret
        exact ⟨by rw [HX.out]; rfl, rfl⟩
      · have HN : Hid (∀ (j : Nat) (hj : j < l.length), j < k + 1 → numB p l[j] = true) := Lib.hid (fun j hj hjk => by
          by_cases e : j = k
          · subst e; exact hB
          · exact HU.out j hj (by omega))
        have HB := Lib.hid hB
        clear hB
        go_wp2_with fail
        ((with_reducible refine (inNum _ _ _ true HB.out).mono ?_); rintro e w1 ⟨rfl, rfl⟩)
        go_wp2
        go_round
        case rel => exact ⟨k + 1, by omega, by go_num, HN⟩
        case measure => simp [intOf]; omega
    · obtain rfl : k = l.length := by omega
      have HX : Hid (ptB p d l = ((l.length : Int) == d)) := Lib.hid (by
        unfold ptB
        rw [all_upto p l HU.out, Bool.and_true, Bool.eq_iff_iff]; simp)
      go_wp2
      go_ret
      exact ⟨by rw [HX.out]; rfl, rfl⟩

theorem point_nil (p d : Int) (a : Option Addr) (cap : Nat) (w : World) (hd : 1 ≤ d) :
    Calls Try.prog 46 #[.int .i64 p, .int .i64 d, .slice a 0 cap] w fun e w' => e = .returned (.bool (ptB p d [])) ∧ w = w' := by
  have HX : Hid (ptB p d [] = false) := Lib.hid (by simp [ptB]; omega)
  have h0 : ((0 : Int) == d) = false := by simp; omega
  go_enter Try.func46, Try.ntmps46
  go_wp2
  refine wp_loop_rounds 1 ?_
  rw [rounds_succ]
  go_wp2
  go_ret
  exact ⟨by rw [HX.out]; rfl, rfl⟩
theorem point_any (p d : Int) (v : Value) (l : List Int) (w : World) (h2 : 2 ≤ p) (h13 : p ≤ 13) (hd : 1 ≤ d) (hl : l.length ≤ 1048576) (hS : SliceI w v l) :
    Calls Try.prog 46 #[.int .i64 p, .int .i64 d, v] w fun e w' => e = .returned (.bool (ptB p d l)) ∧ w = w' := by
  obtain ⟨a, cap, rfl, rfl | ⟨b, off, rfl, hlt, hT⟩⟩ := hS
  · exact point_nil p d a cap w hd
  · exact point_some p d b off cap l w h2 h13 hl hT

/-! ### Powers, values of terms -/
def powI (p x : Int) : Nat → Int
  | 0 => 1
  | n + 1 => powI p x n * x % p
def itI (p x v : Int) : Nat → Int
  | 0 => v
  | n + 1 => itI p x v n * x % p
theorem mod_small {p a : Int} (h2 : 2 ≤ p) : 0 ≤ a % p ∧ a % p < p := ⟨Int.emod_nonneg _ (by omega), Int.emod_lt_of_pos _ (by omega)⟩
theorem powI_small {p x : Int} (h2 : 2 ≤ p) : ∀ n, 0 ≤ powI p x n ∧ powI p x n < p
  | 0 => ⟨by simp [powI], by simp [powI]; omega⟩
  | _ + 1 => mod_small h2
theorem itI_small {p x v : Int} (h2 : 2 ≤ p) (hv : 0 ≤ v ∧ v < p) : ∀ n, 0 ≤ itI p x v n ∧ itI p x v n < p
  | 0 => hv
  | _ + 1 => mod_small h2
theorem itI_pow {p x v : Int} (hv : 0 ≤ v ∧ v < p) : ∀ n, itI p x v n = v * powI p x n % p
  | 0 => by simp [itI, powI]; exact (Int.emod_eq_of_lt hv.1 hv.2).symm
  | n + 1 => by
    have e1 : ∀ A : Int, A % p * x % p = A * x % p := fun A => by
      rw [Int.mul_emod, Int.emod_emod_of_dvd _ (Int.dvd_refl p), ← Int.mul_emod]
    have e2 : ∀ A : Int, v * (A % p) % p = v * A % p := fun A => by
      rw [Int.mul_emod, Int.emod_emod_of_dvd _ (Int.dvd_refl p), ← Int.mul_emod]
    rw [itI, powI, itI_pow hv n, e1, e2, Int.mul_assoc]
/-- The product of two numbers modulo a small prime fits. -/
theorem prod_fit {p a b : Int} (h13 : p ≤ 13) (ha : 0 ≤ a ∧ a < p) (hb : 0 ≤ b ∧ b < p) : 0 ≤ a * b ∧ a * b ≤ 169 := by
  refine ⟨Int.mul_nonneg ha.1 hb.1, ?_⟩
  have h1 : a * b ≤ 13 * 13 := Int.mul_le_mul (by omega) (by omega) hb.1 (by omega)
  omega

set_option maxHeartbeats 1000000 in
theorem pow_any (p x : Int) (n : Nat) (w : World) (h2 : 2 ≤ p) (h13 : p ≤ 13) (hx : 0 ≤ x ∧ x < p) (hn : n ≤ 255) :
    Calls Try.prog 49 #[.int .i64 p, .int .i64 x, .int .i64 n] w fun e w' => e = .returned (.int .i64 (powI p x n)) ∧ w = w' := by
  obtain ⟨hx1, hx2⟩ := hx
  go_enter Try.func49, Try.ntmps49
  go_wp2
  go_loop [7, 9] (fun s i => ∃ (k : Nat) (S : Int), k ≤ n ∧ i = .int .i64 k ∧ s = .int .i64 S ∧ Hid (S = powI p x k) ∧ 0 ≤ S ∧ S < p) (fun _ i => n - (intOf i).toNat)
  case atStart => exact ⟨0, 1, by omega, rfl, rfl, Lib.hid rfl, by omega, by omega⟩
  case round =>
    obtain ⟨k, S, hk, rfl, rfl, HS, s0, s1⟩ := hrel
    by_cases hlt : k < n
    · have hlt' : (k : Int) < (n : Int) := by omega
      obtain ⟨f0, f1⟩ := prod_fit h13 ⟨s0, s1⟩ ⟨hx1, hx2⟩
      obtain ⟨g0, g1⟩ := mod_small (p := p) (a := S * x) h2
      go_wp2
      go_round
      case rel => exact ⟨k + 1, S * x % p, by omega, by go_num, rfl, Lib.hid (by rw [powI, ← HS.out]), g0, g1⟩
      case measure => simp [intOf]; omega
    · obtain rfl : k = n := by omega
      go_wp2
      go_ret
      exact ⟨by rw [← HS.out]; rfl, rfl⟩

end Go.Proofs.Ytkmfgljfalgeaaa
