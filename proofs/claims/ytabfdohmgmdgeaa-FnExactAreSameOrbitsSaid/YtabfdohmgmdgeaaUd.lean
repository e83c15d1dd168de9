/-
  slices.Compare at lists of numbers of one length; the order that a sort of points takes. Conditions: as each theorem states.
-/
import Derived.Test.YtabfdohmgmdgeaaUb
namespace Go.Proofs.Ytabfdohmgmdgeaa
open Go.RowKit Go.Sort EchM

def cmpN (a b : Int) : Int := if a < b then -1 else if b < a then 1 else 0
theorem nnan64 (a : Int) (w : World) : Calls Try.prog 58 #[.int .i64 a] w fun e w' => e = .returned (.bool false) ∧ w' = w := by
  have h : (a != a) = false := by simp
  go_enter Try.func58, Try.ntmps58
  go_wp2
  go_ret
  exact ⟨rfl, rfl⟩
theorem ncmp64 (a b : Int) (w : World) : Calls Try.prog 48 #[.int .i64 a, .int .i64 b] w fun e w' => e = .returned (.int .i64 (cmpN a b)) ∧ w' = w := by
  unfold cmpN
  by_cases h1 : a < b
  · rw [if_pos h1]
    go_enter Try.func48, Try.ntmps48
    go_wp2_with ((with_reducible refine (nnan64 _ _).mono ?_); rintro e w' ⟨rfl, rfl⟩)
    go_ret
    exact ⟨rfl, rfl⟩
  · rw [if_neg h1]
    by_cases h2 : b < a
    · rw [if_pos h2]
      go_enter Try.func48, Try.ntmps48
      go_wp2_with ((with_reducible refine (nnan64 _ _).mono ?_); rintro e w' ⟨rfl, rfl⟩)
      go_ret
      exact ⟨rfl, rfl⟩
    · rw [if_neg h2]
      go_enter Try.func48, Try.ntmps48
      go_wp2_with ((with_reducible refine (nnan64 _ _).mono ?_); rintro e w' ⟨rfl, rfl⟩)
      go_ret
      exact ⟨rfl, rfl⟩
theorem ncmp64_is (a b c : Int) (w : World) (h : cmpN a b = c) : Calls Try.prog 48 #[.int .i64 a, .int .i64 b] w fun e w' => e = .returned (.int .i64 c) ∧ w' = w := by subst h; exact ncmp64 a b w
theorem cmpI_stepN {l o : List Int} {k : Nat} (h : k < l.length) (h' : k < o.length) : cmpI (l.drop k) (o.drop k) = if cmpN l[k] o[k] = 0 then cmpI (l.drop (k + 1)) (o.drop (k + 1)) else cmpN l[k] o[k] := by
  rw [cmpI_step h h']
  unfold cmpN
  split
  · simp
  · split <;> simp

set_option maxRecDepth 8000 in
set_option maxHeartbeats 4000000 in
theorem icmpI (b o c b' o' c' : Nat) (l q : List Int) (w : World) (hl : l.length ≤ 1048576) (hlo : q.length = l.length) (hT : Cs w b o l) (hT' : Cs w b' o' q) :
    Calls Try.prog 35 #[.slice (some ⟨b, o, none⟩) l.length c, .slice (some ⟨b', o', none⟩) l.length c'] w fun e w' => e = .returned (.int .i64 (cmpI l q)) ∧ w' = w := by
  have HLO := Lib.hid hlo
  clear hlo
  go_enter Try.func35, Try.ntmps35
  go_wp2_with fail
  go_loop [11] (fun i => ∃ k : Nat, k ≤ l.length ∧ i = .int .i64 k ∧ Hid (cmpI l q = cmpI (l.drop k) (q.drop k))) (fun i => l.length - (intOf i).toNat)
  case atStart => exact ⟨0, by omega, rfl, Lib.hid rfl⟩
  case round =>
    obtain ⟨k, hk, rfl, HU⟩ := hrel
    by_cases hlt : k < l.length
    · have hlt' : (k : Int) < (l.length : Int) := by omega
      have hge : ¬ (l.length : Int) ≤ (k : Int) := by omega
      have hkq : k < q.length := by have := HLO.out; omega
      have c0 := hT k hlt
      have c1 := hT' k hkq
      have HS := Lib.hid (HU.out.trans (cmpI_stepN hlt hkq))
      generalize l[k] = x at *
      generalize q[k] = y at *
      obtain ⟨C, hC⟩ : ∃ C, cmpN x y = C := ⟨_, rfl⟩
      have HC := Lib.hid (fun w => ncmp64_is x y C w hC)
      rw [hC] at HS
      clear hC
      by_cases h0 : C = 0
      · subst h0
        have HN := Lib.hid (HS.out.trans (if_pos rfl))
        go_wp2_with ((with_reducible refine (HC.out _).mono ?_); rintro e w' ⟨rfl, rfl⟩)
        go_round
        case rel => exact ⟨k + 1, by omega, by go_num, HN⟩
        case measure => simp [intOf]; omega
      · have HN := Lib.hid (HS.out.trans (if_neg h0))
        have hne : (C != 0) = true := by simp [h0]
        clear h0
        go_wp2_with ((with_reducible refine (HC.out _).mono ?_); rintro e w' ⟨rfl, rfl⟩)
        go_ret
        exact ⟨by rw [HN.out]; rfl, rfl⟩
    · obtain rfl : k = l.length := by omega
      have HN := Lib.hid (HU.out.trans (cmpI_end (o := q) rfl))
      have hnl : ¬ (l.length : Int) < (l.length : Int) := by omega
      go_wp2
      go_ret
      exact ⟨by rw [HN.out]; rfl, rfl⟩
end Go.Proofs.Ytabfdohmgmdgeaa
