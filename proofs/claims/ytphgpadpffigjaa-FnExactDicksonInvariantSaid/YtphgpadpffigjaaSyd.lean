/-
  ORDERS of letters by their digits: plain mathematics; 'impl.wholePower'. Conditions: as each theorem states.
-/
import Derived.Test.YtphgpadpffigjaaRpa
import Derived.Test.YtphgpadpffigjaaVd
import Derived.IntWalk
namespace Go.Proofs.Ytphgpadpffigjaa
open Go.RowKit Go.Sort

/-- The digit at i of r to the base d. -/
def dgt (d r i : Nat) : Int := ((r / d ^ i % d : Nat) : Int)
def dgL (d r : Nat) : List Int := (List.range d).map (dgt d r)
/-- The digits of the numbers below k where no digit stands twice. -/
def ordL (d k : Nat) : List (List Int) := ((List.range k).map (dgL d)).filter fun l => decide l.Nodup
theorem ordL_succ (d k : Nat) : ordL d (k + 1) = ordL d k ++ (if (dgL d k).Nodup then [dgL d k] else []) := by
  unfold ordL
  rw [List.range_succ, List.map_append, List.filter_append]
  congr 1
  by_cases h : (dgL d k).Nodup <;> simp [h]
theorem dgL_len (d r : Nat) : (dgL d r).length = d := by simp [dgL]
theorem dgL_at {d r i : Nat} (h : i < (dgL d r).length) : (dgL d r)[i] = dgt d r i := by simp [dgL]
theorem ordL_len (d k : Nat) : (ordL d k).length ≤ k := by
  have h := List.length_filter_le (fun l => decide l.Nodup) ((List.range k).map (dgL d))
  simpa [ordL] using h
/-- The first digits. -/
def dgT (d r i : Nat) : List Int := (List.range i).map (dgt d r)
theorem dgT_succ (d r i : Nat) : dgT d r (i + 1) = dgT d r i ++ [dgt d r i] := by simp [dgT, List.range_succ]
theorem dgT_len (d r i : Nat) : (dgT d r i).length = i := by simp [dgT]
theorem dgT_twice {d r i : Nat} (hi : i < d) (h : (dgT d r i).contains (dgt d r i) = true) : ¬ (dgL d r).Nodup := fun hn => by
  have hm : dgt d r i ∈ dgT d r i := by simpa using h
  simp only [dgT, List.mem_map, List.mem_range] at hm
  obtain ⟨j, hj, he⟩ := hm
  have h1 := List.pairwise_iff_getElem.1 hn j i (by rw [dgL_len]; omega) (by rw [dgL_len]; exact hi) hj
  rw [dgL_at, dgL_at] at h1
  exact h1 he
theorem dgT_once {d r i : Nat} (hn : (dgT d r i).Nodup) (h : (dgT d r i).contains (dgt d r i) = false) : (dgT d r (i + 1)).Nodup := by
  rw [dgT_succ, List.nodup_append]
  have hm : dgt d r i ∉ dgT d r i := by simpa using h
  exact ⟨hn, by simp, fun a ha b hb e => hm (by
    have : b = dgt d r i := by simpa using hb
    rw [← this, ← e]; exact ha)⟩
theorem dgt_next (d r i : Nat) : r / d ^ i / d = r / d ^ (i + 1) := by rw [Nat.div_div_eq_div_mul, Nat.pow_succ]
theorem pow_le27 {d : Nat} (h : 1 ≤ d ∧ d ≤ 3) : ∀ {i : Nat}, i ≤ d → d ^ i ≤ 27 := fun {i} hi => by
  have hd : d = 1 ∨ d = 2 ∨ d = 3 := by omega
  have hi3 : i = 0 ∨ i = 1 ∨ i = 2 ∨ i = 3 := by omega
  rcases hd with rfl | rfl | rfl <;> rcases hi3 with rfl | rfl | rfl | rfl <;> first | decide | omega

set_option maxHeartbeats 1000000 in
theorem iwhole (d : Nat) (w : World) (h : 1 ≤ d ∧ d ≤ 3) : Calls Try.prog 60 #[.int .i64 d, .int .i64 d] w fun e w' => e = .returned (.int .i64 ((d ^ d : Nat) : Int)) ∧ w' = w := by
  go_enter Try.func60, Try.ntmps60
  go_wp2
  go_loop [5, 7] (fun q c => ∃ i : Nat, i ≤ d ∧ c = .int .i64 i ∧ q = .int .i64 ((d ^ i : Nat) : Int)) (fun _ c => d - (intOf c).toNat)
  case atStart => exact ⟨0, by omega, rfl, by simp⟩
  case round =>
    obtain ⟨i, hi, rfl, rfl⟩ := hrel
    by_cases hlt : i < d
    · have hlt' : (i : Int) < (d : Int) := by omega
      have h27 := pow_le27 h (i := i + 1) (by omega)
      have HM : Hid (IntKind.i64.wrap (((d ^ i : Nat) : Int) * (d : Int)) = ((d ^ (i + 1) : Nat) : Int)) := Lib.hid (by
        rw [Nat.pow_succ] at h27 ⊢
        rw [← Int.natCast_mul]
        exact IntWalk.i64_in _ (by omega))
      obtain ⟨Q, hQ⟩ : ∃ Q, ((d ^ (i + 1) : Nat) : Int) = Q := ⟨_, rfl⟩
      obtain ⟨q, hq⟩ : ∃ q, ((d ^ i : Nat) : Int) = q := ⟨_, rfl⟩
      have HQ := Lib.hid hQ
      rw [hQ, hq] at HM
      rw [hq]
      have hm := HM.out
      clear hQ hq h27 HM
      go_wp2
      go_round
      case rel => exact ⟨i + 1, by omega, by go_num, by rw [HQ.out]⟩
      case measure => simp [intOf]; omega
    · obtain rfl : i = d := by omega
      go_wp2
      go_ret
      exact ⟨rfl, rfl⟩
theorem int_take (b cap n k : Nat) (hk : k ≤ n) (hcap : n ≤ cap) (W : World) :
    (Instr.slice 61 (.slice (some ⟨b, 0, none⟩) n cap) none (some (.int .i64 (k : Int))) none).run Try.prog W = .ok (.slice (some ⟨b, 0, none⟩) k cap) W := by
  obtain ⟨i0, hi, hz0, hz1, hz2⟩ := info_parts einfoI
  have h1 : (k : Int) ≤ (cap : Int) := by omega
  by_cases hc0 : cap = 0
  · have hk0 : k = 0 := by omega
    subst hc0 hk0
    simp [Instr.slice, run_underlying Try.underlying61, Instr.sliceBounds, run_sliceBound, sizeOf, typeInfo, hi]
  · simp [Instr.slice, run_underlying Try.underlying61, Instr.sliceBounds, run_sliceBound, sizeOf, typeInfo, hi, h1, Addr.add]
end Go.Proofs.Ytphgpadpffigjaa
