/-
  WALKS: 'spec.l01At'. Conditions: as each theorem states.
-/
import Derived.Test.YtphgpadpffigjaaF
import Derived.Test.YtphgpadpffigjaaZ
import Derived.Test.YtphgpadpffigjaaArr
namespace Go.Proofs.Ytphgpadpffigjaa
open Go.RowKit Go.Sort

set_option maxHeartbeats 1000000 in
theorem at_some (p d : Int) (b off cap : Nat) (ts : List Tm) (x y z : Int) (w : World) (hl : ts.length ≤ 1048576) (hb : b < w.heap.size) (hT : Terms w b off ts) :
    Calls Try.prog 100 #[.agg #[.int .i64 p, .int .i64 d, .slice (some ⟨b, off, none⟩) ts.length cap], .agg #[.int .u8 x, .int .u8 y, .int .u8 z]] w fun e w' => e = .returned (.int .i64 (atL ts (x, y, z))) ∧ Below w.heap.size w w' := by
  obtain ⟨W, hW, hbW, hWs, x0, x1, x2, e0, e1, e2⟩ : ∃ W, W = (w.alloc (.cells #[.int .i64 p, .int .i64 d, .slice (some ⟨b, off, none⟩) ts.length cap] 36)).alloc (.cells #[.int .u8 x, .int .u8 y, .int .u8 z] 75) ∧ Below w.heap.size w W ∧ w.heap.size + 1 < W.heap.size ∧
      W.cell? ⟨w.heap.size, 0, none⟩ = some (.int .i64 p) ∧ W.cell? ⟨w.heap.size, 1, none⟩ = some (.int .i64 d) ∧ W.cell? ⟨w.heap.size, 2, none⟩ = some (.slice (some ⟨b, off, none⟩) ts.length cap) ∧
      W.cell? ⟨w.heap.size + 1, 0, none⟩ = some (.int .u8 x) ∧ W.cell? ⟨w.heap.size + 1, 1, none⟩ = some (.int .u8 y) ∧ W.cell? ⟨w.heap.size + 1, 2, none⟩ = some (.int .u8 z) :=
    ⟨_, rfl, box2 _ _ _, by simp, by go_simp, by go_simp, by go_simp, by go_simp, by go_simp, by go_simp⟩
  have hTW := hT.below hbW hb
  have hbw : b < w.heap.size := hb
  go_enter Try.func100, Try.ntmps100
  go_wp2
  rw [← hW]
  clear hW
  go_loopw [5] (fun i wr => ∃ k : Nat, k ≤ ts.length ∧ i = .int .i64 k ∧ atL ts (x, y, z) = atL (ts.drop k) (x, y, z) ∧ ∃ n, wr = W.drewN n) (fun i _ => ts.length - (intOf i).toNat)
  case atStart => exact ⟨0, by omega, rfl, rfl, 0, rfl⟩
  case round =>
    obtain ⟨k, hk, rfl, hU, n, rfl⟩ := hrel
    by_cases hlt : k < ts.length
    · have hlt' : (k : Int) < (ts.length : Int) := by omega
      obtain ⟨c0, c1, c2, c3⟩ := hTW k hlt
      have hst := atL_step ts (x, y, z) k hlt
      have HST := Lib.hid (hU.trans hst)
      clear hU hst
      have hG : Try.prog.eqGuardType Try.prog.depth 75 = false := by kernel_rfl
      have hEq := arr3_eq ts[k].1 ts[k].2.1 ts[k].2.2.1 x y z
      cases hB : (ts[k].1 == x && (ts[k].2.1 == y && ts[k].2.2.1 == z))
      · have hne : ¬ tmE ts[k] = (x, y, z) := fun h => by simp [tmE] at h; simp [h] at hB
        have HN : Hid (atL ts (x, y, z) = atL (ts.drop (k + 1)) (x, y, z)) := Lib.hid (by rw [HST.out, if_neg hne])
        rw [hB] at hEq
        clear hne hB
        go_wp2
        go_quiet (fail)
        go_wp2
        go_roundw
        case rel => exact ⟨k + 1, by omega, by go_num, HN.out, _, rfl⟩
        case measure => simp [intOf]; omega
      · have he : tmE ts[k] = (x, y, z) := by simp at hB; simp [tmE, hB]
        have HN : Hid (atL ts (x, y, z) = ts[k].2.2.2) := Lib.hid (by rw [HST.out, if_pos he])
        rw [hB] at hEq
        clear he hB
        go_wp2
        go_quiet (fail)
        go_wp2
        go_ret
        exact ⟨by rw [HN.out]; rfl, by repeat (first | with_reducible exact hbW | refine below_drewN ?_ _)⟩
    · obtain rfl : k = ts.length := by omega
      have HU := Lib.hid hU
      clear hU
      go_wp2
      go_ret
      exact ⟨by rw [HU.out, List.drop_length]; rfl, below_drewN hbW n⟩

theorem at_nil (p d : Int) (a : Option Addr) (cap : Nat) (x y z : Int) (w : World) :
    Calls Try.prog 100 #[.agg #[.int .i64 p, .int .i64 d, .slice a 0 cap], .agg #[.int .u8 x, .int .u8 y, .int .u8 z]] w fun e w' => e = .returned (.int .i64 0) ∧ Below w.heap.size w w' := by
  go_enter Try.func100, Try.ntmps100
  go_wp2
  refine wp_loop_rounds 1 ?_
  rw [rounds_succ]
  go_wp2
  go_ret
  exact ⟨rfl, box2 _ _ _⟩
theorem at_any (p d : Int) (v : Value) (ts : List Tm) (x y z : Int) (w : World) (hl : ts.length ≤ 1048576) (hS : SliceT w v ts) :
    Calls Try.prog 100 #[.agg #[.int .i64 p, .int .i64 d, v], .agg #[.int .u8 x, .int .u8 y, .int .u8 z]] w fun e w' => e = .returned (.int .i64 (atL ts (x, y, z))) ∧ Below w.heap.size w w' := by
  obtain ⟨a, cap, rfl, rfl | ⟨b, off, rfl, hlt, hT⟩⟩ := hS
  · exact at_nil p d a cap x y z w
  · exact at_some p d b off cap ts x y z w hl hlt hT

end Go.Proofs.Ytphgpadpffigjaa
