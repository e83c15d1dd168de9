/-
  SORTS of lists of matrices: the program's comparison, told with its worlds. Conditions: as each theorem states.
-/
import Derived.Test.YtpbdbgajohacoaaGj
import Derived.Deep.QuietTactic
import Derived.BigQuiet
namespace Go.Proofs.Ytpbdbgajohacoaa
open Go.RowKit Go.Sort EchM

theorem drewT {W wr : World} (h : ∃ nd, wr = W.drewN nd) (n : Nat) : ∃ nd, wr.drewN n = W.drewN nd := by
  obtain ⟨nd, rfl⟩ := h
  exact ⟨nd + n, by simp [World.drewN, Nat.add_assoc]⟩
theorem grewT {w W wr : World} (h : ∃ os, W = grow w os) (hn : ∃ nd, wr = W.drewN nd) : ∃ q os, wr = grow (w.drewN q) os := by
  obtain ⟨os, rfl⟩ := h
  obtain ⟨n, rfl⟩ := hn
  exact ⟨n, os, rfl⟩

set_option maxRecDepth 8000 in
set_option maxHeartbeats 8000000 in
theorem icompareG (g h : Nat → Nat → Int) (w : World) : Calls Try.prog 83 #[mv g, mv h] w fun e w' => e = .returned (.int .i64 (cmpM g h)) ∧ ∃ q os, w' = grow (w.drewN q) os := by
  obtain ⟨W, hW, r1, r2, hW2⟩ : ∃ W, W = (w.alloc (.cells #[.int .u8 (g 0 0), .int .u8 (g 0 1), .int .u8 (g 0 2), .int .u8 (g 1 0), .int .u8 (g 1 1), .int .u8 (g 1 2), .int .u8 (g 2 0), .int .u8 (g 2 1), .int .u8 (g 2 2)] 55)).alloc (.cells #[.int .u8 (h 0 0), .int .u8 (h 0 1), .int .u8 (h 0 2), .int .u8 (h 1 0), .int .u8 (h 1 1), .int .u8 (h 1 2), .int .u8 (h 2 0), .int .u8 (h 2 1), .int .u8 (h 2 2)] 55) ∧
      W.rowIs w.heap.size 55 9 (mF g) ∧ W.rowIs (w.heap.size + 1) 55 9 (mF h) ∧ ∃ os, W = grow w os := by
    refine ⟨_, rfl, (mbox w g _).alloc _, ?_, ⟨_, by rw [alloc_eq_grow, alloc_eq_grow, grow_grow]⟩⟩
    have := mbox (w.alloc (.cells #[.int .u8 (g 0 0), .int .u8 (g 0 1), .int .u8 (g 0 2), .int .u8 (g 1 0), .int .u8 (g 1 1), .int .u8 (g 1 2), .int .u8 (g 2 0), .int .u8 (g 2 1), .int .u8 (g 2 2)] 55)) h 55
    rwa [World.size_alloc] at this
  unfold mv
  go_enter Try.func83, Try.ntmps83
  go_upto_region 1 with fail
  rw [← hW]
  clear hW
  go_wp2_with fail
  go_loopw [7] (fun i wr => ∃ (k : Nat), k ≤ 3 ∧ i = .int .i64 k ∧ Hid (cmpM g h = cF g h k) ∧ Hid (∃ nd, wr = W.drewN nd)) (fun i _ => 3 - (intOf i).toNat)
  case atStart => exact ⟨0, by omega, rfl, Lib.hid rfl, Lib.hid ⟨0, rfl⟩⟩
  case round =>
    obtain ⟨k, hk, rfl, HU, HW⟩ := hrel
    have r1' : wr.rowIs w.heap.size 55 9 (mF g) := by obtain ⟨nd, rfl⟩ := HW.out; exact r1
    have r2' : wr.rowIs (w.heap.size + 1) 55 9 (mF h) := by obtain ⟨nd, rfl⟩ := HW.out; exact r2
    have HD := Lib.hid (fun n => drewT HW.out n)
    by_cases hlt : k < 3
    · obtain ⟨⟨a0, a1, a2⟩, ⟨a3, a4, a5⟩, a6, a7, a8⟩ := mcells r1'
      obtain ⟨⟨b0, b1, b2⟩, ⟨b3, b4, b5⟩, b6, b7, b8⟩ := mcells r2'
      have h3 : k = 0 ∨ k = 1 ∨ k = 2 := by omega
      clear hlt hk
      rcases h3 with rfl | rfl | rfl
      · have HR := Lib.hid (HU.out.trans (cF_0 g h))
        obtain ⟨R, hR⟩ : ∃ R, cmpRow g h 0 = R := ⟨_, rfl⟩
        have cK : ∀ nn, Calls Try.prog 102 #[.slice (some ⟨w.heap.size, 0, none⟩) 3 3, .slice (some ⟨w.heap.size + 1, 0, none⟩) 3 3] (wr.drewN nn) fun e w'' => e = .returned (.int .i64 R) ∧ w'' = wr.drewN nn := fun nn =>
          (scmp3 w.heap.size 0 3 (w.heap.size + 1) 0 3 _ _ _ _ _ _ (wr.drewN nn) a0 a1 a2 b0 b1 b2).mono fun _ _ ⟨he, hw⟩ => ⟨by rw [he, ← hR]; rfl, hw⟩
        rw [hR] at HR
        clear hR a0 a1 a2 a3 a4 a5 a6 a7 a8 b0 b1 b2 b3 b4 b5 b6 b7 b8
        by_cases hz : R = 0
        · have HN := Lib.hid (HR.out.trans (if_pos hz))
          subst hz
          go_wp2_with fail
          go_quiet (exact Calls.quiet_of_same (cK _))
          clear cK
          go_wp2_with fail
          go_roundw
          case rel => exact ⟨1, by omega, by go_num, HN, Lib.hid (HD.out _)⟩
          case measure => simp [intOf]
        · have HN := Lib.hid (HR.out.trans (if_neg hz))
          have hq : (R != 0) = true := by simp [hz]
          clear hz
          go_wp2_with fail
          go_quiet (exact Calls.quiet_of_same (cK _))
          clear cK
          go_wp2_with fail
          go_ret
          exact ⟨by rw [HN.out]; rfl, grewT hW2 (HD.out _)⟩
      · have HR := Lib.hid (HU.out.trans (cF_1 g h))
        obtain ⟨R, hR⟩ : ∃ R, cmpRow g h 1 = R := ⟨_, rfl⟩
        have cK : ∀ nn, Calls Try.prog 102 #[.slice (some ⟨w.heap.size, 3, none⟩) 3 3, .slice (some ⟨w.heap.size + 1, 3, none⟩) 3 3] (wr.drewN nn) fun e w'' => e = .returned (.int .i64 R) ∧ w'' = wr.drewN nn := fun nn =>
          (scmp3 w.heap.size 3 3 (w.heap.size + 1) 3 3 _ _ _ _ _ _ (wr.drewN nn) a3 a4 a5 b3 b4 b5).mono fun _ _ ⟨he, hw⟩ => ⟨by rw [he, ← hR]; rfl, hw⟩
        rw [hR] at HR
        clear hR a0 a1 a2 a3 a4 a5 a6 a7 a8 b0 b1 b2 b3 b4 b5 b6 b7 b8
        by_cases hz : R = 0
        · have HN := Lib.hid (HR.out.trans (if_pos hz))
          subst hz
          go_wp2_with fail
          go_quiet (exact Calls.quiet_of_same (cK _))
          clear cK
          go_wp2_with fail
          go_roundw
          case rel => exact ⟨2, by omega, by go_num, HN, Lib.hid (HD.out _)⟩
          case measure => simp [intOf]
        · have HN := Lib.hid (HR.out.trans (if_neg hz))
          have hq : (R != 0) = true := by simp [hz]
          clear hz
          go_wp2_with fail
          go_quiet (exact Calls.quiet_of_same (cK _))
          clear cK
          go_wp2_with fail
          go_ret
          exact ⟨by rw [HN.out]; rfl, grewT hW2 (HD.out _)⟩
      · have HR := Lib.hid (HU.out.trans (cF_2 g h))
        obtain ⟨R, hR⟩ : ∃ R, cmpRow g h 2 = R := ⟨_, rfl⟩
        have cK : ∀ nn, Calls Try.prog 102 #[.slice (some ⟨w.heap.size, 6, none⟩) 3 3, .slice (some ⟨w.heap.size + 1, 6, none⟩) 3 3] (wr.drewN nn) fun e w'' => e = .returned (.int .i64 R) ∧ w'' = wr.drewN nn := fun nn =>
          (scmp3 w.heap.size 6 3 (w.heap.size + 1) 6 3 _ _ _ _ _ _ (wr.drewN nn) a6 a7 a8 b6 b7 b8).mono fun _ _ ⟨he, hw⟩ => ⟨by rw [he, ← hR]; rfl, hw⟩
        rw [hR] at HR
        clear hR a0 a1 a2 a3 a4 a5 a6 a7 a8 b0 b1 b2 b3 b4 b5 b6 b7 b8
        by_cases hz : R = 0
        · have HN := Lib.hid (HR.out.trans (if_pos hz))
          subst hz
          go_wp2_with fail
          go_quiet (exact Calls.quiet_of_same (cK _))
          clear cK
          go_wp2_with fail
          go_roundw
          case rel => exact ⟨3, by omega, by go_num, HN, Lib.hid (HD.out _)⟩
          case measure => simp [intOf]
        · have HN := Lib.hid (HR.out.trans (if_neg hz))
          have hq : (R != 0) = true := by simp [hz]
          clear hz
          go_wp2_with fail
          go_quiet (exact Calls.quiet_of_same (cK _))
          clear cK
          go_wp2_with fail
          go_ret
          exact ⟨by rw [HN.out]; rfl, grewT hW2 (HD.out _)⟩
    · obtain rfl : k = 3 := by omega
      have HX : Hid (cmpM g h = 0) := Lib.hid (by rw [HU.out]; rfl)
      go_wp2_with fail
      go_ret
      exact ⟨by rw [HX.out]; rfl, grewT hW2 HW.out⟩
end Go.Proofs.Ytpbdbgajohacoaa
