/-
  WALKS of the program on matrices: whether the numbers fit. Conditions: as each theorem states.
-/
import Derived.Test.YtpbdbgajohacoaaEn
namespace Go.Proofs.Ytpbdbgajohacoaa
open Go.RowKit Go.Sort EchM

set_option maxRecDepth 8000 in
set_option maxHeartbeats 4000000 in
theorem has_any (p n : Int) (g : Nat → Nat → Int) (w : World) (hg : Byt g) :
    Calls Try.prog 77 #[.int .i64 p, .int .i64 n, mv g] w fun e w' => e = .returned (.bool (hasB p n g)) ∧ Below w.heap.size w w' := by
  have hb0 : Below w.heap.size w (w.alloc (.cells #[.int .u8 (g 0 0), .int .u8 (g 0 1), .int .u8 (g 0 2), .int .u8 (g 1 0), .int .u8 (g 1 1), .int .u8 (g 1 2), .int .u8 (g 2 0), .int .u8 (g 2 1), .int .u8 (g 2 2)] 55)) := ebox1 _ _
  have HG := Lib.hid hg
  clear hg
  unfold mv
  go_enter Try.func77, Try.ntmps77
  go_wp2
  go_loopw [13] (fun i wr => ∃ (k : Nat), k ≤ 3 ∧ i = .int .i64 k ∧ Hid (∀ i, i < k → ∀ j, j < 3 → okC p n (g i j) i j = true) ∧ Below w.heap.size w wr) (fun i _ => 3 - (intOf i).toNat)
  case atStart => exact ⟨0, by omega, rfl, Lib.hid (fun i hi => by omega), hb0⟩
  case round =>
    obtain ⟨k, hk, rfl, HU, hb⟩ := hrel
    have hs := hb.size
    by_cases hlt : k < 3
    · have hlt' : (k : Int) < 3 := by omega
      have hI := idx9 g hlt
      have hBn : ∀ o, Below w.heap.size w (wr.alloc o) := fun o => hb.alloc hs o
      have HB := Lib.hid hBn
      clear hBn hb hb0
      go_wp2_with fail
      generalize hW : wr.alloc _ = W
      have hbW : Below w.heap.size w W := by rw [← hW]; exact HB.out _
      clear hW HB hI
      go_wp2_with fail
      go_loop [18] (fun i => ∃ (j : Nat), j ≤ 3 ∧ i = .int .i64 j ∧ Hid (∀ j', j' < j → okC p n (g k j') k j' = true)) (fun i => 3 - (intOf i).toNat)
      case atStart => exact ⟨0, by omega, rfl, Lib.hid (fun j hj => by omega)⟩
      case round =>
        obtain ⟨j, hj, rfl, HV⟩ := hrel
        by_cases hjt : j < 3
        · have hjt' : (j : Int) < 3 := by omega
          have hI := idx3 (g k) hjt
          have hx := HG.out k hlt j hjt
          have HNo := Lib.hid (fun h => hasB_no (p := p) (n := n) (g := g) hlt hjt (okC_no h))
          have HYes : (g k j < p → ((k : Int) < n ∧ (j : Int) < n) ∨ g k j = 0 → Hid (∀ j', j' < j + 1 → okC p n (g k j') k j' = true)) := fun h1 h2 => Lib.hid (fun j' hj' => by
            by_cases e : j' = j
            · subst e; exact okC_yes h1 h2
            · exact HV.out j' (by omega))
          have HY := Lib.hid HYes
          clear HYes
          generalize hX : g k j = X at hI hx HNo HY
          clear hX
          obtain ⟨x0, x1⟩ := hx
          by_cases h1 : p ≤ X
          · have HX := Lib.hid (HNo.out (.inl h1))
            clear HNo HY
            go_wp2_with fail
            all_goals go_ret
            all_goals exact ⟨by rw [HX.out]; rfl, hbW⟩
          · by_cases hz : X = 0
            · have HN := HY.out (by omega) (.inr hz)
              subst hz
              clear HNo HY
              by_cases h2 : (k : Int) < n
              · by_cases h3 : (j : Int) < n
                · go_wp2_with fail
                  go_round
                  case rel => exact ⟨j + 1, by omega, by go_num, HN⟩
                  case measure => simp [intOf]; omega
                · go_wp2_with fail
                  go_round
                  case rel => exact ⟨j + 1, by omega, by go_num, HN⟩
                  case measure => simp [intOf]; omega
              · go_wp2_with fail
                go_round
                case rel => exact ⟨j + 1, by omega, by go_num, HN⟩
                case measure => simp [intOf]; omega
            · have hq : (X != 0) = true := by simp [hz]
              by_cases h2 : (k : Int) < n
              · by_cases h3 : (j : Int) < n
                · have HN := HY.out (by omega) (.inl ⟨h2, h3⟩)
                  clear HNo HY hz
                  go_wp2_with fail
                  go_round
                  case rel => exact ⟨j + 1, by omega, by go_num, HN⟩
                  case measure => simp [intOf]; omega
                · have HX := Lib.hid (HNo.out (.inr ⟨.inr (by omega), hz⟩))
                  clear HNo HY hz
                  go_wp2_with fail
                  go_ret
                  exact ⟨by rw [HX.out]; rfl, hbW⟩
              · have HX := Lib.hid (HNo.out (.inr ⟨.inl (by omega), hz⟩))
                clear HNo HY hz
                go_wp2_with fail
                go_ret
                exact ⟨by rw [HX.out]; rfl, hbW⟩
        · obtain rfl : j = 3 := by omega
          have HN : Hid (∀ i, i < k + 1 → ∀ j, j < 3 → okC p n (g i j) i j = true) := Lib.hid (fun i hi j hj => by
            by_cases e : i = k
            · subst e; exact HV.out j hj
            · exact HU.out i (by omega) j hj)
          go_wp2_with fail
          go_roundw
          case rel => exact ⟨k + 1, by omega, by go_num, HN, hbW⟩
          case measure => simp [intOf]; omega
    · obtain rfl : k = 3 := by omega
      have HX : Hid (hasB p n g = true) := Lib.hid (hasB_yes HU.out)
      go_wp2_with fail
      go_ret
      exact ⟨by rw [HX.out]; rfl, hb⟩
end Go.Proofs.Ytpbdbgajohacoaa
