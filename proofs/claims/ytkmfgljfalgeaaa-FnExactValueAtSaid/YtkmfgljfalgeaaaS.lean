/-
  WALKS: 'spec.l01List' at every list; 'spec.l01At'. Conditions: as each theorem states.
-/
import Derived.Test.YtkmfgljfalgeaaaR
import Derived.Test.YtkmfgljfalgeaaaI
import Derived.Test.YtkmfgljfalgeaaaArr
namespace Go.Proofs.Ytkmfgljfalgeaaa
open Go.RowKit Go.Sort

theorem list_any (d : Int) (v : Value) (l : List Int) (w : World) (h1 : 1 ≤ d) (h3 : d ≤ 3) (hl : l.length ≤ 1048576) (hS : SliceI w v l) :
    Calls Try.prog 41 #[.int .i64 d, v] w (ListPost d l w) := by
  obtain ⟨a, cap, rfl, h⟩ := hS
  by_cases hd : (l.length : Int) = d
  · subst hd
    rcases h with rfl | ⟨g, o, rfl, hg, hT⟩
    · simp at h1
    · match l, hT with
      | [a], hT =>
        have k0 := hT 0 (by simp)
        by_cases ha : 0 ≤ a ∧ a ≤ 12
        · exact list1_ok g o cap a w hg k0 ha.1 ha.2
        · exact list1_bad0 g o cap a w hg k0 (by omega)
      | [a, b], hT =>
        have k0 := hT 0 (by simp)
        have k1 := hT 1 (by simp)
        by_cases ha : 0 ≤ a ∧ a ≤ 12
        · by_cases hb : 0 ≤ b ∧ b ≤ 12
          · exact list2_ok g o cap a b w hg k0 k1 ha.1 ha.2 hb.1 hb.2
          · exact list2_bad1 g o cap a b w hg k0 k1 ha.1 ha.2 (by omega)
        · exact list2_bad0 g o cap a b w hg k0 (by omega)
      | [a, b, c], hT =>
        have k0 := hT 0 (by simp)
        have k1 := hT 1 (by simp)
        have k2 := hT 2 (by simp)
        by_cases ha : 0 ≤ a ∧ a ≤ 12
        · by_cases hb : 0 ≤ b ∧ b ≤ 12
          · by_cases hc : 0 ≤ c ∧ c ≤ 12
            · exact list3_ok g o cap a b c w hg k0 k1 k2 ha.1 ha.2 hb.1 hb.2 hc.1 hc.2
            · exact list3_bad2 g o cap a b c w hg k0 k1 k2 ha.1 ha.2 hb.1 hb.2 (by omega)
          · exact list3_bad1 g o cap a b c w hg k0 k1 ha.1 ha.2 (by omega)
        · exact list3_bad0 g o cap a b c w hg k0 (by omega)
      | _ :: _ :: _ :: _ :: r, _ => simp at h3; omega
  · exact list_len d a l.length cap l w rfl hd

/-- The value of the term with exponents e, 0 if there is none. -/
def atL : List Tm → Int × Int × Int → Int
  | [], _ => 0
  | t :: r, e => if tmE t = e then t.2.2.2 else atL r e
theorem atL_step (ts : List Tm) (e : Int × Int × Int) (k : Nat) (h : k < ts.length) : atL (ts.drop k) e = if tmE ts[k] = e then ts[k].2.2.2 else atL (ts.drop (k + 1)) e := by
  rw [List.drop_eq_getElem_cons h]; rfl

set_option maxHeartbeats 1000000 in
theorem at_some (p d : Int) (b off cap : Nat) (ts : List Tm) (x y z : Int) (w : World) (hl : ts.length ≤ 1048576) (hb : b < w.heap.size) (hT : Terms w b off ts) :
    Calls Try.prog 42 #[.agg #[.int .i64 p, .int .i64 d, .slice (some ⟨b, off, none⟩) ts.length cap], .agg #[.int .u8 x, .int .u8 y, .int .u8 z]] w fun e w' => e = .returned (.int .i64 (atL ts (x, y, z))) ∧ Below w.heap.size w w' := by
  obtain ⟨W, hW, hbW, hWs, x0, x1, x2, e0, e1, e2⟩ : ∃ W, W = (w.alloc (.cells #[.int .i64 p, .int .i64 d, .slice (some ⟨b, off, none⟩) ts.length cap] 29)).alloc (.cells #[.int .u8 x, .int .u8 y, .int .u8 z] 52) ∧ Below w.heap.size w W ∧ w.heap.size + 1 < W.heap.size ∧
      W.cell? ⟨w.heap.size, 0, none⟩ = some (.int .i64 p) ∧ W.cell? ⟨w.heap.size, 1, none⟩ = some (.int .i64 d) ∧ W.cell? ⟨w.heap.size, 2, none⟩ = some (.slice (some ⟨b, off, none⟩) ts.length cap) ∧
      W.cell? ⟨w.heap.size + 1, 0, none⟩ = some (.int .u8 x) ∧ W.cell? ⟨w.heap.size + 1, 1, none⟩ = some (.int .u8 y) ∧ W.cell? ⟨w.heap.size + 1, 2, none⟩ = some (.int .u8 z) :=
    ⟨_, rfl, box2 _ _ _, by simp, by go_simp, by go_simp, by go_simp, by go_simp, by go_simp, by go_simp⟩
  have hTW := hT.below hbW hb
  have hbw : b < w.heap.size := hb
  go_enter Try.func42, Try.ntmps42
  go_wp2
  rw [← hW]
  clear hW
  go_loopw [5] (fun i wr => ∃ k : Nat, k ≤ ts.length ∧ i = .int .i64 k ∧ atL ts (x, y, z) = atL (ts.drop k) (x, y, z) ∧ ∃ n, wr = W.drewN n) (fun i _ => ts.length - (intOf i).toNat)
  case atStart => exact ⟨0, by omega, rfl, rfl, 0, rfl⟩
  case round =>
    obtain ⟨k, hk, rfl, hU, n, rfl⟩ := hrel
    by_cases hlt : k < ts.length
    · have hlt' : (k : Int) < (ts.length : Int) := by omega
      obtain ⟨c0, c1, c2, c3⟩ := hTW k hlt
      have hst := atL_step ts (x, y, z) k hlt
      have HST := Lib.hid (hU.trans hst)
      clear hU hst
      have hG : Try.prog.eqGuardType Try.prog.depth 52 = false := by kernel_rfl
      have hEq := arr3_eq ts[k].1 ts[k].2.1 ts[k].2.2.1 x y z
      cases hB : (ts[k].1 == x && (ts[k].2.1 == y && ts[k].2.2.1 == z))
      · have hne : ¬ tmE ts[k] = (x, y, z) := fun h => by simp [tmE] at h; simp [h] at hB
        have HN : Hid (atL ts (x, y, z) = atL (ts.drop (k + 1)) (x, y, z)) := Lib.hid (by rw [HST.out, if_neg hne])
        rw [hB] at hEq
        clear hne hB
        go_wp2
        go_quiet (fail)
        go_wp2
        go_roundw
        case rel => exact ⟨k + 1, by omega, by go_num, HN.out, _, rfl⟩
        case measure => simp [intOf]; omega
      · have he : tmE ts[k] = (x, y, z) := by simp at hB; simp [tmE, hB]
        have HN : Hid (atL ts (x, y, z) = ts[k].2.2.2) := Lib.hid (by rw [HST.out, if_pos he])
        rw [hB] at hEq
        clear he hB
        go_wp2
        go_quiet (fail)
        go_wp2
        go_ret
        exact ⟨by rw [HN.out]; rfl, by repeat (first | with_reducible exact hbW | refine below_drewN ?_ _)⟩
    · obtain rfl : k = ts.length := by omega
      have HU := Lib.hid hU
      clear hU
      go_wp2
      go_ret
      exact ⟨by rw [HU.out, List.drop_length]; rfl, below_drewN hbW n⟩

end Go.Proofs.Ytkmfgljfalgeaaa
