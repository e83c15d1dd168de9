/-
  LISTS OF POLYNOMIALS in a law: measured. Conditions: as the theorem states.
  LISTS OF POLYNOMIALS in a law: compared. Conditions: as the theorem states.
-/
import Derived.Test.YtggogmbhlfddlaaBa
import Derived.Test.YtggogmbhlfddlaaF
import Derived.Test.YtggogmbhlfddlaaBu
import Derived.Test.YtggogmbhlfddlaaG
import Derived.Deep.RegionWith
namespace Go.Proofs.Ytggogmbhlfddlaa
open Go.RowKit Go.Sort

/-- All terms of a list of polynomials. -/
def totP (G : List Pm) : Nat := (G.map (·.2.2.length)).sum
theorem totP_take {G : List Pm} {k : Nat} (h : k < G.length) : totP (G.take (k + 1)) = totP (G.take k) + G[k].2.2.length := by
  unfold totP
  rw [List.take_succ_eq_append_getElem h, List.map_append, List.sum_append]
  simp
theorem totP_le (G : List Pm) (k : Nat) : totP (G.take k) ≤ totP G := by
  have h : totP G = totP (G.take k) + totP (G.drop k) := by
    unfold totP
    rw [← List.sum_append, ← List.map_append, List.take_append_drop]
  omega
theorem totP_of {G : List Pm} {g : Pm} (h : g ∈ G) : g.2.2.length ≤ totP G := by
  obtain ⟨k, hk, rfl⟩ := List.mem_iff_getElem.1 h
  have h1 := totP_take hk
  have h2 := totP_le G (k + 1)
  omega
theorem leftOf_lt {left : Int} {n : Nat} (h : left - n < 0) : leftOf left n = -1 := if_pos h
theorem leftOf_ge {left : Int} {n : Nat} (h : ¬ left - n < 0) : leftOf left n = left - n := if_neg h

set_option maxHeartbeats 2000000 in
theorem szpolys (v : Value) (G : List Pm) (left : Int) (w : World) (h0 : 0 ≤ left) (h1 : left ≤ 1048576) (hl : G.length ≤ 9223372036854775807) (hlr : ∀ g ∈ G, g.2.2.length ≤ 9223372036854775807) (hS : SlP w v G) :
    Calls Try.prog 19 #[v, .int .i64 left] w fun e w' => e = .returned (.int .i64 (leftOf left (G.length + totP G))) ∧ Below w.heap.size w w' := by
  obtain ⟨a, cap, rfl, hc⟩ := hS
  by_cases h : left < G.length
  · have h' : left - (G.length : Int) < 0 := by omega
    go_enter Try.func19, Try.ntmps19
    go_wp2
    go_ret
    exact ⟨by rw [leftOf_lt (by omega)]; rfl, .refl _ _⟩
  · have h' : ¬ left - (G.length : Int) < 0 := by omega
    go_enter Try.func19, Try.ntmps19
    go_wp2
    go_loopw [1, 5] (fun m i wr => ∃ k : Nat, k ≤ G.length ∧ i = .int .i64 k ∧ Below w.heap.size w wr ∧ ∃ q : Int, m = .int .i64 q ∧ q = left - G.length - totP (G.take k) ∧ 0 ≤ q ∧ q ≤ 1048576) (fun _ i _ => G.length - (intOf i).toNat)
    case atStart => exact ⟨0, by omega, rfl, .refl _ _, _, rfl, by simp [totP], by omega, by omega⟩
    case round =>
      obtain ⟨k, hk, rfl, hbel, q, rfl, hq, hq0, hq1⟩ := hrel
      by_cases hlt : k < G.length
      · have hlt' : (k : Int) < (G.length : Int) := by omega
        obtain ⟨b, off, rfl, hbb, hT⟩ : ∃ b off, a = some ⟨b, off, none⟩ ∧ b < w.heap.size ∧ PolysW w b off G := by
          rcases hc with rfl | h
          · simp at hlt
          · exact h
        obtain ⟨u, c0, c1, c2, s0⟩ := (hT.below hbel hbb) k hlt
        have hrl := hlr _ (List.getElem_mem hlt)
        have HT := Lib.hid (totP_take hlt)
        have HL := Lib.hid (totP_le G (k + 1))
        have HQ := Lib.hid hq
        clear hq
        go_wp2_with fail
        ((with_reducible refine (szPoly_any _ _ q u G[k].2.2 _ hrl hq0 hq1 s0).mono ?_); rintro e w1 ⟨rfl, hb1⟩)
        have hbel1 := hbel.trans (hb1.mono hbel.size)
        by_cases hneg : q - G[k].2.2.length < 0
        · rw [leftOf_lt hneg]
          have HN : Hid (left - ((G.length + totP G : Nat) : Int) < 0) := Lib.hid (by
            have h1 := HT.out
            have h2 := HL.out
            have h3 := HQ.out
            omega)
          clear hneg
          go_wp2_with fail
          go_ret
          exact ⟨by rw [leftOf_lt HN.out]; rfl, hbel1⟩
        · rw [leftOf_ge hneg]
          obtain ⟨q2, hq2⟩ : ∃ q2, q - (G[k].2.2.length : Int) = q2 := ⟨_, rfl⟩
          have hq20 : 0 ≤ q2 := by omega
          have hq21 : q2 ≤ 1048576 := by omega
          have hq22 : ¬ q2 < 0 := by omega
          have HN : Hid (q2 = left - G.length - totP (G.take (k + 1))) := Lib.hid (by
            have h1 := HT.out
            have h3 := HQ.out
            omega)
          rw [hq2]
          clear hneg hq2
          go_wp2_with fail
          go_roundw
          case rel => exact ⟨k + 1, by omega, by go_num, hbel1, q2, rfl, HN.out, hq20, hq21⟩
          case measure => simp [intOf]; omega
      · obtain rfl : k = G.length := by omega
        rw [List.take_length] at hq
        have HQ := Lib.hid hq
        clear hq
        go_wp2_with fail
        go_ret
        have h3 := HQ.out
        exact ⟨by rw [leftOf_ge (by omega)]; simp only [Int.natCast_add]; rw [← Int.sub_sub, ← h3]; rfl, hbel⟩
end Go.Proofs.Ytggogmbhlfddlaa
namespace Go.Proofs.Ytggogmbhlfddlaa
open Go.RowKit Go.Sort


end Go.Proofs.Ytggogmbhlfddlaa
