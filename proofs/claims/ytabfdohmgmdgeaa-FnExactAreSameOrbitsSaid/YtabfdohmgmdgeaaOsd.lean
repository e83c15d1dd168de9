/-
  THE FIRST POINT OF AN ORBIT, the model: 'spec.l09Least'; 'spec.l09Same'. Conditions: as each theorem states.
-/
import Derived.Test.YtabfdohmgmdgeaaOsa
import Derived.Test.YtabfdohmgmdgeaaUc
namespace Go.Proofs.Ytabfdohmgmdgeaa
open Go.RowKit Go.Sort EchM

theorem dropEq_step {l o : List Int} {k : Nat} (h : k < l.length) (h' : k < o.length) : decide (l.drop k = o.drop k) = (decide (l[k] = o[k]) && decide (l.drop (k + 1) = o.drop (k + 1))) := by
  rw [List.drop_eq_getElem_cons h, List.drop_eq_getElem_cons h']
  simp only [List.cons.injEq, Bool.decide_and]

set_option maxRecDepth 8000 in
set_option maxHeartbeats 4000000 in
theorem ssame9 (v v' : Value) (l o : List Int) (w : World) (hl : l.length ≤ 1048576) (hlo : l.length = o.length) (hS : Sl w v l) (hS' : Sl w v' o) :
    Calls Try.prog 14 #[v, v'] w fun e w' => e = .returned (.bool (decide (l = o))) ∧ Below w.heap.size w w' := by
  obtain ⟨a, cap, rfl, hc⟩ := hS
  obtain ⟨a', cap', rfl, hc'⟩ := hS'
  have HLO := Lib.hid hlo
  rw [← hlo]
  obtain ⟨B, hB⟩ : ∃ B, decide (l = o) = B := ⟨_, rfl⟩
  have HB := Lib.hid hB
  rw [hB]
  clear hlo hB
  go_enter Try.func14, Try.ntmps14
  go_wp2_with fail
  go_loopw [5] (fun i wr => ∃ k : Nat, k ≤ l.length ∧ i = .int .i64 k ∧ Hid (B = decide (l.drop k = o.drop k)) ∧ ∃ nd, wr = w.drewN nd) (fun i _ => l.length - (intOf i).toNat)
  case atStart => exact ⟨0, by omega, rfl, Lib.hid (by rw [← HB.out]; simp), 0, rfl⟩
  case round =>
    obtain ⟨k, hk, rfl, HU, nd, rfl⟩ := hrel
    by_cases hlt : k < l.length
    · have hlt' : (k : Int) < (l.length : Int) := by omega
      have hlo : k < o.length := by have := HLO.out; omega
      obtain ⟨b, off, rfl, hbb, hT⟩ : ∃ b off, a = some ⟨b, off, none⟩ ∧ b < w.heap.size ∧ Cs w b off l := by
        rcases hc with rfl | h
        · simp at hlt
        · exact h
      obtain ⟨b', off', rfl, hbb', hT'⟩ : ∃ b off, a' = some ⟨b, off, none⟩ ∧ b < w.heap.size ∧ Cs w b off o := by
        rcases hc' with rfl | h
        · simp at hlo
        · exact h
      have c0 := hT k hlt
      have c1 := hT' k hlo
      have HS := Lib.hid (HU.out.trans (dropEq_step hlt hlo))
      generalize l[k] = x at *
      generalize o[k] = y at *
      by_cases h1 : x = y
      · have HN : Hid (B = decide (l.drop (k + 1) = o.drop (k + 1))) := Lib.hid (by rw [HS.out, decide_eq_true h1, Bool.true_and])
        subst h1
        have hxx : (x != x) = false := by simp
        go_wp2_with fail
        go_quiet (fail)
        go_wp2_with fail
        go_roundw
        case rel => exact ⟨k + 1, by omega, by go_num, HN, _, rfl⟩
        case measure => simp [intOf]; omega
      · have HN : Hid (B = false) := Lib.hid (by rw [HS.out, decide_eq_false h1, Bool.false_and])
        have hxx : (x != y) = true := by simpa using h1
        go_wp2_with fail
        go_quiet (fail)
        go_wp2_with fail
        go_ret
        exact ⟨by rw [HN.out]; rfl, by repeat (first | with_reducible exact Below.refl _ _ | refine below_drewN ?_ _)⟩
    · obtain rfl : k = l.length := by omega
      have HN : Hid (B = true) := Lib.hid (by rw [HU.out, List.drop_of_length_le (Nat.le_refl _), List.drop_of_length_le (by rw [HLO.out]; exact Nat.le_refl _)]; rfl)
      go_wp2_with fail
      go_ret
      exact ⟨by rw [HN.out]; rfl, below_drewN (Below.refl _ _) _⟩

set_option maxRecDepth 8000 in
set_option maxHeartbeats 4000000 in
theorem sleast (p : Int) (m : Nat) (v u : Value) (L : List (Nat → Nat → Int)) (pt : List Int) (w : World) (hg : isGrp p (m : Int) L = true) (hl : L.length ≤ 48) (hS : SlM w v L) (m1 : 1 ≤ m) (m3 : m ≤ 3) (hmv : ∀ x ∈ L, MatV p m x) (hpt : pt.length = m) (hpp : ∀ k, k < m → 0 ≤ nth pt k ∧ nth pt k < p) (hU : Sl w u pt) :
    Calls Try.prog 15 #[.agg #[.int .i64 p, .int .i64 (m : Int), v], u] w fun e w' => ∃ v', e = .returned v' ∧ Sl w' v' (leastF pt (imsL p m L pt)) ∧ Below w.heap.size w w' := by
  obtain ⟨W, hW, rW, hbW⟩ : ∃ W, W = w.alloc (.cells #[.int .i64 p, .int .i64 (m : Int), v] 31) ∧ W.rowIs w.heap.size 31 3 (grpF p m v) ∧ Below w.heap.size w W := ⟨_, rfl, gbox w p m v _, ebox1 _ _⟩
  have HO := Lib.hid (sorbit p m v u L pt W hl (hS.below hbW) m1 m3 hmv hpt hpp (hU.below hbW))
  have HH := Lib.hid (fun S (h : IsOrb (imsL p m L pt) S) => orb_head (n := m) h (fun y hy => by obtain ⟨x, _, rfl⟩ := List.mem_map.1 hy; exact leadL_len _ _ _ _) (own_image hg m3 hpt hpp))
  have HBW := Lib.hid hbW
  obtain ⟨g0, g1, g2⟩ := gcells rW
  obtain ⟨X, hX⟩ : ∃ X, leastF pt (imsL p m L pt) = X := ⟨_, rfl⟩
  rw [hX] at HH ⊢
  clear hX hg hl hS m1 m3 hmv hpt hpp hU rW hbW
  go_enter Try.func15, Try.ntmps15
  go_wp2_with fail
  rw [← hW]
  clear hW
  ((with_reducible refine HO.out.mono ?_); rintro e w2 ⟨v2, S, rfl, hO, hS2, hb2⟩)
  obtain ⟨T, rfl⟩ := HH.out S hO
  obtain ⟨a, cap, rfl, h | ⟨b, off, rfl, hbb, hT⟩⟩ := hS2
  · simp at h
  obtain ⟨u0, k0, s0⟩ := hT 0 (by simp)
  have s0' : Sl w2 u0 X := s0
  have h0 : (0 : Int) < ((X :: T).length : Int) := by simp
  obtain ⟨N, hN⟩ : ∃ N, (X :: T).length = N := ⟨_, rfl⟩
  rw [hN] at h0 ⊢
  have k1 : w2.cell? ⟨b, off, none⟩ = some u0 := by simpa using k0
  have HBE := Lib.hid (HBW.out.trans (hb2.mono HBW.out.size))
  obtain ⟨ua, uc, rfl, _⟩ := id s0'
  clear hO hb2 hT s0 k0 g0 g1 g2 HO HH
  go_wp2_with fail
  go_ret
  exact ⟨_, rfl, s0', HBE.out⟩
end Go.Proofs.Ytabfdohmgmdgeaa
