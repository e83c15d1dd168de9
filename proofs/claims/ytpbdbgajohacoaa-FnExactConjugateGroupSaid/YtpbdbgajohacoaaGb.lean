/-
  LISTS OF MATRICES: the model's order of matrices, and its search in a list. Conditions: as each theorem states.
-/
import Derived.Test.YtpbdbgajohacoaaKi
namespace Go.Proofs.Ytpbdbgajohacoaa
open Go.RowKit Go.Sort EchM

/-- Whether a matrix comes ahead of another one, from a place on. -/
def befA (g h : Nat → Nat → Int) : Nat → Nat → Bool
  | 0, _ => false
  | f + 1, q => if g (q / 3) (q % 3) = h (q / 3) (q % 3) then befA g h f (q + 1) else decide (g (q / 3) (q % 3) < h (q / 3) (q % 3))
def befM (g h : Nat → Nat → Int) : Bool := befA g h 9 0
theorem befA_step {g h : Nat → Nat → Int} {i j : Nat} (hi : i < 3) (hj : j < 3) : befA g h (9 - (i * 3 + j)) (i * 3 + j) = if g i j = h i j then befA g h (9 - (i * 3 + (j + 1))) (i * 3 + (j + 1)) else decide (g i j < h i j) := by
  rw [show 9 - (i * 3 + j) = (9 - (i * 3 + (j + 1))) + 1 by omega, befA, show (i * 3 + j) / 3 = i by omega, show (i * 3 + j) % 3 = j by omega]
  rfl

set_option maxRecDepth 8000 in
set_option maxHeartbeats 4000000 in
theorem sbefore (g h : Nat → Nat → Int) (w : World) : Calls Try.prog 86 #[mv g, mv h] w fun e w' => e = .returned (.bool (befM g h)) ∧ Below w.heap.size w w' := by
  obtain ⟨W, hW, r1, r2, hbW⟩ : ∃ W, W = (w.alloc (.cells #[.int .u8 (g 0 0), .int .u8 (g 0 1), .int .u8 (g 0 2), .int .u8 (g 1 0), .int .u8 (g 1 1), .int .u8 (g 1 2), .int .u8 (g 2 0), .int .u8 (g 2 1), .int .u8 (g 2 2)] 55)).alloc (.cells #[.int .u8 (h 0 0), .int .u8 (h 0 1), .int .u8 (h 0 2), .int .u8 (h 1 0), .int .u8 (h 1 1), .int .u8 (h 1 2), .int .u8 (h 2 0), .int .u8 (h 2 1), .int .u8 (h 2 2)] 55) ∧
      W.rowIs w.heap.size 55 9 (mF g) ∧ W.rowIs (w.heap.size + 1) 55 9 (mF h) ∧ Below w.heap.size w W := by
    refine ⟨_, rfl, (mbox w g _).alloc _, ?_, ebox2 _ _ _⟩
    have := mbox (w.alloc (.cells #[.int .u8 (g 0 0), .int .u8 (g 0 1), .int .u8 (g 0 2), .int .u8 (g 1 0), .int .u8 (g 1 1), .int .u8 (g 1 2), .int .u8 (g 2 0), .int .u8 (g 2 1), .int .u8 (g 2 2)] 55)) h 55
    rwa [World.size_alloc] at this
  unfold mv
  go_enter Try.func86, Try.ntmps86
  go_upto_region 1 with fail
  rw [← hW]
  clear hW
  go_wp2_with fail
  go_loopw [5] (fun i wr => ∃ (k : Nat), k ≤ 3 ∧ i = .int .i64 k ∧ Hid (befM g h = befA g h (9 - (k * 3 + 0)) (k * 3 + 0)) ∧ ∃ nd, wr = W.drewN nd) (fun i _ => 3 - (intOf i).toNat)
  case atStart => exact ⟨0, by omega, rfl, Lib.hid rfl, 0, rfl⟩
  case round =>
    obtain ⟨k, hk, rfl, HU, nd, rfl⟩ := hrel
    by_cases hlt : k < 3
    · have hlt' : (k : Int) < 3 := by omega
      go_wp2_with fail
      go_loopw [6] (fun i wr => ∃ (j : Nat), j ≤ 3 ∧ i = .int .i64 j ∧ Hid (befM g h = befA g h (9 - (k * 3 + j)) (k * 3 + j)) ∧ ∃ nd, wr = W.drewN nd) (fun i _ => 3 - (intOf i).toNat)
      case atStart => exact ⟨0, by omega, rfl, HU, nd, rfl⟩
      case round =>
        obtain ⟨j, hj, rfl, HV, nd2, rfl⟩ := hrel
        by_cases hjt : j < 3
        · have hjt' : (j : Int) < 3 := by omega
          have c0 := mcell r1 (i := k) (j := j) hlt hjt
          have c1 := mcell r2 (i := k) (j := j) hlt hjt
          have HS := Lib.hid (HV.out.trans (befA_step hlt hjt))
          generalize g k j = X at c0 HS
          generalize h k j = Y at c1 HS
          by_cases he : X = Y
          · have HN := Lib.hid (HS.out.trans (if_pos he))
            subst he
            have hq : (X != X) = false := by simp
            clear HS
            go_wp2_with fail
            go_quiet (fail)
            go_wp2_with fail
            go_roundw
            case rel => exact ⟨j + 1, by omega, by go_num, HN, _, rfl⟩
            case measure => simp [intOf]; omega
          · have HN := Lib.hid (HS.out.trans (if_neg he))
            have hq : (X != Y) = true := by simp [he]
            clear HS he
            go_wp2_with fail
            go_quiet (fail)
            go_wp2_with fail
            go_quiet (fail)
            go_wp2_with fail
            go_ret
            exact ⟨by rw [HN.out]; rfl, by repeat (first | with_reducible exact hbW | refine below_drewN ?_ _)⟩
        · obtain rfl : j = 3 := by omega
          have HN : Hid (befM g h = befA g h (9 - ((k + 1) * 3 + 0)) ((k + 1) * 3 + 0)) := Lib.hid (by rw [HV.out, show (k + 1) * 3 + 0 = k * 3 + 3 by omega])
          go_wp2_with fail
          go_roundw
          case rel => exact ⟨k + 1, by omega, by go_num, HN, _, rfl⟩
          case measure => simp [intOf]; omega
    · obtain rfl : k = 3 := by omega
      have HX : Hid (befM g h = false) := Lib.hid (by rw [HU.out]; rfl)
      go_wp2_with fail
      go_ret
      exact ⟨by rw [HX.out]; rfl, by repeat (first | with_reducible exact hbW | refine below_drewN ?_ _)⟩

/-- A list of matrices in memory; a slice that reads as one. -/
def MatsW (w : World) (b off : Nat) (L : List (Nat → Nat → Int)) : Prop := ∀ (k : Nat) (hk : k < L.length) (i j : Nat), i < 3 → j < 3 → w.cell? ⟨b, off + k * 9 + (i * 3 + j), none⟩ = some (.int .u8 (L[k] i j))
def SlM (w : World) (v : Value) (L : List (Nat → Nat → Int)) : Prop :=
  ∃ a cap, v = .slice a L.length cap ∧ (L = [] ∨ ∃ b off, a = some ⟨b, off, none⟩ ∧ b < w.heap.size ∧ MatsW w b off L)
theorem MatsW.below {w w' : World} {b off B : Nat} {L : List (Nat → Nat → Int)} (h : MatsW w b off L) (hb : Below B w w') (hB : b < B) : MatsW w' b off L := fun k hk i j hi hj => (hb.cell (p := ⟨b, _, none⟩) hB).trans (h k hk i j hi hj)
theorem SlM.below {w w' : World} {v : Value} {L : List (Nat → Nat → Int)} (h : SlM w v L) (hb : Below w.heap.size w w') : SlM w' v L := by
  obtain ⟨a, cap, hv, h | ⟨b, off, ha, hlt, hT⟩⟩ := h
  · exact ⟨a, cap, hv, .inl h⟩
  · exact ⟨a, cap, hv, .inr ⟨b, off, ha, Nat.lt_of_lt_of_le hlt hb.size, hT.below hb hlt⟩⟩
/-- The nine cells of a matrix of a list. -/
theorem MatsW.nine {w : World} {b off : Nat} {L : List (Nat → Nat → Int)} (h : MatsW w b off L) {k : Nat} (hk : k < L.length) :
    (w.cell? ⟨b, off + k * 9, none⟩ = some (.int .u8 (L[k] 0 0)) ∧ w.cell? ⟨b, off + k * 9 + 1, none⟩ = some (.int .u8 (L[k] 0 1)) ∧ w.cell? ⟨b, off + k * 9 + 2, none⟩ = some (.int .u8 (L[k] 0 2))) ∧
    (w.cell? ⟨b, off + k * 9 + 3, none⟩ = some (.int .u8 (L[k] 1 0)) ∧ w.cell? ⟨b, off + k * 9 + 4, none⟩ = some (.int .u8 (L[k] 1 1)) ∧ w.cell? ⟨b, off + k * 9 + 5, none⟩ = some (.int .u8 (L[k] 1 2))) ∧
    (w.cell? ⟨b, off + k * 9 + 6, none⟩ = some (.int .u8 (L[k] 2 0)) ∧ w.cell? ⟨b, off + k * 9 + 7, none⟩ = some (.int .u8 (L[k] 2 1)) ∧ w.cell? ⟨b, off + k * 9 + 8, none⟩ = some (.int .u8 (L[k] 2 2))) :=
  ⟨⟨h k hk 0 0 (by omega) (by omega), h k hk 0 1 (by omega) (by omega), h k hk 0 2 (by omega) (by omega)⟩, ⟨h k hk 1 0 (by omega) (by omega), h k hk 1 1 (by omega) (by omega), h k hk 1 2 (by omega) (by omega)⟩, ⟨h k hk 2 0 (by omega) (by omega), h k hk 2 1 (by omega) (by omega), h k hk 2 2 (by omega) (by omega)⟩⟩
/-- The number of a matrix in a list, from a place on; -1 if it is not there. -/
def findA (g : Nat → Nat → Int) : List (Nat → Nat → Int) → Nat → Int
  | [], _ => -1
  | x :: L, k => if eqM x g then (k : Int) else findA g L (k + 1)
def findM (L : List (Nat → Nat → Int)) (g : Nat → Nat → Int) : Int := findA g L 0
theorem findA_step {g : Nat → Nat → Int} {L : List (Nat → Nat → Int)} {k : Nat} (h : k < L.length) : findA g (L.drop k) k = if eqM L[k] g then (k : Int) else findA g (L.drop (k + 1)) (k + 1) := by
  rw [List.drop_eq_getElem_cons h]; rfl

set_option maxRecDepth 8000 in
set_option maxHeartbeats 4000000 in
theorem sfind (v : Value) (L : List (Nat → Nat → Int)) (g : Nat → Nat → Int) (w : World) (hl : L.length ≤ 1048576) (hS : SlM w v L) :
    Calls Try.prog 76 #[v, mv g] w fun e w' => e = .returned (.int .i64 (findM L g)) ∧ Below w.heap.size w w' := by
  obtain ⟨W, hW, r1, hbW⟩ : ∃ W, W = w.alloc (.cells #[.int .u8 (g 0 0), .int .u8 (g 0 1), .int .u8 (g 0 2), .int .u8 (g 1 0), .int .u8 (g 1 1), .int .u8 (g 1 2), .int .u8 (g 2 0), .int .u8 (g 2 1), .int .u8 (g 2 2)] 55) ∧ W.rowIs w.heap.size 55 9 (mF g) ∧ Below w.heap.size w W := ⟨_, rfl, mbox w g _, ebox1 _ _⟩
  obtain ⟨a, cap, rfl, h⟩ := hS
  unfold mv
  go_enter Try.func76, Try.ntmps76
  go_upto_region 1 with fail
  rw [← hW]
  clear hW
  go_wp2_with fail
  go_loopw [5] (fun i wr => ∃ (k : Nat), k ≤ L.length ∧ i = .int .i64 k ∧ Hid (findM L g = findA g (L.drop k) k) ∧ ∃ nd, wr = W.drewN nd) (fun i _ => L.length - (intOf i).toNat)
  case atStart => exact ⟨0, by omega, rfl, Lib.hid rfl, 0, rfl⟩
  case round =>
    obtain ⟨k, hk, rfl, HU, nd, rfl⟩ := hrel
    by_cases hlt : k < L.length
    · have hlt' : (k : Int) < (L.length : Int) := by omega
      obtain ⟨b, off, rfl, hbb, hT⟩ : ∃ b off, a = some ⟨b, off, none⟩ ∧ b < w.heap.size ∧ MatsW w b off L := by
        rcases h with rfl | h
        · simp at hlt
        · exact h
      obtain ⟨⟨a0, a1, a2⟩, ⟨a3, a4, a5⟩, a6, a7, a8⟩ := (hT.below hbW hbb).nine hlt
      obtain ⟨⟨b0, b1, b2⟩, ⟨b3, b4, b5⟩, b6, b7, b8⟩ := mcells r1
      have HS := Lib.hid (HU.out.trans (findA_step (g := g) hlt))
      generalize hx : L[k] = x at a0 a1 a2 a3 a4 a5 a6 a7 a8 HS
      clear hx
      have hE := fun w => mat_eq x g w
      cases he : eqM x g
      · have HN : Hid (findM L g = findA g (L.drop (k + 1)) (k + 1)) := Lib.hid (HS.out.trans (by simp [he]))
        rw [he] at hE
        clear HS he
        go_wp2_with fail
        go_quiet (fail)
        go_wp2_with fail
        go_roundw
        case rel => exact ⟨k + 1, by omega, by go_num, HN, _, rfl⟩
        case measure => simp [intOf]; omega
      · have HN : Hid (findM L g = (k : Int)) := Lib.hid (HS.out.trans (by simp [he]))
        rw [he] at hE
        clear HS he
        go_wp2_with fail
        go_quiet (fail)
        go_wp2_with fail
        go_ret
        exact ⟨by rw [HN.out]; rfl, by repeat (first | with_reducible exact hbW | refine below_drewN ?_ _)⟩
    · obtain rfl : k = L.length := by omega
      have HX : Hid (findM L g = -1) := Lib.hid (by rw [HU.out, List.drop_length]; rfl)
      go_wp2_with fail
      go_ret
      exact ⟨by rw [HX.out]; rfl, by repeat (first | with_reducible exact hbW | refine below_drewN ?_ _)⟩
end Go.Proofs.Ytpbdbgajohacoaa
