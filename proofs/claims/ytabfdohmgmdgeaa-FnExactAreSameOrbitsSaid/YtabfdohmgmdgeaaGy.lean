/-
  LISTS OF MATRICES: the model's order of matrices, and its search in a list. Conditions: as each theorem states.
  GROUPS: whether something is a group, by the model. Conditions: the numbers of the matrices are bytes.
  GROUPS: whether something is a group, by the model, walked. Conditions: the numbers of the matrices are bytes.
-/
import Derived.Test.YtabfdohmgmdgeaaKi
import Derived.Test.YtabfdohmgmdgeaaKj
import Derived.BigQuiet
namespace Go.Proofs.Ytabfdohmgmdgeaa
open Go.RowKit Go.Sort EchM

/-- Whether a matrix comes ahead of another one, from a place on. -/
def befA (g h : Nat → Nat → Int) : Nat → Nat → Bool
  | 0, _ => false
  | f + 1, q => if g (q / 3) (q % 3) = h (q / 3) (q % 3) then befA g h f (q + 1) else decide (g (q / 3) (q % 3) < h (q / 3) (q % 3))
def befM (g h : Nat → Nat → Int) : Bool := befA g h 9 0
theorem befA_step {g h : Nat → Nat → Int} {i j : Nat} (hi : i < 3) (hj : j < 3) : befA g h (9 - (i * 3 + j)) (i * 3 + j) = if g i j = h i j then befA g h (9 - (i * 3 + (j + 1))) (i * 3 + (j + 1)) else decide (g i j < h i j) := by
  rw [show 9 - (i * 3 + j) = (9 - (i * 3 + (j + 1))) + 1 by omega, befA, show (i * 3 + j) / 3 = i by omega, show (i * 3 + j) % 3 = j by omega]
  rfl

set_option maxRecDepth 8000 in
set_option maxHeartbeats 4000000 in
theorem sbefore (g h : Nat → Nat → Int) (w : World) : Calls Try.prog 24 #[mv g, mv h] w fun e w' => e = .returned (.bool (befM g h)) ∧ Below w.heap.size w w' := by
  obtain ⟨W, hW, r1, r2, hbW⟩ : ∃ W, W = (w.alloc (.cells #[.int .u8 (g 0 0), .int .u8 (g 0 1), .int .u8 (g 0 2), .int .u8 (g 1 0), .int .u8 (g 1 1), .int .u8 (g 1 2), .int .u8 (g 2 0), .int .u8 (g 2 1), .int .u8 (g 2 2)] 56)).alloc (.cells #[.int .u8 (h 0 0), .int .u8 (h 0 1), .int .u8 (h 0 2), .int .u8 (h 1 0), .int .u8 (h 1 1), .int .u8 (h 1 2), .int .u8 (h 2 0), .int .u8 (h 2 1), .int .u8 (h 2 2)] 56) ∧
      W.rowIs w.heap.size 56 9 (mF g) ∧ W.rowIs (w.heap.size + 1) 56 9 (mF h) ∧ Below w.heap.size w W := by
    refine ⟨_, rfl, (mbox w g _).alloc _, ?_, ebox2 _ _ _⟩
    have := mbox (w.alloc (.cells #[.int .u8 (g 0 0), .int .u8 (g 0 1), .int .u8 (g 0 2), .int .u8 (g 1 0), .int .u8 (g 1 1), .int .u8 (g 1 2), .int .u8 (g 2 0), .int .u8 (g 2 1), .int .u8 (g 2 2)] 56)) h 56
    rwa [World.size_alloc] at this
  unfold mv
  go_enter Try.func24, Try.ntmps24
  go_upto_region 1 with fail
  rw [← hW]
  clear hW
  go_wp2_with fail
  go_loopw [5] (fun i wr => ∃ (k : Nat), k ≤ 3 ∧ i = .int .i64 k ∧ Hid (befM g h = befA g h (9 - (k * 3 + 0)) (k * 3 + 0)) ∧ ∃ nd, wr = W.drewN nd) (fun i _ => 3 - (intOf i).toNat)
  case atStart => exact ⟨0, by omega, rfl, Lib.hid rfl, 0, rfl⟩
  case round =>
    obtain ⟨k, hk, rfl, HU, nd, rfl⟩ := hrel
    by_cases hlt : k < 3
    · have hlt' : (k : Int) < 3 := by omega
      go_wp2_with fail
      go_loopw [6] (fun i wr => ∃ (j : Nat), j ≤ 3 ∧ i = .int .i64 j ∧ Hid (befM g h = befA g h (9 - (k * 3 + j)) (k * 3 + j)) ∧ ∃ nd, wr = W.drewN nd) (fun i _ => 3 - (intOf i).toNat)
      case atStart => exact ⟨0, by omega, rfl, HU, nd, rfl⟩
      case round =>
        obtain ⟨j, hj, rfl, HV, nd2, rfl⟩ := hrel
        by_cases hjt : j < 3
        · have hjt' : (j : Int) < 3 := by omega
          have c0 := mcell r1 (i := k) (j := j) hlt hjt
          have c1 := mcell r2 (i := k) (j := j) hlt hjt
          have HS := Lib.hid (HV.out.trans (befA_step hlt hjt))
          generalize g k j = X at c0 HS
          generalize h k j = Y at c1 HS
          by_cases he : X = Y
          · have HN := Lib.hid (HS.out.trans (if_pos he))
            subst he
            have hq : (X != X) = false := by simp
            clear HS
            go_wp2_with fail
            go_quiet (fail)
            go_wp2_with fail
            go_roundw
            case rel => exact ⟨j + 1, by omega, by go_num, HN, _, rfl⟩
            case measure => simp [intOf]; omega
          · have HN := Lib.hid (HS.out.trans (if_neg he))
            have hq : (X != Y) = true := by simp [he]
            clear HS he
            go_wp2_with fail
            go_quiet (fail)
            go_wp2_with fail
            go_quiet (fail)
            go_wp2_with fail
            go_ret
            exact ⟨by rw [HN.out]; rfl, by repeat (first | with_reducible exact hbW | refine below_drewN ?_ _)⟩
        · obtain rfl : j = 3 := by omega
          have HN : Hid (befM g h = befA g h (9 - ((k + 1) * 3 + 0)) ((k + 1) * 3 + 0)) := Lib.hid (by rw [HV.out, show (k + 1) * 3 + 0 = k * 3 + 3 by omega])
          go_wp2_with fail
          go_roundw
          case rel => exact ⟨k + 1, by omega, by go_num, HN, _, rfl⟩
          case measure => simp [intOf]; omega
    · obtain rfl : k = 3 := by omega
      have HX : Hid (befM g h = false) := Lib.hid (by rw [HU.out]; rfl)
      go_wp2_with fail
      go_ret
      exact ⟨by rw [HX.out]; rfl, by repeat (first | with_reducible exact hbW | refine below_drewN ?_ _)⟩

/-- A list of matrices in memory; a slice that reads as one. -/
def MatsW (w : World) (b off : Nat) (L : List (Nat → Nat → Int)) : Prop := ∀ (k : Nat) (hk : k < L.length) (i j : Nat), i < 3 → j < 3 → w.cell? ⟨b, off + k * 9 + (i * 3 + j), none⟩ = some (.int .u8 (L[k] i j))
def SlM (w : World) (v : Value) (L : List (Nat → Nat → Int)) : Prop :=
  ∃ a cap, v = .slice a L.length cap ∧ (L = [] ∨ ∃ b off, a = some ⟨b, off, none⟩ ∧ b < w.heap.size ∧ MatsW w b off L)
theorem MatsW.below {w w' : World} {b off B : Nat} {L : List (Nat → Nat → Int)} (h : MatsW w b off L) (hb : Below B w w') (hB : b < B) : MatsW w' b off L := fun k hk i j hi hj => (hb.cell (p := ⟨b, _, none⟩) hB).trans (h k hk i j hi hj)
theorem SlM.below {w w' : World} {v : Value} {L : List (Nat → Nat → Int)} (h : SlM w v L) (hb : Below w.heap.size w w') : SlM w' v L := by
  obtain ⟨a, cap, hv, h | ⟨b, off, ha, hlt, hT⟩⟩ := h
  · exact ⟨a, cap, hv, .inl h⟩
  · exact ⟨a, cap, hv, .inr ⟨b, off, ha, Nat.lt_of_lt_of_le hlt hb.size, hT.below hb hlt⟩⟩
/-- The nine cells of a matrix of a list. -/
theorem MatsW.nine {w : World} {b off : Nat} {L : List (Nat → Nat → Int)} (h : MatsW w b off L) {k : Nat} (hk : k < L.length) :
    (w.cell? ⟨b, off + k * 9, none⟩ = some (.int .u8 (L[k] 0 0)) ∧ w.cell? ⟨b, off + k * 9 + 1, none⟩ = some (.int .u8 (L[k] 0 1)) ∧ w.cell? ⟨b, off + k * 9 + 2, none⟩ = some (.int .u8 (L[k] 0 2))) ∧
    (w.cell? ⟨b, off + k * 9 + 3, none⟩ = some (.int .u8 (L[k] 1 0)) ∧ w.cell? ⟨b, off + k * 9 + 4, none⟩ = some (.int .u8 (L[k] 1 1)) ∧ w.cell? ⟨b, off + k * 9 + 5, none⟩ = some (.int .u8 (L[k] 1 2))) ∧
    (w.cell? ⟨b, off + k * 9 + 6, none⟩ = some (.int .u8 (L[k] 2 0)) ∧ w.cell? ⟨b, off + k * 9 + 7, none⟩ = some (.int .u8 (L[k] 2 1)) ∧ w.cell? ⟨b, off + k * 9 + 8, none⟩ = some (.int .u8 (L[k] 2 2))) :=
  ⟨⟨h k hk 0 0 (by omega) (by omega), h k hk 0 1 (by omega) (by omega), h k hk 0 2 (by omega) (by omega)⟩, ⟨h k hk 1 0 (by omega) (by omega), h k hk 1 1 (by omega) (by omega), h k hk 1 2 (by omega) (by omega)⟩, ⟨h k hk 2 0 (by omega) (by omega), h k hk 2 1 (by omega) (by omega), h k hk 2 2 (by omega) (by omega)⟩⟩
/-- The number of a matrix in a list, from a place on; -1 if it is not there. -/
def findA (g : Nat → Nat → Int) : List (Nat → Nat → Int) → Nat → Int
  | [], _ => -1
  | x :: L, k => if eqM x g then (k : Int) else findA g L (k + 1)
def findM (L : List (Nat → Nat → Int)) (g : Nat → Nat → Int) : Int := findA g L 0
theorem findA_step {g : Nat → Nat → Int} {L : List (Nat → Nat → Int)} {k : Nat} (h : k < L.length) : findA g (L.drop k) k = if eqM L[k] g then (k : Int) else findA g (L.drop (k + 1)) (k + 1) := by
  rw [List.drop_eq_getElem_cons h]; rfl

set_option maxRecDepth 8000 in
set_option maxHeartbeats 4000000 in
theorem sfind (v : Value) (L : List (Nat → Nat → Int)) (g : Nat → Nat → Int) (w : World) (hl : L.length ≤ 1048576) (hS : SlM w v L) :
    Calls Try.prog 25 #[v, mv g] w fun e w' => e = .returned (.int .i64 (findM L g)) ∧ Below w.heap.size w w' := by
  obtain ⟨W, hW, r1, hbW⟩ : ∃ W, W = w.alloc (.cells #[.int .u8 (g 0 0), .int .u8 (g 0 1), .int .u8 (g 0 2), .int .u8 (g 1 0), .int .u8 (g 1 1), .int .u8 (g 1 2), .int .u8 (g 2 0), .int .u8 (g 2 1), .int .u8 (g 2 2)] 56) ∧ W.rowIs w.heap.size 56 9 (mF g) ∧ Below w.heap.size w W := ⟨_, rfl, mbox w g _, ebox1 _ _⟩
  obtain ⟨a, cap, rfl, h⟩ := hS
  unfold mv
  go_enter Try.func25, Try.ntmps25
  go_upto_region 1 with fail
  rw [← hW]
  clear hW
  go_wp2_with fail
  go_loopw [5] (fun i wr => ∃ (k : Nat), k ≤ L.length ∧ i = .int .i64 k ∧ Hid (findM L g = findA g (L.drop k) k) ∧ ∃ nd, wr = W.drewN nd) (fun i _ => L.length - (intOf i).toNat)
  case atStart => exact ⟨0, by omega, rfl, Lib.hid rfl, 0, rfl⟩
  case round =>
    obtain ⟨k, hk, rfl, HU, nd, rfl⟩ := hrel
    by_cases hlt : k < L.length
    · have hlt' : (k : Int) < (L.length : Int) := by omega
      obtain ⟨b, off, rfl, hbb, hT⟩ : ∃ b off, a = some ⟨b, off, none⟩ ∧ b < w.heap.size ∧ MatsW w b off L := by
        rcases h with rfl | h
        · simp at hlt
        · exact h
      obtain ⟨⟨a0, a1, a2⟩, ⟨a3, a4, a5⟩, a6, a7, a8⟩ := (hT.below hbW hbb).nine hlt
      obtain ⟨⟨b0, b1, b2⟩, ⟨b3, b4, b5⟩, b6, b7, b8⟩ := mcells r1
      have HS := Lib.hid (HU.out.trans (findA_step (g := g) hlt))
      generalize hx : L[k] = x at a0 a1 a2 a3 a4 a5 a6 a7 a8 HS
      clear hx
      have hE := fun w => mat_eq x g w
      cases he : eqM x g
      · have HN : Hid (findM L g = findA g (L.drop (k + 1)) (k + 1)) := Lib.hid (HS.out.trans (by simp [he]))
        rw [he] at hE
        clear HS he
        go_wp2_with fail
        go_quiet (fail)
        go_wp2_with fail
        go_roundw
        case rel => exact ⟨k + 1, by omega, by go_num, HN, _, rfl⟩
        case measure => simp [intOf]; omega
      · have HN : Hid (findM L g = (k : Int)) := Lib.hid (HS.out.trans (by simp [he]))
        rw [he] at hE
        clear HS he
        go_wp2_with fail
        go_quiet (fail)
        go_wp2_with fail
        go_ret
        exact ⟨by rw [HN.out]; rfl, by repeat (first | with_reducible exact hbW | refine below_drewN ?_ _)⟩
    · obtain rfl : k = L.length := by omega
      have HX : Hid (findM L g = -1) := Lib.hid (by rw [HU.out, List.drop_length]; rfl)
      go_wp2_with fail
      go_ret
      exact ⟨by rw [HX.out]; rfl, by repeat (first | with_reducible exact hbW | refine below_drewN ?_ _)⟩
end Go.Proofs.Ytabfdohmgmdgeaa
namespace Go.Proofs.Ytabfdohmgmdgeaa
open Go.RowKit Go.Sort EchM

/-- The cells of a group. -/
def grpF (p n : Int) (v : Value) (q : Nat) : Value := if q = 0 then .int .i64 p else if q = 1 then .int .i64 n else v
theorem gbox (w : World) (p n : Int) (v : Value) (t : TypeId) : (w.alloc (.cells #[.int .i64 p, .int .i64 n, v] t)).rowIs w.heap.size t 3 (grpF p n v) :=
  World.rowIs_alloc w #[Value.int .i64 p, .int .i64 n, v] _ _ (fun i hi => by simp at hi; match i, hi with | 0, _ => rfl | 1, _ => rfl | 2, _ => rfl)
theorem gcells {w : World} {B : Nat} {t : TypeId} {p n : Int} {v : Value} (h : w.rowIs B t 3 (grpF p n v)) : w.cell? ⟨B, 0, none⟩ = some (.int .i64 p) ∧ w.cell? ⟨B, 1, none⟩ = some (.int .i64 n) ∧ w.cell? ⟨B, 2, none⟩ = some v :=
  ⟨h.cell (i := 0) (by omega), h.cell (i := 1) (by omega), h.cell (i := 2) (by omega)⟩
/-- Matrices, ascending, from a matrix on. -/
def chainG (p n : Int) : Option (Nat → Nat → Int) → List (Nat → Nat → Int) → Bool
  | _, [] => true
  | none, x :: L => isMat p n x && chainG p n (some x) L
  | some q, x :: L => isMat p n x && (befM q x && chainG p n (some x) L)
def prevG (L : List (Nat → Nat → Int)) : Nat → Option (Nat → Nat → Int)
  | 0 => none
  | k + 1 => L[k]?
def tailG (p n : Int) (L : List (Nat → Nat → Int)) (k : Nat) : Bool := chainG p n (prevG L k) (L.drop k)
theorem tailG_zero {p n : Int} {L : List (Nat → Nat → Int)} (h : 0 < L.length) : tailG p n L 0 = (isMat p n L[0] && tailG p n L 1) := by
  unfold tailG
  rw [List.drop_eq_getElem_cons h]
  show (isMat p n L[0] && chainG p n (some L[0]) (L.drop 1)) = (isMat p n L[0] && chainG p n (L[0]?) (L.drop 1))
  rw [List.getElem?_eq_getElem h]
theorem tailG_succ {p n : Int} {L : List (Nat → Nat → Int)} {k : Nat} (h : k + 1 < L.length) : tailG p n L (k + 1) = (isMat p n L[k + 1] && (befM (L[k]'(by omega)) L[k + 1] && tailG p n L (k + 2))) := by
  unfold tailG
  rw [List.drop_eq_getElem_cons h]
  show chainG p n (L[k]?) (L[k + 1] :: L.drop (k + 2)) = (isMat p n L[k + 1] && (befM (L[k]'(by omega)) L[k + 1] && chainG p n (L[k + 1]?) (L.drop (k + 2))))
  rw [List.getElem?_eq_getElem h, List.getElem?_eq_getElem (show k < L.length by omega)]
  rfl
theorem tailG_end (p n : Int) (L : List (Nat → Nat → Int)) : tailG p n L L.length = true := by
  unfold tailG
  rw [List.drop_length]
  cases prevG L L.length <;> rfl
/-- Whether all products are in the list, and the unit. -/
def closedG (p : Int) (L : List (Nat → Nat → Int)) : Bool := L.all fun x => L.all fun y => decide (0 ≤ findM L (prodM p x y))
def isGrp (p n : Int) (L : List (Nat → Nat → Int)) : Bool := pB p && ((decide (1 ≤ n) && decide (n ≤ 3)) && (decide (1 ≤ L.length) && (decide (L.length ≤ 48) && (tailG p n L 0 && (closedG p L && decide (0 ≤ findM L (uM n.toNat)))))))
theorem tailG_all {p n : Int} {L : List (Nat → Nat → Int)} (h : tailG p n L 0 = true) : ∀ x ∈ L, isMat p n x = true := by
  have key : ∀ (L : List (Nat → Nat → Int)) (o : Option (Nat → Nat → Int)), chainG p n o L = true → ∀ x ∈ L, isMat p n x = true := by
    intro L
    induction L with
    | nil => intro o _ x hx; simp at hx
    | cons y L ih =>
      intro o h x hx
      cases o with
      | none =>
        simp only [chainG, Bool.and_eq_true] at h
        rcases List.mem_cons.1 hx with rfl | hx
        · exact h.1
        · exact ih _ h.2 x hx
      | some q =>
        simp only [chainG, Bool.and_eq_true] at h
        rcases List.mem_cons.1 hx with rfl | hx
        · exact h.1
        · exact ih _ h.2.2 x hx
  exact key L none (by simpa [tailG, prevG] using h)
theorem closed_no {p : Int} {L : List (Nat → Nat → Int)} {i k : Nat} (hi : i < L.length) (hk : k < L.length) (h : findM L (prodM p L[i] L[k]) < 0) : closedG p L = false := by
  unfold closedG
  rw [List.all_eq_false]
  refine ⟨L[i], List.getElem_mem hi, ?_⟩
  rw [Bool.not_eq_true, List.all_eq_false]
  exact ⟨L[k], List.getElem_mem hk, by simp; omega⟩
theorem closed_yes {p : Int} {L : List (Nat → Nat → Int)} (h : ∀ (i : Nat) (hi : i < L.length) (k : Nat) (hk : k < L.length), 0 ≤ findM L (prodM p L[i] L[k])) : closedG p L = true := by
  unfold closedG
  rw [List.all_eq_true]
  intro x hx
  rw [List.all_eq_true]
  intro y hy
  obtain ⟨i, hi, rfl⟩ := List.mem_iff_getElem.1 hx
  obtain ⟨k, hk, rfl⟩ := List.mem_iff_getElem.1 hy
  simpa using h i hi k hk
end Go.Proofs.Ytabfdohmgmdgeaa
namespace Go.Proofs.Ytabfdohmgmdgeaa
open Go.RowKit Go.Sort EchM

theorem regrown_eq {P : Program} {f : FuncId} {args : Array Value} {w : World} {d : Nat} {os : Array Obj} {v : Value}
    (h : Calls P f args (grow (redrawn w d) os) fun e w' => e = .returned v ∧ grow (redrawn w d) os = w') : Calls P f args (grow (redrawn w d) os) fun e w'' => e = .returned v ∧ ∃ p : Regrown, w'' = grow (redrawn w p.d) p.os :=
  h.mono fun _ _ ⟨he, hw⟩ => ⟨he, ⟨d, os⟩, hw.symm⟩
theorem smat_r (p n : Int) (g : Nat → Nat → Int) (W : World) (hg : Byt g) (B : Bool) (h : isMat p n g = B) : ∀ dd os,
    Calls Try.prog 23 #[.int .i64 p, .int .i64 n, (.agg #[.int .u8 (g 0 0), .int .u8 (g 0 1), .int .u8 (g 0 2), .int .u8 (g 1 0), .int .u8 (g 1 1), .int .u8 (g 1 2), .int .u8 (g 2 0), .int .u8 (g 2 1), .int .u8 (g 2 2)])] (grow (redrawn W dd) os) fun e w'' => e = .returned (.bool B) ∧ ∃ q : Regrown, w'' = grow (redrawn W q.d) q.os := fun _ _ => Calls.regrown_of (smat_is p n g _ hg B h)
theorem sbef_r (g h : Nat → Nat → Int) (W : World) (B : Bool) (hB : befM g h = B) : ∀ dd os,
    Calls Try.prog 24 #[(.agg #[.int .u8 (g 0 0), .int .u8 (g 0 1), .int .u8 (g 0 2), .int .u8 (g 1 0), .int .u8 (g 1 1), .int .u8 (g 1 2), .int .u8 (g 2 0), .int .u8 (g 2 1), .int .u8 (g 2 2)]), (.agg #[.int .u8 (h 0 0), .int .u8 (h 0 1), .int .u8 (h 0 2), .int .u8 (h 1 0), .int .u8 (h 1 1), .int .u8 (h 1 2), .int .u8 (h 2 0), .int .u8 (h 2 1), .int .u8 (h 2 2)])] (grow (redrawn W dd) os) fun e w'' => e = .returned (.bool B) ∧ ∃ q : Regrown, w'' = grow (redrawn W q.d) q.os := fun _ _ => Calls.regrown_of (by subst hB; exact sbefore g h _)
theorem sprod_r (p : Int) (n : Nat) (g h r : Nat → Nat → Int) (W : World) (hg : MatV p n g) (hh : MatV p n h) (hr : prodM p g h = r) : ∀ dd os,
    Calls Try.prog 26 #[.int .i64 p, .int .i64 (n : Int), (.agg #[.int .u8 (g 0 0), .int .u8 (g 0 1), .int .u8 (g 0 2), .int .u8 (g 1 0), .int .u8 (g 1 1), .int .u8 (g 1 2), .int .u8 (g 2 0), .int .u8 (g 2 1), .int .u8 (g 2 2)]), (.agg #[.int .u8 (h 0 0), .int .u8 (h 0 1), .int .u8 (h 0 2), .int .u8 (h 1 0), .int .u8 (h 1 1), .int .u8 (h 1 2), .int .u8 (h 2 0), .int .u8 (h 2 1), .int .u8 (h 2 2)])] (grow (redrawn W dd) os) fun e w'' => e = .returned (.agg #[.int .u8 (r 0 0), .int .u8 (r 0 1), .int .u8 (r 0 2), .int .u8 (r 1 0), .int .u8 (r 1 1), .int .u8 (r 1 2), .int .u8 (r 2 0), .int .u8 (r 2 1), .int .u8 (r 2 2)]) ∧ ∃ q : Regrown, w'' = grow (redrawn W q.d) q.os := fun _ _ => Calls.regrown_of (sprod_agg p n g h r _ hg hh hr)
theorem sfind_r (v : Value) (L : List (Nat → Nat → Int)) (g : Nat → Nat → Int) (W : World) (hl : L.length ≤ 1048576) (hS : SlM W v L) (F : Int) (hF : findM L g = F) : ∀ dd os,
    Calls Try.prog 25 #[v, (.agg #[.int .u8 (g 0 0), .int .u8 (g 0 1), .int .u8 (g 0 2), .int .u8 (g 1 0), .int .u8 (g 1 1), .int .u8 (g 1 2), .int .u8 (g 2 0), .int .u8 (g 2 1), .int .u8 (g 2 2)])] (grow (redrawn W dd) os) fun e w'' => e = .returned (.int .i64 F) ∧ ∃ q : Regrown, w'' = grow (redrawn W q.d) q.os := fun dd os => Calls.regrown_of (by subst hF; exact sfind v L g _ hl (hS.below (below_regrown W dd os)))
theorem sunit_r (n : Nat) (u : Nat → Nat → Int) (W : World) (h1 : 1 ≤ n) (h3 : n ≤ 3) (hu : uM n = u) : ∀ dd os,
    Calls Try.prog 27 #[.int .i64 (n : Int)] (grow (redrawn W dd) os) fun e w'' => e = .returned (.agg #[.int .u8 (u 0 0), .int .u8 (u 0 1), .int .u8 (u 0 2), .int .u8 (u 1 0), .int .u8 (u 1 1), .int .u8 (u 1 2), .int .u8 (u 2 0), .int .u8 (u 2 1), .int .u8 (u 2 2)]) ∧ ∃ q : Regrown, w'' = grow (redrawn W q.d) q.os := fun _ _ => Calls.regrown_of (sunit n u _ h1 h3 hu)

set_option maxRecDepth 8000 in
set_option maxHeartbeats 16000000 in
theorem sgroup (p n : Int) (v : Value) (L : List (Nat → Nat → Int)) (w : World) (hl : L.length ≤ 1048576) (hS : SlM w v L) (hby : ∀ x ∈ L, Byt x) :
    Calls Try.prog 12 #[.agg #[.int .i64 p, .int .i64 n, v]] w fun e w' => e = .returned (.bool (isGrp p n L)) ∧ Below w.heap.size w w' := by
  obtain ⟨W, hW, rW, hbW, hWs⟩ : ∃ W, W = w.alloc (.cells #[.int .i64 p, .int .i64 n, v] 31) ∧ W.rowIs w.heap.size 31 3 (grpF p n v) ∧ Below w.heap.size w W ∧ w.heap.size < W.heap.size := ⟨_, rfl, gbox w p n v _, ebox1 _ _, by simp⟩
  have hSW := hS.below hbW
  obtain ⟨a, cap, rfl, hSc⟩ := id hS
  obtain ⟨g0, g1, g2⟩ := gcells rW
  have HBY := Lib.hid hby
  clear hby
  cases hp : pB p
  · have HX := Lib.hid (show isGrp p n L = false by simp [isGrp, hp])
    have HP := Lib.hid hp
    clear hp
    go_enter Try.func12, Try.ntmps12
    go_wp2_with fail
    rw [← hW]
    clear hW
    ((with_reducible refine (eprime_is p _ false HP.out).mono ?_); rintro e w1 ⟨rfl, rfl⟩)
    go_wp2_with fail
    go_ret
    exact ⟨by rw [HX.out]; rfl, hbW⟩
  have HP := Lib.hid hp
  cases hv : (decide (1 ≤ n) && decide (n ≤ 3))
  · have HX := Lib.hid (show isGrp p n L = false by rw [isGrp, hv]; simp)
    have HV := Lib.hid hv
    clear hp hv
    go_enter Try.func12, Try.ntmps12
    go_wp2_with fail
    rw [← hW]
    clear hW
    ((with_reducible refine (eprime_is p _ true HP.out).mono ?_); rintro e w1 ⟨rfl, rfl⟩)
    go_wp2_with fail
    ((with_reducible refine (ein_is n 1 3 _ false HV.out).mono ?_); rintro e w2 ⟨rfl, rfl⟩)
    go_wp2_with fail
    go_ret
    exact ⟨by rw [HX.out]; rfl, hbW⟩
  have HV := Lib.hid hv
  by_cases hsz : ¬ (1 ≤ L.length ∧ L.length ≤ 48)
  · have HX := Lib.hid (show isGrp p n L = false by
      unfold isGrp
      by_cases h1 : 1 ≤ L.length
      · rw [show decide (L.length ≤ 48) = false from decide_eq_false (by omega)]; simp
      · rw [show decide (1 ≤ L.length) = false from decide_eq_false h1]; simp)
    clear hp hv
    by_cases h1 : 1 ≤ L.length
    · have h2 : (48 : Int) < (L.length : Int) := by omega
      have h1' : ¬ (L.length : Int) < 1 := by omega
      clear hsz
      go_enter Try.func12, Try.ntmps12
      go_wp2_with fail
      rw [← hW]
      clear hW
      ((with_reducible refine (eprime_is p _ true HP.out).mono ?_); rintro e w1 ⟨rfl, rfl⟩)
      go_wp2_with fail
      ((with_reducible refine (ein_is n 1 3 _ true HV.out).mono ?_); rintro e w2 ⟨rfl, rfl⟩)
      go_wp2_with fail
      go_ret
      exact ⟨by rw [HX.out]; rfl, hbW⟩
    · have h1' : (L.length : Int) < 1 := by omega
      clear hsz
      go_enter Try.func12, Try.ntmps12
      go_wp2_with fail
      rw [← hW]
      clear hW
      ((with_reducible refine (eprime_is p _ true HP.out).mono ?_); rintro e w1 ⟨rfl, rfl⟩)
      go_wp2_with fail
      ((with_reducible refine (ein_is n 1 3 _ true HV.out).mono ?_); rintro e w2 ⟨rfl, rfl⟩)
      go_wp2_with fail
      go_ret
      exact ⟨by rw [HX.out]; rfl, hbW⟩
  have hsz1 : 1 ≤ L.length := by omega
  have hsz2 : L.length ≤ 48 := by omega
  have hsz1' : ¬ (L.length : Int) < 1 := by omega
  have hsz2' : ¬ (48 : Int) < (L.length : Int) := by omega
  obtain ⟨m, rfl, m1, m3⟩ : ∃ m : Nat, n = (m : Int) ∧ 1 ≤ m ∧ m ≤ 3 := by
    simp only [Bool.and_eq_true, decide_eq_true_eq] at hv
    obtain ⟨m, rfl⟩ := Int.eq_ofNat_of_zero_le (show 0 ≤ n by omega)
    exact ⟨m, rfl, by omega, by omega⟩
  have HY := Lib.hid (show isGrp p m L = (tailG p m L 0 && (closedG p L && decide (0 ≤ findM L (uM m)))) by
    unfold isGrp
    rw [hp, HV.out, show decide (1 ≤ L.length) = true from decide_eq_true hsz1, show decide (L.length ≤ 48) = true from decide_eq_true hsz2]
    simp)
  obtain ⟨b, off, rfl, hbb, hT⟩ : ∃ b off, a = some ⟨b, off, none⟩ ∧ b < w.heap.size ∧ MatsW w b off L := by
    rcases hSc with rfl | h
    · simp at hsz1
    · exact h
  have hTW := hT.below hbW hbb
  have hbbW : b < W.heap.size := by omega
  clear hp hv hsz
  go_enter Try.func12, Try.ntmps12
  go_wp2_with fail
  rw [← hW]
  clear hW
  ((with_reducible refine (eprime_is p _ true HP.out).mono ?_); rintro e w1 ⟨rfl, rfl⟩)
  go_wp2_with fail
  ((with_reducible refine (ein_is m 1 3 _ true HV.out).mono ?_); rintro e w2 ⟨rfl, rfl⟩)
  go_wp2_with fail
  clear g0 g1 g2
  go_loopw [3] (fun i wr => ∃ (k : Nat), k ≤ L.length ∧ i = .int .i64 k ∧ Hid (tailG p m L 0 = tailG p m L k) ∧ Below W.heap.size W wr) (fun i _ => L.length - (intOf i).toNat)
  case atStart => exact ⟨0, by omega, rfl, Lib.hid rfl, Below.refl _ _⟩
  case round =>
    obtain ⟨k, hk, rfl, HU, hb⟩ := hrel
    obtain ⟨g0, g1, g2⟩ := gcells (erow_below rW hb rW.lt)
    have k0 := cell_regrown g0
    have k1 := cell_regrown g1
    have k2 := cell_regrown g2
    by_cases hlt : k < L.length
    · have hlt' : (k : Int) < (L.length : Int) := by omega
      have hTr := hTW.below hb hbbW
      obtain ⟨⟨a0, a1, a2⟩, ⟨a3, a4, a5⟩, a6, a7, a8⟩ := hTr.nine hlt
      have l0 := cell_regrown a0
      have l1 := cell_regrown a1
      have l2 := cell_regrown a2
      have l3 := cell_regrown a3
      have l4 := cell_regrown a4
      have l5 := cell_regrown a5
      have l6 := cell_regrown a6
      have l7 := cell_regrown a7
      have l8 := cell_regrown a8
      have hbx := HBY.out _ (List.getElem_mem hlt)
      cases k with
      | zero =>
        simp only [Nat.zero_mul, Nat.add_zero] at l0 l1 l2 l3 l4 l5 l6 l7 l8 a0 a1 a2 a3 a4 a5 a6 a7 a8
        have HT := Lib.hid (HU.out.trans (tailG_zero (p := p) (n := m) hlt))
        generalize L[0] = x at *
        have cM := fun B h => smat_r p m x wr hbx B h
        cases hm : isMat p m x
        · have kM := cM false hm
          have HX := Lib.hid (show isGrp p m L = false by rw [HY.out, HT.out, hm]; rfl)
          clear cM hm
          go_wp2_with fail
          refine wp_region_quiet_below (by kernel_rfl) (by kernel_rfl) ?_
          repeat (go_big_quiet_step (first | with_reducible exact kM _ _))
          refine wpQuiet_nil ?_
          intro _ hw'
          obtain ⟨⟨dq, osq⟩, hw''⟩ := hw'
          subst hw''
          have hb2 := hb.trans ((below_regrown wr dq osq).mono hb.size)
          generalize grow (redrawn wr dq) osq = V at *
          clear k0 k1 k2 l0 l1 l2 l3 l4 l5 l6 l7 l8 g0 g1 g2 kM
          go_wp2_with fail
          go_ret
          exact ⟨by rw [HX.out]; rfl, hbW.trans (hb2.mono hbW.size)⟩
        · have kM := cM true hm
          have HN := Lib.hid (show tailG p m L 0 = tailG p m L 1 by rw [HT.out, hm]; rfl)
          clear cM hm
          go_wp2_with fail
          refine wp_region_quiet_below (by kernel_rfl) (by kernel_rfl) ?_
          repeat (go_big_quiet_step (first | with_reducible exact kM _ _))
          refine wpQuiet_nil ?_
          intro _ hw'
          obtain ⟨⟨dq, osq⟩, hw''⟩ := hw'
          subst hw''
          have hb2 := hb.trans ((below_regrown wr dq osq).mono hb.size)
          generalize grow (redrawn wr dq) osq = V at *
          clear k0 k1 k2 l0 l1 l2 l3 l4 l5 l6 l7 l8 g0 g1 g2 kM
          go_wp2_with fail
          go_roundw
          case rel => exact ⟨1, by omega, by go_num, HN, hb2⟩
          case measure => simp [intOf]; omega
      | succ j =>
        have hj : j < L.length := by omega
        have HT := Lib.hid (HU.out.trans (tailG_succ (p := p) (n := m) hlt))
        obtain ⟨⟨b0, b1, b2⟩, ⟨b3, b4, b5⟩, b6, b7, b8⟩ := hTr.nine hj
        have m0 := cell_regrown b0
        have m1 := cell_regrown b1
        have m2 := cell_regrown b2
        have m3 := cell_regrown b3
        have m4 := cell_regrown b4
        have m5 := cell_regrown b5
        have m6 := cell_regrown b6
        have m7 := cell_regrown b7
        have m8 := cell_regrown b8
        generalize L[j + 1] = x at *
        generalize L[j] = y at *
        have cM := fun B h => smat_r p m x wr hbx B h
        have cB := fun B h => sbef_r y x wr B h
        cases hm : isMat p m x
        · have kM := cM false hm
          have HX := Lib.hid (show isGrp p m L = false by rw [HY.out, HT.out, hm]; rfl)
          clear cM cB hm
          go_wp2_with fail
          refine wp_region_quiet_below (by kernel_rfl) (by kernel_rfl) ?_
          repeat (go_big_quiet_step (first | with_reducible exact kM _ _))
          refine wpQuiet_nil ?_
          intro _ hw'
          obtain ⟨⟨dq, osq⟩, hw''⟩ := hw'
          subst hw''
          have hb2 := hb.trans ((below_regrown wr dq osq).mono hb.size)
          generalize grow (redrawn wr dq) osq = V at *
          clear k0 k1 k2 l0 l1 l2 l3 l4 l5 l6 l7 l8 m0 m1 m2 m3 m4 m5 m6 m7 m8 g0 g1 g2 kM
          go_wp2_with fail
          go_ret
          exact ⟨by rw [HX.out]; rfl, hbW.trans (hb2.mono hbW.size)⟩
        · have kM := cM true hm
          cases hc : befM y x
          · have kB := cB false hc
            have HX := Lib.hid (show isGrp p m L = false by rw [HY.out, HT.out, hm, hc]; rfl)
            clear cM cB hm hc
            go_wp2_with fail
            refine wp_region_quiet_below (by kernel_rfl) (by kernel_rfl) ?_
            repeat (go_big_quiet_step (first | with_reducible exact kM _ _ | with_reducible exact kB _ _))
            refine wpQuiet_nil ?_
            intro _ hw'
            obtain ⟨⟨dq, osq⟩, hw''⟩ := hw'
            subst hw''
            have hb2 := hb.trans ((below_regrown wr dq osq).mono hb.size)
            generalize grow (redrawn wr dq) osq = V at *
            clear k0 k1 k2 l0 l1 l2 l3 l4 l5 l6 l7 l8 m0 m1 m2 m3 m4 m5 m6 m7 m8 g0 g1 g2 kM kB
            go_wp2_with fail
            go_ret
            exact ⟨by rw [HX.out]; rfl, hbW.trans (hb2.mono hbW.size)⟩
          · have kB := cB true hc
            have HN := Lib.hid (show tailG p m L 0 = tailG p m L (j + 2) by rw [HT.out, hm, hc]; rfl)
            clear cM cB hm hc
            go_wp2_with fail
            refine wp_region_quiet_below (by kernel_rfl) (by kernel_rfl) ?_
            repeat (go_big_quiet_step (first | with_reducible exact kM _ _ | with_reducible exact kB _ _))
            refine wpQuiet_nil ?_
            intro _ hw'
            obtain ⟨⟨dq, osq⟩, hw''⟩ := hw'
            subst hw''
            have hb2 := hb.trans ((below_regrown wr dq osq).mono hb.size)
            generalize grow (redrawn wr dq) osq = V at *
            clear k0 k1 k2 l0 l1 l2 l3 l4 l5 l6 l7 l8 m0 m1 m2 m3 m4 m5 m6 m7 m8 g0 g1 g2 kM kB
            go_wp2_with fail
            go_roundw
            case rel => exact ⟨j + 2, by omega, by go_num, HN, hb2⟩
            case measure => simp [intOf]; omega
    · obtain rfl : k = L.length := by omega
      have htl : tailG p m L 0 = true := by rw [HU.out]; exact tailG_end p m L
      have HALL := Lib.hid (tailG_all htl)
      have HZ := Lib.hid (show isGrp p m L = (closedG p L && decide (0 ≤ findM L (uM m))) by rw [HY.out, htl]; rfl)
      clear htl
      have HMV := Lib.hid (fun x (hx : x ∈ L) => show MatV p m x from by
        obtain ⟨m', hm', hmv⟩ := matV_of (HBY.out x hx) (HALL.out x hx)
        obtain rfl : m = m' := by omega
        exact hmv)
      clear k0 k1 k2
      go_wp2_with fail
      clear g0 g1 g2
      go_loopw [4] (fun i wr => ∃ (k : Nat), k ≤ L.length ∧ i = .int .i64 k ∧ Hid (∀ (i : Nat) (hi : i < L.length), i < k → ∀ (j : Nat) (hj : j < L.length), 0 ≤ findM L (prodM p L[i] L[j])) ∧ Below W.heap.size W wr) (fun i _ => L.length - (intOf i).toNat)
      case atStart => exact ⟨0, by omega, rfl, Lib.hid (fun i _ h => by omega), hb⟩
      case round =>
        clear hb
        obtain ⟨k, hk, rfl, HC, hb⟩ := hrel
        obtain ⟨g0, g1, g2⟩ := gcells (erow_below rW hb rW.lt)
        by_cases hlt : k < L.length
        · have hlt' : (k : Int) < (L.length : Int) := by omega
          go_wp2_with fail
          clear g0 g1 g2
          go_loopw [5] (fun i wr => ∃ (j : Nat), j ≤ L.length ∧ i = .int .i64 j ∧ Hid (∀ (j' : Nat) (hj : j' < L.length), j' < j → 0 ≤ findM L (prodM p L[k] L[j'])) ∧ Below W.heap.size W wr) (fun i _ => L.length - (intOf i).toNat)
          case atStart => exact ⟨0, by omega, rfl, Lib.hid (fun i _ h => by omega), hb⟩
          case round =>
            clear hb
            obtain ⟨j, hj, rfl, HD, hb⟩ := hrel
            obtain ⟨g0, g1, g2⟩ := gcells (erow_below rW hb rW.lt)
            by_cases hjt : j < L.length
            · have hjt' : (j : Int) < (L.length : Int) := by omega
              have k0 := cell_regrown g0
              have k1 := cell_regrown g1
              have k2 := cell_regrown g2
              have hTr := hTW.below hb hbbW
              obtain ⟨⟨a0, a1, a2⟩, ⟨a3, a4, a5⟩, a6, a7, a8⟩ := hTr.nine hlt
              have l0 := cell_regrown a0
              have l1 := cell_regrown a1
              have l2 := cell_regrown a2
              have l3 := cell_regrown a3
              have l4 := cell_regrown a4
              have l5 := cell_regrown a5
              have l6 := cell_regrown a6
              have l7 := cell_regrown a7
              have l8 := cell_regrown a8
              obtain ⟨⟨b0, b1, b2⟩, ⟨b3, b4, b5⟩, b6, b7, b8⟩ := hTr.nine hjt
              have q0 := cell_regrown b0
              have q1 := cell_regrown b1
              have q2 := cell_regrown b2
              have q3 := cell_regrown b3
              have q4 := cell_regrown b4
              have q5 := cell_regrown b5
              have q6 := cell_regrown b6
              have q7 := cell_regrown b7
              have q8 := cell_regrown b8
              have hxv := HMV.out _ (List.getElem_mem hlt)
              have hyv := HMV.out _ (List.getElem_mem hjt)
              obtain ⟨r, hr⟩ : ∃ r, prodM p L[k] L[j] = r := ⟨_, rfl⟩
              obtain ⟨F, hF⟩ : ∃ F, findM L r = F := ⟨_, rfl⟩
              have HNO := Lib.hid (fun (h : F < 0) => closed_no (p := p) hlt hjt (by rw [hr, hF]; exact h))
              have HD2 := Lib.hid (fun (h0 : 0 ≤ F) => show Hid (∀ (j' : Nat) (hj : j' < L.length), j' < j + 1 → 0 ≤ findM L (prodM p L[k] L[j'])) from Lib.hid (fun j' hj' hlt2 => by
                by_cases e : j' = j
                · subst e; rw [hr, hF]; exact h0
                · exact HD.out j' hj' (by omega)))
              have kP := sprod_r p m L[k] L[j] r wr hxv hyv hr
              have kF := sfind_r _ L r wr hl (hSW.below hb) F hF
              clear hr hF HD
              by_cases hF0 : F < 0
              · have HX := Lib.hid (show isGrp p m L = false by rw [HZ.out, HNO.out hF0]; rfl)
                clear HNO HD2
                go_wp2_with fail
                refine wp_region_quiet_below (by kernel_rfl) (by kernel_rfl) ?_
                repeat (go_big_quiet_step (first | with_reducible exact kP _ _ | with_reducible exact kF _ _))
                refine wpQuiet_nil ?_
                intro _ hw'
                obtain ⟨⟨dq, osq⟩, hw''⟩ := hw'
                subst hw''
                have hb2 := hb.trans ((below_regrown wr dq osq).mono hb.size)
                generalize grow (redrawn wr dq) osq = V at *
                clear k0 k1 k2 l0 l1 l2 l3 l4 l5 l6 l7 l8 q0 q1 q2 q3 q4 q5 q6 q7 q8 g0 g1 g2 kP kF
                go_wp2_with fail
                go_ret
                exact ⟨by rw [HX.out]; rfl, hbW.trans (hb2.mono hbW.size)⟩
              · have HN := HD2.out (show 0 ≤ F by omega)
                clear HNO HD2
                go_wp2_with fail
                refine wp_region_quiet_below (by kernel_rfl) (by kernel_rfl) ?_
                repeat (go_big_quiet_step (first | with_reducible exact kP _ _ | with_reducible exact kF _ _))
                refine wpQuiet_nil ?_
                intro _ hw'
                obtain ⟨⟨dq, osq⟩, hw''⟩ := hw'
                subst hw''
                have hb2 := hb.trans ((below_regrown wr dq osq).mono hb.size)
                generalize grow (redrawn wr dq) osq = V at *
                clear k0 k1 k2 l0 l1 l2 l3 l4 l5 l6 l7 l8 q0 q1 q2 q3 q4 q5 q6 q7 q8 g0 g1 g2 kP kF
                go_wp2_with fail
                go_roundw
                case rel => exact ⟨j + 1, by omega, by go_num, HN, hb2⟩
                case measure => simp [intOf]; omega
            · obtain rfl : j = L.length := by omega
              have HN : Hid (∀ (i : Nat) (hi : i < L.length), i < k + 1 → ∀ (j : Nat) (hj : j < L.length), 0 ≤ findM L (prodM p L[i] L[j])) := Lib.hid (fun i hi hik j hj => by
                by_cases e : i = k
                · subst e; exact HD.out j hj hj
                · exact HC.out i hi (by omega) j hj)
              go_wp2_with fail
              go_roundw
              case rel => exact ⟨k + 1, by omega, by go_num, HN, hb⟩
              case measure => simp [intOf]; omega
        · obtain rfl : k = L.length := by omega
          obtain ⟨u, hu⟩ : ∃ u, uM m = u := ⟨_, rfl⟩
          obtain ⟨F, hF⟩ : ∃ F, findM L u = F := ⟨_, rfl⟩
          have HX := Lib.hid (show isGrp p m L = decide (0 ≤ F) by
            rw [HZ.out, closed_yes (fun i hi k hk => HC.out i hi hi k hk), hu, hF]; rfl)
          have k0 := cell_regrown g0
          have k1 := cell_regrown g1
          have k2 := cell_regrown g2
          have kU := sunit_r m u wr m1 m3 hu
          have kF := sfind_r _ L u wr hl (hSW.below hb) F hF
          clear hu hF
          go_wp2_with fail
          refine wp_region_quiet_below (by kernel_rfl) (by kernel_rfl) ?_
          repeat (go_big_quiet_step (first | with_reducible exact kU _ _ | with_reducible exact kF _ _))
          refine wpQuiet_nil ?_
          intro _ hw'
          obtain ⟨⟨dq, osq⟩, hw''⟩ := hw'
          subst hw''
          have hb2 := hb.trans ((below_regrown wr dq osq).mono hb.size)
          generalize grow (redrawn wr dq) osq = V at *
          clear k0 k1 k2 g0 g1 g2 kU kF
          go_wp2_with fail
          all_goals go_ret
          all_goals exact ⟨by rw [HX.out]; first | rfl | (congr 2; simp; omega), hbW.trans (hb2.mono hbW.size)⟩
end Go.Proofs.Ytabfdohmgmdgeaa
