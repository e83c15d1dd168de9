/-
  LISTS OF MATRICES: the model's order of matrices, and its search in a list. Conditions: as each theorem states.
  GROUPS: whether something is a group, by the model. Conditions: the numbers of the matrices are bytes.
  GROUPS: whether something is a group, by the model, walked. Conditions: the numbers of the matrices are bytes.
  What a group's matrices are, in plain mathematics. Conditions: as the theorem states.
  GROUPS AT POLYNOMIALS, in plain mathematics: the code; what the matrices make of a polynomial. Conditions: as each theorem states.
  SUMS OF POLYNOMIALS, and what a group's matrices make of a polynomial, in plain mathematics. Conditions: as each theorem states.
  ACTIONS COMPOSED, in plain mathematics. Conditions: as each theorem states.
-/
import Derived.Test.YtbhgbifliihlbaaGreatQ17
import Derived.BigQuiet
import Derived.Test.YtbhgbifliihlbaaGreatQ16
import Derived.Test.YtbhgbifliihlbaaGreatQ11
import Derived.Test.YtbhgbifliihlbaaGreatQ08
namespace Go.Proofs.YtbhgbifliihlbaaGreat
open Go.RowKit Go.Sort EchM

/-- Whether a matrix comes ahead of another one, from a place on. -/
def befA (g h : Nat → Nat → Int) : Nat → Nat → Bool
  | 0, _ => false
  | f + 1, q => if g (q / 3) (q % 3) = h (q / 3) (q % 3) then befA g h f (q + 1) else decide (g (q / 3) (q % 3) < h (q / 3) (q % 3))
def befM (g h : Nat → Nat → Int) : Bool := befA g h 9 0
theorem befA_step {g h : Nat → Nat → Int} {i j : Nat} (hi : i < 3) (hj : j < 3) : befA g h (9 - (i * 3 + j)) (i * 3 + j) = if g i j = h i j then befA g h (9 - (i * 3 + (j + 1))) (i * 3 + (j + 1)) else decide (g i j < h i j) := by
  rw [show 9 - (i * 3 + j) = (9 - (i * 3 + (j + 1))) + 1 by omega, befA, show (i * 3 + j) / 3 = i by omega, show (i * 3 + j) % 3 = j by omega]
  rfl

set_option maxRecDepth 8000 in
set_option maxHeartbeats 4000000 in
theorem sbefore (g h : Nat → Nat → Int) (w : World) : Calls Tryz.prog 53 #[mv g, mv h] w fun e w' => e = .returned (.bool (befM g h)) ∧ Below w.heap.size w w' := by
  obtain ⟨W, hW, r1, r2, hbW⟩ : ∃ W, W = (w.alloc (.cells #[.int .u8 (g 0 0), .int .u8 (g 0 1), .int .u8 (g 0 2), .int .u8 (g 1 0), .int .u8 (g 1 1), .int .u8 (g 1 2), .int .u8 (g 2 0), .int .u8 (g 2 1), .int .u8 (g 2 2)] 76)).alloc (.cells #[.int .u8 (h 0 0), .int .u8 (h 0 1), .int .u8 (h 0 2), .int .u8 (h 1 0), .int .u8 (h 1 1), .int .u8 (h 1 2), .int .u8 (h 2 0), .int .u8 (h 2 1), .int .u8 (h 2 2)] 76) ∧
      W.rowIs w.heap.size 76 9 (mF g) ∧ W.rowIs (w.heap.size + 1) 76 9 (mF h) ∧ Below w.heap.size w W := by
    refine ⟨_, rfl, (mbox w g _).alloc _, ?_, ebox2 _ _ _⟩
    have := mbox (w.alloc (.cells #[.int .u8 (g 0 0), .int .u8 (g 0 1), .int .u8 (g 0 2), .int .u8 (g 1 0), .int .u8 (g 1 1), .int .u8 (g 1 2), .int .u8 (g 2 0), .int .u8 (g 2 1), .int .u8 (g 2 2)] 76)) h 76
    rwa [World.size_alloc] at this
  unfold mv
  go_enter Tryz.func53, Tryz.ntmps53
  go_upto_region 1 with fail
  rw [← hW]
  clear hW
  go_wp2_with fail
  go_loopw [5] (fun i wr => ∃ (k : Nat), k ≤ 3 ∧ i = .int .i64 k ∧ Hid (befM g h = befA g h (9 - (k * 3 + 0)) (k * 3 + 0)) ∧ ∃ nd, wr = W.drewN nd) (fun i _ => 3 - (intOf i).toNat)
  case atStart => exact ⟨0, by omega, rfl, Lib.hid rfl, 0, rfl⟩
  case round =>
    obtain ⟨k, hk, rfl, HU, nd, rfl⟩ := hrel
    by_cases hlt : k < 3
    · have hlt' : (k : Int) < 3 := by omega
      go_wp2_with fail
      go_loopw [6] (fun i wr => ∃ (j : Nat), j ≤ 3 ∧ i = .int .i64 j ∧ Hid (befM g h = befA g h (9 - (k * 3 + j)) (k * 3 + j)) ∧ ∃ nd, wr = W.drewN nd) (fun i _ => 3 - (intOf i).toNat)
      case atStart => exact ⟨0, by omega, rfl, HU, nd, rfl⟩
      case round =>
        obtain ⟨j, hj, rfl, HV, nd2, rfl⟩ := hrel
        by_cases hjt : j < 3
        · have hjt' : (j : Int) < 3 := by omega
          have c0 := mcell r1 (i := k) (j := j) hlt hjt
          have c1 := mcell r2 (i := k) (j := j) hlt hjt
          have HS := Lib.hid (HV.out.trans (befA_step hlt hjt))
          generalize g k j = X at c0 HS
          generalize h k j = Y at c1 HS
          by_cases he : X = Y
          · have HN := Lib.hid (HS.out.trans (if_pos he))
            subst he
            have hq : (X != X) = false := by simp
            clear HS
            go_wp2_with fail
            go_quiet (fail)
            go_wp2_with fail
            go_roundw
            case rel => exact ⟨j + 1, by omega, by go_num, HN, _, rfl⟩
            case measure => simp [intOf]; omega
          · have HN := Lib.hid (HS.out.trans (if_neg he))
            have hq : (X != Y) = true := by simp [he]
            clear HS he
            go_wp2_with fail
            go_quiet (fail)
            go_wp2_with fail
            go_quiet (fail)
            go_wp2_with fail
            go_ret
            exact ⟨by rw [HN.out]; rfl, by repeat (first | with_reducible exact hbW | refine below_drewN ?_ _)⟩
        · obtain rfl : j = 3 := by omega
          have HN : Hid (befM g h = befA g h (9 - ((k + 1) * 3 + 0)) ((k + 1) * 3 + 0)) := Lib.hid (by rw [HV.out, show (k + 1) * 3 + 0 = k * 3 + 3 by omega])
          go_wp2_with fail
          go_roundw
          case rel => exact ⟨k + 1, by omega, by go_num, HN, _, rfl⟩
          case measure => simp [intOf]; omega
    · obtain rfl : k = 3 := by omega
      have HX : Hid (befM g h = false) := Lib.hid (by rw [HU.out]; rfl)
      go_wp2_with fail
      go_ret
      exact ⟨by rw [HX.out]; rfl, by repeat (first | with_reducible exact hbW | refine below_drewN ?_ _)⟩

/-- A list of matrices in memory; a slice that reads as one. -/
def MatsW (w : World) (b off : Nat) (L : List (Nat → Nat → Int)) : Prop := ∀ (k : Nat) (hk : k < L.length) (i j : Nat), i < 3 → j < 3 → w.cell? ⟨b, off + k * 9 + (i * 3 + j), none⟩ = some (.int .u8 (L[k] i j))
def SlM (w : World) (v : Value) (L : List (Nat → Nat → Int)) : Prop :=
  ∃ a cap, v = .slice a L.length cap ∧ (L = [] ∨ ∃ b off, a = some ⟨b, off, none⟩ ∧ b < w.heap.size ∧ MatsW w b off L)
theorem MatsW.below {w w' : World} {b off B : Nat} {L : List (Nat → Nat → Int)} (h : MatsW w b off L) (hb : Below B w w') (hB : b < B) : MatsW w' b off L := fun k hk i j hi hj => (hb.cell (p := ⟨b, _, none⟩) hB).trans (h k hk i j hi hj)
theorem SlM.below {w w' : World} {v : Value} {L : List (Nat → Nat → Int)} (h : SlM w v L) (hb : Below w.heap.size w w') : SlM w' v L := by
  obtain ⟨a, cap, hv, h | ⟨b, off, ha, hlt, hT⟩⟩ := h
  · exact ⟨a, cap, hv, .inl h⟩
  · exact ⟨a, cap, hv, .inr ⟨b, off, ha, Nat.lt_of_lt_of_le hlt hb.size, hT.below hb hlt⟩⟩
/-- The nine cells of a matrix of a list. -/
theorem MatsW.nine {w : World} {b off : Nat} {L : List (Nat → Nat → Int)} (h : MatsW w b off L) {k : Nat} (hk : k < L.length) :
    (w.cell? ⟨b, off + k * 9, none⟩ = some (.int .u8 (L[k] 0 0)) ∧ w.cell? ⟨b, off + k * 9 + 1, none⟩ = some (.int .u8 (L[k] 0 1)) ∧ w.cell? ⟨b, off + k * 9 + 2, none⟩ = some (.int .u8 (L[k] 0 2))) ∧
    (w.cell? ⟨b, off + k * 9 + 3, none⟩ = some (.int .u8 (L[k] 1 0)) ∧ w.cell? ⟨b, off + k * 9 + 4, none⟩ = some (.int .u8 (L[k] 1 1)) ∧ w.cell? ⟨b, off + k * 9 + 5, none⟩ = some (.int .u8 (L[k] 1 2))) ∧
    (w.cell? ⟨b, off + k * 9 + 6, none⟩ = some (.int .u8 (L[k] 2 0)) ∧ w.cell? ⟨b, off + k * 9 + 7, none⟩ = some (.int .u8 (L[k] 2 1)) ∧ w.cell? ⟨b, off + k * 9 + 8, none⟩ = some (.int .u8 (L[k] 2 2))) :=
  ⟨⟨h k hk 0 0 (by omega) (by omega), h k hk 0 1 (by omega) (by omega), h k hk 0 2 (by omega) (by omega)⟩, ⟨h k hk 1 0 (by omega) (by omega), h k hk 1 1 (by omega) (by omega), h k hk 1 2 (by omega) (by omega)⟩, ⟨h k hk 2 0 (by omega) (by omega), h k hk 2 1 (by omega) (by omega), h k hk 2 2 (by omega) (by omega)⟩⟩
/-- The number of a matrix in a list, from a place on; -1 if it is not there. -/
def findA (g : Nat → Nat → Int) : List (Nat → Nat → Int) → Nat → Int
  | [], _ => -1
  | x :: L, k => if eqM x g then (k : Int) else findA g L (k + 1)
def findM (L : List (Nat → Nat → Int)) (g : Nat → Nat → Int) : Int := findA g L 0
theorem findA_step {g : Nat → Nat → Int} {L : List (Nat → Nat → Int)} {k : Nat} (h : k < L.length) : findA g (L.drop k) k = if eqM L[k] g then (k : Int) else findA g (L.drop (k + 1)) (k + 1) := by
  rw [List.drop_eq_getElem_cons h]; rfl

set_option maxRecDepth 8000 in
set_option maxHeartbeats 4000000 in
theorem sfind (v : Value) (L : List (Nat → Nat → Int)) (g : Nat → Nat → Int) (w : World) (hl : L.length ≤ 1048576) (hS : SlM w v L) :
    Calls Tryz.prog 54 #[v, mv g] w fun e w' => e = .returned (.int .i64 (findM L g)) ∧ Below w.heap.size w w' := by
  obtain ⟨W, hW, r1, hbW⟩ : ∃ W, W = w.alloc (.cells #[.int .u8 (g 0 0), .int .u8 (g 0 1), .int .u8 (g 0 2), .int .u8 (g 1 0), .int .u8 (g 1 1), .int .u8 (g 1 2), .int .u8 (g 2 0), .int .u8 (g 2 1), .int .u8 (g 2 2)] 76) ∧ W.rowIs w.heap.size 76 9 (mF g) ∧ Below w.heap.size w W := ⟨_, rfl, mbox w g _, ebox1 _ _⟩
  obtain ⟨a, cap, rfl, h⟩ := hS
  unfold mv
  go_enter Tryz.func54, Tryz.ntmps54
  go_upto_region 1 with fail
  rw [← hW]
  clear hW
  go_wp2_with fail
  go_loopw [5] (fun i wr => ∃ (k : Nat), k ≤ L.length ∧ i = .int .i64 k ∧ Hid (findM L g = findA g (L.drop k) k) ∧ ∃ nd, wr = W.drewN nd) (fun i _ => L.length - (intOf i).toNat)
  case atStart => exact ⟨0, by omega, rfl, Lib.hid rfl, 0, rfl⟩
  case round =>
    obtain ⟨k, hk, rfl, HU, nd, rfl⟩ := hrel
    by_cases hlt : k < L.length
    · have hlt' : (k : Int) < (L.length : Int) := by omega
      obtain ⟨b, off, rfl, hbb, hT⟩ : ∃ b off, a = some ⟨b, off, none⟩ ∧ b < w.heap.size ∧ MatsW w b off L := by
        rcases h with rfl | h
        · simp at hlt
        · exact h
      obtain ⟨⟨a0, a1, a2⟩, ⟨a3, a4, a5⟩, a6, a7, a8⟩ := (hT.below hbW hbb).nine hlt
      obtain ⟨⟨b0, b1, b2⟩, ⟨b3, b4, b5⟩, b6, b7, b8⟩ := mcells r1
      have HS := Lib.hid (HU.out.trans (findA_step (g := g) hlt))
      generalize hx : L[k] = x at a0 a1 a2 a3 a4 a5 a6 a7 a8 HS
      clear hx
      have hE := fun w => mat_eq x g w
      cases he : eqM x g
      · have HN : Hid (findM L g = findA g (L.drop (k + 1)) (k + 1)) := Lib.hid (HS.out.trans (by simp [he]))
        rw [he] at hE
        clear HS he
        go_wp2_with fail
        go_quiet (fail)
        go_wp2_with fail
        go_roundw
        case rel => exact ⟨k + 1, by omega, by go_num, HN, _, rfl⟩
        case measure => simp [intOf]; omega
      · have HN : Hid (findM L g = (k : Int)) := Lib.hid (HS.out.trans (by simp [he]))
        rw [he] at hE
        clear HS he
        go_wp2_with fail
        go_quiet (fail)
        go_wp2_with fail
        go_ret
        exact ⟨by rw [HN.out]; rfl, by repeat (first | with_reducible exact hbW | refine below_drewN ?_ _)⟩
    · obtain rfl : k = L.length := by omega
      have HX : Hid (findM L g = -1) := Lib.hid (by rw [HU.out, List.drop_length]; rfl)
      go_wp2_with fail
      go_ret
      exact ⟨by rw [HX.out]; rfl, by repeat (first | with_reducible exact hbW | refine below_drewN ?_ _)⟩
end Go.Proofs.YtbhgbifliihlbaaGreat
namespace Go.Proofs.YtbhgbifliihlbaaGreat
open Go.RowKit Go.Sort EchM

/-- The cells of a group. -/
def grpF (p n : Int) (v : Value) (q : Nat) : Value := if q = 0 then .int .i64 p else if q = 1 then .int .i64 n else v
theorem gbox (w : World) (p n : Int) (v : Value) (t : TypeId) : (w.alloc (.cells #[.int .i64 p, .int .i64 n, v] t)).rowIs w.heap.size t 3 (grpF p n v) :=
  World.rowIs_alloc w #[Value.int .i64 p, .int .i64 n, v] _ _ (fun i hi => by simp at hi; match i, hi with | 0, _ => rfl | 1, _ => rfl | 2, _ => rfl)
theorem gcells {w : World} {B : Nat} {t : TypeId} {p n : Int} {v : Value} (h : w.rowIs B t 3 (grpF p n v)) : w.cell? ⟨B, 0, none⟩ = some (.int .i64 p) ∧ w.cell? ⟨B, 1, none⟩ = some (.int .i64 n) ∧ w.cell? ⟨B, 2, none⟩ = some v :=
  ⟨h.cell (i := 0) (by omega), h.cell (i := 1) (by omega), h.cell (i := 2) (by omega)⟩
/-- Matrices, ascending, from a matrix on. -/
def chainG (p n : Int) : Option (Nat → Nat → Int) → List (Nat → Nat → Int) → Bool
  | _, [] => true
  | none, x :: L => isMat p n x && chainG p n (some x) L
  | some q, x :: L => isMat p n x && (befM q x && chainG p n (some x) L)
def prevG (L : List (Nat → Nat → Int)) : Nat → Option (Nat → Nat → Int)
  | 0 => none
  | k + 1 => L[k]?
def tailG (p n : Int) (L : List (Nat → Nat → Int)) (k : Nat) : Bool := chainG p n (prevG L k) (L.drop k)
theorem tailG_zero {p n : Int} {L : List (Nat → Nat → Int)} (h : 0 < L.length) : tailG p n L 0 = (isMat p n L[0] && tailG p n L 1) := by
  unfold tailG
  rw [List.drop_eq_getElem_cons h]
  show (isMat p n L[0] && chainG p n (some L[0]) (L.drop 1)) = (isMat p n L[0] && chainG p n (L[0]?) (L.drop 1))
  rw [List.getElem?_eq_getElem h]
theorem tailG_succ {p n : Int} {L : List (Nat → Nat → Int)} {k : Nat} (h : k + 1 < L.length) : tailG p n L (k + 1) = (isMat p n L[k + 1] && (befM (L[k]'(by omega)) L[k + 1] && tailG p n L (k + 2))) := by
  unfold tailG
  rw [List.drop_eq_getElem_cons h]
  show chainG p n (L[k]?) (L[k + 1] :: L.drop (k + 2)) = (isMat p n L[k + 1] && (befM (L[k]'(by omega)) L[k + 1] && chainG p n (L[k + 1]?) (L.drop (k + 2))))
  rw [List.getElem?_eq_getElem h, List.getElem?_eq_getElem (show k < L.length by omega)]
  rfl
theorem tailG_end (p n : Int) (L : List (Nat → Nat → Int)) : tailG p n L L.length = true := by
  unfold tailG
  rw [List.drop_length]
  cases prevG L L.length <;> rfl
/-- Whether all products are in the list, and the unit. -/
def closedG (p : Int) (L : List (Nat → Nat → Int)) : Bool := L.all fun x => L.all fun y => decide (0 ≤ findM L (prodM p x y))
def isGrp (p n : Int) (L : List (Nat → Nat → Int)) : Bool := pB p && ((decide (1 ≤ n) && decide (n ≤ 3)) && (decide (1 ≤ L.length) && (decide (L.length ≤ 48) && (tailG p n L 0 && (closedG p L && decide (0 ≤ findM L (uM n.toNat)))))))
theorem tailG_all {p n : Int} {L : List (Nat → Nat → Int)} (h : tailG p n L 0 = true) : ∀ x ∈ L, isMat p n x = true := by
  have key : ∀ (L : List (Nat → Nat → Int)) (o : Option (Nat → Nat → Int)), chainG p n o L = true → ∀ x ∈ L, isMat p n x = true := by
    intro L
    induction L with
    | nil => intro o _ x hx; simp at hx
    | cons y L ih =>
      intro o h x hx
      cases o with
      | none =>
        simp only [chainG, Bool.and_eq_true] at h
        rcases List.mem_cons.1 hx with rfl | hx
        · exact h.1
        · exact ih _ h.2 x hx
      | some q =>
        simp only [chainG, Bool.and_eq_true] at h
        rcases List.mem_cons.1 hx with rfl | hx
        · exact h.1
        · exact ih _ h.2.2 x hx
  exact key L none (by simpa [tailG, prevG] using h)
theorem closed_no {p : Int} {L : List (Nat → Nat → Int)} {i k : Nat} (hi : i < L.length) (hk : k < L.length) (h : findM L (prodM p L[i] L[k]) < 0) : closedG p L = false := by
  unfold closedG
  rw [List.all_eq_false]
  refine ⟨L[i], List.getElem_mem hi, ?_⟩
  rw [Bool.not_eq_true, List.all_eq_false]
  exact ⟨L[k], List.getElem_mem hk, by simp; omega⟩
theorem closed_yes {p : Int} {L : List (Nat → Nat → Int)} (h : ∀ (i : Nat) (hi : i < L.length) (k : Nat) (hk : k < L.length), 0 ≤ findM L (prodM p L[i] L[k])) : closedG p L = true := by
  unfold closedG
  rw [List.all_eq_true]
  intro x hx
  rw [List.all_eq_true]
  intro y hy
  obtain ⟨i, hi, rfl⟩ := List.mem_iff_getElem.1 hx
  obtain ⟨k, hk, rfl⟩ := List.mem_iff_getElem.1 hy
  simpa using h i hi k hk
end Go.Proofs.YtbhgbifliihlbaaGreat
namespace Go.Proofs.YtbhgbifliihlbaaGreat
open Go.RowKit Go.Sort EchM

theorem regrown_eq {P : Program} {f : FuncId} {args : Array Value} {w : World} {d : Nat} {os : Array Obj} {v : Value}
    (h : Calls P f args (grow (redrawn w d) os) fun e w' => e = .returned v ∧ grow (redrawn w d) os = w') : Calls P f args (grow (redrawn w d) os) fun e w'' => e = .returned v ∧ ∃ p : Regrown, w'' = grow (redrawn w p.d) p.os :=
  h.mono fun _ _ ⟨he, hw⟩ => ⟨he, ⟨d, os⟩, hw.symm⟩
theorem smat_r (p n : Int) (g : Nat → Nat → Int) (W : World) (hg : Byt g) (B : Bool) (h : isMat p n g = B) : ∀ dd os,
    Calls Tryz.prog 52 #[.int .i64 p, .int .i64 n, (.agg #[.int .u8 (g 0 0), .int .u8 (g 0 1), .int .u8 (g 0 2), .int .u8 (g 1 0), .int .u8 (g 1 1), .int .u8 (g 1 2), .int .u8 (g 2 0), .int .u8 (g 2 1), .int .u8 (g 2 2)])] (grow (redrawn W dd) os) fun e w'' => e = .returned (.bool B) ∧ ∃ q : Regrown, w'' = grow (redrawn W q.d) q.os := fun _ _ => Calls.regrown_of (smat_is p n g _ hg B h)
theorem sbef_r (g h : Nat → Nat → Int) (W : World) (B : Bool) (hB : befM g h = B) : ∀ dd os,
    Calls Tryz.prog 53 #[(.agg #[.int .u8 (g 0 0), .int .u8 (g 0 1), .int .u8 (g 0 2), .int .u8 (g 1 0), .int .u8 (g 1 1), .int .u8 (g 1 2), .int .u8 (g 2 0), .int .u8 (g 2 1), .int .u8 (g 2 2)]), (.agg #[.int .u8 (h 0 0), .int .u8 (h 0 1), .int .u8 (h 0 2), .int .u8 (h 1 0), .int .u8 (h 1 1), .int .u8 (h 1 2), .int .u8 (h 2 0), .int .u8 (h 2 1), .int .u8 (h 2 2)])] (grow (redrawn W dd) os) fun e w'' => e = .returned (.bool B) ∧ ∃ q : Regrown, w'' = grow (redrawn W q.d) q.os := fun _ _ => Calls.regrown_of (by subst hB; exact sbefore g h _)
theorem sprod_r (p : Int) (n : Nat) (g h r : Nat → Nat → Int) (W : World) (hg : MatV p n g) (hh : MatV p n h) (hr : prodM p g h = r) : ∀ dd os,
    Calls Tryz.prog 55 #[.int .i64 p, .int .i64 (n : Int), (.agg #[.int .u8 (g 0 0), .int .u8 (g 0 1), .int .u8 (g 0 2), .int .u8 (g 1 0), .int .u8 (g 1 1), .int .u8 (g 1 2), .int .u8 (g 2 0), .int .u8 (g 2 1), .int .u8 (g 2 2)]), (.agg #[.int .u8 (h 0 0), .int .u8 (h 0 1), .int .u8 (h 0 2), .int .u8 (h 1 0), .int .u8 (h 1 1), .int .u8 (h 1 2), .int .u8 (h 2 0), .int .u8 (h 2 1), .int .u8 (h 2 2)])] (grow (redrawn W dd) os) fun e w'' => e = .returned (.agg #[.int .u8 (r 0 0), .int .u8 (r 0 1), .int .u8 (r 0 2), .int .u8 (r 1 0), .int .u8 (r 1 1), .int .u8 (r 1 2), .int .u8 (r 2 0), .int .u8 (r 2 1), .int .u8 (r 2 2)]) ∧ ∃ q : Regrown, w'' = grow (redrawn W q.d) q.os := fun _ _ => Calls.regrown_of (sprod_agg p n g h r _ hg hh hr)
theorem sfind_r (v : Value) (L : List (Nat → Nat → Int)) (g : Nat → Nat → Int) (W : World) (hl : L.length ≤ 1048576) (hS : SlM W v L) (F : Int) (hF : findM L g = F) : ∀ dd os,
    Calls Tryz.prog 54 #[v, (.agg #[.int .u8 (g 0 0), .int .u8 (g 0 1), .int .u8 (g 0 2), .int .u8 (g 1 0), .int .u8 (g 1 1), .int .u8 (g 1 2), .int .u8 (g 2 0), .int .u8 (g 2 1), .int .u8 (g 2 2)])] (grow (redrawn W dd) os) fun e w'' => e = .returned (.int .i64 F) ∧ ∃ q : Regrown, w'' = grow (redrawn W q.d) q.os := fun dd os => Calls.regrown_of (by subst hF; exact sfind v L g _ hl (hS.below (below_regrown W dd os)))
theorem sunit_r (n : Nat) (u : Nat → Nat → Int) (W : World) (h1 : 1 ≤ n) (h3 : n ≤ 3) (hu : uM n = u) : ∀ dd os,
    Calls Tryz.prog 56 #[.int .i64 (n : Int)] (grow (redrawn W dd) os) fun e w'' => e = .returned (.agg #[.int .u8 (u 0 0), .int .u8 (u 0 1), .int .u8 (u 0 2), .int .u8 (u 1 0), .int .u8 (u 1 1), .int .u8 (u 1 2), .int .u8 (u 2 0), .int .u8 (u 2 1), .int .u8 (u 2 2)]) ∧ ∃ q : Regrown, w'' = grow (redrawn W q.d) q.os := fun _ _ => Calls.regrown_of (sunit n u _ h1 h3 hu)

set_option maxRecDepth 8000 in
set_option maxHeartbeats 16000000 in
theorem sgroup (p n : Int) (v : Value) (L : List (Nat → Nat → Int)) (w : World) (hl : L.length ≤ 1048576) (hS : SlM w v L) (hby : ∀ x ∈ L, Byt x) :
    Calls Tryz.prog 34 #[.agg #[.int .i64 p, .int .i64 n, v]] w fun e w' => e = .returned (.bool (isGrp p n L)) ∧ Below w.heap.size w w' := by
  obtain ⟨W, hW, rW, hbW, hWs⟩ : ∃ W, W = w.alloc (.cells #[.int .i64 p, .int .i64 n, v] 35) ∧ W.rowIs w.heap.size 35 3 (grpF p n v) ∧ Below w.heap.size w W ∧ w.heap.size < W.heap.size := ⟨_, rfl, gbox w p n v _, ebox1 _ _, by simp⟩
  have hSW := hS.below hbW
  obtain ⟨a, cap, rfl, hSc⟩ := id hS
  obtain ⟨g0, g1, g2⟩ := gcells rW
  have HBY := Lib.hid hby
  clear hby
  cases hp : pB p
  · have HX := Lib.hid (show isGrp p n L = false by simp [isGrp, hp])
    have HP := Lib.hid hp
    clear hp
    go_enter Tryz.func34, Tryz.ntmps34
    go_wp2_with fail
    rw [← hW]
    clear hW
    ((with_reducible refine (eprime_is p _ false HP.out).mono ?_); rintro e w1 ⟨rfl, rfl⟩)
    go_wp2_with fail
    go_ret
    exact ⟨by rw [HX.out]; rfl, hbW⟩
  have HP := Lib.hid hp
  cases hv : (decide (1 ≤ n) && decide (n ≤ 3))
  · have HX := Lib.hid (show isGrp p n L = false by rw [isGrp, hv]; simp)
    have HV := Lib.hid hv
    clear hp hv
    go_enter Tryz.func34, Tryz.ntmps34
    go_wp2_with fail
    rw [← hW]
    clear hW
    ((with_reducible refine (eprime_is p _ true HP.out).mono ?_); rintro e w1 ⟨rfl, rfl⟩)
    go_wp2_with fail
    ((with_reducible refine (ein_is n 1 3 _ false HV.out).mono ?_); rintro e w2 ⟨rfl, rfl⟩)
    go_wp2_with fail
    go_ret
    exact ⟨by rw [HX.out]; rfl, hbW⟩
  have HV := Lib.hid hv
  by_cases hsz : ¬ (1 ≤ L.length ∧ L.length ≤ 48)
  · have HX := Lib.hid (show isGrp p n L = false by
      unfold isGrp
      by_cases h1 : 1 ≤ L.length
      · rw [show decide (L.length ≤ 48) = false from decide_eq_false (by omega)]; simp
      · rw [show decide (1 ≤ L.length) = false from decide_eq_false h1]; simp)
    clear hp hv
    by_cases h1 : 1 ≤ L.length
    · have h2 : (48 : Int) < (L.length : Int) := by omega
      have h1' : ¬ (L.length : Int) < 1 := by omega
      clear hsz
      go_enter Tryz.func34, Tryz.ntmps34
      go_wp2_with fail
      rw [← hW]
      clear hW
      ((with_reducible refine (eprime_is p _ true HP.out).mono ?_); rintro e w1 ⟨rfl, rfl⟩)
      go_wp2_with fail
      ((with_reducible refine (ein_is n 1 3 _ true HV.out).mono ?_); rintro e w2 ⟨rfl, rfl⟩)
      go_wp2_with fail
      go_ret
      exact ⟨by rw [HX.out]; rfl, hbW⟩
    · have h1' : (L.length : Int) < 1 := by omega
      clear hsz
      go_enter Tryz.func34, Tryz.ntmps34
      go_wp2_with fail
      rw [← hW]
      clear hW
      ((with_reducible refine (eprime_is p _ true HP.out).mono ?_); rintro e w1 ⟨rfl, rfl⟩)
      go_wp2_with fail
      ((with_reducible refine (ein_is n 1 3 _ true HV.out).mono ?_); rintro e w2 ⟨rfl, rfl⟩)
      go_wp2_with fail
      go_ret
      exact ⟨by rw [HX.out]; rfl, hbW⟩
  have hsz1 : 1 ≤ L.length := by omega
  have hsz2 : L.length ≤ 48 := by omega
  have hsz1' : ¬ (L.length : Int) < 1 := by omega
  have hsz2' : ¬ (48 : Int) < (L.length : Int) := by omega
  obtain ⟨m, rfl, m1, m3⟩ : ∃ m : Nat, n = (m : Int) ∧ 1 ≤ m ∧ m ≤ 3 := by
    simp only [Bool.and_eq_true, decide_eq_true_eq] at hv
    obtain ⟨m, rfl⟩ := Int.eq_ofNat_of_zero_le (show 0 ≤ n by omega)
    exact ⟨m, rfl, by omega, by omega⟩
  have HY := Lib.hid (show isGrp p m L = (tailG p m L 0 && (closedG p L && decide (0 ≤ findM L (uM m)))) by
    unfold isGrp
    rw [hp, HV.out, show decide (1 ≤ L.length) = true from decide_eq_true hsz1, show decide (L.length ≤ 48) = true from decide_eq_true hsz2]
    simp)
  obtain ⟨b, off, rfl, hbb, hT⟩ : ∃ b off, a = some ⟨b, off, none⟩ ∧ b < w.heap.size ∧ MatsW w b off L := by
    rcases hSc with rfl | h
    · simp at hsz1
    · exact h
  have hTW := hT.below hbW hbb
  have hbbW : b < W.heap.size := by omega
  clear hp hv hsz
  go_enter Tryz.func34, Tryz.ntmps34
  go_wp2_with fail
  rw [← hW]
  clear hW
  ((with_reducible refine (eprime_is p _ true HP.out).mono ?_); rintro e w1 ⟨rfl, rfl⟩)
  go_wp2_with fail
  ((with_reducible refine (ein_is m 1 3 _ true HV.out).mono ?_); rintro e w2 ⟨rfl, rfl⟩)
  go_wp2_with fail
  clear g0 g1 g2
  go_loopw [3] (fun i wr => ∃ (k : Nat), k ≤ L.length ∧ i = .int .i64 k ∧ Hid (tailG p m L 0 = tailG p m L k) ∧ Below W.heap.size W wr) (fun i _ => L.length - (intOf i).toNat)
  case atStart => exact ⟨0, by omega, rfl, Lib.hid rfl, Below.refl _ _⟩
  case round =>
    obtain ⟨k, hk, rfl, HU, hb⟩ := hrel
    obtain ⟨g0, g1, g2⟩ := gcells (erow_below rW hb rW.lt)
    have k0 := cell_regrown g0
    have k1 := cell_regrown g1
    have k2 := cell_regrown g2
    by_cases hlt : k < L.length
    · have hlt' : (k : Int) < (L.length : Int) := by omega
      have hTr := hTW.below hb hbbW
      obtain ⟨⟨a0, a1, a2⟩, ⟨a3, a4, a5⟩, a6, a7, a8⟩ := hTr.nine hlt
      have l0 := cell_regrown a0
      have l1 := cell_regrown a1
      have l2 := cell_regrown a2
      have l3 := cell_regrown a3
      have l4 := cell_regrown a4
      have l5 := cell_regrown a5
      have l6 := cell_regrown a6
      have l7 := cell_regrown a7
      have l8 := cell_regrown a8
      have hbx := HBY.out _ (List.getElem_mem hlt)
      cases k with
      | zero =>
        simp only [Nat.zero_mul, Nat.add_zero] at l0 l1 l2 l3 l4 l5 l6 l7 l8 a0 a1 a2 a3 a4 a5 a6 a7 a8
        have HT := Lib.hid (HU.out.trans (tailG_zero (p := p) (n := m) hlt))
        generalize L[0] = x at *
        have cM := fun B h => smat_r p m x wr hbx B h
        cases hm : isMat p m x
        · have kM := cM false hm
          have HX := Lib.hid (show isGrp p m L = false by rw [HY.out, HT.out, hm]; rfl)
          clear cM hm
          go_wp2_with fail
          refine wp_region_quiet_below (by kernel_rfl) (by kernel_rfl) ?_
          repeat (go_big_quiet_step (first | with_reducible exact kM _ _))
          refine wpQuiet_nil ?_
          intro _ hw'
          obtain ⟨⟨dq, osq⟩, hw''⟩ := hw'
          subst hw''
          have hb2 := hb.trans ((below_regrown wr dq osq).mono hb.size)
          generalize grow (redrawn wr dq) osq = V at *
          clear k0 k1 k2 l0 l1 l2 l3 l4 l5 l6 l7 l8 g0 g1 g2 kM
          go_wp2_with fail
          go_ret
          exact ⟨by rw [HX.out]; rfl, hbW.trans (hb2.mono hbW.size)⟩
        · have kM := cM true hm
          have HN := Lib.hid (show tailG p m L 0 = tailG p m L 1 by rw [HT.out, hm]; rfl)
          clear cM hm
          go_wp2_with fail
          refine wp_region_quiet_below (by kernel_rfl) (by kernel_rfl) ?_
          repeat (go_big_quiet_step (first | with_reducible exact kM _ _))
          refine wpQuiet_nil ?_
          intro _ hw'
          obtain ⟨⟨dq, osq⟩, hw''⟩ := hw'
          subst hw''
          have hb2 := hb.trans ((below_regrown wr dq osq).mono hb.size)
          generalize grow (redrawn wr dq) osq = V at *
          clear k0 k1 k2 l0 l1 l2 l3 l4 l5 l6 l7 l8 g0 g1 g2 kM
          go_wp2_with fail
          go_roundw
          case rel => exact ⟨1, by omega, by go_num, HN, hb2⟩
          case measure => simp [intOf]; omega
      | succ j =>
        have hj : j < L.length := by omega
        have HT := Lib.hid (HU.out.trans (tailG_succ (p := p) (n := m) hlt))
        obtain ⟨⟨b0, b1, b2⟩, ⟨b3, b4, b5⟩, b6, b7, b8⟩ := hTr.nine hj
        have m0 := cell_regrown b0
        have m1 := cell_regrown b1
        have m2 := cell_regrown b2
        have m3 := cell_regrown b3
        have m4 := cell_regrown b4
        have m5 := cell_regrown b5
        have m6 := cell_regrown b6
        have m7 := cell_regrown b7
        have m8 := cell_regrown b8
        generalize L[j + 1] = x at *
        generalize L[j] = y at *
        have cM := fun B h => smat_r p m x wr hbx B h
        have cB := fun B h => sbef_r y x wr B h
        cases hm : isMat p m x
        · have kM := cM false hm
          have HX := Lib.hid (show isGrp p m L = false by rw [HY.out, HT.out, hm]; rfl)
          clear cM cB hm
          go_wp2_with fail
          refine wp_region_quiet_below (by kernel_rfl) (by kernel_rfl) ?_
          repeat (go_big_quiet_step (first | with_reducible exact kM _ _))
          refine wpQuiet_nil ?_
          intro _ hw'
          obtain ⟨⟨dq, osq⟩, hw''⟩ := hw'
          subst hw''
          have hb2 := hb.trans ((below_regrown wr dq osq).mono hb.size)
          generalize grow (redrawn wr dq) osq = V at *
          clear k0 k1 k2 l0 l1 l2 l3 l4 l5 l6 l7 l8 m0 m1 m2 m3 m4 m5 m6 m7 m8 g0 g1 g2 kM
          go_wp2_with fail
          go_ret
          exact ⟨by rw [HX.out]; rfl, hbW.trans (hb2.mono hbW.size)⟩
        · have kM := cM true hm
          cases hc : befM y x
          · have kB := cB false hc
            have HX := Lib.hid (show isGrp p m L = false by rw [HY.out, HT.out, hm, hc]; rfl)
            clear cM cB hm hc
            go_wp2_with fail
            refine wp_region_quiet_below (by kernel_rfl) (by kernel_rfl) ?_
            repeat (go_big_quiet_step (first | with_reducible exact kM _ _ | with_reducible exact kB _ _))
            refine wpQuiet_nil ?_
            intro _ hw'
            obtain ⟨⟨dq, osq⟩, hw''⟩ := hw'
            subst hw''
            have hb2 := hb.trans ((below_regrown wr dq osq).mono hb.size)
            generalize grow (redrawn wr dq) osq = V at *
            clear k0 k1 k2 l0 l1 l2 l3 l4 l5 l6 l7 l8 m0 m1 m2 m3 m4 m5 m6 m7 m8 g0 g1 g2 kM kB
            go_wp2_with fail
            go_ret
            exact ⟨by rw [HX.out]; rfl, hbW.trans (hb2.mono hbW.size)⟩
          · have kB := cB true hc
            have HN := Lib.hid (show tailG p m L 0 = tailG p m L (j + 2) by rw [HT.out, hm, hc]; rfl)
            clear cM cB hm hc
            go_wp2_with fail
            refine wp_region_quiet_below (by kernel_rfl) (by kernel_rfl) ?_
            repeat (go_big_quiet_step (first | with_reducible exact kM _ _ | with_reducible exact kB _ _))
            refine wpQuiet_nil ?_
            intro _ hw'
            obtain ⟨⟨dq, osq⟩, hw''⟩ := hw'
            subst hw''
            have hb2 := hb.trans ((below_regrown wr dq osq).mono hb.size)
            generalize grow (redrawn wr dq) osq = V at *
            clear k0 k1 k2 l0 l1 l2 l3 l4 l5 l6 l7 l8 m0 m1 m2 m3 m4 m5 m6 m7 m8 g0 g1 g2 kM kB
            go_wp2_with fail
            go_roundw
            case rel => exact ⟨j + 2, by omega, by go_num, HN, hb2⟩
            case measure => simp [intOf]; omega
    · obtain rfl : k = L.length := by omega
      have htl : tailG p m L 0 = true := by rw [HU.out]; exact tailG_end p m L
      have HALL := Lib.hid (tailG_all htl)
      have HZ := Lib.hid (show isGrp p m L = (closedG p L && decide (0 ≤ findM L (uM m))) by rw [HY.out, htl]; rfl)
      clear htl
      have HMV := Lib.hid (fun x (hx : x ∈ L) => show MatV p m x from by
        obtain ⟨m', hm', hmv⟩ := matV_of (HBY.out x hx) (HALL.out x hx)
        obtain rfl : m = m' := by omega
        exact hmv)
      clear k0 k1 k2
      go_wp2_with fail
      clear g0 g1 g2
      go_loopw [4] (fun i wr => ∃ (k : Nat), k ≤ L.length ∧ i = .int .i64 k ∧ Hid (∀ (i : Nat) (hi : i < L.length), i < k → ∀ (j : Nat) (hj : j < L.length), 0 ≤ findM L (prodM p L[i] L[j])) ∧ Below W.heap.size W wr) (fun i _ => L.length - (intOf i).toNat)
      case atStart => exact ⟨0, by omega, rfl, Lib.hid (fun i _ h => by omega), hb⟩
      case round =>
        clear hb
        obtain ⟨k, hk, rfl, HC, hb⟩ := hrel
        obtain ⟨g0, g1, g2⟩ := gcells (erow_below rW hb rW.lt)
        by_cases hlt : k < L.length
        · have hlt' : (k : Int) < (L.length : Int) := by omega
          go_wp2_with fail
          clear g0 g1 g2
          go_loopw [5] (fun i wr => ∃ (j : Nat), j ≤ L.length ∧ i = .int .i64 j ∧ Hid (∀ (j' : Nat) (hj : j' < L.length), j' < j → 0 ≤ findM L (prodM p L[k] L[j'])) ∧ Below W.heap.size W wr) (fun i _ => L.length - (intOf i).toNat)
          case atStart => exact ⟨0, by omega, rfl, Lib.hid (fun i _ h => by omega), hb⟩
          case round =>
            clear hb
            obtain ⟨j, hj, rfl, HD, hb⟩ := hrel
            obtain ⟨g0, g1, g2⟩ := gcells (erow_below rW hb rW.lt)
            by_cases hjt : j < L.length
            · have hjt' : (j : Int) < (L.length : Int) := by omega
              have k0 := cell_regrown g0
              have k1 := cell_regrown g1
              have k2 := cell_regrown g2
              have hTr := hTW.below hb hbbW
              obtain ⟨⟨a0, a1, a2⟩, ⟨a3, a4, a5⟩, a6, a7, a8⟩ := hTr.nine hlt
              have l0 := cell_regrown a0
              have l1 := cell_regrown a1
              have l2 := cell_regrown a2
              have l3 := cell_regrown a3
              have l4 := cell_regrown a4
              have l5 := cell_regrown a5
              have l6 := cell_regrown a6
              have l7 := cell_regrown a7
              have l8 := cell_regrown a8
              obtain ⟨⟨b0, b1, b2⟩, ⟨b3, b4, b5⟩, b6, b7, b8⟩ := hTr.nine hjt
              have q0 := cell_regrown b0
              have q1 := cell_regrown b1
              have q2 := cell_regrown b2
              have q3 := cell_regrown b3
              have q4 := cell_regrown b4
              have q5 := cell_regrown b5
              have q6 := cell_regrown b6
              have q7 := cell_regrown b7
              have q8 := cell_regrown b8
              have hxv := HMV.out _ (List.getElem_mem hlt)
              have hyv := HMV.out _ (List.getElem_mem hjt)
              obtain ⟨r, hr⟩ : ∃ r, prodM p L[k] L[j] = r := ⟨_, rfl⟩
              obtain ⟨F, hF⟩ : ∃ F, findM L r = F := ⟨_, rfl⟩
              have HNO := Lib.hid (fun (h : F < 0) => closed_no (p := p) hlt hjt (by rw [hr, hF]; exact h))
              have HD2 := Lib.hid (fun (h0 : 0 ≤ F) => show Hid (∀ (j' : Nat) (hj : j' < L.length), j' < j + 1 → 0 ≤ findM L (prodM p L[k] L[j'])) from Lib.hid (fun j' hj' hlt2 => by
                by_cases e : j' = j
                · subst e; rw [hr, hF]; exact h0
                · exact HD.out j' hj' (by omega)))
              have kP := sprod_r p m L[k] L[j] r wr hxv hyv hr
              have kF := sfind_r _ L r wr hl (hSW.below hb) F hF
              clear hr hF HD
              by_cases hF0 : F < 0
              · have HX := Lib.hid (show isGrp p m L = false by rw [HZ.out, HNO.out hF0]; rfl)
                clear HNO HD2
                go_wp2_with fail
                refine wp_region_quiet_below (by kernel_rfl) (by kernel_rfl) ?_
                repeat (go_big_quiet_step (first | with_reducible exact kP _ _ | with_reducible exact kF _ _))
                refine wpQuiet_nil ?_
                intro _ hw'
                obtain ⟨⟨dq, osq⟩, hw''⟩ := hw'
                subst hw''
                have hb2 := hb.trans ((below_regrown wr dq osq).mono hb.size)
                generalize grow (redrawn wr dq) osq = V at *
                clear k0 k1 k2 l0 l1 l2 l3 l4 l5 l6 l7 l8 q0 q1 q2 q3 q4 q5 q6 q7 q8 g0 g1 g2 kP kF
                go_wp2_with fail
                go_ret
                exact ⟨by rw [HX.out]; rfl, hbW.trans (hb2.mono hbW.size)⟩
              · have HN := HD2.out (show 0 ≤ F by omega)
                clear HNO HD2
                go_wp2_with fail
                refine wp_region_quiet_below (by kernel_rfl) (by kernel_rfl) ?_
                repeat (go_big_quiet_step (first | with_reducible exact kP _ _ | with_reducible exact kF _ _))
                refine wpQuiet_nil ?_
                intro _ hw'
                obtain ⟨⟨dq, osq⟩, hw''⟩ := hw'
                subst hw''
                have hb2 := hb.trans ((below_regrown wr dq osq).mono hb.size)
                generalize grow (redrawn wr dq) osq = V at *
                clear k0 k1 k2 l0 l1 l2 l3 l4 l5 l6 l7 l8 q0 q1 q2 q3 q4 q5 q6 q7 q8 g0 g1 g2 kP kF
                go_wp2_with fail
                go_roundw
                case rel => exact ⟨j + 1, by omega, by go_num, HN, hb2⟩
                case measure => simp [intOf]; omega
            · obtain rfl : j = L.length := by omega
              have HN : Hid (∀ (i : Nat) (hi : i < L.length), i < k + 1 → ∀ (j : Nat) (hj : j < L.length), 0 ≤ findM L (prodM p L[i] L[j])) := Lib.hid (fun i hi hik j hj => by
                by_cases e : i = k
                · subst e; exact HD.out j hj hj
                · exact HC.out i hi (by omega) j hj)
              go_wp2_with fail
              go_roundw
              case rel => exact ⟨k + 1, by omega, by go_num, HN, hb⟩
              case measure => simp [intOf]; omega
        · obtain rfl : k = L.length := by omega
          obtain ⟨u, hu⟩ : ∃ u, uM m = u := ⟨_, rfl⟩
          obtain ⟨F, hF⟩ : ∃ F, findM L u = F := ⟨_, rfl⟩
          have HX := Lib.hid (show isGrp p m L = decide (0 ≤ F) by
            rw [HZ.out, closed_yes (fun i hi k hk => HC.out i hi hi k hk), hu, hF]; rfl)
          have k0 := cell_regrown g0
          have k1 := cell_regrown g1
          have k2 := cell_regrown g2
          have kU := sunit_r m u wr m1 m3 hu
          have kF := sfind_r _ L u wr hl (hSW.below hb) F hF
          clear hu hF
          go_wp2_with fail
          refine wp_region_quiet_below (by kernel_rfl) (by kernel_rfl) ?_
          repeat (go_big_quiet_step (first | with_reducible exact kU _ _ | with_reducible exact kF _ _))
          refine wpQuiet_nil ?_
          intro _ hw'
          obtain ⟨⟨dq, osq⟩, hw''⟩ := hw'
          subst hw''
          have hb2 := hb.trans ((below_regrown wr dq osq).mono hb.size)
          generalize grow (redrawn wr dq) osq = V at *
          clear k0 k1 k2 g0 g1 g2 kU kF
          go_wp2_with fail
          all_goals go_ret
          all_goals exact ⟨by rw [HX.out]; first | rfl | (congr 2; simp; omega), hbW.trans (hb2.mono hbW.size)⟩
end Go.Proofs.YtbhgbifliihlbaaGreat
namespace Go.Proofs.YtbhgbifliihlbaaGreat
open Go.RowKit Go.Sort EchM

theorem isGrp_mats {p n : Int} {L : List (Nat → Nat → Int)} (hby : ∀ x ∈ L, Byt x) (h : isGrp p n L = true) : ∃ m : Nat, n = (m : Int) ∧ 1 ≤ m ∧ m ≤ 3 ∧ L.length ≤ 48 ∧ 1 ≤ L.length ∧ ∀ x ∈ L, MatV p m x := by
  unfold isGrp at h
  simp only [Bool.and_eq_true, decide_eq_true_eq] at h
  obtain ⟨hp, ⟨h1, h3⟩, hl1, hl2, ht, _, _⟩ := h
  obtain ⟨m, rfl⟩ := Int.eq_ofNat_of_zero_le (show 0 ≤ n by omega)
  refine ⟨m, rfl, by omega, by omega, hl2, hl1, fun x hx => ?_⟩
  obtain ⟨m', hm', hmv⟩ := matV_of (hby x hx) (tailG_all ht x hx)
  obtain rfl : m = m' := by omega
  exact hmv
end Go.Proofs.YtbhgbifliihlbaaGreat
namespace Go.Proofs.YtbhgbifliihlbaaGreat
open Go.RowKit Go.Sort Go.Maps EchM

/-- The code of a group with a polynomial. -/
def actC (p n : Int) (L : List (Nat → Nat → Int)) (q d : Int) (xs : List Tm) : Int :=
  if isGrp p n L = true then (if isPolyB q d xs = true then (if p = q ∧ n = d then 0 else 2) else 1) else 1
theorem actC_noG {p n : Int} {L : List (Nat → Nat → Int)} {q d : Int} {xs : List Tm} (h : isGrp p n L = false) : actC p n L q d xs = 1 := by unfold actC; rw [h]; rfl
theorem actC_noP {p n : Int} {L : List (Nat → Nat → Int)} {q d : Int} {xs : List Tm} (h : isGrp p n L = true) (h' : isPolyB q d xs = false) : actC p n L q d xs = 1 := by unfold actC; rw [h, h']; rfl
theorem actC_out {p n : Int} {L : List (Nat → Nat → Int)} {q d : Int} {xs : List Tm} (h : isGrp p n L = true) (h' : isPolyB q d xs = true) (h2 : ¬ (p = q ∧ n = d)) : actC p n L q d xs = 2 := by unfold actC; rw [h, h', if_neg h2]; rfl
theorem actC_ok {p n : Int} {L : List (Nat → Nat → Int)} {q d : Int} {xs : List Tm} (h : isGrp p n L = true) (h' : isPolyB q d xs = true) (h2 : p = q ∧ n = d) : actC p n L q d xs = 0 := by unfold actC; rw [h, h', if_pos h2]; rfl
theorem actC_zero {p n : Int} {L : List (Nat → Nat → Int)} {q d : Int} {xs : List Tm} (h : actC p n L q d xs = 0) : isGrp p n L = true ∧ isPolyB q d xs = true ∧ p = q ∧ n = d := by
  unfold actC at h
  cases hg : isGrp p n L
  · rw [hg] at h; simp at h
  · cases hx : isPolyB q d xs
    · rw [hg, hx] at h; simp at h
    · rw [hg, hx] at h
      by_cases h2 : p = q ∧ n = d
      · exact ⟨rfl, rfl, h2.1, h2.2⟩
      · rw [if_neg h2] at h; simp at h
/-- A group's matrices, at a polynomial that is like it. -/
structure GrpP (p : Int) (m : Nat) (L : List (Nat → Nat → Int)) (xs : List Tm) : Prop where
  mat : ∀ x ∈ L, MatP p m x
  poly : isPolyB p m xs = true
  byte : ∀ t ∈ xs, tmByte t
  l48 : L.length ≤ 48
  l1 : 1 ≤ L.length
  p2 : 2 ≤ p
  p13 : p ≤ 13
  m1 : 1 ≤ m
  m3 : m ≤ 3
theorem grpP_of {p n : Int} {L : List (Nat → Nat → Int)} {q d : Int} {xs : List Tm} (hby : ∀ x ∈ L, Byt x) (hxb : ∀ t ∈ xs, tmByte t) (h : actC p n L q d xs = 0) : ∃ m : Nat, n = (m : Int) ∧ d = (m : Int) ∧ q = p ∧ GrpP p m L xs := by
  obtain ⟨hg, hx, rfl, rfl⟩ := actC_zero h
  obtain ⟨m, rfl, m1, m3, h48, h1, hm⟩ := isGrp_mats hby hg
  have hpr : primeB p = true := by
    simp only [isPolyB, Bool.and_eq_true] at hx
    exact hx.1
  obtain ⟨a, b⟩ := prime_le hpr
  exact ⟨m, rfl, rfl, rfl, fun x hx => ⟨hpr, (hm x hx).m1, (hm x hx).m3, (hm x hx).bound, (hm x hx).out⟩, hx, hxb, h48, h1, a, b, m1, m3⟩
/-- What the matrix g makes of xs. -/
noncomputable def ledF (p : Int) (n : Nat) (xs : List Tm) (g : Nat → Nat → Int) : List Tm := @Classical.epsilon (List Tm) ⟨[]⟩ (fun L => Led p n g xs L)
theorem ledF_is {p : Int} {n : Nat} {g : Nat → Nat → Int} (hM : MatP p n g) {xs : List Tm} (hx : isPolyB p n xs = true) (hby : ∀ t ∈ xs, tmByte t) : Led p n g xs (ledF p n xs g) := Classical.epsilon_spec (p := fun L => Led p n g xs L) (led_ex hM hx hby)
theorem GrpP.led {p : Int} {m : Nat} {L : List (Nat → Nat → Int)} {xs : List Tm} (h : GrpP p m L xs) {x : Nat → Nat → Int} (hx : x ∈ L) : Led p m x xs (ledF p m xs x) := ledF_is (h.mat x hx) h.poly h.byte
theorem Led.isp {p : Int} {n : Nat} {g : Nat → Nat → Int} {xs L : List Tm} (h : Led p n g xs L) : IsP p L (atL L) := by
  obtain ⟨P, _, hL⟩ := h
  exact ⟨hL.1, hL.2.1, fun _ _ => rfl⟩
theorem GrpP.isp {p : Int} {m : Nat} {L : List (Nat → Nat → Int)} {xs : List Tm} (h : GrpP p m L xs) {x : Nat → Nat → Int} (hx : x ∈ L) : IsP p (ledF p m xs x) (atL (ledF p m xs x)) := (h.led hx).isp
theorem GrpP.valid {p : Int} {m : Nat} {L : List (Nat → Nat → Int)} {xs : List Tm} (h : GrpP p m L xs) : Valid p m xs := valid_of h.poly h.byte
theorem GrpP.xlen {p : Int} {m : Nat} {L : List (Nat → Nat → Int)} {xs : List Tm} (h : GrpP p m L xs) : xs.length ≤ 2197 := h.valid.isP.len
theorem GrpP.len {p : Int} {m : Nat} {L : List (Nat → Nat → Int)} {xs : List Tm} (h : GrpP p m L xs) {x : Nat → Nat → Int} (hx : x ∈ L) : (ledF p m xs x).length ≤ 2197 := (h.isp hx).len
end Go.Proofs.YtbhgbifliihlbaaGreat
namespace Go.Proofs.YtbhgbifliihlbaaGreat
open Go.RowKit Go.Sort Go.Maps EchM

/-- The coefficients of a sum. -/
def sumA : List (List Tm) → Int × Int × Int → Int
  | [], _ => 0
  | X :: r, e => atL X e + sumA r e
def sumK (p k : Int) (Ls : List (List Tm)) (e : Int × Int × Int) : Int := k * sumA Ls e % p
theorem sumA_snoc (X : List Tm) (e : Int × Int × Int) : ∀ l : List (List Tm), sumA (l ++ [X]) e = sumA l e + atL X e
  | [] => by simp [sumA]
  | Y :: r => by rw [List.cons_append, sumA, sumA, sumA_snoc X e r, Int.add_assoc]
theorem sumK_nil (p k : Int) (e : Int × Int × Int) : sumK p k [] e = 0 := by simp [sumK, sumA]
theorem sumK_snoc (p k : Int) (X : List Tm) (l : List (List Tm)) (e : Int × Int × Int) : (sumK p k l e + k * atL X e) % p = sumK p k (l ++ [X]) e := by
  unfold sumK
  rw [sumA_snoc, Int.mul_add, Int.add_emod (k * sumA l e) (k * atL X e) p, Int.add_emod (k * sumA l e % p) (k * atL X e) p, Int.emod_emod_of_dvd _ (Int.dvd_refl p)]
theorem sumK_bound {p k : Int} (hp : 2 ≤ p) (Ls : List (List Tm)) (e : Int × Int × Int) : 0 ≤ sumK p k Ls e ∧ sumK p k Ls e < p := ⟨Int.emod_nonneg _ (by omega), Int.emod_lt_of_pos _ (by omega)⟩
theorem sumA_ne {e : Int × Int × Int} : ∀ {Ls : List (List Tm)}, sumA Ls e ≠ 0 → ∃ X ∈ Ls, atL X e ≠ 0
  | [], h => by simp [sumA] at h
  | X :: r, h => by
    by_cases h0 : atL X e = 0
    · rw [sumA, h0, Int.zero_add] at h
      obtain ⟨Y, hY, h1⟩ := sumA_ne h
      exact ⟨Y, by simp [hY], h1⟩
    · exact ⟨X, by simp, h0⟩
theorem sumK_deg {p d k : Int} {Ls : List (List Tm)} (hV : ∀ X ∈ Ls, Valid p d X) {e : Int × Int × Int} (h : sumK p k Ls e ≠ 0) : e.1 + e.2.1 + e.2.2 ≤ 12 := by
  have h1 : sumA Ls e ≠ 0 := fun h0 => h (by unfold sumK; rw [h0]; simp)
  obtain ⟨X, hX, h2⟩ := sumA_ne h1
  obtain ⟨t, ht, rfl⟩ := atL_ne_mem h2
  exact ((hV X hX).mem t ht).1.2
theorem isP_valid {p d : Int} {L : List Tm} {f : Int × Int × Int → Int} (h : IsP p L f) (p2 : 2 ≤ p) (p13 : p ≤ 13) (d1 : 1 ≤ d) (d3 : d ≤ 3) : Valid p d L := ⟨p2, p13, d1, d3, h.1, fun t ht => h.2.1 t ht⟩
theorem sum_ex {p d k : Int} (hp : 2 ≤ p) : ∀ (n : Nat) (Ls : List (List Tm)), Ls.length = n → (∀ X ∈ Ls, Valid p d X) → ∃ O, IsP p O (sumK p k Ls)
  | 0, Ls, h, _ => by
    have : Ls = [] := List.eq_nil_of_length_eq_zero h
    subst this
    exact ⟨[], (IsP.nil p).congr fun e _ => (sumK_nil p k e).symm⟩
  | n + 1, Ls, h, hV => by
    have hne : Ls ≠ [] := fun e => by rw [e] at h; simp at h
    obtain ⟨l, X, rfl⟩ : ∃ l X, Ls = l ++ [X] := ⟨_, _, (List.dropLast_concat_getLast hne).symm⟩
    obtain ⟨O, hO⟩ := sum_ex hp n l (by simpa using h) (fun Y hY => hV Y (by simp [hY]))
    obtain ⟨O', hO'⟩ := plus_ex (k := k) (xs := O) ⟨_, hO⟩ X (hV X (by simp))
    exact ⟨O', hO'.congr fun e he => by unfold addF; rw [hO.2.2 e he]; exact sumK_snoc p k X l e⟩
/-- .. of what all matrices make of a polynomial. -/
theorem GrpP.ledV {p : Int} {m : Nat} {L : List (Nat → Nat → Int)} {xs : List Tm} (h : GrpP p m L xs) {x : Nat → Nat → Int} (hx : x ∈ L) : Valid p m (ledF p m xs x) :=
  isP_valid (h.isp hx) h.p2 h.p13 (by have := h.m1; omega) (by have := h.m3; omega)
/-- What all matrices make of a polynomial, in their order. -/
noncomputable def allL (p : Int) (m : Nat) (L : List (Nat → Nat → Int)) (xs : List Tm) : List (List Tm) := L.map (ledF p m xs)
theorem GrpP.allV {p : Int} {m : Nat} {L : List (Nat → Nat → Int)} {xs : List Tm} (h : GrpP p m L xs) : ∀ X ∈ allL p m L xs, Valid p m X := fun X hX => by
  obtain ⟨x, hx, rfl⟩ := List.mem_map.1 hX
  exact h.ledV hx
theorem allL_len (p : Int) (m : Nat) (L : List (Nat → Nat → Int)) (xs : List Tm) : (allL p m L xs).length = L.length := by simp [allL]
theorem allL_at (p : Int) (m : Nat) (L : List (Nat → Nat → Int)) (xs : List Tm) (k : Nat) (h : k < L.length) : (allL p m L xs)[k]'(by rw [allL_len]; exact h) = ledF p m xs L[k] := by simp [allL]
theorem allL_snoc (p : Int) (m : Nat) (L : List (Nat → Nat → Int)) (xs : List Tm) (k : Nat) (h : k < L.length) : allL p m (L.take (k + 1)) xs = allL p m (L.take k) xs ++ [ledF p m xs L[k]] := by
  unfold allL
  rw [List.take_succ_eq_append_getElem h, List.map_append]
  rfl
/-- An outcome that is a polynomial of a group's prime and letters, with a code. -/
def GpO (p n C : Int) (R : Nat → List Tm → Prop) (o : OutP) : Prop := (C ≠ 0 ∧ o = noP C) ∨ (C = 0 ∧ ∃ (m : Nat) (S : List Tm), n = (m : Int) ∧ R m S ∧ o = ⟨p, n, S, 0⟩)
end Go.Proofs.YtbhgbifliihlbaaGreat
namespace Go.Proofs.YtbhgbifliihlbaaGreat
open Go.RowKit Go.Sort Go.Maps EchM

theorem PrR.mono {p : Int} {fs : List (List Tm)} {L : List Tm} (h : PrR p fs L) : ∀ t ∈ L, mono12 (tmE t) := fun t ht => by
  obtain ⟨f, hf⟩ := h.isP
  exact (hf.2.1 t ht).1
/-- A factor may be put in anywhere. -/
theorem PrR.insert {p d : Int} (hp2 : 2 ≤ p) (hp13 : p ≤ 13) (d1 : 1 ≤ d) (d3 : d ≤ 3) {g : List Tm} {B : List (List Tm)} : ∀ {A : List (List Tm)} {M L : List Tm}, (∀ f ∈ A ++ g :: B, Valid p d f) → sumD (A ++ g :: B) ≤ 12 → PrR p (A ++ B) M → IsP p L (mulF p M g) → PrR p (A ++ g :: B) L
  | [], M, L, _, _, h, hL => ⟨M, h, hL⟩
  | x :: A, M, L, hV, hs, ⟨M', h, hM⟩, hL => by
    have hx := hV x (by simp)
    have hg := hV g (by simp)
    obtain ⟨f, hf⟩ := h.isP
    have hMV : Valid p d M' := isP_valid hf hp2 hp13 d1 d3
    have hAB : ∀ f ∈ A ++ B, Valid p d f := fun f hf => hV f (by simp at hf ⊢; rcases hf with h | h; exact .inr (.inl h); exact .inr (.inr (.inr h)))
    have hs1 : sumD (A ++ g :: B) = sumD (A ++ B) + max (degI g) 0 := by rw [sumD_append, sumD_append, sumD]; omega
    have hs2 : sumD ((x :: A) ++ g :: B) = max (degI x) 0 + sumD (A ++ g :: B) := by rw [List.cons_append, sumD]
    have h0 : 0 ≤ max (degI x) 0 := Int.le_max_right _ _
    obtain ⟨L', hL'⟩ := mul_ex hMV hg (fun s hs' t ht => by
      have a1 := PrR.deg hAB h s hs'
      have a2 := deg_le hg t ht
      have a3 : degI g ≤ max (degI g) 0 := Int.le_max_left _ _
      omega)
    refine ⟨L', PrR.insert hp2 hp13 d1 d3 (fun f hf => hV f (by rw [List.cons_append]; exact List.mem_cons_of_mem _ hf)) (by omega) h hL', ?_⟩
    exact prod_swap (fun t ht => (hMV.mem t ht).1) (fun t ht => (hx.mem t ht).1) (fun t ht => (hg.mem t ht).1) hM hL hL'
theorem nth_form {p : Int} {n : Nat} {h : Nat → Nat → Int} (hM : MatP p n h) {j : Nat} (hj : j < 3) : nthL (formsL h n) j = formL h j := by
  by_cases hn : j < n
  · exact formsL_nth h n j hn
  · rw [nthL_ge (by rw [formsL_len]; omega)]
    have z : ∀ i, i < 3 → h i j = 0 := fun i hi => hM.out i hi j hj (.inr (by omega))
    simp [formL, z 0 (by omega), z 1 (by omega), z 2 (by omega)]
theorem form_valid {p : Int} {n : Nat} {h : Nat → Nat → Int} (hM : MatP p n h) {j : Nat} (hj : j < 3) : Valid p n (formL h j) := by
  rw [← nth_form hM hj]
  by_cases hn : j < n
  · exact hM.valid _ (by rw [nthL_lt (by rw [formsL_len]; exact hn)]; exact List.getElem_mem _)
  · rw [nthL_ge (by rw [formsL_len]; omega)]
    have hp := prime_le hM.prime
    exact ⟨hp.1, hp.2, by have := hM.n1; omega, by have := hM.n3; omega, List.Pairwise.nil, fun t ht => by simp at ht⟩
theorem sumW_form (g : Nat → Nat → Int) (j : Nat) (w : Int × Int × Int → Int) : sumW (formL g j) w = g 0 j * w (1, 0, 0) + (g 1 j * w (0, 1, 0) + g 2 j * w (0, 0, 1)) := by
  unfold formL
  rw [sumW_append, sumW_append]
  by_cases h0 : g 0 j = 0 <;> by_cases h1 : g 1 j = 0 <;> by_cases h2 : g 2 j = 0 <;> simp [h0, h1, h2, sumW, tmE]
/-- The factors of the next monomial. -/
theorem PrR.letter {p : Int} {n : Nat} {h : Nat → Nat → Int} (hM : MatP p n h) {s : Int × Int × Int} (hs : byte3 s) (hd : s.1 + s.2.1 + s.2.2 ≤ 11) {j : Nat} (hj : j < 3) {M L : List Tm} (hP : PrR p (facL (formsL h n) s) M) (hL : IsP p L (mulF p M (formL h j))) : PrR p (facL (formsL h n) (addE s (unE j))) L := by
  have hp := prime_le hM.prime
  have n1 := hM.n1
  have n3 := hM.n3
  obtain ⟨⟨a1, _⟩, ⟨a2, _⟩, a3, _⟩ := hs
  have key : ∀ A B : List (List Tm), facL (formsL h n) s = A ++ B → facL (formsL h n) (addE s (unE j)) = A ++ formL h j :: B → PrR p (facL (formsL h n) (addE s (unE j))) L := fun A B e1 e2 => by
    rw [e2]
    rw [e1] at hP
    refine PrR.insert hp.1 hp.2 (d := (n : Int)) (by omega) (by omega) ?_ ?_ hP hL
    · rw [← e2]
      exact fac_valid (x := formL h j) (form_valid hM hj) hM.valid _ _ _
    · rw [← e2]
      have hu := unE_mono hj
      have hb : mono12 (addE s (unE j)) := addE_mono ⟨⟨by omega, by omega⟩, ⟨by omega, by omega⟩, by omega, by omega⟩ hu.1 (by
        match j, hj with
        | 0, _ => simp [unE]; omega
        | 1, _ => simp [unE]; omega
        | 2, _ => simp [unE]; omega)
      rw [sumD_facL _ hb.1]
      have hq := hM.bnd (d := (n : Int)) (xs := [((addE s (unE j)).1, (addE s (unE j)).2.1, (addE s (unE j)).2.2, 1)]) ⟨hp.1, hp.2, by omega, by omega, List.pairwise_singleton _ _, fun t ht => by
        simp at ht
        subst ht
        exact ⟨hb, Int.le_refl _, by show (1 : Int) < p; omega⟩⟩
      exact hq ((addE s (unE j)).1, (addE s (unE j)).2.1, (addE s (unE j)).2.2, 1) (List.mem_singleton.2 rfl)
  have f0 := nth_form hM (j := 0) (by omega)
  have f1 := nth_form hM (j := 1) (by omega)
  have f2 := nth_form hM (j := 2) (by omega)
  unfold facL facN at key ⊢
  rw [f0, f1, f2] at key ⊢
  match j, hj with
  | 0, _ =>
    refine key (List.replicate s.2.2.toNat (formL h 2) ++ List.replicate s.2.1.toNat (formL h 1)) (List.replicate s.1.toNat (formL h 0)) (by simp) ?_
    have e : (s.1 + 1).toNat = s.1.toNat + 1 := by omega
    simp [addE, unE, e, List.replicate_succ]
  | 1, _ =>
    refine key (List.replicate s.2.2.toNat (formL h 2)) (List.replicate s.2.1.toNat (formL h 1) ++ List.replicate s.1.toNat (formL h 0)) (by simp) ?_
    have e : (s.2.1 + 1).toNat = s.2.1.toNat + 1 := by omega
    simp [addE, unE, e, List.replicate_succ]
  | 2, _ =>
    refine key [] (List.replicate s.2.2.toNat (formL h 2) ++ (List.replicate s.2.1.toNat (formL h 1) ++ List.replicate s.1.toNat (formL h 0))) (by simp) ?_
    have e : (s.2.2 + 1).toNat = s.2.2.toNat + 1 := by omega
    simp [addE, unE, e, List.replicate_succ]
end Go.Proofs.YtbhgbifliihlbaaGreat
