/-
  MONOMIALS of a degree: what they are, and the model's walk. Conditions: as each theorem states.. Conditions: as each theorem states.
  MONOMIALS of a degree: the program's walk; lists of exponents in memory. Conditions: as each theorem states.. Conditions: as each theorem states.
  slices.All at a list of exponents: the places and the elements, in their order. Conditions: as each theorem states.
  WALKS: 'impl.countMonomials', 'impl.placesOf', 'impl.fillRow'. Conditions: as each theorem states.
  A drawn region inside a fence (in a round too): its still head in any order, then its tail. Conditions: as the theorem states.
  WALKS: 'impl.fillRow'. Conditions: as the theorem states.
-/
import Derived.Test.YtbhgbifliihlbaaR01
import Derived.Lib.Hide
import Derived.RangeFuncNested
import Derived.RangeFuncBound
import Derived.RangeFuncCalls
import Derived.RangeFuncLeaves
import Derived.Shelf.Abstract
import Derived.Shelf.RegionOpen
import Derived.OwnWalkIn
import Derived.TacticsInMore
import Derived.LoopNIn
import Derived.LoopIn
import Derived.Test.YtbhgbifliihlbaaR07
import Derived.Maps.OwnIn
import Derived.StillTail
import Derived.StillTailTactics
import Derived.StillTactics
import Derived.OrdersIn
namespace Go.Proofs.Ytbhgbifliihlbaa
open Go.RowKit Go.Sort

/-- The three cells of a monomial. -/
def cell3 (e : Int × Int × Int) : List Value := [.int .u8 e.1, .int .u8 e.2.1, .int .u8 e.2.2]
def cells3 (l : List (Int × Int × Int)) : List Value := l.flatMap cell3
theorem cells3_snoc (l : List (Int × Int × Int)) (e : Int × Int × Int) : cells3 (l ++ [e]) = cells3 l ++ cell3 e := by simp [cells3]
theorem cells3_length (l : List (Int × Int × Int)) : (cells3 l).length = 3 * l.length := by
  induction l with
  | nil => rfl
  | cons a l ih => simp only [cells3, List.flatMap_cons, List.length_append, List.length_cons] at ih ⊢; simp only [cell3, List.length_cons, List.length_nil]; omega

def pick (d x y z : Int) : List (Int × Int × Int) := if expsOk d x y z then [(x, y, z)] else []
def innerL (d : Int) (n s t : Nat) : List (Int × Int × Int) := (List.range t).flatMap fun (k : Nat) => pick d (n - s) (s - k) k
def outerL (d : Int) (n s : Nat) : List (Int × Int × Int) := (List.range s).flatMap fun k => innerL d n k (k + 1)
theorem innerL_zero (d : Int) (n s : Nat) : innerL d n s 0 = [] := rfl
theorem innerL_succ (d : Int) (n s t : Nat) : innerL d n s (t + 1) = innerL d n s t ++ pick d (n - s) (s - t) t := by simp [innerL, List.range_succ]
theorem outerL_succ (d : Int) (n s : Nat) : outerL d n (s + 1) = outerL d n s ++ innerL d n s (s + 1) := by simp [outerL, List.range_succ]
theorem pick_le (d x y z : Int) : (pick d x y z).length ≤ 1 := by unfold pick; split <;> simp
theorem innerL_le (d : Int) (n s t : Nat) : (innerL d n s t).length ≤ t := by
  induction t with
  | zero => simp [innerL_zero]
  | succ t ih => rw [innerL_succ, List.length_append]; have := pick_le d (n - s) (s - t) t; omega
theorem outerL_le (d : Int) (n s : Nat) : (outerL d n s).length ≤ s * s := by
  induction s with
  | zero => simp [outerL]
  | succ s ih => rw [outerL_succ, List.length_append]; have := innerL_le d n s (s + 1); simp only [Nat.mul_succ, Nat.succ_mul]; omega

theorem info52 : (Try.prog.info? 113).map (fun i => (i.zero, i.size, i.bytes)) = some (some (.agg #[.int .u8 0, .int .u8 0, .int .u8 0]), 3, 3) := by kernel_rfl

theorem owns_below {w w' : World} {base : Nat} {e : TypeId} {size : Nat} {v : Value} {n : Nat} {xs : List Value} (h : w.ownsRow base e size v n xs) (hb : Below w.heap.size w w') : w'.ownsRow base e size v n xs :=
  h.kept (row := none) ⟨hb.os, hb.tape, hb.output, hb.size, fun k hk _ => hb.block k hk⟩ (by cases v.ownBlock <;> simp)

/-- What a round that keeps the monomial does, away from the walk. -/
theorem round_keep {w wr w1 w2 : World} {o o' : Obj} {e : TypeId} {v v' : Value} {l : List (Int × Int × Int)} {x y z : Int} (hbel : Below w.heap.size w wr)
    (hown : wr.ownsRow w.heap.size e 3 v l.length (cells3 l)) (hb : Below (wr.alloc o).heap.size (wr.alloc o) w1)
    (hown2 : w2.ownsRow w.heap.size e 3 v' (l.length + 1) (cells3 l ++ [.int .u8 x, .int .u8 y, .int .u8 z])) (hg : (w1.alloc o').grownBy w2 v.ownBlock) :
    w2.ownsRow w.heap.size e 3 v' (l ++ [(x, y, z)]).length (cells3 (l ++ [(x, y, z)])) ∧ Below w.heap.size w w2 := by
  have hs := hbel.size
  have hs1 := hb.size
  simp only [World.size_alloc] at hs1
  refine ⟨by rw [cells3_snoc]; simpa [cell3] using hown2, ?_⟩
  exact ((((hbel.alloc hs _).trans (hb.mono (by simp; omega)))).alloc (by omega) _).grown hg (by simp; omega) (fun k hk => (hown.lt k hk).1)

theorem innerL_hit (d : Int) (n s t : Nat) (z : Int) (hz : z = t) (h : expsOk d (n - s) (s - t) z = true) : innerL d n s (t + 1) = innerL d n s t ++ [((n : Int) - s, (s : Int) - t, z)] := by
  subst hz; rw [innerL_succ]; simp [pick, h]
theorem innerL_miss (d : Int) (n s t : Nat) (z : Int) (hz : z = t) (h : expsOk d (n - s) (s - t) z = false) : innerL d n s (t + 1) = innerL d n s t := by
  subst hz; rw [innerL_succ]; simp [pick, h]
theorem round_skip {w wr w1 : World} {o : Obj} {e : TypeId} {v : Value} {l : List (Int × Int × Int)} (hbel : Below w.heap.size w wr)
    (hown : wr.ownsRow w.heap.size e 3 v l.length (cells3 l)) (hb : Below (wr.alloc o).heap.size (wr.alloc o) w1) :
    w1.ownsRow w.heap.size e 3 v l.length (cells3 l) ∧ Below w.heap.size w w1 := by
  have hs := hbel.size
  exact ⟨owns_below (hown.alloc _) hb, (hbel.alloc hs _).trans (hb.mono (by simp; omega))⟩

set_option maxRecDepth 8000 in
set_option maxHeartbeats 2000000 in
theorem specMonomials_any (d : Int) (n : Nat) (w : World) (hd : 1 ≤ d ∧ d ≤ 3) (hn : n ≤ 12) :
    Calls Try.prog 72 #[.int .i64 d, .int .i64 n] w fun e w' =>
      ∃ v, e = .returned v ∧ w'.ownsRow w.heap.size 113 3 v (outerL d n (n + 1)).length (cells3 (outerL d n (n + 1))) ∧ Below w.heap.size w w' := by
  obtain ⟨i0, hi, hz0, hz1, hz2⟩ := info_parts info52
  obtain ⟨hd1, hd2⟩ := hd
  go_enter Try.func72, Try.ntmps72
  go_wp2
  go_loopw [5, 6] (fun v i wr => ∃ s : Nat, s ≤ n + 1 ∧ i = .int .i64 (n - s) ∧ wr.ownsRow w.heap.size 113 3 v (outerL d n s).length (cells3 (outerL d n s)) ∧ Below w.heap.size w wr)
    (fun _ i _ => (intOf i + 1).toNat)
  case atStart => exact ⟨0, by omega, by simp, World.ownsRow_made w #[] 0 (Nat.le_refl _) (by simp [maxLen]) rfl, box1 _ _⟩
  case round =>
    obtain ⟨s, hs, rfl, hown, hbel⟩ := hrel
    by_cases hlt : s < n + 1
    · have hle : s ≤ n := by omega
      go_wp2
      obtain ⟨wo, rfl⟩ : ∃ wo : World, wo = wr := ⟨_, rfl⟩
      go_loopw [5, 7] (fun v i wr => ∃ t : Nat, t ≤ s + 1 ∧ i = .int .i64 (s - t) ∧ wr.ownsRow w.heap.size 113 3 v (outerL d n s ++ innerL d n s t).length (cells3 (outerL d n s ++ innerL d n s t)) ∧ Below w.heap.size w wr)
        (fun _ i _ => (intOf i + 1).toNat)
      case atStart => exact ⟨0, by omega, by simp; omega, by simpa [innerL_zero] using hown, hbel⟩
      case round =>
        obtain ⟨t, ht, rfl, hown1, hbel1⟩ := hrel
        by_cases hlt2 : t < s + 1
        · have hle2 : t ≤ s := by omega
          go_wp2_with fail
          have b1 : 0 ≤ (n : Int) - s ∧ (n : Int) - s ≤ 255 := by omega
          have b2 : 0 ≤ (s : Int) - t ∧ (s : Int) - t ≤ 255 := by omega
          have b3 : 0 ≤ (n : Int) - (n - s) - (s - t) ∧ (n : Int) - (n - s) - (s - t) ≤ 255 := by omega
          ((with_reducible refine (exps_any _ _ _ _ _ ⟨hd1, hd2⟩ b1 b2 b3).mono ?_); rintro e w1 ⟨rfl, hb⟩)
          have hlen := outerL_le d n s
          have hlen2 := innerL_le d n s t
          have hlen3 : s * s ≤ 13 * 13 := Nat.mul_le_mul (by omega) (by omega)
          have hsum : ((n : Int) - (↑n - ↑s) - (↑s - ↑t)) = t := by omega
          generalize hE : expsOk d (↑n - ↑s) (↑s - ↑t) (↑n - (↑n - ↑s) - (↑s - ↑t)) = E
          have HE := Lib.hid hE
          have HS := Lib.hid hsum
          clear hE hsum
          cases E
          · go_wp2
            go_roundw
            case rel => exact ⟨t + 1, by omega, by go_num, by rw [innerL_miss d n s t _ HS.out HE.out]; exact (round_skip hbel1 hown1 hb).1, (round_skip hbel1 hown1 hb).2⟩
            case measure => simp [intOf]; omega
          · have c0 : w1.cell? ⟨wr.heap.size, 0, none⟩ = some (.int .u8 (↑n - ↑s)) := (hb.cell (by simp)).trans (by simp [World.cell?_alloc_at])
            have c1 : w1.cell? ⟨wr.heap.size, 1, none⟩ = some (.int .u8 (↑s - ↑t)) := (hb.cell (by simp)).trans (by simp [World.cell?_alloc_at])
            have c2 : w1.cell? ⟨wr.heap.size, 2, none⟩ = some (.int .u8 (↑n - (↑n - ↑s) - (↑s - ↑t))) := (hb.cell (by simp)).trans (by simp [World.cell?_alloc_at])
            go_wp2_with (at_builtin; refine wpList_append_own _ rfl _ _ 90 rfl w.heap.size 113 i0 _ 3 3 Try.underlying90 hi hz0 hz1 hz2 rfl (by decide) _ _ _ rfl ((owns_below (hown1.alloc _) hb).alloc _) ⟨w1.heap.size, 0, none⟩ 1 1 [.int .u8 (↑n - ↑s), .int .u8 (↑s - ↑t), .int .u8 (↑n - (↑n - ↑s) - (↑s - ↑t))] rfl rfl ?c1 ?c2 ?c3 ?c4 ?c5 ?_)
            case c1 =>
              intro j u hj
              match j, hj with
              | 0, hj => simp at hj; subst hj; simp [World.cell?_alloc_at, Addr.add]
              | 1, hj => simp at hj; subst hj; simp [World.cell?_alloc_at, Addr.add]
              | 2, hj => simp at hj; subst hj; simp [World.cell?_alloc_at, Addr.add]
            case c2 => intro u hu; simp at hu; rcases hu with rfl | rfl | rfl <;> rfl
            case c3 => simp only [List.length_append]; unfold maxLen; omega
            case c4 => simp only [List.length_append]; omega
            case c5 => have := hbel1.size; have h2 := hb.size; simp only [World.size_alloc] at h2 ⊢; omega
            intro v' w2 hown2 hgrow _
            have R := round_keep hbel1 hown1 hb (by simpa using hown2) hgrow
            clear hown2 hgrow hown1
            go_wp2
            go_roundw
            case rel => exact ⟨t + 1, by omega, by go_num, by rw [innerL_hit d n s t _ HS.out HE.out, ← List.append_assoc]; exact R.1, R.2⟩
            case measure => simp [intOf]; omega
        · obtain rfl : t = s + 1 := by omega
          rw [← outerL_succ] at hown1
          go_wp2
          go_roundw
          case rel => exact ⟨s + 1, by omega, by go_num, hown1, hbel1⟩
          case measure => simp [intOf]; omega
    · obtain rfl : s = n + 1 := by omega
      go_wp2
      go_ret
      exact ⟨_, rfl, hown, hbel⟩

/-- Whether there is such a list; the list; the code. -/
def monB (d n : Int) : Bool := (decide (1 ≤ d) && decide (d ≤ 3)) && (decide (0 ≤ n) && decide (n ≤ 12))
def monL (d n : Int) : List (Int × Int × Int) := if monB d n then outerL d n.toNat (n.toNat + 1) else []
def monC (d n : Int) : Int := if monB d n then 0 else 2
theorem monL_le (d n : Int) : (monL d n).length ≤ 169 := by
  unfold monL
  split
  · rename_i h
    simp [monB] at h
    have h1 := outerL_le d n.toNat (n.toNat + 1)
    have h2 : (n.toNat + 1) * (n.toNat + 1) ≤ 13 * 13 := Nat.mul_le_mul (by omega) (by omega)
    omega
  · simp

theorem in_yes (n a b : Int) (w : World) (h1 : a ≤ n) (h2 : n ≤ b) : Calls Try.prog 41 #[.int .i64 n, .int .i64 a, .int .i64 b] w fun e w' => e = .returned (.bool true) ∧ w = w' :=
  (in_any n a b w).mono fun _ _ ⟨he, hw⟩ => ⟨by rw [he]; simp [h1, h2], hw⟩
theorem in_no (n a b : Int) (w : World) (h : n < a ∨ b < n) : Calls Try.prog 41 #[.int .i64 n, .int .i64 a, .int .i64 b] w fun e w' => e = .returned (.bool false) ∧ w = w' :=
  (in_any n a b w).mono fun _ _ ⟨he, hw⟩ => ⟨by rw [he]; congr 2; simp; omega, hw⟩

/-- What both functions promise. -/
def MonPost (d n : Int) (w : World) (e : Ending) (w' : World) : Prop :=
  ∃ v, e = .returned (.tuple #[v, .int .i64 (monC d n)]) ∧ w'.ownsRow w.heap.size 113 3 v (monL d n).length (cells3 (monL d n)) ∧ Below w.heap.size w w'

theorem vars_any (d : Int) (w : World) : Calls Try.prog 74 #[.int .i64 d] w fun e w' => e = .returned (.bool (decide (1 ≤ d) && decide (d ≤ 3))) ∧ w = w' := by
  by_cases h : 1 ≤ d
  all_goals
    go_enter Try.func74, Try.ntmps74
    go_wp2
    go_ret
    exact ⟨by simp; omega, rfl⟩
theorem degree_any (n : Int) (w : World) : Calls Try.prog 69 #[.int .i64 n] w fun e w' => e = .returned (.bool (decide (0 ≤ n) && decide (n ≤ 12))) ∧ w = w' := by
  by_cases h : 0 ≤ n
  all_goals
    go_enter Try.func69, Try.ntmps69
    go_wp2
    go_ret
    exact ⟨by simp; omega, rfl⟩
end Go.Proofs.Ytbhgbifliihlbaa
namespace Go.Proofs.Ytbhgbifliihlbaa
open Go.RowKit Go.Sort

theorem vars_yes (d : Int) (w : World) (h1 : 1 ≤ d) (h2 : d ≤ 3) : Calls Try.prog 74 #[.int .i64 d] w fun e w' => e = .returned (.bool true) ∧ w = w' :=
  (vars_any d w).mono fun _ _ ⟨he, hw⟩ => ⟨by rw [he]; simp [h1, h2], hw⟩
theorem vars_no (d : Int) (w : World) (h : d < 1 ∨ 3 < d) : Calls Try.prog 74 #[.int .i64 d] w fun e w' => e = .returned (.bool false) ∧ w = w' :=
  (vars_any d w).mono fun _ _ ⟨he, hw⟩ => ⟨by rw [he]; congr 2; simp; omega, hw⟩
theorem degree_yes (n : Int) (w : World) (h1 : 0 ≤ n) (h2 : n ≤ 12) : Calls Try.prog 69 #[.int .i64 n] w fun e w' => e = .returned (.bool true) ∧ w = w' :=
  (degree_any n w).mono fun _ _ ⟨he, hw⟩ => ⟨by rw [he]; simp [h1, h2], hw⟩
theorem degree_no (n : Int) (w : World) (h : n < 0 ∨ 12 < n) : Calls Try.prog 69 #[.int .i64 n] w fun e w' => e = .returned (.bool false) ∧ w = w' :=
  (degree_any n w).mono fun _ _ ⟨he, hw⟩ => ⟨by rw [he]; congr 2; simp; omega, hw⟩

set_option maxRecDepth 8000 in
set_option maxHeartbeats 2000000 in
theorem implMon_in (d : Int) (n : Nat) (w : World) (hd1 : 1 ≤ d) (hd2 : d ≤ 3) (hn : n ≤ 12) (HB : Hid (monB d n = true)) : Calls Try.prog 112 #[.int .i64 d, .int .i64 n] w (MonPost d n w) := by
  obtain ⟨i0, hi, hz0, hz1, hz2⟩ := info_parts info52
  have hn0 : (0 : Int) ≤ n := by omega
  have hn12 : (n : Int) ≤ 12 := by omega
  go_enter Try.func112, Try.ntmps112
  go_wp2_with fail
  ((with_reducible refine (vars_yes _ _ hd1 hd2).mono ?_); rintro e w1 ⟨rfl, rfl⟩)
  go_wp2_with fail
  ((with_reducible refine (degree_yes _ _ hn0 hn12).mono ?_); rintro e w1 ⟨rfl, rfl⟩)
  go_wp2
  go_loopw [6, 7] (fun v i wr => ∃ s : Nat, s ≤ n + 1 ∧ i = .int .i64 (n - s) ∧ wr.ownsRow w.heap.size 113 3 v (outerL d n s).length (cells3 (outerL d n s)) ∧ Below w.heap.size w wr)
    (fun _ i _ => (intOf i + 1).toNat)
  case atStart => exact ⟨0, by omega, by simp, World.ownsRow_nil _ _ _ _, Below.refl _ _⟩
  case round =>
    obtain ⟨s, hs, rfl, hown, hbel⟩ := hrel
    by_cases hlt : s < n + 1
    · have hle : s ≤ n := by omega
      go_wp2
      obtain ⟨wo, rfl⟩ : ∃ wo : World, wo = wr := ⟨_, rfl⟩
      go_loopw [6, 8] (fun v i wr => ∃ t : Nat, t ≤ s + 1 ∧ i = .int .i64 (s - t) ∧ wr.ownsRow w.heap.size 113 3 v (outerL d n s ++ innerL d n s t).length (cells3 (outerL d n s ++ innerL d n s t)) ∧ Below w.heap.size w wr)
        (fun _ i _ => (intOf i + 1).toNat)
      case atStart => exact ⟨0, by omega, by simp; omega, by simpa [innerL_zero] using hown, hbel⟩
      case round =>
        obtain ⟨t, ht, rfl, hown1, hbel1⟩ := hrel
        by_cases hlt2 : t < s + 1
        · have hle2 : t ≤ s := by omega
          go_wp2_with fail
          have b1 : 0 ≤ (n : Int) - s ∧ (n : Int) - s ≤ 255 := by omega
          have b2 : 0 ≤ (s : Int) - t ∧ (s : Int) - t ≤ 255 := by omega
          have b3 : 0 ≤ (n : Int) - (n - s) - (s - t) ∧ (n : Int) - (n - s) - (s - t) ≤ 255 := by omega
          ((with_reducible refine (monomial_any _ _ _ _ _ ⟨hd1, hd2⟩ b1 b2 b3).mono ?_); rintro e w1 ⟨rfl, hb⟩)
          have hlen := outerL_le d n s
          have hlen2 := innerL_le d n s t
          have hlen3 : s * s ≤ 13 * 13 := Nat.mul_le_mul (by omega) (by omega)
          have hsum : ((n : Int) - (↑n - ↑s) - (↑s - ↑t)) = t := by omega
          generalize hE : expsOk d (↑n - ↑s) (↑s - ↑t) (↑n - (↑n - ↑s) - (↑s - ↑t)) = E
          have HE := Lib.hid hE
          have HS := Lib.hid hsum
          clear hE hsum
          cases E
          · go_wp2
            go_roundw
            case rel => exact ⟨t + 1, by omega, by go_num, by rw [innerL_miss d n s t _ HS.out HE.out]; exact (round_skip hbel1 hown1 hb).1, (round_skip hbel1 hown1 hb).2⟩
            case measure => simp [intOf]; omega
          · have c0 : w1.cell? ⟨wr.heap.size, 0, none⟩ = some (.int .u8 (↑n - ↑s)) := (hb.cell (by simp)).trans (by simp [World.cell?_alloc_at])
            have c1 : w1.cell? ⟨wr.heap.size, 1, none⟩ = some (.int .u8 (↑s - ↑t)) := (hb.cell (by simp)).trans (by simp [World.cell?_alloc_at])
            have c2 : w1.cell? ⟨wr.heap.size, 2, none⟩ = some (.int .u8 (↑n - (↑n - ↑s) - (↑s - ↑t))) := (hb.cell (by simp)).trans (by simp [World.cell?_alloc_at])
            go_wp2_with (at_builtin; refine wpList_append_own _ rfl _ _ 90 rfl w.heap.size 113 i0 _ 3 3 Try.underlying90 hi hz0 hz1 hz2 rfl (by decide) _ _ _ rfl ((owns_below (hown1.alloc _) hb).alloc _) ⟨w1.heap.size, 0, none⟩ 1 1 [.int .u8 (↑n - ↑s), .int .u8 (↑s - ↑t), .int .u8 (↑n - (↑n - ↑s) - (↑s - ↑t))] rfl rfl ?c1 ?c2 ?c3 ?c4 ?c5 ?_)
            case c1 =>
              intro j u hj
              match j, hj with
              | 0, hj => simp at hj; subst hj; simp [World.cell?_alloc_at, Addr.add]
              | 1, hj => simp at hj; subst hj; simp [World.cell?_alloc_at, Addr.add]
              | 2, hj => simp at hj; subst hj; simp [World.cell?_alloc_at, Addr.add]
            case c2 => intro u hu; simp at hu; rcases hu with rfl | rfl | rfl <;> rfl
            case c3 => simp only [List.length_append]; unfold maxLen; omega
            case c4 => simp only [List.length_append]; omega
            case c5 => have := hbel1.size; have h2 := hb.size; simp only [World.size_alloc] at h2 ⊢; omega
            intro v' w2 hown2 hgrow _
            have R := round_keep hbel1 hown1 hb (by simpa using hown2) hgrow
            clear hown2 hgrow hown1
            go_wp2
            go_roundw
            case rel => exact ⟨t + 1, by omega, by go_num, by rw [innerL_hit d n s t _ HS.out HE.out, ← List.append_assoc]; exact R.1, R.2⟩
            case measure => simp [intOf]; omega
        · obtain rfl : t = s + 1 := by omega
          rw [← outerL_succ] at hown1
          go_wp2
          go_roundw
          case rel => exact ⟨s + 1, by omega, by go_num, hown1, hbel1⟩
          case measure => simp [intOf]; omega
    · obtain rfl : s = n + 1 := by omega
      go_wp2
      go_ret2
      have hm : monL d n = outerL d n (n + 1) := by simp [monL, HB.out]
      rw [← hm] at hown
      exact ⟨_, by simp [monC, HB.out], hown, hbel⟩

set_option maxRecDepth 8000 in
set_option maxHeartbeats 1000000 in
theorem implMon (d n : Int) (w : World) : Calls Try.prog 112 #[.int .i64 d, .int .i64 n] w (MonPost d n w) := by
  by_cases h1 : 1 ≤ d ∧ d ≤ 3
  · obtain ⟨h1a, h1b⟩ := h1
    by_cases h2 : 0 ≤ n ∧ n ≤ 12
    · obtain ⟨h2a, h2b⟩ := h2
      obtain ⟨m, rfl⟩ := Int.eq_ofNat_of_zero_le h2a
      exact implMon_in d m w h1a h1b (by omega) (Lib.hid (by simp [monB]; omega))
    · have h2' : n < 0 ∨ 12 < n := by omega
      have HB : Hid (monB d n = false) := Lib.hid (by simp [monB]; omega)
      clear h2
      go_enter Try.func112, Try.ntmps112
      go_wp2_with fail
      ((with_reducible refine (vars_yes _ _ h1a h1b).mono ?_); rintro e w1 ⟨rfl, rfl⟩)
      go_wp2_with fail
      ((with_reducible refine (degree_no _ _ h2').mono ?_); rintro e w1 ⟨rfl, rfl⟩)
      go_wp2
      go_ret2
      exact ⟨_, by simp [monC, HB.out]; rfl, by simpa [monL, HB.out, cells3] using World.ownsRow_nil _ _ _ _, Below.refl _ _⟩
  · have h1' : d < 1 ∨ 3 < d := by omega
    have HB : Hid (monB d n = false) := Lib.hid (by simp [monB]; omega)
    clear h1
    go_enter Try.func112, Try.ntmps112
    go_wp2_with fail
    ((with_reducible refine (vars_no _ _ h1').mono ?_); rintro e w1 ⟨rfl, rfl⟩)
    go_wp2
    go_ret2
    exact ⟨_, by simp [monC, HB.out]; rfl, by simpa [monL, HB.out, cells3] using World.ownsRow_nil _ _ _ _, Below.refl _ _⟩

/-- A list of exponents that lies in memory. -/
def LaysE (w : World) (v : Value) (l : List (Int × Int × Int)) : Prop :=
  (v = .slice none 0 0 ∧ l = []) ∨ ∃ g cap, v = .slice (some ⟨g, 0, none⟩) l.length cap ∧ g < w.heap.size ∧ ∀ j u, (cells3 l)[j]? = some u → w.cell? ⟨g, j, none⟩ = some u
theorem LaysE.of_owns {w : World} {base : Nat} {e : TypeId} {v : Value} {l : List (Int × Int × Int)} (h : w.ownsRow base e 3 v l.length (cells3 l)) : LaysE w v l := by
  have hc := @World.ownsRow.cells _ _ _ _ _ _ _ h
  have hl := h.lt
  obtain ⟨_, ⟨hv, hn⟩ | ⟨g, cap, cur, hv, _⟩⟩ := h
  · exact .inl ⟨hv, List.eq_nil_of_length_eq_zero hn⟩
  · subst hv
    refine .inr ⟨g, cap, rfl, (hl g rfl).2, fun j u hj => ?_⟩
    have := hc rfl j u hj
    rw [Addr.add_lit] at this
    simpa using this
theorem LaysE.below {w w' : World} {v : Value} {l : List (Int × Int × Int)} (h : LaysE w v l) (hb : Below w.heap.size w w') : LaysE w' v l := by
  rcases h with h | ⟨g, cap, hv, hg, hc⟩
  · exact .inl h
  · exact .inr ⟨g, cap, hv, Nat.lt_of_lt_of_le hg hb.size, fun j u hj => (hb.cell (p := ⟨g, j, none⟩) hg).trans (hc j u hj)⟩

theorem cells3_at (l : List (Int × Int × Int)) : ∀ (k : Nat) (h : k < l.length), (cells3 l)[k * 3]? = some (.int .u8 l[k].1) ∧ (cells3 l)[k * 3 + 1]? = some (.int .u8 l[k].2.1) ∧ (cells3 l)[k * 3 + 2]? = some (.int .u8 l[k].2.2) := by
  induction l with
  | nil => intro k h; simp at h
  | cons a l ih =>
    intro k h
    cases k with
    | zero => exact ⟨rfl, rfl, rfl⟩
    | succ k =>
      have := ih k (by simpa using h)
      have e : cells3 (a :: l) = cell3 a ++ cells3 l := by simp [cells3]
      have hl : (cell3 a).length = 3 := rfl
      rw [e]
      refine ⟨?_, ?_, ?_⟩
      · rw [List.getElem?_append_right (by omega), show (k + 1) * 3 - (cell3 a).length = k * 3 from by omega]; exact this.1
      · rw [List.getElem?_append_right (by omega), show (k + 1) * 3 + 1 - (cell3 a).length = k * 3 + 1 from by omega]; exact this.2.1
      · rw [List.getElem?_append_right (by omega), show (k + 1) * 3 + 2 - (cell3 a).length = k * 3 + 2 from by omega]; exact this.2.2
end Go.Proofs.Ytbhgbifliihlbaa
namespace Go.Proofs.Ytbhgbifliihlbaa
open Go.RowKit Go.Sort Go.Shelf

attribute [local go_sem] Oper.semAt_some

abbrev EX3 := Int × Int × Int
/-- Blocks between two marks are as they were. -/
structure KpI (lo hi : Nat) (w w' : World) : Prop where
  size : w.heap.size ≤ w'.heap.size
  block : ∀ b, lo ≤ b → b < hi → w'.heap[b]? = w.heap[b]?
theorem KpI.refl (lo hi : Nat) (w : World) : KpI lo hi w w := ⟨Nat.le_refl _, fun _ _ _ => rfl⟩
theorem KpI.trans {lo hi : Nat} {A B C : World} (h : KpI lo hi A B) (k : KpI lo hi B C) : KpI lo hi A C := ⟨Nat.le_trans h.size k.size, fun b h1 h2 => (k.block b h1 h2).trans (h.block b h1 h2)⟩
theorem KpI.of_below {lo hi : Nat} {A B : World} (h : Below hi A B) : KpI lo hi A B := ⟨h.size, fun b _ h2 => h.block b h2⟩
theorem KpI.putObj {lo hi : Nat} {w : World} (hn : hi ≤ w.heap.size) (W : World) (l : Nat) (o o' : Obj) (hl : w.heap.size ≤ l) (h : W.heap[l]? = some o) (h1 : o.isCells = false) (h2 : o.isWalk = false) : KpI lo hi W (W.putObj l o') :=
  KpI.of_below (belowK_b hn W l o o' hl h h1 h2)
theorem KpI.of_grown {lo hi : Nat} {A B : World} {row : Option Nat} (h : A.grownBy B row) (hh : hi ≤ A.heap.size) (hr : ∀ g, row = some g → g < lo) : KpI lo hi A B := ⟨h.size, fun b h1 h2 => h.block b (by omega) (fun e => by have := hr b e.symm; omega)⟩
/-- A slice that reads as a list of exponents, in a block between two marks. -/
def ExW (w : World) (b off : Nat) (l : List EX3) : Prop := ∀ (k : Nat) (h : k < l.length), w.cell? ⟨b, off + k * 3, none⟩ = some (.int .u8 l[k].1) ∧ w.cell? ⟨b, off + k * 3 + 1, none⟩ = some (.int .u8 l[k].2.1) ∧ w.cell? ⟨b, off + k * 3 + 2, none⟩ = some (.int .u8 l[k].2.2)
def SlEI (lo hi : Nat) (w : World) (v : Value) (l : List EX3) : Prop :=
  ∃ a cap, v = .slice a l.length cap ∧ (l = [] ∨ ∃ b off, a = some ⟨b, off, none⟩ ∧ (lo ≤ b ∧ b < hi) ∧ ExW w b off l)
theorem ExW.kept {w w' : World} {b off lo hi : Nat} {l : List EX3} (h : ExW w b off l) (hb : KpI lo hi w w') (h1 : lo ≤ b) (h2 : b < hi) : ExW w' b off l := fun k hk => by
  obtain ⟨c0, c1, c2⟩ := h k hk
  have q : ∀ o, w'.cell? ⟨b, o, none⟩ = w.cell? ⟨b, o, none⟩ := fun o => World.cell?_of_block (a := ⟨b, o, none⟩) (hb.block b h1 h2)
  exact ⟨(q _).trans c0, (q _).trans c1, (q _).trans c2⟩
theorem SlEI.kept {lo hi : Nat} {w w' : World} {v : Value} {l : List EX3} (h : SlEI lo hi w v l) (hb : KpI lo hi w w') : SlEI lo hi w' v l := by
  obtain ⟨a, cap, hv, h | ⟨b, off, ha, ⟨h1, h2⟩, hT⟩⟩ := h
  · exact ⟨a, cap, hv, .inl h⟩
  · exact ⟨a, cap, hv, .inr ⟨b, off, ha, ⟨h1, h2⟩, hT.kept hb h1 h2⟩⟩
theorem SlEI.mono {lo hi lo' hi' : Nat} {w : World} {v : Value} {l : List EX3} (h : SlEI lo hi w v l) (h1 : lo' ≤ lo) (h2 : hi ≤ hi') : SlEI lo' hi' w v l := by
  obtain ⟨a, cap, hv, h | ⟨b, off, ha, ⟨h3, h4⟩, hT⟩⟩ := h
  · exact ⟨a, cap, hv, .inl h⟩
  · exact ⟨a, cap, hv, .inr ⟨b, off, ha, ⟨by omega, by omega⟩, hT⟩⟩
theorem slE_of {w : World} {base : Nat} {v : Value} {l : List EX3} (h : w.ownsRow base 113 3 v l.length (cells3 l)) : SlEI base w.heap.size w v l := by
  have hlt := h.lt
  rcases LaysE.of_owns h with ⟨rfl, rfl⟩ | ⟨g, cap, rfl, hg, hc⟩
  · exact ⟨none, 0, rfl, .inl rfl⟩
  · refine ⟨_, cap, rfl, .inr ⟨g, 0, rfl, ⟨(hlt g rfl).1, hg⟩, fun k hk => ?_⟩⟩
    obtain ⟨h0, h1, h2⟩ := cells3_at l k hk
    rw [Nat.zero_add]
    exact ⟨hc _ _ h0, hc _ _ h1, hc _ _ h2⟩
/-- What a round is handed. -/
abbrev encE (l : List EX3) (x : Fin l.length) : Array Value := #[.int .i64 (x.1 : Int), .agg #[.int .u8 (l[x.1]'x.2).1, .int .u8 (l[x.1]'x.2).2.1, .int .u8 (l[x.1]'x.2).2.2]]

set_option maxRecDepth 100000 in
set_option maxHeartbeats 2000000 in
/-- The closure of slices.All, for every body of a loop that keeps what lay below n₀. -/
theorem gall1 (F : Fence) (n : Nat) (h7 : F.fn 138) (hro : F.round = none) (hn : 1 ≤ n) (l Bs m₀ n₀ B0 : Nat) (sv : Value) (L : List EX3) (hl : L.length ≤ 1048576) (J Jx : List (Fin L.length) → World → Prop) (hJ : AbidesFrom B0 J)
    (hY : ∀ pre (x : Fin L.length) W, J pre W → pre.length < L.length → YieldAt F (n - 1) Try.prog l (encE L x) W fun e W' =>
      (e = .returned (.bool true) ∧ J (pre ++ [x]) W' ∧ KpI m₀ n₀ W W') ∨ (e = .returned (.bool false) ∧ Jx (pre ++ [x]) W'))
    (W : World) (hn₀ : n₀ ≤ W.heap.size) (hBs : W.cell? ⟨Bs, 0, none⟩ = some sv) (hS : SlEI m₀ n₀ W sv L) (h0 : J [] W) :
    CallsIn F n Try.prog 138 #[.func (.yield l) #[] #[], .pointer (some ⟨Bs, 0, none⟩)] W fun e W' => (∃ v, e = .returned v) ∧
      ((∃ ys, ys = List.finRange L.length ∧ J ys W') ∨ (∃ pre, pre <+: List.finRange L.length ∧ Jx pre W')) := by
  obtain ⟨a, cap, rfl, hSc⟩ := hS
  refine callsIn_of_wp Try.func138 rfl h7 ?_ hro
  simp only [Try.ntmps138, List.size_toArray, List.length_cons, List.length_nil, Nat.reduceAdd, Nat.reduceSub, Array.replicate_succ, Array.replicate_zero, List.push_toArray, List.append_toArray, List.nil_append, List.cons_append]
  gi_wp2
  gi_loopw [7] (fun i wr => ∃ k : Nat, k ≤ L.length ∧ i = .int .i64 k ∧ J ((List.finRange L.length).take k) wr ∧ KpI m₀ n₀ W wr)
    (fun i _ => L.length - (intOf i).toNat)
  case atStart => exact ⟨0, Nat.zero_le _, rfl, by simpa using h0, KpI.refl _ _ _⟩
  case round =>
    obtain ⟨k, hk, rfl, hJs, hnx⟩ := hrel
    by_cases hlt : k < L.length
    · have hlt' : (k : Int) < (L.length : Int) := by omega
      obtain ⟨b, off, rfl, hbb, hT⟩ : ∃ b off, a = some ⟨b, off, none⟩ ∧ (m₀ ≤ b ∧ b < n₀) ∧ ExW W b off L := by
        rcases hSc with rfl | h
        · simp at hlt
        · exact h
      obtain ⟨a0, a1, a2⟩ := (hT.kept hnx hbb.1 hbb.2) k hlt
      have hlf : k < (List.finRange L.length).length := by simpa using hlt
      have htk : ((List.finRange L.length).take k).length < L.length := by simp; omega
      have HS : Hid ((List.finRange L.length).take (k + 1) = (List.finRange L.length).take k ++ [⟨k, hlt⟩]) := Lib.hid (by
        rw [List.take_succ_eq_append_getElem hlf]; simp)
      have HP : Hid ((List.finRange L.length).take (k + 1) <+: List.finRange L.length) := Lib.hid (List.take_prefix _ _)
      have hsz : n₀ ≤ wr.heap.size := Nat.le_trans hn₀ hnx.size
      obtain ⟨ex, hex⟩ : ∃ e, L[k].1 = e := ⟨_, rfl⟩
      obtain ⟨ey, hey⟩ : ∃ e, L[k].2.1 = e := ⟨_, rfl⟩
      obtain ⟨ez, hez⟩ : ∃ e, L[k].2.2 = e := ⟨_, rfl⟩
      have hJ1 : J ((List.finRange L.length).take k) (wr.alloc (.cells #[.int .u8 ex, .int .u8 ey, .int .u8 ez] 113)) := hJ _ _ _ none hJs (World.grownBy_alloc wr _ none) (fun r e => by cases e)
      have hyy := hY _ ⟨k, hlt⟩ _ hJ1 htk
      unfold encE at hyy
      simp only [hex, hey, hez] at hyy
      rw [hex] at a0
      rw [hey] at a1
      rw [hez] at a2
      obtain ⟨fn, tmps, assign, body, hy, hR⟩ := hyy
      have hb1 : KpI m₀ n₀ wr (wr.alloc (.cells #[.int .u8 ex, .int .u8 ey, .int .u8 ez] 113)) := KpI.of_below ((Below.refl n₀ wr).alloc hsz _)
      clear hJ1 hex hey hez
      gi_wp2
      refine hR.mono ?_
      rintro e W3 (⟨rfl, hJ3, hk3⟩ | ⟨rfl, hJx3⟩)
      · gi_wp2
        go_roundw
        case rel => exact ⟨k + 1, by omega, by simp, by rw [HS.out]; exact hJ3, hnx.trans (hb1.trans hk3)⟩
        case measure => simp [intOf]; omega
      · gi_wp2
        refine bodyPost_ret (results_none rfl _ _ _) rfl ?_
        exact ⟨⟨_, rfl⟩, .inr ⟨_, by rw [← HS.out]; exact HP.out, hJx3⟩⟩
    · obtain rfl : k = L.length := by omega
      gi_wp2
      go_end0
      exact ⟨⟨_, rfl⟩, .inl ⟨_, rfl, by
        have e : (List.finRange L.length).take L.length = List.finRange L.length := List.take_of_length_le (by simp)
        rwa [e] at hJs⟩⟩

/-- slices.All(s): the slice value is boxed; the function value captures the box. -/
theorem gall (a : Option Addr) (len cap : Nat) (w : World) :
    Calls Try.prog 132 #[.slice a len cap] w fun e w' => e = .returned (.func (.func 138) #[] #[.pointer (some ⟨w.heap.size, 0, none⟩)]) ∧ w' = w.alloc (.cells #[.slice a len cap] 90) := by
  have hmf : ∀ (fn : Fn) (first cap : Array Value) (w : World), (Instr.makeFunc fn first cap).run Try.prog w = .ok (.func fn first cap) w := fun _ _ _ _ => rfl
  go_enter Try.func132, Try.ntmps132
  go_wp2
  go_ret
  exact ⟨rfl, rfl⟩

theorem gall_stops (F : Fence) (n : Nat) (h7 : F.fn 138) (hro : F.round = none) (hn : 1 ≤ n) (Bs m₀ n₀ : Nat) (sv : Value) (L : List EX3) (hl : L.length ≤ 1048576) (w : World) (hBs : Bs < w.heap.size) (hn₀ : n₀ ≤ w.heap.size)
    (hc : w.cell? ⟨Bs, 0, none⟩ = some sv) (hS : SlEI m₀ n₀ w sv L) :
    SeqStopsK F n Try.prog 138 #[.pointer (some ⟨Bs, 0, none⟩)] (encE L) (KpI m₀ n₀) (fun ys => ys = List.finRange L.length) (fun pre => pre <+: List.finRange L.length) L.length w := fun l J Jx W hW hJ _ hY h0 =>
  gall1 F n h7 hro hn l Bs m₀ n₀ W.heap.size sv L hl J Jx hJ hY W (Nat.le_trans hn₀ hW.size) ((hW.cell (p := ⟨Bs, 0, none⟩) hBs).trans hc) (hS.kept (KpI.of_below (hW.mono hn₀))) h0
end Go.Proofs.Ytbhgbifliihlbaa
namespace Go.Proofs.Ytbhgbifliihlbaa
open Go.RowKit Go.Sort Go.Maps Go.Shelf

attribute [local go_sem] Oper.semAt_some

set_option maxHeartbeats 1000000 in
theorem icount (d n : Int) (w : World) : Calls Try.prog 70 #[.int .i64 d, .int .i64 n] w fun e w' => e = .returned (.int .i64 ((monL d n).length : Int)) ∧ Below w.heap.size w w' := by
  go_enter Try.func70, Try.ntmps70
  go_wp2_with fail
  ((with_reducible refine (implMon d n w).mono ?_); rintro e w1 ⟨v, rfl, hO, hb1⟩)
  obtain ⟨a, cap, rfl, _⟩ := slE_of hO
  clear hO
  go_wp2_with fail
  go_ret
  exact ⟨rfl, hb1⟩

abbrev allF (Bs : Nat) : Value := .func (.func 138) #[] #[.pointer (some ⟨Bs, 0, none⟩)]
set_option maxHeartbeats 1000000 in
theorem iplaces (d n : Int) (w : World) : Calls Try.prog 114 #[.int .i64 d, .int .i64 n] w fun e w' => ∃ Bs sv, e = .returned (allF Bs) ∧ (w.heap.size ≤ Bs ∧ Bs < w'.heap.size) ∧ w'.cell? ⟨Bs, 0, none⟩ = some sv ∧ SlEI w.heap.size w'.heap.size w' sv (monL d n) ∧ Below w.heap.size w w' := by
  go_enter Try.func114, Try.ntmps114
  go_wp2_with fail
  ((with_reducible refine (implMon d n w).mono ?_); rintro e w1 ⟨v, rfl, hO, hb1⟩)
  have hS := slE_of hO
  obtain ⟨a, cap, rfl, _⟩ := id hS
  have hs := hb1.size
  clear hO
  go_wp2_with fail
  ((with_reducible refine (gall a (monL d n).length cap w1).mono ?_); rintro e w2 ⟨rfl, rfl⟩)
  have hb2 : Below w1.heap.size w1 (w1.alloc (.cells #[.slice a (monL d n).length cap] 90)) := box1 _ _
  go_wp2_with fail
  go_ret
  refine ⟨w1.heap.size, .slice a (monL d n).length cap, rfl, ⟨hs, by simp⟩, ?_, (hS.kept (KpI.of_below hb2)).mono (Nat.le_refl _) (by simp), hb1.trans (hb2.mono hs)⟩
  exact (World.rowIs_alloc w1 #[.slice a (monL d n).length cap] 90 (fun _ => .slice a (monL d n).length cap) (fun i hi => by simp at hi; subst hi; rfl)).cell (i := 0) (by simp)
end Go.Proofs.Ytbhgbifliihlbaa
namespace Go.Proofs.Ytbhgbifliihlbaa
open Go

def noDefer (ops : Array Oper) : Bool := ops.all fun o => match o.op with | .defer _ => false | _ => true

section
variable {F : Fence} {nF : Nat} {P : Program} {ops : Array Oper} {md : Region.Mode} {w : World} {Q : Exit → Act → World → Prop}

theorem wpOpIn_of_stOp (hF : ∀ f, F.fn f) (hdp : F.depth.isSome = true → 1 ≤ nF) (hC : ∀ f args w R, Calls P f args w R → CallsIn F (nF - 1) P f args w R) (hD : noDefer ops = true) {i : Nat} {Ks : Act → Prop} {K : Act → World → Prop} {a : Act}
    (hK : ∀ a', Ks a' → K a' w) (h : stOp P ops w i Ks a) : wpOpIn F nF P ops Q i K a w := by
  cases hi : ops[i]? with
  | none =>
    unfold stOp at h
    simp only [hi] at h
    unfold wpOpIn
    simp only [hi]
    exact hK _ h
  | some o =>
    obtain ⟨v, hy, hk⟩ := yieldsAt_of_stOp hi h
    have hs : o.semAt F.round a.eval = execOp a.eval o := Oper.semAt_plain F _ _ (fun c hc => by
      unfold noDefer at hD
      have := (Array.all_eq_true.1 hD) i (Array.getElem?_eq_some_iff.1 hi).1
      rw [(Array.getElem?_eq_some_iff.1 hi).2, hc] at this
      cases this)
    unfold wpOpIn
    simp only [hi]
    rcases hy with ⟨hw, hv | ⟨hv, rfl⟩ | ⟨f, args, hv, hc⟩⟩ | ⟨hw, rfl⟩
    · simp only [hw, if_true, Oper.wpIn, hs, hv, Oper.uponIn]
      exact ⟨fun f _ => hF f, hK _ hk⟩
    · simp only [hw, if_true, Oper.wpIn, hs, hv, Oper.uponIn]
      exact ⟨fun f _ => hF f, hK _ hk⟩
    · simp only [hw, if_true, Oper.wpIn, hs, hv, Oper.uponIn]
      exact ⟨fun f _ => hF f, hdp, (hC _ _ _ _ hc).mono fun e w'' he => by obtain ⟨rfl, rfl⟩ := he; exact hK _ hk⟩
    · simp only [hw, Bool.false_eq_true, if_false]
      exact ⟨fun f _ => hF f, hK _ hk⟩

theorem wpAnyIn_of_head (hF : ∀ f, F.fn f) (hdp : F.depth.isSome = true → 1 ≤ nF) (hC : ∀ f args w R, Calls P f args w R → CallsIn F (nF - 1) P f args w R) (hD : noDefer ops = true) {n g : Nat} {L : Array Bool → Act → Prop}
    (hL : ∀ listed a, L listed a → wpAnyIn F nF P md ops Q g listed a w) :
    ∀ (f : Nat) (listed : Array Bool) (a : Act), wpAnyL P md ops w n L f listed a → wpAnyIn F nF P md ops Q (f + g) listed a w
  | 0, listed, a, h => by rw [Nat.zero_add]; exact hL _ _ h
  | f + 1, listed, a, h => by
    rw [Nat.add_right_comm]
    exact ⟨fun h0 => absurd h0 h.1, fun i hi => wpOpIn_of_stOp hF hdp hC hD (fun a' h' => wpAnyIn_of_head hF hdp hC hD hL f _ a' h') (h.2 i hi).2⟩

theorem wpAnyIn_of_seq : ∀ (l : List Oper) (k : Nat) (listed : Array Bool) (a : Act) (w : World), (∀ j, l[j]? = ops[k + j]?) →
    Region.seqB md ops l.length k listed = true → wpListIn F nF P ops Q l a w → wpAnyIn F nF P md ops Q l.length listed a w
  | [], _, _, _, _, _, hB, h => ⟨by simpa [Region.seqB] using hB, h⟩
  | o :: l, k, listed, a, w, hl, hB, h => by
    have h0 : ops[k]? = some o := by simpa using (hl 0).symm
    simp only [List.length_cons, Region.seqB, Bool.and_eq_true, decide_eq_true_eq] at hB
    refine ⟨fun h1 => (by rw [hB.1] at h1; cases h1), fun i hi => ?_⟩
    rw [hB.1] at hi
    obtain rfl : i = k := by simpa using hi
    have hw : wpOpIn F nF P ops Q i (wpListIn F nF P ops Q l) a w := by unfold wpOpIn; simp only [h0]; exact h
    exact wpOpIn_mono (fun a' w' h' => wpAnyIn_of_seq l (i + 1) _ a' w' (fun j => by have := hl (j + 1); simpa [Nat.add_assoc, Nat.add_comm 1 j] using this) hB.2 h') hw

/-- The first n operations leave the world alone, the others follow one another. -/
theorem region_tailIn {id : Nat} {a : Act} {l : List Oper} (n : Nat) (hF : ∀ f, F.fn f) (hdp : F.depth.isSome = true → 1 ≤ nF) (hC : ∀ f args w R, Calls P f args w R → CallsIn F (nF - 1) P f args w R) (hD : noDefer l.toArray = true) (hm : P.follows .mixedOrders = true) (hB : Region.lexTailB .any l.toArray n = true)
    (h : wpStill P l.toArray w.drew (fun a' => wpListIn F nF P l.toArray Q (l.drop n) a' w.drew) (l.take n) a) : (Code.region id l.toArray true).wpIn F nF P Q a w := by
  simp only [Region.lexTailB, Bool.and_eq_true, decide_eq_true_eq] at hB
  obtain ⟨⟨⟨⟨hsel, hn⟩, hs⟩, hc⟩, hlex⟩ := hB
  have htl : (l.take n).length = n := by
    have : n < l.length := by simpa using hn
    simp
    omega
  have hdl : (l.drop n).length = l.toArray.size - n := by simp
  have inv0 : HeadInv .any l.toArray n (Array.replicate l.toArray.size false) :=
    ⟨by simp, fun j oj _ hl => (by rw [getD_replicate_false] at hl; cases hl), fun t _ ht => getD_in (by simpa using ht) (getD_replicate_false _ _)⟩
  have H := wpAnyL_lex (md := .any) (g := l.toArray.size - n) hsel hs hc hn (l.take n) 0 _ a (fun j hj => by
    have hj' : j < n := by rw [htl] at hj; exact hj
    simp [hj']) (by simpa using htl) inv0 (by rw [htl]; exact hlex) h
  refine wpIn_region_any hm ?_
  have := wpAnyIn_of_head (Q := Q) (g := l.toArray.size - n) hF hdp hC hD (fun listed a' hL => by
    have := wpAnyIn_of_seq (md := .any) (Q := Q) (l.drop n) n listed a' w.drew (fun j => by simp [List.getElem?_drop]) (by rw [hdl]; exact hL.1) hL.2
    rwa [hdl] at this) _ _ _ H
  rw [htl, Nat.add_sub_of_le (Nat.le_of_lt hn)] at this
  exact this
end
end Go.Proofs.Ytbhgbifliihlbaa
namespace Go.Proofs.Ytbhgbifliihlbaa
open Go.RowKit Go.Sort Go.Maps Go.Shelf

attribute [local go_sem] Oper.semAt_some

/-- A block of numbers, l of which from ro on are told by a function. -/
def fillF (f0 : Nat → Value) (ro : Nat) (g : Nat → Int) (S : List Nat) (q : Nat) : Value := if q ∈ S.map (ro + ·) then .int .i64 (g (q - ro)) else f0 q
theorem fillF_step (f0 : Nat → Value) (ro : Nat) (g : Nat → Int) (S : List Nat) (k N q : Nat) (_h : q < N) : (if q = ro + k then .int .i64 (g k) else fillF f0 ro g S q) = fillF f0 ro g (S ++ [k]) q := by
  unfold fillF
  by_cases h : q = ro + k
  · subst h
    rw [if_pos rfl, if_pos (by simp)]
    congr 2
    omega
  · rw [if_neg h]
    by_cases h2 : q ∈ S.map (ro + ·)
    · rw [if_pos h2, if_pos (by simp only [List.map_append, List.mem_append]; exact .inl h2)]
    · rw [if_neg h2, if_neg (by simp only [List.map_append, List.mem_append, List.map_cons, List.map_nil, List.mem_singleton]; exact fun h' => h'.elim h2 h)]

theorem yrow {w w' : World} {b B n : Nat} {t : TypeId} {f : Nat → Value} (h : w.rowIs B t n f) (hg : w.grownBy w' (some b)) (hne : B ≠ b) : w'.rowIs B t n f := h.of_block (hg.block B h.lt (by simpa using hne))

/-- A frame goes on where blocks of a loop's own turn. -/
theorem ygrown {w0 X Y : World} {rb : Nat} {row : Option Nat} (h : w0.grownBy X (some rb)) (hg : X.grownBy Y row) (hr : ∀ r, row = some r → w0.heap.size ≤ r) : w0.grownBy Y (some rb) :=
  ⟨hg.os.trans h.os, hg.tape.trans h.tape, hg.output.trans h.output, Nat.le_trans h.size hg.size, fun b hb hne => (hg.block b (Nat.lt_of_lt_of_le hb h.size) (fun e => by have := hr b e.symm; omega)).trans (h.block b hb hne)⟩
theorem yset {w0 X : World} {rb o : Nat} {v : Value} (h : w0.grownBy X (some rb)) : w0.grownBy (X.drew.setCell ⟨rb, o, none⟩ v) (some rb) :=
  ⟨h.os, h.tape, h.output, by simpa using h.size, fun b hb hne => (Deep.blk_setCell_other X.drew ⟨rb, o, none⟩ v b (fun e => hne (by rw [show b = rb from e]))).trans (h.block b hb hne)⟩
theorem monL_byte (d n : Int) : ∀ e ∈ monL d n, byte3 e := by
  unfold monL
  split
  · rename_i h
    simp [monB] at h
    intro e he
    simp only [outerL, innerL, pick, List.mem_flatMap, List.mem_range] at he
    obtain ⟨s, hs, k, hk, hp⟩ := he
    split at hp
    · simp at hp
      subst hp
      refine ⟨⟨?_, ?_⟩, ⟨?_, ?_⟩, ?_, ?_⟩ <;> simp <;> omega
    · simp at hp
  · intro e he
    simp at he

set_option maxRecDepth 100000 in
set_option maxHeartbeats 8000000 in
theorem ifill (p d n : Int) (u : Value) (ts : List Tm) (rb ro N cap : Nat) (f0 : Nat → Value) (w : World) (hts : ts.length ≤ 1048576) (hV : Valid p d ts) (hU : SliceT w u ts) (hr : w.rowIs rb 2 N f0) (hN : ro + (monL d n).length ≤ N) :
    Calls Try.prog 71 #[.slice (some ⟨rb, ro, none⟩) (monL d n).length cap, .agg #[.int .i64 p, .int .i64 d, u], .int .i64 n] w fun e w' => e = .returned (.tuple #[]) ∧
      w'.rowIs rb 2 N (fillF f0 ro (fun k => atL ts ((monL d n).getD k (0, 0, 0))) (List.range (monL d n).length)) ∧ w.grownBy w' (some rb) := by
  have hmm := @run_makeMap Try.prog
  obtain ⟨W0, hW0, hb0, ⟨h01, h02⟩, rowb, rx⟩ : ∃ W0, W0 = (w.alloc (.cells #[.slice (some ⟨rb, ro, none⟩) (monL d n).length cap] 37)).alloc (.cells #[.int .i64 p, .int .i64 d, u] 40) ∧ Below w.heap.size w W0 ∧ (W0.heap.size ≤ w.heap.size + 2 ∧ w.heap.size + 2 ≤ W0.heap.size) ∧
      W0.rowIs w.heap.size 37 1 (fun _ => .slice (some ⟨rb, ro, none⟩) (monL d n).length cap) ∧ W0.rowIs (w.heap.size + 1) 40 3 (polyF p d u) := by
    obtain ⟨U, hU0, hbU, hUs, hrU⟩ : ∃ U, U = w.alloc (.cells #[.slice (some ⟨rb, ro, none⟩) (monL d n).length cap] 37) ∧ Below w.heap.size w U ∧ U.heap.size = w.heap.size + 1 ∧ U.rowIs w.heap.size 37 1 (fun _ => .slice (some ⟨rb, ro, none⟩) (monL d n).length cap) := ⟨_, rfl, box1 _ _, by simp, World.rowIs_alloc w #[_] _ _ (fun i hi => by simp at hi; subst hi; rfl)⟩
    obtain ⟨V, hV1, hbV, ⟨s1, s2⟩, rV⟩ := newbox U p d u
    rw [hUs] at rV s1 s2
    exact ⟨V, by rw [hV1, hU0], hbU.trans (hbV.mono hbU.size), ⟨by omega, by omega⟩, rowIs_below hrU hbV hrU.lt, rV⟩
  obtain ⟨W1, hW1, hb1, hs1, hm1, hbx1⟩ : ∃ W1, W1 = (W0.alloc (.map #[] 0)).alloc (.cells #[.map (some W0.heap.size)] 126) ∧ Below W0.heap.size W0 W1 ∧ W1.heap.size = W0.heap.size + 2 ∧ MapE W1 W0.heap.size 0 (.map []) ∧ W1.rowIs (W0.heap.size + 1) 126 1 (fun _ => .map (some W0.heap.size)) := by
    have h1 := World.ownsMap_made (H := Unit) W0 Try.prog 113 (plainElem Try.prog 2)
    refine ⟨_, rfl, (box1 W0 _).trans ((box1 (W0.alloc (.map #[] 0)) _).mono (by simp)), by simp, h1.alloc _, ?_⟩
    have := World.rowIs_alloc (W0.alloc (.map #[] 0)) #[.map (some W0.heap.size)] 126 (fun _ => .map (some W0.heap.size)) (fun i hi => by simp at hi; subst hi; rfl)
    rwa [World.size_alloc] at this
  have hp2 := hV.p2
  have hU1 := (hU.below hb0).below hb1
  have rx1 := rowIs_below rx hb1 rx.lt
  have rb1 := rowIs_below rowb hb1 rowb.lt
  have hr1 := rowIs_below (rowIs_below hr hb0 hr.lt) hb1 (rowIs_below hr hb0 hr.lt).lt
  obtain ⟨⟨x0, x1, x2⟩, _⟩ := poly3 rx1
  have bx0 := hbx1.cell (i := 0) (by omega)
  refine (callsIn_wide (n := 9)).1 ?_
  refine callsIn_of_wp_marks Try.func71 rfl trivial ?_ rfl
  simp only [Try.ntmps71, List.size_toArray, List.length_cons, List.length_nil, Nat.reduceAdd, Nat.reduceSub, Array.replicate_succ, Array.replicate_zero, List.push_toArray, List.append_toArray, List.nil_append, List.cons_append]
  gi_wp2
  have hs0 : w.heap.size + 1 + 1 = W0.heap.size := by omega
  rw [hs0, ← hW0, ← hW1]
  refine ⟨trivial, (callsIn_wide.2 (addTimes_any p d 1 u ts W1 _ 0 (.map []) (fun _ => 0) hts hU1 hV hm1 (by omega) (fun e _ => cf_empty e) (fun e _ => ⟨by omega, by omega⟩) (by omega) (by omega))).mono ?_⟩
  rintro e w3 ⟨D', rfl, hM3, hat3, hg3⟩
  have hl169 := monL_le d n
  have hs3 := hg3.size
  have hrlt := hr.lt
  have hrl3 : rb < w3.heap.size := by have := hr1.lt; omega
  have rx3 := yrow rx1 hg3 (by omega)
  have rb3 := yrow rb1 hg3 (by omega)
  have hbx3 := yrow hbx1 hg3 (by omega)
  have hr3 := yrow hr1 hg3 (by omega)
  obtain ⟨⟨y0, y1, y2⟩, _⟩ := poly3 rx3
  dsimp only
  gi_wp2
  refine ⟨trivial, (callsIn_wide.2 (iplaces d n w3)).mono ?_⟩
  rintro e w4 ⟨Bs, sv, rfl, ⟨hBs1, hBs2⟩, hcB, hSE, hb4⟩
  have hs4 := hb4.size
  have rb4 := rowIs_below rb3 hb4 rb3.lt
  have hbx4 := rowIs_below hbx3 hb4 hbx3.lt
  have hr4 := rowIs_below hr3 hb4 hr3.lt
  have hM4 : MapE w4 W0.heap.size (0 + ts.length) D' := hM3.kept (row := none) ⟨hb4.os, hb4.tape, hb4.output, hb4.size, fun k hk _ => hb4.block k hk⟩ (by simp)
  dsimp only
  gi_wp2
  have hg04 : Below w.heap.size w w4 := (hb0.trans (hb1.mono hb0.size)).trans (Below.trans ⟨hg3.os, hg3.tape, hg3.output, hg3.size, fun b hb => hg3.block b (by omega) (fun e => by cases e; omega)⟩ (hb4.mono (by omega)))
  have hrm : ∀ W : World, W.rowIs rb 2 N (fillF f0 ro (fun k => atL ts ((monL d n).getD k (0, 0, 0))) []) ↔ W.rowIs rb 2 N f0 := fun W => by
    have : fillF f0 ro (fun k => atL ts ((monL d n).getD k (0, 0, 0))) [] = f0 := by funext q; simp [fillF]
    rw [this]
  refine wpIn_rangeFunc_ownH rfl (by omega) (gf := 138) (lb := #[.pointer (some ⟨Bs, 0, none⟩)]) rfl trivial (enters_of Try.func138 (by kernel_rfl) rfl)
    (gall_stops Fence.wide 8 trivial rfl (by omega) Bs w3.heap.size w4.heap.size sv (monL d n) (by omega) w4 hBs2 (Nat.le_refl _) hcB hSE) (fun h k => KpI.trans h k) (fun W l o o' hl h h1 h2 => KpI.putObj (Nat.le_refl _) W l o o' hl h h1 h2) (Below.refl _ _) (fun _ => rfl)
    (fun (pre : List (Fin (monL d n).length)) W => W.rowIs rb 2 N (fillF f0 ro (fun k => atL ts ((monL d n).getD k (0, 0, 0))) (pre.map fun (x : Fin (monL d n).length) => x.1)) ∧ w4.grownBy W (some rb))
    (fun _ _ _ => False)
    (fun pre X Y row hs hg hq => ⟨hs.1.of_block (hg.block rb hs.1.lt (fun e => by have := (hq rb e.symm).1; omega)), ygrown hs.2 hg (fun r e => (hq r e).1)⟩)
    (fun _ _ _ _ _ hs _ _ => hs)
    ⟨(hrm _).2 hr4, ⟨rfl, rfl, rfl, Nat.le_refl _, fun _ _ _ => rfl⟩⟩
    (fun x a' W => ∃ Bx, w4.heap.size ≤ Bx ∧ W.rowIs Bx 113 3 (expsF ((monL d n)[x.1]'x.2).1 ((monL d n)[x.1]'x.2).2.1 ((monL d n)[x.1]'x.2).2.2) ∧ a' = { tmps := #[.slice (some ⟨rb, ro, none⟩) (monL d n).length cap, .agg #[.int .i64 p, .int .i64 d, u], .int .i64 n, .pointer (some ⟨w.heap.size, 0, none⟩), .pointer (some ⟨w.heap.size + 1, 0, none⟩), undef, .pointer (some ⟨W0.heap.size + 1, 0, none⟩), .int .i64 (x.1 : Int), .pointer (some ⟨Bx, 0, none⟩), .map (some W0.heap.size), .map (some W0.heap.size), .agg #[.int .i64 p, .int .i64 d, u], .tuple #[], .pointer (some ⟨w.heap.size + 1, 1, none⟩), .int .i64 d, .int .i64 n, allF Bs, .int .i64 (x.1 : Int), .agg #[.int .u8 ((monL d n)[x.1]'x.2).1, .int .u8 ((monL d n)[x.1]'x.2).2.1, .int .u8 ((monL d n)[x.1]'x.2).2.2], undef, undef, undef, undef, undef, undef], defers := [] })
    (fun x a' _ X Y row hs hg hq => by obtain ⟨Bx, h1, h2, h3⟩ := hs; exact ⟨Bx, h1, h2.of_block (hg.block Bx h2.lt (fun e => by obtain ⟨o, ho, hc⟩ := (hq Bx e.symm).2; obtain ⟨c, hb, _⟩ := h2; rw [hb] at ho; cases ho; cases hc)), h3⟩)
    ?assign ?body ?done ?stop
  case assign =>
    rintro l pre x W K ⟨hrW, hgW⟩ hK
    have hz : ∀ a b : Value, (#[17, 18] : Array Tmp).zip #[a, b] = #[(17, a), (18, b)] := fun a b => by simp
    rw [hz]
    change Code.wpIn _ _ _ _ _ { tmps := #[.slice (some ⟨rb, ro, none⟩) (monL d n).length cap, .agg #[.int .i64 p, .int .i64 d, u], .int .i64 n, .pointer (some ⟨w.heap.size, 0, none⟩), .pointer (some ⟨w.heap.size + 1, 0, none⟩), undef, .pointer (some ⟨W0.heap.size + 1, 0, none⟩), undef, undef, .map (some W0.heap.size), .map (some W0.heap.size), .agg #[.int .i64 p, .int .i64 d, u], .tuple #[], .pointer (some ⟨w.heap.size + 1, 1, none⟩), .int .i64 d, .int .i64 n, allF Bs, .int .i64 (x.1 : Int), .agg #[.int .u8 ((monL d n)[x.1]'x.2).1, .int .u8 ((monL d n)[x.1]'x.2).2.1, .int .u8 ((monL d n)[x.1]'x.2).2.2], undef, undef, undef, undef, undef, undef], defers := [] } W
    gi_wp2
    exact hK _ _ ((KeepsOthers.alloc _ _).from _) (KpI.of_below ((Below.refl w4.heap.size W).alloc hgW.size _)) ⟨hrW.alloc _, ygrown hgW (World.grownBy_alloc W _ none) (fun r e => by cases e)⟩ ⟨W.heap.size, hgW.size, World.rowIs_alloc W #[_, _, _] 113 _ (fun i hi => by simp at hi; match i, hi with | 0, _ => rfl | 1, _ => rfl | 2, _ => rfl), rfl⟩
  case body =>
    rintro l pre ⟨k, hk⟩ a' W hl1 ⟨r, hrec⟩ ⟨hrW, hgW⟩ ⟨Bx, hBx, bX, rfl⟩ hlt
    have rbW := yrow rb4 hgW (by omega)
    have hbxW := yrow hbx4 hgW (by omega)
    have hMW : MapE W.drew W0.heap.size (0 + ts.length) D' := (hM4.kept hgW (by simp; omega)).kept (row := none) ⟨rfl, rfl, rfl, Nat.le_refl _, fun _ _ _ => rfl⟩ (by simp)
    have hby := monL_byte d n _ (List.getElem_mem hk)
    have hgk : (monL d n).getD k (0, 0, 0) = (monL d n)[k] := by simp [List.getD, hk]
    obtain ⟨ex, hex⟩ : ∃ e, (monL d n)[k].1 = e := ⟨_, rfl⟩
    obtain ⟨ey, hey⟩ : ∃ e, (monL d n)[k].2.1 = e := ⟨_, rfl⟩
    obtain ⟨ez, hez⟩ : ∃ e, (monL d n)[k].2.2 = e := ⟨_, rfl⟩
    have hexe : (monL d n)[k] = (ex, ey, ez) := by rw [← hex, ← hey, ← hez]
    rw [hexe] at hby hgk
    simp only [hex, hey, hez] at bX ⊢
    have hkey : keyOf Try.prog 113 (.agg #[.int .u8 ex, .int .u8 ey, .int .u8 ez]) = some (kE (ex, ey, ez)) := keyOf_vE (ex, ey, ez) hby
    obtain ⟨c, hrun, hat, _⟩ := hMW.lookup_int lawK Try.underlying126 Try.underlying2 (zero64 _) hkey
    have hvb := hV.at_bound (ex, ey, ez)
    have hcc : c = atL ts (ex, ey, ez) := by
      have h1 := cf_of_at hat
      have h2 := hat3 (ex, ey, ez) hby
      rw [h1] at h2
      rw [h2, Int.one_mul, Int.zero_add, Int.emod_eq_of_lt hvb.1 hvb.2]
    have k0 := rbW.cell (i := 0) (by omega)
    have k1 := hbxW.cell (i := 0) (by omega)
    have e0 : W.cell? ⟨Bx, 0, none⟩ = some (.int .u8 ex) := bX.cell (i := 0) (by omega)
    have e1 : W.cell? ⟨Bx, 1, none⟩ = some (.int .u8 ey) := bX.cell (i := 1) (by omega)
    have e2 : W.cell? ⟨Bx, 2, none⟩ = some (.int .u8 ez) := bX.cell (i := 2) (by omega)
    have hrf := hrW.frozen (ro + k)
    have hrc := hrW.cell (i := ro + k) (by omega)
    have hk2 : (k : Int) < ((monL d n).length : Int) := by omega
    have hk3 : k ≤ 168 := by omega
    have HG := Lib.hid hgk
    have HC := Lib.hid hcc
    clear hat3 hby hexe hex hey hez hat hSE hgk hcc hs0 hs1 hmm hW0 hW1 hrec hm1 hM3 hM4 hcB
    gi_wp2
    refine region_tailIn 6 (fun _ => trivial) (fun h => (by cases h)) (fun f args w R h => CallsIn.inRound l (callsIn_wide.2 h)) (by kernel_rfl) (by kernel_rfl) (by kernel_rfl) ?_
    simp only [List.take_succ_cons, List.take_zero, List.drop_succ_cons, List.drop_zero]
    repeat still_step
    refine wpStill_nil ?_
    clear hrun hMW
    gi_wp2
    have hV2 : (fun q => if q = ro + k then Value.int .i64 c else fillF f0 ro (fun k => atL ts ((monL d n).getD k (0, 0, 0))) (pre.map fun (x : Fin (monL d n).length) => x.1) q) = fillF f0 ro (fun k => atL ts ((monL d n).getD k (0, 0, 0))) ((pre ++ [(⟨k, hk⟩ : Fin (monL d n).length)]).map fun (x : Fin (monL d n).length) => x.1) := by
      funext q
      rw [HC.out, ← HG.out, List.map_append]
      exact fillF_step f0 ro (fun k => atL ts ((monL d n).getD k (0, 0, 0))) _ k (q + 1) q (by omega)
    have hR2 := hrW.set (ro + k) (.int .i64 c)
    rw [hV2] at hR2
    exact ⟨((KeepsOthers.drew W).trans (KeepsOthers.setCell _ _ _)).from _, ⟨by simp, fun b h1 h2 => Deep.blk_setCell_other W.drew ⟨rb, ro + k, none⟩ _ b (by show b ≠ rb; omega)⟩, hR2, yset hgW⟩
  case done =>
    rintro D ys W hD rfl ⟨hrW, hgW⟩ hK
    gi_wp2
    have hfr : (List.finRange (monL d n).length).map (fun (x : Fin (monL d n).length) => x.1) = List.range (monL d n).length := List.ext_getElem (by simp) (fun i h1 h2 => by simp)
    rw [hfr] at hrW
    have hgT : w.grownBy W (some rb) := ⟨hgW.os.trans hg04.os, hgW.tape.trans hg04.tape, hgW.output.trans hg04.output, Nat.le_trans hg04.size hgW.size, fun b hb hne => (hgW.block b (Nat.lt_of_lt_of_le hb hg04.size) hne).trans (hg04.block b hb)⟩
    refine ⟨by simp, .inl ⟨_, _, rfl, run_takeDeferred hK, ?_⟩⟩
    refine ⟨_, results_none rfl _ _ _, rfl, ?_, ?_⟩
    · exact hrW.of_block (World.putObj_heap_other (by omega))
    · exact ygrown hgT (grownBy_putObj' W D _) (fun r e => by cases e; omega)
  case stop =>
    rintro D c pre W _ _ h _
    exact h.elim
end Go.Proofs.Ytbhgbifliihlbaa
