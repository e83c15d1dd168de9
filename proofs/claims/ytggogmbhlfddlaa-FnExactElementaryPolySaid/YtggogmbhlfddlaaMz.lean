/-
  MONOMIALS of a degree: what they are, and the model's walk. Conditions: as each theorem states.. Conditions: as each theorem states.
-/
import Derived.Test.YtggogmbhlfddlaaA
import Derived.Lib.Hide
namespace Go.Proofs.Ytggogmbhlfddlaa
open Go.RowKit Go.Sort

/-- The three cells of a monomial. -/
def cell3 (e : Int × Int × Int) : List Value := [.int .u8 e.1, .int .u8 e.2.1, .int .u8 e.2.2]
def cells3 (l : List (Int × Int × Int)) : List Value := l.flatMap cell3
theorem cells3_snoc (l : List (Int × Int × Int)) (e : Int × Int × Int) : cells3 (l ++ [e]) = cells3 l ++ cell3 e := by simp [cells3]
theorem cells3_length (l : List (Int × Int × Int)) : (cells3 l).length = 3 * l.length := by
  induction l with
  | nil => rfl
  | cons a l ih => simp only [cells3, List.flatMap_cons, List.length_append, List.length_cons] at ih ⊢; simp only [cell3, List.length_cons, List.length_nil]; omega

def pick (d x y z : Int) : List (Int × Int × Int) := if expsOk d x y z then [(x, y, z)] else []
def innerL (d : Int) (n s t : Nat) : List (Int × Int × Int) := (List.range t).flatMap fun (k : Nat) => pick d (n - s) (s - k) k
def outerL (d : Int) (n s : Nat) : List (Int × Int × Int) := (List.range s).flatMap fun k => innerL d n k (k + 1)
theorem innerL_zero (d : Int) (n s : Nat) : innerL d n s 0 = [] := rfl
theorem innerL_succ (d : Int) (n s t : Nat) : innerL d n s (t + 1) = innerL d n s t ++ pick d (n - s) (s - t) t := by simp [innerL, List.range_succ]
theorem outerL_succ (d : Int) (n s : Nat) : outerL d n (s + 1) = outerL d n s ++ innerL d n s (s + 1) := by simp [outerL, List.range_succ]
theorem pick_le (d x y z : Int) : (pick d x y z).length ≤ 1 := by unfold pick; split <;> simp
theorem innerL_le (d : Int) (n s t : Nat) : (innerL d n s t).length ≤ t := by
  induction t with
  | zero => simp [innerL_zero]
  | succ t ih => rw [innerL_succ, List.length_append]; have := pick_le d (n - s) (s - t) t; omega
theorem outerL_le (d : Int) (n s : Nat) : (outerL d n s).length ≤ s * s := by
  induction s with
  | zero => simp [outerL]
  | succ s ih => rw [outerL_succ, List.length_append]; have := innerL_le d n s (s + 1); simp only [Nat.mul_succ, Nat.succ_mul]; omega

theorem info52 : (Try.prog.info? 82).map (fun i => (i.zero, i.size, i.bytes)) = some (some (.agg #[.int .u8 0, .int .u8 0, .int .u8 0]), 3, 3) := by kernel_rfl

theorem owns_below {w w' : World} {base : Nat} {e : TypeId} {size : Nat} {v : Value} {n : Nat} {xs : List Value} (h : w.ownsRow base e size v n xs) (hb : Below w.heap.size w w') : w'.ownsRow base e size v n xs :=
  h.kept (row := none) ⟨hb.os, hb.tape, hb.output, hb.size, fun k hk _ => hb.block k hk⟩ (by cases v.ownBlock <;> simp)

/-- What a round that keeps the monomial does, away from the walk. -/
theorem round_keep {w wr w1 w2 : World} {o o' : Obj} {e : TypeId} {v v' : Value} {l : List (Int × Int × Int)} {x y z : Int} (hbel : Below w.heap.size w wr)
    (hown : wr.ownsRow w.heap.size e 3 v l.length (cells3 l)) (hb : Below (wr.alloc o).heap.size (wr.alloc o) w1)
    (hown2 : w2.ownsRow w.heap.size e 3 v' (l.length + 1) (cells3 l ++ [.int .u8 x, .int .u8 y, .int .u8 z])) (hg : (w1.alloc o').grownBy w2 v.ownBlock) :
    w2.ownsRow w.heap.size e 3 v' (l ++ [(x, y, z)]).length (cells3 (l ++ [(x, y, z)])) ∧ Below w.heap.size w w2 := by
  have hs := hbel.size
  have hs1 := hb.size
  simp only [World.size_alloc] at hs1
  refine ⟨by rw [cells3_snoc]; simpa [cell3] using hown2, ?_⟩
  exact ((((hbel.alloc hs _).trans (hb.mono (by simp; omega)))).alloc (by omega) _).grown hg (by simp; omega) (fun k hk => (hown.lt k hk).1)

theorem innerL_hit (d : Int) (n s t : Nat) (z : Int) (hz : z = t) (h : expsOk d (n - s) (s - t) z = true) : innerL d n s (t + 1) = innerL d n s t ++ [((n : Int) - s, (s : Int) - t, z)] := by
  subst hz; rw [innerL_succ]; simp [pick, h]
theorem innerL_miss (d : Int) (n s t : Nat) (z : Int) (hz : z = t) (h : expsOk d (n - s) (s - t) z = false) : innerL d n s (t + 1) = innerL d n s t := by
  subst hz; rw [innerL_succ]; simp [pick, h]
theorem round_skip {w wr w1 : World} {o : Obj} {e : TypeId} {v : Value} {l : List (Int × Int × Int)} (hbel : Below w.heap.size w wr)
    (hown : wr.ownsRow w.heap.size e 3 v l.length (cells3 l)) (hb : Below (wr.alloc o).heap.size (wr.alloc o) w1) :
    w1.ownsRow w.heap.size e 3 v l.length (cells3 l) ∧ Below w.heap.size w w1 := by
  have hs := hbel.size
  exact ⟨owns_below (hown.alloc _) hb, (hbel.alloc hs _).trans (hb.mono (by simp; omega))⟩

set_option maxRecDepth 8000 in
set_option maxHeartbeats 2000000 in
theorem specMonomials_any (d : Int) (n : Nat) (w : World) (hd : 1 ≤ d ∧ d ≤ 3) (hn : n ≤ 12) :
    Calls Try.prog 78 #[.int .i64 d, .int .i64 n] w fun e w' =>
      ∃ v, e = .returned v ∧ w'.ownsRow w.heap.size 82 3 v (outerL d n (n + 1)).length (cells3 (outerL d n (n + 1))) ∧ Below w.heap.size w w' := by
  obtain ⟨i0, hi, hz0, hz1, hz2⟩ := info_parts info52
  obtain ⟨hd1, hd2⟩ := hd
  go_enter Try.func78, Try.ntmps78
  go_wp2
  go_loopw [5, 6] (fun v i wr => ∃ s : Nat, s ≤ n + 1 ∧ i = .int .i64 (n - s) ∧ wr.ownsRow w.heap.size 82 3 v (outerL d n s).length (cells3 (outerL d n s)) ∧ Below w.heap.size w wr)
    (fun _ i _ => (intOf i + 1).toNat)
  case atStart => exact ⟨0, by omega, by simp, World.ownsRow_made w #[] 0 (Nat.le_refl _) (by simp [maxLen]) rfl, box1 _ _⟩
  case round =>
    obtain ⟨s, hs, rfl, hown, hbel⟩ := hrel
    by_cases hlt : s < n + 1
    · have hle : s ≤ n := by omega
      go_wp2
      obtain ⟨wo, rfl⟩ : ∃ wo : World, wo = wr := ⟨_, rfl⟩
      go_loopw [5, 7] (fun v i wr => ∃ t : Nat, t ≤ s + 1 ∧ i = .int .i64 (s - t) ∧ wr.ownsRow w.heap.size 82 3 v (outerL d n s ++ innerL d n s t).length (cells3 (outerL d n s ++ innerL d n s t)) ∧ Below w.heap.size w wr)
        (fun _ i _ => (intOf i + 1).toNat)
      case atStart => exact ⟨0, by omega, by simp; omega, by simpa [innerL_zero] using hown, hbel⟩
      case round =>
        obtain ⟨t, ht, rfl, hown1, hbel1⟩ := hrel
        by_cases hlt2 : t < s + 1
        · have hle2 : t ≤ s := by omega
          go_wp2_with fail
          have b1 : 0 ≤ (n : Int) - s ∧ (n : Int) - s ≤ 255 := by omega
          have b2 : 0 ≤ (s : Int) - t ∧ (s : Int) - t ≤ 255 := by omega
          have b3 : 0 ≤ (n : Int) - (n - s) - (s - t) ∧ (n : Int) - (n - s) - (s - t) ≤ 255 := by omega
          ((with_reducible refine (exps_any _ _ _ _ _ ⟨hd1, hd2⟩ b1 b2 b3).mono ?_); rintro e w1 ⟨rfl, hb⟩)
          have hlen := outerL_le d n s
          have hlen2 := innerL_le d n s t
          have hlen3 : s * s ≤ 13 * 13 := Nat.mul_le_mul (by omega) (by omega)
          have hsum : ((n : Int) - (↑n - ↑s) - (↑s - ↑t)) = t := by omega
          generalize hE : expsOk d (↑n - ↑s) (↑s - ↑t) (↑n - (↑n - ↑s) - (↑s - ↑t)) = E
          have HE := Lib.hid hE
          have HS := Lib.hid hsum
          clear hE hsum
          cases E
          · go_wp2
            go_roundw
            case rel => exact ⟨t + 1, by omega, by go_num, by rw [innerL_miss d n s t _ HS.out HE.out]; exact (round_skip hbel1 hown1 hb).1, (round_skip hbel1 hown1 hb).2⟩
            case measure => simp [intOf]; omega
          · have c0 : w1.cell? ⟨wr.heap.size, 0, none⟩ = some (.int .u8 (↑n - ↑s)) := (hb.cell (by simp)).trans (by simp [World.cell?_alloc_at])
            have c1 : w1.cell? ⟨wr.heap.size, 1, none⟩ = some (.int .u8 (↑s - ↑t)) := (hb.cell (by simp)).trans (by simp [World.cell?_alloc_at])
            have c2 : w1.cell? ⟨wr.heap.size, 2, none⟩ = some (.int .u8 (↑n - (↑n - ↑s) - (↑s - ↑t))) := (hb.cell (by simp)).trans (by simp [World.cell?_alloc_at])
            go_wp2_with (at_builtin; refine wpList_append_own _ rfl _ _ 88 rfl w.heap.size 82 i0 _ 3 3 Try.underlying88 hi hz0 hz1 hz2 rfl (by decide) _ _ _ rfl ((owns_below (hown1.alloc _) hb).alloc _) ⟨w1.heap.size, 0, none⟩ 1 1 [.int .u8 (↑n - ↑s), .int .u8 (↑s - ↑t), .int .u8 (↑n - (↑n - ↑s) - (↑s - ↑t))] rfl rfl ?c1 ?c2 ?c3 ?c4 ?c5 ?_)
            case c1 =>
              intro j u hj
              match j, hj with
              | 0, hj => simp at hj; subst hj; simp [World.cell?_alloc_at, Addr.add]
              | 1, hj => simp at hj; subst hj; simp [World.cell?_alloc_at, Addr.add]
              | 2, hj => simp at hj; subst hj; simp [World.cell?_alloc_at, Addr.add]
            case c2 => intro u hu; simp at hu; rcases hu with rfl | rfl | rfl <;> rfl
            case c3 => simp only [List.length_append]; unfold maxLen; omega
            case c4 => simp only [List.length_append]; omega
            case c5 => have := hbel1.size; have h2 := hb.size; simp only [World.size_alloc] at h2 ⊢; omega
            intro v' w2 hown2 hgrow _
            have R := round_keep hbel1 hown1 hb (by simpa using hown2) hgrow
            clear hown2 hgrow hown1
            go_wp2
            go_roundw
            case rel => exact ⟨t + 1, by omega, by go_num, by rw [innerL_hit d n s t _ HS.out HE.out, ← List.append_assoc]; exact R.1, R.2⟩
            case measure => simp [intOf]; omega
        · obtain rfl : t = s + 1 := by omega
          rw [← outerL_succ] at hown1
          go_wp2
          go_roundw
          case rel => exact ⟨s + 1, by omega, by go_num, hown1, hbel1⟩
          case measure => simp [intOf]; omega
    · obtain rfl : s = n + 1 := by omega
      go_wp2
      go_ret
      exact ⟨_, rfl, hown, hbel⟩

/-- Whether there is such a list; the list; the code. -/
def monB (d n : Int) : Bool := (decide (1 ≤ d) && decide (d ≤ 3)) && (decide (0 ≤ n) && decide (n ≤ 12))
def monL (d n : Int) : List (Int × Int × Int) := if monB d n then outerL d n.toNat (n.toNat + 1) else []
def monC (d n : Int) : Int := if monB d n then 0 else 2
theorem monL_le (d n : Int) : (monL d n).length ≤ 169 := by
  unfold monL
  split
  · rename_i h
    simp [monB] at h
    have h1 := outerL_le d n.toNat (n.toNat + 1)
    have h2 : (n.toNat + 1) * (n.toNat + 1) ≤ 13 * 13 := Nat.mul_le_mul (by omega) (by omega)
    omega
  · simp

theorem in_yes (n a b : Int) (w : World) (h1 : a ≤ n) (h2 : n ≤ b) : Calls Try.prog 49 #[.int .i64 n, .int .i64 a, .int .i64 b] w fun e w' => e = .returned (.bool true) ∧ w = w' :=
  (in_any n a b w).mono fun _ _ ⟨he, hw⟩ => ⟨by rw [he]; simp [h1, h2], hw⟩
theorem in_no (n a b : Int) (w : World) (h : n < a ∨ b < n) : Calls Try.prog 49 #[.int .i64 n, .int .i64 a, .int .i64 b] w fun e w' => e = .returned (.bool false) ∧ w = w' :=
  (in_any n a b w).mono fun _ _ ⟨he, hw⟩ => ⟨by rw [he]; congr 2; simp; omega, hw⟩

/-- What both functions promise. -/
def MonPost (d n : Int) (w : World) (e : Ending) (w' : World) : Prop :=
  ∃ v, e = .returned (.tuple #[v, .int .i64 (monC d n)]) ∧ w'.ownsRow w.heap.size 82 3 v (monL d n).length (cells3 (monL d n)) ∧ Below w.heap.size w w'

theorem vars_any (d : Int) (w : World) : Calls Try.prog 65 #[.int .i64 d] w fun e w' => e = .returned (.bool (decide (1 ≤ d) && decide (d ≤ 3))) ∧ w = w' := by
  by_cases h : 1 ≤ d
  all_goals
    go_enter Try.func65, Try.ntmps65
    go_wp2
    go_ret
    exact ⟨by simp; omega, rfl⟩
theorem degree_any (n : Int) (w : World) : Calls Try.prog 66 #[.int .i64 n] w fun e w' => e = .returned (.bool (decide (0 ≤ n) && decide (n ≤ 12))) ∧ w = w' := by
  by_cases h : 0 ≤ n
  all_goals
    go_enter Try.func66, Try.ntmps66
    go_wp2
    go_ret
    exact ⟨by simp; omega, rfl⟩
end Go.Proofs.Ytggogmbhlfddlaa
