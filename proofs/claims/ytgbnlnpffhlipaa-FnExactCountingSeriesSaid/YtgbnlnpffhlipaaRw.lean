/-
  SORTS of short lists of numbers, and lists turned round: slices.Sort, slices.Reverse. Conditions: as each theorem states.
-/
import Derived.Test.YtgbnlnpffhlipaaRz
import Derived.Test.YtgbnlnpffhlipaaLc
namespace Go.Proofs.Ytgbnlnpffhlipaa
open Go.RowKit Go.Sort EchM

theorem nth_set (l : List Int) (k : Nat) (x : Int) (hk : k < l.length) (q : Nat) : nth (l.set k x) q = if q = k then x else nth l q := by
  unfold nth
  by_cases e : q = k
  · subst e; simp [hk]
  · rw [if_neg e]
    simp [Ne.symm e]
def SortTo (O : List Int) (i : Nat) : Prop := ∀ a b, a ≤ b → b < i → nth O a ≤ nth O b
/-- All but the number at j are in order, and that one is not greater than those behind it. -/
def HoleTo (P : List Int) (i j : Nat) : Prop := (∀ a b, a ≤ b → b ≤ i → a ≠ j → b ≠ j → nth P a ≤ nth P b) ∧ ∀ b, j < b → b ≤ i → nth P j ≤ nth P b
def swpL (P : List Int) (j : Nat) : List Int := (P.set (j + 1) (nth P j)).set j (nth P (j + 1))
theorem swp_len (P : List Int) (j : Nat) : (swpL P j).length = P.length := by simp [swpL]
theorem swp_nth {P : List Int} {j : Nat} (hj : j + 1 < P.length) (q : Nat) : nth (swpL P j) q = if q = j then nth P (j + 1) else if q = j + 1 then nth P j else nth P q := by
  unfold swpL
  rw [nth_set _ _ _ (by simp; omega), nth_set _ _ _ hj]
theorem swp_perm {P : List Int} {j : Nat} (hj : j + 1 < P.length) : (swpL P j).Perm P := by
  unfold swpL
  rw [nth_lt hj, nth_lt (show j < P.length by omega)]
  exact List.set_set_perm hj (by omega)
theorem hole_start {O : List Int} {i : Nat} (h : SortTo O i) : HoleTo O i i :=
  ⟨fun a b hab hb ha hb' => h a b hab (by omega), fun b h1 h2 => by omega⟩
theorem hole_next {P : List Int} {i j : Nat} (h : HoleTo P i (j + 1)) (hi : i < P.length) (hj : j + 1 ≤ i) (hlt : nth P (j + 1) < nth P j) : HoleTo (swpL P j) i j := by
  have hl : j + 1 < P.length := by omega
  constructor
  · intro a b hab hb ha hb'
    rw [swp_nth hl, swp_nth hl, if_neg ha, if_neg hb']
    by_cases e1 : a = j + 1
    · rw [if_pos e1]
      by_cases e2 : b = j + 1
      · rw [if_pos e2]; exact Int.le_refl _
      · rw [if_neg e2]; exact h.1 j b (by omega) hb (by omega) e2
    · rw [if_neg e1]
      by_cases e2 : b = j + 1
      · rw [if_pos e2]; exact h.1 a j (by omega) (by omega) e1 (by omega)
      · rw [if_neg e2]; exact h.1 a b hab hb e1 e2
  · intro b h1 h2
    rw [swp_nth hl, swp_nth hl, if_pos rfl, if_neg (by omega)]
    by_cases e2 : b = j + 1
    · rw [if_pos e2]; omega
    · rw [if_neg e2]; exact h.2 b (by omega) h2
theorem hole_done {P : List Int} {i j : Nat} (h : HoleTo P i j) (hge : j = 0 ∨ nth P (j - 1) ≤ nth P j) : SortTo P (i + 1) := by
  intro a b hab hb
  by_cases e1 : a = j
  · by_cases e2 : b = j
    · rw [e1, e2]; exact Int.le_refl _
    · rw [e1]; exact h.2 b (by omega) (by omega)
  · by_cases e2 : b = j
    · rcases hge with hge | hge
      · omega
      · have := h.1 a (j - 1) (by omega) (by omega) e1 (by omega)
        rw [e2]; omega
    · exact h.1 a b hab (by omega) e1 e2
theorem nan64 (a : Int) (w : World) : Calls Try.prog 61 #[.int .i64 a] w fun e w' => e = .returned (.bool false) ∧ w' = w := by
  have h : (a != a) = false := by simp
  go_enter Try.func61, Try.ntmps61
  go_wp2
  go_ret
  exact ⟨rfl, rfl⟩
theorem gless (a b : Int) (w : World) : Calls Try.prog 51 #[.int .i64 a, .int .i64 b] w fun e w' => e = .returned (.bool (decide (a < b))) ∧ w' = w := by
  go_enter Try.func51, Try.ntmps51
  go_wp2_with ((with_reducible refine (nan64 _ _).mono ?_); rintro e w' ⟨rfl, rfl⟩)
  go_ret
  exact ⟨by simp, rfl⟩
set_option maxRecDepth 100000 in
set_option maxHeartbeats 4000000 in
theorem glen64 (z : Int) (hz : 0 ≤ z ∧ z ≤ 8) (w : World) : Calls Try.prog 55 #[.int .u64 z] w fun e w' => (∃ r : Int, e = .returned (.int .i64 r)) ∧ w' = w := by
  rcases (show z = 0 ∨ z = 1 ∨ z = 2 ∨ z = 3 ∨ z = 4 ∨ z = 5 ∨ z = 6 ∨ z = 7 ∨ z = 8 by omega) with rfl | rfl | rfl | rfl | rfl | rfl | rfl | rfl | rfl
  all_goals
    go_enter Try.func55, Try.ntmps55
    go_wp2
    go_ret
    exact ⟨⟨_, rfl⟩, rfl⟩
theorem glen (z : Int) (hz : 0 ≤ z ∧ z ≤ 8) (w : World) : Calls Try.prog 43 #[.int .u64 z] w fun e w' => (∃ r : Int, e = .returned (.int .i64 r)) ∧ w' = w := by
  go_enter Try.func43, Try.ntmps43
  go_wp2_with fail
  ((with_reducible refine (glen64 z hz _).mono ?_); rintro e w' ⟨⟨r, rfl⟩, rfl⟩)
  go_wp2
  go_ret
  exact ⟨⟨_, rfl⟩, rfl⟩

theorem grown_drew {w wr : World} {g : Nat} (h : w.grownBy wr (some g)) (_ : Nat) : w.grownBy wr.drew (some g) := ⟨h.os, h.tape, h.output, h.size, h.block⟩
theorem grown_drewN {w wr : World} {g : Nat} (h : w.grownBy wr (some g)) (n : Nat) : w.grownBy (wr.drewN n) (some g) := ⟨h.os, h.tape, h.output, h.size, h.block⟩

set_option maxRecDepth 8000 in
set_option maxHeartbeats 4000000 in
theorem gins (g n cap : Nat) (O : List Int) (w : World) (hO : O.length = n) (hn : n ≤ 1048576) (hF : RowF w g n (nth O)) :
    Calls Try.prog 45 #[.slice (some ⟨g, 0, none⟩) n cap, .int .i64 0, .int .i64 (n : Int)] w fun e w' => e = .returned (.tuple #[]) ∧ ∃ P, List.Perm P O ∧ SortTo P n ∧ RowF w' g n (nth P) ∧ w.grownBy w' (some g) := by
  have HO := Lib.hid hO
  clear hO
  go_enter Try.func45, Try.ntmps45
  go_wp2_with fail
  go_loopw [6] (fun i wr => ∃ (k : Nat) (P : List Int), 1 ≤ k ∧ (k ≤ n ∨ k = 1) ∧ i = .int .i64 k ∧ Hid (P.Perm O) ∧ Hid (SortTo P k) ∧ RowF wr g n (nth P) ∧ w.grownBy wr (some g)) (fun i _ => n - (intOf i).toNat)
  case atStart => exact ⟨1, O, by omega, .inr rfl, rfl, Lib.hid (List.Perm.refl _), Lib.hid (fun a b h1 h2 => by
    have : a = b := by omega
    subst this; exact Int.le_refl _), hF, World.grownBy.refl _ _⟩
  case round =>
    clear hF
    obtain ⟨k, P, hk1, hk, rfl, HP, HS, hF, hg⟩ := hrel
    by_cases hlt : k < n
    · have hlt' : (k : Int) < (n : Int) := by omega
      have HH := Lib.hid (hole_start HS.out)
      go_wp2_with fail
      go_loopw [7] (fun t wr => ∃ (j : Nat) (P : List Int), j ≤ k ∧ t = .int .i64 j ∧ Hid (P.Perm O) ∧ Hid (HoleTo P k j) ∧ RowF wr g n (nth P) ∧ w.grownBy wr (some g)) (fun t _ => (intOf t).toNat)
      case atStart => exact ⟨k, P, by omega, rfl, HP, HH, hF, hg⟩
      case round =>
        clear hF hg HP HH HS
        obtain ⟨j, P, hj, rfl, HP, HH, hF, hg⟩ := hrel
        by_cases hj0 : 0 < j
        · obtain ⟨i, hji⟩ : ∃ i, j = i + 1 := ⟨j - 1, by omega⟩
          have hj0' : (0 : Int) < (j : Int) := by omega
          have hji' : (j : Int) - 1 = (i : Int) := by omega
          have hjn : (j : Int) < (n : Int) := by omega
          have hin : (i : Int) < (n : Int) := by omega
          have c0 := hF.cell (k := j) (by omega)
          have c1 := hF.cell (k := i) (by omega)
          have f0 := hF.frozen j
          have f1 := hF.frozen i
          have hPl : P.length = n := by rw [HP.out.length_eq, HO.out]
          have HPL := Lib.hid hPl
          by_cases hl : nth P j < nth P i
          · have hd : decide (nth P j < nth P i) = true := by simpa using hl
            have HP2 : Hid ((swpL P i).Perm O) := Lib.hid ((swp_perm (by omega)).trans HP.out)
            have HH2 : Hid (HoleTo (swpL P i) k i) := Lib.hid (by
              have h := HH.out
              rw [hji] at h
              exact hole_next h (by omega) (by omega) (by rw [hji] at hl; exact hl))
            have hX : ∀ wd : World, wd.heap = wr.heap → RowF ((wd.setCell ⟨g, j, none⟩ (.int .i64 (nth P i))).setCell ⟨g, i, none⟩ (.int .i64 (nth P j))) g n (nth (swpL P i)) := fun wd hwd => by
              have hF' : RowF wd g n (nth P) := by
                obtain ⟨N, f, h1, h2, h3⟩ := hF
                exact ⟨N, f, h1, h2.of_block (by rw [hwd]), h3⟩
              refine (hF'.set (G := fun q => if q = j then nth P i else nth P q) j _ (fun q _ => rfl)).set i _ (fun q hq => ?_)
              rw [swp_nth (by omega), hji]
            have hG : ∀ wd : World, (w.grownBy wd (some g)) → w.grownBy ((wd.setCell ⟨g, j, none⟩ (.int .i64 (nth P i))).setCell ⟨g, i, none⟩ (.int .i64 (nth P j))) (some g) := fun wd h => ngrown_setT (ngrown_setT h _ _) _ _
            have HX := Lib.hid hX
            have HG := Lib.hid hG
            have cK : ∀ nn, Calls Try.prog 51 #[.int .i64 (nth P j), .int .i64 (nth P i)] (wr.drewN nn) fun e w'' => e = .returned (.bool true) ∧ w'' = wr.drewN nn := fun nn => by
              have h := gless (nth P j) (nth P i) (wr.drewN nn)
              rw [hd] at h
              exact h
            clear hl hd hF hX hG hji hPl
            generalize nth P j = X at *
            generalize nth P i = Y at *
            go_wp2_with fail
            go_quiet (exact Calls.quiet_of_same (cK _))
            clear cK
            go_wp2_with fail
            go_region
            all_goals
              go_wp2_with fail
              go_roundw
              case rel => exact ⟨i, swpL P i, by omega, by go_num, HP2, HH2, HX.out _ rfl, HG.out _ (grown_drewN hg _)⟩
              case measure => simp [intOf]; omega
          · have hd : decide (nth P j < nth P i) = false := by simpa using hl
            have HS2 : Hid (SortTo P (k + 1)) := Lib.hid (hole_done HH.out (.inr (by rw [show j - 1 = i by omega]; omega)))
            have cK : ∀ nn, Calls Try.prog 51 #[.int .i64 (nth P j), .int .i64 (nth P i)] (wr.drewN nn) fun e w'' => e = .returned (.bool false) ∧ w'' = wr.drewN nn := fun nn => by
              have h := gless (nth P j) (nth P i) (wr.drewN nn)
              rw [hd] at h
              exact h
            have hFd := hF.below (below_drewN (Below.refl _ _) 0)
            have HFD : Hid (∀ nn, RowF (wr.drewN nn) g n (nth P)) := Lib.hid (fun nn => hF.below (below_drewN (Below.refl _ _) nn))
            clear hl hd hF hji hPl hFd
            generalize nth P j = X at *
            generalize nth P i = Y at *
            go_wp2_with fail
            go_quiet (exact Calls.quiet_of_same (cK _))
            clear cK
            go_wp2_with fail
            go_roundw
            case rel => exact ⟨k + 1, P, by omega, by omega, by go_num, HP, HS2, HFD.out _, grown_drewN hg _⟩
            case measure => simp [intOf]; omega
        · obtain rfl : j = 0 := by omega
          have HS2 : Hid (SortTo P (k + 1)) := Lib.hid (hole_done HH.out (.inl rfl))
          have HFD : Hid (∀ nn, RowF (wr.drewN nn) g n (nth P)) := Lib.hid (fun nn => hF.below (below_drewN (Below.refl _ _) nn))
          clear hF hj0
          go_wp2_with fail
          go_quiet (fail)
          go_wp2_with fail
          go_roundw
          case rel => exact ⟨k + 1, P, by omega, by omega, by go_num, HP, HS2, HFD.out _, grown_drewN hg _⟩
          case measure => simp [intOf]; omega
    · have HSN : Hid (SortTo P n) := Lib.hid (by
        intro a b h1 h2
        exact HS.out a b h1 (by omega))
      have hlt' : ¬ (k : Int) < (n : Int) := by omega
      go_wp2_with fail
      go_end0
      exact ⟨rfl, P, HP.out, HSN.out, hF, hg⟩

set_option maxRecDepth 100000 in
set_option maxHeartbeats 4000000 in
theorem gpdq (g n cap : Nat) (O : List Int) (r : Int) (w : World) (hO : O.length = n) (hn : n ≤ 8) (hF : RowF w g n (nth O)) :
    Calls Try.prog 42 #[.slice (some ⟨g, 0, none⟩) n cap, .int .i64 0, .int .i64 (n : Int), .int .i64 r] w fun e w' => e = .returned (.tuple #[]) ∧ ∃ P, List.Perm P O ∧ SortTo P n ∧ RowF w' g n (nth P) ∧ w.grownBy w' (some g) := by
  have hn12 : (n : Int) ≤ 12 := by omega
  go_enter Try.func42, Try.ntmps42
  go_wp2
  refine wp_loop_rounds 1 ?_
  rw [rounds_succ]
  go_wp2_with fail
  ((with_reducible refine (gins g n cap O _ hO (by omega) hF).mono ?_); rintro e w1 ⟨rfl, hP⟩)
  go_wp2
  exact bodyPost_ret (v := .tuple #[]) (by simp [results, Try.results42, go_sem]) rfl ⟨rfl, hP⟩
set_option maxHeartbeats 1000000 in
theorem gsortI (g n cap : Nat) (O : List Int) (w : World) (hO : O.length = n) (hn : n ≤ 8) (hF : RowF w g n (nth O)) :
    Calls Try.prog 36 #[.slice (some ⟨g, 0, none⟩) n cap] w fun e w' => e = .returned (.tuple #[]) ∧ ∃ P, List.Perm P O ∧ SortTo P n ∧ RowF w' g n (nth P) ∧ w.grownBy w' (some g) := by
  go_enter Try.func36, Try.ntmps36
  go_wp2_with fail
  ((with_reducible refine (glen (n : Int) (by omega) _).mono ?_); rintro e w1 ⟨⟨r, rfl⟩, rfl⟩)
  go_wp2_with fail
  ((with_reducible refine (gpdq g n cap O r _ hO hn hF).mono ?_); rintro e w2 ⟨rfl, hP⟩)
  go_wp2
  go_end0
  exact ⟨rfl, hP⟩

/-- A list turned round as far as i. -/
def revF (O : List Int) (n i q : Nat) : Int := if q < i ∨ n - i ≤ q then nth O (n - 1 - q) else nth O q
set_option maxRecDepth 8000 in
set_option maxHeartbeats 4000000 in
theorem grev (g n cap : Nat) (O : List Int) (w : World) (h1 : 1 ≤ n) (hn : n ≤ 1048576) (hF : RowF w g n (nth O)) :
    Calls Try.prog 37 #[.slice (some ⟨g, 0, none⟩) n cap] w fun e w' => e = .returned (.tuple #[]) ∧ RowF w' g n (fun q => nth O (n - 1 - q)) ∧ w.grownBy w' (some g) := by
  go_enter Try.func37, Try.ntmps37
  go_wp2_with fail
  go_loopw [2, 3] (fun i j wr => ∃ (k : Nat), 2 * k ≤ n + 1 ∧ i = .int .i64 k ∧ j = .int .i64 ((n : Int) - 1 - k) ∧ RowF wr g n (revF O n k) ∧ w.grownBy wr (some g)) (fun i _ _ => n - (intOf i).toNat)
  case atStart => exact ⟨0, by omega, rfl, by simp, hF.congr (fun q hq => by unfold revF; rw [if_neg (by omega)]), World.grownBy.refl _ _⟩
  case round =>
    clear hF
    obtain ⟨k, hk, rfl, rfl, hF, hg⟩ := hrel
    by_cases hlt : 2 * k + 1 < n
    · obtain ⟨j, hj⟩ : ∃ j, j = n - 1 - k := ⟨_, rfl⟩
      have hj' : (n : Int) - 1 - (k : Int) = (j : Int) := by omega
      rw [hj']
      have hkj : (k : Int) < (j : Int) := by omega
      have hkn : (k : Int) < (n : Int) := by omega
      have hjn : (j : Int) < (n : Int) := by omega
      have c0 := hF.cell (k := j) (by omega)
      have c1 := hF.cell (k := k) (by omega)
      have e0 : revF O n k j = nth O j := by unfold revF; rw [if_neg (by omega)]
      have e1 : revF O n k k = nth O k := by unfold revF; rw [if_neg (by omega)]
      rw [e0] at c0
      rw [e1] at c1
      have f0 := hF.frozen j
      have f1 := hF.frozen k
      have hX : ∀ wd : World, wd.heap = wr.heap → RowF ((wd.setCell ⟨g, k, none⟩ (.int .i64 (nth O j))).setCell ⟨g, j, none⟩ (.int .i64 (nth O k))) g n (revF O n (k + 1)) := fun wd hwd => by
        have hF' : RowF wd g n (revF O n k) := by
          obtain ⟨N, f, h1, h2, h3⟩ := hF
          exact ⟨N, f, h1, h2.of_block (by rw [hwd]), h3⟩
        refine (hF'.set (G := fun q => if q = k then nth O j else revF O n k q) k _ (fun q _ => rfl)).set j _ (fun q hq => ?_)
        unfold revF
        by_cases e2 : q = j
        · subst e2
          rw [if_pos (by omega), if_pos rfl]
          congr 1; omega
        · rw [if_neg e2]
          by_cases e3 : q = k
          · subst e3
            rw [if_pos (by omega), if_pos rfl]
            congr 1; omega
          · rw [if_neg e3]
            by_cases e4 : q < k ∨ n - k ≤ q
            · rw [if_pos (by omega), if_pos e4]
            · rw [if_neg (by omega), if_neg e4]
      have hG : ∀ wd : World, (w.grownBy wd (some g)) → w.grownBy ((wd.setCell ⟨g, k, none⟩ (.int .i64 (nth O j))).setCell ⟨g, j, none⟩ (.int .i64 (nth O k))) (some g) := fun wd h => ngrown_setT (ngrown_setT h _ _) _ _
      have HX := Lib.hid hX
      have HG := Lib.hid hG
      clear hF hX hG e0 e1 hj
      generalize nth O j = X at *
      generalize nth O k = Y at *
      go_wp2_with fail
      go_region
      all_goals
        go_wp2_with fail
        go_roundw
        case rel => exact ⟨k + 1, by omega, by go_num, by go_num, HX.out _ rfl, HG.out _ (grown_drew hg 0)⟩
        case measure => simp [intOf]; omega
    · have hlt' : ¬ (k : Int) < (n : Int) - 1 - (k : Int) := by omega
      have hF2 := hF.congr (G := fun q => nth O (n - 1 - q)) (fun q hq => by
        unfold revF
        by_cases e : q < k ∨ n - k ≤ q
        · rw [if_pos e]
        · rw [if_neg e]; congr 1; omega)
      clear hF
      go_wp2_with fail
      go_end0
      exact ⟨rfl, hF2, hg⟩
end Go.Proofs.Ytgbnlnpffhlipaa
