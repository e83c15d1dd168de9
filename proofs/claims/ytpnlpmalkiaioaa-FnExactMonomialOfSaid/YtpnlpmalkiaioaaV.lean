/-
  WALKS: 'CoefficientAt' of model and program. Conditions: as each theorem states.
-/
import Derived.Test.YtpnlpmalkiaioaaU
namespace Go.Proofs.Ytpnlpmalkiaioaa
open Go.RowKit Go.Sort

theorem areExps_any (d : Int) (v : Value) (l : List Int) (w : World) (hd : 1 ≤ d) (hl : l.length ≤ 1048576) (hS : SliceI w v l) :
    Calls Try.prog 35 #[.int .i64 d, v] w fun e w' => e = .returned (.bool (decide ((l.length : Int) = d) && l.all (fun x => decide (0 ≤ x)))) ∧ w = w' := by
  obtain ⟨a, cap, rfl, h⟩ := hS
  by_cases he : (l.length : Int) = d
  · have he1 : ((l.length : Int) == d) = true := by simp [he]
    rcases h with rfl | ⟨b, off, rfl, hlt, hT⟩
    · simp at he; omega
    · have hD : decide ((l.length : Int) = d) = true := by simp [he]
      have HD := Lib.hid hD
      clear he hD
      go_enter Try.func35, Try.ntmps35
      go_wp2_with fail
      ((with_reducible refine (contains_is b off cap l w hl hT).mono ?_); rintro e w1 ⟨rfl, rfl⟩)
      go_wp2
      go_ret
      exact ⟨by rw [HD.out]; simp, rfl⟩
  · have he1 : ((l.length : Int) == d) = false := by simp [he]
    have HD : Hid (decide ((l.length : Int) = d) = false) := Lib.hid (by simp [he])
    clear he h
    go_enter Try.func35, Try.ntmps35
    go_wp2
    go_ret
    exact ⟨by rw [HD.out]; rfl, rfl⟩

theorem sum_step (l : List Int) (k : Nat) (h : k < l.length) : (l.take (k + 1)).sum = (l.take k).sum + l[k] := by
  rw [List.take_succ_eq_append_getElem h, List.sum_append]; simp
theorem sum_take (l : List Int) (hp : ∀ x ∈ l, 0 ≤ x) : ∀ k, (l.take k).sum ≤ l.sum := by
  induction l with
  | nil => intro k; simp
  | cons a r ih =>
    intro k
    have ha := hp a (by simp)
    have hr : ∀ x ∈ r, 0 ≤ x := fun x hx => hp x (by simp [hx])
    cases k with
    | zero =>
      have h0 := ih hr 0
      simp at h0 ⊢
      omega
    | succ k => have := ih hr k; simp; omega

set_option maxHeartbeats 1000000 in
theorem capped64_any (b off cap : Nat) (l : List Int) (w : World) (hl : l.length ≤ 1048576) (hT : CellsI w b off l) (hp : ∀ x ∈ l, 0 ≤ x) :
    Calls Try.prog 37 #[.slice (some ⟨b, off, none⟩) l.length cap] w fun e w' => e = .returned (.int .i64 (capd l.sum)) ∧ w = w' := by
  have HP := Lib.hid hp
  clear hp
  go_enter Try.func37, Try.ntmps37
  go_wp2
  go_loop [3, 8] (fun s i => ∃ (k : Nat) (S : Int), k ≤ l.length ∧ i = .int .i64 k ∧ s = .int .i64 S ∧ Hid (S = (l.take k).sum) ∧ 0 ≤ S ∧ S ≤ 12) (fun _ i => l.length - (intOf i).toNat)
  case atStart => exact ⟨0, 0, by omega, rfl, rfl, Lib.hid (by simp), by omega, by omega⟩
  case round =>
    obtain ⟨k, S, hk, rfl, rfl, HS, h0, h12⟩ := hrel
    by_cases hlt : k < l.length
    · have hlt' : (k : Int) < (l.length : Int) := by omega
      have c0 := hT k hlt
      have hx := HP.out _ (List.getElem_mem hlt)
      have H2 := Lib.hid (sum_step l k hlt)
      by_cases hbig : 12 - S < l[k]
      · have HC : Hid (capd l.sum = 13) := Lib.hid (by
          have h1 := sum_take l HP.out (k + 1)
          rw [H2.out, ← HS.out] at h1
          unfold capd; rw [if_neg (by omega)])
        go_wp2
        go_ret
        exact ⟨by rw [HC.out]; rfl, rfl⟩
      · go_wp2
        go_round
        case rel => exact ⟨k + 1, S + l[k], by omega, by go_num, by go_num, Lib.hid (by rw [H2.out, ← HS.out]), by omega, by omega⟩
        case measure => simp [intOf]; omega
    · obtain rfl : k = l.length := by omega
      have HC : Hid (capd l.sum = S) := Lib.hid (by
        have := HS.out
        rw [List.take_length] at this
        unfold capd; rw [← this, if_pos h12])
      go_wp2
      go_ret
      exact ⟨by rw [HC.out]; rfl, rfl⟩

set_option maxHeartbeats 1000000 in
theorem expsOf1 (g o cap : Nat) (a : Int) (w : World) (hg : g < w.heap.size) (k0 : w.cell? ⟨g, o, none⟩ = some (.int .i64 a)) (ha0 : 0 ≤ a) (ha1 : a ≤ 12) :
    Calls Try.prog 39 #[.slice (some ⟨g, o, none⟩) 1 cap] w fun e w' => e = .returned (.agg #[.int .u8 a, .int .u8 0, .int .u8 0]) ∧ Below w.heap.size w w' := by
  go_enter Try.func39, Try.ntmps39
  go_wp2
  refine wp_loop_rounds 4 ?_
  iterate 4 (all_goals (try (rw [rounds_succ]; go_wp2)))
  exact bodyPost_ret (v := .agg #[.int .u8 a, .int .u8 0, .int .u8 0]) (by simp [results, Try.results39, go_sem]) rfl ⟨rfl, box2 _ _ _⟩

set_option maxHeartbeats 1000000 in
theorem expsOf2 (g o cap : Nat) (a b : Int) (w : World) (hg : g < w.heap.size) (k0 : w.cell? ⟨g, o, none⟩ = some (.int .i64 a)) (k1 : w.cell? ⟨g, o + 1, none⟩ = some (.int .i64 b)) (ha0 : 0 ≤ a) (ha1 : a ≤ 12) (hb0 : 0 ≤ b) (hb1 : b ≤ 12) :
    Calls Try.prog 39 #[.slice (some ⟨g, o, none⟩) 2 cap] w fun e w' => e = .returned (.agg #[.int .u8 a, .int .u8 b, .int .u8 0]) ∧ Below w.heap.size w w' := by
  go_enter Try.func39, Try.ntmps39
  go_wp2
  refine wp_loop_rounds 4 ?_
  iterate 4 (all_goals (try (rw [rounds_succ]; go_wp2)))
  exact bodyPost_ret (v := .agg #[.int .u8 a, .int .u8 b, .int .u8 0]) (by simp [results, Try.results39, go_sem]) rfl ⟨rfl, box2 _ _ _⟩

set_option maxHeartbeats 1000000 in
theorem expsOf3 (g o cap : Nat) (a b c : Int) (w : World) (hg : g < w.heap.size) (k0 : w.cell? ⟨g, o, none⟩ = some (.int .i64 a)) (k1 : w.cell? ⟨g, o + 1, none⟩ = some (.int .i64 b)) (k2 : w.cell? ⟨g, o + 2, none⟩ = some (.int .i64 c)) (ha0 : 0 ≤ a) (ha1 : a ≤ 12) (hb0 : 0 ≤ b) (hb1 : b ≤ 12) (hc0 : 0 ≤ c) (hc1 : c ≤ 12) :
    Calls Try.prog 39 #[.slice (some ⟨g, o, none⟩) 3 cap] w fun e w' => e = .returned (.agg #[.int .u8 a, .int .u8 b, .int .u8 c]) ∧ Below w.heap.size w w' := by
  go_enter Try.func39, Try.ntmps39
  go_wp2
  refine wp_loop_rounds 4 ?_
  iterate 4 (all_goals (try (rw [rounds_succ]; go_wp2)))
  exact bodyPost_ret (v := .agg #[.int .u8 a, .int .u8 b, .int .u8 c]) (by simp [results, Try.results39, go_sem]) rfl ⟨rfl, box2 _ _ _⟩

theorem expsOf_any (d : Int) (b off cap : Nat) (l : List Int) (w : World) (h3 : d ≤ 3) (hb : b < w.heap.size) (hT : CellsI w b off l) (hne : l ≠ []) (hok : expsL d l = true) :
    Calls Try.prog 39 #[.slice (some ⟨b, off, none⟩) l.length cap] w fun e w' => e = .returned (.agg #[.int .u8 (padE l).1, .int .u8 (padE l).2.1, .int .u8 (padE l).2.2]) ∧ Below w.heap.size w w' := by
  simp only [expsL, Bool.and_eq_true, decide_eq_true_eq, List.all_eq_true] at hok
  obtain ⟨hlen, hp, hs⟩ := hok
  match l, hT, hne with
  | [a], hT, _ =>
    have ha := hp a (by simp)
    simp at hs
    exact expsOf1 b off cap a w hb (hT 0 (by simp)) ha hs
  | [a, c], hT, _ =>
    have ha := hp a (by simp)
    have hc := hp c (by simp)
    simp at hs
    exact expsOf2 b off cap a c w hb (hT 0 (by simp)) (hT 1 (by simp)) ha (by omega) hc (by omega)
  | [a, c, e], hT, _ =>
    have ha := hp a (by simp)
    have hc := hp c (by simp)
    have he := hp e (by simp)
    simp at hs
    exact expsOf3 b off cap a c e w hb (hT 0 (by simp)) (hT 1 (by simp)) (hT 2 (by simp)) ha (by omega) hc (by omega) he (by omega)
  | _ :: _ :: _ :: _ :: r, _, _ => simp at hlen; omega

end Go.Proofs.Ytpnlpmalkiaioaa
