/-
  SERIES read from behind: the model's walk and the program's. Conditions: as each theorem states.
-/
import Derived.Test.YtfbagpndkihcpaaRa
namespace Go.Proofs.Ytfbagpndkihcpaa
open Go.RowKit Go.Sort EchM

/-- How many of the first n numbers are left without the zeros at the end. -/
def endN (l : List Int) : Nat → Nat
  | 0 => 0
  | n + 1 => if nth l n = 0 then endN l n else n + 1
theorem endN_le (l : List Int) : ∀ n, endN l n ≤ n
  | 0 => Nat.le_refl _
  | n + 1 => by
    unfold endN
    split
    · have := endN_le l n; omega
    · omega
def palB (l : List Int) (e k : Nat) : Bool := (List.range k).all fun i => nth l i == nth l (e - 1 - i)
theorem palB_next {l : List Int} {e k : Nat} : palB l e (k + 1) = (palB l e k && (nth l k == nth l (e - 1 - k))) := by
  unfold palB
  rw [List.range_succ, List.all_append]
  simp
theorem palB_false {l : List Int} {e k : Nat} (hk : k < e) (h : (nth l k == nth l (e - 1 - k)) = false) : palB l e e = false := by
  unfold palB
  rw [List.all_eq_false]
  exact ⟨k, by simpa using hk, by simp [h]⟩
def rBack (a : List Int) : Bool × Int := if serB a then (decide (0 < endN a a.length) && palB a (endN a a.length) (endN a a.length), 0) else (false, 2)

set_option maxRecDepth 8000 in
set_option maxHeartbeats 8000000 in
theorem sBack (va : Value) (a : List Int) (w : World) (hla : a.length ≤ 1048576) (hSa : Sl w va a) :
    Calls Try.prog 19 #[va] w fun e w' => e = .returned (.tuple #[.bool (rBack a).1, .int .i64 (rBack a).2]) ∧ Below w.heap.size w w' := by
  obtain ⟨aa, ac, rfl, hca⟩ := id hSa
  cases h1 : serB a
  · have HX : Hid (rBack a = (false, 2)) := Lib.hid (by simp [rBack, h1])
    have H1 := Lib.hid h1
    clear h1
    go_enter Try.func19, Try.ntmps19
    go_wp2_with fail
    ((with_reducible refine (sser _ a _ hla hSa).mono ?_); rintro e w1 ⟨rfl, rfl⟩)
    rw [H1.out]
    go_wp2_with fail
    go_ret2
    rw [HX.out]
    exact ⟨rfl, Below.refl _ _⟩
  have HR : Hid (rBack a = (decide (0 < endN a a.length) && palB a (endN a a.length) (endN a a.length), 0)) := Lib.hid (by simp [rBack, h1])
  obtain ⟨la1, la2⟩ := serB_len h1
  have H1 := Lib.hid h1
  clear h1
  obtain ⟨g1, o1, rfl, hb1, hT1⟩ : ∃ b off, aa = some ⟨b, off, none⟩ ∧ b < w.heap.size ∧ Cs w b off a := by
    rcases hca with rfl | h
    · simp at la1
    · exact h
  clear hca
  go_enter Try.func19, Try.ntmps19
  go_wp2_with fail
  ((with_reducible refine (sser _ a _ hla hSa).mono ?_); rintro e w1 ⟨rfl, rfl⟩)
  rw [H1.out]
  go_wp2_with fail
  go_loopw [4] (fun u wr => ∃ (n : Nat), n ≤ a.length ∧ u = .int .i64 n ∧ Hid (endN a a.length = endN a n) ∧ w1 = wr) (fun u _ => (intOf u).toNat)
  case atStart => exact ⟨a.length, by omega, rfl, Lib.hid rfl, rfl⟩
  case round =>
    obtain ⟨n, hn, rfl, HE, rfl⟩ := hrel
    by_cases hz : 0 < n ∧ nth a (n - 1) = 0
    · obtain ⟨hn0, hz⟩ := hz
      obtain ⟨k, hkn⟩ : ∃ k, n = k + 1 := ⟨n - 1, by omega⟩
      have hk0 : (0 : Int) < (n : Int) := by omega
      have hk1 : (n : Int) - 1 = (k : Int) := by omega
      have hka : (k : Int) < (a.length : Int) := by omega
      have c0 := hT1 k (by omega)
      have e0 := nth_lt (r := a) (show k < a.length by omega)
      rw [← e0, show nth a k = 0 by rw [hkn] at hz; exact hz] at c0
      have HN : Hid (endN a a.length = endN a k) := Lib.hid (by rw [HE.out, hkn, endN, if_pos (by rw [hkn] at hz; exact hz)])
      clear hz e0 hkn
      go_wp2_with fail
      go_roundw
      case rel => exact ⟨k, by omega, by go_num, HN, trivial⟩
      case measure => simp [intOf]; omega
    · have HEN : Hid (endN a a.length = n) := Lib.hid (by
        rw [HE.out]
        cases n with
        | zero => rfl
        | succ k => rw [endN, if_neg]; intro h; exact hz ⟨by omega, h⟩)
      have HR2 : Hid (rBack a = (decide (0 < n) && palB a n n, 0)) := Lib.hid (by rw [HR.out, HEN.out])
      by_cases hn0 : 0 < n
      · obtain ⟨k, hkn⟩ : ∃ k, n = k + 1 := ⟨n - 1, by omega⟩
        have hk0 : (0 : Int) < (n : Int) := by omega
        have hk1 : (n : Int) - 1 = (k : Int) := by omega
        have hka : (k : Int) < (a.length : Int) := by omega
        have c0 := hT1 k (by omega)
        have e0 := nth_lt (r := a) (show k < a.length by omega)
        rw [← e0] at c0
        have hz' : (nth a k == 0) = false := by
          simp only [beq_eq_false_iff_ne, ne_eq]
          exact fun h => hz ⟨by omega, by rw [hkn]; exact h⟩
        clear hz e0 hkn
        generalize nth a k = X at c0 hz'
        go_wp2_with fail
        clear c0 hz'
        go_loopw [5, 6] (fun s u wr => ∃ (i : Nat), i ≤ n ∧ s = .bool (palB a n i) ∧ u = .int .i64 i ∧ ∃ nd, wr = w1.drewN nd) (fun _ u _ => n - (intOf u).toNat)
        case atStart => exact ⟨0, by omega, rfl, rfl, 0, rfl⟩
        case round =>
          obtain ⟨i, hi, rfl, rfl, nd, rfl⟩ := hrel
          by_cases hik : i < n
          · have hik' : (i : Int) < (n : Int) := by omega
            have hia : (i : Int) < (a.length : Int) := by omega
            have hki0 : ¬ (k : Int) - (i : Int) < 0 := by omega
            have hki1 : (k : Int) - (i : Int) < (a.length : Int) := by omega
            have hki2 : ((k : Int) - (i : Int)).toNat = k - i := by omega
            have c0 := hT1 i (by omega)
            have c1 := hT1 (k - i) (by omega)
            have e0 := nth_lt (r := a) (show i < a.length by omega)
            have e1 := nth_lt (r := a) (show k - i < a.length by omega)
            rw [← e0] at c0
            rw [← e1] at c1
            have HP := Lib.hid (palB_next (l := a) (e := n) (k := i))
            rw [show n - 1 - i = k - i by omega] at HP
            clear e0 e1
            generalize nth a i = X at *
            generalize nth a (k - i) = Y at *
            cases hB : palB a n i
            · have HX : Hid (palB a n (i + 1) = false) := Lib.hid (by rw [HP.out, hB]; rfl)
              clear hB
              go_wp2_with fail
              go_quiet (fail)
              go_wp2_with fail
              go_roundw
              case rel => exact ⟨i + 1, by omega, by rw [HX.out], by go_num, _, rfl⟩
              case measure => simp [intOf]; omega
            · have HX : Hid (palB a n (i + 1) = (X == Y)) := Lib.hid (by rw [HP.out, hB]; rfl)
              clear hB
              go_wp2_with fail
              go_quiet (fail)
              go_wp2_with fail
              go_roundw
              case rel => exact ⟨i + 1, by omega, by rw [HX.out], by go_num, _, rfl⟩
              case measure => simp [intOf]; omega
          · obtain rfl : i = n := by omega
            go_wp2_with fail
            go_ret2
            rw [HR2.out]
            exact ⟨by rw [decide_eq_true (show 0 < i by omega)]; simp, below_drewN (Below.refl _ _) nd⟩
      · obtain rfl : n = 0 := by omega
        clear hz hn0
        go_wp2_with fail
        go_loopw [5, 6] (fun s u wr => s = .bool false ∧ u = .int .i64 0 ∧ w1 = wr) (fun _ u _ => 0)
        case atStart => exact ⟨rfl, rfl, rfl⟩
        case round =>
          obtain ⟨rfl, rfl, rfl⟩ := hrel
          go_wp2_with fail
          go_ret2
          rw [HR2.out]
          exact ⟨by simp, Below.refl _ _⟩

set_option maxRecDepth 8000 in
set_option maxHeartbeats 8000000 in
theorem iBack (va : Value) (a : List Int) (w : World) (hla : a.length ≤ 1048576) (hSa : Sl w va a) :
    Calls Try.prog 20 #[va] w fun e w' => e = .returned (.tuple #[.bool (rBack a).1, .int .i64 (rBack a).2]) ∧ Below w.heap.size w w' := by
  obtain ⟨aa, ac, rfl, hca⟩ := id hSa
  cases h1 : serB a
  · have HX : Hid (rBack a = (false, 2)) := Lib.hid (by simp [rBack, h1])
    have H1 := Lib.hid h1
    clear h1
    go_enter Try.func20, Try.ntmps20
    go_wp2_with fail
    ((with_reducible refine (iser _ a _ hla hSa).mono ?_); rintro e w1 ⟨rfl, rfl⟩)
    rw [H1.out]
    go_wp2_with fail
    go_ret2
    rw [HX.out]
    exact ⟨rfl, Below.refl _ _⟩
  have HR : Hid (rBack a = (decide (0 < endN a a.length) && palB a (endN a a.length) (endN a a.length), 0)) := Lib.hid (by simp [rBack, h1])
  obtain ⟨la1, la2⟩ := serB_len h1
  have H1 := Lib.hid h1
  clear h1
  obtain ⟨g1, o1, rfl, hb1, hT1⟩ : ∃ b off, aa = some ⟨b, off, none⟩ ∧ b < w.heap.size ∧ Cs w b off a := by
    rcases hca with rfl | h
    · simp at la1
    · exact h
  clear hca
  go_enter Try.func20, Try.ntmps20
  go_wp2_with fail
  ((with_reducible refine (iser _ a _ hla hSa).mono ?_); rintro e w1 ⟨rfl, rfl⟩)
  rw [H1.out]
  go_wp2_with fail
  go_loopw [4] (fun u wr => ∃ (n : Nat), n ≤ a.length ∧ u = .int .i64 n ∧ Hid (endN a a.length = endN a n) ∧ w1 = wr) (fun u _ => (intOf u).toNat)
  case atStart => exact ⟨a.length, by omega, rfl, Lib.hid rfl, rfl⟩
  case round =>
    obtain ⟨n, hn, rfl, HE, rfl⟩ := hrel
    by_cases hz : 0 < n ∧ nth a (n - 1) = 0
    · obtain ⟨hn0, hz⟩ := hz
      obtain ⟨k, hkn⟩ : ∃ k, n = k + 1 := ⟨n - 1, by omega⟩
      have hk0 : (0 : Int) < (n : Int) := by omega
      have hk1 : (n : Int) - 1 = (k : Int) := by omega
      have hka : (k : Int) < (a.length : Int) := by omega
      have c0 := hT1 k (by omega)
      have e0 := nth_lt (r := a) (show k < a.length by omega)
      rw [← e0, show nth a k = 0 by rw [hkn] at hz; exact hz] at c0
      have HN : Hid (endN a a.length = endN a k) := Lib.hid (by rw [HE.out, hkn, endN, if_pos (by rw [hkn] at hz; exact hz)])
      clear hz e0 hkn
      go_wp2_with fail
      go_roundw
      case rel => exact ⟨k, by omega, by go_num, HN, trivial⟩
      case measure => simp [intOf]; omega
    · have HEN : Hid (endN a a.length = n) := Lib.hid (by
        rw [HE.out]
        cases n with
        | zero => rfl
        | succ k => rw [endN, if_neg]; intro h; exact hz ⟨by omega, h⟩)
      have HR2 : Hid (rBack a = (decide (0 < n) && palB a n n, 0)) := Lib.hid (by rw [HR.out, HEN.out])
      by_cases hn0 : 0 < n
      · obtain ⟨k, hkn⟩ : ∃ k, n = k + 1 := ⟨n - 1, by omega⟩
        have hk0 : (0 : Int) < (n : Int) := by omega
        have hk1 : (n : Int) - 1 = (k : Int) := by omega
        have hka : (k : Int) < (a.length : Int) := by omega
        have c0 := hT1 k (by omega)
        have e0 := nth_lt (r := a) (show k < a.length by omega)
        rw [← e0] at c0
        have hz' : (nth a k == 0) = false := by
          simp only [beq_eq_false_iff_ne, ne_eq]
          exact fun h => hz ⟨by omega, by rw [hkn]; exact h⟩
        clear hz e0 hkn
        generalize nth a k = X at c0 hz'
        go_wp2_with fail
        clear c0 hz'
        go_loopw [24] (fun u wr => ∃ (i : Nat), i ≤ n ∧ u = .int .i64 i ∧ Hid (palB a n i = true) ∧ ∃ nd, wr = w1.drewN nd) (fun u _ => n - (intOf u).toNat)
        case atStart => exact ⟨0, by omega, rfl, Lib.hid rfl, 0, rfl⟩
        case round =>
          obtain ⟨i, hi, rfl, HB, nd, rfl⟩ := hrel
          by_cases hik : i < n
          · have hik' : (i : Int) < (n : Int) := by omega
            have hia : (i : Int) < (a.length : Int) := by omega
            have hki0 : ¬ (k : Int) - (i : Int) < 0 := by omega
            have hki1 : (k : Int) - (i : Int) < (a.length : Int) := by omega
            have hki2 : ((k : Int) - (i : Int)).toNat = k - i := by omega
            have c0 := hT1 i (by omega)
            have c1 := hT1 (k - i) (by omega)
            have e0 := nth_lt (r := a) (show i < a.length by omega)
            have e1 := nth_lt (r := a) (show k - i < a.length by omega)
            rw [← e0] at c0
            rw [← e1] at c1
            have HP := Lib.hid (palB_next (l := a) (e := n) (k := i))
            have HQ := Lib.hid (palB_false (l := a) (e := n) (k := i) hik)
            rw [show n - 1 - i = k - i by omega] at HP HQ
            clear e0 e1
            generalize nth a i = X at *
            generalize nth a (k - i) = Y at *
            by_cases hXY : X = Y
            · subst hXY
              have HX : Hid (palB a n (i + 1) = true) := Lib.hid (by rw [HP.out, HB.out]; simp)
              have hne : (X != X) = false := by simp
              go_wp2_with fail
              go_quiet (fail)
              go_wp2_with fail
              go_roundw
              case rel => exact ⟨i + 1, by omega, by go_num, HX, _, rfl⟩
              case measure => simp [intOf]; omega
            · have HX : Hid (palB a n n = false) := Lib.hid (HQ.out (by simpa using hXY))
              have hne : (X != Y) = true := by simpa using hXY
              clear hXY
              go_wp2_with fail
              go_quiet (fail)
              go_wp2_with fail
              go_ret2
              rw [HR2.out, HX.out]
              exact ⟨by simp, below_drewN (below_drewN (Below.refl _ _) _) _⟩
          · obtain rfl : i = n := by omega
            go_wp2_with fail
            go_ret2
            rw [HR2.out, HB.out]
            exact ⟨by rw [decide_eq_true (show 0 < i by omega)]; simp, below_drewN (Below.refl _ _) nd⟩
      · obtain rfl : n = 0 := by omega
        clear hz hn0
        go_wp2_with fail
        go_loopw [24] (fun u wr => u = .int .i64 0 ∧ w1 = wr) (fun u _ => 0)
        case atStart => exact ⟨rfl, rfl⟩
        case round =>
          obtain ⟨rfl, rfl⟩ := hrel
          go_wp2_with fail
          go_ret2
          rw [HR2.out]
          exact ⟨by simp, Below.refl _ _⟩
end Go.Proofs.Ytfbagpndkihcpaa
