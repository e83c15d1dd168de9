/-
  WALKS: 'spec.l01List': lists of exponents. Conditions: d in 1..3.
-/
import Derived.Test.YtpnlpmalkiaioaaL
import Derived.Test.YtpnlpmalkiaioaaE
namespace Go.Proofs.Ytpnlpmalkiaioaa
open Go.RowKit Go.Sort

def padE (l : List Int) : Int × Int × Int := (l.getD 0 0, l.getD 1 0, l.getD 2 0)
/-- Exponents of a monomial in d letters, as a list. -/
def expsL (d : Int) (l : List Int) : Bool := decide ((l.length : Int) = d) && (l.all (fun x => decide (0 ≤ x)) && decide (l.sum ≤ 12))

/-- What 'l01List' promises. -/
def ListPost (d : Int) (l : List Int) (w : World) (e : Ending) (w' : World) : Prop :=
  ∃ x y z : Int, e = .returned (.tuple #[.agg #[.int .u8 x, .int .u8 y, .int .u8 z], .bool (expsL d l)]) ∧ (expsL d l = true → (x, y, z) = padE l) ∧ Below w.heap.size w w'

theorem range_yes (x : Int) (w : World) (h0 : 0 ≤ x) (h1 : x ≤ 12) : Calls Try.prog 30 #[.int .i64 x, .int .i64 0, .int .i64 12] w fun e w' => e = .returned (.bool true) ∧ w = w' :=
  sin_is x 0 12 w true (by simp [h0, h1])
theorem range_no (x : Int) (w : World) (h : x < 0 ∨ 12 < x) : Calls Try.prog 30 #[.int .i64 x, .int .i64 0, .int .i64 12] w fun e w' => e = .returned (.bool false) ∧ w = w' :=
  sin_is x 0 12 w false (by simp; omega)

set_option maxHeartbeats 1000000 in
theorem list1_bad0 (g o cap : Nat) (a : Int) (w : World) (hg : g < w.heap.size) (k0 : w.cell? ⟨g, o, none⟩ = some (.int .i64 a))  (hb : a < 0 ∨ 12 < a) :
    Calls Try.prog 31 #[.int .i64 1, .slice (some ⟨g, o, none⟩) 1 cap] w (ListPost 1 [a] w) := by
  have HX : Hid (expsL 1 [a] = false) := Lib.hid (by simp [expsL]; omega)
  go_enter Try.func31, Try.ntmps31
  go_wp2
  refine wp_loop_rounds 4 ?_
  rw [rounds_succ]; go_wp2_with fail
  ((with_reducible refine (range_no _ _ hb).mono ?_); rintro e w1 ⟨rfl, rfl⟩)
  go_wp2
  exact bodyPost_ret (v := .tuple #[.agg #[.int .u8 0, .int .u8 0, .int .u8 0], .bool (false)]) (by simp [results, Try.results31, go_sem]) rfl ⟨0, 0, 0, by rw [HX.out], by rw [HX.out]; simp, box2 _ _ _⟩

set_option maxHeartbeats 1000000 in
theorem list1_ok (g o cap : Nat) (a : Int) (w : World) (hg : g < w.heap.size) (k0 : w.cell? ⟨g, o, none⟩ = some (.int .i64 a)) (ha0 : 0 ≤ a) (ha1 : a ≤ 12) :
    Calls Try.prog 31 #[.int .i64 1, .slice (some ⟨g, o, none⟩) 1 cap] w (ListPost 1 [a] w) := by
  have HX : Hid (expsL 1 [a] = true) := Lib.hid (by simp [expsL, ha0, ha1])
  go_enter Try.func31, Try.ntmps31
  go_wp2
  refine wp_loop_rounds 4 ?_
  rw [rounds_succ]; go_wp2_with fail
  ((with_reducible refine (range_yes _ _ ha0 ha1).mono ?_); rintro e w1 ⟨rfl, rfl⟩)
  go_wp2
  rw [rounds_succ]; go_wp2
  exact bodyPost_ret (v := .tuple #[.agg #[.int .u8 a, .int .u8 0, .int .u8 0], .bool (true)]) (by simp [results, Try.results31, go_sem]) rfl ⟨a, 0, 0, by rw [HX.out], by rw [HX.out]; simp [padE], box2 _ _ _⟩

set_option maxHeartbeats 1000000 in
theorem list2_bad0 (g o cap : Nat) (a b : Int) (w : World) (hg : g < w.heap.size) (k0 : w.cell? ⟨g, o, none⟩ = some (.int .i64 a))  (hb : a < 0 ∨ 12 < a) :
    Calls Try.prog 31 #[.int .i64 2, .slice (some ⟨g, o, none⟩) 2 cap] w (ListPost 2 [a, b] w) := by
  have HX : Hid (expsL 2 [a, b] = false) := Lib.hid (by simp [expsL]; omega)
  go_enter Try.func31, Try.ntmps31
  go_wp2
  refine wp_loop_rounds 4 ?_
  rw [rounds_succ]; go_wp2_with fail
  ((with_reducible refine (range_no _ _ hb).mono ?_); rintro e w1 ⟨rfl, rfl⟩)
  go_wp2
  exact bodyPost_ret (v := .tuple #[.agg #[.int .u8 0, .int .u8 0, .int .u8 0], .bool (false)]) (by simp [results, Try.results31, go_sem]) rfl ⟨0, 0, 0, by rw [HX.out], by rw [HX.out]; simp, box2 _ _ _⟩

set_option maxHeartbeats 1000000 in
theorem list2_bad1 (g o cap : Nat) (a b : Int) (w : World) (hg : g < w.heap.size) (k0 : w.cell? ⟨g, o, none⟩ = some (.int .i64 a)) (k1 : w.cell? ⟨g, o + 1, none⟩ = some (.int .i64 b)) (ha0 : 0 ≤ a) (ha1 : a ≤ 12) (hb : b < 0 ∨ 12 < b) :
    Calls Try.prog 31 #[.int .i64 2, .slice (some ⟨g, o, none⟩) 2 cap] w (ListPost 2 [a, b] w) := by
  have HX : Hid (expsL 2 [a, b] = false) := Lib.hid (by simp [expsL]; omega)
  go_enter Try.func31, Try.ntmps31
  go_wp2
  refine wp_loop_rounds 4 ?_
  rw [rounds_succ]; go_wp2_with fail
  ((with_reducible refine (range_yes _ _ ha0 ha1).mono ?_); rintro e w1 ⟨rfl, rfl⟩)
  go_wp2
  rw [rounds_succ]; go_wp2_with fail
  ((with_reducible refine (range_no _ _ hb).mono ?_); rintro e w1 ⟨rfl, rfl⟩)
  go_wp2
  exact bodyPost_ret (v := .tuple #[.agg #[.int .u8 0, .int .u8 0, .int .u8 0], .bool (false)]) (by simp [results, Try.results31, go_sem]) rfl ⟨0, 0, 0, by rw [HX.out], by rw [HX.out]; simp, box2 _ _ _⟩

set_option maxHeartbeats 1000000 in
theorem list2_ok (g o cap : Nat) (a b : Int) (w : World) (hg : g < w.heap.size) (k0 : w.cell? ⟨g, o, none⟩ = some (.int .i64 a)) (k1 : w.cell? ⟨g, o + 1, none⟩ = some (.int .i64 b)) (ha0 : 0 ≤ a) (ha1 : a ≤ 12) (hb0 : 0 ≤ b) (hb1 : b ≤ 12) :
    Calls Try.prog 31 #[.int .i64 2, .slice (some ⟨g, o, none⟩) 2 cap] w (ListPost 2 [a, b] w) := by
  have HX : Hid (expsL 2 [a, b] = decide (a + b ≤ 12)) := Lib.hid (by simp [expsL, ha0, hb0]; try omega)
  go_enter Try.func31, Try.ntmps31
  go_wp2
  refine wp_loop_rounds 4 ?_
  rw [rounds_succ]; go_wp2_with fail
  ((with_reducible refine (range_yes _ _ ha0 ha1).mono ?_); rintro e w1 ⟨rfl, rfl⟩)
  go_wp2
  rw [rounds_succ]; go_wp2_with fail
  ((with_reducible refine (range_yes _ _ hb0 hb1).mono ?_); rintro e w1 ⟨rfl, rfl⟩)
  go_wp2
  rw [rounds_succ]; go_wp2
  exact bodyPost_ret (v := .tuple #[.agg #[.int .u8 a, .int .u8 b, .int .u8 0], .bool (decide (a + b ≤ 12))]) (by simp [results, Try.results31, go_sem]) rfl ⟨a, b, 0, by rw [HX.out], by rw [HX.out]; simp [padE], box2 _ _ _⟩

set_option maxHeartbeats 1000000 in
theorem list3_bad0 (g o cap : Nat) (a b c : Int) (w : World) (hg : g < w.heap.size) (k0 : w.cell? ⟨g, o, none⟩ = some (.int .i64 a))  (hb : a < 0 ∨ 12 < a) :
    Calls Try.prog 31 #[.int .i64 3, .slice (some ⟨g, o, none⟩) 3 cap] w (ListPost 3 [a, b, c] w) := by
  have HX : Hid (expsL 3 [a, b, c] = false) := Lib.hid (by simp [expsL]; omega)
  go_enter Try.func31, Try.ntmps31
  go_wp2
  refine wp_loop_rounds 4 ?_
  rw [rounds_succ]; go_wp2_with fail
  ((with_reducible refine (range_no _ _ hb).mono ?_); rintro e w1 ⟨rfl, rfl⟩)
  go_wp2
  exact bodyPost_ret (v := .tuple #[.agg #[.int .u8 0, .int .u8 0, .int .u8 0], .bool (false)]) (by simp [results, Try.results31, go_sem]) rfl ⟨0, 0, 0, by rw [HX.out], by rw [HX.out]; simp, box2 _ _ _⟩

set_option maxHeartbeats 1000000 in
theorem list3_bad1 (g o cap : Nat) (a b c : Int) (w : World) (hg : g < w.heap.size) (k0 : w.cell? ⟨g, o, none⟩ = some (.int .i64 a)) (k1 : w.cell? ⟨g, o + 1, none⟩ = some (.int .i64 b)) (ha0 : 0 ≤ a) (ha1 : a ≤ 12) (hb : b < 0 ∨ 12 < b) :
    Calls Try.prog 31 #[.int .i64 3, .slice (some ⟨g, o, none⟩) 3 cap] w (ListPost 3 [a, b, c] w) := by
  have HX : Hid (expsL 3 [a, b, c] = false) := Lib.hid (by simp [expsL]; omega)
  go_enter Try.func31, Try.ntmps31
  go_wp2
  refine wp_loop_rounds 4 ?_
  rw [rounds_succ]; go_wp2_with fail
  ((with_reducible refine (range_yes _ _ ha0 ha1).mono ?_); rintro e w1 ⟨rfl, rfl⟩)
  go_wp2
  rw [rounds_succ]; go_wp2_with fail
  ((with_reducible refine (range_no _ _ hb).mono ?_); rintro e w1 ⟨rfl, rfl⟩)
  go_wp2
  exact bodyPost_ret (v := .tuple #[.agg #[.int .u8 0, .int .u8 0, .int .u8 0], .bool (false)]) (by simp [results, Try.results31, go_sem]) rfl ⟨0, 0, 0, by rw [HX.out], by rw [HX.out]; simp, box2 _ _ _⟩

set_option maxHeartbeats 1000000 in
theorem list3_bad2 (g o cap : Nat) (a b c : Int) (w : World) (hg : g < w.heap.size) (k0 : w.cell? ⟨g, o, none⟩ = some (.int .i64 a)) (k1 : w.cell? ⟨g, o + 1, none⟩ = some (.int .i64 b)) (k2 : w.cell? ⟨g, o + 2, none⟩ = some (.int .i64 c)) (ha0 : 0 ≤ a) (ha1 : a ≤ 12) (hb0 : 0 ≤ b) (hb1 : b ≤ 12) (hb : c < 0 ∨ 12 < c) :
    Calls Try.prog 31 #[.int .i64 3, .slice (some ⟨g, o, none⟩) 3 cap] w (ListPost 3 [a, b, c] w) := by
  have HX : Hid (expsL 3 [a, b, c] = false) := Lib.hid (by simp [expsL]; omega)
  go_enter Try.func31, Try.ntmps31
  go_wp2
  refine wp_loop_rounds 4 ?_
  rw [rounds_succ]; go_wp2_with fail
  ((with_reducible refine (range_yes _ _ ha0 ha1).mono ?_); rintro e w1 ⟨rfl, rfl⟩)
  go_wp2
  rw [rounds_succ]; go_wp2_with fail
  ((with_reducible refine (range_yes _ _ hb0 hb1).mono ?_); rintro e w1 ⟨rfl, rfl⟩)
  go_wp2
  rw [rounds_succ]; go_wp2_with fail
  ((with_reducible refine (range_no _ _ hb).mono ?_); rintro e w1 ⟨rfl, rfl⟩)
  go_wp2
  exact bodyPost_ret (v := .tuple #[.agg #[.int .u8 0, .int .u8 0, .int .u8 0], .bool (false)]) (by simp [results, Try.results31, go_sem]) rfl ⟨0, 0, 0, by rw [HX.out], by rw [HX.out]; simp, box2 _ _ _⟩

set_option maxHeartbeats 1000000 in
theorem list3_ok (g o cap : Nat) (a b c : Int) (w : World) (hg : g < w.heap.size) (k0 : w.cell? ⟨g, o, none⟩ = some (.int .i64 a)) (k1 : w.cell? ⟨g, o + 1, none⟩ = some (.int .i64 b)) (k2 : w.cell? ⟨g, o + 2, none⟩ = some (.int .i64 c)) (ha0 : 0 ≤ a) (ha1 : a ≤ 12) (hb0 : 0 ≤ b) (hb1 : b ≤ 12) (hc0 : 0 ≤ c) (hc1 : c ≤ 12) :
    Calls Try.prog 31 #[.int .i64 3, .slice (some ⟨g, o, none⟩) 3 cap] w (ListPost 3 [a, b, c] w) := by
  have HX : Hid (expsL 3 [a, b, c] = decide (a + b + c ≤ 12)) := Lib.hid (by simp [expsL, ha0, hb0, hc0]; try omega)
  go_enter Try.func31, Try.ntmps31
  go_wp2
  refine wp_loop_rounds 4 ?_
  rw [rounds_succ]; go_wp2_with fail
  ((with_reducible refine (range_yes _ _ ha0 ha1).mono ?_); rintro e w1 ⟨rfl, rfl⟩)
  go_wp2
  rw [rounds_succ]; go_wp2_with fail
  ((with_reducible refine (range_yes _ _ hb0 hb1).mono ?_); rintro e w1 ⟨rfl, rfl⟩)
  go_wp2
  rw [rounds_succ]; go_wp2_with fail
  ((with_reducible refine (range_yes _ _ hc0 hc1).mono ?_); rintro e w1 ⟨rfl, rfl⟩)
  go_wp2
  rw [rounds_succ]; go_wp2
  exact bodyPost_ret (v := .tuple #[.agg #[.int .u8 a, .int .u8 b, .int .u8 c], .bool (decide (a + b + c ≤ 12))]) (by simp [results, Try.results31, go_sem]) rfl ⟨a, b, c, by rw [HX.out], by rw [HX.out]; simp [padE], box2 _ _ _⟩

theorem list_len (d : Int) (a : Option Addr) (n cap : Nat) (l : List Int) (w : World) (hl : l.length = n) (h : ¬ (n : Int) = d) :
    Calls Try.prog 31 #[.int .i64 d, .slice a n cap] w (ListPost d l w) := by
  have hne : ((n : Int) != d) = true := by simp [h]
  have HX : Hid (expsL d l = false) := Lib.hid (by simp [expsL, hl, h])
  go_enter Try.func31, Try.ntmps31
  go_wp2
  exact bodyPost_ret (v := .tuple #[.agg #[.int .u8 0, .int .u8 0, .int .u8 0], .bool false]) (by simp [results, Try.results31, go_sem]) rfl ⟨0, 0, 0, by rw [HX.out], by rw [HX.out]; simp, box2 _ _ _⟩

end Go.Proofs.Ytpnlpmalkiaioaa
