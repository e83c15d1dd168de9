/-
  WALKS of the small functions on exponents: sums, bounds, equality. Conditions: none beyond what each theorem states.
  WALKS: primes, comparing monomials (model and program). Conditions: exponents are bytes.
  WALKS: copying terms and polynomials from the law's types into the program's. Conditions: as each theorem states.
  WALKS: whether something is a polynomial (model and program). Conditions: exponents are bytes.
  KEYS: three bytes as a map's key. Conditions: as each theorem states.
  WALKS: 'impl.IsPoly' computes isPolyB. Conditions: the terms are bytes and 64-bit numbers; at most 2^20 of them.
-/
import Derived.Test.YtbhgbifliihlbaaRows
import Derived.WalkKit
import Derived.WalkSpells
import Derived.WalkLawsBesides
import Derived.Lib.QuietBelow
import Derived.Deep.Light
import Derived.Lib.Hide
import Derived.StillTailTactics
import Derived.Deep.OwnRows
import Derived.Maps.Own
import Derived.Maps.OwnOps
import Derived.Maps.RangeWalk
import Derived.Maps.Views
import Derived.DeepKeys4
import Derived.BigQuiet
namespace Go.Proofs.Ytbhgbifliihlbaa
open Go.RowKit Go.Sort

theorem box1 (w : World) (o : Obj) : Below w.heap.size w (w.alloc o) := (Below.refl _ _).alloc (Nat.le_refl _) o
theorem box2 (w : World) (o p : Obj) : Below w.heap.size w ((w.alloc o).alloc p) := (box1 w o).alloc (by simp) p

set_option maxHeartbeats 400000 in
theorem in_any (n a b : Int) (w : World) :
    Calls Try.prog 41 #[.int .i64 n, .int .i64 a, .int .i64 b] w fun e w' => e = .returned (.bool (decide (a ≤ n) && decide (n ≤ b))) ∧ w = w' := by
  by_cases h : a ≤ n
  · go_enter Try.func41, Try.ntmps41
    go_wp2
    go_ret
    exact ⟨by simp; omega, rfl⟩
  · go_enter Try.func41, Try.ntmps41
    go_wp2
    go_ret
    exact ⟨by simp; omega, rfl⟩

set_option maxHeartbeats 400000 in
theorem sum_any (x y z : Int) (w : World) (hx : 0 ≤ x ∧ x ≤ 255) (hy : 0 ≤ y ∧ y ≤ 255) (hz : 0 ≤ z ∧ z ≤ 255) :
    Calls Try.prog 94 #[.agg #[.int .u8 x, .int .u8 y, .int .u8 z]] w fun e w' => e = .returned (.int .i64 (x + y + z)) ∧ Below w.heap.size w w' := by
  obtain ⟨hx1, hx2⟩ := hx
  obtain ⟨hy1, hy2⟩ := hy
  obtain ⟨hz1, hz2⟩ := hz
  go_enter Try.func94, Try.ntmps94
  go_wp2
  go_ret
  exact ⟨rfl, (Below.refl _ _).alloc (Nat.le_refl _) _⟩

/-- What the capped sum gives. -/
def capd (s : Int) : Int := if s ≤ 12 then s else 13

set_option maxHeartbeats 1000000 in
theorem capped_any (b o cap : Nat) (x y z : Int) (w : World) (hx : 0 ≤ x ∧ x ≤ 255) (hy : 0 ≤ y ∧ y ≤ 255) (hz : 0 ≤ z ∧ z ≤ 255)
    (c0 : w.cell? ⟨b, o, none⟩ = some (.int .u8 x)) (c1 : w.cell? ⟨b, o + 1, none⟩ = some (.int .u8 y)) (c2 : w.cell? ⟨b, o + 2, none⟩ = some (.int .u8 z)) :
    Calls Try.prog 103 #[.slice (some ⟨b, o, none⟩) 3 cap] w fun e w' => e = .returned (.int .i64 (capd (x + y + z))) ∧ w = w' := by
  obtain ⟨hx1, hx2⟩ := hx
  obtain ⟨hy1, hy2⟩ := hy
  obtain ⟨hz1, hz2⟩ := hz
  by_cases h1 : 12 < x
  · go_enter Try.func103, Try.ntmps103
    go_wp2
    refine wp_loop_rounds 4 ?_
    rw [rounds_succ]; go_wp2
    go_ret
    exact ⟨by simp [capd]; omega, rfl⟩
  · by_cases h2 : 12 - x < y
    · go_enter Try.func103, Try.ntmps103
      go_wp2
      refine wp_loop_rounds 4 ?_
      rw [rounds_succ]; go_wp2
      rw [rounds_succ]; go_wp2
      go_ret
      exact ⟨by simp [capd]; omega, rfl⟩
    · by_cases h3 : 12 - (x + y) < z
      · go_enter Try.func103, Try.ntmps103
        go_wp2
        refine wp_loop_rounds 4 ?_
        rw [rounds_succ]; go_wp2
        rw [rounds_succ]; go_wp2
        rw [rounds_succ]; go_wp2
        go_ret
        exact ⟨by simp [capd]; omega, rfl⟩
      · go_enter Try.func103, Try.ntmps103
        go_wp2
        refine wp_loop_rounds 4 ?_
        rw [rounds_succ]; go_wp2
        rw [rounds_succ]; go_wp2
        rw [rounds_succ]; go_wp2
        rw [rounds_succ]; go_wp2
        go_ret
        exact ⟨by simp [capd]; omega, rfl⟩

/-- The exponents beyond the letters are 0. -/
def tailOk (d x y z : Int) : Bool := (decide (0 < d) || x == 0) && (decide (1 < d) || y == 0) && (decide (2 < d) || z == 0)
/-- Exponents of a monomial in d letters. -/
def expsOk (d x y z : Int) : Bool := tailOk d x y z && decide (x + y + z ≤ 12)

set_option maxHeartbeats 1000000 in
theorem exps_any (d x y z : Int) (w : World) (hd : 1 ≤ d ∧ d ≤ 3) (hx : 0 ≤ x ∧ x ≤ 255) (hy : 0 ≤ y ∧ y ≤ 255) (hz : 0 ≤ z ∧ z ≤ 255) :
    Calls Try.prog 106 #[.int .i64 d, .agg #[.int .u8 x, .int .u8 y, .int .u8 z]] w fun e w' => e = .returned (.bool (expsOk d x y z)) ∧ Below w.heap.size w w' := by
  have ho : d = 1 ∨ d = 2 ∨ d = 3 := by omega
  clear hd
  rcases ho with rfl | rfl | rfl
  all_goals
    go_enter Try.func106, Try.ntmps106
    go_wp2
    refine wp_loop_rounds 4 ?_
    iterate 4 (all_goals (try (rw [rounds_succ]; go_wp2_with (go_at_call 94; refine (sum_any x y z _ hx hy hz).mono ?_; rintro e w1 ⟨rfl, hb⟩))))
    all_goals go_ret
    all_goals refine ⟨?_, ?_⟩
    all_goals first | exact box1 _ _ | exact (box1 _ _).trans (hb.mono (by simp)) | (go_light; simp_all [expsOk, tailOk]; done)

set_option maxHeartbeats 1000000 in
theorem monomial_any (d x y z : Int) (w : World) (hd : 1 ≤ d ∧ d ≤ 3) (hx : 0 ≤ x ∧ x ≤ 255) (hy : 0 ≤ y ∧ y ≤ 255) (hz : 0 ≤ z ∧ z ≤ 255) :
    Calls Try.prog 110 #[.int .i64 d, .agg #[.int .u8 x, .int .u8 y, .int .u8 z]] w fun e w' => e = .returned (.bool (expsOk d x y z)) ∧ Below w.heap.size w w' := by
  have ho : d = 1 ∨ d = 2 ∨ d = 3 := by omega
  clear hd
  rcases ho with rfl | rfl | rfl
  all_goals
    go_enter Try.func110, Try.ntmps110
    go_wp2
    refine wp_loop_rounds 4 ?_
    iterate 4 (all_goals (try (rw [rounds_succ]; go_wp2_with (go_at_call 103; refine (capped_any _ _ _ x y z _ hx hy hz (by simp [World.cell?_alloc_at]) (by simp [World.cell?_alloc_at]) (by simp [World.cell?_alloc_at])).mono ?_; rintro e w1 ⟨rfl, rfl⟩))))
    all_goals go_ret
    all_goals refine ⟨?_, box1 _ _⟩
    all_goals go_light
    all_goals simp_all [expsOk, tailOk, capd]
    all_goals (split <;> simp <;> omega)

set_option maxHeartbeats 1000000 in
theorem eqExps_any (x y z x' y' z' : Int) (w : World) :
    Calls Try.prog 127 #[.agg #[.int .u8 x, .int .u8 y, .int .u8 z], .agg #[.int .u8 x', .int .u8 y', .int .u8 z']] w fun e w' => e = .returned (.bool (x == x' && y == y' && z == z')) ∧ Below w.heap.size w w' := by
  go_enter Try.func127, Try.ntmps127
  go_wp2
  refine wp_loop_rounds 4 ?_
  iterate 4 (all_goals (try (rw [rounds_succ]; go_wp2; try (go_quiet (fail); go_wp2))))
  all_goals go_ret
  all_goals refine ⟨?_, by repeat (first | exact box2 _ _ _ | refine below_drewN ?_ _)⟩
  all_goals go_light
  all_goals simp_all

theorem eqExps_refl (x y z : Int) (w : World) :
    Calls Try.prog 127 #[.agg #[.int .u8 x, .int .u8 y, .int .u8 z], .agg #[.int .u8 x, .int .u8 y, .int .u8 z]] w fun e w' => e = .returned (.bool true) ∧ Below w.heap.size w w' :=
  (eqExps_any x y z x y z w).mono fun _ _ ⟨he, hb⟩ => ⟨by rw [he]; simp, hb⟩

end Go.Proofs.Ytbhgbifliihlbaa
namespace Go.Proofs.Ytbhgbifliihlbaa
open Go.RowKit Go.Sort

def primeB (p : Int) : Bool := p == 2 || p == 3 || p == 5 || p == 7 || p == 11 || p == 13
theorem prime_cases (p : Int) : (p = 2 ∨ p = 3 ∨ p = 5 ∨ p = 7 ∨ p = 11 ∨ p = 13) ∨ (p == 2) = false ∧ (p == 3) = false ∧ (p == 5) = false ∧ (p == 7) = false ∧ (p == 11) = false ∧ (p == 13) = false := by
  simp; omega

set_option maxHeartbeats 1000000 in
theorem specPrime_any (p : Int) (w : World) : Calls Try.prog 40 #[.int .i64 p] w fun e w' => e = .returned (.bool (primeB p)) ∧ w = w' := by
  rcases prime_cases p with (rfl | rfl | rfl | rfl | rfl | rfl) | ⟨h2, h3, h5, h7, h11, h13⟩
  all_goals
    go_enter Try.func40, Try.ntmps40
    go_wp2
    go_ret
    first | exact ⟨rfl, rfl⟩ | exact ⟨by simp [primeB, h2, h3, h5, h7, h11, h13], rfl⟩

set_option maxHeartbeats 1000000 in
theorem prime_any (p : Int) (w : World) : Calls Try.prog 44 #[.int .i64 p] w fun e w' => e = .returned (.bool (primeB p)) ∧ w = w' := by
  rcases prime_cases p with (rfl | rfl | rfl | rfl | rfl | rfl) | ⟨h2, h3, h5, h7, h11, h13⟩
  all_goals
    go_enter Try.func44, Try.ntmps44
    go_wp2
    go_ret
    first | exact ⟨rfl, rfl⟩ | exact ⟨by simp [primeB, h2, h3, h5, h7, h11, h13], rfl⟩

def cmpI (a b : Int) : Int := if a < b then -1 else if b < a then 1 else 0

theorem compare64nan (a : Int) (w : World) : Calls Try.prog 136 #[.int .i64 a] w fun e w' => e = .returned (.bool false) ∧ w = w' := by
  have ha : (a != a) = false := by simp
  go_enter Try.func136, Try.ntmps136
  go_wp2
  go_ret
  exact ⟨rfl, rfl⟩
set_option maxHeartbeats 1000000 in
theorem compare64_any (a b : Int) (w : World) : Calls Try.prog 130 #[.int .i64 a, .int .i64 b] w fun e w' => e = .returned (.int .i64 (cmpI a b)) ∧ w' = w := by
  go_enter Try.func130, Try.ntmps130
  go_wp2_with fail
  ((with_reducible refine (compare64nan a _).mono ?_); rintro e w1 ⟨rfl, rfl⟩)
  go_wp2_with fail
  ((with_reducible refine (compare64nan b _).mono ?_); rintro e w1 ⟨rfl, rfl⟩)
  go_wp2
  all_goals go_ret
  all_goals refine ⟨?_, rfl⟩
  all_goals go_light
  all_goals (unfold cmpI; congr 2; (repeat' split) <;> first | rfl | (exfalso; omega))

theorem compare8nan (a : Int) (w : World) : Calls Try.prog 137 #[.int .u8 a] w fun e w' => e = .returned (.bool false) ∧ w = w' := by
  have ha : (a != a) = false := by simp
  go_enter Try.func137, Try.ntmps137
  go_wp2
  go_ret
  exact ⟨rfl, rfl⟩
set_option maxHeartbeats 1000000 in
theorem compare8_any (a b : Int) (w : World) : Calls Try.prog 131 #[.int .u8 a, .int .u8 b] w fun e w' => e = .returned (.int .i64 (cmpI a b)) ∧ w' = w := by
  go_enter Try.func131, Try.ntmps131
  go_wp2_with fail
  ((with_reducible refine (compare8nan a _).mono ?_); rintro e w1 ⟨rfl, rfl⟩)
  go_wp2_with fail
  ((with_reducible refine (compare8nan b _).mono ?_); rintro e w1 ⟨rfl, rfl⟩)
  go_wp2
  all_goals go_ret
  all_goals refine ⟨?_, rfl⟩
  all_goals go_light
  all_goals (unfold cmpI; congr 2; (repeat' split) <;> first | rfl | (exfalso; omega))

def or3 (x y z : Int) : Int := if x = 0 then (if y = 0 then z else y) else x

set_option maxHeartbeats 1000000 in
theorem or_any (b : Nat) (x y z : Int) (w : World) (c0 : w.cell? ⟨b, 0, none⟩ = some (.int .i64 x)) (c1 : w.cell? ⟨b, 1, none⟩ = some (.int .i64 y)) (c2 : w.cell? ⟨b, 2, none⟩ = some (.int .i64 z)) :
    Calls Try.prog 129 #[.slice (some ⟨b, 0, none⟩) 3 3] w fun e w' => e = .returned (.int .i64 (or3 x y z)) ∧ w = w' := by
  go_enter Try.func129, Try.ntmps129
  go_wp2
  refine wp_loop_rounds 4 ?_
  iterate 4 (all_goals (try (rw [rounds_succ]; go_wp2)))
  all_goals go_ret
  all_goals refine ⟨?_, rfl⟩
  all_goals go_light
  all_goals (unfold or3; congr 2; simp_all)

theorem capped_still (b o cap : Nat) (x y z : Int) (w : World) (hx : 0 ≤ x ∧ x ≤ 255) (hy : 0 ≤ y ∧ y ≤ 255) (hz : 0 ≤ z ∧ z ≤ 255)
    (c0 : w.cell? ⟨b, o, none⟩ = some (.int .u8 x)) (c1 : w.cell? ⟨b, o + 1, none⟩ = some (.int .u8 y)) (c2 : w.cell? ⟨b, o + 2, none⟩ = some (.int .u8 z)) :
    Calls Try.prog 103 #[.slice (some ⟨b, o, none⟩) 3 cap] w fun e w' => e = .returned (.int .i64 (capd (x + y + z))) ∧ w' = w :=
  (capped_any b o cap x y z w hx hy hz c0 c1 c2).mono fun _ _ ⟨he, hw⟩ => ⟨he, hw.symm⟩

/-- A region whose first n operations leave the world alone and whose others follow one another. -/
theorem region_tail {P : Program} {id : Nat} {Q : Exit → Act → World → Prop} {a : Act} {w : World} {l : List Oper} (n : Nat) (hm : P.follows .mixedOrders = true) (hB : Region.lexTailB .any l.toArray n = true)
    (h : wpStill P l.toArray w.drew (fun a' => wpList P l.toArray Q (l.drop n) a' w.drew) (l.take n) a) : (Code.region id l.toArray true).wp P Q a w :=
  wp_region_still_tail n hm hB h

/-- What the program's comparison gives. -/
def cmpE (a b : Int × Int × Int) : Int := or3 (cmpI (capd (a.1 + a.2.1 + a.2.2)) (capd (b.1 + b.2.1 + b.2.2))) (cmpI b.1 a.1) (cmpI b.2.1 a.2.1)

set_option maxHeartbeats 2000000 in
set_option maxRecDepth 100000 in
theorem compareExps_any (x y z x' y' z' : Int) (w : World) (hx : 0 ≤ x ∧ x ≤ 255) (hy : 0 ≤ y ∧ y ≤ 255) (hz : 0 ≤ z ∧ z ≤ 255) (hx' : 0 ≤ x' ∧ x' ≤ 255) (hy' : 0 ≤ y' ∧ y' ≤ 255) (hz' : 0 ≤ z' ∧ z' ≤ 255) :
    Calls Try.prog 111 #[.agg #[.int .u8 x, .int .u8 y, .int .u8 z], .agg #[.int .u8 x', .int .u8 y', .int .u8 z']] w fun e w' => e = .returned (.int .i64 (cmpE (x, y, z) (x', y', z'))) ∧ Below w.heap.size w w' := by
  go_enter Try.func111, Try.ntmps111
  go_wp2
  refine region_tail 15 (by kernel_rfl) (by kernel_rfl) ?_
  simp only [List.take_succ_cons, List.take_zero, List.drop_succ_cons, List.drop_zero]
  repeat still_step
  still_call (capped_still _ _ _ x y z _ hx hy hz (by go_simp) (by go_simp) (by go_simp))
  repeat still_step
  still_call (capped_still _ _ _ x' y' z' _ hx' hy' hz' (by go_simp) (by go_simp) (by go_simp))
  repeat still_step
  still_call (compare64_any _ _ _)
  repeat still_step
  still_call (compare8_any _ _ _)
  repeat still_step
  still_call (compare8_any _ _ _)
  repeat still_step
  refine wpStill_nil ?_
  go_wp2_with fail
  ((with_reducible refine (or_any _ (cmpI (capd (x + y + z)) (capd (x' + y' + z'))) (cmpI x' x) (cmpI y' y) _ (by go_simp) (by go_simp) (by go_simp)).mono ?_); rintro e w1 ⟨rfl, rfl⟩)
  go_wp2
  go_ret
  exact ⟨rfl, ((box2 _ _ _).alloc (by simp; omega) _).drew⟩

end Go.Proofs.Ytbhgbifliihlbaa
namespace Go.Proofs.Ytbhgbifliihlbaa
open Go.RowKit Go.Sort

/-- A term: three exponents and a value. -/
abbrev Tm := Int × Int × Int × Int
def tmArr (t : Tm) : Array Value := #[.int .u8 t.1, .int .u8 t.2.1, .int .u8 t.2.2.1, .int .i64 t.2.2.2]
theorem infoTerm : (Try.prog.info? 115).map (fun i => (i.zero, i.size, i.bytes)) = some (some (.agg #[.int .u8 0, .int .u8 0, .int .u8 0, .int .i64 0]), 4, 16) := by kernel_rfl

theorem box3 (w : World) (o p q : Obj) : Below w.heap.size w (((w.alloc o).alloc p).alloc q) := (box2 w o p).alloc (by simp; omega) q

set_option maxHeartbeats 1000000 in
theorem toExps_any (x y z : Int) (w : World) :
    Calls Try.prog 128 #[.agg #[.int .u8 x, .int .u8 y, .int .u8 z]] w fun e w' => e = .returned (.agg #[.int .u8 x, .int .u8 y, .int .u8 z]) ∧ Below w.heap.size w w' := by
  go_enter Try.func128, Try.ntmps128
  go_wp2
  refine wp_loop_rounds 4 ?_
  iterate 4 (all_goals (try (rw [rounds_succ]; go_wp2)))
  exact bodyPost_ret (v := .agg #[.int .u8 x, .int .u8 y, .int .u8 z]) (by simp [results, Try.results128, go_sem]) rfl ⟨rfl, box3 _ _ _ _⟩

/-- Old cells and old marks, read behind a call. -/
theorem old_cells {W w1 : World} (hb : Below W.heap.size W w1) : (∀ b o, b < W.heap.size → w1.cell? ⟨b, o, none⟩ = W.cell? ⟨b, o, none⟩) ∧ (∀ b o, b < W.heap.size → w1.frozen? ⟨b, o, none⟩ = W.frozen? ⟨b, o, none⟩) :=
  ⟨fun b o h => hb.cell (p := ⟨b, o, none⟩) h, fun b o h => hb.frozen (p := ⟨b, o, none⟩) h⟩

set_option maxHeartbeats 1000000 in
theorem toTerm_any (x y z v : Int) (w : World) :
    Calls Try.prog 109 #[.agg #[.int .u8 x, .int .u8 y, .int .u8 z, .int .i64 v]] w fun e w' => e = .returned (.agg #[.int .u8 x, .int .u8 y, .int .u8 z, .int .i64 v]) ∧ Below w.heap.size w w' := by
  go_enter Try.func109, Try.ntmps109
  go_wp2_with fail
  ((with_reducible refine (toExps_any x y z _).mono ?_); rintro e w1 ⟨rfl, hb⟩)
  obtain ⟨hc, hf⟩ := old_cells hb
  have hz : w.heap.size + 1 + 1 < w1.heap.size := by have := hb.size; simp at this; omega
  have hb0 := (box3 _ _ _ _).trans (hb.mono (by simp; omega))
  clear hb
  go_wp2
  exact bodyPost_ret (v := .agg #[.int .u8 x, .int .u8 y, .int .u8 z, .int .i64 v]) (by simp [results, Try.results109, go_sem, hc]) rfl ⟨rfl, by repeat (first | with_reducible exact hb0 | with_reducible refine Below.setCell ?_ (by simp; try omega) _)⟩

/-- The four cells of term k of a list stand at 'off + k * 4' of block b. -/
def Terms (w : World) (b off : Nat) (ts : List Tm) : Prop :=
  ∀ (k : Nat) (h : k < ts.length), w.cell? ⟨b, off + k * 4, none⟩ = some (.int .u8 ts[k].1) ∧ w.cell? ⟨b, off + k * 4 + 1, none⟩ = some (.int .u8 ts[k].2.1) ∧ w.cell? ⟨b, off + k * 4 + 2, none⟩ = some (.int .u8 ts[k].2.2.1) ∧ w.cell? ⟨b, off + k * 4 + 3, none⟩ = some (.int .i64 ts[k].2.2.2)
theorem Terms.below {w w' : World} {b off : Nat} {ts : List Tm} {B : Nat} (h : Terms w b off ts) (hb : Below B w w') (hB : b < B) : Terms w' b off ts := fun k hk => by
  obtain ⟨h0, h1, h2, h3⟩ := h k hk
  exact ⟨(hb.cell (p := ⟨b, _, none⟩) hB).trans h0, (hb.cell (p := ⟨b, _, none⟩) hB).trans h1, (hb.cell (p := ⟨b, _, none⟩) hB).trans h2, (hb.cell (p := ⟨b, _, none⟩) hB).trans h3⟩

/-- What row g holds behind k rounds: the first k terms. -/
def rowT (ts : List Tm) (k : Nat) (f : Nat → Value) : Prop :=
  ∀ (j : Nat) (h : j < ts.length), j < k → f (j * 4) = .int .u8 ts[j].1 ∧ f (j * 4 + 1) = .int .u8 ts[j].2.1 ∧ f (j * 4 + 2) = .int .u8 ts[j].2.2.1 ∧ f (j * 4 + 3) = .int .i64 ts[j].2.2.2

theorem rowT_step {ts : List Tm} {k : Nat} {f : Nat → Value} (h : rowT ts k f) (hk : k < ts.length) :
    rowT ts (k + 1) (fun j => if j = k * 4 + 3 then .int .i64 ts[k].2.2.2 else if j = k * 4 + 2 then .int .u8 ts[k].2.2.1 else if j = k * 4 + 1 then .int .u8 ts[k].2.1 else if j = k * 4 then .int .u8 ts[k].1 else f j) := by
  intro j hj hjk
  by_cases e : j = k
  · subst e
    refine ⟨?_, ?_, ?_, ?_⟩
    all_goals dsimp only
    · rw [if_neg (by omega), if_neg (by omega), if_neg (by omega), if_pos rfl]
    · rw [if_neg (by omega), if_neg (by omega), if_pos rfl]
    · rw [if_neg (by omega), if_pos rfl]
    · rw [if_pos rfl]
  · obtain ⟨h0, h1, h2, h3⟩ := h j hj (by omega)
    refine ⟨?_, ?_, ?_, ?_⟩
    all_goals dsimp only
    all_goals rw [if_neg (by omega), if_neg (by omega), if_neg (by omega), if_neg (by omega)]
    · exact h0
    · exact h1
    · exact h2
    · exact h3

theorem rowIs_below {w w' : World} {b n B : Nat} {t : TypeId} {f : Nat → Value} (h : w.rowIs b t n f) (hb : Below B w w') (hB : b < B) : w'.rowIs b t n f := h.of_block (hb.block b hB)

def madeT (n : Nat) : Array Value := madeCells (Value.agg #[.int .u8 0, .int .u8 0, .int .u8 0, .int .i64 0]).cells (n * 4)
theorem madeT_row (w : World) (n : Nat) (t : TypeId) : (w.alloc (.cells (madeT n) t)).rowIs w.heap.size t (n * 4) (fun i => (madeT n).getD i undef) := by
  have hs : (madeT n).size = n * 4 := by simp [madeT, madeCells]
  refine ⟨madeT n, heap_alloc_new w _, hs, fun i hi => ?_⟩
  simp [Array.getD, hs, hi]

set_option maxHeartbeats 1000000 in
theorem toTermS_some (b off cap : Nat) (ts : List Tm) (w : World) (hl : ts.length ≤ 1048576) (hb : b < w.heap.size) (hT : Terms w b off ts) :
    Calls Try.prog 67 #[.slice (some ⟨b, off, none⟩) ts.length cap] w fun e w' =>
      e = .returned (.slice (some ⟨w.heap.size, 0, none⟩) ts.length ts.length) ∧ ∃ f, w'.rowIs w.heap.size 115 (ts.length * 4) f ∧ rowT ts ts.length f ∧ Below w.heap.size w w' := by
  obtain ⟨i0, hi, hz0, hz1, hz2⟩ := info_parts infoTerm
  have hmk : ∀ w, (Instr.makeSlice 38 (.int .i64 (ts.length : Int)) (.int .i64 (ts.length : Int))).run Try.prog w = .ok (.slice (some ⟨w.heap.size, 0, none⟩) ts.length ts.length) (w.alloc (.cells (madeT ts.length) 115)) := fun w => by
    have h := run_make (P := Try.prog) w 38 115 i0 _ Try.underlying38 hi hz0 .i64 .i64 (ts.length : Int) (ts.length : Int) (by omega) (by omega) (by rw [hz2]; omega) (by omega)
    rw [hz1] at h
    simpa [madeT] using h
  clear hi hz0 hz1 hz2
  go_enter Try.func67, Try.ntmps67
  go_wp2
  go_loopw [4] (fun i wr => ∃ k : Nat, k ≤ ts.length ∧ i = .int .i64 k ∧ Below w.heap.size w wr ∧ w.heap.size < wr.heap.size ∧ ∃ f, wr.rowIs w.heap.size 115 (ts.length * 4) f ∧ rowT ts k f) (fun i _ => ts.length - (intOf i).toNat)
  case atStart => exact ⟨0, by omega, rfl, box1 _ _, by simp, _, madeT_row w _ _, fun j _ h => by omega⟩
  case round =>
    obtain ⟨k, hk, rfl, hbel, hsz, f, hrow, hrt⟩ := hrel
    by_cases hlt : k < ts.length
    · have hlt' : (k : Int) < (ts.length : Int) := by omega
      obtain ⟨c0, c1, c2, c3⟩ := (hT.below hbel hb) k hlt
      go_wp2_with fail
      ((with_reducible refine (toTerm_any ts[k].1 ts[k].2.1 ts[k].2.2.1 ts[k].2.2.2 _).mono ?_); rintro e w1 ⟨rfl, hb1⟩)
      have row1 := rowIs_below hrow hb1 hsz
      have d0 := row1.cell (i := k * 4) (by omega)
      have d1 := row1.cell (i := k * 4 + 1) (by omega)
      have d2 := row1.cell (i := k * 4 + 2) (by omega)
      have d3 := row1.cell (i := k * 4 + 3) (by omega)
      have f0 := row1.frozen (k * 4)
      have f1 := row1.frozen (k * 4 + 1)
      have f2 := row1.frozen (k * 4 + 2)
      have f3 := row1.frozen (k * 4 + 3)
      have hbel1 := hbel.trans (hb1.mono (Nat.le_of_lt hsz))
      have hsz1 := Nat.lt_of_lt_of_le hsz hb1.size
      have R := rowT_step hrt hlt
      have rows := (((row1.set (k * 4) (.int .u8 ts[k].1)).set (k * 4 + 1) (.int .u8 ts[k].2.1)).set (k * 4 + 2) (.int .u8 ts[k].2.2.1)).set (k * 4 + 3) (.int .i64 ts[k].2.2.2)
      clear hb1 row1
      go_wp2
      go_roundw
      case rel => exact ⟨k + 1, by omega, by go_num, (((hbel1.setCell (Nat.le_refl _) _).setCell (Nat.le_refl _) _).setCell (Nat.le_refl _) _).setCell (Nat.le_refl _) _, by simpa using hsz1, _, rows, R⟩
      case measure => simp [intOf]; omega
    · obtain rfl : k = ts.length := by omega
      go_wp2
      go_ret
      exact ⟨rfl, f, hrow, hrt, hbel⟩

end Go.Proofs.Ytbhgbifliihlbaa
namespace Go.Proofs.Ytbhgbifliihlbaa
open Go.RowKit Go.Sort

/-- The order of monomials. -/
def beforeB (a b : Int × Int × Int) : Bool :=
  if a.1 + a.2.1 + a.2.2 = b.1 + b.2.1 + b.2.2 then (if a.1 = b.1 then decide (b.2.1 < a.2.1) else decide (b.1 < a.1)) else decide (a.1 + a.2.1 + a.2.2 < b.1 + b.2.1 + b.2.2)
def byte3 (a : Int × Int × Int) : Prop := (0 ≤ a.1 ∧ a.1 ≤ 255) ∧ (0 ≤ a.2.1 ∧ a.2.1 ≤ 255) ∧ (0 ≤ a.2.2 ∧ a.2.2 ≤ 255)
theorem cmpE_before (a b : Int × Int × Int) (ha : a.1 + a.2.1 + a.2.2 ≤ 12) (hb : b.1 + b.2.1 + b.2.2 ≤ 12) : decide (0 ≤ cmpE a b) = !beforeB a b := by
  unfold cmpE beforeB or3 cmpI capd
  rw [if_pos ha, if_pos hb]
  (repeat' split) <;> simp <;> omega

theorem sum_regrown (x y z : Int) (W : World) (hx : 0 ≤ x ∧ x ≤ 255) (hy : 0 ≤ y ∧ y ≤ 255) (hz : 0 ≤ z ∧ z ≤ 255) (d : Nat) (os : Array Obj) :
    Calls Try.prog 94 #[.agg #[.int .u8 x, .int .u8 y, .int .u8 z]] (grow (redrawn W d) os) fun e w'' => e = .returned (.int .i64 (x + y + z)) ∧ ∃ p : Regrown, w'' = grow (redrawn W p.d) p.os :=
  Calls.regrown_of (sum_any x y z _ hx hy hz)

set_option maxHeartbeats 2000000 in
theorem before_any (x y z x' y' z' : Int) (w : World) (hx : 0 ≤ x ∧ x ≤ 255) (hy : 0 ≤ y ∧ y ≤ 255) (hz : 0 ≤ z ∧ z ≤ 255) (hx' : 0 ≤ x' ∧ x' ≤ 255) (hy' : 0 ≤ y' ∧ y' ≤ 255) (hz' : 0 ≤ z' ∧ z' ≤ 255) :
    Calls Try.prog 107 #[.agg #[.int .u8 x, .int .u8 y, .int .u8 z], .agg #[.int .u8 x', .int .u8 y', .int .u8 z']] w fun e w' => e = .returned (.bool (beforeB (x, y, z) (x', y', z'))) ∧ Below w.heap.size w w' := by
  obtain ⟨W, hW, hbW, a0, a1, a2, b0, b1, b2⟩ : ∃ W, W = (w.alloc (.cells #[.int .u8 x, .int .u8 y, .int .u8 z] 113)).alloc (.cells #[.int .u8 x', .int .u8 y', .int .u8 z'] 113) ∧ Below w.heap.size w W ∧
      W.cell? ⟨w.heap.size, 0, none⟩ = some (.int .u8 x) ∧ W.cell? ⟨w.heap.size, 1, none⟩ = some (.int .u8 y) ∧ W.cell? ⟨w.heap.size, 2, none⟩ = some (.int .u8 z) ∧
      W.cell? ⟨w.heap.size + 1, 0, none⟩ = some (.int .u8 x') ∧ W.cell? ⟨w.heap.size + 1, 1, none⟩ = some (.int .u8 y') ∧ W.cell? ⟨w.heap.size + 1, 2, none⟩ = some (.int .u8 z') :=
    ⟨_, rfl, box2 _ _ _, by go_simp, by go_simp, by go_simp, by go_simp, by go_simp, by go_simp⟩
  have k0 := cell_regrown a0
  have k1 := cell_regrown a1
  have k2 := cell_regrown a2
  have l0 := cell_regrown b0
  have l1 := cell_regrown b1
  have l2 := cell_regrown b2
  have cA := sum_regrown x y z W hx hy hz
  have cB := sum_regrown x' y' z' W hx' hy' hz'
  by_cases hs : x + y + z = x' + y' + z'
  · have hn : ((x + y + z) != (x' + y' + z')) = false := by simp [hs]
    have HS := Lib.hid hs
    clear hs
    go_enter Try.func107, Try.ntmps107
    go_wp2
    rw [← hW]
    clear hW
    refine wp_region_quiet_below (by kernel_rfl) (by kernel_rfl) ?_
    repeat (quiet_step (first | with_reducible exact cA _ _ | with_reducible exact cB _ _))
    refine wpQuiet_nil ?_
    intro _ hw'
    obtain ⟨⟨dq, osq⟩, hw''⟩ := hw'
    subst hw''
    go_wp2
    all_goals go_ret
    all_goals refine ⟨?_, hbW.trans ((below_regrown W dq osq).mono hbW.size)⟩
    all_goals go_light
    all_goals (simp [beforeB, HS.out]; simp_all)
  · have hn : ((x + y + z) != (x' + y' + z')) = true := by simp [hs]
    have HS := Lib.hid hs
    clear hs
    go_enter Try.func107, Try.ntmps107
    go_wp2
    rw [← hW]
    clear hW
    refine wp_region_quiet_below (by kernel_rfl) (by kernel_rfl) ?_
    repeat (quiet_step (first | with_reducible exact cA _ _ | with_reducible exact cB _ _))
    refine wpQuiet_nil ?_
    intro _ hw'
    obtain ⟨⟨dq, osq⟩, hw''⟩ := hw'
    subst hw''
    have hb2 := below_regrown W dq osq
    have m0 := k0 dq osq
    have m1 := k1 dq osq
    have m2 := k2 dq osq
    have n0 := l0 dq osq
    have n1 := l1 dq osq
    have n2 := l2 dq osq
    clear k0 k1 k2 l0 l1 l2 cA cB a0 a1 a2 b0 b1 b2
    generalize grow (redrawn W dq) osq = V at *
    have k0 := cell_regrown m0
    have k1 := cell_regrown m1
    have k2 := cell_regrown m2
    have l0 := cell_regrown n0
    have l1 := cell_regrown n1
    have l2 := cell_regrown n2
    have cA := sum_regrown x y z V hx hy hz
    have cB := sum_regrown x' y' z' V hx' hy' hz'
    go_wp2
    refine wp_region_quiet_below (by kernel_rfl) (by kernel_rfl) ?_
    repeat (quiet_step (first | with_reducible exact cA _ _ | with_reducible exact cB _ _))
    refine wpQuiet_nil ?_
    intro _ hw'
    obtain ⟨⟨dr, osr⟩, hw''⟩ := hw'
    subst hw''
    go_wp2
    go_ret
    exact ⟨by simp [beforeB, HS.out], (hbW.trans (hb2.mono hbW.size)).trans ((below_regrown V dr osr).mono (Nat.le_trans hbW.size hb2.size))⟩

end Go.Proofs.Ytbhgbifliihlbaa
namespace Go.Proofs.Ytbhgbifliihlbaa
open Go.RowKit Go.Sort Go.Maps

theorem laidOutK : laidOutB Try.prog = true := by kernel_rfl
theorem rowK : (113 : TypeId) < Try.prog.types.size := of_decide_eq_true (by kernel_rfl)
theorem lawK : Keyed Try.prog 113 := Keyed.of_law (deep_law_laid laidOutK (m := 2) (by omega) rowK (by kernel_rfl) (by rw [Try.underlying113]))
theorem keyTypeK : Try.prog.keyType 113 = true := by kernel_rfl
theorem zero64 (w : World) : (zeroValue 2).run Try.prog w = .ok (.int .i64 0) w := by kernel_rfl

/-- The value of three bytes, and what it reads as. -/
def vE (e : Int × Int × Int) : Value := .agg #[.int .u8 e.1, .int .u8 e.2.1, .int .u8 e.2.2]
def kE (e : Int × Int × Int) : Lit := .string (keyBytes [.int .u8 e.1, .int .u8 e.2.1, .int .u8 e.2.2])
abbrev B3 := { e : Int × Int × Int // byte3 e }
instance : Inhabited B3 := ⟨⟨(0, 0, 0), by simp [byte3]⟩⟩

theorem fuelK : ∃ m, Try.prog.types.size = m + 1 := Nat.exists_eq_succ_of_ne_zero (Nat.ne_of_gt (Nat.lt_of_le_of_lt (Nat.zero_le _) rowK))
theorem cellsK : Try.prog.cellsOf 113 = 3 := by kernel_rfl
theorem cells8 : Try.prog.cellsOf 5 = 1 := by kernel_rfl

theorem keyLits_u8 (m : Nat) (v : Value) : Try.prog.keyLits (m + 1) 5 [v] = match v with | .int .u8 n => if (Lit.int .u8 n).wf = true then some [.int .u8 n] else none | _ => none := by
  cases v with
  | int k n => cases k <;> simp [Program.keyLits, Try.underlying5]
  | _ => simp [Program.keyLits, Try.underlying5]
theorem keyLits_exps (m : Nat) (a b c : Value) : Try.prog.keyLits (m + 2) 113 [a, b, c] = (Try.prog.keyLits (m + 1) 5 [a]).bind fun x => (Try.prog.keyLits (m + 1) 5 [b]).bind fun y => (Try.prog.keyLits (m + 1) 5 [c]).bind fun z => some (x ++ (y ++ z)) := by
  rw [Program.keyLits.eq_def]
  simp only [Try.underlying113, cellsK, cells8, show List.range 3 = [0, 1, 2] from rfl, List.length_cons, List.length_nil, Nat.zero_add, Nat.reduceAdd, if_true, List.mapM_cons, List.mapM_nil, Nat.zero_mul, Nat.one_mul, List.drop_zero, List.take_succ_cons, List.take_zero, Nat.reduceMul, List.drop_succ_cons]
  generalize Try.prog.keyLits (m + 1) 5 [a] = x
  generalize Try.prog.keyLits (m + 1) 5 [b] = y
  generalize Try.prog.keyLits (m + 1) 5 [c] = z
  cases x <;> cases y <;> cases z <;> simp
theorem wf8 {n : Int} : (Lit.int .u8 n).wf = true ↔ 0 ≤ n ∧ n ≤ 255 := by
  simp [Lit.wf, IntKind.min, IntKind.max, IntKind.bits, IntKind.signed]
theorem keyOf_vE (e : Int × Int × Int) (h : byte3 e) : keyOf Try.prog 113 (vE e) = some (kE e) := by
  obtain ⟨m, hm⟩ := fuelK
  obtain ⟨h1, h2, h3⟩ := h
  simp [keyOf, Try.underlying113, keyTypeK, vE, Value.formed, cellsK, Value.cells, hm, keyLits_exps, keyLits_u8, wf8.2 h1, wf8.2 h2, wf8.2 h3, kE]
theorem list3 {α : Type} (l : List α) (h : l.length = 3) : ∃ a b c, l = [a, b, c] := by
  match l, h with
  | [a, b, c], _ => exact ⟨a, b, c, rfl⟩
theorem invK (key : Value) (kl : Lit) (h : keyOf Try.prog 113 key = some kl) : ∃ x : B3, key = vE x.1 := by
  obtain ⟨m, hm⟩ := fuelK
  cases key with
  | agg cs =>
    obtain ⟨l⟩ := cs
    simp only [keyOf, Try.underlying113, keyTypeK, Value.formed, cellsK, Value.cells, hm, Bool.true_and] at h
    split at h
    · rename_i hl
      obtain ⟨a, b, c, rfl⟩ := list3 l (by simpa using hl)
      rw [keyLits_exps, keyLits_u8, keyLits_u8, keyLits_u8] at h
      cases a with
      | int ka na =>
        cases ka <;> try (simp at h; done)
        cases b with
        | int kb nb =>
          cases kb <;> try (simp at h; done)
          cases c with
          | int kc nc =>
            cases kc <;> try (simp at h; done)
            simp only [wf8] at h
            by_cases ha : 0 ≤ na ∧ na ≤ 255
            · by_cases hb : 0 ≤ nb ∧ nb ≤ 255
              · by_cases hc : 0 ≤ nc ∧ nc ≤ 255
                · exact ⟨⟨(na, nb, nc), ha, hb, hc⟩, rfl⟩
                · simp [hc] at h
              · simp [hb] at h
            · simp [ha] at h
          | _ => simp at h
        | _ => simp at h
      | _ => simp at h
    · cases h
  | _ => simp [keyOf, Try.underlying113, Value.formed] at h
theorem kE_inj {a b : Int × Int × Int} (ha : byte3 a) (hb : byte3 b) (h : kE a = kE b) : a = b := by
  have := lawK.inj (keyOf_vE a ha) (h ▸ keyOf_vE b hb)
  simp [vE] at this
  exact Prod.ext this.1 (Prod.ext this.2.1 this.2.2)
theorem kE_key (e : Int × Int × Int) : WideAt.IsKeyLit (kE e) := trivial
end Go.Proofs.Ytbhgbifliihlbaa
namespace Go.Proofs.Ytbhgbifliihlbaa
open Go.RowKit Go.Sort

def tmE (t : Tm) : Int × Int × Int := (t.1, t.2.1, t.2.2.1)
def tmByte (t : Tm) : Prop := ((0 ≤ t.1 ∧ t.1 ≤ 255) ∧ (0 ≤ t.2.1 ∧ t.2.1 ≤ 255) ∧ (0 ≤ t.2.2.1 ∧ t.2.2.1 ≤ 255)) ∧ (-9223372036854775808 ≤ t.2.2.2 ∧ t.2.2.2 ≤ 9223372036854775807)
def termOk (p d : Int) (t : Tm) : Bool := expsOk d t.1 t.2.1 t.2.2.1 && (decide (1 ≤ t.2.2.2) && decide (t.2.2.2 ≤ p - 1))
def linkO (o : Option Tm) (t : Tm) : Bool := match o with | none => true | some q => beforeB (tmE q) (tmE t)
def chain (p d : Int) : Option Tm → List Tm → Bool
  | _, [] => true
  | o, t :: r => termOk p d t && (linkO o t && chain p d (some t) r)
def prevT (ts : List Tm) : Nat → Option Tm
  | 0 => none
  | k + 1 => ts[k]?
def tailB (p d : Int) (ts : List Tm) (k : Nat) : Bool := chain p d (prevT ts k) (ts.drop k)
theorem tailB_step (p d : Int) (ts : List Tm) (k : Nat) (h : k < ts.length) : tailB p d ts k = (termOk p d ts[k] && (linkO (prevT ts k) ts[k] && tailB p d ts (k + 1))) := by
  unfold tailB
  rw [List.drop_eq_getElem_cons h]
  simp [chain, prevT, h]
theorem tailB_end (p d : Int) (ts : List Tm) : tailB p d ts ts.length = true := by
  unfold tailB
  rw [List.drop_length]
  cases prevT ts ts.length <;> rfl
/-- Whether the prime p, d letters and these terms make a polynomial. -/
def isPolyB (p d : Int) (ts : List Tm) : Bool := primeB p && ((decide (1 ≤ d) && decide (d ≤ 3)) && tailB p d ts 0)

theorem prime_le {p : Int} (h : primeB p = true) : 2 ≤ p ∧ p ≤ 13 := by
  simp [primeB] at h; omega

/-- The terms before place k are fit, and what is left to ask is what was to ask. -/
def Upto (p d : Int) (ts : List Tm) (k : Nat) : Prop := tailB p d ts 0 = tailB p d ts k ∧ ∀ (j : Nat) (h : j < ts.length), j < k → termOk p d ts[j] = true
theorem Upto.start (p d : Int) (ts : List Tm) : Upto p d ts 0 := ⟨rfl, fun j _ h => by omega⟩
theorem Upto.next {p d : Int} {ts : List Tm} {k : Nat} (h : Upto p d ts k) (hk : k < ts.length) (h1 : termOk p d ts[k] = true) (h2 : linkO (prevT ts k) ts[k] = true) : Upto p d ts (k + 1) := by
  refine ⟨by rw [h.1, tailB_step p d ts k hk, h1, h2]; rfl, fun j hj hjk => ?_⟩
  by_cases e : j = k
  · subst e; exact h1
  · exact h.2 j hj (by omega)
theorem Upto.bad1 {p d : Int} {ts : List Tm} {k : Nat} (h : Upto p d ts k) (hk : k < ts.length) (h1 : termOk p d ts[k] = false) : tailB p d ts 0 = false := by
  rw [h.1, tailB_step p d ts k hk, h1]; rfl
theorem Upto.bad2 {p d : Int} {ts : List Tm} {k : Nat} (h : Upto p d ts k) (hk : k < ts.length) (h2 : linkO (prevT ts k) ts[k] = false) : tailB p d ts 0 = false := by
  rw [h.1, tailB_step p d ts k hk, h2]; simp
theorem Upto.done {p d : Int} {ts : List Tm} (h : Upto p d ts ts.length) : tailB p d ts 0 = true := by rw [h.1, tailB_end]
theorem termOk_sum {p d : Int} {t : Tm} (h : termOk p d t = true) : t.1 + t.2.1 + t.2.2.1 ≤ 12 := by
  simp [termOk, expsOk] at h; exact h.1.2

theorem prime_yes (p : Int) (w : World) (h : primeB p = true) : Calls Try.prog 44 #[.int .i64 p] w fun e w' => e = .returned (.bool true) ∧ w = w' :=
  (prime_any p w).mono fun _ _ ⟨he, hw⟩ => ⟨by rw [he, h], hw⟩
theorem prime_no (p : Int) (w : World) (h : primeB p = false) : Calls Try.prog 44 #[.int .i64 p] w fun e w' => e = .returned (.bool false) ∧ w = w' :=
  (prime_any p w).mono fun _ _ ⟨he, hw⟩ => ⟨by rw [he, h], hw⟩
theorem vars_t (d : Int) (w : World) (h1 : 1 ≤ d) (h2 : d ≤ 3) : Calls Try.prog 74 #[.int .i64 d] w fun e w' => e = .returned (.bool true) ∧ w = w' := by
  go_enter Try.func74, Try.ntmps74
  go_wp2
  go_ret
  exact ⟨rfl, rfl⟩
theorem vars_f (d : Int) (w : World) (h : d < 1 ∨ 3 < d) : Calls Try.prog 74 #[.int .i64 d] w fun e w' => e = .returned (.bool false) ∧ w = w' := by
  rcases h with h | h
  · go_enter Try.func74, Try.ntmps74
    go_wp2
    go_ret
    exact ⟨rfl, rfl⟩
  · have h1 : 1 ≤ d := by omega
    go_enter Try.func74, Try.ntmps74
    go_wp2
    go_ret
    exact ⟨by simp; omega, rfl⟩

set_option maxHeartbeats 1000000 in
theorem isPoly_in (p d : Int) (b off cap : Nat) (ts : List Tm) (w : World) (hl : ts.length ≤ 1048576) (hb : b < w.heap.size) (hT : Terms w b off ts) (hby : ∀ t ∈ ts, tmByte t) (hp : primeB p = true) (h1 : 1 ≤ d) (h3 : d ≤ 3) :
    Calls Try.prog 68 #[.agg #[.int .i64 p, .int .i64 d, .slice (some ⟨b, off, none⟩) ts.length cap]] w fun e w' => e = .returned (.bool (tailB p d ts 0)) ∧ Below w.heap.size w w' := by
  obtain ⟨hp2, hp13⟩ := prime_le hp
  have HP := Lib.hid hp
  clear hp
  obtain ⟨W, hW, hbW, hWs, x0, x1, x2⟩ : ∃ W, W = w.alloc (.cells #[.int .i64 p, .int .i64 d, .slice (some ⟨b, off, none⟩) ts.length cap] 40) ∧ Below w.heap.size w W ∧ w.heap.size < W.heap.size ∧
      W.cell? ⟨w.heap.size, 0, none⟩ = some (.int .i64 p) ∧ W.cell? ⟨w.heap.size, 1, none⟩ = some (.int .i64 d) ∧ W.cell? ⟨w.heap.size, 2, none⟩ = some (.slice (some ⟨b, off, none⟩) ts.length cap) :=
    ⟨_, rfl, box1 _ _, by simp, by go_simp, by go_simp, by go_simp⟩
  go_enter Try.func68, Try.ntmps68
  go_wp2_with fail
  rw [← hW]
  clear hW
  ((with_reducible refine (prime_yes _ _ HP.out).mono ?_); rintro e w1 ⟨rfl, rfl⟩)
  go_wp2_with fail
  ((with_reducible refine (vars_t _ _ h1 h3).mono ?_); rintro e w1 ⟨rfl, rfl⟩)
  go_wp2
  go_loopw [18] (fun i wr => ∃ k : Nat, k ≤ ts.length ∧ i = .int .i64 k ∧ Upto p d ts k ∧ Below W.heap.size W wr) (fun i _ => ts.length - (intOf i).toNat)
  case atStart => exact ⟨0, by omega, rfl, Upto.start _ _ _, Below.refl _ _⟩
  case round =>
    obtain ⟨k, hk, rfl, hU, hbel⟩ := hrel
    by_cases hlt : k < ts.length
    · have hlt' : (k : Int) < (ts.length : Int) := by omega
      have hTr := (hT.below hbW hb).below hbel (Nat.lt_trans hb hWs)
      obtain ⟨c0, c1, c2, c3⟩ := hTr k hlt
      have y0 := (hbel.cell (p := ⟨w.heap.size, 0, none⟩) hWs).trans x0
      have y1 := (hbel.cell (p := ⟨w.heap.size, 1, none⟩) hWs).trans x1
      have y2 := (hbel.cell (p := ⟨w.heap.size, 2, none⟩) hWs).trans x2
      obtain ⟨⟨bx, by1, bz⟩, bv1, bv2⟩ := hby _ (List.getElem_mem hlt)
      have hz : w.heap.size < wr.heap.size := Nat.lt_of_lt_of_le hWs hbel.size
      have hzb : b < wr.heap.size := Nat.lt_trans hb hz
      have hTk := hTr
      cases hE : expsOk d ts[k].1 ts[k].2.1 ts[k].2.2.1
      · have HB : Hid (tailB p d ts 0 = false) := Lib.hid (hU.bad1 hlt (by simp [termOk, hE]))
        have HE := Lib.hid hE
        clear hE
        go_wp2_with fail
        ((with_reducible refine (monomial_any d _ _ _ _ ⟨h1, h3⟩ bx by1 bz).mono ?_); rintro e w3 ⟨rfl, hb3⟩)
        rw [HE.out]
        go_wp2
        go_ret
        exact ⟨by rw [HB.out]; rfl, (hbW.trans (hbel.mono (Nat.le_of_lt hWs))).trans (((box1 _ _).trans (hb3.mono (by simp))).mono (Nat.le_of_lt hz))⟩
      · have HE := Lib.hid hE
        clear hE
        go_wp2_with fail
        ((with_reducible refine (monomial_any d _ _ _ _ ⟨h1, h3⟩ bx by1 bz).mono ?_); rintro e w3 ⟨rfl, hb3⟩)
        rw [HE.out]
        have hs3 := hb3.size
        simp only [World.size_alloc] at hs3
        have t0 : w3.cell? ⟨wr.heap.size, 0, none⟩ = some (.int .u8 ts[k].1) := (hb3.cell (by simp)).trans (by go_simp)
        have t1 : w3.cell? ⟨wr.heap.size, 1, none⟩ = some (.int .u8 ts[k].2.1) := (hb3.cell (by simp)).trans (by go_simp)
        have t2 : w3.cell? ⟨wr.heap.size, 2, none⟩ = some (.int .u8 ts[k].2.2.1) := (hb3.cell (by simp)).trans (by go_simp)
        have t3 : w3.cell? ⟨wr.heap.size, 3, none⟩ = some (.int .i64 ts[k].2.2.2) := (hb3.cell (by simp)).trans (by go_simp)
        have hb4 : Below wr.heap.size wr w3 := (box1 _ _).trans (hb3.mono (by simp))
        clear hb3
        have z0 := (hb4.cell (p := ⟨w.heap.size, 0, none⟩) hz).trans y0
        have z1 := (hb4.cell (p := ⟨w.heap.size, 1, none⟩) hz).trans y1
        have z2 := (hb4.cell (p := ⟨w.heap.size, 2, none⟩) hz).trans y2
        have hT3 := hTr.below hb4 hzb
        have hbel3 := hbel.trans (hb4.mono hbel.size)
        clear y0 y1 y2 c0 c1 c2 c3 hTr hTk hb4
        by_cases hv1 : ts[k].2.2.2 < 1
        · have HB : Hid (tailB p d ts 0 = false) := Lib.hid (hU.bad1 hlt (by simp [termOk]; omega))
          go_wp2
          go_ret
          exact ⟨by rw [HB.out]; rfl, hbW.trans (hbel3.mono (Nat.le_of_lt hWs))⟩
        · by_cases hv2 : p ≤ ts[k].2.2.2
          · have HB : Hid (tailB p d ts 0 = false) := Lib.hid (hU.bad1 hlt (by simp [termOk]; omega))
            go_wp2
            go_ret
            exact ⟨by rw [HB.out]; rfl, hbW.trans (hbel3.mono (Nat.le_of_lt hWs))⟩
          · have hOk : termOk p d ts[k] = true := by simp [termOk, HE.out]; omega
            have HOk := Lib.hid hOk
            clear hOk
            cases k with
            | zero =>
              have hU1 := hU.next hlt HOk.out rfl
              go_wp2
              refine wp_region_quiet_below (by kernel_rfl) (by kernel_rfl) ?_
              repeat (go_big_quiet_step (fail))
              refine wpQuiet_nil ?_
              intro _ hw'
              obtain ⟨⟨dq, osq⟩, hw''⟩ := hw'
              subst hw''
              go_wp2
              go_roundw
              case rel => exact ⟨1, by omega, by go_num, hU1, hbel3.trans ((below_regrown w3 dq osq).mono hbel3.size)⟩
              case measure => simp [intOf]; omega
            | succ j =>
              have hj : j < ts.length := by omega
              obtain ⟨p0, p1, p2, p3⟩ := hT3 j hj
              obtain ⟨⟨ax, ay, az⟩, _, _⟩ := hby _ (List.getElem_mem hj)
              have q0 := cell_regrown p0
              have q1 := cell_regrown p1
              have q2 := cell_regrown p2
              have s0 := cell_regrown t0
              have s1 := cell_regrown t1
              have s2 := cell_regrown t2
              have v2 := cell_regrown z2
              have cC : ∀ dd os, Calls Try.prog 111 #[.agg #[.int .u8 ts[j].1, .int .u8 ts[j].2.1, .int .u8 ts[j].2.2.1], .agg #[.int .u8 ts[j + 1].1, .int .u8 ts[j + 1].2.1, .int .u8 ts[j + 1].2.2.1]] (grow (redrawn w3 dd) os) fun e w'' => e = .returned (.int .i64 (cmpE (tmE ts[j]) (tmE ts[j + 1]))) ∧ ∃ p : Regrown, w'' = grow (redrawn w3 p.d) p.os := fun dd os => Calls.regrown_of (compareExps_any _ _ _ _ _ _ _ ax ay az bx by1 bz)
              have hcm := cmpE_before (tmE ts[j]) (tmE ts[j + 1]) (termOk_sum (hU.2 j hj (by omega))) (termOk_sum HOk.out)
              have hln : linkO (prevT ts (j + 1)) ts[j + 1] = beforeB (tmE ts[j]) (tmE ts[j + 1]) := by simp [prevT, linkO, hj]
              have HLN := Lib.hid hln
              have HCM := Lib.hid hcm
              clear hcm hln
              generalize cmpE (tmE ts[j]) (tmE ts[j + 1]) = C at cC HCM
              by_cases hC : 0 ≤ C
              · have hbad : beforeB (tmE ts[j]) (tmE ts[j + 1]) = false := by have h := HCM.out; simp [hC] at h; exact h
                have HB : Hid (tailB p d ts 0 = false) := Lib.hid (hU.bad2 hlt (HLN.out.trans hbad))
                clear hbad
                go_wp2
                refine wp_region_quiet_below (by kernel_rfl) (by kernel_rfl) ?_
                repeat (go_big_quiet_step (with_reducible exact cC _ _))
                refine wpQuiet_nil ?_
                intro _ hw'
                obtain ⟨⟨dq, osq⟩, hw''⟩ := hw'
                subst hw''
                go_wp2
                go_ret
                exact ⟨by rw [HB.out]; rfl, hbW.trans ((hbel3.trans ((below_regrown w3 dq osq).mono hbel3.size)).mono (Nat.le_of_lt hWs))⟩
              · have hgood : beforeB (tmE ts[j]) (tmE ts[j + 1]) = true := by have h := HCM.out; simp [hC] at h; exact h
                have hU1 := hU.next hlt HOk.out (HLN.out.trans hgood)
                clear hgood
                go_wp2
                refine wp_region_quiet_below (by kernel_rfl) (by kernel_rfl) ?_
                repeat (go_big_quiet_step (with_reducible exact cC _ _))
                refine wpQuiet_nil ?_
                intro _ hw'
                obtain ⟨⟨dq, osq⟩, hw''⟩ := hw'
                subst hw''
                go_wp2
                go_roundw
                case rel => exact ⟨j + 1 + 1, by omega, by go_num, hU1, hbel3.trans ((below_regrown w3 dq osq).mono hbel3.size)⟩
                case measure => simp [intOf]; omega
    · obtain rfl : k = ts.length := by omega
      go_wp2
      go_ret
      exact ⟨by rw [hU.done]; rfl, hbW.trans (hbel.mono (Nat.le_of_lt hWs))⟩

end Go.Proofs.Ytbhgbifliihlbaa
