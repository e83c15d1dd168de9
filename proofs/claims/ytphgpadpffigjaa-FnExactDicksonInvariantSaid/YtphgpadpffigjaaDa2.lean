/-
  DICKSON INVARIANTS in plain mathematics: the model's list of coefficients and the program's symmetric function, reckoned for all primes and numbers of letters that are let in. Conditions: as each theorem states.
  MONOMIALS of a degree: the program's walk; lists of exponents in memory. Conditions: as each theorem states.. Conditions: as each theorem states.
  slices.All at a list of exponents: the places and the elements, in their order. Conditions: as each theorem states.
  WALKS: 'impl.placesOf'. Conditions: as the theorem states.
  FRAMES of loops over a function's rounds; the monomials' exponents. Conditions: as each theorem states.
  A drawn region inside a fence (in a round too): its still head in any order, then its tail. Conditions: as the theorem states.
  WALKS: spec.l01Times. Conditions: as each theorem states.
  BOXES of polynomials, filled; what lies beside. Conditions: as each theorem states.. Conditions: as each theorem states.
  RESULTS that are a polynomial and a code; a box filled. Conditions: as each theorem states.. Conditions: as each theorem states.
  WALKS: 'impl.polyOfRow'. Conditions: as each theorem states.
  LISTS OF POLYNOMIALS in memory. Conditions: as each theorem states.
  LISTS OF POLYNOMIALS by their cells. Conditions: as each theorem states.
  LISTS OF POLYNOMIALS of the call's own, in the making. Conditions: as each theorem states.
  THREE CELLS put into a row. Conditions: as each theorem states.
  LISTS OF POLYNOMIALS made. Conditions: as each theorem states.
  WALKS: 'impl.wholePower', 'impl.sumsOfLetters'. Conditions: as each theorem states.
  WALKS: 'impl.constant'. Conditions: as the theorem states.
  WALKS: sums of polynomials, times a number: 'impl.sumTimes'. Conditions: as the theorem states.. Conditions: as each theorem states.
  ROWS OF POLYNOMIALS by the index; symmetric functions on their way. Conditions: as each theorem states.
  THREE CELLS: frames. Conditions: as each theorem states.
  WALKS: 'impl.product'. Conditions: as each theorem states.
-/
import Derived.Test.YtphgpadpffigjaaDa1
import Derived.RangeFuncNested
import Derived.RangeFuncBound
import Derived.RangeFuncCalls
import Derived.RangeFuncLeaves
import Derived.Shelf.Abstract
import Derived.Shelf.RegionOpen
import Derived.OwnWalkIn
import Derived.TacticsInMore
import Derived.LoopNIn
import Derived.LoopIn
import Derived.Test.YtphgpadpffigjaaLs2
import Derived.Maps.OwnIn
import Derived.StillTail
import Derived.StillTailTactics
import Derived.StillTactics
import Derived.OrdersIn
import Derived.Test.YtphgpadpffigjaaCx
import Derived.Test.YtphgpadpffigjaaIns
import Derived.Deep.DeepCutAuto
import Derived.Deep.RegionHeld3
import Derived.Test.YtphgpadpffigjaaLa
import Derived.Test.YtphgpadpffigjaaCj
import Derived.Test.YtphgpadpffigjaaSye
import Derived.Deep.LoopGhost
import Derived.Deep.AppendLies
import Derived.Test.YtphgpadpffigjaaTm
import Derived.Test.YtphgpadpffigjaaSort
import Derived.Test.YtphgpadpffigjaaBgc
namespace Go.Proofs.Ytphgpadpffigjaa
open Go.RowKit Go.Sort Go.Maps

theorem monL_one1 : ∀ n ∈ ([1, 2, 3] : List Nat), monL n 1 = ([(1, 0, 0), (0, 1, 0), (0, 0, 1)] : List (Int × Int × Int)).take n := by decide +kernel
/-- A sum as a list. -/
def plusT (p : Int) (xs ys : List Tm) : List Tm := ys.foldl (fun O t => putL p O (tmE t) t.2.2.2) xs
/-- The letters. -/
def letL (n : Nat) : List (Int × Int × Int) := [(1, 0, 0), (0, 1, 0), (0, 0, 1)].take n
def dgN (q n r : Nat) : List Int := (List.range n).map (dgt q r)
/-- The sum of multiples of letters that a number tells. -/
def frm (q n c : Nat) : List Tm := rT (letL n) (dgN q n c)
/-- .. as the model puts it together: after k letters. -/
def fmL (q c : Nat) : Nat → List Tm
  | 0 => []
  | k + 1 => if dgt q c k = 0 then fmL q c k else putL q (fmL q c k) (ltE k) (dgt q c k)
def prs : List (Nat × Nat) := [(2, 1), (3, 1), (5, 1), (7, 1), (11, 1), (13, 1), (2, 2), (3, 2), (2, 3)]
theorem prs_mem {q n : Nat} (hq : q ∈ ([2, 3, 5, 7, 11, 13] : List Nat)) (hn : 1 ≤ n ∧ n ≤ 3) (h : q ^ n ≤ 13) : (q, n) ∈ prs := by
  have h3 : n = 1 ∨ n = 2 ∨ n = 3 := by omega
  simp only [List.mem_cons, List.not_mem_nil, or_false] at hq
  rcases hq with rfl | rfl | rfl | rfl | rfl | rfl <;> rcases h3 with rfl | rfl | rfl <;> simp [prs] at h ⊢
/-- The next list of coefficients. -/
def nxE (p : Int) (L : List (List Tm)) (F : List Tm) (k : Nat) : List Tm :=
  if k = 0 then prodT p (L.getD 0 []) F
  else if k < L.length then plusT p (prodT p (L.getD k []) F) (L.getD (k - 1) []) else plusT p [] (L.getD (k - 1) [])
def nxL (p : Int) (L : List (List Tm)) (F : List Tm) : List (List Tm) := (List.range (L.length + 1)).map (nxE p L F)
def cfs (q n : Nat) : Nat → List (List Tm)
  | 0 => [[(0, 0, 0, 1)]]
  | c + 1 => nxL q (cfs q n c) (frm q n c)
theorem cfs_len (q n : Nat) : ∀ c, (cfs q n c).length = c + 1
  | 0 => rfl
  | c + 1 => by simp [cfs, nxL, cfs_len q n c]
theorem cfs_at (q n c k : Nat) (h : k < (cfs q n (c + 1)).length) : (cfs q n (c + 1))[k] = nxE q (cfs q n c) (frm q n c) k := by simp [cfs, nxL]
/-- What a list of terms must be, as a test; the sum of degrees. -/
def chkD (p : Int) (_n : Nat) (ts : List Tm) : Bool := decide (ts.Pairwise fun a b => beforeB (tmE a) (tmE b) = true) && ts.all fun t => (decide (0 ≤ t.1 ∧ t.1 ≤ 12) && decide (0 ≤ t.2.1 ∧ t.2.1 ≤ 12) && decide (0 ≤ t.2.2.1 ∧ t.2.2.1 ≤ 12)) && decide (t.1 + t.2.1 + t.2.2.1 ≤ 12) && decide (1 ≤ t.2.2.2 ∧ t.2.2.2 < p)
theorem chkD_valid {p d : Int} {n : Nat} {ts : List Tm} (hp : 2 ≤ p) (hp13 : p ≤ 13) (hd : 1 ≤ d) (hd3 : d ≤ 3) (h : chkD p n ts = true) : Valid p d ts := by
  unfold chkD at h
  simp only [Bool.and_eq_true, decide_eq_true_eq, List.all_eq_true] at h
  refine ⟨hp, hp13, hd, hd3, h.1, fun t ht => ?_⟩
  obtain ⟨⟨⟨⟨a, b⟩, c⟩, e⟩, f⟩ := h.2 t ht
  exact ⟨⟨⟨by simp only [tmE]; omega, by simp only [tmE]; omega, by simp only [tmE]; omega⟩, by omega⟩, f⟩
def fitD (xs ys : List Tm) : Bool := xs.isEmpty || (ys.isEmpty || decide (degI xs + degI ys ≤ 12))
def goodF (q n c : Nat) (L : List (List Tm)) : Bool := chkD q n (frm q n c) && ((frm q n c).all (fun t => decide (t.1 + t.2.1 + t.2.2.1 ≤ 1)) && (decide (fmL q c n = frm q n c) && L.all fun X => chkD q n X && fitD X (frm q n c)))
def chkAll (q n : Nat) : Nat → Nat → List (List Tm) → Bool
  | 0, _, L => L.all (chkD q n)
  | f + 1, c, L => goodF q n c L && chkAll q n f (c + 1) (nxL q L (frm q n c))
theorem chk_all : ∀ qn ∈ prs, chkAll qn.1 qn.2 (qn.1 ^ qn.2) 0 [[(0, 0, 0, 1)]] = true := by decide +kernel
theorem chkAll_get {q n : Nat} : ∀ (f c : Nat), chkAll q n f c (cfs q n c) = true → ∀ j, j < f → goodF q n (c + j) (cfs q n (c + j)) = true
  | 0, _, _, j, hj => by omega
  | f + 1, c, h, j, hj => by
    simp only [chkAll, Bool.and_eq_true] at h
    cases j with
    | zero => exact h.1
    | succ j =>
      have := chkAll_get f (c + 1) h.2 j (by omega)
      rwa [show c + 1 + j = c + (j + 1) by omega] at this
theorem good_at {q n : Nat} (hm : (q, n) ∈ prs) {c : Nat} (hc : c < q ^ n) : goodF q n c (cfs q n c) = true := by
  have := chkAll_get (q ^ n) 0 (chk_all (q, n) hm) c hc
  rwa [Nat.zero_add] at this
/-- The symmetric function of the sums, reckoned. -/
def symC (p : Int) : List (List Tm) → Nat → List Tm
  | _, 0 => [(0, 0, 0, 1)]
  | [], _ + 1 => []
  | X :: r, j + 1 => plusT p (symC p r (j + 1)) (prodT p (symC p r j) X)
def sumsL (q n : Nat) : List (List Tm) := (List.range (q ^ n)).map (frm q n)
theorem dick_same : ∀ qn ∈ prs, ∀ i ∈ List.range qn.2, (cfs qn.1 qn.2 (qn.1 ^ qn.2)).getD (qn.1 ^ i) [] = symC qn.1 (sumsL qn.1 qn.2).reverse (qn.1 ^ qn.2 - qn.1 ^ i) := by decide +kernel

theorem plusT_is {p : Int} (hp : 2 ≤ p) : ∀ (ys xs : List Tm) (f : Int × Int × Int → Int), Asc ys → (∀ t ∈ ys, mono12 (tmE t)) → IsP p xs f → IsP p (plusT p xs ys) (fun e => (f e + atL ys e) % p)
  | [], xs, f, _, _, h => h.congr fun e he => by
    have := h.bound (by omega) he
    simp only [atL, Int.add_zero]
    exact (Int.emod_eq_of_lt this.1 this.2).symm
  | t :: r, xs, f, ha, hm, h => by
    have h1 := plusT_is hp r _ _ (List.pairwise_cons.1 ha).2 (fun u hu => hm u (by simp [hu])) (h.put hp (hm t (by simp)) t.2.2.2)
    refine h1.congr fun e _ => ?_
    rw [atL_cons ha]
    by_cases he : e = tmE t
    · subst he
      rw [if_pos rfl, if_pos rfl]
      simp only [Int.emod_add_emod]
      congr 1
      omega
    · rw [if_neg he, if_neg (fun h => he h.symm), Int.zero_add]
theorem plusT_valid {p d : Int} {xs ys : List Tm} {f : Int × Int × Int → Int} (hx : IsP p xs f) (hy : Valid p d ys) : IsP p (plusT p xs ys) (fun e => (f e + 1 * atL ys e) % p) :=
  (plusT_is hy.p2 ys xs f hy.asc (fun t ht => (hy.mem t ht).1) hx).congr fun e _ => by rw [Int.one_mul]
theorem symE_symC {p d g : Int} (hp2 : 2 ≤ p) (hp13 : p ≤ 13) (d1 : 1 ≤ d) (d3 : d ≤ 3) (hg : 0 ≤ g) : ∀ (r : List (List Tm)), (∀ X ∈ r, Valid p d X ∧ degB X g) → ∀ j : Nat, (j : Int) * g ≤ 12 → symE p r j = symC p r j
  | r, _, 0, _ => by rw [symE_zero]; cases r <;> rfl
  | [], _, j + 1, _ => by rw [symE_nil]; rfl
  | X :: r, h, j + 1, hj => by
    have hr : ∀ Y ∈ r, Valid p d Y ∧ degB Y g := fun Y hY => h Y (by simp [hY])
    have hj0 : (j : Int) * g + g ≤ 12 := by
      have : ((j + 1 : Nat) : Int) * g = (j : Int) * g + g := by rw [Int.natCast_succ, Int.add_mul, Int.one_mul]
      omega
    have e1 := symE_symC hp2 hp13 d1 d3 hg r hr (j + 1) hj
    have e2 := symE_symC hp2 hp13 d1 d3 hg r hr j (by omega)
    obtain ⟨v1, b1⟩ := symE_ok hp2 hp13 d1 d3 hg r hr (j + 1) hj
    obtain ⟨v2, b2⟩ := symE_ok hp2 hp13 d1 d3 hg r hr j (by omega)
    obtain ⟨vX, bX⟩ := h X (by simp)
    have hM : IsP p (prodT p (symC p r j) X) (mulF p (symE p r j) X) := by
      rw [← e2]
      exact prodT_mul v2 vX (degB_fits b2 bX hj0)
    have hV : Valid p d (prodT p (symC p r j) X) := isP_valid hM hp2 hp13 d1 d3
    have hS : IsP p (plusT p (symC p r (j + 1)) (prodT p (symC p r j) X)) (sumK p 1 [symE p r (j + 1), prodT p (symC p r j) X]) := by
      rw [← e1]
      refine (plusT_valid v1.isP hV).congr fun e _ => ?_
      simp [sumK, sumA]
    exact (symE_step hp2 hp13 d1 d3 hg h hj hM hS).symm
theorem primes_q {p : Int} (h : primeB p = true) : ∃ q : Nat, p = q ∧ q ∈ ([2, 3, 5, 7, 11, 13] : List Nat) := by
  simp [primeB] at h
  exact ⟨p.toNat, by omega, by simp; omega⟩
/-- What is known of the sum of letters that a number tells. -/
theorem frm_ok {q n c : Nat} (hm : (q, n) ∈ prs) (hq : 2 ≤ q ∧ q ≤ 13) (hn : 1 ≤ n ∧ n ≤ 3) (hc : c < q ^ n) : Valid q n (frm q n c) ∧ degB (frm q n c) 1 ∧ fmL q c n = frm q n c ∧ ∀ X ∈ cfs q n c, Valid q n X ∧ (X = [] ∨ frm q n c = [] ∨ degI X + degI (frm q n c) ≤ 12) := by
  have h := good_at hm hc
  unfold goodF at h
  simp only [Bool.and_eq_true, decide_eq_true_eq, List.all_eq_true] at h
  obtain ⟨h1, h2, h3, h4⟩ := h
  refine ⟨chkD_valid (by omega) (by omega) (by omega) (by omega) h1, fun t ht => h2 t ht, h3, fun X hX => ⟨chkD_valid (by omega) (by omega) (by omega) (by omega) (h4 X hX).1, ?_⟩⟩
  have h5 := (h4 X hX).2
  unfold fitD at h5
  simpa [List.isEmpty_iff] using h5
theorem frm_mon {q n c : Nat} (hn : 1 ≤ n ∧ n ≤ 3) : rT (monL n 1) (dgN q n c) = frm q n c := by
  unfold frm letL
  rw [monL_one1 n (by simp; omega)]
/-- Both are the same. -/
theorem dick_is {q n i : Nat} (hm : (q, n) ∈ prs) (hq : 2 ≤ q ∧ q ≤ 13) (hn : 1 ≤ n ∧ n ≤ 3) (hi : i < n) (h13 : q ^ n ≤ 13) : symE q (sumsL q n).reverse (q ^ n - q ^ i) = (cfs q n (q ^ n)).getD (q ^ i) [] := by
  rw [dick_same (q, n) hm i (List.mem_range.2 hi)]
  have h0 : 1 ≤ q ^ i := Nat.one_le_pow _ _ (by omega)
  refine symE_symC (d := n) (g := 1) (by omega) (by omega) (by omega) (by omega) (by omega) _ (fun X hX => ?_) _ (by omega)
  have hX' := List.mem_reverse.1 hX
  unfold sumsL at hX'
  obtain ⟨c, hc, rfl⟩ := List.mem_map.1 hX'
  have := frm_ok hm hq hn (List.mem_range.1 hc)
  exact ⟨this.1, this.2.1⟩
end Go.Proofs.Ytphgpadpffigjaa
namespace Go.Proofs.Ytphgpadpffigjaa
open Go.RowKit Go.Sort

theorem vars_yes (d : Int) (w : World) (h1 : 1 ≤ d) (h2 : d ≤ 3) : Calls Try.prog 59 #[.int .i64 d] w fun e w' => e = .returned (.bool true) ∧ w = w' :=
  (vars_any d w).mono fun _ _ ⟨he, hw⟩ => ⟨by rw [he]; simp [h1, h2], hw⟩
theorem vars_no (d : Int) (w : World) (h : d < 1 ∨ 3 < d) : Calls Try.prog 59 #[.int .i64 d] w fun e w' => e = .returned (.bool false) ∧ w = w' :=
  (vars_any d w).mono fun _ _ ⟨he, hw⟩ => ⟨by rw [he]; congr 2; simp; omega, hw⟩
theorem degree_yes (n : Int) (w : World) (h1 : 0 ≤ n) (h2 : n ≤ 12) : Calls Try.prog 84 #[.int .i64 n] w fun e w' => e = .returned (.bool true) ∧ w = w' :=
  (degree_any n w).mono fun _ _ ⟨he, hw⟩ => ⟨by rw [he]; simp [h1, h2], hw⟩
theorem degree_no (n : Int) (w : World) (h : n < 0 ∨ 12 < n) : Calls Try.prog 84 #[.int .i64 n] w fun e w' => e = .returned (.bool false) ∧ w = w' :=
  (degree_any n w).mono fun _ _ ⟨he, hw⟩ => ⟨by rw [he]; congr 2; simp; omega, hw⟩

set_option maxRecDepth 8000 in
set_option maxHeartbeats 2000000 in
theorem implMon_in (d : Int) (n : Nat) (w : World) (hd1 : 1 ≤ d) (hd2 : d ≤ 3) (hn : n ≤ 12) (HB : Hid (monB d n = true)) : Calls Try.prog 141 #[.int .i64 d, .int .i64 n] w (MonPost d n w) := by
  obtain ⟨i0, hi, hz0, hz1, hz2⟩ := info_parts info52
  have hn0 : (0 : Int) ≤ n := by omega
  have hn12 : (n : Int) ≤ 12 := by omega
  go_enter Try.func141, Try.ntmps141
  go_wp2_with fail
  ((with_reducible refine (vars_yes _ _ hd1 hd2).mono ?_); rintro e w1 ⟨rfl, rfl⟩)
  go_wp2_with fail
  ((with_reducible refine (degree_yes _ _ hn0 hn12).mono ?_); rintro e w1 ⟨rfl, rfl⟩)
  go_wp2
  go_loopw [6, 7] (fun v i wr => ∃ s : Nat, s ≤ n + 1 ∧ i = .int .i64 (n - s) ∧ wr.ownsRow w.heap.size 75 3 v (outerL d n s).length (cells3 (outerL d n s)) ∧ Below w.heap.size w wr)
    (fun _ i _ => (intOf i + 1).toNat)
  case atStart => exact ⟨0, by omega, by simp, World.ownsRow_nil _ _ _ _, Below.refl _ _⟩
  case round =>
    obtain ⟨s, hs, rfl, hown, hbel⟩ := hrel
    by_cases hlt : s < n + 1
    · have hle : s ≤ n := by omega
      go_wp2
      obtain ⟨wo, rfl⟩ : ∃ wo : World, wo = wr := ⟨_, rfl⟩
      go_loopw [6, 8] (fun v i wr => ∃ t : Nat, t ≤ s + 1 ∧ i = .int .i64 (s - t) ∧ wr.ownsRow w.heap.size 75 3 v (outerL d n s ++ innerL d n s t).length (cells3 (outerL d n s ++ innerL d n s t)) ∧ Below w.heap.size w wr)
        (fun _ i _ => (intOf i + 1).toNat)
      case atStart => exact ⟨0, by omega, by simp; omega, by simpa [innerL_zero] using hown, hbel⟩
      case round =>
        obtain ⟨t, ht, rfl, hown1, hbel1⟩ := hrel
        by_cases hlt2 : t < s + 1
        · have hle2 : t ≤ s := by omega
          go_wp2_with fail
          have b1 : 0 ≤ (n : Int) - s ∧ (n : Int) - s ≤ 255 := by omega
          have b2 : 0 ≤ (s : Int) - t ∧ (s : Int) - t ≤ 255 := by omega
          have b3 : 0 ≤ (n : Int) - (n - s) - (s - t) ∧ (n : Int) - (n - s) - (s - t) ≤ 255 := by omega
          ((with_reducible refine (monomial_any _ _ _ _ _ ⟨hd1, hd2⟩ b1 b2 b3).mono ?_); rintro e w1 ⟨rfl, hb⟩)
          have hlen := outerL_le d n s
          have hlen2 := innerL_le d n s t
          have hlen3 : s * s ≤ 13 * 13 := Nat.mul_le_mul (by omega) (by omega)
          have hsum : ((n : Int) - (↑n - ↑s) - (↑s - ↑t)) = t := by omega
          generalize hE : expsOk d (↑n - ↑s) (↑s - ↑t) (↑n - (↑n - ↑s) - (↑s - ↑t)) = E
          have HE := Lib.hid hE
          have HS := Lib.hid hsum
          clear hE hsum
          cases E
          · go_wp2
            go_roundw
            case rel => exact ⟨t + 1, by omega, by go_num, by rw [innerL_miss d n s t _ HS.out HE.out]; exact (round_skip hbel1 hown1 hb).1, (round_skip hbel1 hown1 hb).2⟩
            case measure => simp [intOf]; omega
          · have c0 : w1.cell? ⟨wr.heap.size, 0, none⟩ = some (.int .u8 (↑n - ↑s)) := (hb.cell (by simp)).trans (by simp [World.cell?_alloc_at])
            have c1 : w1.cell? ⟨wr.heap.size, 1, none⟩ = some (.int .u8 (↑s - ↑t)) := (hb.cell (by simp)).trans (by simp [World.cell?_alloc_at])
            have c2 : w1.cell? ⟨wr.heap.size, 2, none⟩ = some (.int .u8 (↑n - (↑n - ↑s) - (↑s - ↑t))) := (hb.cell (by simp)).trans (by simp [World.cell?_alloc_at])
            go_wp2_with (at_builtin; refine wpList_append_own _ rfl _ _ 148 rfl w.heap.size 75 i0 _ 3 3 Try.underlying148 hi hz0 hz1 hz2 rfl (by decide) _ _ _ rfl ((owns_below (hown1.alloc _) hb).alloc _) ⟨w1.heap.size, 0, none⟩ 1 1 [.int .u8 (↑n - ↑s), .int .u8 (↑s - ↑t), .int .u8 (↑n - (↑n - ↑s) - (↑s - ↑t))] rfl rfl ?c1 ?c2 ?c3 ?c4 ?c5 ?_)
            case c1 =>
              intro j u hj
              match j, hj with
              | 0, hj => simp at hj; subst hj; simp [World.cell?_alloc_at, Addr.add]
              | 1, hj => simp at hj; subst hj; simp [World.cell?_alloc_at, Addr.add]
              | 2, hj => simp at hj; subst hj; simp [World.cell?_alloc_at, Addr.add]
            case c2 => intro u hu; simp at hu; rcases hu with rfl | rfl | rfl <;> rfl
            case c3 => simp only [List.length_append]; unfold maxLen; omega
            case c4 => simp only [List.length_append]; omega
            case c5 => have := hbel1.size; have h2 := hb.size; simp only [World.size_alloc] at h2 ⊢; omega
            intro v' w2 hown2 hgrow _
            have R := round_keep hbel1 hown1 hb (by simpa using hown2) hgrow
            clear hown2 hgrow hown1
            go_wp2
            go_roundw
            case rel => exact ⟨t + 1, by omega, by go_num, by rw [innerL_hit d n s t _ HS.out HE.out, ← List.append_assoc]; exact R.1, R.2⟩
            case measure => simp [intOf]; omega
        · obtain rfl : t = s + 1 := by omega
          rw [← outerL_succ] at hown1
          go_wp2
          go_roundw
          case rel => exact ⟨s + 1, by omega, by go_num, hown1, hbel1⟩
          case measure => simp [intOf]; omega
    · obtain rfl : s = n + 1 := by omega
      go_wp2
      go_ret2
      have hm : monL d n = outerL d n (n + 1) := by simp [monL, HB.out]
      rw [← hm] at hown
      exact ⟨_, by simp [monC, HB.out], hown, hbel⟩

set_option maxRecDepth 8000 in
set_option maxHeartbeats 1000000 in
theorem implMon (d n : Int) (w : World) : Calls Try.prog 141 #[.int .i64 d, .int .i64 n] w (MonPost d n w) := by
  by_cases h1 : 1 ≤ d ∧ d ≤ 3
  · obtain ⟨h1a, h1b⟩ := h1
    by_cases h2 : 0 ≤ n ∧ n ≤ 12
    · obtain ⟨h2a, h2b⟩ := h2
      obtain ⟨m, rfl⟩ := Int.eq_ofNat_of_zero_le h2a
      exact implMon_in d m w h1a h1b (by omega) (Lib.hid (by simp [monB]; omega))
    · have h2' : n < 0 ∨ 12 < n := by omega
      have HB : Hid (monB d n = false) := Lib.hid (by simp [monB]; omega)
      clear h2
      go_enter Try.func141, Try.ntmps141
      go_wp2_with fail
      ((with_reducible refine (vars_yes _ _ h1a h1b).mono ?_); rintro e w1 ⟨rfl, rfl⟩)
      go_wp2_with fail
      ((with_reducible refine (degree_no _ _ h2').mono ?_); rintro e w1 ⟨rfl, rfl⟩)
      go_wp2
      go_ret2
      exact ⟨_, by simp [monC, HB.out]; rfl, by simpa [monL, HB.out, cells3] using World.ownsRow_nil _ _ _ _, Below.refl _ _⟩
  · have h1' : d < 1 ∨ 3 < d := by omega
    have HB : Hid (monB d n = false) := Lib.hid (by simp [monB]; omega)
    clear h1
    go_enter Try.func141, Try.ntmps141
    go_wp2_with fail
    ((with_reducible refine (vars_no _ _ h1').mono ?_); rintro e w1 ⟨rfl, rfl⟩)
    go_wp2
    go_ret2
    exact ⟨_, by simp [monC, HB.out]; rfl, by simpa [monL, HB.out, cells3] using World.ownsRow_nil _ _ _ _, Below.refl _ _⟩

/-- A list of exponents that lies in memory. -/
def LaysE (w : World) (v : Value) (l : List (Int × Int × Int)) : Prop :=
  (v = .slice none 0 0 ∧ l = []) ∨ ∃ g cap, v = .slice (some ⟨g, 0, none⟩) l.length cap ∧ g < w.heap.size ∧ ∀ j u, (cells3 l)[j]? = some u → w.cell? ⟨g, j, none⟩ = some u
theorem LaysE.of_owns {w : World} {base : Nat} {e : TypeId} {v : Value} {l : List (Int × Int × Int)} (h : w.ownsRow base e 3 v l.length (cells3 l)) : LaysE w v l := by
  have hc := @World.ownsRow.cells _ _ _ _ _ _ _ h
  have hl := h.lt
  obtain ⟨_, ⟨hv, hn⟩ | ⟨g, cap, cur, hv, _⟩⟩ := h
  · exact .inl ⟨hv, List.eq_nil_of_length_eq_zero hn⟩
  · subst hv
    refine .inr ⟨g, cap, rfl, (hl g rfl).2, fun j u hj => ?_⟩
    have := hc rfl j u hj
    rw [Addr.add_lit] at this
    simpa using this
theorem LaysE.below {w w' : World} {v : Value} {l : List (Int × Int × Int)} (h : LaysE w v l) (hb : Below w.heap.size w w') : LaysE w' v l := by
  rcases h with h | ⟨g, cap, hv, hg, hc⟩
  · exact .inl h
  · exact .inr ⟨g, cap, hv, Nat.lt_of_lt_of_le hg hb.size, fun j u hj => (hb.cell (p := ⟨g, j, none⟩) hg).trans (hc j u hj)⟩

theorem cells3_at (l : List (Int × Int × Int)) : ∀ (k : Nat) (h : k < l.length), (cells3 l)[k * 3]? = some (.int .u8 l[k].1) ∧ (cells3 l)[k * 3 + 1]? = some (.int .u8 l[k].2.1) ∧ (cells3 l)[k * 3 + 2]? = some (.int .u8 l[k].2.2) := by
  induction l with
  | nil => intro k h; simp at h
  | cons a l ih =>
    intro k h
    cases k with
    | zero => exact ⟨rfl, rfl, rfl⟩
    | succ k =>
      have := ih k (by simpa using h)
      have e : cells3 (a :: l) = cell3 a ++ cells3 l := by simp [cells3]
      have hl : (cell3 a).length = 3 := rfl
      rw [e]
      refine ⟨?_, ?_, ?_⟩
      · rw [List.getElem?_append_right (by omega), show (k + 1) * 3 - (cell3 a).length = k * 3 from by omega]; exact this.1
      · rw [List.getElem?_append_right (by omega), show (k + 1) * 3 + 1 - (cell3 a).length = k * 3 + 1 from by omega]; exact this.2.1
      · rw [List.getElem?_append_right (by omega), show (k + 1) * 3 + 2 - (cell3 a).length = k * 3 + 2 from by omega]; exact this.2.2
end Go.Proofs.Ytphgpadpffigjaa
namespace Go.Proofs.Ytphgpadpffigjaa
open Go.RowKit Go.Sort Go.Shelf

attribute [local go_sem] Oper.semAt_some

abbrev EX3 := Int × Int × Int
/-- Blocks between two marks are as they were. -/
structure KpI (lo hi : Nat) (w w' : World) : Prop where
  size : w.heap.size ≤ w'.heap.size
  block : ∀ b, lo ≤ b → b < hi → w'.heap[b]? = w.heap[b]?
theorem KpI.refl (lo hi : Nat) (w : World) : KpI lo hi w w := ⟨Nat.le_refl _, fun _ _ _ => rfl⟩
theorem KpI.trans {lo hi : Nat} {A B C : World} (h : KpI lo hi A B) (k : KpI lo hi B C) : KpI lo hi A C := ⟨Nat.le_trans h.size k.size, fun b h1 h2 => (k.block b h1 h2).trans (h.block b h1 h2)⟩
theorem KpI.of_below {lo hi : Nat} {A B : World} (h : Below hi A B) : KpI lo hi A B := ⟨h.size, fun b _ h2 => h.block b h2⟩
theorem KpI.putObj {lo hi : Nat} {w : World} (hn : hi ≤ w.heap.size) (W : World) (l : Nat) (o o' : Obj) (hl : w.heap.size ≤ l) (h : W.heap[l]? = some o) (h1 : o.isCells = false) (h2 : o.isWalk = false) : KpI lo hi W (W.putObj l o') :=
  KpI.of_below (belowK_b hn W l o o' hl h h1 h2)
theorem KpI.of_grown {lo hi : Nat} {A B : World} {row : Option Nat} (h : A.grownBy B row) (hh : hi ≤ A.heap.size) (hr : ∀ g, row = some g → g < lo) : KpI lo hi A B := ⟨h.size, fun b h1 h2 => h.block b (by omega) (fun e => by have := hr b e.symm; omega)⟩
/-- A slice that reads as a list of exponents, in a block between two marks. -/
def ExW (w : World) (b off : Nat) (l : List EX3) : Prop := ∀ (k : Nat) (h : k < l.length), w.cell? ⟨b, off + k * 3, none⟩ = some (.int .u8 l[k].1) ∧ w.cell? ⟨b, off + k * 3 + 1, none⟩ = some (.int .u8 l[k].2.1) ∧ w.cell? ⟨b, off + k * 3 + 2, none⟩ = some (.int .u8 l[k].2.2)
def SlEI (lo hi : Nat) (w : World) (v : Value) (l : List EX3) : Prop :=
  ∃ a cap, v = .slice a l.length cap ∧ (l = [] ∨ ∃ b off, a = some ⟨b, off, none⟩ ∧ (lo ≤ b ∧ b < hi) ∧ ExW w b off l)
theorem ExW.kept {w w' : World} {b off lo hi : Nat} {l : List EX3} (h : ExW w b off l) (hb : KpI lo hi w w') (h1 : lo ≤ b) (h2 : b < hi) : ExW w' b off l := fun k hk => by
  obtain ⟨c0, c1, c2⟩ := h k hk
  have q : ∀ o, w'.cell? ⟨b, o, none⟩ = w.cell? ⟨b, o, none⟩ := fun o => World.cell?_of_block (a := ⟨b, o, none⟩) (hb.block b h1 h2)
  exact ⟨(q _).trans c0, (q _).trans c1, (q _).trans c2⟩
theorem SlEI.kept {lo hi : Nat} {w w' : World} {v : Value} {l : List EX3} (h : SlEI lo hi w v l) (hb : KpI lo hi w w') : SlEI lo hi w' v l := by
  obtain ⟨a, cap, hv, h | ⟨b, off, ha, ⟨h1, h2⟩, hT⟩⟩ := h
  · exact ⟨a, cap, hv, .inl h⟩
  · exact ⟨a, cap, hv, .inr ⟨b, off, ha, ⟨h1, h2⟩, hT.kept hb h1 h2⟩⟩
theorem SlEI.mono {lo hi lo' hi' : Nat} {w : World} {v : Value} {l : List EX3} (h : SlEI lo hi w v l) (h1 : lo' ≤ lo) (h2 : hi ≤ hi') : SlEI lo' hi' w v l := by
  obtain ⟨a, cap, hv, h | ⟨b, off, ha, ⟨h3, h4⟩, hT⟩⟩ := h
  · exact ⟨a, cap, hv, .inl h⟩
  · exact ⟨a, cap, hv, .inr ⟨b, off, ha, ⟨by omega, by omega⟩, hT⟩⟩
theorem slE_of {w : World} {base : Nat} {v : Value} {l : List EX3} (h : w.ownsRow base 75 3 v l.length (cells3 l)) : SlEI base w.heap.size w v l := by
  have hlt := h.lt
  rcases LaysE.of_owns h with ⟨rfl, rfl⟩ | ⟨g, cap, rfl, hg, hc⟩
  · exact ⟨none, 0, rfl, .inl rfl⟩
  · refine ⟨_, cap, rfl, .inr ⟨g, 0, rfl, ⟨(hlt g rfl).1, hg⟩, fun k hk => ?_⟩⟩
    obtain ⟨h0, h1, h2⟩ := cells3_at l k hk
    rw [Nat.zero_add]
    exact ⟨hc _ _ h0, hc _ _ h1, hc _ _ h2⟩
/-- What a round is handed. -/
abbrev encE (l : List EX3) (x : Fin l.length) : Array Value := #[.int .i64 (x.1 : Int), .agg #[.int .u8 (l[x.1]'x.2).1, .int .u8 (l[x.1]'x.2).2.1, .int .u8 (l[x.1]'x.2).2.2]]

set_option maxRecDepth 100000 in
set_option maxHeartbeats 2000000 in
/-- The closure of slices.All, for every body of a loop that keeps what lay below n₀. -/
theorem gall1 (F : Fence) (n : Nat) (h7 : F.fn 157) (hro : F.round = none) (hn : 1 ≤ n) (l Bs m₀ n₀ B0 : Nat) (sv : Value) (L : List EX3) (hl : L.length ≤ 1048576) (J Jx : List (Fin L.length) → World → Prop) (hJ : AbidesFrom B0 J)
    (hY : ∀ pre (x : Fin L.length) W, J pre W → pre.length < L.length → YieldAt F (n - 1) Try.prog l (encE L x) W fun e W' =>
      (e = .returned (.bool true) ∧ J (pre ++ [x]) W' ∧ KpI m₀ n₀ W W') ∨ (e = .returned (.bool false) ∧ Jx (pre ++ [x]) W'))
    (W : World) (hn₀ : n₀ ≤ W.heap.size) (hBs : W.cell? ⟨Bs, 0, none⟩ = some sv) (hS : SlEI m₀ n₀ W sv L) (h0 : J [] W) :
    CallsIn F n Try.prog 157 #[.func (.yield l) #[] #[], .pointer (some ⟨Bs, 0, none⟩)] W fun e W' => (∃ v, e = .returned v) ∧
      ((∃ ys, ys = List.finRange L.length ∧ J ys W') ∨ (∃ pre, pre <+: List.finRange L.length ∧ Jx pre W')) := by
  obtain ⟨a, cap, rfl, hSc⟩ := hS
  refine callsIn_of_wp Try.func157 rfl h7 ?_ hro
  simp only [Try.ntmps157, List.size_toArray, List.length_cons, List.length_nil, Nat.reduceAdd, Nat.reduceSub, Array.replicate_succ, Array.replicate_zero, List.push_toArray, List.append_toArray, List.nil_append, List.cons_append]
  gi_wp2
  gi_loopw [7] (fun i wr => ∃ k : Nat, k ≤ L.length ∧ i = .int .i64 k ∧ J ((List.finRange L.length).take k) wr ∧ KpI m₀ n₀ W wr)
    (fun i _ => L.length - (intOf i).toNat)
  case atStart => exact ⟨0, Nat.zero_le _, rfl, by simpa using h0, KpI.refl _ _ _⟩
  case round =>
    obtain ⟨k, hk, rfl, hJs, hnx⟩ := hrel
    by_cases hlt : k < L.length
    · have hlt' : (k : Int) < (L.length : Int) := by omega
      obtain ⟨b, off, rfl, hbb, hT⟩ : ∃ b off, a = some ⟨b, off, none⟩ ∧ (m₀ ≤ b ∧ b < n₀) ∧ ExW W b off L := by
        rcases hSc with rfl | h
        · simp at hlt
        · exact h
      obtain ⟨a0, a1, a2⟩ := (hT.kept hnx hbb.1 hbb.2) k hlt
      have hlf : k < (List.finRange L.length).length := by simpa using hlt
      have htk : ((List.finRange L.length).take k).length < L.length := by simp; omega
      have HS : Hid ((List.finRange L.length).take (k + 1) = (List.finRange L.length).take k ++ [⟨k, hlt⟩]) := Lib.hid (by
        rw [List.take_succ_eq_append_getElem hlf]; simp)
      have HP : Hid ((List.finRange L.length).take (k + 1) <+: List.finRange L.length) := Lib.hid (List.take_prefix _ _)
      have hsz : n₀ ≤ wr.heap.size := Nat.le_trans hn₀ hnx.size
      obtain ⟨ex, hex⟩ : ∃ e, L[k].1 = e := ⟨_, rfl⟩
      obtain ⟨ey, hey⟩ : ∃ e, L[k].2.1 = e := ⟨_, rfl⟩
      obtain ⟨ez, hez⟩ : ∃ e, L[k].2.2 = e := ⟨_, rfl⟩
      have hJ1 : J ((List.finRange L.length).take k) (wr.alloc (.cells #[.int .u8 ex, .int .u8 ey, .int .u8 ez] 75)) := hJ _ _ _ none hJs (World.grownBy_alloc wr _ none) (fun r e => by cases e)
      have hyy := hY _ ⟨k, hlt⟩ _ hJ1 htk
      unfold encE at hyy
      simp only [hex, hey, hez] at hyy
      rw [hex] at a0
      rw [hey] at a1
      rw [hez] at a2
      obtain ⟨fn, tmps, assign, body, hy, hR⟩ := hyy
      have hb1 : KpI m₀ n₀ wr (wr.alloc (.cells #[.int .u8 ex, .int .u8 ey, .int .u8 ez] 75)) := KpI.of_below ((Below.refl n₀ wr).alloc hsz _)
      clear hJ1 hex hey hez
      gi_wp2
      refine hR.mono ?_
      rintro e W3 (⟨rfl, hJ3, hk3⟩ | ⟨rfl, hJx3⟩)
      · gi_wp2
        go_roundw
        case rel => exact ⟨k + 1, by omega, by simp, by rw [HS.out]; exact hJ3, hnx.trans (hb1.trans hk3)⟩
        case measure => simp [intOf]; omega
      · gi_wp2
        refine bodyPost_ret (results_none rfl _ _ _) rfl ?_
        exact ⟨⟨_, rfl⟩, .inr ⟨_, by rw [← HS.out]; exact HP.out, hJx3⟩⟩
    · obtain rfl : k = L.length := by omega
      gi_wp2
      go_end0
      exact ⟨⟨_, rfl⟩, .inl ⟨_, rfl, by
        have e : (List.finRange L.length).take L.length = List.finRange L.length := List.take_of_length_le (by simp)
        rwa [e] at hJs⟩⟩

/-- slices.All(s): the slice value is boxed; the function value captures the box. -/
theorem gall (a : Option Addr) (len cap : Nat) (w : World) :
    Calls Try.prog 142 #[.slice a len cap] w fun e w' => e = .returned (.func (.func 157) #[] #[.pointer (some ⟨w.heap.size, 0, none⟩)]) ∧ w' = w.alloc (.cells #[.slice a len cap] 148) := by
  have hmf : ∀ (fn : Fn) (first cap : Array Value) (w : World), (Instr.makeFunc fn first cap).run Try.prog w = .ok (.func fn first cap) w := fun _ _ _ _ => rfl
  go_enter Try.func142, Try.ntmps142
  go_wp2
  go_ret
  exact ⟨rfl, rfl⟩

theorem gall_stops (F : Fence) (n : Nat) (h7 : F.fn 157) (hro : F.round = none) (hn : 1 ≤ n) (Bs m₀ n₀ : Nat) (sv : Value) (L : List EX3) (hl : L.length ≤ 1048576) (w : World) (hBs : Bs < w.heap.size) (hn₀ : n₀ ≤ w.heap.size)
    (hc : w.cell? ⟨Bs, 0, none⟩ = some sv) (hS : SlEI m₀ n₀ w sv L) :
    SeqStopsK F n Try.prog 157 #[.pointer (some ⟨Bs, 0, none⟩)] (encE L) (KpI m₀ n₀) (fun ys => ys = List.finRange L.length) (fun pre => pre <+: List.finRange L.length) L.length w := fun l J Jx W hW hJ _ hY h0 =>
  gall1 F n h7 hro hn l Bs m₀ n₀ W.heap.size sv L hl J Jx hJ hY W (Nat.le_trans hn₀ hW.size) ((hW.cell (p := ⟨Bs, 0, none⟩) hBs).trans hc) (hS.kept (KpI.of_below (hW.mono hn₀))) h0
end Go.Proofs.Ytphgpadpffigjaa
namespace Go.Proofs.Ytphgpadpffigjaa
open Go.RowKit Go.Sort Go.Maps Go.Shelf

attribute [local go_sem] Oper.semAt_some

abbrev allF (Bs : Nat) : Value := .func (.func 157) #[] #[.pointer (some ⟨Bs, 0, none⟩)]
set_option maxHeartbeats 1000000 in
theorem iplaces (d n : Int) (w : World) : Calls Try.prog 128 #[.int .i64 d, .int .i64 n] w fun e w' => ∃ Bs sv, e = .returned (allF Bs) ∧ (w.heap.size ≤ Bs ∧ Bs < w'.heap.size) ∧ w'.cell? ⟨Bs, 0, none⟩ = some sv ∧ SlEI w.heap.size w'.heap.size w' sv (monL d n) ∧ Below w.heap.size w w' := by
  go_enter Try.func128, Try.ntmps128
  go_wp2_with fail
  ((with_reducible refine (implMon d n w).mono ?_); rintro e w1 ⟨v, rfl, hO, hb1⟩)
  have hS := slE_of hO
  obtain ⟨a, cap, rfl, _⟩ := id hS
  have hs := hb1.size
  clear hO
  go_wp2_with fail
  ((with_reducible refine (gall a (monL d n).length cap w1).mono ?_); rintro e w2 ⟨rfl, rfl⟩)
  have hb2 : Below w1.heap.size w1 (w1.alloc (.cells #[.slice a (monL d n).length cap] 148)) := box1 _ _
  go_wp2_with fail
  go_ret
  refine ⟨w1.heap.size, .slice a (monL d n).length cap, rfl, ⟨hs, by simp⟩, ?_, (hS.kept (KpI.of_below hb2)).mono (Nat.le_refl _) (by simp), hb1.trans (hb2.mono hs)⟩
  exact (World.rowIs_alloc w1 #[.slice a (monL d n).length cap] 148 (fun _ => .slice a (monL d n).length cap) (fun i hi => by simp at hi; subst hi; rfl)).cell (i := 0) (by simp)
end Go.Proofs.Ytphgpadpffigjaa
namespace Go.Proofs.Ytphgpadpffigjaa
open Go.RowKit Go.Sort Go.Maps Go.Shelf

theorem yrow {w w' : World} {b B n : Nat} {t : TypeId} {f : Nat → Value} (h : w.rowIs B t n f) (hg : w.grownBy w' (some b)) (hne : B ≠ b) : w'.rowIs B t n f := h.of_block (hg.block B h.lt (by simpa using hne))

/-- A frame goes on where blocks of a loop's own turn. -/
theorem ygrown {w0 X Y : World} {rb : Nat} {row : Option Nat} (h : w0.grownBy X (some rb)) (hg : X.grownBy Y row) (hr : ∀ r, row = some r → w0.heap.size ≤ r) : w0.grownBy Y (some rb) :=
  ⟨hg.os.trans h.os, hg.tape.trans h.tape, hg.output.trans h.output, Nat.le_trans h.size hg.size, fun b hb hne => (hg.block b (Nat.lt_of_lt_of_le hb h.size) (fun e => by have := hr b e.symm; omega)).trans (h.block b hb hne)⟩
theorem yset {w0 X : World} {rb o : Nat} {v : Value} (h : w0.grownBy X (some rb)) : w0.grownBy (X.drew.setCell ⟨rb, o, none⟩ v) (some rb) :=
  ⟨h.os, h.tape, h.output, by simpa using h.size, fun b hb hne => (Deep.blk_setCell_other X.drew ⟨rb, o, none⟩ v b (fun e => hne (by rw [show b = rb from e]))).trans (h.block b hb hne)⟩
theorem monL_byte (d n : Int) : ∀ e ∈ monL d n, byte3 e := by
  unfold monL
  split
  · rename_i h
    simp [monB] at h
    intro e he
    simp only [outerL, innerL, pick, List.mem_flatMap, List.mem_range] at he
    obtain ⟨s, hs, k, hk, hp⟩ := he
    split at hp
    · simp at hp
      subst hp
      refine ⟨⟨?_, ?_⟩, ⟨?_, ?_⟩, ?_, ?_⟩ <;> simp <;> omega
    · simp at hp
  · intro e he
    simp at he

end Go.Proofs.Ytphgpadpffigjaa
namespace Go.Proofs.Ytphgpadpffigjaa
open Go

def noDefer (ops : Array Oper) : Bool := ops.all fun o => match o.op with | .defer _ => false | _ => true

section
variable {F : Fence} {nF : Nat} {P : Program} {ops : Array Oper} {md : Region.Mode} {w : World} {Q : Exit → Act → World → Prop}

theorem wpOpIn_of_stOp (hF : ∀ f, F.fn f) (hdp : F.depth.isSome = true → 1 ≤ nF) (hC : ∀ f args w R, Calls P f args w R → CallsIn F (nF - 1) P f args w R) (hD : noDefer ops = true) {i : Nat} {Ks : Act → Prop} {K : Act → World → Prop} {a : Act}
    (hK : ∀ a', Ks a' → K a' w) (h : stOp P ops w i Ks a) : wpOpIn F nF P ops Q i K a w := by
  cases hi : ops[i]? with
  | none =>
    unfold stOp at h
    simp only [hi] at h
    unfold wpOpIn
    simp only [hi]
    exact hK _ h
  | some o =>
    obtain ⟨v, hy, hk⟩ := yieldsAt_of_stOp hi h
    have hs : o.semAt F.round a.eval = execOp a.eval o := Oper.semAt_plain F _ _ (fun c hc => by
      unfold noDefer at hD
      have := (Array.all_eq_true.1 hD) i (Array.getElem?_eq_some_iff.1 hi).1
      rw [(Array.getElem?_eq_some_iff.1 hi).2, hc] at this
      cases this)
    unfold wpOpIn
    simp only [hi]
    rcases hy with ⟨hw, hv | ⟨hv, rfl⟩ | ⟨f, args, hv, hc⟩⟩ | ⟨hw, rfl⟩
    · simp only [hw, if_true, Oper.wpIn, hs, hv, Oper.uponIn]
      exact ⟨fun f _ => hF f, hK _ hk⟩
    · simp only [hw, if_true, Oper.wpIn, hs, hv, Oper.uponIn]
      exact ⟨fun f _ => hF f, hK _ hk⟩
    · simp only [hw, if_true, Oper.wpIn, hs, hv, Oper.uponIn]
      exact ⟨fun f _ => hF f, hdp, (hC _ _ _ _ hc).mono fun e w'' he => by obtain ⟨rfl, rfl⟩ := he; exact hK _ hk⟩
    · simp only [hw, Bool.false_eq_true, if_false]
      exact ⟨fun f _ => hF f, hK _ hk⟩

theorem wpAnyIn_of_head (hF : ∀ f, F.fn f) (hdp : F.depth.isSome = true → 1 ≤ nF) (hC : ∀ f args w R, Calls P f args w R → CallsIn F (nF - 1) P f args w R) (hD : noDefer ops = true) {n g : Nat} {L : Array Bool → Act → Prop}
    (hL : ∀ listed a, L listed a → wpAnyIn F nF P md ops Q g listed a w) :
    ∀ (f : Nat) (listed : Array Bool) (a : Act), wpAnyL P md ops w n L f listed a → wpAnyIn F nF P md ops Q (f + g) listed a w
  | 0, listed, a, h => by rw [Nat.zero_add]; exact hL _ _ h
  | f + 1, listed, a, h => by
    rw [Nat.add_right_comm]
    exact ⟨fun h0 => absurd h0 h.1, fun i hi => wpOpIn_of_stOp hF hdp hC hD (fun a' h' => wpAnyIn_of_head hF hdp hC hD hL f _ a' h') (h.2 i hi).2⟩

theorem wpAnyIn_of_seq : ∀ (l : List Oper) (k : Nat) (listed : Array Bool) (a : Act) (w : World), (∀ j, l[j]? = ops[k + j]?) →
    Region.seqB md ops l.length k listed = true → wpListIn F nF P ops Q l a w → wpAnyIn F nF P md ops Q l.length listed a w
  | [], _, _, _, _, _, hB, h => ⟨by simpa [Region.seqB] using hB, h⟩
  | o :: l, k, listed, a, w, hl, hB, h => by
    have h0 : ops[k]? = some o := by simpa using (hl 0).symm
    simp only [List.length_cons, Region.seqB, Bool.and_eq_true, decide_eq_true_eq] at hB
    refine ⟨fun h1 => (by rw [hB.1] at h1; cases h1), fun i hi => ?_⟩
    rw [hB.1] at hi
    obtain rfl : i = k := by simpa using hi
    have hw : wpOpIn F nF P ops Q i (wpListIn F nF P ops Q l) a w := by unfold wpOpIn; simp only [h0]; exact h
    exact wpOpIn_mono (fun a' w' h' => wpAnyIn_of_seq l (i + 1) _ a' w' (fun j => by have := hl (j + 1); simpa [Nat.add_assoc, Nat.add_comm 1 j] using this) hB.2 h') hw

/-- The first n operations leave the world alone, the others follow one another. -/
theorem region_tailIn {id : Nat} {a : Act} {l : List Oper} (n : Nat) (hF : ∀ f, F.fn f) (hdp : F.depth.isSome = true → 1 ≤ nF) (hC : ∀ f args w R, Calls P f args w R → CallsIn F (nF - 1) P f args w R) (hD : noDefer l.toArray = true) (hm : P.follows .mixedOrders = true) (hB : Region.lexTailB .any l.toArray n = true)
    (h : wpStill P l.toArray w.drew (fun a' => wpListIn F nF P l.toArray Q (l.drop n) a' w.drew) (l.take n) a) : (Code.region id l.toArray true).wpIn F nF P Q a w := by
  simp only [Region.lexTailB, Bool.and_eq_true, decide_eq_true_eq] at hB
  obtain ⟨⟨⟨⟨hsel, hn⟩, hs⟩, hc⟩, hlex⟩ := hB
  have htl : (l.take n).length = n := by
    have : n < l.length := by simpa using hn
    simp
    omega
  have hdl : (l.drop n).length = l.toArray.size - n := by simp
  have inv0 : HeadInv .any l.toArray n (Array.replicate l.toArray.size false) :=
    ⟨by simp, fun j oj _ hl => (by rw [getD_replicate_false] at hl; cases hl), fun t _ ht => getD_in (by simpa using ht) (getD_replicate_false _ _)⟩
  have H := wpAnyL_lex (md := .any) (g := l.toArray.size - n) hsel hs hc hn (l.take n) 0 _ a (fun j hj => by
    have hj' : j < n := by rw [htl] at hj; exact hj
    simp [hj']) (by simpa using htl) inv0 (by rw [htl]; exact hlex) h
  refine wpIn_region_any hm ?_
  have := wpAnyIn_of_head (Q := Q) (g := l.toArray.size - n) hF hdp hC hD (fun listed a' hL => by
    have := wpAnyIn_of_seq (md := .any) (Q := Q) (l.drop n) n listed a' w.drew (fun j => by simp [List.getElem?_drop]) (by rw [hdl]; exact hL.1) hL.2
    rwa [hdl] at this) _ _ _ H
  rw [htl, Nat.add_sub_of_le (Nat.le_of_lt hn)] at this
  exact this
end
end Go.Proofs.Ytphgpadpffigjaa
namespace Go.Proofs.Ytphgpadpffigjaa
open Go.RowKit Go.Sort Go.Maps

set_option maxRecDepth 8000 in
set_option maxHeartbeats 16000000 in
theorem specTimes_big (p d : Int) (v v' : Value) (xs ys : List Tm) (w : World) (hS : SliceT w v xs) (hS' : SliceT w v' ys) (hV : Valid p d xs) (hV' : Valid p d ys) (hx0 : xs ≠ []) (hy0 : ys ≠ []) (hd : 12 < degI xs + degI ys) :
    Calls Try.prog 56 #[.agg #[.int .i64 p, .int .i64 d, v], .agg #[.int .i64 p, .int .i64 d, v']] w fun e w' =>
      ∃ v', e = .returned (.tuple #[.agg #[.int .i64 p, .int .i64 d, v'], .bool false]) ∧ OwnP w' w.heap.size v' [] ∧ Below w.heap.size w w' := by
  have hlx := hV.isP.len
  have hly := hV'.isP.len
  have hbx := hV.byte
  have hby := hV'.byte
  obtain ⟨dx1, dx2⟩ := deg_bound hV
  obtain ⟨dy1, dy2⟩ := deg_bound hV'
  obtain ⟨a, cap, rfl, _⟩ := id hS
  obtain ⟨a', cap', rfl, _⟩ := id hS'
  obtain ⟨W, hW, hbW, ⟨hWs1, hWs2⟩, rx, ry, rr⟩ := pair3 w p d (.slice a xs.length cap) p d (.slice a' ys.length cap')
  obtain ⟨⟨c0, c1, c2⟩, _⟩ := poly3 rx
  go_enter Try.func56, Try.ntmps56
  go_wp2_with fail
  rw [← hW]
  clear hW c0 c1 c2
  ((with_reducible refine (empty_any p d W).mono ?_); rintro e w1 ⟨rfl, hown, hb1⟩)
  obtain ⟨V, hV1, hbV, ⟨hVs1, hVs2⟩, rq⟩ : ∃ V, V = w1.alloc (.cells #[.int .i64 p, .int .i64 d, .slice (some ⟨W.heap.size + 1, 0, none⟩) 0 0] 36) ∧ Below w1.heap.size w1 V ∧ (V.heap.size ≤ w1.heap.size + 1 ∧ w1.heap.size + 1 ≤ V.heap.size) ∧
      V.rowIs w1.heap.size 36 3 (polyF p d (.slice (some ⟨W.heap.size + 1, 0, none⟩) 0 0)) := by
    refine ⟨_, rfl, box1 _ _, ⟨by simp, by simp⟩, ?_⟩
    exact World.rowIs_alloc w1 #[Value.int .i64 p, .int .i64 d, .slice (some ⟨W.heap.size + 1, 0, none⟩) 0 0] _ _ (fun i hi => by simp at hi; match i, hi with | 0, _ => rfl | 1, _ => rfl | 2, _ => rfl)
  have s1 := hb1.size
  have hbWV := hb1.trans (hbV.mono hb1.size)
  have hst : Part2 w V W.heap.size w1.heap.size w.heap.size (w.heap.size + 1) (w.heap.size + 2) p d p d (.slice a xs.length cap) (.slice a' ys.length cap') (.slice (some ⟨W.heap.size + 1, 0, none⟩) 0 0) [] :=
    ⟨⟨owns_belowT hown hbV, rq, rowIs_below rx hbWV rx.lt, rowIs_below rr hbWV rr.lt, hbW.trans (hbWV.mono hbW.size), by omega, by omega, by omega, by omega, by omega, by omega⟩, rowIs_below ry hbWV ry.lt, by omega⟩
  have rx1 := rowIs_below rx hb1 rx.lt
  have ry1 := rowIs_below ry hb1 ry.lt
  have xo : ∀ o, (w1.alloc o).cell? ⟨w.heap.size, 2, none⟩ = some (.slice a xs.length cap) := fun o => ((box1 w1 o).cell rx1.lt).trans (poly3 rx1).1.2.2
  have yo : ∀ o, (w1.alloc o).cell? ⟨w.heap.size + 1, 2, none⟩ = some (.slice a' ys.length cap') := fun o => ((box1 w1 o).cell ry1.lt).trans (poly3 ry1).1.2.2
  have hz : ((xs.length : Int) == 0) = false := by simpa using hx0
  have hz' : ((ys.length : Int) == 0) = false := by simpa using hy0
  have hSV := hS.below hst.part.below
  have hSV' := hS'.below hst.part.below
  obtain ⟨⟨c0, c1, c2⟩, _⟩ := poly3 hst.part.arg
  obtain ⟨⟨d0, d1, d2⟩, _⟩ := poly3 hst.arg2
  have u0 := cell_regrown c0
  have u1 := cell_regrown c1
  have u2 := cell_regrown c2
  have t0 := cell_regrown d0
  have t1 := cell_regrown d1
  have t2 := cell_regrown d2
  have hw : IntKind.i64.wrap (degI xs + degI ys) = degI xs + degI ys := IntWalk.i64_in _ (by omega)
  have kx : ∀ dd os, Calls Try.prog 43 #[.agg #[.int .i64 p, .int .i64 d, .slice a xs.length cap]] (grow (redrawn V dd) os) fun e w'' => e = .returned (.int .i64 (degI xs)) ∧ ∃ p : Regrown, w'' = grow (redrawn V p.d) p.os := fun dd os =>
    Calls.regrown_of (specDegree_any p d _ xs _ (by omega) (hSV.below (below_regrown V dd os)) hbx)
  have ky : ∀ dd os, Calls Try.prog 43 #[.agg #[.int .i64 p, .int .i64 d, .slice a' ys.length cap']] (grow (redrawn V dd) os) fun e w'' => e = .returned (.int .i64 (degI ys)) ∧ ∃ p : Regrown, w'' = grow (redrawn V p.d) p.os := fun dd os =>
    Calls.regrown_of (specDegree_any p d _ ys _ (by omega) (hSV'.below (below_regrown V dd os)) hby)
  generalize degI xs = gx at *
  generalize degI ys = gy at *
  have hle2 : decide (12 < gx + gy) = true := by simpa using hd
  clear rx ry rr rq hown rx1 ry1 hbx hby hSV hSV'
  go_wp2_with fail
  rw [← hV1]
  clear hV1 xo yo
  refine wp_region_quiet_below (by kernel_rfl) (by kernel_rfl) ?_
  repeat (go_big_quiet_step (first | with_reducible exact kx _ _ | with_reducible exact ky _ _))
  refine wpQuiet_nil ?_
  intro _ hw'
  obtain ⟨⟨dq, osq⟩, hw''⟩ := hw'
  subst hw''
  have hst2 := hst.later (below_regrown V dq osq)
  clear hst kx ky u0 u1 u2 t0 t1 t2 c0 c1 c2 d0 d1 d2
  generalize grow (redrawn V dq) osq = V2 at *
  try simp only [hw]
  obtain ⟨⟨q0, q1, q2⟩, _⟩ := poly3 hst2.part.out
  obtain ⟨⟨r0, r1, r2⟩, y0, y1, y2⟩ := poly3 hst2.part.res
  obtain ⟨a0, a1, a2, a3, a4⟩ := hst2.part.finish p d
  have A0 := Lib.hid a0
  have A1 := Lib.hid a1
  have A2 := Lib.hid a2
  have A3 := Lib.hid a3
  have A4 := Lib.hid a4
  clear a0 a1 a2 a3 a4 hst2
  go_wp2_with fail
  exact bodyPost_ret (v := .tuple #[.agg #[.int .i64 p, .int .i64 d, .slice (some ⟨W.heap.size + 1, 0, none⟩) 0 0], .bool false]) (by simp [results, Try.results56, go_sem, A0.out, A1.out, A2.out]) rfl ⟨_, rfl, A3.out, A4.out⟩

theorem specTimes_any (p d : Int) (v v' : Value) (xs ys : List Tm) (w : World) (hS : SliceT w v xs) (hS' : SliceT w v' ys) (hV : Valid p d xs) (hV' : Valid p d ys) (hd : xs = [] ∨ ys = [] ∨ degI xs + degI ys ≤ 12) :
    Calls Try.prog 56 #[.agg #[.int .i64 p, .int .i64 d, v], .agg #[.int .i64 p, .int .i64 d, v']] w fun e w' =>
      ∃ v' L, e = .returned (.tuple #[.agg #[.int .i64 p, .int .i64 d, v'], .bool true]) ∧ OwnP w' w.heap.size v' L ∧ IsP p L (mulF p xs ys) ∧ Below w.heap.size w w' := by
  have hlx := hV.isP.len
  have hly := hV'.isP.len
  by_cases hx : xs = []
  · refine (specTimes_nil p d v v' xs ys w hS hS' (by omega) (by omega) (.inl hx)).mono fun e w' ⟨v2, h1, h2, h3⟩ => ⟨v2, [], h1, h2, (IsP.nil p).congr fun e _ => ?_, h3⟩
    rw [hx, mulF_nil]
  by_cases hy : ys = []
  · refine (specTimes_nil p d v v' xs ys w hS hS' (by omega) (by omega) (.inr hy)).mono fun e w' ⟨v2, h1, h2, h3⟩ => ⟨v2, [], h1, h2, (IsP.nil p).congr fun e _ => ?_, h3⟩
    rw [hy, mulF, mulS_nil]
    simp
  · exact specTimes_some p d v v' xs ys w hS hS' hV hV' hx hy (by rcases hd with h | h | h; exact absurd h hx; exact absurd h hy; exact h)
end Go.Proofs.Ytphgpadpffigjaa
namespace Go.Proofs.Ytphgpadpffigjaa
open Go.RowKit Go.Sort Go.Maps

theorem rep_own1 {w : World} {base b i N : Nat} {f : Nat → Value} {v x : Value} {S : List Tm} (h : OwnP w base v S) (hr : w.rowIs b 36 N f) : OwnP (w.setCell ⟨b, i, none⟩ x) base v S :=
  h.kept (row := some b) ⟨rfl, rfl, rfl, by rw [World.size_setCell]; exact Nat.le_refl _, fun k hk hne => Below.heap_setCell w ⟨b, i, none⟩ x k (fun e => hne (by rw [e]))⟩ (own_ne hr h (by decide))
theorem rep_own3 {w : World} {base b i0 i1 i2 N : Nat} {f : Nat → Value} {v x0 x1 x2 : Value} {S : List Tm} (h : OwnP w base v S) (hr : w.rowIs b 36 N f) : OwnP (((w.setCell ⟨b, i0, none⟩ x0).setCell ⟨b, i1, none⟩ x1).setCell ⟨b, i2, none⟩ x2) base v S :=
  rep_own1 (rep_own1 (rep_own1 h hr) (hr.set i0 x0)) ((hr.set i0 x0).set i1 x1)
theorem setB3 {w : World} {B0 : Nat} {F : Nat → Value} {v : Value} {S : List Tm} (hR : w.rowIs B0 36 3 F) (hs : SliceT w v S) (P Q : Int) :
    (((w.setCell ⟨B0, 0, none⟩ (.int .i64 P)).setCell ⟨B0, 1, none⟩ (.int .i64 Q)).setCell ⟨B0, 2, none⟩ v).rowIs B0 36 3 (polyF P Q v) ∧
    SliceT (((w.setCell ⟨B0, 0, none⟩ (.int .i64 P)).setCell ⟨B0, 1, none⟩ (.int .i64 Q)).setCell ⟨B0, 2, none⟩ v) v S := by
  have R1 := hR.set 0 (.int .i64 P)
  have R2 := R1.set 1 (.int .i64 Q)
  refine ⟨(R2.set 2 v).congr fun i hi => ?_, ((hs.setBox hR).setBox R1).setBox R2⟩
  match i, hi with
  | 0, _ => rfl
  | 1, _ => rfl
  | 2, _ => rfl
theorem setO3 {w : World} {B0 B1 n : Nat} {t : TypeId} {F : Nat → Value} (hR : w.rowIs B1 t n F) (hne : B1 ≠ B0) (u0 u1 u2 : Value) :
    (((w.setCell ⟨B0, 0, none⟩ u0).setCell ⟨B0, 1, none⟩ u1).setCell ⟨B0, 2, none⟩ u2).rowIs B1 t n F :=
  ((hR.setOther (by simpa using hne) _).setOther (by simpa using hne) _).setOther (by simpa using hne) _
theorem setL3 {w wr : World} {B0 : Nat} (h : Below w.heap.size w wr) (hB : w.heap.size ≤ B0) (u0 u1 u2 : Value) :
    Below w.heap.size w (((wr.setCell ⟨B0, 0, none⟩ u0).setCell ⟨B0, 1, none⟩ u1).setCell ⟨B0, 2, none⟩ u2) :=
  ((h.setCell (by simpa using hB) _).setCell (by simpa using hB) _).setCell (by simpa using hB) _
end Go.Proofs.Ytphgpadpffigjaa
namespace Go.Proofs.Ytphgpadpffigjaa
open Go.RowKit Go.Sort Go.Maps

/-- The outcome as a value that reads so. -/
def ResT (w : World) (o : OutP) (e : Ending) (w' : World) : Prop :=
  ∃ v', e = .returned (.tuple #[.agg #[.int .i64 o.P, .int .i64 o.D, v'], .int .i64 o.c]) ∧ SliceT w' v' o.S ∧ Below w.heap.size w w'
/-- The result's box is filled. -/
theorem fillT {w w2 : World} {r : Nat} {F : Nat → Value} {v : Value} {S : List Tm} (hres : w2.rowIs r 36 3 F) (hs : SliceT w2 v S) (hb : Below w.heap.size w w2) (hr : w.heap.size ≤ r) (p d : Int) :
    ((((w2.setCell ⟨r, 0, none⟩ (.int .i64 p)).setCell ⟨r, 1, none⟩ (.int .i64 d)).setCell ⟨r, 2, none⟩ v).cell? ⟨r, 0, none⟩ = some (.int .i64 p) ∧ (((w2.setCell ⟨r, 0, none⟩ (.int .i64 p)).setCell ⟨r, 1, none⟩ (.int .i64 d)).setCell ⟨r, 2, none⟩ v).cell? ⟨r, 1, none⟩ = some (.int .i64 d) ∧ (((w2.setCell ⟨r, 0, none⟩ (.int .i64 p)).setCell ⟨r, 1, none⟩ (.int .i64 d)).setCell ⟨r, 2, none⟩ v).cell? ⟨r, 2, none⟩ = some v) ∧
    SliceT (((w2.setCell ⟨r, 0, none⟩ (.int .i64 p)).setCell ⟨r, 1, none⟩ (.int .i64 d)).setCell ⟨r, 2, none⟩ v) v S ∧ Below w.heap.size w (((w2.setCell ⟨r, 0, none⟩ (.int .i64 p)).setCell ⟨r, 1, none⟩ (.int .i64 d)).setCell ⟨r, 2, none⟩ v) := by
  obtain ⟨a0, a1⟩ := setB3 hres hs p d
  exact ⟨(poly3 a0).1, a1, setL3 hb hr _ _ _⟩
end Go.Proofs.Ytphgpadpffigjaa
namespace Go.Proofs.Ytphgpadpffigjaa
open Go.RowKit Go.Sort Go.Maps Go.Shelf

attribute [local go_sem] Oper.semAt_some

theorem atL_ne_memY {L : List Tm} {e : Int × Int × Int} (h : atL L e ≠ 0) : ∃ t ∈ L, tmE t = e :=
  Classical.byContradiction fun hn => h (atL_none fun t ht he => hn ⟨t, ht, he⟩)

set_option maxRecDepth 100000 in
set_option maxHeartbeats 8000000 in
theorem ipor (p d n : Int) (v : Value) (xs : List Int) (w : World) (hp2 : 2 ≤ p) (hp13 : p ≤ 13) (hx : (monL d n).length = xs.length) (hxs : ∀ x ∈ xs, 0 ≤ x ∧ x < p) (hS : Sl w v xs) :
    Calls Try.prog 102 #[.int .i64 p, .int .i64 d, .int .i64 n, v] w fun e w' => ∃ v', e = .returned (.agg #[.int .i64 p, .int .i64 d, v']) ∧ OwnP w' w.heap.size v' (rT (monL d n) xs) ∧ Below w.heap.size w w' := by
  have hmm := @run_makeMap Try.prog
  obtain ⟨xa, xc, rfl, hxc⟩ := hS
  obtain ⟨W0, hW0, hb0, ⟨h01, h02⟩, rowb, rr⟩ : ∃ W0, W0 = (w.alloc (.cells #[.slice xa xs.length xc] 61)).alloc (.cells #[.int .i64 0, .int .i64 0, .slice none 0 0] 36) ∧ Below w.heap.size w W0 ∧ (W0.heap.size ≤ w.heap.size + 2 ∧ w.heap.size + 2 ≤ W0.heap.size) ∧
      W0.rowIs w.heap.size 61 1 (fun _ => .slice xa xs.length xc) ∧ W0.rowIs (w.heap.size + 1) 36 3 (polyF 0 0 (.slice none 0 0)) := by
    obtain ⟨U, hU0, hbU, hUs, hrU⟩ : ∃ U, U = w.alloc (.cells #[.slice xa xs.length xc] 61) ∧ Below w.heap.size w U ∧ U.heap.size = w.heap.size + 1 ∧ U.rowIs w.heap.size 61 1 (fun _ => .slice xa xs.length xc) := ⟨_, rfl, box1 _ _, by simp, World.rowIs_alloc w #[_] _ _ (fun i hi => by simp at hi; subst hi; rfl)⟩
    obtain ⟨V, hV1, hbV, ⟨s1, s2⟩, rV⟩ := newbox U 0 0 (.slice none 0 0)
    rw [hUs] at rV s1 s2
    exact ⟨V, by rw [hV1, hU0], hbU.trans (hbV.mono hbU.size), ⟨by omega, by omega⟩, rowIs_below hrU hbV hrU.lt, rV⟩
  obtain ⟨W1, hW1, hb1, hs1, hm1, hbx1⟩ : ∃ W1, W1 = (W0.alloc (.map #[] 0)).alloc (.cells #[.map (some W0.heap.size)] 106) ∧ Below W0.heap.size W0 W1 ∧ W1.heap.size = W0.heap.size + 2 ∧ MapE W1 W0.heap.size 0 (.map []) ∧ W1.rowIs (W0.heap.size + 1) 106 1 (fun _ => .map (some W0.heap.size)) := by
    have h1 := World.ownsMap_made (H := Unit) W0 Try.prog 75 (plainElem Try.prog 2)
    refine ⟨_, rfl, (box1 W0 _).trans ((box1 (W0.alloc (.map #[] 0)) _).mono (by simp)), by simp, h1.alloc _, ?_⟩
    have := World.rowIs_alloc (W0.alloc (.map #[] 0)) #[.map (some W0.heap.size)] 106 (fun _ => .map (some W0.heap.size)) (fun i hi => by simp at hi; subst hi; rfl)
    rwa [World.size_alloc] at this
  have rb1 := rowIs_below rowb hb1 rowb.lt
  have rr1 := rowIs_below rr hb1 rr.lt
  refine (callsIn_wide (n := 9)).1 ?_
  refine callsIn_of_wp_marks Try.func102 rfl trivial ?_ rfl
  simp only [Try.ntmps102, List.size_toArray, List.length_cons, List.length_nil, Nat.reduceAdd, Nat.reduceSub, Array.replicate_succ, Array.replicate_zero, List.push_toArray, List.append_toArray, List.nil_append, List.cons_append]
  gi_wp2
  have hs0 : w.heap.size + 1 + 1 = W0.heap.size := by omega
  rw [hs0, ← hW0, ← hW1]
  refine ⟨trivial, (callsIn_wide.2 (iplaces d n W1)).mono ?_⟩
  rintro e w4 ⟨Bs, sv, rfl, ⟨hBs1, hBs2⟩, hcB, hSE, hb4⟩
  have hl169 := monL_le d n
  have hs4 := hb4.size
  have rb4 := rowIs_below rb1 hb4 rb1.lt
  have rr4 := rowIs_below rr1 hb4 rr1.lt
  have hbx4 := rowIs_below hbx1 hb4 hbx1.lt
  have hM4 : MapE w4 W0.heap.size 0 (.map []) := hm1.kept (row := none) ⟨hb4.os, hb4.tape, hb4.output, hb4.size, fun k hk _ => hb4.block k hk⟩ (by simp)
  have hg04 : Below w.heap.size w w4 := (hb0.trans (hb1.mono hb0.size)).trans (hb4.mono (by omega))
  dsimp only
  gi_wp2
  have hwb : w.heap.size < w4.heap.size := rb4.lt
  have hW01 : W0.heap.size < W1.heap.size := hm1.lt
  have hW04 : W0.heap.size < w4.heap.size := hM4.lt
  refine wpIn_rangeFunc_ownH rfl (by omega) (gf := 157) (lb := #[.pointer (some ⟨Bs, 0, none⟩)]) rfl trivial (enters_of Try.func157 (by kernel_rfl) rfl)
    (gall_stops Fence.wide 8 trivial rfl (by omega) Bs W1.heap.size w4.heap.size sv (monL d n) (by omega) w4 hBs2 (Nat.le_refl _) hcB hSE) (fun h k => KpI.trans h k) (fun W l o o' hl h h1 h2 => KpI.putObj (Nat.le_refl _) W l o o' hl h h1 h2) (Below.refl _ _) (fun _ => rfl)
    (fun (pre : List (Fin (monL d n).length)) W => (∃ D, MapE W W0.heap.size pre.length D ∧ Hid (∀ e, byte3 e → cf D e = gF (monL d n) xs pre e)) ∧ w4.grownBy W (some W0.heap.size))
    (fun _ _ _ => False)
    (fun pre X Y row hs hg hq => ⟨by
      obtain ⟨⟨D, h1, h2⟩, _⟩ := hs
      exact ⟨D, h1.kept hg (fun e => by have := (hq W0.heap.size e.symm).1; omega), h2⟩, ygrown hs.2 hg (fun r e => (hq r e).1)⟩)
    (fun _ _ _ _ _ hs _ _ => hs)
    ⟨⟨_, hM4, Lib.hid (fun e _ => by rw [gF_nil]; exact cf_empty e)⟩, ⟨rfl, rfl, rfl, Nat.le_refl _, fun _ _ _ => rfl⟩⟩
    (fun x a' W => ∃ Bx, w4.heap.size ≤ Bx ∧ W.rowIs Bx 75 3 (expsF ((monL d n)[x.1]'x.2).1 ((monL d n)[x.1]'x.2).2.1 ((monL d n)[x.1]'x.2).2.2) ∧ a' = { tmps := #[.int .i64 p, .int .i64 d, .int .i64 n, .slice xa xs.length xc, undef, undef, undef, .pointer (some ⟨w.heap.size, 0, none⟩), .pointer (some ⟨w.heap.size + 1, 0, none⟩), .pointer (some ⟨W0.heap.size + 1, 0, none⟩), .int .i64 (x.1 : Int), .pointer (some ⟨Bx, 0, none⟩), .map (some W0.heap.size), .int .i64 d, .int .i64 n, allF Bs, .int .i64 (x.1 : Int), .agg #[.int .u8 ((monL d n)[x.1]'x.2).1, .int .u8 ((monL d n)[x.1]'x.2).2.1, .int .u8 ((monL d n)[x.1]'x.2).2.2], undef, undef, undef, undef, undef, undef, undef, undef, undef, undef], defers := [] })
    (fun x a' _ X Y row hs hg hq => by obtain ⟨Bx, h1, h2, h3⟩ := hs; exact ⟨Bx, h1, h2.of_block (hg.block Bx h2.lt (fun e => by obtain ⟨o, ho, hc⟩ := (hq Bx e.symm).2; obtain ⟨c, hb, _⟩ := h2; rw [hb] at ho; cases ho; cases hc)), h3⟩)
    ?assign ?body ?done ?stop
  case assign =>
    rintro l pre x W K ⟨⟨D, hMW, hcf⟩, hgW⟩ hK
    have hz : ∀ a b : Value, (#[16, 17] : Array Tmp).zip #[a, b] = #[(16, a), (17, b)] := fun a b => by simp
    rw [hz]
    change Code.wpIn _ _ _ _ _ { tmps := #[.int .i64 p, .int .i64 d, .int .i64 n, .slice xa xs.length xc, undef, undef, undef, .pointer (some ⟨w.heap.size, 0, none⟩), .pointer (some ⟨w.heap.size + 1, 0, none⟩), .pointer (some ⟨W0.heap.size + 1, 0, none⟩), undef, undef, .map (some W0.heap.size), .int .i64 d, .int .i64 n, allF Bs, .int .i64 (x.1 : Int), .agg #[.int .u8 ((monL d n)[x.1]'x.2).1, .int .u8 ((monL d n)[x.1]'x.2).2.1, .int .u8 ((monL d n)[x.1]'x.2).2.2], undef, undef, undef, undef, undef, undef, undef, undef, undef, undef], defers := [] } W
    gi_wp2
    exact hK _ _ ((KeepsOthers.alloc _ _).from _) (KpI.of_below ((Below.refl w4.heap.size W).alloc hgW.size _)) ⟨⟨D, hMW.alloc _, hcf⟩, ygrown hgW (World.grownBy_alloc W _ none) (fun r e => by cases e)⟩ ⟨W.heap.size, hgW.size, World.rowIs_alloc W #[_, _, _] 75 _ (fun i hi => by simp at hi; match i, hi with | 0, _ => rfl | 1, _ => rfl | 2, _ => rfl), rfl⟩
  case body =>
    rintro l pre ⟨k, hk⟩ a' W hl1 ⟨r, hrec⟩ ⟨⟨D, hMW, hcf⟩, hgW⟩ ⟨Bx, hBx, bX, rfl⟩ hlt
    have rbW := yrow rb4 hgW (by omega)
    have hbxW := yrow hbx4 hgW (by omega)
    have hkx : k < xs.length := by omega
    obtain ⟨bb, off, rfl, hbb, hC⟩ : ∃ b off, xa = some ⟨b, off, none⟩ ∧ b < w.heap.size ∧ Cs w b off xs := by
      rcases hxc with rfl | h
      · simp at hkx
      · exact h
    have d0 : W.cell? ⟨bb, off + k, none⟩ = some (.int .i64 xs[k]) := (World.cell?_of_block (a := ⟨bb, off + k, none⟩) (hgW.block bb (by omega) (fun e => by cases e; omega))).trans ((hg04.cell (p := ⟨bb, off + k, none⟩) hbb).trans (hC k hkx))
    have hMd : MapE W.drew W0.heap.size pre.length D := hMW.kept (row := none) ⟨rfl, rfl, rfl, Nat.le_refl _, fun _ _ _ => rfl⟩ (by simp)
    have hby := monL_byte d n _ (List.getElem_mem hk)
    have hxk := hxs _ (List.getElem_mem hkx)
    have hgd : xs.getD k 0 = xs[k] := by simp [List.getD, hkx]
    obtain ⟨ex, hex⟩ : ∃ e, (monL d n)[k].1 = e := ⟨_, rfl⟩
    obtain ⟨ey, hey⟩ : ∃ e, (monL d n)[k].2.1 = e := ⟨_, rfl⟩
    obtain ⟨ez, hez⟩ : ∃ e, (monL d n)[k].2.2 = e := ⟨_, rfl⟩
    have hexe : (monL d n)[k] = (ex, ey, ez) := by rw [← hex, ← hey, ← hez]
    rw [hexe] at hby
    simp only [hex, hey, hez] at bX ⊢
    have hkey : keyOf Try.prog 75 (.agg #[.int .u8 ex, .int .u8 ey, .int .u8 ez]) = some (kE (ex, ey, ez)) := keyOf_vE (ex, ey, ez) hby
    obtain ⟨X, hX⟩ : ∃ X, xs[k] = X := ⟨_, rfl⟩
    rw [hX] at d0 hxk hgd
    have HCF : Hid (∀ e, byte3 e → cf (D.put (kE (ex, ey, ez)) (.lit (.int .i64 X))) e = gF (monL d n) xs (pre ++ [(⟨k, hk⟩ : Fin (monL d n).length)]) e) := Lib.hid (fun e he => by
      rw [cf_put hMW.isMap hby he, gF_snoc]
      show _ = if e = (monL d n)[k] then xs.getD k 0 else _
      rw [hgd, hexe, hcf.out e he])
    have k0 := rbW.cell (i := 0) (by omega)
    have k1 := hbxW.cell (i := 0) (by omega)
    have e0 : W.cell? ⟨Bx, 0, none⟩ = some (.int .u8 ex) := bX.cell (i := 0) (by omega)
    have e1 : W.cell? ⟨Bx, 1, none⟩ = some (.int .u8 ey) := bX.cell (i := 1) (by omega)
    have e2 : W.cell? ⟨Bx, 2, none⟩ = some (.int .u8 ez) := bX.cell (i := 2) (by omega)
    have hk2 : (k : Int) < (xs.length : Int) := by omega
    have hk3 : k ≤ 168 := by omega
    have hpl : pre.length < 169 := by omega
    have hwf := wf64 hxk.1 (by omega)
    clear hby hexe hex hey hez hSE hgd hs0 hs1 hmm hW0 hW1 hrec hm1 hM4 hcB hcf hxs hx hC hxc hX
    gi_wp2
    refine region_tailIn 6 (fun _ => trivial) (fun h => (by cases h)) (fun f args w R h => CallsIn.inRound l (callsIn_wide.2 h)) (by kernel_rfl) (by kernel_rfl) (by kernel_rfl) ?_
    simp only [List.take_succ_cons, List.take_zero, List.drop_succ_cons, List.drop_zero]
    repeat still_step
    refine wpStill_nil ?_
    gi_wp2_with (gi_at_mapUpdate; refine wpListIn_mapUpdate_own _ rfl _ _ _ 106 rfl 75 2 lawK Try.underlying106 (plainElem Try.prog 2) W0.heap.size pre.length D rfl hMd (by unfold maxLen; omega) (.agg #[.int .u8 ex, .int .u8 ey, .int .u8 ez]) _ _ rfl rfl hkey _ [] (plainElem_int Try.underlying2 hwf) ?_; intro w2 hown2 hgrow2)
    have hg2 : W.grownBy w2 (some W0.heap.size) := ⟨hgrow2.os, hgrow2.tape, hgrow2.output, hgrow2.size, hgrow2.block⟩
    refine ⟨KeepsFrom.of_grownBy hg2 (fun j e => by cases e; omega), KpI.of_grown hg2 (by have := hgW.size; omega) (fun g e => by cases e; omega), ⟨_, by simpa using hown2, HCF⟩, ?_⟩
    exact ⟨hg2.os.trans hgW.os, hg2.tape.trans hgW.tape, hg2.output.trans hgW.output, Nat.le_trans hgW.size hg2.size, fun b hb hne => (hg2.block b (Nat.lt_of_lt_of_le hb hgW.size) hne).trans (hgW.block b hb hne)⟩
  case done =>
    rintro D ys W hD rfl ⟨⟨Dm, hMW, hcf⟩, hgW⟩ hK
    have hDlt : D < W.heap.size := (Array.getElem?_eq_some_iff.1 hK).1
    have hbxW := yrow hbx4 hgW (by omega)
    have rrW := yrow rr4 hgW (by omega)
    have k1 := hbxW.cell (i := 0) (by omega)
    have hgT : Below w.heap.size w W := ⟨hgW.os.trans hg04.os, hgW.tape.trans hg04.tape, hgW.output.trans hg04.output, Nat.le_trans hg04.size hgW.size, fun b hb => (hgW.block b (Nat.lt_of_lt_of_le hb hg04.size) (fun e => by cases e; omega)).trans (hg04.block b hb)⟩
    have hISP := rT_is (p := p) (d := d) (n := n) hxs
    have hcf2 : ∀ e, byte3 e → cf Dm e = atL (rT (monL d n) xs) e := fun e he => by rw [hcf.out e he, gF_all hx]
    have HU : Hid (∀ S, Good Dm S → S = rT (monL d n) xs) := Lib.hid (fun S hg => hg.unique hISP.1 (fun t ht => ⟨(hISP.2.1 t ht).1.1, by have := (hISP.2.1 t ht).2.1; omega⟩) (fun e he => (hcf2 e he).symm))
    have HPO := Lib.hid (polyOf_any sort_says p d W0.heap.size _ Dm W hMW (by simp; omega) (fun e he hc => by
      rw [hcf2 e he] at hc
      obtain ⟨t, ht, rfl⟩ := atL_ne_memY hc
      exact (hISP.2.1 t ht).1.2))
    clear hISP hcf2 hcf hxs hs0 hs1 hmm hW0 hW1 hm1 hM4 hcB hSE hx hxc
    gi_wp2
    refine ⟨trivial, (callsIn_wide.2 HPO.out).mono ?_⟩
    rintro e w5 ⟨v5, S, rfl, ho5, hgood, hb5⟩
    obtain rfl := HU.out S hgood
    obtain ⟨sa, sc, rfl⟩ := owns_slice ho5
    have rr5 := rowIs_below rrW hb5 rrW.lt
    have hK5 : w5.heap[D]? = some (.deferred (some [])) := (hb5.block D hDlt).trans hK
    obtain ⟨⟨r0, r1, r2⟩, z0, z1, z2⟩ := poly3 rr5
    obtain ⟨a0, a1, a2, a3, a4⟩ := fill_box rr5 ho5 hgT.size (hgT.trans (hb5.mono hgT.size)) (by omega) p d
    obtain ⟨S, hSS⟩ : ∃ S, rT (monL d n) xs = S := ⟨_, rfl⟩
    rw [hSS] at a0 a1 a2 a3 a4 ⊢
    dsimp only
    clear hgood HPO HU ho5
    gi_wp2
    have hDw : D ≠ w.heap.size + 1 := by omega
    have hKF := ((Deep.blk_setCell_other ((w5.setCell ⟨w.heap.size + 1, 0, none⟩ (.int .i64 p)).setCell ⟨w.heap.size + 1, 1, none⟩ (.int .i64 d)) ⟨w.heap.size + 1, 2, none⟩ (.slice sa S.length sc) D hDw).trans ((Deep.blk_setCell_other (w5.setCell ⟨w.heap.size + 1, 0, none⟩ (.int .i64 p)) ⟨w.heap.size + 1, 1, none⟩ (.int .i64 d) D hDw).trans (Deep.blk_setCell_other w5 ⟨w.heap.size + 1, 0, none⟩ (.int .i64 p) D hDw))).trans hK5
    obtain ⟨F, hF⟩ : ∃ F, ((w5.setCell ⟨w.heap.size + 1, 0, none⟩ (.int .i64 p)).setCell ⟨w.heap.size + 1, 1, none⟩ (.int .i64 d)).setCell ⟨w.heap.size + 1, 2, none⟩ (.slice sa S.length sc) = F := ⟨_, rfl⟩
    rw [hF] at a0 a1 a2 a3 a4 hKF ⊢
    have hne : ∀ o, (⟨w.heap.size + 1, o, none⟩ : Addr).block ≠ D := fun o => by show w.heap.size + 1 ≠ D; omega
    have b0 := (World.cell?_of_block (w := F) (w' := F.putObj D (.deferred none)) (a := ⟨w.heap.size + 1, 0, none⟩) (World.putObj_heap_other (hne 0))).trans a0
    have b1 := (World.cell?_of_block (w := F) (w' := F.putObj D (.deferred none)) (a := ⟨w.heap.size + 1, 1, none⟩) (World.putObj_heap_other (hne 1))).trans a1
    have b2 := (World.cell?_of_block (w := F) (w' := F.putObj D (.deferred none)) (a := ⟨w.heap.size + 1, 2, none⟩) (World.putObj_heap_other (hne 2))).trans a2
    have hO : OwnP (F.putObj D (.deferred none)) w.heap.size (.slice sa S.length sc) S := ownsRow_putObj a3 _ hKF rfl
    have hend := a4.trans (belowK_b (w := w) (Nat.le_refl _) F D _ (.deferred none) (by omega) hKF rfl rfl)
    refine ⟨by simp, .inl ⟨_, _, rfl, run_takeDeferred hKF, ?_⟩⟩
    refine ⟨.agg #[.int .i64 p, .int .i64 d, .slice sa S.length sc], by simp [results, Try.results102, go_sem, b0, b1, b2], _, rfl, ?_, hend⟩
    rw [hSS]
    exact hO
  case stop =>
    rintro D c pre W _ _ h _
    exact h.elim
end Go.Proofs.Ytphgpadpffigjaa
namespace Go.Proofs.Ytphgpadpffigjaa
open Go.RowKit Go.Sort

/-- A polynomial: its prime, its letters, its terms. -/
abbrev Pm := Int × Int × List Tm
/-- The polynomial k of a list, in memory. -/
def PolyAt (w : World) (b o : Nat) (g : Pm) : Prop :=
  ∃ u, w.cell? ⟨b, o, none⟩ = some (.int .i64 g.1) ∧ w.cell? ⟨b, o + 1, none⟩ = some (.int .i64 g.2.1) ∧ w.cell? ⟨b, o + 2, none⟩ = some u ∧ SliceT w u g.2.2
def PolysW (w : World) (b off : Nat) (G : List Pm) : Prop := ∀ (k : Nat) (h : k < G.length), PolyAt w b (off + k * 3) G[k]
/-- A slice that reads as these polynomials. -/
def SlP (w : World) (v : Value) (G : List Pm) : Prop :=
  ∃ a cap, v = .slice a G.length cap ∧ (G = [] ∨ ∃ b off, a = some ⟨b, off, none⟩ ∧ b < w.heap.size ∧ PolysW w b off G)
theorem PolyAt.below {w w' : World} {b o : Nat} {g : Pm} (h : PolyAt w b o g) (hb : Below w.heap.size w w') (hlt : b < w.heap.size) : PolyAt w' b o g := by
  obtain ⟨u, h0, h1, h2, hS⟩ := h
  exact ⟨u, (hb.cell (p := ⟨b, _, none⟩) hlt).trans h0, (hb.cell (p := ⟨b, _, none⟩) hlt).trans h1, (hb.cell (p := ⟨b, _, none⟩) hlt).trans h2, hS.below hb⟩
theorem PolysW.below {w w' : World} {b off : Nat} {G : List Pm} (h : PolysW w b off G) (hb : Below w.heap.size w w') (hlt : b < w.heap.size) : PolysW w' b off G :=
  fun k hk => (h k hk).below hb hlt
theorem SlP.below {w w' : World} {v : Value} {G : List Pm} (h : SlP w v G) (hb : Below w.heap.size w w') : SlP w' v G := by
  obtain ⟨a, cap, hv, h | ⟨b, off, ha, hlt, hT⟩⟩ := h
  · exact ⟨a, cap, hv, .inl h⟩
  · exact ⟨a, cap, hv, .inr ⟨b, off, ha, Nat.lt_of_lt_of_le hlt hb.size, hT.below hb hlt⟩⟩
theorem SlP.at {w : World} {a : Option Addr} {n cap : Nat} {G : List Pm} (h : SlP w (.slice a n cap) G) (h0 : 0 < G.length) : ∃ b off, a = some ⟨b, off, none⟩ ∧ b < w.heap.size ∧ PolysW w b off G ∧ n = G.length := by
  obtain ⟨a', cap', hv, h | ⟨b, off, ha, hlt, hT⟩⟩ := h
  · rw [h] at h0; simp at h0
  · simp at hv
    obtain ⟨rfl, rfl, rfl⟩ := hv
    exact ⟨b, off, ha, hlt, hT, rfl⟩
/-- Numbers that fit; no list of terms is too long. -/
def PmOk (g : Pm) : Prop := (∀ t ∈ g.2.2, tmByte t) ∧ g.2.2.length ≤ 1048576
/-- A polynomial. -/
def isPm (g : Pm) : Bool := isPolyB g.1 g.2.1 g.2.2
end Go.Proofs.Ytphgpadpffigjaa
namespace Go.Proofs.Ytphgpadpffigjaa
open Go.RowKit Go.Sort Go.Maps

theorem own_own {w : World} {base base' n n' size size' : Nat} {t e : TypeId} {v v' : Value} {xs xs' : List Value} (h : w.ownsRow base t size v n xs) (h' : w.ownsRow base' e size' v' n' xs') (hne : t ≠ e) : v.ownBlock = none ∨ v.ownBlock ≠ v'.ownBlock := by
  obtain ⟨_, ⟨rfl, _⟩ | ⟨g, cap, cur, rfl, _, hgc, _⟩⟩ := h
  · exact .inl rfl
  · obtain ⟨_, ⟨rfl, _⟩ | ⟨g', cap', cur', rfl, _, hgc', _⟩⟩ := h'
    · exact .inr (by simp [Value.ownBlock])
    · refine .inr fun hb => ?_
      simp [Value.ownBlock] at hb
      subst hb
      rw [hgc] at hgc'
      simp at hgc'
      exact hne hgc'.2
/-- The cells of polynomials of a prime and letters. -/
def cellsQ (p : Int) (n : Nat) (us : List Value) : List Value := us.flatMap fun u => [.int .i64 p, .int .i64 (n : Int), u]
theorem cellsQ_snoc (p : Int) (n : Nat) (us : List Value) (u : Value) : cellsQ p n (us ++ [u]) = cellsQ p n us ++ [.int .i64 p, .int .i64 (n : Int), u] := by simp [cellsQ]
theorem cellsQ_get (p : Int) (n : Nat) : ∀ (us : List Value) (k j : Nat) (h : k < us.length), j < 3 → (cellsQ p n us)[k * 3 + j]? = ([Value.int .i64 p, .int .i64 (n : Int), us[k]] : List Value)[j]?
  | [], k, _, h, _ => by simp at h
  | u :: r, 0, j, _, hj => by
    match j, hj with
    | 0, _ => simp [cellsQ]
    | 1, _ => simp [cellsQ]
    | 2, _ => simp [cellsQ]
  | u :: r, k + 1, j, h, hj => by
    have := cellsQ_get p n r k j (by simpa using h) hj
    rw [show (k + 1) * 3 + j = (k * 3 + j) + 3 by omega]
    simpa [cellsQ] using this
end Go.Proofs.Ytphgpadpffigjaa
namespace Go.Proofs.Ytphgpadpffigjaa
open Go.RowKit Go.Sort Go.Maps

/-- A list of polynomials of a prime and letters, of the call's own; the blocks of the terms ascend and lie below hi. -/
structure PMk (w : World) (base hi : Nat) (p : Int) (n : Nat) (v : Value) (us : List Value) (Ls : List (List Tm)) : Prop where
  len : us.length = Ls.length
  rows : w.ownsRow base 36 3 v Ls.length (cellsQ p n us)
  own : ∀ (i : Nat) (h : i < us.length) (h' : i < Ls.length), OwnP w base us[i] Ls[i]
  top : ∀ (i : Nat) (h : i < us.length) (b : Nat), us[i].ownBlock = some b → b < hi
  asc : ∀ (i j : Nat) (hi' : i < us.length) (hj : j < us.length), i < j → ∀ b b', us[i].ownBlock = some b → us[j].ownBlock = some b' → b < b'
theorem PMk.nil (w : World) (base : Nat) (p : Int) (n : Nat) : PMk w base base p n (.slice none 0 0) [] [] :=
  ⟨rfl, World.ownsRow_nil _ _ _ _, fun i h => by simp at h, fun i h => by simp at h, fun i j h => by simp at h⟩
theorem PMk.nilB {w : World} {base b : Nat} {p : Int} {n : Nat} (h : w.ownsRow base 36 3 (.slice (some ⟨b, 0, none⟩) 0 0) 0 []) : PMk w base base p n (.slice (some ⟨b, 0, none⟩) 0 0) [] [] :=
  ⟨rfl, h, fun i h => by simp at h, fun i h => by simp at h, fun i j h => by simp at h⟩
theorem PMk.below {w w' : World} {base hi : Nat} {p : Int} {n : Nat} {v : Value} {us : List Value} {Ls : List (List Tm)} (h : PMk w base hi p n v us Ls) (hb : Below w.heap.size w w') : PMk w' base hi p n v us Ls :=
  ⟨h.len, owns_belowT h.rows hb, fun i hi hi' => owns_belowT (h.own i hi hi') hb, h.top, h.asc⟩
theorem PMk.low {w : World} {base base' hi : Nat} {p : Int} {n : Nat} {v : Value} {us : List Value} {Ls : List (List Tm)} (h : PMk w base hi p n v us Ls) (hb : base' ≤ base) : PMk w base' hi p n v us Ls :=
  ⟨h.len, owns_low h.rows hb, fun i hi hi' => owns_low (h.own i hi hi') hb, h.top, h.asc⟩
theorem PMk.kept {w w' : World} {base hi : Nat} {p : Int} {n : Nat} {v : Value} {us : List Value} {Ls : List (List Tm)} (h : PMk w base hi p n v us Ls) {b : Nat} (hg : w.grownBy w' (some b)) (hb : b < base) : PMk w' base hi p n v us Ls := by
  have q : ∀ (k : Nat) (x : Value), x.ownBlock = some k → base ≤ k → x.ownBlock = none ∨ x.ownBlock ≠ some b := fun k x hx hk => .inr (fun e => by rw [e] at hx; injection hx with hx; omega)
  have q' : ∀ {e : TypeId} {size m : Nat} {x : Value} {xs : List Value}, w.ownsRow base e size x m xs → x.ownBlock = none ∨ x.ownBlock ≠ some b := fun {_ _ _ x _} hx => by
    cases hxb : x.ownBlock with
    | none => exact .inl rfl
    | some k => exact .inr (fun e => by injection e with e; have := (hx.lt k hxb).1; omega)
  exact ⟨h.len, h.rows.kept hg (q' h.rows), fun i hi hi' => (h.own i hi hi').kept hg (q' (h.own i hi hi')), h.top, h.asc⟩
theorem PMk.more {w w2 : World} {base hi b1 hi2 : Nat} {p : Int} {n : Nat} {v v2 u : Value} {us : List Value} {Ls : List (List Tm)} {X : List Tm} (h : PMk w base hi p n v us Ls) (ho : OwnP w b1 u X) (h1 : hi ≤ b1) (hb : base ≤ b1) (h2 : w.heap.size ≤ hi2)
    (hg : w.grownBy w2 v.ownBlock) (hr : w2.ownsRow base 36 3 v2 (Ls.length + 1) (cellsQ p n us ++ [.int .i64 p, .int .i64 (n : Int), u])) : PMk w2 base hi2 p n v2 (us ++ [u]) (Ls ++ [X]) := by
  have hl := h.len
  have hu : ∀ b, u.ownBlock = some b → b1 ≤ b ∧ b < hi2 := fun b e => ⟨(ho.lt b e).1, Nat.lt_of_lt_of_le (ho.lt b e).2 h2⟩
  refine ⟨by simp [hl], by rw [cellsQ_snoc]; simpa using hr, fun i hi hi' => ?_, fun i hi b e => ?_, fun i j hi' hj hij b b' e e' => ?_⟩
  · simp at hi
    by_cases e : i = us.length
    · subst e
      rw [List.getElem_append_right (by omega), List.getElem_append_right (by omega)]
      simp only [Nat.sub_self, hl, List.getElem_cons_zero]
      exact owns_low (ho.kept hg (own_own ho h.rows (by decide))) hb
    · rw [List.getElem_append_left (by omega), List.getElem_append_left (by omega)]
      exact (h.own i (by omega) (by omega)).kept hg (own_own (h.own i (by omega) (by omega)) h.rows (by decide))
  · simp at hi
    by_cases e1 : i = us.length
    · subst e1
      rw [List.getElem_append_right (by omega)] at e
      simp only [Nat.sub_self, List.getElem_cons_zero] at e
      exact (hu b e).2
    · rw [List.getElem_append_left (by omega)] at e
      exact Nat.lt_of_lt_of_le ((h.own i (by omega) (by omega)).lt b e).2 h2
  · simp at hi' hj
    rw [List.getElem_append_left (by omega)] at e
    by_cases e1 : j = us.length
    · subst e1
      rw [List.getElem_append_right (by omega)] at e'
      simp only [Nat.sub_self, List.getElem_cons_zero] at e'
      have := h.top i (by omega) b e
      have := (hu b' e').1
      omega
    · rw [List.getElem_append_left (by omega)] at e'
      exact h.asc i j (by omega) (by omega) hij b b' e e'
theorem PMk.slP {w : World} {base hi : Nat} {p : Int} {n : Nat} {v : Value} {us : List Value} {Ls : List (List Tm)} (h : PMk w base hi p n v us Ls) : SlP w v (Ls.map fun X => (p, (n : Int), X)) := by
  have hl := h.len
  obtain ⟨_, ⟨rfl, h0⟩ | ⟨b, cap, cur, rfl, hb, hg, hc1, hc2, hsz, htk⟩⟩ := id h.rows
  · refine ⟨none, 0, by rw [List.length_map, h0], .inl ?_⟩
    apply List.eq_nil_of_length_eq_zero
    rw [List.length_map, h0]
  · refine ⟨_, cap, by rw [List.length_map], .inr ⟨b, 0, rfl, (Array.getElem?_eq_some_iff.1 hg).1, fun k hk => ?_⟩⟩
    rw [List.length_map] at hk
    have hk' : k < us.length := by omega
    rw [List.getElem_map]
    have key : ∀ j, j < 3 → ∀ u, ([Value.int .i64 p, .int .i64 (n : Int), us[k]] : List Value)[j]? = some u → w.cell? ⟨b, 0 + k * 3 + j, none⟩ = some u := fun j hj u hu => by
      have e2 : (cellsQ p n us)[k * 3 + j]? = some u := (cellsQ_get p n us k j hk' hj).trans hu
      have hlt : k * 3 + j < Ls.length * 3 := by omega
      rw [← htk, List.getElem?_take_of_lt hlt, Array.getElem?_toList] at e2
      simp [World.cell?, hg, e2]
    exact ⟨us[k], key 0 (by omega) _ rfl, key 1 (by omega) _ rfl, key 2 (by omega) _ rfl, OwnP.slice (h.own k hk' hk)⟩
theorem PMk.shape {w : World} {base hi : Nat} {p : Int} {n : Nat} {v : Value} {us : List Value} {Ls : List (List Tm)} (h : PMk w base hi p n v us Ls) : ∃ a c, v = .slice a Ls.length c := owns_slice h.rows
/-- A list of polynomials that reads so. -/
abbrev SlPn (w : World) (p : Int) (n : Nat) (v : Value) (Ls : List (List Tm)) : Prop := SlP w v (Ls.map fun X => (p, (n : Int), X))
/-- The polynomial k of such a list. -/
theorem SlP.nth {w : World} {p : Int} {n : Nat} {a : Option Addr} {m c : Nat} {Ls : List (List Tm)} (h : SlPn w p n (.slice a m c) Ls) {k : Nat} (hk : k < Ls.length) : ∃ b off u, a = some ⟨b, off, none⟩ ∧ b < w.heap.size ∧ m = Ls.length ∧ w.cell? ⟨b, off + k * 3, none⟩ = some (.int .i64 p) ∧ w.cell? ⟨b, off + k * 3 + 1, none⟩ = some (.int .i64 (n : Int)) ∧ w.cell? ⟨b, off + k * 3 + 2, none⟩ = some u ∧ SliceT w u Ls[k] := by
  obtain ⟨b, off, ha, hlt, hP, hm⟩ := SlP.at h (by rw [List.length_map]; omega)
  obtain ⟨u, h0, h1, h2, h3⟩ := hP k (by rw [List.length_map]; exact hk)
  rw [List.getElem_map] at h0 h1 h3
  exact ⟨b, off, u, ha, hlt, by rw [hm, List.length_map], h0, h1, h2, h3⟩
end Go.Proofs.Ytphgpadpffigjaa
namespace Go.Proofs.Ytphgpadpffigjaa
open Go.RowKit Go.Sort Go.Maps

theorem own_set {w : World} {base b i N : Nat} {f : Nat → Value} {v x : Value} {S : List Tm} (h : OwnP w base v S) (hr : w.rowIs b 36 N f) : OwnP (w.setCell ⟨b, i, none⟩ x) base v S :=
  h.kept (row := some b) ⟨rfl, rfl, rfl, by rw [World.size_setCell]; exact Nat.le_refl _, fun k hk hne => Below.heap_setCell w ⟨b, i, none⟩ x k (fun e => hne (by rw [e]))⟩ (own_ne hr h (by decide))
theorem own_set3 {w : World} {base b i0 i1 i2 N : Nat} {f : Nat → Value} {v x0 x1 x2 : Value} {S : List Tm} (h : OwnP w base v S) (hr : w.rowIs b 36 N f) : OwnP (((w.setCell ⟨b, i0, none⟩ x0).setCell ⟨b, i1, none⟩ x1).setCell ⟨b, i2, none⟩ x2) base v S :=
  own_set (own_set (own_set h hr) (hr.set i0 x0)) ((hr.set i0 x0).set i1 x1)
end Go.Proofs.Ytphgpadpffigjaa
namespace Go.Proofs.Ytphgpadpffigjaa
open Go.RowKit Go.Sort Go.Maps

theorem infoPoly : (Try.prog.info? 36).map (fun i => (i.zero, i.size, i.bytes)) = some (some (.agg #[.int .i64 0, .int .i64 0, .slice none 0 0]), 3, 40) := by kernel_rfl
def madeP (n : Nat) : Array Value := madeCells (Value.agg #[.int .i64 0, .int .i64 0, .slice none 0 0]).cells (n * 3)
theorem madeP_row (w : World) (n : Nat) (t : TypeId) : (w.alloc (.cells (madeP n) t)).rowIs w.heap.size t (n * 3) (fun i => (madeP n).getD i undef) := by
  have hs : (madeP n).size = n * 3 := by simp [madeP, madeCells]
  refine ⟨madeP n, heap_alloc_new w _, hs, fun i hi => ?_⟩
  simp [Array.getD, hs, hi]
end Go.Proofs.Ytphgpadpffigjaa
namespace Go.Proofs.Ytphgpadpffigjaa
open Go.RowKit Go.Sort Go.Maps

theorem pow_le2197 {a : Nat} (ha : a ≤ 13) {i : Nat} (hi : i ≤ 3) : a ^ i ≤ 2197 :=
  Nat.le_trans (Nat.pow_le_pow_left ha i) (Nat.le_trans (Nat.pow_le_pow_right (by omega) hi) (by decide))

set_option maxHeartbeats 1000000 in
theorem iwp (a k : Nat) (w : World) (ha : a ≤ 13) (hk : k ≤ 3) : Calls Try.prog 60 #[.int .i64 a, .int .i64 k] w fun e w' => e = .returned (.int .i64 ((a ^ k : Nat) : Int)) ∧ w' = w := by
  go_enter Try.func60, Try.ntmps60
  go_wp2
  go_loop [5, 7] (fun q c => ∃ i : Nat, i ≤ k ∧ c = .int .i64 i ∧ q = .int .i64 ((a ^ i : Nat) : Int)) (fun _ c => k - (intOf c).toNat)
  case atStart => exact ⟨0, by omega, rfl, by simp⟩
  case round =>
    obtain ⟨i, hi, rfl, rfl⟩ := hrel
    by_cases hlt : i < k
    · have hlt' : (i : Int) < (k : Int) := by omega
      have h27 := pow_le2197 ha (i := i + 1) (by omega)
      have HM : Hid (IntKind.i64.wrap (((a ^ i : Nat) : Int) * (a : Int)) = ((a ^ (i + 1) : Nat) : Int)) := Lib.hid (by
        rw [Nat.pow_succ] at h27 ⊢
        rw [← Int.natCast_mul]
        exact IntWalk.i64_in _ (by omega))
      obtain ⟨Q, hQ⟩ : ∃ Q, ((a ^ (i + 1) : Nat) : Int) = Q := ⟨_, rfl⟩
      obtain ⟨q, hq⟩ : ∃ q, ((a ^ i : Nat) : Int) = q := ⟨_, rfl⟩
      have HQ := Lib.hid hQ
      rw [hQ, hq] at HM
      rw [hq]
      have hm := HM.out
      clear hQ hq h27 HM
      go_wp2
      go_round
      case rel => exact ⟨i + 1, by omega, by go_num, by rw [HQ.out]⟩
      case measure => simp [intOf]; omega
    · obtain rfl : k = i := by omega
      go_wp2
      go_ret
      exact ⟨rfl, rfl⟩

theorem dgF_slN {w : World} {g q n c cap : Nat} {t : TypeId} (h : w.rowIs g t n (dgF q c n)) : Sl w (.slice (some ⟨g, 0, none⟩) n cap) (dgN q n c) := by
  refine ⟨_, cap, by simp [dgN], .inr ⟨g, 0, rfl, h.lt, fun j hj => ?_⟩⟩
  have hj' : j < n := by simpa [dgN] using hj
  rw [Nat.zero_add, h.cell (by omega)]
  simp [dgF, dgN, hj']
theorem one_polyD (w : World) (p n : Int) (u : Value) : ∀ (j : Nat) (x : Value), ([Value.int .i64 p, .int .i64 n, u] : List Value)[j]? = some x → (w.alloc (.cells #[.int .i64 p, .int .i64 n, u] 36)).cell? ((⟨w.heap.size, 0, none⟩ : Addr).add j) = some x :=
  World.news_of_block (cs := #[.int .i64 p, .int .i64 n, u]) (t := 36) (fr := (0, 0)) (heap_alloc_new w _)
theorem sums_take (q n c : Nat) : ((List.range (c + 1)).map (frm q n)) = ((List.range c).map (frm q n)) ++ [frm q n c] := by
  rw [List.range_succ, List.map_append]; rfl

set_option maxRecDepth 8000 in
set_option maxHeartbeats 16000000 in
theorem isol (q n N : Nat) (w : World) (hq : 2 ≤ q ∧ q ≤ 13) (hn : 1 ≤ n ∧ n ≤ 3) (hN : N ≤ 13) :
    Calls Try.prog 62 #[.int .i64 q, .int .i64 n, .int .i64 N] w fun e w' => ∃ v' us hi, e = .returned v' ∧ PMk w' w.heap.size hi q n v' us ((List.range N).map (frm q n)) ∧ Below w.heap.size w w' := by
  obtain ⟨i0, hi0, hz0, hz1, hz2⟩ := info_parts infoPoly
  obtain ⟨i1, hi1, hy0, hy1, hy2⟩ := info_parts einfoI
  have hmk : ∀ w, (Instr.makeSlice 61 (.int .i64 (n : Int)) (.int .i64 (n : Int))).run Try.prog w = .ok (.slice (some ⟨w.heap.size, 0, none⟩) n n) (w.alloc (.cells (nmadeI n) 2)) := fun w => by
    have h := run_make (P := Try.prog) w 61 2 i1 _ Try.underlying61 hi1 hy0 .i64 .i64 (n : Int) (n : Int) (by omega) (by omega) (by rw [hy2]; omega) (by omega)
    rw [hy1] at h
    simpa [nmadeI, Value.cells] using h
  clear hi1 hy0 hy1 hy2
  have hq0 : ¬ (q : Int) = 0 := by omega
  have hq1 : ((q : Int) == 0) = false := by simpa using hq0
  have hmn : (monL n 1).length = n := by
    rw [monL_one1 n (by simp; omega), List.length_take]
    simp
    omega
  have HMN := Lib.hid hmn
  clear hmn
  have st0 : PMk w w.heap.size w.heap.size q n (.slice none 0 0) [] ((List.range 0).map (frm q n)) := PMk.nil _ _ _ _
  go_enter Try.func62, Try.ntmps62
  go_wp2_with fail
  go_loopg [12, 7] N (fun g ci v wr => ∃ (c : Nat) (us : List Value) (hi : Nat), c + g = N ∧ ci = .int .i64 c ∧ PMk wr w.heap.size hi q n v us ((List.range c).map (frm q n)) ∧ hi ≤ wr.heap.size ∧ w.heap.size ≤ hi ∧ Below w.heap.size w wr)
  case atStart => exact ⟨0, [], _, by omega, rfl, st0, Nat.le_refl _, Nat.le_refl _, Below.refl _ _⟩
  case round =>
    clear st0
    obtain ⟨c, us, hi, hc, rfl, st, hhi, hWhi, hbr⟩ := hrel
    obtain ⟨sa, sc, hv⟩ := st.shape
    rw [List.length_map, List.length_range] at hv
    subst hv
    by_cases hlt : c < N
    · have hlt' : (c : Int) < (N : Int) := by omega
      obtain ⟨g2, hg2⟩ : ∃ g2, c + 1 + g2 = N := ⟨N - (c + 1), by omega⟩
      have HG2 := Lib.hid (And.intro hg2 (show g2 < gk by omega))
      have hc13 : c ≤ 12 := by omega
      obtain ⟨W1, hW1, rW, hbW⟩ : ∃ W1, W1 = wr.alloc (.cells (nmadeI n) 2) ∧ W1.rowIs wr.heap.size 2 n (dgF q c 0) ∧ Below wr.heap.size wr W1 := ⟨_, rfl, (nmadeI_row wr n _).congr (fun q _ => by simp [dgF]), ebox1 _ _⟩
      obtain ⟨wo, hwo⟩ : ∃ wo, wo = wr := ⟨_, rfl⟩
      rw [← hwo] at st hhi hbr rW hbW hW1
      clear hc hg2
      go_upto_region 6 with fail
      rw [← hwo, ← hW1]
      clear hW1 hwo hmk
      go_wp2_with fail
      go_loopg [19, 8] n (fun g ti s wq => ∃ i : Nat, i + g = n ∧ ti = .int .i64 i ∧ s = .int .i64 ((c / q ^ i : Nat) : Int) ∧ wq.rowIs wo.heap.size 2 n (dgF q c i) ∧ Below wo.heap.size wo wq)
      case atStart => exact ⟨0, by omega, rfl, by simp, rW, hbW⟩
      case round =>
        clear rW hbW
        obtain ⟨i, hi', rfl, rfl, hR, hbo⟩ := hrel
        by_cases hid : i < n
        · have hid' : (i : Int) < (n : Int) := by omega
          obtain ⟨g3, hg3⟩ : ∃ g3, i + 1 + g3 = n := ⟨n - (i + 1), by omega⟩
          have HI := Lib.hid (And.intro hg3 (show g3 < gk by omega))
          obtain ⟨ρ, hρ⟩ : ∃ ρ, c / q ^ i = ρ := ⟨_, rfl⟩
          have hρ27 : ρ ≤ 27 := by rw [← hρ]; exact Nat.le_trans (Nat.div_le_self _ _) (by omega)
          obtain ⟨x, hx⟩ : ∃ x, dgt q c i = x := ⟨_, rfl⟩
          have hxx : x = ((ρ % q : Nat) : Int) := by rw [← hx]; unfold dgt; rw [hρ]
          have hrem : (ρ : Int).tmod (q : Int) = x := by rw [hxx, Int.tmod_eq_emod_of_nonneg (by omega), Int.natCast_emod]
          obtain ⟨ρ2, hρ2⟩ : ∃ ρ2, ρ / q = ρ2 := ⟨_, rfl⟩
          have hquo : (ρ : Int).tdiv (q : Int) = (ρ2 : Int) := by rw [← hρ2, Int.tdiv_eq_ediv_of_nonneg (by omega), Int.natCast_ediv]
          have hρ3 : ρ2 ≤ 27 := by rw [← hρ2]; exact Nat.le_trans (Nat.div_le_self _ _) hρ27
          have hwq : IntKind.i64.wrap (ρ2 : Int) = (ρ2 : Int) := IntWalk.i64_in _ (by omega)
          have HNX : Hid (c / q ^ (i + 1) = ρ2) := Lib.hid (by rw [← dgt_next, hρ, hρ2])
          have hcc := hR.cell (i := i) hid
          have hf := hR.frozen i
          have hR2 := (hR.set i (.int .i64 x)).congr (g := dgF q c (i + 1)) (fun k _ => by rw [← hx]; exact dgF_put q c i k)
          have hb2 := hbo.setCell (p := ⟨wo.heap.size, i, none⟩) (Nat.le_refl _) (.int .i64 x)
          have HR2 := Lib.hid (And.intro hR2 hb2)
          rw [hρ]
          clear hR hbo hR2 hb2 hx hxx hρ hρ2 hi' hg3
          go_wp2_with fail
          go_roundg g3
          case measure => exact HI.out.2
          case rel => exact ⟨i + 1, HI.out.1, by go_num, by rw [HNX.out], HR2.out.1, HR2.out.2⟩
        · obtain rfl : n = i := by omega
          have hsl : Sl wr (.slice (some ⟨wo.heap.size, 0, none⟩) n n) (dgN q n c) := dgF_slN hR
          have hdl : (dgN q n c).length = n := by simp [dgN]
          have HPO := Lib.hid (ipor q n 1 _ (dgN q n c) wr (by omega) (by omega) (by rw [HMN.out, hdl]) (fun x hx => by
            unfold dgN at hx
            obtain ⟨k, _, rfl⟩ := List.mem_map.1 hx
            unfold dgt
            have := Nat.mod_lt (c / q ^ k) (show q > 0 by omega)
            omega) hsl)
          rw [frm_mon hn] at HPO
          have HN := Lib.hid (sums_take q n c)
          obtain ⟨D, hD⟩ : ∃ D, frm q n c = D := ⟨_, rfl⟩
          rw [hD] at HPO HN
          have hln : ((List.range c).map (frm q n)).length = c := by rw [List.length_map, List.length_range]
          obtain ⟨Ls, hLs⟩ : ∃ Ls, (List.range c).map (frm q n) = Ls := ⟨_, rfl⟩
          rw [hLs] at HN hln st
          have HLN := Lib.hid hln
          have hWr := hbr.size
          clear hD hLs hln hsl hdl hR hi'
          go_wp2_with fail
          ((with_reducible refine HPO.out.mono ?_); rintro e w3 ⟨v3, rfl, ho3, hb3⟩)
          obtain ⟨sa3, sc3, rfl⟩ := owns_slice ho3
          have hb4 : Below wo.heap.size wo (w3.alloc (.cells #[.int .i64 (q : Int), .int .i64 (n : Int), .slice sa3 D.length sc3] 36)) := hbo.trans ((hb3.trans ((box1 _ _).mono hb3.size)).mono hbo.size)
          have st4 := st.below hb4
          have hmx : c + 1 ≤ maxLen := by unfold maxLen; omega
          have hmb : (c + 1) * 40 ≤ 140737488355328 := by omega
          have hbs := Nat.le_trans hWr hb4.size
          have ho4 := owns_low (base' := wo.heap.size) (owns_belowT ho3 (box1 w3 (.cells #[.int .i64 (q : Int), .int .i64 (n : Int), .slice sa3 D.length sc3] 36))) hbo.size
          have hr4 : (w3.alloc (.cells #[.int .i64 (q : Int), .int .i64 (n : Int), .slice sa3 D.length sc3] 36)).ownsRow w.heap.size 36 3 (.slice sa c sc) c (cellsQ q n us) := by
            have := st4.rows
            rwa [HLN.out] at this
          clear st ho3 hb3 hbo HPO
          go_wp2_with (at_builtin; refine wpList_append_lies _ rfl _ _ 27 rfl w.heap.size 36 i0 _ 3 40 Try.underlying27 hi0 hz0 hz1 hz2 rfl (by decide) (.slice sa c sc) c (cellsQ q n us) rfl hr4 ⟨w3.heap.size, 0, none⟩ 1 1 [.int .i64 q, .int .i64 (n : Int), .slice sa3 D.length sc3] rfl rfl (one_polyD w3 q (n : Int) _) (by intro y hy; simp at hy; rcases hy with rfl | rfl | rfl <;> rfl) (by omega) hmx hmb hbs _ rfl ?_)
          intro gg cap3 w8 hown8 hgrow8 hat8 hlt8
          have stN := st4.more (u := .slice sa3 D.length sc3) (X := D) (hi2 := (w3.alloc (.cells #[.int .i64 (q : Int), .int .i64 (n : Int), .slice sa3 D.length sc3] 36)).heap.size) ho4 hhi hWr (Nat.le_refl _) (by exact hgrow8) (by rw [HLN.out]; exact hown8)
          rw [← HN.out] at stN
          have h1 := hgrow8.size
          have hq8 : Below w.heap.size w w8 := (hbr.trans (hb4.mono hWr)).grown hgrow8 hbs (fun q hq => (World.ownsRow.lt hr4 q hq).1)
          have HH := Lib.hid (And.intro stN (And.intro h1 (And.intro hbs hq8)))
          clear hown8 hgrow8 hat8 st4 stN h1 hbs hq8 ho4 hr4 hb4 hlt8
          go_wp2_with fail
          go_roundg g2
          case measure => exact HG2.out.2
          case rel => exact ⟨c + 1, _, _, HG2.out.1, by go_num, HH.out.1, HH.out.2.1, HH.out.2.2.1, HH.out.2.2.2⟩
    · obtain rfl : N = c := by omega
      have HD := Lib.hid st
      clear st
      go_wp2_with fail
      go_ret
      exact ⟨_, _, _, rfl, HD.out, hbr⟩
end Go.Proofs.Ytphgpadpffigjaa
namespace Go.Proofs.Ytphgpadpffigjaa
open Go.RowKit Go.Sort Go.Maps

set_option maxHeartbeats 1000000 in
theorem constant_any (p d v : Int) (w : World) (h0 : 0 ≤ v) (h1 : v ≤ 1000000) :
    Calls Try.prog 101 #[.int .i64 p, .int .i64 d, .int .i64 v] w fun e w' =>
      ∃ v', e = .returned (.agg #[.int .i64 p, .int .i64 d, v']) ∧ OwnP w' w.heap.size v' (constL v) ∧ Below w.heap.size w w' := by
  have hmm := @run_makeMap Try.prog
  have hb0 : byte3 (0, 0, 0) := by simp [byte3]
  have hk0 : keyOf Try.prog 75 (.agg #[.int .u8 0, .int .u8 0, .int .u8 0]) = some (kE (0, 0, 0)) := keyOf_vE (0, 0, 0) hb0
  have rr : (w.alloc (.cells #[.int .i64 0, .int .i64 0, .slice none 0 0] 36)).rowIs w.heap.size 36 3 (polyF 0 0 (.slice none 0 0)) := World.rowIs_alloc w #[Value.int .i64 0, .int .i64 0, .slice none 0 0] 36 (polyF 0 0 (.slice none 0 0)) (fun i hi => by simp at hi; match i, hi with | 0, _ => rfl | 1, _ => rfl | 2, _ => rfl)
  have hmade := World.ownsMap_made (H := Unit) (w.alloc (.cells #[.int .i64 0, .int .i64 0, .slice none 0 0] 36)) Try.prog 75 (plainElem Try.prog 2)
  obtain ⟨W, hrun, hown, hgr⟩ := hmade.update lawK Try.underlying106 (by unfold maxLen; omega) hk0 (plainElem_int Try.underlying2 (wf64 h0 (by omega)))
  have rrW := (rr.alloc (.map #[] 0)).of_block (hgr.block _ (by simp; omega) (by simp))
  have hbW : Below w.heap.size w W := (box2 w _ _).grown hgr (by simp; omega) (fun k hk => by simp at hk; omega)
  have hsW : w.heap.size + 2 ≤ W.heap.size := by have := hgr.size; simp at this; omega
  have hb' : (w.alloc (.cells #[.int .i64 0, .int .i64 0, .slice none 0 0] 36)).heap.size = w.heap.size + 1 := by simp
  rw [hb'] at hrun hown
  clear rr hmade hgr hb'
  go_enter Try.func101, Try.ntmps101
  go_wp2_with fail
  have hcf : ∀ a, byte3 a → cf (DataW.put (H := Unit) (.map []) (kE (0, 0, 0)) (.lit (.int .i64 v))) a = if a = (0, 0, 0) then v else 0 := fun a ha => by
    rw [cf_put isMap_empty hb0 ha, cf_empty]
  refine (polyOf_any sort_says p d (w.heap.size + 1) (0 + 1) _ W hown (by omega) (fun e he hc => ?_)).mono ?_
  · rw [hcf e he] at hc
    by_cases h : e = (0, 0, 0)
    · subst h; simp
    · rw [if_neg h] at hc; exact absurd rfl hc
  rintro e w2 ⟨v', S, rfl, ho, hgood, hb2⟩
  obtain ⟨sa, sc, rfl⟩ := owns_slice ho
  have hS : S = constL v := hgood.one hb0 hcf
  clear hmm hk0 hrun hown hgood hcf
  have rr2 := rowIs_below rrW hb2 rrW.lt
  have hbw2 := hbW.trans (hb2.mono hbW.size)
  have r0 := rr2.cell (i := 0) (by omega)
  have r1 := rr2.cell (i := 1) (by omega)
  have r2 := rr2.cell (i := 2) (by omega)
  have z0 := rr2.frozen 0
  have z1 := rr2.frozen 1
  have z2 := rr2.frozen 2
  simp [polyF] at r0 r1 r2
  obtain ⟨a0, a1, a2, a3, a4⟩ := fill_box rr2 ho hbW.size hbw2 (Nat.le_refl _) p d
  have HF := Lib.hid (And.intro a3 a4)
  have HS := Lib.hid hS
  have A0 := Lib.hid a0
  have A1 := Lib.hid a1
  have A2 := Lib.hid a2
  clear a0 a1 a2 a3 a4 hS ho
  go_wp2_with fail
  rw [← HS.out]
  exact bodyPost_ret (v := .agg #[.int .i64 p, .int .i64 d, .slice sa S.length sc]) (by simp [results, Try.results101, go_sem, A0.out, A1.out, A2.out]) rfl ⟨_, rfl, HF.out.1, HF.out.2⟩
end Go.Proofs.Ytphgpadpffigjaa
namespace Go.Proofs.Ytphgpadpffigjaa
open Go.RowKit Go.Sort Go.Maps

set_option maxRecDepth 8000 in
set_option maxHeartbeats 8000000 in
theorem isum (p : Int) (m : Nat) (kk : Int) (v : Value) (Ls : List (List Tm)) (w : World) (h0 : 1 ≤ Ls.length) (hl : Ls.length ≤ 1000) (hV : ∀ X ∈ Ls, Valid p m X) (hk0 : 0 ≤ kk) (hk1 : kk < p) (hS : SlPn w p m v Ls) :
    Calls Try.prog 80 #[v, .int .i64 kk] w fun e w' => ∃ v' S, e = .returned (.agg #[.int .i64 p, .int .i64 (m : Int), v']) ∧ OwnP w' w.heap.size v' S ∧ IsP p S (sumK p kk Ls) ∧ Below w.heap.size w w' := by
  have hp2 : 2 ≤ p := (hV Ls[0] (List.getElem_mem (by omega))).p2
  have hp13 : p ≤ 13 := (hV Ls[0] (List.getElem_mem (by omega))).p13
  obtain ⟨a, cap, rfl, _⟩ := id hS
  obtain ⟨bl, off, _, rfl, hbl, _, _⟩ := SlP.nth hS (k := 0) (by omega)
  rw [List.length_map] at hS ⊢
  obtain ⟨R, hR, hbR, ⟨hRs, hRs2⟩, rr⟩ : ∃ R, R = w.alloc (.cells #[.int .i64 0, .int .i64 0, .slice none 0 0] 36) ∧ Below w.heap.size w R ∧ (R.heap.size ≤ w.heap.size + 1 ∧ w.heap.size + 1 ≤ R.heap.size) ∧ R.rowIs w.heap.size 36 3 (polyF 0 0 (.slice none 0 0)) := ⟨_, rfl, box1 _ _, ⟨by simp, by simp⟩, zbox w⟩
  have hmm := @run_makeMap Try.prog
  have hm := World.ownsMap_made (H := Unit) R Try.prog 75 (plainElem Try.prog 2)
  obtain ⟨V, hV1, hbV, hVs1⟩ : ∃ V, V = R.alloc (.map #[] 0) ∧ Below R.heap.size R V ∧ R.heap.size + 1 ≤ V.heap.size := ⟨_, rfl, box1 _ _, by simp⟩
  rw [← hV1] at hm
  have hbwV := hbR.trans (hbV.mono hbR.size)
  have rrV := rowIs_below rr hbV rr.lt
  have HV := Lib.hid hV
  have hRw : w.heap.size ≤ R.heap.size := hbR.size
  clear hV rr
  go_enter Try.func80, Try.ntmps80
  go_upto_region 1 with fail
  rw [← hR]
  clear hR
  go_wp2_with fail
  rw [← hV1]
  clear hV1 hmm
  go_loopw [11] (fun i wr => ∃ (k : Nat) (D : DataW Unit), k ≤ Ls.length ∧ i = .int .i64 k ∧ Hid (∀ e, byte3 e → cf D e = sumK p kk (Ls.take k) e) ∧ MapE wr R.heap.size (k * 2197) D ∧ V.grownBy wr (some R.heap.size)) (fun i _ => Ls.length - (intOf i).toNat)
  case atStart => exact ⟨0, _, by omega, rfl, Lib.hid (fun e _ => by rw [cf_empty]; exact (sumK_nil p kk e).symm), by simpa using hm, World.grownBy.refl _ _⟩
  case round =>
    clear hm
    obtain ⟨k, D, hk, rfl, HD, hM, hgr⟩ := hrel
    have hend := hbwV.grown hgr hbwV.size (fun q hq => by simp at hq; omega)
    have hSr := hS.below hend
    by_cases hlt : k < Ls.length
    · have hlt' : (k : Int) < (Ls.length : Int) := by omega
      obtain ⟨b', off', uu, hbe, _, hmm, c0, c1, c2, hT⟩ := SlP.nth hSr hlt
      simp at hbe
      obtain ⟨rfl, rfl⟩ := hbe
      have HVX := Lib.hid (HV.out Ls[k] (List.getElem_mem hlt))
      have hXl : Ls[k].length ≤ 2197 := HVX.out.isP.len
      have HB := Lib.hid (fun e => sumK_bound (p := p) (k := kk) hp2 (Ls.take k) e)
      have HN := Lib.hid (fun e => (sumK_snoc p kk Ls[k] (Ls.take k) e).trans (by rw [← List.take_succ_eq_append_getElem hlt]))
      generalize Ls[k] = X at *
      obtain ⟨ua, uc, rfl, _⟩ := id hT
      obtain ⟨V2, hV2, hbV2, _, rq⟩ := newbox wr p (m : Int) (.slice ua X.length uc)
      have hM2 := hM.later hbV2
      have hT2 := hT.below hbV2
      have hg2 := hgr.trans (gBelow hbV2)
      obtain ⟨⟨q0, q1, q2⟩, _⟩ := poly3 rq
      clear hmm hT
      go_upto_region 5 with fail
      rw [← hV2]
      clear hV2 c0 c1 c2
      go_wp2_with fail
      ((with_reducible refine (addTimes_any p (m : Int) kk _ X V2 R.heap.size (k * 2197) D (sumK p kk (Ls.take k)) (by omega) hT2 HVX.out hM2 (by omega) HD.out (fun e _ => HB.out e) hk0 hk1).mono ?_); rintro e w3 ⟨D3, rfl, hM3, hD3, hg3⟩)
      have HD3 : Hid (∀ e, byte3 e → cf D3 e = sumK p kk (Ls.take (k + 1)) e) := Lib.hid (fun e he => (hD3 e he).trans (HN.out e))
      have hM4 := hM3.mono (show k * 2197 + X.length ≤ (k + 1) * 2197 by omega)
      have hg4 := hg2.trans hg3
      clear q0 q1 q2 hM3 hD3 hg3 hM2 hg2 hM rq hT2
      go_wp2_with fail
      go_roundw
      case rel => exact ⟨k + 1, _, by omega, by go_num, HD3, hM4, hg4⟩
      case measure => simp [intOf]; omega
    · obtain rfl : k = Ls.length := by omega
      have HD2 : Hid (∀ e, byte3 e → cf D e = sumK p kk Ls e) := Lib.hid (by have := HD.out; rwa [List.take_length] at this)
      have HB := Lib.hid (fun e => sumK_bound (p := p) (k := kk) hp2 Ls e)
      have HG := Lib.hid (fun e he => sumK_deg (k := kk) (e := e) HV.out he)
      have HPO := Lib.hid (fun w (hME : MapE w R.heap.size (Ls.length * 2197) D) => polyOf_any sort_says p (m : Int) R.heap.size (Ls.length * 2197) D w hME (by omega) (fun e he hc => by
        rw [HD2.out e he] at hc
        exact HG.out e hc))
      have HGD := Lib.hid (fun (S : List Tm) (h : Good D S) => show IsP p S (sumK p kk Ls) from h.isP HD2.out (fun e _ => HB.out e) (fun e _ hc => HG.out e hc))
      obtain ⟨b', off', uu, hbe, _, hmm, c0, c1, c2, hT⟩ := SlP.nth hSr (k := 0) (by omega)
      simp at hbe
      obtain ⟨rfl, rfl⟩ := hbe
      rw [Nat.zero_mul, Nat.add_zero] at c0 c1
      have rr2 := rowG rrV hgr (by omega)
      have hMd : MapE wr.drew R.heap.size (Ls.length * 2197) D := hM.later (Below.same _).drew
      have hl0 : (0 : Int) < (Ls.length : Int) := by omega
      clear hmm hT c2 HD HD2 hM
      go_wp2_with fail
      go_region_with
        ((go_at_call 94; (with_reducible refine (HPO.out _ hMd).mono ?_); rintro e w13 ⟨v13, S13, rfl, ho13, hg13, hb13⟩; have HB13 : Below wr.heap.size wr w13 := (Below.same _).drew.trans hb13; have hP13 := Lib.hid (HGD.out S13 hg13); (obtain ⟨sa13, sc13, rfl⟩ := owns_slice ho13); have rr13 := rowIs_below rr2 HB13 rr2.lt; (obtain ⟨⟨e130, e131, e132⟩, f130, f131, f132⟩ := poly3 rr13)))
      all_goals
        obtain ⟨a0, a1, a2, a3, a4⟩ := fill_box (w := w) (base := wr.drew.heap.size) rr13 ho13 hend.size (hend.trans (HB13.mono hend.size)) (Nat.le_refl _) p (m : Int)
        have A0 := Lib.hid a0
        have A1 := Lib.hid a1
        have A2 := Lib.hid a2
        have A3 := Lib.hid a3
        have A4 := Lib.hid a4
        clear a0 a1 a2 a3 a4
        go_wp2_with fail
        exact bodyPost_ret (v := .agg #[.int .i64 p, .int .i64 (m : Int), .slice sa13 S13.length sc13]) (by simp [results, Try.results80, go_sem, A0.out, A1.out, A2.out]) rfl ⟨_, S13, rfl, A3.out, hP13.out, A4.out⟩
end Go.Proofs.Ytphgpadpffigjaa
namespace Go.Proofs.Ytphgpadpffigjaa
open Go.RowKit Go.Sort Go.Maps

/-- The first j polynomials of a row of N cells are T 0, T 1, .. -/
structure FrW (w : World) (base gb N : Nat) (p : Int) (m : Nat) (T : Nat → List Tm) (j : Nat) (F : Nat → Value) : Prop where
  row : w.rowIs gb 36 N F
  fit : j * 3 ≤ N
  at' : ∀ i, i < j → F (i * 3) = .int .i64 p ∧ F (i * 3 + 1) = .int .i64 (m : Int) ∧ OwnP w base (F (i * 3 + 2)) (T i)
theorem FrW.later {w w' : World} {base gb N : Nat} {p : Int} {m : Nat} {T : Nat → List Tm} {j : Nat} {F : Nat → Value} (h : FrW w base gb N p m T j F) (hb : Below w.heap.size w w') : FrW w' base gb N p m T j F :=
  ⟨rowIs_below h.row hb h.row.lt, h.fit, fun i hi => ⟨(h.at' i hi).1, (h.at' i hi).2.1, owns_belowT (h.at' i hi).2.2 hb⟩⟩
theorem FrW.congr {w : World} {base gb N : Nat} {p : Int} {m : Nat} {T T' : Nat → List Tm} {j : Nat} {F : Nat → Value} (h : FrW w base gb N p m T j F) (e : ∀ i, i < j → T i = T' i) : FrW w base gb N p m T' j F :=
  ⟨h.row, h.fit, fun i hi => ⟨(h.at' i hi).1, (h.at' i hi).2.1, by rw [← e i hi]; exact (h.at' i hi).2.2⟩⟩
theorem FrW.put {w : World} {base base' gb N : Nat} {p : Int} {m : Nat} {T : Nat → List Tm} {j : Nat} {F : Nat → Value} (h : FrW w base gb N p m T j F) {i j' : Nat} {u : Value} {X : List Tm} (ho : OwnP w base' u X) (hb : base ≤ base') (hj : ∀ l, l < j' → l = i ∨ l < j) (hf : j' * 3 ≤ N) :
    FrW (((w.setCell ⟨gb, i * 3, none⟩ (.int .i64 p)).setCell ⟨gb, i * 3 + 1, none⟩ (.int .i64 (m : Int))).setCell ⟨gb, i * 3 + 2, none⟩ u) base gb N p m (fun l => if l = i then X else T l) j' (fun l => if l = i * 3 + 2 then u else if l = i * 3 + 1 then .int .i64 (m : Int) else if l = i * 3 then .int .i64 p else F l) := by
  refine ⟨((h.row.set (i * 3) (.int .i64 p)).set (i * 3 + 1) (.int .i64 (m : Int))).set (i * 3 + 2) u, hf, fun l hl => ?_⟩
  by_cases e : l = i
  · subst e
    refine ⟨?_, ?_, ?_⟩
    · rw [if_neg (by omega), if_neg (by omega), if_pos rfl]
    · rw [if_neg (by omega), if_pos rfl]
    · rw [if_pos rfl, if_pos rfl]
      exact owns_low (own_set3 ho h.row) hb
  · obtain ⟨a, b, c⟩ := h.at' l (by rcases hj l hl with h | h; exact absurd h e; exact h)
    refine ⟨?_, ?_, ?_⟩
    · rw [if_neg (by omega), if_neg (by omega), if_neg (by omega), a]
    · rw [if_neg (by omega), if_neg (by omega), if_neg (by omega), b]
    · rw [if_neg (by omega), if_neg (by omega), if_neg (by omega), if_neg e]
      exact own_set3 c h.row
theorem FrW.cells {w : World} {base gb N : Nat} {p : Int} {m : Nat} {T : Nat → List Tm} {j : Nat} {F : Nat → Value} (h : FrW w base gb N p m T j F) {i : Nat} (hi : i < j) :
    ∃ u, w.cell? ⟨gb, i * 3, none⟩ = some (.int .i64 p) ∧ w.cell? ⟨gb, i * 3 + 1, none⟩ = some (.int .i64 (m : Int)) ∧ w.cell? ⟨gb, i * 3 + 2, none⟩ = some u ∧ OwnP w base u (T i) := by
  obtain ⟨a, b, c⟩ := h.at' i hi
  have hf := h.fit
  exact ⟨_, (h.row.cell (by omega)).trans (by rw [a]), (h.row.cell (by omega)).trans (by rw [b]), h.row.cell (by omega), c⟩
theorem FrW.any {w : World} {base gb N : Nat} {p : Int} {m : Nat} {T : Nat → List Tm} {j : Nat} {F : Nat → Value} (h : FrW w base gb N p m T j F) {i : Nat} (hi : i * 3 + 3 ≤ N) :
    (w.cell? ⟨gb, i * 3, none⟩ = some (F (i * 3)) ∧ w.cell? ⟨gb, i * 3 + 1, none⟩ = some (F (i * 3 + 1)) ∧ w.cell? ⟨gb, i * 3 + 2, none⟩ = some (F (i * 3 + 2))) ∧ w.frozen? ⟨gb, i * 3, none⟩ = false ∧ w.frozen? ⟨gb, i * 3 + 1, none⟩ = false ∧ w.frozen? ⟨gb, i * 3 + 2, none⟩ = false :=
  ⟨⟨h.row.cell (by omega), h.row.cell (by omega), h.row.cell (by omega)⟩, h.row.frozen _, h.row.frozen _, h.row.frozen _⟩
/-- Two polynomials in a new slice. -/
theorem two_sl {w : World} {p : Int} {m : Nat} {u v : Value} {A M : List Tm} (hA : SliceT w u A) (hM : SliceT w v M) : SlPn (w.alloc (.cells #[.int .i64 p, .int .i64 (m : Int), u, .int .i64 p, .int .i64 (m : Int), v] 36)) p m (.slice (some ⟨w.heap.size, 0, none⟩) 2 2) [A, M] := by
  have hb := box1 w (.cells #[.int .i64 p, .int .i64 (m : Int), u, .int .i64 p, .int .i64 (m : Int), v] 36)
  have hr := World.rowIs_alloc w #[Value.int .i64 p, .int .i64 (m : Int), u, .int .i64 p, .int .i64 (m : Int), v] 36 (fun i => (#[Value.int .i64 p, .int .i64 (m : Int), u, .int .i64 p, .int .i64 (m : Int), v] : Array Value).getD i undef) (fun i hi => by simp at hi; match i, hi with | 0, _ => rfl | 1, _ => rfl | 2, _ => rfl | 3, _ => rfl | 4, _ => rfl | 5, _ => rfl)
  refine ⟨some ⟨w.heap.size, 0, none⟩, 2, rfl, .inr ⟨w.heap.size, 0, rfl, hr.lt, fun k hk => ?_⟩⟩
  match k, hk with
  | 0, _ => exact ⟨u, hr.cell (i := 0) (by simp), hr.cell (i := 1) (by simp), hr.cell (i := 2) (by simp), hA.below hb⟩
  | 1, _ => exact ⟨v, hr.cell (i := 3) (by simp), hr.cell (i := 4) (by simp), hr.cell (i := 5) (by simp), hM.below hb⟩
noncomputable def allFs (p : Int) (O : List (List Tm)) (i : Nat) (l : Nat) : List Tm := symE p (O.take i).reverse l
noncomputable def mixF (p : Int) (O : List (List Tm)) (i j l : Nat) : List Tm := if j < l then symE p (O.take (i + 1)).reverse l else symE p (O.take i).reverse l
theorem mixF_zero (p : Int) (O : List (List Tm)) (i l : Nat) : mixF p O i 0 l = allFs p O (i + 1) l := by
  unfold mixF allFs
  by_cases h : 0 < l
  · rw [if_pos h]
  · obtain rfl : l = 0 := by omega
    rw [if_neg h, symE_zero, symE_zero]
theorem mixF_start (p : Int) (O : List (List Tm)) {i k l : Nat} (h : l < k + 1) : allFs p O i l = mixF p O i k l := by
  unfold mixF allFs
  rw [if_neg (by omega)]
theorem mixF_set (p : Int) (O : List (List Tm)) (i j l : Nat) : (if l = j + 1 then symE p (O.take (i + 1)).reverse (j + 1) else mixF p O i (j + 1) l) = mixF p O i j l := by
  unfold mixF
  by_cases e : l = j + 1
  · subst e
    rw [if_pos rfl, if_pos (by omega)]
  · rw [if_neg e]
    by_cases h : j + 1 < l
    · rw [if_pos h, if_pos (by omega)]
    · rw [if_neg h, if_neg (by omega)]
theorem mixF_low (p : Int) (O : List (List Tm)) {i j l : Nat} (h : l ≤ j) : mixF p O i j l = symE p (O.take i).reverse l := by
  unfold mixF
  rw [if_neg (by omega)]
theorem allFs_zero (p : Int) (O : List (List Tm)) (l : Nat) : (if l = 0 then [(0, 0, 0, 1)] else []) = allFs p O 0 l := by
  unfold allFs
  match l with
  | 0 => rw [if_pos rfl, symE_zero]
  | l + 1 => rw [if_neg (by omega)]; exact (symE_nil p l).symm
theorem constL_zero : constL 0 = [] := rfl
theorem constL_one : constL 1 = [(0, 0, 0, 1)] := rfl
theorem max_degB {p d : Int} {X : List Tm} (h : Valid p d X) : degB X (max (degI X) 0) := fun t ht => Int.le_trans (deg_le h t ht) (Int.le_max_left _ _)
end Go.Proofs.Ytphgpadpffigjaa
namespace Go.Proofs.Ytphgpadpffigjaa
open Go.RowKit Go.Sort Go.Maps

theorem setB {w wr : World} {b i0 i1 i2 : Nat} (h : Below w.heap.size w wr) (hB : w.heap.size ≤ b) (u0 u1 u2 : Value) :
    Below w.heap.size w (((wr.setCell ⟨b, i0, none⟩ u0).setCell ⟨b, i1, none⟩ u1).setCell ⟨b, i2, none⟩ u2) :=
  ((h.setCell (by simpa using hB) _).setCell (by simpa using hB) _).setCell (by simpa using hB) _
end Go.Proofs.Ytphgpadpffigjaa
namespace Go.Proofs.Ytphgpadpffigjaa
open Go.RowKit Go.Sort Go.Maps

/-- A map of coefficients in the making, beside the boxes of two arguments and the result. -/
structure MapSt2 (w wr : World) (b n a a2 r : Nat) (p d : Int) (xv yv : Value) (D : DataW Unit) : Prop where
  st : MapSt w wr b n a r p d xv D
  arg2 : wr.rowIs a2 36 3 (polyF p d yv)
theorem MapSt2.later {w wr w1 : World} {b n a a2 r : Nat} {p d : Int} {xv yv : Value} {D : DataW Unit} (h : MapSt2 w wr b n a a2 r p d xv yv D) (hb : Below wr.heap.size wr w1) : MapSt2 w w1 b n a a2 r p d xv yv D :=
  ⟨h.st.later hb, rowIs_below h.arg2 hb h.arg2.lt⟩
theorem MapSt2.wrote {w wr w1 : World} {b n n' a a2 r : Nat} {p d : Int} {xv yv : Value} {D D' : DataW Unit} (h : MapSt2 w wr b n a a2 r p d xv yv D) (hg : wr.grownBy w1 (some b)) (hm : MapE w1 b n' D') : MapSt2 w w1 b n' a a2 r p d xv yv D' :=
  ⟨h.st.wrote hg hm, h.arg2.of_block (hg.block a2 h.arg2.lt (by simpa using row_not_map h.arg2 h.st.map))⟩
theorem MapSt2.most {w wr : World} {b n n' a a2 r : Nat} {p d : Int} {xv yv : Value} {D : DataW Unit} (h : MapSt2 w wr b n a a2 r p d xv yv D) (hn : n ≤ n') : MapSt2 w wr b n' a a2 r p d xv yv D :=
  ⟨⟨h.st.map.mono hn, h.st.arg, h.st.res, h.st.below, h.st.b1, h.st.r1⟩, h.arg2⟩
/-- The exponents after j letters have been added. -/
def eAdd (x y z x' y' z' : Int) (j : Nat) : Nat → Value := expsF (if 0 < j then x + x' else x) (if 1 < j then y + y' else y) (if 2 < j then z + z' else z)
theorem erow1 (w : World) (o : Obj) (x y z : Int) : ((w.alloc o).alloc (.cells #[.int .u8 x, .int .u8 y, .int .u8 z] 75)).rowIs (w.heap.size + 1) 75 3 (expsF x y z) := by
  have := World.rowIs_alloc (w.alloc o) #[Value.int .u8 x, .int .u8 y, .int .u8 z] 75 (expsF x y z) (fun i hi => by simp at hi; match i, hi with | 0, _ => rfl | 1, _ => rfl | 2, _ => rfl)
  rwa [World.size_alloc] at this
theorem eset {w : World} {b : Nat} {x y z x' y' z' : Int} {j : Nat} (h : w.rowIs b 75 3 (eAdd x y z x' y' z' j)) (u : Int) (hj : j < 3) (hu : u = (if j = 0 then x + x' else if j = 1 then y + y' else z + z')) : (w.setCell ⟨b, j, none⟩ (.int .u8 u)).rowIs b 75 3 (eAdd x y z x' y' z' (j + 1)) := by
  refine (h.set j (.int .u8 u)).congr fun i hi => ?_
  subst hu
  match j, i, hj, hi with
  | 0, 0, _, _ => rfl
  | 0, 1, _, _ => rfl
  | 0, 2, _, _ => rfl
  | 1, 0, _, _ => rfl
  | 1, 1, _, _ => rfl
  | 1, 2, _, _ => rfl
  | 2, 0, _, _ => rfl
  | 2, 1, _, _ => rfl
  | 2, 2, _, _ => rfl

theorem gset {V w : World} {e : Nat} (h : V.grownBy w (some e)) (j : Nat) (v : Value) : V.grownBy (w.setCell ⟨e, j, none⟩ v).drew (some e) :=
  ⟨h.os, h.tape, h.output, by show _ ≤ (w.setCell ⟨e, j, none⟩ v).heap.size; rw [World.size_setCell]; exact h.size, fun k hk hne => (Below.heap_setCell w ⟨e, j, none⟩ v k (fun x => hne (by rw [x]))).trans (h.block k hk hne)⟩

set_option maxRecDepth 8000 in
set_option maxHeartbeats 16000000 in
theorem product_any (p d : Int) (v v' : Value) (xs ys : List Tm) (w : World) (hS : SliceT w v xs) (hS' : SliceT w v' ys) (hV : Valid p d xs) (hV' : Valid p d ys) (hfit : Fits xs ys) :
    Calls Try.prog 97 #[.agg #[.int .i64 p, .int .i64 d, v], .agg #[.int .i64 p, .int .i64 d, v']] w fun e w' =>
      ∃ v' L, e = .returned (.agg #[.int .i64 p, .int .i64 d, v']) ∧ OwnP w' w.heap.size v' L ∧ IsP p L (mulF p xs ys) ∧ Below w.heap.size w w' := by
  have hp2 := hV.p2
  have hp13 := hV.p13
  have hlx := hV.isP.len
  have hly := hV'.isP.len
  obtain ⟨L, hL⟩ := mul_ex hV hV' hfit
  obtain ⟨a, cap, rfl, _⟩ := id hS
  obtain ⟨a', cap', rfl, _⟩ := id hS'
  obtain ⟨W, hW, hbW, ⟨hWs1, hWs2⟩, rx, ry, rr⟩ := pair3 w p d (.slice a xs.length cap) p d (.slice a' ys.length cap')
  have hmm := @run_makeMap Try.prog
  have hm := World.ownsMap_made (H := Unit) W Try.prog 75 (plainElem Try.prog 2)
  obtain ⟨V, hV1, hbV, hVs1⟩ : ∃ V, V = W.alloc (.map #[] 0) ∧ Below W.heap.size W V ∧ W.heap.size + 1 ≤ V.heap.size := ⟨_, rfl, box1 _ _, by simp⟩
  rw [← hV1] at hm
  have hst : MapSt2 w V W.heap.size 0 w.heap.size (w.heap.size + 1) (w.heap.size + 2) p d (.slice a xs.length cap) (.slice a' ys.length cap') (.map []) :=
    ⟨⟨hm, rowIs_below rx hbV rx.lt, rowIs_below rr hbV rr.lt, hbW.trans (hbV.mono hbW.size), hbW.size, by omega⟩, rowIs_below ry hbV ry.lt⟩
  have xo : ∀ o, (W.alloc o).cell? ⟨w.heap.size, 2, none⟩ = some (.slice a xs.length cap) := fun o => ((box1 W o).cell rx.lt).trans (poly3 rx).1.2.2
  go_enter Try.func97, Try.ntmps97
  go_upto_region 1 with fail
  rw [← hW]
  clear hW
  go_wp2_with fail
  rw [← hV1]
  clear hV1 xo hm rx ry rr
  go_loopw [16] (fun j wr => ∃ (i : Nat) (D : DataW Unit), i ≤ xs.length ∧ j = .int .i64 i ∧ Hid (∀ e, byte3 e → cf D e = mulF p (xs.take i) ys e) ∧ MapSt2 w wr W.heap.size (i * 2197) w.heap.size (w.heap.size + 1) (w.heap.size + 2) p d (.slice a xs.length cap) (.slice a' ys.length cap') D) (fun j _ => xs.length - (intOf j).toNat)
  case atStart => exact ⟨0, _, by omega, rfl, Lib.hid (fun e _ => by rw [cf_empty]; simp [mulF_nil]), hst⟩
  case round =>
    clear hst
    obtain ⟨i, D, hi, rfl, HD, hM⟩ := hrel
    obtain ⟨wo, rfl⟩ : ∃ wo : World, wo = wr := ⟨_, rfl⟩
    by_cases hlt1 : i < xs.length
    · have hlt' : (i : Int) < (xs.length : Int) := by omega
      obtain ⟨A1, cap1, hv1, hcase1⟩ := hS.below hM.st.below
      simp at hv1
      obtain ⟨rfl, rfl⟩ := hv1
      rcases hcase1 with h0 | ⟨b1, off1, rfl, hltb1, hTx⟩
      · rw [h0] at hlt1; exact absurd hlt1 (by simp)
      obtain ⟨c0, c1, c2, c3⟩ := hTx i hlt1
      obtain ⟨⟨⟨bx, by1, bz⟩, hs12⟩, bv1, bv2⟩ := hV.mem xs[i] (List.getElem_mem _)
      have HF := Lib.hid (fun k (h : k < ys.length) e => prt_step p xs ys i xs[i] k h e)
      have HZ := Lib.hid (fun e => prt_zero p xs ys i xs[i] e)
      have HN := Lib.hid (fun e => prt_full p xs ys i hlt1 e)
      have HE := Lib.hid (fun (k : Nat) (h : k < ys.length) => hfit xs[i] (List.getElem_mem _) ys[k] (List.getElem_mem _))
      simp only [tmE] at bx by1 bz
      have HB := Lib.hid (fun k e => (⟨Int.emod_nonneg _ (by omega), Int.emod_lt_of_pos _ (by omega)⟩ : 0 ≤ prt p xs ys i xs[i] k e ∧ prt p xs ys i xs[i] k e < p))
      generalize hpr : prt p xs ys i xs[i] = F at HF HZ HN HB
      generalize hx : xs[i].1 = x at *
      generalize hy : xs[i].2.1 = y at *
      generalize hz : xs[i].2.2.1 = z at *
      generalize hvv : xs[i].2.2.2 = u at *
      have htm : tmE xs[i] = (x, y, z) := by simp [tmE, hx, hy, hz]
      rw [htm] at HF
      clear hpr hx hy hz hvv htm hTx hV
      have hM1 := hM.later (box1 wo (.cells #[.int .u8 x, .int .u8 y, .int .u8 z, .int .i64 u] 92))
      have rs := trow wo x y z u
      obtain ⟨⟨m0, m1, m2⟩, _⟩ := poly3 hM.st.arg
      have yo : ∀ o, (wo.alloc o).cell? ⟨w.heap.size + 1, 2, none⟩ = some (.slice a' ys.length cap') := fun o => ((box1 wo o).cell hM.arg2.lt).trans (poly3 hM.arg2).1.2.2
      have HD0 : Hid (∀ e, byte3 e → cf D e = F 0 e) := Lib.hid (fun e he => (HD.out e he).trans (HZ.out e).symm)
      go_wp2_with fail
      clear m0 m1 m2 c0 c1 c2 c3 yo HD HZ
      go_loopw [23] (fun j wr => ∃ (k : Nat) (D : DataW Unit), k ≤ ys.length ∧ j = .int .i64 k ∧ Hid (∀ e, byte3 e → cf D e = F k e) ∧ MapSt2 w wr W.heap.size (i * 2197 + k) w.heap.size (w.heap.size + 1) (w.heap.size + 2) p d (.slice (some ⟨b1, off1, none⟩) xs.length cap) (.slice a' ys.length cap') D ∧ wr.rowIs wo.heap.size 92 4 (tmF x y z u)) (fun j _ => ys.length - (intOf j).toNat)
      case atStart => exact ⟨0, D, by omega, rfl, HD0, hM1, rs⟩
      case round =>
        clear hM1 rs HD0 hM
        obtain ⟨k, D, hk, rfl, HD, hM, rs⟩ := hrel
        obtain ⟨wk, rfl⟩ : ∃ wk : World, wk = wr := ⟨_, rfl⟩
        by_cases hlt2 : k < ys.length
        · have hlt2' : (k : Int) < (ys.length : Int) := by omega
          obtain ⟨A2, cap2, hv2, hcase2⟩ := hS'.below hM.st.below
          simp at hv2
          obtain ⟨rfl, rfl⟩ := hv2
          rcases hcase2 with h0 | ⟨b2, off2, rfl, hltb2, hTy⟩
          · rw [h0] at hlt2; exact absurd hlt2 (by simp)
          obtain ⟨d0, d1, d2, d3⟩ := hTy k hlt2
          obtain ⟨⟨⟨bx', by1', bz'⟩, hs12'⟩, bv1', bv2'⟩ := hV'.mem ys[k] (List.getElem_mem _)
          have HS := Lib.hid (HF.out k hlt2)
          have hft := HE.out k hlt2
          simp only [tmE] at bx' by1' bz'
          generalize hx' : ys[k].1 = x' at *
          generalize hy' : ys[k].2.1 = y' at *
          generalize hz' : ys[k].2.2.1 = z' at *
          generalize hv' : ys[k].2.2.2 = u' at *
          have htm' : tmE ys[k] = (x', y', z') := by simp [tmE, hx', hy', hz']
          rw [htm'] at HS
          clear hx' hy' hz' hv' htm' hTy
          have hE1 : byte3 (x + x', y + y', z + z') := by unfold byte3; simp only []; omega
          have s0 := rs.cell (i := 0) (by omega)
          have s1 := rs.cell (i := 1) (by omega)
          have s2 := rs.cell (i := 2) (by omega)
          have s3 := rs.cell (i := 3) (by omega)
          simp [tmF] at s0 s1 s2 s3
          obtain ⟨V2, hV2, hbV2, ⟨hV2s1, hV2s2⟩, rt, re⟩ : ∃ V2, V2 = (wk.alloc (.cells #[.int .u8 x', .int .u8 y', .int .u8 z', .int .i64 u'] 92)).alloc (.cells #[.int .u8 x, .int .u8 y, .int .u8 z] 75) ∧ Below wk.heap.size wk V2 ∧ (V2.heap.size ≤ wk.heap.size + 2 ∧ wk.heap.size + 2 ≤ V2.heap.size) ∧
              V2.rowIs wk.heap.size 92 4 (tmF x' y' z' u') ∧ V2.rowIs (wk.heap.size + 1) 75 3 (eAdd x y z x' y' z' 0) :=
            ⟨_, rfl, box2 _ _ _, ⟨by simp, by simp⟩, (trow wk x' y' z' u').alloc _, erow1 wk _ x y z⟩
          obtain ⟨⟨m0, m1, m2⟩, _⟩ := poly3 hM.arg2
          have so : ∀ o, ((wk.alloc o).cell? ⟨wo.heap.size, 0, none⟩ = some (.int .u8 x) ∧ (wk.alloc o).cell? ⟨wo.heap.size, 1, none⟩ = some (.int .u8 y) ∧ (wk.alloc o).cell? ⟨wo.heap.size, 2, none⟩ = some (.int .u8 z)) := fun o =>
            ⟨((box1 wk o).cell (p := ⟨_, _, none⟩) rs.lt).trans s0, ((box1 wk o).cell (p := ⟨_, _, none⟩) rs.lt).trans s1, ((box1 wk o).cell (p := ⟨_, _, none⟩) rs.lt).trans s2⟩
          go_wp2_with fail
          rw [← hV2]
          clear hV2 so m0 m1 m2 d0 d1 d2 d3 s0 s1 s2 s3
          go_loopw [11, 29] (fun _ j wr => ∃ (jn : Nat) (ji : Int), ((jn = 0 ∧ ji = 0) ∨ (jn = 1 ∧ ji = 1) ∨ (jn = 2 ∧ ji = 2) ∨ (jn = 3 ∧ ji = 3)) ∧ j = .int .i64 ji ∧ wr.rowIs (wk.heap.size + 1) 75 3 (eAdd x y z x' y' z' jn) ∧ V2.grownBy wr (some (wk.heap.size + 1))) (fun _ j _ => 3 - (intOf j).toNat)
          case atStart => exact ⟨0, 0, .inl ⟨rfl, rfl⟩, rfl, re, World.grownBy.refl _ _⟩
          case round =>
            obtain ⟨jn, ji, hj, rfl, rej, hgr⟩ := hrel
            have rtj := rt.of_block (hgr.block _ rt.lt (by simp))
            rcases hj with ⟨rfl, rfl⟩ | ⟨rfl, rfl⟩ | ⟨rfl, rfl⟩ | ⟨rfl, rfl⟩
            · have m0 : wr.cell? ⟨wk.heap.size + 1, 0, none⟩ = some (.int .u8 x) := rej.cell (i := 0) (by omega)
              have m1 : wr.cell? ⟨wk.heap.size, 0, none⟩ = some (.int .u8 x') := rtj.cell (i := 0) (by omega)
              have m2 := rej.frozen 0
              have g1 : IntKind.u8.wrap (x + x') = x + x' := IntWalk.u8_in _ (by omega)
              have hre := eset rej (x + x') (by omega) rfl
              have hge := gset hgr 0 (.int .u8 (x + x'))
              have Hre := Lib.hid hre
              clear rej rtj re rt hre
              go_wp2_with fail
              refine region_tail 9 (by kernel_rfl) (by kernel_rfl) ?_
              simp only [List.take_succ_cons, List.take_zero, List.drop_succ_cons, List.drop_zero]
              repeat still_step
              refine wpStill_nil ?_
              go_wp2_with fail
              go_roundw
              case rel => exact ⟨1, 1, by omega, by go_num, Hre.out, hge⟩
              case measure => simp [intOf]
            · have m0 : wr.cell? ⟨wk.heap.size + 1, 1, none⟩ = some (.int .u8 y) := rej.cell (i := 1) (by omega)
              have m1 : wr.cell? ⟨wk.heap.size, 1, none⟩ = some (.int .u8 y') := rtj.cell (i := 1) (by omega)
              have m2 := rej.frozen 1
              have g1 : IntKind.u8.wrap (y + y') = y + y' := IntWalk.u8_in _ (by omega)
              have hre := eset rej (y + y') (by omega) rfl
              have hge := gset hgr 1 (.int .u8 (y + y'))
              have Hre := Lib.hid hre
              clear rej rtj re rt hre
              go_wp2_with fail
              refine region_tail 9 (by kernel_rfl) (by kernel_rfl) ?_
              simp only [List.take_succ_cons, List.take_zero, List.drop_succ_cons, List.drop_zero]
              repeat still_step
              refine wpStill_nil ?_
              go_wp2_with fail
              go_roundw
              case rel => exact ⟨2, 2, by omega, by go_num, Hre.out, hge⟩
              case measure => simp [intOf]
            · have m0 : wr.cell? ⟨wk.heap.size + 1, 2, none⟩ = some (.int .u8 z) := rej.cell (i := 2) (by omega)
              have m1 : wr.cell? ⟨wk.heap.size, 2, none⟩ = some (.int .u8 z') := rtj.cell (i := 2) (by omega)
              have m2 := rej.frozen 2
              have g1 : IntKind.u8.wrap (z + z') = z + z' := IntWalk.u8_in _ (by omega)
              have hre := eset rej (z + z') (by omega) rfl
              have hge := gset hgr 2 (.int .u8 (z + z'))
              have Hre := Lib.hid hre
              clear rej rtj re rt hre
              go_wp2_with fail
              refine region_tail 9 (by kernel_rfl) (by kernel_rfl) ?_
              simp only [List.take_succ_cons, List.take_zero, List.drop_succ_cons, List.drop_zero]
              repeat still_step
              refine wpStill_nil ?_
              go_wp2_with fail
              go_roundw
              case rel => exact ⟨3, 3, by omega, by go_num, Hre.out, hge⟩
              case measure => simp [intOf]
            · have hbj : Below wk.heap.size wk wr := hbV2.grown hgr hbV2.size (fun g e => by simp at e; omega)
              have hMj := hM.later hbj
              have rsj := rowIs_below rs hbj rs.lt
              have k0 : wr.cell? ⟨wk.heap.size + 1, 0, none⟩ = some (.int .u8 (x + x')) := rej.cell (i := 0) (by omega)
              have k1 : wr.cell? ⟨wk.heap.size + 1, 1, none⟩ = some (.int .u8 (y + y')) := rej.cell (i := 1) (by omega)
              have k2 : wr.cell? ⟨wk.heap.size + 1, 2, none⟩ = some (.int .u8 (z + z')) := rej.cell (i := 2) (by omega)
              have s3 : wr.cell? ⟨wo.heap.size, 3, none⟩ = some (.int .i64 u) := rsj.cell (i := 3) (by omega)
              have t3 : wr.cell? ⟨wk.heap.size, 3, none⟩ = some (.int .i64 u') := rtj.cell (i := 3) (by omega)
              obtain ⟨⟨p0, _, _⟩, _⟩ := poly3 hMj.st.arg
              have hkey : keyOf Try.prog 75 (.agg #[.int .u8 (x + x'), .int .u8 (y + y'), .int .u8 (z + z')]) = some (kE (x + x', y + y', z + z')) := keyOf_vE (x + x', y + y', z + z') hE1
              have hMd := hMj.later (Below.same wr).drew
              obtain ⟨c, hrun, hat, _⟩ := hMd.st.map.lookup_int lawK Try.underlying106 Try.underlying2 (zero64 _) hkey
              have hce : c = F k (x + x', y + y', z + z') := by rw [← HD.out _ hE1]; exact (cf_of_at hat).symm
              obtain ⟨b0, b1⟩ := HB.out k (x + x', y + y', z + z')
              rw [← hce] at b0 b1
              have HC := Lib.hid hce
              clear hce hat
              have g1 : 0 ≤ u * u' := Int.mul_nonneg (by omega) (by omega)
              have g2 : u * u' ≤ 13 * 13 := Int.mul_le_mul (by omega) (by omega) (by omega) (by omega)
              have hw : IntKind.i64.wrap (u * u') = u * u' := IntWalk.i64_in _ (by omega)
              have hw2 : IntKind.i64.wrap (c + u * u') = c + u * u' := IntWalk.i64_in _ (by omega)
              have hp0 : ¬ p = 0 := by omega
              have hp1 : (p == 0) = false := by simpa using hp0
              have ht : (c + u * u').tmod p = (c + u * u') % p := Int.tmod_eq_emod_of_nonneg (by omega)
              have q1 : 0 ≤ (c + u * u') % p := Int.emod_nonneg _ (by omega)
              have q2 : (c + u * u') % p < p := Int.emod_lt_of_pos _ (by omega)
              have HD2 : Hid (∀ e, byte3 e → cf (D.put (kE (x + x', y + y', z + z')) (.lit (.int .i64 ((c + u * u') % p)))) e = F (k + 1) e) := Lib.hid (fun e he => by
                rw [cf_put hMd.st.map.isMap hE1 he, HS.out e, HD.out e he, HC.out, Int.add_comm (F k _) (u * u')]
                rfl)
              clear HC HD HS HF HE HN hM hMj rej rtj re rt hgr
              go_wp2_with fail
              refine region_tail 14 (by kernel_rfl) (by kernel_rfl) ?_
              simp only [List.take_succ_cons, List.take_zero, List.drop_succ_cons, List.drop_zero]
              repeat still_step
              refine wpStill_nil ?_
              try simp only [hw, hw2, ht]
              go_wp2_with (at_mapUpdate; refine wpList_mapUpdate_own _ rfl _ _ _ 106 rfl 75 2 lawK Try.underlying106 (plainElem Try.prog 2) W.heap.size (i * 2197 + k) D rfl hMd.st.map (by unfold maxLen; omega) (.agg #[.int .u8 (x + x'), .int .u8 (y + y'), .int .u8 (z + z')]) _ _ rfl rfl hkey _ [] (plainElem_int Try.underlying2 (wf64 q1 (by omega))) ?_; intro w3 hown3 hgrow3)
              have rsd := rowIs_below rsj (Below.same wr).drew rsj.lt
              have rs3 := rsd.of_block (hgrow3.block _ rsd.lt (by simpa using row_not_map rsd hMd.st.map))
              have hM3 := (hMd.wrote hgrow3 hown3).most (n' := i * 2197 + (k + 1)) (by omega)
              go_roundw
              case rel => exact ⟨k + 1, _, by omega, by go_num, HD2, hM3, rs3⟩
              case measure => simp [intOf]; omega
        · obtain rfl : k = ys.length := by omega
          have HD2 : Hid (∀ e, byte3 e → cf D e = mulF p (xs.take (i + 1)) ys e) := Lib.hid (fun e he => (HD.out e he).trans (HN.out e))
          have hM2 := hM.most (n' := (i + 1) * 2197) (by omega)
          clear HD HN HF HE hM
          go_wp2_with fail
          go_roundw
          case rel => exact ⟨i + 1, D, by omega, by go_num, HD2, hM2⟩
          case measure => simp [intOf]; omega
    · obtain rfl : i = xs.length := by omega
      have hD := HD.out
      rw [List.take_length] at hD
      have HD2 := Lib.hid hD
      clear HD hD
      obtain ⟨⟨c0, c1, c2⟩, _⟩ := poly3 hM.st.arg
      have hbd : ∀ e, byte3 e → 0 ≤ mulF p xs ys e ∧ mulF p xs ys e < p := fun e he => hL.bound (by omega) he
      have h12 : ∀ e, byte3 e → mulF p xs ys e ≠ 0 → e.1 + e.2.1 + e.2.2 ≤ 12 := fun e he hne => by
        rw [← hL.2.2 e he] at hne
        by_cases hmem : ∃ t ∈ L, tmE t = e
        · obtain ⟨t, ht, rfl⟩ := hmem
          exact (hL.2.1 t ht).1.2
        · exact absurd (atL_none fun t ht hx => hmem ⟨t, ht, hx⟩) hne
      go_wp2_with fail
      ((with_reducible refine (polyOf_any sort_says p d W.heap.size _ D wo hM.st.map (by omega) (fun e he hne => h12 e he (by have := HD2.out e he; rwa [← this]))).mono ?_); rintro e w4 ⟨v4, S, rfl, ho4, hgood, hb4⟩)
      obtain rfl : S = L := (hgood.isP HD2.out hbd h12).unique hL
      obtain ⟨sa2, sc2, rfl⟩ := owns_slice ho4
      have rr2 := rowIs_below hM.st.res hb4 hM.st.res.lt
      obtain ⟨a0, a1, a2, a3, a4⟩ := fill_box rr2 ho4 hM.st.below.size (hM.st.below.trans (hb4.mono hM.st.below.size)) (by omega) p d
      have A0 := Lib.hid a0
      have A1 := Lib.hid a1
      have A2 := Lib.hid a2
      have A3 := Lib.hid a3
      have A4 := Lib.hid a4
      clear a0 a1 a2 a3 a4 c0 c1 c2 ho4 HD2 hbd h12 hgood hM
      obtain ⟨⟨r0, r1, r2⟩, z0, z1, z2⟩ := poly3 rr2
      go_wp2_with fail
      exact bodyPost_ret (v := .agg #[.int .i64 p, .int .i64 d, .slice sa2 S.length sc2]) (by simp [results, Try.results97, go_sem, A0.out, A1.out, A2.out]) rfl ⟨_, S, rfl, A3.out, hL, A4.out⟩
end Go.Proofs.Ytphgpadpffigjaa
