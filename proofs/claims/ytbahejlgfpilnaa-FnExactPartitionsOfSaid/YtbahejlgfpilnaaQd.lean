/-
  EXPONENTS of products, in plain mathematics: the lists. Conditions: as each theorem states.
  WALKS of the model on rows modulo p: small functions, the first place other than 0, copies, rows less multiples of rows. Conditions: as each theorem states.
  WALKS of the model on rows modulo p: copies, inverses of numbers, rows less multiples of rows. Conditions: as each theorem states.
  WALKS of the model on rows modulo p: a row less a multiple of another one. Conditions: as each theorem states.
  WALKS of the model on rows modulo p: lists of rows; what is left of a row. Conditions: as each theorem states.
  LISTS OF ROWS of the call's own. Conditions: as each theorem states.
  PARTITIONS, the model: 'spec.l08Partitions', 'spec.PartitionsOf'. Conditions: as each theorem states.
  PARTITIONS: 'impl.isPartition', 'spec.PartitionsOf'. Conditions: as each theorem states.
  WALKS of the model on rows modulo p: the reduced list of some rows. Conditions: as each theorem states.
  MATRICES as values and in memory. Conditions: as each theorem states.
  WALKS of the program on matrices: whether the numbers fit. Conditions: as each theorem states.
  WALKS of the program on matrices: filled matrices, cofactors. Conditions: as each theorem states.
  WALKS of the program on matrices: determinants, whether something is a matrix. Conditions: as each theorem states.
  WALKS of the program: 'IsMatrix' at every value. Conditions: the numbers are bytes.
  WALKS of the model: inverses of matrices. Conditions: as each theorem states.
  WALKS of the model: whether something is a matrix. Conditions: the numbers are bytes.
  PARTITIONS: 'impl.PartitionsOf'. Conditions: as the theorem states.
  LISTS OF LISTS of numbers in a law: compared, measured, copied. Conditions: as each theorem states.
  LISTS OF LISTS of numbers: how many numbers. Conditions: as each theorem states.
  LISTS OF LISTS of numbers in a law: marked. Conditions: as each theorem states.
  LISTS OF LISTS of numbers: how many numbers, from the headers. Conditions: as each theorem states.
  LISTS OF LISTS of numbers in a law: marked and read back, whatever the rows' lengths. Conditions: as each theorem states.
  The law of 'FnExactPartitionsOf', walked. Conditions: none.
-/
import Derived.Test.YtbahejlgfpilnaaEm
import Derived.Test.YtbahejlgfpilnaaLc
import Derived.Test.YtbahejlgfpilnaaLe
import Derived.Test.YtbahejlgfpilnaaMza
import Derived.Test.YtbahejlgfpilnaaLa
import Derived.Test.YtbahejlgfpilnaaOh
import Derived.Test.YtbahejlgfpilnaaSyca
import Derived.Deep.RegionHeld3
import Derived.Deep.DeepCutAuto
import Derived.Test.YtbahejlgfpilnaaYw
import Derived.Test.YtbahejlgfpilnaaVd
import Derived.Maps.OwnIn
import Derived.Test.YtbahejlgfpilnaaLb
import Derived.Test.YtbahejlgfpilnaaLu
namespace Go.Proofs.Ytbahejlgfpilnaa

/-- What stands for the numbers from K down to j. -/
def expT (f : Nat → List (List Int)) (K j : Nat) : List (List Int) := (List.range (K + 1 - j)).flatMap fun i => (f (K - i)).map fun r => ((K - i : Nat) : Int) :: r
theorem expT_top (f : Nat → List (List Int)) (K : Nat) : expT f K (K + 1) = [] := by simp [expT]
theorem expT_step (f : Nat → List (List Int)) {K j : Nat} (h : j ≤ K) : expT f K j = expT f K (j + 1) ++ (f j).map fun r => (j : Int) :: r := by
  have e : K + 1 - j = (K + 1 - (j + 1)) + 1 := by omega
  have e2 : K - (K + 1 - (j + 1)) = j := by omega
  rw [expT, e, List.range_succ, List.flatMap_append, expT]
  simp only [List.flatMap_cons, List.flatMap_nil, List.append_nil, e2]
/-- The lists of exponents for the degree n, in their order. -/
def expL : List Nat → Nat → List (List Int)
  | [], n => if n = 0 then [[]] else []
  | d :: r, n => expT (fun k => expL r (n - k * d)) (n / d) 0
theorem expT_len (f : Nat → List (List Int)) (K M : Nat) (hM : ∀ k, k ≤ K → (f k).length ≤ M) : ∀ t j, K + 1 - j = t → (expT f K j).length ≤ t * M
  | 0, j, h => by
    rw [expT, h]
    simp
  | t + 1, j, h => by
    rw [expT_step f (show j ≤ K by omega), List.length_append, List.length_map]
    have h1 := expT_len f K M hM t (j + 1) (by omega)
    have h2 := hM j (by omega)
    rw [Nat.add_mul]
    omega
theorem expL_len : ∀ (ds : List Nat) (n : Nat), (∀ d ∈ ds, 1 ≤ d) → n ≤ 12 → (expL ds n).length ≤ 13 ^ ds.length
  | [], n, _, _ => by
    rw [expL]
    split <;> simp
  | d :: r, n, hd, hn => by
    rw [expL]
    have h1 := expT_len (fun k => expL r (n - k * d)) (n / d) (13 ^ r.length) (fun k _ => expL_len r _ (fun x hx => hd x (by simp [hx])) (by omega)) (n / d + 1 - 0) 0 rfl
    have h2 : n / d ≤ n := Nat.div_le_self _ _
    have h3 : (n / d + 1 - 0) * 13 ^ r.length ≤ 13 * 13 ^ r.length := Nat.mul_le_mul_right _ (by omega)
    rw [List.length_cons, Nat.pow_succ, Nat.mul_comm]
    exact Nat.le_trans h1 h3
/-- Each has a number for each degree. -/
theorem expL_row : ∀ (ds : List Nat) (n : Nat), ∀ r ∈ expL ds n, r.length = ds.length
  | [], n, r, h => by
    rw [expL] at h
    split at h
    · simp at h; rw [h]; rfl
    · simp at h
  | d :: ds, n, r, h => by
    rw [expL, expT, List.mem_flatMap] at h
    obtain ⟨i, _, h⟩ := h
    obtain ⟨r', hr, rfl⟩ := List.mem_map.1 h
    have := expL_row ds _ r' hr
    simp [this]
end Go.Proofs.Ytbahejlgfpilnaa
namespace Go.Proofs.Ytbahejlgfpilnaa
open Go.RowKit Go.Sort EchM

def pB (p : Int) : Bool := p == 2 || p == 3 || p == 5 || p == 7 || p == 11 || p == 13
theorem pB_cases (p : Int) : (p = 2 ∨ p = 3 ∨ p = 5 ∨ p = 7 ∨ p = 11 ∨ p = 13) ∨ (p == 2) = false ∧ (p == 3) = false ∧ (p == 5) = false ∧ (p == 7) = false ∧ (p == 11) = false ∧ (p == 13) = false := by
  simp; omega
theorem pB_le {p : Int} (h : pB p = true) : 2 ≤ p ∧ p ≤ 13 := by
  simp [pB] at h; omega
theorem pB_set {p : Int} (h : pB p = true) : PrimeS p := by
  simp [pB] at h; unfold PrimeS; omega

set_option maxRecDepth 8000 in
set_option maxHeartbeats 1000000 in
theorem eprime (p : Int) (w : World) : Calls Try.prog 83 #[.int .i64 p] w fun e w' => e = .returned (.bool (pB p)) ∧ w = w' := by
  rcases pB_cases p with (rfl | rfl | rfl | rfl | rfl | rfl) | ⟨h2, h3, h5, h7, h11, h13⟩
  all_goals
    go_enter Try.func83, Try.ntmps83
    go_wp2
    go_ret
    first | exact ⟨rfl, rfl⟩ | exact ⟨by simp [pB, h2, h3, h5, h7, h11, h13], rfl⟩
set_option maxRecDepth 8000 in
set_option maxHeartbeats 1000000 in
theorem iprime (p : Int) (w : World) : Calls Try.prog 90 #[.int .i64 p] w fun e w' => e = .returned (.bool (pB p)) ∧ w = w' := by
  rcases pB_cases p with (rfl | rfl | rfl | rfl | rfl | rfl) | ⟨h2, h3, h5, h7, h11, h13⟩
  all_goals
    go_enter Try.func90, Try.ntmps90
    go_wp2
    go_ret
    first | exact ⟨rfl, rfl⟩ | exact ⟨by simp [pB, h2, h3, h5, h7, h11, h13], rfl⟩

set_option maxRecDepth 8000 in
set_option maxHeartbeats 400000 in
theorem ivars (n : Int) (w : World) :
    Calls Try.prog 91 #[.int .i64 n] w fun e w' => e = .returned (.bool (decide (1 ≤ n) && decide (n ≤ 3))) ∧ w = w' := by
  by_cases h : 1 ≤ n
  · go_enter Try.func91, Try.ntmps91
    go_wp2
    go_ret
    exact ⟨by simp; omega, rfl⟩
  · go_enter Try.func91, Try.ntmps91
    go_wp2
    go_ret
    exact ⟨by simp; omega, rfl⟩

theorem tmod_neg {p x : Int} (h2 : 2 ≤ p) (h0 : x < 0) : -p < x.tmod p ∧ x.tmod p ≤ 0 ∧ x.tmod p % p = x % p := by
  have h1 : x.tmod p = -((-x) % p) := by
    have := Int.neg_tmod (a := -x) (b := p)
    rw [Int.neg_neg] at this
    rw [this, Int.tmod_eq_emod_of_nonneg (by omega)]
  have a := Int.emod_nonneg (-x) (b := p) (by omega)
  have b := Int.emod_lt_of_pos (-x) (b := p) (by omega)
  refine ⟨by omega, by omega, ?_⟩
  rw [h1]
  obtain ⟨t, ht⟩ := dvd_emod p (-x)
  rw [show -((-x) % p) = x + p * (-t) by grind, Int.add_mul_emod_self_left]

set_option maxRecDepth 8000 in
set_option maxHeartbeats 1000000 in
theorem emod_any (p x : Int) (w : World) (h2 : 2 ≤ p) (h13 : p ≤ 13) (h0 : -1000000000 ≤ x) (h1 : x ≤ 1000000000) :
    Calls Try.prog 142 #[.int .i64 p, .int .i64 x] w fun e w' => e = .returned (.int .i64 (x % p)) ∧ w = w' := by
  by_cases hx : 0 ≤ x
  · have g0 : 0 ≤ x % p := Int.emod_nonneg _ (by omega)
    have g1 : x % p < p := Int.emod_lt_of_pos _ (by omega)
    have HQ := Lib.hid (show (x % p + p) % p = x % p by rw [Int.add_emod_right, Int.emod_emod_of_dvd _ (Int.dvd_refl p)])
    go_enter Try.func142, Try.ntmps142
    go_wp2
    go_ret
    exact ⟨by show Ending.returned (.int .i64 ((x % p + p) % p)) = _; rw [HQ.out], rfl⟩
  · obtain ⟨g0, g1, g2⟩ := tmod_neg h2 (x := x) (by omega)
    have HQ := Lib.hid g2
    clear g2
    generalize hT : x.tmod p = T at *
    have hw : IntKind.i64.wrap T = T := IntWalk.i64_in _ (by omega)
    go_enter Try.func142, Try.ntmps142
    go_wp2
    go_ret
    exact ⟨by rw [← HQ.out]; rfl, rfl⟩

/-- The first place of a number other than 0, as a number: -1 if there is none. -/
def leadI (l : List Int) : Int := if leadN l < l.length then (leadN l : Int) else -1
theorem lead_next {l : List Int} {k : Nat} (hk : k ≤ leadN l) (hl : k < l.length) (h : l[k] = 0) : k + 1 ≤ leadN l := by
  rcases Nat.lt_or_ge k (leadN l) with h' | h'
  · exact h'
  · have e : leadN l = k := by omega
    exact absurd (by rw [e, nth_lt hl, h]) (lead_at (r := l) (by omega))
theorem lead_is {l : List Int} {k : Nat} (hk : k ≤ leadN l) (hl : k < l.length) (h : l[k] ≠ 0) : leadN l = k :=
  lead_eq (fun j hj => lead_before (by omega)) (by rw [nth_lt hl]; exact h)

set_option maxRecDepth 8000 in
set_option maxHeartbeats 1000000 in
theorem elead (v : Value) (l : List Int) (w : World) (hl : l.length ≤ 1048576) (hS : Sl w v l) :
    Calls Try.prog 138 #[v] w fun e w' => e = .returned (.int .i64 (leadI l)) ∧ w' = w := by
  obtain ⟨a, cap, rfl, h⟩ := hS
  go_enter Try.func138, Try.ntmps138
  go_wp2
  go_loop [3] (fun i => ∃ k : Nat, k ≤ l.length ∧ i = .int .i64 k ∧ Hid (k ≤ leadN l)) (fun i => l.length - (intOf i).toNat)
  case atStart => exact ⟨0, by omega, rfl, Lib.hid (by omega)⟩
  case round =>
    obtain ⟨k, hk, rfl, HU⟩ := hrel
    by_cases hlt : k < l.length
    · have hlt' : (k : Int) < (l.length : Int) := by omega
      obtain ⟨b, off, rfl, hb, hT⟩ : ∃ b off, a = some ⟨b, off, none⟩ ∧ b < w.heap.size ∧ Cs w b off l := by
        rcases h with rfl | h
        · simp at hlt
        · exact h
      have c0 := hT k hlt
      by_cases hz : l[k] = 0
      · have HN : Hid (k + 1 ≤ leadN l) := Lib.hid (lead_next HU.out hlt hz)
        have hq : (l[k] != 0) = false := by simp [hz]
        rw [hz] at c0
        clear hz hq
        go_wp2
        go_round
        case rel => exact ⟨k + 1, by omega, by go_num, HN⟩
        case measure => simp [intOf]; omega
      · have HX : Hid (leadI l = k) := Lib.hid (by rw [leadI, lead_is HU.out hlt hz, if_pos hlt])
        have hq : (l[k] != 0) = true := by simp [hz]
        clear hz
        go_wp2
        go_ret
        exact ⟨by rw [HX.out]; rfl, rfl⟩
    · obtain rfl : k = l.length := by omega
      have HX : Hid (leadI l = -1) := Lib.hid (by rw [leadI, if_neg]; have := HU.out; omega)
      go_wp2
      go_ret
      exact ⟨by rw [HX.out]; rfl, rfl⟩
end Go.Proofs.Ytbahejlgfpilnaa
namespace Go.Proofs.Ytbahejlgfpilnaa
open Go.RowKit Go.Sort EchM

theorem emod_still (p x : Int) (w : World) (h2 : 2 ≤ p) (h13 : p ≤ 13) (h0 : -1000000000 ≤ x) (h1 : x ≤ 1000000000) :
    Calls Try.prog 142 #[.int .i64 p, .int .i64 x] w fun e w' => e = .returned (.int .i64 (x % p)) ∧ w' = w :=
  (emod_any p x w h2 h13 h0 h1).mono fun _ _ ⟨he, hw⟩ => ⟨he, hw.symm⟩
theorem emod_small {p a : Int} (h2 : 2 ≤ p) : 0 ≤ a % p ∧ a % p < p := ⟨Int.emod_nonneg _ (by omega), Int.emod_lt_of_pos _ (by omega)⟩
theorem eprod_fit {p a b : Int} (h13 : p ≤ 13) (ha : 0 ≤ a ∧ a < p) (hb : 0 ≤ b ∧ b < p) : 0 ≤ a * b ∧ a * b ≤ 169 := by
  refine ⟨Int.mul_nonneg ha.1 hb.1, ?_⟩
  have h1 : a * b ≤ 13 * 13 := Int.mul_le_mul (by omega) (by omega) hb.1 (by omega)
  omega

set_option maxRecDepth 8000 in
set_option maxHeartbeats 1000000 in
theorem einv (p x : Int) (w : World) (h2 : 2 ≤ p) (h13 : p ≤ 13) (hx : 0 ≤ x ∧ x < p) :
    Calls Try.prog 139 #[.int .i64 p, .int .i64 x] w fun e w' => e = .returned (.int .i64 (invP p x)) ∧ w' = w := by
  obtain ⟨hx1, hx2⟩ := hx
  have hm : x % p = x := Int.emod_eq_of_lt hx1 hx2
  go_enter Try.func139, Try.ntmps139
  go_wp2
  go_loop [5] (fun i => ∃ k : Int, (1 ≤ k ∧ k ≤ p) ∧ i = .int .i64 k ∧ Hid (invP p x = invA p x (p - k).toNat k)) (fun i => (p - intOf i).toNat)
  case atStart => exact ⟨1, ⟨by omega, by omega⟩, rfl, Lib.hid rfl⟩
  case round =>
    obtain ⟨k, ⟨hk1, hk2⟩, rfl, HU⟩ := hrel
    by_cases hlt : k < p
    · obtain ⟨f0, f1⟩ := eprod_fit h13 (a := k) (b := x) ⟨by omega, hlt⟩ ⟨hx1, hx2⟩
      have hs : Hid (invP p x = if k * x % p = 1 then k else invA p x (p - (k + 1)).toNat (k + 1)) := Lib.hid (by
        rw [HU.out, show (p - k).toNat = (p - (k + 1)).toNat + 1 by omega, invA, hm])
      have hmm := Lib.hid hm
      clear hm
      by_cases hz : k * x % p = 1
      · have HX : Hid (invP p x = k) := Lib.hid (by rw [hs.out, if_pos hz])
        have hq : (k * x % p == 1) = true := by simp [hz]
        clear hz
        go_wp2_with fail
        ((with_reducible refine (emod_still p x _ h2 h13 (by omega) (by omega)).mono ?_); rintro e w1 ⟨rfl, rfl⟩)
        simp only [hmm.out]
        go_wp2
        go_ret
        exact ⟨by rw [HX.out]; rfl, rfl⟩
      · have HX : Hid (invP p x = invA p x (p - (k + 1)).toNat (k + 1)) := Lib.hid (by rw [hs.out, if_neg hz])
        have hq : (k * x % p == 1) = false := by simp [hz]
        clear hz
        go_wp2_with fail
        ((with_reducible refine (emod_still p x _ h2 h13 (by omega) (by omega)).mono ?_); rintro e w1 ⟨rfl, rfl⟩)
        simp only [hmm.out]
        go_wp2
        go_round
        case rel => exact ⟨k + 1, ⟨by omega, by omega⟩, by go_num, HX⟩
        case measure => simp [intOf]; omega
    · obtain rfl : k = p := by omega
      have HX : Hid (invP k x = 0) := Lib.hid (by rw [HU.out, show (k - k).toNat = 0 by omega, invA])
      go_wp2
      go_ret
      exact ⟨by rw [HX.out]; rfl, rfl⟩
end Go.Proofs.Ytbahejlgfpilnaa
namespace Go.Proofs.Ytbahejlgfpilnaa
open Go.RowKit Go.Sort EchM

/-- A region whose first n operations leave the world alone and whose others follow one another. -/
theorem eregion_tail {P : Program} {id : Nat} {Q : Exit → Act → World → Prop} {a : Act} {w : World} {l : List Oper} (n : Nat) (hm : P.follows .mixedOrders = true) (hB : Region.lexTailB .any l.toArray n = true)
    (h : wpStill P l.toArray w.drew (fun a' => wpList P l.toArray Q (l.drop n) a' w.drew) (l.take n) a) : (Code.region id l.toArray true).wp P Q a w :=
  wp_region_still_tail n hm hB h

theorem less_snoc {p K : Int} {r o : List Int} {k : Nat} (hk : k < r.length) (ho : r.length = o.length) : (lessL p K r o).take (k + 1) = (lessL p K r o).take k ++ [(r[k] - K * o[k]'(by omega)) % p] := by
  have hl : k < (lessL p K r o).length := by rw [len_less ho]; exact hk
  rw [List.take_succ_eq_append_getElem hl]
  simp [lessL]

set_option maxRecDepth 8000 in
set_option maxHeartbeats 2000000 in
theorem eless (p K : Int) (v v' : Value) (r o : List Int) (m : Nat) (w : World) (h2 : 2 ≤ p) (h13 : p ≤ 13) (hm : m ≤ 1048576) (hr : InP p m r) (ho : InP p m o) (hK : 0 ≤ K ∧ K < p) (hS : Sl w v r) (hS' : Sl w v' o) :
    Calls Try.prog 140 #[.int .i64 p, v, v', .int .i64 K] w fun e w' => ∃ v2, e = .returned v2 ∧ OwnL w' w.heap.size v2 (lessL p K r o) ∧ Below w.heap.size w w' := by
  obtain ⟨i0, hi, hz0, hz1, hz2⟩ := info_parts einfoI
  have hle : r.length ≤ m := by rw [hr.1]; omega
  have hlo : o.length ≤ r.length := by rw [ho.1, hr.1]; omega
  have hlo' : r.length ≤ o.length := by rw [ho.1, hr.1]; omega
  have hz : ∀ t, t = 2 → OwnL (w.alloc (.cells #[] t)) w.heap.size (.slice (some ⟨w.heap.size, 0, none⟩) 0 0) [] := fun t ht => by
    subst ht
    have := World.ownsRow_made (base := w.heap.size) (e := 2) (size := 1) w #[] 0 (by omega) (by simp [maxLen]) rfl
    simpa [OwnL, valsI] using this
  obtain ⟨a, cap, rfl, h⟩ := hS
  obtain ⟨a', cap', rfl, h'⟩ := hS'
  go_enter Try.func140, Try.ntmps140
  go_wp2
  go_loopw [9, 10] (fun s i wr => ∃ (k : Nat) (O : List Int) (sa : Option Addr) (sc : Nat), k ≤ r.length ∧ O.length ≤ k ∧ s = .slice sa O.length sc ∧ i = .int .i64 k ∧ Hid (O = (lessL p K r o).take k) ∧ OwnL wr w.heap.size (.slice sa O.length sc) O ∧ Below w.heap.size w wr) (fun _ i _ => r.length - (intOf i).toNat)
  case atStart => exact ⟨0, [], _, _, by omega, by simp, rfl, rfl, Lib.hid (by simp), hz _ rfl, ebox1 _ _⟩
  case round =>
    obtain ⟨k, O, sa, sc, hk, hO, rfl, rfl, HU, hown, hb⟩ := hrel
    by_cases hlt : k < r.length
    · have hlt' : (k : Int) < (r.length : Int) := by omega
      have hlo2 : (k : Int) < (o.length : Int) := by omega
      obtain ⟨b, off, rfl, hbb, hT⟩ : ∃ b off, a = some ⟨b, off, none⟩ ∧ b < w.heap.size ∧ Cs w b off r := by
        rcases h with rfl | h
        · simp at hlt
        · exact h
      obtain ⟨b', off', rfl, hbb', hT'⟩ : ∃ b off, a' = some ⟨b, off, none⟩ ∧ b < w.heap.size ∧ Cs w b off o := by
        rcases h' with rfl | h'
        · simp at hlo2; omega
        · exact h'
      have c0 := hT.below hb hbb k (by omega)
      have d0 := hT'.below hb hbb' k (by omega)
      have q0 := hr.2 r[k] (List.getElem_mem _)
      have q1 := ho.2 o[k] (List.getElem_mem _)
      have HN : Hid (O ++ [(r[k] - K * o[k]) % p] = (lessL p K r o).take (k + 1)) := Lib.hid (by rw [HU.out, less_snoc (by omega) (by omega)])
      clear h h' hT hT' HU
      generalize r[k] = x at *
      generalize o[k] = y at *
      obtain ⟨f0, f1⟩ := eprod_fit h13 (a := K) (b := y) hK q1
      have hs := hb.size
      have hmx : O.length + 1 ≤ maxLen := by unfold maxLen; omega
      have hmb : (O.length + 1) * 8 ≤ 140737488355328 := by omega
      have hw1 : IntKind.i64.wrap (K * y) = K * y := IntWalk.i64_in _ (by omega)
      have hw2 : IntKind.i64.wrap (x - K * y) = x - K * y := IntWalk.i64_in _ (by omega)
      go_wp2_with fail
      have B1 : -1000000000 ≤ x - K * y := by omega
      have B2 : x - K * y ≤ 1000000000 := by omega
      have KK := Lib.hid (fun w' (h : Below w.heap.size wr w') => show w'.cell? ⟨b, off + k, none⟩ = some (.int .i64 x) ∧ w'.cell? ⟨b', off' + k, none⟩ = some (.int .i64 y) from
        ⟨(h.cell (p := ⟨_, _, none⟩) hbb).trans c0, (h.cell (p := ⟨_, _, none⟩) hbb').trans d0⟩)
      go_region_held3 (fun w' => w'.cell? ⟨b, off + k, none⟩ = some (.int .i64 x) ∧ w'.cell? ⟨b', off' + k, none⟩ = some (.int .i64 y))
        (first | with_reducible exact KK.out _ (Below.refl _ _).drew | with_reducible exact KK.out _ ((ebox1 _ _).mono hs).drew | with_reducible exact KK.out _ hb1)
        (first
          | ((with_reducible refine (emod_still p (x - K * y) _ h2 h13 B1 B2).mono ?_); rintro e w1 ⟨rfl, rfl⟩)
          | ((refine step_append_lies _ (by rfl) _ _ _ (by rfl) w.heap.size 2 i0 _ 1 8 Try.underlying52 hi hz0 hz1 hz2 rfl (by omega) (.slice sa O.length sc) O.length (valsI O) (by rfl) ((World.ownsRow.alloc hown _).drew) ⟨wr.heap.size, 0, none⟩ 1 1 [.int .i64 ((x - K * y) % p)] (by rfl) (by rfl) (World.news_of_block (cs := #[.int .i64 ((x - K * y) % p)]) (t := 2) (fr := (0, 0)) (heap_alloc_new wr _)) (by simp [Value.oneCell']) (by omega) hmx hmb (by simp; omega) (wr.heap.size + 1) (by simp) ?_
              intro gg cap3 w3 hown3 hgrow3 hat hlt3
              have hb1 : Below w.heap.size wr w3 := ((ebox1 wr _).mono hs).drew.grown hgrow3 (by simp; omega) (fun q hq => (World.ownsRow.lt hown q hq).1)
              clear hat)))
      all_goals
        go_wp2_with fail
        go_roundw
        case rel => exact ⟨k + 1, O ++ [(x - K * y) % p], some ⟨gg, 0, none⟩, cap3, by omega, by simp; omega, by simp, by go_num, HN, by simpa [OwnL, valsI] using hown3, hb.trans hb1⟩
        case measure => simp [intOf]; omega
    · obtain rfl : k = r.length := by omega
      have HX : Hid (lessL p K r o = O) := Lib.hid (by rw [HU.out, ← len_less (p := p) (k := K) (r := r) (o := o) (by omega), List.take_length])
      go_wp2
      go_ret
      exact ⟨_, rfl, by rw [HX.out]; exact hown, hb⟩
end Go.Proofs.Ytbahejlgfpilnaa
namespace Go.Proofs.Ytbahejlgfpilnaa
open Go.RowKit Go.Sort EchM

theorem elead_at (v : Value) (l : List Int) (n : Nat) (w : World) (hl : l.length ≤ 1048576) (hS : Sl w v l) (h1 : leadN l = n) (h2 : n < l.length) :
    Calls Try.prog 138 #[v] w fun e w' => e = .returned (.int .i64 (n : Int)) ∧ w' = w :=
  (elead v l w hl hS).mono fun _ _ ⟨he, hw⟩ => ⟨by rw [he, leadI, h1, if_pos h2], hw⟩
theorem restL_snoc (p : Int) (L : List (List Int)) (q r : List Int) : restL p (L ++ [q]) r = if nth (restL p L r) (leadN q) = 0 then restL p L r else lessL p (nth (restL p L r) (leadN q)) (restL p L r) q := by
  unfold restL; rw [List.foldl_append]; rfl
theorem restL_take {p : Int} {L : List (List Int)} {r : List Int} {k : Nat} (hk : k < L.length) : restL p (L.take (k + 1)) r = if nth (restL p (L.take k) r) (leadN L[k]) = 0 then restL p (L.take k) r else lessL p (nth (restL p (L.take k) r) (leadN L[k])) (restL p (L.take k) r) L[k] := by
  rw [List.take_succ_eq_append_getElem hk, restL_snoc]
theorem restL_inP {p : Int} (hp : 0 < p) {m : Nat} : ∀ (L : List (List Int)) (r : List Int), (∀ q ∈ L, InP p m q) → InP p m r → InP p m (restL p L r)
  | [], _, _, hr => hr
  | q :: L, r, h, hr => by
    have e : restL p (q :: L) r = restL p L (if nth r (leadN q) = 0 then r else lessL p (nth r (leadN q)) r q) := rfl
    rw [e]
    refine restL_inP hp L _ (fun x hx => h x (by simp [hx])) ?_
    split
    · exact hr
    · exact inP_less hp hr (h q (by simp))

set_option maxRecDepth 8000 in
set_option maxHeartbeats 2000000 in
theorem erest (p : Int) (v v' : Value) (L : List (List Int)) (r : List Int) (m : Nat) (w : World) (h2 : 2 ≤ p) (h13 : p ≤ 13) (hm : m ≤ 1048576) (hLl : L.length ≤ 1048576) (hL : ∀ q ∈ L, InP p m q ∧ leadN q < m) (hr : InP p m r) (hS : SlR w v L) (hS' : Sl w v' r) :
    Calls Try.prog 137 #[.int .i64 p, v, v'] w fun e w' => ∃ v2, e = .returned v2 ∧ OwnL w' w.heap.size v2 (restL p L r) ∧ Below w.heap.size w w' := by
  have hle : r.length ≤ m := by rw [hr.1]; omega
  obtain ⟨a, cap, rfl, h⟩ := hS
  obtain ⟨a', cap', rfl⟩ := hS'.shape
  go_enter Try.func137, Try.ntmps137
  go_wp2_with fail
  ((with_reducible refine (eown _ r _ (by omega) hS').mono ?_); rintro e w1 ⟨v1, rfl, hown1, hb1⟩)
  obtain ⟨sa1, sc1, rfl⟩ := hown1.slice.shape
  go_wp2
  go_loopw [7, 8] (fun s i wr => ∃ (k : Nat) (O : List Int) (sa : Option Addr) (sc : Nat), k ≤ L.length ∧ s = .slice sa O.length sc ∧ i = .int .i64 k ∧ Hid (O = restL p (L.take k) r) ∧ OwnL wr w.heap.size (.slice sa O.length sc) O ∧ Below w.heap.size w wr) (fun _ i _ => L.length - (intOf i).toNat)
  case atStart => exact ⟨0, r, sa1, sc1, by omega, rfl, rfl, Lib.hid (by simp [restL]), hown1, hb1⟩
  case round =>
    obtain ⟨k, O, sa, sc, hk, rfl, rfl, HU, hown, hb⟩ := hrel
    by_cases hlt : k < L.length
    · have hlt' : (k : Int) < (L.length : Int) := by omega
      obtain ⟨b, off, rfl, hbb, hT⟩ : ∃ b off, a = some ⟨b, off, none⟩ ∧ b < w.heap.size ∧ RowsW w b off L := by
        rcases h with rfl | h
        · simp at hlt
        · exact h
      obtain ⟨vq, c0', hq'⟩ := hT k hlt
      have c0 := (hb.cell (p := ⟨b, _, none⟩) hbb).trans c0'
      have hq := hq'.below hb
      clear c0' hq' hT h
      obtain ⟨i1, i2⟩ := hL L[k] (List.getElem_mem _)
      have hO : InP p m O := by rw [HU.out]; exact restL_inP (by omega) _ _ (fun q hq => (hL q (List.mem_of_mem_take hq)).1) hr
      have HN := Lib.hid (restL_take (p := p) (r := r) hlt)
      have hln : leadN L[k] < O.length := by rw [hO.1]; exact i2
      have hlq : L[k].length ≤ 1048576 := by rw [i1.1]; exact hm
      have hl2 : leadN L[k] < L[k].length := by rw [i1.1]; exact i2
      rw [← HU.out] at HN
      generalize hq0 : L[k] = q at hq i1 i2 HN hln hlq hl2
      clear hq0
      obtain ⟨n, hn⟩ : ∃ n, leadN q = n := ⟨_, rfl⟩
      rw [hn] at HN hln hl2
      have HNN := Lib.hid hn
      clear hn
      have hln' : (n : Int) < (O.length : Int) := by omega
      obtain ⟨g, cp, hv, hg1, hg2, hc⟩ := hown.form (by omega)
      simp only [Value.slice.injEq] at hv
      obtain ⟨rfl, _, rfl⟩ := hv
      have d0 := hc n hln
      have hK := hO.nth (by omega) n
      rw [nth_lt hln] at HN hK
      obtain ⟨aq, cq, rfl⟩ := hq.shape
      clear hc
      go_wp2_with fail
      ((with_reducible refine (elead_at _ q n _ hlq hq HNN.out hl2).mono ?_); rintro e w2 ⟨rfl, rfl⟩)
      by_cases hz : O[n] = 0
      · have hN2 : Hid (O = restL p (L.take (k + 1)) r) := Lib.hid (by rw [HN.out, if_pos hz])
        have hq2 : (O[n] != 0) = false := by simp [hz]
        rw [hz] at d0
        clear hz hq2 HN
        go_wp2_with fail
        go_roundw
        case rel => exact ⟨k + 1, O, _, _, by omega, rfl, by go_num, hN2, hown, hb⟩
        case measure => simp [intOf]; omega
      · have hN2 : Hid (lessL p O[n] O q = restL p (L.take (k + 1)) r) := Lib.hid (by rw [HN.out, if_neg hz])
        have hq2 : (O[n] != 0) = true := by simp [hz]
        clear hz HN
        go_wp2_with fail
        ((with_reducible refine (eless p O[n] _ _ O q m _ h2 h13 hm hO i1 hK hown.slice hq).mono ?_); rintro e w3 ⟨v3, rfl, hown3, hb3⟩)
        obtain ⟨s3, c3, rfl⟩ := hown3.slice.shape
        have hs := hb.size
        go_wp2_with fail
        go_roundw
        case rel => exact ⟨k + 1, lessL p O[n] O q, s3, c3, by omega, rfl, by go_num, hN2, OwnL.mono hown3 hs, hb.trans (hb3.mono hs)⟩
        case measure => simp [intOf]; omega
    · obtain rfl : k = L.length := by omega
      have HX : Hid (restL p L r = O) := Lib.hid (by rw [HU.out, List.take_length])
      go_wp2
      go_ret
      exact ⟨_, rfl, by rw [HX.out]; exact hown, hb⟩
end Go.Proofs.Ytbahejlgfpilnaa
namespace Go.Proofs.Ytbahejlgfpilnaa
open Go.RowKit Go.Sort EchM


/-- Two rows of different types lie in different blocks. -/
theorem own_apart {w : World} {base base' : Nat} {e e' : TypeId} {size size' n n' : Nat} {v v' : Value} {xs xs' : List Value} (h : w.ownsRow base e size v n xs) (h' : w.ownsRow base' e' size' v' n' xs') (hne : e ≠ e') : v.ownBlock = none ∨ v.ownBlock ≠ v'.ownBlock := by
  cases hv : v.ownBlock with
  | none => exact .inl rfl
  | some g =>
    refine .inr fun e2 => ?_
    obtain ⟨c, z, hc⟩ := Lib.ownsRow_kind h g hv
    obtain ⟨c', z', hc'⟩ := Lib.ownsRow_kind h' g e2.symm
    rw [hc] at hc'
    simp at hc'
    exact hne hc'.2.1
/-- A list of rows of the call's own. -/
def OwnR (w : World) (base : Nat) (v : Value) (L : List (List Int)) : Prop :=
  ∃ us : List Value, us.length = L.length ∧ w.ownsRow base 52 1 v L.length us ∧ ∀ (k : Nat) (h : k < L.length) (h' : k < us.length), OwnL w base us[k] L[k]
theorem OwnR.below {w w' : World} {base : Nat} {v : Value} {L : List (List Int)} (h : OwnR w base v L) (hb : Below w.heap.size w w') : OwnR w' base v L := by
  obtain ⟨us, h1, h2, h3⟩ := h
  exact ⟨us, h1, eowns_below h2 hb, fun k hk hk' => (h3 k hk hk').below hb⟩
theorem owns_mono {w : World} {base base' : Nat} {e : TypeId} {size n : Nat} {v : Value} {xs : List Value} (h : w.ownsRow base e size v n xs) (hb : base' ≤ base) : w.ownsRow base' e size v n xs := by
  obtain ⟨h1, h2⟩ := h
  refine ⟨h1, ?_⟩
  rcases h2 with h2 | ⟨g, cap, cur, hv, hg, r⟩
  · exact .inl h2
  · exact .inr ⟨g, cap, cur, hv, Nat.le_trans hb hg, r⟩
theorem OwnR.mono {w : World} {base base' : Nat} {v : Value} {L : List (List Int)} (h : OwnR w base v L) (hb : base' ≤ base) : OwnR w base' v L := by
  obtain ⟨us, h1, h2, h3⟩ := h
  exact ⟨us, h1, owns_mono h2 hb, fun k hk hk' => (h3 k hk hk').mono hb⟩
theorem OwnR.cells {w : World} {base : Nat} {v : Value} {L : List (List Int)} (h : OwnR w base v L) (hl : 0 < L.length) : ∃ g cap, v = .slice (some ⟨g, 0, none⟩) L.length cap ∧ base ≤ g ∧ g < w.heap.size ∧ ∀ (k : Nat) (h : k < L.length), ∃ u, w.cell? ⟨g, k, none⟩ = some u ∧ OwnL w base u L[k] := by
  obtain ⟨us, h1, h2, h3⟩ := h
  obtain ⟨g, cap, hv, hb, hlt⟩ := World.ownsRow.form h2 hl
  refine ⟨g, cap, hv, hb, hlt, fun k hk => ⟨us[k]'(by omega), ?_, h3 k hk (by omega)⟩⟩
  have := World.ownsRow.cells h2 (g := g) (by rw [hv]; rfl) k (us[k]'(by omega)) (by simp)
  rwa [show (⟨g, 0, none⟩ : Addr).add k = ⟨g, k, none⟩ by unfold Addr.add; split <;> simp_all] at this
theorem OwnR.slice {w : World} {base : Nat} {v : Value} {L : List (List Int)} (h : OwnR w base v L) : SlR w v L := by
  by_cases hl : 0 < L.length
  · obtain ⟨g, cap, hv, _, hlt, hc⟩ := h.cells hl
    refine ⟨_, _, hv, .inr ⟨g, 0, rfl, hlt, fun k hk => ?_⟩⟩
    obtain ⟨u, h1, h2⟩ := hc k hk
    exact ⟨u, by rw [Nat.zero_add]; exact h1, h2.slice⟩
  · have : L = [] := List.eq_nil_of_length_eq_zero (by omega)
    subst this
    obtain ⟨us, h1, h2, h3⟩ := h
    rcases h2.2 with ⟨hv, _⟩ | ⟨g, cap, cur, hv, _⟩
    · exact ⟨_, _, hv, .inl rfl⟩
    · exact ⟨_, _, hv, .inl rfl⟩
theorem OwnR.shape {w : World} {base : Nat} {v : Value} {L : List (List Int)} (h : OwnR w base v L) : ∃ a cap, v = .slice a L.length cap := by
  obtain ⟨a, cap, hv, _⟩ := h.slice; exact ⟨a, cap, hv⟩
/-- Behind an append to another list. -/
theorem OwnL.kept {w w' : World} {base base' : Nat} {v v' : Value} {l : List Int} {n : Nat} {us : List Value} (h : OwnL w base v l) (h' : w.ownsRow base' 52 1 v' n us) (hg : w.grownBy w' v'.ownBlock) : OwnL w' base v l :=
  World.ownsRow.kept h hg (own_apart h h' (by decide))
/-- A row put behind a list of rows. -/
theorem OwnR.push {w w' : World} {base : Nat} {v v' u : Value} {L : List (List Int)} {l : List Int} {us : List Value} (h1 : us.length = L.length) (h2 : w.ownsRow base 52 1 v L.length us) (h3 : ∀ (k : Nat) (h : k < L.length) (h' : k < us.length), OwnL w base us[k] L[k])
    (hu : OwnL w base u l) (ho : w'.ownsRow base 52 1 v' (L.length + 1) (us ++ [u])) (hg : w.grownBy w' v.ownBlock) : OwnR w' base v' (L ++ [l]) := by
  refine ⟨us ++ [u], by simp [h1], by simpa using ho, fun k hk hk' => ?_⟩
  by_cases hlt : k < L.length
  · have := (h3 k hlt (by omega)).kept h2 hg
    simpa [List.getElem_append_left, hlt, h1] using this
  · have e : k = L.length := by simp at hk; omega
    subst e
    have := hu.kept h2 hg
    simpa [List.getElem_append_right, h1] using this
theorem OwnR.nil {w : World} {base : Nat} (hb : base ≤ w.heap.size) {t : TypeId} (ht : t = 52) : OwnR (w.alloc (.cells #[] t)) base (.slice (some ⟨w.heap.size, 0, none⟩) 0 0) [] := by
  subst ht
  have := World.ownsRow_made (base := base) (e := 52) (size := 1) w #[] 0 hb (by simp [maxLen]) rfl
  exact ⟨[], rfl, by simpa using this, fun k h => by simp at h⟩
/-- A number of a list of the call's own is written. -/
theorem OwnL.set {w : World} {base g n cap : Nat} {l : List Int} (h : OwnL w base (.slice (some ⟨g, 0, none⟩) n cap) l) (k : Nat) (a : Int) : OwnL (w.setCell ⟨g, k, none⟩ (.int .i64 a)) base (.slice (some ⟨g, 0, none⟩) n cap) (l.set k a) := by
  have hn : n = l.length := by
    obtain ⟨a, c, hv⟩ := h.shape
    simp only [Value.slice.injEq] at hv
    exact hv.2.1
  subst hn
  have := (World.ownsRow.stored h k (.int .i64 a)).1
  simpa [OwnL, valsI, List.map_set] using this

/-- A row that is scaled up to a place. -/
def mixL (p c : Int) (O : List Int) (k : Nat) : List Int := (scaleL p c O).take k ++ O.drop k
theorem mixL_len (p c : Int) (O : List Int) (k : Nat) : (mixL p c O k).length = O.length := by
  simp [mixL, scaleL]; omega
theorem mixL_zero (p c : Int) (O : List Int) : mixL p c O 0 = O := by simp [mixL]
theorem mixL_end (p c : Int) (O : List Int) : mixL p c O O.length = scaleL p c O := by
  simp [mixL, List.take_of_length_le, scaleL]
theorem mixL_at {p c : Int} {O : List Int} {k : Nat} (h : k < O.length) (h' : k < (mixL p c O k).length) : (mixL p c O k)[k] = O[k] := by
  simp only [mixL]
  rw [List.getElem_append_right (by simp [scaleL]; omega)]
  simp [scaleL, Nat.min_eq_left (Nat.le_of_lt h)]
theorem mixL_set {p c : Int} {O : List Int} {k : Nat} (h : k < O.length) : (mixL p c O k).set k (O[k] * c % p) = mixL p c O (k + 1) := by
  refine List.ext_getElem (by simp [mixL_len]) fun j h1 h2 => ?_
  rw [mixL_len] at h2
  rw [List.getElem_set]
  have hs : (scaleL p c O).length = O.length := by simp [scaleL]
  split
  · rename_i e
    subst e
    simp only [mixL]
    rw [List.getElem_append_left (by simp [hs]; omega)]
    simp [scaleL]
  · rename_i hne
    simp only [mixL]
    by_cases hj : j < k
    · rw [List.getElem_append_left (by simp [hs]; omega), List.getElem_append_left (by simp [hs]; omega)]
      simp
    · rw [List.getElem_append_right (by simp [hs]; omega), List.getElem_append_right (by simp [hs]; omega)]
      simp [hs, Nat.min_eq_left (Nat.le_of_lt h), Nat.min_eq_left h]
      congr 1
      omega
theorem insL_len (p : Int) (own : List Int) (c : Nat) : ∀ (b : Bool) (L : List (List Int)), (insL p own c b L).length ≤ L.length + 1
  | true, [] => by simp [insL]
  | false, [] => by simp [insL]
  | true, q :: L => by have := insL_true p own c L; rw [insL, this]; simp
  | false, q :: L => by
    rw [insL]
    split
    · rw [insL_true]; simp
    · have := insL_len p own c false L; simp; omega
theorem stepL_len (p : Int) (L : List (List Int)) (r : List Int) : (stepL p L r).length ≤ L.length + 1 := by
  unfold stepL
  split
  · exact insL_len _ _ _ _ _
  · omega
theorem ech_snoc (p : Int) (R : List (List Int)) (k : Nat) (h : k < R.length) : echL p (R.take (k + 1)) = stepL p (echL p (R.take k)) R[k] := by
  unfold echL
  rw [List.take_succ_eq_append_getElem h, List.foldl_append]
  rfl
theorem ech_len (p : Int) (R : List (List Int)) : (echL p R).length ≤ R.length := by
  have key : ∀ (R L : List (List Int)), (R.foldl (stepL p) L).length ≤ L.length + R.length := by
    intro R
    induction R with
    | nil => intro L; simp
    | cons r R ih => intro L; have := ih (stepL p L r); have := stepL_len p L r; simp; omega
  have := key R []
  simpa [echL] using this
/-- What is still to be put behind what has been put. -/
theorem insL_next {p : Int} {own : List Int} {c : Nat} {L : List (List Int)} {k : Nat} (h : k < L.length) (b : Bool) :
    insL p own c b (L.drop k) = (if b = false ∧ c < leadN L[k] then [own] else []) ++ lessL p (nth L[k] c) L[k] own :: insL p own c (b || decide (c < leadN L[k])) (L.drop (k + 1)) := by
  rw [List.drop_eq_getElem_cons h]
  cases b
  · rw [insL]
    by_cases hc : c < leadN L[k]
    · simp [hc]
    · simp [hc]
  · rw [insL]; simp
end Go.Proofs.Ytbahejlgfpilnaa
namespace Go.Proofs.Ytbahejlgfpilnaa
open Go.RowKit Go.Sort EchM

/-- The partitions of n in d numbers of at most m, as the model finds them. -/
def parL : Nat → Nat → Nat → List (List Int)
  | 0, n, _ => if n = 0 then [[]] else []
  | d + 1, n, m => expT (fun k => parL d (n - k) k) (min n m) 0
theorem parL_row : ∀ (d n m : Nat), ∀ r ∈ parL d n m, r.length = d
  | 0, n, _, r, h => by
    rw [parL] at h
    split at h
    · simp at h; rw [h]; rfl
    · simp at h
  | d + 1, n, m, r, h => by
    rw [parL, expT, List.mem_flatMap] at h
    obtain ⟨i, _, h⟩ := h
    obtain ⟨r', hr, rfl⟩ := List.mem_map.1 h
    have := parL_row d _ _ r' hr
    simp [this]
theorem parL_len : ∀ (d n m : Nat), n ≤ 12 → (parL d n m).length ≤ 13 ^ d
  | 0, n, _, _ => by
    rw [parL]
    split <;> simp
  | d + 1, n, m, hn => by
    rw [parL]
    have h1 := expT_len (fun k => parL d (n - k) k) (min n m) (13 ^ d) (fun k _ => parL_len d _ _ (by omega)) (min n m + 1 - 0) 0 rfl
    have h3 : (min n m + 1 - 0) * 13 ^ d ≤ 13 * 13 ^ d := Nat.mul_le_mul_right _ (by omega)
    rw [Nat.pow_succ, Nat.mul_comm]
    exact Nat.le_trans h1 h3
/-- The first numbers of three; whether a list descends. -/
def row3 (d : Nat) (e : Int × Int × Int) : List Int := [e.1, e.2.1, e.2.2].take d
def desB : List Int → Bool
  | a :: b :: r => decide (b ≤ a) && desB (b :: r)
  | _ => true
theorem par_same (d : Fin 4) (n : Fin 13) (h : 1 ≤ d.val) : ((monL (d.val : Int) (n.val : Int)).map (row3 d.val)).filter desB = parL d.val n.val n.val := by
  revert n d
  decide +kernel
theorem OwnL.of_heapP {A B : World} {base : Nat} {v : Value} {l : List Int} (h : OwnL A base v l) (e : ∀ g, v.ownBlock = some g → B.heap[g]? = A.heap[g]?) : OwnL B base v l := by
  obtain ⟨h1, h2 | ⟨g, cap, cur, hv, hb, hg, r⟩⟩ := h
  · exact ⟨h1, .inl h2⟩
  · exact ⟨h1, .inr ⟨g, cap, cur, hv, hb, (e g (by rw [hv]; rfl)).trans hg, r⟩⟩
/-- A list of one empty list. -/
theorem ownR_oneP (w : World) : OwnR ((w.alloc (.cells #[] 2)).alloc (.cells #[.slice (some ⟨w.heap.size, 0, none⟩) 0 0] 52)) w.heap.size (.slice (some ⟨w.heap.size + 1, 0, none⟩) 1 1) [[]] := by
  have h0 : OwnL (w.alloc (.cells #[] 2)) w.heap.size (.slice (some ⟨w.heap.size, 0, none⟩) 0 0) [] := by simpa [OwnL, valsI] using World.ownsRow_made (base := w.heap.size) (e := 2) (size := 1) w #[] 0 (Nat.le_refl _) (by simp [maxLen]) rfl
  refine ⟨[.slice (some ⟨w.heap.size, 0, none⟩) 0 0], rfl, ⟨by simp, .inr ⟨w.heap.size + 1, 1, #[.slice (some ⟨w.heap.size, 0, none⟩) 0 0], rfl, by omega, ?_, Nat.le_refl _, by unfold maxLen; omega, by first | omega | rfl | simp, rfl⟩⟩, fun k hk hk' => ?_⟩
  · have := heap_alloc_new (w.alloc (.cells #[] 2)) (.cells #[.slice (some ⟨w.heap.size, 0, none⟩) 0 0] 52)
    rwa [World.size_alloc] at this
  · obtain rfl : k = 0 := by simpa using hk
    exact h0.below (box1 _ _)
/-- A list of one number. -/
theorem ownL_oneP (w : World) (x : Int) : OwnL (w.alloc (.cells #[.int .i64 x] 2)) w.heap.size (.slice (some ⟨w.heap.size, 0, none⟩) 1 1) [x] :=
  ⟨by simp [valsI], .inr ⟨w.heap.size, 1, #[.int .i64 x], rfl, Nat.le_refl _, heap_alloc_new w _, Nat.le_refl _, by unfold maxLen; omega, by first | omega | rfl | simp, rfl⟩⟩
/-- Blocks between two marks are as they were. -/
structure KeepJ (lo hi : Nat) (w w' : World) : Prop where
  size : w.heap.size ≤ w'.heap.size
  block : ∀ b, lo ≤ b → b < hi → w'.heap[b]? = w.heap[b]?
theorem KeepJ.refl (lo hi : Nat) (w : World) : KeepJ lo hi w w := ⟨Nat.le_refl _, fun _ _ _ => rfl⟩
theorem KeepJ.below {lo hi : Nat} {w w' w'' : World} (h : KeepJ lo hi w w') (hb : Below w'.heap.size w' w'') (hh : hi ≤ w'.heap.size) : KeepJ lo hi w w'' :=
  ⟨Nat.le_trans h.size hb.size, fun b h1 h2 => (hb.block b (by omega)).trans (h.block b h1 h2)⟩
theorem KeepJ.grown {lo hi : Nat} {w w' w'' : World} {row : Option Nat} (h : KeepJ lo hi w w') (hg : w'.grownBy w'' row) (hh : hi ≤ w'.heap.size) (hr : ∀ g, row = some g → g < lo ∨ hi ≤ g) : KeepJ lo hi w w'' :=
  ⟨Nat.le_trans h.size hg.size, fun b h1 h2 => (hg.block b (by omega) (fun e => by rcases hr b e.symm with h | h <;> omega)).trans (h.block b h1 h2)⟩

theorem ownL_blockP {w : World} {base : Nat} {v : Value} {l : List Int} (h : OwnL w base v l) : ∀ g, v.ownBlock = some g → base ≤ g ∧ g < w.heap.size := fun g hg => by
  obtain ⟨_, ⟨rfl, _⟩ | ⟨g', cap, cur, rfl, hb, hh, _⟩⟩ := h
  · simp [Value.ownBlock] at hg
  · simp [Value.ownBlock] at hg
    subst hg
    obtain ⟨hlt, _⟩ := Array.getElem?_eq_some_iff.1 hh
    exact ⟨hb, hlt⟩


set_option maxRecDepth 8000 in
set_option maxHeartbeats 16000000 in
theorem spar_core (d n m : Nat) (w : World) (hd : d ≤ 2) (hn : n ≤ 12) (hm : m ≤ 12)
    (HIH : Hid (∀ (n m : Nat) (w : World), n ≤ 12 → m ≤ 12 → Calls Try.prog 95 #[.int .i64 (n : Int), .int .i64 (d : Int), .int .i64 (m : Int)] w fun e w' => ∃ v', e = .returned v' ∧ OwnR w' w.heap.size v' (parL d n m) ∧ Below w.heap.size w w')) :
    Calls Try.prog 95 #[.int .i64 (n : Int), .int .i64 ((d : Int) + 1), .int .i64 (m : Int)] w fun e w' => ∃ v', e = .returned v' ∧ OwnR w' w.heap.size v' (parL (d + 1) n m) ∧ Below w.heap.size w w' := by
  obtain ⟨i1, hi', hz0', hz1', hz2'⟩ := info_parts einfoR
  have HEX : Hid (parL (d + 1) n m = expT (fun k => parL d (n - k) k) (min n m) 0) := Lib.hid (by rw [parL])
  obtain ⟨M, hM⟩ : ∃ M : Nat, 13 ^ 7 = M := ⟨_, rfl⟩
  have HLE : Hid (∀ k, (parL d (n - k) k).length ≤ M) := Lib.hid (fun k => by
    have h1 := parL_len d (n - k) k (by omega)
    have h3 : 13 ^ d ≤ 13 ^ 7 := Nat.pow_le_pow_right (by omega) (by omega)
    rw [hM] at h3
    omega)
  obtain ⟨f, hf⟩ : ∃ f : Nat → List (List Int), (fun k => parL d (n - k) k) = f := ⟨_, rfl⟩
  have HFK : Hid (∀ k, parL d (n - k) k = f k) := Lib.hid (fun k => by rw [← hf])
  obtain ⟨K, hK⟩ : ∃ K, min n m = K := ⟨_, rfl⟩
  have hK12 : K ≤ 12 := by omega
  have hKn : K ≤ n := by omega
  have hKi : min (n : Int) (m : Int) = (K : Int) := by omega
  rw [hf, hK] at HEX
  have HLT : Hid (∀ j, (expT f K j).length ≤ 13 * M) := Lib.hid (fun j => by
    have h1 := expT_len f K M (fun k _ => by rw [← HFK.out k]; exact HLE.out k) (K + 1 - j) j rfl
    have h2 : (K + 1 - j) * M ≤ 13 * M := Nat.mul_le_mul_right M (show K + 1 - j ≤ 13 by omega)
    omega)
  have hM9 : M ≤ 1000000000 := by rw [← hM]; decide
  clear hf hK hM
  obtain ⟨W, hW, hbw1, hWs, hO1⟩ : ∃ W, W = w.alloc (.cells #[] 52) ∧ Below w.heap.size w W ∧ W.heap.size = w.heap.size + 1 ∧ OwnR W w.heap.size (.slice (some ⟨w.heap.size, 0, none⟩) 0 0) [] := ⟨_, rfl, box1 _ _, by simp, OwnR.nil (Nat.le_refl _) rfl⟩
  have hd0 : ((d : Int) + 1 == 0) = false := by simp; omega
  have hdw : (d : Int) + 1 - 1 = (d : Int) := by omega
  go_enter Try.func95, Try.ntmps95
  go_upto_region 6 with fail
  rw [← hW]
  clear hW
  go_wp2_with fail
  all_goals
    go_loopw [8, 7] (fun s7 s5 wr => ∃ (j : Nat) (sv : Value), j ≤ K + 1 ∧ s7 = .int .i64 ((j : Int) - 1) ∧ s5 = sv ∧ OwnR wr w.heap.size sv (expT f K j) ∧ Below w.heap.size w wr) (fun s7 _ _ => (intOf s7 + 1).toNat)
    case atStart => exact ⟨K + 1, _, Nat.le_refl _, congrArg (Value.int .i64) (by omega), rfl, by rw [expT_top]; exact hO1, hbw1⟩
    case round =>
      clear hO1 hbw1
      obtain ⟨j, sv, hj, hi7, hsv, hO, hbr⟩ := hrel
      subst u7
      obtain ⟨oa, oc, rfl⟩ := hO.shape
      cases j with
      | zero =>
        have hi8 : u8 = .int .i64 (-1) := by rw [hi7]; simp
        subst hi8
        have HO : Hid (OwnR wr w.heap.size (.slice oa (expT f K 0).length oc) (parL (d + 1) n m)) := Lib.hid (by rw [HEX.out]; exact hO)
        obtain ⟨lo, hlo⟩ : ∃ lo, (expT f K 0).length = lo := ⟨_, rfl⟩
        rw [hlo] at HO ⊢
        clear hO hi7 hlo
        go_wp2_with fail
        go_ret
        exact ⟨_, rfl, HO.out, hbr⟩
      | succ j =>
        have hi8 : u8 = .int .i64 (j : Int) := by rw [hi7]; simp
        subst hi8
        clear hi7
        obtain ⟨q, hq⟩ : ∃ q, n - j = q := ⟨_, rfl⟩
        have hq12 : q ≤ 12 := by omega
        have HFJ : Hid (parL d q j = f j) := Lib.hid (by rw [← hq]; exact HFK.out j)
        have hqw : (n : Int) - (j : Int) = (q : Int) := by omega
        obtain ⟨O, hOO⟩ : ∃ O, expT f K (j + 1) = O := ⟨_, rfl⟩
        have HST : Hid (expT f K j = O ++ (f j).map fun r => (j : Int) :: r) := Lib.hid (by rw [expT_step f (show j ≤ K by omega), hOO])
        have HOL : Hid (∀ i, (O ++ ((f j).take i).map fun r => (j : Int) :: r).length ≤ 13 * M) := Lib.hid (fun i => by
          have h1 := HLT.out j
          rw [HST.out, List.length_append, List.length_map] at h1
          rw [List.length_append, List.length_map, List.length_take]
          omega)
        rw [hOO] at hO ⊢
        clear hOO
        obtain ⟨wo, hwo⟩ : ∃ wo : World, wo = wr := ⟨_, rfl⟩
        subst hwo
        clear hq
        go_wp2_with fail
        ((with_reducible refine (HIH.out q j wo hq12 (by omega)).mono ?_); rintro e w3 ⟨rv, rfl, hOR, hb3⟩)
        rw [HFJ.out] at hOR
        have hbw3 := hbr.trans (hb3.mono hbr.size)
        have hO3 := hO.below hb3
        have hlo : ∀ gg, (Value.slice oa O.length oc).ownBlock = some gg → gg < wo.heap.size ∨ w3.heap.size ≤ gg := fun gg hgg => by
          obtain ⟨us, _, h2, _⟩ := hO
          exact .inl (World.ownsRow.lt h2 gg hgg).2
        obtain ⟨ra, rc, rfl⟩ := hOR.shape
        obtain ⟨Rf, hRf⟩ : ∃ Rf, f j = Rf := ⟨_, rfl⟩
        rw [hRf] at hOR HST HOL HFJ ⊢
        have hRM : Rf.length ≤ 1000000000 := by
          have h1 := HLE.out j
          rw [HFK.out j, hRf] at h1
          omega
        have HR7 : Hid (∀ x ∈ Rf, x.length ≤ 7) := Lib.hid (fun x hx => by
          rw [← HFJ.out] at hx
          have := parL_row d q j x hx
          omega)
        have HRC := Lib.hid (fun (h : 0 < Rf.length) => hOR.cells h)
        have hos := hbr.size
        have h3s := hb3.size
        clear hRf hO hbr hb3 hOR HFJ hqw
        go_wp2_with fail
        go_loopw [10, 7] (fun s9 s5 wr => ∃ (i : Nat) (sv : Value), i ≤ Rf.length ∧ s9 = .int .i64 i ∧ s5 = sv ∧ OwnR wr w.heap.size sv (O ++ (Rf.take i).map fun r => (j : Int) :: r) ∧ (∀ gg, sv.ownBlock = some gg → gg < wo.heap.size ∨ w3.heap.size ≤ gg) ∧ KeepJ wo.heap.size w3.heap.size w3 wr ∧ Below w.heap.size w wr) (fun s9 _ _ => Rf.length - (intOf s9).toNat)
        case atStart => exact ⟨0, _, by omega, rfl, rfl, by simpa using hO3, hlo, KeepJ.refl _ _ _, hbw3⟩
        case round =>
          clear hO3 hlo hbw3
          obtain ⟨i, sv, hi, rfl, hsv, hO, hlo, hK, hbr⟩ := hrel
          subst u7
          obtain ⟨oa, oc, rfl⟩ := hO.shape
          have hks := hK.size
          by_cases hlt : i < Rf.length
          · have hlt' : (i : Int) < (Rf.length : Int) := by omega
            obtain ⟨gR, gcap, hgv, hg1, hg2, hcells⟩ := HRC.out (by omega)
            obtain ⟨x, hx, hxo⟩ := hcells i hlt
            simp at hgv
            obtain ⟨rfl, rfl⟩ := hgv
            have hxc : wr.cell? ⟨gR, i, none⟩ = some x := (World.cell?_of_block (a := ⟨gR, i, none⟩) (hK.block gR hg1 hg2)).trans hx
            have hxl : OwnL wr wo.heap.size x Rf[i] := OwnL.of_heapP hxo (fun gg hgg => by
              obtain ⟨p1, p2⟩ := ownL_blockP hxo gg hgg
              exact hK.block gg p1 p2)
            obtain ⟨xa, xc, rfl⟩ := hxl.shape
            have hxs := hxl.slice
            have HX8 : Hid (Rf[i].length ≤ 7) := Lib.hid (HR7.out _ (List.getElem_mem hlt))
            have HTK : Hid ((O ++ (Rf.take i).map fun r => (j : Int) :: r) ++ [(j : Int) :: Rf[i]] = O ++ (Rf.take (i + 1)).map fun r => (j : Int) :: r) := Lib.hid (by
              rw [List.take_succ_eq_append_getElem hlt, List.map_append, List.append_assoc]; rfl)
            have hol := HOL.out i
            obtain ⟨X, hX⟩ : ∃ X, Rf[i] = X := ⟨_, rfl⟩
            obtain ⟨P, hP⟩ : ∃ P, (O ++ (Rf.take i).map fun r => (j : Int) :: r) = P := ⟨_, rfl⟩
            rw [hX] at hxs HX8 HTK
            rw [hP] at hO HTK hol hlo
            rw [hP]
            have hx8 := HX8.out
            have hnew := ownL_oneP wr (j : Int)
            have hXs1 := hxs.below (box1 wr (.cells #[.int .i64 (j : Int)] 2))
            have hXC : ∀ o, (wr.alloc o).cell? ⟨gR, i, none⟩ = some (.slice xa X.length xc) := fun o => by
              rw [← hX]
              exact ((box1 wr o).cell (p := ⟨gR, i, none⟩) (by show gR < wr.heap.size; omega)).trans hxc
            clear hX hP hxo hxl hx hxc hcells
            go_wp2_with (at_builtin; refine wpList_append_ints _ rfl _ _ rfl wr.heap.size (.slice (some ⟨wr.heap.size, 0, none⟩) 1 1) [(j : Int)] rfl hnew (.slice xa X.length xc) X rfl hXs1 (by simp <;> omega) (by simp) ?_)
            intro v3 w4 hO4 hg4
            have hb4 : Below wr.heap.size wr w4 := (box1 wr _).grown hg4 (by simp) (fun q hq => by simp [Value.ownBlock] at hq; omega)
            have h4s := hb4.size
            have hOw := hO.below hb4
            have hK4 := hK.below hb4 (by omega)
            have hbr4 := hbr.trans (hb4.mono hbr.size)
            obtain ⟨us0, x1, x2, x3⟩ := hOw
            obtain ⟨Y, hY⟩ : ∃ Y, (j : Int) :: X = Y := ⟨_, rfl⟩
            have HY : Hid ((j : Int) :: X = Y) := Lib.hid hY
            have hO4 : OwnL w4 wr.heap.size v3 ((j : Int) :: X) := hO4
            rw [hY] at hO4
            rw [HY.out] at HTK
            obtain ⟨va, vc, rfl⟩ := hO4.shape
            have hb4s := hbr4.size
            clear hnew hXs1 hXC hg4 hxs hO hY
            go_wp2_with (at_builtin; refine wpList_append_lies _ rfl _ _ 24 rfl w.heap.size 52 i1 _ 1 24 Try.underlying24 hi' hz0' hz1' hz2' rfl (by decide) (.slice oa P.length oc) P.length us0 rfl (World.ownsRow.alloc x2 _) ⟨w4.heap.size, 0, none⟩ 1 1 [.slice va Y.length vc] rfl rfl (World.news_of_block (cs := #[.slice va Y.length vc]) (t := 52) (fr := (0, 0)) (heap_alloc_new w4 _)) (by simp [Value.oneCell']) (by omega) (by unfold maxLen; omega) (by omega) (by simp; omega) _ rfl ?_)
            intro g6 cap6 w6 hown6 hgrow6 hat6 hlt6
            have hB6 : Below w.heap.size w w6 := (hbr4.alloc hbr4.size _).grown hgrow6 (by simp; omega) (fun q hq => (World.ownsRow.lt x2 q hq).1)
            have hN6 : OwnR w6 w.heap.size (.slice (some ⟨g6, 0, none⟩) (P.length + 1) cap6) (P ++ [Y]) := OwnR.push x1 (World.ownsRow.alloc x2 _) (fun k hk hk' => (x3 k hk hk').below (box1 w4 _)) ((hO4.mono hbr.size).below (box1 w4 _)) hown6 hgrow6
            have hK6 : KeepJ wo.heap.size w3.heap.size w3 w6 := (hK4.below (box1 w4 (.cells #[.slice va Y.length vc] 52)) (by omega)).grown hgrow6 (by simp; omega) (fun gg hgg => hlo gg hgg)
            have hlo6 : ∀ gg, (Value.slice (some ⟨g6, 0, none⟩) (P.length + 1) cap6).ownBlock = some gg → gg < wo.heap.size ∨ w3.heap.size ≤ gg := fun gg hgg => by
              simp [Value.ownBlock] at hgg
              subst hgg
              rcases hat6 with h | h
              · exact hlo _ h
              · right
                have h9 : g6 = w4.heap.size + 1 := by simpa using h
                omega
            clear x1 x2 x3 hown6 hgrow6 hat6 hO4 hlo hK hK4
            go_wp2_with fail
            go_roundw
            case rel => exact ⟨i + 1, _, by omega, by go_num, rfl, by rw [← HTK.out]; exact hN6, hlo6, hK6, hB6⟩
            case measure => simp [intOf]; omega
          · obtain rfl : i = Rf.length := by omega
            rw [List.take_length] at hO ⊢
            have HO : Hid (OwnR wr w.heap.size (.slice oa (expT f K j).length oc) (expT f K j)) := Lib.hid (by rw [HST.out]; exact hO)
            have HLN : Hid ((O ++ Rf.map fun r => (j : Int) :: r).length = (expT f K j).length) := Lib.hid (by rw [HST.out])
            rw [HLN.out]
            clear hO hK hlo
            go_wp2_with fail
            go_roundw
            case rel => exact ⟨j, _, by omega, by first | rfl | (congr 1), rfl, HO.out, hbr⟩
            case measure => first | (simp [intOf]; done) | (simp [intOf]; omega)

set_option maxRecDepth 8000 in
set_option maxHeartbeats 4000000 in
theorem spar : ∀ (d : Nat) (n m : Nat) (w : World), d ≤ 3 → n ≤ 12 → m ≤ 12 →
    Calls Try.prog 95 #[.int .i64 (n : Int), .int .i64 (d : Int), .int .i64 (m : Int)] w fun e w' => ∃ v', e = .returned v' ∧ OwnR w' w.heap.size v' (parL d n m) ∧ Below w.heap.size w w'
  | 0, n, m, w, _, hn, hm => by
    by_cases h0 : n = 0
    · subst h0
      have HO := Lib.hid (ownR_oneP w)
      go_enter Try.func95, Try.ntmps95
      go_wp2_with fail
      go_ret
      exact ⟨_, rfl, HO.out, box2 _ _ _⟩
    · have h0' : ((n : Int) == 0) = false := by simp; omega
      have HO : Hid (OwnR (w.alloc (.cells #[] 52)) w.heap.size (.slice (some ⟨w.heap.size, 0, none⟩) 0 0) (parL 0 n m)) := Lib.hid (by
        have e : parL 0 n m = [] := by simp [parL, h0]
        rw [e]
        exact OwnR.nil (Nat.le_refl _) rfl)
      clear h0
      go_enter Try.func95, Try.ntmps95
      go_wp2_with fail
      go_ret
      exact ⟨_, rfl, HO.out, box1 _ _⟩
  | d + 1, n, m, w, hd, hn, hm => by
    have h := spar_core d n m w (by omega) hn hm (Lib.hid fun n' m' w' h1 h2 => spar d n' m' w' (by omega) h1 h2)
    rw [show ((d + 1 : Nat) : Int) = (d : Int) + 1 by simp]
    exact h
end Go.Proofs.Ytbahejlgfpilnaa
namespace Go.Proofs.Ytbahejlgfpilnaa
open Go.RowKit Go.Sort EchM

theorem desB_iff : ∀ (l : List Int), desB l = true ↔ ∀ (q : Nat) (h : q + 1 < l.length), l[q + 1] ≤ l[q]
  | [] => by simp [desB]
  | [a] => by simp [desB]
  | a :: b :: r => by
    rw [desB, Bool.and_eq_true, decide_eq_true_eq, desB_iff (b :: r)]
    constructor
    · rintro ⟨h1, h2⟩ q hq
      cases q with
      | zero => exact h1
      | succ q => exact h2 q (by simp at hq ⊢; omega)
    · intro h
      exact ⟨h 0 (by simp), fun q hq => h (q + 1) (by simp at hq ⊢; omega)⟩
theorem ides (a b : Int) (w : World) : Calls Try.prog 166 #[.int .i64 a, .int .i64 b] w fun e w' => e = .returned (.int .i64 (cmpI b a)) ∧ w' = w := by
  go_enter Try.func166, Try.ntmps166
  go_wp2_with fail
  ((with_reducible refine (compare64_any b a _).mono ?_); rintro e w1 ⟨rfl, rfl⟩)
  obtain ⟨c, hc⟩ : ∃ c, cmpI b a = c := ⟨_, rfl⟩
  rw [hc]
  go_wp2
  go_ret
  exact ⟨by rw [hc]; rfl, rfl⟩
abbrev desF : Value := .func (.func 166) #[] #[]

set_option maxRecDepth 8000 in
set_option maxHeartbeats 4000000 in
theorem isorted (v : Value) (l : List Int) (w : World) (hl : l.length ≤ 1000) (hS : Sl w v l) :
    Calls Try.prog 168 #[v, desF] w fun e w' => e = .returned (.bool (desB l)) ∧ Below w.heap.size w w' := by
  obtain ⟨a, cap, rfl, hc⟩ := hS
  obtain ⟨n, hn⟩ : ∃ n, l.length = n := ⟨_, rfl⟩
  have HN := Lib.hid hn
  rw [hn] at hl ⊢
  have hw1 : IntKind.i64.wrap ((n : Int) - 1) = (n : Int) - 1 := IntWalk.i64_in _ (by omega)
  clear hn
  go_enter Try.func168, Try.ntmps168
  go_wp2_with fail
  go_loopw [5] (fun i wr => ∃ k : Nat, k ≤ n ∧ i = .int .i64 ((n : Int) - 1 - (k : Int)) ∧ Hid (∀ (q : Nat) (h : q + 1 < l.length), n - 1 - k ≤ q → l[q + 1] ≤ l[q]) ∧ Below w.heap.size w wr) (fun i _ => (intOf i + 1).toNat)
  case atStart => exact ⟨0, by omega, by simp, Lib.hid (fun q h1 h2 => by have := HN.out; omega), Below.refl _ _⟩
  case round =>
    obtain ⟨k, hk, rfl, HI, hb⟩ := hrel
    by_cases hlt : k + 1 < n
    · obtain ⟨j, hj⟩ : ∃ j, n = k + 1 + (j + 1) := ⟨n - k - 2, by omega⟩
      have hij : (n : Int) - 1 - (k : Int) = (j : Int) + 1 := by omega
      rw [hij]
      have hjl : j + 1 < l.length := by rw [HN.out]; omega
      obtain ⟨b, off, rfl, hbb, hT⟩ : ∃ b off, a = some ⟨b, off, none⟩ ∧ b < w.heap.size ∧ Cs w b off l := by
        rcases hc with h | h
        · rw [h] at hjl; simp at hjl
        · exact h
      have hTr := hT.below hb hbb
      have c1 := hTr (j + 1) hjl
      have c0 := hTr j (by omega)
      obtain ⟨x, hx⟩ : ∃ x, l[j + 1] = x := ⟨_, rfl⟩
      obtain ⟨y, hy⟩ : ∃ y, l[j] = y := ⟨_, rfl⟩
      rw [hx] at c1
      rw [hy] at c0
      have k1 := cell_regrown c1
      have k0 := cell_regrown c0
      have hj1 : (0 : Int) < (j : Int) + 1 := by omega
      have hj2 : (j : Int) + 1 < (n : Int) := by omega
      have hj3 : (j : Int) < (n : Int) := by omega
      have hwj : IntKind.i64.wrap ((j : Int) + 1 - 1) = (j : Int) := by rw [show (j : Int) + 1 - 1 = (j : Int) by omega]; exact IntWalk.i64_in _ (by omega)
      obtain ⟨c, hc0⟩ : ∃ c, cmpI y x = c := ⟨_, rfl⟩
      have hcc : c < 0 ↔ y < x := by rw [← hc0]; unfold cmpI; split <;> (try split) <;> omega
      have kC : ∀ dd os, Calls Try.prog 166 #[.int .i64 x, .int .i64 y] (grow (redrawn wr dd) os) fun e w'' => e = .returned (.int .i64 c) ∧ ∃ p : Regrown, w'' = grow (redrawn wr p.d) p.os := fun dd os =>
        Calls.regrown_of ((ides x y _).mono fun e w' ⟨h1, h2⟩ => ⟨by rw [h1, hc0], by rw [h2]; exact Below.refl _ _⟩)
      have HXY := Lib.hid (And.intro hx hy)
      clear hc0 hx hy hTr c0 c1 hT hc hij
      by_cases hd : y < x
      · have hcd : decide (c < 0) = true := decide_eq_true (hcc.2 hd)
        clear hj
        have HO : Hid (desB l = false) := Lib.hid (by
          rw [Bool.eq_false_iff]
          intro h
          have h2 := (desB_iff l).1 h j hjl
          rw [HXY.out.1, HXY.out.2] at h2
          omega)
        go_wp2_with fail
        refine wp_region_quiet_below (by kernel_rfl) (by kernel_rfl) ?_
        repeat (go_big_quiet_step (first | with_reducible exact kC _ _))
        refine wpQuiet_nil ?_
        intro _ hw'
        obtain ⟨⟨dq, osq⟩, hw''⟩ := hw'
        subst hw''
        have hend := hb.trans ((below_regrown wr dq osq).mono hb.size)
        generalize grow (redrawn wr dq) osq = w3 at *
        clear k0 k1 kC
        go_wp2_with fail
        go_ret
        exact ⟨by rw [HO.out]; rfl, hend⟩
      · have hcd : decide (c < 0) = false := decide_eq_false (fun h => hd (hcc.1 h))
        have HI2 : Hid (∀ (q : Nat) (h : q + 1 < l.length), n - 1 - (k + 1) ≤ q → l[q + 1] ≤ l[q]) := Lib.hid (fun q h1 h2 => by
          by_cases e : q = j
          · subst e; rw [HXY.out.1, HXY.out.2]; omega
          · exact HI.out q h1 (by omega))
        have hkn : Hid ((j : Int) = (n : Int) - 1 - ((k + 1 : Nat) : Int)) := Lib.hid (by omega)
        have hk1 : k + 1 ≤ n := by omega
        clear hj
        go_wp2_with fail
        refine wp_region_quiet_below (by kernel_rfl) (by kernel_rfl) ?_
        repeat (go_big_quiet_step (first | with_reducible exact kC _ _))
        refine wpQuiet_nil ?_
        intro _ hw'
        obtain ⟨⟨dq, osq⟩, hw''⟩ := hw'
        subst hw''
        have hend := hb.trans ((below_regrown wr dq osq).mono hb.size)
        generalize grow (redrawn wr dq) osq = w3 at *
        clear k0 k1 kC
        go_wp2_with fail
        go_roundw
        case rel => exact ⟨k + 1, hk1, by rw [← hkn.out], HI2, hend⟩
        case measure => simp [intOf]; omega
    · have hnl : ¬ ((0 : Int) < (n : Int) - 1 - (k : Int)) := by omega
      have HO : Hid (desB l = true) := Lib.hid ((desB_iff l).2 fun q hq => HI.out q hq (by omega))
      go_wp2_with fail
      go_ret
      exact ⟨by rw [HO.out]; rfl, hb⟩

set_option maxRecDepth 8000 in
set_option maxHeartbeats 4000000 in
theorem ipart (v : Value) (l : List Int) (w : World) (hl : l.length ≤ 1000) (h0 : ∀ x ∈ l, 0 ≤ x) (hS : Sl w v l) :
    Calls Try.prog 98 #[v] w fun e w' => e = .returned (.bool (desB l)) ∧ Below w.heap.size w w' := by
  obtain ⟨a, cap, rfl, _⟩ := id hS
  have hng : l.all ngB = true := List.all_eq_true.2 fun x hx => by simpa [ngB] using h0 x hx
  have HE := Lib.hid (show Calls Try.prog 101 #[.int .i64 l.length, .slice a l.length cap] w fun e w' => e = .returned (.bool true) ∧ w' = w from (iexps l.length _ l w (by omega) hS).mono fun _ _ ⟨h1, h2⟩ => ⟨by rw [h1, hng]; simp, h2⟩)
  have HS := Lib.hid (isorted _ l w hl hS)
  obtain ⟨B, hB⟩ : ∃ B, desB l = B := ⟨_, rfl⟩
  rw [hB] at HS ⊢
  clear hS hng h0 hB
  go_enter Try.func98, Try.ntmps98
  go_wp2_with fail
  ((with_reducible refine HE.out.mono ?_); rintro e w1 ⟨rfl, rfl⟩)
  go_wp2_with fail
  ((with_reducible refine HS.out.mono ?_); rintro e w2 ⟨rfl, hb2⟩)
  go_wp2_with fail
  go_ret
  exact ⟨rfl, hb2⟩

/-- The outcome. -/
def parB (n d : Int) : Bool := (decide (0 ≤ n) && decide (n ≤ 12)) && (decide (1 ≤ d) && decide (d ≤ 3))
def parS (n d : Int) : List (List Int) := if parB n d then parL d.toNat n.toNat n.toNat else []
def parC (n d : Int) : Int := if parB n d then 0 else 2
theorem par_no {n d : Int} (h : parB n d = false) : parS n d = [] ∧ parC n d = 2 := by unfold parS parC; simp [h]
theorem par_yes {n d : Nat} (h : parB n d = true) : parS n d = parL d n n ∧ parC n d = 0 := by unfold parS parC; simp [h]
theorem par_size (n d : Int) : (parS n d).length ≤ 10000 ∧ ∀ r ∈ parS n d, r.length ≤ 3 := by
  cases h : parB n d
  · rw [(par_no h).1]; simp
  · simp only [parB, Bool.and_eq_true, decide_eq_true_eq] at h
    obtain ⟨a, rfl⟩ := Int.eq_ofNat_of_zero_le h.1.1
    obtain ⟨b, rfl⟩ := Int.eq_ofNat_of_zero_le (show 0 ≤ d by omega)
    rw [(par_yes (by simp [parB]; omega)).1]
    have h1 := parL_len b a a (by omega)
    have h2 : 13 ^ b ≤ 13 ^ 3 := Nat.pow_le_pow_right (by omega) (by omega)
    refine ⟨by omega, fun r hr => ?_⟩
    have := parL_row b a a r hr
    omega

set_option maxRecDepth 8000 in
set_option maxHeartbeats 4000000 in
theorem spo (n d : Int) (w : World) :
    Calls Try.prog 33 #[.int .i64 n, .int .i64 d] w fun e w' => ∃ v', e = .returned (.tuple #[v', .int .i64 (parC n d)]) ∧ SlR w' v' (parS n d) ∧ Below w.heap.size w w' := by
  cases hn : (decide (0 ≤ n) && decide (n ≤ 12))
  · have HX := Lib.hid (par_no (n := n) (d := d) (by unfold parB; rw [hn]; rfl))
    have H0 := Lib.hid (fun w' => rin_is n 0 12 w' false hn)
    clear hn
    go_enter Try.func33, Try.ntmps33
    go_wp2_with fail
    ((with_reducible refine (H0.out _).mono ?_); rintro e w1 ⟨rfl, rfl⟩)
    go_wp2_with fail
    go_ret2
    rw [HX.out.1, HX.out.2]
    exact ⟨_, rfl, ⟨_, _, rfl, .inl rfl⟩, Below.refl _ _⟩
  have H0 := Lib.hid (fun w' => rin_is n 0 12 w' true hn)
  cases hd : (decide (1 ≤ d) && decide (d ≤ 3))
  · have HX := Lib.hid (par_no (n := n) (d := d) (by unfold parB; rw [hd]; simp))
    have H1 := Lib.hid (fun w' => rin_is d 1 3 w' false hd)
    clear hn hd
    go_enter Try.func33, Try.ntmps33
    go_wp2_with fail
    ((with_reducible refine (H0.out _).mono ?_); rintro e w1 ⟨rfl, rfl⟩)
    go_wp2_with fail
    ((with_reducible refine (H1.out _).mono ?_); rintro e w1 ⟨rfl, rfl⟩)
    go_wp2_with fail
    go_ret2
    rw [HX.out.1, HX.out.2]
    exact ⟨_, rfl, ⟨_, _, rfl, .inl rfl⟩, Below.refl _ _⟩
  have H1 := Lib.hid (fun w' => rin_is d 1 3 w' true hd)
  have hB : parB n d = true := by unfold parB; rw [hn, hd]; rfl
  simp only [Bool.and_eq_true, decide_eq_true_eq] at hn hd
  obtain ⟨a, rfl⟩ := Int.eq_ofNat_of_zero_le (show 0 ≤ n by omega)
  obtain ⟨b, rfl⟩ := Int.eq_ofNat_of_zero_le (show 0 ≤ d by omega)
  have HX := Lib.hid (par_yes hB)
  have HS := Lib.hid (fun w => spar b a a w (by omega) (by omega) (by omega))
  clear hB hn hd
  go_enter Try.func33, Try.ntmps33
  go_wp2_with fail
  ((with_reducible refine (H0.out _).mono ?_); rintro e w1 ⟨rfl, rfl⟩)
  go_wp2_with fail
  ((with_reducible refine (H1.out _).mono ?_); rintro e w1 ⟨rfl, rfl⟩)
  go_wp2_with fail
  ((with_reducible refine (HS.out _).mono ?_); rintro e w2 ⟨v2, rfl, ho2, hb2⟩)
  have hsl := ho2.slice
  obtain ⟨a4, c4, rfl, _⟩ := id hsl
  go_wp2_with fail
  go_ret2
  rw [HX.out.1, HX.out.2]
  exact ⟨_, rfl, hsl, hb2⟩
end Go.Proofs.Ytbahejlgfpilnaa
namespace Go.Proofs.Ytbahejlgfpilnaa
open Go.RowKit Go.Sort EchM

theorem elead_neg (v : Value) (l : List Int) (w : World) (hl : l.length ≤ 1048576) (hS : Sl w v l) (h1 : ¬ leadN l < l.length) :
    Calls Try.prog 138 #[v] w fun e w' => e = .returned (.int .i64 (-1)) ∧ w' = w :=
  (elead v l w hl hS).mono fun _ _ ⟨he, hw⟩ => ⟨by rw [he, leadI, if_neg h1], hw⟩
theorem stepL_zero {p : Int} {L : List (List Int)} {r O : List Int} (h : O = restL p L r) (hn : ¬ leadN O < O.length) : stepL p L r = L := by
  subst h; rw [stepL, if_neg hn]
theorem stepL_new {p : Int} {L : List (List Int)} {r O : List Int} {n : Nat} {a c : Int} (h : O = restL p L r) (hn : leadN O = n) (hl : n < O.length) (ha : nth O n = a) (hc : invP p a = c) : stepL p L r = insL p (scaleL p c O) n false L := by
  subst h; rw [stepL, hn, if_pos hl, ha, hc]

set_option maxRecDepth 8000 in
set_option maxHeartbeats 8000000 in
theorem eech (p : Int) (v : Value) (R : List (List Int)) (m : Nat) (w : World) (hp : PrimeS p) (hm : m ≤ 100000) (hRl : R.length ≤ 100000) (hR : ∀ r ∈ R, InP p m r) (hS : SlR w v R) :
    Calls Try.prog 63 #[.int .i64 p, v] w fun e w' => ∃ v2, e = .returned v2 ∧ OwnR w' w.heap.size v2 (echL p R) ∧ Below w.heap.size w w' := by
  obtain ⟨h2, h13⟩ := hp.le
  obtain ⟨i0, hi, hz0, hz1, hz2⟩ := info_parts einfoR
  have hz : ∀ t, t = 52 → OwnR (w.alloc (.cells #[] t)) w.heap.size (.slice (some ⟨w.heap.size, 0, none⟩) 0 0) [] := fun t ht => OwnR.nil (Nat.le_refl _) ht
  obtain ⟨a, cap, rfl, h⟩ := hS
  go_enter Try.func63, Try.ntmps63
  go_wp2
  go_loopw [5, 6] (fun s i wr => ∃ (k : Nat) (L : List (List Int)) (sa : Option Addr) (sc : Nat), k ≤ R.length ∧ s = .slice sa L.length sc ∧ i = .int .i64 k ∧ Hid (L = echL p (R.take k)) ∧ OwnR wr w.heap.size (.slice sa L.length sc) L ∧ Below w.heap.size w wr) (fun _ i _ => R.length - (intOf i).toNat)
  case atStart => exact ⟨0, [], _, _, by omega, rfl, rfl, Lib.hid (by simp [echL]), hz _ rfl, ebox1 _ _⟩
  case round =>
    obtain ⟨k, L, sa, sc, hk, rfl, rfl, HU, hown, hb⟩ := hrel
    by_cases hlt : k < R.length
    · have hlt' : (k : Int) < (R.length : Int) := by omega
      obtain ⟨b, off, rfl, hbb, hT⟩ : ∃ b off, a = some ⟨b, off, none⟩ ∧ b < w.heap.size ∧ RowsW w b off R := by
        rcases h with rfl | h
        · simp at hlt
        · exact h
      obtain ⟨vq, c0', hq'⟩ := hT k hlt
      have c0 := (hb.cell (p := ⟨b, _, none⟩) hbb).trans c0'
      have hq := hq'.below hb
      clear c0' hq' hT h
      obtain ⟨e1, _⟩ := echL_spec hp (m := m) (R.take k) fun r hr => hR r (List.mem_of_mem_take hr)
      have hLl : L.length ≤ k := by rw [HU.out]; have := ech_len p (R.take k); simp at this; omega
      rw [← HU.out] at e1
      have hL : ∀ q ∈ L, InP p m q ∧ leadN q < m := fun q hq => ⟨e1.inP q hq, e1.lt q hq⟩
      have HN := Lib.hid (ech_snoc p R k hlt)
      rw [← HU.out] at HN
      have i1 := hR R[k] (List.getElem_mem _)
      generalize hq0 : R[k] = r at hq i1 HN
      clear hq0 e1
      obtain ⟨aq, cq, rfl⟩ := hq.shape
      have hss := hb.size
      go_wp2_with fail
      ((with_reducible refine (erest p _ _ L r m _ h2 h13 (by omega) (by omega) hL i1 hown.slice hq).mono ?_); rintro e w1 ⟨v1, rfl, hown1, hb1⟩)
      have hO : InP p m (restL p L r) := restL_inP (by omega) _ _ (fun q hq => (hL q hq).1) i1
      obtain ⟨O, hOO⟩ : ∃ O, O = restL p L r := ⟨_, rfl⟩
      rw [← hOO] at hO hown1
      have HOO := Lib.hid hOO
      clear hOO hq c0
      have hOm : O.length ≤ 100000 := by rw [hO.1]; exact hm
      obtain ⟨s1, c1, rfl⟩ := hown1.shape
      by_cases hn : leadN O < O.length
      · obtain ⟨n, hnn⟩ : ∃ n, leadN O = n := ⟨_, rfl⟩
        rw [hnn] at hn
        have HNN := Lib.hid hnn
        clear hnn
        have hn' : (n : Int) < (O.length : Int) := by omega
        obtain ⟨g, cp, hv, hg1, hg2, hc⟩ := hown1.form (by omega)
        simp only [Value.slice.injEq] at hv
        obtain ⟨rfl, _, rfl⟩ := hv
        have d0 := hc n hn
        have hK := hO.nth (by omega) n
        have hKn : nth O n ≠ 0 := by rw [← HNN.out]; exact lead_at (by rw [HNN.out]; exact hn)
        obtain ⟨A, hA⟩ : ∃ A, nth O n = A := ⟨_, rfl⟩
        rw [hA] at hK hKn
        rw [nth_lt hn] at hA
        rw [hA] at d0
        obtain ⟨j1, j2, j3⟩ := invP_ok hp (x := A) (by omega) hK.2
        obtain ⟨c, hcc⟩ : ∃ c, invP p A = c := ⟨_, rfl⟩
        rw [hcc] at j2 j3
        have HCC := Lib.hid hcc
        have HS := Lib.hid (HN.out.trans (stepL_new HOO.out HNN.out hn (by rw [nth_lt hn]; exact hA) hcc))
        have hout := hown.below hb1
        clear hc hA hcc j1 HN
        have hs1 := hb1.size
        go_wp2_with fail
        ((with_reducible refine (elead_at _ O n _ (by omega) hown1.slice HNN.out hn).mono ?_); rintro e w2 ⟨rfl, rfl⟩)
        go_wp2_with fail
        ((with_reducible refine (einv p A _ h2 h13 hK).mono ?_); rintro e w3 ⟨rfl, rfl⟩)
        rw [HCC.out]
        obtain ⟨wo, rfl⟩ : ∃ wo, wo = wr := ⟨_, rfl⟩
        go_wp2_with fail
        go_loopw [10] (fun i wr => ∃ t : Nat, t ≤ O.length ∧ i = .int .i64 t ∧ wr.ownsRow wo.heap.size 2 1 (.slice (some ⟨g, 0, none⟩) O.length c1) O.length (valsI (mixL p c O t)) ∧ Below wo.heap.size wo wr) (fun i _ => O.length - (intOf i).toNat)
        case atStart => exact ⟨0, by omega, rfl, by rw [mixL_zero]; exact hown1, hb1⟩
        case round =>
          obtain ⟨t, ht, rfl, hmix, hB⟩ := hrel
          by_cases hlt2 : t < O.length
          · have hlt2' : (t : Int) < (O.length : Int) := by omega
            have l0 := World.ownsRow.cellAt hmix t (by omega)
            rw [show (valsI (mixL p c O t))[t]? = some (.int .i64 O[t]) by simp [valsI, mixL_len, hlt2, mixL_at hlt2]] at l0
            have z0 := World.ownsRow.frozenAt hmix t
            have hO2 := hO.2 O[t] (List.getElem_mem _)
            have hst := (World.ownsRow.stored hmix t (.int .i64 (O[t] * c % p))).1
            rw [show (valsI (mixL p c O t)).set t (.int .i64 (O[t] * c % p)) = valsI (mixL p c O (t + 1)) by rw [← mixL_set hlt2]; simp [valsI, List.map_set]] at hst
            obtain ⟨f0, f1⟩ := eprod_fit h13 (a := O[t]) (b := c) hO2 ⟨by omega, j3⟩
            generalize hx : O[t] = X at l0 hO2 hst f0 f1
            clear hx
            go_wp2_with fail
            go_roundw
            case rel => exact ⟨t + 1, by omega, by go_num, hst, hB.setCell (by simpa using hg1) _⟩
            case measure => simp [intOf]; omega
          · obtain rfl : t = O.length := by omega
            rw [mixL_end] at hmix
            obtain ⟨O', hO'⟩ : ∃ O', scaleL p c O = O' := ⟨_, rfl⟩
            have iO' : InP p m O' := by rw [← hO']; exact inP_scale (by omega) hO
            have hol : O'.length = O.length := by rw [iO'.1, hO.1]
            rw [hO'] at hmix
            have HS' := Lib.hid (show echL p (R.take (k + 1)) = insL p O' n false L by rw [HS.out, hO'])
            have hmix' : OwnL wr wo.heap.size (.slice (some ⟨g, 0, none⟩) O.length c1) O' := by unfold OwnL; rw [hol]; exact hmix
            have HOL := Lib.hid hol
            clear hmix hO' hol HS
            have hsB := hB.size
            have hnil := fun t ht => OwnR.nil (w := wr) (base := wo.heap.size) (t := t) hsB ht
            have hOnil := fun o => hmix'.below (ebox1 wr o)
            have hBnil := fun o => hB.alloc hsB o
            go_wp2_with fail
            generalize wr.heap.size = sz at *
            go_loopw [11, 12, 13] (fun s u i wr => ∃ (t : Nat) (put : Bool) (N : List (List Int)) (na : Option Addr) (nc : Nat), t ≤ L.length ∧ s = .slice na N.length nc ∧ u = .bool put ∧ i = .int .i64 t ∧ Hid (N ++ insL p O' n put (L.drop t) = insL p O' n false L) ∧ N.length ≤ 2 * t ∧ OwnR wr wo.heap.size (.slice na N.length nc) N ∧ OwnL wr wo.heap.size (.slice (some ⟨g, 0, none⟩) O.length c1) O' ∧ Below wo.heap.size wo wr) (fun _ _ i _ => L.length - (intOf i).toNat)
            case atStart => exact ⟨0, false, [], _, _, by omega, rfl, rfl, rfl, Lib.hid (by simp), by simp, hnil _ rfl, hOnil _, hBnil _⟩
            case round =>
              obtain ⟨t, put, N, na, nc, ht, rfl, rfl, rfl, HI, hNl, hN, hOw, hB2⟩ := hrel
              clear hnil hOnil hBnil
              by_cases hlt3 : t < L.length
              · have hlt3' : (t : Int) < (L.length : Int) := by omega
                obtain ⟨gL, cL, hvL, _, hltL, hcL⟩ := hown.cells (by omega)
                simp only [Value.slice.injEq] at hvL
                obtain ⟨rfl, _, rfl⟩ := hvL
                obtain ⟨uq, c1', hqo⟩ := hcL t hlt3
                have HIn := Lib.hid (insL_next (p := p) (own := O') (c := n) hlt3 put)
                obtain ⟨iq, hlq⟩ := hL L[t] (List.getElem_mem _)
                generalize hq0 : L[t] = q at hqo HIn iq hlq
                clear hq0 hcL
                have hql : q.length ≤ 100000 := by rw [iq.1]; exact hm
                have hqn : n < q.length := by rw [iq.1, ← hO.1]; exact hn
                obtain ⟨gq, cq, rfl, _, hltq, hcq⟩ := hqo.form (by omega)
                have c2' := hcq n hqn
                have hQ := iq.nth (by omega) n
                rw [nth_lt hqn] at hQ HIn
                generalize q[n] = Q at c2' hQ HIn
                have KK := Lib.hid (fun w' (h : Below wo.heap.size wo w') => show w'.cell? ⟨gL, t, none⟩ = some (.slice (some ⟨gq, 0, none⟩) q.length cq) ∧ w'.cell? ⟨gq, n, none⟩ = some (.int .i64 Q) from
                  ⟨(h.cell (p := ⟨_, _, none⟩) hltL).trans c1', (h.cell (p := ⟨_, _, none⟩) hltq).trans c2'⟩)
                clear hcq c1' c2'
                have d1 := (KK.out _ hB2).1
                have hqn' : (n : Int) < (q.length : Int) := by omega
                have hlq2 : leadN q < q.length := by rw [iq.1]; exact hlq
                obtain ⟨lq, hlqe⟩ : ∃ lq, leadN q = lq := ⟨_, rfl⟩
                rw [hlqe] at HIn hlq2
                have HLQ := Lib.hid hlqe
                clear hlqe hlq
                have hsq : Sl wr (.slice (some ⟨gq, 0, none⟩) q.length cq) q := (hqo.below hB2).slice
                cases put
                · by_cases hcmp : n < lq
                  · have hcmp' : (n : Int) < (lq : Int) := by omega
                    have HI4 : Hid ((N ++ [O']) ++ [lessL p Q q O'] ++ insL p O' n true (L.drop (t + 1)) = insL p O' n false L) := Lib.hid (by
                      rw [← HI.out, HIn.out]; simp [hcmp])
                    go_wp2_with fail
                    ((with_reducible refine (elead_at _ q lq _ (by omega) hsq HLQ.out hlq2).mono ?_); rintro e w3 ⟨rfl, rfl⟩)
                    obtain ⟨us0, x1, x2, x3⟩ := hN
                    have hs2 := hB2.size
                    go_wp2_with (at_builtin; refine wpList_append_lies _ rfl _ _ 24 rfl wo.heap.size 52 i0 _ 1 24 Try.underlying24 hi hz0 hz1 hz2 rfl (by decide) (.slice na N.length nc) N.length us0 rfl (World.ownsRow.alloc x2 _) ⟨w3.heap.size, 0, none⟩ 1 1 [.slice (some ⟨g, 0, none⟩) O.length c1] rfl rfl (World.news_of_block (cs := #[.slice (some ⟨g, 0, none⟩) O.length c1]) (t := 52) (fr := (0, 0)) (heap_alloc_new w3 _)) (by simp [Value.oneCell']) (by omega) (by unfold maxLen; omega) (by omega) (by simp; omega) _ rfl ?_)
                    intro g4 cap4 w4 hown4 hgrow4 hat4 hlt4
                    have hB4 : Below wo.heap.size wo w4 := (hB2.alloc hs2 _).grown hgrow4 (by simp; omega) (fun q hq => (World.ownsRow.lt x2 q hq).1)
                    have hO4 : OwnL w4 wo.heap.size (.slice (some ⟨g, 0, none⟩) O.length c1) O' := OwnL.kept (hOw.below (ebox1 w3 _)) (World.ownsRow.alloc x2 _) hgrow4
                    have hN4 : OwnR w4 wo.heap.size (.slice (some ⟨g4, 0, none⟩) (N.length + 1) cap4) (N ++ [O']) := OwnR.push x1 (World.ownsRow.alloc x2 _) (fun k hk hk' => (x3 k hk hk').below (ebox1 w3 _)) (hOw.below (ebox1 w3 _)) hown4 hgrow4
                    clear x1 x2 x3 hown4 hgrow4 hat4 hOw hsq d1
                    obtain ⟨N1, hN1⟩ : ∃ N1, N1 = N ++ [O'] := ⟨_, rfl⟩
                    have hN1l : N.length + 1 = N1.length := by rw [hN1]; simp
                    rw [← hN1] at HI4 hN4
                    rw [hN1l] at hN4
                    simp only [hN1l]
                    have hN1a : N1.length ≤ 2 * t + 1 := by omega
                    clear hN1 hN1l
                    go_wp2_with fail
                    have hNr := hN4.below (Below.refl _ _).drew
                    have hSq : Sl w4.drew (.slice (some ⟨gq, 0, none⟩) q.length cq) q := (hqo.below (hB4.mono (Nat.le_refl _))).slice.below (Below.refl _ _).drew
                    have hSo : Sl w4.drew (.slice (some ⟨g, 0, none⟩) O.length c1) O' := hO4.slice.below (Below.refl _ _).drew
                    have hs4 := hB4.size
                    obtain ⟨us, u1, u2, u3⟩ := hN4
                    have hmx : N1.length + 1 ≤ maxLen := by unfold maxLen; omega
                    have hmb : (N1.length + 1) * 24 ≤ 140737488355328 := by omega
                    go_region_held3 (fun w' => w'.cell? ⟨gL, t, none⟩ = some (.slice (some ⟨gq, 0, none⟩) q.length cq) ∧ w'.cell? ⟨gq, n, none⟩ = some (.int .i64 Q))
                      (first | with_reducible exact KK.out _ hB4.drew | with_reducible exact KK.out _ HB5 | with_reducible exact KK.out _ (HB5a _) | with_reducible exact KK.out _ HB6)
                      (first
                        | ((with_reducible refine (eless p Q _ _ q O' m _ h2 h13 (by omega) iq iO' hQ hSq hSo).mono ?_); rintro e w5 ⟨v5, rfl, hown5, hb5⟩
                           obtain ⟨s5, c5, rfl⟩ := hown5.shape
                           have HB5 : Below wo.heap.size wo w5 := hB4.drew.trans (hb5.mono hs4)
                           have HB5a := fun o => HB5.alloc (by have := HB5.size; omega) o)
                        | ((refine step_append_lies _ (by rfl) _ _ _ (by rfl) wo.heap.size 52 i0 _ 1 24 Try.underlying24 hi hz0 hz1 hz2 rfl (by omega) (.slice (some ⟨g4, 0, none⟩) N1.length (cap4)) N1.length us (by rfl) (World.ownsRow.alloc (eowns_below u2 ((Below.refl _ _).drew.trans hb5)) _) ⟨w5.heap.size, 0, none⟩ 1 1 [.slice s5 (lessL p Q q O').length c5] (by rfl) (by rfl) (World.news_of_block (cs := #[.slice s5 (lessL p Q q O').length c5]) (t := 52) (fr := (0, 0)) (heap_alloc_new w5 _)) (by simp [Value.oneCell']) (by omega) hmx hmb (by have := HB5.size; simp; omega) (w5.heap.size + 1) (by simp) ?_
                            intro gg cap6 w6 hown6 hgrow6 hat6 hlt6
                            have hb6 : Below wo.heap.size w5 w6 := ((ebox1 w5 _).mono HB5.size).grown hgrow6 (by have := HB5.size; simp; omega) (fun q hq => (World.ownsRow.lt u2 q hq).1)
                            have HB6 : Below wo.heap.size wo w6 := HB5.trans hb6
                            have hb5' : Below w4.heap.size w4 w5 := (Below.refl _ _).drew.trans hb5
                            have hO6 : OwnL w6 wo.heap.size (.slice (some ⟨g, 0, none⟩) O.length c1) O' := OwnL.kept ((hO4.below hb5').below (ebox1 w5 _)) (World.ownsRow.alloc (eowns_below u2 hb5') _) hgrow6
                            have hN6 : OwnR w6 wo.heap.size (.slice (some ⟨gg, 0, none⟩) (N1.length + 1) cap6) (N1 ++ [lessL p Q q O']) := OwnR.push u1 (World.ownsRow.alloc (eowns_below u2 hb5') _) (fun k hk hk' => ((u3 k hk hk').below hb5').below (ebox1 w5 _)) ((OwnL.mono hown5 hs4).below (ebox1 w5 _)) hown6 hgrow6
                            clear hat6)))
                    all_goals
                      go_wp2_with fail
                      go_roundw
                      case rel => exact ⟨t + 1, true, N1 ++ [lessL p Q q O'], some ⟨gg, 0, none⟩, cap6, by omega, by simp, rfl, by go_num, HI4, by simp; omega, by simpa using hN6, hO6, HB6⟩
                      case measure => simp [intOf]; omega
                  · have HI4 : Hid (N ++ [lessL p Q q O'] ++ insL p O' n false (L.drop (t + 1)) = insL p O' n false L) := Lib.hid (by
                      rw [← HI.out, HIn.out]; simp [hcmp])
                    have hcmp' : ¬ (n : Int) < (lq : Int) := by omega
                    go_wp2_with fail
                    ((with_reducible refine (elead_at _ q lq _ (by omega) hsq HLQ.out hlq2).mono ?_); rintro e w3 ⟨rfl, rfl⟩)
                    have hN4 := hN
                    have hB4 := hB2
                    have hO4 := hOw
                    clear hN hB2 hOw hsq d1
                    go_wp2_with fail
                    have hNr := hN4.below (Below.refl _ _).drew
                    have hSq : Sl w3.drew (.slice (some ⟨gq, 0, none⟩) q.length cq) q := (hqo.below (hB4.mono (Nat.le_refl _))).slice.below (Below.refl _ _).drew
                    have hSo : Sl w3.drew (.slice (some ⟨g, 0, none⟩) O.length c1) O' := hO4.slice.below (Below.refl _ _).drew
                    have hs4 := hB4.size
                    obtain ⟨us, u1, u2, u3⟩ := hN4
                    have hmx : N.length + 1 ≤ maxLen := by unfold maxLen; omega
                    have hmb : (N.length + 1) * 24 ≤ 140737488355328 := by omega
                    go_region_held3 (fun w' => w'.cell? ⟨gL, t, none⟩ = some (.slice (some ⟨gq, 0, none⟩) q.length cq) ∧ w'.cell? ⟨gq, n, none⟩ = some (.int .i64 Q))
                      (first | with_reducible exact KK.out _ hB4.drew | with_reducible exact KK.out _ HB5 | with_reducible exact KK.out _ (HB5a _) | with_reducible exact KK.out _ HB6)
                      (first
                        | ((with_reducible refine (eless p Q _ _ q O' m _ h2 h13 (by omega) iq iO' hQ hSq hSo).mono ?_); rintro e w5 ⟨v5, rfl, hown5, hb5⟩
                           obtain ⟨s5, c5, rfl⟩ := hown5.shape
                           have HB5 : Below wo.heap.size wo w5 := hB4.drew.trans (hb5.mono hs4)
                           have HB5a := fun o => HB5.alloc (by have := HB5.size; omega) o)
                        | ((refine step_append_lies _ (by rfl) _ _ _ (by rfl) wo.heap.size 52 i0 _ 1 24 Try.underlying24 hi hz0 hz1 hz2 rfl (by omega) (.slice na N.length nc) N.length us (by rfl) (World.ownsRow.alloc (eowns_below u2 ((Below.refl _ _).drew.trans hb5)) _) ⟨w5.heap.size, 0, none⟩ 1 1 [.slice s5 (lessL p Q q O').length c5] (by rfl) (by rfl) (World.news_of_block (cs := #[.slice s5 (lessL p Q q O').length c5]) (t := 52) (fr := (0, 0)) (heap_alloc_new w5 _)) (by simp [Value.oneCell']) (by omega) hmx hmb (by have := HB5.size; simp; omega) (w5.heap.size + 1) (by simp) ?_
                            intro gg cap6 w6 hown6 hgrow6 hat6 hlt6
                            have hb6 : Below wo.heap.size w5 w6 := ((ebox1 w5 _).mono HB5.size).grown hgrow6 (by have := HB5.size; simp; omega) (fun q hq => (World.ownsRow.lt u2 q hq).1)
                            have HB6 : Below wo.heap.size wo w6 := HB5.trans hb6
                            have hb5' : Below w3.heap.size w3 w5 := (Below.refl _ _).drew.trans hb5
                            have hO6 : OwnL w6 wo.heap.size (.slice (some ⟨g, 0, none⟩) O.length c1) O' := OwnL.kept ((hO4.below hb5').below (ebox1 w5 _)) (World.ownsRow.alloc (eowns_below u2 hb5') _) hgrow6
                            have hN6 : OwnR w6 wo.heap.size (.slice (some ⟨gg, 0, none⟩) (N.length + 1) cap6) (N ++ [lessL p Q q O']) := OwnR.push u1 (World.ownsRow.alloc (eowns_below u2 hb5') _) (fun k hk hk' => ((u3 k hk hk').below hb5').below (ebox1 w5 _)) ((OwnL.mono hown5 hs4).below (ebox1 w5 _)) hown6 hgrow6
                            clear hat6)))
                    all_goals
                      go_wp2_with fail
                      go_roundw
                      case rel => exact ⟨t + 1, false, N ++ [lessL p Q q O'], some ⟨gg, 0, none⟩, cap6, by omega, by simp, rfl, by go_num, HI4, by simp; omega, by simpa using hN6, hO6, HB6⟩
                      case measure => simp [intOf]; omega
                · have HI4 : Hid (N ++ [lessL p Q q O'] ++ insL p O' n true (L.drop (t + 1)) = insL p O' n false L) := Lib.hid (by
                    rw [← HI.out, HIn.out]; simp)
                  have hN4 := hN
                  have hB4 := hB2
                  have hO4 := hOw
                  clear hN hB2 hOw hsq d1
                  go_wp2_with fail
                  have hNr := hN4.below (Below.refl _ _).drew
                  have hSq : Sl wr.drew (.slice (some ⟨gq, 0, none⟩) q.length cq) q := (hqo.below (hB4.mono (Nat.le_refl _))).slice.below (Below.refl _ _).drew
                  have hSo : Sl wr.drew (.slice (some ⟨g, 0, none⟩) O.length c1) O' := hO4.slice.below (Below.refl _ _).drew
                  have hs4 := hB4.size
                  obtain ⟨us, u1, u2, u3⟩ := hN4
                  have hmx : N.length + 1 ≤ maxLen := by unfold maxLen; omega
                  have hmb : (N.length + 1) * 24 ≤ 140737488355328 := by omega
                  go_region_held3 (fun w' => w'.cell? ⟨gL, t, none⟩ = some (.slice (some ⟨gq, 0, none⟩) q.length cq) ∧ w'.cell? ⟨gq, n, none⟩ = some (.int .i64 Q))
                    (first | with_reducible exact KK.out _ hB4.drew | with_reducible exact KK.out _ HB5 | with_reducible exact KK.out _ (HB5a _) | with_reducible exact KK.out _ HB6)
                    (first
                      | ((with_reducible refine (eless p Q _ _ q O' m _ h2 h13 (by omega) iq iO' hQ hSq hSo).mono ?_); rintro e w5 ⟨v5, rfl, hown5, hb5⟩
                         obtain ⟨s5, c5, rfl⟩ := hown5.shape
                         have HB5 : Below wo.heap.size wo w5 := hB4.drew.trans (hb5.mono hs4)
                         have HB5a := fun o => HB5.alloc (by have := HB5.size; omega) o)
                      | ((refine step_append_lies _ (by rfl) _ _ _ (by rfl) wo.heap.size 52 i0 _ 1 24 Try.underlying24 hi hz0 hz1 hz2 rfl (by omega) (.slice na N.length nc) N.length us (by rfl) (World.ownsRow.alloc (eowns_below u2 ((Below.refl _ _).drew.trans hb5)) _) ⟨w5.heap.size, 0, none⟩ 1 1 [.slice s5 (lessL p Q q O').length c5] (by rfl) (by rfl) (World.news_of_block (cs := #[.slice s5 (lessL p Q q O').length c5]) (t := 52) (fr := (0, 0)) (heap_alloc_new w5 _)) (by simp [Value.oneCell']) (by omega) hmx hmb (by have := HB5.size; simp; omega) (w5.heap.size + 1) (by simp) ?_
                          intro gg cap6 w6 hown6 hgrow6 hat6 hlt6
                          have hb6 : Below wo.heap.size w5 w6 := ((ebox1 w5 _).mono HB5.size).grown hgrow6 (by have := HB5.size; simp; omega) (fun q hq => (World.ownsRow.lt u2 q hq).1)
                          have HB6 : Below wo.heap.size wo w6 := HB5.trans hb6
                          have hb5' : Below wr.heap.size wr w5 := (Below.refl _ _).drew.trans hb5
                          have hO6 : OwnL w6 wo.heap.size (.slice (some ⟨g, 0, none⟩) O.length c1) O' := OwnL.kept ((hO4.below hb5').below (ebox1 w5 _)) (World.ownsRow.alloc (eowns_below u2 hb5') _) hgrow6
                          have hN6 : OwnR w6 wo.heap.size (.slice (some ⟨gg, 0, none⟩) (N.length + 1) cap6) (N ++ [lessL p Q q O']) := OwnR.push u1 (World.ownsRow.alloc (eowns_below u2 hb5') _) (fun k hk hk' => ((u3 k hk hk').below hb5').below (ebox1 w5 _)) ((OwnL.mono hown5 hs4).below (ebox1 w5 _)) hown6 hgrow6
                          clear hat6)))
                  all_goals
                    go_wp2_with fail
                    go_roundw
                    case rel => exact ⟨t + 1, true, N ++ [lessL p Q q O'], some ⟨gg, 0, none⟩, cap6, by omega, by simp, rfl, by go_num, HI4, by simp; omega, by simpa using hN6, hO6, HB6⟩
                    case measure => simp [intOf]; omega
              · obtain rfl : t = L.length := by omega
                have hs2 := hB2.size
                cases put
                · have HX : Hid (N ++ [O'] = echL p (R.take (k + 1))) := Lib.hid (by
                    have := HI.out
                    rw [List.drop_length] at this
                    rw [HS'.out, ← this]; rfl)
                  obtain ⟨us0, x1, x2, x3⟩ := hN
                  go_wp2_with (at_builtin; refine wpList_append_lies _ rfl _ _ 24 rfl wo.heap.size 52 i0 _ 1 24 Try.underlying24 hi hz0 hz1 hz2 rfl (by decide) (.slice na N.length nc) N.length us0 rfl (World.ownsRow.alloc x2 _) ⟨wr.heap.size, 0, none⟩ 1 1 [.slice (some ⟨g, 0, none⟩) O.length c1] rfl rfl (World.news_of_block (cs := #[.slice (some ⟨g, 0, none⟩) O.length c1]) (t := 52) (fr := (0, 0)) (heap_alloc_new wr _)) (by simp [Value.oneCell']) (by omega) (by unfold maxLen; omega) (by omega) (by simp; omega) _ rfl ?_)
                  intro g4 cap4 w4 hown4 hgrow4 hat4 hlt4
                  have hB4 : Below wo.heap.size wo w4 := (hB2.alloc hs2 _).grown hgrow4 (by simp; omega) (fun q hq => (World.ownsRow.lt x2 q hq).1)
                  have hN4 : OwnR w4 wo.heap.size (.slice (some ⟨g4, 0, none⟩) (N.length + 1) cap4) (N ++ [O']) := OwnR.push x1 (World.ownsRow.alloc x2 _) (fun k hk hk' => (x3 k hk hk').below (ebox1 wr _)) (hOw.below (ebox1 wr _)) hown4 hgrow4
                  clear x1 x2 x3 hown4 hgrow4 hat4 hOw
                  go_wp2_with fail
                  go_roundw
                  case rel => exact ⟨k + 1, N ++ [O'], some ⟨g4, 0, none⟩, cap4, by omega, by simp, by go_num, HX, by simpa using hN4.mono hss, hb.trans (hB4.mono hss)⟩
                  case measure => simp [intOf]; omega
                · have HX : Hid (N = echL p (R.take (k + 1))) := Lib.hid (by
                    have := HI.out
                    rw [List.drop_length, insL, List.append_nil] at this
                    rw [HS'.out, ← this])
                  go_wp2_with fail
                  go_roundw
                  case rel => exact ⟨k + 1, N, na, nc, by omega, rfl, by go_num, HX, hN.mono hss, hb.trans (hB2.mono hss)⟩
                  case measure => simp [intOf]; omega
      · have HX : Hid (L = echL p (R.take (k + 1))) := Lib.hid (by rw [HN.out, stepL_zero HOO.out hn])
        go_wp2_with fail
        ((with_reducible refine (elead_neg _ O _ (by omega) hown1.slice hn).mono ?_); rintro e w2 ⟨rfl, rfl⟩)
        go_wp2_with fail
        go_roundw
        case rel => exact ⟨k + 1, L, _, _, by omega, rfl, by go_num, HX, hown.below hb1, hb.trans (hb1.mono hss)⟩
        case measure => simp [intOf]; omega
    · obtain rfl : k = R.length := by omega
      have HX : Hid (echL p R = L) := Lib.hid (by rw [HU.out, List.take_length])
      go_wp2
      go_ret
      exact ⟨_, rfl, by rw [HX.out]; exact hown, hb⟩
end Go.Proofs.Ytbahejlgfpilnaa
namespace Go.Proofs.Ytbahejlgfpilnaa
open Go.RowKit Go.Sort EchM

/-- A matrix as a value; its cells. -/
def mv (g : Nat → Nat → Int) : Value := .agg #[.int .u8 (g 0 0), .int .u8 (g 0 1), .int .u8 (g 0 2), .int .u8 (g 1 0), .int .u8 (g 1 1), .int .u8 (g 1 2), .int .u8 (g 2 0), .int .u8 (g 2 1), .int .u8 (g 2 2)]
def mF (g : Nat → Nat → Int) (q : Nat) : Value := .int .u8 (g (q / 3) (q % 3))
def Byt (g : Nat → Nat → Int) : Prop := ∀ i, i < 3 → ∀ j, j < 3 → 0 ≤ g i j ∧ g i j ≤ 255
theorem mbox (w : World) (g : Nat → Nat → Int) (t : TypeId) :
    (w.alloc (.cells #[.int .u8 (g 0 0), .int .u8 (g 0 1), .int .u8 (g 0 2), .int .u8 (g 1 0), .int .u8 (g 1 1), .int .u8 (g 1 2), .int .u8 (g 2 0), .int .u8 (g 2 1), .int .u8 (g 2 2)] t)).rowIs w.heap.size t 9 (mF g) :=
  World.rowIs_alloc w #[Value.int .u8 (g 0 0), .int .u8 (g 0 1), .int .u8 (g 0 2), .int .u8 (g 1 0), .int .u8 (g 1 1), .int .u8 (g 1 2), .int .u8 (g 2 0), .int .u8 (g 2 1), .int .u8 (g 2 2)] _ _ (fun i hi => by
    simp at hi
    match i, hi with | 0, _ => rfl | 1, _ => rfl | 2, _ => rfl | 3, _ => rfl | 4, _ => rfl | 5, _ => rfl | 6, _ => rfl | 7, _ => rfl | 8, _ => rfl)
theorem mcell {w : World} {B : Nat} {t : TypeId} {g : Nat → Nat → Int} (h : w.rowIs B t 9 (mF g)) {i j : Nat} (hi : i < 3) (hj : j < 3) : w.cell? ⟨B, i * 3 + j, none⟩ = some (.int .u8 (g i j)) := by
  rw [h.cell (by omega), mF, show (i * 3 + j) / 3 = i by omega, show (i * 3 + j) % 3 = j by omega]
theorem mcells {w : World} {B : Nat} {t : TypeId} {g : Nat → Nat → Int} (h : w.rowIs B t 9 (mF g)) :
    (w.cell? ⟨B, 0, none⟩ = some (.int .u8 (g 0 0)) ∧ w.cell? ⟨B, 1, none⟩ = some (.int .u8 (g 0 1)) ∧ w.cell? ⟨B, 2, none⟩ = some (.int .u8 (g 0 2))) ∧
    (w.cell? ⟨B, 3, none⟩ = some (.int .u8 (g 1 0)) ∧ w.cell? ⟨B, 4, none⟩ = some (.int .u8 (g 1 1)) ∧ w.cell? ⟨B, 5, none⟩ = some (.int .u8 (g 1 2))) ∧
    (w.cell? ⟨B, 6, none⟩ = some (.int .u8 (g 2 0)) ∧ w.cell? ⟨B, 7, none⟩ = some (.int .u8 (g 2 1)) ∧ w.cell? ⟨B, 8, none⟩ = some (.int .u8 (g 2 2))) :=
  ⟨⟨h.cell (i := 0) (by omega), h.cell (i := 1) (by omega), h.cell (i := 2) (by omega)⟩, ⟨h.cell (i := 3) (by omega), h.cell (i := 4) (by omega), h.cell (i := 5) (by omega)⟩, ⟨h.cell (i := 6) (by omega), h.cell (i := 7) (by omega), h.cell (i := 8) (by omega)⟩⟩
/-- A number of a matrix is written. -/
def upd (g : Nat → Nat → Int) (i j : Nat) (a : Int) (i' j' : Nat) : Int := if i' = i ∧ j' = j then a else g i' j'
theorem mset {w : World} {B : Nat} {t : TypeId} {g : Nat → Nat → Int} (h : w.rowIs B t 9 (mF g)) {i j : Nat} (hj : j < 3) (a : Int) : (w.setCell ⟨B, i * 3 + j, none⟩ (.int .u8 a)).rowIs B t 9 (mF (upd g i j a)) := by
  refine (h.set (i * 3 + j) (.int .u8 a)).congr fun q hq => ?_
  unfold mF upd
  by_cases e : q = i * 3 + j
  · subst e
    rw [if_pos rfl, if_pos (by omega)]
  · rw [if_neg e, if_neg (by omega)]

/-- A matrix stored into a block of nine cells. -/
theorem mfill {w Z : World} {B B1 : Nat} {t : TypeId} {F : Nat → Value} (hZ : Z.rowIs B1 t 9 F) (hb : Below B w Z) (hB : B ≤ B1) (r : Nat → Nat → Int) :
    (((((((((Z.setCell ⟨B1, 0, none⟩ (.int .u8 (r 0 0))).setCell ⟨B1, 1, none⟩ (.int .u8 (r 0 1))).setCell ⟨B1, 2, none⟩ (.int .u8 (r 0 2))).setCell ⟨B1, 3, none⟩ (.int .u8 (r 1 0))).setCell ⟨B1, 4, none⟩ (.int .u8 (r 1 1))).setCell ⟨B1, 5, none⟩ (.int .u8 (r 1 2))).setCell ⟨B1, 6, none⟩ (.int .u8 (r 2 0))).setCell ⟨B1, 7, none⟩ (.int .u8 (r 2 1))).setCell ⟨B1, 8, none⟩ (.int .u8 (r 2 2))).rowIs B1 t 9 (mF r) ∧ Below B w (((((((((Z.setCell ⟨B1, 0, none⟩ (.int .u8 (r 0 0))).setCell ⟨B1, 1, none⟩ (.int .u8 (r 0 1))).setCell ⟨B1, 2, none⟩ (.int .u8 (r 0 2))).setCell ⟨B1, 3, none⟩ (.int .u8 (r 1 0))).setCell ⟨B1, 4, none⟩ (.int .u8 (r 1 1))).setCell ⟨B1, 5, none⟩ (.int .u8 (r 1 2))).setCell ⟨B1, 6, none⟩ (.int .u8 (r 2 0))).setCell ⟨B1, 7, none⟩ (.int .u8 (r 2 1))).setCell ⟨B1, 8, none⟩ (.int .u8 (r 2 2))) := by
  refine ⟨(((((((((hZ.set 0 (.int .u8 (r 0 0))).set 1 (.int .u8 (r 0 1))).set 2 (.int .u8 (r 0 2))).set 3 (.int .u8 (r 1 0))).set 4 (.int .u8 (r 1 1))).set 5 (.int .u8 (r 1 2))).set 6 (.int .u8 (r 2 0))).set 7 (.int .u8 (r 2 1))).set 8 (.int .u8 (r 2 2))).congr fun q hq => ?_, (((((((((hb.setCell (by simpa using hB) _).setCell (by simpa using hB) _).setCell (by simpa using hB) _).setCell (by simpa using hB) _).setCell (by simpa using hB) _).setCell (by simpa using hB) _).setCell (by simpa using hB) _).setCell (by simpa using hB) _).setCell (by simpa using hB) _)⟩
  match q, hq with
  | 0, _ => rfl
  | 1, _ => rfl
  | 2, _ => rfl
  | 3, _ => rfl
  | 4, _ => rfl
  | 5, _ => rfl
  | 6, _ => rfl
  | 7, _ => rfl
  | 8, _ => rfl
theorem mF_congr {w : World} {B : Nat} {t : TypeId} {g h : Nat → Nat → Int} (hr : w.rowIs B t 9 (mF g)) (e : ∀ i, i < 3 → ∀ j, j < 3 → g i j = h i j) : w.rowIs B t 9 (mF h) :=
  hr.congr fun q hq => by unfold mF; rw [e (q / 3) (by omega) (q % 3) (by omega)]
theorem mv_congr {g h : Nat → Nat → Int} (e : ∀ i, i < 3 → ∀ j, j < 3 → g i j = h i j) : mv g = mv h := by
  unfold mv
  simp [e]
/-- A matrix inside of a size. -/
def cutM (n : Nat) (H : Nat → Nat → Int) (i j : Nat) : Int := if i < n ∧ j < n then H i j else 0

/-- Whether a number fits at its place. -/
def okC (p : Int) (n : Int) (x : Int) (i j : Nat) : Bool := decide (x < p) && (decide ((i : Int) < n) && decide ((j : Int) < n) || decide (x = 0))
def hasB (p n : Int) (g : Nat → Nat → Int) : Bool := okC p n (g 0 0) 0 0 && okC p n (g 0 1) 0 1 && okC p n (g 0 2) 0 2 && (okC p n (g 1 0) 1 0 && okC p n (g 1 1) 1 1 && okC p n (g 1 2) 1 2) && (okC p n (g 2 0) 2 0 && okC p n (g 2 1) 2 1 && okC p n (g 2 2) 2 2)

theorem idx9_0 (g : Nat → Nat → Int) (w : World) : (Instr.index 37 (.agg #[.int .u8 (g 0 0), .int .u8 (g 0 1), .int .u8 (g 0 2), .int .u8 (g 1 0), .int .u8 (g 1 1), .int .u8 (g 1 2), .int .u8 (g 2 0), .int .u8 (g 2 1), .int .u8 (g 2 2)]) (.int .i64 0)).run Try.prog w = .ok (.agg #[.int .u8 (g 0 0), .int .u8 (g 0 1), .int .u8 (g 0 2)]) w := by kernel_rfl
theorem idx9_1 (g : Nat → Nat → Int) (w : World) : (Instr.index 37 (.agg #[.int .u8 (g 0 0), .int .u8 (g 0 1), .int .u8 (g 0 2), .int .u8 (g 1 0), .int .u8 (g 1 1), .int .u8 (g 1 2), .int .u8 (g 2 0), .int .u8 (g 2 1), .int .u8 (g 2 2)]) (.int .i64 1)).run Try.prog w = .ok (.agg #[.int .u8 (g 1 0), .int .u8 (g 1 1), .int .u8 (g 1 2)]) w := by kernel_rfl
theorem idx9_2 (g : Nat → Nat → Int) (w : World) : (Instr.index 37 (.agg #[.int .u8 (g 0 0), .int .u8 (g 0 1), .int .u8 (g 0 2), .int .u8 (g 1 0), .int .u8 (g 1 1), .int .u8 (g 1 2), .int .u8 (g 2 0), .int .u8 (g 2 1), .int .u8 (g 2 2)]) (.int .i64 2)).run Try.prog w = .ok (.agg #[.int .u8 (g 2 0), .int .u8 (g 2 1), .int .u8 (g 2 2)]) w := by kernel_rfl
theorem idx3_0 (f : Nat → Int) (w : World) : (Instr.index 34 (.agg #[.int .u8 (f 0), .int .u8 (f 1), .int .u8 (f 2)]) (.int .i64 0)).run Try.prog w = .ok (.int .u8 (f 0)) w := by kernel_rfl
theorem idx3_1 (f : Nat → Int) (w : World) : (Instr.index 34 (.agg #[.int .u8 (f 0), .int .u8 (f 1), .int .u8 (f 2)]) (.int .i64 1)).run Try.prog w = .ok (.int .u8 (f 1)) w := by kernel_rfl
theorem idx3_2 (f : Nat → Int) (w : World) : (Instr.index 34 (.agg #[.int .u8 (f 0), .int .u8 (f 1), .int .u8 (f 2)]) (.int .i64 2)).run Try.prog w = .ok (.int .u8 (f 2)) w := by kernel_rfl
theorem idx9 (g : Nat → Nat → Int) {k : Nat} (hk : k < 3) (w : World) : (Instr.index 37 (.agg #[.int .u8 (g 0 0), .int .u8 (g 0 1), .int .u8 (g 0 2), .int .u8 (g 1 0), .int .u8 (g 1 1), .int .u8 (g 1 2), .int .u8 (g 2 0), .int .u8 (g 2 1), .int .u8 (g 2 2)]) (.int .i64 (k : Int))).run Try.prog w = .ok (.agg #[.int .u8 (g k 0), .int .u8 (g k 1), .int .u8 (g k 2)]) w := by
  have h3 : k = 0 ∨ k = 1 ∨ k = 2 := by omega
  rcases h3 with rfl | rfl | rfl
  · exact idx9_0 g w
  · exact idx9_1 g w
  · exact idx9_2 g w
theorem idx3 (f : Nat → Int) {k : Nat} (hk : k < 3) (w : World) : (Instr.index 34 (.agg #[.int .u8 (f 0), .int .u8 (f 1), .int .u8 (f 2)]) (.int .i64 (k : Int))).run Try.prog w = .ok (.int .u8 (f k)) w := by
  have h3 : k = 0 ∨ k = 1 ∨ k = 2 := by omega
  rcases h3 with rfl | rfl | rfl
  · exact idx3_0 f w
  · exact idx3_1 f w
  · exact idx3_2 f w
theorem hasB_no {p n : Int} {g : Nat → Nat → Int} {i j : Nat} (hi : i < 3) (hj : j < 3) (h : okC p n (g i j) i j = false) : hasB p n g = false := by
  have hi3 : i = 0 ∨ i = 1 ∨ i = 2 := by omega
  have hj3 : j = 0 ∨ j = 1 ∨ j = 2 := by omega
  unfold hasB
  rcases hi3 with rfl | rfl | rfl <;> rcases hj3 with rfl | rfl | rfl <;> rw [h] <;> simp
theorem hasB_yes {p n : Int} {g : Nat → Nat → Int} (h : ∀ i, i < 3 → ∀ j, j < 3 → okC p n (g i j) i j = true) : hasB p n g = true := by
  unfold hasB
  simp [h]
theorem okC_no {p n x : Int} {i j : Nat} (h : p ≤ x ∨ (n ≤ i ∨ n ≤ j) ∧ x ≠ 0) : okC p n x i j = false := by
  unfold okC
  simp only [Bool.and_eq_false_iff, Bool.or_eq_false_iff, decide_eq_false_iff_not]
  omega
theorem okC_yes {p n x : Int} {i j : Nat} (h1 : x < p) (h : (i < n ∧ j < n) ∨ x = 0) : okC p n x i j = true := by
  unfold okC
  simp only [Bool.and_eq_true, Bool.or_eq_true, decide_eq_true_eq]
  omega
end Go.Proofs.Ytbahejlgfpilnaa
namespace Go.Proofs.Ytbahejlgfpilnaa
open Go.RowKit Go.Sort EchM

set_option maxRecDepth 8000 in
set_option maxHeartbeats 4000000 in
theorem has_any (p n : Int) (g : Nat → Nat → Int) (w : World) (hg : Byt g) :
    Calls Try.prog 143 #[.int .i64 p, .int .i64 n, mv g] w fun e w' => e = .returned (.bool (hasB p n g)) ∧ Below w.heap.size w w' := by
  have hb0 : Below w.heap.size w (w.alloc (.cells #[.int .u8 (g 0 0), .int .u8 (g 0 1), .int .u8 (g 0 2), .int .u8 (g 1 0), .int .u8 (g 1 1), .int .u8 (g 1 2), .int .u8 (g 2 0), .int .u8 (g 2 1), .int .u8 (g 2 2)] 37)) := ebox1 _ _
  have HG := Lib.hid hg
  clear hg
  unfold mv
  go_enter Try.func143, Try.ntmps143
  go_wp2
  go_loopw [13] (fun i wr => ∃ (k : Nat), k ≤ 3 ∧ i = .int .i64 k ∧ Hid (∀ i, i < k → ∀ j, j < 3 → okC p n (g i j) i j = true) ∧ Below w.heap.size w wr) (fun i _ => 3 - (intOf i).toNat)
  case atStart => exact ⟨0, by omega, rfl, Lib.hid (fun i hi => by omega), hb0⟩
  case round =>
    obtain ⟨k, hk, rfl, HU, hb⟩ := hrel
    have hs := hb.size
    by_cases hlt : k < 3
    · have hlt' : (k : Int) < 3 := by omega
      have hI := idx9 g hlt
      have hBn : ∀ o, Below w.heap.size w (wr.alloc o) := fun o => hb.alloc hs o
      have HB := Lib.hid hBn
      clear hBn hb hb0
      go_wp2_with fail
      generalize hW : wr.alloc _ = W
      have hbW : Below w.heap.size w W := by rw [← hW]; exact HB.out _
      clear hW HB hI
      go_wp2_with fail
      go_loop [18] (fun i => ∃ (j : Nat), j ≤ 3 ∧ i = .int .i64 j ∧ Hid (∀ j', j' < j → okC p n (g k j') k j' = true)) (fun i => 3 - (intOf i).toNat)
      case atStart => exact ⟨0, by omega, rfl, Lib.hid (fun j hj => by omega)⟩
      case round =>
        obtain ⟨j, hj, rfl, HV⟩ := hrel
        by_cases hjt : j < 3
        · have hjt' : (j : Int) < 3 := by omega
          have hI := idx3 (g k) hjt
          have hx := HG.out k hlt j hjt
          have HNo := Lib.hid (fun h => hasB_no (p := p) (n := n) (g := g) hlt hjt (okC_no h))
          have HYes : (g k j < p → ((k : Int) < n ∧ (j : Int) < n) ∨ g k j = 0 → Hid (∀ j', j' < j + 1 → okC p n (g k j') k j' = true)) := fun h1 h2 => Lib.hid (fun j' hj' => by
            by_cases e : j' = j
            · subst e; exact okC_yes h1 h2
            · exact HV.out j' (by omega))
          have HY := Lib.hid HYes
          clear HYes
          generalize hX : g k j = X at hI hx HNo HY
          clear hX
          obtain ⟨x0, x1⟩ := hx
          by_cases h1 : p ≤ X
          · have HX := Lib.hid (HNo.out (.inl h1))
            clear HNo HY
            go_wp2_with fail
            all_goals go_ret
            all_goals exact ⟨by rw [HX.out]; rfl, hbW⟩
          · by_cases hz : X = 0
            · have HN := HY.out (by omega) (.inr hz)
              subst hz
              clear HNo HY
              by_cases h2 : (k : Int) < n
              · by_cases h3 : (j : Int) < n
                · go_wp2_with fail
                  go_round
                  case rel => exact ⟨j + 1, by omega, by go_num, HN⟩
                  case measure => simp [intOf]; omega
                · go_wp2_with fail
                  go_round
                  case rel => exact ⟨j + 1, by omega, by go_num, HN⟩
                  case measure => simp [intOf]; omega
              · go_wp2_with fail
                go_round
                case rel => exact ⟨j + 1, by omega, by go_num, HN⟩
                case measure => simp [intOf]; omega
            · have hq : (X != 0) = true := by simp [hz]
              by_cases h2 : (k : Int) < n
              · by_cases h3 : (j : Int) < n
                · have HN := HY.out (by omega) (.inl ⟨h2, h3⟩)
                  clear HNo HY hz
                  go_wp2_with fail
                  go_round
                  case rel => exact ⟨j + 1, by omega, by go_num, HN⟩
                  case measure => simp [intOf]; omega
                · have HX := Lib.hid (HNo.out (.inr ⟨.inr (by omega), hz⟩))
                  clear HNo HY hz
                  go_wp2_with fail
                  go_ret
                  exact ⟨by rw [HX.out]; rfl, hbW⟩
              · have HX := Lib.hid (HNo.out (.inr ⟨.inl (by omega), hz⟩))
                clear HNo HY hz
                go_wp2_with fail
                go_ret
                exact ⟨by rw [HX.out]; rfl, hbW⟩
        · obtain rfl : j = 3 := by omega
          have HN : Hid (∀ i, i < k + 1 → ∀ j, j < 3 → okC p n (g i j) i j = true) := Lib.hid (fun i hi j hj => by
            by_cases e : i = k
            · subst e; exact HV.out j hj
            · exact HU.out i (by omega) j hj)
          go_wp2_with fail
          go_roundw
          case rel => exact ⟨k + 1, by omega, by go_num, HN, hbW⟩
          case measure => simp [intOf]; omega
    · obtain rfl : k = 3 := by omega
      have HX : Hid (hasB p n g = true) := Lib.hid (hasB_yes HU.out)
      go_wp2_with fail
      go_ret
      exact ⟨by rw [HX.out]; rfl, hb⟩
end Go.Proofs.Ytbahejlgfpilnaa
namespace Go.Proofs.Ytbahejlgfpilnaa
open Go.RowKit Go.Sort EchM

set_option maxRecDepth 8000 in
set_option maxHeartbeats 4000000 in
theorem filled_any (n : Nat) (g : Nat → Nat → Int) (w : World) (h1 : 1 ≤ n) (h3 : n ≤ 3) :
    Calls Try.prog 209 #[.int .i64 (n : Int), mv g] w fun e w' => e = .returned (mv (fullM n g)) ∧ Below w.heap.size w w' := by
  have hn : n = 1 ∨ n = 2 ∨ n = 3 := by omega
  unfold mv
  rcases hn with rfl | rfl | rfl
  all_goals
    simp only [fullM]
    simp
    go_enter Try.func209, Try.ntmps209
    go_wp2
    refine wp_loop_rounds 4 ?_
    iterate 3 (try (rw [rounds_succ]; go_wp2))
  · exact bodyPost_ret (v := mv (fullM 1 g)) (by simp [results, Try.results209, go_sem, mv, fullM]) rfl ⟨by simp [mv, fullM], ebox2 _ _ _⟩
  · exact bodyPost_ret (v := mv (fullM 2 g)) (by simp [results, Try.results209, go_sem, mv, fullM]) rfl ⟨by simp [mv, fullM], ebox2 _ _ _⟩
  · exact bodyPost_ret (v := mv (fullM 3 g)) (by simp [results, Try.results209, go_sem, mv, fullM]) rfl ⟨by simp [mv, fullM], ebox2 _ _ _⟩
/-- A row of three bytes. -/
def r3F (x y z : Int) : Nat → Value := fun q => if q = 0 then .int .u8 x else if q = 1 then .int .u8 y else .int .u8 z
theorem r3row (w : World) (x y z : Int) : (w.drew.alloc (.cells #[.int .u8 x, .int .u8 y, .int .u8 z] 34)).rowIs w.heap.size 34 3 (r3F x y z) := by
  have := World.rowIs_alloc w.drew #[Value.int .u8 x, .int .u8 y, .int .u8 z] 34 (r3F x y z) (fun i hi => by simp at hi; match i, hi with | 0, _ => rfl | 1, _ => rfl | 2, _ => rfl)
  exact this
theorem r3row1 (w : World) (o : Obj) (x y z : Int) : ((w.drew.alloc o).alloc (.cells #[.int .u8 x, .int .u8 y, .int .u8 z] 34)).rowIs (w.heap.size + 1) 34 3 (r3F x y z) := by
  have := World.rowIs_alloc (w.drew.alloc o) #[Value.int .u8 x, .int .u8 y, .int .u8 z] 34 (r3F x y z) (fun i hi => by simp at hi; match i, hi with | 0, _ => rfl | 1, _ => rfl | 2, _ => rfl)
  simpa using this
theorem r3cells {w : World} {B : Nat} {t : TypeId} {x y z : Int} (h : w.rowIs B t 3 (r3F x y z)) : w.cell? ⟨B, 0, none⟩ = some (.int .u8 x) ∧ w.cell? ⟨B, 1, none⟩ = some (.int .u8 y) ∧ w.cell? ⟨B, 2, none⟩ = some (.int .u8 z) :=
  ⟨h.cell (i := 0) (by omega), h.cell (i := 1) (by omega), h.cell (i := 2) (by omega)⟩


set_option maxRecDepth 8000 in
set_option maxHeartbeats 4000000 in
theorem cof_00 (p : Int) (f : Nat → Nat → Int) (w : World) (h2 : 2 ≤ p) (h13 : p ≤ 13) (hf : ∀ i, i < 3 → ∀ j, j < 3 → 0 ≤ f i j ∧ f i j < p) :
    Calls Try.prog 210 #[.int .i64 p, mv f, .int .i64 0, .int .i64 0] w fun e w' => e = .returned (.int .i64 (cofP p f 0 0)) ∧ Below w.heap.size w w' := by
  obtain ⟨W, hW, rW, hbW⟩ : ∃ W, W = w.alloc (.cells #[.int .u8 (f 0 0), .int .u8 (f 0 1), .int .u8 (f 0 2), .int .u8 (f 1 0), .int .u8 (f 1 1), .int .u8 (f 1 2), .int .u8 (f 2 0), .int .u8 (f 2 1), .int .u8 (f 2 2)] 37) ∧ W.rowIs w.heap.size 37 9 (mF f) ∧ Below w.heap.size w W := ⟨_, rfl, mbox w f _, ebox1 _ _⟩
  obtain ⟨⟨c0, c1, c2⟩, ⟨c3, c4, c5⟩, c6, c7, c8⟩ := mcells rW
  have HC := Lib.hid (show cofP p f 0 0 = (f 1 1 * f 2 2 + (p - 1) * (f 1 2 * f 2 1)) % p from rfl)
  have b0 := hf 1 (by omega) 0 (by omega)
  have b1 := hf 1 (by omega) 1 (by omega)
  have b2 := hf 1 (by omega) 2 (by omega)
  have e0 := hf 2 (by omega) 0 (by omega)
  have e1 := hf 2 (by omega) 1 (by omega)
  have e2 := hf 2 (by omega) 2 (by omega)
  clear hf
  have s1 : IntKind.i64.wrap 1 = 1 := by decide
  have s2 : IntKind.i64.wrap 2 = 2 := by decide
  have s3 : IntKind.i64.wrap 3 = 3 := by decide
  have s4 : IntKind.i64.wrap 4 = 4 := by decide
  have t1 : (1 : Int).tmod 3 = 1 := by decide
  have t2 : (2 : Int).tmod 3 = 2 := by decide
  have t3 : (3 : Int).tmod 3 = 0 := by decide
  have t4 : (4 : Int).tmod 3 = 1 := by decide
  unfold mv
  go_enter Try.func210, Try.ntmps210
  go_upto_region 1 with fail
  rw [← hW]
  clear hW
  have hlt := rW.lt
  generalize f 1 0 = x at *
  generalize f 1 1 = y at *
  generalize f 1 2 = z at *
  generalize f 2 0 = u at *
  generalize f 2 1 = v at *
  generalize f 2 2 = t at *
  have KK := Lib.hid (fun w' (h : Below W.heap.size W w') => show w'.cell? ⟨w.heap.size, 3, none⟩ = some (.int .u8 x) ∧ w'.cell? ⟨w.heap.size, 4, none⟩ = some (.int .u8 y) ∧ w'.cell? ⟨w.heap.size, 5, none⟩ = some (.int .u8 z) ∧ w'.cell? ⟨w.heap.size, 6, none⟩ = some (.int .u8 u) ∧ w'.cell? ⟨w.heap.size, 7, none⟩ = some (.int .u8 v) ∧ w'.cell? ⟨w.heap.size, 8, none⟩ = some (.int .u8 t) from
    ⟨(h.cell (p := ⟨_, _, none⟩) hlt).trans c3, (h.cell (p := ⟨_, _, none⟩) hlt).trans c4, (h.cell (p := ⟨_, _, none⟩) hlt).trans c5, (h.cell (p := ⟨_, _, none⟩) hlt).trans c6, (h.cell (p := ⟨_, _, none⟩) hlt).trans c7, (h.cell (p := ⟨_, _, none⟩) hlt).trans c8⟩)
  go_cut [9, 10] (fun s9 s10 wx => ∃ ba bb, s9 = .pointer (some ⟨ba, 0, none⟩) ∧ s10 = .pointer (some ⟨bb, 0, none⟩) ∧ wx.rowIs ba 34 3 (r3F x y z) ∧ wx.rowIs bb 34 3 (r3F u v t) ∧ Below W.heap.size W wx)
  case first =>
    go_region_held3 (fun w' => w'.cell? ⟨w.heap.size, 3, none⟩ = some (.int .u8 x) ∧ w'.cell? ⟨w.heap.size, 4, none⟩ = some (.int .u8 y) ∧ w'.cell? ⟨w.heap.size, 5, none⟩ = some (.int .u8 z) ∧ w'.cell? ⟨w.heap.size, 6, none⟩ = some (.int .u8 u) ∧ w'.cell? ⟨w.heap.size, 7, none⟩ = some (.int .u8 v) ∧ w'.cell? ⟨w.heap.size, 8, none⟩ = some (.int .u8 t))
      (first | with_reducible exact KK.out _ (Below.refl _ _).drew | with_reducible exact KK.out _ (ebox1 _ _) | with_reducible exact KK.out _ (ebox1 _ _).drew | with_reducible exact KK.out _ (ebox2 _ _ _) | with_reducible exact KK.out _ (ebox2 _ _ _).drew)
      (fail)
    all_goals
      go_wp2_with fail
      go_meet
      first
        | exact ⟨W.heap.size, W.heap.size + 1, rfl, rfl, (r3row W x y z).alloc _, r3row1 W _ u v t, (ebox2 _ _ _).drew⟩
        | exact ⟨W.heap.size + 1, W.heap.size, rfl, rfl, r3row1 W _ x y z, (r3row W u v t).alloc _, (ebox2 _ _ _).drew⟩
  case rest =>
    obtain ⟨ba, bb, rfl, rfl, ra, rb, hbx⟩ := hcut
    obtain ⟨m0, m1, m2⟩ := r3cells ra
    obtain ⟨n0, n1, n2⟩ := r3cells rb
    obtain ⟨f0, f1⟩ := eprod_fit h13 (a := y) (b := t) b1 e2
    obtain ⟨g0, g1⟩ := eprod_fit h13 (a := z) (b := v) b2 e1
    have q0 : 0 ≤ (p - 1) * (z * v) := Int.mul_nonneg (by omega) g0
    have q1 : (p - 1) * (z * v) ≤ 12 * 169 := Int.mul_le_mul (by omega) g1 g0 (by omega)
    have hb2 := hbW.trans (hbx.mono hbW.size)
    clear KK c0 c1 c2 c3 c4 c5 c6 c7 c8 ra rb hbx hbW rW
    go_wp2_with fail
    go_quiet (fail)
    go_wp2_with fail
    go_quiet (fail)
    go_wp2_with fail
    go_ret
    exact ⟨by rw [HC.out]; rfl, below_drewN hb2 _⟩

set_option maxRecDepth 8000 in
set_option maxHeartbeats 4000000 in
theorem cof_01 (p : Int) (f : Nat → Nat → Int) (w : World) (h2 : 2 ≤ p) (h13 : p ≤ 13) (hf : ∀ i, i < 3 → ∀ j, j < 3 → 0 ≤ f i j ∧ f i j < p) :
    Calls Try.prog 210 #[.int .i64 p, mv f, .int .i64 0, .int .i64 1] w fun e w' => e = .returned (.int .i64 (cofP p f 0 1)) ∧ Below w.heap.size w w' := by
  obtain ⟨W, hW, rW, hbW⟩ : ∃ W, W = w.alloc (.cells #[.int .u8 (f 0 0), .int .u8 (f 0 1), .int .u8 (f 0 2), .int .u8 (f 1 0), .int .u8 (f 1 1), .int .u8 (f 1 2), .int .u8 (f 2 0), .int .u8 (f 2 1), .int .u8 (f 2 2)] 37) ∧ W.rowIs w.heap.size 37 9 (mF f) ∧ Below w.heap.size w W := ⟨_, rfl, mbox w f _, ebox1 _ _⟩
  obtain ⟨⟨c0, c1, c2⟩, ⟨c3, c4, c5⟩, c6, c7, c8⟩ := mcells rW
  have HC := Lib.hid (show cofP p f 0 1 = (f 1 2 * f 2 0 + (p - 1) * (f 1 0 * f 2 2)) % p from rfl)
  have b0 := hf 1 (by omega) 0 (by omega)
  have b1 := hf 1 (by omega) 1 (by omega)
  have b2 := hf 1 (by omega) 2 (by omega)
  have e0 := hf 2 (by omega) 0 (by omega)
  have e1 := hf 2 (by omega) 1 (by omega)
  have e2 := hf 2 (by omega) 2 (by omega)
  clear hf
  have s1 : IntKind.i64.wrap 1 = 1 := by decide
  have s2 : IntKind.i64.wrap 2 = 2 := by decide
  have s3 : IntKind.i64.wrap 3 = 3 := by decide
  have s4 : IntKind.i64.wrap 4 = 4 := by decide
  have t1 : (1 : Int).tmod 3 = 1 := by decide
  have t2 : (2 : Int).tmod 3 = 2 := by decide
  have t3 : (3 : Int).tmod 3 = 0 := by decide
  have t4 : (4 : Int).tmod 3 = 1 := by decide
  unfold mv
  go_enter Try.func210, Try.ntmps210
  go_upto_region 1 with fail
  rw [← hW]
  clear hW
  have hlt := rW.lt
  generalize f 1 0 = x at *
  generalize f 1 1 = y at *
  generalize f 1 2 = z at *
  generalize f 2 0 = u at *
  generalize f 2 1 = v at *
  generalize f 2 2 = t at *
  have KK := Lib.hid (fun w' (h : Below W.heap.size W w') => show w'.cell? ⟨w.heap.size, 3, none⟩ = some (.int .u8 x) ∧ w'.cell? ⟨w.heap.size, 4, none⟩ = some (.int .u8 y) ∧ w'.cell? ⟨w.heap.size, 5, none⟩ = some (.int .u8 z) ∧ w'.cell? ⟨w.heap.size, 6, none⟩ = some (.int .u8 u) ∧ w'.cell? ⟨w.heap.size, 7, none⟩ = some (.int .u8 v) ∧ w'.cell? ⟨w.heap.size, 8, none⟩ = some (.int .u8 t) from
    ⟨(h.cell (p := ⟨_, _, none⟩) hlt).trans c3, (h.cell (p := ⟨_, _, none⟩) hlt).trans c4, (h.cell (p := ⟨_, _, none⟩) hlt).trans c5, (h.cell (p := ⟨_, _, none⟩) hlt).trans c6, (h.cell (p := ⟨_, _, none⟩) hlt).trans c7, (h.cell (p := ⟨_, _, none⟩) hlt).trans c8⟩)
  go_cut [9, 10] (fun s9 s10 wx => ∃ ba bb, s9 = .pointer (some ⟨ba, 0, none⟩) ∧ s10 = .pointer (some ⟨bb, 0, none⟩) ∧ wx.rowIs ba 34 3 (r3F x y z) ∧ wx.rowIs bb 34 3 (r3F u v t) ∧ Below W.heap.size W wx)
  case first =>
    go_region_held3 (fun w' => w'.cell? ⟨w.heap.size, 3, none⟩ = some (.int .u8 x) ∧ w'.cell? ⟨w.heap.size, 4, none⟩ = some (.int .u8 y) ∧ w'.cell? ⟨w.heap.size, 5, none⟩ = some (.int .u8 z) ∧ w'.cell? ⟨w.heap.size, 6, none⟩ = some (.int .u8 u) ∧ w'.cell? ⟨w.heap.size, 7, none⟩ = some (.int .u8 v) ∧ w'.cell? ⟨w.heap.size, 8, none⟩ = some (.int .u8 t))
      (first | with_reducible exact KK.out _ (Below.refl _ _).drew | with_reducible exact KK.out _ (ebox1 _ _) | with_reducible exact KK.out _ (ebox1 _ _).drew | with_reducible exact KK.out _ (ebox2 _ _ _) | with_reducible exact KK.out _ (ebox2 _ _ _).drew)
      (fail)
    all_goals
      go_wp2_with fail
      go_meet
      first
        | exact ⟨W.heap.size, W.heap.size + 1, rfl, rfl, (r3row W x y z).alloc _, r3row1 W _ u v t, (ebox2 _ _ _).drew⟩
        | exact ⟨W.heap.size + 1, W.heap.size, rfl, rfl, r3row1 W _ x y z, (r3row W u v t).alloc _, (ebox2 _ _ _).drew⟩
  case rest =>
    obtain ⟨ba, bb, rfl, rfl, ra, rb, hbx⟩ := hcut
    obtain ⟨m0, m1, m2⟩ := r3cells ra
    obtain ⟨n0, n1, n2⟩ := r3cells rb
    obtain ⟨f0, f1⟩ := eprod_fit h13 (a := z) (b := u) b2 e0
    obtain ⟨g0, g1⟩ := eprod_fit h13 (a := x) (b := t) b0 e2
    have q0 : 0 ≤ (p - 1) * (x * t) := Int.mul_nonneg (by omega) g0
    have q1 : (p - 1) * (x * t) ≤ 12 * 169 := Int.mul_le_mul (by omega) g1 g0 (by omega)
    have hb2 := hbW.trans (hbx.mono hbW.size)
    clear KK c0 c1 c2 c3 c4 c5 c6 c7 c8 ra rb hbx hbW rW
    go_wp2_with fail
    go_quiet (fail)
    go_wp2_with fail
    go_quiet (fail)
    go_wp2_with fail
    go_ret
    exact ⟨by rw [HC.out]; rfl, below_drewN hb2 _⟩

set_option maxRecDepth 8000 in
set_option maxHeartbeats 4000000 in
theorem cof_02 (p : Int) (f : Nat → Nat → Int) (w : World) (h2 : 2 ≤ p) (h13 : p ≤ 13) (hf : ∀ i, i < 3 → ∀ j, j < 3 → 0 ≤ f i j ∧ f i j < p) :
    Calls Try.prog 210 #[.int .i64 p, mv f, .int .i64 0, .int .i64 2] w fun e w' => e = .returned (.int .i64 (cofP p f 0 2)) ∧ Below w.heap.size w w' := by
  obtain ⟨W, hW, rW, hbW⟩ : ∃ W, W = w.alloc (.cells #[.int .u8 (f 0 0), .int .u8 (f 0 1), .int .u8 (f 0 2), .int .u8 (f 1 0), .int .u8 (f 1 1), .int .u8 (f 1 2), .int .u8 (f 2 0), .int .u8 (f 2 1), .int .u8 (f 2 2)] 37) ∧ W.rowIs w.heap.size 37 9 (mF f) ∧ Below w.heap.size w W := ⟨_, rfl, mbox w f _, ebox1 _ _⟩
  obtain ⟨⟨c0, c1, c2⟩, ⟨c3, c4, c5⟩, c6, c7, c8⟩ := mcells rW
  have HC := Lib.hid (show cofP p f 0 2 = (f 1 0 * f 2 1 + (p - 1) * (f 1 1 * f 2 0)) % p from rfl)
  have b0 := hf 1 (by omega) 0 (by omega)
  have b1 := hf 1 (by omega) 1 (by omega)
  have b2 := hf 1 (by omega) 2 (by omega)
  have e0 := hf 2 (by omega) 0 (by omega)
  have e1 := hf 2 (by omega) 1 (by omega)
  have e2 := hf 2 (by omega) 2 (by omega)
  clear hf
  have s1 : IntKind.i64.wrap 1 = 1 := by decide
  have s2 : IntKind.i64.wrap 2 = 2 := by decide
  have s3 : IntKind.i64.wrap 3 = 3 := by decide
  have s4 : IntKind.i64.wrap 4 = 4 := by decide
  have t1 : (1 : Int).tmod 3 = 1 := by decide
  have t2 : (2 : Int).tmod 3 = 2 := by decide
  have t3 : (3 : Int).tmod 3 = 0 := by decide
  have t4 : (4 : Int).tmod 3 = 1 := by decide
  unfold mv
  go_enter Try.func210, Try.ntmps210
  go_upto_region 1 with fail
  rw [← hW]
  clear hW
  have hlt := rW.lt
  generalize f 1 0 = x at *
  generalize f 1 1 = y at *
  generalize f 1 2 = z at *
  generalize f 2 0 = u at *
  generalize f 2 1 = v at *
  generalize f 2 2 = t at *
  have KK := Lib.hid (fun w' (h : Below W.heap.size W w') => show w'.cell? ⟨w.heap.size, 3, none⟩ = some (.int .u8 x) ∧ w'.cell? ⟨w.heap.size, 4, none⟩ = some (.int .u8 y) ∧ w'.cell? ⟨w.heap.size, 5, none⟩ = some (.int .u8 z) ∧ w'.cell? ⟨w.heap.size, 6, none⟩ = some (.int .u8 u) ∧ w'.cell? ⟨w.heap.size, 7, none⟩ = some (.int .u8 v) ∧ w'.cell? ⟨w.heap.size, 8, none⟩ = some (.int .u8 t) from
    ⟨(h.cell (p := ⟨_, _, none⟩) hlt).trans c3, (h.cell (p := ⟨_, _, none⟩) hlt).trans c4, (h.cell (p := ⟨_, _, none⟩) hlt).trans c5, (h.cell (p := ⟨_, _, none⟩) hlt).trans c6, (h.cell (p := ⟨_, _, none⟩) hlt).trans c7, (h.cell (p := ⟨_, _, none⟩) hlt).trans c8⟩)
  go_cut [9, 10] (fun s9 s10 wx => ∃ ba bb, s9 = .pointer (some ⟨ba, 0, none⟩) ∧ s10 = .pointer (some ⟨bb, 0, none⟩) ∧ wx.rowIs ba 34 3 (r3F x y z) ∧ wx.rowIs bb 34 3 (r3F u v t) ∧ Below W.heap.size W wx)
  case first =>
    go_region_held3 (fun w' => w'.cell? ⟨w.heap.size, 3, none⟩ = some (.int .u8 x) ∧ w'.cell? ⟨w.heap.size, 4, none⟩ = some (.int .u8 y) ∧ w'.cell? ⟨w.heap.size, 5, none⟩ = some (.int .u8 z) ∧ w'.cell? ⟨w.heap.size, 6, none⟩ = some (.int .u8 u) ∧ w'.cell? ⟨w.heap.size, 7, none⟩ = some (.int .u8 v) ∧ w'.cell? ⟨w.heap.size, 8, none⟩ = some (.int .u8 t))
      (first | with_reducible exact KK.out _ (Below.refl _ _).drew | with_reducible exact KK.out _ (ebox1 _ _) | with_reducible exact KK.out _ (ebox1 _ _).drew | with_reducible exact KK.out _ (ebox2 _ _ _) | with_reducible exact KK.out _ (ebox2 _ _ _).drew)
      (fail)
    all_goals
      go_wp2_with fail
      go_meet
      first
        | exact ⟨W.heap.size, W.heap.size + 1, rfl, rfl, (r3row W x y z).alloc _, r3row1 W _ u v t, (ebox2 _ _ _).drew⟩
        | exact ⟨W.heap.size + 1, W.heap.size, rfl, rfl, r3row1 W _ x y z, (r3row W u v t).alloc _, (ebox2 _ _ _).drew⟩
  case rest =>
    obtain ⟨ba, bb, rfl, rfl, ra, rb, hbx⟩ := hcut
    obtain ⟨m0, m1, m2⟩ := r3cells ra
    obtain ⟨n0, n1, n2⟩ := r3cells rb
    obtain ⟨f0, f1⟩ := eprod_fit h13 (a := x) (b := v) b0 e1
    obtain ⟨g0, g1⟩ := eprod_fit h13 (a := y) (b := u) b1 e0
    have q0 : 0 ≤ (p - 1) * (y * u) := Int.mul_nonneg (by omega) g0
    have q1 : (p - 1) * (y * u) ≤ 12 * 169 := Int.mul_le_mul (by omega) g1 g0 (by omega)
    have hb2 := hbW.trans (hbx.mono hbW.size)
    clear KK c0 c1 c2 c3 c4 c5 c6 c7 c8 ra rb hbx hbW rW
    go_wp2_with fail
    go_quiet (fail)
    go_wp2_with fail
    go_quiet (fail)
    go_wp2_with fail
    go_ret
    exact ⟨by rw [HC.out]; rfl, below_drewN hb2 _⟩

set_option maxRecDepth 8000 in
set_option maxHeartbeats 4000000 in
theorem cof_10 (p : Int) (f : Nat → Nat → Int) (w : World) (h2 : 2 ≤ p) (h13 : p ≤ 13) (hf : ∀ i, i < 3 → ∀ j, j < 3 → 0 ≤ f i j ∧ f i j < p) :
    Calls Try.prog 210 #[.int .i64 p, mv f, .int .i64 1, .int .i64 0] w fun e w' => e = .returned (.int .i64 (cofP p f 1 0)) ∧ Below w.heap.size w w' := by
  obtain ⟨W, hW, rW, hbW⟩ : ∃ W, W = w.alloc (.cells #[.int .u8 (f 0 0), .int .u8 (f 0 1), .int .u8 (f 0 2), .int .u8 (f 1 0), .int .u8 (f 1 1), .int .u8 (f 1 2), .int .u8 (f 2 0), .int .u8 (f 2 1), .int .u8 (f 2 2)] 37) ∧ W.rowIs w.heap.size 37 9 (mF f) ∧ Below w.heap.size w W := ⟨_, rfl, mbox w f _, ebox1 _ _⟩
  obtain ⟨⟨c0, c1, c2⟩, ⟨c3, c4, c5⟩, c6, c7, c8⟩ := mcells rW
  have HC := Lib.hid (show cofP p f 1 0 = (f 2 1 * f 0 2 + (p - 1) * (f 2 2 * f 0 1)) % p from rfl)
  have b0 := hf 2 (by omega) 0 (by omega)
  have b1 := hf 2 (by omega) 1 (by omega)
  have b2 := hf 2 (by omega) 2 (by omega)
  have e0 := hf 0 (by omega) 0 (by omega)
  have e1 := hf 0 (by omega) 1 (by omega)
  have e2 := hf 0 (by omega) 2 (by omega)
  clear hf
  have s1 : IntKind.i64.wrap 1 = 1 := by decide
  have s2 : IntKind.i64.wrap 2 = 2 := by decide
  have s3 : IntKind.i64.wrap 3 = 3 := by decide
  have s4 : IntKind.i64.wrap 4 = 4 := by decide
  have t1 : (1 : Int).tmod 3 = 1 := by decide
  have t2 : (2 : Int).tmod 3 = 2 := by decide
  have t3 : (3 : Int).tmod 3 = 0 := by decide
  have t4 : (4 : Int).tmod 3 = 1 := by decide
  unfold mv
  go_enter Try.func210, Try.ntmps210
  go_upto_region 1 with fail
  rw [← hW]
  clear hW
  have hlt := rW.lt
  generalize f 2 0 = x at *
  generalize f 2 1 = y at *
  generalize f 2 2 = z at *
  generalize f 0 0 = u at *
  generalize f 0 1 = v at *
  generalize f 0 2 = t at *
  have KK := Lib.hid (fun w' (h : Below W.heap.size W w') => show w'.cell? ⟨w.heap.size, 6, none⟩ = some (.int .u8 x) ∧ w'.cell? ⟨w.heap.size, 7, none⟩ = some (.int .u8 y) ∧ w'.cell? ⟨w.heap.size, 8, none⟩ = some (.int .u8 z) ∧ w'.cell? ⟨w.heap.size, 0, none⟩ = some (.int .u8 u) ∧ w'.cell? ⟨w.heap.size, 1, none⟩ = some (.int .u8 v) ∧ w'.cell? ⟨w.heap.size, 2, none⟩ = some (.int .u8 t) from
    ⟨(h.cell (p := ⟨_, _, none⟩) hlt).trans c6, (h.cell (p := ⟨_, _, none⟩) hlt).trans c7, (h.cell (p := ⟨_, _, none⟩) hlt).trans c8, (h.cell (p := ⟨_, _, none⟩) hlt).trans c0, (h.cell (p := ⟨_, _, none⟩) hlt).trans c1, (h.cell (p := ⟨_, _, none⟩) hlt).trans c2⟩)
  go_cut [9, 10] (fun s9 s10 wx => ∃ ba bb, s9 = .pointer (some ⟨ba, 0, none⟩) ∧ s10 = .pointer (some ⟨bb, 0, none⟩) ∧ wx.rowIs ba 34 3 (r3F x y z) ∧ wx.rowIs bb 34 3 (r3F u v t) ∧ Below W.heap.size W wx)
  case first =>
    go_region_held3 (fun w' => w'.cell? ⟨w.heap.size, 6, none⟩ = some (.int .u8 x) ∧ w'.cell? ⟨w.heap.size, 7, none⟩ = some (.int .u8 y) ∧ w'.cell? ⟨w.heap.size, 8, none⟩ = some (.int .u8 z) ∧ w'.cell? ⟨w.heap.size, 0, none⟩ = some (.int .u8 u) ∧ w'.cell? ⟨w.heap.size, 1, none⟩ = some (.int .u8 v) ∧ w'.cell? ⟨w.heap.size, 2, none⟩ = some (.int .u8 t))
      (first | with_reducible exact KK.out _ (Below.refl _ _).drew | with_reducible exact KK.out _ (ebox1 _ _) | with_reducible exact KK.out _ (ebox1 _ _).drew | with_reducible exact KK.out _ (ebox2 _ _ _) | with_reducible exact KK.out _ (ebox2 _ _ _).drew)
      (fail)
    all_goals
      go_wp2_with fail
      go_meet
      first
        | exact ⟨W.heap.size, W.heap.size + 1, rfl, rfl, (r3row W x y z).alloc _, r3row1 W _ u v t, (ebox2 _ _ _).drew⟩
        | exact ⟨W.heap.size + 1, W.heap.size, rfl, rfl, r3row1 W _ x y z, (r3row W u v t).alloc _, (ebox2 _ _ _).drew⟩
  case rest =>
    obtain ⟨ba, bb, rfl, rfl, ra, rb, hbx⟩ := hcut
    obtain ⟨m0, m1, m2⟩ := r3cells ra
    obtain ⟨n0, n1, n2⟩ := r3cells rb
    obtain ⟨f0, f1⟩ := eprod_fit h13 (a := y) (b := t) b1 e2
    obtain ⟨g0, g1⟩ := eprod_fit h13 (a := z) (b := v) b2 e1
    have q0 : 0 ≤ (p - 1) * (z * v) := Int.mul_nonneg (by omega) g0
    have q1 : (p - 1) * (z * v) ≤ 12 * 169 := Int.mul_le_mul (by omega) g1 g0 (by omega)
    have hb2 := hbW.trans (hbx.mono hbW.size)
    clear KK c0 c1 c2 c3 c4 c5 c6 c7 c8 ra rb hbx hbW rW
    go_wp2_with fail
    go_quiet (fail)
    go_wp2_with fail
    go_quiet (fail)
    go_wp2_with fail
    go_ret
    exact ⟨by rw [HC.out]; rfl, below_drewN hb2 _⟩

set_option maxRecDepth 8000 in
set_option maxHeartbeats 4000000 in
theorem cof_11 (p : Int) (f : Nat → Nat → Int) (w : World) (h2 : 2 ≤ p) (h13 : p ≤ 13) (hf : ∀ i, i < 3 → ∀ j, j < 3 → 0 ≤ f i j ∧ f i j < p) :
    Calls Try.prog 210 #[.int .i64 p, mv f, .int .i64 1, .int .i64 1] w fun e w' => e = .returned (.int .i64 (cofP p f 1 1)) ∧ Below w.heap.size w w' := by
  obtain ⟨W, hW, rW, hbW⟩ : ∃ W, W = w.alloc (.cells #[.int .u8 (f 0 0), .int .u8 (f 0 1), .int .u8 (f 0 2), .int .u8 (f 1 0), .int .u8 (f 1 1), .int .u8 (f 1 2), .int .u8 (f 2 0), .int .u8 (f 2 1), .int .u8 (f 2 2)] 37) ∧ W.rowIs w.heap.size 37 9 (mF f) ∧ Below w.heap.size w W := ⟨_, rfl, mbox w f _, ebox1 _ _⟩
  obtain ⟨⟨c0, c1, c2⟩, ⟨c3, c4, c5⟩, c6, c7, c8⟩ := mcells rW
  have HC := Lib.hid (show cofP p f 1 1 = (f 2 2 * f 0 0 + (p - 1) * (f 2 0 * f 0 2)) % p from rfl)
  have b0 := hf 2 (by omega) 0 (by omega)
  have b1 := hf 2 (by omega) 1 (by omega)
  have b2 := hf 2 (by omega) 2 (by omega)
  have e0 := hf 0 (by omega) 0 (by omega)
  have e1 := hf 0 (by omega) 1 (by omega)
  have e2 := hf 0 (by omega) 2 (by omega)
  clear hf
  have s1 : IntKind.i64.wrap 1 = 1 := by decide
  have s2 : IntKind.i64.wrap 2 = 2 := by decide
  have s3 : IntKind.i64.wrap 3 = 3 := by decide
  have s4 : IntKind.i64.wrap 4 = 4 := by decide
  have t1 : (1 : Int).tmod 3 = 1 := by decide
  have t2 : (2 : Int).tmod 3 = 2 := by decide
  have t3 : (3 : Int).tmod 3 = 0 := by decide
  have t4 : (4 : Int).tmod 3 = 1 := by decide
  unfold mv
  go_enter Try.func210, Try.ntmps210
  go_upto_region 1 with fail
  rw [← hW]
  clear hW
  have hlt := rW.lt
  generalize f 2 0 = x at *
  generalize f 2 1 = y at *
  generalize f 2 2 = z at *
  generalize f 0 0 = u at *
  generalize f 0 1 = v at *
  generalize f 0 2 = t at *
  have KK := Lib.hid (fun w' (h : Below W.heap.size W w') => show w'.cell? ⟨w.heap.size, 6, none⟩ = some (.int .u8 x) ∧ w'.cell? ⟨w.heap.size, 7, none⟩ = some (.int .u8 y) ∧ w'.cell? ⟨w.heap.size, 8, none⟩ = some (.int .u8 z) ∧ w'.cell? ⟨w.heap.size, 0, none⟩ = some (.int .u8 u) ∧ w'.cell? ⟨w.heap.size, 1, none⟩ = some (.int .u8 v) ∧ w'.cell? ⟨w.heap.size, 2, none⟩ = some (.int .u8 t) from
    ⟨(h.cell (p := ⟨_, _, none⟩) hlt).trans c6, (h.cell (p := ⟨_, _, none⟩) hlt).trans c7, (h.cell (p := ⟨_, _, none⟩) hlt).trans c8, (h.cell (p := ⟨_, _, none⟩) hlt).trans c0, (h.cell (p := ⟨_, _, none⟩) hlt).trans c1, (h.cell (p := ⟨_, _, none⟩) hlt).trans c2⟩)
  go_cut [9, 10] (fun s9 s10 wx => ∃ ba bb, s9 = .pointer (some ⟨ba, 0, none⟩) ∧ s10 = .pointer (some ⟨bb, 0, none⟩) ∧ wx.rowIs ba 34 3 (r3F x y z) ∧ wx.rowIs bb 34 3 (r3F u v t) ∧ Below W.heap.size W wx)
  case first =>
    go_region_held3 (fun w' => w'.cell? ⟨w.heap.size, 6, none⟩ = some (.int .u8 x) ∧ w'.cell? ⟨w.heap.size, 7, none⟩ = some (.int .u8 y) ∧ w'.cell? ⟨w.heap.size, 8, none⟩ = some (.int .u8 z) ∧ w'.cell? ⟨w.heap.size, 0, none⟩ = some (.int .u8 u) ∧ w'.cell? ⟨w.heap.size, 1, none⟩ = some (.int .u8 v) ∧ w'.cell? ⟨w.heap.size, 2, none⟩ = some (.int .u8 t))
      (first | with_reducible exact KK.out _ (Below.refl _ _).drew | with_reducible exact KK.out _ (ebox1 _ _) | with_reducible exact KK.out _ (ebox1 _ _).drew | with_reducible exact KK.out _ (ebox2 _ _ _) | with_reducible exact KK.out _ (ebox2 _ _ _).drew)
      (fail)
    all_goals
      go_wp2_with fail
      go_meet
      first
        | exact ⟨W.heap.size, W.heap.size + 1, rfl, rfl, (r3row W x y z).alloc _, r3row1 W _ u v t, (ebox2 _ _ _).drew⟩
        | exact ⟨W.heap.size + 1, W.heap.size, rfl, rfl, r3row1 W _ x y z, (r3row W u v t).alloc _, (ebox2 _ _ _).drew⟩
  case rest =>
    obtain ⟨ba, bb, rfl, rfl, ra, rb, hbx⟩ := hcut
    obtain ⟨m0, m1, m2⟩ := r3cells ra
    obtain ⟨n0, n1, n2⟩ := r3cells rb
    obtain ⟨f0, f1⟩ := eprod_fit h13 (a := z) (b := u) b2 e0
    obtain ⟨g0, g1⟩ := eprod_fit h13 (a := x) (b := t) b0 e2
    have q0 : 0 ≤ (p - 1) * (x * t) := Int.mul_nonneg (by omega) g0
    have q1 : (p - 1) * (x * t) ≤ 12 * 169 := Int.mul_le_mul (by omega) g1 g0 (by omega)
    have hb2 := hbW.trans (hbx.mono hbW.size)
    clear KK c0 c1 c2 c3 c4 c5 c6 c7 c8 ra rb hbx hbW rW
    go_wp2_with fail
    go_quiet (fail)
    go_wp2_with fail
    go_quiet (fail)
    go_wp2_with fail
    go_ret
    exact ⟨by rw [HC.out]; rfl, below_drewN hb2 _⟩

set_option maxRecDepth 8000 in
set_option maxHeartbeats 4000000 in
theorem cof_12 (p : Int) (f : Nat → Nat → Int) (w : World) (h2 : 2 ≤ p) (h13 : p ≤ 13) (hf : ∀ i, i < 3 → ∀ j, j < 3 → 0 ≤ f i j ∧ f i j < p) :
    Calls Try.prog 210 #[.int .i64 p, mv f, .int .i64 1, .int .i64 2] w fun e w' => e = .returned (.int .i64 (cofP p f 1 2)) ∧ Below w.heap.size w w' := by
  obtain ⟨W, hW, rW, hbW⟩ : ∃ W, W = w.alloc (.cells #[.int .u8 (f 0 0), .int .u8 (f 0 1), .int .u8 (f 0 2), .int .u8 (f 1 0), .int .u8 (f 1 1), .int .u8 (f 1 2), .int .u8 (f 2 0), .int .u8 (f 2 1), .int .u8 (f 2 2)] 37) ∧ W.rowIs w.heap.size 37 9 (mF f) ∧ Below w.heap.size w W := ⟨_, rfl, mbox w f _, ebox1 _ _⟩
  obtain ⟨⟨c0, c1, c2⟩, ⟨c3, c4, c5⟩, c6, c7, c8⟩ := mcells rW
  have HC := Lib.hid (show cofP p f 1 2 = (f 2 0 * f 0 1 + (p - 1) * (f 2 1 * f 0 0)) % p from rfl)
  have b0 := hf 2 (by omega) 0 (by omega)
  have b1 := hf 2 (by omega) 1 (by omega)
  have b2 := hf 2 (by omega) 2 (by omega)
  have e0 := hf 0 (by omega) 0 (by omega)
  have e1 := hf 0 (by omega) 1 (by omega)
  have e2 := hf 0 (by omega) 2 (by omega)
  clear hf
  have s1 : IntKind.i64.wrap 1 = 1 := by decide
  have s2 : IntKind.i64.wrap 2 = 2 := by decide
  have s3 : IntKind.i64.wrap 3 = 3 := by decide
  have s4 : IntKind.i64.wrap 4 = 4 := by decide
  have t1 : (1 : Int).tmod 3 = 1 := by decide
  have t2 : (2 : Int).tmod 3 = 2 := by decide
  have t3 : (3 : Int).tmod 3 = 0 := by decide
  have t4 : (4 : Int).tmod 3 = 1 := by decide
  unfold mv
  go_enter Try.func210, Try.ntmps210
  go_upto_region 1 with fail
  rw [← hW]
  clear hW
  have hlt := rW.lt
  generalize f 2 0 = x at *
  generalize f 2 1 = y at *
  generalize f 2 2 = z at *
  generalize f 0 0 = u at *
  generalize f 0 1 = v at *
  generalize f 0 2 = t at *
  have KK := Lib.hid (fun w' (h : Below W.heap.size W w') => show w'.cell? ⟨w.heap.size, 6, none⟩ = some (.int .u8 x) ∧ w'.cell? ⟨w.heap.size, 7, none⟩ = some (.int .u8 y) ∧ w'.cell? ⟨w.heap.size, 8, none⟩ = some (.int .u8 z) ∧ w'.cell? ⟨w.heap.size, 0, none⟩ = some (.int .u8 u) ∧ w'.cell? ⟨w.heap.size, 1, none⟩ = some (.int .u8 v) ∧ w'.cell? ⟨w.heap.size, 2, none⟩ = some (.int .u8 t) from
    ⟨(h.cell (p := ⟨_, _, none⟩) hlt).trans c6, (h.cell (p := ⟨_, _, none⟩) hlt).trans c7, (h.cell (p := ⟨_, _, none⟩) hlt).trans c8, (h.cell (p := ⟨_, _, none⟩) hlt).trans c0, (h.cell (p := ⟨_, _, none⟩) hlt).trans c1, (h.cell (p := ⟨_, _, none⟩) hlt).trans c2⟩)
  go_cut [9, 10] (fun s9 s10 wx => ∃ ba bb, s9 = .pointer (some ⟨ba, 0, none⟩) ∧ s10 = .pointer (some ⟨bb, 0, none⟩) ∧ wx.rowIs ba 34 3 (r3F x y z) ∧ wx.rowIs bb 34 3 (r3F u v t) ∧ Below W.heap.size W wx)
  case first =>
    go_region_held3 (fun w' => w'.cell? ⟨w.heap.size, 6, none⟩ = some (.int .u8 x) ∧ w'.cell? ⟨w.heap.size, 7, none⟩ = some (.int .u8 y) ∧ w'.cell? ⟨w.heap.size, 8, none⟩ = some (.int .u8 z) ∧ w'.cell? ⟨w.heap.size, 0, none⟩ = some (.int .u8 u) ∧ w'.cell? ⟨w.heap.size, 1, none⟩ = some (.int .u8 v) ∧ w'.cell? ⟨w.heap.size, 2, none⟩ = some (.int .u8 t))
      (first | with_reducible exact KK.out _ (Below.refl _ _).drew | with_reducible exact KK.out _ (ebox1 _ _) | with_reducible exact KK.out _ (ebox1 _ _).drew | with_reducible exact KK.out _ (ebox2 _ _ _) | with_reducible exact KK.out _ (ebox2 _ _ _).drew)
      (fail)
    all_goals
      go_wp2_with fail
      go_meet
      first
        | exact ⟨W.heap.size, W.heap.size + 1, rfl, rfl, (r3row W x y z).alloc _, r3row1 W _ u v t, (ebox2 _ _ _).drew⟩
        | exact ⟨W.heap.size + 1, W.heap.size, rfl, rfl, r3row1 W _ x y z, (r3row W u v t).alloc _, (ebox2 _ _ _).drew⟩
  case rest =>
    obtain ⟨ba, bb, rfl, rfl, ra, rb, hbx⟩ := hcut
    obtain ⟨m0, m1, m2⟩ := r3cells ra
    obtain ⟨n0, n1, n2⟩ := r3cells rb
    obtain ⟨f0, f1⟩ := eprod_fit h13 (a := x) (b := v) b0 e1
    obtain ⟨g0, g1⟩ := eprod_fit h13 (a := y) (b := u) b1 e0
    have q0 : 0 ≤ (p - 1) * (y * u) := Int.mul_nonneg (by omega) g0
    have q1 : (p - 1) * (y * u) ≤ 12 * 169 := Int.mul_le_mul (by omega) g1 g0 (by omega)
    have hb2 := hbW.trans (hbx.mono hbW.size)
    clear KK c0 c1 c2 c3 c4 c5 c6 c7 c8 ra rb hbx hbW rW
    go_wp2_with fail
    go_quiet (fail)
    go_wp2_with fail
    go_quiet (fail)
    go_wp2_with fail
    go_ret
    exact ⟨by rw [HC.out]; rfl, below_drewN hb2 _⟩

set_option maxRecDepth 8000 in
set_option maxHeartbeats 4000000 in
theorem cof_20 (p : Int) (f : Nat → Nat → Int) (w : World) (h2 : 2 ≤ p) (h13 : p ≤ 13) (hf : ∀ i, i < 3 → ∀ j, j < 3 → 0 ≤ f i j ∧ f i j < p) :
    Calls Try.prog 210 #[.int .i64 p, mv f, .int .i64 2, .int .i64 0] w fun e w' => e = .returned (.int .i64 (cofP p f 2 0)) ∧ Below w.heap.size w w' := by
  obtain ⟨W, hW, rW, hbW⟩ : ∃ W, W = w.alloc (.cells #[.int .u8 (f 0 0), .int .u8 (f 0 1), .int .u8 (f 0 2), .int .u8 (f 1 0), .int .u8 (f 1 1), .int .u8 (f 1 2), .int .u8 (f 2 0), .int .u8 (f 2 1), .int .u8 (f 2 2)] 37) ∧ W.rowIs w.heap.size 37 9 (mF f) ∧ Below w.heap.size w W := ⟨_, rfl, mbox w f _, ebox1 _ _⟩
  obtain ⟨⟨c0, c1, c2⟩, ⟨c3, c4, c5⟩, c6, c7, c8⟩ := mcells rW
  have HC := Lib.hid (show cofP p f 2 0 = (f 0 1 * f 1 2 + (p - 1) * (f 0 2 * f 1 1)) % p from rfl)
  have b0 := hf 0 (by omega) 0 (by omega)
  have b1 := hf 0 (by omega) 1 (by omega)
  have b2 := hf 0 (by omega) 2 (by omega)
  have e0 := hf 1 (by omega) 0 (by omega)
  have e1 := hf 1 (by omega) 1 (by omega)
  have e2 := hf 1 (by omega) 2 (by omega)
  clear hf
  have s1 : IntKind.i64.wrap 1 = 1 := by decide
  have s2 : IntKind.i64.wrap 2 = 2 := by decide
  have s3 : IntKind.i64.wrap 3 = 3 := by decide
  have s4 : IntKind.i64.wrap 4 = 4 := by decide
  have t1 : (1 : Int).tmod 3 = 1 := by decide
  have t2 : (2 : Int).tmod 3 = 2 := by decide
  have t3 : (3 : Int).tmod 3 = 0 := by decide
  have t4 : (4 : Int).tmod 3 = 1 := by decide
  unfold mv
  go_enter Try.func210, Try.ntmps210
  go_upto_region 1 with fail
  rw [← hW]
  clear hW
  have hlt := rW.lt
  generalize f 0 0 = x at *
  generalize f 0 1 = y at *
  generalize f 0 2 = z at *
  generalize f 1 0 = u at *
  generalize f 1 1 = v at *
  generalize f 1 2 = t at *
  have KK := Lib.hid (fun w' (h : Below W.heap.size W w') => show w'.cell? ⟨w.heap.size, 0, none⟩ = some (.int .u8 x) ∧ w'.cell? ⟨w.heap.size, 1, none⟩ = some (.int .u8 y) ∧ w'.cell? ⟨w.heap.size, 2, none⟩ = some (.int .u8 z) ∧ w'.cell? ⟨w.heap.size, 3, none⟩ = some (.int .u8 u) ∧ w'.cell? ⟨w.heap.size, 4, none⟩ = some (.int .u8 v) ∧ w'.cell? ⟨w.heap.size, 5, none⟩ = some (.int .u8 t) from
    ⟨(h.cell (p := ⟨_, _, none⟩) hlt).trans c0, (h.cell (p := ⟨_, _, none⟩) hlt).trans c1, (h.cell (p := ⟨_, _, none⟩) hlt).trans c2, (h.cell (p := ⟨_, _, none⟩) hlt).trans c3, (h.cell (p := ⟨_, _, none⟩) hlt).trans c4, (h.cell (p := ⟨_, _, none⟩) hlt).trans c5⟩)
  go_cut [9, 10] (fun s9 s10 wx => ∃ ba bb, s9 = .pointer (some ⟨ba, 0, none⟩) ∧ s10 = .pointer (some ⟨bb, 0, none⟩) ∧ wx.rowIs ba 34 3 (r3F x y z) ∧ wx.rowIs bb 34 3 (r3F u v t) ∧ Below W.heap.size W wx)
  case first =>
    go_region_held3 (fun w' => w'.cell? ⟨w.heap.size, 0, none⟩ = some (.int .u8 x) ∧ w'.cell? ⟨w.heap.size, 1, none⟩ = some (.int .u8 y) ∧ w'.cell? ⟨w.heap.size, 2, none⟩ = some (.int .u8 z) ∧ w'.cell? ⟨w.heap.size, 3, none⟩ = some (.int .u8 u) ∧ w'.cell? ⟨w.heap.size, 4, none⟩ = some (.int .u8 v) ∧ w'.cell? ⟨w.heap.size, 5, none⟩ = some (.int .u8 t))
      (first | with_reducible exact KK.out _ (Below.refl _ _).drew | with_reducible exact KK.out _ (ebox1 _ _) | with_reducible exact KK.out _ (ebox1 _ _).drew | with_reducible exact KK.out _ (ebox2 _ _ _) | with_reducible exact KK.out _ (ebox2 _ _ _).drew)
      (fail)
    all_goals
      go_wp2_with fail
      go_meet
      first
        | exact ⟨W.heap.size, W.heap.size + 1, rfl, rfl, (r3row W x y z).alloc _, r3row1 W _ u v t, (ebox2 _ _ _).drew⟩
        | exact ⟨W.heap.size + 1, W.heap.size, rfl, rfl, r3row1 W _ x y z, (r3row W u v t).alloc _, (ebox2 _ _ _).drew⟩
  case rest =>
    obtain ⟨ba, bb, rfl, rfl, ra, rb, hbx⟩ := hcut
    obtain ⟨m0, m1, m2⟩ := r3cells ra
    obtain ⟨n0, n1, n2⟩ := r3cells rb
    obtain ⟨f0, f1⟩ := eprod_fit h13 (a := y) (b := t) b1 e2
    obtain ⟨g0, g1⟩ := eprod_fit h13 (a := z) (b := v) b2 e1
    have q0 : 0 ≤ (p - 1) * (z * v) := Int.mul_nonneg (by omega) g0
    have q1 : (p - 1) * (z * v) ≤ 12 * 169 := Int.mul_le_mul (by omega) g1 g0 (by omega)
    have hb2 := hbW.trans (hbx.mono hbW.size)
    clear KK c0 c1 c2 c3 c4 c5 c6 c7 c8 ra rb hbx hbW rW
    go_wp2_with fail
    go_quiet (fail)
    go_wp2_with fail
    go_quiet (fail)
    go_wp2_with fail
    go_ret
    exact ⟨by rw [HC.out]; rfl, below_drewN hb2 _⟩

set_option maxRecDepth 8000 in
set_option maxHeartbeats 4000000 in
theorem cof_21 (p : Int) (f : Nat → Nat → Int) (w : World) (h2 : 2 ≤ p) (h13 : p ≤ 13) (hf : ∀ i, i < 3 → ∀ j, j < 3 → 0 ≤ f i j ∧ f i j < p) :
    Calls Try.prog 210 #[.int .i64 p, mv f, .int .i64 2, .int .i64 1] w fun e w' => e = .returned (.int .i64 (cofP p f 2 1)) ∧ Below w.heap.size w w' := by
  obtain ⟨W, hW, rW, hbW⟩ : ∃ W, W = w.alloc (.cells #[.int .u8 (f 0 0), .int .u8 (f 0 1), .int .u8 (f 0 2), .int .u8 (f 1 0), .int .u8 (f 1 1), .int .u8 (f 1 2), .int .u8 (f 2 0), .int .u8 (f 2 1), .int .u8 (f 2 2)] 37) ∧ W.rowIs w.heap.size 37 9 (mF f) ∧ Below w.heap.size w W := ⟨_, rfl, mbox w f _, ebox1 _ _⟩
  obtain ⟨⟨c0, c1, c2⟩, ⟨c3, c4, c5⟩, c6, c7, c8⟩ := mcells rW
  have HC := Lib.hid (show cofP p f 2 1 = (f 0 2 * f 1 0 + (p - 1) * (f 0 0 * f 1 2)) % p from rfl)
  have b0 := hf 0 (by omega) 0 (by omega)
  have b1 := hf 0 (by omega) 1 (by omega)
  have b2 := hf 0 (by omega) 2 (by omega)
  have e0 := hf 1 (by omega) 0 (by omega)
  have e1 := hf 1 (by omega) 1 (by omega)
  have e2 := hf 1 (by omega) 2 (by omega)
  clear hf
  have s1 : IntKind.i64.wrap 1 = 1 := by decide
  have s2 : IntKind.i64.wrap 2 = 2 := by decide
  have s3 : IntKind.i64.wrap 3 = 3 := by decide
  have s4 : IntKind.i64.wrap 4 = 4 := by decide
  have t1 : (1 : Int).tmod 3 = 1 := by decide
  have t2 : (2 : Int).tmod 3 = 2 := by decide
  have t3 : (3 : Int).tmod 3 = 0 := by decide
  have t4 : (4 : Int).tmod 3 = 1 := by decide
  unfold mv
  go_enter Try.func210, Try.ntmps210
  go_upto_region 1 with fail
  rw [← hW]
  clear hW
  have hlt := rW.lt
  generalize f 0 0 = x at *
  generalize f 0 1 = y at *
  generalize f 0 2 = z at *
  generalize f 1 0 = u at *
  generalize f 1 1 = v at *
  generalize f 1 2 = t at *
  have KK := Lib.hid (fun w' (h : Below W.heap.size W w') => show w'.cell? ⟨w.heap.size, 0, none⟩ = some (.int .u8 x) ∧ w'.cell? ⟨w.heap.size, 1, none⟩ = some (.int .u8 y) ∧ w'.cell? ⟨w.heap.size, 2, none⟩ = some (.int .u8 z) ∧ w'.cell? ⟨w.heap.size, 3, none⟩ = some (.int .u8 u) ∧ w'.cell? ⟨w.heap.size, 4, none⟩ = some (.int .u8 v) ∧ w'.cell? ⟨w.heap.size, 5, none⟩ = some (.int .u8 t) from
    ⟨(h.cell (p := ⟨_, _, none⟩) hlt).trans c0, (h.cell (p := ⟨_, _, none⟩) hlt).trans c1, (h.cell (p := ⟨_, _, none⟩) hlt).trans c2, (h.cell (p := ⟨_, _, none⟩) hlt).trans c3, (h.cell (p := ⟨_, _, none⟩) hlt).trans c4, (h.cell (p := ⟨_, _, none⟩) hlt).trans c5⟩)
  go_cut [9, 10] (fun s9 s10 wx => ∃ ba bb, s9 = .pointer (some ⟨ba, 0, none⟩) ∧ s10 = .pointer (some ⟨bb, 0, none⟩) ∧ wx.rowIs ba 34 3 (r3F x y z) ∧ wx.rowIs bb 34 3 (r3F u v t) ∧ Below W.heap.size W wx)
  case first =>
    go_region_held3 (fun w' => w'.cell? ⟨w.heap.size, 0, none⟩ = some (.int .u8 x) ∧ w'.cell? ⟨w.heap.size, 1, none⟩ = some (.int .u8 y) ∧ w'.cell? ⟨w.heap.size, 2, none⟩ = some (.int .u8 z) ∧ w'.cell? ⟨w.heap.size, 3, none⟩ = some (.int .u8 u) ∧ w'.cell? ⟨w.heap.size, 4, none⟩ = some (.int .u8 v) ∧ w'.cell? ⟨w.heap.size, 5, none⟩ = some (.int .u8 t))
      (first | with_reducible exact KK.out _ (Below.refl _ _).drew | with_reducible exact KK.out _ (ebox1 _ _) | with_reducible exact KK.out _ (ebox1 _ _).drew | with_reducible exact KK.out _ (ebox2 _ _ _) | with_reducible exact KK.out _ (ebox2 _ _ _).drew)
      (fail)
    all_goals
      go_wp2_with fail
      go_meet
      first
        | exact ⟨W.heap.size, W.heap.size + 1, rfl, rfl, (r3row W x y z).alloc _, r3row1 W _ u v t, (ebox2 _ _ _).drew⟩
        | exact ⟨W.heap.size + 1, W.heap.size, rfl, rfl, r3row1 W _ x y z, (r3row W u v t).alloc _, (ebox2 _ _ _).drew⟩
  case rest =>
    obtain ⟨ba, bb, rfl, rfl, ra, rb, hbx⟩ := hcut
    obtain ⟨m0, m1, m2⟩ := r3cells ra
    obtain ⟨n0, n1, n2⟩ := r3cells rb
    obtain ⟨f0, f1⟩ := eprod_fit h13 (a := z) (b := u) b2 e0
    obtain ⟨g0, g1⟩ := eprod_fit h13 (a := x) (b := t) b0 e2
    have q0 : 0 ≤ (p - 1) * (x * t) := Int.mul_nonneg (by omega) g0
    have q1 : (p - 1) * (x * t) ≤ 12 * 169 := Int.mul_le_mul (by omega) g1 g0 (by omega)
    have hb2 := hbW.trans (hbx.mono hbW.size)
    clear KK c0 c1 c2 c3 c4 c5 c6 c7 c8 ra rb hbx hbW rW
    go_wp2_with fail
    go_quiet (fail)
    go_wp2_with fail
    go_quiet (fail)
    go_wp2_with fail
    go_ret
    exact ⟨by rw [HC.out]; rfl, below_drewN hb2 _⟩

set_option maxRecDepth 8000 in
set_option maxHeartbeats 4000000 in
theorem cof_22 (p : Int) (f : Nat → Nat → Int) (w : World) (h2 : 2 ≤ p) (h13 : p ≤ 13) (hf : ∀ i, i < 3 → ∀ j, j < 3 → 0 ≤ f i j ∧ f i j < p) :
    Calls Try.prog 210 #[.int .i64 p, mv f, .int .i64 2, .int .i64 2] w fun e w' => e = .returned (.int .i64 (cofP p f 2 2)) ∧ Below w.heap.size w w' := by
  obtain ⟨W, hW, rW, hbW⟩ : ∃ W, W = w.alloc (.cells #[.int .u8 (f 0 0), .int .u8 (f 0 1), .int .u8 (f 0 2), .int .u8 (f 1 0), .int .u8 (f 1 1), .int .u8 (f 1 2), .int .u8 (f 2 0), .int .u8 (f 2 1), .int .u8 (f 2 2)] 37) ∧ W.rowIs w.heap.size 37 9 (mF f) ∧ Below w.heap.size w W := ⟨_, rfl, mbox w f _, ebox1 _ _⟩
  obtain ⟨⟨c0, c1, c2⟩, ⟨c3, c4, c5⟩, c6, c7, c8⟩ := mcells rW
  have HC := Lib.hid (show cofP p f 2 2 = (f 0 0 * f 1 1 + (p - 1) * (f 0 1 * f 1 0)) % p from rfl)
  have b0 := hf 0 (by omega) 0 (by omega)
  have b1 := hf 0 (by omega) 1 (by omega)
  have b2 := hf 0 (by omega) 2 (by omega)
  have e0 := hf 1 (by omega) 0 (by omega)
  have e1 := hf 1 (by omega) 1 (by omega)
  have e2 := hf 1 (by omega) 2 (by omega)
  clear hf
  have s1 : IntKind.i64.wrap 1 = 1 := by decide
  have s2 : IntKind.i64.wrap 2 = 2 := by decide
  have s3 : IntKind.i64.wrap 3 = 3 := by decide
  have s4 : IntKind.i64.wrap 4 = 4 := by decide
  have t1 : (1 : Int).tmod 3 = 1 := by decide
  have t2 : (2 : Int).tmod 3 = 2 := by decide
  have t3 : (3 : Int).tmod 3 = 0 := by decide
  have t4 : (4 : Int).tmod 3 = 1 := by decide
  unfold mv
  go_enter Try.func210, Try.ntmps210
  go_upto_region 1 with fail
  rw [← hW]
  clear hW
  have hlt := rW.lt
  generalize f 0 0 = x at *
  generalize f 0 1 = y at *
  generalize f 0 2 = z at *
  generalize f 1 0 = u at *
  generalize f 1 1 = v at *
  generalize f 1 2 = t at *
  have KK := Lib.hid (fun w' (h : Below W.heap.size W w') => show w'.cell? ⟨w.heap.size, 0, none⟩ = some (.int .u8 x) ∧ w'.cell? ⟨w.heap.size, 1, none⟩ = some (.int .u8 y) ∧ w'.cell? ⟨w.heap.size, 2, none⟩ = some (.int .u8 z) ∧ w'.cell? ⟨w.heap.size, 3, none⟩ = some (.int .u8 u) ∧ w'.cell? ⟨w.heap.size, 4, none⟩ = some (.int .u8 v) ∧ w'.cell? ⟨w.heap.size, 5, none⟩ = some (.int .u8 t) from
    ⟨(h.cell (p := ⟨_, _, none⟩) hlt).trans c0, (h.cell (p := ⟨_, _, none⟩) hlt).trans c1, (h.cell (p := ⟨_, _, none⟩) hlt).trans c2, (h.cell (p := ⟨_, _, none⟩) hlt).trans c3, (h.cell (p := ⟨_, _, none⟩) hlt).trans c4, (h.cell (p := ⟨_, _, none⟩) hlt).trans c5⟩)
  go_cut [9, 10] (fun s9 s10 wx => ∃ ba bb, s9 = .pointer (some ⟨ba, 0, none⟩) ∧ s10 = .pointer (some ⟨bb, 0, none⟩) ∧ wx.rowIs ba 34 3 (r3F x y z) ∧ wx.rowIs bb 34 3 (r3F u v t) ∧ Below W.heap.size W wx)
  case first =>
    go_region_held3 (fun w' => w'.cell? ⟨w.heap.size, 0, none⟩ = some (.int .u8 x) ∧ w'.cell? ⟨w.heap.size, 1, none⟩ = some (.int .u8 y) ∧ w'.cell? ⟨w.heap.size, 2, none⟩ = some (.int .u8 z) ∧ w'.cell? ⟨w.heap.size, 3, none⟩ = some (.int .u8 u) ∧ w'.cell? ⟨w.heap.size, 4, none⟩ = some (.int .u8 v) ∧ w'.cell? ⟨w.heap.size, 5, none⟩ = some (.int .u8 t))
      (first | with_reducible exact KK.out _ (Below.refl _ _).drew | with_reducible exact KK.out _ (ebox1 _ _) | with_reducible exact KK.out _ (ebox1 _ _).drew | with_reducible exact KK.out _ (ebox2 _ _ _) | with_reducible exact KK.out _ (ebox2 _ _ _).drew)
      (fail)
    all_goals
      go_wp2_with fail
      go_meet
      first
        | exact ⟨W.heap.size, W.heap.size + 1, rfl, rfl, (r3row W x y z).alloc _, r3row1 W _ u v t, (ebox2 _ _ _).drew⟩
        | exact ⟨W.heap.size + 1, W.heap.size, rfl, rfl, r3row1 W _ x y z, (r3row W u v t).alloc _, (ebox2 _ _ _).drew⟩
  case rest =>
    obtain ⟨ba, bb, rfl, rfl, ra, rb, hbx⟩ := hcut
    obtain ⟨m0, m1, m2⟩ := r3cells ra
    obtain ⟨n0, n1, n2⟩ := r3cells rb
    obtain ⟨f0, f1⟩ := eprod_fit h13 (a := x) (b := v) b0 e1
    obtain ⟨g0, g1⟩ := eprod_fit h13 (a := y) (b := u) b1 e0
    have q0 : 0 ≤ (p - 1) * (y * u) := Int.mul_nonneg (by omega) g0
    have q1 : (p - 1) * (y * u) ≤ 12 * 169 := Int.mul_le_mul (by omega) g1 g0 (by omega)
    have hb2 := hbW.trans (hbx.mono hbW.size)
    clear KK c0 c1 c2 c3 c4 c5 c6 c7 c8 ra rb hbx hbW rW
    go_wp2_with fail
    go_quiet (fail)
    go_wp2_with fail
    go_quiet (fail)
    go_wp2_with fail
    go_ret
    exact ⟨by rw [HC.out]; rfl, below_drewN hb2 _⟩
end Go.Proofs.Ytbahejlgfpilnaa
namespace Go.Proofs.Ytbahejlgfpilnaa
open Go.RowKit Go.Sort EchM

theorem cof_row0 (p : Int) (f : Nat → Nat → Int) (j : Nat) (w : World) (hj : j < 3) (h2 : 2 ≤ p) (h13 : p ≤ 13) (hf : ∀ i, i < 3 → ∀ j, j < 3 → 0 ≤ f i j ∧ f i j < p) :
    Calls Try.prog 210 #[.int .i64 p, mv f, .int .i64 0, .int .i64 (j : Int)] w fun e w' => e = .returned (.int .i64 (cofP p f 0 j)) ∧ Below w.heap.size w w' := by
  have hj3 : j = 0 ∨ j = 1 ∨ j = 2 := by omega
  rcases hj3 with rfl | rfl | rfl
  · exact cof_00 p f w h2 h13 hf
  · exact cof_01 p f w h2 h13 hf
  · exact cof_02 p f w h2 h13 hf
theorem cof_any (p : Int) (f : Nat → Nat → Int) (i j : Nat) (w : World) (hi : i < 3) (hj : j < 3) (h2 : 2 ≤ p) (h13 : p ≤ 13) (hf : ∀ i, i < 3 → ∀ j, j < 3 → 0 ≤ f i j ∧ f i j < p) :
    Calls Try.prog 210 #[.int .i64 p, mv f, .int .i64 (i : Int), .int .i64 (j : Int)] w fun e w' => e = .returned (.int .i64 (cofP p f i j)) ∧ Below w.heap.size w w' := by
  have hi3 : i = 0 ∨ i = 1 ∨ i = 2 := by omega
  have hj3 : j = 0 ∨ j = 1 ∨ j = 2 := by omega
  rcases hi3 with rfl | rfl | rfl
  · exact cof_row0 p f j w hj h2 h13 hf
  · rcases hj3 with rfl | rfl | rfl
    · exact cof_10 p f w h2 h13 hf
    · exact cof_11 p f w h2 h13 hf
    · exact cof_12 p f w h2 h13 hf
  · rcases hj3 with rfl | rfl | rfl
    · exact cof_20 p f w h2 h13 hf
    · exact cof_21 p f w h2 h13 hf
    · exact cof_22 p f w h2 h13 hf
theorem full_bound {p : Int} {n : Nat} {g : Nat → Nat → Int} (h2 : 2 ≤ p) (hg : ∀ i, i < 3 → ∀ j, j < 3 → 0 ≤ g i j ∧ g i j < p) : ∀ i, i < 3 → ∀ j, j < 3 → 0 ≤ fullM n g i j ∧ fullM n g i j < p := fun i hi j hj => by
  unfold fullM
  split
  · omega
  · exact hg i hi j hj
/-- The sum of a determinant up to a column. -/
def dsum (p : Int) (f : Nat → Nat → Int) : Nat → Int
  | 0 => 0
  | j + 1 => dsum p f j + f 0 j * cofP p f 0 j
theorem cofP_bound {p : Int} (h2 : 2 ≤ p) (f : Nat → Nat → Int) (i j : Nat) : 0 ≤ cofP p f i j ∧ cofP p f i j < p := emod_small h2
theorem dsum_bound {p : Int} (h2 : 2 ≤ p) (h13 : p ≤ 13) {f : Nat → Nat → Int} (hf : ∀ i, i < 3 → ∀ j, j < 3 → 0 ≤ f i j ∧ f i j < p) : ∀ j, j ≤ 3 → 0 ≤ dsum p f j ∧ dsum p f j ≤ 169 * j
  | 0, _ => ⟨by simp [dsum], by simp [dsum]⟩
  | j + 1, hj => by
    have ih := dsum_bound h2 h13 hf j (by omega)
    obtain ⟨f0, f1⟩ := eprod_fit h13 (hf 0 (by omega) j (by omega)) (cofP_bound h2 f 0 j)
    rw [dsum]
    omega

set_option maxRecDepth 8000 in
set_option maxHeartbeats 4000000 in
theorem det_any (p : Int) (n : Nat) (g : Nat → Nat → Int) (w : World) (h2 : 2 ≤ p) (h13 : p ≤ 13) (h1 : 1 ≤ n) (h3 : n ≤ 3) (hg : ∀ i, i < 3 → ∀ j, j < 3 → 0 ≤ g i j ∧ g i j < p) :
    Calls Try.prog 144 #[.int .i64 p, .int .i64 (n : Int), mv g] w fun e w' => e = .returned (.int .i64 (detP p (fullM n g))) ∧ Below w.heap.size w w' := by
  have hF := full_bound (n := n) h2 hg
  have HM := Lib.hid (show mv g = .agg #[.int .u8 (g 0 0), .int .u8 (g 0 1), .int .u8 (g 0 2), .int .u8 (g 1 0), .int .u8 (g 1 1), .int .u8 (g 1 2), .int .u8 (g 2 0), .int .u8 (g 2 1), .int .u8 (g 2 2)] from rfl)
  obtain ⟨f, hf⟩ : ∃ f, fullM n g = f := ⟨_, rfl⟩
  have HM2 := Lib.hid (show mv f = .agg #[.int .u8 (f 0 0), .int .u8 (f 0 1), .int .u8 (f 0 2), .int .u8 (f 1 0), .int .u8 (f 1 1), .int .u8 (f 1 2), .int .u8 (f 2 0), .int .u8 (f 2 1), .int .u8 (f 2 2)] from rfl)
  have cF := fun w => filled_any n g w h1 h3
  rw [hf] at hF cF ⊢
  rw [HM.out] at cF ⊢
  rw [HM2.out] at cF
  have HF := Lib.hid hF
  have CF := Lib.hid cF
  have cC : ∀ (j : Nat) (w : World), j < 3 → Calls Try.prog 210 #[.int .i64 p, .agg #[.int .u8 (f 0 0), .int .u8 (f 0 1), .int .u8 (f 0 2), .int .u8 (f 1 0), .int .u8 (f 1 1), .int .u8 (f 1 2), .int .u8 (f 2 0), .int .u8 (f 2 1), .int .u8 (f 2 2)], .int .i64 0, .int .i64 (j : Int)] w fun e w' => e = .returned (.int .i64 (cofP p f 0 j)) ∧ Below w.heap.size w w' :=
    fun j w hj => cof_row0 p f j w hj h2 h13 hF
  have CC := Lib.hid cC
  have DB := Lib.hid (fun j hj => dsum_bound h2 h13 hF j hj)
  have HD := Lib.hid (show detP p f = dsum p f 3 % p by simp [detP, dsum])
  clear hf hF cF cC HM HM2
  go_enter Try.func144, Try.ntmps144
  go_wp2_with fail
  generalize hW : w.alloc _ = W
  have hbW : Below w.heap.size w W := by rw [← hW]; exact ebox1 _ _
  clear hW
  ((with_reducible refine (CF.out W).mono ?_); rintro e w1 ⟨rfl, hb1⟩)
  have hb2 := hbW.trans (hb1.mono hbW.size)
  obtain ⟨V, hV, rV, hbV⟩ : ∃ V, V = w1.alloc (.cells #[.int .u8 (f 0 0), .int .u8 (f 0 1), .int .u8 (f 0 2), .int .u8 (f 1 0), .int .u8 (f 1 1), .int .u8 (f 1 2), .int .u8 (f 2 0), .int .u8 (f 2 1), .int .u8 (f 2 2)] 37) ∧ V.rowIs w1.heap.size 37 9 (mF f) ∧ Below w1.heap.size w1 V := ⟨_, rfl, mbox w1 f _, ebox1 _ _⟩
  have hb3 := hb2.trans (hbV.mono hb2.size)
  go_wp2_with fail
  rw [← hV]
  clear hV
  go_loopw [8, 16] (fun s i wr => ∃ (k : Nat), k ≤ 3 ∧ s = .int .i64 (dsum p f k) ∧ i = .int .i64 k ∧ Below V.heap.size V wr) (fun _ i _ => 3 - (intOf i).toNat)
  case atStart => exact ⟨0, by omega, rfl, rfl, Below.refl _ _⟩
  case round =>
    obtain ⟨k, hk, rfl, rfl, hb⟩ := hrel
    have rr := erow_below rV hb rV.lt
    obtain ⟨d0, d1⟩ := DB.out k hk
    by_cases hlt : k < 3
    · have hlt' : (k : Int) < 3 := by omega
      have hI := idx3 (f 0) hlt
      obtain ⟨⟨c0, c1, c2⟩, ⟨c3, c4, c5⟩, c6, c7, c8⟩ := mcells rr
      obtain ⟨x0, x1⟩ := HF.out 0 (by omega) k hlt
      obtain ⟨y0, y1⟩ := cofP_bound h2 f 0 k
      obtain ⟨f0, f1⟩ := eprod_fit h13 ⟨x0, x1⟩ ⟨y0, y1⟩
      have HS := Lib.hid (show dsum p f k + f 0 k * cofP p f 0 k = dsum p f (k + 1) from rfl)
      clear rr
      go_wp2_with fail
      ((with_reducible refine (CC.out k _ hlt).mono ?_); rintro e w4 ⟨rfl, hb4⟩)
      have hb5 := hb.trans (hb4.mono hb.size)
      go_wp2_with fail
      go_roundw
      case rel => exact ⟨k + 1, by omega, by rw [← HS.out], by go_num, hb5⟩
      case measure => simp [intOf]; omega
    · obtain rfl : k = 3 := by omega
      go_wp2_with fail
      go_ret
      exact ⟨by rw [HD.out]; rfl, hb3.trans (hb.mono hb3.size)⟩
end Go.Proofs.Ytbahejlgfpilnaa
namespace Go.Proofs.Ytbahejlgfpilnaa
open Go.RowKit Go.Sort EchM

/-- Whether p, n and g make a matrix. -/
def isMat (p n : Int) (g : Nat → Nat → Int) : Bool := pB p && ((decide (1 ≤ n) && decide (n ≤ 3)) && (hasB p n g && decide (detP p (fullM n.toNat g) ≠ 0)))
theorem okC_bound {p n x : Int} {i j : Nat} (h : okC p n x i j = true) : x < p ∧ ((n ≤ i ∨ n ≤ j) → x = 0) := by
  unfold okC at h
  simp only [Bool.and_eq_true, Bool.or_eq_true, decide_eq_true_eq] at h
  omega
theorem hasB_all {p n : Int} {g : Nat → Nat → Int} (h : hasB p n g = true) : ∀ i, i < 3 → ∀ j, j < 3 → okC p n (g i j) i j = true := by
  unfold hasB at h
  simp only [Bool.and_eq_true] at h
  obtain ⟨⟨⟨⟨a, b⟩, c⟩, ⟨d, e⟩, f⟩, ⟨x, y⟩, z⟩ := h
  intro i hi j hj
  have hi3 : i = 0 ∨ i = 1 ∨ i = 2 := by omega
  have hj3 : j = 0 ∨ j = 1 ∨ j = 2 := by omega
  rcases hi3 with rfl | rfl | rfl <;> rcases hj3 with rfl | rfl | rfl <;> assumption
theorem hasB_bound {p n : Int} {g : Nat → Nat → Int} (hg : Byt g) (h : hasB p n g = true) : ∀ i, i < 3 → ∀ j, j < 3 → 0 ≤ g i j ∧ g i j < p := fun i hi j hj => ⟨(hg i hi j hj).1, (okC_bound (hasB_all h i hi j hj)).1⟩
theorem hasB_out {p : Int} {n : Nat} {g : Nat → Nat → Int} (h : hasB p n g = true) : Out0 n g := fun i hi j hj ho => (okC_bound (hasB_all h i hi j hj)).2 (by omega)

theorem iprime_is (p : Int) (w : World) (B : Bool) (h : pB p = B) : Calls Try.prog 90 #[.int .i64 p] w fun e w' => e = .returned (.bool B) ∧ w = w' := by rw [← h]; exact iprime p w
theorem ivars_is (n : Int) (w : World) (B : Bool) (h : (decide (1 ≤ n) && decide (n ≤ 3)) = B) : Calls Try.prog 91 #[.int .i64 n] w fun e w' => e = .returned (.bool B) ∧ w = w' := by rw [← h]; exact ivars n w
theorem has_is (p n : Int) (g : Nat → Nat → Int) (w : World) (hg : Byt g) (B : Bool) (h : hasB p n g = B) :
    Calls Try.prog 143 #[.int .i64 p, .int .i64 n, .agg #[.int .u8 (g 0 0), .int .u8 (g 0 1), .int .u8 (g 0 2), .int .u8 (g 1 0), .int .u8 (g 1 1), .int .u8 (g 1 2), .int .u8 (g 2 0), .int .u8 (g 2 1), .int .u8 (g 2 2)]] w fun e w' => e = .returned (.bool B) ∧ Below w.heap.size w w' := by rw [← h]; exact has_any p n g w hg
theorem det_is (p : Int) (n : Nat) (g : Nat → Nat → Int) (w : World) (h2 : 2 ≤ p) (h13 : p ≤ 13) (h1 : 1 ≤ n) (h3 : n ≤ 3) (hg : ∀ i, i < 3 → ∀ j, j < 3 → 0 ≤ g i j ∧ g i j < p) (D : Int) (h : detP p (fullM n g) = D) :
    Calls Try.prog 144 #[.int .i64 p, .int .i64 (n : Int), .agg #[.int .u8 (g 0 0), .int .u8 (g 0 1), .int .u8 (g 0 2), .int .u8 (g 1 0), .int .u8 (g 1 1), .int .u8 (g 1 2), .int .u8 (g 2 0), .int .u8 (g 2 1), .int .u8 (g 2 2)]] w fun e w' => e = .returned (.int .i64 D) ∧ Below w.heap.size w w' := by rw [← h]; exact det_any p n g w h2 h13 h1 h3 hg

set_option maxRecDepth 8000 in
set_option maxHeartbeats 4000000 in
theorem isMatrix_any (p n : Int) (g : Nat → Nat → Int) (w : World) (hg : Byt g) :
    Calls Try.prog 67 #[.int .i64 p, .int .i64 n, mv g] w fun e w' => e = .returned (.bool (isMat p n g)) ∧ Below w.heap.size w w' := by
  obtain ⟨W, hW, rW, hbW⟩ : ∃ W, W = w.alloc (.cells #[.int .u8 (g 0 0), .int .u8 (g 0 1), .int .u8 (g 0 2), .int .u8 (g 1 0), .int .u8 (g 1 1), .int .u8 (g 1 2), .int .u8 (g 2 0), .int .u8 (g 2 1), .int .u8 (g 2 2)] 37) ∧ W.rowIs w.heap.size 37 9 (mF g) ∧ Below w.heap.size w W := ⟨_, rfl, mbox w g _, ebox1 _ _⟩
  unfold mv
  cases hp : pB p
  · have HX := Lib.hid (show isMat p n g = false by simp [isMat, hp])
    have HP := Lib.hid hp
    clear hp hg
    go_enter Try.func67, Try.ntmps67
    go_wp2_with fail
    rw [← hW]
    clear hW
    ((with_reducible refine (iprime_is p _ false HP.out).mono ?_); rintro e w1 ⟨rfl, rfl⟩)
    go_wp2_with fail
    go_ret
    exact ⟨by rw [HX.out]; rfl, hbW⟩
  · have HP := Lib.hid hp
    cases hv : (decide (1 ≤ n) && decide (n ≤ 3))
    · have HX := Lib.hid (show isMat p n g = false by rw [isMat, hv]; simp)
      have HV := Lib.hid hv
      clear hp hg hv
      go_enter Try.func67, Try.ntmps67
      go_wp2_with fail
      rw [← hW]
      clear hW
      ((with_reducible refine (iprime_is p _ true HP.out).mono ?_); rintro e w1 ⟨rfl, rfl⟩)
      go_wp2_with fail
      ((with_reducible refine (ivars_is n _ false HV.out).mono ?_); rintro e w2 ⟨rfl, rfl⟩)
      go_wp2_with fail
      go_ret
      exact ⟨by rw [HX.out]; rfl, hbW⟩
    · have HV := Lib.hid hv
      obtain ⟨⟨⟨c0, c1, c2⟩, ⟨c3, c4, c5⟩, c6, c7, c8⟩⟩ := And.intro (mcells rW) trivial
      cases hh : hasB p n g
      · have HX := Lib.hid (show isMat p n g = false by rw [isMat, hh]; simp)
        have HH := Lib.hid hh
        clear hp hv hh
        have HG := Lib.hid hg
        clear hg
        go_enter Try.func67, Try.ntmps67
        go_wp2_with fail
        rw [← hW]
        clear hW
        ((with_reducible refine (iprime_is p _ true HP.out).mono ?_); rintro e w1 ⟨rfl, rfl⟩)
        go_wp2_with fail
        ((with_reducible refine (ivars_is n _ true HV.out).mono ?_); rintro e w2 ⟨rfl, rfl⟩)
        go_wp2_with fail
        ((with_reducible refine (has_is p n g _ HG.out false HH.out).mono ?_); rintro e w3 ⟨rfl, hb3⟩)
        go_wp2_with fail
        go_ret
        exact ⟨by rw [HX.out]; rfl, hbW.trans (hb3.mono hbW.size)⟩
      · have hb := hasB_bound hg hh
        obtain ⟨h2, h13⟩ := pB_le hp
        simp only [Bool.and_eq_true, decide_eq_true_eq] at hv
        obtain ⟨m, rfl⟩ := Int.eq_ofNat_of_zero_le (show 0 ≤ n by omega)
        obtain ⟨D, hD⟩ : ∃ D, detP p (fullM m g) = D := ⟨_, rfl⟩
        have HX := Lib.hid (show isMat p m g = decide (D ≠ 0) by rw [isMat, hp, hh, HV.out, ← hD]; simp)
        have HD := Lib.hid hD
        have HH := Lib.hid hh
        have HB := Lib.hid hb
        have HG := Lib.hid hg
        have hm1 : 1 ≤ m := by omega
        have hm3 : m ≤ 3 := by omega
        clear hp hv hh hb hg hD
        go_enter Try.func67, Try.ntmps67
        go_wp2_with fail
        rw [← hW]
        clear hW
        ((with_reducible refine (iprime_is p _ true HP.out).mono ?_); rintro e w1 ⟨rfl, rfl⟩)
        go_wp2_with fail
        ((with_reducible refine (ivars_is m _ true HV.out).mono ?_); rintro e w2 ⟨rfl, rfl⟩)
        go_wp2_with fail
        ((with_reducible refine (has_is p m g _ HG.out true HH.out).mono ?_); rintro e w3 ⟨rfl, hb3⟩)
        obtain ⟨⟨d0, d1, d2⟩, ⟨d3, d4, d5⟩, d6, d7, d8⟩ := mcells (erow_below rW hb3 rW.lt)
        clear c0 c1 c2 c3 c4 c5 c6 c7 c8
        go_wp2_with fail
        ((with_reducible refine (det_is p m g _ h2 h13 hm1 hm3 HB.out D HD.out).mono ?_); rintro e w4 ⟨rfl, hb4⟩)
        have hb5 := (hbW.trans (hb3.mono hbW.size)).trans (hb4.mono (Nat.le_trans hbW.size hb3.size))
        go_wp2_with fail
        go_ret
        have hD2 : (D != 0) = decide (D ≠ 0) := by by_cases h : D = 0 <;> simp [h]
        exact ⟨by rw [HX.out, ← hD2]; rfl, hb5⟩
end Go.Proofs.Ytbahejlgfpilnaa
namespace Go.Proofs.Ytbahejlgfpilnaa
open Go.RowKit Go.Sort EchM

theorem rowF_set {m : Nat} {F : Nat → Int} {j : Nat} (a : Int) : (rowF m F).set j a = rowF m fun q => if q = j then a else F q := by
  refine List.ext_getElem (by simp [rowF]) fun k h1 h2 => ?_
  simp only [rowF, List.getElem_set, List.getElem_map, List.getElem_range]
  by_cases e : j = k
  · subst e; simp
  · rw [if_neg e, if_neg (by omega)]
theorem rowF_congr {m : Nat} {F G : Nat → Int} (h : ∀ j, j < m → F j = G j) : rowF m F = rowF m G := by
  unfold rowF
  exact List.map_congr_left fun j hj => h j (by simpa using hj)
theorem vals_rowF {m : Nat} {F : Nat → Int} {j : Nat} (hj : j < m) : (valsI (rowF m F))[j]? = some (.int .i64 (F j)) := by
  rw [List.getElem?_eq_getElem (by simpa [valsI, rowF] using hj)]
  simp [valsI, rowF]
/-- A list of zeroes that the call has made. -/
theorem made_own (w : World) (base N : Nat) (hb : base ≤ w.heap.size) (hN : N ≤ 1000) {t : TypeId} (ht : t = 2) : OwnL (w.alloc (.cells (madeCells #[.int .i64 0] N) t)) base (.slice (some ⟨w.heap.size, 0, none⟩) N N) (rowF N fun _ => 0) := by
  subst ht
  have := World.ownsRow_lit (base := base) (e := 2) (size := 1) w (madeCells #[Value.int .i64 0] N) N hb (by unfold maxLen; omega) (by simp [madeCells])
  unfold OwnL
  rw [len_rowF]
  have e : (madeCells #[Value.int .i64 0] N).toList = valsI (rowF N fun _ => 0) := by
    rw [toList_madeCells_one]
    refine List.ext_getElem (by simp [valsI, rowF]) fun k h1 h2 => ?_
    simp [valsI, rowF]
  rwa [e] at this
/-- What the program reads behind the unit. -/
def behind (n : Nat) (R : List (List Int)) (i j : Nat) : Int := nth (R.getD i []) (n + j)
/-- The numbers that are copied, up to a place. -/
def upto (n : Nat) (R : List (List Int)) (i j : Nat) (i' j' : Nat) : Int := if (i' < i ∧ j' < n) ∨ (i' = i ∧ j' < j) then behind n R i' j' else 0

set_option maxRecDepth 8000 in
set_option maxHeartbeats 8000000 in
theorem sinv_any (p : Int) (n : Nat) (g : Nat → Nat → Int) (w : World) (hp : PrimeS p) (h1 : 1 ≤ n) (h3 : n ≤ 3) (hg : ∀ i, i < 3 → ∀ j, j < 3 → 0 ≤ g i j ∧ g i j < p) :
    Calls Try.prog 136 #[.int .i64 p, .int .i64 (n : Int), mv g] w fun e w' =>
      (∃ r b, e = .returned (.tuple #[mv r, .bool b]) ∧ (b = true ↔ okR n (echL p (gRows n g))) ∧ (b = true → r = cutM n (behind n (echL p (gRows n g))))) ∧ Below w.heap.size w w' := by
  obtain ⟨h2, h13⟩ := hp.le
  obtain ⟨i0, hi, hz0, hz1, hz2⟩ := info_parts einfoI
  obtain ⟨i1, hi', hz0', hz1', hz2'⟩ := info_parts einfoR
  obtain ⟨W, hW, rW, rR, hbW⟩ : ∃ W, W = (w.alloc (.cells #[.int .u8 (g 0 0), .int .u8 (g 0 1), .int .u8 (g 0 2), .int .u8 (g 1 0), .int .u8 (g 1 1), .int .u8 (g 1 2), .int .u8 (g 2 0), .int .u8 (g 2 1), .int .u8 (g 2 2)] 37)).alloc (.cells #[.int .u8 0, .int .u8 0, .int .u8 0, .int .u8 0, .int .u8 0, .int .u8 0, .int .u8 0, .int .u8 0, .int .u8 0] 37) ∧
      W.rowIs w.heap.size 37 9 (mF g) ∧ W.rowIs (w.heap.size + 1) 37 9 (mF fun _ _ => 0) ∧ Below w.heap.size w W := by
    refine ⟨_, rfl, (mbox w g _).alloc _, ?_, ebox2 _ _ _⟩
    have := mbox (w.alloc (.cells #[.int .u8 (g 0 0), .int .u8 (g 0 1), .int .u8 (g 0 2), .int .u8 (g 1 0), .int .u8 (g 1 1), .int .u8 (g 1 2), .int .u8 (g 2 0), .int .u8 (g 2 1), .int .u8 (g 2 2)] 37)) (fun _ _ => 0) 37
    simpa using this
  have hwr : IntKind.i64.wrap (2 * (n : Int)) = 2 * n := IntWalk.i64_in _ (by omega)
  have hmk : ∀ w, (Instr.makeSlice 52 (.int .i64 (2 * (n : Int))) (.int .i64 (2 * (n : Int)))).run Try.prog w = .ok (.slice (some ⟨w.heap.size, 0, none⟩) (2 * n) (2 * n)) (w.alloc (.cells (madeCells #[.int .i64 0] (2 * n)) 2)) := fun w => by
    have h := run_make (P := Try.prog) w 52 2 i0 _ Try.underlying52 hi hz0 .i64 .i64 (2 * (n : Int)) (2 * (n : Int)) (by omega) (by omega) (by rw [hz2]; omega) (by omega)
    rw [hz1, show (2 * (n : Int)).toNat = 2 * n by omega] at h
    simpa [Value.cells] using h
  have HMK := Lib.hid hmk
  have HG := Lib.hid hg
  clear hmk hg hi hz0 hz1 hz2
  have hWs : W.heap.size = w.heap.size + 2 := by rw [hW]; simp
  have hnil : ∀ t, t = 52 → OwnR (W.alloc (.cells #[] t)) W.heap.size (.slice (some ⟨w.heap.size + 2, 0, none⟩) 0 0) [] := fun t ht => by rw [← hWs]; exact OwnR.nil (Nat.le_refl _) ht
  have hWs1 : w.heap.size + 2 ≤ W.heap.size := by omega
  have HWS := Lib.hid hWs
  clear hWs
  have HNIL := Lib.hid hnil
  clear hnil
  unfold mv
  go_enter Try.func136, Try.ntmps136
  go_wp2_with fail
  rw [← hW]
  clear hW
  go_loopw [8, 9] (fun s i wr => ∃ (k : Nat) (G : List (List Int)) (sa : Option Addr) (sc : Nat), k ≤ n ∧ s = .slice sa G.length sc ∧ i = .int .i64 k ∧ Hid (G = (List.range k).map (gRow n g)) ∧ G.length ≤ k ∧ OwnR wr W.heap.size (.slice sa G.length sc) G ∧ Below W.heap.size W wr) (fun _ i _ => n - (intOf i).toNat)
  case atStart => exact ⟨0, [], _, _, by omega, rfl, rfl, Lib.hid rfl, by simp, HNIL.out _ rfl, ebox1 _ _⟩
  case round =>
    obtain ⟨k, G, sa, sc, hk, rfl, rfl, HU, hGl, hG, hb⟩ := hrel
    by_cases hlt : k < n
    · have hlt' : (k : Int) < (n : Int) := by omega
      obtain ⟨wo, rfl⟩ : ∃ wo : World, wo = wr := ⟨_, rfl⟩
      have hmk := HMK.out wo
      have hm0 := made_own wo wo.heap.size (2 * n) (Nat.le_refl _) (by omega) (t := 2) rfl
      have hm1 := ebox1 wo (.cells (madeCells #[.int .i64 0] (2 * n)) 2)
      have hs := hb.size
      go_wp2_with fail
      generalize wo.alloc _ = V at hm0 hm1 ⊢
      clear hmk
      go_loopw [11] (fun i wr => ∃ (j : Nat), j ≤ n ∧ i = .int .i64 j ∧ OwnL wr wo.heap.size (.slice (some ⟨wo.heap.size, 0, none⟩) (2 * n) (2 * n)) (rowF (2 * n) fun q => if q < j then g k q else 0) ∧ Below wo.heap.size wo wr) (fun i _ => n - (intOf i).toNat)
      case atStart => exact ⟨0, by omega, rfl, by simpa using hm0, hm1⟩
      case round =>
        obtain ⟨j, hj, rfl, hO, hB⟩ := hrel
        clear hm0 hm1
        by_cases hjt : j < n
        · have hjt' : (j : Int) < (n : Int) := by omega
          have hj6 : (j : Int) < ((2 * n : Nat) : Int) := by omega
          have l0 := mcell (erow_below rW (hb.trans (hB.mono hs)) rW.lt) (i := k) (j := j) (by omega) (by omega)
          have k0 := World.ownsRow.cellAt (n := 2 * n) (xs := valsI (rowF (2 * n) fun q => if q < j then g k q else 0)) (by simpa [OwnL, len_rowF] using hO) j (by omega)
          rw [vals_rowF (by omega), if_neg (by omega)] at k0
          have z0 := World.ownsRow.frozenAt (n := 2 * n) (xs := valsI (rowF (2 * n) fun q => if q < j then g k q else 0)) (by simpa [OwnL, len_rowF] using hO) j
          obtain ⟨x0, x1⟩ := HG.out k (by omega) j (by omega)
          have hst := hO.set j (g k j)
          rw [rowF_set] at hst
          have e : (rowF (2 * n) fun q => if q = j then g k j else if q < j then g k q else 0) = rowF (2 * n) fun q => if q < j + 1 then g k q else 0 := rowF_congr fun q hq => by
            by_cases e : q = j
            · subst e; rw [if_pos rfl, if_pos (by omega)]
            · rw [if_neg e]
              by_cases h : q < j
              · rw [if_pos h, if_pos (by omega)]
              · rw [if_neg h, if_neg (by omega)]
          rw [e] at hst
          clear e hO
          generalize g k j = X at l0 x0 x1 hst
          go_wp2_with fail
          go_roundw
          case rel => exact ⟨j + 1, by omega, by go_num, hst, hB.setCell (Nat.le_refl _) _⟩
          case measure => simp [intOf]; omega
        · obtain rfl : j = n := by omega
          have hk6 : (j : Int) + (k : Int) < ((2 * j : Nat) : Int) := by omega
          have htn : ((j : Int) + (k : Int)).toNat = j + k := by omega
          have k0 := World.ownsRow.cellAt (n := 2 * j) (xs := valsI (rowF (2 * j) fun q => if q < j then g k q else 0)) (by simpa [OwnL, len_rowF] using hO) (j + k) (by omega)
          rw [vals_rowF (by omega), if_neg (by omega)] at k0
          have z0 := World.ownsRow.frozenAt (n := 2 * j) (xs := valsI (rowF (2 * j) fun q => if q < j then g k q else 0)) (by simpa [OwnL, len_rowF] using hO) (j + k)
          have hst := hO.set (j + k) 1
          rw [rowF_set] at hst
          have e : (rowF (2 * j) fun q => if q = j + k then 1 else if q < j then g k q else 0) = gRow j g k := rowF_congr fun q hq => by
            by_cases e : q = j + k
            · subst e; rw [if_pos rfl, if_neg (by omega), if_pos (by omega)]
            · rw [if_neg e]
              by_cases h : q < j
              · rw [if_pos h, if_pos h]
              · rw [if_neg h, if_neg h, if_neg (by omega)]
          rw [e] at hst
          clear e hO
          have hB1 : Below wo.heap.size wo (wr.setCell ⟨wo.heap.size, j + k, none⟩ (.int .i64 1)) := hB.setCell (Nat.le_refl _) _
          go_upto_region 11 with fail
          generalize wr.setCell _ _ = w5 at hst hB1 ⊢
          clear hB
          have hG5 := hG.below hB1
          obtain ⟨us0, x1, x2, x3⟩ := hG5
          have hs5 := hB1.size
          go_wp2_with (at_builtin; refine wpList_append_lies _ rfl _ _ 24 rfl W.heap.size 52 i1 _ 1 24 Try.underlying24 hi' hz0' hz1' hz2' rfl (by decide) (.slice sa G.length sc) G.length us0 rfl (World.ownsRow.alloc x2 _) ⟨w5.heap.size, 0, none⟩ 1 1 [.slice (some ⟨wo.heap.size, 0, none⟩) (2 * j) (2 * j)] rfl rfl (World.news_of_block (cs := #[.slice (some ⟨wo.heap.size, 0, none⟩) (2 * j) (2 * j)]) (t := 52) (fr := (0, 0)) (heap_alloc_new w5 _)) (by simp [Value.oneCell']) (by omega) (by unfold maxLen; omega) (by omega) (by simp; omega) _ rfl ?_)
          intro g4 cap4 w6 hown6 hgrow6 hat6 hlt6
          have hB6 : Below W.heap.size W w6 := ((hb.trans (hB1.mono hs)).alloc (by omega) _).grown hgrow6 (by simp; omega) (fun q hq => (World.ownsRow.lt x2 q hq).1)
          have hN6 : OwnR w6 W.heap.size (.slice (some ⟨g4, 0, none⟩) (G.length + 1) cap4) (G ++ [gRow j g k]) := OwnR.push x1 (World.ownsRow.alloc x2 _) (fun k hk hk' => (x3 k hk hk').below (ebox1 w5 _)) ((hst.mono hs).below (ebox1 w5 _)) hown6 hgrow6
          clear x1 x2 x3 hown6 hgrow6 hat6 hst
          go_wp2_with fail
          go_roundw
          case rel => exact ⟨k + 1, G ++ [gRow j g k], some ⟨g4, 0, none⟩, cap4, by omega, by simp, by go_num, Lib.hid (by rw [HU.out, List.range_succ]; simp), by simp; omega, by simpa using hN6, hB6⟩
          case measure => simp [intOf]; omega
    · obtain rfl : k = n := by omega
      obtain ⟨w3, rfl⟩ : ∃ w3 : World, w3 = wr := ⟨_, rfl⟩
      have hIn : ∀ r ∈ G, InP p (2 * k) r := fun r hr => by
        rw [HU.out] at hr
        obtain ⟨i, hi, rfl⟩ := List.mem_map.1 hr
        exact gRow_inP h2 (fun a ha b hb => HG.out a (by omega) b (by omega)) (by simpa using hi)
      have hred := (echL_spec hp (m := 2 * k) G hIn).1
      have HR := Lib.hid (show echL p G = echL p (gRows k g) by rw [HU.out]; rfl)
      have hGs := hG.slice
      have hs := hb.size
      go_wp2_with fail
      ((with_reducible refine (eech p _ G (2 * k) _ hp (by omega) (by omega) hIn hGs).mono ?_); rintro e w4 ⟨v4, rfl, hR4, hb4⟩)
      have hRl := ech_len p G
      obtain ⟨R, hRR⟩ : ∃ R, echL p G = R := ⟨_, rfl⟩
      rw [hRR] at hR4 hred HR hRl
      clear hRR hIn hGs hG
      obtain ⟨s4, c4, rfl⟩ := hR4.shape
      have hbw := hb.trans (hb4.mono hs)
      obtain ⟨Z, hZ, rZ, hbZ⟩ : ∃ Z, Z = w4.alloc (.cells #[.int .u8 0, .int .u8 0, .int .u8 0, .int .u8 0, .int .u8 0, .int .u8 0, .int .u8 0, .int .u8 0, .int .u8 0] 37) ∧ Z.rowIs w4.heap.size 37 9 (mF fun _ _ => 0) ∧ Below w4.heap.size w4 Z := ⟨_, rfl, mbox w4 (fun _ _ => 0) _, ebox1 _ _⟩
      have hbz := hbw.trans (hbZ.mono hbw.size)
      have rR5 := erow_below rR hbz rR.lt
      have hb5 := hbW.trans (hbz.mono hbW.size)
      have hRZ := hR4.below hbZ
      go_upto_region 13 with fail
      rw [← hZ]
      clear hZ
      by_cases hlen : R.length = k
      · have hne : ((R.length : Int) != (k : Int)) = false := by simp; omega
        have hRk : k ≤ R.length := by omega
        have hRk2 : R.length ≤ k := by omega
        have HLEN := Lib.hid hlen
        clear hlen
        go_wp2_with fail
        clear hne
        go_loopw [14] (fun i wr => ∃ (t : Nat), t ≤ k ∧ i = .int .i64 t ∧ Hid (∀ a, (h : a < R.length) → a < t → leadN R[a] = a) ∧ wr.rowIs w4.heap.size 37 9 (mF (upto k R t 0)) ∧ Below w4.heap.size w4 wr) (fun i _ => k - (intOf i).toNat)
        case atStart => exact ⟨0, by omega, rfl, Lib.hid (fun a _ h => by omega), mF_congr rZ (fun i _ j _ => by unfold upto; rw [if_neg (by omega)]), hbZ⟩
        case round =>
          obtain ⟨t, ht, rfl, HV, hro, hB⟩ := hrel
          have hs4 := hB.size
          have rR6 := erow_below rR (hbw.trans (hB.mono hbw.size)) rR.lt
          have hb6 := hbW.trans ((hbw.trans (hB.mono hbw.size)).mono hbW.size)
          by_cases hlt2 : t < k
          · have hlt2' : (t : Int) < (k : Int) := by omega
            have htR : (t : Int) < (R.length : Int) := by omega
            obtain ⟨g4, c5, hv4, _, hlt4, hc4⟩ := hR4.cells (by omega)
            simp only [Value.slice.injEq] at hv4
            obtain ⟨rfl, _, rfl⟩ := hv4
            obtain ⟨u4, e1, e2⟩ := hc4 t (by omega)
            have hin := hred.inP R[t] (List.getElem_mem _)
            have hlq := hred.lt R[t] (List.getElem_mem _)
            have hbeh : ∀ j, behind k R t j = nth R[t] (k + j) := fun j => by simp [behind, List.getD, show t < R.length by omega]
            have HLV := Lib.hid (show leadN R[t] = t → ∀ a, (h : a < R.length) → a < t + 1 → leadN R[a] = a from fun h a ha hat => by
              by_cases e : a = t
              · subst e; exact h
              · exact HV.out a ha (by omega))
            have HLN := Lib.hid (show leadN R[t] ≠ t → ¬ okR k (echL p (gRows k g)) from fun h ho => by
              rw [← HR.out] at ho
              exact h (ho.2 t (by omega)))
            generalize hq0 : R[t] = q at e2 hin hlq hbeh HLV HLN
            clear hq0 hc4
            have hqs : q.length ≤ 2 * k := by rw [hin.1]; omega
            have hqs2 : 2 * k ≤ q.length := by rw [hin.1]; omega
            obtain ⟨gq, cq, rfl, _, hltq, hcq⟩ := e2.form (by omega)
            have m0 := (hB.cell (p := ⟨g4, t, none⟩) hlt4).trans e1
            have hqsl := (e2.below hB).slice
            obtain ⟨lq, hlqe⟩ : ∃ lq, leadN q = lq := ⟨_, rfl⟩
            rw [hlqe] at HLV HLN hlq
            have HLQ := Lib.hid hlqe
            clear hlqe
            by_cases hld : lq = t
            · have hld2 : ((lq : Int) != (t : Int)) = false := by simp [hld]
              have HV2 := Lib.hid (HLV.out hld)
              clear HLV HLN hld
              go_wp2_with fail
              ((with_reducible refine (elead_at _ q lq _ (by omega) hqsl HLQ.out (by omega)).mono ?_); rintro e w8 ⟨rfl, rfl⟩)
              obtain ⟨w9, rfl⟩ : ∃ w9 : World, w9 = w8 := ⟨_, rfl⟩
              go_wp2_with fail
              clear hld2
              go_loopw [15] (fun i wr => ∃ (j : Nat), j ≤ k ∧ i = .int .i64 j ∧ wr.rowIs w4.heap.size 37 9 (mF (upto k R t j)) ∧ Below w4.heap.size w4 wr) (fun i _ => k - (intOf i).toNat)
              case atStart => exact ⟨0, by omega, rfl, hro, hB⟩
              case round =>
                obtain ⟨j, hj, rfl, hro5, hB5⟩ := hrel
                by_cases hjt : j < k
                · have hjt' : (j : Int) < (k : Int) := by omega
                  have hkj : (k : Int) + (j : Int) < (q.length : Int) := by omega
                  have htn : ((k : Int) + (j : Int)).toNat = k + j := by omega
                  have hws : IntKind.i64.wrap ((k : Int) + (j : Int)) = k + j := IntWalk.i64_in _ (by omega)
                  have m1 := (hB5.cell (p := ⟨g4, t, none⟩) hlt4).trans e1
                  have m2 := (hB5.cell (p := ⟨gq, k + j, none⟩) hltq).trans (hcq (k + j) (by omega))
                  rw [← nth_lt (by omega), ← hbeh] at m2
                  have hX := hin.nth (by omega) (k + j)
                  rw [← hbeh] at hX
                  obtain ⟨x0, x1⟩ := hX
                  have hm := mset (i := t) (j := j) hro5 (by omega) (behind k R t j)
                  have hm2 := mF_congr (h := upto k R t (j + 1)) hm (fun a ha b hb => by
                    unfold upd upto
                    by_cases e : a = t ∧ b = j
                    · obtain ⟨rfl, rfl⟩ := e
                      rw [if_pos ⟨rfl, rfl⟩, if_pos (by omega)]
                    · rw [if_neg e]
                      by_cases e2 : (a < t ∧ b < k) ∨ (a = t ∧ b < j)
                      · rw [if_pos e2, if_pos (by omega)]
                      · rw [if_neg e2, if_neg (by omega)])
                  have y0 := mcell hro5 (i := t) (j := j) (by omega) (by omega)
                  have z0 := World.rowIs.frozen hro5 (t * 3 + j)
                  clear hm hro5
                  have HBH := Lib.hid hbeh
                  generalize behind k R t j = X at m2 x0 x1 hm2
                  have hw8 : IntKind.u8.wrap X = X := IntWalk.u8_in _ (by omega)
                  go_wp2_with fail
                  go_region
                  all_goals
                    go_wp2_with fail
                    go_roundw
                    case rel => exact ⟨j + 1, by omega, by go_num, hm2, (hB5.setCell (Nat.le_refl _) _).drew⟩
                    case measure => simp [intOf]; omega
                · obtain rfl : j = k := by omega
                  have hro6 := mF_congr (h := upto j R (t + 1) 0) hro5 (fun a ha b hb => by
                    unfold upto
                    by_cases e2 : (a < t ∧ b < j) ∨ (a = t ∧ b < j)
                    · rw [if_pos e2, if_pos (by omega)]
                    · rw [if_neg e2, if_neg (by omega)])
                  go_wp2_with fail
                  go_roundw
                  case rel => exact ⟨t + 1, by omega, by go_num, HV2, hro6, hB5⟩
                  case measure => simp [intOf]; omega
            · have hld2 : ((lq : Int) != (t : Int)) = true := by simp; omega
              have HNO := Lib.hid (HLN.out hld)
              clear HLV HLN hld
              go_wp2_with fail
              ((with_reducible refine (elead_at _ q lq _ (by omega) hqsl HLQ.out (by omega)).mono ?_); rintro e w8 ⟨rfl, rfl⟩)
              obtain ⟨rq, hrq⟩ : ∃ rq, rq = upto k R t 0 := ⟨_, rfl⟩
              have HRQ := Lib.hid hrq
              have hro2 : w8.rowIs w4.heap.size 37 9 (mF rq) := by rw [hrq]; exact hro
              clear hrq
              obtain ⟨⟨o0, o1, o2⟩, ⟨o3, o4, o5⟩, o6, o7, o8⟩ := mcells hro2
              obtain ⟨⟨y0, y1, y2⟩, ⟨y3, y4, y5⟩, y6, y7, y8⟩ := mcells rR6
              have zz0 := World.rowIs.frozen rR6 0
              have zz1 := World.rowIs.frozen rR6 1
              have zz2 := World.rowIs.frozen rR6 2
              have zz3 := World.rowIs.frozen rR6 3
              have zz4 := World.rowIs.frozen rR6 4
              have zz5 := World.rowIs.frozen rR6 5
              have zz6 := World.rowIs.frozen rR6 6
              have zz7 := World.rowIs.frozen rR6 7
              have zz8 := World.rowIs.frozen rR6 8
              obtain ⟨hf1, hf2⟩ := mfill (w := w) (B := w.heap.size) rR6 hb6 (by omega) rq
              obtain ⟨⟨v0, v1, v2⟩, ⟨v3, v4, v5⟩, v6, v7, v8⟩ := mcells hf1
              have V0 := Lib.hid v0
              have V1 := Lib.hid v1
              have V2 := Lib.hid v2
              have V3 := Lib.hid v3
              have V4 := Lib.hid v4
              have V5 := Lib.hid v5
              have V6 := Lib.hid v6
              have V7 := Lib.hid v7
              have V8 := Lib.hid v8
              have HF2 := Lib.hid hf2
              clear hf1 hf2 v0 v1 v2 v3 v4 v5 v6 v7 v8
              go_wp2_with fail
              exact bodyPost_ret (v := .tuple #[mv rq, .bool false]) (by simp [results, Try.results136, go_sem, mv, V0.out, V1.out, V2.out, V3.out, V4.out, V5.out, V6.out, V7.out, V8.out]) rfl ⟨⟨rq, false, rfl, ⟨(fun h => by cases h), fun h => absurd h HNO.out⟩, (fun h => by cases h)⟩, HF2.out⟩
          · obtain rfl : t = k := by omega
            have HOK := Lib.hid (show okR t (echL p (gRows t g)) by
              rw [← HR.out]
              exact ⟨HLEN.out, fun i hi => HV.out i hi (by omega)⟩)
            have hro7 := mF_congr (h := cutM t (behind t R)) hro (fun a ha b hb => by
              unfold upto cutM
              by_cases e2 : a < t ∧ b < t
              · rw [if_pos (.inl e2), if_pos e2]
              · rw [if_neg (by omega), if_neg e2])
            obtain ⟨rq, hrq⟩ : ∃ rq, rq = cutM t (behind t R) := ⟨_, rfl⟩
            have HRQ := Lib.hid hrq
            have hro2 : wr.rowIs w4.heap.size 37 9 (mF rq) := by rw [hrq]; exact hro7
            clear hrq
            obtain ⟨⟨o0, o1, o2⟩, ⟨o3, o4, o5⟩, o6, o7, o8⟩ := mcells hro2
            obtain ⟨⟨y0, y1, y2⟩, ⟨y3, y4, y5⟩, y6, y7, y8⟩ := mcells rR6
            have zz0 := World.rowIs.frozen rR6 0
            have zz1 := World.rowIs.frozen rR6 1
            have zz2 := World.rowIs.frozen rR6 2
            have zz3 := World.rowIs.frozen rR6 3
            have zz4 := World.rowIs.frozen rR6 4
            have zz5 := World.rowIs.frozen rR6 5
            have zz6 := World.rowIs.frozen rR6 6
            have zz7 := World.rowIs.frozen rR6 7
            have zz8 := World.rowIs.frozen rR6 8
            obtain ⟨hf1, hf2⟩ := mfill (w := w) (B := w.heap.size) rR6 hb6 (by omega) rq
            obtain ⟨⟨v0, v1, v2⟩, ⟨v3, v4, v5⟩, v6, v7, v8⟩ := mcells hf1
            have V0 := Lib.hid v0
            have V1 := Lib.hid v1
            have V2 := Lib.hid v2
            have V3 := Lib.hid v3
            have V4 := Lib.hid v4
            have V5 := Lib.hid v5
            have V6 := Lib.hid v6
            have V7 := Lib.hid v7
            have V8 := Lib.hid v8
            have HF2 := Lib.hid hf2
            clear hf1 hf2 v0 v1 v2 v3 v4 v5 v6 v7 v8
            go_wp2_with fail
            exact bodyPost_ret (v := .tuple #[mv rq, .bool true]) (by simp [results, Try.results136, go_sem, mv, V0.out, V1.out, V2.out, V3.out, V4.out, V5.out, V6.out, V7.out, V8.out]) rfl ⟨⟨rq, true, rfl, ⟨(fun _ => HOK.out), fun _ => rfl⟩, (fun _ => by rw [HRQ.out, HR.out])⟩, HF2.out⟩
      · have hne : ((R.length : Int) != (k : Int)) = true := by simp; omega
        have HNO := Lib.hid (show ¬ okR k (echL p (gRows k g)) from fun h => by rw [← HR.out] at h; exact hlen h.1)
        clear hlen
        obtain ⟨⟨o0, o1, o2⟩, ⟨o3, o4, o5⟩, o6, o7, o8⟩ := mcells rZ
        obtain ⟨⟨y0, y1, y2⟩, ⟨y3, y4, y5⟩, y6, y7, y8⟩ := mcells rR5
        have zz0 := World.rowIs.frozen rR5 0
        have zz1 := World.rowIs.frozen rR5 1
        have zz2 := World.rowIs.frozen rR5 2
        have zz3 := World.rowIs.frozen rR5 3
        have zz4 := World.rowIs.frozen rR5 4
        have zz5 := World.rowIs.frozen rR5 5
        have zz6 := World.rowIs.frozen rR5 6
        have zz7 := World.rowIs.frozen rR5 7
        have zz8 := World.rowIs.frozen rR5 8
        have hfin := mfill (w := w) (B := w.heap.size) rR5 hb5 (by omega) (fun _ _ => 0)
        obtain ⟨hf1, hf2⟩ := hfin
        obtain ⟨⟨v0, v1, v2⟩, ⟨v3, v4, v5⟩, v6, v7, v8⟩ := mcells hf1
        have V0 := Lib.hid v0
        have V1 := Lib.hid v1
        have V2 := Lib.hid v2
        have V3 := Lib.hid v3
        have V4 := Lib.hid v4
        have V5 := Lib.hid v5
        have V6 := Lib.hid v6
        have V7 := Lib.hid v7
        have V8 := Lib.hid v8
        have HF2 := Lib.hid hf2
        clear hf1 hf2 v0 v1 v2 v3 v4 v5 v6 v7 v8
        go_wp2_with fail
        exact bodyPost_ret (v := .tuple #[mv (fun _ _ => 0), .bool false]) (by simp [results, Try.results136, go_sem, mv, V0.out, V1.out, V2.out, V3.out, V4.out, V5.out, V6.out, V7.out, V8.out]) rfl ⟨⟨fun _ _ => 0, false, rfl, ⟨(fun h => by cases h), fun h => absurd h HNO.out⟩, (fun h => by cases h)⟩, HF2.out⟩
end Go.Proofs.Ytbahejlgfpilnaa
namespace Go.Proofs.Ytbahejlgfpilnaa
open Go.RowKit Go.Sort EchM

theorem eprime_is (p : Int) (w : World) (B : Bool) (h : pB p = B) : Calls Try.prog 83 #[.int .i64 p] w fun e w' => e = .returned (.bool B) ∧ w = w' := by rw [← h]; exact eprime p w
theorem ein_is (n a b : Int) (w : World) (B : Bool) (h : (decide (a ≤ n) && decide (n ≤ b)) = B) : Calls Try.prog 84 #[.int .i64 n, .int .i64 a, .int .i64 b] w fun e w' => e = .returned (.bool B) ∧ w = w' := by rw [← h]; exact ein n a b w
theorem sinv_agg (p : Int) (n : Nat) (g : Nat → Nat → Int) (w : World) (hp : PrimeS p) (h1 : 1 ≤ n) (h3 : n ≤ 3) (hg : ∀ i, i < 3 → ∀ j, j < 3 → 0 ≤ g i j ∧ g i j < p) :
    Calls Try.prog 136 #[.int .i64 p, .int .i64 (n : Int), .agg #[.int .u8 (g 0 0), .int .u8 (g 0 1), .int .u8 (g 0 2), .int .u8 (g 1 0), .int .u8 (g 1 1), .int .u8 (g 1 2), .int .u8 (g 2 0), .int .u8 (g 2 1), .int .u8 (g 2 2)]] w fun e w' =>
      (∃ r b, e = .returned (.tuple #[.agg #[.int .u8 (r 0 0), .int .u8 (r 0 1), .int .u8 (r 0 2), .int .u8 (r 1 0), .int .u8 (r 1 1), .int .u8 (r 1 2), .int .u8 (r 2 0), .int .u8 (r 2 1), .int .u8 (r 2 2)], .bool b]) ∧ (b = true ↔ okR n (echL p (gRows n g))) ∧ (b = true → r = cutM n (behind n (echL p (gRows n g))))) ∧ Below w.heap.size w w' :=
  sinv_any p n g w hp h1 h3 hg

set_option maxRecDepth 8000 in
set_option maxHeartbeats 8000000 in
theorem smat_any (p n : Int) (g : Nat → Nat → Int) (w : World) (hg : Byt g) :
    Calls Try.prog 62 #[.int .i64 p, .int .i64 n, mv g] w fun e w' => e = .returned (.bool (isMat p n g)) ∧ Below w.heap.size w w' := by
  obtain ⟨W, hW, rW, hbW⟩ : ∃ W, W = w.alloc (.cells #[.int .u8 (g 0 0), .int .u8 (g 0 1), .int .u8 (g 0 2), .int .u8 (g 1 0), .int .u8 (g 1 1), .int .u8 (g 1 2), .int .u8 (g 2 0), .int .u8 (g 2 1), .int .u8 (g 2 2)] 37) ∧ W.rowIs w.heap.size 37 9 (mF g) ∧ Below w.heap.size w W := ⟨_, rfl, mbox w g _, ebox1 _ _⟩
  unfold mv
  have HG := Lib.hid hg
  clear hg
  cases hp : pB p
  · have HX := Lib.hid (show isMat p n g = false by simp [isMat, hp])
    have HP := Lib.hid hp
    clear hp
    go_enter Try.func62, Try.ntmps62
    go_wp2_with fail
    rw [← hW]
    clear hW
    ((with_reducible refine (eprime_is p _ false HP.out).mono ?_); rintro e w1 ⟨rfl, rfl⟩)
    go_wp2_with fail
    go_ret
    exact ⟨by rw [HX.out]; rfl, hbW⟩
  · have HP := Lib.hid hp
    cases hv : (decide (1 ≤ n) && decide (n ≤ 3))
    · have HX := Lib.hid (show isMat p n g = false by rw [isMat, hv]; simp)
      have HV := Lib.hid hv
      clear hp hv
      go_enter Try.func62, Try.ntmps62
      go_wp2_with fail
      rw [← hW]
      clear hW
      ((with_reducible refine (eprime_is p _ true HP.out).mono ?_); rintro e w1 ⟨rfl, rfl⟩)
      go_wp2_with fail
      ((with_reducible refine (ein_is n 1 3 _ false HV.out).mono ?_); rintro e w2 ⟨rfl, rfl⟩)
      go_wp2_with fail
      go_ret
      exact ⟨by rw [HX.out]; rfl, hbW⟩
    · have HV := Lib.hid hv
      obtain ⟨h2, h13⟩ := pB_le hp
      have hps := pB_set hp
      simp only [Bool.and_eq_true, decide_eq_true_eq] at hv
      obtain ⟨m, rfl⟩ := Int.eq_ofNat_of_zero_le (show 0 ≤ n by omega)
      have HY := Lib.hid (show isMat p m g = (hasB p m g && decide (detP p (fullM m g) ≠ 0)) by rw [isMat, hp, HV.out]; simp)
      have hm1 : 1 ≤ m := by omega
      have hm3 : m ≤ 3 := by omega
      clear hp hv
      go_enter Try.func62, Try.ntmps62
      go_wp2_with fail
      rw [← hW]
      clear hW
      ((with_reducible refine (eprime_is p _ true HP.out).mono ?_); rintro e w1 ⟨rfl, rfl⟩)
      go_wp2_with fail
      ((with_reducible refine (ein_is m 1 3 _ true HV.out).mono ?_); rintro e w2 ⟨rfl, rfl⟩)
      go_wp2_with fail
      go_loop [7] (fun i => ∃ (k : Nat), k ≤ 3 ∧ i = .int .i64 k ∧ Hid (∀ i, i < k → ∀ j, j < 3 → okC p m (g i j) i j = true)) (fun i => 3 - (intOf i).toNat)
      case atStart => exact ⟨0, by omega, rfl, Lib.hid (fun i hi => by omega)⟩
      case round =>
        obtain ⟨k, hk, rfl, HU⟩ := hrel
        by_cases hlt : k < 3
        · have hlt' : (k : Int) < 3 := by omega
          go_wp2_with fail
          go_loop [8] (fun i => ∃ (j : Nat), j ≤ 3 ∧ i = .int .i64 j ∧ Hid (∀ j', j' < j → okC p m (g k j') k j' = true)) (fun i => 3 - (intOf i).toNat)
          case atStart => exact ⟨0, by omega, rfl, Lib.hid (fun j hj => by omega)⟩
          case round =>
            obtain ⟨j, hj, rfl, HW⟩ := hrel
            by_cases hjt : j < 3
            · have hjt' : (j : Int) < 3 := by omega
              have c0 := mcell rW (i := k) (j := j) hlt hjt
              have hx := HG.out k hlt j hjt
              have HNo := Lib.hid (fun h => hasB_no (p := p) (n := m) (g := g) hlt hjt (okC_no h))
              have HYes : (g k j < p → ((k : Int) < (m : Int) ∧ (j : Int) < (m : Int)) ∨ g k j = 0 → Hid (∀ j', j' < j + 1 → okC p m (g k j') k j' = true)) := fun h1 h2 => Lib.hid (fun j' hj' => by
                by_cases e : j' = j
                · subst e; exact okC_yes h1 h2
                · exact HW.out j' (by omega))
              have HYY := Lib.hid HYes
              clear HYes
              generalize hX : g k j = X at c0 hx HNo HYY
              clear hX
              obtain ⟨x0, x1⟩ := hx
              by_cases h1 : p ≤ X
              · have HX := Lib.hid (show isMat p m g = false by rw [HY.out, HNo.out (.inl h1)]; rfl)
                clear HNo HYY
                go_wp2_with fail
                all_goals go_ret
                all_goals exact ⟨by rw [HX.out]; rfl, hbW⟩
              · by_cases hz : X = 0
                · have HN := HYY.out (by omega) (.inr hz)
                  subst hz
                  clear HNo HYY
                  by_cases h2' : (k : Int) < (m : Int)
                  · by_cases h3' : (j : Int) < (m : Int)
                    · go_wp2_with fail
                      go_round
                      case rel => exact ⟨j + 1, by omega, by go_num, HN⟩
                      case measure => simp [intOf]; omega
                    · go_wp2_with fail
                      go_round
                      case rel => exact ⟨j + 1, by omega, by go_num, HN⟩
                      case measure => simp [intOf]; omega
                  · go_wp2_with fail
                    go_round
                    case rel => exact ⟨j + 1, by omega, by go_num, HN⟩
                    case measure => simp [intOf]; omega
                · have hq : (X != 0) = true := by simp [hz]
                  by_cases h2' : (k : Int) < (m : Int)
                  · by_cases h3' : (j : Int) < (m : Int)
                    · have HN := HYY.out (by omega) (.inl ⟨h2', h3'⟩)
                      clear HNo HYY hz
                      go_wp2_with fail
                      go_round
                      case rel => exact ⟨j + 1, by omega, by go_num, HN⟩
                      case measure => simp [intOf]; omega
                    · have HX := Lib.hid (show isMat p m g = false by rw [HY.out, HNo.out (.inr ⟨.inr (by omega), hz⟩)]; rfl)
                      clear HNo HYY hz
                      go_wp2_with fail
                      go_ret
                      exact ⟨by rw [HX.out]; rfl, hbW⟩
                  · have HX := Lib.hid (show isMat p m g = false by rw [HY.out, HNo.out (.inr ⟨.inl (by omega), hz⟩)]; rfl)
                    clear HNo HYY hz
                    go_wp2_with fail
                    go_ret
                    exact ⟨by rw [HX.out]; rfl, hbW⟩
            · obtain rfl : j = 3 := by omega
              have HN : Hid (∀ i, i < k + 1 → ∀ j, j < 3 → okC p m (g i j) i j = true) := Lib.hid (fun i hi j hj => by
                by_cases e : i = k
                · subst e; exact HW.out j hj
                · exact HU.out i (by omega) j hj)
              go_wp2_with fail
              go_round
              case rel => exact ⟨k + 1, by omega, by go_num, HN⟩
              case measure => simp [intOf]; omega
        · obtain rfl : k = 3 := by omega
          have hh := hasB_yes HU.out
          have HB := Lib.hid (hasB_bound HG.out hh)
          have HO := Lib.hid (hasB_out hh)
          have HM := Lib.hid (ech_mat hps hm1 hm3 (g := g) (fun i hi j hj => HB.out i (by omega) j (by omega)) HO.out).1
          have HX := Lib.hid (show isMat p m g = decide (detP p (fullM m g) ≠ 0) by rw [HY.out, hh]; rfl)
          clear hh
          obtain ⟨⟨c0, c1, c2⟩, ⟨c3, c4, c5⟩, c6, c7, c8⟩ := mcells rW
          go_wp2_with fail
          ((with_reducible refine (sinv_agg p m g _ hps hm1 hm3 HB.out).mono ?_); rintro e w4 ⟨⟨r, b, rfl, hb, _⟩, hb4⟩)
          have HBB := Lib.hid (show isMat p m g = b by
            rw [HX.out, ← Bool.coe_iff_coe, hb]; simp only [decide_eq_true_eq]; exact HM.out.symm)
          have hb5 := hbW.trans (hb4.mono hbW.size)
          have hb6 := Lib.hid (fun o => hb5.alloc hb5.size o)
          clear hb c0 c1 c2 c3 c4 c5 c6 c7 c8
          go_wp2_with fail
          go_ret
          exact ⟨by rw [HBB.out]; rfl, hb6.out _⟩
end Go.Proofs.Ytbahejlgfpilnaa
namespace Go.Proofs.Ytbahejlgfpilnaa
open Go.RowKit Go.Sort Go.Maps Go.Shelf EchM

attribute [local go_sem] Oper.semAt_some

/-- The partitions among the first monomials. -/
def resP (M : List (Int × Int × Int)) (d : Nat) (pre : List (Fin M.length)) : List (List Int) := (pre.map fun x => row3 d (M[x.1]'x.2)).filter desB
theorem resP_snoc (M : List (Int × Int × Int)) (d : Nat) (pre : List (Fin M.length)) (x : Fin M.length) : resP M d (pre ++ [x]) = if desB (row3 d (M[x.1]'x.2)) = true then resP M d pre ++ [row3 d (M[x.1]'x.2)] else resP M d pre := by
  unfold resP
  rw [List.map_append, List.filter_append]
  by_cases h : desB (row3 d (M[x.1]'x.2)) = true
  · simp [h]
  · simp [h]
theorem resP_all (M : List (Int × Int × Int)) (d : Nat) : resP M d (List.finRange M.length) = (M.map (row3 d)).filter desB := by
  unfold resP
  congr 1
  refine List.ext_getElem (by simp) fun i h1 h2 => ?_
  simp
theorem resP_len (M : List (Int × Int × Int)) (d : Nat) (pre : List (Fin M.length)) : (resP M d pre).length ≤ pre.length := by
  unfold resP
  exact Nat.le_trans (List.length_filter_le _ _) (by simp)
theorem row3_len {d : Nat} (hd : d ≤ 3) (e : Int × Int × Int) : (row3 d e).length = d := by simp [row3]; omega
theorem RowsM.keepP {w w' : World} {base : Nat} {v : Value} {O : List Row3} {r : Option Nat} (h : RowsM w base v O) (hg : w.grownBy w' r) (hv : v.ownBlock = none ∨ v.ownBlock ≠ r) (hr : ∀ e ∈ O, some e.2.2 ≠ r) : RowsM w' base v O :=
  ⟨World.ownsRow.kept h.owns hg hv, fun e he => (h.rows e he).kept2 hg (hr e he), h.apart⟩
/-- The numbers of a list so far. -/
def ptF (e : Int × Int × Int) (j q : Nat) : Value := .int .i64 (if q < j then (row3 3 e).getD q 0 else 0)

theorem pt_more {w4 W w6 w7 : World} {R lo g : Nat} {v v' u : Value} {O : List Row3} {l : List Int} {o : Obj} (hR : R < lo) (hlo : lo ≤ w4.heap.size) (h4 : w4.grownBy W (some R)) (hrv : W.rowIs R 24 1 (fun _ => v)) (hM : RowsM W w4.heap.size v O)
    (hb : Below W.heap.size W w6) (hu : RowAt w6 w4.heap.size (u, l, g)) (hgn : W.heap.size ≤ g) (ho : w7.ownsRow w4.heap.size 52 1 v' (O.length + 1) (O.map (·.1) ++ [u])) (hg : (w6.alloc o).grownBy w7 v.ownBlock) :
    w7.rowIs R 24 1 (fun _ => v) ∧ (w7.setCell ⟨R, 0, none⟩ v').rowIs R 24 1 (fun _ => v') ∧ RowsM (w7.setCell ⟨R, 0, none⟩ v') w4.heap.size v' (O ++ [(u, l, g)]) ∧ w4.grownBy (w7.setCell ⟨R, 0, none⟩ v') (some R) ∧ KeepsFrom w4.heap.size W (w7.setCell ⟨R, 0, none⟩ v') ∧ KpI lo w4.heap.size W (w7.setCell ⟨R, 0, none⟩ v') := by
  have hvb : ∀ b, v.ownBlock = some b → w4.heap.size ≤ b := fun b e => (World.ownsRow.lt hM.owns b e).1
  have hvb' : ∀ b, v'.ownBlock = some b → w4.heap.size ≤ b := fun b e => (World.ownsRow.lt ho b e).1
  have hs := h4.size
  have hb6 : Below W.heap.size W (w6.alloc o) := hb.alloc hb.size o
  have hM6 := hM.below hb6
  have hM7 := hM6.push (hu.below (ebox1 w6 o)) (hM.fresh hgn) ho hg
  have hr7 : w7.rowIs R 24 1 (fun _ => v) := by
    have h6 := erow_below hrv hb6 hrv.lt
    exact h6.of_block (hg.block R h6.lt (fun e => by have := hvb R e.symm; omega))
  have hch : ∀ b, b < w4.heap.size → b ≠ R → (w7.setCell ⟨R, 0, none⟩ v').heap[b]? = W.heap[b]? := fun b h1 h2 =>
    (Below.heap_setCell w7 ⟨R, 0, none⟩ v' b h2).trans ((hg.block b (by have := hb6.size; omega) (fun e => by have := hvb b e.symm; omega)).trans (hb6.block b (by omega)))
  have hsz : W.heap.size ≤ (w7.setCell ⟨R, 0, none⟩ v').heap.size := Nat.le_trans hb6.size (Nat.le_trans hg.size (by simp))
  refine ⟨hr7, (hr7.set 0 v').congr (fun i hi => by simp; omega), hM7.keepP (grownBy_setCell' w7 R v') ?_ ?_, ?_, ?_, ⟨hsz, fun b h1 h2 => hch b h2 (by omega)⟩⟩
  · cases e : v'.ownBlock with
    | none => exact .inl rfl
    | some b => exact .inr (fun e2 => by cases e2; have := hvb' R e; omega)
  · intro e he e2
    have : w4.heap.size ≤ e.2.2 := by obtain ⟨_, _, _, _, hq, _⟩ := hM7.rows e he; exact hq
    cases e2
    omega
  · exact ⟨hg.os.trans (hb6.os.trans h4.os), hg.tape.trans (hb6.tape.trans h4.tape), hg.output.trans (hb6.output.trans h4.output), Nat.le_trans hs hsz, fun b h1 h2 => (hch b h1 (fun e => h2 (by rw [e]))).trans (h4.block b h1 h2)⟩
  · refine KeepsOthers.from ?_ _
    have k1 : KeepsOthers W (w6.alloc o) := ⟨hb6.size, fun k o hk _ => (hb6.block k (Array.getElem?_eq_some_iff.1 hk).1).trans hk⟩
    refine (k1.trans (KeepsOthers.of_grownBy hg fun j o' e hj => ?_)).trans (KeepsOthers.setCell _ _ _)
    obtain ⟨c, z, hc⟩ := Lib.ownsRow_kind hM6.owns j e
    rw [hc] at hj
    cases hj
    rfl
theorem OwnRR.monoP {w : World} {base base' : Nat} {v : Value} {S : List (List Int)} (h : OwnRR w base v S) (hb : base' ≤ base) : OwnRR w base' v S := by
  obtain ⟨O, h1, h2, h3, h4⟩ := h
  refine ⟨O, h1, ?_, fun e he => (h3 e he).mono hb, h4⟩
  rcases h2 with h | ⟨g, cap, hv, hg, r⟩
  · exact .inl h
  · exact .inr ⟨g, cap, hv, Nat.le_trans hb hg, r⟩
theorem OwnL.rowAtG {w : World} {base g n cap : Nat} {l : List Int} (h : OwnL w base (.slice (some ⟨g, 0, none⟩) n cap) l) (h0 : 0 < l.length) : RowAt w base (.slice (some ⟨g, 0, none⟩) n cap, l, g) := by
  obtain ⟨g', hr⟩ := h.rowAt h0
  obtain ⟨_, _, _, hv, _⟩ := id hr
  simp only [Value.slice.injEq, Option.some.injEq, Addr.mk.injEq] at hv
  obtain ⟨⟨rfl, _⟩, _⟩ := hv
  exact hr

theorem ipt_no (n d : Int) (w : World) (h : parB n d = false) :
    Calls Try.prog 34 #[.int .i64 n, .int .i64 d] w fun e w' => ∃ v', e = .returned (.tuple #[v', .int .i64 (parC n d)]) ∧ OwnRR w' w.heap.size v' (parS n d) ∧ Below w.heap.size w w' := by
  have HX := Lib.hid (par_no h)
  obtain ⟨W, hW, hbW, rd⟩ : ∃ W, W = w.alloc (.cells #[.int .i64 d] 2) ∧ Below w.heap.size w W ∧ W.rowIs w.heap.size 2 1 (fun _ => .int .i64 d) := ⟨_, rfl, ebox1 _ _, World.rowIs_alloc w #[.int .i64 d] _ _ (fun i hi => by simp at hi; subst hi; rfl)⟩
  have k0 := rd.cell (i := 0) (by omega)
  cases hd : (decide (1 ≤ d) && decide (d ≤ 3))
  · have H1 := Lib.hid (fun w' => vars_isc d false hd w')
    clear hd h
    go_enter Try.func34, Try.ntmps34
    go_wp2_with fail
    rw [← hW]
    clear hW
    ((with_reducible refine (H1.out _).mono ?_); rintro e w0 ⟨rfl, hw0⟩; subst hw0)
    go_wp2_with fail
    go_ret2
    rw [HX.out.1, HX.out.2]
    exact ⟨_, rfl, OwnRR.none _ _, hbW⟩
  · have H1 := Lib.hid (fun w' => vars_isc d true hd w')
    have hn : degB n = false := by
      unfold parB at h
      unfold degB
      cases hq : (decide (0 ≤ n) && decide (n ≤ 12))
      · rfl
      · rw [hq, hd] at h; cases h
    have H2 := Lib.hid (fun w' => deg_isc n false hn w')
    clear hd h hn
    go_enter Try.func34, Try.ntmps34
    go_wp2_with fail
    rw [← hW]
    clear hW
    ((with_reducible refine (H1.out _).mono ?_); rintro e w0 ⟨rfl, hw0⟩; subst hw0)
    go_wp2_with fail
    ((with_reducible refine (H2.out _).mono ?_); rintro e w0 ⟨rfl, hw0⟩; subst hw0)
    go_wp2_with fail
    go_ret2
    rw [HX.out.1, HX.out.2]
    exact ⟨_, rfl, OwnRR.none _ _, hbW⟩

set_option maxRecDepth 100000 in
set_option maxHeartbeats 8000000 in
theorem ipt_yes (n d : Nat) (w : World) (h : parB n d = true) :
    Calls Try.prog 34 #[.int .i64 (n : Int), .int .i64 (d : Int)] w fun e w' => ∃ v', e = .returned (.tuple #[v', .int .i64 (parC n d)]) ∧ OwnRR w' w.heap.size v' (parS n d) ∧ Below w.heap.size w w' := by
  have HX := Lib.hid (par_yes h)
  have hh := h
  simp only [parB, Bool.and_eq_true, decide_eq_true_eq] at hh
  have hd1 : 1 ≤ d := by omega
  have hd3 : d ≤ 3 := by omega
  have hn12 : n ≤ 12 := by omega
  have HPS : Hid (((monL (d : Int) (n : Int)).map (row3 d)).filter desB = parL d n n) := Lib.hid (par_same ⟨d, by omega⟩ ⟨n, by omega⟩ hd1)
  have H1 := Lib.hid (fun w' => vars_isc (d : Int) true (by simp; omega) w')
  have H2 := Lib.hid (fun w' => deg_isc (n : Int) true (by simp [degB]; omega) w')
  obtain ⟨i0, hi, hz0, hz1, hz2⟩ := info_parts einfoI
  have hmk : ∀ w, (Instr.makeSlice 52 (.int .i64 (d : Int)) (.int .i64 (d : Int))).run Try.prog w = .ok (.slice (some ⟨w.heap.size, 0, none⟩) d d) (w.alloc (.cells (madeCells #[.int .i64 0] d) 2)) := fun w => by
    have h := run_make (P := Try.prog) w 52 2 i0 _ Try.underlying52 hi hz0 .i64 .i64 (d : Int) (d : Int) (by omega) (by omega) (by rw [hz2]; omega) (by omega)
    rw [hz1, show (d : Int).toNat = d by omega] at h
    simpa [Value.cells] using h
  obtain ⟨i1, hi', hz0', hz1', hz2'⟩ := info_parts einfoR
  clear h hh hi hz0 hz1 hz2
  obtain ⟨W0, hW0, hb0, ⟨hs0, hs0'⟩, rd⟩ : ∃ W, W = w.alloc (.cells #[.int .i64 (d : Int)] 2) ∧ Below w.heap.size w W ∧ (W.heap.size ≤ w.heap.size + 1 ∧ w.heap.size + 1 ≤ W.heap.size) ∧ W.rowIs w.heap.size 2 1 (fun _ => .int .i64 (d : Int)) := ⟨_, rfl, ebox1 _ _, ⟨by simp, by simp⟩, World.rowIs_alloc w #[.int .i64 (d : Int)] _ _ (fun i hi => by simp at hi; subst hi; rfl)⟩
  obtain ⟨W1, hW1, hb1, ⟨hs1, hs1'⟩, rb⟩ : ∃ W1, W1 = W0.alloc (.cells #[.slice none 0 0] 24) ∧ Below W0.heap.size W0 W1 ∧ (W1.heap.size ≤ W0.heap.size + 1 ∧ W0.heap.size + 1 ≤ W1.heap.size) ∧ W1.rowIs W0.heap.size 24 1 (fun _ => .slice none 0 0) := ⟨_, rfl, ebox1 _ _, ⟨by simp, by simp⟩, World.rowIs_alloc W0 #[.slice none 0 0] _ _ (fun i hi => by simp at hi; subst hi; rfl)⟩
  have k0 := rd.cell (i := 0) (by omega)
  have rd1 := erow_below rd hb1 rd.lt
  have k1 : ∀ o, (W0.alloc o).cell? ⟨w.heap.size, 0, none⟩ = some (.int .i64 (d : Int)) := fun o => (rd.alloc o).cell (i := 0) (by omega)
  refine (callsIn_wide (n := 9)).1 ?_
  refine callsIn_of_wp_marks Try.func34 rfl trivial ?_ rfl
  simp only [Try.ntmps34, List.size_toArray, List.length_cons, List.length_nil, Nat.reduceAdd, Nat.reduceSub, Array.replicate_succ, Array.replicate_zero, List.push_toArray, List.append_toArray, List.nil_append, List.cons_append]
  gi_wp2
  rw [← hW0]
  clear hW0
  refine ⟨trivial, (callsIn_wide.2 (H1.out _)).mono ?_⟩
  rintro e w0 ⟨rfl, hw0⟩
  subst hw0
  dsimp only
  gi_wp2
  refine ⟨trivial, (callsIn_wide.2 (H2.out _)).mono ?_⟩
  rintro e w0 ⟨rfl, hw0⟩
  subst hw0
  dsimp only
  gi_wp2
  rw [← hW1]
  clear hW1
  refine ⟨trivial, (callsIn_wide.2 (iplaces d n W1)).mono ?_⟩
  rintro e w4 ⟨Bs, sv, rfl, ⟨hBs1, hBs2⟩, hcB, hSE, hb4⟩
  have hl169 := monL_le d n
  have hs4 := hb4.size
  have rd4 := erow_below rd1 hb4 rd1.lt
  have rb4 := erow_below rb hb4 rb.lt
  have hg04 : Below w.heap.size w w4 := (hb0.trans (hb1.mono hb0.size)).trans (hb4.mono (by omega))
  clear k0 k1 rd rd1 rb hb4 hb1 hb0
  dsimp only
  gi_wp2
  refine wpIn_rangeFunc_ownH rfl (by omega) (gf := 221) (lb := #[.pointer (some ⟨Bs, 0, none⟩)]) rfl trivial (enters_of Try.func221 (by kernel_rfl) rfl)
    (gall_stops Fence.wide 8 trivial rfl (by omega) Bs W1.heap.size w4.heap.size sv (monL d n) (by omega) w4 hBs2 (Nat.le_refl _) hcB hSE) (fun h k => KpI.trans h k) (fun W l o o' hl h h1 h2 => KpI.putObj (Nat.le_refl _) W l o o' hl h h1 h2) (Below.refl _ _) (fun _ => rfl)
    (fun (pre : List (Fin (monL d n).length)) W => ∃ v O, W.rowIs W0.heap.size 24 1 (fun _ => v) ∧ RowsM W w4.heap.size v O ∧ Hid (O.map (·.2.1) = resP (monL d n) d pre) ∧ w4.grownBy W (some W0.heap.size))
    (fun _ _ _ => False)
    (fun pre X Y row hs hg hq => by
      obtain ⟨v, O, h1, h2, h3, h4⟩ := hs
      have hne : ∀ (g : Nat), row = some g → ∀ (c : Array Value) (t : TypeId) (z : Nat × Nat), X.heap[g]? ≠ some (.cells c t z) := fun g e c t z hc => by
        obtain ⟨o, ho, hcl⟩ := (hq g e).2
        rw [hc] at ho
        cases ho
        cases hcl
      refine ⟨v, O, h1.of_block (hg.block _ h1.lt (fun e => by obtain ⟨c, hc, _⟩ := h1; exact hne _ e.symm _ _ _ hc)), h2.keepP hg ?_ (fun e he e2 => by obtain ⟨_, _, _, _, _, _, hr, _⟩ := h2.rows e he; obtain ⟨c, hc, _⟩ := hr; exact hne _ e2.symm _ _ _ hc), h3, ygrown h4 hg (fun r e => (hq r e).1)⟩
      cases hv : v.ownBlock with
      | none => exact .inl rfl
      | some g => exact .inr (fun e => by obtain ⟨c, z, hc⟩ := Lib.ownsRow_kind h2.owns g hv; exact hne _ e.symm _ _ _ hc))
    (fun _ _ _ _ _ hs _ _ => hs)
    ⟨_, [], rb4, RowsM.nil _ _, Lib.hid rfl, ⟨rfl, rfl, rfl, Nat.le_refl _, fun _ _ _ => rfl⟩⟩
    (fun x a' W => ∃ Bx, w4.heap.size ≤ Bx ∧ W.rowIs Bx 107 3 (expsF ((monL d n)[x.1]'x.2).1 ((monL d n)[x.1]'x.2).2.1 ((monL d n)[x.1]'x.2).2.2) ∧ a' = { tmps := #[.int .i64 (n : Int), .int .i64 (d : Int), undef, .pointer (some ⟨w.heap.size, 0, none⟩), .slice none 0 0, .int .i64 0, .pointer (some ⟨W0.heap.size, 0, none⟩), undef, .pointer (some ⟨Bx, 0, none⟩), undef, undef, .int .i64 (d : Int), .bool true, .bool false, .bool false, .int .i64 (n : Int), .bool true, .bool false, .bool false, .int .i64 (d : Int), .int .i64 (n : Int), allF Bs, .int .i64 (x.1 : Int), .agg #[.int .u8 ((monL d n)[x.1]'x.2).1, .int .u8 ((monL d n)[x.1]'x.2).2.1, .int .u8 ((monL d n)[x.1]'x.2).2.2], undef, undef, undef, undef, undef, undef, undef, undef, undef, undef, undef, undef, undef, undef, undef, undef, undef, undef, undef, undef, undef, undef], defers := [] })
    (fun x a' _ X Y row hs hg hq => by obtain ⟨Bx, h1, h2, h3⟩ := hs; exact ⟨Bx, h1, h2.of_block (hg.block Bx h2.lt (fun e => by obtain ⟨o, ho, hc⟩ := (hq Bx e.symm).2; obtain ⟨c, hb, _⟩ := h2; rw [hb] at ho; cases ho; cases hc)), h3⟩)
    ?assign ?body ?done ?stop
  case assign =>
    rintro l pre x W K ⟨v, O, h1, h2, h3, h4⟩ hK
    have hz : ∀ a b : Value, (#[22, 23] : Array Tmp).zip #[a, b] = #[(22, a), (23, b)] := fun a b => by simp
    rw [hz]
    change Code.wpIn _ _ _ _ _ { tmps := #[.int .i64 (n : Int), .int .i64 (d : Int), undef, .pointer (some ⟨w.heap.size, 0, none⟩), .slice none 0 0, .int .i64 0, .pointer (some ⟨W0.heap.size, 0, none⟩), undef, undef, undef, undef, .int .i64 (d : Int), .bool true, .bool false, .bool false, .int .i64 (n : Int), .bool true, .bool false, .bool false, .int .i64 (d : Int), .int .i64 (n : Int), allF Bs, .int .i64 (x.1 : Int), .agg #[.int .u8 ((monL d n)[x.1]'x.2).1, .int .u8 ((monL d n)[x.1]'x.2).2.1, .int .u8 ((monL d n)[x.1]'x.2).2.2], undef, undef, undef, undef, undef, undef, undef, undef, undef, undef, undef, undef, undef, undef, undef, undef, undef, undef, undef, undef, undef, undef], defers := [] } W
    gi_wp2
    exact hK _ _ ((KeepsOthers.alloc _ _).from _) (KpI.of_below ((Below.refl w4.heap.size W).alloc h4.size _)) ⟨v, O, h1.alloc _, h2.below (ebox1 _ _), h3, ygrown h4 (World.grownBy_alloc W _ none) (fun r e => by cases e)⟩ ⟨W.heap.size, h4.size, World.rowIs_alloc W #[_, _, _] 107 _ (fun i hi => by simp at hi; match i, hi with | 0, _ => rfl | 1, _ => rfl | 2, _ => rfl), rfl⟩
  case body =>
    rintro l pre ⟨k, hk⟩ a' W hl1 ⟨r, hrec⟩ ⟨v, O, hrv, hM, HO, hgW⟩ ⟨Bx, hBx, bX, rfl⟩ hlt
    have hby := monL_byte d n _ (List.getElem_mem hk)
    have HSN : Hid (resP (monL d n) d (pre ++ [⟨k, hk⟩]) = if desB (row3 d ((monL d n)[k])) = true then resP (monL d n) d pre ++ [row3 d ((monL d n)[k])] else resP (monL d n) d pre) := Lib.hid (resP_snoc _ _ _ _)
    obtain ⟨ex, hex⟩ : ∃ e, (monL d n)[k].1 = e := ⟨_, rfl⟩
    obtain ⟨ey, hey⟩ : ∃ e, (monL d n)[k].2.1 = e := ⟨_, rfl⟩
    obtain ⟨ez, hez⟩ : ∃ e, (monL d n)[k].2.2 = e := ⟨_, rfl⟩
    have hexe : (monL d n)[k] = (ex, ey, ez) := by rw [← hex, ← hey, ← hez]
    rw [hexe] at hby HSN
    simp only [hex, hey, hez] at bX ⊢
    have hOl : O.length ≤ 169 := by
      have h1 := congrArg List.length HO.out
      have h2 := resP_len (monL d n) d pre
      simp at h1
      omega
    have hW00 : w.heap.size ≠ W0.heap.size := by omega
    have rdW := yrow rd4 hgW hW00
    have kd := rdW.cell (i := 0) (by omega)
    obtain ⟨W5, hW5, h50, hb5⟩ : ∃ V, V = W.alloc (.cells (madeCells #[.int .i64 0] d) 2) ∧ OwnL V W.heap.size (.slice (some ⟨W.heap.size, 0, none⟩) d d) (rowF d fun _ => 0) ∧ Below W.heap.size W V := ⟨_, rfl, made_own W W.heap.size d (Nat.le_refl _) (by omega) (t := 2) rfl, ebox1 _ _⟩
    have hmkW := hmk W
    obtain ⟨E, hE⟩ : ∃ E : Nat → Int, E = fun q => (row3 3 (ex, ey, ez)).getD q 0 := ⟨_, rfl⟩
    have hEb : ∀ q, q < 3 → 0 ≤ E q ∧ E q ≤ 255 := fun q hq => by
      rw [hE]
      match q, hq with
      | 0, _ => exact ⟨hby.1.1, hby.1.2⟩
      | 1, _ => exact ⟨hby.2.1.1, hby.2.1.2⟩
      | 2, _ => exact ⟨hby.2.2.1, hby.2.2.2⟩
    have hEr : rowF d E = row3 d (ex, ey, ez) := by
      rw [hE]
      refine List.ext_getElem (by simp [rowF, row3]; omega) fun q h1 h2 => ?_
      have hq : q < 3 := by simp [rowF] at h1; omega
      match q, hq with
      | 0, _ => simp [rowF, row3]
      | 1, _ => simp [rowF, row3]
      | 2, _ => simp [rowF, row3]
    have HEr := Lib.hid hEr
    have hEc : ∀ q, q < 3 → expsF ex ey ez q = .int .u8 (E q) := fun q hq => by
      rw [hE]
      match q, hq with
      | 0, _ => rfl
      | 1, _ => rfl
      | 2, _ => rfl
    have HEb := Lib.hid hEb
    have HEc := Lib.hid hEc
    have HHO := Lib.hid (And.intro hrv (And.intro hM (And.intro HO.out hgW)))
    clear hby hex hey hez hSE hmk hrec hcB HO hexe hEb hEc hEr hE hrv hM hgW rb4
    gi_wp2
    rw [← hW5]
    clear hW5 hmkW
    gi_loopw [28] (fun i wr => ∃ j : Nat, j ≤ d ∧ i = .int .i64 j ∧ OwnL wr W.heap.size (.slice (some ⟨W.heap.size, 0, none⟩) d d) (rowF d fun q => if q < j then E q else 0) ∧ Below W.heap.size W wr) (fun i _ => d - (intOf i).toNat)
    case atStart => exact ⟨0, by omega, rfl, by simpa using h50, hb5⟩
    case round =>
      obtain ⟨j, hj, rfl, hO, hb⟩ := hrel
      by_cases hlt2 : j < d
      · have hlt' : (j : Int) < (d : Int) := by omega
        have bx := (erow_below bX hb bX.lt).cell (i := j) (by omega)
        rw [HEc.out j (by omega)] at bx
        obtain ⟨hx0, hx1⟩ := HEb.out j (by omega)
        obtain ⟨x, hx⟩ : ∃ x, E j = x := ⟨_, rfl⟩
        have k0 := World.ownsRow.cellAt (n := d) (xs := valsI (rowF d fun q => if q < j then E q else 0)) (by simpa [OwnL, len_rowF] using hO) j (by omega)
        rw [vals_rowF (by omega)] at k0
        have z0 := World.ownsRow.frozenAt (n := d) (xs := valsI (rowF d fun q => if q < j then E q else 0)) (by simpa [OwnL, len_rowF] using hO) j
        have hst := hO.set j x
        rw [rowF_set, rowF_congr (G := fun q => if q < j + 1 then E q else 0) (fun q hq => by
          by_cases h1 : q = j
          · subst h1; simp [hx]
          · simp only [h1, if_false]
            by_cases h2 : q < j
            · rw [if_pos h2, if_pos (by omega)]
            · rw [if_neg h2, if_neg (by omega)])] at hst
        have hb2 := hb.setCell (p := ⟨W.heap.size, j, none⟩) (Nat.le_refl _) (.int .i64 x)
        rw [hx] at bx hx0 hx1
        have hwx : IntKind.i64.wrap x = x := IntWalk.i64_in _ (by omega)
        clear hx hO hb
        gi_wp2
        go_roundw
        case rel => exact ⟨j + 1, by omega, by simp, hst, hb2⟩
        case measure => simp [intOf]; omega
      · obtain rfl : d = j := by omega
        rw [rowF_congr (G := E) (fun q hq => if_pos hq), HEr.out] at hO
        obtain ⟨hrv, hM, hHO, hgW⟩ := HHO.out
        have hlr : (row3 d (ex, ey, ez)).length = d := row3_len (by omega) _
        have hrow : RowAt wr W.heap.size (.slice (some ⟨W.heap.size, 0, none⟩) d d, row3 d (ex, ey, ez), W.heap.size) := hO.rowAtG (by omega)
        have HIP := Lib.hid (ipart (.slice (some ⟨W.heap.size, 0, none⟩) d d) (row3 d (ex, ey, ez)) wr (by omega) (fun x hx => by
          rw [← HEr.out] at hx
          simp only [rowF, List.mem_map, List.mem_range] at hx
          obtain ⟨q, hq, rfl⟩ := hx
          exact (HEb.out q (by omega)).1) hrow.sl)
        have HHB := Lib.hid hb
        obtain ⟨rw3, hrw3⟩ : ∃ z, row3 d (ex, ey, ez) = z := ⟨_, rfl⟩
        rw [hrw3] at HSN HIP hlr hrow
        have HROW := Lib.hid hrow
        cases hD : desB rw3
        · rw [hD] at HIP
          rw [hD, if_neg (by simp)] at HSN
          clear hO hb hrow hHO hM hrv hgW hrw3 HEr hlr hD
          gi_wp2
          refine ⟨trivial, (CallsIn.inRound l (callsIn_wide.2 HIP.out)).mono ?_⟩
          rintro e w6 ⟨rfl, hb6⟩
          obtain ⟨hrv, hM, hHO, hgW⟩ := HHO.out
          have hb7 := HHB.out.trans (hb6.mono HHB.out.size)
          dsimp only
          clear HIP
          gi_wp2
          exact ⟨⟨hb7.size, fun k o _ hk _ => (hb7.block k (Array.getElem?_eq_some_iff.1 hk).1).trans hk⟩, KpI.of_below (hb7.mono hgW.size), v, O, erow_below hrv hb7 hrv.lt, hM.below hb7, Lib.hid (by rw [HSN.out]; exact hHO), hb7.os.trans hgW.os, hb7.tape.trans hgW.tape, hb7.output.trans hgW.output, Nat.le_trans hgW.size hb7.size, fun b h1 h2 => (hb7.block b (Nat.lt_of_lt_of_le h1 hgW.size)).trans (hgW.block b h1 h2)⟩
        · rw [hD] at HIP
          rw [hD, if_pos rfl] at HSN
          clear hO hb hrow hHO hM hrv hgW hrw3 HEr hD
          gi_wp2
          refine ⟨trivial, (CallsIn.inRound l (callsIn_wide.2 HIP.out)).mono ?_⟩
          rintro e w6 ⟨rfl, hb6⟩
          obtain ⟨hrv, hM, hHO, hgW⟩ := HHO.out
          have hb7 := HHB.out.trans (hb6.mono HHB.out.size)
          have hr6 := HROW.out.below hb6
          have hrv6 := erow_below hrv hb7 hrv.lt
          have hs6 := hb7.size
          have hs4W := hgW.size
          have c1 := hrv6.cell (i := 0) (by omega)
          have f1 := hrv6.frozen 0
          have hown := ((hM.below hb7).owns)
          obtain ⟨u, hu⟩ : ∃ u : Value, u = .slice (some ⟨W.heap.size, 0, none⟩) d d := ⟨_, rfl⟩
          have hmore := fun (v' : Value) (w7 : World) (o : Obj) (ho : w7.ownsRow w4.heap.size 52 1 v' (O.length + 1) (O.map (·.1) ++ [.slice (some ⟨W.heap.size, 0, none⟩) d d])) (hg : (w6.alloc o).grownBy w7 v.ownBlock) => pt_more (lo := W1.heap.size) (l := rw3) (g := W.heap.size) (by omega) (by omega) hgW hrv hM hb7 (hr6.mono (by omega)) (Nat.le_refl _) ho hg
          have HMORE := Lib.hid hmore
          have HFIN : Hid ((O ++ [((.slice (some ⟨W.heap.size, 0, none⟩) d d, rw3, W.heap.size) : Row3)]).map (·.2.1) = resP (monL d n) d (pre ++ [⟨k, hk⟩])) := Lib.hid (by rw [HSN.out, ← hHO]; simp)
          dsimp only
          clear HIP hmore hHO hM hrv hgW hr6 hb6 HHO HHB HROW hu hrv6
          gi_wp2_with (gi_at_builtin; go_loud (refine wpListIn_append_own_at _ rfl _ _ 24 rfl w4.heap.size 52 i1 _ 1 24 Try.underlying24 hi' hz0' hz1' hz2' rfl (by decide) v O.length (O.map (·.1)) rfl (World.ownsRow.alloc hown _) ⟨w6.heap.size, 0, none⟩ 1 1 [.slice (some ⟨W.heap.size, 0, none⟩) d d] rfl rfl (World.news_of_block (cs := #[.slice (some ⟨W.heap.size, 0, none⟩) d d]) (t := 52) (fr := (0, 0)) (heap_alloc_new w6 _)) (by simp [Value.oneCell']) (by unfold maxLen; omega) (by omega) (by simp; omega) ?_; intro v' w7 hown' hgrow _ hblk; obtain ⟨g', cap', rfl⟩ := ownsRow_succ hown'; obtain ⟨q1, q2, q3, q4, q5, q6⟩ := HMORE.out _ w7 _ hown' hgrow; have e1 := q1.cell (i := 0) (by omega); have e2 := q1.frozen 0))
          exact ⟨q5, q6, _, _, q2, q3, HFIN, q4⟩
  case done =>
    rintro D ys W hD rfl ⟨v, O, hrv, hM, HO, hgW⟩ hK
    have hDlt : D < W.heap.size := (Array.getElem?_eq_some_iff.1 hK).1
    have k1 := hrv.cell (i := 0) (by omega)
    have hgT : Below w.heap.size w W := ⟨hgW.os.trans hg04.os, hgW.tape.trans hg04.tape, hgW.output.trans hg04.output, Nat.le_trans hg04.size hgW.size, fun b hb => (hgW.block b (Nat.lt_of_lt_of_le hb hg04.size) (fun e => by cases e; omega)).trans (hg04.block b hb)⟩
    have hRR : OwnRR (W.putObj D (.deferred none)) w4.heap.size v (parL d n n) := by
      have hne : ∀ (g : Nat), some g = some D → ∀ (c : Array Value) (t : TypeId) (z : Nat × Nat), W.heap[g]? ≠ some (.cells c t z) := fun g e c t z hc => by
        cases e
        rw [hK] at hc
        cases hc
      have h := (hM.keepP (grownBy_putObj' W D (.deferred none)) (by
        cases hv : v.ownBlock with
        | none => exact .inl rfl
        | some g => exact .inr (fun e => by obtain ⟨c, z, hc⟩ := Lib.ownsRow_kind hM.owns g hv; exact hne g e c _ z hc)) (fun e he e2 => by obtain ⟨_, _, _, _, _, _, hr, _⟩ := hM.rows e he; obtain ⟨c, hc, _⟩ := hr; exact hne _ e2 c _ _ hc)).rr
      rw [HO.out, resP_all, HPS.out] at h
      exact h
    clear HPS hM HO hmk hcB hSE
    gi_wp2
    refine ⟨by simp, .inl ⟨_, _, rfl, run_takeDeferred hK, ?_⟩⟩
    refine ⟨.tuple #[v, .int .i64 0], by simp [results, Try.results34, go_sem], ?_⟩
    rw [HX.out.1, HX.out.2]
    exact ⟨_, rfl, hRR.monoP hg04.size, hgT.trans (belowK_b (w := w) (Nat.le_refl _) W D _ _ (by omega) hK rfl rfl)⟩
  case stop =>
    rintro D c pre W _ _ h _
    exact h.elim
/-- impl.PartitionsOf. -/
theorem ipo (n d : Int) (w : World) :
    Calls Try.prog 34 #[.int .i64 n, .int .i64 d] w fun e w' => ∃ v', e = .returned (.tuple #[v', .int .i64 (parC n d)]) ∧ OwnRR w' w.heap.size v' (parS n d) ∧ Below w.heap.size w w' := by
  cases h : parB n d
  · exact ipt_no n d w h
  · have hh := h
    simp only [parB, Bool.and_eq_true, decide_eq_true_eq] at hh
    obtain ⟨a, rfl⟩ : ∃ a : Nat, n = (a : Int) := ⟨n.toNat, by omega⟩
    obtain ⟨b, rfl⟩ : ∃ b : Nat, d = (b : Int) := ⟨d.toNat, by omega⟩
    exact ipt_yes a b w h
end Go.Proofs.Ytbahejlgfpilnaa
namespace Go.Proofs.Ytbahejlgfpilnaa
open Go.RowKit Go.Sort

theorem neqI_r (u u' : Value) (l : List Int) (W : World) (hl : l.length ≤ 1048576) (hS : Sl W u l) (hS' : Sl W u' l) : ∀ dd os,
    Calls Try.prog 38 #[u, u'] (grow (redrawn W dd) os) fun e w'' => e = .returned (.bool true) ∧ ∃ q : Regrown, w'' = grow (redrawn W q.d) q.os := fun dd os =>
  Calls.regrown_of (neqI_same u u' l _ hl (hS.below (below_regrown W dd os)) (hS'.below (below_regrown W dd os)))

set_option maxRecDepth 8000 in
set_option maxHeartbeats 4000000 in
theorem eqrows (v v' : Value) (L : List (List Int)) (w : World) (hl : L.length ≤ 1048576) (hlr : ∀ r ∈ L, r.length ≤ 1048576) (hS : SlR w v L) (hS' : SlR w v' L) :
    Calls Try.prog 18 #[v, v'] w fun e w' => e = .returned (.bool true) ∧ Below w.heap.size w w' := by
  have hnn : ((L.length : Int) != (L.length : Int)) = false := by simp
  obtain ⟨a, cap, rfl, hSc⟩ := id hS
  obtain ⟨a', cap', rfl, hSc'⟩ := id hS'
  go_enter Try.func18, Try.ntmps18
  go_wp2_with fail
  go_loopw [5] (fun i wr => ∃ k : Nat, k ≤ L.length ∧ i = .int .i64 k ∧ Below w.heap.size w wr) (fun i _ => L.length - (intOf i).toNat)
  case atStart => exact ⟨0, by omega, rfl, Below.refl _ _⟩
  case round =>
    obtain ⟨k, hk, rfl, hbel⟩ := hrel
    by_cases hlt : k < L.length
    · have hlt' : (k : Int) < (L.length : Int) := by omega
      obtain ⟨b, off, rfl, hbb, hT⟩ : ∃ b off, a = some ⟨b, off, none⟩ ∧ b < w.heap.size ∧ RowsW w b off L := by
        rcases hSc with rfl | h
        · simp at hlt
        · exact h
      obtain ⟨b', off', rfl, hbb', hT'⟩ : ∃ b off, a' = some ⟨b, off, none⟩ ∧ b < w.heap.size ∧ RowsW w b off L := by
        rcases hSc' with rfl | h
        · simp at hlt
        · exact h
      obtain ⟨u, c0, s0⟩ := (hT.below hbel hbb) k hlt
      obtain ⟨u', c1, s1⟩ := (hT'.below hbel hbb') k hlt
      have kE := neqI_r u u' L[k] wr (hlr _ (List.getElem_mem hlt)) s0 s1
      clear s0 s1
      have e0 := cell_regrown c0
      have e1 := cell_regrown c1
      clear c0 c1
      go_wp2_with fail
      refine wp_region_quiet_below (by kernel_rfl) (by kernel_rfl) ?_
      repeat (go_big_quiet_step (with_reducible exact kE _ _))
      refine wpQuiet_nil ?_
      intro _ hw'
      obtain ⟨⟨dq, osq⟩, hw''⟩ := hw'
      subst hw''
      have hb2 := hbel.trans ((below_regrown wr dq osq).mono hbel.size)
      generalize grow (redrawn wr dq) osq = V at *
      clear e0 e1 kE
      go_wp2_with fail
      go_roundw
      case rel => exact ⟨k + 1, by omega, by go_num, hb2⟩
      case measure => simp [intOf]; omega
    · obtain rfl : k = L.length := by omega
      go_wp2_with fail
      go_ret
      exact ⟨rfl, hbel⟩
end Go.Proofs.Ytbahejlgfpilnaa
namespace Go.Proofs.Ytbahejlgfpilnaa
open Go.RowKit Go.Sort

/-- All numbers of a list of lists. -/
def totR (L : List (List Int)) : Nat := (L.map List.length).sum
theorem totR_take {L : List (List Int)} {k : Nat} (h : k < L.length) : totR (L.take (k + 1)) = totR (L.take k) + L[k].length := by
  unfold totR
  rw [List.take_succ_eq_append_getElem h, List.map_append, List.sum_append]
  simp
theorem totR_le (L : List (List Int)) (k : Nat) : totR (L.take k) ≤ totR L := by
  have h : totR L = totR (L.take k) + totR (L.drop k) := by
    unfold totR
    rw [← List.sum_append, ← List.map_append, List.take_append_drop]
  omega
theorem totR_row {L : List (List Int)} {r : List Int} (h : r ∈ L) : r.length ≤ totR L := by
  obtain ⟨k, hk, rfl⟩ := List.mem_iff_getElem.1 h
  have h1 := totR_take hk
  have h2 := totR_le L (k + 1)
  omega
end Go.Proofs.Ytbahejlgfpilnaa
namespace Go.Proofs.Ytbahejlgfpilnaa
open Go.RowKit Go.Sort

/-- What a mark makes of the rows. -/
def markL : Int → List Row3 → List Row3
  | _, [] => []
  | k, e :: O => (e.1, seqL k e.2.1.length, e.2.2) :: markL (k + e.2.1.length) O
def totL : List Row3 → Nat
  | [] => 0
  | e :: O => e.2.1.length + totL O
theorem markL_len : ∀ (k : Int) (O : List Row3), (markL k O).length = O.length
  | _, [] => rfl
  | k, e :: O => by simp [markL, markL_len _ O]
theorem markL_at : ∀ (k : Int) (O : List Row3) (q : Nat) (h : q < O.length), (markL k O)[q]'(by rw [markL_len]; exact h) = (O[q].1, seqL (k + totL (O.take q)) O[q].2.1.length, O[q].2.2)
  | _, [], _, h => by simp at h
  | k, e :: O, 0, _ => by simp [markL, totL]
  | k, e :: O, q + 1, h => by
    simp only [markL, List.getElem_cons_succ, List.take_succ_cons, totL]
    rw [markL_at _ O q (by simpa using h)]
    congr 3
    simp
    omega
theorem totL_take {O : List Row3} {q : Nat} (h : q < O.length) : totL (O.take (q + 1)) = totL (O.take q) + O[q].2.1.length := by
  induction O generalizing q with
  | nil => simp at h
  | cons e O ih =>
    cases q with
    | zero => simp [totL]
    | succ q =>
      simp only [List.take_succ_cons, totL, List.getElem_cons_succ]
      rw [ih (by simpa using h)]
      omega
theorem totL_bound {n : Nat} : ∀ {O : List Row3}, (∀ e ∈ O, e.2.1.length ≤ n) → totL O ≤ n * O.length
  | [], _ => by simp [totL]
  | e :: O, h => by
    have h1 := h e (by simp)
    have h2 := totL_bound (n := n) (O := O) fun x hx => h x (by simp [hx])
    simp only [totL, List.length_cons, Nat.mul_succ]
    omega
theorem totL_sub : ∀ (O : List Row3) (k : Nat), totL (O.take k) ≤ totL O
  | [], k => by simp [totL]
  | e :: O, 0 => by simp [totL]
  | e :: O, k + 1 => by
    simp only [List.take_succ_cons, totL]
    have := totL_sub O k
    omega
/-- Blocks of a list may have changed, no other. -/
structure GrewB (bs : List Nat) (w w' : World) : Prop where
  os : w'.os = w.os
  tape : w'.tape = w.tape
  output : w'.output = w.output
  size : w.heap.size ≤ w'.heap.size
  block : ∀ k, k < w.heap.size → k ∉ bs → w'.heap[k]? = w.heap[k]?
theorem GrewB.refl (bs : List Nat) (w : World) : GrewB bs w w := ⟨rfl, rfl, rfl, Nat.le_refl _, fun _ _ _ => rfl⟩
theorem GrewB.step {bs : List Nat} {w w' w'' : World} {b : Nat} (h : GrewB bs w w') (hb : b ∈ bs) (hg : w'.grownBy w'' (some b)) : GrewB bs w w'' :=
  ⟨hg.os.trans h.os, hg.tape.trans h.tape, hg.output.trans h.output, Nat.le_trans h.size hg.size, fun k hk hn => (hg.block k (Nat.lt_of_lt_of_le hk h.size) (fun e => hn (by simp at e; rw [e]; exact hb))).trans (h.block k hk hn)⟩
theorem GrewB.below {bs : List Nat} {w w' : World} {base : Nat} (h : GrewB bs w w') (hb : ∀ b ∈ bs, base ≤ b) (hw : base ≤ w.heap.size) : Below base w w' :=
  ⟨h.os, h.tape, h.output, h.size, fun k hk => h.block k (by omega) (fun e => by have := hb k e; omega)⟩
theorem head_mark {w : World} {g : Nat} {O : List Row3} {k : Int} (h : HeadR w g O) : HeadR w g (markL k O) := by
  obtain ⟨N, f, hN, hr, hf⟩ := h
  refine ⟨N, f, by rw [markL_len]; exact hN, hr, fun q hq => ?_⟩
  have hq' : q < O.length := by rwa [markL_len] at hq
  rw [hf q hq', markL_at k O q hq']
/-- What is marked up to k. -/
def Mkd (w : World) (base : Nat) (O : List Row3) (k : Nat) : Prop := ∀ (q : Nat) (h : q < O.length), RowAt w base (if q < k then (O[q].1, seqL (1 + totL (O.take q)) O[q].2.1.length, O[q].2.2) else O[q])
theorem Mkd.step {w w' : World} {base : Nat} {O : List Row3} {k : Nat} (h : Mkd w base O k) (hnd : (O.map (·.2.2)).Nodup) (hk : k < O.length) (hg : w.grownBy w' (some O[k].2.2)) (hn : RowAt w' base (O[k].1, seqL (1 + totL (O.take k)) O[k].2.1.length, O[k].2.2)) : Mkd w' base O (k + 1) := fun q hq => by
  by_cases e : q = k
  · subst e; rw [if_pos (by omega)]; exact hn
  · have hb : O[q].2.2 ≠ O[k].2.2 := fun e2 => e (by
      have h1 : (O.map (·.2.2))[q]'(by simpa using hq) = (O.map (·.2.2))[k]'(by simpa using hk) := by simpa using e2
      exact (List.getElem_inj hnd).1 h1)
    have := h q hq
    by_cases hlt : q < k
    · rw [if_pos hlt] at this
      rw [if_pos (by omega)]
      exact this.kept hg hb
    · rw [if_neg hlt] at this
      rw [if_neg (by omega)]
      exact this.kept hg hb
theorem Mkd.done {w : World} {base : Nat} {O : List Row3} (h : Mkd w base O O.length) : ∀ e ∈ markL 1 O, RowAt w base e := fun e he => by
  obtain ⟨q, hq, rfl⟩ := List.getElem_of_mem he
  have hq' : q < O.length := by rwa [markL_len] at hq
  have := h q hq'
  rw [if_pos hq'] at this
  rw [markL_at 1 O q hq']
  exact this

set_option maxRecDepth 8000 in
set_option maxHeartbeats 4000000 in
theorem markrowsT (base g cap : Nat) (O : List Row3) (w : World) (hl : O.length ≤ 1048576) (hlr : ∀ e ∈ O, e.2.1.length ≤ 1048576) (htot : totL O ≤ 67108864) (hh : HeadR w g O) (hr : ∀ e ∈ O, RowAt w base e) (hnd : (O.map (·.2.2)).Nodup) :
    Calls Try.prog 21 #[.slice (some ⟨g, 0, none⟩) O.length cap, .int .i64 1] w fun r w' => r = .returned (.int .i64 (1 + totL O)) ∧ HeadR w' g (markL 1 O) ∧ Hid (∀ e ∈ markL 1 O, RowAt w' base e) ∧ GrewB (O.map (·.2.2)) w w' := by
  have HNG : Hid (∀ e ∈ O, e.2.2 ≠ g) := Lib.hid (fun e he => head_row hh (hr e he))
  have HND := Lib.hid hnd
  have HLR := Lib.hid hlr
  have HM0 : Hid (Mkd w base O 0) := Lib.hid (fun q hq => by rw [if_neg (by omega)]; exact hr _ (List.getElem_mem hq))
  clear hr hnd hlr
  go_enter Try.func21, Try.ntmps21
  go_wp2_with fail
  go_loopw [1, 5] (fun m i wr => ∃ k : Nat, k ≤ O.length ∧ i = .int .i64 k ∧ m = .int .i64 (1 + (totL (O.take k) : Int)) ∧ HeadR wr g O ∧ Hid (Mkd wr base O k) ∧ GrewB (O.map (·.2.2)) w wr) (fun _ i _ => O.length - (intOf i).toNat)
  case atStart => exact ⟨0, by omega, rfl, by simp [totL], hh, HM0, GrewB.refl _ _⟩
  case round =>
    clear hh HM0
    obtain ⟨k, hk, rfl, rfl, hH, HM, hG⟩ := hrel
    by_cases hlt : k < O.length
    · have hlt' : (k : Int) < (O.length : Int) := by omega
      have c0 := head_at hH hlt
      have hrk : RowAt wr base O[k] := by have := HM.out k hlt; rwa [if_neg (by omega)] at this
      have hbd : totL (O.take k) ≤ 67108864 := Nat.le_trans (totL_sub O k) htot
      have HMK := Lib.hid (rmark base O[k] (1 + (totL (O.take k) : Int)) wr hrk (HLR.out _ (List.getElem_mem hlt)) (by omega) (by omega))
      have HTT : Hid ((1 + (totL (O.take k) : Int)) + (O[k].2.1.length : Int) = 1 + (totL (O.take (k + 1)) : Int)) := Lib.hid (by rw [totL_take hlt]; omega)
      have HBM : Hid (O[k].2.2 ∈ O.map (·.2.2)) := Lib.hid (List.mem_map_of_mem (List.getElem_mem hlt))
      have HNK := Lib.hid (HNG.out _ (List.getElem_mem hlt))
      have HST := Lib.hid (fun w' hg hn => Mkd.step (w' := w') HM.out HND.out hlt hg hn)
      clear hbd hrk
      generalize O[k] = e at *
      obtain ⟨u, l, b⟩ := e
      simp only at c0
      go_wp2_with fail
      ((with_reducible refine HMK.out.mono ?_); rintro r w2 ⟨rfl, hrow, hg⟩)
      have HMN := Lib.hid (HST.out _ hg hrow)
      have hH2 := head_kept hH hg HNK.out
      have hG2 := hG.step HBM.out hg
      clear HMK HST hrow hg hH hG c0
      go_wp2_with fail
      go_roundw
      case rel => exact ⟨k + 1, by omega, by go_num, by rw [← HTT.out], hH2, HMN, hG2⟩
      case measure => simp [intOf]; omega
    · obtain rfl : k = O.length := by omega
      have HDN := Lib.hid HM.out.done
      have hHM := head_mark (k := 1) hH
      have HTT : Hid (totL (O.take O.length) = totL O) := Lib.hid (by rw [List.take_length])
      rw [HTT.out]
      clear hH HM
      go_wp2_with fail
      go_ret
      exact ⟨rfl, hHM, HDN, hG⟩
theorem mark_none (a : Option Addr) (c : Nat) (w : World) :
    Calls Try.prog 21 #[.slice a 0 c, .int .i64 1] w fun r w' => r = .returned (.int .i64 1) ∧ w' = w := by
  go_enter Try.func21, Try.ntmps21
  go_wp2
  refine wp_loop_rounds 1 ?_
  rw [rounds_succ]
  go_wp2
  go_ret
  exact ⟨rfl, rfl⟩
end Go.Proofs.Ytbahejlgfpilnaa
namespace Go.Proofs.Ytbahejlgfpilnaa
open Go.RowKit Go.Sort

theorem totL_map : ∀ O : List Row3, totL O = totR (O.map (·.2.1))
  | [] => rfl
  | e :: O => by simp [totL, totR, totL_map O]
end Go.Proofs.Ytbahejlgfpilnaa
namespace Go.Proofs.Ytbahejlgfpilnaa
open Go.RowKit Go.Sort

theorem OwnRR.keptB {w w' : World} {base : Nat} {v : Value} {S : List (List Int)} {bs : List Nat} (h : OwnRR w base v S) (hg : GrewB bs w w') (hb : ∀ b ∈ bs, b < base) : OwnRR w' base v S := by
  obtain ⟨O, h1, h2, h3, h4⟩ := h
  have ne : ∀ b, base ≤ b → b ∉ bs := fun b hle q => by have := hb b q; omega
  refine ⟨O, h1, h2.imp id fun ⟨g, cap, a, b, N, f, c, hr, hf⟩ => ⟨g, cap, a, b, N, f, c, hr.of_block (hg.block _ hr.lt (ne g b)), hf⟩, fun e he => ?_, h4⟩
  obtain ⟨cap, N, f, hv, hbb, hN, hr, hf⟩ := h3 e he
  exact ⟨cap, N, f, hv, hbb, hN, hr.of_block (hg.block _ hr.lt (ne _ hbb)), hf⟩
theorem OwnRR.mono {w : World} {base base' : Nat} {v : Value} {S : List (List Int)} (h : OwnRR w base v S) (hb : base' ≤ base) : OwnRR w base' v S := by
  obtain ⟨O, h1, h2, h3, h4⟩ := h
  exact ⟨O, h1, h2.imp id fun ⟨g, cap, a, b, c⟩ => ⟨g, cap, a, Nat.le_trans hb b, c⟩, fun e he => (h3 e he).mono hb, h4⟩
set_option maxRecDepth 8000 in
set_option maxHeartbeats 4000000 in
theorem heldrowsT (g cap : Nat) (O : List Row3) (w : World) (hl : O.length ≤ 1048576) (hlr : ∀ e ∈ O, e.2.1.length ≤ 1048576) (htot : totL O ≤ 67108864) (hh : HeadR w g (markL 1 O)) (hr : ∀ e ∈ markL 1 O, Sl w e.1 e.2.1) :
    Calls Try.prog 22 #[.slice (some ⟨g, 0, none⟩) O.length cap, .int .i64 1] w fun r w' => r = .returned (.int .i64 (1 + totL O)) ∧ w' = w := by
  have HLR := Lib.hid hlr
  have HR : Hid (∀ (q : Nat) (h : q < O.length), w.cell? ⟨g, q, none⟩ = some O[q].1 ∧ Sl w O[q].1 (seqL (1 + totL (O.take q)) O[q].2.1.length)) := Lib.hid (fun q hq => by
    have hq' : q < (markL 1 O).length := by rw [markL_len]; exact hq
    have c := head_at hh hq'
    have s := hr _ (List.getElem_mem hq')
    rw [markL_at 1 O q hq] at c s
    exact ⟨c, s⟩)
  have HTO := Lib.hid htot
  clear hr hlr hh htot
  go_enter Try.func22, Try.ntmps22
  go_wp2_with fail
  go_loop [1, 5] (fun m i => ∃ k : Nat, k ≤ O.length ∧ i = .int .i64 k ∧ m = .int .i64 (1 + (totL (O.take k) : Int))) (fun _ i => O.length - (intOf i).toNat)
  case atStart => exact ⟨0, by omega, rfl, by simp [totL]⟩
  case round =>
    obtain ⟨k, hk, rfl, rfl⟩ := hrel
    by_cases hlt : k < O.length
    · have hlt' : (k : Int) < (O.length : Int) := by omega
      obtain ⟨c0, s0⟩ := HR.out k hlt
      have hbd : totL (O.take k) ≤ 67108864 := Nat.le_trans (totL_sub O k) HTO.out
      have HTT : Hid ((1 + (totL (O.take k) : Int)) + (O[k].2.1.length : Int) = 1 + (totL (O.take (k + 1)) : Int)) := Lib.hid (by rw [totL_take hlt]; omega)
      have HHD := Lib.hid (rheld O[k].1 O[k].2.1.length (1 + (totL (O.take k) : Int)) w s0 (HLR.out _ (List.getElem_mem hlt)) (by omega) (by omega))
      have hnn : ¬ (1 + (totL (O.take k) : Int)) + (O[k].2.1.length : Int) < 0 := by omega
      clear hbd s0
      generalize O[k] = e at *
      obtain ⟨u, l, b⟩ := e
      simp only at c0 hnn
      go_wp2_with fail
      ((with_reducible refine HHD.out.mono ?_); rintro r w2 ⟨rfl, rfl⟩)
      clear HHD
      go_wp2_with fail
      go_round
      case rel => exact ⟨k + 1, by omega, by go_num, by rw [← HTT.out]⟩
      case measure => simp [intOf]; omega
    · obtain rfl : k = O.length := by omega
      have HTT : Hid (totL (O.take O.length) = totL O) := Lib.hid (by rw [List.take_length])
      rw [HTT.out]
      go_wp2_with fail
      go_ret
      exact ⟨rfl, rfl⟩
/-- Marked rows: what reading back gives. -/
def MkdRT (w : World) (base : Nat) (v : Value) (tot : Nat) : Prop :=
  ((∃ a c, v = .slice a 0 c) ∧ tot = 0) ∨ ∃ g cap O, v = .slice (some ⟨g, 0, none⟩) (List.length O) cap ∧ O.length ≤ 1048576 ∧ (∀ e ∈ O, e.2.1.length ≤ 1048576) ∧ totL O ≤ 67108864 ∧ HeadR w g (markL 1 O) ∧ (∀ e ∈ markL 1 O, RowAt w base e) ∧ tot = totL O
theorem MkdRT.below {w w' : World} {base : Nat} {v : Value} {tot : Nat} (h : MkdRT w base v tot) (hb : Below w.heap.size w w') : MkdRT w' base v tot :=
  h.imp id fun ⟨g, cap, O, a, b, c, t, d, e, f⟩ => ⟨g, cap, O, a, b, c, t, head_below d hb, fun x hx => (e x hx).below hb, f⟩
theorem held_noneT (a : Option Addr) (c : Nat) (w : World) :
    Calls Try.prog 22 #[.slice a 0 c, .int .i64 1] w fun r w' => r = .returned (.int .i64 1) ∧ w' = w := by
  go_enter Try.func22, Try.ntmps22
  go_wp2
  refine wp_loop_rounds 1 ?_
  rw [rounds_succ]
  go_wp2
  go_ret
  exact ⟨rfl, rfl⟩
theorem OwnRR.markT {w : World} {base : Nat} {v : Value} {S : List (List Int)} (h : OwnRR w base v S) (hl : S.length ≤ 1048576) (hlr : ∀ r ∈ S, r.length ≤ 1048576) (ht : totR S ≤ 67108864) (hbw : base ≤ w.heap.size) :
    Calls Try.prog 21 #[v, .int .i64 1] w fun r w' => r = .returned (.int .i64 (1 + (totR S : Int))) ∧ MkdRT w' base v (totR S) ∧ Below base w w' := by
  obtain ⟨O, rfl, h2, h3, h4⟩ := h
  have hlr' : ∀ e ∈ O, e.2.1.length ≤ 1048576 := fun e he => hlr _ (List.mem_map_of_mem he)
  have hl' : O.length ≤ 1048576 := by simpa using hl
  rcases h2 with ⟨rfl, a, c, rfl⟩ | ⟨g, cap, rfl, hg, hh⟩
  · exact (mark_none a c w).mono fun r w' ⟨hr, hw⟩ => ⟨by simpa [totR] using hr, .inl ⟨⟨a, c, rfl⟩, rfl⟩, by rw [hw]; exact ⟨rfl, rfl, rfl, Nat.le_refl _, fun _ _ => rfl⟩⟩
  · rw [← totL_map] at ht ⊢
    refine (markrowsT base g cap O w hl' hlr' ht hh h3 h4).mono fun r w' ⟨hr, h5, h6, h7⟩ => ⟨hr, .inr ⟨g, cap, O, rfl, hl', hlr', ht, h5, h6.out, rfl⟩, h7.below (fun b hb => ?_) hbw⟩
    obtain ⟨e, he, rfl⟩ := List.mem_map.1 hb
    obtain ⟨_, _, _, _, hb', _⟩ := h3 e he
    exact hb'
theorem MkdRT.held {w : World} {base : Nat} {v : Value} {tot : Nat} (h : MkdRT w base v tot) :
    Calls Try.prog 22 #[v, .int .i64 1] w fun r w' => r = .returned (.int .i64 (1 + (tot : Int))) ∧ w' = w := by
  rcases h with ⟨⟨a, c, rfl⟩, rfl⟩ | ⟨g, cap, O, rfl, hl, hlr, ht, hh, hr, rfl⟩
  · exact (held_noneT a c w).mono fun r w' ⟨h1, h2⟩ => ⟨by simpa using h1, h2⟩
  · exact heldrowsT g cap O w hl hlr ht hh fun e he => (hr e he).sl
end Go.Proofs.Ytbahejlgfpilnaa
namespace Go.Proofs.Ytbahejlgfpilnaa
open Go.RowKit Go.Sort EchM

theorem totN_mul {c : Nat} : ∀ {S : List (List Int)}, (∀ r ∈ S, r.length ≤ c) → totR S ≤ c * S.length
  | [], _ => by simp [totR]
  | r :: S, h => by
    have h1 := h r (by simp)
    have h2 := totN_mul (S := S) fun x hx => h x (by simp [hx])
    show r.length + totR S ≤ c * (S.length + 1)
    rw [Nat.mul_add, Nat.mul_one, Nat.add_comm]
    exact Nat.add_le_add h2 h1

set_option maxRecDepth 8000 in
set_option maxHeartbeats 8000000 in
theorem law_Pt (n d : Int) (w : World) :
    Calls Try.prog 7 #[.int .i64 n, .int .i64 d] w fun e w' => e = .returned (.bool true) ∧ Below w.heap.size w w' := by
  obtain ⟨hs1, hs2⟩ := par_size n d
  have hst := totN_mul hs2
  have hSP := fun w => spo n d w
  have hIM := fun w => ipo n d w
  obtain ⟨S, hS⟩ : ∃ S, parS n d = S := ⟨_, rfl⟩
  obtain ⟨c, hc⟩ : ∃ c, parC n d = c := ⟨_, rfl⟩
  rw [hS] at hs1 hs2 hst hSP hIM
  rw [hc] at hSP hIM
  have HSP := Lib.hid hSP
  have HIM := Lib.hid hIM
  have hso : S.length ≤ 1048576 := by omega
  have HSR2 : Hid (∀ r ∈ S, r.length ≤ 1048576) := Lib.hid (fun r hr => Nat.le_trans (hs2 r hr) (by decide))
  have HST : Hid (totR S ≤ 67108864) := Lib.hid (by omega)
  have hsk : 0 ≤ (totR S : Int) := by omega
  obtain ⟨Q, hQ⟩ : ∃ Q, (totR S : Int) = Q := ⟨_, rfl⟩
  have HQQ := Lib.hid hQ
  have hn1 : ¬ (1 + Q) < 0 := by omega
  have hn2 : ((1 + Q) != 1 + Q) = false := by simp
  have hcc : (c != c) = false := by simp
  clear hsk hQ hS hc hs1 hs2 hst hSP hIM
  go_enter Try.func7, Try.ntmps7
  go_wp2_with fail
  ((with_reducible refine (HSP.out _).mono ?_); rintro e w3 ⟨vs, rfl, hs, hW2⟩)
  obtain ⟨sa, sc, rfl, _⟩ := id hs
  have hb4 : Below w3.heap.size w3 w3 := Below.refl _ _
  go_wp2_with fail
  ((with_reducible refine (HIM.out _).mono ?_); rintro e w5 ⟨v5, rfl, ho, hb⟩)
  obtain ⟨a5, c5, rfl⟩ := ho.shape
  have hKK := hb4.size
  have K5 := hb4.trans (hb.mono hb4.size)
  clear hb hb4
  go_wp2_with fail
  ((with_reducible refine (eqrows _ _ S _ hso HSR2.out ho.slR (hs.below K5)).mono ?_); rintro e w6 ⟨rfl, hb⟩)
  have ho10 := (ho.below hb).mono hKK
  have K6 := K5.trans (hb.mono K5.size)
  clear ho K5 hb
  go_wp2_with fail
  ((with_reducible refine (ho10.markT hso HSR2.out HST.out K6.size).mono ?_); rintro e w11 ⟨rfl, hM, hb⟩)
  have K11 := K6.trans hb
  have HHM := Lib.hid hM.held
  rw [HQQ.out] at HHM
  rw [HQQ.out]
  clear ho10 K6 hb
  go_wp2_with fail
  ((with_reducible refine HHM.out.mono ?_); rintro e w12 ⟨rfl, rfl⟩)
  clear HHM
  have hM1 := hM
  have K13 := K11
  clear hM K11
  go_wp2_with fail
  ((with_reducible refine (HIM.out _).mono ?_); rintro e w14 ⟨v6, rfl, ho, hb⟩)
  obtain ⟨a6, c6, rfl⟩ := ho.shape
  have hM2 := hM1.below hb
  have K14 := K13.trans (hb.mono K13.size)
  clear hM1 K13 hb
  go_wp2_with fail
  ((with_reducible refine (eqrows _ _ S _ hso HSR2.out ho.slR (hs.below K14)).mono ?_); rintro e w15 ⟨rfl, hb⟩)
  have hM3 := hM2.below hb
  have K15 := K14.trans (hb.mono K14.size)
  have HHM := Lib.hid hM3.held
  rw [HQQ.out] at HHM
  clear hM2 K14 hb ho
  go_wp2_with fail
  ((with_reducible refine HHM.out.mono ?_); rintro e w16 ⟨rfl, rfl⟩)
  have hend := hW2.trans (K15.mono hW2.size)
  go_wp2
  go_ret
  exact ⟨rfl, hend⟩
end Go.Proofs.Ytbahejlgfpilnaa
