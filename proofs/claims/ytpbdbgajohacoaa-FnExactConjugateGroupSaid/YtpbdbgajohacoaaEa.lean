/-
  WALKS of the model on rows modulo p: small functions, the first place other than 0, copies, rows less multiples of rows. Conditions: as each theorem states.
-/
import Derived.Test.YtpbdbgajohacoaaEm
import Derived.WalkKit
import Derived.WalkSpells
import Derived.WalkLawsBesides
import Derived.Lib.QuietBelow
import Derived.Lib.Hide
import Derived.Lib.OwnKind
import Derived.StillTailTactics
import Derived.Deep.Light
import Derived.Deep.AppendLies
import Derived.BigQuiet
import Derived.IntWalk
import Derived.Deep.OwnRows
namespace Go.Proofs.Ytpbdbgajohacoaa
open Go.RowKit Go.Sort EchM

theorem ebox1 (w : World) (o : Obj) : Below w.heap.size w (w.alloc o) := (Below.refl _ _).alloc (Nat.le_refl _) o
theorem ebox2 (w : World) (o p : Obj) : Below w.heap.size w ((w.alloc o).alloc p) := (ebox1 w o).alloc (by simp) p
theorem erow_below {w w' : World} {b n B : Nat} {t : TypeId} {f : Nat → Value} (h : w.rowIs b t n f) (hb : Below B w w') (hB : b < B) : w'.rowIs b t n f := h.of_block (hb.block b hB)
theorem eowns_below {w w' : World} {base : Nat} {e : TypeId} {size : Nat} {v : Value} {n : Nat} {xs : List Value} (h : w.ownsRow base e size v n xs) (hb : Below w.heap.size w w') : w'.ownsRow base e size v n xs :=
  h.kept (row := none) ⟨hb.os, hb.tape, hb.output, hb.size, fun k hk _ => hb.block k hk⟩ (by cases v.ownBlock <;> simp)

def pB (p : Int) : Bool := p == 2 || p == 3 || p == 5 || p == 7 || p == 11 || p == 13
theorem pB_cases (p : Int) : (p = 2 ∨ p = 3 ∨ p = 5 ∨ p = 7 ∨ p = 11 ∨ p = 13) ∨ (p == 2) = false ∧ (p == 3) = false ∧ (p == 5) = false ∧ (p == 7) = false ∧ (p == 11) = false ∧ (p == 13) = false := by
  simp; omega
theorem pB_le {p : Int} (h : pB p = true) : 2 ≤ p ∧ p ≤ 13 := by
  simp [pB] at h; omega
theorem pB_set {p : Int} (h : pB p = true) : PrimeS p := by
  simp [pB] at h; unfold PrimeS; omega

set_option maxRecDepth 8000 in
set_option maxHeartbeats 1000000 in
theorem eprime (p : Int) (w : World) : Calls Try.prog 37 #[.int .i64 p] w fun e w' => e = .returned (.bool (pB p)) ∧ w = w' := by
  rcases pB_cases p with (rfl | rfl | rfl | rfl | rfl | rfl) | ⟨h2, h3, h5, h7, h11, h13⟩
  all_goals
    go_enter Try.func37, Try.ntmps37
    go_wp2
    go_ret
    first | exact ⟨rfl, rfl⟩ | exact ⟨by simp [pB, h2, h3, h5, h7, h11, h13], rfl⟩
set_option maxRecDepth 8000 in
set_option maxHeartbeats 1000000 in
theorem iprime (p : Int) (w : World) : Calls Try.prog 43 #[.int .i64 p] w fun e w' => e = .returned (.bool (pB p)) ∧ w = w' := by
  rcases pB_cases p with (rfl | rfl | rfl | rfl | rfl | rfl) | ⟨h2, h3, h5, h7, h11, h13⟩
  all_goals
    go_enter Try.func43, Try.ntmps43
    go_wp2
    go_ret
    first | exact ⟨rfl, rfl⟩ | exact ⟨by simp [pB, h2, h3, h5, h7, h11, h13], rfl⟩

set_option maxRecDepth 8000 in
set_option maxHeartbeats 400000 in
theorem ein (n a b : Int) (w : World) :
    Calls Try.prog 38 #[.int .i64 n, .int .i64 a, .int .i64 b] w fun e w' => e = .returned (.bool (decide (a ≤ n) && decide (n ≤ b))) ∧ w = w' := by
  by_cases h : a ≤ n
  · go_enter Try.func38, Try.ntmps38
    go_wp2
    go_ret
    exact ⟨by simp; omega, rfl⟩
  · go_enter Try.func38, Try.ntmps38
    go_wp2
    go_ret
    exact ⟨by simp; omega, rfl⟩
set_option maxRecDepth 8000 in
set_option maxHeartbeats 400000 in
theorem ivars (n : Int) (w : World) :
    Calls Try.prog 44 #[.int .i64 n] w fun e w' => e = .returned (.bool (decide (1 ≤ n) && decide (n ≤ 3))) ∧ w = w' := by
  by_cases h : 1 ≤ n
  · go_enter Try.func44, Try.ntmps44
    go_wp2
    go_ret
    exact ⟨by simp; omega, rfl⟩
  · go_enter Try.func44, Try.ntmps44
    go_wp2
    go_ret
    exact ⟨by simp; omega, rfl⟩

theorem tmod_neg {p x : Int} (h2 : 2 ≤ p) (h0 : x < 0) : -p < x.tmod p ∧ x.tmod p ≤ 0 ∧ x.tmod p % p = x % p := by
  have h1 : x.tmod p = -((-x) % p) := by
    have := Int.neg_tmod (a := -x) (b := p)
    rw [Int.neg_neg] at this
    rw [this, Int.tmod_eq_emod_of_nonneg (by omega)]
  have a := Int.emod_nonneg (-x) (b := p) (by omega)
  have b := Int.emod_lt_of_pos (-x) (b := p) (by omega)
  refine ⟨by omega, by omega, ?_⟩
  rw [h1]
  obtain ⟨t, ht⟩ := dvd_emod p (-x)
  rw [show -((-x) % p) = x + p * (-t) by grind, Int.add_mul_emod_self_left]

set_option maxRecDepth 8000 in
set_option maxHeartbeats 1000000 in
theorem emod_any (p x : Int) (w : World) (h2 : 2 ≤ p) (h13 : p ≤ 13) (h0 : -1000000000 ≤ x) (h1 : x ≤ 1000000000) :
    Calls Try.prog 130 #[.int .i64 p, .int .i64 x] w fun e w' => e = .returned (.int .i64 (x % p)) ∧ w = w' := by
  by_cases hx : 0 ≤ x
  · have g0 : 0 ≤ x % p := Int.emod_nonneg _ (by omega)
    have g1 : x % p < p := Int.emod_lt_of_pos _ (by omega)
    have HQ := Lib.hid (show (x % p + p) % p = x % p by rw [Int.add_emod_right, Int.emod_emod_of_dvd _ (Int.dvd_refl p)])
    go_enter Try.func130, Try.ntmps130
    go_wp2
    go_ret
    exact ⟨by show Ending.returned (.int .i64 ((x % p + p) % p)) = _; rw [HQ.out], rfl⟩
  · obtain ⟨g0, g1, g2⟩ := tmod_neg h2 (x := x) (by omega)
    have HQ := Lib.hid g2
    clear g2
    generalize hT : x.tmod p = T at *
    have hw : IntKind.i64.wrap T = T := IntWalk.i64_in _ (by omega)
    go_enter Try.func130, Try.ntmps130
    go_wp2
    go_ret
    exact ⟨by rw [← HQ.out]; rfl, rfl⟩

/-- A list of numbers in cells; a slice that reads as a list. -/
def Cs (w : World) (b off : Nat) (l : List Int) : Prop := ∀ (k : Nat) (h : k < l.length), w.cell? ⟨b, off + k, none⟩ = some (.int .i64 l[k])
def Sl (w : World) (v : Value) (l : List Int) : Prop :=
  ∃ a cap, v = .slice a l.length cap ∧ (l = [] ∨ ∃ b off, a = some ⟨b, off, none⟩ ∧ b < w.heap.size ∧ Cs w b off l)
theorem Cs.below {w w' : World} {b off B : Nat} {l : List Int} (h : Cs w b off l) (hb : Below B w w') (hB : b < B) : Cs w' b off l := fun k hk => (hb.cell (p := ⟨b, _, none⟩) hB).trans (h k hk)
theorem Sl.below {w w' : World} {v : Value} {l : List Int} (h : Sl w v l) (hb : Below w.heap.size w w') : Sl w' v l := by
  obtain ⟨a, cap, hv, h | ⟨b, off, ha, hlt, hT⟩⟩ := h
  · exact ⟨a, cap, hv, .inl h⟩
  · exact ⟨a, cap, hv, .inr ⟨b, off, ha, Nat.lt_of_lt_of_le hlt hb.size, hT.below hb hlt⟩⟩
/-- A list of numbers of the call's own. -/
def valsI (l : List Int) : List Value := l.map (Value.int .i64)
def OwnL (w : World) (base : Nat) (v : Value) (l : List Int) : Prop := w.ownsRow base 2 1 v l.length (valsI l)
theorem OwnL.below {w w' : World} {base : Nat} {v : Value} {l : List Int} (h : OwnL w base v l) (hb : Below w.heap.size w w') : OwnL w' base v l := eowns_below h hb
theorem OwnL.slice {w : World} {base : Nat} {v : Value} {l : List Int} (h : OwnL w base v l) : Sl w v l := by
  have h' := h
  obtain ⟨_, ⟨hv, hn⟩ | ⟨g, cap, cur, hv, _, hg, _⟩⟩ := h
  · have : l = [] := List.eq_nil_of_length_eq_zero hn
    subst this
    exact ⟨none, 0, hv, .inl rfl⟩
  · refine ⟨_, _, hv, .inr ⟨g, 0, rfl, (h'.lt g (by rw [hv]; rfl)).2, fun k hk => ?_⟩⟩
    have := h'.cells (g := g) (by rw [hv]; rfl) k (.int .i64 l[k]) (by simp [valsI, hk])
    rwa [show (⟨g, 0, none⟩ : Addr).add k = ⟨g, 0 + k, none⟩ by unfold Addr.add; split <;> simp_all] at this
theorem valsI_snoc (l : List Int) (a : Int) : valsI l ++ [.int .i64 a] = valsI (l ++ [a]) := by simp [valsI]
theorem einfoI : (Try.prog.info? 2).map (fun i => (i.zero, i.size, i.bytes)) = some (some (.int .i64 0), 1, 8) := by kernel_rfl

/-- The first place of a number other than 0, as a number: -1 if there is none. -/
def leadI (l : List Int) : Int := if leadN l < l.length then (leadN l : Int) else -1
theorem lead_next {l : List Int} {k : Nat} (hk : k ≤ leadN l) (hl : k < l.length) (h : l[k] = 0) : k + 1 ≤ leadN l := by
  rcases Nat.lt_or_ge k (leadN l) with h' | h'
  · exact h'
  · have e : leadN l = k := by omega
    exact absurd (by rw [e, nth_lt hl, h]) (lead_at (r := l) (by omega))
theorem lead_is {l : List Int} {k : Nat} (hk : k ≤ leadN l) (hl : k < l.length) (h : l[k] ≠ 0) : leadN l = k :=
  lead_eq (fun j hj => lead_before (by omega)) (by rw [nth_lt hl]; exact h)

set_option maxRecDepth 8000 in
set_option maxHeartbeats 1000000 in
theorem elead (v : Value) (l : List Int) (w : World) (hl : l.length ≤ 1048576) (hS : Sl w v l) :
    Calls Try.prog 95 #[v] w fun e w' => e = .returned (.int .i64 (leadI l)) ∧ w' = w := by
  obtain ⟨a, cap, rfl, h⟩ := hS
  go_enter Try.func95, Try.ntmps95
  go_wp2
  go_loop [3] (fun i => ∃ k : Nat, k ≤ l.length ∧ i = .int .i64 k ∧ Hid (k ≤ leadN l)) (fun i => l.length - (intOf i).toNat)
  case atStart => exact ⟨0, by omega, rfl, Lib.hid (by omega)⟩
  case round =>
    obtain ⟨k, hk, rfl, HU⟩ := hrel
    by_cases hlt : k < l.length
    · have hlt' : (k : Int) < (l.length : Int) := by omega
      obtain ⟨b, off, rfl, hb, hT⟩ : ∃ b off, a = some ⟨b, off, none⟩ ∧ b < w.heap.size ∧ Cs w b off l := by
        rcases h with rfl | h
        · simp at hlt
        · exact h
      have c0 := hT k hlt
      by_cases hz : l[k] = 0
      · have HN : Hid (k + 1 ≤ leadN l) := Lib.hid (lead_next HU.out hlt hz)
        have hq : (l[k] != 0) = false := by simp [hz]
        rw [hz] at c0
        clear hz hq
        go_wp2
        go_round
        case rel => exact ⟨k + 1, by omega, by go_num, HN⟩
        case measure => simp [intOf]; omega
      · have HX : Hid (leadI l = k) := Lib.hid (by rw [leadI, lead_is HU.out hlt hz, if_pos hlt])
        have hq : (l[k] != 0) = true := by simp [hz]
        clear hz
        go_wp2
        go_ret
        exact ⟨by rw [HX.out]; rfl, rfl⟩
    · obtain rfl : k = l.length := by omega
      have HX : Hid (leadI l = -1) := Lib.hid (by rw [leadI, if_neg]; have := HU.out; omega)
      go_wp2
      go_ret
      exact ⟨by rw [HX.out]; rfl, rfl⟩
end Go.Proofs.Ytpbdbgajohacoaa
