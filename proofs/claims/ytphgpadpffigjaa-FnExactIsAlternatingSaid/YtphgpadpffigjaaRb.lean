/-
  WALKS: 'spec.l08Alternates', 'spec.IsAlternating'. Conditions: as each theorem states.
  PRODUCTS OF POLYNOMIALS, in plain mathematics. Conditions: as each theorem states.
  CYCLES in plain mathematics. Conditions: as each theorem states.
  SIGNS OF ORDERS, PRODUCTS AS LISTS, ALTERNANTS in plain mathematics. Conditions: as each theorem states.
  Marks by a function. Conditions: as each theorem states.
  SORTS of short lists of numbers, and lists turned round: slices.Sort, slices.Reverse. Conditions: as each theorem states.
  CYCLES of permutations: the program's walk; both functions. Conditions: as each theorem states.
  WALKS: slices.Clone at numbers. Conditions: as the theorem states.
  WALKS: alternants by the program: 'impl.signOf', 'impl.sumOfOrders' with signs, 'impl.alternant', 'impl.vandermonde'. Conditions: as each theorem states.
  WALKS: degrees. Conditions: as each theorem states.
  LISTS OF POLYNOMIALS in memory. Conditions: as each theorem states.
  LISTS OF POLYNOMIALS by their cells. Conditions: as each theorem states.
  LISTS OF POLYNOMIALS of the call's own, in the making. Conditions: as each theorem states.
  SUMS of polynomials, in plain mathematics. Conditions: as each theorem states.
  SUMS OF POLYNOMIALS in plain mathematics. Conditions: as each theorem states.
  WALKS: sums of polynomials, times a number: 'impl.sumTimes'. Conditions: as the theorem states.. Conditions: as each theorem states.
  WALKS: IsAlternating on both sides. Conditions: as each theorem states.
  WALKS: IsAlternating on both sides: signs. Conditions: as each theorem states.
  WALKS: IsAlternating on both sides, whole. Conditions: as each theorem states.
  The law of 'IsAlternating', walked. Conditions: as the theorem states.
-/
import Derived.Test.YtphgpadpffigjaaSzf
import Derived.BigQuiet
import Derived.Deep.QuietTactic
import Derived.Deep.LoopGhost
import Derived.Test.YtphgpadpffigjaaVl
import Derived.Test.YtphgpadpffigjaaIsp
import Derived.Test.YtphgpadpffigjaaRza
import Derived.Test.YtphgpadpffigjaaSzg
import Derived.Test.YtphgpadpffigjaaLa
import Derived.IntWalk
import Derived.Test.YtphgpadpffigjaaSye
import Derived.Test.YtphgpadpffigjaaSyf
import Derived.Test.YtphgpadpffigjaaSort
import Derived.Test.YtphgpadpffigjaaIns
import Derived.Test.YtphgpadpffigjaaLs2
import Derived.Test.YtphgpadpffigjaaBgc
import Derived.Test.YtphgpadpffigjaaTm
import Derived.Test.YtphgpadpffigjaaG
import Derived.Test.YtphgpadpffigjaaCj
import Derived.Test.YtphgpadpffigjaaPl
import Derived.Test.YtphgpadpffigjaaE
import Derived.Test.YtphgpadpffigjaaLs
import Derived.Deep.RegionWith
namespace Go.Proofs.Ytphgpadpffigjaa
open Go.RowKit Go.Sort

theorem term_at {w : World} {b o : Nat} {t : Tm} (h : w.cell? ⟨b, o, none⟩ = some (.int .u8 t.1) ∧ w.cell? ⟨b, o + 1, none⟩ = some (.int .u8 t.2.1) ∧ w.cell? ⟨b, o + 2, none⟩ = some (.int .u8 t.2.2.1)) {i : Nat} (hi : i < 3) : w.cell? ⟨b, o + i, none⟩ = some (.int .u8 (exAt (tmE t) i)) := by
  have : i = 0 ∨ i = 1 ∨ i = 2 := by omega
  rcases this with rfl | rfl | rfl
  · exact h.1
  · exact h.2.1
  · exact h.2.2
/-- No exponent stands twice. -/
def noRep (d : Nat) (e : Int × Int × Int) : Prop := ∀ i j : Nat, i < j → j < d → exAt e i ≠ exAt e j

set_option maxRecDepth 8000 in
set_option maxHeartbeats 8000000 in
theorem salts (p : Int) (d : Nat) (v : Value) (xs : List Tm) (w : World) (B : Bool) (hS : SliceT w v xs) (hV : Valid p d xs) (hin : InP d xs) (hB : B = true ↔ (∀ t ∈ xs, noRep d (tmE t)) ∧ ∀ i, i + 1 < d → nbP p d (p - 1) xs i) :
    Calls Try.prog 75 #[.agg #[.int .i64 p, .int .i64 d, v]] w fun e w' => e = .returned (.bool B) ∧ Below w.heap.size w w' := by
  have hd : 1 ≤ d ∧ d ≤ 3 := by have := hV.d1; have := hV.d3; omega
  have hl : xs.length ≤ 1048576 := Nat.le_trans hV.isP.len (by decide)
  have hp2 := hV.p2
  have hp13 := hV.p13
  obtain ⟨a, cap, rfl, _⟩ := id hS
  obtain ⟨W, hW, hbW, ⟨hWs1, hWs2⟩, rx⟩ := newbox w p d (.slice a xs.length cap)
  have hSW := hS.below hbW
  have KK := Lib.hid (fun w' (h : Below W.heap.size W w') => show (w'.cell? ⟨w.heap.size, 0, none⟩ = some (.int .i64 p) ∧ w'.cell? ⟨w.heap.size, 1, none⟩ = some (.int .i64 d) ∧ w'.cell? ⟨w.heap.size, 2, none⟩ = some (.slice a xs.length cap)) from
    (poly3 (rowIs_below rx h rx.lt)).1)
  have HBB := Lib.hid hB
  have HSL := Lib.hid (fun (w' : World) (h : Below W.heap.size W w') => hSW.below h)
  have HV := Lib.hid hV
  have HIN := Lib.hid hin
  clear hB hin hSW hV
  go_enter Try.func75, Try.ntmps75
  go_upto_region 1 with fail
  rw [← hW]
  clear hW
  go_wp2_with fail
  go_loopg [3] xs.length (fun g c wr => ∃ k : Nat, k + g = xs.length ∧ c = .int .i64 k ∧ Hid (∀ (k' : Nat) (h : k' < xs.length), k' < k → noRep d (tmE xs[k'])) ∧ Below W.heap.size W wr)
  case atStart => exact ⟨0, by omega, rfl, Lib.hid (fun k' _ h => by omega), Below.same _⟩
  case round =>
    obtain ⟨k, hk, rfl, HK, hb⟩ := hrel
    obtain ⟨x0, x1, x2⟩ := KK.out _ hb
    by_cases hlt : k < xs.length
    · have hlt' : (k : Int) < (xs.length : Int) := by omega
      obtain ⟨g2, hg2⟩ : ∃ g2, k + 1 + g2 = xs.length := ⟨xs.length - (k + 1), by omega⟩
      have HG2 := Lib.hid (And.intro hg2 (show g2 < gk by omega))
      have HLT := Lib.hid hlt
      obtain ⟨wo, hwo⟩ : ∃ wo, wo = wr := ⟨_, rfl⟩
      rw [← hwo] at hb
      clear hk hg2
      go_upto_region 5 with fail
      rw [← hwo]
      clear hwo x0 x1 x2
      go_wp2_with fail
      go_loopg [4] d (fun g c wr => ∃ i : Nat, i + g = d ∧ c = .int .i64 i ∧ Hid (∀ i' j' : Nat, i' < i → i' < j' → j' < d → exAt (tmE (xs[k]'HLT.out)) i' ≠ exAt (tmE (xs[k]'HLT.out)) j') ∧ Below W.heap.size W wr)
      case atStart => exact ⟨0, by omega, rfl, Lib.hid (fun i' _ h => by omega), hb⟩
      case round =>
        clear hb
        obtain ⟨i, hi, rfl, HI, hb⟩ := hrel
        obtain ⟨x0, x1, x2⟩ := KK.out _ hb
        by_cases hlti : i < d
        · have hlti' : (i : Int) < (d : Int) := by omega
          obtain ⟨g3, hg3⟩ : ∃ g3, i + 1 + g3 = d := ⟨d - (i + 1), by omega⟩
          have HG3 := Lib.hid (And.intro hg3 (show g3 < gk by omega))
          have hwi : IntKind.i64.wrap ((i : Int) + 1) = (i : Int) + 1 := IntWalk.i64_in _ (by omega)
          obtain ⟨wo, hwo⟩ : ∃ wo, wo = wr := ⟨_, rfl⟩
          rw [← hwo] at hb
          clear hi hg3
          go_upto_region 8 with fail
          rw [← hwo]
          clear hwo x0 x1 x2
          go_wp2_with fail
          go_loopg [5] (d - (i + 1)) (fun g c wr => ∃ j : Nat, j + g = d ∧ i < j ∧ c = .int .i64 j ∧ Hid (∀ j' : Nat, i < j' → j' < j → exAt (tmE (xs[k]'HLT.out)) i ≠ exAt (tmE (xs[k]'HLT.out)) j') ∧ Below W.heap.size W wr)
          case atStart => exact ⟨i + 1, by omega, by omega, by go_num, Lib.hid (fun j' h1 h2 => by omega), hb⟩
          case round =>
            clear hb
            obtain ⟨j, hj, hij, rfl, HJ, hb⟩ := hrel
            obtain ⟨x0, x1, x2⟩ := KK.out _ hb
            by_cases hltj : j < d
            · have hltj' : (j : Int) < (d : Int) := by omega
              have hi3 : (i : Int) < 3 := by omega
              have hj3 : (j : Int) < 3 := by omega
              obtain ⟨g4, hg4⟩ : ∃ g4, j + 1 + g4 = d := ⟨d - (j + 1), by omega⟩
              have HG4 := Lib.hid (And.intro hg4 (show g4 < gk by omega))
              obtain ⟨a', cap', hv', hcase⟩ := HSL.out _ hb
              simp at hv'
              obtain ⟨rfl, rfl⟩ := hv'
              rcases hcase with h0 | ⟨b, off, rfl, hltb, hTr⟩
              · have h1 := HLT.out; rw [h0] at h1; exact absurd h1 (by simp)
              obtain ⟨t0, t1, t2, t3⟩ := hTr k hlt
              have hci : wr.cell? ⟨b, off + k * 4 + i, none⟩ = some (.int .u8 (exAt (tmE xs[k]) i)) := term_at ⟨t0, t1, t2⟩ (by omega)
              have hcj : wr.cell? ⟨b, off + k * 4 + j, none⟩ = some (.int .u8 (exAt (tmE xs[k]) j)) := term_at ⟨t0, t1, t2⟩ (by omega)
              have HX : Hid (∀ y z, exAt (tmE xs[k]) i = y → exAt (tmE xs[k]) j = z → (y = z → B = false) ∧ (y ≠ z → ∀ j' : Nat, i < j' → j' < j + 1 → exAt (tmE (xs[k]'HLT.out)) i ≠ exAt (tmE (xs[k]'HLT.out)) j')) := Lib.hid (fun y z hy hz => ⟨fun e => by
                cases hBt : B
                · rfl
                · exact absurd (hy.trans (e.trans hz.symm)) ((HBB.out.1 hBt).1 _ (List.getElem_mem hlt) i j hij hltj), fun e j' h1 h2 => by
                by_cases h3 : j' = j
                · subst h3; exact fun hh => e (hy.symm.trans (hh.trans hz))
                · exact HJ.out j' h1 (by omega)⟩)
              obtain ⟨y, hy⟩ : ∃ y, exAt (tmE xs[k]) i = y := ⟨_, rfl⟩
              obtain ⟨z, hz⟩ : ∃ z, exAt (tmE xs[k]) j = z := ⟨_, rfl⟩
              have HXX := Lib.hid (HX.out y z hy hz)
              rw [hy] at hci
              rw [hz] at hcj
              clear t0 t1 t2 t3 hTr HX hj hg4 HJ hy hz
              by_cases hyz : y = z
              · have HF := Lib.hid (HXX.out.1 hyz)
                subst hyz
                have hee : (y == y) = true := by simp
                go_wp2_with fail
                go_quiet (fail)
                go_wp2_with fail
                go_ret
                exact ⟨by rw [HF.out]; rfl, hbW.trans ((below_drewN hb _).mono hbW.size)⟩
              · have HN := Lib.hid (HXX.out.2 hyz)
                have hee : (y == z) = false := by simpa using hyz
                go_wp2_with fail
                go_quiet (fail)
                go_wp2_with fail
                go_roundg g4
                case measure => exact HG4.out.2
                case rel => exact ⟨j + 1, HG4.out.1, by omega, by go_num, HN, below_drewN hb _⟩
            · obtain rfl : d = j := by omega
              have HI2 : Hid (∀ i' j' : Nat, i' < i + 1 → i' < j' → j' < d → exAt (tmE (xs[k]'HLT.out)) i' ≠ exAt (tmE (xs[k]'HLT.out)) j') := Lib.hid (fun i' j' h1 h2 h3 => by
                by_cases h4 : i' = i
                · subst h4; exact HJ.out j' h2 h3
                · exact HI.out i' j' (by omega) h2 h3)
              go_wp2_with fail
              go_roundg g3
              case measure => exact HG3.out.2
              case rel => exact ⟨i + 1, HG3.out.1, by go_num, HI2, hb⟩
        · obtain rfl : d = i := by omega
          have HK2 : Hid (∀ (k' : Nat) (h : k' < xs.length), k' < k + 1 → noRep d (tmE xs[k'])) := Lib.hid (fun k' h h1 => by
            by_cases h2 : k' = k
            · subst h2; exact fun i' j' h3 h4 => HI.out i' j' (by omega) h3 h4
            · exact HK.out k' h (by omega))
          go_wp2_with fail
          go_roundg g2
          case measure => exact HG2.out.2
          case rel => exact ⟨k + 1, HG2.out.1, by go_num, HK2, hb⟩
    · obtain rfl : k = xs.length := by omega
      have hwp : IntKind.i64.wrap (p - 1) = p - 1 := IntWalk.i64_in _ (by omega)
      have HAL : ∀ t ∈ xs, noRep d (tmE t) := fun t ht => by
        obtain ⟨k', h, rfl⟩ := List.getElem_of_mem ht
        exact HK.out k' h h
      have HSG := Lib.hid (ssigned p d (p - 1) _ xs wr B (HSL.out _ hb) HV.out HIN.out (by omega) (by omega) ⟨fun h => (HBB.out.1 h).2, fun h => HBB.out.2 ⟨HAL, h⟩⟩)
      clear HAL
      go_wp2_with fail
      ((with_reducible refine HSG.out.mono ?_); rintro e w2 ⟨rfl, hb2⟩)
      go_wp2_with fail
      go_ret
      exact ⟨rfl, hbW.trans ((hb.trans (hb2.mono hb.size)).mono hbW.size)⟩
end Go.Proofs.Ytphgpadpffigjaa
namespace Go.Proofs.Ytphgpadpffigjaa
open Go.RowKit Go.Sort Go.Maps

def addE (a b : Int × Int × Int) : Int × Int × Int := (a.1 + b.1, a.2.1 + b.2.1, a.2.2 + b.2.2)
/-- The coefficients of a term times a list of terms. -/
def rowS (s : Tm) : List Tm → Int × Int × Int → Int
  | [], _ => 0
  | t :: r, e => (if addE (tmE s) (tmE t) = e then s.2.2.2 * t.2.2.2 else 0) + rowS s r e
def mulS : List Tm → List Tm → Int × Int × Int → Int
  | [], _, _ => 0
  | s :: r, ys, e => rowS s ys e + mulS r ys e
/-- The coefficients of the product. -/
def mulF (p : Int) (xs ys : List Tm) (e : Int × Int × Int) : Int := mulS xs ys e % p
theorem rowS_snoc (s t : Tm) (e : Int × Int × Int) : ∀ l : List Tm, rowS s (l ++ [t]) e = rowS s l e + if addE (tmE s) (tmE t) = e then s.2.2.2 * t.2.2.2 else 0
  | [] => by simp [rowS]
  | u :: r => by rw [List.cons_append, rowS, rowS, rowS_snoc s t e r, Int.add_assoc]
theorem mulS_snoc (s : Tm) (ys : List Tm) (e : Int × Int × Int) : ∀ l : List Tm, mulS (l ++ [s]) ys e = mulS l ys e + rowS s ys e
  | [] => by simp [mulS]
  | u :: r => by rw [List.cons_append, mulS, mulS, mulS_snoc s ys e r, Int.add_assoc]
theorem rowS_take (s : Tm) (ys : List Tm) (k : Nat) (h : k < ys.length) (e : Int × Int × Int) : rowS s (ys.take (k + 1)) e = rowS s (ys.take k) e + if addE (tmE s) (tmE ys[k]) = e then s.2.2.2 * ys[k].2.2.2 else 0 := by
  rw [List.take_succ_eq_append_getElem h, rowS_snoc]
theorem mulS_take (xs ys : List Tm) (k : Nat) (h : k < xs.length) (e : Int × Int × Int) : mulS (xs.take (k + 1)) ys e = mulS (xs.take k) ys e + rowS xs[k] ys e := by
  rw [List.take_succ_eq_append_getElem h, mulS_snoc]
/-- .. when i terms of the first have been taken, and k of the second with the next one. -/
def prt (p : Int) (xs ys : List Tm) (i : Nat) (s : Tm) (k : Nat) (e : Int × Int × Int) : Int := (mulS (xs.take i) ys e + rowS s (ys.take k) e) % p
theorem prt_zero (p : Int) (xs ys : List Tm) (i : Nat) (s : Tm) (e : Int × Int × Int) : prt p xs ys i s 0 e = mulF p (xs.take i) ys e := by
  simp [prt, rowS, mulF]
theorem prt_full (p : Int) (xs ys : List Tm) (i : Nat) (h : i < xs.length) (e : Int × Int × Int) : prt p xs ys i xs[i] ys.length e = mulF p (xs.take (i + 1)) ys e := by
  simp [prt, mulF, mulS_take xs ys i h, List.take_length]
theorem prt_step (p : Int) (xs ys : List Tm) (i : Nat) (s : Tm) (k : Nat) (h : k < ys.length) (e : Int × Int × Int) :
    prt p xs ys i s (k + 1) e = if e = addE (tmE s) (tmE ys[k]) then (s.2.2.2 * ys[k].2.2.2 + prt p xs ys i s k (addE (tmE s) (tmE ys[k]))) % p else prt p xs ys i s k e := by
  unfold prt
  rw [rowS_take s ys k h]
  by_cases hx : e = addE (tmE s) (tmE ys[k])
  · subst hx
    rw [if_pos rfl, if_pos rfl, ← Int.add_assoc, Int.add_comm, Int.add_emod, Int.emod_emod_of_dvd _ (Int.dvd_refl p) |>.symm]
    simp [Int.add_emod]
  · rw [if_neg hx, if_neg (fun hy => hx hy.symm), Int.add_zero]
theorem mulF_nil (p : Int) (ys : List Tm) (e : Int × Int × Int) : mulF p [] ys e = 0 := by simp [mulF, mulS]
theorem rowS_nil (s : Tm) (e : Int × Int × Int) : rowS s [] e = 0 := rfl
theorem mulS_nil (e : Int × Int × Int) : ∀ xs : List Tm, mulS xs [] e = 0
  | [] => rfl
  | s :: r => by rw [mulS, rowS_nil, mulS_nil e r]; rfl
theorem sum_addE (a b : Int × Int × Int) : (addE a b).1 + (addE a b).2.1 + (addE a b).2.2 = (a.1 + a.2.1 + a.2.2) + (b.1 + b.2.1 + b.2.2) := by unfold addE; simp only []; omega
theorem addE_mono {a b : Int × Int × Int} (ha : byte3 a) (hb : byte3 b) (h : (a.1 + a.2.1 + a.2.2) + (b.1 + b.2.1 + b.2.2) ≤ 12) : mono12 (addE a b) := by
  obtain ⟨⟨a1, a2⟩, ⟨a3, a4⟩, a5, a6⟩ := ha
  obtain ⟨⟨b1, b2⟩, ⟨b3, b4⟩, b5, b6⟩ := hb
  refine ⟨⟨⟨?_, ?_⟩, ⟨?_, ?_⟩, ?_, ?_⟩, ?_⟩ <;> simp only [addE] <;> omega

/-- The degrees of the terms allow the product. -/
def Fits (xs ys : List Tm) : Prop := ∀ s ∈ xs, ∀ t ∈ ys, (s.1 + s.2.1 + s.2.2.1) + (t.1 + t.2.1 + t.2.2.1) ≤ 12

theorem mul_ex {p d : Int} {xs ys : List Tm} (hV : Valid p d xs) (hV' : Valid p d ys) (h : Fits xs ys) : ∃ L, IsP p L (mulF p xs ys) := by
  have hp := hV.p2
  have row : ∀ i, (hi : i < xs.length) → (∃ O, IsP p O (mulF p (xs.take i) ys)) → ∀ k, k ≤ ys.length → ∃ O, IsP p O (prt p xs ys i xs[i] k) := fun i hi h0 k => by
    induction k with
    | zero => exact fun _ => h0.imp fun O hO => hO.congr fun e _ => (prt_zero p xs ys i xs[i] e).symm
    | succ k ih =>
      intro hk
      obtain ⟨O, hO⟩ := ih (by omega)
      have hlt : k < ys.length := by omega
      obtain ⟨⟨m1, _⟩, _⟩ := hV.mem xs[i] (List.getElem_mem _)
      obtain ⟨⟨m2, _⟩, _⟩ := hV'.mem ys[k] (List.getElem_mem _)
      exact ⟨_, (hO.put hp (e := addE (tmE xs[i]) (tmE ys[k])) (addE_mono m1 m2 (h _ (List.getElem_mem _) _ (List.getElem_mem _))) (xs[i].2.2.2 * ys[k].2.2.2)).congr fun e _ => (prt_step p xs ys i xs[i] k hlt e).symm⟩
  have key : ∀ i, i ≤ xs.length → ∃ O, IsP p O (mulF p (xs.take i) ys) := fun i => by
    induction i with
    | zero => exact fun _ => ⟨[], (IsP.nil p).congr fun e _ => by simp [mulF_nil]⟩
    | succ i ih =>
      intro hi
      have hlt : i < xs.length := by omega
      exact (row i hlt (ih (by omega)) ys.length (Nat.le_refl _)).imp fun O hO => hO.congr fun e _ => prt_full p xs ys i hlt e
  have := key xs.length (Nat.le_refl _)
  rwa [List.take_length] at this
end Go.Proofs.Ytphgpadpffigjaa
namespace Go.Proofs.Ytphgpadpffigjaa
open Go.RowKit Go.Sort EchM

/-- A mark at a place. -/
def mkS (s : Nat → Bool) (q : Nat) : Nat → Bool := fun j => if j = q then true else s j
/-- What a walk along a permutation marks, and how many steps it takes: at most f. -/
def walkC (l : List Int) : Nat → (Nat → Bool) → Nat → (Nat → Bool) × Nat
  | 0, s, _ => (s, 0)
  | f + 1, s, q => if s q then (s, 0) else ((walkC l f (mkS s q) (nth l q).toNat).1, (walkC l f (mkS s q) (nth l q).toNat).2 + 1)
theorem walkC_le (l : List Int) : ∀ f s q, (walkC l f s q).2 ≤ f
  | 0, _, _ => by simp [walkC]
  | f + 1, s, q => by
    rw [walkC]
    split
    · simp
    · have := walkC_le l f (mkS s q) (nth l q).toNat; simp; omega
/-- How many of the first n places are not marked. -/
def cntU (s : Nat → Bool) : Nat → Nat
  | 0 => 0
  | n + 1 => cntU s n + if s n then 0 else 1
theorem cntU_le (s : Nat → Bool) : ∀ n, cntU s n ≤ n
  | 0 => Nat.le_refl _
  | n + 1 => by have := cntU_le s n; simp only [cntU]; split <;> omega
theorem cntU_same {s : Nat → Bool} {q : Nat} : ∀ n, n ≤ q → cntU (mkS s q) n = cntU s n
  | 0, _ => rfl
  | n + 1, h => by
    simp only [cntU]
    rw [cntU_same n (by omega)]
    have : mkS s q n = s n := by simp [mkS]; omega
    rw [this]
theorem cntU_mk {s : Nat → Bool} {q : Nat} (hs : s q = false) : ∀ n, q < n → cntU (mkS s q) n + 1 = cntU s n
  | 0, h => by omega
  | n + 1, h => by
    simp only [cntU]
    by_cases e : q = n
    · subst e
      rw [cntU_same q (Nat.le_refl _), hs]
      simp [mkS]
    · have := cntU_mk hs n (by omega)
      have e2 : mkS s q n = s n := by simp [mkS]; omega
      rw [e2]
      omega
/-- The marks and the lengths found from the first k places. -/
def cyS (l : List Int) : Nat → (Nat → Bool) × List Int
  | 0 => (fun _ => false, [])
  | k + 1 => ((walkC l l.length (cyS l k).1 k).1, if 0 < (walkC l l.length (cyS l k).1 k).2 then (cyS l k).2 ++ [((walkC l l.length (cyS l k).1 k).2 : Int)] else (cyS l k).2)
theorem cyS_len (l : List Int) : ∀ k, (cyS l k).2.length ≤ k
  | 0 => by simp [cyS]
  | k + 1 => by
    have := cyS_len l k
    simp only [cyS]
    split
    · simp; omega
    · omega
theorem cyS_in (l : List Int) : ∀ k, ∀ x ∈ (cyS l k).2, 0 < x ∧ x ≤ l.length
  | 0 => by simp [cyS]
  | k + 1 => fun x hx => by
    simp only [cyS] at hx
    have hle := walkC_le l l.length (cyS l k).1 k
    split at hx
    · simp only [List.mem_append, List.mem_singleton] at hx
      rcases hx with hx | rfl
      · exact cyS_in l k x hx
      · omega
    · exact cyS_in l k x hx
/-- What a walk still has to do, from a place q with c steps behind it. -/
def WalkTo (l : List Int) (s0 : Nat → Bool) (st : Nat) (s : Nat → Bool) (q c : Nat) : Prop :=
  ∃ f, cntU s l.length ≤ f ∧ f + c ≤ l.length ∧ walkC l l.length s0 st = ((walkC l f s q).1, (walkC l f s q).2 + c)
theorem WalkTo.start (l : List Int) (s0 : Nat → Bool) (st : Nat) : WalkTo l s0 st s0 st 0 := ⟨l.length, cntU_le _ _, by omega, rfl⟩
theorem cntU_pos {s : Nat → Bool} {q : Nat} (hs : s q = false) : ∀ {n}, q < n → 0 < cntU s n
  | 0, h => by omega
  | n + 1, h => by
    simp only [cntU]
    by_cases e : q = n
    · subst e; rw [hs]; simp
    · have := cntU_pos hs (n := n) (by omega); omega
theorem WalkTo.next {l : List Int} {s0 s : Nat → Bool} {st q c : Nat} (h : WalkTo l s0 st s q c) (hs : s q = false) (hq : q < l.length) : WalkTo l s0 st (mkS s q) (nth l q).toNat (c + 1) ∧ c + 1 ≤ l.length := by
  obtain ⟨f, hf, hfc, he⟩ := h
  have h1 := cntU_mk hs l.length hq
  have h2 := cntU_pos hs hq
  obtain ⟨g, rfl⟩ : ∃ g, f = g + 1 := ⟨f - 1, by omega⟩
  refine ⟨⟨g, by omega, by omega, ?_⟩, by omega⟩
  rw [he, walkC, hs]
  simp
  omega
theorem WalkTo.done {l : List Int} {s0 s : Nat → Bool} {st q c : Nat} (h : WalkTo l s0 st s q c) (hs : s q = true) : walkC l l.length s0 st = (s, c) := by
  obtain ⟨f, _, _, he⟩ := h
  rw [he]
  cases f with
  | zero => simp [walkC]
  | succ f => rw [walkC, hs]; simp
theorem cyS_next {l : List Int} {k c : Nat} {s : Nat → Bool} (h : walkC l l.length (cyS l k).1 k = (s, c)) : cyS l (k + 1) = (s, if 0 < c then (cyS l k).2 ++ [(c : Int)] else (cyS l k).2) := by
  rw [cyS, h]

/-- A number put into a descending list, behind those that are not less. -/
def insD (c : Int) : List Int → List Int
  | [] => [c]
  | x :: r => if x < c then c :: x :: r else x :: insD c r
def Desc (l : List Int) : Prop := l.Pairwise fun a b => b ≤ a
theorem insD_perm (c : Int) : ∀ l, (insD c l).Perm (l ++ [c])
  | [] => List.Perm.refl _
  | x :: r => by
    rw [insD]
    split
    · exact (List.perm_append_singleton c (x :: r)).symm
    · exact (insD_perm c r).cons x
theorem insD_desc {c : Int} : ∀ {l}, Desc l → Desc (insD c l)
  | [], _ => by simp [insD, Desc]
  | x :: r, h => by
    rw [Desc, List.pairwise_cons] at h
    rw [insD]
    split
    · rename_i hx
      rw [Desc, List.pairwise_cons, List.pairwise_cons]
      refine ⟨fun y hy => ?_, h⟩
      simp only [List.mem_cons] at hy
      rcases hy with rfl | hy
      · omega
      · have := h.1 y hy; omega
    · rename_i hx
      rw [Desc, List.pairwise_cons]
      refine ⟨fun y hy => ?_, insD_desc h.2⟩
      have := (insD_perm c r).mem_iff.1 hy
      simp only [List.mem_append, List.mem_singleton] at this
      rcases this with hy | rfl
      · exact h.1 y hy
      · omega
theorem desc_unique {a b : List Int} (ha : Desc a) (hb : Desc b) (h : a.Perm b) : a = b :=
  List.Perm.eq_of_pairwise (le := fun a b => b ≤ a) (fun a b _ _ h1 h2 => by omega) ha hb h
theorem nth_c0 (x : Int) (r : List Int) : nth (x :: r) 0 = x := rfl
theorem nth_cs (x : Int) (r : List Int) (q : Nat) : nth (x :: r) (q + 1) = nth r q := by simp [nth]
theorem desc_nth {l : List Int} (h : Desc l) {a b : Nat} (hab : a ≤ b) (hb : b < l.length) : nth l b ≤ nth l a := by
  rw [nth_lt hb, nth_lt (by omega)]
  rcases Nat.lt_or_ge a b with h1 | h1
  · exact (List.pairwise_iff_getElem.1 h) a b (by omega) hb h1
  · have : a = b := by omega
    subst this
    exact Int.le_refl _
/-- The place of the insertion. -/
theorem insD_at (c : Int) : ∀ (l : List Int) (k : Nat), k ≤ l.length → (∀ q, q < l.length → k ≤ q → nth l q < c) → (∀ q, q < k → c ≤ nth l q) → insD c l = l.take k ++ c :: l.drop k
  | [], k, _, _, _ => by simp [insD]
  | x :: r, 0, _, h, _ => by
    have := h 0 (by simp) (by omega)
    rw [nth_c0] at this
    simp [insD, this]
  | x :: r, k + 1, hk, h, h2 => by
    have hx : ¬ x < c := by
      have h3 := h2 0 (by omega)
      rw [nth_c0] at h3
      omega
    rw [insD, if_neg hx, insD_at c r k (by simpa using hk) (fun q hq hkq => by have := h (q + 1) (by simpa using hq) (by omega); rwa [nth_cs] at this) (fun q hq => by
      have := h2 (q + 1) (by omega)
      rwa [nth_cs] at this)]
    simp
/-- The descending list of the lengths found from the first k places. -/
def cyD (l : List Int) : Nat → List Int
  | 0 => []
  | k + 1 => if 0 < (walkC l l.length (cyS l k).1 k).2 then insD ((walkC l l.length (cyS l k).1 k).2 : Int) (cyD l k) else cyD l k
theorem cyD_perm (l : List Int) : ∀ k, (cyD l k).Perm (cyS l k).2
  | 0 => List.Perm.refl _
  | k + 1 => by
    simp only [cyD, cyS]
    split
    · exact (insD_perm _ _).trans ((cyD_perm l k).append_right _)
    · exact cyD_perm l k
theorem cyD_desc (l : List Int) : ∀ k, Desc (cyD l k)
  | 0 => List.Pairwise.nil
  | k + 1 => by
    simp only [cyD]
    split
    · exact insD_desc (cyD_desc l k)
    · exact cyD_desc l k
theorem cyD_len (l : List Int) (k : Nat) : (cyD l k).length ≤ k := by
  rw [(cyD_perm l k).length_eq]; exact cyS_len l k
theorem cyD_in (l : List Int) (k : Nat) : ∀ x ∈ cyD l k, 0 < x ∧ x ≤ l.length := fun x hx => cyS_in l k x ((cyD_perm l k).mem_iff.1 hx)
theorem cyD_next {l : List Int} {k c : Nat} {s : Nat → Bool} (h : walkC l l.length (cyS l k).1 k = (s, c)) : cyD l (k + 1) = if 0 < c then insD (c : Int) (cyD l k) else cyD l k := by
  rw [cyD, h]
/-- The lengths, sorted, from behind. -/
theorem cyc_rev {l S : List Int} (hp : S.Perm (cyS l l.length).2) (hs : S.Pairwise fun a b => a ≤ b) : S.reverse = cyD l l.length :=
  desc_unique (by rw [Desc, List.pairwise_reverse]; exact hs) (cyD_desc l _) ((List.reverse_perm S).trans (hp.trans (cyD_perm l _).symm))
end Go.Proofs.Ytphgpadpffigjaa
namespace Go.Proofs.Ytphgpadpffigjaa
open Go.RowKit Go.Sort Go.Maps

/-- A product as a list, by putting one term after another. -/
def prodR (p : Int) (s : Tm) (ys O : List Tm) : List Tm := ys.foldl (fun O t => putL p O (addE (tmE s) (tmE t)) (s.2.2.2 * t.2.2.2)) O
def prodT (p : Int) (xs ys : List Tm) : List Tm := xs.foldl (fun O s => prodR p s ys O) []
theorem prodR_is {p : Int} (hp : 2 ≤ p) (s : Tm) : ∀ (ys O : List Tm) (g : Int × Int × Int → Int), (∀ t ∈ ys, mono12 (addE (tmE s) (tmE t))) → IsP p O g → IsP p (prodR p s ys O) (fun e => (g e + rowS s ys e) % p)
  | [], O, g, _, h => h.congr fun e he => by
    have := h.bound (by omega) he
    simp only [rowS, Int.add_zero]
    exact (Int.emod_eq_of_lt this.1 this.2).symm
  | t :: r, O, g, hm, h => by
    have h1 := prodR_is hp s r _ _ (fun u hu => hm u (by simp [hu])) (h.put hp (hm t (by simp)) (s.2.2.2 * t.2.2.2))
    refine h1.congr fun e _ => ?_
    simp only [rowS]
    by_cases he : e = addE (tmE s) (tmE t)
    · subst he
      rw [if_pos rfl, if_pos rfl]
      simp only [Int.emod_add_emod]
      congr 1
      omega
    · rw [if_neg he, if_neg (fun h => he h.symm), Int.zero_add]
theorem prodT_is {p : Int} (hp : 2 ≤ p) (ys : List Tm) : ∀ (xs O : List Tm) (g : Int × Int × Int → Int), (∀ s ∈ xs, ∀ t ∈ ys, mono12 (addE (tmE s) (tmE t))) → IsP p O g → IsP p (xs.foldl (fun O s => prodR p s ys O) O) (fun e => (g e + mulS xs ys e) % p)
  | [], O, g, _, h => h.congr fun e he => by
    have := h.bound (by omega) he
    simp only [mulS, Int.add_zero]
    exact (Int.emod_eq_of_lt this.1 this.2).symm
  | s :: r, O, g, hm, h => by
    have h1 := prodT_is hp ys r _ _ (fun u hu => hm u (by simp [hu])) (prodR_is hp s ys O g (hm s (by simp)) h)
    refine h1.congr fun e _ => ?_
    simp only [mulS, Int.emod_add_emod, Int.add_assoc]
theorem prodT_mul {p d d' : Int} {xs ys : List Tm} (hx : Valid p d xs) (hy : Valid p d' ys) (h : Fits xs ys) : IsP p (prodT p xs ys) (mulF p xs ys) :=
  (prodT_is hx.p2 ys xs [] _ (fun s hs t ht => addE_mono (hx.mem s hs).1.1 (hy.mem t ht).1.1 (h s hs t ht)) (IsP.nil p)).congr fun e _ => by simp [mulF]

/-- The last value that is told for a key. -/
def lastV : List ((Int × Int × Int) × Int) → Int × Int × Int → Int
  | [], _ => 0
  | (k, v) :: r, e => if r.any (fun q => decide (q.1 = e)) then lastV r e else if k = e then v else 0
theorem lastV_snoc (M : List ((Int × Int × Int) × Int)) (k : Int × Int × Int) (v : Int) (e : Int × Int × Int) : lastV (M ++ [(k, v)]) e = if e = k then v else lastV M e := by
  induction M with
  | nil =>
    by_cases h : e = k
    · subst h; simp [lastV]
    · simp [lastV, h, show ¬ k = e from fun x => h x.symm]
  | cons q M ih =>
    obtain ⟨k', v'⟩ := q
    rw [List.cons_append, lastV, ih]
    by_cases h : e = k
    · subst h; simp
    · have h' : ¬ k = e := fun x => h x.symm
      have : (M ++ [(k, v)]).any (fun q => decide (q.1 = e)) = M.any (fun q => decide (q.1 = e)) := by simp [h']
      rw [this, lastV, if_neg h, if_neg h]
/-- Puts at keys that are all different. -/
def putAll (p : Int) (M : List ((Int × Int × Int) × Int)) : List Tm := M.foldl (fun O q => putL p O q.1 q.2) []
theorem putAll_snoc (p : Int) (M : List ((Int × Int × Int) × Int)) (q : (Int × Int × Int) × Int) : putAll p (M ++ [q]) = putL p (putAll p M) q.1 q.2 := by simp [putAll]
theorem lastV_none : ∀ {M : List ((Int × Int × Int) × Int)} {e : Int × Int × Int}, e ∉ M.map (·.1) → lastV M e = 0
  | [], _, _ => rfl
  | (k, v) :: r, e, h => by
    simp only [List.map_cons, List.mem_cons, not_or] at h
    rw [lastV, if_neg, if_neg (fun x => h.1 x.symm)]
    simp only [List.any_eq_true, decide_eq_true_eq, not_exists, not_and]
    exact fun q hq he => h.2 (by rw [← he]; exact List.mem_map_of_mem hq)
theorem putAll_take {p : Int} (hp : 2 ≤ p) (M : List ((Int × Int × Int) × Int)) (hm : ∀ q ∈ M, mono12 q.1 ∧ 0 ≤ q.2 ∧ q.2 < p) (hn : (M.map (·.1)).Nodup) : ∀ k, k ≤ M.length → IsP p (putAll p (M.take k)) (lastV (M.take k))
  | 0, _ => by simpa [putAll, lastV] using (IsP.nil p)
  | k + 1, hk => by
    have h1 := putAll_take hp M hm hn k (by omega)
    have hlt : k < M.length := by omega
    have hq := hm _ (List.getElem_mem hlt)
    have hne : M[k].1 ∉ (M.take k).map (·.1) := fun h => by
      rw [List.map_take] at h
      obtain ⟨i, hi, he⟩ := List.mem_take_iff_getElem.1 h
      have hi' : i < k := by omega
      have hp2 := List.pairwise_iff_getElem.1 hn i k (by simp; omega) (by simpa using hlt) hi'
      simp at he hp2
      exact hp2 he
    rw [List.take_succ_eq_append_getElem hlt, putAll_snoc]
    refine (h1.put hp hq.1 M[k].2).congr fun e _ => ?_
    rw [show M[k] = (M[k].1, M[k].2) from rfl, lastV_snoc]
    by_cases he : e = M[k].1
    · rw [if_pos he, if_pos he, lastV_none hne, Int.add_zero]
      exact Int.emod_eq_of_lt hq.2.1 hq.2.2
    · rw [if_neg he, if_neg he]
theorem putAll_is {p : Int} (hp : 2 ≤ p) (M : List ((Int × Int × Int) × Int)) (hm : ∀ q ∈ M, mono12 q.1 ∧ 0 ≤ q.2 ∧ q.2 < p) (hn : (M.map (·.1)).Nodup) : IsP p (putAll p M) (lastV M) := by
  have := putAll_take hp M hm hn M.length (Nat.le_refl _)
  rwa [List.take_length] at this

/-- The sign of an order, by its cycles. -/
def sgnB (os : List Int) : Bool := ((os.length - (cyD os os.length).length) % 2 == 1)
theorem sgnB_is {d : Nat} (hd : 1 ≤ d ∧ d ≤ 3) {os : List Int} (ho : os ∈ ordL d (d ^ d)) : sgnB os = sgL os := by
  rcases ord_all hd ho with ⟨rfl, rfl⟩ | ⟨rfl, rfl | rfl⟩ | ⟨rfl, rfl | rfl | rfl | rfl | rfl | rfl⟩ <;> decide +kernel
def sgnV (p : Int) (os : List Int) : Int := if sgL os then p - 1 else 1
/-- An alternant: the orders' images with their signs. -/
def altM (p : Int) (es : List Int) (L : List (List Int)) : List ((Int × Int × Int) × Int) := L.map fun os => (keyO es os, sgnV p os)
/-- The Vandermonde polynomial, as the model makes it. -/
def ltE (i : Nat) : Int × Int × Int := if i = 0 then (1, 0, 0) else if i = 1 then (0, 1, 0) else (0, 0, 1)
def vdF (p : Int) (i j : Nat) : List Tm := putL p (putL p [] (ltE i) 1) (ltE j) (p - 1)
def vdT (p : Int) (d : Nat) : List Tm :=
  if d = 1 then putL p [] (0, 0, 0) 1 else if d = 2 then prodT p (putL p [] (0, 0, 0) 1) (vdF p 0 1)
  else prodT p (prodT p (prodT p (putL p [] (0, 0, 0) 1) (vdF p 0 1)) (vdF p 0 2)) (vdF p 1 2)
def vdE (d : Nat) : List Int := if d = 1 then [0] else if d = 2 then [1, 0] else [2, 1, 0]
theorem vd_same : ∀ p ∈ ([2, 3, 5, 7, 11, 13] : List Int), ∀ d ∈ ([1, 2, 3] : List Nat), putAll p (altM p (vdE d) (ordL d (d ^ d))) = vdT p d := by decide +kernel
theorem vd_nodup : ∀ p ∈ ([2, 3, 5, 7, 11, 13] : List Int), ∀ d ∈ ([1, 2, 3] : List Nat), ((altM p (vdE d) (ordL d (d ^ d))).map (·.1)).Nodup := by decide +kernel
end Go.Proofs.Ytphgpadpffigjaa
namespace Go.Proofs.Ytphgpadpffigjaa
open Go.RowKit Go.Sort EchM

theorem bool_at (f : Nat → Bool) {w : World} {b : Nat} {t : TypeId} {n : Nat} (h : w.rowIs b t n (fun q => .bool (f q))) {q : Nat} (hq : q < n) {x : Bool} (hx : f q = x) : w.cell? ⟨b, q, none⟩ = some (.bool x) := by
  rw [h.cell hq, hx]
end Go.Proofs.Ytphgpadpffigjaa
namespace Go.Proofs.Ytphgpadpffigjaa
open Go.RowKit Go.Sort EchM

theorem nth_set (l : List Int) (k : Nat) (x : Int) (hk : k < l.length) (q : Nat) : nth (l.set k x) q = if q = k then x else nth l q := by
  unfold nth
  by_cases e : q = k
  · subst e; simp [hk]
  · rw [if_neg e]
    simp [Ne.symm e]
def SortTo (O : List Int) (i : Nat) : Prop := ∀ a b, a ≤ b → b < i → nth O a ≤ nth O b
/-- All but the number at j are in order, and that one is not greater than those behind it. -/
def HoleTo (P : List Int) (i j : Nat) : Prop := (∀ a b, a ≤ b → b ≤ i → a ≠ j → b ≠ j → nth P a ≤ nth P b) ∧ ∀ b, j < b → b ≤ i → nth P j ≤ nth P b
def swpL (P : List Int) (j : Nat) : List Int := (P.set (j + 1) (nth P j)).set j (nth P (j + 1))
theorem swp_len (P : List Int) (j : Nat) : (swpL P j).length = P.length := by simp [swpL]
theorem swp_nth {P : List Int} {j : Nat} (hj : j + 1 < P.length) (q : Nat) : nth (swpL P j) q = if q = j then nth P (j + 1) else if q = j + 1 then nth P j else nth P q := by
  unfold swpL
  rw [nth_set _ _ _ (by simp; omega), nth_set _ _ _ hj]
theorem swp_perm {P : List Int} {j : Nat} (hj : j + 1 < P.length) : (swpL P j).Perm P := by
  unfold swpL
  rw [nth_lt hj, nth_lt (show j < P.length by omega)]
  exact List.set_set_perm hj (by omega)
theorem hole_start {O : List Int} {i : Nat} (h : SortTo O i) : HoleTo O i i :=
  ⟨fun a b hab hb ha hb' => h a b hab (by omega), fun b h1 h2 => by omega⟩
theorem hole_next {P : List Int} {i j : Nat} (h : HoleTo P i (j + 1)) (hi : i < P.length) (hj : j + 1 ≤ i) (hlt : nth P (j + 1) < nth P j) : HoleTo (swpL P j) i j := by
  have hl : j + 1 < P.length := by omega
  constructor
  · intro a b hab hb ha hb'
    rw [swp_nth hl, swp_nth hl, if_neg ha, if_neg hb']
    by_cases e1 : a = j + 1
    · rw [if_pos e1]
      by_cases e2 : b = j + 1
      · rw [if_pos e2]; exact Int.le_refl _
      · rw [if_neg e2]; exact h.1 j b (by omega) hb (by omega) e2
    · rw [if_neg e1]
      by_cases e2 : b = j + 1
      · rw [if_pos e2]; exact h.1 a j (by omega) (by omega) e1 (by omega)
      · rw [if_neg e2]; exact h.1 a b hab hb e1 e2
  · intro b h1 h2
    rw [swp_nth hl, swp_nth hl, if_pos rfl, if_neg (by omega)]
    by_cases e2 : b = j + 1
    · rw [if_pos e2]; omega
    · rw [if_neg e2]; exact h.2 b (by omega) h2
theorem hole_done {P : List Int} {i j : Nat} (h : HoleTo P i j) (hge : j = 0 ∨ nth P (j - 1) ≤ nth P j) : SortTo P (i + 1) := by
  intro a b hab hb
  by_cases e1 : a = j
  · by_cases e2 : b = j
    · rw [e1, e2]; exact Int.le_refl _
    · rw [e1]; exact h.2 b (by omega) (by omega)
  · by_cases e2 : b = j
    · rcases hge with hge | hge
      · omega
      · have := h.1 a (j - 1) (by omega) (by omega) e1 (by omega)
        rw [e2]; omega
    · exact h.1 a b hab (by omega) e1 e2
theorem nan64 (a : Int) (w : World) : Calls Try.prog 143 #[.int .i64 a] w fun e w' => e = .returned (.bool false) ∧ w' = w := by
  have h : (a != a) = false := by simp
  go_enter Try.func143, Try.ntmps143
  go_wp2
  go_ret
  exact ⟨rfl, rfl⟩
theorem gless (a b : Int) (w : World) : Calls Try.prog 164 #[.int .i64 a, .int .i64 b] w fun e w' => e = .returned (.bool (decide (a < b))) ∧ w' = w := by
  go_enter Try.func164, Try.ntmps164
  go_wp2_with ((with_reducible refine (nan64 _ _).mono ?_); rintro e w' ⟨rfl, rfl⟩)
  go_ret
  exact ⟨by simp, rfl⟩
set_option maxRecDepth 100000 in
set_option maxHeartbeats 4000000 in
theorem glen64 (z : Int) (hz : 0 ≤ z ∧ z ≤ 8) (w : World) : Calls Try.prog 156 #[.int .u64 z] w fun e w' => (∃ r : Int, e = .returned (.int .i64 r)) ∧ w' = w := by
  rcases (show z = 0 ∨ z = 1 ∨ z = 2 ∨ z = 3 ∨ z = 4 ∨ z = 5 ∨ z = 6 ∨ z = 7 ∨ z = 8 by omega) with rfl | rfl | rfl | rfl | rfl | rfl | rfl | rfl | rfl
  all_goals
    go_enter Try.func156, Try.ntmps156
    go_wp2
    go_ret
    exact ⟨⟨_, rfl⟩, rfl⟩
theorem glen (z : Int) (hz : 0 ≤ z ∧ z ≤ 8) (w : World) : Calls Try.prog 140 #[.int .u64 z] w fun e w' => (∃ r : Int, e = .returned (.int .i64 r)) ∧ w' = w := by
  go_enter Try.func140, Try.ntmps140
  go_wp2_with fail
  ((with_reducible refine (glen64 z hz _).mono ?_); rintro e w' ⟨⟨r, rfl⟩, rfl⟩)
  go_wp2
  go_ret
  exact ⟨⟨_, rfl⟩, rfl⟩

theorem grown_drew {w wr : World} {g : Nat} (h : w.grownBy wr (some g)) (_ : Nat) : w.grownBy wr.drew (some g) := ⟨h.os, h.tape, h.output, h.size, h.block⟩
theorem grown_drewN {w wr : World} {g : Nat} (h : w.grownBy wr (some g)) (n : Nat) : w.grownBy (wr.drewN n) (some g) := ⟨h.os, h.tape, h.output, h.size, h.block⟩

set_option maxRecDepth 8000 in
set_option maxHeartbeats 4000000 in
theorem gins (g n cap : Nat) (O : List Int) (w : World) (hO : O.length = n) (hn : n ≤ 1048576) (hF : RowF w g n (nth O)) :
    Calls Try.prog 158 #[.slice (some ⟨g, 0, none⟩) n cap, .int .i64 0, .int .i64 (n : Int)] w fun e w' => e = .returned (.tuple #[]) ∧ ∃ P, List.Perm P O ∧ SortTo P n ∧ RowF w' g n (nth P) ∧ w.grownBy w' (some g) := by
  have HO := Lib.hid hO
  clear hO
  go_enter Try.func158, Try.ntmps158
  go_wp2_with fail
  go_loopw [6] (fun i wr => ∃ (k : Nat) (P : List Int), 1 ≤ k ∧ (k ≤ n ∨ k = 1) ∧ i = .int .i64 k ∧ Hid (P.Perm O) ∧ Hid (SortTo P k) ∧ RowF wr g n (nth P) ∧ w.grownBy wr (some g)) (fun i _ => n - (intOf i).toNat)
  case atStart => exact ⟨1, O, by omega, .inr rfl, rfl, Lib.hid (List.Perm.refl _), Lib.hid (fun a b h1 h2 => by
    have : a = b := by omega
    subst this; exact Int.le_refl _), hF, World.grownBy.refl _ _⟩
  case round =>
    clear hF
    obtain ⟨k, P, hk1, hk, rfl, HP, HS, hF, hg⟩ := hrel
    by_cases hlt : k < n
    · have hlt' : (k : Int) < (n : Int) := by omega
      have HH := Lib.hid (hole_start HS.out)
      go_wp2_with fail
      go_loopw [7] (fun t wr => ∃ (j : Nat) (P : List Int), j ≤ k ∧ t = .int .i64 j ∧ Hid (P.Perm O) ∧ Hid (HoleTo P k j) ∧ RowF wr g n (nth P) ∧ w.grownBy wr (some g)) (fun t _ => (intOf t).toNat)
      case atStart => exact ⟨k, P, by omega, rfl, HP, HH, hF, hg⟩
      case round =>
        clear hF hg HP HH HS
        obtain ⟨j, P, hj, rfl, HP, HH, hF, hg⟩ := hrel
        by_cases hj0 : 0 < j
        · obtain ⟨i, hji⟩ : ∃ i, j = i + 1 := ⟨j - 1, by omega⟩
          have hj0' : (0 : Int) < (j : Int) := by omega
          have hji' : (j : Int) - 1 = (i : Int) := by omega
          have hjn : (j : Int) < (n : Int) := by omega
          have hin : (i : Int) < (n : Int) := by omega
          have c0 := hF.cell (k := j) (by omega)
          have c1 := hF.cell (k := i) (by omega)
          have f0 := hF.frozen j
          have f1 := hF.frozen i
          have hPl : P.length = n := by rw [HP.out.length_eq, HO.out]
          have HPL := Lib.hid hPl
          by_cases hl : nth P j < nth P i
          · have hd : decide (nth P j < nth P i) = true := by simpa using hl
            have HP2 : Hid ((swpL P i).Perm O) := Lib.hid ((swp_perm (by omega)).trans HP.out)
            have HH2 : Hid (HoleTo (swpL P i) k i) := Lib.hid (by
              have h := HH.out
              rw [hji] at h
              exact hole_next h (by omega) (by omega) (by rw [hji] at hl; exact hl))
            have hX : ∀ wd : World, wd.heap = wr.heap → RowF ((wd.setCell ⟨g, j, none⟩ (.int .i64 (nth P i))).setCell ⟨g, i, none⟩ (.int .i64 (nth P j))) g n (nth (swpL P i)) := fun wd hwd => by
              have hF' : RowF wd g n (nth P) := by
                obtain ⟨N, f, h1, h2, h3⟩ := hF
                exact ⟨N, f, h1, h2.of_block (by rw [hwd]), h3⟩
              refine (hF'.set (G := fun q => if q = j then nth P i else nth P q) j _ (fun q _ => rfl)).set i _ (fun q hq => ?_)
              rw [swp_nth (by omega), hji]
            have hG : ∀ wd : World, (w.grownBy wd (some g)) → w.grownBy ((wd.setCell ⟨g, j, none⟩ (.int .i64 (nth P i))).setCell ⟨g, i, none⟩ (.int .i64 (nth P j))) (some g) := fun wd h => ngrown_setT (ngrown_setT h _ _) _ _
            have HX := Lib.hid hX
            have HG := Lib.hid hG
            have cK : ∀ nn, Calls Try.prog 164 #[.int .i64 (nth P j), .int .i64 (nth P i)] (wr.drewN nn) fun e w'' => e = .returned (.bool true) ∧ w'' = wr.drewN nn := fun nn => by
              have h := gless (nth P j) (nth P i) (wr.drewN nn)
              rw [hd] at h
              exact h
            clear hl hd hF hX hG hji hPl
            generalize nth P j = X at *
            generalize nth P i = Y at *
            go_wp2_with fail
            go_quiet (exact Calls.quiet_of_same (cK _))
            clear cK
            go_wp2_with fail
            go_region
            all_goals
              go_wp2_with fail
              go_roundw
              case rel => exact ⟨i, swpL P i, by omega, by go_num, HP2, HH2, HX.out _ rfl, HG.out _ (grown_drewN hg _)⟩
              case measure => simp [intOf]; omega
          · have hd : decide (nth P j < nth P i) = false := by simpa using hl
            have HS2 : Hid (SortTo P (k + 1)) := Lib.hid (hole_done HH.out (.inr (by rw [show j - 1 = i by omega]; omega)))
            have cK : ∀ nn, Calls Try.prog 164 #[.int .i64 (nth P j), .int .i64 (nth P i)] (wr.drewN nn) fun e w'' => e = .returned (.bool false) ∧ w'' = wr.drewN nn := fun nn => by
              have h := gless (nth P j) (nth P i) (wr.drewN nn)
              rw [hd] at h
              exact h
            have hFd := hF.below (below_drewN (Below.refl _ _) 0)
            have HFD : Hid (∀ nn, RowF (wr.drewN nn) g n (nth P)) := Lib.hid (fun nn => hF.below (below_drewN (Below.refl _ _) nn))
            clear hl hd hF hji hPl hFd
            generalize nth P j = X at *
            generalize nth P i = Y at *
            go_wp2_with fail
            go_quiet (exact Calls.quiet_of_same (cK _))
            clear cK
            go_wp2_with fail
            go_roundw
            case rel => exact ⟨k + 1, P, by omega, by omega, by go_num, HP, HS2, HFD.out _, grown_drewN hg _⟩
            case measure => simp [intOf]; omega
        · obtain rfl : j = 0 := by omega
          have HS2 : Hid (SortTo P (k + 1)) := Lib.hid (hole_done HH.out (.inl rfl))
          have HFD : Hid (∀ nn, RowF (wr.drewN nn) g n (nth P)) := Lib.hid (fun nn => hF.below (below_drewN (Below.refl _ _) nn))
          clear hF hj0
          go_wp2_with fail
          go_quiet (fail)
          go_wp2_with fail
          go_roundw
          case rel => exact ⟨k + 1, P, by omega, by omega, by go_num, HP, HS2, HFD.out _, grown_drewN hg _⟩
          case measure => simp [intOf]; omega
    · have HSN : Hid (SortTo P n) := Lib.hid (by
        intro a b h1 h2
        exact HS.out a b h1 (by omega))
      have hlt' : ¬ (k : Int) < (n : Int) := by omega
      go_wp2_with fail
      go_end0
      exact ⟨rfl, P, HP.out, HSN.out, hF, hg⟩

set_option maxRecDepth 100000 in
set_option maxHeartbeats 4000000 in
theorem gpdq (g n cap : Nat) (O : List Int) (r : Int) (w : World) (hO : O.length = n) (hn : n ≤ 8) (hF : RowF w g n (nth O)) :
    Calls Try.prog 146 #[.slice (some ⟨g, 0, none⟩) n cap, .int .i64 0, .int .i64 (n : Int), .int .i64 r] w fun e w' => e = .returned (.tuple #[]) ∧ ∃ P, List.Perm P O ∧ SortTo P n ∧ RowF w' g n (nth P) ∧ w.grownBy w' (some g) := by
  have hn12 : (n : Int) ≤ 12 := by omega
  go_enter Try.func146, Try.ntmps146
  go_wp2
  refine wp_loop_rounds 1 ?_
  rw [rounds_succ]
  go_wp2_with fail
  ((with_reducible refine (gins g n cap O _ hO (by omega) hF).mono ?_); rintro e w1 ⟨rfl, hP⟩)
  go_wp2
  exact bodyPost_ret (v := .tuple #[]) (by simp [results, Try.results146, go_sem]) rfl ⟨rfl, hP⟩
set_option maxHeartbeats 1000000 in
theorem gsortI (g n cap : Nat) (O : List Int) (w : World) (hO : O.length = n) (hn : n ≤ 8) (hF : RowF w g n (nth O)) :
    Calls Try.prog 137 #[.slice (some ⟨g, 0, none⟩) n cap] w fun e w' => e = .returned (.tuple #[]) ∧ ∃ P, List.Perm P O ∧ SortTo P n ∧ RowF w' g n (nth P) ∧ w.grownBy w' (some g) := by
  go_enter Try.func137, Try.ntmps137
  go_wp2_with fail
  ((with_reducible refine (glen (n : Int) (by omega) _).mono ?_); rintro e w1 ⟨⟨r, rfl⟩, rfl⟩)
  go_wp2_with fail
  ((with_reducible refine (gpdq g n cap O r _ hO hn hF).mono ?_); rintro e w2 ⟨rfl, hP⟩)
  go_wp2
  go_end0
  exact ⟨rfl, hP⟩

/-- A list turned round as far as i. -/
def revF (O : List Int) (n i q : Nat) : Int := if q < i ∨ n - i ≤ q then nth O (n - 1 - q) else nth O q
set_option maxRecDepth 8000 in
set_option maxHeartbeats 4000000 in
theorem grev (g n cap : Nat) (O : List Int) (w : World) (h1 : 1 ≤ n) (hn : n ≤ 1048576) (hF : RowF w g n (nth O)) :
    Calls Try.prog 138 #[.slice (some ⟨g, 0, none⟩) n cap] w fun e w' => e = .returned (.tuple #[]) ∧ RowF w' g n (fun q => nth O (n - 1 - q)) ∧ w.grownBy w' (some g) := by
  go_enter Try.func138, Try.ntmps138
  go_wp2_with fail
  go_loopw [2, 3] (fun i j wr => ∃ (k : Nat), 2 * k ≤ n + 1 ∧ i = .int .i64 k ∧ j = .int .i64 ((n : Int) - 1 - k) ∧ RowF wr g n (revF O n k) ∧ w.grownBy wr (some g)) (fun i _ _ => n - (intOf i).toNat)
  case atStart => exact ⟨0, by omega, rfl, by simp, hF.congr (fun q hq => by unfold revF; rw [if_neg (by omega)]), World.grownBy.refl _ _⟩
  case round =>
    clear hF
    obtain ⟨k, hk, rfl, rfl, hF, hg⟩ := hrel
    by_cases hlt : 2 * k + 1 < n
    · obtain ⟨j, hj⟩ : ∃ j, j = n - 1 - k := ⟨_, rfl⟩
      have hj' : (n : Int) - 1 - (k : Int) = (j : Int) := by omega
      rw [hj']
      have hkj : (k : Int) < (j : Int) := by omega
      have hkn : (k : Int) < (n : Int) := by omega
      have hjn : (j : Int) < (n : Int) := by omega
      have c0 := hF.cell (k := j) (by omega)
      have c1 := hF.cell (k := k) (by omega)
      have e0 : revF O n k j = nth O j := by unfold revF; rw [if_neg (by omega)]
      have e1 : revF O n k k = nth O k := by unfold revF; rw [if_neg (by omega)]
      rw [e0] at c0
      rw [e1] at c1
      have f0 := hF.frozen j
      have f1 := hF.frozen k
      have hX : ∀ wd : World, wd.heap = wr.heap → RowF ((wd.setCell ⟨g, k, none⟩ (.int .i64 (nth O j))).setCell ⟨g, j, none⟩ (.int .i64 (nth O k))) g n (revF O n (k + 1)) := fun wd hwd => by
        have hF' : RowF wd g n (revF O n k) := by
          obtain ⟨N, f, h1, h2, h3⟩ := hF
          exact ⟨N, f, h1, h2.of_block (by rw [hwd]), h3⟩
        refine (hF'.set (G := fun q => if q = k then nth O j else revF O n k q) k _ (fun q _ => rfl)).set j _ (fun q hq => ?_)
        unfold revF
        by_cases e2 : q = j
        · subst e2
          rw [if_pos (by omega), if_pos rfl]
          congr 1; omega
        · rw [if_neg e2]
          by_cases e3 : q = k
          · subst e3
            rw [if_pos (by omega), if_pos rfl]
            congr 1; omega
          · rw [if_neg e3]
            by_cases e4 : q < k ∨ n - k ≤ q
            · rw [if_pos (by omega), if_pos e4]
            · rw [if_neg (by omega), if_neg e4]
      have hG : ∀ wd : World, (w.grownBy wd (some g)) → w.grownBy ((wd.setCell ⟨g, k, none⟩ (.int .i64 (nth O j))).setCell ⟨g, j, none⟩ (.int .i64 (nth O k))) (some g) := fun wd h => ngrown_setT (ngrown_setT h _ _) _ _
      have HX := Lib.hid hX
      have HG := Lib.hid hG
      clear hF hX hG e0 e1 hj
      generalize nth O j = X at *
      generalize nth O k = Y at *
      go_wp2_with fail
      go_region
      all_goals
        go_wp2_with fail
        go_roundw
        case rel => exact ⟨k + 1, by omega, by go_num, by go_num, HX.out _ rfl, HG.out _ (grown_drew hg 0)⟩
        case measure => simp [intOf]; omega
    · have hlt' : ¬ (k : Int) < (n : Int) - 1 - (k : Int) := by omega
      have hF2 := hF.congr (G := fun q => nth O (n - 1 - q)) (fun q hq => by
        unfold revF
        by_cases e : q < k ∨ n - k ≤ q
        · rw [if_pos e]
        · rw [if_neg e]; congr 1; omega)
      clear hF
      go_wp2_with fail
      go_end0
      exact ⟨rfl, hF2, hg⟩
end Go.Proofs.Ytphgpadpffigjaa
namespace Go.Proofs.Ytphgpadpffigjaa
open Go.RowKit Go.Sort EchM

theorem cyS_pos {l : List Int} (hl : 1 ≤ l.length) : ∀ k, 1 ≤ k → 0 < (cyS l k).2.length
  | 0, h => by omega
  | 1, _ => by
    obtain ⟨n, hn⟩ : ∃ n, l.length = n + 1 := ⟨l.length - 1, by omega⟩
    simp [cyS, hn, walkC]
  | k + 2, _ => by
    have := cyS_pos hl (k + 1) (by omega)
    rw [cyS]
    split
    · simp
    · exact this
theorem einfoBl : (Try.prog.info? 4).map (fun i => (i.zero, i.size, i.bytes)) = some (some (.bool false), 1, 1) := by kernel_rfl
theorem sort_rev {l P : List Int} (hp : P.Perm (cyS l l.length).2) (hs : SortTo P P.length) : (List.range P.length).map (fun q => nth P (P.length - 1 - q)) = cyD l l.length := by
  have hs' : P.Pairwise fun a b => a ≤ b := by
    rw [List.pairwise_iff_getElem]
    intro a b ha hb hab
    have := hs a b (by omega) hb
    rwa [nth_lt ha, nth_lt hb] at this
  rw [← cyc_rev hp hs']
  refine List.ext_getElem (by simp) fun q hq1 hq2 => ?_
  simp at hq1
  simp [List.getElem_reverse, nth_lt (show P.length - 1 - q < P.length by omega)]

set_option maxRecDepth 8000 in
set_option maxHeartbeats 8000000 in
theorem icyc (v : Value) (l : List Int) (w : World) (hl1 : 1 ≤ l.length) (hl8 : l.length ≤ 8) (hS : Sl w v l) (hp : ∀ q, q < l.length → 0 ≤ nth l q ∧ nth l q < l.length) :
    Calls Try.prog 117 #[v] w fun e w' => ∃ v', e = .returned v' ∧ OwnV w' w.heap.size v' (cyD l l.length) ∧ Below w.heap.size w w' := by
  obtain ⟨j0, hj, hy0, hy1, hy2⟩ := info_parts einfoBl
  obtain ⟨i0, hi, hz0, hz1, hz2⟩ := info_parts einfoI
  obtain ⟨a, cap, rfl, hc⟩ := id hS
  obtain ⟨b, off, rfl, hbb, hT⟩ : ∃ b off, a = some ⟨b, off, none⟩ ∧ b < w.heap.size ∧ Cs w b off l := by
    rcases hc with rfl | h
    · simp at hl1
    · exact h
  have HP := Lib.hid hp
  have hmk : ∀ w, (Instr.makeSlice 143 (.int .i64 (l.length : Int)) (.int .i64 (l.length : Int))).run Try.prog w = .ok (.slice (some ⟨w.heap.size, 0, none⟩) l.length l.length) (w.alloc (.cells (madeCells #[.bool false] l.length) 4)) := fun w => by
    have h := run_make (P := Try.prog) w 143 4 j0 _ Try.underlying143 hj hy0 .i64 .i64 (l.length : Int) (l.length : Int) (by omega) (by omega) (by rw [hy2]; omega) (by omega)
    rw [hy1] at h
    simpa [Value.cells] using h
  obtain ⟨W, hW, rW, hbW⟩ : ∃ W, W = w.alloc (.cells (madeCells #[.bool false] l.length) 4) ∧ W.rowIs w.heap.size 4 l.length (fun q => .bool ((cyS l 0).1 q)) ∧ Below w.heap.size w W :=
    ⟨_, rfl, World.rowIs_made w (.bool false) l.length 4, ebox1 _ _⟩
  clear hp hc hj hy0 hy1 hy2
  go_enter Try.func117, Try.ntmps117
  go_upto_region 2 with fail
  rw [← hW]
  clear hW hmk
  go_wp2_with fail
  go_loopw [4, 13] (fun s i wr => ∃ (k : Nat), k ≤ l.length ∧ i = .int .i64 k ∧ OwnL wr (w.heap.size + 1) s (cyS l k).2 ∧ wr.rowIs w.heap.size 4 l.length (fun q => .bool ((cyS l k).1 q)) ∧ Below w.heap.size w wr) (fun _ i _ => l.length - (intOf i).toNat)
  case atStart => exact ⟨0, by omega, rfl, World.ownsRow_nil _ _ _ _, rW, hbW⟩
  case round =>
    clear rW hbW
    obtain ⟨k, hk, rfl, hO, rM, hbel⟩ := hrel
    obtain ⟨sa, sc, rfl⟩ := hO.shape
    by_cases hlt : k < l.length
    · have hlt' : (k : Int) < (l.length : Int) := by omega
      have HW0 := Lib.hid (WalkTo.start l (cyS l k).1 k)
      have hlen := cyS_len l k
      go_wp2_with fail
      go_loopw [6, 7] (fun c t wr => ∃ (s : Nat → Bool) (q cn : Nat), q < l.length ∧ cn ≤ l.length ∧ c = .int .i64 cn ∧ t = .int .i64 q ∧ Hid (WalkTo l (cyS l k).1 k s q cn) ∧ OwnL wr (w.heap.size + 1) (.slice sa (cyS l k).2.length sc) (cyS l k).2 ∧ wr.rowIs w.heap.size 4 l.length (fun q => .bool (s q)) ∧ Below w.heap.size w wr) (fun c _ _ => l.length - (intOf c).toNat)
      case atStart => exact ⟨(cyS l k).1, k, 0, hlt, by omega, rfl, rfl, HW0, hO, rM, hbel⟩
      case round =>
        clear hO rM hbel HW0
        obtain ⟨s, q, cn, hq, hcn, rfl, rfl, HWT, hO, rM, hbel⟩ := hrel
        have hq8 : (q : Int) < (l.length : Int) := by omega
        cases hs : s q
        · have c0 := bool_at s rM hq hs
          have f0 := rM.frozen q
          have cl := (hT.below hbel hbb) q hq
          obtain ⟨y, hy⟩ : ∃ y : Nat, nth l q = (y : Int) := ⟨(nth l q).toNat, by have := HP.out q hq; omega⟩
          have hyl : y < l.length := by have := HP.out q hq; omega
          rw [← nth_lt hq, hy] at cl
          obtain ⟨n1, n2⟩ := HWT.out.next hs hq
          rw [hy] at n1
          have HN : Hid (WalkTo l (cyS l k).1 k (mkS s q) y (cn + 1)) := Lib.hid n1
          have rows := (rM.set q (.bool true)).congr (g := fun j => .bool (mkS s q j)) (fun j _ => by
            unfold mkS
            split <;> rfl)
          have hneB : (Value.slice sa (cyS l k).2.length sc).ownBlock ≠ some w.heap.size := by
            intro e
            have := (World.ownsRow.lt hO _ e).1
            omega
          have hO2 : OwnL (wr.setCell ⟨w.heap.size, q, none⟩ (.bool true)) (w.heap.size + 1) (.slice sa (cyS l k).2.length sc) (cyS l k).2 :=
            World.ownsRow.kept hO (row := some w.heap.size) ⟨rfl, rfl, rfl, by rw [World.size_setCell]; exact Nat.le_refl _, fun j hj hne => Below.heap_setCell wr ⟨w.heap.size, q, none⟩ (.bool true) j (fun e => hne (by rw [e]))⟩ (.inr hneB)
          have hb2 := hbel.setCell (p := ⟨w.heap.size, q, none⟩) (by simp) (.bool true)
          clear hO rM hbel hneB n1 hy hs
          go_wp2_with fail
          go_roundw
          case rel => exact ⟨mkS s q, y, cn + 1, hyl, n2, by go_num, rfl, HN, hO2, rows, hb2⟩
          case measure => simp [intOf]; omega
        · have c0 := bool_at s rM hq hs
          have HCS := Lib.hid (cyS_next (HWT.out.done hs))
          clear hs
          by_cases hc0 : cn = 0
          · have hcn0 : ¬ (0 : Int) < (cn : Int) := by omega
            have HD2 : Hid ((cyS l (k + 1)).2 = (cyS l k).2) := Lib.hid (by rw [HCS.out]; simp only; rw [if_neg (by omega)])
            have HS2 : Hid ((cyS l (k + 1)).1 = s) := Lib.hid (by rw [HCS.out])
            clear hc0
            generalize (cyS l k).2 = O at *
            go_wp2_with fail
            go_roundw
            case rel => exact ⟨k + 1, by omega, by go_num, by rw [HD2.out]; exact hO, by rw [HS2.out]; exact rM, hbel⟩
            case measure => simp [intOf]; omega
          · have hcn0 : (0 : Int) < (cn : Int) := by omega
            have HD2 : Hid ((cyS l k).2 ++ [(cn : Int)] = (cyS l (k + 1)).2) := Lib.hid (by rw [HCS.out]; simp only; rw [if_pos (by omega)])
            have HS2 : Hid ((cyS l (k + 1)).1 = s) := Lib.hid (by rw [HCS.out])
            clear hc0
            have hOL : (cyS l k).2.length ≤ 8 := by omega
            have hws := rM.lt
            generalize (cyS l k).2 = O at *
            go_wp2_with (at_builtin; refine wpList_append_lies _ rfl _ _ 61 rfl (w.heap.size + 1) 2 i0 _ 1 8 Try.underlying61 hi hz0 hz1 hz2 rfl (by decide) (.slice sa O.length sc) O.length (valsI O) rfl (World.ownsRow.alloc hO _) ⟨wr.heap.size, 0, none⟩ 1 1 [.int .i64 (cn : Int)] rfl rfl (World.news_of_block (cs := #[.int .i64 (cn : Int)]) (t := 2) (fr := (0, 0)) (heap_alloc_new _ _)) (by simp [Value.oneCell']) (by omega) (by unfold maxLen; omega) (by omega) (by simp; omega) _ rfl ?_)
            intro gg cap3 w3 hown3 hgrow3 hat3 hlt3
            have hb3 : Below (w.heap.size + 1) wr w3 := ((ebox1 wr (.cells #[.int .i64 (cn : Int)] 2)).mono (by omega)).grown hgrow3 (by simp; omega) (fun q hq => (World.ownsRow.lt hO q hq).1)
            have hO3 : OwnL w3 (w.heap.size + 1) (.slice (some ⟨gg, 0, none⟩) (O.length + 1) cap3) (O ++ [(cn : Int)]) := by
              have h := hown3
              rw [valsI_snoc] at h
              simpa [OwnL] using h
            have hrow3 := erow_below rM hb3 (Nat.lt_succ_self _)
            have hfr3 := hbel.trans (hb3.mono (Nat.le_succ _))
            clear hown3 hgrow3 hat3 hb3 hO rM hbel
            rw [HD2.out] at hO3
            go_wp2_with fail
            go_roundw
            case rel => exact ⟨k + 1, by omega, by go_num, hO3, by rw [HS2.out]; exact hrow3, hfr3⟩
            case measure => simp [intOf]; omega
    · obtain rfl : k = l.length := by omega
      obtain ⟨g, cp, hv, hg, hF⟩ := ownV_rowF hO.toV (cyS_pos hl1 _ hl1)
      cases hv
      have hlen := cyS_len l l.length
      have hpos := cyS_pos hl1 _ hl1
      have hle := hbel.size
      have HSR := Lib.hid (fun P hp hs => sort_rev (l := l) (P := P) hp hs)
      clear hO rM
      generalize (cyS l l.length).2 = O at *
      obtain ⟨n, hn⟩ : ∃ n, O.length = n := ⟨_, rfl⟩
      rw [hn] at hF hlen hpos ⊢
      have HNN := Lib.hid hn
      clear hn
      go_wp2_with fail
      ((with_reducible refine (gsortI g n _ O _ HNN.out (by omega) hF).mono ?_); rintro e w4 ⟨rfl, P, hP, hPS, hF4, hg4⟩)
      have hPl : P.length = n := by rw [hP.length_eq, HNN.out]
      have HX := Lib.hid (HSR.out P hP (by rw [hPl]; exact hPS))
      rw [hPl] at HX
      have hb4 := hbel.grown hg4 hle (fun q hq => by simp at hq; omega)
      clear hP hPS hPl hF hg4 hbel
      go_wp2_with fail
      ((with_reducible refine (grev g n _ P _ (by omega) (by omega) hF4).mono ?_); rintro e w5 ⟨rfl, hF5, hg5⟩)
      have hb5 := hb4.grown hg5 hb4.size (fun q hq => by simp at hq; omega)
      go_wp2_with fail
      go_ret
      exact ⟨_, rfl, hF5.toV (by omega) HX.out.symm, hb5⟩
end Go.Proofs.Ytphgpadpffigjaa
namespace Go.Proofs.Ytphgpadpffigjaa
open Go.RowKit Go.Sort

/-- A copy of a list that is not nil. -/
theorem gclone (v : Value) (l : List Int) (w : World) (h0 : 0 < l.length) (hl : l.length ≤ 1048576) (hS : Sl w v l) :
    Calls Try.prog 85 #[v] w fun e w' => ∃ v', e = .returned v' ∧ OwnL w' w.heap.size v' l ∧ Below w.heap.size w w' := by
  have hS2 := fun o => hS.below (ebox1 w o)
  have ho : ∀ t, t = 2 → OwnL (w.alloc (.cells #[] t)) w.heap.size (.slice (some ⟨w.heap.size, 0, none⟩) 0 0) [] := fun t ht => by
    subst ht
    have := World.ownsRow_made (base := w.heap.size) (e := 2) (size := 1) w #[] 0 (by omega) (by simp [maxLen]) rfl
    simpa [OwnL, valsI] using this
  obtain ⟨a, cap, rfl, hc⟩ := id hS
  obtain ⟨b, off, rfl, hbb, hT⟩ : ∃ b off, a = some ⟨b, off, none⟩ ∧ b < w.heap.size ∧ Cs w b off l := by
    rcases hc with rfl | h
    · simp at h0
    · exact h
  have hnil : ∀ w : World, (binOp .eql 61 (.slice (some ⟨b, off, none⟩) l.length cap) (.slice none 0 0)).run Try.prog w = .ok (.bool false) w := fun w => by
    have h : ∀ d : Nat, (Op.equalIn (d + 1) 61 (.slice (some ⟨b, off, none⟩) l.length cap) (.slice none 0 0)).run Try.prog w = .ok false w := fun d => by
      simp [Op.equalIn, run_underlying Try.underlying61]
    simp only [binOp]
    simp [Op.equal, Op.maxDepth, h 9999]
  go_enter Try.func85, Try.ntmps85
  go_wp2_with (at_builtin; refine wpList_append_ints _ rfl _ _ rfl w.heap.size (.slice (some ⟨w.heap.size, 0, none⟩) 0 0) [] rfl (ho _ rfl) (.slice (some ⟨b, off, none⟩) l.length cap) l rfl (hS2 _) (by simp; omega) (by simp) ?_)
  intro v' w' h1 h2
  have hb : Below w.heap.size w w' := (ebox1 w _).grown h2 (by simp) (fun k hk => by simp [Value.ownBlock] at hk; omega)
  go_wp2
  go_ret
  exact ⟨_, rfl, h1, hb⟩

end Go.Proofs.Ytphgpadpffigjaa
namespace Go.Proofs.Ytphgpadpffigjaa
open Go.RowKit Go.Sort Go.Maps EchM

theorem sgnV_in {p : Int} {os : List Int} (hp : 2 ≤ p) : 1 ≤ sgnV p os ∧ sgnV p os < p := by unfold sgnV; split <;> omega
theorem lastV_in {p : Int} {M : List ((Int × Int × Int) × Int)} (hp : 0 < p) (h : ∀ q ∈ M, 0 ≤ q.2 ∧ q.2 < p) (e : Int × Int × Int) : 0 ≤ lastV M e ∧ lastV M e < p := by
  induction M with
  | nil => simp [lastV]; omega
  | cons q M ih =>
    obtain ⟨k, v⟩ := q
    have h1 := h (k, v) (by simp)
    have h2 := ih (fun q hq => h q (by simp [hq]))
    unfold lastV
    split
    · exact h2
    · split
      · exact h1
      · simp; omega
theorem ord_perm {d : Nat} (hd : 1 ≤ d ∧ d ≤ 3) {os : List Int} (ho : os ∈ ordL d (d ^ d)) : ∀ q, q < os.length → 0 ≤ nth os q ∧ nth os q < os.length := by
  rcases ord_all hd ho with ⟨rfl, rfl⟩ | ⟨rfl, rfl | rfl⟩ | ⟨rfl, rfl | rfl | rfl | rfl | rfl | rfl⟩ <;> decide +kernel

set_option maxRecDepth 8000 in
set_option maxHeartbeats 4000000 in
theorem isgn (p : Int) (vo : Value) (os : List Int) (d : Nat) (w : World) (hp2 : 2 ≤ p) (hp13 : p ≤ 13) (hd : 1 ≤ d ∧ d ≤ 3) (ho : os ∈ ordL d (d ^ d)) (hS : Sl w vo os) :
    Calls Try.prog 81 #[.int .i64 p, vo] w fun e w' => e = .returned (.int .i64 (sgnV p os)) ∧ Below w.heap.size w w' := by
  have hl13 : 1 ≤ os.length ∧ os.length ≤ 3 := by have := (ord_row hd ho).1; omega
  have hcl : (cyD os os.length).length ≤ os.length := cyD_len os os.length
  have HC := Lib.hid (icyc vo os w (by omega) (by omega) hS (ord_perm hd ho))
  have hsg : sgnB os = sgL os := sgnB_is hd ho
  obtain ⟨L, hL⟩ : ∃ L, (cyD os os.length).length = L := ⟨_, rfl⟩
  obtain ⟨a, c, rfl⟩ := hS.shape
  unfold sgnB at hsg
  rw [hL] at hsg hcl
  have HL := Lib.hid hL
  have hw1 : IntKind.i64.wrap ((os.length : Int) - (L : Int)) = ((os.length - L : Nat) : Int) := by rw [IntWalk.i64_in _ (by omega)]; omega
  have hwp : IntKind.i64.wrap (p - 1) = p - 1 := IntWalk.i64_in _ (by omega)
  obtain ⟨M, hM⟩ : ∃ M, os.length - L = M := ⟨_, rfl⟩
  rw [hM] at hsg hw1
  have hM3 : M ≤ 3 := by omega
  have HV : Hid (sgnV p os = if M % 2 = 1 then p - 1 else 1) := Lib.hid (by unfold sgnV; rw [← hsg]; simp)
  clear hsg hM hL hS hcl ho hd
  go_enter Try.func81, Try.ntmps81
  go_wp2_with fail
  ((with_reducible refine HC.out.mono ?_); rintro e w1 ⟨v1, rfl, hO1, hb1⟩)
  obtain ⟨b1, c1, hv1⟩ := hO1.sl.shape
  rw [HL.out] at hv1
  subst hv1
  clear hO1
  have h4 : M = 0 ∨ M = 1 ∨ M = 2 ∨ M = 3 := by omega
  rcases h4 with rfl | rfl | rfl | rfl
  all_goals
    go_wp2_with fail
    go_ret
    exact ⟨by rw [HV.out]; rfl, hb1⟩

set_option maxRecDepth 8000 in
set_option maxHeartbeats 4000000 in
theorem iclo (p : Int) (bp : Nat) (vo : Value) (os : List Int) (d : Nat) (w : World) (hp2 : 2 ≤ p) (hp13 : p ≤ 13) (hd : 1 ≤ d ∧ d ≤ 3) (ho : os ∈ ordL d (d ^ d)) (_hb : bp < w.heap.size) (hc : w.cell? ⟨bp, 0, none⟩ = some (.int .i64 p)) (hS : Sl w vo os) :
    Calls Try.prog 135 #[vo, .pointer (some ⟨bp, 0, none⟩)] w fun e w' => e = .returned (.int .i64 (sgnV p os)) ∧ Below w.heap.size w w' := by
  have HC := Lib.hid (isgn p vo os d w hp2 hp13 hd ho hS)
  clear ho hS
  go_enter Try.func135, Try.ntmps135
  go_wp2_with fail
  ((with_reducible refine HC.out.mono ?_); rintro e w1 ⟨rfl, hb1⟩)
  go_wp2_with fail
  go_ret
  exact ⟨rfl, hb1⟩

set_option maxRecDepth 100000 in
set_option maxHeartbeats 8000000 in
theorem isov (p : Int) (bp : Nat) (ve : Value) (es : List Int) (w : World) (hd : 1 ≤ es.length ∧ es.length ≤ 3) (hp2 : 2 ≤ p) (he : ∀ e ∈ es, 0 ≤ e ∧ e ≤ 255)
    (h12 : ∀ os ∈ ordL es.length (es.length ^ es.length), (keyO es os).1 + (keyO es os).2.1 + (keyO es os).2.2 ≤ 12) (hbp : bp < w.heap.size) (hcp : w.cell? ⟨bp, 0, none⟩ = some (.int .i64 p)) (hp13 : p ≤ 13) (hS : Sl w ve es) :
    Calls Try.prog 134 #[.int .i64 p, ve, .func (.func 135) #[] #[.pointer (some ⟨bp, 0, none⟩)]] w fun e w' => ∃ v' S, e = .returned (.agg #[.int .i64 p, .int .i64 es.length, v']) ∧ OwnP w' w.heap.size v' S ∧ IsP p S (lastV (altM p es (ordL es.length (es.length ^ es.length)))) ∧ Below w.heap.size w w' := by
  have hmm := @run_makeMap Try.prog
  obtain ⟨W0, hW0, hb0, ⟨h01, h02⟩, rr⟩ := newbox w 0 0 (.slice none 0 0)
  obtain ⟨W1, hW1, hb1, hs1, hm1⟩ : ∃ W1, W1 = W0.alloc (.map #[] 0) ∧ Below W0.heap.size W0 W1 ∧ (W1.heap.size ≤ W0.heap.size + 1 ∧ W0.heap.size + 1 ≤ W1.heap.size) ∧ MapE W1 W0.heap.size 0 (.map []) :=
    ⟨_, rfl, box1 W0 _, ⟨by simp, by simp⟩, World.ownsMap_made (H := Unit) W0 Try.prog 75 (plainElem Try.prog 2)⟩
  have rr1 := rowIs_below rr hb1 rr.lt
  have hw1 := hb0.trans (hb1.mono hb0.size)
  obtain ⟨ea, ec, rfl, _⟩ := id hS
  obtain ⟨L, hL⟩ : ∃ L, ordL es.length (es.length ^ es.length) = L := ⟨_, rfl⟩
  have HOR := Lib.hid (iorders es.length W1 hd)
  have HRW : Hid (∀ l ∈ L, l.length = es.length ∧ ∀ x ∈ l, 0 ≤ x ∧ x < 3) := Lib.hid (fun l hl => ord_row hd (by rw [hL]; exact hl))
  have HLL : Hid (L.length ≤ 27) := Lib.hid (by rw [← hL]; exact Nat.le_trans (ordL_len _ _) (pow_le27 hd (Nat.le_refl _)))
  rw [hL] at HOR h12
  have H12 := Lib.hid h12
  have HE := Lib.hid he
  have HLE := Lib.hid hL
  have haw := hS.away (g := W0.heap.size) (by omega)
  clear hL h12 he
  go_enter Try.func134, Try.ntmps134
  go_upto_region 1 with fail
  rw [← hW0]
  clear hW0
  go_upto_region 3 with fail
  rw [← hW1]
  clear hW1 hmm
  go_wp2_with fail
  ((with_reducible refine HOR.out.mono ?_); rintro e w4 ⟨v4, rfl, hO4, hb4⟩)
  obtain ⟨a4, c4, rfl⟩ := hO4.shape
  have rr4 := rowIs_below rr1 hb4 rr1.lt
  have hM4 : MapE w4 W0.heap.size 0 (.map []) := hm1.kept (row := none) ⟨hb4.os, hb4.tape, hb4.output, hb4.size, fun k hk _ => hb4.block k hk⟩ (by simp)
  have hw4 := hw1.trans (hb4.mono hw1.size)
  have hS4 := hS.below hw4
  have hm1lt := hm1.lt
  clear HOR rr rr1 hm1 hb4 hb0 hb1 hw1
  go_wp2_with fail
  go_loopg [17] L.length (fun g c wq => ∃ (j : Nat) (D : DataW Unit), j + g = L.length ∧ c = .int .i64 j ∧ MapE wq W0.heap.size j D ∧ Hid (∀ e, byte3 e → cf D e = lastV ((altM p es L).take j) e) ∧ w4.grownBy wq (some W0.heap.size))
  case atStart => exact ⟨0, _, by omega, rfl, hM4, Lib.hid (fun e _ => by rw [cf_empty]; rfl), ⟨rfl, rfl, rfl, Nat.le_refl _, fun _ _ _ => rfl⟩⟩
  case round =>
    clear hM4
    obtain ⟨j, D, hj, rfl, hM, HD, hg⟩ := hrel
    have hOq := hO4.kept hg hm1lt
    by_cases hlt : j < L.length
    · have hlt' : (j : Int) < (L.length : Int) := by omega
      obtain ⟨g2, hg2⟩ : ∃ g2, j + 1 + g2 = L.length := ⟨L.length - (j + 1), by omega⟩
      have HI := Lib.hid (And.intro hg2 (show g2 < gk by omega))
      have hSq := hS4.kept2 hg haw
      obtain ⟨_, _, hv, hcase⟩ := hOq.slR
      obtain ⟨b, off, rfl, hbb, hT⟩ : ∃ b off, a4 = some ⟨b, off, none⟩ ∧ b < wr.heap.size ∧ RowsW wr b off L := by
        rcases hcase with rfl | ⟨b, off, h1, h2, h3⟩
        · simp at hlt
        · exact ⟨b, off, by simp at hv; rw [hv.1, h1], h2, h3⟩
      obtain ⟨u, c0, s0⟩ := hT j hlt
      obtain ⟨r1, r2⟩ := HRW.out _ (List.getElem_mem hlt)
      have HIN := Lib.hid (iino (.slice ea es.length ec) u es L[j] wr (by rw [r1]; exact Nat.le_refl _) hd.2 HE.out r2 hSq s0 (by rw [r1]; omega))
      have hby := keyO_byte (os := L[j]) HE.out
      have hkey : keyOf Try.prog 75 (.agg #[.int .u8 (keyO es L[j]).1, .int .u8 (keyO es L[j]).2.1, .int .u8 (keyO es L[j]).2.2]) = some (kE (keyO es L[j])) := keyOf_vE (keyO es L[j]) hby
      have HCF : Hid (∀ e, byte3 e → cf (D.put (kE (keyO es L[j])) (.lit (.int .i64 (sgnV p L[j])))) e = lastV ((altM p es L).take (j + 1)) e) := Lib.hid (fun e he => by
        rw [cf_put hM.isMap hby he, List.take_succ_eq_append_getElem (by simpa [altM] using hlt), show (altM p es L)[j]'(by simpa [altM] using hlt) = (keyO es L[j], sgnV p L[j]) by simp [altM], lastV_snoc, HD.out e he])
      obtain ⟨sv0, sv1⟩ := sgnV_in (os := L[j]) hp2
      have hwf : (Lit.int .i64 (sgnV p L[j])).wf = true := wf64 (by omega) (by omega)
      have HSG := Lib.hid (fun w' (h : Below wr.heap.size wr w') => iclo p bp u L[j] es.length w' hp2 hp13 hd (by rw [HLE.out]; exact List.getElem_mem hlt) (Nat.lt_of_lt_of_le (Nat.lt_of_lt_of_le hbp (Nat.le_trans hw4.size hg.size)) h.size) ((h.cell (p := ⟨bp, 0, none⟩) (Nat.lt_of_lt_of_le hbp (Nat.le_trans hw4.size hg.size))).trans ((hg.cell_far ⟨bp, 0, none⟩ (Nat.lt_of_lt_of_le hbp hw4.size) (by simp; omega)).trans ((hw4.cell (p := ⟨bp, 0, none⟩) hbp).trans hcp))) (s0.below h))
      obtain ⟨sv, hsv⟩ : ∃ sv, sgnV p L[j] = sv := ⟨_, rfl⟩
      rw [hsv] at hwf HSG HCF
      clear hsv
      change Hid (Calls _ _ _ _ (fun e w' => e = .returned (.agg #[.int .u8 (keyO es L[j]).1, .int .u8 (keyO es L[j]).2.1, .int .u8 (keyO es L[j]).2.2]) ∧ _)) at HIN
      obtain ⟨K, hK⟩ : ∃ K, keyO es L[j] = K := ⟨_, rfl⟩
      rw [hK] at HIN hkey HCF
      have hj28 : j < 28 := by have := HLL.out; omega
      clear hK hby hSq hT hcase hv hj hg2 HD r1 r2 s0 hOq sv0 sv1
      obtain ⟨k0, k1, k2⟩ := K
      simp only at HIN hkey
      go_wp2_with fail
      ((with_reducible refine HIN.out.mono ?_); rintro e w5 ⟨rfl, hb5⟩)
      have hM5 : MapE w5 W0.heap.size j D := hM.kept (row := none) ⟨hb5.os, hb5.tape, hb5.output, hb5.size, fun k hk _ => hb5.block k hk⟩ (by simp)
      have hg5 : w4.grownBy w5 (some W0.heap.size) := ⟨hb5.os.trans hg.os, hb5.tape.trans hg.tape, hb5.output.trans hg.output, Nat.le_trans hg.size hb5.size, fun b hb hne => (hb5.block b (Nat.lt_of_lt_of_le hb hg.size)).trans (hg.block b hb hne)⟩
      clear hM hg HIN
      go_wp2_with fail
      ((with_reducible refine (HSG.out _ hb5).mono ?_); rintro e w6 ⟨rfl, hb6⟩)
      have hM6 := hM5.later hb6
      have hg6 : w4.grownBy w6 (some W0.heap.size) := hg5.trans (gBelow hb6)
      clear hM5 hg5 HSG
      go_wp2_with (at_mapUpdate; refine wpList_mapUpdate_own _ rfl _ _ _ 106 rfl 75 2 lawK Try.underlying106 (plainElem Try.prog 2) W0.heap.size j D rfl hM6 (by unfold maxLen; omega) (.agg #[.int .u8 k0, .int .u8 k1, .int .u8 k2]) _ _ rfl rfl hkey _ [] (plainElem_int Try.underlying2 hwf) ?_; intro w7 hown7 hgrow7)
      have hg7 : w4.grownBy w7 (some W0.heap.size) := hg6.trans hgrow7
      clear hM6 hg6 hgrow7 hb5 hb6
      go_wp2_with fail
      go_roundg g2
      case measure => exact HI.out.2
      case rel => exact ⟨j + 1, _, HI.out.1, by go_num, by simpa using hown7, HCF, hg7⟩
    · obtain rfl : j = L.length := by omega
      have hcf : ∀ e, byte3 e → cf D e = lastV (altM p es L) e := fun e he => by
        rw [HD.out e he, List.take_of_length_le (by simp [altM])]
      have hi12 : ∀ e, byte3 e → lastV (altM p es L) e ≠ 0 → e.1 + e.2.1 + e.2.2 ≤ 12 := fun e _ hne => by
        have hmem : e ∈ (altM p es L).map (·.1) := Classical.byContradiction fun h => hne (lastV_none h)
        simp only [altM, List.map_map, List.mem_map] at hmem
        obtain ⟨os, h1, rfl⟩ := hmem
        exact H12.out os h1
      have hib : ∀ e, byte3 e → 0 ≤ lastV (altM p es L) e ∧ lastV (altM p es L) e < p := fun e _ => lastV_in (by omega) (fun q hq => by
        simp only [altM, List.mem_map] at hq
        obtain ⟨os, _, rfl⟩ := hq
        have := sgnV_in (os := os) hp2
        exact ⟨by omega, this.2⟩) e
      have HG : Hid (∀ S, Good D S → IsP p S (lastV (altM p es L))) := Lib.hid (fun S h => h.isP hcf hib hi12)
      have HPO := Lib.hid (polyOf_any sort_says p es.length W0.heap.size _ D wr hM (by have := HLL.out; omega) (fun e he hc => hi12 e he (by rw [← hcf e he]; exact hc)))
      have hne0 : w.heap.size ≠ W0.heap.size := by omega
      have rrW : wr.rowIs w.heap.size 36 3 (polyF 0 0 (.slice none 0 0)) := rr4.of_block (hg.block _ rr4.lt (by simpa using hne0))
      have hbw : Below w.heap.size w wr := hw4.grown hg hw4.size (fun q hq => by cases hq; omega)
      clear hcf hi12 hib hM hg HD hO4 hS4 hw4 rr4
      go_wp2_with fail
      ((with_reducible refine HPO.out.mono ?_); rintro e w5 ⟨v5, S, rfl, ho5, hgood, hb5⟩)
      have HIS := Lib.hid (HG.out S hgood)
      obtain ⟨sa, sc, rfl⟩ := owns_slice ho5
      have rr5 := rowIs_below rrW hb5 rrW.lt
      obtain ⟨⟨r0, r1, r2⟩, z0, z1, z2⟩ := poly3 rr5
      obtain ⟨a0, a1, a2, a3, a4⟩ := fill_box rr5 ho5 hbw.size (hbw.trans (hb5.mono hbw.size)) (Nat.le_refl _) p es.length
      have A0 := Lib.hid a0
      have A1 := Lib.hid a1
      have A2 := Lib.hid a2
      have A3 := Lib.hid a3
      have A4 := Lib.hid a4
      clear a0 a1 a2 a3 a4 ho5 hgood rr5 rrW hbw hb5
      go_wp2_with fail
      refine bodyPost_ret (v := .agg #[.int .i64 p, .int .i64 es.length, .slice sa S.length sc]) (by simp [results, Try.results134, go_sem, A0.out, A1.out, A2.out]) rfl ⟨_, S, rfl, A3.out, ?_, A4.out⟩
      rw [HLE.out]
      exact HIS.out

end Go.Proofs.Ytphgpadpffigjaa
namespace Go.Proofs.Ytphgpadpffigjaa
open Go.RowKit Go.Sort

def sumT (t : Tm) : Int := t.1 + t.2.1 + t.2.2.1
def degI (ts : List Tm) : Int := match ts.getLast? with | none => -1 | some t => sumT t
def evenB (ts : List Tm) : Bool := match ts with | [] => true | t :: r => sumT t == degI (t :: r)

theorem chain_sum {p d : Int} : ∀ (ts : List Tm) (o : Option Tm), chain p d o ts = true → ∀ t ∈ ts, sumT t ≤ 12
  | [], _, _, t, ht => by simp at ht
  | a :: r, o, h, t, ht => by
    simp only [chain, Bool.and_eq_true] at h
    rcases List.mem_cons.1 ht with rfl | ht
    · exact termOk_sum h.1
    · exact chain_sum r _ h.2.2 t ht
theorem polyB_sum {p d : Int} {ts : List Tm} (h : isPolyB p d ts = true) : ∀ t ∈ ts, sumT t ≤ 12 := by
  simp only [isPolyB, Bool.and_eq_true] at h
  have := h.2.2
  unfold tailB at this
  exact chain_sum _ _ (by simpa using this)

set_option maxHeartbeats 1000000 in
theorem specDegree_some (p d : Int) (b off cap n : Nat) (x y z : Int) (w : World) (hn : n ≤ 1048576) (hb : b < w.heap.size) (hx : 0 ≤ x ∧ x ≤ 255) (hy : 0 ≤ y ∧ y ≤ 255) (hz : 0 ≤ z ∧ z ≤ 255)
    (c0 : w.cell? ⟨b, off + n * 4, none⟩ = some (.int .u8 x)) (c1 : w.cell? ⟨b, off + n * 4 + 1, none⟩ = some (.int .u8 y)) (c2 : w.cell? ⟨b, off + n * 4 + 2, none⟩ = some (.int .u8 z)) :
    Calls Try.prog 43 #[.agg #[.int .i64 p, .int .i64 d, .slice (some ⟨b, off, none⟩) (n + 1) cap]] w fun e w' => e = .returned (.int .i64 (x + y + z)) ∧ Below w.heap.size w w' := by
  have h0 : ((n : Int) + 1 == 0) = false := by simp; omega
  go_enter Try.func43, Try.ntmps43
  go_wp2_with fail
  ((with_reducible refine (sum_any x y z _ hx hy hz).mono ?_); rintro e w1 ⟨rfl, hb1⟩)
  go_wp2
  go_ret
  exact ⟨rfl, (box1 _ _).trans (hb1.mono (by simp))⟩

set_option maxHeartbeats 1000000 in
theorem degree_some (p d : Int) (b off cap n : Nat) (x y z : Int) (w : World) (hn : n ≤ 1048576) (hb : b < w.heap.size) (hx : 0 ≤ x ∧ x ≤ 255) (hy : 0 ≤ y ∧ y ≤ 255) (hz : 0 ≤ z ∧ z ≤ 255)
    (c0 : w.cell? ⟨b, off + n * 4, none⟩ = some (.int .u8 x)) (c1 : w.cell? ⟨b, off + n * 4 + 1, none⟩ = some (.int .u8 y)) (c2 : w.cell? ⟨b, off + n * 4 + 2, none⟩ = some (.int .u8 z)) :
    Calls Try.prog 86 #[.agg #[.int .i64 p, .int .i64 d, .slice (some ⟨b, off, none⟩) (n + 1) cap]] w fun e w' => e = .returned (.int .i64 (capd (x + y + z))) ∧ Below w.heap.size w w' := by
  have h0 : ((n : Int) + 1 == 0) = false := by simp; omega
  have k : ∀ o, (w.alloc o).cell? ⟨b, off + n * 4, none⟩ = some (.int .u8 x) ∧ (w.alloc o).cell? ⟨b, off + n * 4 + 1, none⟩ = some (.int .u8 y) ∧ (w.alloc o).cell? ⟨b, off + n * 4 + 2, none⟩ = some (.int .u8 z) := fun o =>
    ⟨((box1 w o).cell (p := ⟨b, _, none⟩) hb).trans c0, ((box1 w o).cell (p := ⟨b, _, none⟩) hb).trans c1, ((box1 w o).cell (p := ⟨b, _, none⟩) hb).trans c2⟩
  have K := Lib.hid k
  clear k
  go_enter Try.func86, Try.ntmps86
  go_wp2_with fail
  ((with_reducible refine (capped_any _ _ _ x y z _ hx hy hz (K.out _).1 (K.out _).2.1 (K.out _).2.2).mono ?_); rintro e w1 ⟨rfl, rfl⟩)
  go_wp2
  go_ret
  exact ⟨rfl, box1 _ _⟩

theorem specDegree_nil (p d : Int) (a : Option Addr) (cap : Nat) (w : World) :
    Calls Try.prog 43 #[.agg #[.int .i64 p, .int .i64 d, .slice a 0 cap]] w fun e w' => e = .returned (.int .i64 (-1)) ∧ Below w.heap.size w w' := by
  go_enter Try.func43, Try.ntmps43
  go_wp2
  go_ret
  exact ⟨rfl, box1 _ _⟩
theorem degree_nil (p d : Int) (a : Option Addr) (cap : Nat) (w : World) :
    Calls Try.prog 86 #[.agg #[.int .i64 p, .int .i64 d, .slice a 0 cap]] w fun e w' => e = .returned (.int .i64 (-1)) ∧ Below w.heap.size w w' := by
  go_enter Try.func86, Try.ntmps86
  go_wp2
  go_ret
  exact ⟨rfl, box1 _ _⟩

theorem degI_at (ts : List Tm) (n : Nat) (t : Tm) (h : ts.length = n + 1) (ht : ts[n]? = some t) : degI ts = sumT t := by
  unfold degI
  have : ts.getLast? = some t := by
    rw [List.getLast?_eq_getElem?, h]; simpa using ht
  rw [this]

theorem specDegree_any (p d : Int) (v : Value) (ts : List Tm) (w : World) (hl : ts.length ≤ 1048576) (hS : SliceT w v ts) (hby : ∀ t ∈ ts, tmByte t) :
    Calls Try.prog 43 #[.agg #[.int .i64 p, .int .i64 d, v]] w fun e w' => e = .returned (.int .i64 (degI ts)) ∧ Below w.heap.size w w' := by
  obtain ⟨a, cap, rfl, h⟩ := hS
  by_cases h0 : ts = []
  · subst h0; exact specDegree_nil p d a cap w
  · rcases h with h | ⟨b, off, rfl, hlt, hT⟩
    · exact absurd h h0
    · obtain ⟨n, hn⟩ : ∃ n, ts.length = n + 1 := ⟨ts.length - 1, by have := List.length_pos_iff.2 h0; omega⟩
      have hnl : n < ts.length := by omega
      obtain ⟨c0, c1, c2, _⟩ := hT n hnl
      obtain ⟨⟨bx, by1, bz⟩, _⟩ := hby _ (List.getElem_mem hnl)
      have hd := degI_at ts n _ hn (List.getElem?_eq_getElem hnl)
      generalize ts[n] = t at *
      rw [hd, hn]
      exact specDegree_some p d b off cap n _ _ _ w (by omega) hlt bx by1 bz c0 c1 c2
theorem degree_any2 (p d : Int) (v : Value) (ts : List Tm) (w : World) (hl : ts.length ≤ 1048576) (hS : SliceT w v ts) (hby : ∀ t ∈ ts, tmByte t) (hs : ∀ t ∈ ts, sumT t ≤ 12) :
    Calls Try.prog 86 #[.agg #[.int .i64 p, .int .i64 d, v]] w fun e w' => e = .returned (.int .i64 (degI ts)) ∧ Below w.heap.size w w' := by
  obtain ⟨a, cap, rfl, h⟩ := hS
  by_cases h0 : ts = []
  · subst h0; exact degree_nil p d a cap w
  · rcases h with h | ⟨b, off, rfl, hlt, hT⟩
    · exact absurd h h0
    · obtain ⟨n, hn⟩ : ∃ n, ts.length = n + 1 := ⟨ts.length - 1, by have := List.length_pos_iff.2 h0; omega⟩
      have hnl : n < ts.length := by omega
      obtain ⟨c0, c1, c2, _⟩ := hT n hnl
      obtain ⟨⟨bx, by1, bz⟩, _⟩ := hby _ (List.getElem_mem hnl)
      have hd := degI_at ts n _ hn (List.getElem?_eq_getElem hnl)
      have hc := hs _ (List.getElem_mem hnl)
      generalize ts[n] = t at *
      have hc' : capd (sumT t) = sumT t := by unfold capd; rw [if_pos hc]
      rw [hd, ← hc', hn]
      exact degree_some p d b off cap n _ _ _ w (by omega) hlt bx by1 bz c0 c1 c2

end Go.Proofs.Ytphgpadpffigjaa
namespace Go.Proofs.Ytphgpadpffigjaa
open Go.RowKit Go.Sort

/-- A polynomial: its prime, its letters, its terms. -/
abbrev Pm := Int × Int × List Tm
/-- The polynomial k of a list, in memory. -/
def PolyAt (w : World) (b o : Nat) (g : Pm) : Prop :=
  ∃ u, w.cell? ⟨b, o, none⟩ = some (.int .i64 g.1) ∧ w.cell? ⟨b, o + 1, none⟩ = some (.int .i64 g.2.1) ∧ w.cell? ⟨b, o + 2, none⟩ = some u ∧ SliceT w u g.2.2
def PolysW (w : World) (b off : Nat) (G : List Pm) : Prop := ∀ (k : Nat) (h : k < G.length), PolyAt w b (off + k * 3) G[k]
/-- A slice that reads as these polynomials. -/
def SlP (w : World) (v : Value) (G : List Pm) : Prop :=
  ∃ a cap, v = .slice a G.length cap ∧ (G = [] ∨ ∃ b off, a = some ⟨b, off, none⟩ ∧ b < w.heap.size ∧ PolysW w b off G)
theorem PolyAt.below {w w' : World} {b o : Nat} {g : Pm} (h : PolyAt w b o g) (hb : Below w.heap.size w w') (hlt : b < w.heap.size) : PolyAt w' b o g := by
  obtain ⟨u, h0, h1, h2, hS⟩ := h
  exact ⟨u, (hb.cell (p := ⟨b, _, none⟩) hlt).trans h0, (hb.cell (p := ⟨b, _, none⟩) hlt).trans h1, (hb.cell (p := ⟨b, _, none⟩) hlt).trans h2, hS.below hb⟩
theorem PolysW.below {w w' : World} {b off : Nat} {G : List Pm} (h : PolysW w b off G) (hb : Below w.heap.size w w') (hlt : b < w.heap.size) : PolysW w' b off G :=
  fun k hk => (h k hk).below hb hlt
theorem SlP.below {w w' : World} {v : Value} {G : List Pm} (h : SlP w v G) (hb : Below w.heap.size w w') : SlP w' v G := by
  obtain ⟨a, cap, hv, h | ⟨b, off, ha, hlt, hT⟩⟩ := h
  · exact ⟨a, cap, hv, .inl h⟩
  · exact ⟨a, cap, hv, .inr ⟨b, off, ha, Nat.lt_of_lt_of_le hlt hb.size, hT.below hb hlt⟩⟩
theorem SlP.at {w : World} {a : Option Addr} {n cap : Nat} {G : List Pm} (h : SlP w (.slice a n cap) G) (h0 : 0 < G.length) : ∃ b off, a = some ⟨b, off, none⟩ ∧ b < w.heap.size ∧ PolysW w b off G ∧ n = G.length := by
  obtain ⟨a', cap', hv, h | ⟨b, off, ha, hlt, hT⟩⟩ := h
  · rw [h] at h0; simp at h0
  · simp at hv
    obtain ⟨rfl, rfl, rfl⟩ := hv
    exact ⟨b, off, ha, hlt, hT, rfl⟩
/-- Numbers that fit; no list of terms is too long. -/
def PmOk (g : Pm) : Prop := (∀ t ∈ g.2.2, tmByte t) ∧ g.2.2.length ≤ 1048576
/-- A polynomial. -/
def isPm (g : Pm) : Bool := isPolyB g.1 g.2.1 g.2.2
end Go.Proofs.Ytphgpadpffigjaa
namespace Go.Proofs.Ytphgpadpffigjaa
open Go.RowKit Go.Sort Go.Maps

theorem own_own {w : World} {base base' n n' size size' : Nat} {t e : TypeId} {v v' : Value} {xs xs' : List Value} (h : w.ownsRow base t size v n xs) (h' : w.ownsRow base' e size' v' n' xs') (hne : t ≠ e) : v.ownBlock = none ∨ v.ownBlock ≠ v'.ownBlock := by
  obtain ⟨_, ⟨rfl, _⟩ | ⟨g, cap, cur, rfl, _, hgc, _⟩⟩ := h
  · exact .inl rfl
  · obtain ⟨_, ⟨rfl, _⟩ | ⟨g', cap', cur', rfl, _, hgc', _⟩⟩ := h'
    · exact .inr (by simp [Value.ownBlock])
    · refine .inr fun hb => ?_
      simp [Value.ownBlock] at hb
      subst hb
      rw [hgc] at hgc'
      simp at hgc'
      exact hne hgc'.2
/-- The cells of polynomials of a prime and letters. -/
def cellsQ (p : Int) (n : Nat) (us : List Value) : List Value := us.flatMap fun u => [.int .i64 p, .int .i64 (n : Int), u]
theorem cellsQ_snoc (p : Int) (n : Nat) (us : List Value) (u : Value) : cellsQ p n (us ++ [u]) = cellsQ p n us ++ [.int .i64 p, .int .i64 (n : Int), u] := by simp [cellsQ]
theorem cellsQ_get (p : Int) (n : Nat) : ∀ (us : List Value) (k j : Nat) (h : k < us.length), j < 3 → (cellsQ p n us)[k * 3 + j]? = ([Value.int .i64 p, .int .i64 (n : Int), us[k]] : List Value)[j]?
  | [], k, _, h, _ => by simp at h
  | u :: r, 0, j, _, hj => by
    match j, hj with
    | 0, _ => simp [cellsQ]
    | 1, _ => simp [cellsQ]
    | 2, _ => simp [cellsQ]
  | u :: r, k + 1, j, h, hj => by
    have := cellsQ_get p n r k j (by simpa using h) hj
    rw [show (k + 1) * 3 + j = (k * 3 + j) + 3 by omega]
    simpa [cellsQ] using this
end Go.Proofs.Ytphgpadpffigjaa
namespace Go.Proofs.Ytphgpadpffigjaa
open Go.RowKit Go.Sort Go.Maps

/-- A list of polynomials of a prime and letters, of the call's own; the blocks of the terms ascend and lie below hi. -/
structure PMk (w : World) (base hi : Nat) (p : Int) (n : Nat) (v : Value) (us : List Value) (Ls : List (List Tm)) : Prop where
  len : us.length = Ls.length
  rows : w.ownsRow base 36 3 v Ls.length (cellsQ p n us)
  own : ∀ (i : Nat) (h : i < us.length) (h' : i < Ls.length), OwnP w base us[i] Ls[i]
  top : ∀ (i : Nat) (h : i < us.length) (b : Nat), us[i].ownBlock = some b → b < hi
  asc : ∀ (i j : Nat) (hi' : i < us.length) (hj : j < us.length), i < j → ∀ b b', us[i].ownBlock = some b → us[j].ownBlock = some b' → b < b'
theorem PMk.nil (w : World) (base : Nat) (p : Int) (n : Nat) : PMk w base base p n (.slice none 0 0) [] [] :=
  ⟨rfl, World.ownsRow_nil _ _ _ _, fun i h => by simp at h, fun i h => by simp at h, fun i j h => by simp at h⟩
theorem PMk.nilB {w : World} {base b : Nat} {p : Int} {n : Nat} (h : w.ownsRow base 36 3 (.slice (some ⟨b, 0, none⟩) 0 0) 0 []) : PMk w base base p n (.slice (some ⟨b, 0, none⟩) 0 0) [] [] :=
  ⟨rfl, h, fun i h => by simp at h, fun i h => by simp at h, fun i j h => by simp at h⟩
theorem PMk.below {w w' : World} {base hi : Nat} {p : Int} {n : Nat} {v : Value} {us : List Value} {Ls : List (List Tm)} (h : PMk w base hi p n v us Ls) (hb : Below w.heap.size w w') : PMk w' base hi p n v us Ls :=
  ⟨h.len, owns_belowT h.rows hb, fun i hi hi' => owns_belowT (h.own i hi hi') hb, h.top, h.asc⟩
theorem PMk.low {w : World} {base base' hi : Nat} {p : Int} {n : Nat} {v : Value} {us : List Value} {Ls : List (List Tm)} (h : PMk w base hi p n v us Ls) (hb : base' ≤ base) : PMk w base' hi p n v us Ls :=
  ⟨h.len, owns_low h.rows hb, fun i hi hi' => owns_low (h.own i hi hi') hb, h.top, h.asc⟩
theorem PMk.kept {w w' : World} {base hi : Nat} {p : Int} {n : Nat} {v : Value} {us : List Value} {Ls : List (List Tm)} (h : PMk w base hi p n v us Ls) {b : Nat} (hg : w.grownBy w' (some b)) (hb : b < base) : PMk w' base hi p n v us Ls := by
  have q : ∀ (k : Nat) (x : Value), x.ownBlock = some k → base ≤ k → x.ownBlock = none ∨ x.ownBlock ≠ some b := fun k x hx hk => .inr (fun e => by rw [e] at hx; injection hx with hx; omega)
  have q' : ∀ {e : TypeId} {size m : Nat} {x : Value} {xs : List Value}, w.ownsRow base e size x m xs → x.ownBlock = none ∨ x.ownBlock ≠ some b := fun {_ _ _ x _} hx => by
    cases hxb : x.ownBlock with
    | none => exact .inl rfl
    | some k => exact .inr (fun e => by injection e with e; have := (hx.lt k hxb).1; omega)
  exact ⟨h.len, h.rows.kept hg (q' h.rows), fun i hi hi' => (h.own i hi hi').kept hg (q' (h.own i hi hi')), h.top, h.asc⟩
theorem PMk.more {w w2 : World} {base hi b1 hi2 : Nat} {p : Int} {n : Nat} {v v2 u : Value} {us : List Value} {Ls : List (List Tm)} {X : List Tm} (h : PMk w base hi p n v us Ls) (ho : OwnP w b1 u X) (h1 : hi ≤ b1) (hb : base ≤ b1) (h2 : w.heap.size ≤ hi2)
    (hg : w.grownBy w2 v.ownBlock) (hr : w2.ownsRow base 36 3 v2 (Ls.length + 1) (cellsQ p n us ++ [.int .i64 p, .int .i64 (n : Int), u])) : PMk w2 base hi2 p n v2 (us ++ [u]) (Ls ++ [X]) := by
  have hl := h.len
  have hu : ∀ b, u.ownBlock = some b → b1 ≤ b ∧ b < hi2 := fun b e => ⟨(ho.lt b e).1, Nat.lt_of_lt_of_le (ho.lt b e).2 h2⟩
  refine ⟨by simp [hl], by rw [cellsQ_snoc]; simpa using hr, fun i hi hi' => ?_, fun i hi b e => ?_, fun i j hi' hj hij b b' e e' => ?_⟩
  · simp at hi
    by_cases e : i = us.length
    · subst e
      rw [List.getElem_append_right (by omega), List.getElem_append_right (by omega)]
      simp only [Nat.sub_self, hl, List.getElem_cons_zero]
      exact owns_low (ho.kept hg (own_own ho h.rows (by decide))) hb
    · rw [List.getElem_append_left (by omega), List.getElem_append_left (by omega)]
      exact (h.own i (by omega) (by omega)).kept hg (own_own (h.own i (by omega) (by omega)) h.rows (by decide))
  · simp at hi
    by_cases e1 : i = us.length
    · subst e1
      rw [List.getElem_append_right (by omega)] at e
      simp only [Nat.sub_self, List.getElem_cons_zero] at e
      exact (hu b e).2
    · rw [List.getElem_append_left (by omega)] at e
      exact Nat.lt_of_lt_of_le ((h.own i (by omega) (by omega)).lt b e).2 h2
  · simp at hi' hj
    rw [List.getElem_append_left (by omega)] at e
    by_cases e1 : j = us.length
    · subst e1
      rw [List.getElem_append_right (by omega)] at e'
      simp only [Nat.sub_self, List.getElem_cons_zero] at e'
      have := h.top i (by omega) b e
      have := (hu b' e').1
      omega
    · rw [List.getElem_append_left (by omega)] at e'
      exact h.asc i j (by omega) (by omega) hij b b' e e'
theorem PMk.slP {w : World} {base hi : Nat} {p : Int} {n : Nat} {v : Value} {us : List Value} {Ls : List (List Tm)} (h : PMk w base hi p n v us Ls) : SlP w v (Ls.map fun X => (p, (n : Int), X)) := by
  have hl := h.len
  obtain ⟨_, ⟨rfl, h0⟩ | ⟨b, cap, cur, rfl, hb, hg, hc1, hc2, hsz, htk⟩⟩ := id h.rows
  · refine ⟨none, 0, by rw [List.length_map, h0], .inl ?_⟩
    apply List.eq_nil_of_length_eq_zero
    rw [List.length_map, h0]
  · refine ⟨_, cap, by rw [List.length_map], .inr ⟨b, 0, rfl, (Array.getElem?_eq_some_iff.1 hg).1, fun k hk => ?_⟩⟩
    rw [List.length_map] at hk
    have hk' : k < us.length := by omega
    rw [List.getElem_map]
    have key : ∀ j, j < 3 → ∀ u, ([Value.int .i64 p, .int .i64 (n : Int), us[k]] : List Value)[j]? = some u → w.cell? ⟨b, 0 + k * 3 + j, none⟩ = some u := fun j hj u hu => by
      have e2 : (cellsQ p n us)[k * 3 + j]? = some u := (cellsQ_get p n us k j hk' hj).trans hu
      have hlt : k * 3 + j < Ls.length * 3 := by omega
      rw [← htk, List.getElem?_take_of_lt hlt, Array.getElem?_toList] at e2
      simp [World.cell?, hg, e2]
    exact ⟨us[k], key 0 (by omega) _ rfl, key 1 (by omega) _ rfl, key 2 (by omega) _ rfl, OwnP.slice (h.own k hk' hk)⟩
theorem PMk.shape {w : World} {base hi : Nat} {p : Int} {n : Nat} {v : Value} {us : List Value} {Ls : List (List Tm)} (h : PMk w base hi p n v us Ls) : ∃ a c, v = .slice a Ls.length c := owns_slice h.rows
/-- A list of polynomials that reads so. -/
abbrev SlPn (w : World) (p : Int) (n : Nat) (v : Value) (Ls : List (List Tm)) : Prop := SlP w v (Ls.map fun X => (p, (n : Int), X))
/-- The polynomial k of such a list. -/
theorem SlP.nth {w : World} {p : Int} {n : Nat} {a : Option Addr} {m c : Nat} {Ls : List (List Tm)} (h : SlPn w p n (.slice a m c) Ls) {k : Nat} (hk : k < Ls.length) : ∃ b off u, a = some ⟨b, off, none⟩ ∧ b < w.heap.size ∧ m = Ls.length ∧ w.cell? ⟨b, off + k * 3, none⟩ = some (.int .i64 p) ∧ w.cell? ⟨b, off + k * 3 + 1, none⟩ = some (.int .i64 (n : Int)) ∧ w.cell? ⟨b, off + k * 3 + 2, none⟩ = some u ∧ SliceT w u Ls[k] := by
  obtain ⟨b, off, ha, hlt, hP, hm⟩ := SlP.at h (by rw [List.length_map]; omega)
  obtain ⟨u, h0, h1, h2, h3⟩ := hP k (by rw [List.length_map]; exact hk)
  rw [List.getElem_map] at h0 h1 h3
  exact ⟨b, off, u, ha, hlt, by rw [hm, List.length_map], h0, h1, h2, h3⟩
end Go.Proofs.Ytphgpadpffigjaa
namespace Go.Proofs.Ytphgpadpffigjaa
open Go.RowKit Go.Sort Go.Maps

/-- The coefficients of x and k times y together. -/
def addF (p k : Int) (xs ys : List Tm) (e : Int × Int × Int) : Int := (atL xs e + k * atL ys e) % p
theorem plus_ex {p d k : Int} {xs : List Tm} (hP : ∃ f, IsP p xs f) (ys : List Tm) (hV : Valid p d ys) : ∃ L, IsP p L (addF p k xs ys) := by
  obtain ⟨f, hP⟩ := hP
  have hP0 : IsP p xs (atL xs) := ⟨hP.1, hP.2.1, fun _ _ => rfl⟩
  have key : ∀ i, i ≤ ys.length → ∃ O, IsP p O (addF p k xs (ys.take i)) := fun i => by
    induction i with
    | zero => exact fun _ => ⟨xs, hP0.congr fun e he => by
        have hp := hV.p2
        have := hP0.bound (by omega) he
        simp [addF, atL]; exact (Int.emod_eq_of_lt this.1 this.2).symm⟩
    | succ i ih =>
      intro hi
      obtain ⟨O, hO⟩ := ih (by omega)
      have hlt : i < ys.length := by omega
      obtain ⟨hm, _⟩ := hV.mem ys[i] (List.getElem_mem _)
      refine ⟨_, (hO.put hV.p2 (e := tmE ys[i]) hm (k * ys[i].2.2.2)).congr fun e _ => ?_⟩
      unfold addF
      rw [plus_step (p := p) (k := k) (f := atL xs) hV.asc i hlt e]
      by_cases hx : e = tmE ys[i]
      · rw [if_pos hx, if_pos hx, atL_take_new hV.asc i hlt]
        simp [Int.add_comm]
      · rw [if_neg hx, if_neg hx]
  have := key ys.length (Nat.le_refl _)
  rwa [List.take_length] at this
end Go.Proofs.Ytphgpadpffigjaa
namespace Go.Proofs.Ytphgpadpffigjaa
open Go.RowKit Go.Sort Go.Maps

/-- The coefficients of a sum. -/
def sumA : List (List Tm) → Int × Int × Int → Int
  | [], _ => 0
  | X :: r, e => atL X e + sumA r e
def sumK (p k : Int) (Ls : List (List Tm)) (e : Int × Int × Int) : Int := k * sumA Ls e % p
theorem sumA_snoc (X : List Tm) (e : Int × Int × Int) : ∀ l : List (List Tm), sumA (l ++ [X]) e = sumA l e + atL X e
  | [] => by simp [sumA]
  | Y :: r => by rw [List.cons_append, sumA, sumA, sumA_snoc X e r, Int.add_assoc]
theorem sumK_nil (p k : Int) (e : Int × Int × Int) : sumK p k [] e = 0 := by simp [sumK, sumA]
theorem sumK_snoc (p k : Int) (X : List Tm) (l : List (List Tm)) (e : Int × Int × Int) : (sumK p k l e + k * atL X e) % p = sumK p k (l ++ [X]) e := by
  unfold sumK
  rw [sumA_snoc, Int.mul_add, Int.add_emod (k * sumA l e) (k * atL X e) p, Int.add_emod (k * sumA l e % p) (k * atL X e) p, Int.emod_emod_of_dvd _ (Int.dvd_refl p)]
theorem sumK_bound {p k : Int} (hp : 2 ≤ p) (Ls : List (List Tm)) (e : Int × Int × Int) : 0 ≤ sumK p k Ls e ∧ sumK p k Ls e < p := ⟨Int.emod_nonneg _ (by omega), Int.emod_lt_of_pos _ (by omega)⟩
theorem atL_ne_memF {L : List Tm} {e : Int × Int × Int} (h : atL L e ≠ 0) : ∃ t ∈ L, tmE t = e :=
  Classical.byContradiction fun hn => h (atL_none fun t ht hx => hn ⟨t, ht, hx⟩)
theorem sumA_ne {e : Int × Int × Int} : ∀ {Ls : List (List Tm)}, sumA Ls e ≠ 0 → ∃ X ∈ Ls, atL X e ≠ 0
  | [], h => by simp [sumA] at h
  | X :: r, h => by
    by_cases h0 : atL X e = 0
    · rw [sumA, h0, Int.zero_add] at h
      obtain ⟨Y, hY, h1⟩ := sumA_ne h
      exact ⟨Y, by simp [hY], h1⟩
    · exact ⟨X, by simp, h0⟩
theorem sumK_deg {p d k : Int} {Ls : List (List Tm)} (hV : ∀ X ∈ Ls, Valid p d X) {e : Int × Int × Int} (h : sumK p k Ls e ≠ 0) : e.1 + e.2.1 + e.2.2 ≤ 12 := by
  have h1 : sumA Ls e ≠ 0 := fun h0 => h (by unfold sumK; rw [h0]; simp)
  obtain ⟨X, hX, h2⟩ := sumA_ne h1
  obtain ⟨t, ht, rfl⟩ := atL_ne_memF h2
  exact ((hV X hX).mem t ht).1.2
theorem isP_valid {p d : Int} {L : List Tm} {f : Int × Int × Int → Int} (h : IsP p L f) (p2 : 2 ≤ p) (p13 : p ≤ 13) (d1 : 1 ≤ d) (d3 : d ≤ 3) : Valid p d L := ⟨p2, p13, d1, d3, h.1, fun t ht => h.2.1 t ht⟩
theorem sum_ex {p d k : Int} (hp : 2 ≤ p) : ∀ (n : Nat) (Ls : List (List Tm)), Ls.length = n → (∀ X ∈ Ls, Valid p d X) → ∃ O, IsP p O (sumK p k Ls)
  | 0, Ls, h, _ => by
    have : Ls = [] := List.eq_nil_of_length_eq_zero h
    subst this
    exact ⟨[], (IsP.nil p).congr fun e _ => (sumK_nil p k e).symm⟩
  | n + 1, Ls, h, hV => by
    have hne : Ls ≠ [] := fun e => by rw [e] at h; simp at h
    obtain ⟨l, X, rfl⟩ : ∃ l X, Ls = l ++ [X] := ⟨_, _, (List.dropLast_concat_getLast hne).symm⟩
    obtain ⟨O, hO⟩ := sum_ex hp n l (by simpa using h) (fun Y hY => hV Y (by simp [hY]))
    obtain ⟨O', hO'⟩ := plus_ex (k := k) (xs := O) ⟨_, hO⟩ X (hV X (by simp))
    exact ⟨O', hO'.congr fun e he => by unfold addF; rw [hO.2.2 e he]; exact sumK_snoc p k X l e⟩
end Go.Proofs.Ytphgpadpffigjaa
namespace Go.Proofs.Ytphgpadpffigjaa
open Go.RowKit Go.Sort Go.Maps

set_option maxRecDepth 8000 in
set_option maxHeartbeats 8000000 in
theorem isum (p : Int) (m : Nat) (kk : Int) (v : Value) (Ls : List (List Tm)) (w : World) (h0 : 1 ≤ Ls.length) (hl : Ls.length ≤ 1000) (hV : ∀ X ∈ Ls, Valid p m X) (hk0 : 0 ≤ kk) (hk1 : kk < p) (hS : SlPn w p m v Ls) :
    Calls Try.prog 80 #[v, .int .i64 kk] w fun e w' => ∃ v' S, e = .returned (.agg #[.int .i64 p, .int .i64 (m : Int), v']) ∧ OwnP w' w.heap.size v' S ∧ IsP p S (sumK p kk Ls) ∧ Below w.heap.size w w' := by
  have hp2 : 2 ≤ p := (hV Ls[0] (List.getElem_mem (by omega))).p2
  have hp13 : p ≤ 13 := (hV Ls[0] (List.getElem_mem (by omega))).p13
  obtain ⟨a, cap, rfl, _⟩ := id hS
  obtain ⟨bl, off, _, rfl, hbl, _, _⟩ := SlP.nth hS (k := 0) (by omega)
  rw [List.length_map] at hS ⊢
  obtain ⟨R, hR, hbR, ⟨hRs, hRs2⟩, rr⟩ : ∃ R, R = w.alloc (.cells #[.int .i64 0, .int .i64 0, .slice none 0 0] 36) ∧ Below w.heap.size w R ∧ (R.heap.size ≤ w.heap.size + 1 ∧ w.heap.size + 1 ≤ R.heap.size) ∧ R.rowIs w.heap.size 36 3 (polyF 0 0 (.slice none 0 0)) := ⟨_, rfl, box1 _ _, ⟨by simp, by simp⟩, zbox w⟩
  have hmm := @run_makeMap Try.prog
  have hm := World.ownsMap_made (H := Unit) R Try.prog 75 (plainElem Try.prog 2)
  obtain ⟨V, hV1, hbV, hVs1⟩ : ∃ V, V = R.alloc (.map #[] 0) ∧ Below R.heap.size R V ∧ R.heap.size + 1 ≤ V.heap.size := ⟨_, rfl, box1 _ _, by simp⟩
  rw [← hV1] at hm
  have hbwV := hbR.trans (hbV.mono hbR.size)
  have rrV := rowIs_below rr hbV rr.lt
  have HV := Lib.hid hV
  have hRw : w.heap.size ≤ R.heap.size := hbR.size
  clear hV rr
  go_enter Try.func80, Try.ntmps80
  go_upto_region 1 with fail
  rw [← hR]
  clear hR
  go_wp2_with fail
  rw [← hV1]
  clear hV1 hmm
  go_loopw [11] (fun i wr => ∃ (k : Nat) (D : DataW Unit), k ≤ Ls.length ∧ i = .int .i64 k ∧ Hid (∀ e, byte3 e → cf D e = sumK p kk (Ls.take k) e) ∧ MapE wr R.heap.size (k * 2197) D ∧ V.grownBy wr (some R.heap.size)) (fun i _ => Ls.length - (intOf i).toNat)
  case atStart => exact ⟨0, _, by omega, rfl, Lib.hid (fun e _ => by rw [cf_empty]; exact (sumK_nil p kk e).symm), by simpa using hm, World.grownBy.refl _ _⟩
  case round =>
    clear hm
    obtain ⟨k, D, hk, rfl, HD, hM, hgr⟩ := hrel
    have hend := hbwV.grown hgr hbwV.size (fun q hq => by simp at hq; omega)
    have hSr := hS.below hend
    by_cases hlt : k < Ls.length
    · have hlt' : (k : Int) < (Ls.length : Int) := by omega
      obtain ⟨b', off', uu, hbe, _, hmm, c0, c1, c2, hT⟩ := SlP.nth hSr hlt
      simp at hbe
      obtain ⟨rfl, rfl⟩ := hbe
      have HVX := Lib.hid (HV.out Ls[k] (List.getElem_mem hlt))
      have hXl : Ls[k].length ≤ 2197 := HVX.out.isP.len
      have HB := Lib.hid (fun e => sumK_bound (p := p) (k := kk) hp2 (Ls.take k) e)
      have HN := Lib.hid (fun e => (sumK_snoc p kk Ls[k] (Ls.take k) e).trans (by rw [← List.take_succ_eq_append_getElem hlt]))
      generalize Ls[k] = X at *
      obtain ⟨ua, uc, rfl, _⟩ := id hT
      obtain ⟨V2, hV2, hbV2, _, rq⟩ := newbox wr p (m : Int) (.slice ua X.length uc)
      have hM2 := hM.later hbV2
      have hT2 := hT.below hbV2
      have hg2 := hgr.trans (gBelow hbV2)
      obtain ⟨⟨q0, q1, q2⟩, _⟩ := poly3 rq
      clear hmm hT
      go_upto_region 5 with fail
      rw [← hV2]
      clear hV2 c0 c1 c2
      go_wp2_with fail
      ((with_reducible refine (addTimes_any p (m : Int) kk _ X V2 R.heap.size (k * 2197) D (sumK p kk (Ls.take k)) (by omega) hT2 HVX.out hM2 (by omega) HD.out (fun e _ => HB.out e) hk0 hk1).mono ?_); rintro e w3 ⟨D3, rfl, hM3, hD3, hg3⟩)
      have HD3 : Hid (∀ e, byte3 e → cf D3 e = sumK p kk (Ls.take (k + 1)) e) := Lib.hid (fun e he => (hD3 e he).trans (HN.out e))
      have hM4 := hM3.mono (show k * 2197 + X.length ≤ (k + 1) * 2197 by omega)
      have hg4 := hg2.trans hg3
      clear q0 q1 q2 hM3 hD3 hg3 hM2 hg2 hM rq hT2
      go_wp2_with fail
      go_roundw
      case rel => exact ⟨k + 1, _, by omega, by go_num, HD3, hM4, hg4⟩
      case measure => simp [intOf]; omega
    · obtain rfl : k = Ls.length := by omega
      have HD2 : Hid (∀ e, byte3 e → cf D e = sumK p kk Ls e) := Lib.hid (by have := HD.out; rwa [List.take_length] at this)
      have HB := Lib.hid (fun e => sumK_bound (p := p) (k := kk) hp2 Ls e)
      have HG := Lib.hid (fun e he => sumK_deg (k := kk) (e := e) HV.out he)
      have HPO := Lib.hid (fun w (hME : MapE w R.heap.size (Ls.length * 2197) D) => polyOf_any sort_says p (m : Int) R.heap.size (Ls.length * 2197) D w hME (by omega) (fun e he hc => by
        rw [HD2.out e he] at hc
        exact HG.out e hc))
      have HGD := Lib.hid (fun (S : List Tm) (h : Good D S) => show IsP p S (sumK p kk Ls) from h.isP HD2.out (fun e _ => HB.out e) (fun e _ hc => HG.out e hc))
      obtain ⟨b', off', uu, hbe, _, hmm, c0, c1, c2, hT⟩ := SlP.nth hSr (k := 0) (by omega)
      simp at hbe
      obtain ⟨rfl, rfl⟩ := hbe
      rw [Nat.zero_mul, Nat.add_zero] at c0 c1
      have rr2 := rowG rrV hgr (by omega)
      have hMd : MapE wr.drew R.heap.size (Ls.length * 2197) D := hM.later (Below.same _).drew
      have hl0 : (0 : Int) < (Ls.length : Int) := by omega
      clear hmm hT c2 HD HD2 hM
      go_wp2_with fail
      go_region_with
        ((go_at_call 94; (with_reducible refine (HPO.out _ hMd).mono ?_); rintro e w13 ⟨v13, S13, rfl, ho13, hg13, hb13⟩; have HB13 : Below wr.heap.size wr w13 := (Below.same _).drew.trans hb13; have hP13 := Lib.hid (HGD.out S13 hg13); (obtain ⟨sa13, sc13, rfl⟩ := owns_slice ho13); have rr13 := rowIs_below rr2 HB13 rr2.lt; (obtain ⟨⟨e130, e131, e132⟩, f130, f131, f132⟩ := poly3 rr13)))
      all_goals
        obtain ⟨a0, a1, a2, a3, a4⟩ := fill_box (w := w) (base := wr.drew.heap.size) rr13 ho13 hend.size (hend.trans (HB13.mono hend.size)) (Nat.le_refl _) p (m : Int)
        have A0 := Lib.hid a0
        have A1 := Lib.hid a1
        have A2 := Lib.hid a2
        have A3 := Lib.hid a3
        have A4 := Lib.hid a4
        clear a0 a1 a2 a3 a4
        go_wp2_with fail
        exact bodyPost_ret (v := .agg #[.int .i64 p, .int .i64 (m : Int), .slice sa13 S13.length sc13]) (by simp [results, Try.results80, go_sem, A0.out, A1.out, A2.out]) rfl ⟨_, S13, rfl, A3.out, hP13.out, A4.out⟩
end Go.Proofs.Ytphgpadpffigjaa
namespace Go.Proofs.Ytphgpadpffigjaa
open Go.RowKit Go.Sort Go.Maps EchM

set_option maxHeartbeats 1000000 in
theorem gbindex (g0 cap : Nat) (l : List Int) (x : Int) (w : World) (hl : l.length ≤ 1048576) (hS : ∀ (k : Nat) (h : k < l.length), w.cell? ⟨g0, k, none⟩ = some (.int .u8 l[k])) :
    Calls Try.prog 136 #[.slice (some ⟨g0, 0, none⟩) l.length cap, .int .u8 x] w fun e w' => (∃ r : Int, e = .returned (.int .i64 r) ∧ Hid (decide (0 ≤ r) = l.contains x)) ∧ w' = w := by
  have HS := Lib.hid hS
  clear hS
  go_enter Try.func136, Try.ntmps136
  go_wp2
  go_loop [8] (fun i => ∃ k : Nat, k ≤ l.length ∧ i = .int .i64 k ∧ Hid (x ∉ l.take k)) (fun i => l.length - (intOf i).toNat)
  case atStart => exact ⟨0, by omega, rfl, Lib.hid (by simp)⟩
  case round =>
    obtain ⟨k, hk, rfl, HU⟩ := hrel
    by_cases hlt : k < l.length
    · have hlt' : (k : Int) < (l.length : Int) := by omega
      have c0 := HS.out k hlt
      by_cases e : x = l[k]
      · have HX : Hid (l.contains x = true) := Lib.hid (by rw [e]; simp)
        have he : (x == l[k]) = true := by simpa using e
        generalize l[k] = y at *
        clear e
        go_wp2
        go_ret
        exact ⟨⟨_, rfl, Lib.hid (by have := HX.out; simp at this; simp [this])⟩, rfl⟩
      · have HN : Hid (x ∉ l.take (k + 1)) := Lib.hid (by
          rw [List.take_succ_eq_append_getElem hlt]
          simp only [List.mem_append, List.mem_singleton, not_or]
          exact ⟨HU.out, e⟩)
        have he : (x == l[k]) = false := by simpa using e
        generalize l[k] = y at *
        clear e
        go_wp2
        go_round
        case rel => exact ⟨k + 1, by omega, by go_num, HN⟩
        case measure => simp [intOf]; omega
    · obtain rfl : k = l.length := by omega
      have HX : Hid (l.contains x = false) := Lib.hid (by
        have := HU.out
        rw [List.take_length] at this
        simpa using this)
      go_wp2
      go_ret
      exact ⟨⟨_, rfl, Lib.hid (by have := HX.out; simp at this; simp [this])⟩, rfl⟩
theorem gbcontains (g0 cap : Nat) (l : List Int) (x : Int) (w : World) (hl : l.length ≤ 1048576) (hS : ∀ (k : Nat) (h : k < l.length), w.cell? ⟨g0, k, none⟩ = some (.int .u8 l[k])) :
    Calls Try.prog 115 #[.slice (some ⟨g0, 0, none⟩) l.length cap, .int .u8 x] w fun e w' => e = .returned (.bool (l.contains x)) ∧ w' = w := by
  have HC := Lib.hid (gbindex g0 cap l x w hl hS)
  clear hS
  go_enter Try.func115, Try.ntmps115
  go_wp2_with fail
  ((with_reducible refine HC.out.mono ?_); rintro e w1 ⟨⟨r, rfl, HR⟩, rfl⟩)
  go_wp2
  go_ret
  exact ⟨by rw [← HR.out]; rfl, rfl⟩
theorem byte_take (b cap n k : Nat) (hk : k ≤ n) (hcap : n ≤ cap) (W : World) :
    (Instr.slice 94 (.slice (some ⟨b, 0, none⟩) n cap) none (some (.int .i64 (k : Int))) none).run Try.prog W = .ok (.slice (some ⟨b, 0, none⟩) k cap) W := by
  obtain ⟨i0, hi, hz0, hz1, hz2⟩ := info_parts einfoB
  have h1 : (k : Int) ≤ (cap : Int) := by omega
  by_cases hc0 : cap = 0
  · have hk0 : k = 0 := by omega
    subst hc0 hk0
    simp [Instr.slice, run_underlying Try.underlying94, Instr.sliceBounds, run_sliceBound, sizeOf, typeInfo, hi]
  · simp [Instr.slice, run_underlying Try.underlying94, Instr.sliceBounds, run_sliceBound, sizeOf, typeInfo, hi, h1, Addr.add]

set_option maxHeartbeats 2000000 in
theorem ihas (g0 : Nat) (l : List Int) (w : World) (hl : l.length ≤ 3) (hS : ∀ (k : Nat) (h : k < l.length), w.cell? ⟨g0, k, none⟩ = some (.int .u8 l[k])) :
    Calls Try.prog 77 #[.slice (some ⟨g0, 0, none⟩) l.length 3] w fun e w' => e = .returned (.bool (!decide l.Nodup)) ∧ w' = w := by
  have HS := Lib.hid hS
  have HTK := Lib.hid (fun k (hk : k ≤ l.length) W => byte_take g0 3 l.length k hk hl W)
  clear hS
  go_enter Try.func77, Try.ntmps77
  go_wp2
  go_loop [7] (fun i => ∃ k : Nat, k ≤ l.length ∧ i = .int .i64 k ∧ Hid ((l.take k).Nodup)) (fun i => l.length - (intOf i).toNat)
  case atStart => exact ⟨0, by omega, rfl, Lib.hid (by simp)⟩
  case round =>
    obtain ⟨k, hk, rfl, HU⟩ := hrel
    by_cases hlt : k < l.length
    · have hlt' : (k : Int) < (l.length : Int) := by omega
      have c0 := HS.out k hlt
      have htk := HTK.out k hk
      have hlk : (l.take k).length = k := by rw [List.length_take]; omega
      have HC := Lib.hid (gbcontains g0 3 (l.take k) l[k] w (by omega) (fun q hq => by rw [List.getElem_take]; exact HS.out q (by omega)))
      rw [hlk] at HC
      have HB : Hid ((l.take k).contains l[k] = true → l.Nodup → False) := Lib.hid (fun h hn => by
        have hm : l[k] ∈ l.take k := by simpa using h
        obtain ⟨q, hq, he⟩ := List.mem_take_iff_getElem.1 hm
        have := List.pairwise_iff_getElem.1 hn q k (by omega) hlt (by omega)
        exact this he)
      have HN : Hid ((l.take k).contains l[k] = false → (l.take (k + 1)).Nodup) := Lib.hid (fun h => by
        rw [List.take_succ_eq_append_getElem hlt, List.nodup_append]
        have hm : l[k] ∉ l.take k := by simpa using h
        exact ⟨HU.out, by simp, fun a ha b hb e => hm (by
          have : b = l[k] := by simpa using hb
          rw [← this, ← e]; exact ha)⟩)
      obtain ⟨C, hC⟩ : ∃ C, (l.take k).contains l[k] = C := ⟨_, rfl⟩
      rw [hC] at HC HB HN
      obtain ⟨x, hx⟩ : ∃ x, l[k] = x := ⟨_, rfl⟩
      rw [hx] at c0 HC
      clear hC hx hlk
      go_wp2_with fail
      ((with_reducible refine HC.out.mono ?_); rintro e w1 ⟨rfl, rfl⟩)
      cases C
      · have HN2 := Lib.hid (HN.out rfl)
        go_wp2
        go_round
        case rel => exact ⟨k + 1, by omega, by go_num, HN2⟩
        case measure => simp [intOf]; omega
      · have HF : Hid (decide l.Nodup = false) := Lib.hid (decide_eq_false (HB.out rfl))
        go_wp2
        go_ret
        exact ⟨by rw [HF.out]; rfl, rfl⟩
    · obtain rfl : k = l.length := by omega
      have HT : Hid (decide l.Nodup = true) := Lib.hid (decide_eq_true (by have := HU.out; rwa [List.take_length] at this))
      go_wp2
      go_ret
      exact ⟨by rw [HT.out]; rfl, rfl⟩
theorem noRep_iff {d : Nat} (hd : 1 ≤ d ∧ d ≤ 3) (e : Int × Int × Int) : noRep d e ↔ (exL d e).Nodup := by
  obtain ⟨a, b, c⟩ := e
  have h : d = 1 ∨ d = 2 ∨ d = 3 := by omega
  unfold noRep
  rcases h with rfl | rfl | rfl
  · simp [exL]; omega
  · simp [exL]
    constructor
    · intro h
      have := h 0 1 (by omega) (by omega)
      simpa [exAt] using this
    · intro h i j hi hj
      obtain ⟨rfl, rfl⟩ : i = 0 ∧ j = 1 := by omega
      simpa [exAt] using h
  · simp [exL]
    constructor
    · intro h
      have h1 := h 0 1 (by omega) (by omega)
      have h2 := h 0 2 (by omega) (by omega)
      have h3 := h 1 2 (by omega) (by omega)
      simp [exAt] at h1 h2 h3
      exact ⟨⟨h1, h2⟩, h3⟩
    · rintro ⟨⟨h1, h2⟩, h3⟩ i j hi hj
      have : (i = 0 ∧ j = 1) ∨ (i = 0 ∧ j = 2) ∨ (i = 1 ∧ j = 2) := by omega
      rcases this with ⟨rfl, rfl⟩ | ⟨rfl, rfl⟩ | ⟨rfl, rfl⟩ <;> simpa [exAt]
def nrB (d : Nat) (t : Tm) : Bool := decide (exL d (tmE t)).Nodup

set_option maxRecDepth 8000 in
set_option maxHeartbeats 4000000 in
theorem irep (bx : Nat) (p : Int) (d : Nat) (v : Value) (xs : List Tm) (g : Tm) (w : World) (hJ : BoxX w bx p d v xs) :
    Calls Try.prog 76 #[.agg #[.int .u8 g.1, .int .u8 g.2.1, .int .u8 g.2.2.1, .int .i64 g.2.2.2], .pointer (some ⟨bx, 0, none⟩)] w fun e w' => e = .returned (.bool (!nrB d g)) ∧ Below w.heap.size w w' := by
  have hd : 1 ≤ d ∧ d ≤ 3 := by have := hJ.val.d1; have := hJ.val.d3; omega
  obtain ⟨x, y, z, u⟩ := g
  obtain ⟨V, hV, hbV, rt⟩ : ∃ V, V = w.alloc (.cells #[.int .u8 x, .int .u8 y, .int .u8 z, .int .i64 u] 92) ∧ Below w.heap.size w V ∧ V.rowIs w.heap.size 92 4 (tmG x y z u) := ⟨_, rfl, box1 _ _, World.rowIs_alloc w #[_, _, _, _] _ _ (fun i hi => by simp at hi; match i, hi with | 0, _ => rfl | 1, _ => rfl | 2, _ => rfl | 3, _ => rfl)⟩
  have hJV := hJ.below hbV
  obtain ⟨⟨x0, x1, x2⟩, _⟩ := poly3 hJV.row
  have hsl := slice_exps w.heap.size d hd.2
  have hel : (exL d (x, y, z)).length = d := exL_len hd.2 _
  have HC := Lib.hid (ihas w.heap.size (exL d (x, y, z)) V (by rw [hel]; exact hd.2) (fun k hk => by rw [exL_at _ hk]; exact tm_cell rt (by rw [hel] at hk; omega)))
  rw [hel] at HC
  have HN : Hid (nrB d (x, y, z, u) = decide (exL d (x, y, z)).Nodup) := Lib.hid rfl
  clear hJ hJV rt hel
  simp only
  go_enter Try.func76, Try.ntmps76
  go_upto_region 1 with fail
  rw [← hV]
  clear hV
  go_wp2_with fail
  ((with_reducible refine HC.out.mono ?_); rintro e w1 ⟨rfl, rfl⟩)
  go_wp2_with fail
  go_ret
  exact ⟨by rw [HN.out]; rfl, hbV⟩

set_option maxHeartbeats 1000000 in
theorem aridx_some (bx : Nat) (p : Int) (d : Nat) (xv : Value) (xs : List Tm) (b off cap : Nat) (G : List Tm) (w : World) (hJ : BoxX w bx p d xv xs) (hbb : b < w.heap.size) (hl : G.length ≤ 1048576) (hT : Terms w b off G) (j : Nat) (hj : j < G.length) (hn : (nrB d) G[j] = false) (hp : ∀ (i : Nat) (h : i < G.length), i < j → (nrB d) G[i] = true) :
    Calls Try.prog 116 #[.slice (some ⟨b, off, none⟩) G.length cap, .func (.func 76) #[] #[.pointer (some ⟨bx, 0, none⟩)]] w fun e w' => e = .returned (.int .i64 j) ∧ Below w.heap.size w w' := by
  have HN := Lib.hid hn
  have HP := Lib.hid hp
  have HT := Lib.hid hT
  have HJ := Lib.hid (fun (w' : World) (hb : Below w.heap.size w w') => (by exact hJ.below hb : BoxX w' bx p d xv xs))
  clear hn hp hT hJ
  go_enter Try.func116, Try.ntmps116
  go_wp2
  go_loopw [8] (fun i wr => ∃ k : Nat, k ≤ j ∧ i = .int .i64 k ∧ Below w.heap.size w wr) (fun i _ => G.length - (intOf i).toNat)
  case atStart => exact ⟨0, by omega, rfl, Below.refl _ _⟩
  case round =>
    obtain ⟨k, hk, rfl, hbr⟩ := hrel
    have hlt : k < G.length := by omega
    have hlt' : (k : Int) < (G.length : Int) := by omega
    obtain ⟨c0, c1, c2, c3⟩ := (HT.out.below hbr hbb) k hlt
    have HC := Lib.hid (irep bx p d xv xs G[k] wr (HJ.out wr hbr))
    by_cases e : k = j
    · subst e
      go_wp2_with fail
      ((with_reducible refine HC.out.mono ?_); rintro e w1 ⟨rfl, hb1⟩)
      have hend := hbr.trans (hb1.mono hbr.size)
      rw [HN.out]
      go_wp2
      go_ret
      exact ⟨rfl, hend⟩
    · have h0 := Lib.hid (HP.out k hlt (by omega))
      go_wp2_with fail
      ((with_reducible refine HC.out.mono ?_); rintro e w1 ⟨rfl, hb1⟩)
      have hend := hbr.trans (hb1.mono hbr.size)
      rw [h0.out]
      go_wp2
      go_roundw
      case rel => exact ⟨k + 1, by omega, by go_num, hend⟩
      case measure => simp [intOf]; omega

set_option maxHeartbeats 1000000 in
theorem aridx_none (bx : Nat) (p : Int) (d : Nat) (xv : Value) (xs : List Tm) (a : Option Addr) (cap : Nat) (G : List Tm) (w : World) (hJ : BoxX w bx p d xv xs) (hl : G.length ≤ 1048576) (hS : G = [] ∨ ∃ b off, a = some ⟨b, off, none⟩ ∧ b < w.heap.size ∧ Terms w b off G) (hp : ∀ (i : Nat) (h : i < G.length), (nrB d) G[i] = true) :
    Calls Try.prog 116 #[.slice a G.length cap, .func (.func 76) #[] #[.pointer (some ⟨bx, 0, none⟩)]] w fun e w' => e = .returned (.int .i64 (-1)) ∧ Below w.heap.size w w' := by
  have HP := Lib.hid hp
  have HJ := Lib.hid (fun (w' : World) (hb : Below w.heap.size w w') => (by exact hJ.below hb : BoxX w' bx p d xv xs))
  clear hp hJ
  go_enter Try.func116, Try.ntmps116
  go_wp2
  go_loopw [8] (fun i wr => ∃ k : Nat, k ≤ G.length ∧ i = .int .i64 k ∧ Below w.heap.size w wr) (fun i _ => G.length - (intOf i).toNat)
  case atStart => exact ⟨0, by omega, rfl, Below.refl _ _⟩
  case round =>
    obtain ⟨k, hk, rfl, hbr⟩ := hrel
    by_cases hlt : k < G.length
    · have hlt' : (k : Int) < (G.length : Int) := by omega
      obtain ⟨b, off, rfl, hbb, hT⟩ : ∃ b off, a = some ⟨b, off, none⟩ ∧ b < w.heap.size ∧ Terms w b off G := by
        rcases hS with rfl | h
        · simp at hlt
        · exact h
      obtain ⟨c0, c1, c2, c3⟩ := (hT.below hbr hbb) k hlt
      have HC := Lib.hid (irep bx p d xv xs G[k] wr (HJ.out wr hbr))
      have h0 := Lib.hid (HP.out k hlt)
      clear hT
      go_wp2_with fail
      ((with_reducible refine HC.out.mono ?_); rintro e w1 ⟨rfl, hb1⟩)
      have hend := hbr.trans (hb1.mono hbr.size)
      rw [h0.out]
      go_wp2
      go_roundw
      case rel => exact ⟨k + 1, by omega, by go_num, hend⟩
      case measure => simp [intOf]; omega
    · obtain rfl : k = G.length := by omega
      go_wp2
      go_ret
      exact ⟨rfl, hbr⟩

theorem arcontains (bx : Nat) (p : Int) (d : Nat) (xv : Value) (xs : List Tm) (v : Value) (G : List Tm) (w : World) (hJ : BoxX w bx p d xv xs) (hl : G.length ≤ 1048576) (hS : SliceT w v G) :
    Calls Try.prog 78 #[v, .func (.func 76) #[] #[.pointer (some ⟨bx, 0, none⟩)]] w fun e w' => e = .returned (.bool (!G.all (nrB d))) ∧ Below w.heap.size w w' := by
  obtain ⟨a, cap, rfl, hc⟩ := hS
  cases h : G.all (nrB d)
  · obtain ⟨j, hj, hn, hp⟩ := first_outR (nrB d) G h
    obtain ⟨b, off, rfl, hbb, hT⟩ : ∃ b off, a = some ⟨b, off, none⟩ ∧ b < w.heap.size ∧ Terms w b off G := by
      rcases hc with rfl | h
      · simp at hj
      · exact h
    have HC := Lib.hid (aridx_some bx p d xv xs b off cap G w hJ hbb hl hT j hj hn hp)
    clear h hc hn hp hT hJ
    go_enter Try.func78, Try.ntmps78
    go_wp2_with fail
    ((with_reducible refine HC.out.mono ?_); rintro e w1 ⟨rfl, hb1⟩)
    go_wp2
    go_ret
    exact ⟨rfl, hb1⟩
  · have hp : ∀ (i : Nat) (hi : i < G.length), (nrB d) G[i] = true := fun i hi => List.all_eq_true.1 h _ (List.getElem_mem hi)
    have HC := Lib.hid (aridx_none bx p d xv xs a cap G w hJ hl hc hp)
    clear h hp hc hJ
    go_enter Try.func78, Try.ntmps78
    go_wp2_with fail
    ((with_reducible refine HC.out.mono ?_); rintro e w1 ⟨rfl, hb1⟩)
    go_wp2
    go_ret
    exact ⟨rfl, hb1⟩
end Go.Proofs.Ytphgpadpffigjaa
namespace Go.Proofs.Ytphgpadpffigjaa
open Go.RowKit Go.Sort Go.Maps EchM

theorem one_sl {w : World} {p : Int} {m : Nat} {u : Value} {A : List Tm} (hA : SliceT w u A) : SlPn (w.alloc (.cells #[.int .i64 p, .int .i64 (m : Int), u] 36)) p m (.slice (some ⟨w.heap.size, 0, none⟩) 1 1) [A] := by
  have hb := box1 w (.cells #[.int .i64 p, .int .i64 (m : Int), u] 36)
  have hr := World.rowIs_alloc w #[Value.int .i64 p, .int .i64 (m : Int), u] 36 (polyF p m u) (fun i hi => by simp at hi; match i, hi with | 0, _ => rfl | 1, _ => rfl | 2, _ => rfl)
  refine ⟨some ⟨w.heap.size, 0, none⟩, 1, rfl, .inr ⟨w.heap.size, 0, rfl, hr.lt, fun k hk => ?_⟩⟩
  match k, hk with
  | 0, _ => exact ⟨u, hr.cell (i := 0) (by simp), hr.cell (i := 1) (by simp), hr.cell (i := 2) (by simp), hA.below hb⟩

set_option maxRecDepth 8000 in
set_option maxHeartbeats 8000000 in
theorem idiff (bx : Nat) (p : Int) (d : Nat) (v : Value) (xs : List Tm) (os : List Int) (vo : Value) (w : World) (hJ : BoxX w bx p d v xs) (hok : isOrd d os) (hS : Sl w vo os) :
    Calls Try.prog 79 #[vo, .pointer (some ⟨bx, 0, none⟩)] w fun e w' => e = .returned (.bool (!orB p d (sgnV p os) xs os)) ∧ Below w.heap.size w w' := by
  have hd : 1 ≤ d ∧ d ≤ 3 := by have := hJ.val.d1; have := hJ.val.d3; omega
  have hp2 := hJ.val.p2
  have hp13 := hJ.val.p13
  obtain ⟨sv0, sv1⟩ := sgnV_in (os := os) hp2
  have hs0 : 0 ≤ sgnV p os := by omega
  obtain ⟨a, cap, rfl, _⟩ := id hJ.sl
  have KK := Lib.hid (fun w' (h : Below w.heap.size w w') => show (w'.cell? ⟨bx, 0, none⟩ = some (.int .i64 p) ∧ w'.cell? ⟨bx, 1, none⟩ = some (.int .i64 d) ∧ w'.cell? ⟨bx, 2, none⟩ = some (.slice a xs.length cap)) from
    (poly3 (hJ.below h).row).1)
  have HV := Lib.hid hJ.val
  have HIN := Lib.hid hJ.inp
  have HSL := Lib.hid (fun w' (h : Below w.heap.size w w') => hJ.sl.below h)
  have hb0 : Below w.heap.size w w.drew := (Below.same w).drew
  obtain ⟨x0, x1, x2⟩ := KK.out _ (Below.same w)
  have HOK := Lib.hid hok
  have HSO := Lib.hid (fun w' (h : Below w.heap.size w w') => hS.below h)
  have HEX := Lib.hid (fun w' (h : Below w.heap.size w w') => iexch p d (.slice a xs.length cap) vo xs os w' HV.out HIN.out HOK.out (HSL.out _ h) (HSO.out _ h))
  have HSG := Lib.hid (fun w' (h : Below w.heap.size w w') => isgn p vo os d w' hp2 hp13 hd HOK.out (HSO.out _ h))
  have HSU := Lib.hid (fun v' w' (h : SlPn w' p d v' [xs]) => isum p d (sgnV p os) v' [xs] w' (by simp) (by simp) (fun X hX => by obtain rfl := List.mem_singleton.1 hX; exact HV.out) hs0 sv1 h)
  have HF := Lib.hid (fun L5 L6 (h5 : IsP p L5 (exF d os xs)) (h6 : IsP p L6 (sumK p (sgnV p os) [xs])) => or_same (k := sgnV p os) (L2 := L6) HV.out HIN.out HOK.out h5 (h6.congr fun e _ => by simp [sumK, sumA]))
  obtain ⟨sg, hsg⟩ : ∃ sg, sgnV p os = sg := ⟨_, rfl⟩
  rw [hsg] at HSG HSU HF ⊢
  clear hJ hok hS hsg hs0 sv0 sv1
  have hbA : Below w.heap.size w (w.alloc (.cells #[.int .i64 p, .int .i64 (d : Int), .slice a xs.length cap] 36)).drew := (box1 w _).drew
  have SP0 : SlPn (w.alloc (.cells #[.int .i64 p, .int .i64 (d : Int), .slice a xs.length cap] 36)).drew p d (.slice (some ⟨w.heap.size, 0, none⟩) 1 1) [xs] := one_sl (p := p) (m := d) (HSL.out _ (Below.same w))
  go_enter Try.func79, Try.ntmps79
  go_wp2_with fail
  go_region_held3 (fun w' => (w'.cell? ⟨bx, 0, none⟩ = some (.int .i64 p) ∧ w'.cell? ⟨bx, 1, none⟩ = some (.int .i64 d) ∧ w'.cell? ⟨bx, 2, none⟩ = some (.slice a xs.length cap)))
    (first | with_reducible exact KK.out _ hb0 | with_reducible exact KK.out _ hbA | with_reducible exact KK.out _ hb5 | with_reducible exact KK.out _ hbB | with_reducible exact KK.out _ hb8 | with_reducible exact KK.out _ hbC | with_reducible exact KK.out _ hb9 | with_reducible exact KK.out _ hbE)
    (first
    | (go_at_call 69; (with_reducible refine (HEX.out _ (by first | with_reducible exact hb0 | with_reducible exact hbA)).mono ?_); rintro e w5 ⟨v5, L5, rfl, ho5, hI5, hbb5⟩; have hb5 : Below w.heap.size w w5 := (by first | exact hb0.trans (hbb5.mono hb0.size) | exact hbA.trans (hbb5.mono hbA.size)); have hl5 : L5.length ≤ 1048576 := Nat.le_trans hI5.len (by decide); (try (have SP5 := SP0.below hbb5)); have hbB : Below w.heap.size w (w5.alloc (.cells #[.int .i64 p, .int .i64 (d : Int), .slice a xs.length cap] 36)) := hb5.trans ((box1 w5 _).mono hb5.size); have SP1 := one_sl (p := p) (m := d) (HSL.out _ hb5))
    | (go_at_call 81; (with_reducible refine (HSG.out _ (by first | with_reducible exact hb5 | with_reducible exact hbB)).mono ?_); rintro e w8 ⟨rfl, hbb8⟩; have hb8 : Below w.heap.size w w8 := (by first | exact hb5.trans (hbb8.mono hb5.size) | exact hbB.trans (hbb8.mono hbB.size)); (try (have SP8 := SP5.below hbb8)); (try (have SP8 := SP1.below hbb8)); have hbC : Below w.heap.size w (w8.alloc (.cells #[.int .i64 p, .int .i64 (d : Int), .slice a xs.length cap] 36)) := hb8.trans ((box1 w8 _).mono hb8.size); have SP2 := one_sl (p := p) (m := d) (HSL.out _ hb8))
    | (go_at_call 80; (with_reducible refine (HSU.out _ _ (by first | with_reducible exact SP8 | with_reducible exact SP2)).mono ?_); rintro e w9 ⟨v9, L9, rfl, ho9, hI9, hbb9⟩; have hb9 : Below w.heap.size w w9 := (by first | exact hb8.trans (hbb9.mono hb8.size) | exact hbC.trans (hbb9.mono hbC.size)); have hl9 : L9.length ≤ 1048576 := Nat.le_trans hI9.len (by decide); have h59 : Below w5.heap.size w5 w9 := (by first | exact hbb8.trans (hbb9.mono hbb8.size) | exact (box1 w5 _).trans ((hbb8.trans (hbb9.mono hbb8.size)).mono (box1 w5 (.cells #[.int .i64 p, .int .i64 (d : Int), .slice a xs.length cap] 36)).size) | exact hbb8.trans (((box1 w8 _).trans (hbb9.mono (box1 w8 (.cells #[.int .i64 p, .int .i64 (d : Int), .slice a xs.length cap] 36)).size)).mono hbb8.size)); have hS5 := (OwnP.slice ho5).below h59)
    | (go_at_call 68; (with_reducible refine (isame p d p d _ _ L5 L9 _ hl5 hl9 hS5 (OwnP.slice ho9)).mono ?_); rintro e w10 ⟨rfl, hbb10⟩; have hbE := hb9.trans (hbb10.mono hb9.size)))
  all_goals
    have HQ : Hid (sameT L5 L9 = orB p d sg xs os) := Lib.hid (by
      rw [Bool.eq_iff_iff, orB_iff]
      exact HF.out L5 L9 hI5 hI9)
    go_wp2_with fail
    go_ret
    exact ⟨by rw [← HQ.out]; rfl, hbE⟩

/-- An alternating polynomial, as the program tells it. -/
theorem all_alt {p : Int} {d : Nat} {xs : List Tm} (hV : Valid p d xs) : (ordL d (d ^ d)).all (fun os => orB p d (sgnV p os) xs os) = nbB p d (p - 1) xs := by
  have hd : 1 ≤ d ∧ d ≤ 3 := by have := hV.d1; have := hV.d3; omega
  have hp2 := hV.p2
  rw [Bool.eq_iff_iff, nbB_iff, List.all_eq_true]
  have h := orders_nb hd (atL xs) (fun x => (p - 1) * x % p) (fun e => by
    have hb := hV.at_bound e
    rw [Int.mul_emod, Int.emod_emod_of_dvd _ (Int.dvd_refl p), ← Int.mul_emod, ← Int.mul_assoc, show (p - 1) * (p - 1) * atL xs e = atL xs e + p * ((p - 2) * atL xs e) by grind, Int.add_mul_emod_self_left]
    exact Int.emod_eq_of_lt hb.1 hb.2)
  simp only [orB_iff]
  unfold orP nbP
  rw [← h]
  constructor
  · intro h1 os ho e he
    rw [h1 os ho e he]
    unfold sgnV
    split
    · rfl
    · exact hV.one e
  · intro h1 os ho e he
    rw [h1 os ho e he]
    unfold sgnV
    split
    · rfl
    · exact (hV.one e).symm
end Go.Proofs.Ytphgpadpffigjaa
namespace Go.Proofs.Ytphgpadpffigjaa
open Go.RowKit Go.Sort Go.Maps EchM

/-- Whether a polynomial is alternating. -/
noncomputable def altO (p d : Int) (xs : List Tm) : Bool := if isPolyB p d xs then (xs.all (nrB d.toNat) && nbB p d.toNat (p - 1) xs) else false
theorem altO_yes {p : Int} {m : Nat} {xs : List Tm} (h : isPolyB p m xs = true) : altO p m xs = (xs.all (nrB m) && nbB p m (p - 1) xs) := by unfold altO; rw [if_pos h, Int.toNat_natCast]
theorem alt_iff {p : Int} {m : Nat} {xs : List Tm} (hV : Valid p m xs) : (xs.all (nrB m) && nbB p m (p - 1) xs) = true ↔ (∀ t ∈ xs, noRep m (tmE t)) ∧ ∀ i, i + 1 < m → nbP p m (p - 1) xs i := by
  have hd : 1 ≤ m ∧ m ≤ 3 := by have := hV.d1; have := hV.d3; omega
  rw [Bool.and_eq_true, nbB_iff, List.all_eq_true]
  simp only [nrB, decide_eq_true_eq, noRep_iff hd]

set_option maxRecDepth 8000 in
set_option maxHeartbeats 4000000 in
theorem salt8 (p d : Int) (v : Value) (ts : List Tm) (w : World) (hl : ts.length ≤ 1048576) (hS : SliceT w v ts) (hby : ∀ t ∈ ts, tmByte t) :
    Calls Try.prog 31 #[.agg #[.int .i64 p, .int .i64 d, v]] w fun e w' => e = .returned (.tuple #[.bool (altO p d ts), .int .i64 (polyC p d ts)]) ∧ Below w.heap.size w w' := by
  obtain ⟨a, cap, rfl, _⟩ := id hS
  obtain ⟨W, hW, hbW, ⟨hWs1, hWs2⟩, rx⟩ := newbox w p d (.slice a ts.length cap)
  have hSW := hS.below hbW
  obtain ⟨⟨x0, x1, x2⟩, _⟩ := poly3 rx
  have HSI := Lib.hid (specIs_any p d _ ts W hl hSW hby)
  cases hB : isPolyB p d ts
  · have HO := Lib.hid (show altO p d ts = false by unfold altO; rw [hB]; rfl)
    have HC := Lib.hid (show polyC p d ts = 1 by unfold polyC; rw [hB]; rfl)
    rw [hB] at HSI
    clear hB hby
    go_enter Try.func31, Try.ntmps31
    go_wp2_with fail
    rw [← hW]
    clear hW
    ((with_reducible refine HSI.out.mono ?_); rintro e w1 ⟨rfl, hb1⟩)
    go_wp2_with fail
    go_ret2
    exact ⟨by rw [HO.out, HC.out]; rfl, hbW.trans (hb1.mono hbW.size)⟩
  · have hV := valid_of hB hby
    obtain ⟨m, rfl⟩ := Int.eq_ofNat_of_zero_le (show 0 ≤ d by have := hV.d1; omega)
    have HO := Lib.hid (altO_yes hB)
    have HC := Lib.hid (show polyC p m ts = 0 by unfold polyC; rw [hB]; rfl)
    have HIN := Lib.hid (valid_inP hB)
    rw [hB] at HSI
    obtain ⟨B, hBn⟩ : ∃ B, (ts.all (nrB m) && nbB p m (p - 1) ts) = B := ⟨_, rfl⟩
    have HNB : Hid (B = true ↔ (∀ t ∈ ts, noRep m (tmE t)) ∧ ∀ i, i + 1 < m → nbP p m (p - 1) ts i) := Lib.hid (by rw [← hBn]; exact alt_iff hV)
    rw [hBn] at HO
    clear hB hby hBn
    have HV := Lib.hid hV
    clear hV
    go_enter Try.func31, Try.ntmps31
    go_wp2_with fail
    rw [← hW]
    clear hW
    ((with_reducible refine HSI.out.mono ?_); rintro e w1 ⟨rfl, hb1⟩)
    have rx1 := rowIs_below rx hb1 rx.lt
    clear x0 x1 x2
    obtain ⟨⟨x0, x1, x2⟩, _⟩ := poly3 rx1
    have hS1 := hSW.below hb1
    go_wp2_with fail
    ((with_reducible refine (salts p m _ ts w1 B hS1 HV.out HIN.out HNB.out).mono ?_); rintro e w2 ⟨rfl, hb2⟩)
    go_wp2_with fail
    go_ret2
    exact ⟨by rw [HO.out, HC.out]; rfl, hbW.trans ((hb1.trans (hb2.mono hb1.size)).mono hbW.size)⟩


set_option maxHeartbeats 1000000 in
theorem alidx_some (bx : Nat) (p : Int) (d : Nat) (xv : Value) (xs : List Tm) (b off cap : Nat) (G : List (List Int)) (w : World) (hJ : BoxX w bx p d xv xs) (hbb : b < w.heap.size) (hl : G.length ≤ 1048576) (hok : ∀ g ∈ G, isOrd d g) (hT : RowsW w b off G) (j : Nat) (hj : j < G.length) (hn : (fun os => orB p d (sgnV p os) xs os) G[j] = false) (hp : ∀ (i : Nat) (h : i < G.length), i < j → (fun os => orB p d (sgnV p os) xs os) G[i] = true) :
    Calls Try.prog 111 #[.slice (some ⟨b, off, none⟩) G.length cap, .func (.func 79) #[] #[.pointer (some ⟨bx, 0, none⟩)]] w fun e w' => e = .returned (.int .i64 j) ∧ Below w.heap.size w w' := by
  have HN := Lib.hid hn
  have HP := Lib.hid hp
  have HOK := Lib.hid hok
  have HT := Lib.hid hT
  have HJ := Lib.hid (fun (w' : World) (hb : Below w.heap.size w w') => (by exact hJ.below hb : BoxX w' bx p d xv xs))
  clear hn hp hok hT hJ
  go_enter Try.func111, Try.ntmps111
  go_wp2
  go_loopw [8] (fun i wr => ∃ k : Nat, k ≤ j ∧ i = .int .i64 k ∧ Below w.heap.size w wr) (fun i _ => G.length - (intOf i).toNat)
  case atStart => exact ⟨0, by omega, rfl, Below.refl _ _⟩
  case round =>
    obtain ⟨k, hk, rfl, hbr⟩ := hrel
    have hlt : k < G.length := by omega
    have hlt' : (k : Int) < (G.length : Int) := by omega
    obtain ⟨u, c0, s0⟩ := (HT.out.below hbr hbb) k hlt
    have HC := Lib.hid (idiff bx p d xv xs G[k] u wr (HJ.out wr hbr) (HOK.out _ (List.getElem_mem hlt)) s0)
    clear s0
    by_cases e : k = j
    · subst e
      go_wp2_with fail
      ((with_reducible refine HC.out.mono ?_); rintro e w1 ⟨rfl, hb1⟩)
      have hend := hbr.trans (hb1.mono hbr.size)
      rw [HN.out]
      go_wp2
      go_ret
      exact ⟨rfl, hend⟩
    · have h0 := Lib.hid (HP.out k hlt (by omega))
      go_wp2_with fail
      ((with_reducible refine HC.out.mono ?_); rintro e w1 ⟨rfl, hb1⟩)
      have hend := hbr.trans (hb1.mono hbr.size)
      rw [h0.out]
      go_wp2
      go_roundw
      case rel => exact ⟨k + 1, by omega, by go_num, hend⟩
      case measure => simp [intOf]; omega

set_option maxHeartbeats 1000000 in
theorem alidx_none (bx : Nat) (p : Int) (d : Nat) (xv : Value) (xs : List Tm) (a : Option Addr) (cap : Nat) (G : List (List Int)) (w : World) (hJ : BoxX w bx p d xv xs) (hl : G.length ≤ 1048576) (hok : ∀ g ∈ G, isOrd d g) (hS : G = [] ∨ ∃ b off, a = some ⟨b, off, none⟩ ∧ b < w.heap.size ∧ RowsW w b off G) (hp : ∀ (i : Nat) (h : i < G.length), (fun os => orB p d (sgnV p os) xs os) G[i] = true) :
    Calls Try.prog 111 #[.slice a G.length cap, .func (.func 79) #[] #[.pointer (some ⟨bx, 0, none⟩)]] w fun e w' => e = .returned (.int .i64 (-1)) ∧ Below w.heap.size w w' := by
  have HP := Lib.hid hp
  have HOK := Lib.hid hok
  have HJ := Lib.hid (fun (w' : World) (hb : Below w.heap.size w w') => (by exact hJ.below hb : BoxX w' bx p d xv xs))
  clear hp hok hJ
  go_enter Try.func111, Try.ntmps111
  go_wp2
  go_loopw [8] (fun i wr => ∃ k : Nat, k ≤ G.length ∧ i = .int .i64 k ∧ Below w.heap.size w wr) (fun i _ => G.length - (intOf i).toNat)
  case atStart => exact ⟨0, by omega, rfl, Below.refl _ _⟩
  case round =>
    obtain ⟨k, hk, rfl, hbr⟩ := hrel
    by_cases hlt : k < G.length
    · have hlt' : (k : Int) < (G.length : Int) := by omega
      obtain ⟨b, off, rfl, hbb, hT⟩ : ∃ b off, a = some ⟨b, off, none⟩ ∧ b < w.heap.size ∧ RowsW w b off G := by
        rcases hS with rfl | h
        · simp at hlt
        · exact h
      obtain ⟨u, c0, s0⟩ := (hT.below hbr hbb) k hlt
      have HC := Lib.hid (idiff bx p d xv xs G[k] u wr (HJ.out wr hbr) (HOK.out _ (List.getElem_mem hlt)) s0)
      have h0 := Lib.hid (HP.out k hlt)
      clear s0 hT
      go_wp2_with fail
      ((with_reducible refine HC.out.mono ?_); rintro e w1 ⟨rfl, hb1⟩)
      have hend := hbr.trans (hb1.mono hbr.size)
      rw [h0.out]
      go_wp2
      go_roundw
      case rel => exact ⟨k + 1, by omega, by go_num, hend⟩
      case measure => simp [intOf]; omega
    · obtain rfl : k = G.length := by omega
      go_wp2
      go_ret
      exact ⟨rfl, hbr⟩

theorem alcontains (bx : Nat) (p : Int) (d : Nat) (xv : Value) (xs : List Tm) (v : Value) (G : List (List Int)) (w : World) (hJ : BoxX w bx p d xv xs) (hl : G.length ≤ 1048576) (hok : ∀ g ∈ G, isOrd d g) (hS : SlR w v G) :
    Calls Try.prog 70 #[v, .func (.func 79) #[] #[.pointer (some ⟨bx, 0, none⟩)]] w fun e w' => e = .returned (.bool (!G.all (fun os => orB p d (sgnV p os) xs os))) ∧ Below w.heap.size w w' := by
  obtain ⟨a, cap, rfl, hc⟩ := hS
  cases h : G.all (fun os => orB p d (sgnV p os) xs os)
  · obtain ⟨j, hj, hn, hp⟩ := first_outR (fun os => orB p d (sgnV p os) xs os) G h
    obtain ⟨b, off, rfl, hbb, hT⟩ : ∃ b off, a = some ⟨b, off, none⟩ ∧ b < w.heap.size ∧ RowsW w b off G := by
      rcases hc with rfl | h
      · simp at hj
      · exact h
    have HC := Lib.hid (alidx_some bx p d xv xs b off cap G w hJ hbb hl hok hT j hj hn hp)
    clear h hc hn hp hok hT hJ
    go_enter Try.func70, Try.ntmps70
    go_wp2_with fail
    ((with_reducible refine HC.out.mono ?_); rintro e w1 ⟨rfl, hb1⟩)
    go_wp2
    go_ret
    exact ⟨rfl, hb1⟩
  · have hp : ∀ (i : Nat) (hi : i < G.length), (fun os => orB p d (sgnV p os) xs os) G[i] = true := fun i hi => List.all_eq_true.1 h _ (List.getElem_mem hi)
    have HC := Lib.hid (alidx_none bx p d xv xs a cap G w hJ hl hok hc hp)
    clear h hp hok hc hJ
    go_enter Try.func70, Try.ntmps70
    go_wp2_with fail
    ((with_reducible refine HC.out.mono ?_); rintro e w1 ⟨rfl, hb1⟩)
    go_wp2
    go_ret
    exact ⟨rfl, hb1⟩

set_option maxRecDepth 8000 in
set_option maxHeartbeats 4000000 in
theorem ialt8 (p d : Int) (v : Value) (ts : List Tm) (w : World) (hl : ts.length ≤ 1048576) (hS : SliceT w v ts) (hby : ∀ t ∈ ts, tmByte t) :
    Calls Try.prog 32 #[.agg #[.int .i64 p, .int .i64 d, v]] w fun e w' => e = .returned (.tuple #[.bool (altO p d ts), .int .i64 (polyC p d ts)]) ∧ Below w.heap.size w w' := by
  obtain ⟨a, cap, rfl, _⟩ := id hS
  obtain ⟨W, hW, hbW, ⟨hWs1, hWs2⟩, rx⟩ := newbox w p d (.slice a ts.length cap)
  have hSW := hS.below hbW
  obtain ⟨⟨x0, x1, x2⟩, _⟩ := poly3 rx
  have HSI := Lib.hid (isPoly_any p d _ ts W hl hSW hby)
  cases hB : isPolyB p d ts
  · have HO := Lib.hid (show altO p d ts = false by unfold altO; rw [hB]; rfl)
    have HC := Lib.hid (show polyC p d ts = 1 by unfold polyC; rw [hB]; rfl)
    rw [hB] at HSI
    clear hB hby
    go_enter Try.func32, Try.ntmps32
    go_wp2_with fail
    rw [← hW]
    clear hW
    ((with_reducible refine HSI.out.mono ?_); rintro e w1 ⟨rfl, hb1⟩)
    go_wp2_with fail
    go_ret2
    exact ⟨by rw [HO.out, HC.out]; rfl, hbW.trans (hb1.mono hbW.size)⟩
  · have hV := valid_of hB hby
    obtain ⟨m, rfl⟩ := Int.eq_ofNat_of_zero_le (show 0 ≤ d by have := hV.d1; omega)
    have HO := Lib.hid (altO_yes hB)
    have HC := Lib.hid (show polyC p m ts = 0 by unfold polyC; rw [hB]; rfl)
    have HIN := Lib.hid (valid_inP hB)
    rw [hB] at HSI
    have hm : 1 ≤ m ∧ m ≤ 3 := by have := hV.d1; have := hV.d3; omega
    have HAL := Lib.hid (all_alt hV)
    have HOL : Hid ((ordL m (m ^ m)).length ≤ 1048576) := Lib.hid (Nat.le_trans (ordL_len m (m ^ m)) (Nat.le_trans (pow_le27 hm (Nat.le_refl _)) (by decide)))
    clear hB hby
    have HV := Lib.hid hV
    clear hV
    go_enter Try.func32, Try.ntmps32
    go_wp2_with fail
    rw [← hW]
    clear hW
    ((with_reducible refine HSI.out.mono ?_); rintro e w1 ⟨rfl, hb1⟩)
    have rx1 := rowIs_below rx hb1 rx.lt
    clear x0 x1 x2
    obtain ⟨⟨x0, x1, x2⟩, _⟩ := poly3 rx1
    have hS1 := hSW.below hb1
    have hJ1 : BoxX w1 w.heap.size p m (.slice a ts.length cap) ts := ⟨rx1, hS1, HV.out, HIN.out⟩
    have HAC := Lib.hid (arcontains w.heap.size p m _ ts _ ts w1 hJ1 hl hS1)
    obtain ⟨R, hR⟩ : ∃ R, ts.all (nrB m) = R := ⟨_, rfl⟩
    rw [hR] at HAC HO
    clear hR
    go_wp2_with fail
    ((with_reducible refine HAC.out.mono ?_); rintro e w4 ⟨rfl, hb4⟩)
    have hJ4 := hJ1.below hb4
    have rx4 := rowIs_below rx1 hb4 rx1.lt
    clear x0 x1 x2
    obtain ⟨⟨x0, x1, x2⟩, _⟩ := poly3 rx4
    cases R
    · go_wp2_with fail
      go_ret2
      exact ⟨by rw [HO.out, HC.out]; rfl, hbW.trans ((hb1.trans (hb4.mono hb1.size)).mono hbW.size)⟩
    go_wp2_with fail
    ((with_reducible refine (iorders m w4 hm).mono ?_); rintro e w2 ⟨v2, rfl, hO2, hb2⟩)
    have hJ2 := hJ4.below hb2
    have HCO := Lib.hid (alcontains w.heap.size p m _ ts v2 (ordL m (m ^ m)) w2 hJ2 HOL.out (fun g hg => hg) hO2.slR)
    rw [HAL.out] at HCO
    obtain ⟨a4, c4, rfl⟩ := hO2.shape
    clear x0 x1 x2
    go_wp2_with fail
    ((with_reducible refine HCO.out.mono ?_); rintro e w3 ⟨rfl, hb3⟩)
    go_wp2_with fail
    go_ret2
    exact ⟨by rw [HO.out, HC.out]; simp, hbW.trans ((hb1.trans ((hb4.trans ((hb2.trans (hb3.mono hb2.size)).mono hb4.size)).mono hb1.size)).mono hbW.size)⟩
end Go.Proofs.Ytphgpadpffigjaa
namespace Go.Proofs.Ytphgpadpffigjaa
open Go.RowKit Go.Sort

set_option maxHeartbeats 2000000 in
theorem law_ial (p d : Int) (v : Value) (ts : List Tm) (w : World) (hn : ts.length ≤ 9223372036854775807) (hS : SliceT w v ts) (hby : ∀ t ∈ ts, tmByte t) :
    Calls Try.prog 8 #[.agg #[.int .i64 p, .int .i64 d, v]] w fun e w' => e = .returned (.bool true) ∧ Below w.heap.size w w' := by
  obtain ⟨W, hW, hbW, hWs, x0, x1, x2⟩ : ∃ W, W = w.alloc (.cells #[.int .i64 p, .int .i64 d, v] 46) ∧ Below w.heap.size w W ∧ w.heap.size < W.heap.size ∧
      W.cell? ⟨w.heap.size, 0, none⟩ = some (.int .i64 p) ∧ W.cell? ⟨w.heap.size, 1, none⟩ = some (.int .i64 d) ∧ W.cell? ⟨w.heap.size, 2, none⟩ = some v :=
    ⟨_, rfl, box1 _ _, by simp, by go_simp, by go_simp, by go_simp⟩
  have hSW := hS.below hbW
  obtain ⟨a, cap, hv, _⟩ := id hS
  subst hv
  go_enter Try.func8, Try.ntmps8
  go_wp2_with fail
  rw [← hW]
  clear hW
  ((with_reducible refine (szPoly_any p d _ _ ts _ hn (by decide) (by decide) hSW).mono ?_); rintro e w1 ⟨rfl, hb1⟩)
  have y0 := (hb1.cell (p := ⟨w.heap.size, 0, none⟩) hWs).trans x0
  have y1 := (hb1.cell (p := ⟨w.heap.size, 1, none⟩) hWs).trans x1
  have y2 := (hb1.cell (p := ⟨w.heap.size, 2, none⟩) hWs).trans x2
  by_cases hbig : 1048576 < ts.length
  · have HL : Hid (leftOf 1048576 ts.length = -1) := Lib.hid (by simp [leftOf]; omega)
    rw [HL.out]
    go_wp2
    go_ret
    exact ⟨rfl, hbW.trans (hb1.mono (Nat.le_of_lt hWs))⟩
  · have hl : ts.length ≤ 1048576 := by omega
    have HL : Hid (leftOf 1048576 ts.length = 1048576 - (ts.length : Int)) := Lib.hid (by simp [leftOf]; omega)
    rw [HL.out]
    clear hbig
    go_wp2_with fail
    ((with_reducible refine (toPoly_any p d _ ts _ hl (hSW.below hb1)).mono ?_); rintro e w2 ⟨v2, rfl, own2, hb2⟩)
    go_wp2_with fail
    ((with_reducible refine (salt8 p d _ ts _ hl own2.slice hby).mono ?_); rintro e w3 ⟨rfl, hb3⟩)
    have hb13 := (hb1.trans (hb2.mono hb1.size)).trans (hb3.mono (Nat.le_trans hb1.size hb2.size))
    clear y0 y1 y2
    have y0 := (hb13.cell (p := ⟨w.heap.size, 0, none⟩) hWs).trans x0
    have y1 := (hb13.cell (p := ⟨w.heap.size, 1, none⟩) hWs).trans x1
    have y2 := (hb13.cell (p := ⟨w.heap.size, 2, none⟩) hWs).trans x2
    clear hb1 hb2 hb3 own2
    go_wp2_with fail
    ((with_reducible refine (toPoly_any p d _ ts _ hl (hSW.below hb13)).mono ?_); rintro e w4 ⟨v4, rfl, own4, hb4⟩)
    have hb14 := hb13.trans (hb4.mono hb13.size)
    clear y0 y1 y2 hb13 hb4
    have hz4 : w.heap.size < w4.heap.size := Nat.lt_of_lt_of_le hWs hb14.size
    obtain ⟨g4, f4, hv4, _⟩ := id own4
    subst hv4
    obtain ⟨V, hV, hbV, hVs, t0, t1, t2⟩ : ∃ V, V = w4.alloc (.cells #[.int .i64 p, .int .i64 d, .slice (some ⟨g4, 0, none⟩) ts.length ts.length] 36) ∧ Below w4.heap.size w4 V ∧ w4.heap.size < V.heap.size ∧
        V.cell? ⟨w4.heap.size, 0, none⟩ = some (.int .i64 p) ∧ V.cell? ⟨w4.heap.size, 1, none⟩ = some (.int .i64 d) ∧ V.cell? ⟨w4.heap.size, 2, none⟩ = some (.slice (some ⟨g4, 0, none⟩) ts.length ts.length) :=
      ⟨_, rfl, box1 _ _, by simp, by go_simp, by go_simp, by go_simp⟩
    have hS4 := own4.slice.below hbV
    go_wp2_with fail
    rw [← hV]
    clear hV
    ((with_reducible refine (ialt8 p d _ ts _ hl hS4 hby).mono ?_); rintro e w5 ⟨rfl, hb5⟩)
    have hbW5 := hb14.trans ((hbV.trans (hb5.mono hbV.size)).mono hb14.size)
    have hS5 := hS4.below hb5
    have hA5 := hSW.below hbW5
    have u0 := (hb5.cell (p := ⟨w4.heap.size, 0, none⟩) hVs).trans t0
    have u1 := (hb5.cell (p := ⟨w4.heap.size, 1, none⟩) hVs).trans t1
    have u2 := (hb5.cell (p := ⟨w4.heap.size, 2, none⟩) hVs).trans t2
    have y0 := (hbW5.cell (p := ⟨w.heap.size, 0, none⟩) hWs).trans x0
    have y1 := (hbW5.cell (p := ⟨w.heap.size, 1, none⟩) hWs).trans x1
    have y2 := (hbW5.cell (p := ⟨w.heap.size, 2, none⟩) hWs).trans x2
    have hz5 : w4.heap.size < w5.heap.size := Nat.lt_of_lt_of_le hVs hb5.size
    have hz6 : w.heap.size < w5.heap.size := Nat.lt_trans hz4 hz5
    have hbb : (altO p d ts != altO p d ts) = false := by simp
    have hcc : (polyC p d ts != polyC p d ts) = false := by simp
    clear x0 x1 x2 t0 t1 t2 hb14 hbV hb5 hVs hS4 own4
    have hA6 : SliceT w5.drew (.slice a ts.length cap) ts := hA5.below ((Below.refl _ _).drew)
    have hS6 : SliceT w5.drew (.slice (some ⟨g4, 0, none⟩) ts.length ts.length) ts := hS5.below ((Below.refl _ _).drew)
    have hbW6 : Below W.heap.size W w5.drew := hbW5.drew
    have U0 : w5.drew.cell? ⟨w4.heap.size, 0, none⟩ = some (.int .i64 p) := u0
    have U1 : w5.drew.cell? ⟨w4.heap.size, 1, none⟩ = some (.int .i64 d) := u1
    have U2 : w5.drew.cell? ⟨w4.heap.size, 2, none⟩ = some (.slice (some ⟨g4, 0, none⟩) ts.length ts.length) := u2
    have hz5' : w4.heap.size < w5.drew.heap.size := hz5
    clear hA5 hS5 hbW5
    go_wp2
    go_region_with (first
      | (go_at_call 27; (with_reducible refine (toPoly_any p d _ ts _ hl hA6).mono ?_); rintro e w6 ⟨v6, rfl, own6, hb6⟩; have q0 := (hb6.cell (p := ⟨w4.heap.size, 0, none⟩) hz5').trans U0; have q1 := (hb6.cell (p := ⟨w4.heap.size, 1, none⟩) hz5').trans U1; have q2 := (hb6.cell (p := ⟨w4.heap.size, 2, none⟩) hz5').trans U2)
      | (go_at_call 20; (with_reducible refine (eqPoly_same p d _ _ ts _ hl (hS6.below hb6) own6.slice).mono ?_); rintro e w7 ⟨rfl, hb7⟩))
    all_goals go_wp2
    all_goals go_ret
    all_goals exact ⟨rfl, hbW.trans ((hbW6.trans ((hb6.trans (hb7.mono hb6.size)).mono hbW6.size)).mono (Nat.le_of_lt hWs))⟩

end Go.Proofs.Ytphgpadpffigjaa
