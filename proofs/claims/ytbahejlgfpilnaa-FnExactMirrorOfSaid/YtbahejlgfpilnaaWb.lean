/-
  WALKS on tables of wide rows: 'impl.scale', 'impl.addRow'. Conditions: as each theorem states.
-/
import Derived.Test.YtbahejlgfpilnaaWa
import Derived.Test.YtbahejlgfpilnaaLa
import Derived.Test.YtbahejlgfpilnaaB
import Derived.StillTail
import Derived.StillTailTactics
import Derived.StillTactics
import Derived.IntWalk
namespace Go.Proofs.Ytbahejlgfpilnaa
open Go.RowKit Go.Sort EchM

/-- A block of numbers told by a function. -/
def gV (G : Nat → Int) (q : Nat) : Value := .int .i64 (G q)
def scaG (p : Int) (o n : Nat) (k : Int) (G : Nat → Int) (q : Nat) : Int := if o ≤ q ∧ q < o + n then G q * k % p else G q
def addG (p : Int) (o o2 n : Nat) (k : Int) (G : Nat → Int) (q : Nat) : Int := if o ≤ q ∧ q < o + n then (G q + k * G (o2 + (q - o))) % p else G q
theorem scaG_zero (p : Int) (o : Nat) (k : Int) (G : Nat → Int) : scaG p o 0 k G = G := by
  funext q; unfold scaG; rw [if_neg (by omega)]
theorem addG_zero (p : Int) (o o2 : Nat) (k : Int) (G : Nat → Int) : addG p o o2 0 k G = G := by
  funext q; unfold addG; rw [if_neg (by omega)]
theorem scaG_at (p : Int) (o i : Nat) (k : Int) (G : Nat → Int) : scaG p o i k G (o + i) = G (o + i) := by
  unfold scaG; rw [if_neg (by omega)]
theorem scaG_put (p : Int) (o i : Nat) (k x : Int) (G : Nat → Int) (hx : x = G (o + i) * k % p) (q : Nat) : (if q = o + i then Value.int .i64 x else gV (scaG p o i k G) q) = gV (scaG p o (i + 1) k G) q := by
  by_cases h : q = o + i
  · subst h
    rw [if_pos rfl]
    unfold gV scaG
    rw [if_pos (by omega), hx]
  · rw [if_neg h]
    unfold gV scaG
    by_cases h2 : o ≤ q ∧ q < o + i
    · rw [if_pos h2, if_pos (by omega)]
    · rw [if_neg h2, if_neg (by omega)]
theorem addG_put (p : Int) (o o2 i : Nat) (k x : Int) (G : Nat → Int) (hx : x = (G (o + i) + k * G (o2 + i)) % p) (q : Nat) : (if q = o + i then Value.int .i64 x else gV (addG p o o2 i k G) q) = gV (addG p o o2 (i + 1) k G) q := by
  by_cases h : q = o + i
  · subst h
    rw [if_pos rfl]
    unfold gV addG
    rw [if_pos (by omega), hx, show o + i - o = i by omega]
  · rw [if_neg h]
    unfold gV addG
    by_cases h2 : o ≤ q ∧ q < o + i
    · rw [if_pos h2, if_pos (by omega)]
    · rw [if_neg h2, if_neg (by omega)]
theorem addG_at (p : Int) (o o2 i : Nat) (k : Int) (G : Nat → Int) : addG p o o2 i k G (o + i) = G (o + i) := by
  unfold addG; rw [if_neg (by omega)]
theorem addG_other (p : Int) (o o2 i n : Nat) (k : Int) (G : Nat → Int) (_ : i < n) (hin : i < 100) (h : o + 100 ≤ o2 ∨ o2 + 100 ≤ o) : addG p o o2 i k G (o2 + i) = G (o2 + i) := by
  unfold addG; rw [if_neg (by omega)]

set_option maxRecDepth 8000 in
set_option maxHeartbeats 4000000 in
theorem iscale (p k : Int) (n b o M : Nat) (G : Nat → Int) (w : World) (h2 : 2 ≤ p) (h13 : p ≤ 13) (hk : 0 ≤ k ∧ k ≤ 13) (hn : n ≤ 100) (ho : o + 100 ≤ M) (hG : ∀ q, o ≤ q → q < o + n → 0 ≤ G q ∧ G q < p) (hr : w.rowIs b 160 M (gV G)) :
    Calls Try.prog 213 #[.int .i64 p, .int .i64 n, .pointer (some ⟨b, o, none⟩), .int .i64 k] w fun e w' => e = .returned (.tuple #[]) ∧ w'.rowIs b 160 M (gV (scaG p o n k G)) ∧ w.grownBy w' (some b) := by
  have hr0 : w.rowIs b 160 M (gV (scaG p o 0 k G)) := by rw [scaG_zero]; exact hr
  have HG := Lib.hid hG
  clear hr hG
  go_enter Try.func213, Try.ntmps213
  go_wp2_with fail
  go_loopw [10] (fun i wr => ∃ j : Nat, j ≤ n ∧ i = .int .i64 j ∧ wr.rowIs b 160 M (gV (scaG p o j k G)) ∧ w.grownBy wr (some b)) (fun i _ => n - (intOf i).toNat)
  case atStart => exact ⟨0, by omega, rfl, hr0, ⟨rfl, rfl, rfl, Nat.le_refl _, fun _ _ _ => rfl⟩⟩
  case round =>
    clear hr0
    obtain ⟨j, hj, rfl, hR, hg⟩ := hrel
    by_cases hlt : j < n
    · have hlt' : (j : Int) < (n : Int) := by omega
      have hj100 : (j : Int) < 100 := by omega
      have hj100' : j < 100 := by omega
      have hc : wr.cell? ⟨b, o + j, none⟩ = some (.int .i64 (G (o + j))) := by have := hR.cell (i := o + j) (by omega); unfold gV at this; rwa [scaG_at] at this
      have hf := hR.frozen (o + j)
      obtain ⟨g0, g1⟩ := HG.out (o + j) (by omega) (by omega)
      obtain ⟨x, hx⟩ : ∃ x, G (o + j) = x := ⟨_, rfl⟩
      rw [hx] at hc g0 g1
      have m0 : 0 ≤ x * k := Int.mul_nonneg g0 hk.1
      have m1 : x * k ≤ 13 * 13 := Int.mul_le_mul (by omega) hk.2 hk.1 (by omega)
      have hw : IntKind.i64.wrap (x * k) = x * k := IntWalk.i64_in _ (by omega)
      have ht : (x * k).tmod p = (x * k) % p := Int.tmod_eq_emod_of_nonneg m0
      have hp0 : ¬ p = 0 := by omega
      have hp1 : (p == 0) = false := by simpa using hp0
      have HS := Lib.hid (hR.set (o + j) (.int .i64 (x * k % p)) |>.congr (g := gV (scaG p o (j + 1) k G)) (fun q _ => scaG_put p o j k (x * k % p) G (by rw [hx]) q))
      have hgs : w.grownBy (wr.drew.setCell ⟨b, o + j, none⟩ (.int .i64 (x * k % p))) (some b) :=
        ⟨hg.os, hg.tape, hg.output, by simpa using hg.size, fun a ha hne => (Deep.blk_setCell_other wr.drew ⟨b, o + j, none⟩ _ a (fun e => hne (by rw [show a = b from e]))).trans (hg.block a ha hne)⟩
      clear hR hx HG
      go_wp2_with fail
      refine region_tail 13 (by kernel_rfl) (by kernel_rfl) ?_
      simp only [List.take_succ_cons, List.take_zero, List.drop_succ_cons, List.drop_zero]
      repeat still_step
      refine wpStill_nil ?_
      try simp only [hw, ht]
      go_wp2_with fail
      go_roundw
      case rel => exact ⟨j + 1, by omega, by go_num, HS.out, hgs⟩
      case measure => simp [intOf]; omega
    · obtain rfl : j = n := by omega
      go_wp2_with fail
      go_end0
      exact ⟨rfl, hR, hg⟩

set_option maxRecDepth 8000 in
set_option maxHeartbeats 4000000 in
theorem iaddRow (p k : Int) (n b o o2 M : Nat) (G : Nat → Int) (w : World) (h2 : 2 ≤ p) (h13 : p ≤ 13) (hk : 0 ≤ k ∧ k ≤ 13) (hn : n ≤ 100) (ho : o + 100 ≤ M) (ho2 : o2 + 100 ≤ M) (hap : o + 100 ≤ o2 ∨ o2 + 100 ≤ o) (hG : ∀ q, o ≤ q → q < o + n → 0 ≤ G q ∧ G q < p) (hG2 : ∀ q, o2 ≤ q → q < o2 + n → 0 ≤ G q ∧ G q < p) (hr : w.rowIs b 160 M (gV G)) :
    Calls Try.prog 215 #[.int .i64 p, .int .i64 n, .pointer (some ⟨b, o, none⟩), .pointer (some ⟨b, o2, none⟩), .int .i64 k] w fun e w' => e = .returned (.tuple #[]) ∧ w'.rowIs b 160 M (gV (addG p o o2 n k G)) ∧ w.grownBy w' (some b) := by
  have hr0 : w.rowIs b 160 M (gV (addG p o o2 0 k G)) := by rw [addG_zero]; exact hr
  have HG := Lib.hid hG
  have HG2 := Lib.hid hG2
  clear hr hG hG2
  go_enter Try.func215, Try.ntmps215
  go_wp2_with fail
  go_loopw [12] (fun i wr => ∃ j : Nat, j ≤ n ∧ i = .int .i64 j ∧ wr.rowIs b 160 M (gV (addG p o o2 j k G)) ∧ w.grownBy wr (some b)) (fun i _ => n - (intOf i).toNat)
  case atStart => exact ⟨0, by omega, rfl, hr0, ⟨rfl, rfl, rfl, Nat.le_refl _, fun _ _ _ => rfl⟩⟩
  case round =>
    clear hr0
    obtain ⟨j, hj, rfl, hR, hg⟩ := hrel
    by_cases hlt : j < n
    · have hlt' : (j : Int) < (n : Int) := by omega
      have hj100 : (j : Int) < 100 := by omega
      have hj100' : j < 100 := by omega
      have hc : wr.cell? ⟨b, o + j, none⟩ = some (.int .i64 (G (o + j))) := by have := hR.cell (i := o + j) (by omega); unfold gV at this; rwa [addG_at] at this
      have hf := hR.frozen (o + j)
      obtain ⟨g0, g1⟩ := HG.out (o + j) (by omega) (by omega)
      obtain ⟨x, hx⟩ : ∃ x, G (o + j) = x := ⟨_, rfl⟩
      rw [hx] at hc g0 g1
      have hc2 : wr.cell? ⟨b, o2 + j, none⟩ = some (.int .i64 (G (o2 + j))) := by have := hR.cell (i := o2 + j) (by omega); unfold gV at this; rwa [addG_other p o o2 j n k G hlt hj100' hap] at this
      obtain ⟨g2, g3⟩ := HG2.out (o2 + j) (by omega) (by omega)
      obtain ⟨y, hy⟩ : ∃ y, G (o2 + j) = y := ⟨_, rfl⟩
      rw [hy] at hc2 g2 g3
      have m0 : 0 ≤ k * y := Int.mul_nonneg hk.1 g2
      have m1 : k * y ≤ 13 * 13 := Int.mul_le_mul hk.2 (by omega) g2 (by omega)
      have hw : IntKind.i64.wrap (k * y) = k * y := IntWalk.i64_in _ (by omega)
      have hw2 : IntKind.i64.wrap (x + k * y) = x + k * y := IntWalk.i64_in _ (by omega)
      have ht : (x + k * y).tmod p = (x + k * y) % p := Int.tmod_eq_emod_of_nonneg (by omega)
      have hp0 : ¬ p = 0 := by omega
      have hp1 : (p == 0) = false := by simpa using hp0
      have HS := Lib.hid (hR.set (o + j) (.int .i64 ((x + k * y) % p)) |>.congr (g := gV (addG p o o2 (j + 1) k G)) (fun q _ => addG_put p o o2 j k ((x + k * y) % p) G (by rw [hx, hy]) q))
      have hgs : w.grownBy (wr.drew.setCell ⟨b, o + j, none⟩ (.int .i64 ((x + k * y) % p))) (some b) :=
        ⟨hg.os, hg.tape, hg.output, by simpa using hg.size, fun a ha hne => (Deep.blk_setCell_other wr.drew ⟨b, o + j, none⟩ _ a (fun e => hne (by rw [show a = b from e]))).trans (hg.block a ha hne)⟩
      clear hR hx hy HG HG2
      go_wp2_with fail
      refine region_tail 19 (by kernel_rfl) (by kernel_rfl) ?_
      simp only [List.take_succ_cons, List.take_zero, List.drop_succ_cons, List.drop_zero]
      repeat still_step
      refine wpStill_nil ?_
      try simp only [hw, hw2, ht]
      go_wp2_with fail
      go_roundw
      case rel => exact ⟨j + 1, by omega, by go_num, HS.out, hgs⟩
      case measure => simp [intOf]; omega
    · obtain rfl : j = n := by omega
      go_wp2_with fail
      go_end0
      exact ⟨rfl, hR, hg⟩
end Go.Proofs.Ytbahejlgfpilnaa
