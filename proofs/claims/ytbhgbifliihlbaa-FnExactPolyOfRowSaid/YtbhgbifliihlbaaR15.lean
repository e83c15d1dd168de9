/-
  LISTS OF POLYNOMIALS in a law: measured. Conditions: as the theorem states.
  LISTS OF POLYNOMIALS in a law: compared. Conditions: as the theorem states.
  WALKS: marking the terms of a polynomial and reading the marks back. Conditions: as each theorem states.
  WALKS: marking a polynomial whose terms lie in an array of the call's own, and reading the marks back. Conditions: as each theorem states.
  LISTS OF POLYNOMIALS in a law: copied. Conditions: as the theorem states.
  WALKS: 'spec.l05Exponents'. Conditions: as each theorem states.
-/
import Derived.Test.YtbhgbifliihlbaaR06
import Derived.Test.YtbhgbifliihlbaaR02
import Derived.Test.YtbhgbifliihlbaaR14
import Derived.Deep.RegionWith
import Derived.Test.YtbhgbifliihlbaaR10
import Derived.Test.YtbhgbifliihlbaaR11
namespace Go.Proofs.Ytbhgbifliihlbaa
open Go.RowKit Go.Sort

/-- All terms of a list of polynomials. -/
def totP (G : List Pm) : Nat := (G.map (·.2.2.length)).sum
theorem totP_take {G : List Pm} {k : Nat} (h : k < G.length) : totP (G.take (k + 1)) = totP (G.take k) + G[k].2.2.length := by
  unfold totP
  rw [List.take_succ_eq_append_getElem h, List.map_append, List.sum_append]
  simp
theorem totP_le (G : List Pm) (k : Nat) : totP (G.take k) ≤ totP G := by
  have h : totP G = totP (G.take k) + totP (G.drop k) := by
    unfold totP
    rw [← List.sum_append, ← List.map_append, List.take_append_drop]
  omega
theorem totP_of {G : List Pm} {g : Pm} (h : g ∈ G) : g.2.2.length ≤ totP G := by
  obtain ⟨k, hk, rfl⟩ := List.mem_iff_getElem.1 h
  have h1 := totP_take hk
  have h2 := totP_le G (k + 1)
  omega
theorem leftOf_lt {left : Int} {n : Nat} (h : left - n < 0) : leftOf left n = -1 := if_pos h
theorem leftOf_ge {left : Int} {n : Nat} (h : ¬ left - n < 0) : leftOf left n = left - n := if_neg h

set_option maxHeartbeats 2000000 in
theorem szpolys (v : Value) (G : List Pm) (left : Int) (w : World) (h0 : 0 ≤ left) (h1 : left ≤ 1048576) (hl : G.length ≤ 9223372036854775807) (hlr : ∀ g ∈ G, g.2.2.length ≤ 9223372036854775807) (hS : SlP w v G) :
    Calls Try.prog 16 #[v, .int .i64 left] w fun e w' => e = .returned (.int .i64 (leftOf left (G.length + totP G))) ∧ Below w.heap.size w w' := by
  obtain ⟨a, cap, rfl, hc⟩ := hS
  by_cases h : left < G.length
  · have h' : left - (G.length : Int) < 0 := by omega
    go_enter Try.func16, Try.ntmps16
    go_wp2
    go_ret
    exact ⟨by rw [leftOf_lt (by omega)]; rfl, .refl _ _⟩
  · have h' : ¬ left - (G.length : Int) < 0 := by omega
    go_enter Try.func16, Try.ntmps16
    go_wp2
    go_loopw [1, 5] (fun m i wr => ∃ k : Nat, k ≤ G.length ∧ i = .int .i64 k ∧ Below w.heap.size w wr ∧ ∃ q : Int, m = .int .i64 q ∧ q = left - G.length - totP (G.take k) ∧ 0 ≤ q ∧ q ≤ 1048576) (fun _ i _ => G.length - (intOf i).toNat)
    case atStart => exact ⟨0, by omega, rfl, .refl _ _, _, rfl, by simp [totP], by omega, by omega⟩
    case round =>
      obtain ⟨k, hk, rfl, hbel, q, rfl, hq, hq0, hq1⟩ := hrel
      by_cases hlt : k < G.length
      · have hlt' : (k : Int) < (G.length : Int) := by omega
        obtain ⟨b, off, rfl, hbb, hT⟩ : ∃ b off, a = some ⟨b, off, none⟩ ∧ b < w.heap.size ∧ PolysW w b off G := by
          rcases hc with rfl | h
          · simp at hlt
          · exact h
        obtain ⟨u, c0, c1, c2, s0⟩ := (hT.below hbel hbb) k hlt
        have hrl := hlr _ (List.getElem_mem hlt)
        have HT := Lib.hid (totP_take hlt)
        have HL := Lib.hid (totP_le G (k + 1))
        have HQ := Lib.hid hq
        clear hq
        go_wp2_with fail
        ((with_reducible refine (szPoly_any _ _ q u G[k].2.2 _ hrl hq0 hq1 s0).mono ?_); rintro e w1 ⟨rfl, hb1⟩)
        have hbel1 := hbel.trans (hb1.mono hbel.size)
        by_cases hneg : q - G[k].2.2.length < 0
        · rw [leftOf_lt hneg]
          have HN : Hid (left - ((G.length + totP G : Nat) : Int) < 0) := Lib.hid (by
            have h1 := HT.out
            have h2 := HL.out
            have h3 := HQ.out
            omega)
          clear hneg
          go_wp2_with fail
          go_ret
          exact ⟨by rw [leftOf_lt HN.out]; rfl, hbel1⟩
        · rw [leftOf_ge hneg]
          obtain ⟨q2, hq2⟩ : ∃ q2, q - (G[k].2.2.length : Int) = q2 := ⟨_, rfl⟩
          have hq20 : 0 ≤ q2 := by omega
          have hq21 : q2 ≤ 1048576 := by omega
          have hq22 : ¬ q2 < 0 := by omega
          have HN : Hid (q2 = left - G.length - totP (G.take (k + 1))) := Lib.hid (by
            have h1 := HT.out
            have h3 := HQ.out
            omega)
          rw [hq2]
          clear hneg hq2
          go_wp2_with fail
          go_roundw
          case rel => exact ⟨k + 1, by omega, by go_num, hbel1, q2, rfl, HN.out, hq20, hq21⟩
          case measure => simp [intOf]; omega
      · obtain rfl : k = G.length := by omega
        rw [List.take_length] at hq
        have HQ := Lib.hid hq
        clear hq
        go_wp2_with fail
        go_ret
        have h3 := HQ.out
        exact ⟨by rw [leftOf_ge (by omega)]; simp only [Int.natCast_add]; rw [← Int.sub_sub, ← h3]; rfl, hbel⟩
end Go.Proofs.Ytbhgbifliihlbaa
namespace Go.Proofs.Ytbhgbifliihlbaa
open Go.RowKit Go.Sort


end Go.Proofs.Ytbhgbifliihlbaa
namespace Go.Proofs.Ytbhgbifliihlbaa
open Go.RowKit Go.Sort

set_option maxHeartbeats 1000000 in
theorem heldT_any (g n cap : Nat) (k0 : Int) (w : World) (hc : ∀ j, j < n * 4 → w.cell? ⟨g, j, none⟩ = some (markT k0 j)) (hn : n ≤ 1048576) (h0 : 0 ≤ k0) (h1 : k0 ≤ 1000000000) :
    Calls Try.prog 63 #[.slice (some ⟨g, 0, none⟩) n cap, .int .i64 k0] w fun e w' => e = .returned (.int .i64 (k0 + 4 * n)) ∧ w = w' := by
  go_enter Try.func63, Try.ntmps63
  go_wp2
  go_loop [1, 5] (fun m i => ∃ k : Nat, k ≤ n ∧ i = .int .i64 k ∧ m = .int .i64 (k0 + 4 * k)) (fun _ i => n - (intOf i).toNat)
  case atStart => exact ⟨0, by omega, rfl, by simp⟩
  case round =>
    obtain ⟨k, hk, rfl, rfl⟩ := hrel
    by_cases hlt : k < n
    · have hlt' : (k : Int) < (n : Int) := by omega
      go_wp2
      go_loop [1, 6] (fun m i => ∃ t : Nat, t ≤ 3 ∧ i = .int .i64 t ∧ m = .int .i64 (k0 + 4 * k + t)) (fun _ i => 3 - (intOf i).toNat)
      case atStart => exact ⟨0, by omega, rfl, by simp⟩
      case round =>
        obtain ⟨t, ht, rfl, rfl⟩ := hrel
        by_cases hlt2 : t < 3
        · have hlt2' : (t : Int) < 3 := by omega
          have hcell : w.cell? ⟨g, k * 4 + t, none⟩ = some (.int .u8 ((k0 + 4 * ↑k + ↑t) % 256)) := by
            rw [hc _ (by omega)]; unfold markT; rw [if_neg (by omega)]; congr 2; omega
          have hne : ((k0 + 4 * (k : Int) + t) % 256 != (k0 + 4 * (k : Int) + t) % 256) = false := by simp
          go_wp2
          go_round
          case rel => exact ⟨t + 1, by omega, by go_num, by go_num⟩
          case measure => simp [intOf]; omega
        · obtain rfl : t = 3 := by omega
          have hcell : w.cell? ⟨g, k * 4 + 3, none⟩ = some (.int .i64 (k0 + 4 * ↑k + 3)) := by
            rw [hc _ (by omega)]; unfold markT; rw [if_pos (by omega)]; congr 2; omega
          have hne : ((k0 + 4 * (k : Int) + 3) != (k0 + 4 * (k : Int) + 3)) = false := by simp
          go_wp2
          go_round
          case rel => exact ⟨k + 1, by omega, by go_num, by go_num⟩
          case measure => simp [intOf]; omega
    · obtain rfl : k = n := by omega
      go_wp2
      go_ret
      exact ⟨rfl, rfl⟩
end Go.Proofs.Ytbhgbifliihlbaa
namespace Go.Proofs.Ytbhgbifliihlbaa
open Go.RowKit Go.Sort

theorem heldT_zero (a : Option Addr) (c : Nat) (k0 : Int) (w : World) :
    Calls Try.prog 63 #[.slice a 0 c, .int .i64 k0] w fun e w' => e = .returned (.int .i64 k0) ∧ w = w' := by
  go_enter Try.func63, Try.ntmps63
  go_wp2
  refine wp_loop_rounds 1 ?_
  rw [rounds_succ]
  go_wp2
  go_ret
  exact ⟨rfl, rfl⟩

theorem heldS_marks {v : Value} {n : Nat} {k0 : Int} (w : World) (h : MarksT w v n k0) (hn : n ≤ 1048576) (h0 : 0 ≤ k0) (h1 : k0 ≤ 1000000000) :
    Calls Try.prog 63 #[v, .int .i64 k0] w fun e w' => e = .returned (.int .i64 (k0 + 4 * n)) ∧ w = w' := by
  rcases h with ⟨rfl, rfl⟩ | ⟨g, cap, rfl, _, hc⟩
  · exact (heldT_zero none 0 k0 w).mono fun e w' ⟨he, hw⟩ => ⟨by rw [he]; simp, hw⟩
  · exact heldT_any g n cap k0 w hc hn h0 h1

set_option maxHeartbeats 1000000 in
theorem heldPoly_marks {v : Value} {n : Nat} (p d k0 : Int) (w : World) (h : MarksT w v n k0) (hn : n ≤ 1048576) (h0 : 0 ≤ k0) (h1 : k0 ≤ 1000000000) :
    Calls Try.prog 29 #[.agg #[.int .i64 p, .int .i64 d, v], .int .i64 k0] w fun e w' => e = .returned (.int .i64 (k0 + 4 * n)) ∧ Below w.heap.size w w' := by
  have hO : ∀ o, MarksT (w.alloc o) v n k0 := fun o => h.below (box1 _ _)
  obtain ⟨a, m, c, hv⟩ : ∃ a m c, v = .slice a m c := by
    rcases h with ⟨rfl, _⟩ | ⟨g, cap, rfl, _⟩
    · exact ⟨_, _, _, rfl⟩
    · exact ⟨_, _, _, rfl⟩
  subst hv
  have hq : ¬ k0 + 4 * (n : Int) < 0 := by omega
  go_enter Try.func29, Try.ntmps29
  go_wp2_with fail
  ((with_reducible refine (heldS_marks _ (hO _) hn h0 h1).mono ?_); rintro e w1 ⟨rfl, rfl⟩)
  go_wp2
  go_ret
  exact ⟨rfl, box1 _ _⟩
end Go.Proofs.Ytbhgbifliihlbaa
namespace Go.Proofs.Ytbhgbifliihlbaa
open Go.RowKit Go.Sort

theorem infoPolyQ : (Try.prog.info? 40).map (fun i => (i.zero, i.size, i.bytes)) = some (some (.agg #[.int .i64 0, .int .i64 0, .slice none 0 0]), 3, 40) := by kernel_rfl
def madeQ (n : Nat) : Array Value := madeCells (Value.agg #[.int .i64 0, .int .i64 0, .slice none 0 0]).cells (n * 3)
theorem madeQ_row (w : World) (n : Nat) (t : TypeId) : (w.alloc (.cells (madeQ n) t)).rowIs w.heap.size t (n * 3) (fun i => (madeQ n).getD i undef) := by
  have hs : (madeQ n).size = n * 3 := by simp [madeQ, madeCells]
  refine ⟨madeQ n, heap_alloc_new w _, hs, fun i hi => ?_⟩
  simp [Array.getD, hs, hi]
/-- A block that holds these terms. -/
def TermB (w : World) (b : Nat) (ts : List Tm) : Prop := ∃ f, w.rowIs b 115 (ts.length * 4) f ∧ rowT ts ts.length f
/-- A slice header of terms. -/
abbrev tv (b : Nat) (ts : List Tm) : Value := .slice (some ⟨b, 0, none⟩) ts.length ts.length
theorem TermB.below {w w' : World} {b : Nat} {ts : List Tm} (h : TermB w b ts) (hb : Below w.heap.size w w') : TermB w' b ts := by
  obtain ⟨f, hr, ht⟩ := h
  exact ⟨f, rowIs_below hr hb hr.lt, ht⟩
theorem TermB.lt {w : World} {b : Nat} {ts : List Tm} (h : TermB w b ts) : b < w.heap.size := by
  obtain ⟨f, hr, _⟩ := h
  exact hr.lt
theorem TermB.block {w w' : World} {b : Nat} {ts : List Tm} (h : TermB w b ts) (hb : w'.heap[b]? = w.heap[b]?) : TermB w' b ts := by
  obtain ⟨f, hr, ht⟩ := h
  exact ⟨f, hr.of_block hb, ht⟩
theorem TermB.slice {w : World} {b : Nat} {ts : List Tm} (h : TermB w b ts) : SliceT w (tv b ts) ts := by
  obtain ⟨f, hr, ht⟩ := h
  exact OwnT.slice (base := 0) ⟨b, f, rfl, Nat.zero_le _, hr, ht⟩
/-- The first k polynomials of a list of the call's own: their terms in blocks B 0 < B 1 < .. behind the list's own block. -/
structure PolsW (w : World) (gb : Nat) (G : List Pm) (k : Nat) (F : Nat → Value) (B : Nat → Nat) : Prop where
  row : w.rowIs gb 40 (G.length * 3) F
  at' : ∀ (q : Nat) (h : q < G.length), q < k → F (q * 3) = .int .i64 G[q].1 ∧ F (q * 3 + 1) = .int .i64 G[q].2.1 ∧ F (q * 3 + 2) = tv (B q) G[q].2.2 ∧ gb < B q ∧ TermB w (B q) G[q].2.2
  asc : ∀ q r, q < r → r < k → B q < B r
theorem PolsW.below {w w' : World} {gb : Nat} {G : List Pm} {k : Nat} {F : Nat → Value} {B : Nat → Nat} (h : PolsW w gb G k F B) (hb : Below w.heap.size w w') : PolsW w' gb G k F B :=
  ⟨rowIs_below h.row hb h.row.lt, fun q hq hk => by
    obtain ⟨a, b, c, d, e⟩ := h.at' q hq hk
    exact ⟨a, b, c, d, e.below hb⟩, h.asc⟩
theorem PolsW.put {w : World} {gb : Nat} {G : List Pm} {k : Nat} {F : Nat → Value} {B : Nat → Nat} (h : PolsW w gb G k F B) (hk : k < G.length) {b : Nat} (hT : TermB w b G[k].2.2) (hg : gb < b) (hB : ∀ q, q < k → B q < b) :
    ∃ F' B', PolsW (((w.setCell ⟨gb, k * 3, none⟩ (.int .i64 G[k].1)).setCell ⟨gb, k * 3 + 1, none⟩ (.int .i64 G[k].2.1)).setCell ⟨gb, k * 3 + 2, none⟩ (tv b G[k].2.2)) gb G (k + 1) F' B' := by
  have hT' : ∀ (b' : Nat) (ts : List Tm), gb < b' → TermB w b' ts → TermB (((w.setCell ⟨gb, k * 3, none⟩ (.int .i64 G[k].1)).setCell ⟨gb, k * 3 + 1, none⟩ (.int .i64 G[k].2.1)).setCell ⟨gb, k * 3 + 2, none⟩ (tv b G[k].2.2)) b' ts := fun b' ts hb' hh => hh.block (by
    rw [Below.heap_setCell _ ⟨gb, k * 3 + 2, none⟩ _ b' (by simp; omega), Below.heap_setCell _ ⟨gb, k * 3 + 1, none⟩ _ b' (by simp; omega), Below.heap_setCell _ ⟨gb, k * 3, none⟩ _ b' (by simp; omega)])
  refine ⟨_, fun q => if q = k then b else B q, ((h.row.set (k * 3) (.int .i64 G[k].1)).set (k * 3 + 1) (.int .i64 G[k].2.1)).set (k * 3 + 2) (tv b G[k].2.2), fun q hq hqk => ?_, fun q r hqr hr => ?_⟩
  · by_cases e : q = k
    · subst e
      refine ⟨?_, ?_, ?_, ?_, ?_⟩
      · simp only [if_neg (show ¬ q * 3 = q * 3 + 2 by omega), if_neg (show ¬ q * 3 = q * 3 + 1 by omega), if_true]
      · simp only [if_neg (show ¬ q * 3 + 1 = q * 3 + 2 by omega), if_true]
      · simp only [if_true]
      · simp only [if_true]; exact hg
      · simp only [if_true]; exact hT' _ _ hg hT
    · obtain ⟨a1, a2, a3, a4, a5⟩ := h.at' q hq (by omega)
      refine ⟨?_, ?_, ?_, ?_, ?_⟩
      · simp only [if_neg (show ¬ q * 3 = k * 3 + 2 by omega), if_neg (show ¬ q * 3 = k * 3 + 1 by omega), if_neg (show ¬ q * 3 = k * 3 by omega)]; exact a1
      · simp only [if_neg (show ¬ q * 3 + 1 = k * 3 + 2 by omega), if_neg (show ¬ q * 3 + 1 = k * 3 + 1 by omega), if_neg (show ¬ q * 3 + 1 = k * 3 by omega)]; exact a2
      · simp only [if_neg (show ¬ q * 3 + 2 = k * 3 + 2 by omega), if_neg (show ¬ q * 3 + 2 = k * 3 + 1 by omega), if_neg (show ¬ q * 3 + 2 = k * 3 by omega), if_neg e]; exact a3
      · simp only [if_neg e]; exact a4
      · simp only [if_neg e]; exact hT' _ _ a4 a5
  · by_cases e : r = k
    · subst e
      simp only [if_true, if_neg (show ¬ q = r by omega)]
      exact hB q hqr
    · simp only [if_neg e, if_neg (show ¬ q = k by omega)]
      exact h.asc q r hqr (by omega)
/-- A list of polynomials of the call's own. -/
def OwnPs (w : World) (base : Nat) (v : Value) (G : List Pm) : Prop :=
  ∃ gb F B, v = .slice (some ⟨gb, 0, none⟩) G.length G.length ∧ base ≤ gb ∧ PolsW w gb G G.length F B
theorem OwnPs.below {w w' : World} {base : Nat} {v : Value} {G : List Pm} (h : OwnPs w base v G) (hb : Below w.heap.size w w') : OwnPs w' base v G := by
  obtain ⟨gb, F, B, hv, hg, hW⟩ := h
  exact ⟨gb, F, B, hv, hg, hW.below hb⟩
theorem OwnPs.slP {w : World} {base : Nat} {v : Value} {G : List Pm} (h : OwnPs w base v G) : SlP w v G := by
  obtain ⟨gb, F, B, hv, hg, hW⟩ := h
  refine ⟨_, _, hv, .inr ⟨gb, 0, rfl, hW.row.lt, fun k hk => ?_⟩⟩
  obtain ⟨a, b, c, d, e⟩ := hW.at' k hk hk
  refine ⟨tv (B k) G[k].2.2, ?_, ?_, ?_, e.slice⟩
  · rw [Nat.zero_add, hW.row.cell (by omega), a]
  · rw [Nat.zero_add, hW.row.cell (by omega), b]
  · rw [Nat.zero_add, hW.row.cell (by omega), c]

set_option maxRecDepth 8000 in
set_option maxHeartbeats 4000000 in
theorem topolys (v : Value) (G : List Pm) (w : World) (hl : G.length ≤ 1048576) (hlr : ∀ g ∈ G, g.2.2.length ≤ 1048576) (hS : SlP w v G) :
    Calls Try.prog 18 #[v] w fun e w' => ∃ v', e = .returned v' ∧ OwnPs w' w.heap.size v' G ∧ Below w.heap.size w w' := by
  obtain ⟨i0, hi, hz0, hz1, hz2⟩ := info_parts infoPolyQ
  obtain ⟨a, cap, rfl, hc⟩ := hS
  have hmk : ∀ w, (Instr.makeSlice 32 (.int .i64 (G.length : Int)) (.int .i64 (G.length : Int))).run Try.prog w = .ok (.slice (some ⟨w.heap.size, 0, none⟩) G.length G.length) (w.alloc (.cells (madeQ G.length) 40)) := fun w => by
    have h := run_make (P := Try.prog) w 32 40 i0 _ Try.underlying32 hi hz0 .i64 .i64 (G.length : Int) (G.length : Int) (by omega) (by omega) (by rw [hz2]; omega) (by omega)
    rw [hz1] at h
    simpa [madeQ, Value.cells] using h
  clear hi hz0 hz1 hz2
  have hr0 := madeQ_row w G.length 40
  have HR0 : Hid (PolsW (w.alloc (.cells (madeQ G.length) 40)) w.heap.size G 0 (fun i => (madeQ G.length).getD i undef) (fun _ => 0)) := Lib.hid ⟨hr0, fun q _ h => by omega, fun q r _ h => by omega⟩
  clear hr0
  go_enter Try.func18, Try.ntmps18
  go_wp2
  go_loopw [4] (fun i wr => ∃ k : Nat, k ≤ G.length ∧ i = .int .i64 k ∧ Below w.heap.size w wr ∧ ∃ F B, PolsW wr w.heap.size G k F B) (fun i _ => G.length - (intOf i).toNat)
  case atStart => exact ⟨0, by omega, rfl, box1 _ _, _, _, HR0.out⟩
  case round =>
    clear HR0 hmk
    obtain ⟨k, hk, rfl, hbel, F, B, hP⟩ := hrel
    by_cases hlt : k < G.length
    · have hlt' : (k : Int) < (G.length : Int) := by omega
      obtain ⟨b, off, rfl, hbb, hT⟩ : ∃ b off, a = some ⟨b, off, none⟩ ∧ b < w.heap.size ∧ PolysW w b off G := by
        rcases hc with rfl | h
        · simp at hlt
        · exact h
      obtain ⟨u, c0, c1, c2, s0⟩ := (hT.below hbel hbb) k hlt
      have HL := Lib.hid (hlr _ (List.getElem_mem hlt))
      go_wp2_with fail
      ((with_reducible refine (toPoly_any _ _ u G[k].2.2 _ HL.out s0).mono ?_); rintro e w3 ⟨v3, rfl, ho, hb3⟩)
      obtain ⟨g, f3, rfl, hg, hr3, hf3⟩ := ho
      have hP3 := hP.below hb3
      have f0 := hP3.row.frozen (k * 3)
      have f1 := hP3.row.frozen (k * 3 + 1)
      have f2 := hP3.row.frozen (k * 3 + 2)
      have d0 := hP3.row.cell (i := k * 3) (by omega)
      have d1 := hP3.row.cell (i := k * 3 + 1) (by omega)
      have d2 := hP3.row.cell (i := k * 3 + 2) (by omega)
      have hbel3 := hbel.trans (hb3.mono hbel.size)
      have hgw := hP.row.lt
      have HPN := Lib.hid (hP3.put hlt ⟨f3, hr3, hf3⟩ (by omega) (fun q hq => Nat.lt_of_lt_of_le (hP.at' q (by omega) hq).2.2.2.2.lt hg))
      have hb4 := ((hbel3.setCell (p := ⟨w.heap.size, k * 3, none⟩) (Nat.le_refl _) (.int .i64 G[k].1)).setCell (p := ⟨w.heap.size, k * 3 + 1, none⟩) (Nat.le_refl _) (.int .i64 G[k].2.1)).setCell (p := ⟨w.heap.size, k * 3 + 2, none⟩) (Nat.le_refl _) (tv g G[k].2.2)
      clear hP hP3 hb3 hr3 hf3 hbel c0 c1 c2 s0
      go_wp2_with fail
      go_roundw
      case rel => exact ⟨k + 1, by omega, by go_num, hb4, HPN.out⟩
      case measure => simp [intOf]; omega
    · obtain rfl : k = G.length := by omega
      go_wp2_with fail
      go_ret
      exact ⟨_, rfl, ⟨w.heap.size, F, B, rfl, Nat.le_refl _, hP⟩, hbel⟩
end Go.Proofs.Ytbhgbifliihlbaa
namespace Go.Proofs.Ytbhgbifliihlbaa
open Go.RowKit Go.Sort Go.Maps EchM

/-- The degrees of a list. -/
def degsN (G : List Pm) : List Nat := G.map fun g => (degI g.2.2).toNat
/-- A slice that reads as a list of polynomials, with room for it. -/
def SlC (w : World) (v : Value) (G : List Pm) : Prop := ∃ a cap, v = .slice a G.length cap ∧ G.length ≤ cap ∧ SlP w (.slice a G.length cap) G
theorem SlC.slP {w : World} {v : Value} {G : List Pm} (h : SlC w v G) : SlP w v G := by
  obtain ⟨a, cap, rfl, _, h⟩ := h
  exact h
theorem SlC.below {w w' : World} {v : Value} {G : List Pm} (h : SlC w v G) (hb : Below w.heap.size w w') : SlC w' v G := by
  obtain ⟨a, cap, rfl, hc, h⟩ := h
  exact ⟨a, cap, rfl, hc, h.below hb⟩
/-- What the polynomials must be like. -/
def DegOk (g : Pm) : Prop := PmOk g ∧ 1 ≤ degI g.2.2 ∧ degI g.2.2 ≤ 12

/-- A list of polynomials less its first. -/
theorem tailP {w : World} {a : Option Addr} {R cap : Nat} {g : Pm} {r : List Pm} (hR : r.length = R) (hcap : R + 1 ≤ cap) (hS : SlP w (.slice a (R + 1) cap) (g :: r)) :
    ∃ a', (∀ W, (Instr.slice 32 (.slice a (R + 1) cap) (some (.int .i64 1)) none none).run Try.prog W = .ok (.slice a' R (cap - 1)) W) ∧ SlP w (.slice a' R (cap - 1)) r := by
  obtain ⟨i0, hi, hz0, hz1, hz2⟩ := info_parts infoPolyQ
  obtain ⟨b, off, rfl, hbl, hT, _⟩ := SlP.at hS (by simp)
  have ht' : Try.prog.underlying 32 = some (.slice (Try.prog.elem 32)) := by simp [Program.elem, Try.underlying32]
  have he : Try.prog.elem 32 = 40 := by simp [Program.elem, Try.underlying32]
  have hz : ∀ W, (Go.sizeOf 40).run Try.prog W = .ok 3 W := fun W => by simp [sizeOf, typeInfo, hi, hz1]
  have hT' : PolysW w b (off + 3) r := fun k hk => by
    have := hT (k + 1) (by simp; omega)
    rw [show off + (k + 1) * 3 = off + 3 + k * 3 by omega] at this
    simpa using this
  by_cases hck : cap = 1
  · subst hck
    have h0 : R = 0 := by omega
    have hr : r = [] := List.eq_nil_of_length_eq_zero (by omega)
    subst hr
    subst h0
    refine ⟨some ⟨b, off, none⟩, fun W => ?_, ⟨_, _, rfl, .inl rfl⟩⟩
    rw [run_slice_l W 32 _ _ _ ht' .i64 _ (by omega) (by simp), he, hz]
    simp [Result.andThen, sliced]
  · subst hR
    refine ⟨some ⟨b, off + 3, none⟩, fun W => ?_, ⟨_, _, rfl, .inr ⟨b, off + 3, rfl, hbl, hT'⟩⟩⟩
    rw [run_slice_l W 32 _ _ _ ht' .i64 _ (by omega) (by omega), he, hz]
    simp [Result.andThen, sliced, Addr.add, hck]
/-- A list of one empty list. -/
theorem ownR_one (w : World) : OwnR ((w.alloc (.cells #[] 2)).alloc (.cells #[.slice (some ⟨w.heap.size, 0, none⟩) 0 0] 37)) w.heap.size (.slice (some ⟨w.heap.size + 1, 0, none⟩) 1 1) [[]] := by
  have h0 : OwnL (w.alloc (.cells #[] 2)) w.heap.size (.slice (some ⟨w.heap.size, 0, none⟩) 0 0) [] := by simpa [OwnL, valsI] using World.ownsRow_made (base := w.heap.size) (e := 2) (size := 1) w #[] 0 (Nat.le_refl _) (by simp [maxLen]) rfl
  refine ⟨[.slice (some ⟨w.heap.size, 0, none⟩) 0 0], rfl, ⟨by simp, .inr ⟨w.heap.size + 1, 1, #[.slice (some ⟨w.heap.size, 0, none⟩) 0 0], rfl, by omega, ?_, Nat.le_refl _, by unfold maxLen; omega, by first | omega | rfl | simp, rfl⟩⟩, fun k hk hk' => ?_⟩
  · have := heap_alloc_new (w.alloc (.cells #[] 2)) (.cells #[.slice (some ⟨w.heap.size, 0, none⟩) 0 0] 37)
    rwa [World.size_alloc] at this
  · obtain rfl : k = 0 := by simpa using hk
    exact h0.below (box1 _ _)
/-- A list of one number. -/
theorem ownL_one (w : World) (x : Int) : OwnL (w.alloc (.cells #[.int .i64 x] 2)) w.heap.size (.slice (some ⟨w.heap.size, 0, none⟩) 1 1) [x] :=
  ⟨by simp [valsI], .inr ⟨w.heap.size, 1, #[.int .i64 x], rfl, Nat.le_refl _, heap_alloc_new w _, Nat.le_refl _, by unfold maxLen; omega, by first | omega | rfl | simp, rfl⟩⟩
/-- Blocks between two marks are as they were. -/
structure KeepI (lo hi : Nat) (w w' : World) : Prop where
  size : w.heap.size ≤ w'.heap.size
  block : ∀ b, lo ≤ b → b < hi → w'.heap[b]? = w.heap[b]?
theorem KeepI.refl (lo hi : Nat) (w : World) : KeepI lo hi w w := ⟨Nat.le_refl _, fun _ _ _ => rfl⟩
theorem KeepI.below {lo hi : Nat} {w w' w'' : World} (h : KeepI lo hi w w') (hb : Below w'.heap.size w' w'') (hh : hi ≤ w'.heap.size) : KeepI lo hi w w'' :=
  ⟨Nat.le_trans h.size hb.size, fun b h1 h2 => (hb.block b (by omega)).trans (h.block b h1 h2)⟩
theorem KeepI.grown {lo hi : Nat} {w w' w'' : World} {row : Option Nat} (h : KeepI lo hi w w') (hg : w'.grownBy w'' row) (hh : hi ≤ w'.heap.size) (hr : ∀ g, row = some g → g < lo ∨ hi ≤ g) : KeepI lo hi w w'' :=
  ⟨Nat.le_trans h.size hg.size, fun b h1 h2 => (hg.block b (by omega) (fun e => by rcases hr b e.symm with h | h <;> omega)).trans (h.block b h1 h2)⟩

theorem ownL_block {w : World} {base : Nat} {v : Value} {l : List Int} (h : OwnL w base v l) : ∀ g, v.ownBlock = some g → base ≤ g ∧ g < w.heap.size := fun g hg => by
  obtain ⟨_, ⟨rfl, _⟩ | ⟨g', cap, cur, rfl, hb, hh, _⟩⟩ := h
  · simp [Value.ownBlock] at hg
  · simp [Value.ownBlock] at hg
    subst hg
    obtain ⟨hlt, _⟩ := Array.getElem?_eq_some_iff.1 hh
    exact ⟨hb, hlt⟩

set_option maxRecDepth 8000 in
set_option maxHeartbeats 16000000 in
theorem sexps_core (gp gd : Int) (gt : List Tm) (u : Value) (r : List Pm) (R b off cap n d : Nat) (a' : Option Addr) (w : World) (hcap : R + 1 ≤ cap) (hR8 : R ≤ 7) (HRl : Hid (r.length = R)) (hn : n ≤ 12) (hbl : b < w.heap.size)
    (c0 : w.cell? ⟨b, off, none⟩ = some (.int .i64 gp)) (c1 : w.cell? ⟨b, off + 1, none⟩ = some (.int .i64 gd)) (c2 : w.cell? ⟨b, off + 2, none⟩ = some u) (hu : SliceT w u gt) (hgb : ∀ t ∈ gt, tmByte t) (hgl : gt.length ≤ 1048576)
    (hd : degI gt = (d : Int)) (hd1 : 1 ≤ d) (hd12 : d ≤ 12) (HDS : Hid (∀ x ∈ degsN r, 1 ≤ x))
    (HSL : Hid (∀ W, (Instr.slice 32 (.slice (some ⟨b, off, none⟩) (R + 1) cap) (some (.int .i64 1)) none none).run Try.prog W = .ok (.slice a' R (cap - 1)) W)) (HSt0 : Hid (SlP w (.slice a' R (cap - 1)) r))
    (HIH : Hid (∀ (lv : Value) (n : Nat) (w : World), n ≤ 12 → SlC w lv r → Calls Try.prog 50 #[lv, .int .i64 (n : Int)] w fun e w' => ∃ v', e = .returned v' ∧ OwnR w' w.heap.size v' (expL (degsN r) n) ∧ Below w.heap.size w w')) :
    Calls Try.prog 50 #[.slice (some ⟨b, off, none⟩) (R + 1) cap, .int .i64 (n : Int)] w fun e w' => ∃ v', e = .returned v' ∧ OwnR w' w.heap.size v' (expL (d :: degsN r) n) ∧ Below w.heap.size w w' := by
  obtain ⟨i1, hi', hz0', hz1', hz2'⟩ := info_parts einfoR
  have HEX : Hid (expL (d :: degsN r) n = expT (fun k => expL (degsN r) (n - k * d)) (n / d) 0) := Lib.hid (by rw [expL])
  obtain ⟨M, hM⟩ : ∃ M : Nat, 13 ^ 7 = M := ⟨_, rfl⟩
  have HLE : Hid (∀ k, (expL (degsN r) (n - k * d)).length ≤ M) := Lib.hid (fun k => by
    have h1 := expL_len (degsN r) (n - k * d) HDS.out (by omega)
    have h2 : (degsN r).length = R := by rw [← HRl.out]; simp [degsN]
    have h3 : 13 ^ (degsN r).length ≤ 13 ^ 7 := Nat.pow_le_pow_right (by omega) (by omega)
    rw [hM] at h3
    omega)
  obtain ⟨f, hf⟩ : ∃ f : Nat → List (List Int), (fun k => expL (degsN r) (n - k * d)) = f := ⟨_, rfl⟩
  have HFK : Hid (∀ k, expL (degsN r) (n - k * d) = f k) := Lib.hid (fun k => by rw [← hf])
  obtain ⟨K, hK⟩ : ∃ K, n / d = K := ⟨_, rfl⟩
  have hK12 : K ≤ 12 := by rw [← hK]; exact Nat.le_trans (Nat.div_le_self _ _) hn
  have hKd : K * d ≤ n := by rw [← hK]; exact Nat.div_mul_le_self n d
  rw [hf, hK] at HEX
  have HLT : Hid (∀ j, (expT f K j).length ≤ 13 * M) := Lib.hid (fun j => by
    have h1 := expT_len f K M (fun k _ => by rw [← HFK.out k]; exact HLE.out k) (K + 1 - j) j rfl
    have h2 : (K + 1 - j) * M ≤ 13 * M := Nat.mul_le_mul_right M (show K + 1 - j ≤ 13 by omega)
    omega)
  have hM9 : M ≤ 1000000000 := by rw [← hM]; decide
  have HKQ : Hid ((n : Int) / (d : Int) = (K : Int)) := Lib.hid (by rw [← hK]; simp)
  have HDG := Lib.hid (fun w' (h : SliceT w' u gt) => specDegree_any gp gd u gt w' hgl h hgb)
  rw [hd] at HDG
  clear hf hK hd hgb hgl hM HDS
  obtain ⟨W, hW, hbW, hWs, hO0⟩ : ∃ W, W = w.alloc (.cells #[] 37) ∧ Below w.heap.size w W ∧ W.heap.size = w.heap.size + 1 ∧ OwnR W w.heap.size (.slice (some ⟨w.heap.size, 0, none⟩) 0 0) [] := ⟨_, rfl, box1 _ _, by simp, OwnR.nil (Nat.le_refl _) rfl⟩
  have C0 : ∀ o, (w.alloc o).cell? ⟨b, off, none⟩ = some (.int .i64 gp) := fun o => ((box1 w o).cell (p := ⟨b, off, none⟩) hbl).trans c0
  have C1 : ∀ o, (w.alloc o).cell? ⟨b, off + 1, none⟩ = some (.int .i64 gd) := fun o => ((box1 w o).cell (p := ⟨b, off + 1, none⟩) hbl).trans c1
  have C2 : ∀ o, (w.alloc o).cell? ⟨b, off + 2, none⟩ = some u := fun o => ((box1 w o).cell (p := ⟨b, off + 2, none⟩) hbl).trans c2
  have hl0 : ((R : Int) + 1 == 0) = false := by simp; omega
  have hl1 : (0 : Int) < (R : Int) + 1 := by omega
  clear c0 c1 c2
  go_enter Try.func50, Try.ntmps50
  go_wp2_with fail
  rw [← hW]
  clear hW C0 C1 C2
  ((with_reducible refine (HDG.out W (hu.below hbW)).mono ?_); rintro e w1 ⟨rfl, hb1⟩)
  have hbw1 := hbW.trans (hb1.mono hbW.size)
  have hO1 := hO0.below hb1
  clear HDG hO0 hbW hb1 hu
  have hd0 : (d : Int) ≠ 0 := by omega
  have hdv : (n : Int) / (d : Int) = (K : Int) := HKQ.out
  have hdt : (n : Int).tdiv (d : Int) = (K : Int) := by rw [Int.tdiv_eq_ediv_of_nonneg (by omega)]; exact HKQ.out
  go_wp2_with fail
  go_loopw [7, 5] (fun s7 s5 wr => ∃ (j : Nat) (sv : Value), j ≤ K + 1 ∧ s7 = .int .i64 ((j : Int) - 1) ∧ s5 = sv ∧ OwnR wr w.heap.size sv (expT f K j) ∧ Below w.heap.size w wr) (fun s7 _ _ => (intOf s7 + 1).toNat)
  case atStart => exact ⟨K + 1, _, Nat.le_refl _, congrArg (Value.int .i64) (by omega), rfl, by rw [expT_top]; exact hO1, hbw1⟩
  case round =>
    clear hO1 hbw1 hdv hdt
    obtain ⟨j, sv, hj, hi7, hsv, hO, hbr⟩ := hrel
    subst u5
    obtain ⟨oa, oc, rfl⟩ := hO.shape
    cases j with
    | zero =>
      have hi8 : u7 = .int .i64 (-1) := by rw [hi7]; simp
      subst hi8
      have HO : Hid (OwnR wr w.heap.size (.slice oa (expT f K 0).length oc) (expL (d :: degsN r) n)) := Lib.hid (by rw [HEX.out]; exact hO)
      obtain ⟨lo, hlo⟩ : ∃ lo, (expT f K 0).length = lo := ⟨_, rfl⟩
      rw [hlo] at HO ⊢
      clear hO hi7 hlo
      go_wp2_with fail
      go_ret
      exact ⟨_, rfl, HO.out, hbr⟩
    | succ j =>
      have hi8 : u7 = .int .i64 (j : Int) := by rw [hi7]; simp
      subst hi8
      clear hi7
      obtain ⟨q, hq⟩ : ∃ q, n - j * d = q := ⟨_, rfl⟩
      have hjd : j * d ≤ n := Nat.le_trans (Nat.mul_le_mul_right d (show j ≤ K by omega)) hKd
      have hjd2 : ((j * d : Nat) : Int) = (j : Int) * (d : Int) := by simp
      have hq12 : q ≤ 12 := by omega
      have m0 : 0 ≤ (j : Int) * (d : Int) := by omega
      have m1 : (j : Int) * (d : Int) ≤ 12 := by omega
      have HFJ : Hid (expL (degsN r) q = f j) := Lib.hid (by rw [← hq]; exact HFK.out j)
      have hmw : IntKind.i64.wrap ((j : Int) * (d : Int)) = (j : Int) * (d : Int) := IntWalk.i64_in _ (by omega)
      have hqw : (n : Int) - (j : Int) * (d : Int) = (q : Int) := by omega
      obtain ⟨O, hOO⟩ : ∃ O, expT f K (j + 1) = O := ⟨_, rfl⟩
      have HST : Hid (expT f K j = O ++ (f j).map fun r => (j : Int) :: r) := Lib.hid (by rw [expT_step f (show j ≤ K by omega), hOO])
      have HOL : Hid (∀ i, (O ++ ((f j).take i).map fun r => (j : Int) :: r).length ≤ 13 * M) := Lib.hid (fun i => by
        have h1 := HLT.out j
        rw [HST.out, List.length_append, List.length_map] at h1
        rw [List.length_append, List.length_map, List.length_take]
        omega)
      rw [hOO] at hO ⊢
      clear hOO
      have HSt := Lib.hid (show SlC wr (.slice a' R (cap - 1)) r from ⟨a', cap - 1, by rw [HRl.out], by have := HRl.out; omega, by rw [HRl.out]; exact HSt0.out.below hbr⟩)
      have hsl := HSL.out
      obtain ⟨wo, hwo⟩ : ∃ wo : World, wo = wr := ⟨_, rfl⟩
      subst hwo
      clear hq hjd2
      go_wp2_with fail
      ((with_reducible refine (HIH.out _ q wo hq12 HSt.out).mono ?_); rintro e w3 ⟨rv, rfl, hOR, hb3⟩)
      rw [HFJ.out] at hOR
      have hbw3 := hbr.trans (hb3.mono hbr.size)
      have hO3 := hO.below hb3
      have hlo : ∀ gg, (Value.slice oa O.length oc).ownBlock = some gg → gg < wo.heap.size ∨ w3.heap.size ≤ gg := fun gg hgg => by
        obtain ⟨us, _, h2, _⟩ := hO
        exact .inl (World.ownsRow.lt h2 gg hgg).2
      obtain ⟨ra, rc, rfl⟩ := hOR.shape
      obtain ⟨Rf, hRf⟩ : ∃ Rf, f j = Rf := ⟨_, rfl⟩
      rw [hRf] at hOR HST HOL HFJ ⊢
      have hRM : Rf.length ≤ 1000000000 := by
        have h1 := HLE.out j
        rw [HFK.out j, hRf] at h1
        omega
      have HR7 : Hid (∀ x ∈ Rf, x.length ≤ 7) := Lib.hid (fun x hx => by
        rw [← HFJ.out] at hx
        have := expL_row _ _ x hx
        have h2 := HRl.out
        simp [degsN] at this
        omega)
      have HRC := Lib.hid (fun (h : 0 < Rf.length) => hOR.cells h)
      have hos := hbr.size
      have h3s := hb3.size
      clear hRf hO hbr hb3 hOR hsl HSt HFJ m0 m1 hmw hqw
      go_wp2_with fail
      go_loopw [9, 5] (fun s9 s5 wr => ∃ (i : Nat) (sv : Value), i ≤ Rf.length ∧ s9 = .int .i64 i ∧ s5 = sv ∧ OwnR wr w.heap.size sv (O ++ (Rf.take i).map fun r => (j : Int) :: r) ∧ (∀ gg, sv.ownBlock = some gg → gg < wo.heap.size ∨ w3.heap.size ≤ gg) ∧ KeepI wo.heap.size w3.heap.size w3 wr ∧ Below w.heap.size w wr) (fun s9 _ _ => Rf.length - (intOf s9).toNat)
      case atStart => exact ⟨0, _, by omega, rfl, rfl, by simpa using hO3, hlo, KeepI.refl _ _ _, hbw3⟩
      case round =>
        clear hO3 hlo hbw3
        obtain ⟨i, sv, hi, rfl, hsv, hO, hlo, hK, hbr⟩ := hrel
        subst u5
        obtain ⟨oa, oc, rfl⟩ := hO.shape
        have hks := hK.size
        by_cases hlt : i < Rf.length
        · have hlt' : (i : Int) < (Rf.length : Int) := by omega
          obtain ⟨gR, gcap, hgv, hg1, hg2, hcells⟩ := HRC.out (by omega)
          obtain ⟨x, hx, hxo⟩ := hcells i hlt
          simp at hgv
          obtain ⟨rfl, rfl⟩ := hgv
          have hxc : wr.cell? ⟨gR, i, none⟩ = some x := (World.cell?_of_block (a := ⟨gR, i, none⟩) (hK.block gR hg1 hg2)).trans hx
          have hxl : OwnL wr wo.heap.size x Rf[i] := OwnL.of_heap hxo (fun gg hgg => by
            obtain ⟨p1, p2⟩ := ownL_block hxo gg hgg
            exact hK.block gg p1 p2)
          obtain ⟨xa, xc, rfl⟩ := hxl.shape
          have hxs := hxl.slice
          have HX8 : Hid (Rf[i].length ≤ 7) := Lib.hid (HR7.out _ (List.getElem_mem hlt))
          have HTK : Hid ((O ++ (Rf.take i).map fun r => (j : Int) :: r) ++ [(j : Int) :: Rf[i]] = O ++ (Rf.take (i + 1)).map fun r => (j : Int) :: r) := Lib.hid (by
            rw [List.take_succ_eq_append_getElem hlt, List.map_append, List.append_assoc]; rfl)
          have hol := HOL.out i
          obtain ⟨X, hX⟩ : ∃ X, Rf[i] = X := ⟨_, rfl⟩
          obtain ⟨P, hP⟩ : ∃ P, (O ++ (Rf.take i).map fun r => (j : Int) :: r) = P := ⟨_, rfl⟩
          rw [hX] at hxs HX8 HTK
          rw [hP] at hO HTK hol hlo
          rw [hP]
          have hx8 := HX8.out
          have hnew := ownL_one wr (j : Int)
          have hXs1 := hxs.below (box1 wr (.cells #[.int .i64 (j : Int)] 2))
          have hXC : ∀ o, (wr.alloc o).cell? ⟨gR, i, none⟩ = some (.slice xa X.length xc) := fun o => by
            rw [← hX]
            exact ((box1 wr o).cell (p := ⟨gR, i, none⟩) (by show gR < wr.heap.size; omega)).trans hxc
          clear hX hP hxo hxl hx hxc hcells
          go_wp2_with (at_builtin; refine wpList_append_ints _ rfl _ _ rfl wr.heap.size (.slice (some ⟨wr.heap.size, 0, none⟩) 1 1) [(j : Int)] rfl hnew (.slice xa X.length xc) X rfl hXs1 (by simp <;> omega) (by simp) ?_)
          intro v3 w4 hO4 hg4
          have hb4 : Below wr.heap.size wr w4 := (box1 wr _).grown hg4 (by simp) (fun q hq => by simp [Value.ownBlock] at hq; omega)
          have h4s := hb4.size
          have hOw := hO.below hb4
          have hK4 := hK.below hb4 (by omega)
          have hbr4 := hbr.trans (hb4.mono hbr.size)
          obtain ⟨us0, x1, x2, x3⟩ := hOw
          obtain ⟨Y, hY⟩ : ∃ Y, (j : Int) :: X = Y := ⟨_, rfl⟩
          have HY : Hid ((j : Int) :: X = Y) := Lib.hid hY
          have hO4 : OwnL w4 wr.heap.size v3 ((j : Int) :: X) := hO4
          rw [hY] at hO4
          rw [HY.out] at HTK
          obtain ⟨va, vc, rfl⟩ := hO4.shape
          have hb4s := hbr4.size
          clear hnew hXs1 hXC hg4 hxs hO hY
          go_wp2_with (at_builtin; refine wpList_append_lies _ rfl _ _ 22 rfl w.heap.size 37 i1 _ 1 24 Try.underlying22 hi' hz0' hz1' hz2' rfl (by decide) (.slice oa P.length oc) P.length us0 rfl (World.ownsRow.alloc x2 _) ⟨w4.heap.size, 0, none⟩ 1 1 [.slice va Y.length vc] rfl rfl (World.news_of_block (cs := #[.slice va Y.length vc]) (t := 37) (fr := (0, 0)) (heap_alloc_new w4 _)) (by simp [Value.oneCell']) (by omega) (by unfold maxLen; omega) (by omega) (by simp; omega) _ rfl ?_)
          intro g6 cap6 w6 hown6 hgrow6 hat6 hlt6
          have hB6 : Below w.heap.size w w6 := (hbr4.alloc hbr4.size _).grown hgrow6 (by simp; omega) (fun q hq => (World.ownsRow.lt x2 q hq).1)
          have hN6 : OwnR w6 w.heap.size (.slice (some ⟨g6, 0, none⟩) (P.length + 1) cap6) (P ++ [Y]) := OwnR.push x1 (World.ownsRow.alloc x2 _) (fun k hk hk' => (x3 k hk hk').below (box1 w4 _)) ((hO4.mono hbr.size).below (box1 w4 _)) hown6 hgrow6
          have hK6 : KeepI wo.heap.size w3.heap.size w3 w6 := (hK4.below (box1 w4 (.cells #[.slice va Y.length vc] 37)) (by omega)).grown hgrow6 (by simp; omega) (fun gg hgg => hlo gg hgg)
          have hlo6 : ∀ gg, (Value.slice (some ⟨g6, 0, none⟩) (P.length + 1) cap6).ownBlock = some gg → gg < wo.heap.size ∨ w3.heap.size ≤ gg := fun gg hgg => by
            simp [Value.ownBlock] at hgg
            subst hgg
            rcases hat6 with h | h
            · exact hlo _ h
            · right
              have h9 : g6 = w4.heap.size + 1 := by simpa using h
              omega
          clear x1 x2 x3 hown6 hgrow6 hat6 hO4 hlo hK hK4
          go_wp2_with fail
          go_roundw
          case rel => exact ⟨i + 1, _, by omega, by go_num, rfl, by rw [← HTK.out]; exact hN6, hlo6, hK6, hB6⟩
          case measure => simp [intOf]; omega
        · obtain rfl : i = Rf.length := by omega
          rw [List.take_length] at hO ⊢
          have HO : Hid (OwnR wr w.heap.size (.slice oa (expT f K j).length oc) (expT f K j)) := Lib.hid (by rw [HST.out]; exact hO)
          have HLN : Hid ((O ++ Rf.map fun r => (j : Int) :: r).length = (expT f K j).length) := Lib.hid (by rw [HST.out])
          rw [HLN.out]
          clear hO hK hlo
          go_wp2_with fail
          go_roundw
          case rel => exact ⟨j, _, by omega, by first | rfl | (congr 1), rfl, HO.out, hbr⟩
          case measure => first | (simp [intOf]; done) | (simp [intOf]; omega)

theorem sexps_cons (g : Pm) (r : List Pm) (lv : Value) (n : Nat) (w : World) (h8 : (g :: r).length ≤ 8) (hn : n ≤ 12) (hok : ∀ x ∈ g :: r, DegOk x) (hS : SlC w lv (g :: r))
    (IH : ∀ (lv : Value) (n : Nat) (w : World), n ≤ 12 → SlC w lv r → Calls Try.prog 50 #[lv, .int .i64 (n : Int)] w fun e w' => ∃ v', e = .returned v' ∧ OwnR w' w.heap.size v' (expL (degsN r) n) ∧ Below w.heap.size w w') :
    Calls Try.prog 50 #[lv, .int .i64 (n : Int)] w fun e w' => ∃ v', e = .returned v' ∧ OwnR w' w.heap.size v' (expL (degsN (g :: r)) n) ∧ Below w.heap.size w w' := by
  obtain ⟨a, cap, rfl, hcap, hSP⟩ := hS
  obtain ⟨b, off, rfl, hbl, hT, _⟩ := SlP.at hSP (by simp)
  obtain ⟨u, c0, c1, c2, hu⟩ := hT 0 (by simp)
  simp only [List.getElem_cons_zero, Nat.zero_mul, Nat.add_zero] at c0 c1 c2 hu
  have hcap' : r.length + 1 ≤ cap := by simpa using hcap
  obtain ⟨a', hsl, hSt⟩ := tailP (R := r.length) rfl hcap' hSP
  have hg := hok g (by simp)
  have hd : degI g.2.2 = (((degI g.2.2).toNat : Nat) : Int) := by have := hg.2.1; omega
  exact sexps_core g.1 g.2.1 g.2.2 u r r.length b off cap n (degI g.2.2).toNat a' w hcap' (by simp at h8; omega) (Lib.hid rfl) hn hbl c0 c1 c2 hu hg.1.1 hg.1.2 hd (by have := hg.2.1; omega) (by have := hg.2.2; omega)
    (Lib.hid fun x hx => by
      obtain ⟨y, hy, rfl⟩ := List.mem_map.1 hx
      have := (hok y (by simp [hy])).2.1
      omega) (Lib.hid hsl) (Lib.hid hSt) (Lib.hid IH)

set_option maxRecDepth 8000 in
set_option maxHeartbeats 4000000 in
theorem sexps : ∀ (G : List Pm) (lv : Value) (n : Nat) (w : World), G.length ≤ 8 → n ≤ 12 → (∀ x ∈ G, DegOk x) → SlC w lv G →
    Calls Try.prog 50 #[lv, .int .i64 (n : Int)] w fun e w' => ∃ v', e = .returned v' ∧ OwnR w' w.heap.size v' (expL (degsN G) n) ∧ Below w.heap.size w w' := by
  intro G
  induction G with
  | nil =>
    intro lv n w _ hn _ hS
    obtain ⟨a, cap, rfl, _, _⟩ := hS
    by_cases h0 : n = 0
    · subst h0
      have HO := Lib.hid (ownR_one w)
      go_enter Try.func50, Try.ntmps50
      go_wp2_with fail
      go_ret
      exact ⟨_, rfl, HO.out, box2 _ _ _⟩
    · have h0' : ((n : Int) == 0) = false := by simp; omega
      have HO : Hid (OwnR (w.alloc (.cells #[] 37)) w.heap.size (.slice (some ⟨w.heap.size, 0, none⟩) 0 0) (expL (degsN []) n)) := Lib.hid (by
        have e : expL (degsN []) n = [] := by simp [degsN, expL, h0]
        rw [e]
        exact OwnR.nil (Nat.le_refl _) rfl)
      clear h0
      go_enter Try.func50, Try.ntmps50
      go_wp2_with fail
      go_ret
      exact ⟨_, rfl, HO.out, box1 _ _⟩
  | cons g r ih =>
    intro lv n w h8 hn hok hS
    exact sexps_cons g r lv n w h8 hn hok hS fun lv' n' w' h1 h2 => ih lv' n' w' (by simp at h8; omega) h1 (fun x hx => hok x (by simp [hx])) h2
end Go.Proofs.Ytbhgbifliihlbaa
