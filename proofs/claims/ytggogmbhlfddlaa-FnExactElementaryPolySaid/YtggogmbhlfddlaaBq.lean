/-
  LISTS OF POLYNOMIALS in a law: copied. Conditions: as the theorem states.
-/
import Derived.Test.YtggogmbhlfddlaaBpo
import Derived.Test.YtggogmbhlfddlaaMp
namespace Go.Proofs.Ytggogmbhlfddlaa
open Go.RowKit Go.Sort

theorem infoPolyQ : (Try.prog.info? 42).map (fun i => (i.zero, i.size, i.bytes)) = some (some (.agg #[.int .i64 0, .int .i64 0, .slice none 0 0]), 3, 40) := by kernel_rfl
def madeQ (n : Nat) : Array Value := madeCells (Value.agg #[.int .i64 0, .int .i64 0, .slice none 0 0]).cells (n * 3)
theorem madeQ_row (w : World) (n : Nat) (t : TypeId) : (w.alloc (.cells (madeQ n) t)).rowIs w.heap.size t (n * 3) (fun i => (madeQ n).getD i undef) := by
  have hs : (madeQ n).size = n * 3 := by simp [madeQ, madeCells]
  refine ⟨madeQ n, heap_alloc_new w _, hs, fun i hi => ?_⟩
  simp [Array.getD, hs, hi]
/-- A block that holds these terms. -/
def TermB (w : World) (b : Nat) (ts : List Tm) : Prop := ∃ f, w.rowIs b 117 (ts.length * 4) f ∧ rowT ts ts.length f
/-- A slice header of terms. -/
abbrev tv (b : Nat) (ts : List Tm) : Value := .slice (some ⟨b, 0, none⟩) ts.length ts.length
theorem TermB.below {w w' : World} {b : Nat} {ts : List Tm} (h : TermB w b ts) (hb : Below w.heap.size w w') : TermB w' b ts := by
  obtain ⟨f, hr, ht⟩ := h
  exact ⟨f, rowIs_below hr hb hr.lt, ht⟩
theorem TermB.lt {w : World} {b : Nat} {ts : List Tm} (h : TermB w b ts) : b < w.heap.size := by
  obtain ⟨f, hr, _⟩ := h
  exact hr.lt
theorem TermB.block {w w' : World} {b : Nat} {ts : List Tm} (h : TermB w b ts) (hb : w'.heap[b]? = w.heap[b]?) : TermB w' b ts := by
  obtain ⟨f, hr, ht⟩ := h
  exact ⟨f, hr.of_block hb, ht⟩
theorem TermB.slice {w : World} {b : Nat} {ts : List Tm} (h : TermB w b ts) : SliceT w (tv b ts) ts := by
  obtain ⟨f, hr, ht⟩ := h
  exact OwnT.slice (base := 0) ⟨b, f, rfl, Nat.zero_le _, hr, ht⟩
/-- The first k polynomials of a list of the call's own: their terms in blocks B 0 < B 1 < .. behind the list's own block. -/
structure PolsW (w : World) (gb : Nat) (G : List Pm) (k : Nat) (F : Nat → Value) (B : Nat → Nat) : Prop where
  row : w.rowIs gb 42 (G.length * 3) F
  at' : ∀ (q : Nat) (h : q < G.length), q < k → F (q * 3) = .int .i64 G[q].1 ∧ F (q * 3 + 1) = .int .i64 G[q].2.1 ∧ F (q * 3 + 2) = tv (B q) G[q].2.2 ∧ gb < B q ∧ TermB w (B q) G[q].2.2
  asc : ∀ q r, q < r → r < k → B q < B r
theorem PolsW.below {w w' : World} {gb : Nat} {G : List Pm} {k : Nat} {F : Nat → Value} {B : Nat → Nat} (h : PolsW w gb G k F B) (hb : Below w.heap.size w w') : PolsW w' gb G k F B :=
  ⟨rowIs_below h.row hb h.row.lt, fun q hq hk => by
    obtain ⟨a, b, c, d, e⟩ := h.at' q hq hk
    exact ⟨a, b, c, d, e.below hb⟩, h.asc⟩
theorem PolsW.put {w : World} {gb : Nat} {G : List Pm} {k : Nat} {F : Nat → Value} {B : Nat → Nat} (h : PolsW w gb G k F B) (hk : k < G.length) {b : Nat} (hT : TermB w b G[k].2.2) (hg : gb < b) (hB : ∀ q, q < k → B q < b) :
    ∃ F' B', PolsW (((w.setCell ⟨gb, k * 3, none⟩ (.int .i64 G[k].1)).setCell ⟨gb, k * 3 + 1, none⟩ (.int .i64 G[k].2.1)).setCell ⟨gb, k * 3 + 2, none⟩ (tv b G[k].2.2)) gb G (k + 1) F' B' := by
  have hT' : ∀ (b' : Nat) (ts : List Tm), gb < b' → TermB w b' ts → TermB (((w.setCell ⟨gb, k * 3, none⟩ (.int .i64 G[k].1)).setCell ⟨gb, k * 3 + 1, none⟩ (.int .i64 G[k].2.1)).setCell ⟨gb, k * 3 + 2, none⟩ (tv b G[k].2.2)) b' ts := fun b' ts hb' hh => hh.block (by
    rw [Below.heap_setCell _ ⟨gb, k * 3 + 2, none⟩ _ b' (by simp; omega), Below.heap_setCell _ ⟨gb, k * 3 + 1, none⟩ _ b' (by simp; omega), Below.heap_setCell _ ⟨gb, k * 3, none⟩ _ b' (by simp; omega)])
  refine ⟨_, fun q => if q = k then b else B q, ((h.row.set (k * 3) (.int .i64 G[k].1)).set (k * 3 + 1) (.int .i64 G[k].2.1)).set (k * 3 + 2) (tv b G[k].2.2), fun q hq hqk => ?_, fun q r hqr hr => ?_⟩
  · by_cases e : q = k
    · subst e
      refine ⟨?_, ?_, ?_, ?_, ?_⟩
      · simp only [if_neg (show ¬ q * 3 = q * 3 + 2 by omega), if_neg (show ¬ q * 3 = q * 3 + 1 by omega), if_true]
      · simp only [if_neg (show ¬ q * 3 + 1 = q * 3 + 2 by omega), if_true]
      · simp only [if_true]
      · simp only [if_true]; exact hg
      · simp only [if_true]; exact hT' _ _ hg hT
    · obtain ⟨a1, a2, a3, a4, a5⟩ := h.at' q hq (by omega)
      refine ⟨?_, ?_, ?_, ?_, ?_⟩
      · simp only [if_neg (show ¬ q * 3 = k * 3 + 2 by omega), if_neg (show ¬ q * 3 = k * 3 + 1 by omega), if_neg (show ¬ q * 3 = k * 3 by omega)]; exact a1
      · simp only [if_neg (show ¬ q * 3 + 1 = k * 3 + 2 by omega), if_neg (show ¬ q * 3 + 1 = k * 3 + 1 by omega), if_neg (show ¬ q * 3 + 1 = k * 3 by omega)]; exact a2
      · simp only [if_neg (show ¬ q * 3 + 2 = k * 3 + 2 by omega), if_neg (show ¬ q * 3 + 2 = k * 3 + 1 by omega), if_neg (show ¬ q * 3 + 2 = k * 3 by omega), if_neg e]; exact a3
      · simp only [if_neg e]; exact a4
      · simp only [if_neg e]; exact hT' _ _ a4 a5
  · by_cases e : r = k
    · subst e
      simp only [if_true, if_neg (show ¬ q = r by omega)]
      exact hB q hqr
    · simp only [if_neg e, if_neg (show ¬ q = k by omega)]
      exact h.asc q r hqr (by omega)
/-- A list of polynomials of the call's own. -/
def OwnPs (w : World) (base : Nat) (v : Value) (G : List Pm) : Prop :=
  ∃ gb F B, v = .slice (some ⟨gb, 0, none⟩) G.length G.length ∧ base ≤ gb ∧ PolsW w gb G G.length F B
theorem OwnPs.below {w w' : World} {base : Nat} {v : Value} {G : List Pm} (h : OwnPs w base v G) (hb : Below w.heap.size w w') : OwnPs w' base v G := by
  obtain ⟨gb, F, B, hv, hg, hW⟩ := h
  exact ⟨gb, F, B, hv, hg, hW.below hb⟩
theorem OwnPs.slP {w : World} {base : Nat} {v : Value} {G : List Pm} (h : OwnPs w base v G) : SlP w v G := by
  obtain ⟨gb, F, B, hv, hg, hW⟩ := h
  refine ⟨_, _, hv, .inr ⟨gb, 0, rfl, hW.row.lt, fun k hk => ?_⟩⟩
  obtain ⟨a, b, c, d, e⟩ := hW.at' k hk hk
  refine ⟨tv (B k) G[k].2.2, ?_, ?_, ?_, e.slice⟩
  · rw [Nat.zero_add, hW.row.cell (by omega), a]
  · rw [Nat.zero_add, hW.row.cell (by omega), b]
  · rw [Nat.zero_add, hW.row.cell (by omega), c]

set_option maxRecDepth 8000 in
set_option maxHeartbeats 4000000 in
theorem topolys (v : Value) (G : List Pm) (w : World) (hl : G.length ≤ 1048576) (hlr : ∀ g ∈ G, g.2.2.length ≤ 1048576) (hS : SlP w v G) :
    Calls Try.prog 21 #[v] w fun e w' => ∃ v', e = .returned v' ∧ OwnPs w' w.heap.size v' G ∧ Below w.heap.size w w' := by
  obtain ⟨i0, hi, hz0, hz1, hz2⟩ := info_parts infoPolyQ
  obtain ⟨a, cap, rfl, hc⟩ := hS
  have hmk : ∀ w, (Instr.makeSlice 32 (.int .i64 (G.length : Int)) (.int .i64 (G.length : Int))).run Try.prog w = .ok (.slice (some ⟨w.heap.size, 0, none⟩) G.length G.length) (w.alloc (.cells (madeQ G.length) 42)) := fun w => by
    have h := run_make (P := Try.prog) w 32 42 i0 _ Try.underlying32 hi hz0 .i64 .i64 (G.length : Int) (G.length : Int) (by omega) (by omega) (by rw [hz2]; omega) (by omega)
    rw [hz1] at h
    simpa [madeQ, Value.cells] using h
  clear hi hz0 hz1 hz2
  have hr0 := madeQ_row w G.length 42
  have HR0 : Hid (PolsW (w.alloc (.cells (madeQ G.length) 42)) w.heap.size G 0 (fun i => (madeQ G.length).getD i undef) (fun _ => 0)) := Lib.hid ⟨hr0, fun q _ h => by omega, fun q r _ h => by omega⟩
  clear hr0
  go_enter Try.func21, Try.ntmps21
  go_wp2
  go_loopw [4] (fun i wr => ∃ k : Nat, k ≤ G.length ∧ i = .int .i64 k ∧ Below w.heap.size w wr ∧ ∃ F B, PolsW wr w.heap.size G k F B) (fun i _ => G.length - (intOf i).toNat)
  case atStart => exact ⟨0, by omega, rfl, box1 _ _, _, _, HR0.out⟩
  case round =>
    clear HR0 hmk
    obtain ⟨k, hk, rfl, hbel, F, B, hP⟩ := hrel
    by_cases hlt : k < G.length
    · have hlt' : (k : Int) < (G.length : Int) := by omega
      obtain ⟨b, off, rfl, hbb, hT⟩ : ∃ b off, a = some ⟨b, off, none⟩ ∧ b < w.heap.size ∧ PolysW w b off G := by
        rcases hc with rfl | h
        · simp at hlt
        · exact h
      obtain ⟨u, c0, c1, c2, s0⟩ := (hT.below hbel hbb) k hlt
      have HL := Lib.hid (hlr _ (List.getElem_mem hlt))
      go_wp2_with fail
      ((with_reducible refine (toPoly_any _ _ u G[k].2.2 _ HL.out s0).mono ?_); rintro e w3 ⟨v3, rfl, ho, hb3⟩)
      obtain ⟨g, f3, rfl, hg, hr3, hf3⟩ := ho
      have hP3 := hP.below hb3
      have f0 := hP3.row.frozen (k * 3)
      have f1 := hP3.row.frozen (k * 3 + 1)
      have f2 := hP3.row.frozen (k * 3 + 2)
      have d0 := hP3.row.cell (i := k * 3) (by omega)
      have d1 := hP3.row.cell (i := k * 3 + 1) (by omega)
      have d2 := hP3.row.cell (i := k * 3 + 2) (by omega)
      have hbel3 := hbel.trans (hb3.mono hbel.size)
      have hgw := hP.row.lt
      have HPN := Lib.hid (hP3.put hlt ⟨f3, hr3, hf3⟩ (by omega) (fun q hq => Nat.lt_of_lt_of_le (hP.at' q (by omega) hq).2.2.2.2.lt hg))
      have hb4 := ((hbel3.setCell (p := ⟨w.heap.size, k * 3, none⟩) (Nat.le_refl _) (.int .i64 G[k].1)).setCell (p := ⟨w.heap.size, k * 3 + 1, none⟩) (Nat.le_refl _) (.int .i64 G[k].2.1)).setCell (p := ⟨w.heap.size, k * 3 + 2, none⟩) (Nat.le_refl _) (tv g G[k].2.2)
      clear hP hP3 hb3 hr3 hf3 hbel c0 c1 c2 s0
      go_wp2_with fail
      go_roundw
      case rel => exact ⟨k + 1, by omega, by go_num, hb4, HPN.out⟩
      case measure => simp [intOf]; omega
    · obtain rfl : k = G.length := by omega
      go_wp2_with fail
      go_ret
      exact ⟨_, rfl, ⟨w.heap.size, F, B, rfl, Nat.le_refl _, hP⟩, hbel⟩
end Go.Proofs.Ytggogmbhlfddlaa
