/-
  LISTS OF POLYNOMIALS in a law: copied. Conditions: as the theorem states.
  EXPONENTS of products, in plain mathematics: the lists. Conditions: as each theorem states.
  PLAIN facts for 'spec.l05Exponents', 'impl.factorsOf': lists of polynomials as they are walked.. Conditions: as each theorem states.
  LISTS: the first that fails a test; the first polynomial of a list. Conditions: as each theorem states.
  PRODUCTS OF POLYNOMIALS, in plain mathematics. Conditions: as each theorem states.
  THE ALGEBRA OF PRODUCTS, in plain mathematics: they do not depend on the order; a number goes out of a product. Conditions: as each theorem states.
-/
import Derived.Test.YtphgpadpffigjaaPe01
import Derived.Test.YtphgpadpffigjaaEm
import Derived.Test.YtphgpadpffigjaaLa
import Derived.Test.YtphgpadpffigjaaLs2
import Derived.Test.YtphgpadpffigjaaVl
import Derived.Test.YtphgpadpffigjaaIsp
namespace Go.Proofs.Ytphgpadpffigjaa
open Go.RowKit Go.Sort

theorem infoPolyQ : (Try.prog.info? 36).map (fun i => (i.zero, i.size, i.bytes)) = some (some (.agg #[.int .i64 0, .int .i64 0, .slice none 0 0]), 3, 40) := by kernel_rfl
def madeQ (n : Nat) : Array Value := madeCells (Value.agg #[.int .i64 0, .int .i64 0, .slice none 0 0]).cells (n * 3)
theorem madeQ_row (w : World) (n : Nat) (t : TypeId) : (w.alloc (.cells (madeQ n) t)).rowIs w.heap.size t (n * 3) (fun i => (madeQ n).getD i undef) := by
  have hs : (madeQ n).size = n * 3 := by simp [madeQ, madeCells]
  refine ⟨madeQ n, heap_alloc_new w _, hs, fun i hi => ?_⟩
  simp [Array.getD, hs, hi]
/-- A block that holds these terms. -/
def TermB (w : World) (b : Nat) (ts : List Tm) : Prop := ∃ f, w.rowIs b 92 (ts.length * 4) f ∧ rowT ts ts.length f
/-- A slice header of terms. -/
abbrev tv (b : Nat) (ts : List Tm) : Value := .slice (some ⟨b, 0, none⟩) ts.length ts.length
theorem TermB.below {w w' : World} {b : Nat} {ts : List Tm} (h : TermB w b ts) (hb : Below w.heap.size w w') : TermB w' b ts := by
  obtain ⟨f, hr, ht⟩ := h
  exact ⟨f, rowIs_below hr hb hr.lt, ht⟩
theorem TermB.lt {w : World} {b : Nat} {ts : List Tm} (h : TermB w b ts) : b < w.heap.size := by
  obtain ⟨f, hr, _⟩ := h
  exact hr.lt
theorem TermB.block {w w' : World} {b : Nat} {ts : List Tm} (h : TermB w b ts) (hb : w'.heap[b]? = w.heap[b]?) : TermB w' b ts := by
  obtain ⟨f, hr, ht⟩ := h
  exact ⟨f, hr.of_block hb, ht⟩
theorem TermB.slice {w : World} {b : Nat} {ts : List Tm} (h : TermB w b ts) : SliceT w (tv b ts) ts := by
  obtain ⟨f, hr, ht⟩ := h
  exact OwnT.slice (base := 0) ⟨b, f, rfl, Nat.zero_le _, hr, ht⟩
/-- The first k polynomials of a list of the call's own: their terms in blocks B 0 < B 1 < .. behind the list's own block. -/
structure PolsW (w : World) (gb : Nat) (G : List Pm) (k : Nat) (F : Nat → Value) (B : Nat → Nat) : Prop where
  row : w.rowIs gb 36 (G.length * 3) F
  at' : ∀ (q : Nat) (h : q < G.length), q < k → F (q * 3) = .int .i64 G[q].1 ∧ F (q * 3 + 1) = .int .i64 G[q].2.1 ∧ F (q * 3 + 2) = tv (B q) G[q].2.2 ∧ gb < B q ∧ TermB w (B q) G[q].2.2
  asc : ∀ q r, q < r → r < k → B q < B r
theorem PolsW.below {w w' : World} {gb : Nat} {G : List Pm} {k : Nat} {F : Nat → Value} {B : Nat → Nat} (h : PolsW w gb G k F B) (hb : Below w.heap.size w w') : PolsW w' gb G k F B :=
  ⟨rowIs_below h.row hb h.row.lt, fun q hq hk => by
    obtain ⟨a, b, c, d, e⟩ := h.at' q hq hk
    exact ⟨a, b, c, d, e.below hb⟩, h.asc⟩
theorem PolsW.put {w : World} {gb : Nat} {G : List Pm} {k : Nat} {F : Nat → Value} {B : Nat → Nat} (h : PolsW w gb G k F B) (hk : k < G.length) {b : Nat} (hT : TermB w b G[k].2.2) (hg : gb < b) (hB : ∀ q, q < k → B q < b) :
    ∃ F' B', PolsW (((w.setCell ⟨gb, k * 3, none⟩ (.int .i64 G[k].1)).setCell ⟨gb, k * 3 + 1, none⟩ (.int .i64 G[k].2.1)).setCell ⟨gb, k * 3 + 2, none⟩ (tv b G[k].2.2)) gb G (k + 1) F' B' := by
  have hT' : ∀ (b' : Nat) (ts : List Tm), gb < b' → TermB w b' ts → TermB (((w.setCell ⟨gb, k * 3, none⟩ (.int .i64 G[k].1)).setCell ⟨gb, k * 3 + 1, none⟩ (.int .i64 G[k].2.1)).setCell ⟨gb, k * 3 + 2, none⟩ (tv b G[k].2.2)) b' ts := fun b' ts hb' hh => hh.block (by
    rw [Below.heap_setCell _ ⟨gb, k * 3 + 2, none⟩ _ b' (by simp; omega), Below.heap_setCell _ ⟨gb, k * 3 + 1, none⟩ _ b' (by simp; omega), Below.heap_setCell _ ⟨gb, k * 3, none⟩ _ b' (by simp; omega)])
  refine ⟨_, fun q => if q = k then b else B q, ((h.row.set (k * 3) (.int .i64 G[k].1)).set (k * 3 + 1) (.int .i64 G[k].2.1)).set (k * 3 + 2) (tv b G[k].2.2), fun q hq hqk => ?_, fun q r hqr hr => ?_⟩
  · by_cases e : q = k
    · subst e
      refine ⟨?_, ?_, ?_, ?_, ?_⟩
      · simp only [if_neg (show ¬ q * 3 = q * 3 + 2 by omega), if_neg (show ¬ q * 3 = q * 3 + 1 by omega), if_true]
      · simp only [if_neg (show ¬ q * 3 + 1 = q * 3 + 2 by omega), if_true]
      · simp only [if_true]
      · simp only [if_true]; exact hg
      · simp only [if_true]; exact hT' _ _ hg hT
    · obtain ⟨a1, a2, a3, a4, a5⟩ := h.at' q hq (by omega)
      refine ⟨?_, ?_, ?_, ?_, ?_⟩
      · simp only [if_neg (show ¬ q * 3 = k * 3 + 2 by omega), if_neg (show ¬ q * 3 = k * 3 + 1 by omega), if_neg (show ¬ q * 3 = k * 3 by omega)]; exact a1
      · simp only [if_neg (show ¬ q * 3 + 1 = k * 3 + 2 by omega), if_neg (show ¬ q * 3 + 1 = k * 3 + 1 by omega), if_neg (show ¬ q * 3 + 1 = k * 3 by omega)]; exact a2
      · simp only [if_neg (show ¬ q * 3 + 2 = k * 3 + 2 by omega), if_neg (show ¬ q * 3 + 2 = k * 3 + 1 by omega), if_neg (show ¬ q * 3 + 2 = k * 3 by omega), if_neg e]; exact a3
      · simp only [if_neg e]; exact a4
      · simp only [if_neg e]; exact hT' _ _ a4 a5
  · by_cases e : r = k
    · subst e
      simp only [if_true, if_neg (show ¬ q = r by omega)]
      exact hB q hqr
    · simp only [if_neg e, if_neg (show ¬ q = k by omega)]
      exact h.asc q r hqr (by omega)
/-- A list of polynomials of the call's own. -/
def OwnPs (w : World) (base : Nat) (v : Value) (G : List Pm) : Prop :=
  ∃ gb F B, v = .slice (some ⟨gb, 0, none⟩) G.length G.length ∧ base ≤ gb ∧ PolsW w gb G G.length F B
theorem OwnPs.below {w w' : World} {base : Nat} {v : Value} {G : List Pm} (h : OwnPs w base v G) (hb : Below w.heap.size w w') : OwnPs w' base v G := by
  obtain ⟨gb, F, B, hv, hg, hW⟩ := h
  exact ⟨gb, F, B, hv, hg, hW.below hb⟩
theorem OwnPs.slP {w : World} {base : Nat} {v : Value} {G : List Pm} (h : OwnPs w base v G) : SlP w v G := by
  obtain ⟨gb, F, B, hv, hg, hW⟩ := h
  refine ⟨_, _, hv, .inr ⟨gb, 0, rfl, hW.row.lt, fun k hk => ?_⟩⟩
  obtain ⟨a, b, c, d, e⟩ := hW.at' k hk hk
  refine ⟨tv (B k) G[k].2.2, ?_, ?_, ?_, e.slice⟩
  · rw [Nat.zero_add, hW.row.cell (by omega), a]
  · rw [Nat.zero_add, hW.row.cell (by omega), b]
  · rw [Nat.zero_add, hW.row.cell (by omega), c]

set_option maxRecDepth 8000 in
set_option maxHeartbeats 4000000 in
theorem topolys (v : Value) (G : List Pm) (w : World) (hl : G.length ≤ 1048576) (hlr : ∀ g ∈ G, g.2.2.length ≤ 1048576) (hS : SlP w v G) :
    Calls Try.prog 11 #[v] w fun e w' => ∃ v', e = .returned v' ∧ OwnPs w' w.heap.size v' G ∧ Below w.heap.size w w' := by
  obtain ⟨i0, hi, hz0, hz1, hz2⟩ := info_parts infoPolyQ
  obtain ⟨a, cap, rfl, hc⟩ := hS
  have hmk : ∀ w, (Instr.makeSlice 27 (.int .i64 (G.length : Int)) (.int .i64 (G.length : Int))).run Try.prog w = .ok (.slice (some ⟨w.heap.size, 0, none⟩) G.length G.length) (w.alloc (.cells (madeQ G.length) 36)) := fun w => by
    have h := run_make (P := Try.prog) w 27 36 i0 _ Try.underlying27 hi hz0 .i64 .i64 (G.length : Int) (G.length : Int) (by omega) (by omega) (by rw [hz2]; omega) (by omega)
    rw [hz1] at h
    simpa [madeQ, Value.cells] using h
  clear hi hz0 hz1 hz2
  have hr0 := madeQ_row w G.length 36
  have HR0 : Hid (PolsW (w.alloc (.cells (madeQ G.length) 36)) w.heap.size G 0 (fun i => (madeQ G.length).getD i undef) (fun _ => 0)) := Lib.hid ⟨hr0, fun q _ h => by omega, fun q r _ h => by omega⟩
  clear hr0
  go_enter Try.func11, Try.ntmps11
  go_wp2
  go_loopw [4] (fun i wr => ∃ k : Nat, k ≤ G.length ∧ i = .int .i64 k ∧ Below w.heap.size w wr ∧ ∃ F B, PolsW wr w.heap.size G k F B) (fun i _ => G.length - (intOf i).toNat)
  case atStart => exact ⟨0, by omega, rfl, box1 _ _, _, _, HR0.out⟩
  case round =>
    clear HR0 hmk
    obtain ⟨k, hk, rfl, hbel, F, B, hP⟩ := hrel
    by_cases hlt : k < G.length
    · have hlt' : (k : Int) < (G.length : Int) := by omega
      obtain ⟨b, off, rfl, hbb, hT⟩ : ∃ b off, a = some ⟨b, off, none⟩ ∧ b < w.heap.size ∧ PolysW w b off G := by
        rcases hc with rfl | h
        · simp at hlt
        · exact h
      obtain ⟨u, c0, c1, c2, s0⟩ := (hT.below hbel hbb) k hlt
      have HL := Lib.hid (hlr _ (List.getElem_mem hlt))
      go_wp2_with fail
      ((with_reducible refine (toPoly_any _ _ u G[k].2.2 _ HL.out s0).mono ?_); rintro e w3 ⟨v3, rfl, ho, hb3⟩)
      obtain ⟨g, f3, rfl, hg, hr3, hf3⟩ := ho
      have hP3 := hP.below hb3
      have f0 := hP3.row.frozen (k * 3)
      have f1 := hP3.row.frozen (k * 3 + 1)
      have f2 := hP3.row.frozen (k * 3 + 2)
      have d0 := hP3.row.cell (i := k * 3) (by omega)
      have d1 := hP3.row.cell (i := k * 3 + 1) (by omega)
      have d2 := hP3.row.cell (i := k * 3 + 2) (by omega)
      have hbel3 := hbel.trans (hb3.mono hbel.size)
      have hgw := hP.row.lt
      have HPN := Lib.hid (hP3.put hlt ⟨f3, hr3, hf3⟩ (by omega) (fun q hq => Nat.lt_of_lt_of_le (hP.at' q (by omega) hq).2.2.2.2.lt hg))
      have hb4 := ((hbel3.setCell (p := ⟨w.heap.size, k * 3, none⟩) (Nat.le_refl _) (.int .i64 G[k].1)).setCell (p := ⟨w.heap.size, k * 3 + 1, none⟩) (Nat.le_refl _) (.int .i64 G[k].2.1)).setCell (p := ⟨w.heap.size, k * 3 + 2, none⟩) (Nat.le_refl _) (tv g G[k].2.2)
      clear hP hP3 hb3 hr3 hf3 hbel c0 c1 c2 s0
      go_wp2_with fail
      go_roundw
      case rel => exact ⟨k + 1, by omega, by go_num, hb4, HPN.out⟩
      case measure => simp [intOf]; omega
    · obtain rfl : k = G.length := by omega
      go_wp2_with fail
      go_ret
      exact ⟨_, rfl, ⟨w.heap.size, F, B, rfl, Nat.le_refl _, hP⟩, hbel⟩
end Go.Proofs.Ytphgpadpffigjaa
namespace Go.Proofs.Ytphgpadpffigjaa

/-- What stands for the numbers from K down to j. -/
def expT (f : Nat → List (List Int)) (K j : Nat) : List (List Int) := (List.range (K + 1 - j)).flatMap fun i => (f (K - i)).map fun r => ((K - i : Nat) : Int) :: r
theorem expT_top (f : Nat → List (List Int)) (K : Nat) : expT f K (K + 1) = [] := by simp [expT]
theorem expT_step (f : Nat → List (List Int)) {K j : Nat} (h : j ≤ K) : expT f K j = expT f K (j + 1) ++ (f j).map fun r => (j : Int) :: r := by
  have e : K + 1 - j = (K + 1 - (j + 1)) + 1 := by omega
  have e2 : K - (K + 1 - (j + 1)) = j := by omega
  rw [expT, e, List.range_succ, List.flatMap_append, expT]
  simp only [List.flatMap_cons, List.flatMap_nil, List.append_nil, e2]
/-- The lists of exponents for the degree n, in their order. -/
def expL : List Nat → Nat → List (List Int)
  | [], n => if n = 0 then [[]] else []
  | d :: r, n => expT (fun k => expL r (n - k * d)) (n / d) 0
theorem expT_len (f : Nat → List (List Int)) (K M : Nat) (hM : ∀ k, k ≤ K → (f k).length ≤ M) : ∀ t j, K + 1 - j = t → (expT f K j).length ≤ t * M
  | 0, j, h => by
    rw [expT, h]
    simp
  | t + 1, j, h => by
    rw [expT_step f (show j ≤ K by omega), List.length_append, List.length_map]
    have h1 := expT_len f K M hM t (j + 1) (by omega)
    have h2 := hM j (by omega)
    rw [Nat.add_mul]
    omega
theorem expL_len : ∀ (ds : List Nat) (n : Nat), (∀ d ∈ ds, 1 ≤ d) → n ≤ 12 → (expL ds n).length ≤ 13 ^ ds.length
  | [], n, _, _ => by
    rw [expL]
    split <;> simp
  | d :: r, n, hd, hn => by
    rw [expL]
    have h1 := expT_len (fun k => expL r (n - k * d)) (n / d) (13 ^ r.length) (fun k _ => expL_len r _ (fun x hx => hd x (by simp [hx])) (by omega)) (n / d + 1 - 0) 0 rfl
    have h2 : n / d ≤ n := Nat.div_le_self _ _
    have h3 : (n / d + 1 - 0) * 13 ^ r.length ≤ 13 * 13 ^ r.length := Nat.mul_le_mul_right _ (by omega)
    rw [List.length_cons, Nat.pow_succ, Nat.mul_comm]
    exact Nat.le_trans h1 h3
/-- Each has a number for each degree. -/
theorem expL_row : ∀ (ds : List Nat) (n : Nat), ∀ r ∈ expL ds n, r.length = ds.length
  | [], n, r, h => by
    rw [expL] at h
    split at h
    · simp at h; rw [h]; rfl
    · simp at h
  | d :: ds, n, r, h => by
    rw [expL, expT, List.mem_flatMap] at h
    obtain ⟨i, _, h⟩ := h
    obtain ⟨r', hr, rfl⟩ := List.mem_map.1 h
    have := expL_row ds _ r' hr
    simp [this]
end Go.Proofs.Ytphgpadpffigjaa
namespace Go.Proofs.Ytphgpadpffigjaa
open Go.RowKit Go.Sort Go.Maps EchM

/-- The degrees of a list. -/
def degsN (G : List Pm) : List Nat := G.map fun g => (degI g.2.2).toNat
/-- A slice that reads as a list of polynomials, with room for it. -/
def SlC (w : World) (v : Value) (G : List Pm) : Prop := ∃ a cap, v = .slice a G.length cap ∧ G.length ≤ cap ∧ SlP w (.slice a G.length cap) G
theorem SlC.slP {w : World} {v : Value} {G : List Pm} (h : SlC w v G) : SlP w v G := by
  obtain ⟨a, cap, rfl, _, h⟩ := h
  exact h
theorem SlC.below {w w' : World} {v : Value} {G : List Pm} (h : SlC w v G) (hb : Below w.heap.size w w') : SlC w' v G := by
  obtain ⟨a, cap, rfl, hc, h⟩ := h
  exact ⟨a, cap, rfl, hc, h.below hb⟩
/-- What the polynomials must be like. -/
def DegOk (g : Pm) : Prop := PmOk g ∧ 1 ≤ degI g.2.2 ∧ degI g.2.2 ≤ 12

/-- A list of polynomials less its first. -/
theorem tailP {w : World} {a : Option Addr} {R cap : Nat} {g : Pm} {r : List Pm} (hR : r.length = R) (hcap : R + 1 ≤ cap) (hS : SlP w (.slice a (R + 1) cap) (g :: r)) :
    ∃ a', (∀ W, (Instr.slice 27 (.slice a (R + 1) cap) (some (.int .i64 1)) none none).run Try.prog W = .ok (.slice a' R (cap - 1)) W) ∧ SlP w (.slice a' R (cap - 1)) r := by
  obtain ⟨i0, hi, hz0, hz1, hz2⟩ := info_parts infoPolyQ
  obtain ⟨b, off, rfl, hbl, hT, _⟩ := SlP.at hS (by simp)
  have ht' : Try.prog.underlying 27 = some (.slice (Try.prog.elem 27)) := by simp [Program.elem, Try.underlying27]
  have he : Try.prog.elem 27 = 36 := by simp [Program.elem, Try.underlying27]
  have hz : ∀ W, (Go.sizeOf 36).run Try.prog W = .ok 3 W := fun W => by simp [sizeOf, typeInfo, hi, hz1]
  have hT' : PolysW w b (off + 3) r := fun k hk => by
    have := hT (k + 1) (by simp; omega)
    rw [show off + (k + 1) * 3 = off + 3 + k * 3 by omega] at this
    simpa using this
  by_cases hck : cap = 1
  · subst hck
    have h0 : R = 0 := by omega
    have hr : r = [] := List.eq_nil_of_length_eq_zero (by omega)
    subst hr
    subst h0
    refine ⟨some ⟨b, off, none⟩, fun W => ?_, ⟨_, _, rfl, .inl rfl⟩⟩
    rw [run_slice_l W 27 _ _ _ ht' .i64 _ (by omega) (by simp), he, hz]
    simp [Result.andThen, sliced]
  · subst hR
    refine ⟨some ⟨b, off + 3, none⟩, fun W => ?_, ⟨_, _, rfl, .inr ⟨b, off + 3, rfl, hbl, hT'⟩⟩⟩
    rw [run_slice_l W 27 _ _ _ ht' .i64 _ (by omega) (by omega), he, hz]
    simp [Result.andThen, sliced, Addr.add, hck]
/-- Blocks between two marks are as they were. -/
structure KeepI (lo hi : Nat) (w w' : World) : Prop where
  size : w.heap.size ≤ w'.heap.size
  block : ∀ b, lo ≤ b → b < hi → w'.heap[b]? = w.heap[b]?
theorem KeepI.refl (lo hi : Nat) (w : World) : KeepI lo hi w w := ⟨Nat.le_refl _, fun _ _ _ => rfl⟩
theorem KeepI.below {lo hi : Nat} {w w' w'' : World} (h : KeepI lo hi w w') (hb : Below w'.heap.size w' w'') (hh : hi ≤ w'.heap.size) : KeepI lo hi w w'' :=
  ⟨Nat.le_trans h.size hb.size, fun b h1 h2 => (hb.block b (by omega)).trans (h.block b h1 h2)⟩
theorem KeepI.grown {lo hi : Nat} {w w' w'' : World} {row : Option Nat} (h : KeepI lo hi w w') (hg : w'.grownBy w'' row) (hh : hi ≤ w'.heap.size) (hr : ∀ g, row = some g → g < lo ∨ hi ≤ g) : KeepI lo hi w w'' :=
  ⟨Nat.le_trans h.size hg.size, fun b h1 h2 => (hg.block b (by omega) (fun e => by rcases hr b e.symm with h | h <;> omega)).trans (h.block b h1 h2)⟩

theorem ownL_block {w : World} {base : Nat} {v : Value} {l : List Int} (h : OwnL w base v l) : ∀ g, v.ownBlock = some g → base ≤ g ∧ g < w.heap.size := fun g hg => by
  obtain ⟨_, ⟨rfl, _⟩ | ⟨g', cap, cur, rfl, hb, hh, _⟩⟩ := h
  · simp [Value.ownBlock] at hg
  · simp [Value.ownBlock] at hg
    subst hg
    obtain ⟨hlt, _⟩ := Array.getElem?_eq_some_iff.1 hh
    exact ⟨hb, hlt⟩
theorem OwnL.of_heapQ {A B : World} {base : Nat} {v : Value} {l : List Int} (h : OwnL A base v l) (e : ∀ g, v.ownBlock = some g → B.heap[g]? = A.heap[g]?) : OwnL B base v l := by
  obtain ⟨h1, h2 | ⟨g, cap, cur, hv, hb, hg, r⟩⟩ := h
  · exact ⟨h1, .inl h2⟩
  · exact ⟨h1, .inr ⟨g, cap, cur, hv, hb, (e g (by rw [hv]; rfl)).trans hg, r⟩⟩
end Go.Proofs.Ytphgpadpffigjaa
namespace Go.Proofs.Ytphgpadpffigjaa
open Go.RowKit Go.Sort

theorem first_outP {α : Type} (B : α → Bool) : ∀ (l : List α), l.all B = false → ∃ (j : Nat) (h : j < l.length), B l[j] = false ∧ ∀ (i : Nat) (h : i < l.length), i < j → B l[i] = true
  | [], h => by simp at h
  | a :: r, h => by
    cases ha : B a
    · exact ⟨0, by simp, by simpa using ha, fun i _ hij => by omega⟩
    · have hr : r.all B = false := by
        simp only [List.all_cons, ha, Bool.true_and] at h
        exact h
      obtain ⟨j, hj, hn, hp⟩ := first_outP B r hr
      refine ⟨j + 1, by simp; omega, by simpa using hn, fun i hi hij => ?_⟩
      cases i with
      | zero => simpa using ha
      | succ i => simpa using hp i (by simpa using hi) (by omega)

/-- The first of a list. -/
def hdP (G : List Pm) : Pm := G.headD (0, 0, [])
theorem hdP_at {G : List Pm} (h : 0 < G.length) : hdP G = G[0] := by
  cases G with
  | nil => simp at h
  | cons a r => rfl
/-- Whether a polynomial has the prime p and is like another one. -/
def likeT (p : Int) (g0 g : Pm) : Bool := decide (g.1 = p) && (decide (g.1 = g0.1) && decide (g.2.1 = g0.2.1))

end Go.Proofs.Ytphgpadpffigjaa
namespace Go.Proofs.Ytphgpadpffigjaa
open Go.RowKit Go.Sort Go.Maps

def addE (a b : Int × Int × Int) : Int × Int × Int := (a.1 + b.1, a.2.1 + b.2.1, a.2.2 + b.2.2)
/-- The coefficients of a term times a list of terms. -/
def rowS (s : Tm) : List Tm → Int × Int × Int → Int
  | [], _ => 0
  | t :: r, e => (if addE (tmE s) (tmE t) = e then s.2.2.2 * t.2.2.2 else 0) + rowS s r e
def mulS : List Tm → List Tm → Int × Int × Int → Int
  | [], _, _ => 0
  | s :: r, ys, e => rowS s ys e + mulS r ys e
/-- The coefficients of the product. -/
def mulF (p : Int) (xs ys : List Tm) (e : Int × Int × Int) : Int := mulS xs ys e % p
theorem rowS_snoc (s t : Tm) (e : Int × Int × Int) : ∀ l : List Tm, rowS s (l ++ [t]) e = rowS s l e + if addE (tmE s) (tmE t) = e then s.2.2.2 * t.2.2.2 else 0
  | [] => by simp [rowS]
  | u :: r => by rw [List.cons_append, rowS, rowS, rowS_snoc s t e r, Int.add_assoc]
theorem mulS_snoc (s : Tm) (ys : List Tm) (e : Int × Int × Int) : ∀ l : List Tm, mulS (l ++ [s]) ys e = mulS l ys e + rowS s ys e
  | [] => by simp [mulS]
  | u :: r => by rw [List.cons_append, mulS, mulS, mulS_snoc s ys e r, Int.add_assoc]
theorem rowS_take (s : Tm) (ys : List Tm) (k : Nat) (h : k < ys.length) (e : Int × Int × Int) : rowS s (ys.take (k + 1)) e = rowS s (ys.take k) e + if addE (tmE s) (tmE ys[k]) = e then s.2.2.2 * ys[k].2.2.2 else 0 := by
  rw [List.take_succ_eq_append_getElem h, rowS_snoc]
theorem mulS_take (xs ys : List Tm) (k : Nat) (h : k < xs.length) (e : Int × Int × Int) : mulS (xs.take (k + 1)) ys e = mulS (xs.take k) ys e + rowS xs[k] ys e := by
  rw [List.take_succ_eq_append_getElem h, mulS_snoc]
/-- .. when i terms of the first have been taken, and k of the second with the next one. -/
def prt (p : Int) (xs ys : List Tm) (i : Nat) (s : Tm) (k : Nat) (e : Int × Int × Int) : Int := (mulS (xs.take i) ys e + rowS s (ys.take k) e) % p
theorem prt_zero (p : Int) (xs ys : List Tm) (i : Nat) (s : Tm) (e : Int × Int × Int) : prt p xs ys i s 0 e = mulF p (xs.take i) ys e := by
  simp [prt, rowS, mulF]
theorem prt_full (p : Int) (xs ys : List Tm) (i : Nat) (h : i < xs.length) (e : Int × Int × Int) : prt p xs ys i xs[i] ys.length e = mulF p (xs.take (i + 1)) ys e := by
  simp [prt, mulF, mulS_take xs ys i h, List.take_length]
theorem prt_step (p : Int) (xs ys : List Tm) (i : Nat) (s : Tm) (k : Nat) (h : k < ys.length) (e : Int × Int × Int) :
    prt p xs ys i s (k + 1) e = if e = addE (tmE s) (tmE ys[k]) then (s.2.2.2 * ys[k].2.2.2 + prt p xs ys i s k (addE (tmE s) (tmE ys[k]))) % p else prt p xs ys i s k e := by
  unfold prt
  rw [rowS_take s ys k h]
  by_cases hx : e = addE (tmE s) (tmE ys[k])
  · subst hx
    rw [if_pos rfl, if_pos rfl, ← Int.add_assoc, Int.add_comm, Int.add_emod, Int.emod_emod_of_dvd _ (Int.dvd_refl p) |>.symm]
    simp [Int.add_emod]
  · rw [if_neg hx, if_neg (fun hy => hx hy.symm), Int.add_zero]
theorem mulF_nil (p : Int) (ys : List Tm) (e : Int × Int × Int) : mulF p [] ys e = 0 := by simp [mulF, mulS]
theorem rowS_nil (s : Tm) (e : Int × Int × Int) : rowS s [] e = 0 := rfl
theorem mulS_nil (e : Int × Int × Int) : ∀ xs : List Tm, mulS xs [] e = 0
  | [] => rfl
  | s :: r => by rw [mulS, rowS_nil, mulS_nil e r]; rfl
theorem sum_addE (a b : Int × Int × Int) : (addE a b).1 + (addE a b).2.1 + (addE a b).2.2 = (a.1 + a.2.1 + a.2.2) + (b.1 + b.2.1 + b.2.2) := by unfold addE; simp only []; omega
theorem addE_mono {a b : Int × Int × Int} (ha : byte3 a) (hb : byte3 b) (h : (a.1 + a.2.1 + a.2.2) + (b.1 + b.2.1 + b.2.2) ≤ 12) : mono12 (addE a b) := by
  obtain ⟨⟨a1, a2⟩, ⟨a3, a4⟩, a5, a6⟩ := ha
  obtain ⟨⟨b1, b2⟩, ⟨b3, b4⟩, b5, b6⟩ := hb
  refine ⟨⟨⟨?_, ?_⟩, ⟨?_, ?_⟩, ?_, ?_⟩, ?_⟩ <;> simp only [addE] <;> omega

/-- The degrees of the terms allow the product. -/
def Fits (xs ys : List Tm) : Prop := ∀ s ∈ xs, ∀ t ∈ ys, (s.1 + s.2.1 + s.2.2.1) + (t.1 + t.2.1 + t.2.2.1) ≤ 12

theorem mul_ex {p d : Int} {xs ys : List Tm} (hV : Valid p d xs) (hV' : Valid p d ys) (h : Fits xs ys) : ∃ L, IsP p L (mulF p xs ys) := by
  have hp := hV.p2
  have row : ∀ i, (hi : i < xs.length) → (∃ O, IsP p O (mulF p (xs.take i) ys)) → ∀ k, k ≤ ys.length → ∃ O, IsP p O (prt p xs ys i xs[i] k) := fun i hi h0 k => by
    induction k with
    | zero => exact fun _ => h0.imp fun O hO => hO.congr fun e _ => (prt_zero p xs ys i xs[i] e).symm
    | succ k ih =>
      intro hk
      obtain ⟨O, hO⟩ := ih (by omega)
      have hlt : k < ys.length := by omega
      obtain ⟨⟨m1, _⟩, _⟩ := hV.mem xs[i] (List.getElem_mem _)
      obtain ⟨⟨m2, _⟩, _⟩ := hV'.mem ys[k] (List.getElem_mem _)
      exact ⟨_, (hO.put hp (e := addE (tmE xs[i]) (tmE ys[k])) (addE_mono m1 m2 (h _ (List.getElem_mem _) _ (List.getElem_mem _))) (xs[i].2.2.2 * ys[k].2.2.2)).congr fun e _ => (prt_step p xs ys i xs[i] k hlt e).symm⟩
  have key : ∀ i, i ≤ xs.length → ∃ O, IsP p O (mulF p (xs.take i) ys) := fun i => by
    induction i with
    | zero => exact fun _ => ⟨[], (IsP.nil p).congr fun e _ => by simp [mulF_nil]⟩
    | succ i ih =>
      intro hi
      have hlt : i < xs.length := by omega
      exact (row i hlt (ih (by omega)) ys.length (Nat.le_refl _)).imp fun O hO => hO.congr fun e _ => prt_full p xs ys i hlt e
  have := key xs.length (Nat.le_refl _)
  rwa [List.take_length] at this
end Go.Proofs.Ytphgpadpffigjaa
namespace Go.Proofs.Ytphgpadpffigjaa
open Go.RowKit Go.Sort Go.Maps

theorem addE_comm (a b : Int × Int × Int) : addE a b = addE b a := by simp [addE, Int.add_comm]
theorem mulS_right (t : Tm) (r : List Tm) (e : Int × Int × Int) : ∀ xs : List Tm, mulS xs (t :: r) e = rowS t xs e + mulS xs r e
  | [] => by simp [mulS, rowS]
  | s :: q => by
    rw [mulS, mulS, mulS_right t r e q, rowS, rowS, addE_comm, Int.mul_comm s.2.2.2]
    omega
/-- Products do not depend on the order. -/
theorem mulS_comm (e : Int × Int × Int) (xs : List Tm) : ∀ ys : List Tm, mulS xs ys e = mulS ys xs e
  | [] => by rw [mulS_nil]; rfl
  | t :: r => by rw [mulS_right, mulS_comm e xs r]; rfl
theorem mulF_comm (p : Int) (xs ys : List Tm) (e : Int × Int × Int) : mulF p xs ys e = mulF p ys xs e := by rw [mulF, mulF, mulS_comm]

def subE (a b : Int × Int × Int) : Int × Int × Int := (a.1 - b.1, a.2.1 - b.2.1, a.2.2 - b.2.2)
theorem addE_sub {a b e : Int × Int × Int} : addE a b = e ↔ a = subE e b := by
  obtain ⟨a1, a2, a3⟩ := a
  obtain ⟨b1, b2, b3⟩ := b
  obtain ⟨e1, e2, e3⟩ := e
  simp [addE, subE]
  omega
/-- The coefficients of a product, told by the coefficients of the first factor. -/
def colS (f : Int × Int × Int → Int) : List Tm → Int × Int × Int → Int
  | [], _ => 0
  | t :: r, e => f (subE e (tmE t)) * t.2.2.2 + colS f r e
theorem colS_add (f g : Int × Int × Int → Int) (e : Int × Int × Int) : ∀ ys : List Tm, colS (fun a => f a + g a) ys e = colS f ys e + colS g ys e
  | [] => by simp [colS]
  | t :: r => by rw [colS, colS, colS, colS_add f g e r, Int.add_mul]; omega
theorem colS_zero (e : Int × Int × Int) : ∀ ys : List Tm, colS (fun _ => 0) ys e = 0
  | [] => rfl
  | t :: r => by rw [colS, colS_zero e r]; simp
theorem colS_congr {f g : Int × Int × Int → Int} (h : ∀ a, f a = g a) (e : Int × Int × Int) : ∀ ys : List Tm, colS f ys e = colS g ys e
  | [] => rfl
  | t :: r => by rw [colS, colS, h, colS_congr h e r]
theorem rowS_col (s : Tm) (e : Int × Int × Int) : ∀ ys : List Tm, rowS s ys e = colS (fun a => if tmE s = a then s.2.2.2 else 0) ys e
  | [] => rfl
  | t :: r => by
    rw [rowS, colS, rowS_col s e r]
    by_cases h : addE (tmE s) (tmE t) = e
    · rw [if_pos h, if_pos (addE_sub.1 h)]
    · rw [if_neg h, if_neg (fun h' => h (addE_sub.2 h'))]; simp
theorem atL_cons {s : Tm} {r : List Tm} (h : Asc (s :: r)) (a : Int × Int × Int) : atL (s :: r) a = (if tmE s = a then s.2.2.2 else 0) + atL r a := by
  rw [atL]
  by_cases hx : tmE s = a
  · subst hx
    rw [if_pos rfl, if_pos rfl, atL_none (ts := r) (fun t ht hx => before_ne ((List.pairwise_cons.1 h).1 t ht) hx.symm)]
    simp
  · rw [if_neg hx, if_neg hx, Int.zero_add]
theorem mulS_col (ys : List Tm) (e : Int × Int × Int) : ∀ {xs : List Tm}, Asc xs → mulS xs ys e = colS (atL xs) ys e
  | [], _ => (colS_zero e ys).symm
  | s :: r, h => by
    rw [mulS, mulS_col ys e (List.pairwise_cons.1 h).2, rowS_col, ← colS_add]
    exact colS_congr (fun a => (atL_cons h a).symm) e ys
theorem colS_mod (p : Int) (f : Int × Int × Int → Int) (e : Int × Int × Int) : ∀ ys : List Tm, colS (fun a => f a % p) ys e % p = colS f ys e % p
  | [] => rfl
  | t :: r => by
    rw [colS, colS, Int.add_emod, colS_mod p f e r, ← Int.add_emod_emod, Int.mul_emod, Int.emod_emod_of_dvd _ (Int.dvd_refl p), ← Int.mul_emod, ← Int.add_emod_emod]
    simp [Int.add_emod]
theorem colS_scale (v : Int) (f : Int × Int × Int → Int) (e : Int × Int × Int) : ∀ ys : List Tm, colS (fun a => v * f a) ys e = v * colS f ys e
  | [] => by simp [colS]
  | t :: r => by rw [colS, colS, colS_scale v f e r, Int.mul_add, Int.mul_assoc]
/-- The coefficient at any exponents, bytes or not. -/
theorem IsP.all {p : Int} {L M : List Tm} {f : Int × Int × Int → Int} {v : Int} (h : IsP p L (fun e => v * atL M e % p)) (hM : IsP p M f) (e : Int × Int × Int) : atL L e = v * atL M e % p := by
  by_cases he : byte3 e
  · exact h.2.2 e he
  · rw [atL_none (ts := L) (fun t ht hx => he (by rw [← hx]; exact (h.2.1 t ht).1.1)), atL_none (ts := M) (fun t ht hx => he (by rw [← hx]; exact (hM.2.1 t ht).1.1))]
    simp
/-- A number goes out of a product. -/
theorem mulF_scale {p : Int} {L M ys : List Tm} {f : Int × Int × Int → Int} {v : Int} (h : IsP p L (fun e => v * atL M e % p)) (hM : IsP p M f) (e : Int × Int × Int) : mulF p L ys e = v * mulF p M ys e % p := by
  rw [mulF, mulF, mulS_col ys e h.1, mulS_col ys e hM.1, colS_congr (fun a => IsP.all h hM a) e ys, colS_mod, colS_scale]
  simp [Int.mul_emod]
end Go.Proofs.Ytphgpadpffigjaa
