/-
  A polynomial argument of a law, opened: its cells and its terms. Conditions: the argument can be read as data.
-/
import Derived.Test.YtphgpadpffigjaaF
import Derived.ProofKit
import Derived.OpenShut
import Derived.Lib.SmallJoins
import Derived.Deep.Slices
namespace Go.Proofs.Ytphgpadpffigjaa
open Go.ChangeShapes Go.WideShapes Go.ChangeAt Go.RowKit Go.Sort Go.Joins Go.Deep

section
variable {H : Type} {enc : TypeId × Value → H} {w : World} {spare : Nat → Bool} {held : Bool}

theorem cellsLTerm : Try.prog.cellsOf 118 = 4 := by kernel_rfl
theorem cellsB3 : Try.prog.cellsOf 74 = 3 := by kernel_rfl
theorem cellsU8 : Try.prog.cellsOf 5 = 1 := by kernel_rfl
theorem cellsI64 : Try.prog.cellsOf 2 = 1 := by kernel_rfl
theorem cellsLPoly : Try.prog.cellsOf 46 = 3 := by kernel_rfl

theorem u8_of {fuel : Nat} {cs : List Value} {x : DataW H × List MemPlace} (h : DataW.trod enc Try.prog w 0 spare held fuel 5 cs = some x) : ∃ n, cs = [.int .u8 n] ∧ 0 ≤ n ∧ n ≤ 255 := by
  obtain ⟨n, hc, _, hw⟩ := DataW.trod_int Try.underlying5 h
  simp [Lit.wf, IntKind.min, IntKind.max, IntKind.signed, IntKind.bits] at hw
  exact ⟨n, hc, hw.1, by omega⟩
theorem i64_of {fuel : Nat} {cs : List Value} {x : DataW H × List MemPlace} (h : DataW.trod enc Try.prog w 0 spare held fuel 2 cs = some x) : ∃ n, cs = [.int .i64 n] ∧ -9223372036854775808 ≤ n ∧ n ≤ 9223372036854775807 := by
  obtain ⟨n, hc, _, hw⟩ := DataW.trod_int Try.underlying2 h
  simp [Lit.wf, IntKind.min, IntKind.max, IntKind.signed, IntKind.bits] at hw
  exact ⟨n, hc, hw.1, by omega⟩

set_option maxRecDepth 100000 in
theorem bytes3_of {fuel : Nat} {cs : List Value} {x : DataW H × List MemPlace} (h : DataW.trod enc Try.prog w 0 spare held fuel 74 cs = some x) :
    ∃ a b c, cs = [.int .u8 a, .int .u8 b, .int .u8 c] ∧ (0 ≤ a ∧ a ≤ 255) ∧ (0 ≤ b ∧ b ≤ 255) ∧ (0 ≤ c ∧ c ≤ 255) := by
  obtain ⟨xs, m, _, _, hlen, hx, hi⟩ := DataW.trod_array Try.underlying74 h
  rw [cellsB3] at hlen
  match cs, hlen with
  | [c0, c1, c2], _ =>
    match xs, hx with
    | [y0, y1, y2], _ =>
      have h0 := hi 0 (by omega)
      have h1 := hi 1 (by omega)
      have h2 := hi 2 (by omega)
      simp [cellsU8] at h0 h1 h2
      obtain ⟨a, ea, ha⟩ := u8_of h0
      obtain ⟨b, eb, hb⟩ := u8_of h1
      obtain ⟨c, ec, hc⟩ := u8_of h2
      simp at ea eb ec
      exact ⟨a, b, c, by simp [ea, eb, ec], ha, hb, hc⟩

set_option maxRecDepth 100000 in
theorem term_of {fuel : Nat} {cs : List Value} {x : DataW H × List MemPlace} (h : DataW.trod enc Try.prog w 0 spare held fuel 118 cs = some x) :
    ∃ t : Tm, cs = [.int .u8 t.1, .int .u8 t.2.1, .int .u8 t.2.2.1, .int .i64 t.2.2.2] ∧ tmByte t := by
  obtain ⟨xs, m, _, _, hlen, hx, hi⟩ := DataW.trod_struct Try.underlying118 h
  rw [cellsLTerm] at hlen
  match cs, hlen with
  | [c0, c1, c2, c3], _ =>
    match xs, hx with
    | [y0, y1], _ =>
      have h0 := hi 0 _ rfl
      have h1 := hi 1 _ rfl
      simp [cellsB3, cellsI64] at h0 h1
      obtain ⟨a, b, c, e0, ha, hb, hc⟩ := bytes3_of h0
      obtain ⟨v, e1, hv⟩ := i64_of h1
      simp at e0 e1
      exact ⟨(a, b, c, v), by simp [e0, e1], ⟨ha, hb, hc⟩, hv⟩

set_option maxRecDepth 100000 in
theorem slice_of {fuel : Nat} {v : Value} {x : DataW H × List MemPlace} (h : DataW.trod enc Try.prog w 0 (fun _ => true) held fuel 44 [v] = some x) :
    ∃ ts : List Tm, SliceT w v ts ∧ (∀ t ∈ ts, tmByte t) ∧ ts.length ≤ 9223372036854775807 := by
  rcases open_slice Try.underlying44 h with ⟨hc, _⟩ | ⟨a, len, cap, m, n, D, Pl, hc, _, hl, hm, hmm, _, hi⟩
  · simp at hc
    subst hc
    exact ⟨[], ⟨none, 0, rfl, .inl rfl⟩, fun t ht => by simp at ht, by simp⟩
  · simp at hc
    subst hc
    unfold maxLen at hm
    simp at hmm
    subst hmm
    rw [cellsLTerm] at hi
    have hex : ∀ i, i < len → ∃ t : Tm, tmByte t ∧ ∀ j, j < 4 → w.cell? ((a.add (i * 4)).add j) = [Value.int .u8 t.1, .int .u8 t.2.1, .int .u8 t.2.2.1, .int .i64 t.2.2.2][j]? := fun i hil => by
      obtain ⟨cs, hcs, ht⟩ := hi i (by omega)
      obtain ⟨t, e, hb⟩ := term_of ht
      obtain ⟨_, _, hat⟩ := World.cells?_some hcs
      exact ⟨t, hb, fun j hj => by rw [hat j hj, e]⟩
    obtain ⟨F, hF⟩ := choose_lt hex
    refine ⟨(List.range len).map F, ⟨some a, m, by simp, ?_⟩, fun t ht => ?_, by simp; omega⟩
    · by_cases h0 : len = 0
      · left; simp [h0]
      · right
        have hc0 := (hF 0 (by omega)).2 0 (by omega)
        obtain ⟨b, off, spot⟩ := a
        have hspot : spot = none := by
          have := World.cell?_spot (w := w) (a := ⟨b, off, spot⟩) (by simpa [Addr.add] using hc0)
          exact this
        subst hspot
        refine ⟨b, off, rfl, World.block_lt_of_cell? (w := w) (a := ⟨b, off, none⟩) (by simpa [Addr.add] using hc0), fun k hk => ?_⟩
        have hkl : k < len := by simpa using hk
        have hat := (hF k hkl).2
        have g0 := hat 0 (by omega)
        have g1 := hat 1 (by omega)
        have g2 := hat 2 (by omega)
        have g3 := hat 3 (by omega)
        rw [add_plain, add_plain] at g0 g1 g2 g3
        simp only [List.getElem_map, List.getElem_range]
        exact ⟨by simpa using g0, by simpa using g1, by simpa using g2, by simpa using g3⟩
    · obtain ⟨i, hi', rfl⟩ := List.mem_map.1 ht
      exact (hF i (by simpa using hi')).1

set_option maxRecDepth 100000 in
/-- A polynomial of the laws' own type, read as data: its prime, its number of letters, its terms. -/
theorem open_poly {r : Reach} {b0 : Nat} {v : Value} {d : DataW H} {p : List MemPlace} (hv : Value.okWide Try.prog w r b0 46 v) (h : DataW.Trod enc Try.prog w 0 (fun _ => true) held 46 v d p) :
    ∃ (q n : Int) (sv : Value) (ts : List Tm), v = .agg #[.int .i64 q, .int .i64 n, sv] ∧ SliceT w sv ts ∧ (∀ t ∈ ts, tmByte t) ∧ ts.length ≤ 9223372036854775807 := by
  obtain ⟨v0, v1, v2, y0, y1, y2, m, rfl, _, _, h0, h1, h2⟩ := open_agg3 Try.underlying46 (by kernel_rfl) cellsLPoly hv h
  obtain ⟨q, e0, _⟩ := i64_of h0
  obtain ⟨n, e1, _⟩ := i64_of h1
  obtain ⟨ts, hs, hb, hn⟩ := slice_of h2
  simp at e0 e1
  subst e0 e1
  exact ⟨q, n, v2, ts, rfl, hs, hb, hn⟩

/-- The row's end, where all that was there before the call is as it was. -/
theorem row_end {P : Program} {f : Func} {s : ChangeSpec} {apart fresh handsOn : Bool} {W W' : World} {args : Array Value} {v : Value} {ds gs : List (DataW H)} {before pa pv : List MemPlace}
    (hW : DataW.Whole enc P f.params.toList s.vars apart W args.toList ds gs before) (hb : Below W.heap.size W W')
    (hr : ∀ (b : Nat) (sp : Nat → Bool) (hd : Bool), DataW.TrodAll enc P W' b sp hd f.resultTypes.toList (v.resultList f.resultTypes.size) (s.fn H (ds ++ gs)).results [])
    (ha : DataW.TrodAll enc P W' 0 (fun b => decide (b < W.heap.size)) true f.params.toList args.toList (s.fn H (ds ++ gs)).args pa)
    (hv : DataW.TrodVars enc P W' (fun b => decide (b < W.heap.size)) s.vars (s.fn H (ds ++ gs)).vars pv) (hp : ∀ p ∈ before, p ∈ pa ∨ p ∈ pv) :
    s.post enc P f apart fresh handsOn false W args v W' :=
  ⟨ds, gs, before, [], pa, pv, hW, hr _ _ _, ha, hv, World.keptBut_mono (fun p h => ⟨h, .inr (hp p h)⟩) (hb.frame (· ∈ before)), fun h => absurd h (by decide)⟩

end

theorem laidOut : laidOutB Try.prog = true := by kernel_rfl
theorem own : ownKnob Try.prog.godebug = none := by kernel_rfl
theorem readPoly : Try.prog.readableRec 46 = true ∧ 46 < Try.prog.types.size := ⟨by kernel_rfl, of_decide_eq_true (by kernel_rfl)⟩
end Go.Proofs.Ytphgpadpffigjaa
