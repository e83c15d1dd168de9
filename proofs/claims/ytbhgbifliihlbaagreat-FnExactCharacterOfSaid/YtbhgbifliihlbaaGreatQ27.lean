/-
  A list of 64-bit numbers as an argument of a law, opened; a row's end. Conditions: the argument can be read as data.
  A matrix argument of a law, opened. Conditions: the argument can be read as data.
  A group argument of a law, opened: its cells and its matrices. Conditions: the argument can be read as data.
  A polynomial argument of a law, opened: its cells and its terms. Conditions: the argument can be read as data.
-/
import Derived.Test.YtbhgbifliihlbaaGreatQ13
import Derived.ProofKit
import Derived.OpenShut
import Derived.Lib.SmallJoins
import Derived.Deep.Slices
import Derived.Test.YtbhgbifliihlbaaGreatQ14
import Derived.Test.YtbhgbifliihlbaaGreatQ18
import Derived.Test.YtbhgbifliihlbaaGreatQ02
namespace Go.Proofs.YtbhgbifliihlbaaGreat
open Go.ChangeShapes Go.WideShapes Go.ChangeAt Go.RowKit Go.Sort Go.Joins Go.Deep

section
variable {H : Type} {enc : TypeId × Value → H} {w : World} {spare : Nat → Bool} {held : Bool}
theorem gi64_of {fuel : Nat} {cs : List Value} {x : DataW H × List MemPlace} (h : DataW.trod enc Tryz.prog w 0 spare held fuel 2 cs = some x) : ∃ n, cs = [.int .i64 n] ∧ -9223372036854775808 ≤ n ∧ n ≤ 9223372036854775807 := by
  obtain ⟨n, hc, _, hw⟩ := DataW.trod_int Tryz.underlying2 h
  simp [Lit.wf, IntKind.min, IntKind.max, IntKind.signed, IntKind.bits] at hw
  exact ⟨n, hc, hw.1, by omega⟩

/-- The row's end, where all that was there before the call is as it was. -/
theorem mrow_end {P : Program} {f : Func} {s : ChangeSpec} {apart fresh handsOn : Bool} {W W' : World} {args : Array Value} {v : Value} {ds gs : List (DataW H)} {before pa pv : List MemPlace}
    (hW : DataW.Whole enc P f.params.toList s.vars apart W args.toList ds gs before) (hb : Below W.heap.size W W')
    (hr : ∀ (b : Nat) (sp : Nat → Bool) (hd : Bool), DataW.TrodAll enc P W' b sp hd f.resultTypes.toList (v.resultList f.resultTypes.size) (s.fn H (ds ++ gs)).results [])
    (ha : DataW.TrodAll enc P W' 0 (fun b => decide (b < W.heap.size)) true f.params.toList args.toList (s.fn H (ds ++ gs)).args pa)
    (hv : DataW.TrodVars enc P W' (fun b => decide (b < W.heap.size)) s.vars (s.fn H (ds ++ gs)).vars pv) (hp : ∀ p ∈ before, p ∈ pa ∨ p ∈ pv) :
    s.post enc P f apart fresh handsOn false W args v W' :=
  ⟨ds, gs, before, [], pa, pv, hW, hr _ _ _, ha, hv, World.keptBut_mono (fun p h => ⟨h, .inr (hp p h)⟩) (hb.frame (· ∈ before)), fun h => absurd h (by decide)⟩
end

theorem mlaidOut : laidOutB Tryz.prog = true := by kernel_rfl
theorem mown : ownKnob Tryz.prog.godebug = none := by kernel_rfl
theorem readIntsN : Tryz.prog.readableRec 30 = true ∧ 30 < Tryz.prog.types.size := ⟨by kernel_rfl, of_decide_eq_true (by kernel_rfl)⟩
theorem ncellsI64 : Tryz.prog.cellsOf 2 = 1 := by kernel_rfl

set_option maxRecDepth 100000 in
theorem open_listN {H : Type} {enc : TypeId × Value → H} {w : World} {held : Bool} {r : Reach} {b0 : Nat} {v : Value} {d : DataW H} {p : List MemPlace} (hv : Value.okWide Tryz.prog w r b0 30 v) (h : DataW.Trod enc Tryz.prog w 0 (fun _ => true) held 30 v d p) :
    ∃ l : List Int, Sl w v l ∧ l.length ≤ 9223372036854775807 := by
  obtain ⟨a0, len0, cap0, rfl⟩ := okWide_slice Tryz.underlying30 hv
  obtain ⟨fuel, hf⟩ := h
  rcases open_slice Tryz.underlying30 hf with ⟨hc, _⟩ | ⟨a, len, cap, m, n, D, Pl, hc, _, hl, hm, hmm, _, hi⟩
  · simp [Value.cells] at hc
    obtain ⟨rfl, rfl, rfl⟩ := hc
    exact ⟨[], ⟨none, 0, rfl, .inl rfl⟩, by simp⟩
  · simp [Value.cells] at hc
    obtain ⟨rfl, rfl, rfl⟩ := hc
    unfold maxLen at hm
    simp at hmm
    subst hmm
    rw [ncellsI64] at hi
    have hex : ∀ i, i < len0 → ∃ x : Int, w.cell? (a.add i) = some (.int .i64 x) := fun i hil => by
      obtain ⟨cs, hcs, ht⟩ := hi i (by omega)
      obtain ⟨x, e, hb⟩ := gi64_of ht
      obtain ⟨_, _, hat⟩ := World.cells?_some hcs
      have h0 := hat 0 (by omega)
      rw [e] at h0
      exact ⟨x, by simpa [Addr.add] using h0⟩
    obtain ⟨F, hF⟩ := choose_lt hex
    refine ⟨(List.range len0).map F, ⟨some a, _, by simp; rfl, ?_⟩, by simp; omega⟩
    by_cases h0 : len0 = 0
    · left; simp [h0]
    · right
      have hc0 := hF 0 (by omega)
      obtain ⟨b, off, spot⟩ := a
      have hspot : spot = none := World.cell?_spot (w := w) (a := ⟨b, off, spot⟩) (by simpa [Addr.add] using hc0)
      subst hspot
      refine ⟨b, off, rfl, World.block_lt_of_cell? (w := w) (a := ⟨b, off, none⟩) (by simpa [Addr.add] using hc0), fun k hk => ?_⟩
      have hat := hF k (by simpa using hk)
      by_cases hk0 : k = 0
      · subst hk0
        simpa [Addr.add] using hat
      · simp only [Addr.add, if_neg hk0] at hat
        simpa using hat
end Go.Proofs.YtbhgbifliihlbaaGreat
namespace Go.Proofs.YtbhgbifliihlbaaGreat
open Go.ChangeShapes Go.WideShapes Go.ChangeAt Go.RowKit Go.Sort Go.Joins Go.Deep

section
variable {H : Type} {enc : TypeId × Value → H} {w : World} {spare : Nat → Bool} {held : Bool}

theorem mcellsB9 : Tryz.prog.cellsOf 75 = 9 := by kernel_rfl
theorem mcellsB3 : Tryz.prog.cellsOf 54 = 3 := by kernel_rfl
theorem mcellsU8 : Tryz.prog.cellsOf 5 = 1 := by kernel_rfl

theorem mu8_of {fuel : Nat} {cs : List Value} {x : DataW H × List MemPlace} (h : DataW.trod enc Tryz.prog w 0 spare held fuel 5 cs = some x) : ∃ n, cs = [.int .u8 n] ∧ 0 ≤ n ∧ n ≤ 255 := by
  obtain ⟨n, hc, _, hw⟩ := DataW.trod_int Tryz.underlying5 h
  simp [Lit.wf, IntKind.min, IntKind.max, IntKind.signed, IntKind.bits] at hw
  exact ⟨n, hc, hw.1, by omega⟩
set_option maxRecDepth 100000 in
theorem mbytes3_of {fuel : Nat} {cs : List Value} {x : DataW H × List MemPlace} (h : DataW.trod enc Tryz.prog w 0 spare held fuel 54 cs = some x) :
    ∃ a b c, cs = [.int .u8 a, .int .u8 b, .int .u8 c] ∧ (0 ≤ a ∧ a ≤ 255) ∧ (0 ≤ b ∧ b ≤ 255) ∧ (0 ≤ c ∧ c ≤ 255) := by
  obtain ⟨xs, m, _, _, hlen, hx, hi⟩ := DataW.trod_array Tryz.underlying54 h
  rw [mcellsB3] at hlen
  match cs, hlen with
  | [c0, c1, c2], _ =>
    match xs, hx with
    | [y0, y1, y2], _ =>
      have h0 := hi 0 (by omega)
      have h1 := hi 1 (by omega)
      have h2 := hi 2 (by omega)
      simp [mcellsU8] at h0 h1 h2
      obtain ⟨a, ea, ha⟩ := mu8_of h0
      obtain ⟨b, eb, hb⟩ := mu8_of h1
      obtain ⟨c, ec, hc⟩ := mu8_of h2
      simp at ea eb ec
      exact ⟨a, b, c, by simp [ea, eb, ec], ha, hb, hc⟩
/-- The matrix of nine numbers. -/
def mk9 (a b c d e f x y z : Int) (i j : Nat) : Int := if i = 0 then (if j = 0 then a else if j = 1 then b else c) else if i = 1 then (if j = 0 then d else if j = 1 then e else f) else if j = 0 then x else if j = 1 then y else z
set_option maxRecDepth 100000 in
theorem mbytes9_of {fuel : Nat} {cs : List Value} {x : DataW H × List MemPlace} (h : DataW.trod enc Tryz.prog w 0 spare held fuel 75 cs = some x) :
    ∃ g : Nat → Nat → Int, cs = [.int .u8 (g 0 0), .int .u8 (g 0 1), .int .u8 (g 0 2), .int .u8 (g 1 0), .int .u8 (g 1 1), .int .u8 (g 1 2), .int .u8 (g 2 0), .int .u8 (g 2 1), .int .u8 (g 2 2)] ∧ Byt g := by
  obtain ⟨xs, m, _, _, hlen, hx, hi⟩ := DataW.trod_array Tryz.underlying75 h
  rw [mcellsB9] at hlen
  match cs, hlen with
  | [c0, c1, c2, c3, c4, c5, c6, c7, c8], _ =>
    match xs, hx with
    | [y0, y1, y2], _ =>
      have h0 := hi 0 (by omega)
      have h1 := hi 1 (by omega)
      have h2 := hi 2 (by omega)
      simp [mcellsB3] at h0 h1 h2
      obtain ⟨a, b, c, e0, ha, hb, hc⟩ := mbytes3_of h0
      obtain ⟨d, e, f, e1, hd, he, hf⟩ := mbytes3_of h1
      obtain ⟨x, y, z, e2, hx, hy, hz⟩ := mbytes3_of h2
      simp at e0 e1 e2
      refine ⟨mk9 a b c d e f x y z, by simp [mk9, e0, e1, e2], fun i hi j hj => ?_⟩
      have hi3 : i = 0 ∨ i = 1 ∨ i = 2 := by omega
      have hj3 : j = 0 ∨ j = 1 ∨ j = 2 := by omega
      rcases hi3 with rfl | rfl | rfl <;> rcases hj3 with rfl | rfl | rfl <;> simp [mk9] <;> assumption
theorem okWide_array' {P : Program} {r : Reach} {b0 : Nat} {t e : TypeId} {n : Nat} {v : Value} (ht : P.underlying t = some (.array n e)) (h : Value.okWide P w r b0 t v) : ∃ cs, v = .agg cs ∧ cs.size = P.cellsOf t := by
  simp only [Value.okWide, ht] at h
  obtain ⟨cs, h1, h2, _⟩ := h
  exact ⟨cs, h1, h2⟩
set_option maxRecDepth 100000 in
/-- A matrix argument: nine bytes. -/
theorem open_mat {r : Reach} {b0 : Nat} {v : Value} {d : DataW H} {p : List MemPlace} (hv : Value.okWide Tryz.prog w r b0 75 v) (h : DataW.Trod enc Tryz.prog w 0 (fun _ => true) held 75 v d p) :
    ∃ g, v = mv g ∧ Byt g := by
  obtain ⟨cs, rfl, hsz⟩ := okWide_array' Tryz.underlying75 hv
  obtain ⟨fuel, hf⟩ := h
  obtain ⟨g, hg, hb⟩ := mbytes9_of hf
  refine ⟨g, ?_, hb⟩
  unfold mv
  congr 1
  simp [Value.cells] at hg
  exact Array.toList_inj.1 hg

end

theorem readMat : Tryz.prog.readableRec 75 = true ∧ 75 < Tryz.prog.types.size := ⟨by kernel_rfl, of_decide_eq_true (by kernel_rfl)⟩
end Go.Proofs.YtbhgbifliihlbaaGreat
namespace Go.Proofs.YtbhgbifliihlbaaGreat
open Go.ChangeShapes Go.WideShapes Go.ChangeAt Go.RowKit Go.Sort Go.Joins Go.Deep

section
variable {H : Type} {enc : TypeId × Value → H} {w : World} {spare : Nat → Bool} {held : Bool}

theorem cellsLGroup : Tryz.prog.cellsOf 24 = 3 := by kernel_rfl
set_option maxRecDepth 100000 in
theorem mats_of {fuel : Nat} {v : Value} {x : DataW H × List MemPlace} (h : DataW.trod enc Tryz.prog w 0 (fun _ => true) held fuel 22 [v] = some x) :
    ∃ L : List (Nat → Nat → Int), SlM w v L ∧ (∀ g ∈ L, Byt g) ∧ L.length ≤ 9223372036854775807 := by
  rcases open_slice Tryz.underlying22 h with ⟨hc, _⟩ | ⟨a, len, cap, m, n, D, Pl, hc, _, hl, hm, hmm, _, hi⟩
  · simp at hc
    subst hc
    exact ⟨[], ⟨none, 0, rfl, .inl rfl⟩, fun t ht => by simp at ht, by simp⟩
  · simp at hc
    subst hc
    unfold maxLen at hm
    simp at hmm
    subst hmm
    rw [mcellsB9] at hi
    have hex : ∀ i, i < len → ∃ g : Nat → Nat → Int, Byt g ∧ ∀ j, j < 9 → w.cell? ((a.add (i * 9)).add j) = [Value.int .u8 (g 0 0), .int .u8 (g 0 1), .int .u8 (g 0 2), .int .u8 (g 1 0), .int .u8 (g 1 1), .int .u8 (g 1 2), .int .u8 (g 2 0), .int .u8 (g 2 1), .int .u8 (g 2 2)][j]? := fun i hil => by
      obtain ⟨cs, hcs, ht⟩ := hi i (by omega)
      obtain ⟨g, e, hb⟩ := mbytes9_of ht
      obtain ⟨_, _, hat⟩ := World.cells?_some hcs
      exact ⟨g, hb, fun j hj => by rw [hat j hj, e]⟩
    obtain ⟨F, hF⟩ := choose_lt hex
    refine ⟨(List.range len).map F, ⟨some a, m, by simp, ?_⟩, fun t ht => ?_, by simp; omega⟩
    · by_cases h0 : len = 0
      · left; simp [h0]
      · right
        have hc0 := (hF 0 (by omega)).2 0 (by omega)
        obtain ⟨b, off, spot⟩ := a
        have hspot : spot = none := by
          have := World.cell?_spot (w := w) (a := ⟨b, off, spot⟩) (by simpa [Addr.add] using hc0)
          exact this
        subst hspot
        refine ⟨b, off, rfl, World.block_lt_of_cell? (w := w) (a := ⟨b, off, none⟩) (by simpa [Addr.add] using hc0), fun k hk i j hi3 hj3 => ?_⟩
        have hkl : k < len := by simpa using hk
        have g0 := (hF k hkl).2 (i * 3 + j) (by omega)
        rw [Go.WideShapes.add_plain, Go.WideShapes.add_plain] at g0
        simp only [List.getElem_map, List.getElem_range]
        rw [g0]
        have hi' : i = 0 ∨ i = 1 ∨ i = 2 := by omega
        have hj' : j = 0 ∨ j = 1 ∨ j = 2 := by omega
        rcases hi' with rfl | rfl | rfl <;> rcases hj' with rfl | rfl | rfl <;> rfl
    · obtain ⟨i, hi', rfl⟩ := List.mem_map.1 ht
      exact (hF i (by simpa using hi')).1

set_option maxRecDepth 100000 in
/-- A group of the laws' own type, read as data: its prime, its size, its matrices. -/
theorem open_group {r : Reach} {b0 : Nat} {v : Value} {d : DataW H} {p : List MemPlace} (hv : Value.okWide Tryz.prog w r b0 24 v) (h : DataW.Trod enc Tryz.prog w 0 (fun _ => true) held 24 v d p) :
    ∃ (q n : Int) (sv : Value) (L : List (Nat → Nat → Int)), v = .agg #[.int .i64 q, .int .i64 n, sv] ∧ SlM w sv L ∧ (∀ g ∈ L, Byt g) ∧ L.length ≤ 9223372036854775807 := by
  obtain ⟨v0, v1, v2, y0, y1, y2, m, rfl, _, _, h0, h1, h2⟩ := open_agg3 Tryz.underlying24 (by kernel_rfl) cellsLGroup hv h
  obtain ⟨q, e0, _⟩ := gi64_of h0
  obtain ⟨n, e1, _⟩ := gi64_of h1
  obtain ⟨L, hs, hb, hn⟩ := mats_of h2
  simp at e0 e1
  subst e0 e1
  exact ⟨q, n, v2, L, rfl, hs, hb, hn⟩
end
theorem readGrp : Tryz.prog.readableRec 24 = true ∧ 24 < Tryz.prog.types.size := ⟨by kernel_rfl, of_decide_eq_true (by kernel_rfl)⟩
end Go.Proofs.YtbhgbifliihlbaaGreat
namespace Go.Proofs.YtbhgbifliihlbaaGreat
open Go.ChangeShapes Go.WideShapes Go.ChangeAt Go.RowKit Go.Sort Go.Joins Go.Deep

section
variable {H : Type} {enc : TypeId × Value → H} {w : World} {spare : Nat → Bool} {held : Bool}

theorem cellsLTerm : Tryz.prog.cellsOf 82 = 4 := by kernel_rfl
theorem cellsB3 : Tryz.prog.cellsOf 54 = 3 := by kernel_rfl
theorem cellsU8 : Tryz.prog.cellsOf 5 = 1 := by kernel_rfl
theorem cellsI64 : Tryz.prog.cellsOf 2 = 1 := by kernel_rfl
theorem cellsLPoly : Tryz.prog.cellsOf 27 = 3 := by kernel_rfl

theorem u8_of {fuel : Nat} {cs : List Value} {x : DataW H × List MemPlace} (h : DataW.trod enc Tryz.prog w 0 spare held fuel 5 cs = some x) : ∃ n, cs = [.int .u8 n] ∧ 0 ≤ n ∧ n ≤ 255 := by
  obtain ⟨n, hc, _, hw⟩ := DataW.trod_int Tryz.underlying5 h
  simp [Lit.wf, IntKind.min, IntKind.max, IntKind.signed, IntKind.bits] at hw
  exact ⟨n, hc, hw.1, by omega⟩
theorem i64_of {fuel : Nat} {cs : List Value} {x : DataW H × List MemPlace} (h : DataW.trod enc Tryz.prog w 0 spare held fuel 2 cs = some x) : ∃ n, cs = [.int .i64 n] ∧ -9223372036854775808 ≤ n ∧ n ≤ 9223372036854775807 := by
  obtain ⟨n, hc, _, hw⟩ := DataW.trod_int Tryz.underlying2 h
  simp [Lit.wf, IntKind.min, IntKind.max, IntKind.signed, IntKind.bits] at hw
  exact ⟨n, hc, hw.1, by omega⟩

set_option maxRecDepth 100000 in
theorem bytes3_of {fuel : Nat} {cs : List Value} {x : DataW H × List MemPlace} (h : DataW.trod enc Tryz.prog w 0 spare held fuel 54 cs = some x) :
    ∃ a b c, cs = [.int .u8 a, .int .u8 b, .int .u8 c] ∧ (0 ≤ a ∧ a ≤ 255) ∧ (0 ≤ b ∧ b ≤ 255) ∧ (0 ≤ c ∧ c ≤ 255) := by
  obtain ⟨xs, m, _, _, hlen, hx, hi⟩ := DataW.trod_array Tryz.underlying54 h
  rw [cellsB3] at hlen
  match cs, hlen with
  | [c0, c1, c2], _ =>
    match xs, hx with
    | [y0, y1, y2], _ =>
      have h0 := hi 0 (by omega)
      have h1 := hi 1 (by omega)
      have h2 := hi 2 (by omega)
      simp [cellsU8] at h0 h1 h2
      obtain ⟨a, ea, ha⟩ := u8_of h0
      obtain ⟨b, eb, hb⟩ := u8_of h1
      obtain ⟨c, ec, hc⟩ := u8_of h2
      simp at ea eb ec
      exact ⟨a, b, c, by simp [ea, eb, ec], ha, hb, hc⟩

set_option maxRecDepth 100000 in
theorem term_of {fuel : Nat} {cs : List Value} {x : DataW H × List MemPlace} (h : DataW.trod enc Tryz.prog w 0 spare held fuel 82 cs = some x) :
    ∃ t : Tm, cs = [.int .u8 t.1, .int .u8 t.2.1, .int .u8 t.2.2.1, .int .i64 t.2.2.2] ∧ tmByte t := by
  obtain ⟨xs, m, _, _, hlen, hx, hi⟩ := DataW.trod_struct Tryz.underlying82 h
  rw [cellsLTerm] at hlen
  match cs, hlen with
  | [c0, c1, c2, c3], _ =>
    match xs, hx with
    | [y0, y1], _ =>
      have h0 := hi 0 _ rfl
      have h1 := hi 1 _ rfl
      simp [cellsB3, cellsI64] at h0 h1
      obtain ⟨a, b, c, e0, ha, hb, hc⟩ := bytes3_of h0
      obtain ⟨v, e1, hv⟩ := i64_of h1
      simp at e0 e1
      exact ⟨(a, b, c, v), by simp [e0, e1], ⟨ha, hb, hc⟩, hv⟩

set_option maxRecDepth 100000 in
theorem slice_of {fuel : Nat} {v : Value} {x : DataW H × List MemPlace} (h : DataW.trod enc Tryz.prog w 0 (fun _ => true) held fuel 25 [v] = some x) :
    ∃ ts : List Tm, SliceT w v ts ∧ (∀ t ∈ ts, tmByte t) ∧ ts.length ≤ 9223372036854775807 := by
  rcases open_slice Tryz.underlying25 h with ⟨hc, _⟩ | ⟨a, len, cap, m, n, D, Pl, hc, _, hl, hm, hmm, _, hi⟩
  · simp at hc
    subst hc
    exact ⟨[], ⟨none, 0, rfl, .inl rfl⟩, fun t ht => by simp at ht, by simp⟩
  · simp at hc
    subst hc
    unfold maxLen at hm
    simp at hmm
    subst hmm
    rw [cellsLTerm] at hi
    have hex : ∀ i, i < len → ∃ t : Tm, tmByte t ∧ ∀ j, j < 4 → w.cell? ((a.add (i * 4)).add j) = [Value.int .u8 t.1, .int .u8 t.2.1, .int .u8 t.2.2.1, .int .i64 t.2.2.2][j]? := fun i hil => by
      obtain ⟨cs, hcs, ht⟩ := hi i (by omega)
      obtain ⟨t, e, hb⟩ := term_of ht
      obtain ⟨_, _, hat⟩ := World.cells?_some hcs
      exact ⟨t, hb, fun j hj => by rw [hat j hj, e]⟩
    obtain ⟨F, hF⟩ := choose_lt hex
    refine ⟨(List.range len).map F, ⟨some a, m, by simp, ?_⟩, fun t ht => ?_, by simp; omega⟩
    · by_cases h0 : len = 0
      · left; simp [h0]
      · right
        have hc0 := (hF 0 (by omega)).2 0 (by omega)
        obtain ⟨b, off, spot⟩ := a
        have hspot : spot = none := by
          have := World.cell?_spot (w := w) (a := ⟨b, off, spot⟩) (by simpa [Addr.add] using hc0)
          exact this
        subst hspot
        refine ⟨b, off, rfl, World.block_lt_of_cell? (w := w) (a := ⟨b, off, none⟩) (by simpa [Addr.add] using hc0), fun k hk => ?_⟩
        have hkl : k < len := by simpa using hk
        have hat := (hF k hkl).2
        have g0 := hat 0 (by omega)
        have g1 := hat 1 (by omega)
        have g2 := hat 2 (by omega)
        have g3 := hat 3 (by omega)
        rw [add_plain, add_plain] at g0 g1 g2 g3
        simp only [List.getElem_map, List.getElem_range]
        exact ⟨by simpa using g0, by simpa using g1, by simpa using g2, by simpa using g3⟩
    · obtain ⟨i, hi', rfl⟩ := List.mem_map.1 ht
      exact (hF i (by simpa using hi')).1

set_option maxRecDepth 100000 in
/-- A polynomial of the laws' own type, read as data: its prime, its number of letters, its terms. -/
theorem open_poly {r : Reach} {b0 : Nat} {v : Value} {d : DataW H} {p : List MemPlace} (hv : Value.okWide Tryz.prog w r b0 27 v) (h : DataW.Trod enc Tryz.prog w 0 (fun _ => true) held 27 v d p) :
    ∃ (q n : Int) (sv : Value) (ts : List Tm), v = .agg #[.int .i64 q, .int .i64 n, sv] ∧ SliceT w sv ts ∧ (∀ t ∈ ts, tmByte t) ∧ ts.length ≤ 9223372036854775807 := by
  obtain ⟨v0, v1, v2, y0, y1, y2, m, rfl, _, _, h0, h1, h2⟩ := open_agg3 Tryz.underlying27 (by kernel_rfl) cellsLPoly hv h
  obtain ⟨q, e0, _⟩ := i64_of h0
  obtain ⟨n, e1, _⟩ := i64_of h1
  obtain ⟨ts, hs, hb, hn⟩ := slice_of h2
  simp at e0 e1
  subst e0 e1
  exact ⟨q, n, v2, ts, rfl, hs, hb, hn⟩

/-- The row's end, where all that was there before the call is as it was. -/
theorem row_end {P : Program} {f : Func} {s : ChangeSpec} {apart fresh handsOn : Bool} {W W' : World} {args : Array Value} {v : Value} {ds gs : List (DataW H)} {before pa pv : List MemPlace}
    (hW : DataW.Whole enc P f.params.toList s.vars apart W args.toList ds gs before) (hb : Below W.heap.size W W')
    (hr : ∀ (b : Nat) (sp : Nat → Bool) (hd : Bool), DataW.TrodAll enc P W' b sp hd f.resultTypes.toList (v.resultList f.resultTypes.size) (s.fn H (ds ++ gs)).results [])
    (ha : DataW.TrodAll enc P W' 0 (fun b => decide (b < W.heap.size)) true f.params.toList args.toList (s.fn H (ds ++ gs)).args pa)
    (hv : DataW.TrodVars enc P W' (fun b => decide (b < W.heap.size)) s.vars (s.fn H (ds ++ gs)).vars pv) (hp : ∀ p ∈ before, p ∈ pa ∨ p ∈ pv) :
    s.post enc P f apart fresh handsOn false W args v W' :=
  ⟨ds, gs, before, [], pa, pv, hW, hr _ _ _, ha, hv, World.keptBut_mono (fun p h => ⟨h, .inr (hp p h)⟩) (hb.frame (· ∈ before)), fun h => absurd h (by decide)⟩

end

theorem laidOut : laidOutB Tryz.prog = true := by kernel_rfl
theorem own : ownKnob Tryz.prog.godebug = none := by kernel_rfl
theorem readPoly : Tryz.prog.readableRec 27 = true ∧ 27 < Tryz.prog.types.size := ⟨by kernel_rfl, of_decide_eq_true (by kernel_rfl)⟩
end Go.Proofs.YtbhgbifliihlbaaGreat
