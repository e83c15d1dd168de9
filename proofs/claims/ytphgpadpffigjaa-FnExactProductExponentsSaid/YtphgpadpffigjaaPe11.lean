/-
  A list of polynomials as an argument of a law, opened. Conditions: the argument can be read as data.
-/
import Derived.Test.YtphgpadpffigjaaQ
import Derived.Test.YtphgpadpffigjaaPe01
namespace Go.Proofs.Ytphgpadpffigjaa
open Go.ChangeShapes Go.WideShapes Go.ChangeAt Go.RowKit Go.Sort Go.Joins Go.Deep

section
variable {H : Type} {enc : TypeId × Value → H} {w : World} {held : Bool}

theorem cellsSTerm : Try.prog.cellsOf 44 = 1 := by kernel_rfl
theorem readPolys : Try.prog.readableRec 22 = true ∧ 22 < Try.prog.types.size := ⟨by kernel_rfl, of_decide_eq_true (by kernel_rfl)⟩

set_option maxRecDepth 100000 in
theorem poly_of {fuel : Nat} {cs : List Value} {x : DataW H × List MemPlace} (h : DataW.trod enc Try.prog w 0 (fun _ => true) held fuel 46 cs = some x) :
    ∃ gu : Pm × Value, cs = [.int .i64 gu.1.1, .int .i64 gu.1.2.1, gu.2] ∧ SliceT w gu.2 gu.1.2.2 ∧ (∀ t ∈ gu.1.2.2, tmByte t) ∧ gu.1.2.2.length ≤ 9223372036854775807 := by
  obtain ⟨xs, m, _, _, hlen, hx, hi⟩ := DataW.trod_struct Try.underlying46 h
  rw [cellsLPoly] at hlen
  match cs, hlen with
  | [c0, c1, c2], _ =>
    match xs, hx with
    | [y0, y1, y2], _ =>
      have h0 := hi 0 _ rfl
      have h1 := hi 1 _ rfl
      have h2 := hi 2 _ rfl
      simp [cellsI64, cellsSTerm] at h0 h1 h2
      obtain ⟨a, e0, _⟩ := i64_of h0
      obtain ⟨b, e1, _⟩ := i64_of h1
      obtain ⟨ts, hs, hb, hn⟩ := slice_of h2
      simp at e0 e1
      exact ⟨((a, b, ts), c2), by simp [e0, e1], hs, hb, hn⟩

set_option maxRecDepth 100000 in
theorem open_polys {r : Reach} {b0 : Nat} {v : Value} {d : DataW H} {p : List MemPlace} (hv : Value.okWide Try.prog w r b0 22 v) (h : DataW.Trod enc Try.prog w 0 (fun _ => true) held 22 v d p) :
    ∃ G : List Pm, SlP w v G ∧ G.length ≤ 9223372036854775807 ∧ (∀ g ∈ G, g.2.2.length ≤ 9223372036854775807) ∧ ∀ g ∈ G, ∀ t ∈ g.2.2, tmByte t := by
  obtain ⟨a0, len0, cap0, rfl⟩ := okWide_slice Try.underlying22 hv
  obtain ⟨fuel, hf⟩ := h
  rcases open_slice Try.underlying22 hf with ⟨hc, _⟩ | ⟨a, len, cap, m, n, D, Pl, hc, _, hl, hm, hmm, _, hi⟩
  · simp [Value.cells] at hc
    obtain ⟨rfl, rfl, rfl⟩ := hc
    exact ⟨[], ⟨none, 0, rfl, .inl rfl⟩, by simp, fun t ht => by simp at ht, fun t ht => by simp at ht⟩
  · simp [Value.cells] at hc
    obtain ⟨rfl, rfl, rfl⟩ := hc
    unfold maxLen at hm
    simp at hmm
    subst hmm
    rw [cellsLPoly] at hi
    have hex : ∀ i, i < len0 → ∃ gu : Pm × Value, (SliceT w gu.2 gu.1.2.2 ∧ (∀ t ∈ gu.1.2.2, tmByte t) ∧ gu.1.2.2.length ≤ 9223372036854775807) ∧ ∀ j, j < 3 → w.cell? ((a.add (i * 3)).add j) = [Value.int .i64 gu.1.1, .int .i64 gu.1.2.1, gu.2][j]? := fun i hil => by
      obtain ⟨cs, hcs, ht⟩ := hi i (by omega)
      obtain ⟨gu, e, hb⟩ := poly_of ht
      obtain ⟨_, _, hat⟩ := World.cells?_some hcs
      exact ⟨gu, hb, fun j hj => by rw [hat j hj, e]⟩
    obtain ⟨F, hF⟩ := choose_lt hex
    refine ⟨(List.range len0).map fun i => (F i).1, ⟨some a, _, by simp; rfl, ?_⟩, by simp; omega, fun g hg => ?_, fun g hg => ?_⟩
    · by_cases h0 : len0 = 0
      · left; simp [h0]
      · right
        have hc0 := (hF 0 (by omega)).2 0 (by omega)
        obtain ⟨b, off, spot⟩ := a
        have hspot : spot = none := by
          have := World.cell?_spot (w := w) (a := ⟨b, off, spot⟩) (by simpa [Addr.add] using hc0)
          exact this
        subst hspot
        refine ⟨b, off, rfl, World.block_lt_of_cell? (w := w) (a := ⟨b, off, none⟩) (by simpa [Addr.add] using hc0), fun k hk => ?_⟩
        have hkl : k < len0 := by simpa using hk
        have hat := (hF k hkl).2
        have g0 := hat 0 (by omega)
        have g1 := hat 1 (by omega)
        have g2 := hat 2 (by omega)
        rw [add_plain, add_plain] at g0 g1 g2
        simp only [List.getElem_map, List.getElem_range]
        exact ⟨(F k).2, by simpa using g0, by simpa using g1, by simpa using g2, (hF k hkl).1.1⟩
    · obtain ⟨i, hi', rfl⟩ := List.mem_map.1 hg
      exact (hF i (by simpa using hi')).1.2.2
    · obtain ⟨i, hi', rfl⟩ := List.mem_map.1 hg
      exact (hF i (by simpa using hi')).1.2.1
end
end Go.Proofs.Ytphgpadpffigjaa
