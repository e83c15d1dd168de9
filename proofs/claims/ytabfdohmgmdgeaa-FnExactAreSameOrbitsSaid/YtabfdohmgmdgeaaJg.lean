/-
  A group argument of a law, opened: its cells and its matrices. Conditions: the argument can be read as data.
-/
import Derived.Test.YtabfdohmgmdgeaaJb
import Derived.Test.YtabfdohmgmdgeaaGy
namespace Go.Proofs.Ytabfdohmgmdgeaa
open Go.ChangeShapes Go.WideShapes Go.ChangeAt Go.RowKit Go.Sort Go.Joins Go.Deep

section
variable {H : Type} {enc : TypeId × Value → H} {w : World} {spare : Nat → Bool} {held : Bool}

theorem cellsLGroup : Try.prog.cellsOf 24 = 3 := by kernel_rfl
set_option maxRecDepth 100000 in
theorem mats_of {fuel : Nat} {v : Value} {x : DataW H × List MemPlace} (h : DataW.trod enc Try.prog w 0 (fun _ => true) held fuel 22 [v] = some x) :
    ∃ L : List (Nat → Nat → Int), SlM w v L ∧ (∀ g ∈ L, Byt g) ∧ L.length ≤ 9223372036854775807 := by
  rcases open_slice Try.underlying22 h with ⟨hc, _⟩ | ⟨a, len, cap, m, n, D, Pl, hc, _, hl, hm, hmm, _, hi⟩
  · simp at hc
    subst hc
    exact ⟨[], ⟨none, 0, rfl, .inl rfl⟩, fun t ht => by simp at ht, by simp⟩
  · simp at hc
    subst hc
    unfold maxLen at hm
    simp at hmm
    subst hmm
    rw [mcellsB9] at hi
    have hex : ∀ i, i < len → ∃ g : Nat → Nat → Int, Byt g ∧ ∀ j, j < 9 → w.cell? ((a.add (i * 9)).add j) = [Value.int .u8 (g 0 0), .int .u8 (g 0 1), .int .u8 (g 0 2), .int .u8 (g 1 0), .int .u8 (g 1 1), .int .u8 (g 1 2), .int .u8 (g 2 0), .int .u8 (g 2 1), .int .u8 (g 2 2)][j]? := fun i hil => by
      obtain ⟨cs, hcs, ht⟩ := hi i (by omega)
      obtain ⟨g, e, hb⟩ := mbytes9_of ht
      obtain ⟨_, _, hat⟩ := World.cells?_some hcs
      exact ⟨g, hb, fun j hj => by rw [hat j hj, e]⟩
    obtain ⟨F, hF⟩ := choose_lt hex
    refine ⟨(List.range len).map F, ⟨some a, m, by simp, ?_⟩, fun t ht => ?_, by simp; omega⟩
    · by_cases h0 : len = 0
      · left; simp [h0]
      · right
        have hc0 := (hF 0 (by omega)).2 0 (by omega)
        obtain ⟨b, off, spot⟩ := a
        have hspot : spot = none := by
          have := World.cell?_spot (w := w) (a := ⟨b, off, spot⟩) (by simpa [Addr.add] using hc0)
          exact this
        subst hspot
        refine ⟨b, off, rfl, World.block_lt_of_cell? (w := w) (a := ⟨b, off, none⟩) (by simpa [Addr.add] using hc0), fun k hk i j hi3 hj3 => ?_⟩
        have hkl : k < len := by simpa using hk
        have g0 := (hF k hkl).2 (i * 3 + j) (by omega)
        rw [Go.WideShapes.add_plain, Go.WideShapes.add_plain] at g0
        simp only [List.getElem_map, List.getElem_range]
        rw [g0]
        have hi' : i = 0 ∨ i = 1 ∨ i = 2 := by omega
        have hj' : j = 0 ∨ j = 1 ∨ j = 2 := by omega
        rcases hi' with rfl | rfl | rfl <;> rcases hj' with rfl | rfl | rfl <;> rfl
    · obtain ⟨i, hi', rfl⟩ := List.mem_map.1 ht
      exact (hF i (by simpa using hi')).1

set_option maxRecDepth 100000 in
/-- A group of the laws' own type, read as data: its prime, its size, its matrices. -/
theorem open_group {r : Reach} {b0 : Nat} {v : Value} {d : DataW H} {p : List MemPlace} (hv : Value.okWide Try.prog w r b0 24 v) (h : DataW.Trod enc Try.prog w 0 (fun _ => true) held 24 v d p) :
    ∃ (q n : Int) (sv : Value) (L : List (Nat → Nat → Int)), v = .agg #[.int .i64 q, .int .i64 n, sv] ∧ SlM w sv L ∧ (∀ g ∈ L, Byt g) ∧ L.length ≤ 9223372036854775807 := by
  obtain ⟨v0, v1, v2, y0, y1, y2, m, rfl, _, _, h0, h1, h2⟩ := open_agg3 Try.underlying24 (by kernel_rfl) cellsLGroup hv h
  obtain ⟨q, e0, _⟩ := gi64_of h0
  obtain ⟨n, e1, _⟩ := gi64_of h1
  obtain ⟨L, hs, hb, hn⟩ := mats_of h2
  simp at e0 e1
  subst e0 e1
  exact ⟨q, n, v2, L, rfl, hs, hb, hn⟩
end
theorem readGrp : Try.prog.readableRec 24 = true ∧ 24 < Try.prog.types.size := ⟨by kernel_rfl, of_decide_eq_true (by kernel_rfl)⟩
end Go.Proofs.Ytabfdohmgmdgeaa
