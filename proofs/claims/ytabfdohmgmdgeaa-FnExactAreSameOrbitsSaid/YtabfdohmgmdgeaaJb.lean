/-
  A matrix argument of a law, opened. Conditions: the argument can be read as data.
-/
import Derived.Test.YtabfdohmgmdgeaaEn
import Derived.Test.YtabfdohmgmdgeaaLd
namespace Go.Proofs.Ytabfdohmgmdgeaa
open Go.ChangeShapes Go.WideShapes Go.ChangeAt Go.RowKit Go.Sort Go.Joins Go.Deep

section
variable {H : Type} {enc : TypeId × Value → H} {w : World} {spare : Nat → Bool} {held : Bool}

theorem mcellsB9 : Try.prog.cellsOf 55 = 9 := by kernel_rfl
theorem mcellsB3 : Try.prog.cellsOf 54 = 3 := by kernel_rfl
theorem mcellsU8 : Try.prog.cellsOf 5 = 1 := by kernel_rfl

theorem mu8_of {fuel : Nat} {cs : List Value} {x : DataW H × List MemPlace} (h : DataW.trod enc Try.prog w 0 spare held fuel 5 cs = some x) : ∃ n, cs = [.int .u8 n] ∧ 0 ≤ n ∧ n ≤ 255 := by
  obtain ⟨n, hc, _, hw⟩ := DataW.trod_int Try.underlying5 h
  simp [Lit.wf, IntKind.min, IntKind.max, IntKind.signed, IntKind.bits] at hw
  exact ⟨n, hc, hw.1, by omega⟩
set_option maxRecDepth 100000 in
theorem mbytes3_of {fuel : Nat} {cs : List Value} {x : DataW H × List MemPlace} (h : DataW.trod enc Try.prog w 0 spare held fuel 54 cs = some x) :
    ∃ a b c, cs = [.int .u8 a, .int .u8 b, .int .u8 c] ∧ (0 ≤ a ∧ a ≤ 255) ∧ (0 ≤ b ∧ b ≤ 255) ∧ (0 ≤ c ∧ c ≤ 255) := by
  obtain ⟨xs, m, _, _, hlen, hx, hi⟩ := DataW.trod_array Try.underlying54 h
  rw [mcellsB3] at hlen
  match cs, hlen with
  | [c0, c1, c2], _ =>
    match xs, hx with
    | [y0, y1, y2], _ =>
      have h0 := hi 0 (by omega)
      have h1 := hi 1 (by omega)
      have h2 := hi 2 (by omega)
      simp [mcellsU8] at h0 h1 h2
      obtain ⟨a, ea, ha⟩ := mu8_of h0
      obtain ⟨b, eb, hb⟩ := mu8_of h1
      obtain ⟨c, ec, hc⟩ := mu8_of h2
      simp at ea eb ec
      exact ⟨a, b, c, by simp [ea, eb, ec], ha, hb, hc⟩
/-- The matrix of nine numbers. -/
def mk9 (a b c d e f x y z : Int) (i j : Nat) : Int := if i = 0 then (if j = 0 then a else if j = 1 then b else c) else if i = 1 then (if j = 0 then d else if j = 1 then e else f) else if j = 0 then x else if j = 1 then y else z
set_option maxRecDepth 100000 in
theorem mbytes9_of {fuel : Nat} {cs : List Value} {x : DataW H × List MemPlace} (h : DataW.trod enc Try.prog w 0 spare held fuel 55 cs = some x) :
    ∃ g : Nat → Nat → Int, cs = [.int .u8 (g 0 0), .int .u8 (g 0 1), .int .u8 (g 0 2), .int .u8 (g 1 0), .int .u8 (g 1 1), .int .u8 (g 1 2), .int .u8 (g 2 0), .int .u8 (g 2 1), .int .u8 (g 2 2)] ∧ Byt g := by
  obtain ⟨xs, m, _, _, hlen, hx, hi⟩ := DataW.trod_array Try.underlying55 h
  rw [mcellsB9] at hlen
  match cs, hlen with
  | [c0, c1, c2, c3, c4, c5, c6, c7, c8], _ =>
    match xs, hx with
    | [y0, y1, y2], _ =>
      have h0 := hi 0 (by omega)
      have h1 := hi 1 (by omega)
      have h2 := hi 2 (by omega)
      simp [mcellsB3] at h0 h1 h2
      obtain ⟨a, b, c, e0, ha, hb, hc⟩ := mbytes3_of h0
      obtain ⟨d, e, f, e1, hd, he, hf⟩ := mbytes3_of h1
      obtain ⟨x, y, z, e2, hx, hy, hz⟩ := mbytes3_of h2
      simp at e0 e1 e2
      refine ⟨mk9 a b c d e f x y z, by simp [mk9, e0, e1, e2], fun i hi j hj => ?_⟩
      have hi3 : i = 0 ∨ i = 1 ∨ i = 2 := by omega
      have hj3 : j = 0 ∨ j = 1 ∨ j = 2 := by omega
      rcases hi3 with rfl | rfl | rfl <;> rcases hj3 with rfl | rfl | rfl <;> simp [mk9] <;> assumption
theorem okWide_array' {P : Program} {r : Reach} {b0 : Nat} {t e : TypeId} {n : Nat} {v : Value} (ht : P.underlying t = some (.array n e)) (h : Value.okWide P w r b0 t v) : ∃ cs, v = .agg cs ∧ cs.size = P.cellsOf t := by
  simp only [Value.okWide, ht] at h
  obtain ⟨cs, h1, h2, _⟩ := h
  exact ⟨cs, h1, h2⟩
set_option maxRecDepth 100000 in
/-- A matrix argument: nine bytes. -/
theorem open_mat {r : Reach} {b0 : Nat} {v : Value} {d : DataW H} {p : List MemPlace} (hv : Value.okWide Try.prog w r b0 55 v) (h : DataW.Trod enc Try.prog w 0 (fun _ => true) held 55 v d p) :
    ∃ g, v = mv g ∧ Byt g := by
  obtain ⟨cs, rfl, hsz⟩ := okWide_array' Try.underlying55 hv
  obtain ⟨fuel, hf⟩ := h
  obtain ⟨g, hg, hb⟩ := mbytes9_of hf
  refine ⟨g, ?_, hb⟩
  unfold mv
  congr 1
  simp [Value.cells] at hg
  exact Array.toList_inj.1 hg

end

theorem readMat : Try.prog.readableRec 55 = true ∧ 55 < Try.prog.types.size := ⟨by kernel_rfl, of_decide_eq_true (by kernel_rfl)⟩
end Go.Proofs.Ytabfdohmgmdgeaa
