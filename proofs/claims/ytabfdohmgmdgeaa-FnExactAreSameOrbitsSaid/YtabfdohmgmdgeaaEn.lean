/-
  MATRICES as values and in memory. Conditions: as each theorem states.
-/
import Derived.Test.YtabfdohmgmdgeaaEz
namespace Go.Proofs.Ytabfdohmgmdgeaa
open Go.RowKit Go.Sort EchM

/-- A matrix as a value; its cells. -/
def mv (g : Nat → Nat → Int) : Value := .agg #[.int .u8 (g 0 0), .int .u8 (g 0 1), .int .u8 (g 0 2), .int .u8 (g 1 0), .int .u8 (g 1 1), .int .u8 (g 1 2), .int .u8 (g 2 0), .int .u8 (g 2 1), .int .u8 (g 2 2)]
def mF (g : Nat → Nat → Int) (q : Nat) : Value := .int .u8 (g (q / 3) (q % 3))
def Byt (g : Nat → Nat → Int) : Prop := ∀ i, i < 3 → ∀ j, j < 3 → 0 ≤ g i j ∧ g i j ≤ 255
theorem mbox (w : World) (g : Nat → Nat → Int) (t : TypeId) :
    (w.alloc (.cells #[.int .u8 (g 0 0), .int .u8 (g 0 1), .int .u8 (g 0 2), .int .u8 (g 1 0), .int .u8 (g 1 1), .int .u8 (g 1 2), .int .u8 (g 2 0), .int .u8 (g 2 1), .int .u8 (g 2 2)] t)).rowIs w.heap.size t 9 (mF g) :=
  World.rowIs_alloc w #[Value.int .u8 (g 0 0), .int .u8 (g 0 1), .int .u8 (g 0 2), .int .u8 (g 1 0), .int .u8 (g 1 1), .int .u8 (g 1 2), .int .u8 (g 2 0), .int .u8 (g 2 1), .int .u8 (g 2 2)] _ _ (fun i hi => by
    simp at hi
    match i, hi with | 0, _ => rfl | 1, _ => rfl | 2, _ => rfl | 3, _ => rfl | 4, _ => rfl | 5, _ => rfl | 6, _ => rfl | 7, _ => rfl | 8, _ => rfl)
theorem mcell {w : World} {B : Nat} {t : TypeId} {g : Nat → Nat → Int} (h : w.rowIs B t 9 (mF g)) {i j : Nat} (hi : i < 3) (hj : j < 3) : w.cell? ⟨B, i * 3 + j, none⟩ = some (.int .u8 (g i j)) := by
  rw [h.cell (by omega), mF, show (i * 3 + j) / 3 = i by omega, show (i * 3 + j) % 3 = j by omega]
theorem mcells {w : World} {B : Nat} {t : TypeId} {g : Nat → Nat → Int} (h : w.rowIs B t 9 (mF g)) :
    (w.cell? ⟨B, 0, none⟩ = some (.int .u8 (g 0 0)) ∧ w.cell? ⟨B, 1, none⟩ = some (.int .u8 (g 0 1)) ∧ w.cell? ⟨B, 2, none⟩ = some (.int .u8 (g 0 2))) ∧
    (w.cell? ⟨B, 3, none⟩ = some (.int .u8 (g 1 0)) ∧ w.cell? ⟨B, 4, none⟩ = some (.int .u8 (g 1 1)) ∧ w.cell? ⟨B, 5, none⟩ = some (.int .u8 (g 1 2))) ∧
    (w.cell? ⟨B, 6, none⟩ = some (.int .u8 (g 2 0)) ∧ w.cell? ⟨B, 7, none⟩ = some (.int .u8 (g 2 1)) ∧ w.cell? ⟨B, 8, none⟩ = some (.int .u8 (g 2 2))) :=
  ⟨⟨h.cell (i := 0) (by omega), h.cell (i := 1) (by omega), h.cell (i := 2) (by omega)⟩, ⟨h.cell (i := 3) (by omega), h.cell (i := 4) (by omega), h.cell (i := 5) (by omega)⟩, ⟨h.cell (i := 6) (by omega), h.cell (i := 7) (by omega), h.cell (i := 8) (by omega)⟩⟩
/-- A number of a matrix is written. -/
def upd (g : Nat → Nat → Int) (i j : Nat) (a : Int) (i' j' : Nat) : Int := if i' = i ∧ j' = j then a else g i' j'
theorem mset {w : World} {B : Nat} {t : TypeId} {g : Nat → Nat → Int} (h : w.rowIs B t 9 (mF g)) {i j : Nat} (hj : j < 3) (a : Int) : (w.setCell ⟨B, i * 3 + j, none⟩ (.int .u8 a)).rowIs B t 9 (mF (upd g i j a)) := by
  refine (h.set (i * 3 + j) (.int .u8 a)).congr fun q hq => ?_
  unfold mF upd
  by_cases e : q = i * 3 + j
  · subst e
    rw [if_pos rfl, if_pos (by omega)]
  · rw [if_neg e, if_neg (by omega)]

/-- A matrix stored into a block of nine cells. -/
theorem mfill {w Z : World} {B B1 : Nat} {t : TypeId} {F : Nat → Value} (hZ : Z.rowIs B1 t 9 F) (hb : Below B w Z) (hB : B ≤ B1) (r : Nat → Nat → Int) :
    (((((((((Z.setCell ⟨B1, 0, none⟩ (.int .u8 (r 0 0))).setCell ⟨B1, 1, none⟩ (.int .u8 (r 0 1))).setCell ⟨B1, 2, none⟩ (.int .u8 (r 0 2))).setCell ⟨B1, 3, none⟩ (.int .u8 (r 1 0))).setCell ⟨B1, 4, none⟩ (.int .u8 (r 1 1))).setCell ⟨B1, 5, none⟩ (.int .u8 (r 1 2))).setCell ⟨B1, 6, none⟩ (.int .u8 (r 2 0))).setCell ⟨B1, 7, none⟩ (.int .u8 (r 2 1))).setCell ⟨B1, 8, none⟩ (.int .u8 (r 2 2))).rowIs B1 t 9 (mF r) ∧ Below B w (((((((((Z.setCell ⟨B1, 0, none⟩ (.int .u8 (r 0 0))).setCell ⟨B1, 1, none⟩ (.int .u8 (r 0 1))).setCell ⟨B1, 2, none⟩ (.int .u8 (r 0 2))).setCell ⟨B1, 3, none⟩ (.int .u8 (r 1 0))).setCell ⟨B1, 4, none⟩ (.int .u8 (r 1 1))).setCell ⟨B1, 5, none⟩ (.int .u8 (r 1 2))).setCell ⟨B1, 6, none⟩ (.int .u8 (r 2 0))).setCell ⟨B1, 7, none⟩ (.int .u8 (r 2 1))).setCell ⟨B1, 8, none⟩ (.int .u8 (r 2 2))) := by
  refine ⟨(((((((((hZ.set 0 (.int .u8 (r 0 0))).set 1 (.int .u8 (r 0 1))).set 2 (.int .u8 (r 0 2))).set 3 (.int .u8 (r 1 0))).set 4 (.int .u8 (r 1 1))).set 5 (.int .u8 (r 1 2))).set 6 (.int .u8 (r 2 0))).set 7 (.int .u8 (r 2 1))).set 8 (.int .u8 (r 2 2))).congr fun q hq => ?_, (((((((((hb.setCell (by simpa using hB) _).setCell (by simpa using hB) _).setCell (by simpa using hB) _).setCell (by simpa using hB) _).setCell (by simpa using hB) _).setCell (by simpa using hB) _).setCell (by simpa using hB) _).setCell (by simpa using hB) _).setCell (by simpa using hB) _)⟩
  match q, hq with
  | 0, _ => rfl
  | 1, _ => rfl
  | 2, _ => rfl
  | 3, _ => rfl
  | 4, _ => rfl
  | 5, _ => rfl
  | 6, _ => rfl
  | 7, _ => rfl
  | 8, _ => rfl
theorem mF_congr {w : World} {B : Nat} {t : TypeId} {g h : Nat → Nat → Int} (hr : w.rowIs B t 9 (mF g)) (e : ∀ i, i < 3 → ∀ j, j < 3 → g i j = h i j) : w.rowIs B t 9 (mF h) :=
  hr.congr fun q hq => by unfold mF; rw [e (q / 3) (by omega) (q % 3) (by omega)]
theorem mv_congr {g h : Nat → Nat → Int} (e : ∀ i, i < 3 → ∀ j, j < 3 → g i j = h i j) : mv g = mv h := by
  unfold mv
  simp [e]
/-- A matrix inside of a size. -/
def cutM (n : Nat) (H : Nat → Nat → Int) (i j : Nat) : Int := if i < n ∧ j < n then H i j else 0

/-- Whether a number fits at its place. -/
def okC (p : Int) (n : Int) (x : Int) (i j : Nat) : Bool := decide (x < p) && (decide ((i : Int) < n) && decide ((j : Int) < n) || decide (x = 0))
def hasB (p n : Int) (g : Nat → Nat → Int) : Bool := okC p n (g 0 0) 0 0 && okC p n (g 0 1) 0 1 && okC p n (g 0 2) 0 2 && (okC p n (g 1 0) 1 0 && okC p n (g 1 1) 1 1 && okC p n (g 1 2) 1 2) && (okC p n (g 2 0) 2 0 && okC p n (g 2 1) 2 1 && okC p n (g 2 2) 2 2)

theorem idx9_0 (g : Nat → Nat → Int) (w : World) : (Instr.index 56 (.agg #[.int .u8 (g 0 0), .int .u8 (g 0 1), .int .u8 (g 0 2), .int .u8 (g 1 0), .int .u8 (g 1 1), .int .u8 (g 1 2), .int .u8 (g 2 0), .int .u8 (g 2 1), .int .u8 (g 2 2)]) (.int .i64 0)).run Try.prog w = .ok (.agg #[.int .u8 (g 0 0), .int .u8 (g 0 1), .int .u8 (g 0 2)]) w := by kernel_rfl
theorem idx9_1 (g : Nat → Nat → Int) (w : World) : (Instr.index 56 (.agg #[.int .u8 (g 0 0), .int .u8 (g 0 1), .int .u8 (g 0 2), .int .u8 (g 1 0), .int .u8 (g 1 1), .int .u8 (g 1 2), .int .u8 (g 2 0), .int .u8 (g 2 1), .int .u8 (g 2 2)]) (.int .i64 1)).run Try.prog w = .ok (.agg #[.int .u8 (g 1 0), .int .u8 (g 1 1), .int .u8 (g 1 2)]) w := by kernel_rfl
theorem idx9_2 (g : Nat → Nat → Int) (w : World) : (Instr.index 56 (.agg #[.int .u8 (g 0 0), .int .u8 (g 0 1), .int .u8 (g 0 2), .int .u8 (g 1 0), .int .u8 (g 1 1), .int .u8 (g 1 2), .int .u8 (g 2 0), .int .u8 (g 2 1), .int .u8 (g 2 2)]) (.int .i64 2)).run Try.prog w = .ok (.agg #[.int .u8 (g 2 0), .int .u8 (g 2 1), .int .u8 (g 2 2)]) w := by kernel_rfl
theorem idx3_0 (f : Nat → Int) (w : World) : (Instr.index 54 (.agg #[.int .u8 (f 0), .int .u8 (f 1), .int .u8 (f 2)]) (.int .i64 0)).run Try.prog w = .ok (.int .u8 (f 0)) w := by kernel_rfl
theorem idx3_1 (f : Nat → Int) (w : World) : (Instr.index 54 (.agg #[.int .u8 (f 0), .int .u8 (f 1), .int .u8 (f 2)]) (.int .i64 1)).run Try.prog w = .ok (.int .u8 (f 1)) w := by kernel_rfl
theorem idx3_2 (f : Nat → Int) (w : World) : (Instr.index 54 (.agg #[.int .u8 (f 0), .int .u8 (f 1), .int .u8 (f 2)]) (.int .i64 2)).run Try.prog w = .ok (.int .u8 (f 2)) w := by kernel_rfl
theorem idx9 (g : Nat → Nat → Int) {k : Nat} (hk : k < 3) (w : World) : (Instr.index 56 (.agg #[.int .u8 (g 0 0), .int .u8 (g 0 1), .int .u8 (g 0 2), .int .u8 (g 1 0), .int .u8 (g 1 1), .int .u8 (g 1 2), .int .u8 (g 2 0), .int .u8 (g 2 1), .int .u8 (g 2 2)]) (.int .i64 (k : Int))).run Try.prog w = .ok (.agg #[.int .u8 (g k 0), .int .u8 (g k 1), .int .u8 (g k 2)]) w := by
  have h3 : k = 0 ∨ k = 1 ∨ k = 2 := by omega
  rcases h3 with rfl | rfl | rfl
  · exact idx9_0 g w
  · exact idx9_1 g w
  · exact idx9_2 g w
theorem idx3 (f : Nat → Int) {k : Nat} (hk : k < 3) (w : World) : (Instr.index 54 (.agg #[.int .u8 (f 0), .int .u8 (f 1), .int .u8 (f 2)]) (.int .i64 (k : Int))).run Try.prog w = .ok (.int .u8 (f k)) w := by
  have h3 : k = 0 ∨ k = 1 ∨ k = 2 := by omega
  rcases h3 with rfl | rfl | rfl
  · exact idx3_0 f w
  · exact idx3_1 f w
  · exact idx3_2 f w
theorem hasB_no {p n : Int} {g : Nat → Nat → Int} {i j : Nat} (hi : i < 3) (hj : j < 3) (h : okC p n (g i j) i j = false) : hasB p n g = false := by
  have hi3 : i = 0 ∨ i = 1 ∨ i = 2 := by omega
  have hj3 : j = 0 ∨ j = 1 ∨ j = 2 := by omega
  unfold hasB
  rcases hi3 with rfl | rfl | rfl <;> rcases hj3 with rfl | rfl | rfl <;> rw [h] <;> simp
theorem hasB_yes {p n : Int} {g : Nat → Nat → Int} (h : ∀ i, i < 3 → ∀ j, j < 3 → okC p n (g i j) i j = true) : hasB p n g = true := by
  unfold hasB
  simp [h]
theorem okC_no {p n x : Int} {i j : Nat} (h : p ≤ x ∨ (n ≤ i ∨ n ≤ j) ∧ x ≠ 0) : okC p n x i j = false := by
  unfold okC
  simp only [Bool.and_eq_false_iff, Bool.or_eq_false_iff, decide_eq_false_iff_not]
  omega
theorem okC_yes {p n x : Int} {i j : Nat} (h1 : x < p) (h : (i < n ∧ j < n) ∨ x = 0) : okC p n x i j = true := by
  unfold okC
  simp only [Bool.and_eq_true, Bool.or_eq_true, decide_eq_true_eq]
  omega
end Go.Proofs.Ytabfdohmgmdgeaa
