/-
  KEYS: nine bytes (a matrix) as a map's key. Conditions: as each theorem states.
-/
import Derived.Test.YtpbdbgajohacoaaGf
import Derived.Maps.Own
import Derived.Maps.OwnOps
import Derived.Maps.RangeWalk
import Derived.Maps.Views
import Derived.DeepKeys4
namespace Go.Proofs.Ytpbdbgajohacoaa
open Go.RowKit Go.Sort Go.Maps EchM

theorem laidOutM : laidOutB Try.prog = true := by kernel_rfl
theorem cells8M : Try.prog.cellsOf 5 = 1 := by kernel_rfl
theorem wf8M {n : Int} : (Lit.int .u8 n).wf = true ↔ 0 ≤ n ∧ n ≤ 255 := by
  simp [Lit.wf, IntKind.min, IntKind.max, IntKind.bits, IntKind.signed]
theorem keyLits_u8M (m : Nat) (v : Value) : Try.prog.keyLits (m + 1) 5 [v] = match v with | .int .u8 n => if (Lit.int .u8 n).wf = true then some [.int .u8 n] else none | _ => none := by
  cases v with
  | int k n => cases k <;> simp [Program.keyLits, Try.underlying5]
  | _ => simp [Program.keyLits, Try.underlying5]
theorem rowMK : (55 : TypeId) < Try.prog.types.size := of_decide_eq_true (by kernel_rfl)
theorem lawM : Keyed Try.prog 55 := Keyed.of_law (deep_law_laid laidOutM (m := 3) (by omega) rowMK (by kernel_rfl) (by rw [Try.underlying55]))
theorem keyTypeM : Try.prog.keyType 55 = true := by kernel_rfl

/-- The value of nine bytes, and what it reads as. -/
def lM (g : Nat → Nat → Int) : List Lit := [.int .u8 (g 0 0), .int .u8 (g 0 1), .int .u8 (g 0 2), .int .u8 (g 1 0), .int .u8 (g 1 1), .int .u8 (g 1 2), .int .u8 (g 2 0), .int .u8 (g 2 1), .int .u8 (g 2 2)]
def kM (g : Nat → Nat → Int) : Lit := .string (keyBytes (lM g))
def byteM (g : Nat → Nat → Int) : Prop := ∀ i j, i < 3 → j < 3 → 0 ≤ g i j ∧ g i j ≤ 255
abbrev BM := { g : Nat → Nat → Int // byteM g }
instance : Inhabited BM := ⟨⟨fun _ _ => 0, fun _ _ _ _ => by simp⟩⟩

theorem fuelM : ∃ m, Try.prog.types.size = m + 2 := ⟨Try.prog.types.size - 2, by have : 2 ≤ Try.prog.types.size := of_decide_eq_true (by kernel_rfl); omega⟩
theorem cellsM : Try.prog.cellsOf 55 = 9 := by kernel_rfl
theorem cells3 : Try.prog.cellsOf 52 = 3 := by kernel_rfl
theorem keyLits_row (m : Nat) (a b c : Value) : Try.prog.keyLits (m + 2) 52 [a, b, c] = (Try.prog.keyLits (m + 1) 5 [a]).bind fun x => (Try.prog.keyLits (m + 1) 5 [b]).bind fun y => (Try.prog.keyLits (m + 1) 5 [c]).bind fun z => some (x ++ (y ++ z)) := by
  rw [Program.keyLits.eq_def]
  simp only [Try.underlying52, cells3, cells8M, show List.range 3 = [0, 1, 2] from rfl, List.length_cons, List.length_nil, Nat.zero_add, Nat.reduceAdd, if_true, List.mapM_cons, List.mapM_nil, Nat.zero_mul, Nat.one_mul, List.drop_zero, List.take_succ_cons, List.take_zero, Nat.reduceMul, List.drop_succ_cons]
  generalize Try.prog.keyLits (m + 1) 5 [a] = x
  generalize Try.prog.keyLits (m + 1) 5 [b] = y
  generalize Try.prog.keyLits (m + 1) 5 [c] = z
  cases x <;> cases y <;> cases z <;> simp
theorem keyLits_mat (m : Nat) (a0 a1 a2 b0 b1 b2 c0 c1 c2 : Value) : Try.prog.keyLits (m + 3) 55 [a0, a1, a2, b0, b1, b2, c0, c1, c2] = (Try.prog.keyLits (m + 2) 52 [a0, a1, a2]).bind fun x => (Try.prog.keyLits (m + 2) 52 [b0, b1, b2]).bind fun y => (Try.prog.keyLits (m + 2) 52 [c0, c1, c2]).bind fun z => some (x ++ (y ++ z)) := by
  rw [Program.keyLits.eq_def]
  simp only [Try.underlying55, cellsM, cells3, show List.range 3 = [0, 1, 2] from rfl, List.length_cons, List.length_nil, Nat.zero_add, Nat.reduceAdd, if_true, List.mapM_cons, List.mapM_nil, Nat.zero_mul, Nat.one_mul, List.drop_zero, List.take_succ_cons, List.take_zero, Nat.reduceMul, List.drop_succ_cons]
  generalize Try.prog.keyLits (m + 2) 52 [a0, a1, a2] = x
  generalize Try.prog.keyLits (m + 2) 52 [b0, b1, b2] = y
  generalize Try.prog.keyLits (m + 2) 52 [c0, c1, c2] = z
  cases x <;> cases y <;> cases z <;> simp
/-- One byte, the other way. -/
theorem u8_inv {m : Nat} {v : Value} {ls : List Lit} (h : Try.prog.keyLits (m + 1) 5 [v] = some ls) : ∃ n : Int, v = .int .u8 n ∧ (0 ≤ n ∧ n ≤ 255) := by
  rw [keyLits_u8M] at h
  cases v with
  | int k n =>
    cases k <;> try (simp at h; done)
    by_cases hn : 0 ≤ n ∧ n ≤ 255
    · exact ⟨n, rfl, hn⟩
    · simp [wf8M, hn] at h
  | _ => simp at h
theorem row_inv {m : Nat} {a b c : Value} {ls : List Lit} (h : Try.prog.keyLits (m + 2) 52 [a, b, c] = some ls) : ∃ x y z : Int, a = .int .u8 x ∧ b = .int .u8 y ∧ c = .int .u8 z ∧ (0 ≤ x ∧ x ≤ 255) ∧ (0 ≤ y ∧ y ≤ 255) ∧ (0 ≤ z ∧ z ≤ 255) := by
  rw [keyLits_row] at h
  obtain ⟨_, h1, h⟩ := Option.bind_eq_some_iff.1 h
  obtain ⟨_, h2, h⟩ := Option.bind_eq_some_iff.1 h
  obtain ⟨_, h3, h⟩ := Option.bind_eq_some_iff.1 h
  obtain ⟨x, rfl, hx⟩ := u8_inv h1
  obtain ⟨y, rfl, hy⟩ := u8_inv h2
  obtain ⟨z, rfl, hz⟩ := u8_inv h3
  exact ⟨x, y, z, rfl, rfl, rfl, hx, hy, hz⟩
theorem keyOf_mv (g : Nat → Nat → Int) (h : byteM g) : keyOf Try.prog 55 (mv g) = some (kM g) := by
  obtain ⟨m, hm⟩ := fuelM
  have q := fun i j hi hj => wf8M.2 (h i j hi hj)
  simp [keyOf, Try.underlying55, keyTypeM, mv, Value.formed, cellsM, Value.cells, hm, keyLits_mat, keyLits_row, keyLits_u8M, q, kM, lM]
theorem list9 {α : Type} (l : List α) (h : l.length = 9) : ∃ a0 a1 a2 b0 b1 b2 c0 c1 c2, l = [a0, a1, a2, b0, b1, b2, c0, c1, c2] := by
  match l, h with
  | [a0, a1, a2, b0, b1, b2, c0, c1, c2], _ => exact ⟨a0, a1, a2, b0, b1, b2, c0, c1, c2, rfl⟩
theorem invM (key : Value) (kl : Lit) (h : keyOf Try.prog 55 key = some kl) : ∃ x : BM, key = mv x.1 := by
  obtain ⟨m, hm⟩ := fuelM
  cases key with
  | agg cs =>
    obtain ⟨l⟩ := cs
    simp only [keyOf, Try.underlying55, keyTypeM, Value.formed, cellsM, Value.cells, hm, Bool.true_and] at h
    split at h
    · rename_i hl
      obtain ⟨a0, a1, a2, b0, b1, b2, c0, c1, c2, rfl⟩ := list9 l (by simpa using hl)
      rw [keyLits_mat] at h
      cases h1 : Try.prog.keyLits (m + 2) 52 [a0, a1, a2] with
      | none => simp [h1] at h
      | some l1 =>
        cases h2 : Try.prog.keyLits (m + 2) 52 [b0, b1, b2] with
        | none => simp [h1, h2] at h
        | some l2 =>
          cases h3 : Try.prog.keyLits (m + 2) 52 [c0, c1, c2] with
          | none => simp [h1, h2, h3] at h
          | some l3 =>
            obtain ⟨x0, x1, x2, rfl, rfl, rfl, hx0, hx1, hx2⟩ := row_inv h1
            obtain ⟨y0, y1, y2, rfl, rfl, rfl, hy0, hy1, hy2⟩ := row_inv h2
            obtain ⟨z0, z1, z2, rfl, rfl, rfl, hz0, hz1, hz2⟩ := row_inv h3
            refine ⟨⟨fun i j => ([x0, x1, x2, y0, y1, y2, z0, z1, z2] : List Int).getD (i * 3 + j) 0, fun i j hi hj => ?_⟩, rfl⟩
            have hi' : i = 0 ∨ i = 1 ∨ i = 2 := by omega
            have hj' : j = 0 ∨ j = 1 ∨ j = 2 := by omega
            rcases hi' with rfl | rfl | rfl <;> rcases hj' with rfl | rfl | rfl <;> assumption
    · cases h
  | _ => simp [keyOf, Try.underlying55, Value.formed] at h
theorem kM_inj {g h : Nat → Nat → Int} (hg : byteM g) (hh : byteM h) (e : kM g = kM h) : ∀ i j, i < 3 → j < 3 → g i j = h i j := by
  have := lawM.inj (keyOf_mv g hg) (e ▸ keyOf_mv h hh)
  simp [mv] at this
  obtain ⟨e0, e1, e2, e3, e4, e5, e6, e7, e8⟩ := this
  intro i j hi hj
  have hi' : i = 0 ∨ i = 1 ∨ i = 2 := by omega
  have hj' : j = 0 ∨ j = 1 ∨ j = 2 := by omega
  rcases hi' with rfl | rfl | rfl <;> rcases hj' with rfl | rfl | rfl <;> assumption
theorem kM_congr {g h : Nat → Nat → Int} (e : ∀ i j, i < 3 → j < 3 → g i j = h i j) : kM g = kM h := by
  have q := fun i j hi hj => e i j hi hj
  simp [kM, lM, q]
theorem kM_key (g : Nat → Nat → Int) : WideAt.IsKeyLit (kM g) := trivial
end Go.Proofs.Ytpbdbgajohacoaa
