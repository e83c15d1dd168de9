/-
  KEYS: three bytes as a map's key. Conditions: as each theorem states.
-/
import Derived.Test.YtphgpadpffigjaaC
import Derived.Maps.Own
import Derived.Maps.OwnOps
import Derived.Maps.RangeWalk
import Derived.Maps.Views
import Derived.DeepKeys4
namespace Go.Proofs.Ytphgpadpffigjaa
open Go.RowKit Go.Sort Go.Maps

theorem laidOutK : laidOutB Try.prog = true := by kernel_rfl
theorem rowK : (75 : TypeId) < Try.prog.types.size := of_decide_eq_true (by kernel_rfl)
theorem lawK : Keyed Try.prog 75 := Keyed.of_law (deep_law_laid laidOutK (m := 2) (by omega) rowK (by kernel_rfl) (by rw [Try.underlying75]))
theorem keyTypeK : Try.prog.keyType 75 = true := by kernel_rfl
theorem zero64 (w : World) : (zeroValue 2).run Try.prog w = .ok (.int .i64 0) w := by kernel_rfl

/-- The value of three bytes, and what it reads as. -/
def vE (e : Int × Int × Int) : Value := .agg #[.int .u8 e.1, .int .u8 e.2.1, .int .u8 e.2.2]
def kE (e : Int × Int × Int) : Lit := .string (keyBytes [.int .u8 e.1, .int .u8 e.2.1, .int .u8 e.2.2])
abbrev B3 := { e : Int × Int × Int // byte3 e }
instance : Inhabited B3 := ⟨⟨(0, 0, 0), by simp [byte3]⟩⟩

theorem fuelK : ∃ m, Try.prog.types.size = m + 1 := Nat.exists_eq_succ_of_ne_zero (Nat.ne_of_gt (Nat.lt_of_le_of_lt (Nat.zero_le _) rowK))
theorem cellsK : Try.prog.cellsOf 75 = 3 := by kernel_rfl
theorem cells8 : Try.prog.cellsOf 5 = 1 := by kernel_rfl

theorem keyLits_u8 (m : Nat) (v : Value) : Try.prog.keyLits (m + 1) 5 [v] = match v with | .int .u8 n => if (Lit.int .u8 n).wf = true then some [.int .u8 n] else none | _ => none := by
  cases v with
  | int k n => cases k <;> simp [Program.keyLits, Try.underlying5]
  | _ => simp [Program.keyLits, Try.underlying5]
theorem keyLits_exps (m : Nat) (a b c : Value) : Try.prog.keyLits (m + 2) 75 [a, b, c] = (Try.prog.keyLits (m + 1) 5 [a]).bind fun x => (Try.prog.keyLits (m + 1) 5 [b]).bind fun y => (Try.prog.keyLits (m + 1) 5 [c]).bind fun z => some (x ++ (y ++ z)) := by
  rw [Program.keyLits.eq_def]
  simp only [Try.underlying75, cellsK, cells8, show List.range 3 = [0, 1, 2] from rfl, List.length_cons, List.length_nil, Nat.zero_add, Nat.reduceAdd, if_true, List.mapM_cons, List.mapM_nil, Nat.zero_mul, Nat.one_mul, List.drop_zero, List.take_succ_cons, List.take_zero, Nat.reduceMul, List.drop_succ_cons]
  generalize Try.prog.keyLits (m + 1) 5 [a] = x
  generalize Try.prog.keyLits (m + 1) 5 [b] = y
  generalize Try.prog.keyLits (m + 1) 5 [c] = z
  cases x <;> cases y <;> cases z <;> simp
theorem wf8 {n : Int} : (Lit.int .u8 n).wf = true ↔ 0 ≤ n ∧ n ≤ 255 := by
  simp [Lit.wf, IntKind.min, IntKind.max, IntKind.bits, IntKind.signed]
theorem keyOf_vE (e : Int × Int × Int) (h : byte3 e) : keyOf Try.prog 75 (vE e) = some (kE e) := by
  obtain ⟨m, hm⟩ := fuelK
  obtain ⟨h1, h2, h3⟩ := h
  simp [keyOf, Try.underlying75, keyTypeK, vE, Value.formed, cellsK, Value.cells, hm, keyLits_exps, keyLits_u8, wf8.2 h1, wf8.2 h2, wf8.2 h3, kE]
theorem list3 {α : Type} (l : List α) (h : l.length = 3) : ∃ a b c, l = [a, b, c] := by
  match l, h with
  | [a, b, c], _ => exact ⟨a, b, c, rfl⟩
theorem invK (key : Value) (kl : Lit) (h : keyOf Try.prog 75 key = some kl) : ∃ x : B3, key = vE x.1 := by
  obtain ⟨m, hm⟩ := fuelK
  cases key with
  | agg cs =>
    obtain ⟨l⟩ := cs
    simp only [keyOf, Try.underlying75, keyTypeK, Value.formed, cellsK, Value.cells, hm, Bool.true_and] at h
    split at h
    · rename_i hl
      obtain ⟨a, b, c, rfl⟩ := list3 l (by simpa using hl)
      rw [keyLits_exps, keyLits_u8, keyLits_u8, keyLits_u8] at h
      cases a with
      | int ka na =>
        cases ka <;> try (simp at h; done)
        cases b with
        | int kb nb =>
          cases kb <;> try (simp at h; done)
          cases c with
          | int kc nc =>
            cases kc <;> try (simp at h; done)
            simp only [wf8] at h
            by_cases ha : 0 ≤ na ∧ na ≤ 255
            · by_cases hb : 0 ≤ nb ∧ nb ≤ 255
              · by_cases hc : 0 ≤ nc ∧ nc ≤ 255
                · exact ⟨⟨(na, nb, nc), ha, hb, hc⟩, rfl⟩
                · simp [hc] at h
              · simp [hb] at h
            · simp [ha] at h
          | _ => simp at h
        | _ => simp at h
      | _ => simp at h
    · cases h
  | _ => simp [keyOf, Try.underlying75, Value.formed] at h
theorem kE_inj {a b : Int × Int × Int} (ha : byte3 a) (hb : byte3 b) (h : kE a = kE b) : a = b := by
  have := lawK.inj (keyOf_vE a ha) (h ▸ keyOf_vE b hb)
  simp [vE] at this
  exact Prod.ext this.1 (Prod.ext this.2.1 this.2.2)
theorem kE_key (e : Int × Int × Int) : WideAt.IsKeyLit (kE e) := trivial
end Go.Proofs.Ytphgpadpffigjaa
