/-
  WALKS: 'impl.ReduceRows'. Conditions: as each theorem states.
-/
import Derived.Test.YtbahejlgfpilnaaVa
import Derived.Test.YtbahejlgfpilnaaVd
import Derived.Test.YtbahejlgfpilnaaVea
import Derived.Test.YtbahejlgfpilnaaRq
namespace Go.Proofs.Ytbahejlgfpilnaa
open Go.RowKit Go.Sort EchM

theorem infoW : (Try.prog.info? 160).map (fun i => (i.size, i.bytes)) = some (100, 800) := by kernel_rfl
theorem zeroW : ((Try.prog.info? 160).bind (·.zero)).map (·.cells) = some (rowV (fun _ => 0) 0).toArray := by kernel_rfl
/-- A table made. -/
def madeW (n : Nat) : Array Value := madeCells (rowV (fun _ => 0) 0).toArray (n * 100)
theorem madeW_row (w : World) (n : Nat) (t : TypeId) : (w.alloc (.cells (madeW n) t)).rowIs w.heap.size t (n * 100) (gV fun _ => 0) := by
  have hs : (madeW n).size = n * 100 := by simp [madeW, madeCells]
  refine ⟨madeW n, heap_alloc_new w _, hs, fun i hi => ?_⟩
  have h1 : i % 100 < 100 := by omega
  simp only [madeW, madeCells]
  rw [Array.getElem?_map, Array.getElem?_range, if_pos hi]
  simp [rowV, gV, h1]
theorem make_wide (n : Nat) (hn : n ≤ 100) (w : World) : (Instr.makeSlice 158 (.int .i64 (n : Int)) (.int .i64 (n : Int))).run Try.prog w = .ok (.slice (some ⟨w.heap.size, 0, none⟩) n n) (w.alloc (.cells (madeW n) 160)) := by
  have h1 := infoW
  have h2 := zeroW
  cases hi : Try.prog.info? 160 with
  | none => rw [hi] at h1; cases h1
  | some i =>
    rw [hi] at h1 h2
    simp only [Option.map_some, Option.bind_some, Option.some.injEq, Prod.mk.injEq] at h1 h2
    obtain ⟨z, hz, hzc⟩ := Option.map_eq_some_iff.1 h2
    have h := run_make (P := Try.prog) w 158 160 i z Try.underlying158 hi hz .i64 .i64 (n : Int) (n : Int) (by omega) (by omega) (by rw [h1.2]; omega) (by omega)
    rw [h1.1, hzc] at h
    simpa [madeW] using h
/-- The rows before k in the table. -/
def tabOf (L : List (List Int)) (k : Nat) (i j : Nat) : Int := if i < k then padF (L.getD i []) j else 0
theorem tab_put (L : List (List Int)) (k : Nat) (hk : k < L.length) (G : Nat → Int) (h : ∀ i j, j < 100 → tG G i j = tabOf L k i j) : ∀ i j, j < 100 → tG (cpG (k * 100) 0 (padF L[k]) G) i j = tabOf L (k + 1) i j := fun i j hj => by
  have hd : L.getD k [] = L[k] := by simp [List.getD, hk]
  by_cases e : i = k
  · subst e
    unfold tG cpG tabOf
    rw [if_pos (by omega), if_pos (by omega), hd, show 0 + (i * 100 + j - i * 100) = j by omega]
  · have h1 : tG (cpG (k * 100) 0 (padF L[k]) G) i j = tG G i j := by
      unfold tG cpG
      rw [if_neg (by omega)]
    rw [h1, h i j hj]
    unfold tabOf
    by_cases e2 : i < k
    · rw [if_pos e2, if_pos (by omega)]
    · rw [if_neg e2, if_neg (by omega)]
theorem pad_row {l : List Int} {n : Nat} (h : l.length = n) : rowF n (padF l) = l := ext_nth (by rw [len_rowF, h]) fun j hj => by
  rw [len_rowF] at hj
  rw [nth_rowF _ hj]
  rfl
theorem tab_rows {L : List (List Int)} {n : Nat} (hn : n ≤ 100) (hL : ∀ l ∈ L, l.length = n) (G : Nat → Int) (h : ∀ i j, j < 100 → tG G i j = tabOf L L.length i j) : (List.range L.length).map (fun i => rowF n (tG G i)) = L := by
  apply List.ext_getElem (by simp)
  intro i h1 h2
  simp only [List.getElem_map, List.getElem_range]
  have e : rowF n (tG G i) = rowF n (padF L[i]) := ext_nth (by simp [len_rowF]) fun j hj => by
    rw [len_rowF] at hj
    rw [nth_rowF _ hj, nth_rowF _ hj, h i j (by omega)]
    unfold tabOf
    rw [if_pos h2]
    simp [List.getD, h2]
  rw [e, pad_row (hL _ (List.getElem_mem h2))]
theorem tab_num {L : List (List Int)} {p : Int} {n : Nat} (hn : n ≤ 100) (hL : ∀ l ∈ L, InP p n l) (G : Nat → Int) (h : ∀ i j, j < 100 → tG G i j = tabOf L L.length i j) : ∀ i, i < L.length → ∀ j, j < n → 0 ≤ tG G i j ∧ tG G i j < p := fun i hi j hj => by
  rw [h i j (by omega)]
  unfold tabOf
  rw [if_pos hi]
  have hI := hL _ (List.getElem_mem hi)
  have hj2 : j < L[i].length := by rw [hI.1]; exact hj
  have : padF (L.getD i []) j = L[i][j] := by simp [padF, List.getD, hi, hj2]
  rw [this]
  exact hI.2 _ (List.getElem_mem hj2)
/-- The part of a wide row that is asked. -/
theorem row_sl {w : World} {B M n : Nat} {t : TypeId} {G : Nat → Int} (h : w.rowIs B t M (gV G)) (hn : n ≤ M) (cap : Nat) : Sl w (.slice (some ⟨B, 0, none⟩) n cap) (rowF n G) := by
  refine ⟨_, cap, by rw [len_rowF], .inr ⟨B, 0, rfl, h.lt, fun k hk => ?_⟩⟩
  have hk' : k < n := by rw [len_rowF] at hk; exact hk
  rw [Nat.zero_add, h.cell (by omega)]
  simp [gV, rowF]
end Go.Proofs.Ytbahejlgfpilnaa
