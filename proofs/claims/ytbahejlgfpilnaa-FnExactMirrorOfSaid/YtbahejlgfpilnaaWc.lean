/-
  WALKS on tables of wide rows: 'impl.eliminate$1', slices.IndexFunc at it. Conditions: as each theorem states.
-/
import Derived.Test.YtbahejlgfpilnaaWb
import Derived.Deep.MidRow
namespace Go.Proofs.Ytbahejlgfpilnaa
open Go.RowKit Go.Sort EchM

/-- The cells of a wide row. -/
def rowV (G : Nat → Int) (o : Nat) : List Value := (List.range 100).map fun j => .int .i64 (G (o + j))
theorem rowV_len (G : Nat → Int) (o : Nat) : (rowV G o).length = 100 := by simp [rowV]
theorem rowV_at (G : Nat → Int) (o j : Nat) (h : j < 100) : (rowV G o)[j]? = some (.int .i64 (G (o + j))) := by simp [rowV, h]
theorem rowV_one (G : Nat → Int) (o : Nat) : ∀ v ∈ rowV G o, v.oneCell' = true := by
  intro v hv
  simp only [rowV, List.mem_map] at hv
  obtain ⟨j, _, rfl⟩ := hv
  rfl
theorem tab_range {w : World} {b M o : Nat} {t : TypeId} {G : Nat → Int} (h : w.rowIs b t M (gV G)) (ho : o + 100 ≤ M) : w.rangeAt b o (rowV G o) := fun j v hv => by
  have hj : j < 100 := by
    rcases Nat.lt_or_ge j 100 with h1 | h1
    · exact h1
    · rw [List.getElem?_eq_none (by rw [rowV_len]; exact h1)] at hv; cases hv
  rw [rowV_at G o j hj] at hv
  cases hv
  exact h.cell (i := o + j) (by omega)
theorem wide_size (G : Nat → Int) (o : Nat) : (Try.prog.info? 160).map (·.size) = some (rowV G o).length := by
  rw [rowV_len]
  kernel_rfl
theorem wide_box (w : World) (G : Nat → Int) (o : Nat) : (w.alloc (.cells (rowV G o).toArray 160)).rowIs w.heap.size 160 100 (fun j => .int .i64 (G (o + j))) := by
  have h := World.rowIs_alloc w (rowV G o).toArray 160 (fun j => .int .i64 (G (o + j))) (fun i hi => by
    rw [List.getElem?_toArray]
    exact rowV_at G o i (by simpa [rowV_len] using hi))
  simpa [rowV_len] using h

set_option maxRecDepth 8000 in
set_option maxHeartbeats 1000000 in
theorem ileads (G : Nat → Int) (o c B : Nat) (w : World) (hB : w.cell? ⟨B, 0, none⟩ = some (.int .i64 c)) (hc : c < 100) :
    Calls Try.prog 211 #[.agg (rowV G o).toArray, .pointer (some ⟨B, 0, none⟩)] w fun e w' => e = .returned (.bool (G (o + c) != 0)) ∧ Below w.heap.size w w' := by
  obtain ⟨V, hV, hbV, rV⟩ : ∃ V, V = w.alloc (.cells (rowV G o).toArray 160) ∧ Below w.heap.size w V ∧ V.rowIs w.heap.size 160 100 (fun j => .int .i64 (G (o + j))) := ⟨_, rfl, ebox1 _ _, wide_box w G o⟩
  have c0 := rV.cell hc
  have hBl := block_lt_of_cell hB
  have hB1 := (hbV.cell (p := ⟨B, 0, none⟩) hBl).trans hB
  have hc' : (c : Int) < 100 := by omega
  obtain ⟨x, hx⟩ : ∃ x, G (o + c) = x := ⟨_, rfl⟩
  rw [hx] at c0 ⊢
  clear hx hB
  subst hV
  go_enter Try.func211, Try.ntmps211
  go_wp2_with fail
  go_ret
  exact ⟨rfl, hbV⟩

theorem ileads_yes (G : Nat → Int) (o c B : Nat) (w : World) (hB : w.cell? ⟨B, 0, none⟩ = some (.int .i64 c)) (hc : c < 100) (h : G (o + c) ≠ 0) :
    Calls Try.prog 211 #[.agg (rowV G o).toArray, .pointer (some ⟨B, 0, none⟩)] w fun e w' => e = .returned (.bool true) ∧ Below w.heap.size w w' :=
  (ileads G o c B w hB hc).mono fun _ _ ⟨a, b⟩ => ⟨by rw [a]; congr 2; simpa using h, b⟩
theorem ileads_no (G : Nat → Int) (o c B : Nat) (w : World) (hB : w.cell? ⟨B, 0, none⟩ = some (.int .i64 c)) (hc : c < 100) (h : G (o + c) = 0) :
    Calls Try.prog 211 #[.agg (rowV G o).toArray, .pointer (some ⟨B, 0, none⟩)] w fun e w' => e = .returned (.bool false) ∧ Below w.heap.size w w' :=
  (ileads G o c B w hB hc).mono fun _ _ ⟨a, b⟩ => ⟨by rw [a]; congr 2; simp [h], b⟩

/-- The value of the closure that asks whether a row has a number other than 0 in a column. -/
abbrev leadsF (B : Nat) : Value := .func (.func 211) #[] #[.pointer (some ⟨B, 0, none⟩)]

set_option maxRecDepth 8000 in
set_option maxHeartbeats 2000000 in
theorem iwidx_some (G : Nat → Int) (b off N cap c B M : Nat) (w : World) (hB : w.cell? ⟨B, 0, none⟩ = some (.int .i64 c)) (hc : c < 100) (hN : N ≤ 100) (hM : off + N * 100 ≤ M) (hr : w.rowIs b 160 M (gV G)) (j : Nat) (hj : j < N) (hn : G (off + j * 100 + c) ≠ 0) (hp : ∀ i, i < j → G (off + i * 100 + c) = 0) :
    Calls Try.prog 212 #[.slice (some ⟨b, off, none⟩) N cap, leadsF B] w fun e w' => e = .returned (.int .i64 j) ∧ Below w.heap.size w w' := by
  have HN := Lib.hid hn
  have HP := Lib.hid hp
  have hBl := block_lt_of_cell hB
  clear hn hp
  go_enter Try.func212, Try.ntmps212
  go_wp2
  go_loopw [8] (fun i wr => ∃ k : Nat, k ≤ j ∧ i = .int .i64 k ∧ Below w.heap.size w wr) (fun i _ => N - (intOf i).toNat)
  case atStart => exact ⟨0, by omega, rfl, Below.refl _ _⟩
  case round =>
    obtain ⟨k, hk, rfl, hb⟩ := hrel
    have hlt : k < N := by omega
    have hlt' : (k : Int) < (N : Int) := by omega
    have hR := erow_below hr hb hr.lt
    have HR := Lib.hid (tab_range (o := off + k * 100) hR (by omega))
    have hB2 := (hb.cell (p := ⟨B, 0, none⟩) hBl).trans hB
    clear hR
    by_cases e : k = j
    · subst e
      go_wp2_with (refine wpList_load_mid rfl 160 _ rfl b (off + k * 100) rfl (rowV G (off + k * 100)) _ HR.out Try.underlying160 rfl (wide_size G _) ?_)
      ((with_reducible refine (ileads_yes G (off + k * 100) c B _ hB2 hc HN.out).mono ?_); rintro e w1 ⟨rfl, hb1⟩)
      have hend := hb.trans (hb1.mono hb.size)
      go_wp2
      go_ret
      exact ⟨rfl, hend⟩
    · have h0 := Lib.hid (HP.out k (by omega))
      go_wp2_with (refine wpList_load_mid rfl 160 _ rfl b (off + k * 100) rfl (rowV G (off + k * 100)) _ HR.out Try.underlying160 rfl (wide_size G _) ?_)
      ((with_reducible refine (ileads_no G (off + k * 100) c B _ hB2 hc h0.out).mono ?_); rintro e w1 ⟨rfl, hb1⟩)
      have hend := hb.trans (hb1.mono hb.size)
      go_wp2
      go_roundw
      case rel => exact ⟨k + 1, by omega, by go_num, hend⟩
      case measure => simp [intOf]; omega

set_option maxRecDepth 8000 in
set_option maxHeartbeats 2000000 in
theorem iwidx_none (G : Nat → Int) (b off N cap c B M : Nat) (w : World) (hB : w.cell? ⟨B, 0, none⟩ = some (.int .i64 c)) (hc : c < 100) (hN : N ≤ 100) (hM : off + N * 100 ≤ M) (hr : w.rowIs b 160 M (gV G)) (hp : ∀ i, i < N → G (off + i * 100 + c) = 0) :
    Calls Try.prog 212 #[.slice (some ⟨b, off, none⟩) N cap, leadsF B] w fun e w' => e = .returned (.int .i64 (-1)) ∧ Below w.heap.size w w' := by
  have HP := Lib.hid hp
  have hBl := block_lt_of_cell hB
  clear hp
  go_enter Try.func212, Try.ntmps212
  go_wp2
  go_loopw [8] (fun i wr => ∃ k : Nat, k ≤ N ∧ i = .int .i64 k ∧ Below w.heap.size w wr) (fun i _ => N - (intOf i).toNat)
  case atStart => exact ⟨0, by omega, rfl, Below.refl _ _⟩
  case round =>
    obtain ⟨k, hk, rfl, hb⟩ := hrel
    by_cases hlt : k < N
    · have hlt' : (k : Int) < (N : Int) := by omega
      have hR := erow_below hr hb hr.lt
      have HR := Lib.hid (tab_range (o := off + k * 100) hR (by omega))
      have hB2 := (hb.cell (p := ⟨B, 0, none⟩) hBl).trans hB
      have h0 := Lib.hid (HP.out k hlt)
      clear hR
      go_wp2_with (refine wpList_load_mid rfl 160 _ rfl b (off + k * 100) rfl (rowV G (off + k * 100)) _ HR.out Try.underlying160 rfl (wide_size G _) ?_)
      ((with_reducible refine (ileads_no G (off + k * 100) c B _ hB2 hc h0.out).mono ?_); rintro e w1 ⟨rfl, hb1⟩)
      have hend := hb.trans (hb1.mono hb.size)
      go_wp2
      go_roundw
      case rel => exact ⟨k + 1, by omega, by go_num, hend⟩
      case measure => simp [intOf]; omega
    · obtain rfl : k = N := by omega
      go_wp2
      go_ret
      exact ⟨rfl, hb⟩
end Go.Proofs.Ytbahejlgfpilnaa
