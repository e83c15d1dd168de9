/-
  WALKS: 'impl.widen'; a copy of a list that is not nil. Conditions: as the theorems state.
-/
import Derived.Test.YtbahejlgfpilnaaWe
import Derived.Test.YtbahejlgfpilnaaLq
import Derived.Laws.Cover3
import Derived.Lib.SlBuf
namespace Go.Proofs.Ytbahejlgfpilnaa
open Go.RowKit Go.Sort EchM

theorem wide_under : ∃ e, Try.prog.underlying 160 = some (.array 100 e) := ⟨_, Try.underlying160⟩
theorem zero_wide : Try.zeroCells160 = (rowV (fun _ => 0) 0).toArray := by kernel_rfl
theorem wide_sizeA (G : Nat → Int) (o : Nat) : (Try.prog.info? 160).map (·.size) = some (rowV G o).toArray.size := by rw [List.size_toArray]; exact wide_size G o
/-- A list of numbers as a wide row. -/
def padF (l : List Int) (q : Nat) : Int := l.getD q 0
theorem copy_pad (w : World) (g : Nat) (l : List Int) (u : Value) (f : Nat → Value) (hr : w.rowIs g 2 100 f) (hl : l.length ≤ 100) (hS : Sl w u l) (ty : TypeId) :
    (Builtin.copy_ #[52, 52] ty #[.slice (some ⟨g, 0, none⟩) 100 100, u]).run Try.prog w = .ok (.int .i64 (l.length : Int)) (w.setCells g 0 (valsI l)) := by
  obtain ⟨a, cap, rfl, h⟩ := hS
  rcases h with rfl | ⟨b, off, rfl, _, hT⟩
  · exact run_copy_none (P := Try.prog) w 52 52 ty 2 _ _ 100 100 0 cap Try.underlying52 (by kernel_rfl) (by simp)
  · have hn : (valsI l).length = l.length := by simp [valsI]
    have h := run_copy_cells (P := Try.prog) w 52 52 ty 2 g 0 100 100 ⟨b, off, none⟩ l.length cap (valsI l) Try.underlying52 (by kernel_rfl)
      (by rw [hn]; exact (Nat.min_eq_left (by omega)).symm) (vals_cells hT) (fun j hj => by rw [hr.cell (by omega)]; rfl) (fun j _ => hr.frozen _) (vals_one l)
    rw [hn] at h
    exact h

set_option maxRecDepth 20000 in
set_option maxHeartbeats 4000000 in
theorem iwiden (u : Value) (l : List Int) (w : World) (hl : l.length ≤ 100) (hS : Sl w u l) :
    Calls Try.prog 145 #[u] w fun e w' => e = .returned (.agg (rowV (padF l) 0).toArray) ∧ Below w.heap.size w w' := by
  obtain ⟨i0, hi, hz0, hz1, hz2⟩ := info_parts einfoI
  have hmk : ∀ w, (Instr.makeSlice 52 (.int .i64 100) (.int .i64 100)).run Try.prog w = .ok (.slice (some ⟨w.heap.size, 0, none⟩) 100 100) (w.alloc (.cells (nmadeI 100) 2)) := fun w => by
    have h := run_make (P := Try.prog) w 52 2 i0 _ Try.underlying52 hi hz0 .i64 .i64 100 100 (by omega) (by omega) (by rw [hz2]; omega) (by omega)
    rw [hz1] at h
    simpa [nmadeI, Value.cells] using h
  clear hi hz0 hz1 hz2
  obtain ⟨ee, hue⟩ := wide_under
  have hat : ∀ w g, (Instr.arrayAt 160 (.slice (some ⟨g, 0, none⟩) 100 100)).run Try.prog w = .ok (.pointer (some ⟨g, 0, none⟩)) w := fun w g => run_arrayAt w 160 _ 100 _ 100 100 hue (by omega)
  clear hue
  obtain ⟨V, hV, hbV, r1⟩ : ∃ V, V = w.alloc (.cells Try.zeroCells160 160) ∧ Below w.heap.size w V ∧ V.rowIs w.heap.size 160 100 (gV fun _ => 0) := ⟨_, rfl, ebox1 _ _, by rw [zero_wide]; exact wide_box w (fun _ => 0) 0⟩
  obtain ⟨g, hg⟩ : ∃ g, V.heap.size = g := ⟨_, rfl⟩
  obtain ⟨W2, hW2, r2, hb2⟩ : ∃ W2, W2 = V.alloc (.cells (nmadeI 100) 2) ∧ W2.rowIs g 2 100 (gV fun _ => 0) ∧ Below V.heap.size V W2 := ⟨_, rfl, by rw [← hg]; exact nmadeI_row V 100 _, ebox1 _ _⟩
  have hgw : w.heap.size < g := by rw [← hg]; exact r1.lt
  have hcp := copy_pad W2 g l u _ r2 hl ((hS.below hbV).below hb2)
  have r3 := (set_cells l 0 g W2 (fun _ => 0) r2).congr (g := gV (padF l)) (fun q _ => by
    unfold gV padF
    congr 1
    show (if 0 ≤ q ∧ q < 0 + l.length then l.getD (q - 0) 0 else 0) = l.getD q 0
    by_cases e : q < l.length
    · rw [if_pos (by omega)]; rfl
    · rw [if_neg (by omega)]; simp [List.getD, List.getElem?_eq_none (by omega : l.length ≤ q)])
  have hg3 := cp_grown (valsI l) 0 W2 (w0 := W2) (b := g) ⟨rfl, rfl, rfl, Nat.le_refl _, fun _ _ _ => rfl⟩
  have r12 := erow_below r1 hb2 r1.lt
  have hneg : some w.heap.size ≠ some g := fun e => by
    have h : w.heap.size = g := by simpa using e
    omega
  have rr3 := r12.of_block (hg3.block _ r12.lt hneg)
  obtain ⟨W3, hW3⟩ : ∃ W3, W2.setCells g 0 (valsI l) = W3 := ⟨_, rfl⟩
  rw [show W2.setCells g 0 (l.map (Value.int .i64)) = W3 from hW3] at r3
  rw [hW3] at hcp rr3 hg3
  have hb3 : Below w.heap.size w W3 := by
    rw [← hW3]
    exact Go.Lib.below_setCells g (by omega) (valsI l) 0 (hbV.trans (hb2.mono hbV.size))
  have HR3 := Lib.hid (tab_range (o := 0) r3 (by omega))
  have HT3 := Lib.hid (tab_there (o := 0) rr3 (by omega))
  obtain ⟨W4, hW4⟩ : ∃ W4, W3.setCells w.heap.size 0 (rowV (padF l) 0) = W4 := ⟨_, rfl⟩
  have HR4 : Hid (W4.rangeAt w.heap.size 0 (rowV (padF l) 0)) := Lib.hid (by rw [← hW4]; exact World.rangeAt_setCells_same W3 _ _ _ (by rw [rowV_len]; exact HT3.out))
  have HB4 : Hid (Below w.heap.size w W4) := Lib.hid (by rw [← hW4]; exact Go.Lib.below_setCells w.heap.size (Nat.le_refl _) _ 0 hb3)
  have HT3b : Hid (W3.there w.heap.size 0 (rowV (padF l) 0).toArray.size) := Lib.hid (by rw [show (rowV (padF l) 0).toArray.size = 100 by rw [List.size_toArray, rowV_len]]; exact HT3.out)
  have HW4b : Hid (W3.setCells w.heap.size 0 (rowV (padF l) 0).toArray.toList = W4) := Lib.hid hW4
  have hszV : V.heap.size = g := hg
  clear r1 r2 r3 hg3 r12 rr3 hb3 hW4 hb2 hbV hW3
  subst hg
  go_enter Try.func145, Try.ntmps145
  go_upto_region 1 with fail
  rw [← hV]
  clear hV
  go_upto_region 2 with fail
  rw [← hW2]
  clear hW2
  go_wp2_with (first
    | (refine wpList_load_mid rfl 160 _ rfl V.heap.size 0 rfl (rowV (padF l) 0) _ HR3.out Try.underlying160 rfl (wide_size _ _) ?_)
    | (refine wpList_store_mid rfl 160 _ _ rfl w.heap.size 0 (rowV (padF l) 0).toArray (by go_simp) (by go_simp) HT3b.out (wide_sizeA _ _) (all_oneCell_toArray (rowV_one _ _)) ?_))
  rw [HW4b.out]
  go_wp2_with fail
  refine bodyPost_ret (v := .agg (rowV (padF l) 0).toArray) ?_ rfl ⟨rfl, HB4.out⟩
  have hres : Try.f145.results = #[.cell 2 160] := by kernel_rfl
  simp only [results, hres]
  have hld := run_loadVar_mid (P := Try.prog) W4 w.heap.size 0 160 (rowV (padF l) 0) _ HR4.out Try.underlying160 rfl (wide_size _ _)
  simp [hld, asAddr]
end Go.Proofs.Ytbahejlgfpilnaa
