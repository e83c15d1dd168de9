/-
  WALKS: 'impl.inOrder' at numbers. Conditions: as the theorem states.
-/
import Derived.Test.YtphgpadpffigjaaSye
import Derived.Laws.Cover3
namespace Go.Proofs.Ytphgpadpffigjaa
open Go.RowKit Go.Sort

theorem einfoB : (Try.prog.info? 5).map (fun i => (i.zero, i.size, i.bytes)) = some (some (.int .u8 0), 1, 1) := by kernel_rfl
/-- The exponents after k of them have been put in their places. -/
def plF (es os : List Int) : Nat → Nat → Int
  | 0, _ => 0
  | k + 1, q => if os.getD k 0 = (q : Int) then es.getD k 0 else plF es os k q
theorem plF_byte {es os : List Int} (he : ∀ e ∈ es, 0 ≤ e ∧ e ≤ 255) : ∀ k q, 0 ≤ plF es os k q ∧ plF es os k q ≤ 255
  | 0, _ => by simp [plF]
  | k + 1, q => by
    unfold plF
    split
    · by_cases h : k < es.length
      · have := he _ (List.getElem_mem h)
        simpa [List.getD, h] using this
      · simp [List.getD, List.getElem?_eq_none (by omega : es.length ≤ k)]
    · exact plF_byte he k q
theorem exps_under : ∃ e, Try.prog.underlying 75 = some (.array 3 e) := ⟨_, Try.underlying75⟩

set_option maxRecDepth 8000 in
set_option maxHeartbeats 4000000 in
theorem iino (ve vo : Value) (es os : List Int) (w : World) (hlen : es.length ≤ os.length) (hl3 : es.length ≤ 3) (he : ∀ e ∈ es, 0 ≤ e ∧ e ≤ 255) (ho : ∀ x ∈ os, 0 ≤ x ∧ x < 3) (hSe : Sl w ve es) (hSo : Sl w vo os) (hlo : os.length ≤ 1048576) :
    Calls Try.prog 145 #[ve, vo] w fun e w' => e = .returned (.agg #[.int .u8 (plF es os es.length 0), .int .u8 (plF es os es.length 1), .int .u8 (plF es os es.length 2)]) ∧ Below w.heap.size w w' := by
  obtain ⟨i0, hi, hz0, hz1, hz2⟩ := info_parts einfoB
  have hmk : ∀ w, (Instr.makeSlice 94 (.int .i64 3) (.int .i64 3)).run Try.prog w = .ok (.slice (some ⟨w.heap.size, 0, none⟩) 3 3) (w.alloc (.cells (madeCells #[.int .u8 0] 3) 5)) := fun w => by
    have h := run_make (P := Try.prog) w 94 5 i0 _ Try.underlying94 hi hz0 .i64 .i64 3 3 (by omega) (by omega) (by rw [hz2]; omega) (by omega)
    rw [hz1] at h
    simpa [Value.cells] using h
  clear hi hz0 hz1 hz2
  obtain ⟨ee, hue⟩ := exps_under
  have hat : ∀ w g, (Instr.arrayAt 75 (.slice (some ⟨g, 0, none⟩) 3 3)).run Try.prog w = .ok (.pointer (some ⟨g, 0, none⟩)) w := fun w g => run_arrayAt w 75 _ 3 _ 3 3 hue (by omega)
  clear hue
  obtain ⟨ea, ec, rfl, hec⟩ := id hSe
  obtain ⟨oa, oc, rfl, hoc⟩ := id hSo
  obtain ⟨V, hV, hbV, r1, ⟨s1, s2⟩⟩ : ∃ V, V = w.alloc (.cells #[.int .u8 0, .int .u8 0, .int .u8 0] 75) ∧ Below w.heap.size w V ∧ V.rowIs w.heap.size 75 3 (fun _ => .int .u8 0) ∧ (V.heap.size ≤ w.heap.size + 1 ∧ w.heap.size + 1 ≤ V.heap.size) := ⟨_, rfl, ebox1 _ _, World.rowIs_alloc w #[_, _, _] _ _ (fun i hi => by simp at hi; match i, hi with | 0, _ => rfl | 1, _ => rfl | 2, _ => rfl), ⟨by simp, by simp⟩⟩
  obtain ⟨W2, hW2, r2, hb2⟩ : ∃ W2, W2 = V.alloc (.cells (madeCells #[.int .u8 0] 3) 5) ∧ W2.rowIs V.heap.size 5 3 (fun q => .int .u8 (plF es os 0 q)) ∧ Below V.heap.size V W2 := ⟨_, rfl, World.rowIs_made V (.int .u8 0) 3 _, ebox1 _ _⟩
  have hbW2 := hbV.trans (hb2.mono hbV.size)
  have r12 := erow_below r1 hb2 r1.lt
  have hgw : w.heap.size < V.heap.size := by omega
  have hgw2 : w.heap.size ≠ V.heap.size := by omega
  have HE := Lib.hid he
  have HO := Lib.hid ho
  have HB := Lib.hid (plF_byte (os := os) he)
  clear he ho r1 hbV hb2
  go_enter Try.func145, Try.ntmps145
  go_upto_region 1 with fail
  rw [← hV]
  clear hV
  go_upto_region 2 with fail
  rw [← hW2]
  clear hW2
  go_wp2_with fail
  go_loopg [11] es.length (fun g c wq => ∃ k : Nat, k + g = es.length ∧ c = .int .i64 k ∧ wq.rowIs V.heap.size 5 3 (fun q => .int .u8 (plF es os k q)) ∧ wq.rowIs w.heap.size 75 3 (fun _ => .int .u8 0) ∧ Below w.heap.size w wq)
  case atStart => exact ⟨0, by omega, rfl, r2, r12, hbW2⟩
  case round =>
    clear r2 r12 hbW2
    obtain ⟨k, hk, rfl, hR, hr, hb⟩ := hrel
    by_cases hlt : k < es.length
    · have hlt' : (k : Int) < (es.length : Int) := by omega
      have hlo' : k < os.length := by omega
      have hlo2 : (k : Int) < (os.length : Int) := by omega
      obtain ⟨g2, hg2⟩ : ∃ g2, k + 1 + g2 = es.length := ⟨es.length - (k + 1), by omega⟩
      have HI := Lib.hid (And.intro hg2 (show g2 < gk by omega))
      obtain ⟨b1, f1, rfl, hb1, hT1⟩ : ∃ b off, ea = some ⟨b, off, none⟩ ∧ b < w.heap.size ∧ Cs w b off es := by
        rcases hec with rfl | h
        · simp at hlt
        · exact h
      obtain ⟨b2, f2, rfl, hb2, hT2⟩ : ∃ b off, oa = some ⟨b, off, none⟩ ∧ b < w.heap.size ∧ Cs w b off os := by
        rcases hoc with rfl | h
        · simp at hlo'
        · exact h
      have c0 := (hT1.below hb hb1) k hlt
      have d0 := (hT2.below hb hb2) k hlo'
      obtain ⟨e0, e1⟩ := HE.out _ (List.getElem_mem hlt)
      obtain ⟨o0, o1⟩ := HO.out _ (List.getElem_mem hlo')
      have HS : Hid (∀ q : Nat, plF es os (k + 1) q = if os[k] = (q : Int) then es[k] else plF es os k q) := Lib.hid (fun q => by
        show (if os.getD k 0 = (q : Int) then es.getD k 0 else plF es os k q) = _
        rw [show os.getD k 0 = os[k] by simp [List.getD, hlo'], show es.getD k 0 = es[k] by simp [List.getD, hlt]])
      obtain ⟨x, hx⟩ : ∃ x, es[k] = x := ⟨_, rfl⟩
      rw [hx] at c0 e0 e1 HS
      obtain ⟨y, hy⟩ : ∃ y, os[k] = y := ⟨_, rfl⟩
      rw [hy] at d0 o0 o1 HS
      obtain ⟨n, rfl⟩ := Int.eq_ofNat_of_zero_le o0
      have hn3 : n < 3 := by omega
      have hwx : IntKind.u8.wrap x = x := by
        rw [show IntKind.u8.wrap x = x % 256 by first | rfl | simp [IntKind.wrap, IntKind.signed, IntKind.bits]]
        omega
      have hc := hR.cell (i := n) hn3
      have hf := hR.frozen n
      have hR2 := (hR.set n (.int .u8 x)).congr (g := fun q => .int .u8 (plF es os (k + 1) q)) (fun q _ => by
        rw [HS.out q]
        by_cases e : q = n
        · subst e; simp
        · rw [if_neg e, if_neg (by omega)])
      have hr2 := hr.setOther (a := ⟨V.heap.size, n, none⟩) hgw2 (.int .u8 x)
      have hb3 := hb.setCell (p := ⟨V.heap.size, n, none⟩) (by show w.heap.size ≤ V.heap.size; omega) (.int .u8 x)
      have HR := Lib.hid (And.intro hR2 (And.intro hr2 hb3))
      clear hR hr hb hR2 hr2 hb3 hx hy hT1 hT2 hec hoc hk hg2 hSe hSo
      go_wp2_with fail
      go_roundg g2
      case measure => exact HI.out.2
      case rel => exact ⟨k + 1, HI.out.1, by go_num, HR.out.1, HR.out.2.1, HR.out.2.2⟩
    · obtain rfl : k = es.length := by omega
      obtain ⟨x0, hx0⟩ : ∃ x0, plF es os es.length 0 = x0 := ⟨_, rfl⟩
      obtain ⟨x1, hx1⟩ : ∃ x1, plF es os es.length 1 = x1 := ⟨_, rfl⟩
      obtain ⟨x2, hx2⟩ : ∃ x2, plF es os es.length 2 = x2 := ⟨_, rfl⟩
      have c0 := hR.cell (i := 0) (by omega)
      have c1 := hR.cell (i := 1) (by omega)
      have c2 := hR.cell (i := 2) (by omega)
      rw [hx0] at c0
      rw [hx1] at c1
      rw [hx2] at c2
      have HX := Lib.hid (And.intro hx0 (And.intro hx1 hx2))
      have k0 := hr.cell (i := 0) (by omega)
      have k1 := hr.cell (i := 1) (by omega)
      have k2 := hr.cell (i := 2) (by omega)
      have z0 := hr.frozen 0
      have z1 := hr.frozen 1
      have z2 := hr.frozen 2
      have R := ((hr.set 0 (.int .u8 x0)).set 1 (.int .u8 x1)).set 2 (.int .u8 x2)
      have A0 := Lib.hid (R.cell (i := 0) (by omega))
      have A1 := Lib.hid (R.cell (i := 1) (by omega))
      have A2 := Lib.hid (R.cell (i := 2) (by omega))
      have hwl : ∀ o, w.heap.size ≤ (⟨w.heap.size, o, none⟩ : Addr).block := fun o => Nat.le_refl _
      have HBL := Lib.hid (((hb.setCell (hwl 0) (.int .u8 x0)).setCell (hwl 1) (.int .u8 x1)).setCell (hwl 2) (.int .u8 x2))
      clear hR hr hb R hx0 hx1 hx2 hwl hSe hSo hec hoc
      go_wp2_with fail
      have a0 := A0.out
      have a1 := A1.out
      have a2 := A2.out
      simp at a0 a1 a2
      exact bodyPost_ret (v := .agg #[.int .u8 x0, .int .u8 x1, .int .u8 x2]) (by simp [results, Try.results145, go_sem, a0, a1, a2]) rfl ⟨by rw [HX.out.1, HX.out.2.1, HX.out.2.2], HBL.out⟩
end Go.Proofs.Ytphgpadpffigjaa
