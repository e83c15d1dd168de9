/-
  WALKS: 'impl.inOrder' at bytes; 'impl.exchanged'. Conditions: as each theorem states.
-/
import Derived.Test.YtphgpadpffigjaaSzg
import Derived.Test.YtphgpadpffigjaaSyf
import Derived.Test.YtphgpadpffigjaaTm
import Derived.Test.YtphgpadpffigjaaBgc
import Derived.Test.YtphgpadpffigjaaSort
import Derived.Test.YtphgpadpffigjaaLs2
import Derived.Test.YtphgpadpffigjaaIns
import Derived.Deep.RegionHeld3
namespace Go.Proofs.Ytphgpadpffigjaa
open Go.RowKit Go.Sort Go.Maps

set_option maxRecDepth 8000 in
set_option maxHeartbeats 4000000 in
theorem iinb (g0 : Nat) (vo : Value) (es os : List Int) (w : World) (hlen : es.length ≤ os.length) (_hl3 : es.length ≤ 3) (he : ∀ e ∈ es, 0 ≤ e ∧ e ≤ 255) (ho : ∀ x ∈ os, 0 ≤ x ∧ x < 3) (hg0 : g0 < w.heap.size) (hSe : ∀ (k : Nat) (h : k < es.length), w.cell? ⟨g0, k, none⟩ = some (.int .u8 es[k])) (hSo : Sl w vo os) (hlo : os.length ≤ 1048576) :
    Calls Try.prog 110 #[.slice (some ⟨g0, 0, none⟩) es.length 3, vo] w fun e w' => e = .returned (.agg #[.int .u8 (plF es os es.length 0), .int .u8 (plF es os es.length 1), .int .u8 (plF es os es.length 2)]) ∧ Below w.heap.size w w' := by
  obtain ⟨i0, hi, hz0, hz1, hz2⟩ := info_parts einfoB
  have hmk : ∀ w, (Instr.makeSlice 94 (.int .i64 3) (.int .i64 3)).run Try.prog w = .ok (.slice (some ⟨w.heap.size, 0, none⟩) 3 3) (w.alloc (.cells (madeCells #[.int .u8 0] 3) 5)) := fun w => by
    have h := run_make (P := Try.prog) w 94 5 i0 _ Try.underlying94 hi hz0 .i64 .i64 3 3 (by omega) (by omega) (by rw [hz2]; omega) (by omega)
    rw [hz1] at h
    simpa [Value.cells] using h
  clear hi hz0 hz1 hz2
  obtain ⟨ee, hue⟩ := exps_under
  have hat : ∀ w g, (Instr.arrayAt 75 (.slice (some ⟨g, 0, none⟩) 3 3)).run Try.prog w = .ok (.pointer (some ⟨g, 0, none⟩)) w := fun w g => run_arrayAt w 75 _ 3 _ 3 3 hue (by omega)
  clear hue
  have HSE := Lib.hid hSe
  obtain ⟨oa, oc, rfl, hoc⟩ := id hSo
  obtain ⟨V, hV, hbV, r1, ⟨s1, s2⟩⟩ : ∃ V, V = w.alloc (.cells #[.int .u8 0, .int .u8 0, .int .u8 0] 75) ∧ Below w.heap.size w V ∧ V.rowIs w.heap.size 75 3 (fun _ => .int .u8 0) ∧ (V.heap.size ≤ w.heap.size + 1 ∧ w.heap.size + 1 ≤ V.heap.size) := ⟨_, rfl, ebox1 _ _, World.rowIs_alloc w #[_, _, _] _ _ (fun i hi => by simp at hi; match i, hi with | 0, _ => rfl | 1, _ => rfl | 2, _ => rfl), ⟨by simp, by simp⟩⟩
  obtain ⟨W2, hW2, r2, hb2⟩ : ∃ W2, W2 = V.alloc (.cells (madeCells #[.int .u8 0] 3) 5) ∧ W2.rowIs V.heap.size 5 3 (fun q => .int .u8 (plF es os 0 q)) ∧ Below V.heap.size V W2 := ⟨_, rfl, World.rowIs_made V (.int .u8 0) 3 _, ebox1 _ _⟩
  have hbW2 := hbV.trans (hb2.mono hbV.size)
  have r12 := erow_below r1 hb2 r1.lt
  have hgw : w.heap.size < V.heap.size := by omega
  have hgw2 : w.heap.size ≠ V.heap.size := by omega
  have HE := Lib.hid he
  have HO := Lib.hid ho
  have HB := Lib.hid (plF_byte (os := os) he)
  clear he ho r1 hbV hb2 hSe
  go_enter Try.func110, Try.ntmps110
  go_upto_region 1 with fail
  rw [← hV]
  clear hV
  go_upto_region 2 with fail
  rw [← hW2]
  clear hW2
  go_wp2_with fail
  go_loopg [11] es.length (fun g c wq => ∃ k : Nat, k + g = es.length ∧ c = .int .i64 k ∧ wq.rowIs V.heap.size 5 3 (fun q => .int .u8 (plF es os k q)) ∧ wq.rowIs w.heap.size 75 3 (fun _ => .int .u8 0) ∧ Below w.heap.size w wq)
  case atStart => exact ⟨0, by omega, rfl, r2, r12, hbW2⟩
  case round =>
    clear r2 r12 hbW2
    obtain ⟨k, hk, rfl, hR, hr, hb⟩ := hrel
    by_cases hlt : k < es.length
    · have hlt' : (k : Int) < (es.length : Int) := by omega
      have hlo' : k < os.length := by omega
      have hlo2 : (k : Int) < (os.length : Int) := by omega
      obtain ⟨g2, hg2⟩ : ∃ g2, k + 1 + g2 = es.length := ⟨es.length - (k + 1), by omega⟩
      have HI := Lib.hid (And.intro hg2 (show g2 < gk by omega))
      obtain ⟨b2, f2, rfl, hb2, hT2⟩ : ∃ b off, oa = some ⟨b, off, none⟩ ∧ b < w.heap.size ∧ Cs w b off os := by
        rcases hoc with rfl | h
        · simp at hlo'
        · exact h
      have c0 := (hb.cell (p := ⟨g0, k, none⟩) hg0).trans (HSE.out k hlt)
      have d0 := (hT2.below hb hb2) k hlo'
      obtain ⟨e0, e1⟩ := HE.out _ (List.getElem_mem hlt)
      obtain ⟨o0, o1⟩ := HO.out _ (List.getElem_mem hlo')
      have HS : Hid (∀ q : Nat, plF es os (k + 1) q = if os[k] = (q : Int) then es[k] else plF es os k q) := Lib.hid (fun q => by
        show (if os.getD k 0 = (q : Int) then es.getD k 0 else plF es os k q) = _
        rw [show os.getD k 0 = os[k] by simp [List.getD, hlo'], show es.getD k 0 = es[k] by simp [List.getD, hlt]])
      obtain ⟨x, hx⟩ : ∃ x, es[k] = x := ⟨_, rfl⟩
      rw [hx] at c0 e0 e1 HS
      obtain ⟨y, hy⟩ : ∃ y, os[k] = y := ⟨_, rfl⟩
      rw [hy] at d0 o0 o1 HS
      obtain ⟨n, rfl⟩ := Int.eq_ofNat_of_zero_le o0
      have hn3 : n < 3 := by omega
      have hwx : IntKind.u8.wrap x = x := by
        rw [show IntKind.u8.wrap x = x % 256 by first | rfl | simp [IntKind.wrap, IntKind.signed, IntKind.bits]]
        omega
      have hc := hR.cell (i := n) hn3
      have hf := hR.frozen n
      have hR2 := (hR.set n (.int .u8 x)).congr (g := fun q => .int .u8 (plF es os (k + 1) q)) (fun q _ => by
        rw [HS.out q]
        by_cases e : q = n
        · subst e; simp
        · rw [if_neg e, if_neg (by omega)])
      have hr2 := hr.setOther (a := ⟨V.heap.size, n, none⟩) hgw2 (.int .u8 x)
      have hb3 := hb.setCell (p := ⟨V.heap.size, n, none⟩) (by show w.heap.size ≤ V.heap.size; omega) (.int .u8 x)
      have HR := Lib.hid (And.intro hR2 (And.intro hr2 hb3))
      clear hR hr hb hR2 hr2 hb3 hx hy hT2 hoc hk hg2 hSo
      go_wp2_with fail
      go_roundg g2
      case measure => exact HI.out.2
      case rel => exact ⟨k + 1, HI.out.1, by go_num, HR.out.1, HR.out.2.1, HR.out.2.2⟩
    · obtain rfl : k = es.length := by omega
      obtain ⟨x0, hx0⟩ : ∃ x0, plF es os es.length 0 = x0 := ⟨_, rfl⟩
      obtain ⟨x1, hx1⟩ : ∃ x1, plF es os es.length 1 = x1 := ⟨_, rfl⟩
      obtain ⟨x2, hx2⟩ : ∃ x2, plF es os es.length 2 = x2 := ⟨_, rfl⟩
      have c0 := hR.cell (i := 0) (by omega)
      have c1 := hR.cell (i := 1) (by omega)
      have c2 := hR.cell (i := 2) (by omega)
      rw [hx0] at c0
      rw [hx1] at c1
      rw [hx2] at c2
      have HX := Lib.hid (And.intro hx0 (And.intro hx1 hx2))
      have k0 := hr.cell (i := 0) (by omega)
      have k1 := hr.cell (i := 1) (by omega)
      have k2 := hr.cell (i := 2) (by omega)
      have z0 := hr.frozen 0
      have z1 := hr.frozen 1
      have z2 := hr.frozen 2
      have R := ((hr.set 0 (.int .u8 x0)).set 1 (.int .u8 x1)).set 2 (.int .u8 x2)
      have A0 := Lib.hid (R.cell (i := 0) (by omega))
      have A1 := Lib.hid (R.cell (i := 1) (by omega))
      have A2 := Lib.hid (R.cell (i := 2) (by omega))
      have hwl : ∀ o, w.heap.size ≤ (⟨w.heap.size, o, none⟩ : Addr).block := fun o => Nat.le_refl _
      have HBL := Lib.hid (((hb.setCell (hwl 0) (.int .u8 x0)).setCell (hwl 1) (.int .u8 x1)).setCell (hwl 2) (.int .u8 x2))
      clear hR hr hb R hx0 hx1 hx2 hwl hSo hoc
      go_wp2_with fail
      have a0 := A0.out
      have a1 := A1.out
      have a2 := A2.out
      simp at a0 a1 a2
      exact bodyPost_ret (v := .agg #[.int .u8 x0, .int .u8 x1, .int .u8 x2]) (by simp [results, Try.results110, go_sem, a0, a1, a2]) rfl ⟨by rw [HX.out.1, HX.out.2.1, HX.out.2.2], HBL.out⟩

def tmG (x y z u : Int) (i : Nat) : Value := #[Value.int .u8 x, .int .u8 y, .int .u8 z, .int .i64 u].getD i undef
theorem tm_cell {w : World} {B : Nat} {x y z u : Int} (h : w.rowIs B 92 4 (tmG x y z u)) {k : Nat} (hk : k < 3) : w.cell? ⟨B, k, none⟩ = some (.int .u8 (exAt (x, y, z) k)) := by
  have h1 := h.cell (i := k) (by omega)
  have : k = 0 ∨ k = 1 ∨ k = 2 := by omega
  rcases this with rfl | rfl | rfl <;> exact h1
theorem exL_byte {d : Nat} {e : Int × Int × Int} (h : byte3 e) {x : Int} (hx : x ∈ exL d e) : 0 ≤ x ∧ x ≤ 255 := by
  have hx2 := List.mem_of_mem_take hx
  obtain ⟨h1, h2, h3⟩ := h
  simp only [List.mem_cons, List.not_mem_nil, or_false] at hx2
  rcases hx2 with rfl | rfl | rfl <;> assumption

/-- 'm[k] = v' at a step of a region that draws its order. -/
theorem step_mapput {H : Type} {P : Program} (w : World) {ops : Array Oper} {o : Oper} {a : Act} {K' : Act → World → Prop} {Q : Exit → Act → World → Prop} {E : Prop}
    (hg : o.guard = none) (m x v : Operand) (t : TypeId) (hop : o.op = Op.mapUpdate t m x v)
    (k e : TypeId) (K : Keyed P k) (ht : P.underlying t = some (.map k e)) (R : Value → Option (DataW H × List MemPlace)) (b n : Nat) (D : DataW H)
    (hm : a.eval m = .map (some b)) (hown : w.ownsMap P k R b n D) (hn : n < maxLen) (key val : Value) (kl : Lit) (hx : a.eval x = key) (hv : a.eval v = val) (hkey : keyOf P k key = some kl)
    (d : DataW H) (ps : List MemPlace) (hval : R val = some (d, ps))
    (hK : ∀ w', w'.ownsMap P k R b (n + 1) (D.put kl d) → w.grownBy w' (some b) → K' (a.put o.dst undef) w') :
    if Region.wanted o (yielded ops a.tmps) = true then Oper.wp P o a w K' Q else E := by
  have hw : Region.wanted o (yielded ops a.tmps) = true := by simp [Region.wanted, hg]
  rw [if_pos hw]
  obtain ⟨w', hrun, r1, r2⟩ := hown.update K ht hn hkey hval
  unfold Oper.wp
  simp [execOp, hop, hm, hx, hv, hrun, Result.andThen]
  exact hK _ r1 r2

/-- What an order makes of a polynomial. -/
def exF (d : Nat) (os : List Int) (xs : List Tm) (e : Int × Int × Int) : Int := if inD d e then atL xs (bwd d os e) else 0
theorem exF_nil (d : Nat) (os : List Int) (e : Int × Int × Int) : exF d os [] e = 0 := by unfold exF; split <;> rfl
theorem exF_step {d : Nat} (hd : 1 ≤ d ∧ d ≤ 3) {os : List Int} (ho : os ∈ ordL d (d ^ d)) {xs : List Tm} (ha : Asc xs) (hin : ∀ t ∈ xs, inD d (tmE t)) (j : Nat) (hj : j < xs.length) (e : Int × Int × Int) :
    exF d os (xs.take (j + 1)) e = if e = fwd d os (tmE xs[j]) then xs[j].2.2.2 else exF d os (xs.take j) e := by
  unfold exF
  by_cases he : inD d e
  · rw [if_pos he, if_pos he, atL_take ha j hj]
    have h1 := fwd_bwd hd ho (hin _ (List.getElem_mem hj)) he
    by_cases h2 : e = fwd d os (tmE xs[j])
    · rw [if_pos (h1.1 h2.symm).symm, if_pos h2]
    · rw [if_neg (fun h => h2 (h1.2 h.symm).symm), if_neg h2]
  · rw [if_neg he, if_neg he, if_neg (fun h => he (by rw [h]; exact fwd_in hd ho _))]
theorem exF_deg {d : Nat} (hd : 1 ≤ d ∧ d ≤ 3) {os : List Int} (ho : os ∈ ordL d (d ^ d)) {p : Int} {xs : List Tm} (hV : Valid p d xs) (hin : ∀ t ∈ xs, inD d (tmE t)) {e : Int × Int × Int} (h : exF d os xs e ≠ 0) : e.1 + e.2.1 + e.2.2 ≤ 12 := by
  unfold exF at h
  by_cases he : inD d e
  · rw [if_pos he] at h
    have : ∃ t ∈ xs, tmE t = bwd d os e := Classical.byContradiction fun hn => h (atL_none fun t ht hx => hn ⟨t, ht, hx⟩)
    obtain ⟨t, ht, hx⟩ := this
    have h2 := (fwd_bwd hd ho (hin t ht) he).2 hx.symm
    have h3 := fwd_sum hd ho (hin t ht)
    rw [h2] at h3
    have := (hV.mem t ht).1.2
    simp only [tmE] at h3
    omega
  · rw [if_neg he] at h; exact absurd rfl h
theorem exF_bound {d : Nat} {os : List Int} {p : Int} {xs : List Tm} (hV : Valid p d xs) (e : Int × Int × Int) : 0 ≤ exF d os xs e ∧ exF d os xs e < p := by
  unfold exF
  split
  · exact hV.at_bound _
  · have := hV.p2; omega
theorem slice_exps (B d : Nat) (hd : d ≤ 3) (W : World) : (Instr.sliceAt 75 (.pointer (some ⟨B, 0, none⟩)) none (some (.int .i64 (d : Int))) none).run Try.prog W = .ok (.slice (some ⟨B, 0, none⟩) d 3) W := by
  have hl : Try.prog.arrayLen 75 = 3 := by simp [Program.arrayLen, Try.underlying75]
  have he : Try.prog.elem 75 = 5 := by simp [Program.elem, Try.underlying75]
  have ht : Try.prog.underlying 75 = some (.array (Try.prog.arrayLen 75) (Try.prog.elem 75)) := by rw [hl, he]; exact Try.underlying75
  have hs : (sizeOf 5).run Try.prog W = .ok 1 W := by kernel_rfl
  rw [run_sliceAt_array_h W 75 _ ht .i64 _ (by omega) (by rw [hl]; omega), he, hs, hl]
  simp [Result.andThen, slicedAt, Addr.add]
theorem exL_len {d : Nat} (hd : d ≤ 3) (e : Int × Int × Int) : (exL d e).length = d := by simp [exL]; omega
theorem exL_at {d : Nat} (e : Int × Int × Int) {k : Nat} (hk : k < (exL d e).length) : (exL d e)[k] = exAt e k := by
  have h3 : k < 3 := by simp [exL] at hk; omega
  have : k = 0 ∨ k = 1 ∨ k = 2 := by omega
  rcases this with rfl | rfl | rfl <;> simp [exL, exAt]

set_option maxRecDepth 100000 in
set_option maxHeartbeats 8000000 in
theorem iexch (p : Int) (d : Nat) (v vo : Value) (xs : List Tm) (os : List Int) (w : World) (hV : Valid p d xs) (hin : ∀ t ∈ xs, inD d (tmE t)) (ho : os ∈ ordL d (d ^ d)) (hS : SliceT w v xs) (hSo : Sl w vo os) :
    Calls Try.prog 69 #[.agg #[.int .i64 p, .int .i64 d, v], vo] w fun e w' => ∃ v' S, e = .returned (.agg #[.int .i64 p, .int .i64 d, v']) ∧ OwnP w' w.heap.size v' S ∧ IsP p S (exF d os xs) ∧ Below w.heap.size w w' := by
  have hd : 1 ≤ d ∧ d ≤ 3 := by have := hV.d1; have := hV.d3; omega
  have hp2 := hV.p2
  have hp13 := hV.p13
  have hxl : xs.length ≤ 2197 := hV.isP.len
  have hmm := @run_makeMap Try.prog
  obtain ⟨a, cap, rfl, _⟩ := id hS
  obtain ⟨W0, hW0, hb0, ⟨h01, h02⟩, rx⟩ := newbox w p d (.slice a xs.length cap)
  obtain ⟨W1, hW1, hb1, ⟨h11, h12⟩, rr⟩ := newbox W0 0 0 (.slice none 0 0)
  obtain ⟨W2, hW2, hb2, hs2, hm2⟩ : ∃ W2, W2 = W1.alloc (.map #[] 0) ∧ Below W1.heap.size W1 W2 ∧ (W2.heap.size ≤ W1.heap.size + 1 ∧ W1.heap.size + 1 ≤ W2.heap.size) ∧ MapE W2 W1.heap.size 0 (.map []) :=
    ⟨_, rfl, box1 W1 _, ⟨by simp, by simp⟩, World.ownsMap_made (H := Unit) W1 Try.prog 75 (plainElem Try.prog 2)⟩
  have hs0 : W0.heap.size = w.heap.size + 1 := by omega
  have hs1 : W1.heap.size = w.heap.size + 2 := by omega
  rw [hs0] at rr
  rw [hs1] at hm2 hs2
  have hb02 := hb1.trans (hb2.mono hb1.size)
  have hw2 := hb0.trans (hb02.mono hb0.size)
  have rx2 := rowIs_below rx hb02 rx.lt
  have rr2 := rowIs_below rr hb2 rr.lt
  have hS2 := hS.below hw2
  have hSo2 := hSo.below hw2
  have haw := hSo.away (g := w.heap.size + 2) (by omega)
  have HSX := Lib.hid (fun e => hV.at_bound e)
  have HSL := Lib.hid (fun (B : Nat) (W : World) => slice_exps B d hd.2 W)
  have HOR := Lib.hid (ord_row hd ho)
  have HST := Lib.hid (fun (j : Nat) (hj : j < xs.length) e => exF_step hd ho hV.asc hin j hj e)
  have HIN := Lib.hid hin
  have HO := Lib.hid ho
  have HVV := Lib.hid hV
  have HDG := Lib.hid (fun e (h : exF d os xs e ≠ 0) => exF_deg hd ho hV hin h)
  have HBD := Lib.hid (fun e => exF_bound (os := os) hV e)
  have HZ := Lib.hid (And.intro hs0 (And.intro hs1 hs2))
  have hw2s : w.heap.size + 2 < W2.heap.size := by omega
  clear hV hin ho rx rr hb0 hb1 hb2 hb02 h01 h02 h11 h12 hs2 hs0 hs1 hSo
  go_enter Try.func69, Try.ntmps69
  go_upto_region 1 with fail
  rw [← hW0, ← hW1]
  clear hW0 hW1
  go_upto_region 2 with fail
  rw [← hW2]
  clear hW2 hmm
  have hsz1 := HZ.out.2.1
  rw [hsz1]
  clear hsz1
  obtain ⟨⟨x0, x1, x2⟩, _⟩ := poly3 rx2
  go_wp2_with fail
  clear x0 x1 x2
  go_loopw [12] (fun i wq => ∃ (j : Nat) (D : DataW Unit), j ≤ xs.length ∧ i = .int .i64 j ∧ Hid (∀ e, byte3 e → cf D e = exF d os (xs.take j) e) ∧ MapE wq (w.heap.size + 2) j D ∧ W2.grownBy wq (some (w.heap.size + 2))) (fun i _ => xs.length - (intOf i).toNat)
  case atStart => exact ⟨0, _, by omega, rfl, Lib.hid (fun e _ => by rw [cf_empty, List.take_zero, exF_nil]), hm2, World.grownBy.refl _ _⟩
  case round =>
    obtain ⟨j, D, hj, rfl, HD, hM, hgr⟩ := hrel
    have hSr := hS2.beside hm2 hgr
    have rxr := rowG rx2 hgr (by omega)
    have rrr := rowG rr2 hgr (by omega)
    have hSoR : Sl wr vo os := hSo2.kept2 hgr haw
    obtain ⟨⟨x0, x1, x2⟩, _⟩ := poly3 rxr
    by_cases hlt : j < xs.length
    · have hlt' : (j : Int) < (xs.length : Int) := by omega
      obtain ⟨a', cap', hv', hcase⟩ := hSr
      simp at hv'
      obtain ⟨rfl, rfl⟩ := hv'
      rcases hcase with h0 | ⟨c, off, rfl, hltb, hTr⟩
      · rw [h0] at hlt; exact absurd hlt (by simp)
      obtain ⟨c0, c1, c2, c3⟩ := hTr j hlt
      obtain ⟨⟨hby, hs12⟩, bv1, bv2⟩ := HVV.out.mem xs[j] (List.getElem_mem _)
      have HS1 := Lib.hid (fun e => HST.out j hlt e)
      have hin1 := HIN.out xs[j] (List.getElem_mem _)
      obtain ⟨t, ht⟩ : ∃ t, xs[j] = t := ⟨_, rfl⟩
      rw [ht] at c0 c1 c2 c3 hby bv1 bv2 HS1 hin1
      obtain ⟨x, y, z, u⟩ := t
      simp only at c0 c1 c2 c3 bv1 bv2
      obtain ⟨V, hVV, hbV, rt⟩ : ∃ V, V = wr.alloc (.cells #[.int .u8 x, .int .u8 y, .int .u8 z, .int .i64 u] 92) ∧ Below wr.heap.size wr V ∧ V.rowIs wr.heap.size 92 4 (tmG x y z u) := ⟨_, rfl, box1 _ _, World.rowIs_alloc wr #[_, _, _, _] _ _ (fun i hi => by simp at hi; match i, hi with | 0, _ => rfl | 1, _ => rfl | 2, _ => rfl | 3, _ => rfl)⟩
      have hMV := hM.later hbV
      have hgV := hgr.trans (gBelow hbV)
      have hbe : byte3 (x, y, z) := hby
      have hel : (exL d (x, y, z)).length = d := exL_len hd.2 _
      have HCI := Lib.hid (fun (w' : World) (hb : Below V.heap.size V w') => by
        have h := iinb wr.heap.size vo (exL d (x, y, z)) os w' (by rw [hel, HOR.out.1]; exact Nat.le_refl _) (by rw [hel]; exact hd.2) (fun e he => exL_byte hbe he) HOR.out.2 (Nat.lt_of_lt_of_le rt.lt hb.size)
          (fun k hk => by rw [exL_at _ hk]; exact ((hb.cell (p := ⟨wr.heap.size, k, none⟩) rt.lt).trans (tm_cell rt (by rw [hel] at hk; omega)))) ((hSoR.below hbV).below hb) (by rw [HOR.out.1]; omega)
        rw [hel] at h
        exact h)
      have hby2 : byte3 (fwd d os (x, y, z)) := keyO_byte (fun e he => exL_byte hbe he)
      have hkey : keyOf Try.prog 75 (.agg #[.int .u8 (fwd d os (x, y, z)).1, .int .u8 (fwd d os (x, y, z)).2.1, .int .u8 (fwd d os (x, y, z)).2.2]) = some (kE (fwd d os (x, y, z))) := keyOf_vE _ hby2
      have HD2 : Hid (∀ e, byte3 e → cf (D.put (kE (fwd d os (x, y, z))) (.lit (.int .i64 u))) e = exF d os (xs.take (j + 1)) e) := Lib.hid (fun e he => by
        rw [cf_put hM.isMap hby2 he, HS1.out e, HD.out e he]
        rfl)
      have HFE : Hid (fwd d os (x, y, z) = (plF (exL d (x, y, z)) os d 0, plF (exL d (x, y, z)) os d 1, plF (exL d (x, y, z)) os d 2)) := Lib.hid (by unfold fwd keyO; rw [hel])
      have hwf : (Lit.int .i64 u).wf = true := wf64 (by omega) (by omega)
      have hxc : ∀ w', V.grownBy w' (some (w.heap.size + 2)) → w'.cell? ⟨w.heap.size, 1, none⟩ = some (.int .i64 d) ∧ w'.cell? ⟨wr.heap.size, 3, none⟩ = some (.int .i64 u) := fun w' h => ⟨by
        have := rowG (rowIs_below rxr hbV rxr.lt) h (by omega)
        exact (poly3 this).1.2.1, by
        have hwr : w.heap.size + 2 < wr.heap.size := Nat.lt_of_lt_of_le hw2s hgr.size
        have := rowG rt h (by omega)
        exact this.cell (i := 3) (by omega)⟩
      have HXC := Lib.hid hxc
      obtain ⟨hc1, hc3⟩ := hxc V (World.grownBy.refl _ _)
      have hsl := HSL.out wr.heap.size
      obtain ⟨K, hK⟩ : ∃ K, fwd d os (x, y, z) = K := ⟨_, rfl⟩
      rw [hK] at hby2 hkey HD2 HFE
      obtain ⟨k0, k1, k2⟩ := K
      simp only at hkey
      have HC2 : Hid (∀ (w' : World), Below V.heap.size V w' → Calls Try.prog 110 #[.slice (some ⟨wr.heap.size, 0, none⟩) d 3, vo] w' fun e w'' => e = .returned (.agg #[.int .u8 k0, .int .u8 k1, .int .u8 k2]) ∧ Below w'.heap.size w' w'') := Lib.hid (fun w' hb => by
        have h := HCI.out w' hb
        have h3 := HFE.out
        simp only [Prod.mk.injEq] at h3
        rw [← h3.1, ← h3.2.1, ← h3.2.2] at h
        exact h)
      have hMD : MapE V.drew (w.heap.size + 2) j D := hMV.later (Below.refl _ _).drew
      have hgD : V.grownBy V.drew (some (w.heap.size + 2)) := gBelow (Below.refl _ _).drew
      have hj3 : j < 2200 := by omega
      clear hTr hK HCI HFE HS1 hS2 hSoR hSo2 x0 x1 x2 hM hMV rt HD hxc hin1 hby hbe hsl hs12
      have hsl := HSL.out wr.heap.size
      go_upto_region 5 with fail
      rw [← hVV]
      clear hVV c0 c1 c2 c3
      go_region_held3 (fun w' => w'.cell? ⟨w.heap.size, 1, none⟩ = some (.int .i64 d) ∧ w'.cell? ⟨wr.heap.size, 3, none⟩ = some (.int .i64 u))
        (first | with_reducible exact HXC.out _ hgD | with_reducible exact HXC.out _ hg5 | with_reducible exact HXC.out _ hg7)
        ((go_at_call 110; (with_reducible refine (HC2.out _ (Below.refl _ _).drew).mono ?_); rintro e w5 ⟨rfl, hb5⟩; have hM5 : MapE w5 (w.heap.size + 2) j D := hMD.later hb5; have hg5 : V.grownBy w5 (some (w.heap.size + 2)) := hgD.trans (gBelow hb5); (obtain ⟨w7, hrun7, hown7, hgrow7⟩ := hM5.update lawK Try.underlying106 (by unfold maxLen; omega) hkey (plainElem_int (H := Unit) Try.underlying2 hwf)); have hg7 : V.grownBy w7 (some (w.heap.size + 2)) := hg5.trans hgrow7))
      all_goals
        have hg8 := hgV.trans hg7
        go_wp2_with fail
        go_roundw
        case rel => exact ⟨j + 1, _, by omega, by go_num, HD2, hown7, hg8⟩
        case measure => simp [intOf]; omega
    · obtain rfl : j = xs.length := by omega
      have hcf : ∀ e, byte3 e → cf D e = exF d os xs e := fun e he => by rw [HD.out e he, List.take_length]
      have HG : Hid (∀ S, Good D S → IsP p S (exF d os xs)) := Lib.hid (fun S h => h.isP hcf (fun e _ => HBD.out e) (fun e _ hne => HDG.out e hne))
      have HPO := Lib.hid (polyOf_any sort_says p d (w.heap.size + 2) _ D wr hM (by omega) (fun e he hc => HDG.out e (by rw [← hcf e he]; exact hc)))
      have hbw : Below w.heap.size w wr := hw2.grown hgr hw2.size (fun q hq => by cases hq; omega)
      clear hcf hM hgr HD hm2 hw2 rx2 rr2 rxr hS2 hSo2 hSoR hSr
      go_wp2_with fail
      ((with_reducible refine HPO.out.mono ?_); rintro e w5 ⟨v5, S, rfl, ho5, hgood, hb5⟩)
      have HIS := Lib.hid (HG.out S hgood)
      obtain ⟨sa, sc, rfl⟩ := owns_slice ho5
      have rr5 := rowIs_below rrr hb5 rrr.lt
      obtain ⟨⟨r0, r1, r2⟩, z0, z1, z2⟩ := poly3 rr5
      obtain ⟨a0, a1, a2, a3, a4⟩ := fill_box rr5 ho5 hbw.size (hbw.trans (hb5.mono hbw.size)) (Nat.le_succ _) p d
      have A0 := Lib.hid a0
      have A1 := Lib.hid a1
      have A2 := Lib.hid a2
      have A3 := Lib.hid a3
      have A4 := Lib.hid a4
      clear a0 a1 a2 a3 a4 ho5 hgood rr5 rrr hbw hb5 x0 x1 x2
      go_wp2_with fail
      refine bodyPost_ret (v := .agg #[.int .i64 p, .int .i64 d, .slice sa S.length sc]) (by simp [results, Try.results69, go_sem, A0.out, A1.out, A2.out]) rfl ⟨_, S, rfl, A3.out, HIS.out, A4.out⟩
end Go.Proofs.Ytphgpadpffigjaa
