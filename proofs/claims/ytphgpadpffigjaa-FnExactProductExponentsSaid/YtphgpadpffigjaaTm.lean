/-
  WALKS: 'impl.addTimes'. Conditions: as each theorem states.
-/
import Derived.Test.YtphgpadpffigjaaDj
import Derived.Test.YtphgpadpffigjaaMr
namespace Go.Proofs.Ytphgpadpffigjaa
open Go.RowKit Go.Sort Go.Maps

theorem SliceT.beside {w w' : World} {v : Value} {ts : List Tm} {b n : Nat} {D : DataW Unit} (h : SliceT w v ts) (hM : MapE w b n D) (hg : w.grownBy w' (some b)) : SliceT w' v ts := by
  obtain ⟨a, cap, hv, h | ⟨c, off, ha, hlt, hT⟩⟩ := h
  · exact ⟨a, cap, hv, .inl h⟩
  · by_cases hn : ts = []
    · exact ⟨a, cap, hv, .inl hn⟩
    refine SliceT.keep ⟨a, cap, hv, .inr ⟨c, off, ha, hlt, hT⟩⟩ hg fun c' hc' => ?_
    subst hv ha
    simp [Value.ownBlock] at hc'
    subst hc'
    intro e
    simp at e
    subst e
    have h0 := (hT 0 (List.length_pos_iff.2 hn)).1
    obtain ⟨es, clock, hb, _⟩ := hM
    simp [World.cell?, hb] at h0

/-- What the next term adds. -/
theorem plus_step {p k : Int} {ts : List Tm} {f : Int × Int × Int → Int} (h : Asc ts) (j : Nat) (hj : j < ts.length) (e : Int × Int × Int) :
    (f e + k * atL (ts.take (j + 1)) e) % p = if e = tmE ts[j] then (f (tmE ts[j]) + k * ts[j].2.2.2) % p else (f e + k * atL (ts.take j) e) % p := by
  rw [atL_take h j hj]
  by_cases hx : e = tmE ts[j]
  · subst hx
    rw [if_pos rfl, if_pos rfl]
  · rw [if_neg hx, if_neg (fun hy => hx hy.symm)]

theorem gTrans {w w1 w2 : World} {row : Option Nat} (h : w.grownBy w1 row) (h' : w1.grownBy w2 row) : w.grownBy w2 row :=
  ⟨h'.os.trans h.os, h'.tape.trans h.tape, h'.output.trans h.output, Nat.le_trans h.size h'.size, fun k hk hne => (h'.block k (Nat.lt_of_lt_of_le hk h.size) hne).trans (h.block k hk hne)⟩

set_option maxRecDepth 8000 in
set_option maxHeartbeats 8000000 in
theorem addTimes_any (p d k : Int) (v : Value) (ts : List Tm) (w : World) (b n : Nat) (D : DataW Unit) (f : Int × Int × Int → Int) (hl : ts.length ≤ 1048576) (hS : SliceT w v ts) (hV : Valid p d ts) (hM : MapE w b n D) (hn : n ≤ 1000000000)
    (hf : ∀ e, byte3 e → cf D e = f e) (hfb : ∀ e, byte3 e → 0 ≤ f e ∧ f e < p) (hk0 : 0 ≤ k) (hk1 : k < p) :
    Calls Try.prog 96 #[.map (some b), .agg #[.int .i64 p, .int .i64 d, v], .int .i64 k] w fun e w' =>
      ∃ D', e = .returned (.tuple #[]) ∧ MapE w' b (n + ts.length) D' ∧ (∀ e, byte3 e → cf D' e = (f e + k * atL ts e) % p) ∧ w.grownBy w' (some b) := by
  have hp2 := hV.p2
  have hp13 := hV.p13
  obtain ⟨a, cap, rfl, _⟩ := id hS
  obtain ⟨W, hW, hbW, hWs, rx⟩ : ∃ W, W = w.alloc (.cells #[.int .i64 p, .int .i64 d, .slice a ts.length cap] 36) ∧ Below w.heap.size w W ∧ w.heap.size < W.heap.size ∧
      W.rowIs w.heap.size 36 3 (polyF p d (.slice a ts.length cap)) :=
    ⟨_, rfl, box1 _ _, by simp, World.rowIs_alloc w #[Value.int .i64 p, .int .i64 d, .slice a ts.length cap] _ _ (fun i hi => by simp at hi; match i, hi with | 0, _ => rfl | 1, _ => rfl | 2, _ => rfl)⟩
  obtain ⟨⟨c0, c1, c2⟩, _⟩ := poly3 rx
  have hMW : MapE W b n D := hM.kept (row := none) ⟨hbW.os, hbW.tape, hbW.output, hbW.size, fun k hk _ => hbW.block k hk⟩ (by simp)
  have hgW : w.grownBy W (some b) := ⟨hbW.os, hbW.tape, hbW.output, hbW.size, fun k hk _ => hbW.block k hk⟩
  have hSW := hS.beside hM hgW
  go_enter Try.func96, Try.ntmps96
  go_wp2_with fail
  rw [← hW]
  clear hW c0 c1 c2
  go_loopw [11] (fun j wr => ∃ (j' : Nat) (D : DataW Unit), j' ≤ ts.length ∧ j = .int .i64 j' ∧ Hid (∀ e, byte3 e → cf D e = (f e + k * atL (ts.take j') e) % p) ∧ MapE wr b (n + j') D ∧ W.grownBy wr (some b) ∧ wr.rowIs w.heap.size 36 3 (polyF p d (.slice a ts.length cap))) (fun j _ => ts.length - (intOf j).toNat)
  case atStart => exact ⟨0, D, by omega, rfl, Lib.hid (fun e he => by rw [hf e he]; simp [atL]; exact (Int.emod_eq_of_lt (hfb e he).1 (hfb e he).2).symm), hMW, ⟨rfl, rfl, rfl, Nat.le_refl _, fun _ _ _ => rfl⟩, rx⟩
  case round =>
    obtain ⟨j, D1, hj, rfl, HD, hM1, hgr, rx1⟩ := hrel
    have hSr := hSW.beside hMW hgr
    obtain ⟨⟨m0, m1, m2⟩, _⟩ := poly3 rx1
    by_cases hlt1 : j < ts.length
    · have hlt' : (j : Int) < (ts.length : Int) := by omega
      obtain ⟨a', cap', hv', hcase⟩ := hSr
      simp at hv'
      obtain ⟨rfl, rfl⟩ := hv'
      rcases hcase with h0 | ⟨c, off, rfl, hltb, hTr⟩
      · rw [h0] at hlt1; exact absurd hlt1 (by simp)
      obtain ⟨c0, c1, c2, c3⟩ := hTr j hlt1
      obtain ⟨⟨⟨bx, by1, bz⟩, hs12⟩, bv1, bv2⟩ := hV.mem ts[j] (List.getElem_mem _)
      have hd1 := Lib.hid (fun e => plus_step (p := p) (k := k) (f := f) hV.asc j hlt1 e)
      have hfe := hfb (tmE ts[j]) ⟨bx, by1, bz⟩
      have hHe := HD.out (tmE ts[j]) ⟨bx, by1, bz⟩
      rw [atL_take_new hV.asc j hlt1, Int.mul_zero, Int.add_zero, Int.emod_eq_of_lt hfe.1 hfe.2] at hHe
      have HE := Lib.hid hHe
      clear hHe
      simp only [tmE] at bx by1 bz
      generalize hx : ts[j].1 = x at *
      generalize hy : ts[j].2.1 = y at *
      generalize hz : ts[j].2.2.1 = z at *
      generalize hvv : ts[j].2.2.2 = v at *
      have htm : tmE ts[j] = (x, y, z) := by simp [tmE, hx, hy, hz]
      rw [htm] at hfe HE
      generalize hfg : f (x, y, z) = fe at *
      have mo : ∀ o, (wr.alloc o).cell? ⟨w.heap.size, 0, none⟩ = some (.int .i64 p) := fun o => ((box1 wr o).cell rx1.lt).trans m0
      have hE1 : byte3 (x, y, z) := ⟨bx, by1, bz⟩
      have hkey : keyOf Try.prog 75 (.agg #[.int .u8 x, .int .u8 y, .int .u8 z]) = some (kE (x, y, z)) := keyOf_vE (x, y, z) hE1
      have hMm : MapE (wr.alloc (.cells #[.int .u8 x, .int .u8 y, .int .u8 z, .int .i64 v] 92)).drew b (n + j) D1 := (hM1.alloc _).kept (row := none) ⟨rfl, rfl, rfl, Nat.le_refl _, fun _ _ _ => rfl⟩ (by simp)
      obtain ⟨c, hrun, hat, _⟩ := hMm.lookup_int lawK Try.underlying106 Try.underlying2 (zero64 _) hkey
      have hce : c = fe := by rw [← HE.out]; exact (cf_of_at hat).symm
      subst hce
      have g1 : 0 ≤ k * v := Int.mul_nonneg (by omega) (by omega)
      have g2 : k * v ≤ 13 * 13 := Int.mul_le_mul (by omega) (by omega) (by omega) (by omega)
      have hw : IntKind.i64.wrap (k * v) = k * v := IntWalk.i64_in _ (by omega)
      have hw2 : IntKind.i64.wrap (c + k * v) = c + k * v := IntWalk.i64_in _ (by omega)
      have hp0 : ¬ p = 0 := by omega
      have hp1 : (p == 0) = false := by simpa using hp0
      have ht : (c + k * v).tmod p = (c + k * v) % p := Int.tmod_eq_emod_of_nonneg (by omega)
      have q1 : 0 ≤ (c + k * v) % p := Int.emod_nonneg _ (by omega)
      have q2 : (c + k * v) % p < p := Int.emod_lt_of_pos _ (by omega)
      have HD2 : Hid (∀ e, byte3 e → cf (D1.put (kE (x, y, z)) (.lit (.int .i64 ((c + k * v) % p)))) e = (f e + k * atL (ts.take (j + 1)) e) % p) := Lib.hid (fun e he => by
        rw [cf_put hM1.isMap hE1 he, hd1.out e, HD.out e he, htm, hfg])
      clear htm hd1 hV hS hTr hf hfb hat HE HD
      go_wp2_with fail
      refine region_tail 15 (by kernel_rfl) (by kernel_rfl) ?_
      simp only [List.take_succ_cons, List.take_zero, List.drop_succ_cons, List.drop_zero]
      repeat still_step
      refine wpStill_nil ?_
      try simp only [hw, hw2, ht]
      go_wp2_with (at_mapUpdate; refine wpList_mapUpdate_own _ rfl _ _ _ 106 rfl 75 2 lawK Try.underlying106 (plainElem Try.prog 2) b (n + j) D1 rfl hMm (by unfold maxLen; omega) (.agg #[.int .u8 x, .int .u8 y, .int .u8 z]) _ _ rfl rfl hkey _ [] (plainElem_int Try.underlying2 (wf64 q1 (by omega))) ?_; intro w2 hown2 hgrow2)
      have hgrow3 : (wr.alloc (.cells #[.int .u8 x, .int .u8 y, .int .u8 z, .int .i64 v] 92)).grownBy w2 (some b) := ⟨hgrow2.os, hgrow2.tape, hgrow2.output, hgrow2.size, hgrow2.block⟩
      go_roundw
      case rel => exact ⟨j + 1, _, by omega, by go_num, HD2, hown2, gTrans (gTrans hgr (World.grownBy_alloc wr _ (some b))) hgrow3, ((rx1.alloc _).of_block (hgrow3.block _ (Nat.lt_of_lt_of_le rx1.lt (by simp)) (by simpa using row_not_map rx1 hM1)))⟩
      case measure => simp [intOf]; omega
    · obtain rfl : j = ts.length := by omega
      have hD := HD.out
      rw [List.take_length] at hD
      have hgg : w.grownBy wr (some b) := gTrans hgW hgr
      clear hSr HD
      go_wp2_with fail
      go_end0
      exact ⟨_, rfl, hM1, hD, hgg⟩
end Go.Proofs.Ytphgpadpffigjaa
