/-
  SUBGROUPS OF LISTS: 'impl.SubgroupOf', walked. Conditions: the numbers of the matrices are bytes.
-/
import Derived.Test.YtpbdbgajohacoaaTq
import Derived.Test.YtpbdbgajohacoaaTp
namespace Go.Proofs.Ytpbdbgajohacoaa
open Go.RowKit Go.Sort Go.Maps EchM

theorem chosen_len (L : List (Nat → Nat → Int)) (l : List Int) : (chosen L l).length = l.length := by simp [chosen]
theorem chosen_at {L : List (Nat → Nat → Int)} {l : List Int} {k q : Nat} (hk : k < l.length) (hq : q < L.length) (h : l[k] = (q : Int)) : (chosen L l)[k]'(by rw [chosen_len]; exact hk) = L[q] := by
  unfold chosen
  rw [List.getElem_map, h]
  simp only [Int.toNat_natCast, List.getD_eq_getElem?_getD, List.getElem?_eq_getElem hq, Option.getD_some]
theorem sub_of_grp {p n : Int} {L : List (Nat → Nat → Int)} {l : List Int} {o : GO} (hg : isGrp p n L = true) (hl : l.all (inR L) = true) (h : GrpRes p n (chosen L l) o) : SubRes p n L l o := by
  have hok : okL p n (chosen L l) = true := by
    have hall : (chosen L l).all (isMat p n) = true := by
      rw [List.all_eq_true]
      intro x hx
      have hx' := chosen_in hl x hx
      have ht : tailG p n L 0 = true := by
        unfold isGrp at hg
        simp only [Bool.and_eq_true] at hg
        exact hg.2.2.2.2.1
      exact tailG_all ht x hx'
    unfold isGrp at hg
    simp only [Bool.and_eq_true] at hg
    unfold okL
    simp only [Bool.and_eq_true]
    exact ⟨hg.1, hg.2.1, hall⟩
  obtain ⟨m, rfl⟩ : ∃ m : Nat, n = m := by
    have := (isGrp_pn hg).2
    exact ⟨n.toNat, by omega⟩
  rcases h with ⟨a, _⟩ | ⟨_, b, _⟩ | ⟨_, O, c, d⟩
  · rw [hok] at a; cases a
  · exact absurd b (grp_not_over hg (chosen_in hl))
  · exact .inr (.inr ⟨hg, hl, O, c, d⟩)

set_option maxRecDepth 8000 in
set_option maxHeartbeats 8000000 in
theorem isub (p n : Int) (v u : Value) (L : List (Nat → Nat → Int)) (l : List Int) (w : World) (hl : L.length ≤ 1048576) (hS : SlM w v L) (hby : ∀ x ∈ L, Byt x) (hll : l.length ≤ 1048576) (hU : Sl w u l) :
    Calls Try.prog 33 #[.agg #[.int .i64 p, .int .i64 n, v], u] w fun e w' => ∃ o, SubRes p n L l o ∧ ResG w o e w' := by
  have hmf : ∀ (fn : Fn) (first cap : Array Value) (w : World), (Instr.makeFunc fn first cap).run Try.prog w = .ok (.func fn first cap) w := fun _ _ _ _ => rfl
  obtain ⟨i0, hi, hz0, hz1, hz2⟩ := info_parts infoMat
  have hmk : ∀ w, (Instr.makeSlice 24 (.int .i64 (l.length : Int)) (.int .i64 (l.length : Int))).run Try.prog w = .ok (.slice (some ⟨w.heap.size, 0, none⟩) l.length l.length) (w.alloc (.cells (madeM l.length) 55)) := fun w => by
    have h := run_make (P := Try.prog) w 24 55 i0 _ Try.underlying24 hi hz0 .i64 .i64 (l.length : Int) (l.length : Int) (by omega) (by omega) (by rw [hz2]; omega) (by omega)
    rw [hz1] at h
    simpa [madeM] using h
  clear hi hz0 hz1 hz2
  obtain ⟨W, hW, rW, rR, hbW, hWs⟩ : ∃ W, W = (w.alloc (.cells #[.int .i64 p, .int .i64 n, v] 26)).alloc (.cells #[.int .i64 0, .int .i64 0, .slice none 0 0] 26) ∧ W.rowIs w.heap.size 26 3 (grpF p n v) ∧ W.rowIs (w.heap.size + 1) 26 3 (grpF 0 0 (.slice none 0 0)) ∧ Below w.heap.size w W ∧ w.heap.size + 2 ≤ W.heap.size := by
    refine ⟨_, rfl, (gbox w p n v _).alloc _, ?_, ebox2 _ _ _, by simp⟩
    have := gbox (w.alloc (.cells #[.int .i64 p, .int .i64 n, v] 26)) 0 0 (.slice none 0 0) 26
    rwa [World.size_alloc] at this
  have hSW := hS.below hbW
  have hUW := hU.below hbW
  obtain ⟨a, cap, rfl, hSc⟩ := id hS
  obtain ⟨ua, ucap, rfl, hUc⟩ := id hU
  obtain ⟨g0, g1, g2⟩ := gcells rW
  have HBY := Lib.hid hby
  clear hby
  go_enter Try.func33, Try.ntmps33
  go_wp2_with fail
  rw [← hW]
  clear hW
  ((with_reducible refine (igroup p n _ L _ hl hSW HBY.out).mono ?_); rintro e w1 ⟨rfl, hb1⟩)
  have rx1 := erow_below rW hb1 rW.lt
  have rr := erow_below rR hb1 rR.lt
  have hbw1 := hbW.trans (hb1.mono hbW.size)
  have hU1 := hUW.below hb1
  clear g0 g1 g2 hSW hUW
  cases hg : isGrp p n L
  · have HX := Lib.hid hg
    clear hg
    obtain ⟨r0, r1, r2⟩ := gcells rr
    have z0 := rr.frozen 0
    have z1 := rr.frozen 1
    have z2 := rr.frozen 2
    have R := ((rr.set 0 (.int .i64 0)).set 1 (.int .i64 0)).set 2 (.slice none 0 0)
    have V0 := Lib.hid (R.cell (i := 0) (by omega))
    have V1 := Lib.hid (R.cell (i := 1) (by omega))
    have V2 := Lib.hid (R.cell (i := 2) (by omega))
    have HB := Lib.hid (((hbw1.setCell (p := ⟨w.heap.size + 1, 0, none⟩) (by simp) (.int .i64 0)).setCell (p := ⟨w.heap.size + 1, 1, none⟩) (by simp) (.int .i64 0)).setCell (p := ⟨w.heap.size + 1, 2, none⟩) (by simp) (.slice none 0 0))
    clear R
    go_wp2_with fail
    exact bodyPost_ret (v := .tuple #[.agg #[.int .i64 0, .int .i64 0, .slice none 0 0], .int .i64 1]) (by simp [results, Try.results33, go_sem, V0.out, V1.out, V2.out]) rfl ⟨noG 1, .inl ⟨HX.out, rfl⟩, _, rfl, ownG9_none _ _, HB.out⟩
  · have HX := Lib.hid hg
    clear hg
    have HCON := Lib.hid (sxcontains (.pointer (some ⟨w.heap.size, 0, none⟩)) (fun x => !inR L x) _ l w1 hll hU1 (fun w' hb' x => soutside p n a cap L w.heap.size x w' (erow_below rx1 hb' rx1.lt)))
    have HANY := Lib.hid (List.all_eq_not_any_not (l := l) (p := inR L))
    generalize (l.any fun x => !inR L x) = E at *
    go_wp2_with fail
    ((with_reducible refine HCON.out.mono ?_); rintro e w2 ⟨rfl, hb2⟩)
    have rx2 := erow_below rx1 hb2 rx1.lt
    have rr2 := erow_below rr hb2 rr.lt
    have hbw2 := hbw1.trans (hb2.mono hbw1.size)
    clear rx1 rr hU1 hb1 hb2 HCON rW rR
    cases E
    · have HALL := Lib.hid (show l.all (inR L) = true by rw [HANY.out]; rfl)
      clear HANY
      have HHD : Hid (∀ (k : Nat) (hk : k < l.length), ∃ q : Nat, l[k] = (q : Int) ∧ q < L.length) := Lib.hid (fun k hk => by
        have := List.all_eq_true.1 HALL.out _ (List.getElem_mem hk)
        unfold inR at this
        simp only [Bool.and_eq_true, decide_eq_true_eq] at this
        exact ⟨l[k].toNat, by omega, by omega⟩)
      obtain ⟨E, hE, hEs⟩ : ∃ E, E = w2.alloc (.cells (madeM l.length) 55) ∧ Below w2.heap.size w2 E := ⟨_, rfl, ebox1 _ _⟩
      have hEz : w2.heap.size < E.heap.size := by rw [hE]; simp
      have hEr : E.rowIs w2.heap.size 55 (l.length * 9) (fun i => (madeM l.length).getD i undef) := by rw [hE]; exact madeM_row w2 _ _
      go_wp2_with fail
      rw [← hE]
      clear hE
      go_loopw [24] (fun i wr => ∃ k : Nat, k ≤ l.length ∧ i = .int .i64 k ∧ Below w2.heap.size w2 wr ∧ w2.heap.size < wr.heap.size ∧ ∃ f, wr.rowIs w2.heap.size 55 (l.length * 9) f ∧ Hid (rowM (chosen L l) k f)) (fun i _ => l.length - (intOf i).toNat)
      case atStart => exact ⟨0, by omega, rfl, hEs, hEz, _, hEr, Lib.hid (fun j _ h => by omega)⟩
      case round =>
        clear hEs hEz hEr
        obtain ⟨k, hk, rfl, hbel, hsz, f, hrow, HR⟩ := hrel
        have rxr := erow_below rx2 hbel rx2.lt
        have hbwr := hbw2.trans (hbel.mono hbw2.size)
        obtain ⟨g0, g1, g2⟩ := gcells rxr
        by_cases hlt : k < l.length
        · have hlt' : (k : Int) < (l.length : Int) := by omega
          obtain ⟨lb, lo, rfl, hlb, hlT⟩ : ∃ b off, ua = some ⟨b, off, none⟩ ∧ b < w.heap.size ∧ Cs w b off l := by
            rcases hUc with rfl | h
            · simp at hlt
            · exact h
          obtain ⟨q, hq, hqL⟩ := HHD.out k hlt
          have c0 := (hlT.below hbwr hlb) k hlt
          rw [hq] at c0
          obtain ⟨b, off, rfl, hbb, hT⟩ : ∃ b off, a = some ⟨b, off, none⟩ ∧ b < w.heap.size ∧ MatsW w b off L := by
            rcases hSc with rfl | h
            · simp at hqL
            · exact h
          have hqL' : (q : Int) < (L.length : Int) := by omega
          obtain ⟨⟨a0, a1, a2⟩, ⟨a3, a4, a5⟩, a6, a7, a8⟩ := (hT.below hbwr hbb).nine hqL
          have HN : Hid (rowM (chosen L l) (k + 1) (putM f k L[q])) := Lib.hid (by
            have := rowM_step HR.out (show k < (chosen L l).length by rw [chosen_len]; exact hlt)
            rwa [chosen_at hlt hqL hq] at this)
          clear hq
          generalize L[q] = x at *
          have d0 := hrow.cell (i := k * 9) (by omega)
          have f0 := hrow.frozen (k * 9)
          have d1 := hrow.cell (i := k * 9 + 1) (by omega)
          have f1 := hrow.frozen (k * 9 + 1)
          have d2 := hrow.cell (i := k * 9 + 2) (by omega)
          have f2 := hrow.frozen (k * 9 + 2)
          have d3 := hrow.cell (i := k * 9 + 3) (by omega)
          have f3 := hrow.frozen (k * 9 + 3)
          have d4 := hrow.cell (i := k * 9 + 4) (by omega)
          have f4 := hrow.frozen (k * 9 + 4)
          have d5 := hrow.cell (i := k * 9 + 5) (by omega)
          have f5 := hrow.frozen (k * 9 + 5)
          have d6 := hrow.cell (i := k * 9 + 6) (by omega)
          have f6 := hrow.frozen (k * 9 + 6)
          have d7 := hrow.cell (i := k * 9 + 7) (by omega)
          have f7 := hrow.frozen (k * 9 + 7)
          have d8 := hrow.cell (i := k * 9 + 8) (by omega)
          have f8 := hrow.frozen (k * 9 + 8)
          have rows := putM_row hrow k x
          clear hrow rxr g0 g1 HR
          go_wp2_with fail
          go_roundw
          case rel => exact ⟨k + 1, by omega, by go_num, (((((((((hbel).setCell (Nat.le_refl _) _).setCell (Nat.le_refl _) _).setCell (Nat.le_refl _) _).setCell (Nat.le_refl _) _).setCell (Nat.le_refl _) _).setCell (Nat.le_refl _) _).setCell (Nat.le_refl _) _).setCell (Nat.le_refl _) _).setCell (Nat.le_refl _) _, by simpa using hsz, _, rows, HN⟩
          case measure => simp [intOf]; omega
        · obtain rfl : k = l.length := by omega
          have hSE : SlM wr (.slice (some ⟨w2.heap.size, 0, none⟩) l.length l.length) (chosen L l) := by
            refine ⟨_, _, by rw [chosen_len], .inr ⟨w2.heap.size, 0, rfl, hsz, fun k hk i j hi hj => ?_⟩⟩
            have hk' : k < l.length := by rwa [chosen_len] at hk
            have := HR.out k hk hk' i j hi hj
            rw [Nat.zero_add, hrow.cell (by omega), this]
          have HGO := Lib.hid (igrof p n _ (chosen L l) wr (by rw [chosen_len]; exact hll) hSE (fun x hx => HBY.out x (chosen_in HALL.out x hx)))
          have rrr := erow_below rr2 hbel rr2.lt
          clear hSE HR hrow
          go_wp2_with fail
          ((with_reducible refine HGO.out.mono ?_); rintro e w3 ⟨o, ho, v3, rfl, ho3, hb3⟩)
          have HRES := Lib.hid (sub_of_grp HX.out HALL.out ho)
          clear ho
          obtain ⟨P, D, S, c⟩ := o
          simp only at ho3
          obtain ⟨sa, sc, rfl⟩ := OwnG9.shape ho3
          have r4 := erow_below rrr hb3 rrr.lt
          obtain ⟨r0, r1, r2⟩ := gcells r4
          have z0 := r4.frozen 0
          have z1 := r4.frozen 1
          have z2 := r4.frozen 2
          have R := ((r4.set 0 (.int .i64 P)).set 1 (.int .i64 D)).set 2 (.slice sa S.length sc)
          have V0 := Lib.hid (R.cell (i := 0) (by omega))
          have V1 := Lib.hid (R.cell (i := 1) (by omega))
          have V2 := Lib.hid (R.cell (i := 2) (by omega))
          have hbf := hbwr.trans (hb3.mono hbwr.size)
          have HB := Lib.hid (show Below w.heap.size w (((w3.setCell ⟨w.heap.size + 1, 0, none⟩ (.int .i64 P)).setCell ⟨w.heap.size + 1, 1, none⟩ (.int .i64 D)).setCell ⟨w.heap.size + 1, 2, none⟩ (.slice sa S.length sc)) from ((hbf.setCell (by simp) _).setCell (by simp) _).setCell (by simp) _)
          have HSL := Lib.hid (show OwnG9 (((w3.setCell ⟨w.heap.size + 1, 0, none⟩ (.int .i64 P)).setCell ⟨w.heap.size + 1, 1, none⟩ (.int .i64 D)).setCell ⟨w.heap.size + 1, 2, none⟩ (.slice sa S.length sc)) w.heap.size (.slice sa S.length sc) S from by
            have hne : (Value.slice sa S.length sc).ownBlock ≠ some (w.heap.size + 1) := fun e => by
              have := (World.ownsRow.lt ho3 _ e).1
              have := rrr.lt
              omega
            exact OwnG9.mono (mown_set (mown_set (mown_set ho3 _ _ _ hne) _ _ _ hne) _ _ _ hne) hbwr.size)
          clear R g0 g1 g2 HGO
          go_wp2_with fail
          exact bodyPost_ret (v := .tuple #[.agg #[.int .i64 P, .int .i64 D, .slice sa S.length sc], .int .i64 c]) (by simp [results, Try.results33, go_sem, V0.out, V1.out, V2.out]) rfl ⟨_, HRES.out, _, rfl, HSL.out, HB.out⟩
    · have HX2 := Lib.hid (show l.all (inR L) = false by rw [HANY.out]; rfl)
      obtain ⟨r0, r1, r2⟩ := gcells rr2
      have z0 := rr2.frozen 0
      have z1 := rr2.frozen 1
      have z2 := rr2.frozen 2
      have R := ((rr2.set 0 (.int .i64 0)).set 1 (.int .i64 0)).set 2 (.slice none 0 0)
      have V0 := Lib.hid (R.cell (i := 0) (by omega))
      have V1 := Lib.hid (R.cell (i := 1) (by omega))
      have V2 := Lib.hid (R.cell (i := 2) (by omega))
      have HB := Lib.hid (((hbw2.setCell (p := ⟨w.heap.size + 1, 0, none⟩) (by simp) (.int .i64 0)).setCell (p := ⟨w.heap.size + 1, 1, none⟩) (by simp) (.int .i64 0)).setCell (p := ⟨w.heap.size + 1, 2, none⟩) (by simp) (.slice none 0 0))
      clear R
      go_wp2_with fail
      exact bodyPost_ret (v := .tuple #[.agg #[.int .i64 0, .int .i64 0, .slice none 0 0], .int .i64 2]) (by simp [results, Try.results33, go_sem, V0.out, V1.out, V2.out]) rfl ⟨noG 2, .inr (.inl ⟨HX.out, HX2.out, rfl⟩), _, rfl, ownG9_none _ _, HB.out⟩
theorem SubRes.len {p n : Int} {L : List (Nat → Nat → Int)} {l : List Int} {o : GO} (h : SubRes p n L l o) : o.S.length ≤ 1048576 := by
  rcases h with ⟨_, h⟩ | ⟨_, _, h⟩ | ⟨_, _, O, b, h⟩ <;> rw [h]
  · simp [noG]
  · simp [noG]
  · simp only [sortM_len]; exact Nat.le_trans b.2.2 (by decide)
theorem ssubR {p n : Int} {L : List (Nat → Nat → Int)} {l : List Int} {o : GO} (ho : SubRes p n L l o) (v u : Value) (w : World) (hl : L.length ≤ 1048576) (hS : SlM w v L) (hby : ∀ x ∈ L, Byt x) (hll : l.length ≤ 1048576) (hU : Sl w u l) :
    Calls Try.prog 32 #[.agg #[.int .i64 p, .int .i64 n, v], u] w (ResG w o) :=
  (ssub p n v u L l w hl hS hby hll hU).mono fun _ _ ⟨_, ho', h⟩ => by rw [← ho'.unique ho]; exact h
theorem isubR {p n : Int} {L : List (Nat → Nat → Int)} {l : List Int} {o : GO} (ho : SubRes p n L l o) (v u : Value) (w : World) (hl : L.length ≤ 1048576) (hS : SlM w v L) (hby : ∀ x ∈ L, Byt x) (hll : l.length ≤ 1048576) (hU : Sl w u l) :
    Calls Try.prog 33 #[.agg #[.int .i64 p, .int .i64 n, v], u] w (ResG w o) :=
  (isub p n v u L l w hl hS hby hll hU).mono fun _ _ ⟨_, ho', h⟩ => by rw [← ho'.unique ho]; exact h
end Go.Proofs.Ytpbdbgajohacoaa
