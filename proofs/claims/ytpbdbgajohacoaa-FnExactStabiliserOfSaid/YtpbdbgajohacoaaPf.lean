/-
  STABILISERS of points: the program's choice of Elements and its walk. Conditions: the numbers of the matrices are bytes.
-/
import Derived.Test.YtpbdbgajohacoaaPe
import Derived.Test.YtpbdbgajohacoaaCc
namespace Go.Proofs.Ytpbdbgajohacoaa
open Go.RowKit Go.Sort EchM

/-- What the function value 'loop.example/g01285/impl.StabiliserOf$1' owes, in every world that has kept what lay there. -/
def stJ (w : World) (c1 c2 : Value) (f : (Nat → Nat → Int) → Bool) (L : List (Nat → Nat → Int)) : Prop :=
  ∀ w', Below w.heap.size w w' → ∀ x ∈ L, Calls Try.prog 68 #[(.agg #[.int .u8 (x 0 0), .int .u8 (x 0 1), .int .u8 (x 0 2), .int .u8 (x 1 0), .int .u8 (x 1 1), .int .u8 (x 1 2), .int .u8 (x 2 0), .int .u8 (x 2 1), .int .u8 (x 2 2)]), c1, c2] w' fun e w'' => e = .returned (.bool (f x)) ∧ Below w'.heap.size w' w''
theorem stJ.below {w w1 : World} {c1 c2 : Value} {f : (Nat → Nat → Int) → Bool} {L : List (Nat → Nat → Int)} (h : stJ w c1 c2 f L) (hb : Below w.heap.size w w1) : stJ w1 c1 c2 f L := fun w' hb' => h w' (hb.trans (hb'.mono hb.size))

set_option maxRecDepth 8000 in
set_option maxHeartbeats 4000000 in
theorem stpart (c1 c2 : Value) (f : (Nat → Nat → Int) → Bool) (p n : Int) (v : Value) (L : List (Nat → Nat → Int)) (w : World) (hl : L.length ≤ 1048576) (hS : SlM w v L) (hJ : stJ w c1 c2 f L) :
    Calls Try.prog 53 #[.agg #[.int .i64 p, .int .i64 n, v], .func (.func 68) #[] #[c1, c2]] w fun e w' => ∃ v', e = .returned (.agg #[.int .i64 p, .int .i64 n, v']) ∧ OwnG9 w' w.heap.size v' (L.filter f) ∧ Below w.heap.size w w' := by
  obtain ⟨i0, hi, hz0, hz1, hz2⟩ := info_parts infoMat
  obtain ⟨W, hW, rW, rR, rq, hbW, hWs⟩ : ∃ W, W = (((w.alloc (.cells #[.int .i64 p, .int .i64 n, v] 26)).alloc (.cells #[.int .i64 0, .int .i64 0, .slice none 0 0] 26)).alloc (.cells #[.int .i64 p, .int .i64 n, .slice none 0 0] 26)) ∧ W.rowIs w.heap.size 26 3 (grpF p n v) ∧ W.rowIs (w.heap.size + 1) 26 3 (grpF 0 0 (.slice none 0 0)) ∧ W.rowIs (w.heap.size + 2) 26 3 (grpF p n (.slice none 0 0)) ∧ Below w.heap.size w W ∧ w.heap.size + 3 ≤ W.heap.size := by
    refine ⟨_, rfl, ((gbox w p n v _).alloc _).alloc _, ?_, ?_, (ebox2 _ _ _).alloc (by simp; omega) _, by simp⟩
    · have := gbox (w.alloc (.cells #[.int .i64 p, .int .i64 n, v] 26)) 0 0 (.slice none 0 0) 26
      rw [World.size_alloc] at this
      exact this.alloc _
    · have := gbox ((w.alloc (.cells #[.int .i64 p, .int .i64 n, v] 26)).alloc (.cells #[.int .i64 0, .int .i64 0, .slice none 0 0] 26)) p n (.slice none 0 0) 26
      rw [World.size_alloc, World.size_alloc] at this
      exact this
  have hSW := hS.below hbW
  have HJ := Lib.hid hJ
  clear hJ
  obtain ⟨a, cap, rfl, hSc⟩ := id hS
  have hst : GPart w W w.heap.size (w.heap.size + 2) w.heap.size (w.heap.size + 1) p n (.slice a L.length cap) (.slice none 0 0) [] :=
    ⟨ownG9_none _ _, rq, rW, rR, hbW, Nat.le_refl _, by omega, by omega, by omega, by omega, by omega⟩
  clear rW rR rq
  go_enter Try.func53, Try.ntmps53
  go_wp2_with fail
  rw [← hW]
  clear hW
  obtain ⟨g0, g1, g2⟩ := gcells hst.arg
  go_wp2_with fail
  clear g0 g1 g2
  go_loopw [16] (fun i wr => ∃ (k : Nat) (sv : Value) (O : List (Nat → Nat → Int)), k ≤ L.length ∧ i = .int .i64 k ∧ Hid (O = (L.take k).filter f) ∧ O.length ≤ k ∧ GPart w wr w.heap.size (w.heap.size + 2) w.heap.size (w.heap.size + 1) p n (.slice a L.length cap) sv O) (fun i _ => L.length - (intOf i).toNat)
  case atStart => exact ⟨0, _, [], by omega, rfl, Lib.hid (by simp), by simp, hst⟩
  case round =>
    obtain ⟨k, sv, O, hk, rfl, HO, hO, hB⟩ := hrel
    by_cases hlt : k < L.length
    · have hlt' : (k : Int) < (L.length : Int) := by omega
      obtain ⟨b, off, rfl, hbb, hT⟩ : ∃ b off, a = some ⟨b, off, none⟩ ∧ b < w.heap.size ∧ MatsW w b off L := by
        rcases hSc with rfl | h
        · simp at hlt
        · exact h
      obtain ⟨⟨a0, a1, a2⟩, ⟨a3, a4, a5⟩, a6, a7, a8⟩ := (hT.below hB.below hbb).nine hlt
      have HC := Lib.hid (fun w' hb' => HJ.out w' hb' L[k] (List.getElem_mem hlt))
      have HS := Lib.hid (filt_step f L k hlt)
      generalize L[k] = x at *
      obtain ⟨V, hV, rV, hbV⟩ : ∃ V, V = wr.alloc (.cells #[.int .u8 (x 0 0), .int .u8 (x 0 1), .int .u8 (x 0 2), .int .u8 (x 1 0), .int .u8 (x 1 1), .int .u8 (x 1 2), .int .u8 (x 2 0), .int .u8 (x 2 1), .int .u8 (x 2 2)] 55) ∧ V.rowIs wr.heap.size 55 9 (mF x) ∧ Below wr.heap.size wr V := ⟨_, rfl, mbox wr x _, ebox1 _ _⟩
      have hBV := hB.later hbV
      have hc := HC.out V hBV.below
      go_wp2_with fail
      rw [← hV]
      clear hV a0 a1 a2 a3 a4 a5 a6 a7 a8
      obtain ⟨⟨a0, a1, a2⟩, ⟨a3, a4, a5⟩, a6, a7, a8⟩ := mcells rV
      go_wp2_with fail
      ((with_reducible refine hc.mono ?_); rintro e w2 ⟨rfl, hb2⟩)
      have hB2 := hBV.later hb2
      have rV2 := erow_below rV hb2 rV.lt
      clear a0 a1 a2 a3 a4 a5 a6 a7 a8 hc HC
      generalize f x = E at *
      cases E
      · have HN := Lib.hid (show O = (L.take (k + 1)).filter f by rw [HS.out, HO.out]; simp)
        go_wp2_with fail
        go_roundw
        case rel => exact ⟨k + 1, _, _, by omega, by go_num, HN, by omega, hB2⟩
        case measure => simp [intOf]; omega
      · have HN := Lib.hid (show O ++ [x] = (L.take (k + 1)).filter f by rw [HS.out, ← HO.out]; simp)
        obtain ⟨⟨a0, a1, a2⟩, ⟨a3, a4, a5⟩, a6, a7, a8⟩ := mcells rV2
        obtain ⟨sa, sc, rfl⟩ := mown_slice hB2.rows
        have hmx : O.length + 1 ≤ maxLen := by unfold maxLen; omega
        have hmb : (O.length + 1) * 9 ≤ 140737488355328 := by omega
        have hbs := hB2.b2
        have d2' : w2.cell? ⟨w.heap.size + 2, 2, none⟩ = some (.slice sa O.length sc) := hB2.out.cell (i := 2) (by omega)
        have qo : ∀ o, (w2.alloc o).cell? ⟨w.heap.size + 2, 2, none⟩ = some (.slice sa O.length sc) := fun o => ((ebox1 w2 o).cell hB2.out.lt).trans d2'
        have hsz : w.heap.size ≤ w2.heap.size := hB2.below.size
        go_wp2_with (at_builtin; refine wpList_append_lies _ rfl _ _ 24 rfl w.heap.size 55 i0 _ 9 9 Try.underlying24 hi hz0 hz1 hz2 rfl (by decide) (.slice sa O.length sc) O.length (cells9 O) rfl (World.ownsRow.alloc hB2.rows _) ⟨w2.heap.size, 0, none⟩ 1 1 (cell9 x) rfl rfl (World.news_of_block (cs := #[.int .u8 (x 0 0), .int .u8 (x 0 1), .int .u8 (x 0 2), .int .u8 (x 1 0), .int .u8 (x 1 1), .int .u8 (x 1 2), .int .u8 (x 2 0), .int .u8 (x 2 1), .int .u8 (x 2 2)]) (t := 55) (fr := (0, 0)) (heap_alloc_new w2 _)) (cell9_one x) (by omega) hmx hmb (by simp; omega) _ rfl ?_)
        intro gg cap3 w3 hown3 hgrow3 hat hlt3
        obtain ⟨hB3, r3⟩ := hB2.more (ebox1 _ _) hgrow3 (t := x) hown3
        have hfz3 := r3.frozen 2
        have hcl3 : w3.cell? ⟨w.heap.size + 2, 2, none⟩ = some (.slice sa O.length sc) := r3.cell (i := 2) (by omega)
        clear hown3 hgrow3 hat r3
        go_wp2_with fail
        go_roundw
        case rel => exact ⟨k + 1, _, _, by omega, by go_num, HN, by simp; omega, hB3⟩
        case measure => simp [intOf]; omega
    · obtain rfl : k = L.length := by omega
      obtain ⟨sa, sc, rfl⟩ := mown_slice hB.rows
      obtain ⟨j0, j1, j2⟩ := gcells hB.out
      obtain ⟨r0, r1, r2⟩ := gcells hB.res
      have z0 := hB.res.frozen 0
      have z1 := hB.res.frozen 1
      have z2 := hB.res.frozen 2
      have HL : Hid (L.filter f = O) := Lib.hid (by rw [HO.out, List.take_length])
      go_wp2_with fail
      obtain ⟨v0, v1, v2, v3, v4⟩ := hB.finish p n
      exact bodyPost_ret (v := .agg #[.int .i64 p, .int .i64 n, .slice sa O.length sc]) (by simp [results, Try.results53, go_sem, v0, v1, v2]) rfl ⟨_, rfl, by rw [HL.out]; exact v3, v4⟩


set_option maxRecDepth 8000 in
set_option maxHeartbeats 4000000 in
theorem istab (p n : Int) (v u : Value) (L : List (Nat → Nat → Int)) (pt : List Int) (w : World) (hl : L.length ≤ 1048576) (hS : SlM w v L) (hby : ∀ x ∈ L, Byt x) (hpl : pt.length ≤ 1048576) (hU : Sl w u pt) :
    Calls Try.prog 31 #[.agg #[.int .i64 p, .int .i64 n, v], u] w (ResG w (stO p n L pt)) := by
  have hmf : ∀ (fn : Fn) (first cap : Array Value) (w : World), (Instr.makeFunc fn first cap).run Try.prog w = .ok (.func fn first cap) w := fun _ _ _ _ => rfl
  obtain ⟨W, hW, rW, rP, rR, hbW, hWs⟩ : ∃ W, W = ((w.alloc (.cells #[.int .i64 p, .int .i64 n, v] 26)).alloc (.cells #[u] 41)).alloc (.cells #[.int .i64 0, .int .i64 0, .slice none 0 0] 26) ∧ W.rowIs w.heap.size 26 3 (grpF p n v) ∧ W.rowIs (w.heap.size + 1) 41 1 (fun _ => u) ∧ W.rowIs (w.heap.size + 2) 26 3 (grpF 0 0 (.slice none 0 0)) ∧ Below w.heap.size w W ∧ w.heap.size + 3 ≤ W.heap.size := by
    refine ⟨_, rfl, ((gbox w p n v _).alloc _).alloc _, ?_, ?_, (ebox2 _ _ _).alloc (by simp; omega) _, by simp⟩
    · have := World.rowIs_alloc (w.alloc (.cells #[.int .i64 p, .int .i64 n, v] 26)) #[u] 41 (fun _ => u) (fun i hi => by simp at hi; subst hi; rfl)
      rw [World.size_alloc] at this
      exact this.alloc _
    · have := gbox ((w.alloc (.cells #[.int .i64 p, .int .i64 n, v] 26)).alloc (.cells #[u] 41)) 0 0 (.slice none 0 0) 26
      rw [World.size_alloc, World.size_alloc] at this
      exact this
  have hSW := hS.below hbW
  have hUW := hU.below hbW
  obtain ⟨a, cap, rfl, hSc⟩ := id hS
  obtain ⟨ua, uc, rfl, _⟩ := id hU
  obtain ⟨g0, g1, g2⟩ := gcells rW
  have p0 : W.cell? ⟨w.heap.size + 1, 0, none⟩ = some (.slice ua pt.length uc) := rP.cell (i := 0) (by omega)
  have HBY := Lib.hid hby
  clear hby
  go_enter Try.func31, Try.ntmps31
  go_wp2_with fail
  rw [← hW]
  clear hW
  ((with_reducible refine (icode p n _ _ L pt _ hl hSW HBY.out hpl hUW).mono ?_); rintro e w1 ⟨rfl, hb1⟩)
  have rx1 := erow_below rW hb1 rW.lt
  have rp1 := erow_below rP hb1 rP.lt
  have rr := erow_below rR hb1 rR.lt
  have hbw1 := hbW.trans (hb1.mono hbW.size)
  have hS1 := hSW.below hb1
  have hU1 := hUW.below hb1
  clear g0 g1 g2 p0
  by_cases hc : ptC p n L pt = 0
  case neg =>
    have HO := Lib.hid (show stO p n L pt = noG (ptC p n L pt) by unfold stO; rw [if_neg hc])
    generalize ptC p n L pt = C at *
    have hc' : (C != 0) = true := by simpa using hc
    clear hc
    obtain ⟨r0, r1, r2⟩ := gcells rr
    have z0 := rr.frozen 0
    have z1 := rr.frozen 1
    have z2 := rr.frozen 2
    have R := ((rr.set 0 (.int .i64 0)).set 1 (.int .i64 0)).set 2 (.slice none 0 0)
    have V0 := Lib.hid (R.cell (i := 0) (by omega))
    have V1 := Lib.hid (R.cell (i := 1) (by omega))
    have V2 := Lib.hid (R.cell (i := 2) (by omega))
    have HB := Lib.hid (show Below w.heap.size w (((w1.setCell ⟨w.heap.size + 2, 0, none⟩ (.int .i64 0)).setCell ⟨w.heap.size + 2, 1, none⟩ (.int .i64 0)).setCell ⟨w.heap.size + 2, 2, none⟩ (.slice none 0 0)) from ((hbw1.setCell (by simp) _).setCell (by simp) _).setCell (by simp) _)
    clear R
    go_wp2_with fail
    exact bodyPost_ret (v := .tuple #[.agg #[.int .i64 0, .int .i64 0, .slice none 0 0], .int .i64 C]) (by simp [results, Try.results31, go_sem, V0.out, V1.out, V2.out]) rfl ⟨_, by rw [HO.out]; rfl, by rw [HO.out]; exact ownG9_none _ _, HB.out⟩
  case pos =>
    obtain ⟨hg, hpb⟩ := ptC_zero hc
    obtain ⟨m, rfl, m1, m3, hl48, hl1, hmv⟩ := isGrp_mats HBY.out hg
    obtain ⟨hpt, hpp⟩ := nptB_of rfl hpb
    have HO := Lib.hid (show stO p m L pt = ⟨p, m, L.filter (stF p m pt), 0⟩ by unfold stO; rw [if_pos hc]; rfl)
    rw [hc]
    clear hc hg hpb
    obtain ⟨g0, g1, g2⟩ := gcells rx1
    have HJ : stJ w1 (.pointer (some ⟨w.heap.size, 0, none⟩)) (.pointer (some ⟨w.heap.size + 1, 0, none⟩)) (stF p m pt) L := fun w' hb' x hx => istabf p m _ _ m x pt w.heap.size (w.heap.size + 1) w' (erow_below rx1 hb' rx1.lt) (erow_below rp1 hb' rp1.lt) (hU1.below hb') (hmv x hx) hpt hpp
    have HCC := Lib.hid (stpart (.pointer (some ⟨w.heap.size, 0, none⟩)) (.pointer (some ⟨w.heap.size + 1, 0, none⟩)) (stF p m pt) p m _ L w1 hl hS1 HJ)
    clear HJ hmv
    go_wp2_with fail
    ((with_reducible refine HCC.out.mono ?_); rintro e w2 ⟨v2, rfl, hown, hb2⟩)
    have rr2 := erow_below rr hb2 rr.lt
    have hbw2 := hbw1.trans (hb2.mono hbw1.size)
    obtain ⟨sa, sc, rfl⟩ := OwnG9.shape hown
    obtain ⟨r0, r1, r2⟩ := gcells rr2
    have z0 := rr2.frozen 0
    have z1 := rr2.frozen 1
    have z2 := rr2.frozen 2
    have R := ((rr2.set 0 (.int .i64 p)).set 1 (.int .i64 m)).set 2 (.slice sa (L.filter (stF p m pt)).length sc)
    have V0 := Lib.hid (R.cell (i := 0) (by omega))
    have V1 := Lib.hid (R.cell (i := 1) (by omega))
    have V2 := Lib.hid (R.cell (i := 2) (by omega))
    have HB := Lib.hid (show Below w.heap.size w (((w2.setCell ⟨w.heap.size + 2, 0, none⟩ (.int .i64 p)).setCell ⟨w.heap.size + 2, 1, none⟩ (.int .i64 m)).setCell ⟨w.heap.size + 2, 2, none⟩ (.slice sa (L.filter (stF p m pt)).length sc)) from ((hbw2.setCell (by simp) _).setCell (by simp) _).setCell (by simp) _)
    have HSL := Lib.hid (show OwnG9 (((w2.setCell ⟨w.heap.size + 2, 0, none⟩ (.int .i64 p)).setCell ⟨w.heap.size + 2, 1, none⟩ (.int .i64 m)).setCell ⟨w.heap.size + 2, 2, none⟩ (.slice sa (L.filter (stF p m pt)).length sc)) w.heap.size (.slice sa (L.filter (stF p m pt)).length sc) (L.filter (stF p m pt)) from by
      have hne : (Value.slice sa (L.filter (stF p m pt)).length sc).ownBlock ≠ some (w.heap.size + 2) := fun e => by
        have := (World.ownsRow.lt hown _ e).1
        have := rr.lt
        omega
      exact OwnG9.mono (mown_set (mown_set (mown_set hown _ _ _ hne) _ _ _ hne) _ _ _ hne) hbw1.size)
    clear R g0 g1 g2 HCC hown
    go_wp2_with fail
    exact bodyPost_ret (v := .tuple #[.agg #[.int .i64 p, .int .i64 m, .slice sa (L.filter (stF p m pt)).length sc], .int .i64 0]) (by simp [results, Try.results31, go_sem, V0.out, V1.out, V2.out]) rfl ⟨_, by rw [HO.out], by rw [HO.out]; exact HSL.out, HB.out⟩
end Go.Proofs.Ytpbdbgajohacoaa
