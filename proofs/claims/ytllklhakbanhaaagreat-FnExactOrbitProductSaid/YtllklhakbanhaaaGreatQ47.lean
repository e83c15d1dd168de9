/-
  WALKS: sums of polynomials: 'impl.sumTimes', 'spec.l03Add'; 'impl.ledByAll'. Conditions: as each theorem states.
  WALKS: sums of polynomials: 'impl.sumTimes', 'spec.l03Add'. Conditions: as each theorem states.
-/
import Derived.Test.YtllklhakbanhaaaGreatQ41
import Derived.Test.YtllklhakbanhaaaGreatQ06
import Derived.Test.YtllklhakbanhaaaGreatQ15
namespace Go.Proofs.YtllklhakbanhaaaGreat
open Go.RowKit Go.Sort Go.Maps EchM

set_option maxRecDepth 8000 in
set_option maxHeartbeats 8000000 in
theorem iled {p : Int} {m : Nat} {L : List (Nat → Nat → Int)} {xs : List Tm} (h : GrpP p m L xs) (v u : Value) (w : World) (hS : SlM w v L) (hU : SliceT w u xs) :
    Calls Tryz.prog 75 #[.agg #[.int .i64 p, .int .i64 (m : Int), v], .agg #[.int .i64 p, .int .i64 (m : Int), u]] w fun e w' => ∃ v' us hi, e = .returned v' ∧ PMk w' w.heap.size hi p m v' us (allL p m L xs) ∧ Below w.heap.size w w' := by
  obtain ⟨i0, hi0, hz0, hz1, hz2⟩ := info_parts infoPoly
  obtain ⟨W, hW, hbW, ⟨hWs1, hWs2⟩, rg, rx⟩ := boxGP w p (m : Int) v p (m : Int) u
  have hl : L.length ≤ 48 := h.l48
  have hUW := hU.below hbW
  have hSW := hS.below hbW
  obtain ⟨a, cap, rfl, hc⟩ := id hS
  obtain ⟨ua, uc, rfl, _⟩ := id hU
  have HG := Lib.hid h
  have HAC := Lib.hid (iactions p m (.slice a L.length cap) L W (by omega) hSW h.mat)
  obtain ⟨g0, g1, g2⟩ := gcells rg
  clear h
  go_enter Tryz.func75, Tryz.ntmps75
  go_upto_region 1 with fail
  rw [← hW]
  clear hW
  go_wp2_with fail
  ((with_reducible refine HAC.out.mono ?_); rintro e w2 ⟨v2, rfl, hA2, hb2⟩)
  have hbw2 := hbW.trans (hb2.mono hbW.size)
  have rx2 := rowIs_below rx hb2 rx.lt
  have hU2 := hUW.below hb2
  obtain ⟨gb, gc, rfl, hgl, hAc⟩ := id hA2
  have HAA := Lib.hid (fun w' (hb : Below w2.heap.size w2 w') => (fun k hk => by
    obtain ⟨B, hc, hB⟩ := hAc k hk
    exact ⟨B, (hb.cell (p := ⟨gb, k, none⟩) hgl).trans hc, hB.below hb⟩ : ∀ (k : Nat) (h : k < L.length), ∃ B, w'.cell? ⟨gb, k, none⟩ = some (actV B) ∧ ActW w' B p m L[k]))
  have st0 : PMk w2 w2.heap.size w2.heap.size p m (.slice none 0 0) [] (allL p m (L.take 0) xs) := PMk.nil _ _ _ _
  clear g0 g1 g2 HAC hA2 hAc rg rx hSW hUW hb2 hbW
  go_wp2_with fail
  go_loopw [11, 5] (fun i vv wr => ∃ (k : Nat) (v : Value) (us : List Value) (hi : Nat), k ≤ L.length ∧ i = .int .i64 k ∧ vv = v ∧ PMk wr w2.heap.size hi p m v us (allL p m (L.take k) xs) ∧ hi ≤ wr.heap.size ∧ w2.heap.size ≤ hi ∧ Below w2.heap.size w2 wr) (fun i _ _ => L.length - (intOf i).toNat)
  case atStart => exact ⟨0, _, _, _, by omega, rfl, rfl, st0, by omega, Nat.le_refl _, Below.refl _ _⟩
  case round =>
    clear st0
    obtain ⟨k, v, us, hi, hk, rfl, hvv, st, hhi, hWhi, hbr⟩ := hrel
    obtain ⟨sa, sc, hv⟩ := st.shape
    subst hv
    subst u5
    by_cases hlt : k < L.length
    · have hlt' : (k : Int) < (L.length : Int) := by omega
      obtain ⟨B, c0, hB⟩ := HAA.out wr hbr k hlt
      have HA := Lib.hid (fun w' h1 h2 => HG.out.act (List.getElem_mem hlt) B (.slice ua xs.length uc) w' h1 h2)
      have HN := Lib.hid (allL_snoc p m L xs k hlt)
      have hln : (allL p m (L.take k) xs).length = k := by rw [allL_len, List.length_take]; omega
      obtain ⟨Ls, hLs⟩ : ∃ Ls, allL p m (L.take k) xs = Ls := ⟨_, rfl⟩
      rw [hLs] at HN hln st ⊢
      have hkl : Ls.length ≤ 48 := by omega
      have HLN := Lib.hid hln
      obtain ⟨⟨p0, p1, p2⟩, _⟩ := poly3 (rowIs_below rx2 hbr rx2.lt)
      have hUr : SliceT wr (.slice ua xs.length uc) xs := hU2.below hbr
      have hWr := hbr.size
      generalize ledF p m xs L[k] = D at *
      generalize L[k] = x at *
      clear hLs hln
      go_wp2_with fail
      ((with_reducible refine (HA.out _ hB hUr).mono ?_); rintro e w3 ⟨v3, rfl, ho3, hb3⟩)
      obtain ⟨sa3, sc3, rfl⟩ := owns_slice ho3
      have hb4 : Below wr.heap.size wr (w3.alloc (.cells #[.int .i64 p, .int .i64 (m : Int), .slice sa3 D.length sc3] 39)) := hb3.trans ((box1 _ _).mono hb3.size)
      have st4 := st.below hb4
      have hmx : Ls.length + 1 ≤ maxLen := by unfold maxLen; omega
      have hmb : (Ls.length + 1) * 40 ≤ 140737488355328 := by omega
      have hbs := Nat.le_trans hWr hb4.size
      clear p0 p1 p2 hB c0 hUr
      go_wp2_with (at_builtin; refine wpList_append_lies _ rfl _ _ 30 rfl w2.heap.size 39 i0 _ 3 40 Tryz.underlying30 hi0 hz0 hz1 hz2 rfl (by decide) (.slice sa Ls.length sc) Ls.length (cellsQ p m us) rfl st4.rows ⟨w3.heap.size, 0, none⟩ 1 1 [.int .i64 p, .int .i64 (m : Int), .slice sa3 D.length sc3] rfl rfl (one_poly w3 p (m : Int) _) (by intro y hy; simp at hy; rcases hy with rfl | rfl | rfl <;> rfl) (by omega) hmx hmb hbs _ rfl ?_)
      intro gg cap3 w8 hown8 hgrow8 hat8 hlt8
      have stN := st4.more (u := .slice sa3 D.length sc3) (X := D) (hi2 := (w3.alloc (.cells #[.int .i64 p, .int .i64 (m : Int), .slice sa3 D.length sc3] 39)).heap.size) (owns_belowT ho3 (box1 _ _)) hhi hWr (Nat.le_refl _) hgrow8 hown8
      rw [← HN.out] at stN
      have h1 := hgrow8.size
      have hq8 : Below w2.heap.size w2 w8 := (hbr.trans (hb4.mono hWr)).grown hgrow8 hbs (fun q hq => (World.ownsRow.lt st4.rows q hq).1)
      clear hown8 hgrow8 hat8 st4 st
      go_wp2_with fail
      go_roundw
      case rel => exact ⟨k + 1, _, _, _, by omega, by go_num, rfl, stN, h1, hbs, hq8⟩
      case measure => simp [intOf]; omega
    · obtain rfl : k = L.length := by omega
      rw [List.take_length] at st ⊢
      have hend := hbw2.trans (hbr.mono hbw2.size)
      have HD := Lib.hid (st.low hbw2.size)
      obtain ⟨lo, hlo⟩ : ∃ lo, (allL p m L xs).length = lo := ⟨_, rfl⟩
      rw [hlo] at HD ⊢
      clear st hlo
      go_wp2_with fail
      go_ret
      exact ⟨_, _, _, rfl, HD.out, hend⟩
end Go.Proofs.YtllklhakbanhaaaGreat
namespace Go.Proofs.YtllklhakbanhaaaGreat
open Go.RowKit Go.Sort Go.Maps EchM

set_option maxRecDepth 8000 in
set_option maxHeartbeats 8000000 in
theorem isum (p : Int) (m : Nat) (kk : Int) (v : Value) (Ls : List (List Tm)) (w : World) (h0 : 1 ≤ Ls.length) (hl : Ls.length ≤ 1000) (hV : ∀ X ∈ Ls, Valid p m X) (hk0 : 0 ≤ kk) (hk1 : kk < p) (hS : SlPn w p m v Ls) :
    Calls Tryz.prog 66 #[v, .int .i64 kk] w fun e w' => ∃ v' S, e = .returned (.agg #[.int .i64 p, .int .i64 (m : Int), v']) ∧ OwnP w' w.heap.size v' S ∧ IsP p S (sumK p kk Ls) ∧ Below w.heap.size w w' := by
  have hp2 : 2 ≤ p := (hV Ls[0] (List.getElem_mem (by omega))).p2
  have hp13 : p ≤ 13 := (hV Ls[0] (List.getElem_mem (by omega))).p13
  obtain ⟨a, cap, rfl, _⟩ := id hS
  obtain ⟨bl, off, _, rfl, hbl, _, _⟩ := SlP.nth hS (k := 0) (by omega)
  rw [List.length_map] at hS ⊢
  obtain ⟨R, hR, hbR, ⟨hRs, hRs2⟩, rr⟩ : ∃ R, R = w.alloc (.cells #[.int .i64 0, .int .i64 0, .slice none 0 0] 39) ∧ Below w.heap.size w R ∧ (R.heap.size ≤ w.heap.size + 1 ∧ w.heap.size + 1 ≤ R.heap.size) ∧ R.rowIs w.heap.size 39 3 (polyF 0 0 (.slice none 0 0)) := ⟨_, rfl, box1 _ _, ⟨by simp, by simp⟩, zbox w⟩
  have hmm := @run_makeMap Tryz.prog
  have hm := World.ownsMap_made (H := Unit) R Tryz.prog 88 (plainElem Tryz.prog 2)
  obtain ⟨V, hV1, hbV, hVs1⟩ : ∃ V, V = R.alloc (.map #[] 0) ∧ Below R.heap.size R V ∧ R.heap.size + 1 ≤ V.heap.size := ⟨_, rfl, box1 _ _, by simp⟩
  rw [← hV1] at hm
  have hbwV := hbR.trans (hbV.mono hbR.size)
  have rrV := rowIs_below rr hbV rr.lt
  have HV := Lib.hid hV
  have hRw : w.heap.size ≤ R.heap.size := hbR.size
  clear hV rr
  go_enter Tryz.func66, Tryz.ntmps66
  go_upto_region 1 with fail
  rw [← hR]
  clear hR
  go_wp2_with fail
  rw [← hV1]
  clear hV1 hmm
  go_loopw [11] (fun i wr => ∃ (k : Nat) (D : DataW Unit), k ≤ Ls.length ∧ i = .int .i64 k ∧ Hid (∀ e, byte3 e → cf D e = sumK p kk (Ls.take k) e) ∧ MapE wr R.heap.size (k * 2197) D ∧ V.grownBy wr (some R.heap.size)) (fun i _ => Ls.length - (intOf i).toNat)
  case atStart => exact ⟨0, _, by omega, rfl, Lib.hid (fun e _ => by rw [cf_empty]; exact (sumK_nil p kk e).symm), by simpa using hm, World.grownBy.refl _ _⟩
  case round =>
    clear hm
    obtain ⟨k, D, hk, rfl, HD, hM, hgr⟩ := hrel
    have hend := hbwV.grown hgr hbwV.size (fun q hq => by simp at hq; omega)
    have hSr := hS.below hend
    by_cases hlt : k < Ls.length
    · have hlt' : (k : Int) < (Ls.length : Int) := by omega
      obtain ⟨b', off', uu, hbe, _, hmm, c0, c1, c2, hT⟩ := SlP.nth hSr hlt
      simp at hbe
      obtain ⟨rfl, rfl⟩ := hbe
      have HVX := Lib.hid (HV.out Ls[k] (List.getElem_mem hlt))
      have hXl : Ls[k].length ≤ 2197 := HVX.out.isP.len
      have HB := Lib.hid (fun e => sumK_bound (p := p) (k := kk) hp2 (Ls.take k) e)
      have HN := Lib.hid (fun e => (sumK_snoc p kk Ls[k] (Ls.take k) e).trans (by rw [← List.take_succ_eq_append_getElem hlt]))
      generalize Ls[k] = X at *
      obtain ⟨ua, uc, rfl, _⟩ := id hT
      obtain ⟨V2, hV2, hbV2, _, rq⟩ := newbox wr p (m : Int) (.slice ua X.length uc)
      have hM2 := hM.later hbV2
      have hT2 := hT.below hbV2
      have hg2 := hgr.trans (gBelow hbV2)
      obtain ⟨⟨q0, q1, q2⟩, _⟩ := poly3 rq
      clear hmm hT
      go_upto_region 5 with fail
      rw [← hV2]
      clear hV2 c0 c1 c2
      go_wp2_with fail
      ((with_reducible refine (addTimes_any p (m : Int) kk _ X V2 R.heap.size (k * 2197) D (sumK p kk (Ls.take k)) (by omega) hT2 HVX.out hM2 (by omega) HD.out (fun e _ => HB.out e) hk0 hk1).mono ?_); rintro e w3 ⟨D3, rfl, hM3, hD3, hg3⟩)
      have HD3 : Hid (∀ e, byte3 e → cf D3 e = sumK p kk (Ls.take (k + 1)) e) := Lib.hid (fun e he => (hD3 e he).trans (HN.out e))
      have hM4 := hM3.mono (show k * 2197 + X.length ≤ (k + 1) * 2197 by omega)
      have hg4 := hg2.trans hg3
      clear q0 q1 q2 hM3 hD3 hg3 hM2 hg2 hM rq hT2
      go_wp2_with fail
      go_roundw
      case rel => exact ⟨k + 1, _, by omega, by go_num, HD3, hM4, hg4⟩
      case measure => simp [intOf]; omega
    · obtain rfl : k = Ls.length := by omega
      have HD2 : Hid (∀ e, byte3 e → cf D e = sumK p kk Ls e) := Lib.hid (by have := HD.out; rwa [List.take_length] at this)
      have HB := Lib.hid (fun e => sumK_bound (p := p) (k := kk) hp2 Ls e)
      have HG := Lib.hid (fun e he => sumK_deg (k := kk) (e := e) HV.out he)
      have HPO := Lib.hid (fun w (hME : MapE w R.heap.size (Ls.length * 2197) D) => polyOf_any sort_says p (m : Int) R.heap.size (Ls.length * 2197) D w hME (by omega) (fun e he hc => by
        rw [HD2.out e he] at hc
        exact HG.out e hc))
      have HGD := Lib.hid (fun (S : List Tm) (h : Good D S) => show IsP p S (sumK p kk Ls) from h.isP HD2.out (fun e _ => HB.out e) (fun e _ hc => HG.out e hc))
      obtain ⟨b', off', uu, hbe, _, hmm, c0, c1, c2, hT⟩ := SlP.nth hSr (k := 0) (by omega)
      simp at hbe
      obtain ⟨rfl, rfl⟩ := hbe
      rw [Nat.zero_mul, Nat.add_zero] at c0 c1
      have rr2 := rowG rrV hgr (by omega)
      have hMd : MapE wr.drew R.heap.size (Ls.length * 2197) D := hM.later (Below.same _).drew
      have hl0 : (0 : Int) < (Ls.length : Int) := by omega
      clear hmm hT c2 HD HD2 hM
      go_wp2_with fail
      go_region_with
        ((go_at_call 95; (with_reducible refine (HPO.out _ hMd).mono ?_); rintro e w13 ⟨v13, S13, rfl, ho13, hg13, hb13⟩; have HB13 : Below wr.heap.size wr w13 := (Below.same _).drew.trans hb13; have hP13 := Lib.hid (HGD.out S13 hg13); (obtain ⟨sa13, sc13, rfl⟩ := owns_slice ho13); have rr13 := rowIs_below rr2 HB13 rr2.lt; (obtain ⟨⟨e130, e131, e132⟩, f130, f131, f132⟩ := poly3 rr13)))
      all_goals
        obtain ⟨a0, a1, a2, a3, a4⟩ := fill_box (w := w) (base := wr.drew.heap.size) rr13 ho13 hend.size (hend.trans (HB13.mono hend.size)) (Nat.le_refl _) p (m : Int)
        have A0 := Lib.hid a0
        have A1 := Lib.hid a1
        have A2 := Lib.hid a2
        have A3 := Lib.hid a3
        have A4 := Lib.hid a4
        clear a0 a1 a2 a3 a4
        go_wp2_with fail
        exact bodyPost_ret (v := .agg #[.int .i64 p, .int .i64 (m : Int), .slice sa13 S13.length sc13]) (by simp [results, Tryz.results66, go_sem, A0.out, A1.out, A2.out]) rfl ⟨_, S13, rfl, A3.out, hP13.out, A4.out⟩

set_option maxRecDepth 8000 in
set_option maxHeartbeats 8000000 in
theorem sadd (p : Int) (m : Nat) (u v : Value) (Ls : List (List Tm)) (w : World) (hp2 : 2 ≤ p) (hp13 : p ≤ 13) (hl : Ls.length ≤ 1000) (hV : ∀ X ∈ Ls, Valid p m X) (hS : SlPn w p m v Ls) :
    Calls Tryz.prog 65 #[.agg #[.int .i64 p, .int .i64 (m : Int), u], v] w fun e w' => ∃ v' S, e = .returned (.agg #[.int .i64 p, .int .i64 (m : Int), v']) ∧ OwnP w' w.heap.size v' S ∧ IsP p S (sumK p 1 Ls) ∧ Below w.heap.size w w' := by
  obtain ⟨a, cap, rfl, _⟩ := id hS
  rw [List.length_map] at hS ⊢
  obtain ⟨W, hW, hbW, ⟨hWs1, hWs2⟩, rx, rr⟩ := boxes2 w p (m : Int) u
  obtain ⟨⟨x0, x1, x2⟩, _⟩ := poly3 rx
  have HV := Lib.hid hV
  clear hV
  go_enter Tryz.func65, Tryz.ntmps65
  go_upto_region 1 with fail
  rw [← hW]
  clear hW
  go_wp2_with fail
  ((with_reducible refine (empty_any p (m : Int) W).mono ?_); rintro e w1 ⟨rfl, hown1, hb1⟩)
  obtain ⟨V, hV1, hbV, ⟨hVs1, hVs2⟩, rq⟩ := newbox w1 p (m : Int) (.slice (some ⟨W.heap.size + 1, 0, none⟩) 0 0)
  have hoV : OwnP V W.heap.size (.slice (some ⟨W.heap.size + 1, 0, none⟩) 0 0) [] := owns_belowT hown1 hbV
  have hbWV := hb1.trans (hbV.mono hb1.size)
  have hbwV := hbW.trans (hbWV.mono hbW.size)
  have rrV := rowIs_below rr hbWV rr.lt
  have hB1 : w.heap.size + 1 < w1.heap.size := by have := hb1.size; omega
  clear x0 x1 x2 hown1 hb1 hbV rr rx
  go_upto_region 2 with fail
  rw [← hV1]
  clear hV1
  obtain ⟨svA, hsvA⟩ : ∃ svA : Value, (.slice (some ⟨W.heap.size + 1, 0, none⟩) 0 0 : Value) = svA := ⟨_, rfl⟩
  rw [hsvA] at hoV rq
  clear hsvA
  go_wp2_with fail
  go_loopw [6] (fun i wr => ∃ (k : Nat) (sv : Value) (O : List Tm), k ≤ Ls.length ∧ i = .int .i64 k ∧ Hid (IsP p O (sumK p 1 (Ls.take k))) ∧ wr.rowIs w1.heap.size 39 3 (polyF p (m : Int) sv) ∧ OwnP wr w.heap.size sv O ∧ wr.rowIs (w.heap.size + 1) 39 3 (polyF 0 0 (.slice none 0 0)) ∧ Below w.heap.size w wr) (fun i _ => Ls.length - (intOf i).toNat)
  case atStart => exact ⟨0, _, [], by omega, rfl, Lib.hid ((IsP.nil p).congr fun e _ => (sumK_nil p 1 e).symm), rq, owns_low hoV hbW.size, rrV, hbwV⟩
  case round =>
    clear rq hoV rrV
    obtain ⟨k, sv, O, hk, rfl, HO, rq, ho, rr, hbr⟩ := hrel
    have hSr := hS.below hbr
    obtain ⟨sa, sc, rfl⟩ := owns_slice ho
    obtain ⟨⟨q0, q1, q2⟩, y0, y1, y2⟩ := poly3 rq
    by_cases hlt : k < Ls.length
    · have hlt' : (k : Int) < (Ls.length : Int) := by omega
      obtain ⟨b', off', uu, rfl, _, hmm, c0, c1, c2, hT⟩ := SlP.nth hSr hlt
      have HVX := Lib.hid (HV.out Ls[k] (List.getElem_mem hlt))
      have HN := Lib.hid (fun e => (sumK_snoc p 1 Ls[k] (Ls.take k) e).trans (by rw [← List.take_succ_eq_append_getElem hlt]))
      generalize Ls[k] = X at *
      have hbd : Below wr.heap.size wr wr.drew := (Below.same _).drew
      have hOd := (OwnP.slice ho).below hbd
      have hTd := hT.below hbd
      have hs := hbr.size
      clear hmm hT
      go_wp2_with fail
      go_region_with
        ((go_at_call 93; (with_reducible refine (specPlus p (m : Int) 1 _ _ O X (sumK p 1 (Ls.take k)) _ hOd hTd HO.out HVX.out (by omega) (by omega)).mono ?_); rintro e w13 ⟨v13, L13, rfl, ho13, hL13, hb13⟩; have HB13 : Below wr.heap.size wr w13 := hbd.trans hb13; have ZR13 := rowIs_below rq HB13 rq.lt; (obtain ⟨⟨e130, e131, e132⟩, f130, f131, f132⟩ := poly3 ZR13); (obtain ⟨sa13, sc13, rfl⟩ := owns_slice ho13)))
      all_goals
        have hset := setB3 ZR13 (OwnP.slice ho13) p (m : Int)
        have hoN : OwnP _ w.heap.size (.slice sa13 L13.length sc13) L13 := owns_low (rep_own3 (i0 := 0) (i1 := 1) (i2 := 2) (x0 := .int .i64 p) (x1 := .int .i64 (m : Int)) (x2 := .slice sa13 L13.length sc13) ho13 ZR13) hs
        have hrN := setO3 (rowIs_below rr HB13 rr.lt) (B0 := w1.heap.size) (by omega) (.int .i64 p) (.int .i64 (m : Int)) (.slice sa13 L13.length sc13)
        have hbN := setL3 (hbr.trans (HB13.mono hs)) (B0 := w1.heap.size) (by omega) (.int .i64 p) (.int .i64 (m : Int)) (.slice sa13 L13.length sc13)
        have HN1 : Hid (IsP p L13 (sumK p 1 (Ls.take (k + 1)))) := Lib.hid (hL13.congr fun e' _ => HN.out e')
        clear ho13 q0 q1 q2 y0 y1 y2 c0 c1 c2 rq ho rr hbr hL13
        go_wp2_with fail
        go_roundw
        case rel => exact ⟨k + 1, _, L13, by omega, by go_num, HN1, hset.1, hoN, hrN, hbN⟩
        case measure => simp [intOf]; omega
    · obtain rfl : k = Ls.length := by omega
      have hD := HO.out
      rw [List.take_length] at hD
      have HD := Lib.hid hD
      obtain ⟨⟨r0, r1, r2⟩, z0, z1, z2⟩ := poly3 rr
      obtain ⟨a0, a1, a2, a3, a4⟩ := fill_box (w := w) (base := w.heap.size) rr ho (Nat.le_refl _) hbr (by omega) p (m : Int)
      have A0 := Lib.hid a0
      have A1 := Lib.hid a1
      have A2 := Lib.hid a2
      have A3 := Lib.hid a3
      have A4 := Lib.hid a4
      clear a0 a1 a2 a3 a4 HO hD
      go_wp2_with fail
      exact bodyPost_ret (v := .agg #[.int .i64 p, .int .i64 (m : Int), .slice sa O.length sc]) (by simp [results, Tryz.results65, go_sem, A0.out, A1.out, A2.out]) rfl ⟨_, O, rfl, A3.out, HD.out, A4.out⟩
end Go.Proofs.YtllklhakbanhaaaGreat
