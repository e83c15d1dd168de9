/-
  WALKS: 'spec.l08Sum'. Conditions: as the theorem states.
-/
import Derived.Test.YtbahejlgfpilnaaSyg
import Derived.Test.YtbahejlgfpilnaaSyi
namespace Go.Proofs.Ytbahejlgfpilnaa
open Go.RowKit Go.Sort Go.Maps

theorem ind_same {M M' : List (Int × Int × Int)} (h : ∀ e, e ∈ M ↔ e ∈ M') : indF M = indF M' := by
  funext e
  unfold indF
  by_cases h1 : e ∈ M
  · rw [if_pos h1, if_pos ((h e).1 h1)]
  · rw [if_neg h1, if_neg (fun h2 => h1 ((h e).2 h2))]
theorem img_same (es : List Int) (h : 1 ≤ es.length ∧ es.length ≤ 3) : indF (imgL es (sOrd es.length)) = indF (imgL es (ordL es.length (es.length ^ es.length))) :=
  ind_same fun e => by
    simp only [imgL, List.mem_map]
    exact ⟨fun ⟨l, h1, h2⟩ => ⟨l, (ord_same _ h l).1 h1, h2⟩, fun ⟨l, h1, h2⟩ => ⟨l, (ord_same _ h l).2 h1, h2⟩⟩

set_option maxRecDepth 8000 in
set_option maxHeartbeats 8000000 in
theorem ssum (p : Int) (ve : Value) (es : List Int) (w : World) (hd : 1 ≤ es.length ∧ es.length ≤ 3) (hp2 : 2 ≤ p) (hp13 : p ≤ 13) (he : ∀ e ∈ es, 0 ≤ e ∧ e ≤ 255)
    (h12 : ∀ os ∈ sOrd es.length, (keyO es os).1 + (keyO es os).2.1 + (keyO es os).2.2 ≤ 12) (hS : Sl w ve es) :
    Calls Try.prog 100 #[.int .i64 p, ve] w fun e w' => ∃ v' S, e = .returned (.agg #[.int .i64 p, .int .i64 es.length, v']) ∧ OwnP w' w.heap.size v' S ∧ IsP p S (indF (imgL es (sOrd es.length))) ∧ Below w.heap.size w w' := by
  obtain ⟨W, hW, hbW, ⟨hWs1, hWs2⟩, rr⟩ := newbox w 0 0 (.slice none 0 0)
  obtain ⟨ea, ec, rfl, hec⟩ := id hS
  have HE := Lib.hid he
  have H12 := Lib.hid h12
  have HSO := Lib.hid (fun W => sorders es.length W hd)
  clear he h12
  go_enter Try.func100, Try.ntmps100
  go_upto_region 1 with fail
  rw [← hW]
  clear hW
  go_wp2_with fail
  ((with_reducible refine (empty_any p es.length W).mono ?_); rintro e w2 ⟨rfl, hown, hb2⟩)
  obtain ⟨V, hV, hbV, ⟨hVs1, hVs2⟩, rq⟩ := newbox w2 p es.length (.slice (some ⟨W.heap.size + 1, 0, none⟩) 0 0)
  have s2 := hb2.size
  have hbWV := hb2.trans (hbV.mono s2)
  have rrV := rowIs_below rr hbWV rr.lt
  have hwV := hbW.trans (hbWV.mono hbW.size)
  have howV : OwnP V w.heap.size (.slice (some ⟨W.heap.size + 1, 0, none⟩) 0 0) [] := owns_low (owns_belowT hown hbV) hbW.size
  have hqn : w.heap.size ≠ w2.heap.size := by omega
  have hqw : w.heap.size ≤ w2.heap.size := by omega
  go_upto_region 3 with fail
  rw [← hV]
  clear hV rr hown hbV hb2 hbW hbWV
  go_wp2_with fail
  ((with_reducible refine (HSO.out _).mono ?_); rintro e w4 ⟨v4, vs4, O, rfl, hM, hCap, hmap, hSg, hb4⟩)
  have hOw4 := owns_belowT howV hb4
  have rq4 := rowIs_below rq hb4 rq.lt
  have rr4 := rowIs_below rrV hb4 rrV.lt
  have hw4 := hwV.trans (hb4.mono hwV.size)
  have hVlt := rq.lt
  have HO := Lib.hid hmap
  have hOl : O.length ≤ 6 := by
    have h1 := congrArg List.length hmap
    rw [List.length_map] at h1
    rw [h1]
    exact (sOrd_len _ hd.2).1
  obtain ⟨oa, oc, rfl⟩ := hM.shape
  obtain ⟨sa, sc, rfl, _⟩ := id hSg.slice
  clear HSO hSg hCap hmap hb4 howV rq rrV hwV
  go_wp2_with fail
  go_loopg [9] O.length (fun g c wq => ∃ (i : Nat) (sv : Value) (S : List Tm), i + g = O.length ∧ c = .int .i64 i ∧ Hid (IsP p S (indF (imgL es ((sOrd es.length).take i)))) ∧ OwnP wq w.heap.size sv S ∧ wq.rowIs w2.heap.size 42 3 (polyF p es.length sv) ∧ wq.rowIs w.heap.size 42 3 (polyF 0 0 (.slice none 0 0)) ∧ RowsM wq V.heap.size (.slice oa O.length oc) O ∧ Below w.heap.size w wq)
  case atStart => exact ⟨0, _, [], by omega, rfl, Lib.hid ((show (fun _ => 0) = indF (imgL es ((sOrd es.length).take 0)) by funext e; simp [indF, imgL]) ▸ IsP.nil p), hOw4, rq4, rr4, hM, hw4⟩
  case round =>
    clear hOw4 rq4 rr4 hM hw4
    obtain ⟨i, sv, S, hi, rfl, HP, hO, hq, hr, hM, hb⟩ := hrel
    obtain ⟨pa, pc, rfl⟩ := owns_slice hO
    by_cases hil : i < O.length
    · have hil' : (i : Int) < (O.length : Int) := by omega
      obtain ⟨g2, hg2⟩ : ∃ g2, i + 1 + g2 = O.length := ⟨O.length - (i + 1), by omega⟩
      have HG2 := Lib.hid (And.intro hg2 (show g2 < gk by omega))
      have hso : (sOrd es.length)[i]'(by rw [← HO.out, List.length_map]; exact hil) = O[i].2.1 := by
        have h1 := HO.out
        simp only [← h1, List.getElem_map]
      have hmem : O[i].2.1 ∈ sOrd es.length := by rw [← hso]; exact List.getElem_mem _
      have hro := (ord_row hd ((ord_same _ hd _).1 hmem))
      have H12i := Lib.hid (H12.out _ hmem)
      have HTK : Hid (imgL es ((sOrd es.length).take (i + 1)) = imgL es ((sOrd es.length).take i) ++ [keyO es O[i].2.1]) := Lib.hid (by
        rw [List.take_succ_eq_append_getElem (by rw [← HO.out, List.length_map]; exact hil), hso]
        simp [imgL])
      obtain ⟨gv, cv, hv, _⟩ := hM.cell hil
      obtain ⟨rfl, rfl⟩ : oa = some ⟨gv, 0, none⟩ ∧ oc = cv := by simpa using hv
      obtain ⟨⟨u, l, b⟩, hee⟩ : ∃ e, O[i] = e := ⟨_, rfl⟩
      rw [hee] at hro H12i HTK
      simp only at hro H12i HTK
      have HEE := Lib.hid hee
      obtain ⟨wo, hwo⟩ : ∃ wo, wo = wr := ⟨_, rfl⟩
      rw [← hwo] at hO hq hr hM hb
      clear hi hg2 hso hmem hv hee
      go_upto_region 8 with fail
      rw [← hwo]
      obtain ⟨W5, hW5, r5, hb5⟩ : ∃ W5, W5 = wo.alloc (.cells #[.int .u8 0, .int .u8 0, .int .u8 0] 107) ∧ W5.rowIs wo.heap.size 107 3 (fun q => .int .u8 (plF es l 0 q)) ∧ Below wo.heap.size wo W5 := ⟨_, rfl, World.rowIs_alloc wo #[_, _, _] _ _ (fun i hi => by simp at hi; match i, hi with | 0, _ => rfl | 1, _ => rfl | 2, _ => rfl), ebox1 _ _⟩
      have HK := Lib.hid (And.intro hO (And.intro hq (And.intro hr (And.intro hM hb))))
      have HRA : Hid (RowAt wo V.heap.size (u, l, b)) := Lib.hid (by have h1 := hM.rows _ (List.getElem_mem hil); rwa [HEE.out] at h1)
      have HCC : Hid (wo.cell? ⟨gv, i, none⟩ = some u) := Lib.hid (by
        obtain ⟨g', c', h1, h2⟩ := hM.cell hil
        obtain ⟨rfl, _⟩ : gv = g' ∧ oc = c' := by simpa using h1
        rw [h2, HEE.out])
      obtain ⟨cu, Nu, fu, hu1, _, hNu, hru, _⟩ := id HRA.out
      have hu2 : u = .slice (some ⟨b, 0, none⟩) l.length cu := hu1
      subst hu2
      rw [← hW5]
      clear hW5 hwo hO hq hr hM hb hu1 hru
      go_wp2_with fail
      go_loopg [11] es.length (fun g c wq => ∃ k : Nat, k + g = es.length ∧ c = .int .i64 k ∧ wq.rowIs wo.heap.size 107 3 (fun q => .int .u8 (plF es l k q)) ∧ Below wo.heap.size wo wq)
      case atStart => exact ⟨0, by omega, rfl, r5, hb5⟩
      case round =>
        clear r5 hb5
        obtain ⟨k, hk, rfl, hR, hbo⟩ := hrel
        obtain ⟨hrl, hro2⟩ := hro
        have hbw := HK.out.2.2.2.2.trans (hbo.mono HK.out.2.2.2.2.size)
        by_cases hkl : k < es.length
        · have hkl' : (k : Int) < (es.length : Int) := by omega
          have hkl2 : k < l.length := by omega
          have hkl3 : (k : Int) < (l.length : Int) := by omega
          obtain ⟨g3, hg3⟩ : ∃ g3, k + 1 + g3 = es.length := ⟨es.length - (k + 1), by omega⟩
          have HG3 := Lib.hid (And.intro hg3 (show g3 < gk by omega))
          obtain ⟨b1, f1, rfl, hb1, hT1⟩ : ∃ b off, ea = some ⟨b, off, none⟩ ∧ b < w.heap.size ∧ Cs w b off es := by
            rcases hec with rfl | h
            · simp at hkl
            · exact h
          have c0 := (hT1.below hbw hb1) k hkl
          have d0 := ((HRA.out).below hbo).cs k hkl2
          rw [Nat.zero_add] at d0
          have u0 := (hbo.cell (p := ⟨gv, i, none⟩) (block_lt_of_cell HCC.out)).trans HCC.out
          obtain ⟨e0, e1⟩ := HE.out _ (List.getElem_mem hkl)
          obtain ⟨o0, o1⟩ := hro2 _ (List.getElem_mem hkl2)
          have HS : Hid (∀ q : Nat, plF es l (k + 1) q = if l[k] = (q : Int) then es[k] else plF es l k q) := Lib.hid (fun q => by
            show (if l.getD k 0 = (q : Int) then es.getD k 0 else plF es l k q) = _
            rw [show l.getD k 0 = l[k] by simp [List.getD, hkl2], show es.getD k 0 = es[k] by simp [List.getD, hkl]])
          obtain ⟨x, hx⟩ : ∃ x, es[k] = x := ⟨_, rfl⟩
          rw [hx] at c0 e0 e1 HS
          obtain ⟨y, hy⟩ : ∃ y, l[k] = y := ⟨_, rfl⟩
          simp only [hy] at d0 o0 o1 HS
          obtain ⟨n, rfl⟩ := Int.eq_ofNat_of_zero_le o0
          have hn3 : n < 3 := by omega
          have hwx : IntKind.u8.wrap x = x := by
            rw [show IntKind.u8.wrap x = x % 256 by first | rfl | simp [IntKind.wrap, IntKind.signed, IntKind.bits]]
            omega
          have hc := hR.cell (i := n) hn3
          have hf := hR.frozen n
          have hR2 := (World.rowIs.set (w := wr.drew) hR n (.int .u8 x)).congr (g := fun q => .int .u8 (plF es l (k + 1) q)) (fun q _ => by
            rw [HS.out q]
            by_cases e : q = n
            · subst e; simp
            · rw [if_neg e, if_neg (by omega)])
          have hb3 := hbo.drew.setCell (p := ⟨wo.heap.size, n, none⟩) (Nat.le_refl _) (.int .u8 x)
          have HRR := Lib.hid (And.intro hR2 hb3)
          clear hR hR2 hb3 hx hy hT1 hec hk hg3 hbo hbw hS hro2 hrl
          go_wp2_with fail
          refine ord_tail 13 (by kernel_rfl) (by kernel_rfl) ?_
          simp only [List.take_succ_cons, List.take_zero, List.drop_succ_cons, List.drop_zero]
          repeat still_step
          refine wpStill_nil ?_
          go_wp2_with fail
          go_roundg g3
          case measure => exact HG3.out.2
          case rel => exact ⟨k + 1, HG3.out.1, by go_num, HRR.out.1, HRR.out.2⟩
        · obtain rfl : k = es.length := by omega
          have hby : byte3 (keyO es l) := keyO_byte HE.out
          have hm12 : mono12 (keyO es l) := ⟨hby, H12i.out⟩
          have hATv : atL S (keyO es l) = indF (imgL es ((sOrd es.length).take i)) (keyO es l) := HP.out.2.2 _ hby
          have hlS : S.length ≤ 1048576 := Nat.le_trans HP.out.len (by decide)
          have hO5 := owns_belowT HK.out.1 hbo
          have hq5 := rowIs_below HK.out.2.1 hbo HK.out.2.1.lt
          have hr5 := rowIs_below HK.out.2.2.1 hbo HK.out.2.2.1.lt
          have hM5 := HK.out.2.2.2.1.below hbo
          have e0 := hR.cell (i := 0) (by omega)
          have e1 := hR.cell (i := 1) (by omega)
          have e2 := hR.cell (i := 2) (by omega)
          obtain ⟨k0, hk0⟩ : ∃ x, plF es l es.length 0 = x := ⟨_, rfl⟩
          obtain ⟨k1, hk1⟩ : ∃ x, plF es l es.length 1 = x := ⟨_, rfl⟩
          obtain ⟨k2, hk2⟩ : ∃ x, plF es l es.length 2 = x := ⟨_, rfl⟩
          have hKE : keyO es l = (k0, k1, k2) := by unfold keyO; rw [hk0, hk1, hk2]
          rw [hk0] at e0
          rw [hk1] at e1
          rw [hk2] at e2
          rw [hKE] at hby hm12 hATv HTK
          have HAT := Lib.hid (at_any p es.length (.slice pa S.length pc) S k0 k1 k2 wr hlS (OwnP.slice hO5))
          obtain ⟨⟨q0, q1, q2⟩, _⟩ := poly3 hq5
          have HB := Lib.hid (And.intro hby hm12)
          by_cases hin : (k0, k1, k2) ∈ imgL es ((sOrd es.length).take i)
          · have hA1 : atL S (k0, k1, k2) = 1 := by rw [hATv]; unfold indF; rw [if_pos hin]
            rw [hA1] at HAT
            have HPN : Hid (IsP p S (indF (imgL es ((sOrd es.length).take (i + 1))))) := Lib.hid (by
              have h1 : indF (imgL es ((sOrd es.length).take (i + 1))) = indF (imgL es ((sOrd es.length).take i)) := by
                rw [HTK.out]
                funext e
                rw [ind_snoc]
                by_cases h2 : e = (k0, k1, k2)
                · rw [if_pos h2, h2]; unfold indF; rw [if_pos hin]
                · rw [if_neg h2]
              rw [h1]; exact HP.out)
            clear hby hm12 hATv hA1 hin hKE hk0 hk1 hk2 hlS hk hec hR HB
            go_wp2_with fail
            ((with_reducible refine HAT.out.mono ?_); rintro e w6 ⟨rfl, hb6⟩)
            have hF1 := owns_belowT hO5 hb6
            have hF2 := rowIs_below hq5 hb6 hq5.lt
            have hF3 := rowIs_below hr5 hb6 hr5.lt
            have hF4 := hM5.below hb6
            have hF5 := hbw.trans (hb6.mono hbw.size)
            clear hO5 hq5 hr5 hM5 hb6 hbo hbw e0 e1 e2 q0 q1 q2
            go_wp2_with fail
            go_roundg g2
            case measure => exact HG2.out.2
            case rel => exact ⟨i + 1, _, S, HG2.out.1, by go_num, HPN, hF1, hF2, hF3, hF4, hF5⟩
          · have hA0 : atL S (k0, k1, k2) = 0 := by rw [hATv]; unfold indF; rw [if_neg hin]
            rw [hA0] at HAT
            obtain ⟨O2, hO2⟩ : ∃ O2, putL p S (k0, k1, k2) 1 = O2 := ⟨_, rfl⟩
            have HPN : Hid (IsP p O2 (indF (imgL es ((sOrd es.length).take (i + 1))))) := Lib.hid (by
              have h1 := HP.out.put hp2 hm12 1
              rw [hO2] at h1
              have h2 : (fun a => if a = (k0, k1, k2) then (1 + indF (imgL es ((sOrd es.length).take i)) (k0, k1, k2)) % p else indF (imgL es ((sOrd es.length).take i)) a) = indF (imgL es ((sOrd es.length).take (i + 1))) := by
                rw [HTK.out]
                funext e
                rw [ind_snoc]
                by_cases h3 : e = (k0, k1, k2)
                · rw [if_pos h3, if_pos h3]
                  unfold indF
                  rw [if_neg hin, Int.add_zero]
                  exact Int.emod_eq_of_lt (by omega) (by omega)
                · rw [if_neg h3, if_neg h3]
              rw [h2] at h1
              exact h1)
            have HO2 := Lib.hid hO2
            have HKS := Lib.hid (And.intro hk0 (And.intro hk1 hk2))
            clear hby hm12 hATv hA0 hin hKE hk0 hk1 hk2 hlS hk hec hO2
            go_wp2_with fail
            ((with_reducible refine HAT.out.mono ?_); rintro e w6 ⟨rfl, hb6⟩)
            have hF1 := owns_belowT hO5 hb6
            have hF2 := rowIs_below hq5 hb6 hq5.lt
            have hF3 := rowIs_below hr5 hb6 hr5.lt
            have hF4 := hM5.below hb6
            have hF5 := hbw.trans (hb6.mono hbw.size)
            have hR6 := rowIs_below hR hb6 hR.lt
            clear e0 e1 e2 q0 q1 q2 hR
            have e0 := hR6.cell (i := 0) (by omega)
            have e1 := hR6.cell (i := 1) (by omega)
            have e2 := hR6.cell (i := 2) (by omega)
            rw [HKS.out.1] at e0
            rw [HKS.out.2.1] at e1
            rw [HKS.out.2.2] at e2
            obtain ⟨⟨q0, q1, q2⟩, y0, y1, y2⟩ := poly3 hF2
            have HPU := Lib.hid (specPut p es.length (.slice pa S.length pc) S _ k0 k1 k2 1 w6 (OwnP.slice hF1) HP.out hp2 hp13 HB.out.1 (by omega) (by omega))
            rw [HO2.out] at HPU
            clear hO5 hq5 hr5 hM5 hb6 hbo hbw hR6 HAT
            go_wp2_with fail
            ((with_reducible refine HPU.out.mono ?_); rintro e w7 ⟨v7, rfl, ho7, hb7⟩)
            obtain ⟨sa7, sc7, rfl⟩ := owns_slice ho7
            have hG2 := rowIs_below hF2 hb7 hF2.lt
            have hG3 := rowIs_below hF3 hb7 hF3.lt
            have hG4 := hF4.below hb7
            have hG5 := hF5.trans (hb7.mono hF5.size)
            obtain ⟨_, _, _, a3, a4⟩ := fill_box (w := w) hG2 ho7 hF5.size hG5 hqw p es.length
            have hq8 := put_box (v := .slice sa7 O2.length sc7) hG2 p es.length
            have hne : ∀ o, w.heap.size ≠ (⟨w2.heap.size, o, none⟩ : Addr).block := fun o => hqn
            have hr8 := ((hG3.setOther (hne 0) (.int .i64 p)).setOther (hne 1) (.int .i64 es.length)).setOther (hne 2) (.slice sa7 O2.length sc7)
            have hg8 := ngrown_setT (ngrown_setT (ngrown_setT (g := w2.heap.size) (World.grownBy.refl w7 _) 0 (.int .i64 p)) 1 (.int .i64 es.length)) 2 (.slice sa7 O2.length sc7)
            have hM8 := hG4.keepO hg8 (.inr (fun h1 => by
              have h2 := (World.ownsRow.lt hG4.owns gv rfl).1
              have h3 : gv = w2.heap.size := by simpa [Value.ownBlock] using h1
              omega)) (fun e he h1 => by
              obtain ⟨_, _, _, _, h2, _⟩ := hG4.rows e he
              have h3 : e.2.2 = w2.heap.size := by simpa using h1
              omega)
            obtain ⟨⟨q0, q1, q2⟩, y0, y1, y2⟩ := poly3 hG2
            have HH := Lib.hid (And.intro a3 (And.intro hq8 (And.intro hr8 (And.intro hM8 a4))))
            clear a3 a4 hq8 hr8 hM8 hg8 hG2 hG3 hG4 hG5 hF1 hF2 hF3 hF4 hF5 hb7 ho7 hne e0 e1 e2 HPU
            go_wp2_with fail
            go_roundg g2
            case measure => exact HG2.out.2
            case rel => exact ⟨i + 1, _, O2, HG2.out.1, by go_num, HPN, HH.out.1, HH.out.2.1, HH.out.2.2.1, HH.out.2.2.2.1, HH.out.2.2.2.2⟩
    · obtain rfl : i = O.length := by omega
      have HPE : Hid (IsP p S (indF (imgL es (sOrd es.length)))) := Lib.hid (by
        have h1 := HP.out
        rwa [List.take_of_length_le (by rw [← HO.out, List.length_map]; exact Nat.le_refl _)] at h1)
      obtain ⟨⟨q0, q1, q2⟩, _⟩ := poly3 hq
      obtain ⟨⟨r0, r1, r2⟩, z0, z1, z2⟩ := poly3 hr
      obtain ⟨a0, a1, a2, a3, a4⟩ := fill_box (w := w) hr hO (Nat.le_refl _) hb (Nat.le_refl _) p es.length
      have A0 := Lib.hid a0
      have A1 := Lib.hid a1
      have A2 := Lib.hid a2
      have A3 := Lib.hid a3
      have A4 := Lib.hid a4
      clear a0 a1 a2 a3 a4 hO hb hM
      go_wp2_with fail
      exact bodyPost_ret (v := .agg #[.int .i64 p, .int .i64 es.length, .slice pa S.length pc]) (by simp [results, Try.results100, go_sem, A0.out, A1.out, A2.out]) rfl ⟨_, S, rfl, A3.out, HPE.out, A4.out⟩
end Go.Proofs.Ytbahejlgfpilnaa
