/-
  WALKS of the model on rows modulo p: the reduced list of some rows. Conditions: as each theorem states.
-/
import Derived.Test.YtabfdohmgmdgeaaEz
namespace Go.Proofs.Ytabfdohmgmdgeaa
open Go.RowKit Go.Sort EchM

theorem elead_neg (v : Value) (l : List Int) (w : World) (hl : l.length ≤ 1048576) (hS : Sl w v l) (h1 : ¬ leadN l < l.length) :
    Calls Try.prog 51 #[v] w fun e w' => e = .returned (.int .i64 (-1)) ∧ w' = w :=
  (elead v l w hl hS).mono fun _ _ ⟨he, hw⟩ => ⟨by rw [he, leadI, if_neg h1], hw⟩
theorem stepL_zero {p : Int} {L : List (List Int)} {r O : List Int} (h : O = restL p L r) (hn : ¬ leadN O < O.length) : stepL p L r = L := by
  subst h; rw [stepL, if_neg hn]
theorem stepL_new {p : Int} {L : List (List Int)} {r O : List Int} {n : Nat} {a c : Int} (h : O = restL p L r) (hn : leadN O = n) (hl : n < O.length) (ha : nth O n = a) (hc : invP p a = c) : stepL p L r = insL p (scaleL p c O) n false L := by
  subst h; rw [stepL, hn, if_pos hl, ha, hc]

set_option maxRecDepth 8000 in
set_option maxHeartbeats 8000000 in
theorem eech (p : Int) (v : Value) (R : List (List Int)) (m : Nat) (w : World) (hp : PrimeS p) (hm : m ≤ 100000) (hRl : R.length ≤ 100000) (hR : ∀ r ∈ R, InP p m r) (hS : SlR w v R) :
    Calls Try.prog 50 #[.int .i64 p, v] w fun e w' => ∃ v2, e = .returned v2 ∧ OwnR w' w.heap.size v2 (echL p R) ∧ Below w.heap.size w w' := by
  obtain ⟨h2, h13⟩ := hp.le
  obtain ⟨i0, hi, hz0, hz1, hz2⟩ := info_parts einfoR
  have hz : ∀ t, t = 25 → OwnR (w.alloc (.cells #[] t)) w.heap.size (.slice (some ⟨w.heap.size, 0, none⟩) 0 0) [] := fun t ht => OwnR.nil (Nat.le_refl _) ht
  obtain ⟨a, cap, rfl, h⟩ := hS
  go_enter Try.func50, Try.ntmps50
  go_wp2
  go_loopw [5, 6] (fun s i wr => ∃ (k : Nat) (L : List (List Int)) (sa : Option Addr) (sc : Nat), k ≤ R.length ∧ s = .slice sa L.length sc ∧ i = .int .i64 k ∧ Hid (L = echL p (R.take k)) ∧ OwnR wr w.heap.size (.slice sa L.length sc) L ∧ Below w.heap.size w wr) (fun _ i _ => R.length - (intOf i).toNat)
  case atStart => exact ⟨0, [], _, _, by omega, rfl, rfl, Lib.hid (by simp [echL]), hz _ rfl, ebox1 _ _⟩
  case round =>
    obtain ⟨k, L, sa, sc, hk, rfl, rfl, HU, hown, hb⟩ := hrel
    by_cases hlt : k < R.length
    · have hlt' : (k : Int) < (R.length : Int) := by omega
      obtain ⟨b, off, rfl, hbb, hT⟩ : ∃ b off, a = some ⟨b, off, none⟩ ∧ b < w.heap.size ∧ RowsW w b off R := by
        rcases h with rfl | h
        · simp at hlt
        · exact h
      obtain ⟨vq, c0', hq'⟩ := hT k hlt
      have c0 := (hb.cell (p := ⟨b, _, none⟩) hbb).trans c0'
      have hq := hq'.below hb
      clear c0' hq' hT h
      obtain ⟨e1, _⟩ := echL_spec hp (m := m) (R.take k) fun r hr => hR r (List.mem_of_mem_take hr)
      have hLl : L.length ≤ k := by rw [HU.out]; have := ech_len p (R.take k); simp at this; omega
      rw [← HU.out] at e1
      have hL : ∀ q ∈ L, InP p m q ∧ leadN q < m := fun q hq => ⟨e1.inP q hq, e1.lt q hq⟩
      have HN := Lib.hid (ech_snoc p R k hlt)
      rw [← HU.out] at HN
      have i1 := hR R[k] (List.getElem_mem _)
      generalize hq0 : R[k] = r at hq i1 HN
      clear hq0 e1
      obtain ⟨aq, cq, rfl⟩ := hq.shape
      have hss := hb.size
      go_wp2_with fail
      ((with_reducible refine (erest p _ _ L r m _ h2 h13 (by omega) (by omega) hL i1 hown.slice hq).mono ?_); rintro e w1 ⟨v1, rfl, hown1, hb1⟩)
      have hO : InP p m (restL p L r) := restL_inP (by omega) _ _ (fun q hq => (hL q hq).1) i1
      obtain ⟨O, hOO⟩ : ∃ O, O = restL p L r := ⟨_, rfl⟩
      rw [← hOO] at hO hown1
      have HOO := Lib.hid hOO
      clear hOO hq c0
      have hOm : O.length ≤ 100000 := by rw [hO.1]; exact hm
      obtain ⟨s1, c1, rfl⟩ := hown1.shape
      by_cases hn : leadN O < O.length
      · obtain ⟨n, hnn⟩ : ∃ n, leadN O = n := ⟨_, rfl⟩
        rw [hnn] at hn
        have HNN := Lib.hid hnn
        clear hnn
        have hn' : (n : Int) < (O.length : Int) := by omega
        obtain ⟨g, cp, hv, hg1, hg2, hc⟩ := hown1.form (by omega)
        simp only [Value.slice.injEq] at hv
        obtain ⟨rfl, _, rfl⟩ := hv
        have d0 := hc n hn
        have hK := hO.nth (by omega) n
        have hKn : nth O n ≠ 0 := by rw [← HNN.out]; exact lead_at (by rw [HNN.out]; exact hn)
        obtain ⟨A, hA⟩ : ∃ A, nth O n = A := ⟨_, rfl⟩
        rw [hA] at hK hKn
        rw [nth_lt hn] at hA
        rw [hA] at d0
        obtain ⟨j1, j2, j3⟩ := invP_ok hp (x := A) (by omega) hK.2
        obtain ⟨c, hcc⟩ : ∃ c, invP p A = c := ⟨_, rfl⟩
        rw [hcc] at j2 j3
        have HCC := Lib.hid hcc
        have HS := Lib.hid (HN.out.trans (stepL_new HOO.out HNN.out hn (by rw [nth_lt hn]; exact hA) hcc))
        have hout := hown.below hb1
        clear hc hA hcc j1 HN
        have hs1 := hb1.size
        go_wp2_with fail
        ((with_reducible refine (elead_at _ O n _ (by omega) hown1.slice HNN.out hn).mono ?_); rintro e w2 ⟨rfl, rfl⟩)
        go_wp2_with fail
        ((with_reducible refine (einv p A _ h2 h13 hK).mono ?_); rintro e w3 ⟨rfl, rfl⟩)
        rw [HCC.out]
        obtain ⟨wo, rfl⟩ : ∃ wo, wo = wr := ⟨_, rfl⟩
        go_wp2_with fail
        go_loopw [10] (fun i wr => ∃ t : Nat, t ≤ O.length ∧ i = .int .i64 t ∧ wr.ownsRow wo.heap.size 2 1 (.slice (some ⟨g, 0, none⟩) O.length c1) O.length (valsI (mixL p c O t)) ∧ Below wo.heap.size wo wr) (fun i _ => O.length - (intOf i).toNat)
        case atStart => exact ⟨0, by omega, rfl, by rw [mixL_zero]; exact hown1, hb1⟩
        case round =>
          obtain ⟨t, ht, rfl, hmix, hB⟩ := hrel
          by_cases hlt2 : t < O.length
          · have hlt2' : (t : Int) < (O.length : Int) := by omega
            have l0 := World.ownsRow.cellAt hmix t (by omega)
            rw [show (valsI (mixL p c O t))[t]? = some (.int .i64 O[t]) by simp [valsI, mixL_len, hlt2, mixL_at hlt2]] at l0
            have z0 := World.ownsRow.frozenAt hmix t
            have hO2 := hO.2 O[t] (List.getElem_mem _)
            have hst := (World.ownsRow.stored hmix t (.int .i64 (O[t] * c % p))).1
            rw [show (valsI (mixL p c O t)).set t (.int .i64 (O[t] * c % p)) = valsI (mixL p c O (t + 1)) by rw [← mixL_set hlt2]; simp [valsI, List.map_set]] at hst
            obtain ⟨f0, f1⟩ := eprod_fit h13 (a := O[t]) (b := c) hO2 ⟨by omega, j3⟩
            generalize hx : O[t] = X at l0 hO2 hst f0 f1
            clear hx
            go_wp2_with fail
            go_roundw
            case rel => exact ⟨t + 1, by omega, by go_num, hst, hB.setCell (by simpa using hg1) _⟩
            case measure => simp [intOf]; omega
          · obtain rfl : t = O.length := by omega
            rw [mixL_end] at hmix
            obtain ⟨O', hO'⟩ : ∃ O', scaleL p c O = O' := ⟨_, rfl⟩
            have iO' : InP p m O' := by rw [← hO']; exact inP_scale (by omega) hO
            have hol : O'.length = O.length := by rw [iO'.1, hO.1]
            rw [hO'] at hmix
            have HS' := Lib.hid (show echL p (R.take (k + 1)) = insL p O' n false L by rw [HS.out, hO'])
            have hmix' : OwnL wr wo.heap.size (.slice (some ⟨g, 0, none⟩) O.length c1) O' := by unfold OwnL; rw [hol]; exact hmix
            have HOL := Lib.hid hol
            clear hmix hO' hol HS
            have hsB := hB.size
            have hnil := fun t ht => OwnR.nil (w := wr) (base := wo.heap.size) (t := t) hsB ht
            have hOnil := fun o => hmix'.below (ebox1 wr o)
            have hBnil := fun o => hB.alloc hsB o
            go_wp2_with fail
            generalize wr.heap.size = sz at *
            go_loopw [11, 12, 13] (fun s u i wr => ∃ (t : Nat) (put : Bool) (N : List (List Int)) (na : Option Addr) (nc : Nat), t ≤ L.length ∧ s = .slice na N.length nc ∧ u = .bool put ∧ i = .int .i64 t ∧ Hid (N ++ insL p O' n put (L.drop t) = insL p O' n false L) ∧ N.length ≤ 2 * t ∧ OwnR wr wo.heap.size (.slice na N.length nc) N ∧ OwnL wr wo.heap.size (.slice (some ⟨g, 0, none⟩) O.length c1) O' ∧ Below wo.heap.size wo wr) (fun _ _ i _ => L.length - (intOf i).toNat)
            case atStart => exact ⟨0, false, [], _, _, by omega, rfl, rfl, rfl, Lib.hid (by simp), by simp, hnil _ rfl, hOnil _, hBnil _⟩
            case round =>
              obtain ⟨t, put, N, na, nc, ht, rfl, rfl, rfl, HI, hNl, hN, hOw, hB2⟩ := hrel
              clear hnil hOnil hBnil
              by_cases hlt3 : t < L.length
              · have hlt3' : (t : Int) < (L.length : Int) := by omega
                obtain ⟨gL, cL, hvL, _, hltL, hcL⟩ := hown.cells (by omega)
                simp only [Value.slice.injEq] at hvL
                obtain ⟨rfl, _, rfl⟩ := hvL
                obtain ⟨uq, c1', hqo⟩ := hcL t hlt3
                have HIn := Lib.hid (insL_next (p := p) (own := O') (c := n) hlt3 put)
                obtain ⟨iq, hlq⟩ := hL L[t] (List.getElem_mem _)
                generalize hq0 : L[t] = q at hqo HIn iq hlq
                clear hq0 hcL
                have hql : q.length ≤ 100000 := by rw [iq.1]; exact hm
                have hqn : n < q.length := by rw [iq.1, ← hO.1]; exact hn
                obtain ⟨gq, cq, rfl, _, hltq, hcq⟩ := hqo.form (by omega)
                have c2' := hcq n hqn
                have hQ := iq.nth (by omega) n
                rw [nth_lt hqn] at hQ HIn
                generalize q[n] = Q at c2' hQ HIn
                have KK := Lib.hid (fun w' (h : Below wo.heap.size wo w') => show w'.cell? ⟨gL, t, none⟩ = some (.slice (some ⟨gq, 0, none⟩) q.length cq) ∧ w'.cell? ⟨gq, n, none⟩ = some (.int .i64 Q) from
                  ⟨(h.cell (p := ⟨_, _, none⟩) hltL).trans c1', (h.cell (p := ⟨_, _, none⟩) hltq).trans c2'⟩)
                clear hcq c1' c2'
                have d1 := (KK.out _ hB2).1
                have hqn' : (n : Int) < (q.length : Int) := by omega
                have hlq2 : leadN q < q.length := by rw [iq.1]; exact hlq
                obtain ⟨lq, hlqe⟩ : ∃ lq, leadN q = lq := ⟨_, rfl⟩
                rw [hlqe] at HIn hlq2
                have HLQ := Lib.hid hlqe
                clear hlqe hlq
                have hsq : Sl wr (.slice (some ⟨gq, 0, none⟩) q.length cq) q := (hqo.below hB2).slice
                cases put
                · by_cases hcmp : n < lq
                  · have hcmp' : (n : Int) < (lq : Int) := by omega
                    have HI4 : Hid ((N ++ [O']) ++ [lessL p Q q O'] ++ insL p O' n true (L.drop (t + 1)) = insL p O' n false L) := Lib.hid (by
                      rw [← HI.out, HIn.out]; simp [hcmp])
                    go_wp2_with fail
                    ((with_reducible refine (elead_at _ q lq _ (by omega) hsq HLQ.out hlq2).mono ?_); rintro e w3 ⟨rfl, rfl⟩)
                    obtain ⟨us0, x1, x2, x3⟩ := hN
                    have hs2 := hB2.size
                    go_wp2_with (at_builtin; refine wpList_append_lies _ rfl _ _ 61 rfl wo.heap.size 25 i0 _ 1 24 Try.underlying61 hi hz0 hz1 hz2 rfl (by decide) (.slice na N.length nc) N.length us0 rfl (World.ownsRow.alloc x2 _) ⟨w3.heap.size, 0, none⟩ 1 1 [.slice (some ⟨g, 0, none⟩) O.length c1] rfl rfl (World.news_of_block (cs := #[.slice (some ⟨g, 0, none⟩) O.length c1]) (t := 25) (fr := (0, 0)) (heap_alloc_new w3 _)) (by simp [Value.oneCell']) (by omega) (by unfold maxLen; omega) (by omega) (by simp; omega) _ rfl ?_)
                    intro g4 cap4 w4 hown4 hgrow4 hat4 hlt4
                    have hB4 : Below wo.heap.size wo w4 := (hB2.alloc hs2 _).grown hgrow4 (by simp; omega) (fun q hq => (World.ownsRow.lt x2 q hq).1)
                    have hO4 : OwnL w4 wo.heap.size (.slice (some ⟨g, 0, none⟩) O.length c1) O' := OwnL.kept (hOw.below (ebox1 w3 _)) (World.ownsRow.alloc x2 _) hgrow4
                    have hN4 : OwnR w4 wo.heap.size (.slice (some ⟨g4, 0, none⟩) (N.length + 1) cap4) (N ++ [O']) := OwnR.push x1 (World.ownsRow.alloc x2 _) (fun k hk hk' => (x3 k hk hk').below (ebox1 w3 _)) (hOw.below (ebox1 w3 _)) hown4 hgrow4
                    clear x1 x2 x3 hown4 hgrow4 hat4 hOw hsq d1
                    obtain ⟨N1, hN1⟩ : ∃ N1, N1 = N ++ [O'] := ⟨_, rfl⟩
                    have hN1l : N.length + 1 = N1.length := by rw [hN1]; simp
                    rw [← hN1] at HI4 hN4
                    rw [hN1l] at hN4
                    simp only [hN1l]
                    have hN1a : N1.length ≤ 2 * t + 1 := by omega
                    clear hN1 hN1l
                    go_wp2_with fail
                    have hNr := hN4.below (Below.refl _ _).drew
                    have hSq : Sl w4.drew (.slice (some ⟨gq, 0, none⟩) q.length cq) q := (hqo.below (hB4.mono (Nat.le_refl _))).slice.below (Below.refl _ _).drew
                    have hSo : Sl w4.drew (.slice (some ⟨g, 0, none⟩) O.length c1) O' := hO4.slice.below (Below.refl _ _).drew
                    have hs4 := hB4.size
                    obtain ⟨us, u1, u2, u3⟩ := hN4
                    have hmx : N1.length + 1 ≤ maxLen := by unfold maxLen; omega
                    have hmb : (N1.length + 1) * 24 ≤ 140737488355328 := by omega
                    go_region_held3 (fun w' => w'.cell? ⟨gL, t, none⟩ = some (.slice (some ⟨gq, 0, none⟩) q.length cq) ∧ w'.cell? ⟨gq, n, none⟩ = some (.int .i64 Q))
                      (first | with_reducible exact KK.out _ hB4.drew | with_reducible exact KK.out _ HB5 | with_reducible exact KK.out _ (HB5a _) | with_reducible exact KK.out _ HB6)
                      (first
                        | ((with_reducible refine (eless p Q _ _ q O' m _ h2 h13 (by omega) iq iO' hQ hSq hSo).mono ?_); rintro e w5 ⟨v5, rfl, hown5, hb5⟩
                           obtain ⟨s5, c5, rfl⟩ := hown5.shape
                           have HB5 : Below wo.heap.size wo w5 := hB4.drew.trans (hb5.mono hs4)
                           have HB5a := fun o => HB5.alloc (by have := HB5.size; omega) o)
                        | ((refine step_append_lies _ (by rfl) _ _ _ (by rfl) wo.heap.size 25 i0 _ 1 24 Try.underlying61 hi hz0 hz1 hz2 rfl (by omega) (.slice (some ⟨g4, 0, none⟩) N1.length (cap4)) N1.length us (by rfl) (World.ownsRow.alloc (eowns_below u2 ((Below.refl _ _).drew.trans hb5)) _) ⟨w5.heap.size, 0, none⟩ 1 1 [.slice s5 (lessL p Q q O').length c5] (by rfl) (by rfl) (World.news_of_block (cs := #[.slice s5 (lessL p Q q O').length c5]) (t := 25) (fr := (0, 0)) (heap_alloc_new w5 _)) (by simp [Value.oneCell']) (by omega) hmx hmb (by have := HB5.size; simp; omega) (w5.heap.size + 1) (by simp) ?_
                            intro gg cap6 w6 hown6 hgrow6 hat6 hlt6
                            have hb6 : Below wo.heap.size w5 w6 := ((ebox1 w5 _).mono HB5.size).grown hgrow6 (by have := HB5.size; simp; omega) (fun q hq => (World.ownsRow.lt u2 q hq).1)
                            have HB6 : Below wo.heap.size wo w6 := HB5.trans hb6
                            have hb5' : Below w4.heap.size w4 w5 := (Below.refl _ _).drew.trans hb5
                            have hO6 : OwnL w6 wo.heap.size (.slice (some ⟨g, 0, none⟩) O.length c1) O' := OwnL.kept ((hO4.below hb5').below (ebox1 w5 _)) (World.ownsRow.alloc (eowns_below u2 hb5') _) hgrow6
                            have hN6 : OwnR w6 wo.heap.size (.slice (some ⟨gg, 0, none⟩) (N1.length + 1) cap6) (N1 ++ [lessL p Q q O']) := OwnR.push u1 (World.ownsRow.alloc (eowns_below u2 hb5') _) (fun k hk hk' => ((u3 k hk hk').below hb5').below (ebox1 w5 _)) ((OwnL.mono hown5 hs4).below (ebox1 w5 _)) hown6 hgrow6
                            clear hat6)))
                    all_goals
                      go_wp2_with fail
                      go_roundw
                      case rel => exact ⟨t + 1, true, N1 ++ [lessL p Q q O'], some ⟨gg, 0, none⟩, cap6, by omega, by simp, rfl, by go_num, HI4, by simp; omega, by simpa using hN6, hO6, HB6⟩
                      case measure => simp [intOf]; omega
                  · have HI4 : Hid (N ++ [lessL p Q q O'] ++ insL p O' n false (L.drop (t + 1)) = insL p O' n false L) := Lib.hid (by
                      rw [← HI.out, HIn.out]; simp [hcmp])
                    have hcmp' : ¬ (n : Int) < (lq : Int) := by omega
                    go_wp2_with fail
                    ((with_reducible refine (elead_at _ q lq _ (by omega) hsq HLQ.out hlq2).mono ?_); rintro e w3 ⟨rfl, rfl⟩)
                    have hN4 := hN
                    have hB4 := hB2
                    have hO4 := hOw
                    clear hN hB2 hOw hsq d1
                    go_wp2_with fail
                    have hNr := hN4.below (Below.refl _ _).drew
                    have hSq : Sl w3.drew (.slice (some ⟨gq, 0, none⟩) q.length cq) q := (hqo.below (hB4.mono (Nat.le_refl _))).slice.below (Below.refl _ _).drew
                    have hSo : Sl w3.drew (.slice (some ⟨g, 0, none⟩) O.length c1) O' := hO4.slice.below (Below.refl _ _).drew
                    have hs4 := hB4.size
                    obtain ⟨us, u1, u2, u3⟩ := hN4
                    have hmx : N.length + 1 ≤ maxLen := by unfold maxLen; omega
                    have hmb : (N.length + 1) * 24 ≤ 140737488355328 := by omega
                    go_region_held3 (fun w' => w'.cell? ⟨gL, t, none⟩ = some (.slice (some ⟨gq, 0, none⟩) q.length cq) ∧ w'.cell? ⟨gq, n, none⟩ = some (.int .i64 Q))
                      (first | with_reducible exact KK.out _ hB4.drew | with_reducible exact KK.out _ HB5 | with_reducible exact KK.out _ (HB5a _) | with_reducible exact KK.out _ HB6)
                      (first
                        | ((with_reducible refine (eless p Q _ _ q O' m _ h2 h13 (by omega) iq iO' hQ hSq hSo).mono ?_); rintro e w5 ⟨v5, rfl, hown5, hb5⟩
                           obtain ⟨s5, c5, rfl⟩ := hown5.shape
                           have HB5 : Below wo.heap.size wo w5 := hB4.drew.trans (hb5.mono hs4)
                           have HB5a := fun o => HB5.alloc (by have := HB5.size; omega) o)
                        | ((refine step_append_lies _ (by rfl) _ _ _ (by rfl) wo.heap.size 25 i0 _ 1 24 Try.underlying61 hi hz0 hz1 hz2 rfl (by omega) (.slice na N.length nc) N.length us (by rfl) (World.ownsRow.alloc (eowns_below u2 ((Below.refl _ _).drew.trans hb5)) _) ⟨w5.heap.size, 0, none⟩ 1 1 [.slice s5 (lessL p Q q O').length c5] (by rfl) (by rfl) (World.news_of_block (cs := #[.slice s5 (lessL p Q q O').length c5]) (t := 25) (fr := (0, 0)) (heap_alloc_new w5 _)) (by simp [Value.oneCell']) (by omega) hmx hmb (by have := HB5.size; simp; omega) (w5.heap.size + 1) (by simp) ?_
                            intro gg cap6 w6 hown6 hgrow6 hat6 hlt6
                            have hb6 : Below wo.heap.size w5 w6 := ((ebox1 w5 _).mono HB5.size).grown hgrow6 (by have := HB5.size; simp; omega) (fun q hq => (World.ownsRow.lt u2 q hq).1)
                            have HB6 : Below wo.heap.size wo w6 := HB5.trans hb6
                            have hb5' : Below w3.heap.size w3 w5 := (Below.refl _ _).drew.trans hb5
                            have hO6 : OwnL w6 wo.heap.size (.slice (some ⟨g, 0, none⟩) O.length c1) O' := OwnL.kept ((hO4.below hb5').below (ebox1 w5 _)) (World.ownsRow.alloc (eowns_below u2 hb5') _) hgrow6
                            have hN6 : OwnR w6 wo.heap.size (.slice (some ⟨gg, 0, none⟩) (N.length + 1) cap6) (N ++ [lessL p Q q O']) := OwnR.push u1 (World.ownsRow.alloc (eowns_below u2 hb5') _) (fun k hk hk' => ((u3 k hk hk').below hb5').below (ebox1 w5 _)) ((OwnL.mono hown5 hs4).below (ebox1 w5 _)) hown6 hgrow6
                            clear hat6)))
                    all_goals
                      go_wp2_with fail
                      go_roundw
                      case rel => exact ⟨t + 1, false, N ++ [lessL p Q q O'], some ⟨gg, 0, none⟩, cap6, by omega, by simp, rfl, by go_num, HI4, by simp; omega, by simpa using hN6, hO6, HB6⟩
                      case measure => simp [intOf]; omega
                · have HI4 : Hid (N ++ [lessL p Q q O'] ++ insL p O' n true (L.drop (t + 1)) = insL p O' n false L) := Lib.hid (by
                    rw [← HI.out, HIn.out]; simp)
                  have hN4 := hN
                  have hB4 := hB2
                  have hO4 := hOw
                  clear hN hB2 hOw hsq d1
                  go_wp2_with fail
                  have hNr := hN4.below (Below.refl _ _).drew
                  have hSq : Sl wr.drew (.slice (some ⟨gq, 0, none⟩) q.length cq) q := (hqo.below (hB4.mono (Nat.le_refl _))).slice.below (Below.refl _ _).drew
                  have hSo : Sl wr.drew (.slice (some ⟨g, 0, none⟩) O.length c1) O' := hO4.slice.below (Below.refl _ _).drew
                  have hs4 := hB4.size
                  obtain ⟨us, u1, u2, u3⟩ := hN4
                  have hmx : N.length + 1 ≤ maxLen := by unfold maxLen; omega
                  have hmb : (N.length + 1) * 24 ≤ 140737488355328 := by omega
                  go_region_held3 (fun w' => w'.cell? ⟨gL, t, none⟩ = some (.slice (some ⟨gq, 0, none⟩) q.length cq) ∧ w'.cell? ⟨gq, n, none⟩ = some (.int .i64 Q))
                    (first | with_reducible exact KK.out _ hB4.drew | with_reducible exact KK.out _ HB5 | with_reducible exact KK.out _ (HB5a _) | with_reducible exact KK.out _ HB6)
                    (first
                      | ((with_reducible refine (eless p Q _ _ q O' m _ h2 h13 (by omega) iq iO' hQ hSq hSo).mono ?_); rintro e w5 ⟨v5, rfl, hown5, hb5⟩
                         obtain ⟨s5, c5, rfl⟩ := hown5.shape
                         have HB5 : Below wo.heap.size wo w5 := hB4.drew.trans (hb5.mono hs4)
                         have HB5a := fun o => HB5.alloc (by have := HB5.size; omega) o)
                      | ((refine step_append_lies _ (by rfl) _ _ _ (by rfl) wo.heap.size 25 i0 _ 1 24 Try.underlying61 hi hz0 hz1 hz2 rfl (by omega) (.slice na N.length nc) N.length us (by rfl) (World.ownsRow.alloc (eowns_below u2 ((Below.refl _ _).drew.trans hb5)) _) ⟨w5.heap.size, 0, none⟩ 1 1 [.slice s5 (lessL p Q q O').length c5] (by rfl) (by rfl) (World.news_of_block (cs := #[.slice s5 (lessL p Q q O').length c5]) (t := 25) (fr := (0, 0)) (heap_alloc_new w5 _)) (by simp [Value.oneCell']) (by omega) hmx hmb (by have := HB5.size; simp; omega) (w5.heap.size + 1) (by simp) ?_
                          intro gg cap6 w6 hown6 hgrow6 hat6 hlt6
                          have hb6 : Below wo.heap.size w5 w6 := ((ebox1 w5 _).mono HB5.size).grown hgrow6 (by have := HB5.size; simp; omega) (fun q hq => (World.ownsRow.lt u2 q hq).1)
                          have HB6 : Below wo.heap.size wo w6 := HB5.trans hb6
                          have hb5' : Below wr.heap.size wr w5 := (Below.refl _ _).drew.trans hb5
                          have hO6 : OwnL w6 wo.heap.size (.slice (some ⟨g, 0, none⟩) O.length c1) O' := OwnL.kept ((hO4.below hb5').below (ebox1 w5 _)) (World.ownsRow.alloc (eowns_below u2 hb5') _) hgrow6
                          have hN6 : OwnR w6 wo.heap.size (.slice (some ⟨gg, 0, none⟩) (N.length + 1) cap6) (N ++ [lessL p Q q O']) := OwnR.push u1 (World.ownsRow.alloc (eowns_below u2 hb5') _) (fun k hk hk' => ((u3 k hk hk').below hb5').below (ebox1 w5 _)) ((OwnL.mono hown5 hs4).below (ebox1 w5 _)) hown6 hgrow6
                          clear hat6)))
                  all_goals
                    go_wp2_with fail
                    go_roundw
                    case rel => exact ⟨t + 1, true, N ++ [lessL p Q q O'], some ⟨gg, 0, none⟩, cap6, by omega, by simp, rfl, by go_num, HI4, by simp; omega, by simpa using hN6, hO6, HB6⟩
                    case measure => simp [intOf]; omega
              · obtain rfl : t = L.length := by omega
                have hs2 := hB2.size
                cases put
                · have HX : Hid (N ++ [O'] = echL p (R.take (k + 1))) := Lib.hid (by
                    have := HI.out
                    rw [List.drop_length] at this
                    rw [HS'.out, ← this]; rfl)
                  obtain ⟨us0, x1, x2, x3⟩ := hN
                  go_wp2_with (at_builtin; refine wpList_append_lies _ rfl _ _ 61 rfl wo.heap.size 25 i0 _ 1 24 Try.underlying61 hi hz0 hz1 hz2 rfl (by decide) (.slice na N.length nc) N.length us0 rfl (World.ownsRow.alloc x2 _) ⟨wr.heap.size, 0, none⟩ 1 1 [.slice (some ⟨g, 0, none⟩) O.length c1] rfl rfl (World.news_of_block (cs := #[.slice (some ⟨g, 0, none⟩) O.length c1]) (t := 25) (fr := (0, 0)) (heap_alloc_new wr _)) (by simp [Value.oneCell']) (by omega) (by unfold maxLen; omega) (by omega) (by simp; omega) _ rfl ?_)
                  intro g4 cap4 w4 hown4 hgrow4 hat4 hlt4
                  have hB4 : Below wo.heap.size wo w4 := (hB2.alloc hs2 _).grown hgrow4 (by simp; omega) (fun q hq => (World.ownsRow.lt x2 q hq).1)
                  have hN4 : OwnR w4 wo.heap.size (.slice (some ⟨g4, 0, none⟩) (N.length + 1) cap4) (N ++ [O']) := OwnR.push x1 (World.ownsRow.alloc x2 _) (fun k hk hk' => (x3 k hk hk').below (ebox1 wr _)) (hOw.below (ebox1 wr _)) hown4 hgrow4
                  clear x1 x2 x3 hown4 hgrow4 hat4 hOw
                  go_wp2_with fail
                  go_roundw
                  case rel => exact ⟨k + 1, N ++ [O'], some ⟨g4, 0, none⟩, cap4, by omega, by simp, by go_num, HX, by simpa using hN4.mono hss, hb.trans (hB4.mono hss)⟩
                  case measure => simp [intOf]; omega
                · have HX : Hid (N = echL p (R.take (k + 1))) := Lib.hid (by
                    have := HI.out
                    rw [List.drop_length, insL, List.append_nil] at this
                    rw [HS'.out, ← this])
                  go_wp2_with fail
                  go_roundw
                  case rel => exact ⟨k + 1, N, na, nc, by omega, rfl, by go_num, HX, hN.mono hss, hb.trans (hB2.mono hss)⟩
                  case measure => simp [intOf]; omega
      · have HX : Hid (L = echL p (R.take (k + 1))) := Lib.hid (by rw [HN.out, stepL_zero HOO.out hn])
        go_wp2_with fail
        ((with_reducible refine (elead_neg _ O _ (by omega) hown1.slice hn).mono ?_); rintro e w2 ⟨rfl, rfl⟩)
        go_wp2_with fail
        go_roundw
        case rel => exact ⟨k + 1, L, _, _, by omega, rfl, by go_num, HX, hown.below hb1, hb.trans (hb1.mono hss)⟩
        case measure => simp [intOf]; omega
    · obtain rfl : k = R.length := by omega
      have HX : Hid (echL p R = L) := Lib.hid (by rw [HU.out, List.take_length])
      go_wp2
      go_ret
      exact ⟨_, rfl, by rw [HX.out]; exact hown, hb⟩
end Go.Proofs.Ytabfdohmgmdgeaa
