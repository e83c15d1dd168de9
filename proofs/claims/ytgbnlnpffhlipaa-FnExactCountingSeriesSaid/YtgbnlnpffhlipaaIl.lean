/-
  COUNTING SERIES: the model. Conditions: as each theorem states.
-/
import Derived.Test.YtgbnlnpffhlipaaIk
namespace Go.Proofs.Ytgbnlnpffhlipaa
open Go.RowKit Go.Sort EchM

theorem sperm_r (u : Value) (l : List Int) (W : World) (hl : l.length ≤ 1048576) (hS : Sl W u l) : ∀ dd os,
    Calls Try.prog 24 #[u] (grow (redrawn W dd) os) fun e w'' => e = .returned (.bool (permB l)) ∧ ∃ q : Regrown, w'' = grow (redrawn W q.d) q.os := fun dd os =>
  Calls.regrown_of (sperm u l _ hl (hS.below (below_regrown W dd os)))

set_option maxRecDepth 100000 in
set_option maxHeartbeats 8000000 in
theorem sCnt (v : Value) (L : List (List Int)) (k : Int) (w : World) (hl : L.length ≤ 1048576) (hlr : ∀ r ∈ L, r.length ≤ 1048576) (hS : SlR w v L) :
    Calls Try.prog 12 #[v, .int .i64 k] w fun e w' => ∃ v', e = .returned (.tuple #[v', .int .i64 (rCnt L k).2]) ∧ Sl w' v' (rCnt L k).1 ∧ Below w.heap.size w w' := by
  obtain ⟨i0, hi, hz0, hz1, hz2⟩ := info_parts einfoI
  obtain ⟨a, cap, rfl, hc⟩ := id hS
  by_cases hA : L.length < 1
  · have HX : Hid (rCnt L k = ([], 2)) := Lib.hid (by
      have : L.length = 0 := by omega
      simp [rCnt, prmsB, this])
    have hA' : (L.length : Int) < 1 := by omega
    clear hlr hS hc
    go_enter Try.func12, Try.ntmps12
    go_wp2_with fail
    go_ret2
    rw [HX.out]
    exact ⟨_, rfl, ⟨none, 0, rfl, .inl rfl⟩, Below.refl _ _⟩
  have hA' : ¬ (L.length : Int) < 1 := by omega
  by_cases hB : 120 < L.length
  · have HX : Hid (rCnt L k = ([], 2)) := Lib.hid (by simp [rCnt, prmsB, show ¬ L.length ≤ 120 by omega])
    have hB' : 120 < (L.length : Int) := by omega
    clear hlr hS hc
    go_enter Try.func12, Try.ntmps12
    go_wp2_with fail
    go_ret2
    rw [HX.out]
    exact ⟨_, rfl, ⟨none, 0, rfl, .inl rfl⟩, Below.refl _ _⟩
  have hB' : ¬ 120 < (L.length : Int) := by omega
  cases h2 : (decide (0 ≤ k) && decide (k ≤ 12))
  · have HX : Hid (rCnt L k = ([], 2)) := Lib.hid (by simp only [rCnt, h2, Bool.and_false]; rfl)
    have H2 := Lib.hid h2
    clear hlr hS hc h2
    go_enter Try.func12, Try.ntmps12
    go_wp2_with fail
    ((with_reducible refine (sin_is k 0 12 _ _ H2.out).mono ?_); rintro e w1 ⟨rfl, rfl⟩)
    go_wp2_with fail
    go_ret2
    rw [HX.out]
    exact ⟨_, rfl, ⟨none, 0, rfl, .inl rfl⟩, Below.refl _ _⟩
  have h3 : 0 ≤ k ∧ k ≤ 12 := by simpa using h2
  obtain ⟨n, rfl⟩ : ∃ n : Nat, k = (n : Int) := ⟨k.toNat, by omega⟩
  have hn : n ≤ 12 := by omega
  have H2 := Lib.hid h2
  obtain ⟨b, off, rfl, hbb, hT⟩ : ∃ b off, a = some ⟨b, off, none⟩ ∧ b < w.heap.size ∧ RowsW w b off L := by
    rcases hc with rfl | h
    · simp at hA
    · exact h
  have HT := Lib.hid hT
  have HLR := Lib.hid hlr
  have hl0 : 0 < L.length := by omega
  obtain ⟨m, hm⟩ : ∃ m, L[0].length = m := ⟨_, rfl⟩
  have HM0 : Hid (prmsB L = L.all (fitB m)) := Lib.hid (by
    unfold prmsB
    rw [headD_at hl0, hm]
    simp [show L.length ≤ 120 by omega]
    omega)
  have hm20 : m ≤ 1048576 := by rw [← hm]; exact hlr _ (List.getElem_mem hl0)
  have HM := Lib.hid hm
  clear h2 h3 hlr hS hc hA hB hT hm
  have hmk : ∀ w, (Instr.makeSlice 22 (.int .i64 ((n : Int) + 1)) (.int .i64 ((n : Int) + 1))).run Try.prog w = .ok (.slice (some ⟨w.heap.size, 0, none⟩) (n + 1) (n + 1)) (w.alloc (.cells (nmadeI (n + 1)) 2)) := fun w => by
    have h := run_make (P := Try.prog) w 22 2 i0 _ Try.underlying22 hi hz0 .i64 .i64 ((n : Int) + 1) ((n : Int) + 1) (by omega) (by omega) (by rw [hz2]; omega) (by omega)
    rw [hz1] at h
    simpa [nmadeI, Value.cells] using h
  have HMK := Lib.hid hmk
  clear hi hz0 hz1 hz2 hmk
  go_enter Try.func12, Try.ntmps12
  go_wp2_with fail
  ((with_reducible refine (sin_is (n : Int) 0 12 _ _ H2.out).mono ?_); rintro e w1 ⟨rfl, rfl⟩)
  go_wp2_with fail
  go_loopw [6] (fun i wr => ∃ j : Nat, j ≤ L.length ∧ i = .int .i64 j ∧ Hid (∀ (t : Nat) (h : t < L.length), t < j → fitB m L[t] = true) ∧ Below w1.heap.size w1 wr) (fun i _ => L.length - (intOf i).toNat)
  case atStart => exact ⟨0, by omega, rfl, Lib.hid (fun t _ h => by omega), Below.refl _ _⟩
  case round =>
    obtain ⟨j, hj, rfl, HF, hbel⟩ := hrel
    by_cases hlt : j < L.length
    · have hlt' : (j : Int) < (L.length : Int) := by omega
      obtain ⟨u, c0, s0⟩ := (HT.out.below hbel hbb) j hlt
      obtain ⟨u0, c1, s1⟩ := (HT.out.below hbel hbb) 0 hl0
      have kE := sperm_r u L[j] wr (HLR.out _ (List.getElem_mem hlt)) s0
      obtain ⟨a0, k0, rfl, _⟩ := s0
      obtain ⟨a1, k1, rfl, _⟩ := s1
      have e0 := fun dd os => cell_regrown c0 dd os
      have c1' : wr.cell? ⟨b, off, none⟩ = some (.slice a1 L[0].length k1) := c1
      have e1 := fun dd os => cell_regrown c1' dd os
      rw [HM.out] at e1
      clear c0 c1 c1'
      have hl0' : (0 : Int) < (L.length : Int) := by omega
      cases hp : permB L[j]
      · have HX : Hid (rCnt L (n : Int) = ([], 2)) := Lib.hid (by
          have h1 : prmsB L = false := by
            rw [HM0.out, List.all_eq_false]
            exact ⟨_, List.getElem_mem hlt, by simp [fitB, hp]⟩
          simp [rCnt, h1])
        rw [hp] at kE
        clear hp
        go_wp2_with fail
        refine wp_region_quiet_below (by kernel_rfl) (by kernel_rfl) ?_
        repeat (go_big_quiet_step (with_reducible exact kE _ _))
        refine wpQuiet_nil ?_
        intro _ hw'
        obtain ⟨⟨dq, osq⟩, hw''⟩ := hw'
        subst hw''
        have hb2 := hbel.trans ((below_regrown wr dq osq).mono hbel.size)
        generalize grow (redrawn wr dq) osq = V at *
        clear e0 e1 kE
        go_wp2_with fail
        go_ret2
        rw [HX.out]
        exact ⟨_, rfl, ⟨none, 0, rfl, .inl rfl⟩, hb2⟩
      · rw [hp] at kE
        by_cases hm : L[j].length = m
        · have HN : Hid (∀ (t : Nat) (h : t < L.length), t < j + 1 → fitB m L[t] = true) := Lib.hid (fun t ht htj => by
            by_cases e : t = j
            · subst e; simp [fitB, hp, hm]
            · exact HF.out t ht (by omega))
          have hne : ((L[j].length : Int) != (m : Int)) = false := by simp [hm]
          clear hp hm
          go_wp2_with fail
          refine wp_region_quiet_below (by kernel_rfl) (by kernel_rfl) ?_
          repeat (go_big_quiet_step (with_reducible exact kE _ _))
          refine wpQuiet_nil ?_
          intro _ hw'
          obtain ⟨⟨dq, osq⟩, hw''⟩ := hw'
          subst hw''
          have hb2 := hbel.trans ((below_regrown wr dq osq).mono hbel.size)
          generalize grow (redrawn wr dq) osq = V at *
          clear e0 e1 kE
          go_wp2_with fail
          go_roundw
          case rel => exact ⟨j + 1, by omega, by go_num, HN, hb2⟩
          case measure => simp [intOf]; omega
        · have HX : Hid (rCnt L (n : Int) = ([], 2)) := Lib.hid (by
            have h1 : prmsB L = false := by
              rw [HM0.out, List.all_eq_false]
              exact ⟨_, List.getElem_mem hlt, by simp [fitB, hm]⟩
            simp [rCnt, h1])
          have hne : ((L[j].length : Int) != (m : Int)) = true := by simp; omega
          clear hp hm
          go_wp2_with fail
          refine wp_region_quiet_below (by kernel_rfl) (by kernel_rfl) ?_
          repeat (go_big_quiet_step (with_reducible exact kE _ _))
          refine wpQuiet_nil ?_
          intro _ hw'
          obtain ⟨⟨dq, osq⟩, hw''⟩ := hw'
          subst hw''
          have hb2 := hbel.trans ((below_regrown wr dq osq).mono hbel.size)
          generalize grow (redrawn wr dq) osq = V at *
          clear e0 e1 kE
          go_wp2_with fail
          go_ret2
          rw [HX.out]
          exact ⟨_, rfl, ⟨none, 0, rfl, .inl rfl⟩, hb2⟩
    · obtain rfl : j = L.length := by omega
      have H1 : Hid (prmsB L = true) := Lib.hid (by
        rw [HM0.out, List.all_eq_true]
        intro x hx
        obtain ⟨q, hq, rfl⟩ := List.mem_iff_getElem.1 hx
        exact HF.out q hq hq)
      have HALL := Lib.hid (prms_all H1.out).2.2
      clear HF
      obtain ⟨wx, hwx⟩ : ∃ wx, wx = wr.alloc (.cells (nmadeI (n + 1)) 2) := ⟨_, rfl⟩
      have hmk1 := HMK.out wr
      rw [← hwx] at hmk1
      have hF0 : RowF wx wr.heap.size (n + 1) (cntF (L.take 0)) := by
        rw [hwx]
        exact ⟨n + 1, _, Nat.le_refl _, nmadeI_row wr (n + 1) 2, fun q hq => by simp [cntF]⟩
      have hbx : Below w1.heap.size w1 wx := by rw [hwx]; exact hbel.alloc hbel.size _
      have hgg : w1.heap.size ≤ wr.heap.size := hbel.size
      obtain ⟨g, hg⟩ : ∃ g, wr.heap.size = g := ⟨_, rfl⟩
      rw [hg] at hmk1 hF0 hgg
      clear hwx hg hbel
      go_wp2_with fail
      go_loopw [8] (fun i wr => ∃ j : Nat, j ≤ L.length ∧ i = .int .i64 j ∧ RowF wr g (n + 1) (cntF (L.take j)) ∧ Below w1.heap.size w1 wr) (fun i _ => L.length - (intOf i).toNat)
      case atStart => exact ⟨0, by omega, rfl, hF0, hbx⟩
      case round =>
        clear hF0 hbx hmk1
        obtain ⟨j, hj, rfl, hF, hbel⟩ := hrel
        by_cases hlt : j < L.length
        · have hlt' : (j : Int) < (L.length : Int) := by omega
          obtain ⟨u, c0, s0⟩ := (HT.out.below hbel hbb) j hlt
          have hpm := HALL.out _ (List.getElem_mem hlt)
          have hb := permB_iff.1 hpm
          have HC := Lib.hid (scyc u L[j] wr hb.2.1 s0 (fun q hq => perm_at hpm hq))
          have HDL := Lib.hid (degL_cyc hpm)
          have HBD := Lib.hid (fun (q : Nat) (hq : q < 41) => cntF_bound HALL.out hq)
          have HBP := Lib.hid (fun (q : Nat) (hq : q < 41) => permS_bound hpm hq)
          have HSN := Lib.hid (cntF_snoc L j hlt)
          obtain ⟨C, hC⟩ : ∃ C, cyD L[j] L[j].length = C := ⟨_, rfl⟩
          obtain ⟨G, hG⟩ : ∃ G, permS L[j] = G := ⟨_, rfl⟩
          have HGC : Hid (serL C = G) := Lib.hid (by rw [← hG, ← hC]; rfl)
          rw [hC] at HC HDL
          rw [hG] at HBP HSN
          clear s0 hpm hb hC hG
          go_wp2_with fail
          ((with_reducible refine HC.out.mono ?_); rintro e w2 ⟨v2, rfl, ho2, hb2⟩)
          have HS2 := Lib.hid ho2.slice
          clear HC ho2
          go_wp2_with fail
          ((with_reducible refine (sof4 _ C n _ (by omega) HDL.out HS2.out).mono ?_); rintro e w4 ⟨v4, rfl, ho4, hb4⟩)
          rw [HGC.out] at ho4
          obtain ⟨g4, cap4, rfl, hg4, hF4⟩ := ownV_rowF ho4 (by simp)
          have hln4 : ((List.range (n + 1)).map G).length = n + 1 := by simp
          rw [hln4] at hF4 ⊢
          have hF4' := hF4.congr (G := G) (fun q hq => nth_map_range G hq)
          have hb24 := hb2.trans (hb4.mono hb2.size)
          have hFa := hF.below hb24
          have hbel4 := hbel.trans (hb24.mono hbel.size)
          have hne : g ≠ g4 := by
            have h1 := hF.lt
            have h2 := hb2.size
            omega
          clear hF4 hln4 ho4 hF hbel hb2 hb4 hb24 HS2 c0 hg4
          go_wp2_with fail
          go_loopw [10] (fun i wr => ∃ q : Nat, q ≤ n + 1 ∧ i = .int .i64 q ∧ RowF wr g (n + 1) (addF (cntF (L.take j)) G q) ∧ RowF wr g4 (n + 1) G ∧ Below w1.heap.size w1 wr) (fun i _ => n + 1 - (intOf i).toNat)
          case atStart => exact ⟨0, by omega, rfl, hFa.congr (fun q _ => by simp [addF]), hF4', hbel4⟩
          case round =>
            clear hFa hF4' hbel4
            obtain ⟨q, hq, rfl, hF, hG4, hbel⟩ := hrel
            by_cases hql : q < n + 1
            · have hql' : (q : Int) ≤ (n : Int) := by omega
              have c1 := hF.cell hql
              have c2 := hG4.cell hql
              have f1 := hF.frozen q
              rw [addF_at] at c1
              have bx := HBD.out q (by omega) j hj
              have by2 := HBP.out q (by omega)
              obtain ⟨X, hX⟩ : ∃ X, cntF (L.take j) q = X := ⟨_, rfl⟩
              obtain ⟨Y, hY⟩ : ∃ Y, G q = Y := ⟨_, rfl⟩
              rw [hX] at c1 bx
              rw [hY] at c2 by2
              have hwx : IntKind.i64.wrap (X + Y) = X + Y := IntWalk.i64_in _ (by omega)
              have hF2 : RowF (wr.drew.setCell ⟨g, q, none⟩ (.int .i64 (X + Y))) g (n + 1) (addF (cntF (L.take j)) G (q + 1)) := hF.drew.set q (X + Y) (fun t _ => by rw [addF_succ, hX, hY])
              have hG2 : RowF (wr.drew.setCell ⟨g, q, none⟩ (.int .i64 (X + Y))) g4 (n + 1) G := hG4.drew.other (a := ⟨g, q, none⟩) (fun e => hne e.symm) (.int .i64 (X + Y))
              have hb2 : Below w1.heap.size w1 (wr.drew.setCell ⟨g, q, none⟩ (.int .i64 (X + Y))) := hbel.drew.setCell (p := ⟨g, q, none⟩) (by simpa using hgg) (.int .i64 (X + Y))
              clear hF hG4 hbel hX hY bx by2
              go_wp2_with fail
              go_region
              all_goals
                go_wp2_with fail
                go_roundw
                case rel => exact ⟨q + 1, by omega, by go_num, hF2, hG2, hb2⟩
                case measure => simp [intOf]; omega
            · have hql' : ¬ (q : Int) ≤ (n : Int) := by omega
              obtain rfl : q = n + 1 := by omega
              have hFn : RowF wr g (n + 1) (cntF (L.take (j + 1))) := hF.congr (fun t ht => by rw [HSN.out]; unfold addF; rw [if_pos ht])
              clear hF hG4
              go_wp2_with fail
              go_roundw
              case rel => exact ⟨j + 1, by omega, by go_num, hFn, hbel⟩
              case measure => simp [intOf]; omega
        · obtain rfl : j = L.length := by omega
          rw [List.take_length] at hF
          have HBD := Lib.hid (fun (q : Nat) (hq : q < 41) => by have h := cntF_bound HALL.out hq L.length (Nat.le_refl _); rw [List.take_length] at h; exact h)
          have hlp : (0 : Int) < (L.length : Int) := by omega
          have hlp0 : ¬ (L.length : Int) = 0 := by omega
          go_wp2_with fail
          go_loopw [11] (fun i wr => ∃ q : Nat, q ≤ n + 1 ∧ i = .int .i64 q ∧ Hid (∀ t, t < q → cntF L t % (L.length : Int) = 0) ∧ RowF wr g (n + 1) (divF (cntF L) (L.length : Int) q) ∧ Below w1.heap.size w1 wr) (fun i _ => n + 1 - (intOf i).toNat)
          case atStart => exact ⟨0, by omega, rfl, Lib.hid (fun t h => by omega), hF.congr (fun q _ => by simp [divF]), hbel⟩
          case round =>
            clear hF hbel
            obtain ⟨q, hq, rfl, HM2, hF, hbel⟩ := hrel
            by_cases hql : q < n + 1
            · have hql' : (q : Int) ≤ (n : Int) := by omega
              have c1 := hF.cell hql
              have f1 := hF.frozen q
              rw [divF_at] at c1
              have bx := HBD.out q (by omega)
              obtain ⟨X, hX⟩ : ∃ X, cntF L q = X := ⟨_, rfl⟩
              rw [hX] at c1 bx
              by_cases hr : X % (L.length : Int) = 0
              · have HN : Hid (∀ t, t < q + 1 → cntF L t % (L.length : Int) = 0) := Lib.hid (fun t ht => by
                  by_cases e : t = q
                  · subst e; rw [hX]; exact hr
                  · exact HM2.out t (by omega))
                have hF2 : RowF (wr.setCell ⟨g, q, none⟩ (.int .i64 (X / (L.length : Int)))) g (n + 1) (divF (cntF L) (L.length : Int) (q + 1)) := hF.set q _ (fun t _ => by rw [divF_succ, hX])
                have hb2 := hbel.setCell (p := ⟨g, q, none⟩) hgg (.int .i64 (X / (L.length : Int)))
                have hdq : 0 ≤ X / (L.length : Int) ∧ X / (L.length : Int) ≤ X := ⟨Int.ediv_nonneg (by omega) (by omega), Int.ediv_le_self _ (by omega)⟩
                have htm : X.tmod (L.length : Int) = 0 := by rw [Int.tmod_eq_emod_of_nonneg (by omega)]; exact hr
                have htd : X.tdiv (L.length : Int) = X / (L.length : Int) := Int.tdiv_eq_ediv_of_nonneg (by omega)
                clear hF hbel hX hr
                go_wp2_with fail
                go_roundw
                case rel => exact ⟨q + 1, by omega, by go_num, HN, hF2, hb2⟩
                case measure => simp [intOf]; omega
              · have HX : Hid (rCnt L (n : Int) = ([], 5)) := Lib.hid (by
                  unfold rCnt
                  rw [if_pos, if_neg]
                  · intro h
                    rw [List.all_eq_true] at h
                    have h2 := h q (List.mem_range.2 (by simpa using hql))
                    rw [hX] at h2
                    exact hr (by simpa using h2)
                  · simp [H1.out]; omega)
                have htm : X.tmod (L.length : Int) = X % (L.length : Int) := Int.tmod_eq_emod_of_nonneg (by omega)
                clear hF hX
                go_wp2_with fail
                go_ret2
                rw [HX.out]
                exact ⟨_, rfl, ⟨none, 0, rfl, .inl rfl⟩, hbel⟩
            · have hql' : ¬ (q : Int) ≤ (n : Int) := by omega
              obtain rfl : q = n + 1 := by omega
              have HX : Hid (rCnt L (n : Int) = ((List.range (n + 1)).map (fun q => cntF L q / (L.length : Int)), 0)) := Lib.hid (by
                unfold rCnt
                rw [if_pos, if_pos]
                · simp
                · rw [List.all_eq_true]
                  intro x hx
                  simp at hx ⊢
                  exact HM2.out x (by omega)
                · simp [H1.out]; omega)
              have hFn : RowF wr g (n + 1) (fun q => cntF L q / (L.length : Int)) := hF.congr (fun t ht => by unfold divF; rw [if_pos ht])
              have HV : Hid (OwnV wr w1.heap.size (.slice (some ⟨g, 0, none⟩) (n + 1) (n + 1)) ((List.range (n + 1)).map fun q => cntF L q / (L.length : Int))) := Lib.hid (hFn.toV hgg rfl)
              clear hF hFn
              go_wp2_with fail
              go_ret2
              rw [HX.out]
              exact ⟨_, rfl, HV.out.sl, hbel⟩
end Go.Proofs.Ytgbnlnpffhlipaa
