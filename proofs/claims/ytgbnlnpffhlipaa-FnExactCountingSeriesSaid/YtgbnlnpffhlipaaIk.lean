/-
  COUNTING SERIES: the program. Conditions: as each theorem states.
-/
import Derived.Test.YtgbnlnpffhlipaaIj
namespace Go.Proofs.Ytgbnlnpffhlipaa
open Go.RowKit Go.Sort EchM

/-- The numbers up to q with one permutation more; those up to q divided. -/
def addF (F G : Nat → Int) (q t : Nat) : Int := if t < q then F t + G t else F t
theorem addF_succ {F G : Nat → Int} {q t : Nat} : addF F G (q + 1) t = if t = q then F q + G q else addF F G q t := by
  unfold addF
  by_cases h : t = q
  · subst h; simp
  · by_cases h2 : t < q
    · simp [h, h2]; omega
    · simp [h, h2]; omega
theorem addF_at {F G : Nat → Int} {q : Nat} : addF F G q q = F q := by simp [addF]
def divF (F : Nat → Int) (m : Int) (q t : Nat) : Int := if t < q then F t / m else F t
theorem divF_succ {F : Nat → Int} {m : Int} {q t : Nat} : divF F m (q + 1) t = if t = q then F q / m else divF F m q t := by
  unfold divF
  by_cases h : t = q
  · subst h; simp
  · by_cases h2 : t < q
    · simp [h, h2]; omega
    · simp [h, h2]; omega
theorem divF_at {F : Nat → Int} {m : Int} {q : Nat} : divF F m q q = F q := by simp [divF]

set_option maxRecDepth 100000 in
set_option maxHeartbeats 8000000 in
theorem iCnt (v : Value) (L : List (List Int)) (k : Int) (w : World) (hl : L.length ≤ 1048576) (hlr : ∀ r ∈ L, r.length ≤ 1048576) (hS : SlR w v L) :
    Calls Try.prog 14 #[v, .int .i64 k] w fun e w' => ∃ v', e = .returned (.tuple #[v', .int .i64 (rCnt L k).2]) ∧ OwnV w' w.heap.size v' (rCnt L k).1 ∧ Below w.heap.size w w' := by
  obtain ⟨i0, hi, hz0, hz1, hz2⟩ := info_parts einfoI
  obtain ⟨a, cap, rfl, hc⟩ := id hS
  have HP := Lib.hid (iprms _ L w hl hlr hS)
  cases h1 : prmsB L
  · have HX : Hid (rCnt L k = ([], 2)) := Lib.hid (by simp [rCnt, h1])
    have H1 := Lib.hid h1
    clear h1 hlr hS hc
    go_enter Try.func14, Try.ntmps14
    go_wp2_with fail
    ((with_reducible refine HP.out.mono ?_); rintro e w1 ⟨rfl, hb1⟩)
    rw [H1.out]
    go_wp2_with fail
    go_ret2
    rw [HX.out]
    exact ⟨_, rfl, OwnV.none _ _, hb1⟩
  by_cases h2 : 0 ≤ k ∧ k ≤ 12
  · obtain ⟨n, rfl⟩ : ∃ n : Nat, k = (n : Int) := ⟨k.toNat, by omega⟩
    have hn : n ≤ 12 := by omega
    have H1 := Lib.hid h1
    obtain ⟨la, lb, hall⟩ := prms_all h1
    have HALL := Lib.hid hall
    have h3 : ¬ ((n : Int) < 0) := by omega
    have h4 : ¬ ((12 : Int) < (n : Int)) := by omega
    obtain ⟨b, off, rfl, hbb, hT⟩ : ∃ b off, a = some ⟨b, off, none⟩ ∧ b < w.heap.size ∧ RowsW w b off L := by
      rcases hc with rfl | h
      · simp at la
      · exact h
    have HT := Lib.hid hT
    clear h1 h2 hall hT hlr hS hc
    have hmk : ∀ w, (Instr.makeSlice 22 (.int .i64 ((n : Int) + 1)) (.int .i64 ((n : Int) + 1))).run Try.prog w = .ok (.slice (some ⟨w.heap.size, 0, none⟩) (n + 1) (n + 1)) (w.alloc (.cells (nmadeI (n + 1)) 2)) := fun w => by
      have h := run_make (P := Try.prog) w 22 2 i0 _ Try.underlying22 hi hz0 .i64 .i64 ((n : Int) + 1) ((n : Int) + 1) (by omega) (by omega) (by rw [hz2]; omega) (by omega)
      rw [hz1] at h
      simpa [nmadeI, Value.cells] using h
    clear hi hz0 hz1 hz2
    go_enter Try.func14, Try.ntmps14
    go_wp2_with fail
    ((with_reducible refine HP.out.mono ?_); rintro e w1 ⟨rfl, hb1⟩)
    rw [H1.out]
    obtain ⟨wx, hwx⟩ : ∃ wx, wx = w1.alloc (.cells (nmadeI (n + 1)) 2) := ⟨_, rfl⟩
    have hmk1 := hmk w1
    rw [← hwx] at hmk1
    have hF0 : RowF wx w1.heap.size (n + 1) (cntF (L.take 0)) := by
      rw [hwx]
      exact ⟨n + 1, _, Nat.le_refl _, nmadeI_row w1 (n + 1) 2, fun q hq => by simp [cntF]⟩
    have hbx : Below w.heap.size w wx := by rw [hwx]; exact hb1.alloc hb1.size _
    have hgg : w.heap.size ≤ w1.heap.size := hb1.size
    obtain ⟨g, hg⟩ : ∃ g, w1.heap.size = g := ⟨_, rfl⟩
    rw [hg] at hmk1 hF0 hgg
    clear hmk hwx hb1 hg HP
    go_wp2_with fail
    go_loopw [30] (fun i wr => ∃ j : Nat, j ≤ L.length ∧ i = .int .i64 j ∧ RowF wr g (n + 1) (cntF (L.take j)) ∧ Below w.heap.size w wr) (fun i _ => L.length - (intOf i).toNat)
    case atStart => exact ⟨0, by omega, rfl, hF0, hbx⟩
    case round =>
      clear hF0 hbx hmk1
      obtain ⟨j, hj, rfl, hF, hbel⟩ := hrel
      by_cases hlt : j < L.length
      · have hlt' : (j : Int) < (L.length : Int) := by omega
        obtain ⟨u, c0, s0⟩ := (HT.out.below hbel hbb) j hlt
        have hpm := HALL.out _ (List.getElem_mem hlt)
        have hb := permB_iff.1 hpm
        have HC := Lib.hid (icyc u L[j] wr hb.1 hb.2.1 s0 (fun q hq => perm_at hpm hq))
        have HDL := Lib.hid (degL_cyc hpm)
        have HBD := Lib.hid (fun (q : Nat) (hq : q < 41) => cntF_bound HALL.out hq)
        have HBP := Lib.hid (fun (q : Nat) (hq : q < 41) => permS_bound hpm hq)
        have HSN := Lib.hid (cntF_snoc L j hlt)
        obtain ⟨C, hC⟩ : ∃ C, cyD L[j] L[j].length = C := ⟨_, rfl⟩
        obtain ⟨G, hG⟩ : ∃ G, permS L[j] = G := ⟨_, rfl⟩
        have HGC : Hid (serL C = G) := Lib.hid (by rw [← hG, ← hC]; rfl)
        rw [hC] at HC HDL
        rw [hG] at HBP HSN
        clear s0 hpm hb hC hG
        go_wp2_with fail
        ((with_reducible refine HC.out.mono ?_); rintro e w2 ⟨v2, rfl, ho2, hb2⟩)
        have HS2 := Lib.hid ho2.sl
        clear HC ho2
        go_wp2_with fail
        ((with_reducible refine (iserof _ C (n + 1) _ (by omega) HDL.out HS2.out).mono ?_); rintro e w3 ⟨v3, rfl, hs3, hb3⟩)
        have HS3 := Lib.hid hs3
        clear HS2 hs3
        go_wp2_with fail
        ((with_reducible refine (iupto n _ (serL C) _ (by omega) HS3.out).mono ?_); rintro e w4 ⟨v4, rfl, ho4, hb4⟩)
        rw [HGC.out] at ho4
        obtain ⟨g4, cap4, rfl, hg4, hF4⟩ := ownV_rowF ho4 (by simp)
        have hln4 : ((List.range (n + 1)).map G).length = n + 1 := by simp
        rw [hln4] at hF4 ⊢
        have hF4' := hF4.congr (G := G) (fun q hq => nth_map_range G hq)
        have hb234 := (hb2.trans (hb3.mono hb2.size)).trans (hb4.mono (Nat.le_trans hb2.size hb3.size))
        have hFa := hF.below hb234
        have hbel4 := hbel.trans (hb234.mono hbel.size)
        have hne : g ≠ g4 := by
          have h1 := hF.lt
          have h2 := hb2.size
          have h3 := hb3.size
          omega
        clear hF4 hln4 ho4 hF hbel hb2 hb3 hb4 hb234 HS3 c0 hg4
        go_wp2_with fail
        go_loopw [40] (fun i wr => ∃ q : Nat, q ≤ n + 1 ∧ i = .int .i64 q ∧ RowF wr g (n + 1) (addF (cntF (L.take j)) G q) ∧ RowF wr g4 (n + 1) G ∧ Below w.heap.size w wr) (fun i _ => n + 1 - (intOf i).toNat)
        case atStart => exact ⟨0, by omega, rfl, hFa.congr (fun q _ => by simp [addF]), hF4', hbel4⟩
        case round =>
          clear hFa hF4' hbel4
          obtain ⟨q, hq, rfl, hF, hG4, hbel⟩ := hrel
          by_cases hql : q < n + 1
          · have hql' : (q : Int) < (n : Int) + 1 := by omega
            have c1 := hF.cell hql
            have c2 := hG4.cell hql
            have f1 := hF.frozen q
            rw [addF_at] at c1
            have bx := HBD.out q (by omega) j hj
            have by2 := HBP.out q (by omega)
            obtain ⟨X, hX⟩ : ∃ X, cntF (L.take j) q = X := ⟨_, rfl⟩
            obtain ⟨Y, hY⟩ : ∃ Y, G q = Y := ⟨_, rfl⟩
            rw [hX] at c1 bx
            rw [hY] at c2 by2
            have hwx : wrap64 (X + Y) = X + Y := IntWalk.wrap64_in _ (by omega)
            have hF2 : RowF (wr.setCell ⟨g, q, none⟩ (.int .i64 (X + Y))) g (n + 1) (addF (cntF (L.take j)) G (q + 1)) := hF.set q (X + Y) (fun t _ => by rw [addF_succ, hX, hY])
            have hG2 := hG4.other (a := ⟨g, q, none⟩) (fun e => hne e.symm) (.int .i64 (X + Y))
            have hb2 := hbel.setCell (p := ⟨g, q, none⟩) hgg (.int .i64 (X + Y))
            clear hF hG4 hbel hX hY bx by2
            go_wp2_with fail
            go_roundw
            case rel => exact ⟨q + 1, by omega, by go_num, hF2, hG2, hb2⟩
            case measure => simp [intOf]; omega
          · obtain rfl : q = n + 1 := by omega
            have hFn : RowF wr g (n + 1) (cntF (L.take (j + 1))) := hF.congr (fun t ht => by rw [HSN.out]; unfold addF; rw [if_pos ht])
            clear hF hG4
            go_wp2_with fail
            go_roundw
            case rel => exact ⟨j + 1, by omega, by go_num, hFn, hbel⟩
            case measure => simp [intOf]; omega
      · obtain rfl : j = L.length := by omega
        rw [List.take_length] at hF
        have HBD := Lib.hid (fun (q : Nat) (hq : q < 41) => by have h := cntF_bound HALL.out hq L.length (Nat.le_refl _); rw [List.take_length] at h; exact h)
        have hlp : (0 : Int) < (L.length : Int) := by omega
        have hlp0 : ¬ (L.length : Int) = 0 := by omega
        go_wp2_with fail
        go_loopw [58] (fun i wr => ∃ q : Nat, q ≤ n + 1 ∧ i = .int .i64 q ∧ Hid (∀ t, t < q → cntF L t % (L.length : Int) = 0) ∧ RowF wr g (n + 1) (divF (cntF L) (L.length : Int) q) ∧ Below w.heap.size w wr) (fun i _ => n + 1 - (intOf i).toNat)
        case atStart => exact ⟨0, by omega, rfl, Lib.hid (fun t h => by omega), hF.congr (fun q _ => by simp [divF]), hbel⟩
        case round =>
          clear hF hbel
          obtain ⟨q, hq, rfl, HM, hF, hbel⟩ := hrel
          by_cases hql : q < n + 1
          · have hql' : (q : Int) < (n : Int) + 1 := by omega
            have c1 := hF.cell hql
            have f1 := hF.frozen q
            rw [divF_at] at c1
            have bx := HBD.out q (by omega)
            have HXQ := Lib.hid (show cntF L q = cntF L q from rfl)
            obtain ⟨X, hX⟩ : ∃ X, cntF L q = X := ⟨_, rfl⟩
            rw [hX] at c1 bx
            by_cases hr : X % (L.length : Int) = 0
            · have HN : Hid (∀ t, t < q + 1 → cntF L t % (L.length : Int) = 0) := Lib.hid (fun t ht => by
                by_cases e : t = q
                · subst e; rw [hX]; exact hr
                · exact HM.out t (by omega))
              have hF2 : RowF (wr.setCell ⟨g, q, none⟩ (.int .i64 (X / (L.length : Int)))) g (n + 1) (divF (cntF L) (L.length : Int) (q + 1)) := hF.set q _ (fun t _ => by rw [divF_succ, hX])
              have hb2 := hbel.setCell (p := ⟨g, q, none⟩) hgg (.int .i64 (X / (L.length : Int)))
              have hdq : 0 ≤ X / (L.length : Int) ∧ X / (L.length : Int) ≤ X := ⟨Int.ediv_nonneg (by omega) (by omega), Int.ediv_le_self _ (by omega)⟩
              have htm : X.tmod (L.length : Int) = 0 := by rw [Int.tmod_eq_emod_of_nonneg (by omega)]; exact hr
              have htd : X.tdiv (L.length : Int) = X / (L.length : Int) := Int.tdiv_eq_ediv_of_nonneg (by omega)
              clear hF hbel hX hr
              go_wp2_with fail
              go_roundw
              case rel => exact ⟨q + 1, by omega, by go_num, HN, hF2, hb2⟩
              case measure => simp [intOf]; omega
            · have HX : Hid (rCnt L (n : Int) = ([], 5)) := Lib.hid (by
                unfold rCnt
                rw [if_pos, if_neg]
                · intro h
                  rw [List.all_eq_true] at h
                  have h2 := h q (List.mem_range.2 (by simpa using hql))
                  rw [hX] at h2
                  exact hr (by simpa using h2)
                · simp [H1.out]; omega)
              have htm : X.tmod (L.length : Int) = X % (L.length : Int) := Int.tmod_eq_emod_of_nonneg (by omega)
              clear hF hX
              go_wp2_with fail
              go_ret2
              rw [HX.out]
              exact ⟨_, rfl, OwnV.none _ _, hbel⟩
          · obtain rfl : q = n + 1 := by omega
            have HX : Hid (rCnt L (n : Int) = ((List.range (n + 1)).map (fun q => cntF L q / (L.length : Int)), 0)) := Lib.hid (by
              unfold rCnt
              rw [if_pos, if_pos]
              · simp
              · rw [List.all_eq_true]
                intro x hx
                simp at hx ⊢
                exact HM.out x (by omega)
              · simp [H1.out]; omega)
            have hFn : RowF wr g (n + 1) (fun q => cntF L q / (L.length : Int)) := hF.congr (fun t ht => by unfold divF; rw [if_pos ht])
            clear hF
            go_wp2_with fail
            go_ret2
            rw [HX.out]
            exact ⟨_, rfl, hFn.toV hgg rfl, hbel⟩
  · have HX : Hid (rCnt L k = ([], 2)) := Lib.hid (by
      unfold rCnt
      rw [if_neg]
      simp
      omega)
    have H1 := Lib.hid h1
    clear h1 hlr hS hc
    by_cases h3 : k < 0
    · go_enter Try.func14, Try.ntmps14
      go_wp2_with fail
      ((with_reducible refine HP.out.mono ?_); rintro e w1 ⟨rfl, hb1⟩)
      rw [H1.out]
      go_wp2_with fail
      go_ret2
      rw [HX.out]
      exact ⟨_, rfl, OwnV.none _ _, hb1⟩
    · have h4 : (12 : Int) < k := by omega
      go_enter Try.func14, Try.ntmps14
      go_wp2_with fail
      ((with_reducible refine HP.out.mono ?_); rintro e w1 ⟨rfl, hb1⟩)
      rw [H1.out]
      go_wp2_with fail
      go_ret2
      rw [HX.out]
      exact ⟨_, rfl, OwnV.none _ _, hb1⟩
end Go.Proofs.Ytgbnlnpffhlipaa
