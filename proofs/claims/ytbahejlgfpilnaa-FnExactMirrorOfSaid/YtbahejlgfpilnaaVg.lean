/-
  WALKS: 'impl.ReduceRows'. Conditions: as the theorem states.
-/
import Derived.Test.YtbahejlgfpilnaaVf
import Derived.Test.YtbahejlgfpilnaaWt
import Derived.Test.YtbahejlgfpilnaaVda
namespace Go.Proofs.Ytbahejlgfpilnaa
open Go.RowKit Go.Sort EchM

theorem cp_first {G' F : Nat → Int} {k n : Nat} (hn : n ≤ 100) : rowF n (cpG 0 (k * 100) G' F) = rowF n (tG G' k) := ext_nth (by simp [len_rowF]) fun j hj => by
  rw [len_rowF] at hj
  rw [nth_rowF _ hj, nth_rowF _ hj]
  unfold cpG tG
  rw [if_pos (by omega), Nat.sub_zero]

set_option maxRecDepth 8000 in
set_option maxHeartbeats 16000000 in
theorem irrC (p n : Int) (v : Value) (L : List (List Int)) (w : World) (hl : L.length ≤ 1048576) (hlr : ∀ r ∈ L, r.length ≤ 1048576) (hS : SlR w v L) :
    Calls Try.prog 70 #[.int .i64 p, .int .i64 n, v] w fun e w' => ∃ v' O, e = .returned (.tuple #[v', .int .i64 (rrC p n L)]) ∧ RowsM w' w.heap.size v' O ∧ CapM O ∧ O.map (·.2.1) = rrS p n L ∧ Below w.heap.size w w' := by
  obtain ⟨a, cap, rfl, hc⟩ := id hS
  cases hp : pB p
  · have HX := Lib.hid (rr_no (p := p) (n := n) (L := L) (by simp [rrB, hp]))
    have HP := Lib.hid (fun W => iprime_b p false hp W)
    clear hp
    go_enter Try.func70, Try.ntmps70
    go_wp2_with fail
    ((with_reducible refine (HP.out _).mono ?_); rintro e w1 ⟨rfl, rfl⟩)
    go_wp2_with fail
    go_ret2
    rw [HX.out.1, HX.out.2]
    exact ⟨_, [], rfl, RowsM.nil _ _, fun e he => by simp at he, rfl, Below.refl _ _⟩
  have HP := Lib.hid (fun W => iprime_b p true hp W)
  have hp2 := pB_le hp
  have hps := Lib.hid (pB_set hp)
  by_cases hn0 : n < 0
  · have HX := Lib.hid (rr_no (p := p) (n := n) (L := L) (by simp [rrB]; intros; omega))
    clear hp
    go_enter Try.func70, Try.ntmps70
    go_wp2_with fail
    ((with_reducible refine (HP.out _).mono ?_); rintro e w1 ⟨rfl, rfl⟩)
    go_wp2_with fail
    go_ret2
    rw [HX.out.1, HX.out.2]
    exact ⟨_, [], rfl, RowsM.nil _ _, fun e he => by simp at he, rfl, Below.refl _ _⟩
  by_cases hn1 : 100 < n
  · have HX := Lib.hid (rr_no (p := p) (n := n) (L := L) (by simp [rrB]; intros; omega))
    clear hp
    go_enter Try.func70, Try.ntmps70
    go_wp2_with fail
    ((with_reducible refine (HP.out _).mono ?_); rintro e w1 ⟨rfl, rfl⟩)
    go_wp2_with fail
    go_ret2
    rw [HX.out.1, HX.out.2]
    exact ⟨_, [], rfl, RowsM.nil _ _, fun e he => by simp at he, rfl, Below.refl _ _⟩
  obtain ⟨m, rfl⟩ := Int.eq_ofNat_of_zero_le (show 0 ≤ n by omega)
  by_cases hL : 100 < L.length
  · have hL' : (100 : Int) < (L.length : Int) := by omega
    have HX := Lib.hid (rr_no (p := p) (n := m) (L := L) (by simp [rrB]; intros; omega))
    clear hp hL
    go_enter Try.func70, Try.ntmps70
    go_wp2_with fail
    ((with_reducible refine (HP.out _).mono ?_); rintro e w1 ⟨rfl, rfl⟩)
    go_wp2_with fail
    go_ret2
    rw [HX.out.1, HX.out.2]
    exact ⟨_, [], rfl, RowsM.nil _ _, fun e he => by simp at he, rfl, Below.refl _ _⟩
  have hL1 : L.length ≤ 100 := by omega
  have hL2 : ¬ ((100 : Int) < (L.length : Int)) := by omega
  have hm1 : m ≤ 100 := by omega
  have HB := Lib.hid (show rrB p m L = L.all (nptB p m) by simp [rrB, hp, hL1]; intros; omega)
  have HLR := Lib.hid hlr
  clear hp hL
  go_enter Try.func70, Try.ntmps70
  go_wp2_with fail
  ((with_reducible refine (HP.out _).mono ?_); rintro e w1 ⟨rfl, rfl⟩)
  go_wp2_with fail
  go_loopw [34] (fun i wq => ∃ k : Nat, k ≤ L.length ∧ i = .int .i64 k ∧ Below w1.heap.size w1 wq ∧ Hid (∀ (j : Nat) (hj : j < L.length), j < k → nptB p m L[j] = true)) (fun i _ => L.length - (intOf i).toNat)
  case atStart => exact ⟨0, by omega, rfl, Below.refl _ _, Lib.hid (fun j _ h => by omega)⟩
  case round =>
    obtain ⟨k, hk, rfl, hbel, HU⟩ := hrel
    by_cases hlt : k < L.length
    · have hlt' : (k : Int) < (L.length : Int) := by omega
      obtain ⟨b, off, rfl, hbb, hT⟩ : ∃ b off, a = some ⟨b, off, none⟩ ∧ b < w1.heap.size ∧ RowsW w1 b off L := by
        rcases hc with rfl | h
        · simp at hlt
        · exact h
      obtain ⟨u, c0, s0⟩ := (hT.below hbel hbb) k hlt
      have HC := Lib.hid (nareNumbers_all p m u L[k] wr (by omega) (HLR.out _ (List.getElem_mem hlt)) s0)
      clear hT hS hlr
      cases hB : nptB p m L[k]
      · have HX := Lib.hid (rr_no (p := p) (n := m) (L := L) (by
          rw [HB.out, List.all_eq_false]
          exact ⟨_, List.getElem_mem hlt, by simp [hB]⟩))
        rw [hB] at HC
        clear hB
        go_wp2_with fail
        ((with_reducible refine HC.out.mono ?_); rintro e w3 ⟨rfl, hb3⟩)
        have hend := hbel.trans (hb3.mono hbel.size)
        go_wp2_with fail
        go_ret2
        rw [HX.out.1, HX.out.2]
        exact ⟨_, [], rfl, RowsM.nil _ _, fun e he => by simp at he, rfl, hend⟩
      · have HN2 : Hid (∀ (j : Nat) (hj : j < L.length), j < k + 1 → nptB p m L[j] = true) := Lib.hid (fun j hj hjk => by
          by_cases e : j = k
          · subst e; exact hB
          · exact HU.out j hj (by omega))
        rw [hB] at HC
        clear hB
        go_wp2_with fail
        ((with_reducible refine HC.out.mono ?_); rintro e w3 ⟨rfl, hb3⟩)
        have hend := hbel.trans (hb3.mono hbel.size)
        go_wp2_with fail
        go_roundw
        case rel => exact ⟨k + 1, by omega, by go_num, hend, HN2⟩
        case measure => simp [intOf]; omega
    · obtain rfl : k = L.length := by omega
      have HA := Lib.hid (rows_upto (nptB p m) L HU.out)
      have HX := Lib.hid (rr_yes (p := p) (n := m) (L := L) (by rw [HB.out, HA.out]))
      have HI : Hid (∀ l ∈ L, InP p m l) := Lib.hid (fun l hl' => rr_inP (List.all_eq_true.1 HA.out l hl'))
      have hmk := fun W => make_wide L.length (by omega) W
      obtain ⟨W1, hW1, rW, hbW⟩ : ∃ W1, W1 = wr.alloc (.cells (madeW L.length) 160) ∧ W1.rowIs wr.heap.size 160 (L.length * 100) (gV fun _ => 0) ∧ Below wr.heap.size wr W1 := ⟨_, rfl, madeW_row _ _ _, ebox1 _ _⟩
      have hbel1 := hbel.trans (hbW.mono hbel.size)
      have htw := hbel.size
      have HT0 : Hid (∀ i j, j < 100 → tG (fun _ => 0) i j = tabOf L 0 i j) := Lib.hid (fun i j _ => by unfold tG tabOf; rw [if_neg (by omega)])
      have hLl : ∀ l ∈ L, l.length = m := fun l hl' => (HI.out l hl').1
      have HLL := Lib.hid hLl
      clear hbW hbel HU HB HP hlr hl hk hn0 hn1 hlt hLl
      go_upto_region 10 with fail
      rw [← hW1]
      obtain ⟨tb, htb⟩ : ∃ tb, wr.heap.size = tb := ⟨_, rfl⟩
      rw [htb] at rW htw ⊢
      clear hW1 htb hmk
      go_wp2_with fail
      go_loopw [49] (fun i wq => ∃ (k : Nat) (Gk : Nat → Int), k ≤ L.length ∧ i = .int .i64 k ∧ Below w1.heap.size w1 wq ∧ wq.rowIs tb 160 (L.length * 100) (gV Gk) ∧ Hid (∀ i j, j < 100 → tG Gk i j = tabOf L k i j)) (fun i _ => L.length - (intOf i).toNat)
      case atStart => exact ⟨0, _, by omega, rfl, hbel1, rW, HT0⟩
      case round =>
        clear rW hbel1
        obtain ⟨k, Gk, hk, rfl, hbq, hRk, HTk⟩ := hrel
        by_cases hlt : k < L.length
        · have hlt' : (k : Int) < (L.length : Int) := by omega
          obtain ⟨b, off, rfl, hbb, hT⟩ : ∃ b off, a = some ⟨b, off, none⟩ ∧ b < w1.heap.size ∧ RowsW w1 b off L := by
            rcases hc with rfl | h
            · simp at hlt
            · exact h
          obtain ⟨u, c0, s0⟩ := (hT.below hbq hbb) k hlt
          have HC := Lib.hid (iwiden u L[k] wr (by rw [HLL.out _ (List.getElem_mem hlt)]; omega) s0)
          have HTn : Hid (∀ i j, j < 100 → tG (cpG (k * 100) 0 (padF L[k]) Gk) i j = tabOf L (k + 1) i j) := Lib.hid (tab_put L k hlt Gk HTk.out)
          obtain ⟨Gn, hGn⟩ : ∃ Gn, cpG (k * 100) 0 (padF L[k]) Gk = Gn := ⟨_, rfl⟩
          have HGn := Lib.hid hGn
          rw [hGn] at HTn
          obtain ⟨F, hF⟩ : ∃ F, padF L[k] = F := ⟨_, rfl⟩
          rw [hF] at HC HGn
          clear hT hS hGn hF HTk
          go_wp2_with fail
          ((with_reducible refine HC.out.mono ?_); rintro e w3 ⟨rfl, hb3⟩)
          have hR3 := erow_below hRk hb3 hRk.lt
          have hbq3 := hbq.trans (hb3.mono hbq.size)
          have hR4 := cp_row (o := k * 100) (o2 := 0) (G2 := F) hR3
          rw [HGn.out] at hR4
          have HT3 : Hid (w3.there tb (k * 100) (rowV F 0).length) := Lib.hid (by rw [rowV_len]; exact tab_there hR3 (by omega))
          obtain ⟨W4, hW4⟩ : ∃ W4, w3.setCells tb (k * 100) (rowV F 0) = W4 := ⟨_, rfl⟩
          have hb4 : Below w1.heap.size w1 W4 := by rw [← hW4]; exact Go.Lib.below_setCells tb htw _ _ hbq3
          rw [hW4] at hR4
          have HW4 := Lib.hid hW4
          clear hW4 hR3 hb3 hbq3 hbq hRk HGn HC
          go_wp2_with (refine list_store_row tb (k * 100) (rowV F 0) (by kernel_rfl) (by kernel_rfl) HT3.out (wide_size _ _) (rowV_one _ _) HW4.out ?_)
          go_roundw
          case rel => exact ⟨k + 1, Gn, by omega, by go_num, hb4, hR4, HTn⟩
          case measure => simp [intOf]; omega
        · obtain rfl : k = L.length := by omega
          have HEL := Lib.hid (ielim p m L.length tb (L.length * 100) L.length Gk wr hps.out hm1 hL1 (Nat.le_refl _) (Nat.le_refl _) hRk (tab_num hm1 HI.out Gk HTk.out))
          have HRW := Lib.hid (tab_rows hm1 HLL.out Gk HTk.out)
          clear hRk HTk hc hS hlt hk
          go_wp2_with fail
          ((with_reducible refine HEL.out.mono ?_); rintro e w5 ⟨R, G5, rfl, hRN, hR5, hech, hg5⟩)
          rw [HRW.out] at hech
          have HECH := Lib.hid hech
          have hb5 := hbq.grown hg5 hbq.size (fun q hq => by simp at hq; omega)
          clear HEL hech hg5 hbq
          have hR100 : R ≤ 100 := by omega
          go_wp2_with fail
          go_loopw [13, 65] (fun r i wq => ∃ (k : Nat) (O : List Row3), k ≤ R ∧ i = .int .i64 k ∧ RowsM wq w1.heap.size r O ∧ Hid (O.map (·.2.1) = (List.range k).map (fun i => rowF m (tG G5 i)) ∧ CapM O) ∧ wq.rowIs tb 160 (L.length * 100) (gV G5) ∧ Below w1.heap.size w1 wq) (fun _ i _ => R - (intOf i).toNat)
          case atStart => exact ⟨0, [], by omega, rfl, RowsM.nil _ _, Lib.hid ⟨rfl, fun e he => by simp at he⟩, hR5, hb5⟩
          case round =>
            clear hR5 hb5
            obtain ⟨k, O, hk, rfl, hM, HO, hRk, hbk⟩ := hrel
            by_cases hlt : k < R
            · have hlt' : (k : Int) < (R : Int) := by omega
              have hOl : Hid (O.length = k) := Lib.hid (by have := congrArg List.length HO.out.1; simpa using this)
              obtain ⟨ra, rc, rfl⟩ := hM.shape
              have hm0 : 0 < m := by
                obtain ⟨e1, _⟩ := echL_spec hps.out L HI.out
                have hmem : rowF m (tG G5 k) ∈ echL p L := by
                  rw [← HECH.out]
                  exact List.mem_map.2 ⟨k, List.mem_range.2 hlt, rfl⟩
                have := e1.lt _ hmem
                omega
              have HL1 := Lib.hid (tab_range (o := k * 100) hRk (by omega))
              obtain ⟨W5, hW5, r5, hb5⟩ : ∃ W5, W5 = wr.alloc (.cells Try.zeroCells160 160) ∧ W5.rowIs wr.heap.size 160 100 (gV fun _ => 0) ∧ Below wr.heap.size wr W5 := ⟨_, rfl, by rw [zero_wide]; exact wide_box wr (fun _ => 0) 0, ebox1 _ _⟩
              have HT5 : Hid (W5.there wr.heap.size 0 (rowV G5 (k * 100)).length) := Lib.hid (by rw [rowV_len]; exact tab_there r5 (by omega))
              have r6 := cp_row (o := 0) (o2 := k * 100) (G2 := G5) r5
              have hb6 := Go.Lib.below_setCells wr.heap.size (Nat.le_refl _) (rowV G5 (k * 100)) 0 hb5
              obtain ⟨W6, hW6⟩ : ∃ W6, W5.setCells wr.heap.size 0 (rowV G5 (k * 100)) = W6 := ⟨_, rfl⟩
              rw [hW6] at r6 hb6
              have HW6 := Lib.hid hW6
              have hsl := row_sl r6 hm1 100
              rw [cp_first hm1] at hsl
              have HCL := Lib.hid (gclone (.slice (some ⟨wr.heap.size, 0, none⟩) m 100) (rowF m (tG G5 k)) W6 (by rw [len_rowF]; exact hm0) (by rw [len_rowF]; omega) hsl)
              have hm1i : (m : Int) ≤ 100 := by omega
              clear hW6 hsl r6 r5 hb5
              subst hW5
              go_upto_region 19 with (first
                | (refine list_load_row tb (k * 100) (rowV G5 (k * 100)) _ (by kernel_rfl) HL1.out Try.underlying160 rfl (wide_size _ _) ?_)
                | (refine list_store_row wr.heap.size 0 (rowV G5 (k * 100)) (by kernel_rfl) (by kernel_rfl) HT5.out (wide_size _ _) (rowV_one _ _) HW6.out ?_))
              go_wp2_with fail
              ((with_reducible refine HCL.out.mono ?_); rintro e w7 ⟨v7, rfl, ho7, hb7⟩)
              obtain ⟨g7, c7, hv7, hc7, _, hr7⟩ := ho7.rowM (by rw [len_rowF]; exact hm0)
              rw [len_rowF] at hv7 hc7
              subst hv7
              have HC7 := Lib.hid hc7
              clear hc7
              have hb67 := hb6.trans (hb7.mono hb6.size)
              have hb17 := hbk.trans (hb67.mono hbk.size)
              have hM7 := hM.below hb67
              have hRk7 := erow_below hRk hb67 hRk.lt
              have hs6 := hb6.size
              have hs1 := hbk.size
              have hfresh : g7 ∉ O.map (·.2.2) := fun hm' => by
                obtain ⟨e, he, h2⟩ := List.mem_map.1 hm'
                have h3 := (hM.rows e he).lt
                obtain ⟨_, _, _, _, h4, _⟩ := hr7
                have h5 : W6.heap.size ≤ g7 := h4
                omega
              have HFR := Lib.hid hfresh
              have HOL := Lib.hid (show O.length ≤ 100 by rw [hOl.out]; omega)
              obtain ⟨i0, hi, hz0, hz1, hz2⟩ := info_parts einfoR
              have hM8 := hM7.below (ebox1 w7 (.cells #[.slice (some ⟨g7, 0, none⟩) m c7] 52))
              have hr8 := (hr7.mono (Nat.le_trans hs1 hs6)).below (ebox1 w7 (.cells #[.slice (some ⟨g7, 0, none⟩) m c7] 52))
              have hRk8 := erow_below hRk7 (ebox1 w7 (.cells #[.slice (some ⟨g7, 0, none⟩) m c7] 52)) hRk7.lt
              have hb18 := hb17.trans ((ebox1 w7 (.cells #[.slice (some ⟨g7, 0, none⟩) m c7] 52)).mono hb17.size)
              have hww : w1.heap.size ≤ (w7.alloc (.cells #[.slice (some ⟨g7, 0, none⟩) m c7] 52)).heap.size := hb18.size
              have HNE := Lib.hid (hM8.ne_row hRk8 (by decide))
              clear hfresh hRk hM hM7 hbk hb6 hb7 hb67 ho7 hRk7 hr7 hb17
              go_wp2_with (at_builtin; refine wpList_append_lies _ rfl _ _ 24 rfl w1.heap.size 52 i0 _ 1 24 Try.underlying24 hi hz0 hz1 hz2 rfl (by decide) (.slice ra O.length rc) O.length (O.map (·.1)) rfl hM8.owns ⟨w7.heap.size, 0, none⟩ 1 1 [.slice (some ⟨g7, 0, none⟩) m c7] rfl rfl (World.news_of_block (cs := #[.slice (some ⟨g7, 0, none⟩) m c7]) (t := 52) (fr := (0, 0)) (heap_alloc_new w7 _)) (by simp [Value.oneCell']) (by omega) (by have := HOL.out; unfold maxLen; omega) (by have := HOL.out; omega) hww _ rfl ?_)
              intro g9 cap9 w9 hown9 hgrow9 hat9 hlt9
              have hM9 := hM8.push hr8 HFR.out hown9 hgrow9
              have hRk9 := hRk8.of_block (hgrow9.block _ hRk8.lt HNE.out)
              have hb9 : Below w1.heap.size w1 w9 := hb18.grown hgrow9 hww (fun q hq => by
                rcases owns_at hM8.owns with ⟨h, _⟩ | ⟨g, c, N, f, h, hgb, _⟩
                · rw [h] at hq
                  simp [Value.ownBlock] at hq
                · rw [h] at hq
                  simp [Value.ownBlock] at hq
                  omega)
              have HO9 : Hid ((O ++ [(Value.slice (some ⟨g7, 0, none⟩) m c7, rowF m (tG G5 k), g7)]).map (·.2.1) = (List.range (k + 1)).map (fun i => rowF m (tG G5 i)) ∧ CapM (O ++ [(Value.slice (some ⟨g7, 0, none⟩) m c7, rowF m (tG G5 k), g7)])) := Lib.hid ⟨by
                rw [List.map_append, HO.out.1, List.range_succ, List.map_append]; rfl, fun e he => by
                rcases List.mem_append.1 he with h | h
                · exact HO.out.2 e h
                · obtain rfl := List.mem_singleton.1 h
                  exact ⟨c7, by simp only [len_rowF], by show (rowF m (tG G5 k)).length ≤ c7; rw [len_rowF]; exact HC7.out⟩⟩
              clear hown9 hgrow9 hat9 hlt9 hM8 hr8 hRk8 hb18 hww HNE HFR hi hz0 hz1 hz2
              go_wp2_with fail
              go_roundw
              case rel => exact ⟨k + 1, O ++ [(Value.slice (some ⟨g7, 0, none⟩) m c7, rowF m (tG G5 k), g7)], by omega, by go_num, by simpa using hM9, HO9, hRk9, hb9⟩
              case measure => simp [intOf]; omega
            · obtain rfl : k = R := by omega
              have HE : Hid (O.map (·.2.1) = rrS p m L) := Lib.hid (by rw [HO.out.1, HECH.out, HX.out.1])
              obtain ⟨a9, c9, rfl⟩ := hM.shape
              go_wp2_with fail
              go_ret2
              rw [HX.out.2]
              exact ⟨_, O, rfl, hM, HO.out.2, HE.out, hbk⟩
theorem irr (p n : Int) (v : Value) (L : List (List Int)) (w : World) (hl : L.length ≤ 1048576) (hlr : ∀ r ∈ L, r.length ≤ 1048576) (hS : SlR w v L) :
    Calls Try.prog 70 #[.int .i64 p, .int .i64 n, v] w fun e w' => ∃ v', e = .returned (.tuple #[v', .int .i64 (rrC p n L)]) ∧ OwnRR w' w.heap.size v' (rrS p n L) ∧ Below w.heap.size w w' :=
  (irrC p n v L w hl hlr hS).mono fun _ _ ⟨v', _, h1, h2, _, h3, h4⟩ => ⟨v', h1, by rw [← h3]; exact h2.rr, h4⟩
end Go.Proofs.Ytbahejlgfpilnaa
