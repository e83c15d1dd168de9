/-
  MIRRORS: 'impl.MirrorOf'. Conditions: as the theorem states.
-/
import Derived.Test.YtbahejlgfpilnaaMrf
import Derived.Test.YtbahejlgfpilnaaVha
namespace Go.Proofs.Ytbahejlgfpilnaa
open Go.RowKit Go.Sort EchM

theorem rowF_two (n : Nat) (f : Nat → Int) : rowF (n + n) f = rowF n f ++ rowF n fun j => f (n + j) := by
  refine ext_nth (by simp [rowF]) fun j hj => ?_
  rw [len_rowF] at hj
  rw [nth_rowF _ hj]
  by_cases h : j < n
  · rw [nth_lt (by simp [rowF]; omega), List.getElem_append_left (by rw [len_rowF]; exact h)]
    simp [rowF]
  · rw [nth_lt (by simp [rowF]; omega), List.getElem_append_right (by rw [len_rowF]; omega)]
    simp [rowF, show n + (j - n) = j by omega]
/-- The table of the changes with the unit behind them. -/
def augF (p : Int) (n : Nat) (g : Nat → Nat → Int) (i j : Nat) : Int := if j < n then chgF p g i j else if j = n + i then 1 else 0
theorem aug_row (p : Int) (n : Nat) (g : Nat → Nat → Int) {F : Nat → Nat → Int} (h : ∀ a b, a < n → b < n + n → F a b = augF p n g a b) : ((List.range n).map fun i => rowF (n + n) (F i)) = augL (chgL p n g) := by
  unfold augL
  rw [chgL_len]
  refine List.map_congr_left fun i hi => ?_
  rw [List.mem_range] at hi
  rw [rowF_two, augR, chgL_len]
  have e : (chgL p n g).getD i [] = chgR p n g i := by simp [chgL, hi]
  rw [e]
  unfold chgR unitR
  congr 1
  · exact rowF_congr fun j hj => by rw [h i j hi (by omega), augF, if_pos hj]
  · exact rowF_congr fun j hj => by
      rw [h i (n + j) hi (by omega), augF, if_neg (by omega)]
      by_cases e : j = i
      · subst e; rw [if_pos rfl, if_pos rfl]
      · rw [if_neg (by omega), if_neg e]

set_option maxRecDepth 8000 in
set_option maxHeartbeats 16000000 in
theorem imir (p n : Int) (g : Nat → Nat → Int) (w : World) (hg : Byt g) :
    Calls Try.prog 25 #[.int .i64 p, .int .i64 n, mv g] w fun e w' => ∃ v', e = .returned (.tuple #[v', .int .i64 (mirC p n g)]) ∧ OwnRR w' w.heap.size v' (mirS p n g) ∧ Below w.heap.size w w' := by
  obtain ⟨W, hW, rW, hbW⟩ : ∃ W, W = w.alloc (.cells #[.int .u8 (g 0 0), .int .u8 (g 0 1), .int .u8 (g 0 2), .int .u8 (g 1 0), .int .u8 (g 1 1), .int .u8 (g 1 2), .int .u8 (g 2 0), .int .u8 (g 2 1), .int .u8 (g 2 2)] 37) ∧ W.rowIs w.heap.size 37 9 (mF g) ∧ Below w.heap.size w W := ⟨_, rfl, mbox w g _, ebox1 _ _⟩
  unfold mv
  cases h : isMat p n g
  · have HX := Lib.hid (mir_no h)
    have HS := Lib.hid (ismat_is p n g W hg false h)
    clear h hg
    go_enter Try.func25, Try.ntmps25
    go_wp2_with fail
    rw [← hW]
    clear hW
    ((with_reducible refine HS.out.mono ?_); rintro e w1 ⟨rfl, hb1⟩)
    have hend := hbW.trans (hb1.mono hbW.size)
    clear HS
    go_wp2_with fail
    go_ret2
    rw [HX.out.1, HX.out.2]
    exact ⟨_, rfl, OwnRR.none _ _, hend⟩
  obtain ⟨m, rfl, hM⟩ := matV_of hg h
  obtain ⟨i0, hi, hz0, hz1, hz2⟩ := info_parts einfoR
  have HX := Lib.hid (mir_yes h)
  have HS := Lib.hid (ismat_is p m g W hg true h)
  have HM := Lib.hid hM
  obtain ⟨M, hMM⟩ : ∃ M, m + m = M := ⟨_, rfl⟩
  have hm3 := hM.m3
  have hm1 := hM.m1
  have hw2 : IntKind.i64.wrap (2 * (m : Int)) = (M : Int) := by rw [show 2 * (m : Int) = (M : Int) by omega]; exact IntWalk.i64_in _ (by omega)
  have HT := Lib.hid (fun w => itab m M w (by omega) (by omega) (by omega))
  have HC := Lib.hid (fun w => ichg p m g w hM.h2 hM.h13 hM.m1 hM.m3 hM.bound)
  unfold mv at HC
  have HAI := Lib.hid (aug_inP hM)
  have hrb : rrB p (M : Int) (augL (chgL p m g)) = true := by
    unfold rrB
    rw [augL_len, chgL_len]
    have h1 : (augL (chgL p m g)).all (nptB p M) = true := List.all_eq_true.2 fun r hr => by
      obtain ⟨a1, a2⟩ := HAI.out r hr
      rw [hMM] at a1
      simp only [nptB, Bool.and_eq_true, decide_eq_true_eq, List.all_eq_true]
      exact ⟨by omega, fun x hx => by simpa [nnumB] using a2 x hx⟩
    have h2 : pB p = true := by
      unfold isMat at h
      simp only [Bool.and_eq_true] at h
      exact h.1
    rw [h1, h2]
    simp
    omega
  have HRR := Lib.hid (rr_yes hrb)
  have HIR := Lib.hid (fun v w (k : SlR w v (augL (chgL p m g))) => irrC p (M : Int) v (augL (chgL p m g)) w (by rw [augL_len, chgL_len]; omega) (fun r hr => by rw [(HAI.out r hr).1]; omega) k)
  have HEE := Lib.hid (echL_spec hM.prime _ (aug_inP hM)).1
  have HEL := Lib.hid (show (echL p (augL (chgL p m g))).length ≤ m by have := ech_len p (augL (chgL p m g)); rw [augL_len, chgL_len] at this; exact this)
  have HMM := Lib.hid hMM
  have hM6 : M ≤ 6 := by omega
  clear h hg hM hrb
  go_enter Try.func25, Try.ntmps25
  go_wp2_with fail
  rw [← hW]
  clear hW
  ((with_reducible refine HS.out.mono ?_); rintro e w1 ⟨rfl, hb1⟩)
  have hbw1 := hbW.trans (hb1.mono hbW.size)
  have rW1 := erow_below rW hb1 rW.lt
  clear HS rW hb1 hbW
  go_wp2_with fail
  ((with_reducible refine (HT.out _).mono ?_); rintro e w2 ⟨hb, tb, rfl, ht1, ht2, hT, hb2⟩)
  have hbw2 := hbw1.trans (hb2.mono hbw1.size)
  obtain ⟨⟨c0, c1, c2⟩, ⟨c3, c4, c5⟩, c6, c7, c8⟩ := mcells (erow_below rW1 hb2 rW1.lt)
  have hs1 := hbw1.size
  clear HT rW1
  go_wp2_with fail
  ((with_reducible refine (HC.out _).mono ?_); rintro e w3 ⟨hb', tb', F', rfl, hu1, hu2, hT', hF', hb3⟩)
  have hT3 := hT.later hb3
  have hbw3 := hbw2.trans (hb3.mono hbw2.size)
  have hl1 := hT.tab.lt
  have hl2 := hT.hdr.lt
  have HF' := Lib.hid hF'
  clear c0 c1 c2 c3 c4 c5 c6 c7 c8 HC hT hb3 hF'
  go_wp2_with fail
  go_loopw [31] (fun i wr => ∃ (k : Nat) (F : Nat → Nat → Int), k ≤ m ∧ i = .int .i64 k ∧ TabW wr tb hb m M F ∧ Hid (∀ a b, a < m → b < M → F a b = if a < k then augF p m g a b else 0) ∧ TabW wr tb' hb' m m F' ∧ Below w.heap.size w wr) (fun i _ => m - (intOf i).toNat)
  case atStart => exact ⟨0, _, by omega, rfl, hT3, Lib.hid (fun a b _ _ => by rw [if_neg (by omega)]), hT', hbw3⟩
  case round =>
    clear hT3 hT' hbw3
    obtain ⟨k, F, hk, rfl, hT, HF, hT', hbr⟩ := hrel
    by_cases hlt : k < m
    · have hlt' : (k : Int) < (m : Int) := by omega
      have c0 := hT'.head hlt
      have d0 := hT.head hlt
      have s0 := hT'.row hlt
      obtain ⟨o', ho'⟩ : ∃ o', k * m = o' := ⟨_, rfl⟩
      obtain ⟨o, ho⟩ : ∃ o, k * M = o := ⟨_, rfl⟩
      rw [ho'] at c0 s0
      rw [ho] at d0
      have hoM : o + M ≤ m * M := by
        have h1 : (k + 1) * M ≤ m * M := Nat.mul_le_mul_right M hlt
        rw [Nat.add_mul, Nat.one_mul, ho] at h1
        exact h1
      have hcp := fun ty => copy_part wr tb o M (m * M) (rowF m (F' k)) _ _ hT.tab (by rw [len_rowF]; omega) hoM s0 ty
      have hT2 := hT.put (i := k) (rowF m (F' k)) (by rw [len_rowF]; omega) (by omega)
      rw [ho] at hT2
      have hT2' : TabW (wr.setCells tb o (valsI (rowF m (F' k)))) tb' hb' m m F' := ⟨hT'.tab.of_block (World.heap_setCells_other wr tb o _ hT'.tab.lt (by omega)), hT'.hdr.of_block (World.heap_setCells_other wr tb o _ hT'.hdr.lt (by omega))⟩
      have hb5 := Go.Lib.below_setCells tb (show w.heap.size ≤ tb by omega) (valsI (rowF m (F' k))) o hbr
      obtain ⟨V, hV⟩ : ∃ V, wr.setCells tb o (valsI (rowF m (F' k))) = V := ⟨_, rfl⟩
      rw [hV] at hT2 hT2' hb5
      rw [hV, len_rowF] at hcp
      have e0 := hT2.head hlt
      rw [ho] at e0
      have k0 := hT2.cell (i := k) (j := m + k) hlt (by omega)
      rw [ho] at k0
      obtain ⟨x0, hx0⟩ : ∃ x0, putF F k (rowF m (F' k)) k (m + k) = x0 := ⟨_, rfl⟩
      rw [hx0] at k0
      have z0 := hT2.tab.frozen (o + (m + k))
      have hT6 := hT2.set (i := k) (j := m + k) (by omega) 1
      rw [ho] at hT6
      have hT6' : TabW (V.setCell ⟨tb, o + (m + k), none⟩ (.int .i64 1)) tb' hb' m m F' := ⟨hT2'.tab.of_block (Below.heap_setCell V ⟨tb, o + (m + k), none⟩ _ tb' (fun e => by have e' : tb' = tb := e; omega)), hT2'.hdr.of_block (Below.heap_setCell V ⟨tb, o + (m + k), none⟩ _ hb' (fun e => by have e' : hb' = tb := e; omega))⟩
      have hb6 := hb5.setCell (p := ⟨tb, o + (m + k), none⟩) (by show w.heap.size ≤ tb; omega) (.int .i64 1)
      have HF6 : Hid (∀ a b, a < m → b < M → updF (putF F k (rowF m (F' k))) k (m + k) 1 a b = if a < k + 1 then augF p m g a b else 0) := Lib.hid (fun a b ha hb' => by
        unfold updF putF
        rw [len_rowF]
        by_cases e : a = k
        · by_cases h1 : b < m
          · rw [if_neg (fun h => by omega), if_pos ⟨e, h1⟩, if_pos (by omega), augF, if_pos h1, ← HF'.out a b ha h1, e]
            simp [rowF, h1]
          · by_cases h2 : b = m + k
            · rw [if_pos ⟨e, h2⟩, if_pos (by omega), augF, if_neg h1, if_pos (by omega)]
            · rw [if_neg (fun h => h2 h.2), if_neg (fun h => h1 h.2), HF.out a b ha hb', if_neg (by omega), if_pos (by omega), augF, if_neg h1, if_neg (by omega)]
        · rw [if_neg (fun h => e h.1), if_neg (fun h => e h.1), HF.out a b ha hb']
          by_cases h3 : a < k
          · rw [if_pos h3, if_pos (by omega)]
          · rw [if_neg h3, if_neg (by omega)])
      have hmk : IntKind.i64.wrap ((m : Int) + (k : Int)) = ((m + k : Nat) : Int) := by rw [show (m : Int) + (k : Int) = ((m + k : Nat) : Int) by simp]; exact IntWalk.i64_in _ (by omega)
      have hmk1 : (m : Int) + (k : Int) < (M : Int) := by omega
      clear hT hT' hT2 hT2' hbr hb5 s0 hoM HF ho ho' hx0
      go_upto_region 8 with fail
      clear hV hcp c0 d0
      go_wp2_with fail
      go_roundw
      case rel => exact ⟨k + 1, _, by omega, by go_num, hT6, HF6, hT6', hb6⟩
      case measure => simp [intOf]; omega
    · obtain rfl : k = m := by omega
      have hAR := aug_row p k g (F := F) (fun a b ha hb' => by rw [HF.out a b ha (by rw [← HMM.out]; exact hb'), if_pos ha])
      have hSR := hT.rows
      rw [← HMM.out, hAR] at hSR
      have hI := HIR.out _ _ hSR
      have HI := Lib.hid hI
      clear hI hSR hAR hT hT' HF HIR hlt hk
      go_wp2_with fail
      ((with_reducible refine HI.out.mono ?_); rintro e w5 ⟨v5, O, rfl, hMr, hcap, hOe, hb5⟩)
      rw [HRR.out.1] at hOe
      have hbw5 := hbr.trans (hb5.mono hbr.size)
      obtain ⟨ra, rc, rfl⟩ := hMr.shape
      have HCAP := Lib.hid hcap
      have HOE := Lib.hid hOe
      have hOl : O.length ≤ k := by have := congrArg List.length hOe; rw [List.length_map] at this; rw [this]; exact HEL.out
      clear HI hb5 hcap hOe hbr
      go_wp2_with fail
      go_loopw [13, 61] (fun s i wq => ∃ (j : Nat) (O2 : List Row3), j ≤ O.length ∧ i = .int .i64 j ∧ RowsM wq w5.heap.size s O2 ∧ Hid (O2.map (·.2.1) = cutZ k ((O.take j).map (·.2.1))) ∧ Below w5.heap.size w5 wq) (fun _ i _ => O.length - (intOf i).toNat)
      case atStart => exact ⟨0, [], by omega, rfl, RowsM.nil _ _, Lib.hid (by simp [cutZ]), Below.refl _ _⟩
      case round =>
        obtain ⟨j, O2, hj, rfl, hM2, HO2, hbq⟩ := hrel
        by_cases hjl : j < O.length
        · have hjl' : (j : Int) < (O.length : Int) := by omega
          have hMq := hMr.below hbq
          obtain ⟨gr, cr, hrv, e0⟩ := hMq.cellM hjl
          obtain ⟨rfl, rfl⟩ : ra = some ⟨gr, 0, none⟩ ∧ rc = cr := by simpa using hrv
          have hRA := hMq.rows _ (List.getElem_mem hjl)
          obtain ⟨cc, hcv, hcl⟩ := HCAP.out _ (List.getElem_mem hjl)
          have hmem : O[j].2.1 ∈ echL p (augL (chgL p k g)) := by rw [← HOE.out]; exact List.mem_map_of_mem (List.getElem_mem hjl)
          have hlen : O[j].2.1.length = M := by rw [← HMM.out]; exact (HEE.out.inP _ hmem).1
          have HSN : Hid (cutZ k ((O.take (j + 1)).map (·.2.1)) = if k ≤ leadN O[j].2.1 then cutZ k ((O.take j).map (·.2.1)) ++ [O[j].2.1.drop k] else cutZ k ((O.take j).map (·.2.1))) := Lib.hid (by
            have h1 := cutZ_snoc k (O.map (·.2.1)) (k := j) (by rw [List.length_map]; exact hjl)
            rw [← List.map_take, ← List.map_take, List.getElem_map] at h1
            exact h1)
          obtain ⟨⟨u, l, b⟩, hee⟩ : ∃ e, O[j] = e := ⟨_, rfl⟩
          rw [hee] at e0 hRA hcv hcl hlen HSN
          simp only at e0 hcv hcl hlen HSN
          rw [hlen] at hcv hcl
          subst hcv
          have htk := int_takeM b cc M k (by omega) hcl
          have hdr := int_dropM b cc M k (by omega) hcl
          have hst := row_takeM hRA k cc (by show k ≤ l.length; omega)
          have hsd := row_dropM hRA k (cc - k) (by show k < l.length; omega)
          simp only [hlen] at hst hsd
          have HCF := Lib.hid (mzcontains _ (l.take k) wr (by rw [List.length_take]; omega) hst)
          rw [lead_take (by omega)] at HCF
          have HDL : Hid ((l.drop k).length = k) := Lib.hid (by rw [List.length_drop, hlen, ← HMM.out]; omega)
          have HCL := Lib.hid (gclone _ (l.drop k) wr (by rw [HDL.out]; omega) (by rw [HDL.out]; omega) hsd)
          clear hrv hmem hee hst hsd hRA hMq hlen
          by_cases hld : k ≤ leadN l
          · rw [if_pos hld] at HSN
            rw [decide_eq_true hld] at HCF
            clear hld
            go_wp2_with fail
            ((with_reducible refine HCF.out.mono ?_); rintro e w6 ⟨rfl, rfl⟩)
            clear HCF
            go_wp2_with fail
            ((with_reducible refine HCL.out.mono ?_); rintro e w7 ⟨v7, rfl, ho7, hb7⟩)
            obtain ⟨g7, c7, hv7, hc7, hg7, hr7⟩ := ho7.rowM (by rw [HDL.out]; omega)
            rw [HDL.out] at hv7 hc7
            subst hv7
            have hsq := hbq.size
            have hM7 := hM2.below hb7
            have hbq7 := hbq.trans (hb7.mono hsq)
            have HFR := Lib.hid (hM2.fresh hg7)
            obtain ⟨Y, hY⟩ : ∃ Y, l.drop k = Y := ⟨_, rfl⟩
            rw [hY] at hr7 HSN HDL
            have hM8 := hM7.below (ebox1 w7 (.cells #[.slice (some ⟨g7, 0, none⟩) k c7] 52))
            have hr8 := (hr7.mono hsq).below (ebox1 w7 (.cells #[.slice (some ⟨g7, 0, none⟩) k c7] 52))
            have hb8 := hbq7.trans ((ebox1 w7 (.cells #[.slice (some ⟨g7, 0, none⟩) k c7] 52)).mono hbq7.size)
            have HOL : Hid (O2.length ≤ 10) := Lib.hid (by
              have h1 := congrArg List.length HO2.out
              rw [List.length_map] at h1
              have h2 := cutZ_len k ((O.take j).map (·.2.1))
              rw [List.length_map, List.length_take] at h2
              omega)
            obtain ⟨na, nc, rfl⟩ := hM2.shape
            clear hM2 hbq ho7 hb7 hr7 hM7 hbq7 hY HCL hdr htk e0
            go_wp2_with (at_builtin; refine wpList_append_lies _ rfl _ _ 24 rfl w5.heap.size 52 i0 _ 1 24 Try.underlying24 hi hz0 hz1 hz2 rfl (by decide) (.slice na O2.length nc) O2.length (O2.map (·.1)) rfl hM8.owns ⟨w7.heap.size, 0, none⟩ 1 1 [.slice (some ⟨g7, 0, none⟩) k c7] rfl rfl (World.news_of_block (cs := #[.slice (some ⟨g7, 0, none⟩) k c7]) (t := 52) (fr := (0, 0)) (heap_alloc_new w7 _)) (by simp [Value.oneCell']) (by omega) (by have := HOL.out; unfold maxLen; omega) (by have := HOL.out; omega) hb8.size _ rfl ?_)
            intro g9 cap9 w9 hown9 hgrow9 hat9 hlt9
            have hM9 := hM8.push hr8 HFR.out hown9 hgrow9
            have hb9 : Below w5.heap.size w5 w9 := hb8.grown hgrow9 hb8.size (fun q hq => (World.ownsRow.lt hM8.owns q hq).1)
            have HO9 : Hid ((O2 ++ [((Value.slice (some ⟨g7, 0, none⟩) k c7), Y, g7)]).map (·.2.1) = cutZ k ((O.take (j + 1)).map (·.2.1))) := Lib.hid (by
              rw [List.map_append, HO2.out, HSN.out]; rfl)
            clear hown9 hgrow9 hat9 hlt9 hM8 hr8 hb8 HFR
            go_wp2_with fail
            go_roundw
            case rel => exact ⟨j + 1, O2 ++ [((Value.slice (some ⟨g7, 0, none⟩) k c7), Y, g7)], by omega, by go_num, by simpa using hM9, HO9, hb9⟩
            case measure => simp [intOf]; omega
          · rw [if_neg hld] at HSN
            rw [decide_eq_false hld] at HCF
            have HO9 : Hid (O2.map (·.2.1) = cutZ k ((O.take (j + 1)).map (·.2.1))) := Lib.hid (by rw [HO2.out, HSN.out])
            clear hld
            go_wp2_with fail
            ((with_reducible refine HCF.out.mono ?_); rintro e w6 ⟨rfl, rfl⟩)
            clear HCF HCL
            go_wp2_with fail
            go_roundw
            case rel => exact ⟨j + 1, O2, by omega, by go_num, hM2, HO9, hbq⟩
            case measure => simp [intOf]; omega
        · obtain rfl : j = O.length := by omega
          have hrr := hM2.rr
          rw [HO2.out, List.take_length, HOE.out, ← HX.out.1] at hrr
          have hend := hbw5.trans (hbq.mono hbw5.size)
          have hrr2 := hrr.mono hbw5.size
          obtain ⟨na, nc, rfl⟩ := hM2.shape
          go_wp2_with fail
          go_ret2
          rw [HX.out.2]
          exact ⟨_, rfl, hrr2, hend⟩
end Go.Proofs.Ytbahejlgfpilnaa
