/-
  KERNELS: 'spec.l01Kernel'. Conditions: as each theorem states.
-/
import Derived.Test.YtbahejlgfpilnaaMrb
import Derived.Test.YtbahejlgfpilnaaEf
namespace Go.Proofs.Ytbahejlgfpilnaa
open Go.RowKit Go.Sort EchM

/-- Rows with the unit behind them. -/
def unitR (n i : Nat) : List Int := rowF n fun j => if j = i then 1 else 0
def augR (R : List (List Int)) (i : Nat) : List Int := R.getD i [] ++ unitR R.length i
def augL (R : List (List Int)) : List (List Int) := (List.range R.length).map (augR R)
theorem augL_len (R : List (List Int)) : (augL R).length = R.length := by simp [augL]
theorem augL_in {p : Int} {m : Nat} {R : List (List Int)} (h2 : 2 ≤ p) (hR : ∀ r ∈ R, InP p m r) : ∀ r ∈ augL R, InP p (m + R.length) r := fun r hr => by
  obtain ⟨i, hi, rfl⟩ := List.mem_map.1 hr
  rw [List.mem_range] at hi
  have h1 := hR R[i] (List.getElem_mem hi)
  have e : R.getD i [] = R[i] := by simp [hi]
  refine ⟨by rw [augR, e, List.length_append, h1.1, unitR, len_rowF], fun a ha => ?_⟩
  rw [augR, e] at ha
  rcases List.mem_append.1 ha with h | h
  · exact h1.2 a h
  · obtain ⟨j, _, rfl⟩ := List.mem_map.1 h
    split <;> omega
theorem augL_take (R : List (List Int)) {k : Nat} (h : k < R.length) : (augL R).take (k + 1) = (augL R).take k ++ [R[k] ++ unitR R.length k] := by
  rw [List.take_succ_eq_append_getElem (by rw [augL_len]; exact h)]
  simp [augL, augR, h]
theorem ownL_drop {w : World} {base : Nat} {v : Value} {l : List Int} {m L : Nat} (h : OwnL w base v l) (hL : l.length = L) (hm : m < L) : ∃ g c, v = .slice (some ⟨g, 0, none⟩) L c ∧ g < w.heap.size ∧
    (∀ W, (Instr.slice 52 (.slice (some ⟨g, 0, none⟩) L c) (some (.int .i64 (m : Int))) none none).run Try.prog W = .ok (.slice (some ⟨g, m, none⟩) (L - m) (c - m)) W) ∧ Sl w (.slice (some ⟨g, m, none⟩) (L - m) (c - m)) (l.drop m) := by
  subst hL
  obtain ⟨g, c, hv, _, hg, hcs⟩ := h.form (by omega)
  have hc : l.length ≤ c := by
    rcases h.2 with ⟨_, h0⟩ | ⟨g', c', cur, hv', _, _, hc', _⟩
    · omega
    · rw [hv] at hv'
      simp at hv'
      omega
  obtain ⟨i0, hi, hz0, hz1, hz2⟩ := info_parts einfoI
  have ht' : Try.prog.underlying 52 = some (.slice (Try.prog.elem 52)) := by simp [Program.elem, Try.underlying52]
  have he : Try.prog.elem 52 = 2 := by simp [Program.elem, Try.underlying52]
  have hz : ∀ W, (Go.sizeOf 2).run Try.prog W = .ok 1 W := fun W => by simp [sizeOf, typeInfo, hi, hz1]
  refine ⟨g, c, hv, hg, fun W => ?_, ⟨_, _, by rw [List.length_drop], .inr ⟨g, m, rfl, hg, fun k hk => ?_⟩⟩⟩
  · rw [run_slice_l W 52 _ _ _ ht' .i64 _ (by omega) (by omega), he, hz]
    by_cases hk0 : m = 0
    · subst hk0
      simp [Result.andThen, sliced, Addr.add]
    · simp [Result.andThen, sliced, Addr.add, show c ≠ m by omega]
      exact hk0
  · rw [List.length_drop] at hk
    rw [List.getElem_drop]
    exact hcs (m + k) (by omega)
theorem cutZ_snoc (m : Nat) (L : List (List Int)) {k : Nat} (h : k < L.length) : cutZ m (L.take (k + 1)) = if m ≤ leadN L[k] then cutZ m (L.take k) ++ [L[k].drop m] else cutZ m (L.take k) := by
  rw [List.take_succ_eq_append_getElem h]
  unfold cutZ
  rw [List.filter_append, List.map_append]
  by_cases hm : m ≤ leadN L[k]
  · simp [hm]
  · simp [hm]
theorem cutZ_len (m : Nat) (L : List (List Int)) : (cutZ m L).length ≤ L.length := by
  unfold cutZ
  rw [List.length_map]
  exact List.length_filter_le _ _

set_option maxRecDepth 8000 in
set_option maxHeartbeats 16000000 in
theorem skern (p : Int) (m n : Nat) (v : Value) (R : List (List Int)) (w : World) (hp : PrimeS p) (hn : R.length = n) (h1 : 1 ≤ n) (hn1 : n ≤ 500) (hm1 : m ≤ 500) (hR : ∀ r ∈ R, InP p m r) (hS : SlR w v R) :
    Calls Try.prog 64 #[.int .i64 p, .int .i64 (n : Int), v] w fun e w' => ∃ v', e = .returned v' ∧ OwnR w' w.heap.size v' (cutZ m (echL p (augL R))) ∧ Below w.heap.size w w' := by
  obtain ⟨i0, hi, hz0, hz1, hz2⟩ := info_parts einfoI
  obtain ⟨i1, hi', hz0', hz1', hz2'⟩ := info_parts einfoR
  have hmk : ∀ w, (Instr.makeSlice 52 (.int .i64 (n : Int)) (.int .i64 (n : Int))).run Try.prog w = .ok (.slice (some ⟨w.heap.size, 0, none⟩) n n) (w.alloc (.cells (madeCells #[.int .i64 0] n) 2)) := fun w => by
    have h := run_make (P := Try.prog) w 52 2 i0 _ Try.underlying52 hi hz0 .i64 .i64 (n : Int) (n : Int) (by omega) (by omega) (by rw [hz2]; omega) (by omega)
    rw [hz1, show (n : Int).toNat = n by omega] at h
    simpa [Value.cells] using h
  have HMK := Lib.hid hmk
  have HNR : Hid (OwnR (w.alloc (.cells #[] 52)) w.heap.size (.slice (some ⟨w.heap.size, 0, none⟩) 0 0) []) := Lib.hid (OwnR.nil (Nat.le_refl _) rfl)
  obtain ⟨b, off, hv, hbb, hT⟩ : ∃ b off, (∃ c, v = .slice (some ⟨b, off, none⟩) R.length c) ∧ b < w.heap.size ∧ RowsW w b off R := by
    obtain ⟨a, cap, rfl, h | ⟨b, off, rfl, h1, h2⟩⟩ := hS
    · rw [h] at hn; simp at hn; omega
    · exact ⟨b, off, ⟨_, rfl⟩, h1, h2⟩
  obtain ⟨cap, rfl⟩ := hv
  have HIN := Lib.hid hR
  have HEE := Lib.hid (echL_spec hp (augL R) (augL_in hp.le.1 hR)).1
  have HPS := Lib.hid hp
  have HN := Lib.hid hn
  rw [hn]
  clear hmk hR hS hi hz0 hz1 hz2 hn
  go_enter Try.func64, Try.ntmps64
  go_wp2_with fail
  go_loopw [7, 8, 9] (fun s u i wr => ∃ (k : Nat) (x : Int), k ≤ n ∧ i = .int .i64 k ∧ u = .int .i64 x ∧ (1 ≤ k → x = (m : Int)) ∧ OwnR wr w.heap.size s ((augL R).take k) ∧ Below w.heap.size w wr) (fun _ _ i _ => n - (intOf i).toNat)
  case atStart => exact ⟨0, 0, by omega, rfl, rfl, by omega, HNR.out, ebox1 _ _⟩
  case round =>
    clear HNR
    obtain ⟨k, x, hk, rfl, rfl, hx, hO, hb⟩ := hrel
    by_cases hlt : k < n
    · have hlt' : (k : Int) < (n : Int) := by omega
      clear hx
      have hkR : k < R.length := by rw [HN.out]; exact hlt
      obtain ⟨wo, hwo⟩ : ∃ wo : World, wo = wr := ⟨_, rfl⟩
      rw [← hwo] at hO hb
      have hmk := HMK.out wr
      have hs := hb.size
      obtain ⟨V, hV, hm0, hm1⟩ : ∃ V, V = wo.alloc (.cells (madeCells #[.int .i64 0] n) 2) ∧ OwnL V wo.heap.size (.slice (some ⟨wo.heap.size, 0, none⟩) n n) (rowF n fun _ => 0) ∧ Below wo.heap.size wo V := ⟨_, rfl, made_own wo wo.heap.size n (Nat.le_refl _) (by omega) (t := 2) rfl, ebox1 _ _⟩
      have k0 := World.ownsRow.cellAt (n := n) (xs := valsI (rowF n fun _ => 0)) (by simpa [OwnL, len_rowF] using hm0) k (by omega)
      rw [vals_rowF (by omega)] at k0
      have z0 := World.ownsRow.frozenAt (n := n) (xs := valsI (rowF n fun _ => 0)) (by simpa [OwnL, len_rowF] using hm0) k
      have hst := hm0.set k 1
      rw [rowF_set] at hst
      have hb2 := hm1.setCell (p := ⟨wo.heap.size, k, none⟩) (Nat.le_refl _) (.int .i64 1)
      obtain ⟨V2, hV2⟩ : ∃ V2, V.setCell ⟨wo.heap.size, k, none⟩ (.int .i64 1) = V2 := ⟨_, rfl⟩
      rw [hV2] at hst hb2
      have hU : (rowF n fun q => if q = k then 1 else 0) = unitR n k := rfl
      rw [hU] at hst
      have hbV := hb.trans (hb2.mono hs)
      obtain ⟨u, c0, s0⟩ := (hT.below hbV hbb) k hkR
      have hlm := (HIN.out _ (List.getElem_mem hkR)).1
      obtain ⟨ua, uc, rfl, _⟩ := id s0
      have HAT := Lib.hid (augL_take R hkR)
      have HLM := Lib.hid hlm
      have HEO := Lib.hid (eown _ R[k] V2 (by rw [hlm]; omega) s0)
      rw [HN.out] at HAT
      obtain ⟨X, hX⟩ : ∃ X, R[k] = X := ⟨_, rfl⟩
      rw [hX] at hlm c0 HEO HAT HLM
      rw [hlm] at c0 HEO
      have hst2 := hst.slice
      have hul : (unitR n k).length = n := len_rowF _ _
      have HUL := Lib.hid hul
      have HOB := Lib.hid (And.intro hO hb)
      clear hm0 hm1 hU hX hlm s0 hul hO hb
      go_upto_region 6 with fail
      rw [← hwo, ← hV]
      clear hV hwo hmk
      go_upto_region 7 with fail
      clear hV2 k0 z0
      go_wp2_with fail
      ((with_reducible refine HEO.out.mono ?_); rintro e w4 ⟨v4, rfl, ho4, hb4⟩)
      have hs4 := hb4.size
      have hsl4 := hst2.below hb4
      have hb24 := hb2.trans (hb4.mono hb2.size)
      go_wp2_with (at_builtin; refine wpList_append_ints _ rfl _ _ rfl V2.heap.size v4 X rfl ho4 (.slice (some ⟨wo.heap.size, 0, none⟩) n n) (unitR n k) rfl hsl4 (by have := HLM.out; have := HUL.out; omega) hs4 ?_)
      intro v5 w5 ho5 hg5
      have hb5 : Below V2.heap.size V2 w5 := hb4.grown hg5 hb4.size (fun q hq => (World.ownsRow.lt ho4 q hq).1)
      have hb25 := hb2.trans (hb5.mono hb2.size)
      obtain ⟨Y, hY⟩ : ∃ Y, X ++ unitR n k = Y := ⟨_, rfl⟩
      rw [hY] at ho5 HAT
      obtain ⟨ya, yc, rfl⟩ := ho5.shape
      obtain ⟨hQ, hbQ⟩ := HOB.out
      have hQw := hQ.below hb25
      have hbw := hbQ.trans (hb25.mono hs)
      have hsw : w.heap.size ≤ V2.heap.size := Nat.le_trans hs hb2.size
      have hln2 : Hid (((augL R).take k).length = k) := Lib.hid (by rw [List.length_take, augL_len]; omega)
      obtain ⟨P, hP⟩ : ∃ P, (augL R).take k = P := ⟨_, rfl⟩
      rw [hP] at hQ hQw hln2 HAT
      obtain ⟨oa, oc, rfl⟩ := hQw.shape
      obtain ⟨us0, y1, y2, y3⟩ := hQw
      have hRb := (ho5.mono hsw).below (ebox1 w5 (.cells #[.slice ya Y.length yc] 52))
      have hbw1 := hbw.trans ((ebox1 w5 (.cells #[.slice ya Y.length yc] 52)).mono hbw.size)
      clear hQ hbQ HOB ho4 hb4 hsl4 hb24 hg5 ho5 hb5 hb25 hst hst2 hb2 hbV hP hY c0 HEO
      go_wp2_with (at_builtin; refine wpList_append_lies _ rfl _ _ 24 rfl w.heap.size 52 i1 _ 1 24 Try.underlying24 hi' hz0' hz1' hz2' rfl (by decide) (.slice oa P.length oc) P.length us0 rfl (World.ownsRow.alloc y2 _) ⟨w5.heap.size, 0, none⟩ 1 1 [.slice ya Y.length yc] rfl rfl (World.news_of_block (cs := #[.slice ya Y.length yc]) (t := 52) (fr := (0, 0)) (heap_alloc_new w5 _)) (by simp [Value.oneCell']) (by omega) (by have := hln2.out; unfold maxLen; omega) (by have := hln2.out; omega) hbw1.size _ rfl ?_)
      intro g6 cap6 w6 hown6 hgrow6 hat6 hlt6
      have hB6 : Below w.heap.size w w6 := hbw1.grown hgrow6 hbw1.size (fun q hq => (World.ownsRow.lt y2 q hq).1)
      have hN6 : OwnR w6 w.heap.size (.slice (some ⟨g6, 0, none⟩) (P.length + 1) cap6) (P ++ [Y]) := OwnR.push y1 (World.ownsRow.alloc y2 _) (fun q hq hq' => (y3 q hq hq').below (ebox1 w5 _)) hRb hown6 hgrow6
      rw [← HAT.out] at hN6
      clear y1 y2 y3 hown6 hgrow6 hat6 hRb hbw hbw1
      go_wp2_with fail
      go_roundw
      case rel => exact ⟨k + 1, (m : Int), by omega, by go_num, rfl, fun _ => rfl, hN6, hB6⟩
      case measure => simp [intOf]; omega
    · obtain rfl : k = n := by omega
      obtain rfl : x = (m : Int) := hx h1
      obtain ⟨oa, oc, hsv⟩ := hO.shape
      obtain ⟨Z, hZ⟩ : ∃ Z, ((augL R).take k).length = Z := ⟨_, rfl⟩
      rw [hZ] at hsv
      subst hsv
      have hO2 := hO
      rw [← HN.out, ← augL_len R, List.take_length] at hO2
      have HEC := Lib.hid (eech p _ (augL R) (m + R.length) wr HPS.out (by rw [HN.out]; omega) (by rw [augL_len, HN.out]; omega) (augL_in HPS.out.le.1 HIN.out) hO2.slice)
      have hEl := ech_len p (augL R)
      rw [augL_len, HN.out] at hEl
      obtain ⟨E, hE⟩ : ∃ E, echL p (augL R) = E := ⟨_, rfl⟩
      rw [hE] at HEE HEC hEl
      have HEQ := Lib.hid hE
      have hwr := hb.size
      have HB := Lib.hid hb
      have HEL := Lib.hid hEl
      clear hO hO2 hE hx hb hEl hZ
      go_wp2_with fail
      ((with_reducible refine HEC.out.mono ?_); rintro e w4 ⟨v4, rfl, ho4, hb4⟩)
      have hs4 := hb4.size
      obtain ⟨ea, ec, rfl⟩ := ho4.shape
      have hbw4 := HB.out.trans (hb4.mono hwr)
      have hnil : OwnR (w4.alloc (.cells #[] 52)) w4.heap.size (.slice (some ⟨w4.heap.size, 0, none⟩) 0 0) [] := OwnR.nil (Nat.le_refl _) rfl
      clear HEC hb4
      go_wp2_with fail
      go_loopw [12, 13] (fun s i wq => ∃ (j : Nat), j ≤ E.length ∧ i = .int .i64 j ∧ OwnR wq w4.heap.size s (cutZ m (E.take j)) ∧ Below w4.heap.size w4 wq) (fun _ i _ => E.length - (intOf i).toNat)
      case atStart => exact ⟨0, by omega, rfl, hnil, ebox1 _ _⟩
      case round =>
        clear hnil
        obtain ⟨j, hj, rfl, hQ, hbq⟩ := hrel
        have hsq := hbq.size
        by_cases hjl : j < E.length
        · have hjl' : (j : Int) < (E.length : Int) := by omega
          have hjb : E.length ≤ 500 := by have := HEL.out; omega
          have hoq := ho4.below hbq
          obtain ⟨ge, ce, hve, hg1, hg2, hcs⟩ := hoq.cells (by omega)
          obtain ⟨rfl, rfl⟩ : ea = some ⟨ge, 0, none⟩ ∧ ec = ce := by simpa using hve
          obtain ⟨u, d0, hu⟩ := hcs j hjl
          have hej := List.getElem_mem hjl
          have hjn := HEE.out.lt _ hej
          have hjlen := (HEE.out.inP _ hej).1
          have HSN := Lib.hid (cutZ_snoc m E hjl)
          obtain ⟨X, hX⟩ : ∃ X, E[j] = X := ⟨_, rfl⟩
          rw [hX] at hu hjn hjlen HSN
          obtain ⟨Ld, hLd⟩ : ∃ Ld, leadN X = Ld := ⟨_, rfl⟩
          have HLE := Lib.hid (elead_at u X Ld wr (by rw [hjlen, HN.out]; omega) hu.slice hLd (by rw [← hLd, hjlen]; exact hjn))
          rw [hLd] at hjn HSN
          obtain ⟨xg, xc, hxv, hxg, hidr, hds⟩ := ownL_drop (m := m) hu hjlen (by rw [HN.out]; omega)
          subst hxv
          obtain ⟨L, hL⟩ : ∃ L, m + R.length = L := ⟨_, rfl⟩
          rw [hL] at hjn hjlen d0 HLE hidr hds
          have HLL := Lib.hid (show L = m + k by rw [← hL, HN.out])
          have HEO := Lib.hid (eown _ (X.drop m) wr (by rw [List.length_drop, hjlen, HLL.out]; omega) hds)
          clear hve hX hcs hej hoq hu hLd hds hL
          by_cases hmd : m ≤ Ld
          · have hmd' : (m : Int) ≤ (Ld : Int) := by omega
            rw [if_pos hmd] at HSN
            go_wp2_with fail
            ((with_reducible refine HLE.out.mono ?_); rintro e w5 ⟨rfl, rfl⟩)
            clear HLE
            go_wp2_with fail
            ((with_reducible refine HEO.out.mono ?_); rintro e w6 ⟨v6, rfl, ho6, hb6⟩)
            obtain ⟨Y, hY⟩ : ∃ Y, X.drop m = Y := ⟨_, rfl⟩
            rw [hY] at ho6 HSN
            obtain ⟨ya, yc, rfl⟩ := ho6.shape
            have hQw := hQ.below hb6
            have hbw := hbq.trans (hb6.mono hsq)
            have hln2 : Hid ((cutZ m (E.take j)).length ≤ 500) := Lib.hid (by
              have h3 := cutZ_len m (E.take j)
              rw [List.length_take] at h3
              have := HEL.out
              omega)
            obtain ⟨P, hP⟩ : ∃ P, cutZ m (E.take j) = P := ⟨_, rfl⟩
            rw [hP] at hQ hQw hln2 HSN
            obtain ⟨oa, oc, rfl⟩ := hQw.shape
            obtain ⟨us0, y1, y2, y3⟩ := hQw
            have hRb := (ho6.mono hsq).below (ebox1 w6 (.cells #[.slice ya Y.length yc] 52))
            have hbw1 := hbw.trans ((ebox1 w6 (.cells #[.slice ya Y.length yc] 52)).mono hbw.size)
            clear hQ ho6 hb6 hbw hP hY HEO hidr d0
            go_wp2_with (at_builtin; refine wpList_append_lies _ rfl _ _ 24 rfl w4.heap.size 52 i1 _ 1 24 Try.underlying24 hi' hz0' hz1' hz2' rfl (by decide) (.slice oa P.length oc) P.length us0 rfl (World.ownsRow.alloc y2 _) ⟨w6.heap.size, 0, none⟩ 1 1 [.slice ya Y.length yc] rfl rfl (World.news_of_block (cs := #[.slice ya Y.length yc]) (t := 52) (fr := (0, 0)) (heap_alloc_new w6 _)) (by simp [Value.oneCell']) (by omega) (by have := hln2.out; unfold maxLen; omega) (by have := hln2.out; omega) hbw1.size _ rfl ?_)
            intro g7 cap7 w7 hown7 hgrow7 hat7 hlt7
            have hB7 : Below w4.heap.size w4 w7 := hbw1.grown hgrow7 hbw1.size (fun q hq => (World.ownsRow.lt y2 q hq).1)
            have hN7 : OwnR w7 w4.heap.size (.slice (some ⟨g7, 0, none⟩) (P.length + 1) cap7) (P ++ [Y]) := OwnR.push y1 (World.ownsRow.alloc y2 _) (fun q hq hq' => (y3 q hq hq').below (ebox1 w6 _)) hRb hown7 hgrow7
            rw [← HSN.out] at hN7
            clear y1 y2 y3 hown7 hgrow7 hat7 hRb hbw1
            go_wp2_with fail
            go_roundw
            case rel => exact ⟨j + 1, by omega, by go_num, hN7, hB7⟩
            case measure => simp [intOf]; omega
          · have hmd' : ¬ (m : Int) ≤ (Ld : Int) := by omega
            have hmd2 : (Ld : Int) < (m : Int) := by omega
            rw [if_neg hmd] at HSN
            rw [← HSN.out] at hQ
            go_wp2_with fail
            ((with_reducible refine HLE.out.mono ?_); rintro e w5 ⟨rfl, rfl⟩)
            clear HLE HEO
            go_wp2_with fail
            go_roundw
            case rel => exact ⟨j + 1, by omega, by go_num, hQ, hbq⟩
            case measure => simp [intOf]; omega
        · obtain rfl : j = E.length := by omega
          rw [List.take_length] at hQ
          have hend := hbw4.trans (hbq.mono hbw4.size)
          have hQe := hQ.mono hbw4.size
          obtain ⟨oa, oc, rfl⟩ := hQ.shape
          go_wp2_with fail
          go_ret
          exact ⟨_, rfl, by rw [HEQ.out]; exact hQe, hend⟩
end Go.Proofs.Ytbahejlgfpilnaa
