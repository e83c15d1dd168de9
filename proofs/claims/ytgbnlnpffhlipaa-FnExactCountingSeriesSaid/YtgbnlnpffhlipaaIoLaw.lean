/-
  The law of 'FnExactCountingSeries', walked. Conditions: as the theorem states.
-/
import Derived.Test.YtgbnlnpffhlipaaIl
import Derived.Test.YtgbnlnpffhlipaaLj
namespace Go.Proofs.Ytgbnlnpffhlipaa
open Go.RowKit Go.Sort

set_option maxRecDepth 8000 in
set_option maxHeartbeats 8000000 in
theorem law_CountingSeries (u0 : Value) (L : List (List Int)) (a1 : Int) (w : World) (hU0 : SlR w u0 L) (hnl : L.length ≤ 9223372036854775807) (hnr : ∀ l ∈ L, l.length ≤ 9223372036854775807) :
    Calls Try.prog 4 #[u0, .int .i64 a1] w fun e w' => e = .returned (.bool true) ∧ Below w.heap.size w w' := by
  obtain ⟨ua0, uc0, rfl, _⟩ := id hU0
  have HSZ := Lib.hid (szrows _ L 1048576 w (by omega) (by omega) hnl hnr hU0)
  by_cases hlong : 1048576 < L.length + totR L
  · have hlong' : (1048576 : Int) < (L.length : Int) + (totR L : Int) := by omega
    have HLT := Lib.hid (leftI_lt hlong')
    clear hlong hlong'
    go_enter Try.func4, Try.ntmps4
    go_wp2_with fail
    ((with_reducible refine HSZ.out.mono ?_); rintro e w1 ⟨rfl, rfl⟩)
    rw [HLT.out]
    go_wp2_with fail
    go_ret
    exact ⟨rfl, Below.refl _ _⟩
  have hm : L.length ≤ 1048576 := by omega
  have hmr : ∀ r ∈ L, r.length ≤ 1048576 := fun r hr => by have := totR_row hr; omega
  have htot : totR L ≤ 67108864 := by omega
  have HMR := Lib.hid hmr
  have HGE : Hid (leftI 1048576 ((L.length : Int) + (totR L : Int)) = 1048576 - ((L.length : Int) + (totR L : Int))) := Lib.hid (leftI_ge (by omega))
  obtain ⟨q0, hq0⟩ : ∃ q0, 1048576 - ((L.length : Int) + (totR L : Int)) = q0 := ⟨_, rfl⟩
  have hq1 : ¬ q0 < 0 := by omega
  rw [hq0] at HGE
  obtain ⟨⟨S, c⟩, hr⟩ : ∃ o, rCnt L a1 = o := ⟨_, rfl⟩
  have hso : S.length ≤ 1048576 := by have h := rCnt_len L a1; rw [hr] at h; exact h
  have HSP := Lib.hid (fun (v0 : Value) (w' : World) (k0 : SlR w' v0 L) => by have h := sCnt v0 L a1 w' hm hmr k0; rw [hr] at h; exact h)
  have HIM := Lib.hid (fun (v0 : Value) (w' : World) (k0 : SlR w' v0 L) => by have h := iCnt v0 L a1 w' hm hmr k0; rw [hr] at h; exact h)
  have htk : 0 ≤ (totR L : Int) := by omega
  obtain ⟨T, hT⟩ : ∃ T, (totR L : Int) = T := ⟨_, rfl⟩
  have HTT := Lib.hid hT
  have hT0 : ¬ (1 + T) < 0 := by omega
  have HHT := Lib.hid htot
  clear hr hmr hnr hlong hq0 htot htk hT
  have hcc : (c != c) = false := by simp
  go_enter Try.func4, Try.ntmps4
  go_wp2_with fail
  ((with_reducible refine HSZ.out.mono ?_); rintro e w1 ⟨rfl, rfl⟩)
  rw [HGE.out]
  go_wp2_with fail
  ((with_reducible refine (torows _ L _ hm HMR.out hU0).mono ?_); rintro e w2 ⟨m0, rfl, hM0, hb⟩)
  have hW := hb
  clear hb
  go_wp2_with fail
  ((with_reducible refine (HSP.out _ _ hM0.slR).mono ?_); rintro e w3 ⟨vs, rfl, hs, hb⟩)
  have hW2 := hW.trans (hb.mono hW.size)
  clear hW hb hM0
  obtain ⟨sa, sc, rfl, _⟩ := id hs
  have hV0 := hU0.below hW2
  have K : Below w3.heap.size w3 w3 := Below.refl _ _
  go_wp2_with fail
  ((with_reducible refine (torows _ L _ hm HMR.out hV0).mono ?_); rintro e w4 ⟨x0, rfl, hx, hb⟩)
  have hX := hx.top
  have hKK := hb.size
  have K2 := K.trans hb
  clear K hb hx
  obtain ⟨xa, xc, rfl⟩ := hX.rr.shape
  go_wp2_with fail
  ((with_reducible refine (HIM.out _ _ hX.rr.slR).mono ?_); rintro e w5 ⟨v5, rfl, ho, hb⟩)
  obtain ⟨a5, c5, rfl⟩ := ho.shape
  have hX5 := hX.below hb
  have K5 := K2.trans (hb.mono K2.size)
  clear hX K2 hb
  go_wp2_with fail
  ((with_reducible refine (neqI_same _ _ S _ hso ho.sl (hs.below K5)).mono ?_); rintro e w6 ⟨rfl, hb⟩)
  have hX6 := hX5.below hb
  have ho6 := ho.below hb
  have K6 := K5.trans (hb.mono K5.size)
  clear hX5 ho K5 hb
  go_wp2_with fail
  ((with_reducible refine (torows _ L _ hm HMR.out (hV0.below K6)).mono ?_); rintro e w7 ⟨y0, rfl, hy, hb⟩)
  have hX7 := hX6.below hb
  have ho7 := ho6.below hb
  have K7 := K6.trans (hb.mono K6.size)
  clear hX6 ho6 K6 hb
  go_wp2_with fail
  ((with_reducible refine (eqrows _ _ L _ hm HMR.out hX7.rr.slR hy.slR).mono ?_); rintro e w8 ⟨rfl, hb⟩)
  have hX8 := hX7.below hb
  have ho8 := ho7.below hb
  have K8 := K7.trans (hb.mono K7.size)
  clear hX7 ho7 K7 hb hy
  go_wp2_with fail
  ((with_reducible refine (hX8.mark hm HHT.out HMR.out K8.size ho8).mono ?_); rintro e w9 ⟨rfl, ho9, hb⟩)
  have K9 := K8.trans hb
  clear hX8 ho8 K8 hb
  rw [HTT.out]
  go_wp2_with fail
  ((with_reducible refine (neqI_same _ _ S _ hso ho9.sl (hs.below K9)).mono ?_); rintro e w10 ⟨rfl, hb⟩)
  have ho10 := (ho9.below hb).mono hKK
  have K10 := K9.trans (hb.mono K9.size)
  clear ho9 K9 hb
  have hn1 : ¬ (1 + (S.length : Int)) < 0 := by omega
  have hn2 : ((1 + (S.length : Int)) != 1 + (S.length : Int)) = false := by simp
  go_wp2_with fail
  ((with_reducible refine (ho10.mark hso K10.size).mono ?_); rintro e w11 ⟨rfl, hM, hb⟩)
  have K11 := K10.trans hb
  clear ho10 K10 hb
  go_wp2_with fail
  ((with_reducible refine (hM.held hso).mono ?_); rintro e w12 ⟨rfl, rfl⟩)
  go_wp2_with fail
  ((with_reducible refine (torows _ L _ hm HMR.out (hV0.below K11)).mono ?_); rintro e w13 ⟨m0, rfl, hM0, hb⟩)
  have hM1 := hM.below hb
  have K13 := K11.trans (hb.mono K11.size)
  clear hM K11 hb
  go_wp2_with fail
  ((with_reducible refine (HIM.out _ _ hM0.slR).mono ?_); rintro e w14 ⟨v6, rfl, ho, hb⟩)
  clear hM0
  obtain ⟨a6, c6, rfl⟩ := ho.shape
  have hM2 := hM1.below hb
  have K14 := K13.trans (hb.mono K13.size)
  clear hM1 K13 hb
  go_wp2_with fail
  ((with_reducible refine (neqI_same _ _ S _ hso ho.sl (hs.below K14)).mono ?_); rintro e w15 ⟨rfl, hb⟩)
  have hM3 := hM2.below hb
  have K15 := K14.trans (hb.mono K14.size)
  clear hM2 K14 hb ho
  go_wp2_with fail
  ((with_reducible refine (hM3.held hso).mono ?_); rintro e w16 ⟨rfl, rfl⟩)
  have hend := hW2.trans (K15.mono hW2.size)
  go_wp2
  go_ret
  exact ⟨rfl, hend⟩
end Go.Proofs.Ytgbnlnpffhlipaa
