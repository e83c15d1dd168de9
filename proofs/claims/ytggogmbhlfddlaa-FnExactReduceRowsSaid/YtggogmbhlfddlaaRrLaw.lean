/-
  The law of 'FnExactReduceRows', walked. Conditions: as the theorem states.
-/
import Derived.Test.YtggogmbhlfddlaaVg
import Derived.Test.YtggogmbhlfddlaaVh
namespace Go.Proofs.Ytggogmbhlfddlaa
open Go.RowKit Go.Sort EchM

theorem totR_mul {c : Nat} : ∀ {S : List (List Int)}, (∀ r ∈ S, r.length ≤ c) → totR S ≤ c * S.length
  | [], _ => by simp [totR]
  | r :: S, h => by
    have h1 := h r (by simp)
    have h2 := totR_mul (S := S) fun x hx => h x (by simp [hx])
    show r.length + totR S ≤ c * (S.length + 1)
    rw [Nat.mul_add, Nat.mul_one, Nat.add_comm]
    exact Nat.add_le_add h2 h1
theorem rr_size (p n : Int) (L : List (List Int)) : (rrS p n L).length ≤ 100 ∧ ∀ r ∈ rrS p n L, r.length ≤ 100 := by
  cases h : rrB p n L
  · rw [(rr_no h).1]; simp
  · rw [(rr_yes h).1]
    simp only [rrB, Bool.and_eq_true, decide_eq_true_eq] at h
    obtain ⟨hp, ⟨h0, h1⟩, h2, h3⟩ := h
    obtain ⟨m, rfl⟩ := Int.eq_ofNat_of_zero_le h0
    obtain ⟨e1, _⟩ := echL_spec (pB_set hp) L (fun r hr => rr_inP (List.all_eq_true.1 h3 r hr))
    refine ⟨Nat.le_trans (ech_len p L) h2, fun r hr => ?_⟩
    have := (e1.inP r hr).1
    omega

set_option maxRecDepth 8000 in
set_option maxHeartbeats 8000000 in
theorem law_ReduceRows (p n : Int) (u0 : Value) (L : List (List Int)) (w : World) (hU0 : SlR w u0 L) (hnl : L.length ≤ 9223372036854775807) (hnr : ∀ l ∈ L, l.length ≤ 9223372036854775807) :
    Calls Try.prog 3 #[.int .i64 p, .int .i64 n, u0] w fun e w' => e = .returned (.bool true) ∧ Below w.heap.size w w' := by
  obtain ⟨ua0, uc0, rfl, _⟩ := id hU0
  have HSZ := Lib.hid (szrows _ L 1048576 w (by omega) (by omega) hnl hnr hU0)
  by_cases hlong : 1048576 < L.length + totR L
  · have hlong' : (1048576 : Int) < (L.length : Int) + (totR L : Int) := by omega
    have HLT := Lib.hid (leftI_lt hlong')
    clear hlong hlong'
    go_enter Try.func3, Try.ntmps3
    go_wp2_with fail
    ((with_reducible refine HSZ.out.mono ?_); rintro e w1 ⟨rfl, rfl⟩)
    rw [HLT.out]
    go_wp2_with fail
    go_ret
    exact ⟨rfl, Below.refl _ _⟩
  have hm : L.length ≤ 1048576 := by omega
  have hmr : ∀ r ∈ L, r.length ≤ 1048576 := fun r hr => by have := totR_row hr; omega
  have htot : totR L ≤ 67108864 := by omega
  have HMR := Lib.hid hmr
  have HGE : Hid (leftI 1048576 ((L.length : Int) + (totR L : Int)) = 1048576 - ((L.length : Int) + (totR L : Int))) := Lib.hid (leftI_ge (by omega))
  obtain ⟨q0, hq0⟩ : ∃ q0, 1048576 - ((L.length : Int) + (totR L : Int)) = q0 := ⟨_, rfl⟩
  have hq1 : ¬ q0 < 0 := by omega
  rw [hq0] at HGE
  obtain ⟨hs1, hs2⟩ := rr_size p n L
  have hst := totR_mul hs2
  obtain ⟨S, hS⟩ : ∃ S, rrS p n L = S := ⟨_, rfl⟩
  obtain ⟨c, hc⟩ : ∃ c, rrC p n L = c := ⟨_, rfl⟩
  rw [hS] at hs1 hs2 hst
  have hso : S.length ≤ 1048576 := by omega
  have HSR2 : Hid (∀ r ∈ S, r.length ≤ 1048576) := Lib.hid (fun r hr => Nat.le_trans (hs2 r hr) (by decide))
  have HST : Hid (totR S ≤ 67108864) := Lib.hid (by omega)
  have HSP := Lib.hid (fun (v0 : Value) (w' : World) (k0 : SlR w' v0 L) => by have h := srr p n v0 L w' hm hmr k0; rw [hS, hc] at h; exact h)
  have HIM := Lib.hid (fun (v0 : Value) (w' : World) (k0 : SlR w' v0 L) => by have h := irr p n v0 L w' hm hmr k0; rw [hS, hc] at h; exact h)
  have htk : 0 ≤ (totR L : Int) := by omega
  obtain ⟨T, hT⟩ : ∃ T, (totR L : Int) = T := ⟨_, rfl⟩
  have HTT := Lib.hid hT
  have hT0 : ¬ (1 + T) < 0 := by omega
  have HHT := Lib.hid htot
  have hsk : 0 ≤ (totR S : Int) := by omega
  obtain ⟨Q, hQ⟩ : ∃ Q, (totR S : Int) = Q := ⟨_, rfl⟩
  have HQQ := Lib.hid hQ
  have hn1 : ¬ (1 + Q) < 0 := by omega
  have hn2 : ((1 + Q) != 1 + Q) = false := by simp
  have hcc : (c != c) = false := by simp
  clear hmr hnr hlong hq0 htot htk hT hsk hQ hS hc hs1 hs2 hst
  go_enter Try.func3, Try.ntmps3
  go_wp2_with fail
  ((with_reducible refine HSZ.out.mono ?_); rintro e w1 ⟨rfl, rfl⟩)
  rw [HGE.out]
  go_wp2_with fail
  ((with_reducible refine (torows _ L _ hm HMR.out hU0).mono ?_); rintro e w2 ⟨m0, rfl, hM0, hb⟩)
  have hW := hb
  clear hb
  go_wp2_with fail
  ((with_reducible refine (HSP.out _ _ hM0.slR).mono ?_); rintro e w3 ⟨vs, rfl, hs, hb⟩)
  have hW2 := hW.trans (hb.mono hW.size)
  clear hW hb hM0
  obtain ⟨sa, sc, rfl, _⟩ := id hs
  have hV0 := hU0.below hW2
  have K : Below w3.heap.size w3 w3 := Below.refl _ _
  go_wp2_with fail
  ((with_reducible refine (torows _ L _ hm HMR.out hV0).mono ?_); rintro e w4 ⟨x0, rfl, hx, hb⟩)
  have hX := hx.top
  have hKK := hb.size
  have K2 := K.trans hb
  clear K hb hx
  obtain ⟨xa, xc, rfl⟩ := hX.rr.shape
  go_wp2_with fail
  ((with_reducible refine (HIM.out _ _ hX.rr.slR).mono ?_); rintro e w5 ⟨v5, rfl, ho, hb⟩)
  obtain ⟨a5, c5, rfl⟩ := ho.shape
  have hX5 := hX.below hb
  have K5 := K2.trans (hb.mono K2.size)
  clear hX K2 hb
  go_wp2_with fail
  ((with_reducible refine (eqrows _ _ S _ hso HSR2.out ho.slR (hs.below K5)).mono ?_); rintro e w6 ⟨rfl, hb⟩)
  have hX6 := hX5.below hb
  have ho6 := ho.below hb
  have K6 := K5.trans (hb.mono K5.size)
  clear hX5 ho K5 hb
  go_wp2_with fail
  ((with_reducible refine (torows _ L _ hm HMR.out (hV0.below K6)).mono ?_); rintro e w7 ⟨y0, rfl, hy, hb⟩)
  have hX7 := hX6.below hb
  have ho7 := ho6.below hb
  have K7 := K6.trans (hb.mono K6.size)
  clear hX6 ho6 K6 hb
  go_wp2_with fail
  ((with_reducible refine (eqrows _ _ L _ hm HMR.out hX7.rr.slR hy.slR).mono ?_); rintro e w8 ⟨rfl, hb⟩)
  have hX8 := hX7.below hb
  have ho8 := ho7.below hb
  have K8 := K7.trans (hb.mono K7.size)
  clear hX7 ho7 K7 hb hy
  go_wp2_with fail
  ((with_reducible refine (hX8.markRR hm HHT.out HMR.out K8.size ho8).mono ?_); rintro e w9 ⟨rfl, ho9, hb⟩)
  have K9 := K8.trans hb
  clear hX8 ho8 K8 hb
  rw [HTT.out]
  go_wp2_with fail
  ((with_reducible refine (eqrows _ _ S _ hso HSR2.out ho9.slR (hs.below K9)).mono ?_); rintro e w10 ⟨rfl, hb⟩)
  have ho10 := (ho9.below hb).mono hKK
  have K10 := K9.trans (hb.mono K9.size)
  clear ho9 K9 hb
  go_wp2_with fail
  ((with_reducible refine (ho10.markT hso HSR2.out HST.out K10.size).mono ?_); rintro e w11 ⟨rfl, hM, hb⟩)
  have K11 := K10.trans hb
  have HHM := Lib.hid hM.held
  rw [HQQ.out] at HHM
  rw [HQQ.out]
  clear ho10 K10 hb
  go_wp2_with fail
  ((with_reducible refine HHM.out.mono ?_); rintro e w12 ⟨rfl, rfl⟩)
  clear HHM
  go_wp2_with fail
  ((with_reducible refine (torows _ L _ hm HMR.out (hV0.below K11)).mono ?_); rintro e w13 ⟨m0, rfl, hM0, hb⟩)
  have hM1 := hM.below hb
  have K13 := K11.trans (hb.mono K11.size)
  clear hM K11 hb
  go_wp2_with fail
  ((with_reducible refine (HIM.out _ _ hM0.slR).mono ?_); rintro e w14 ⟨v6, rfl, ho, hb⟩)
  clear hM0
  obtain ⟨a6, c6, rfl⟩ := ho.shape
  have hM2 := hM1.below hb
  have K14 := K13.trans (hb.mono K13.size)
  clear hM1 K13 hb
  go_wp2_with fail
  ((with_reducible refine (eqrows _ _ S _ hso HSR2.out ho.slR (hs.below K14)).mono ?_); rintro e w15 ⟨rfl, hb⟩)
  have hM3 := hM2.below hb
  have K15 := K14.trans (hb.mono K14.size)
  have HHM := Lib.hid hM3.held
  rw [HQQ.out] at HHM
  clear hM2 K14 hb ho
  go_wp2_with fail
  ((with_reducible refine HHM.out.mono ?_); rintro e w16 ⟨rfl, rfl⟩)
  have hend := hW2.trans (K15.mono hW2.size)
  go_wp2
  go_ret
  exact ⟨rfl, hend⟩
end Go.Proofs.Ytggogmbhlfddlaa
