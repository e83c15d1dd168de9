/-
  The law of 'FnExactSeriesOfDegrees', walked. Conditions: as the theorem states.
-/
import Derived.Test.YtgbnlnpffhlipaaIf
namespace Go.Proofs.Ytgbnlnpffhlipaa
open Go.RowKit Go.Sort

set_option maxRecDepth 8000 in
set_option maxHeartbeats 8000000 in
theorem law_SeriesOfDegrees (u0 : Value) (l0 : List Int) (a1 : Int) (w : World) (hn0 : l0.length ≤ 9223372036854775807) (hU0 : Sl w u0 l0) :
    Calls Try.prog 3 #[u0, .int .i64 a1] w fun e w' => e = .returned (.bool true) ∧ Below w.heap.size w w' := by
  obtain ⟨ua0, uc0, rfl, _⟩ := id hU0
  by_cases hlong0 : 1048576 < l0.length
  · go_enter Try.func3, Try.ntmps3
    go_wp2_with fail
    go_ret
    exact ⟨rfl, Below.refl _ _⟩
  have hm0 : l0.length ≤ 1048576 := by omega
  clear hlong0
  obtain ⟨⟨S, c⟩, hr⟩ : ∃ o, rSer l0 a1 = o := ⟨_, rfl⟩
  have hso : S.length ≤ 1048576 := by have h := rSer_len l0 a1 hm0; rw [hr] at h; exact h
  have HSP := Lib.hid (fun (v0 : Value) (w' : World) (k0 : Sl w' v0 l0) => by have h := sSer v0 l0 a1 w' hm0 k0; rw [hr] at h; exact h)
  have HIM := Lib.hid (fun (v0 : Value) (w' : World) (k0 : Sl w' v0 l0) => by have h := iSer v0 l0 a1 w' hm0 k0; rw [hr] at h; exact h)
  clear hr
  have hcc : (c != c) = false := by simp
  go_enter Try.func3, Try.ntmps3
  have hW : Below w.heap.size w w := Below.refl _ _
  go_wp2_with fail
  ((with_reducible refine (ntoI_any _ l0 _ hm0 (hU0.below hW)).mono ?_); rintro e w1 ⟨m0, rfl, hM0, hb⟩)
  have hW' := hW.trans (hb.mono hW.size)
  clear hW
  have hW := hW'
  clear hW'
  clear hb
  go_wp2_with fail
  ((with_reducible refine (HSP.out _ _ hM0).mono ?_); rintro e w2 ⟨vs, rfl, hs, hb⟩)
  clear hM0
  have hW' := hW.trans (hb.mono hW.size)
  clear hW
  have hW := hW'
  clear hW'
  clear hb
  obtain ⟨sa, sc, rfl, _⟩ := id hs
  have hU0' := hU0.below hW
  clear hU0
  have hU0 := hU0'
  clear hU0'
  have K : Below w2.heap.size w2 w2 := Below.refl _ _
  go_wp2_with fail
  ((with_reducible refine (ntoI_own _ l0 _ hm0 (hU0.below K)).mono ?_); rintro e w3 ⟨x0, rfl, hx0, hb⟩)
  obtain ⟨q0, f0, hq0, hg0, hr0, _⟩ := id hx0
  subst hq0
  have hlt0 := hr0.lt
  have hge0 := Nat.le_trans K.size hg0
  clear hg0 hr0
  have K' := K.trans (hb.mono K.size)
  clear K
  have K := K'
  clear K'
  clear hb
  go_wp2_with fail
  ((with_reducible refine (HIM.out _ _ hx0.slice).mono ?_); rintro e w4 ⟨v5, rfl, ho, hb⟩)
  obtain ⟨a5, c5, rfl⟩ := ho.shape
  have HUB := Lib.hid (show w2.heap.size ≤ q0 ∧ q0 < w3.heap.size ∧ w2.heap.size ≤ w3.heap.size from ⟨hge0, hlt0, K.size⟩)
  clear hge0 hlt0
  have hx0' := hx0.below hb
  clear hx0
  have hx0 := hx0'
  clear hx0'
  have K' := K.trans (hb.mono K.size)
  clear K
  have K := K'
  clear K'
  clear hb
  go_wp2_with fail
  ((with_reducible refine (neqI_same _ _ S _ hso ho.sl (hs.below K)).mono ?_); rintro e w5 ⟨rfl, hb⟩)
  have hx0' := hx0.below hb
  clear hx0
  have hx0 := hx0'
  clear hx0'
  have ho' := ho.below hb
  clear ho
  have ho := ho'
  clear ho'
  have K' := K.trans (hb.mono K.size)
  clear K
  have K := K'
  clear K'
  clear hb
  go_wp2_with fail
  ((with_reducible refine (ntoI_any _ l0 _ hm0 (hU0.below K)).mono ?_); rintro e w6 ⟨y0, rfl, hy, hb⟩)
  have hx0' := hx0.below hb
  clear hx0
  have hx0 := hx0'
  clear hx0'
  have ho' := ho.below hb
  clear ho
  have ho := ho'
  clear ho'
  have K' := K.trans (hb.mono K.size)
  clear K
  have K := K'
  clear K'
  clear hb
  go_wp2_with fail
  ((with_reducible refine (neqI_same _ _ l0 _ hm0 hx0.slice hy).mono ?_); rintro e w7 ⟨rfl, hb⟩)
  clear hy
  have hx0' := hx0.below hb
  clear hx0
  have hx0 := hx0'
  clear hx0'
  have ho' := ho.below hb
  clear ho
  have ho := ho'
  clear ho'
  have K' := K.trans (hb.mono K.size)
  clear K
  have K := K'
  clear K'
  clear hb
  go_wp2_with fail
  ((with_reducible refine (nmarkI_own (1) _ hx0 hm0 (by omega) (by omega)).mono ?_); rintro e w8 ⟨rfl, hg⟩)
  have hg' : w7.grownBy w8 (some q0) := hg
  have K' := K.grown hg' K.size (fun q hq => by simp at hq; have := HUB.out; omega)
  clear K
  have K := K'
  clear K'
  have ho' := ho.kept hg' (by have := HUB.out; omega)
  clear ho
  have ho := ho'
  clear ho'
  clear hg hg'
  clear hx0
  have hnt : ¬ (1 + (l0.length : Int)) < 0 := by omega
  go_wp2_with fail
  ((with_reducible refine (neqI_same _ _ S _ hso ho.sl (hs.below K)).mono ?_); rintro e w9 ⟨rfl, hb⟩)
  have ho' := ho.below hb
  clear ho
  have ho := ho'
  clear ho'
  have K' := K.trans (hb.mono K.size)
  clear K
  have K := K'
  clear K'
  clear hb
  clear hnt
  have ho' := ho.mono (show w2.heap.size ≤ w3.heap.size by have := HUB.out; omega)
  clear ho
  have ho := ho'
  clear ho'
  have hn1 : ¬ (1 + (S.length : Int)) < 0 := by omega
  have hn2 : ((1 + (S.length : Int)) != 1 + (S.length : Int)) = false := by simp
  go_wp2_with fail
  ((with_reducible refine (ho.mark hso K.size).mono ?_); rintro e w10 ⟨rfl, hM, hb⟩)
  clear ho
  have K' := K.trans hb
  clear K
  have K := K'
  clear K'
  clear hb
  go_wp2_with fail
  ((with_reducible refine (hM.held hso).mono ?_); rintro e w11 ⟨rfl, rfl⟩)
  go_wp2_with fail
  ((with_reducible refine (ntoI_any _ l0 _ hm0 (hU0.below K)).mono ?_); rintro e w12 ⟨m0, rfl, hM0, hb⟩)
  have hM' := hM.below hb
  clear hM
  have hM := hM'
  clear hM'
  have K' := K.trans (hb.mono K.size)
  clear K
  have K := K'
  clear K'
  clear hb
  go_wp2_with fail
  ((with_reducible refine (HIM.out _ _ hM0).mono ?_); rintro e w13 ⟨v6, rfl, ho, hb⟩)
  clear hM0
  obtain ⟨a6, c6, rfl⟩ := ho.shape
  have hM' := hM.below hb
  clear hM
  have hM := hM'
  clear hM'
  have K' := K.trans (hb.mono K.size)
  clear K
  have K := K'
  clear K'
  clear hb
  go_wp2_with fail
  ((with_reducible refine (neqI_same _ _ S _ hso ho.sl (hs.below K)).mono ?_); rintro e w14 ⟨rfl, hb⟩)
  clear ho
  have hM' := hM.below hb
  clear hM
  have hM := hM'
  clear hM'
  have K' := K.trans (hb.mono K.size)
  clear K
  have K := K'
  clear K'
  clear hb
  go_wp2_with fail
  ((with_reducible refine (hM.held hso).mono ?_); rintro e w15 ⟨rfl, rfl⟩)
  have hend := hW.trans (K.mono hW.size)
  go_wp2
  go_ret
  exact ⟨rfl, hend⟩
end Go.Proofs.Ytgbnlnpffhlipaa
