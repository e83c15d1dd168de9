/-
  The law of 'FnExactPolyOfRow', walked. Conditions: as the theorem states.
-/
import Derived.Test.YtbhgbifliihlbaaT02
import Derived.Test.YtbhgbifliihlbaaR21
import Derived.Test.YtbhgbifliihlbaaR06
import Derived.Test.YtbhgbifliihlbaaR15
namespace Go.Proofs.Ytbhgbifliihlbaa
open Go.RowKit Go.Sort Go.Maps

set_option maxRecDepth 8000 in
set_option maxHeartbeats 16000000 in
theorem law_Por (p d n : Int) (ev : Value) (es : List Int) (w : World) (hne : es.length ≤ 9223372036854775807) (hE : Sl w ev es) :
    Calls Try.prog 7 #[.int .i64 p, .int .i64 d, .int .i64 n, ev] w fun e w' => e = .returned (.bool true) ∧ Below w.heap.size w w' := by
  obtain ⟨ea, ec, rfl, _⟩ := id hE
  by_cases hbe : (1048576 : Int) < (es.length : Int)
  · go_enter Try.func7, Try.ntmps7
    go_wp2_with fail
    go_ret
    exact ⟨rfl, Below.refl _ _⟩
  have hle : es.length ≤ 1048576 := by omega
  obtain ⟨o, ho⟩ : ∃ o, porO p d n es = o := ⟨_, rfl⟩
  have hso : o.S.length ≤ 1048576 := by rw [← ho]; exact Nat.le_trans (porO_len p d n es) (by decide)
  have HSP := Lib.hid (fun ev' w' k' => spolr p d n ev' es w' hle k')
  have HIM := Lib.hid (fun ev' w' k' => ipolr p d n ev' es w' hle k')
  rw [ho] at HSP HIM
  clear ho
  obtain ⟨P, D, S, c⟩ := o
  simp only at hso
  go_enter Try.func7, Try.ntmps7
  go_wp2_with fail
  ((with_reducible refine (ntoI_own _ es _ hle hE).mono ?_); rintro e wb ⟨vb, rfl, ownb, hb3⟩)
  clear hbe
  have slb := ownb.slice
  obtain ⟨gq, hvb, _, _⟩ := ownb.blk
  subst hvb
  clear ownb
  go_wp2_with fail
  ((with_reducible refine (HSP.out _ _ slb).mono ?_); rintro e w3 ⟨sv3, rfl, hp3, hbs⟩)
  simp only at hp3
  have ho3 := OwnP.slice hp3
  obtain ⟨a3, c3, rfl, _⟩ := id ho3
  obtain ⟨V3, hV3, hbV3, ⟨hV3s1, hV3s2⟩, rb0⟩ := newbox w3 P D (.slice a3 S.length c3)
  have K3 := (hb3.trans (hbs.mono hb3.size)).trans (hbV3.mono (Nat.le_trans hb3.size hbs.size))
  have sm3 := (ho3.below hbV3).bound
  clear slb ho3 hp3 hbs hbV3 hb3
  go_upto_region 4 with fail
  rw [← hV3]
  clear hV3
  obtain ⟨N0, hN0⟩ : ∃ N0, V3.heap.size = N0 := ⟨_, rfl⟩
  have hB0lt : w3.heap.size < N0 := by have := rb0.lt; omega
  have hwN : w.heap.size ≤ N0 := by have := K3.size; omega
  go_wp2_with fail
  ((with_reducible refine (ntoI_own _ es _ hle (hE.below K3)).mono ?_); rintro e w5 ⟨v5, rfl, own5, hb5⟩)
  have K5 := K3.trans (hb5.mono K3.size)
  have s5 := hb5.size
  have slE5 := own5.slice
  obtain ⟨gx, hvx, hgx, hgxlt⟩ := own5.blk
  subst hvx
  go_wp2_with fail
  ((with_reducible refine (HIM.out _ _ slE5).mono ?_); rintro e wk ⟨sv5, rfl, ho5, hbk⟩)
  simp only at ho5
  obtain ⟨a5, c5, rfl⟩ := owns_slice ho5
  have sk := hbk.size
  obtain ⟨V6, hV6, hbV6, ⟨hV6s1, hV6s2⟩, rb2⟩ := newbox wk P D (.slice a5 S.length c5)
  have hbx := hbk.trans (hbV6.mono sk)
  have hg6 : OwnP V6 w5.heap.size (.slice a5 S.length c5) S := owns_belowT ho5 hbV6
  have hb46 := hb5.trans (hbx.mono s5)
  have st : LawR w V6 w3.heap.size wk.heap.size N0 P D (.slice a3 S.length c3) (.slice a5 S.length c5) S :=
    ⟨rowIs_below rb0 hb46 rb0.lt, rb2, by rw [← hN0]; exact sm3.kept (below_grown hb46) (Nat.le_refl _) (fun g e => by simp at e), K5.trans (hbx.mono K5.size), hwN, by have := hb46.size; omega⟩
  have hx6 := own5.on hbx
  rw [hN0] at hgx s5
  have hcc : (c != c) = false := by simp
  have hB2 : w5.heap.size ≤ wk.heap.size := sk
  clear rb0 rb2 sm3 ho5 hbk hbV6 hbx hb46 hb5 own5 slE5 K3 K5 HSP
  go_upto_region 6 with fail
  rw [← hV6]
  clear hV6
  obtain ⟨⟨q0, q1, q2⟩, _⟩ := poly3 st.b2
  obtain ⟨⟨k0, k1, k2⟩, _⟩ := poly3 st.b0
  go_wp2_with fail
  ((with_reducible refine (eqPoly_same P D _ _ S _ hso (OwnP.slice hg6) (st.sm.slice st.n0.2)).mono ?_); rintro e w7 ⟨rfl, hb7⟩)
  clear q0 q1 q2 k0 k1 k2
  have st9 := st.on hb7
  have hx9 := hx6.on hb7
  have hg9 : OwnP w7 w5.heap.size (.slice a5 S.length c5) S := owns_belowT hg6 hb7
  clear st hx6 hg6 hb7
  go_wp2_with fail
  ((with_reducible refine (ntoI_own _ es _ hle (hE.below st9.below)).mono ?_); rintro e wv ⟨vv, rfl, ownv, hbv⟩)
  have st10 := st9.on hbv
  have hx10 := hx9.on hbv
  have hg10 : OwnP wv w5.heap.size (.slice a5 S.length c5) S := owns_belowT hg9 hbv
  obtain ⟨gv, hvv, _, _⟩ := ownv.blk
  subst hvv
  clear st9 hx9 hg9 hbv
  go_wp2_with fail
  ((with_reducible refine (neqI_same _ _ es _ hle hx10.slice ownv.slice).mono ?_); rintro e ww ⟨rfl, hbw⟩)
  have st12 := st10.on hbw
  have hx12 := hx10.on hbw
  have hg12 : OwnP ww w5.heap.size (.slice a5 S.length c5) S := owns_belowT hg10 hbw
  clear st10 hx10 hg10 ownv hbw
  go_wp2_with fail
  ((with_reducible refine (nmarkI_own 1 _ hx12 hle (by decide) (by decide)).mono ?_); rintro e wy ⟨rfl, hgr⟩)
  have hgJ : GrewI N0 w5.heap.size ww wy := GrewI.one (b := gx) (by omega) hgxlt hgr
  have st13 := st12.stepI hgJ (by omega) (by omega) (Nat.le_refl _)
  have hg13 : OwnP wy w5.heap.size (.slice a5 S.length c5) S := hg12.keepI hgJ (Nat.le_refl _)
  have hky : ¬ 1 + (es.length : Int) < 0 := by omega
  obtain ⟨ky, hkyy⟩ : ∃ ky, (1 : Int) + (es.length : Int) = ky := ⟨_, rfl⟩
  rw [hkyy] at hky ⊢
  clear st12 hx12 hg12 hgr hgJ hkyy
  obtain ⟨⟨q0, q1, q2⟩, _⟩ := poly3 st13.b2
  obtain ⟨⟨k0, k1, k2⟩, _⟩ := poly3 st13.b0
  go_wp2_with fail
  ((with_reducible refine (eqPoly_same P D _ _ S _ hso (OwnP.slice hg13) (st13.sm.slice st13.n0.2)).mono ?_); rintro e w14 ⟨rfl, hb14⟩)
  have st14 := st13.on hb14
  have hg14 : OwnP w14 w5.heap.size (.slice a5 S.length c5) S := owns_belowT hg13 hb14
  clear q0 q1 q2 k0 k1 k2 st13 hg13 hb14
  obtain ⟨⟨q0, q1, q2⟩, _⟩ := poly3 st14.b2
  go_wp2_with fail
  ((with_reducible refine (markPoly_own P D 1 _ (OwnG.of_owns hg14) hso (by decide) (by decide)).mono ?_); rintro e w15 ⟨rfl, hM15, hgr15⟩)
  have st15 := st14.step hgr15 (fun g e => by obtain ⟨h1, h2⟩ := (OwnG.of_owns hg14).row g e; exact ⟨by omega, h2⟩)
  clear q0 q1 q2 st14 hg14 hgr15
  obtain ⟨⟨q0, q1, q2⟩, _⟩ := poly3 st15.b2
  go_wp2_with fail
  ((with_reducible refine (heldPoly_marks P D 1 _ hM15 hso (by decide) (by decide)).mono ?_); rintro e w16 ⟨rfl, hb16⟩)
  have st16 := st15.on hb16
  have hM16 := hM15.below hb16
  clear q0 q1 q2 st15 hM15 hb16
  have hq2 : ¬ (1 : Int) + 4 * (S.length : Int) < 0 := by omega
  have hq3 : ((1 : Int) + 4 * (S.length : Int) != 1 + 4 * (S.length : Int)) = false := by simp
  go_wp2_with fail
  ((with_reducible refine (ntoI_own _ es _ hle (hE.below st16.below)).mono ?_); rintro e wd ⟨vd, rfl, ownd, hbd⟩)
  have st18 := st16.on hbd
  have hM18 := hM16.below hbd
  have sld := ownd.slice
  obtain ⟨gd2, hvd, _, _⟩ := ownd.blk
  subst hvd
  clear st16 hM16 ownd hbd
  go_wp2_with fail
  ((with_reducible refine (HIM.out _ _ sld).mono ?_); rintro e w19 ⟨sv19, rfl, ho19, hb19⟩)
  simp only at ho19
  obtain ⟨a19, c19, rfl⟩ := owns_slice ho19
  obtain ⟨V19, hV19, hbV19, ⟨hV19s1, hV19s2⟩, rh⟩ := newbox w19 P D (.slice a19 S.length c19)
  have hbx := hb19.trans (hbV19.mono hb19.size)
  have hS19 := (OwnP.slice ho19).below hbV19
  have st19 := st18.on hbx
  have hM19 := hM18.below hbx
  clear st18 hM18 hbx sld ho19 hb19 hbV19
  go_upto_region 23 with fail
  rw [← hV19]
  clear hV19
  obtain ⟨⟨q0, q1, q2⟩, _⟩ := poly3 rh
  obtain ⟨⟨k0, k1, k2⟩, _⟩ := poly3 st19.b0
  go_wp2_with fail
  ((with_reducible refine (eqPoly_same P D _ _ S _ hso hS19 (st19.sm.slice st19.n0.2)).mono ?_); rintro e w20 ⟨rfl, hb20⟩)
  have st20 := st19.on hb20
  have hM20 := hM19.below hb20
  clear q0 q1 q2 k0 k1 k2 st19 hM19 hS19 rh hb20
  obtain ⟨⟨q0, q1, q2⟩, _⟩ := poly3 st20.b2
  go_wp2_with fail
  ((with_reducible refine (heldPoly_marks P D 1 _ hM20 hso (by decide) (by decide)).mono ?_); rintro e w21 ⟨rfl, hb21⟩)
  have hend := (st20.on hb21).below
  clear q0 q1 q2 st20 hM20 hb21
  go_wp2
  go_ret
  exact ⟨rfl, hend⟩
end Go.Proofs.Ytbhgbifliihlbaa
