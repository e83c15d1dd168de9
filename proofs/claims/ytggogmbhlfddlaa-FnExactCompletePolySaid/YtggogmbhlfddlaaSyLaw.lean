/-
  The law of 'FnExactCompletePoly', walked. Conditions: as the theorem states.
-/
import Derived.Test.YtggogmbhlfddlaaSyc
import Derived.Test.YtggogmbhlfddlaaOl
import Derived.Test.YtggogmbhlfddlaaG
import Derived.Test.YtggogmbhlfddlaaMp
namespace Go.Proofs.Ytggogmbhlfddlaa
open Go.RowKit Go.Sort Go.Maps

set_option maxRecDepth 8000 in
set_option maxHeartbeats 16000000 in
theorem law_Cmp (p d k : Int) (w : World) :
    Calls Try.prog 8 #[.int .i64 p, .int .i64 d, .int .i64 k] w fun e w' => e = .returned (.bool true) ∧ Below w.heap.size w w' := by
  obtain ⟨o, ho⟩ : ∃ o, cmpO p d k = o := ⟨_, rfl⟩
  have hso : o.S.length ≤ 1048576 := by rw [← ho]; exact Nat.le_trans (cmpO_len p d k) (by decide)
  have HSP := Lib.hid (fun w' => scmp p d k w')
  have HIM := Lib.hid (fun w' => icmp p d k w')
  rw [ho] at HSP HIM
  clear ho
  obtain ⟨P, D, S, c⟩ := o
  simp only at hso
  go_enter Try.func8, Try.ntmps8
  go_wp2_with fail
  ((with_reducible refine (HSP.out _).mono ?_); rintro e w3 ⟨sv3, rfl, hp3, hbs⟩)
  simp only at hp3
  have ho3 := OwnP.slice hp3
  obtain ⟨a3, c3, rfl, _⟩ := id ho3
  obtain ⟨V3, hV3, hbV3, ⟨hV3s1, hV3s2⟩, rb0⟩ := newbox w3 P D (.slice a3 S.length c3)
  have K3 := hbs.trans (hbV3.mono hbs.size)
  have sm3 := (ho3.below hbV3).bound
  clear ho3 hp3 hbs hbV3
  go_upto_region 2 with fail
  rw [← hV3]
  clear hV3
  obtain ⟨N0, hN0⟩ : ∃ N0, V3.heap.size = N0 := ⟨_, rfl⟩
  have hB0lt : w3.heap.size < N0 := by have := rb0.lt; omega
  have hwN : w.heap.size ≤ N0 := by have := K3.size; omega
  go_wp2_with fail
  ((with_reducible refine (HIM.out _).mono ?_); rintro e wk ⟨sv5, rfl, ho5, hbk⟩)
  simp only at ho5
  obtain ⟨a5, c5, rfl⟩ := owns_slice ho5
  have sk := hbk.size
  obtain ⟨V6, hV6, hbV6, ⟨hV6s1, hV6s2⟩, rb2⟩ := newbox wk P D (.slice a5 S.length c5)
  have hbx := hbk.trans (hbV6.mono sk)
  have hg6 : OwnP V6 V3.heap.size (.slice a5 S.length c5) S := owns_belowT ho5 hbV6
  have st : LawR w V6 w3.heap.size wk.heap.size N0 P D (.slice a3 S.length c3) (.slice a5 S.length c5) S :=
    ⟨rowIs_below rb0 hbx rb0.lt, rb2, by rw [← hN0]; exact sm3.kept (below_grown hbx) (Nat.le_refl _) (fun g e => by simp at e), K3.trans (hbx.mono K3.size), hwN, by have := hbx.size; omega⟩
  have hcc : (c != c) = false := by simp
  have hB2 : V3.heap.size ≤ wk.heap.size := sk
  clear rb0 rb2 sm3 ho5 hbk hbV6 hbx K3 HSP
  go_upto_region 3 with fail
  rw [← hV6]
  clear hV6
  obtain ⟨⟨q0, q1, q2⟩, _⟩ := poly3 st.b2
  obtain ⟨⟨k0, k1, k2⟩, _⟩ := poly3 st.b0
  go_wp2_with fail
  ((with_reducible refine (eqPoly_same P D _ _ S _ hso (OwnP.slice hg6) (st.sm.slice st.n0.2)).mono ?_); rintro e w14 ⟨rfl, hb14⟩)
  have st14 := st.on hb14
  have hg14 : OwnP w14 V3.heap.size (.slice a5 S.length c5) S := owns_belowT hg6 hb14
  clear q0 q1 q2 k0 k1 k2 st hg6 hb14
  obtain ⟨⟨q0, q1, q2⟩, _⟩ := poly3 st14.b2
  go_wp2_with fail
  ((with_reducible refine (markPoly_own P D 1 _ (OwnG.of_owns hg14) hso (by decide) (by decide)).mono ?_); rintro e w15 ⟨rfl, hM15, hgr15⟩)
  have st15 := st14.step hgr15 (fun g e => by obtain ⟨h1, h2⟩ := (OwnG.of_owns hg14).row g e; exact ⟨by omega, h2⟩)
  clear q0 q1 q2 st14 hg14 hgr15
  obtain ⟨⟨q0, q1, q2⟩, _⟩ := poly3 st15.b2
  go_wp2_with fail
  ((with_reducible refine (heldPoly_marks P D 1 _ hM15 hso (by decide) (by decide)).mono ?_); rintro e w16 ⟨rfl, hb16⟩)
  have st16 := st15.on hb16
  have hM16 := hM15.below hb16
  clear q0 q1 q2 st15 hM15 hb16
  have hq2 : ¬ (1 : Int) + 4 * (S.length : Int) < 0 := by omega
  have hq3 : ((1 : Int) + 4 * (S.length : Int) != 1 + 4 * (S.length : Int)) = false := by simp
  go_wp2_with fail
  ((with_reducible refine (HIM.out _).mono ?_); rintro e w19 ⟨sv19, rfl, ho19, hb19⟩)
  simp only at ho19
  obtain ⟨a19, c19, rfl⟩ := owns_slice ho19
  obtain ⟨V19, hV19, hbV19, ⟨hV19s1, hV19s2⟩, rh⟩ := newbox w19 P D (.slice a19 S.length c19)
  have hbx := hb19.trans (hbV19.mono hb19.size)
  have hS19 := (OwnP.slice ho19).below hbV19
  have st19 := st16.on hbx
  have hM19 := hM16.below hbx
  clear st16 hM16 hbx ho19 hb19 hbV19
  go_upto_region 14 with fail
  rw [← hV19]
  clear hV19
  obtain ⟨⟨q0, q1, q2⟩, _⟩ := poly3 rh
  obtain ⟨⟨k0, k1, k2⟩, _⟩ := poly3 st19.b0
  go_wp2_with fail
  ((with_reducible refine (eqPoly_same P D _ _ S _ hso hS19 (st19.sm.slice st19.n0.2)).mono ?_); rintro e w20 ⟨rfl, hb20⟩)
  have st20 := st19.on hb20
  have hM20 := hM19.below hb20
  clear q0 q1 q2 k0 k1 k2 st19 hM19 hS19 rh hb20
  obtain ⟨⟨q0, q1, q2⟩, _⟩ := poly3 st20.b2
  go_wp2_with fail
  ((with_reducible refine (heldPoly_marks P D 1 _ hM20 hso (by decide) (by decide)).mono ?_); rintro e w21 ⟨rfl, hb21⟩)
  have hend := (st20.on hb21).below
  clear q0 q1 q2 st20 hM20 hb21
  go_wp2
  go_ret
  exact ⟨rfl, hend⟩
end Go.Proofs.Ytggogmbhlfddlaa
