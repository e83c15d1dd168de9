/-
  The law of 'FnExactProductExponents', walked. Conditions: as the theorem states.
-/
import Derived.Test.YtphgpadpffigjaaPe07
import Derived.Test.YtphgpadpffigjaaPe08
import Derived.Test.YtphgpadpffigjaaPe01
import Derived.Test.YtphgpadpffigjaaPe02
import Derived.Test.YtphgpadpffigjaaPe09
namespace Go.Proofs.Ytphgpadpffigjaa
open Go.RowKit Go.Sort Go.Maps EchM

theorem SlC.ofQ {w : World} {a : Option Addr} {G : List Pm} (h : SlP w (.slice a G.length G.length) G) : SlC w (.slice a G.length G.length) G := ⟨a, G.length, rfl, Nat.le_refl _, h⟩
theorem OwnRR.keepIv {w w' : World} {lo hi base : Nat} {v : Value} {S : List (List Int)} (h : OwnRR w base v S) (hg : GrewI lo hi w w') (hb : hi ≤ base) : OwnRR w' base v S := by
  obtain ⟨O, h1, h2, h3, h4⟩ := h
  refine ⟨O, h1, h2.imp id fun ⟨g, cap, a, b, N, f, c, hr, hf⟩ => ⟨g, cap, a, b, N, f, c, rowI hr hg (.inr (Nat.le_trans hb b)), hf⟩, fun e he => ?_, h4⟩
  obtain ⟨cap, N, f, hv, hbb, hN, hr, hf⟩ := h3 e he
  exact ⟨cap, N, f, hv, hbb, hN, rowI hr hg (.inr (Nat.le_trans hb hbb)), hf⟩
theorem totN_mulQ {c : Nat} : ∀ {S : List (List Int)}, (∀ r ∈ S, r.length ≤ c) → totR S ≤ c * S.length
  | [], _ => by simp [totR]
  | r :: S, h => by
    have h1 := h r (by simp)
    have h2 := totN_mulQ (S := S) fun x hx => h x (by simp [hx])
    show r.length + totR S ≤ c * (S.length + 1)
    rw [Nat.mul_add, Nat.mul_one, Nat.add_comm]
    exact Nat.add_le_add h2 h1

set_option maxRecDepth 8000 in
set_option maxHeartbeats 16000000 in
theorem law_Pe (lv : Value) (G : List Pm) (n : Int) (w : World) (hnG : G.length ≤ 9223372036854775807) (hnr : ∀ g ∈ G, g.2.2.length ≤ 9223372036854775807) (hbG : ∀ g ∈ G, ∀ t ∈ g.2.2, tmByte t) (hG : SlP w lv G) :
    Calls Try.prog 3 #[lv, .int .i64 n] w fun e w' => e = .returned (.bool true) ∧ Below w.heap.size w w' := by
  obtain ⟨la, lc, rfl, _⟩ := id hG
  go_enter Try.func3, Try.ntmps3
  go_wp2_with fail
  ((with_reducible refine (szpolys _ G 1048576 w (by decide) (by decide) hnG hnr hG).mono ?_); rintro e w1 ⟨rfl, hb1⟩)
  by_cases hbig : 1048576 - ((G.length + totP G : Nat) : Int) < 0
  · have HL := Lib.hid (leftOf_lt hbig)
    rw [HL.out]
    go_wp2
    go_ret
    exact ⟨rfl, hb1⟩
  have HL := Lib.hid (leftOf_ge hbig)
  have hlG : G.length ≤ 1048576 := by omega
  have htG : totP G ≤ 1048576 := by omega
  obtain ⟨lf2, hlf3⟩ : ∃ lf2, 1048576 - ((G.length + totP G : Nat) : Int) = lf2 := ⟨_, rfl⟩
  rw [HL.out, hlf3]
  rw [hlf3] at hbig
  have HLR : Hid (∀ g ∈ G, g.2.2.length ≤ 1048576) := Lib.hid (fun g hg => Nat.le_trans (totP_of hg) htG)
  have HOK : Hid (∀ g ∈ G, PmOk g) := Lib.hid (fun g hg => ⟨hbG g hg, HLR.out g hg⟩)
  clear HL hlf3 hnr hbG
  obtain ⟨hso, hs2⟩ := exp_size G n HOK.out
  have hst := totN_mulQ hs2
  have hSP := fun lv' w' k' => spe lv' G n w' hlG HOK.out k'
  have hIM := fun lv' w' k' => ipe lv' G n w' hlG HOK.out k'
  obtain ⟨S, hS⟩ : ∃ S, expS G n = S := ⟨_, rfl⟩
  obtain ⟨c, hc⟩ : ∃ c, someC G n = c := ⟨_, rfl⟩
  rw [hS] at hso hs2 hst hSP hIM
  rw [hc] at hSP hIM
  have HSP := Lib.hid hSP
  have HIM := Lib.hid hIM
  have HSR2 : Hid (∀ r ∈ S, r.length ≤ 1048576) := Lib.hid (fun r hr => Nat.le_trans (hs2 r hr) (by decide))
  have HST : Hid (totR S ≤ 67108864) := Lib.hid (by omega)
  have hsk : 0 ≤ (totR S : Int) := by omega
  obtain ⟨Q, hQ⟩ : ∃ Q, (totR S : Int) = Q := ⟨_, rfl⟩
  have HQQ := Lib.hid hQ
  have hn1 : ¬ (1 + Q) < 0 := by omega
  have hn2 : ((1 + Q) != 1 + Q) = false := by simp
  have hcc : (c != c) = false := by simp
  clear hsk hQ hSP hIM hS hc hs2 hst
  go_wp2_with fail
  ((with_reducible refine (topolys _ G _ hlG HLR.out (hG.below hb1)).mono ?_); rintro e wa ⟨va, rfl, owna, hba⟩)
  have hb2 := hb1.trans (hba.mono hb1.size)
  obtain ⟨ga, Fa, Ba, hva, _, _, _, _⟩ := owna.blocks
  subst hva
  have sla := owna.slP
  clear owna hba hb1
  go_wp2_with fail
  ((with_reducible refine (HSP.out _ _ (SlC.ofQ sla)).mono ?_); rintro e w3 ⟨sv3, rfl, hs3, hbs⟩)
  obtain ⟨a3, c3, rfl, _⟩ := id hs3
  have hbw3 := hb2.trans (hbs.mono hb2.size)
  have hG3 := hG.below hbw3
  have K3 : Below w3.heap.size w3 w3 := Below.refl _ _
  clear sla hbs hb2 HSP
  go_wp2_with fail
  ((with_reducible refine (topolys _ G _ hlG HLR.out hG3).mono ?_); rintro e w4 ⟨v4, rfl, own4, hb4⟩)
  obtain ⟨gb, FB, BB, hv4, hgb, hPW, hgblt, hBBlt⟩ := own4.blocks
  subst hv4
  have K4 := K3.trans hb4
  have s4 := hb4.size
  have slP4 : SlP w4 (.slice (some ⟨gb, 0, none⟩) G.length G.length) G := OwnPs.slP (base := 0) ⟨gb, FB, BB, rfl, Nat.zero_le _, hPW⟩
  clear own4 K3 hb4
  go_wp2_with fail
  ((with_reducible refine (HIM.out _ _ (SlC.ofQ slP4)).mono ?_); rintro e w6 ⟨v6, rfl, ho, hb6⟩)
  obtain ⟨a6, c6, rfl⟩ := ho.shape
  have K6 := K4.trans (hb6.mono K4.size)
  have hP6 := hPW.below hb6
  clear slP4 hPW K4 hb6
  go_wp2_with fail
  ((with_reducible refine (eqrows _ _ S _ hso HSR2.out ho.slR (hs3.below K6)).mono ?_); rintro e w7 ⟨rfl, hb⟩)
  have K7 := K6.trans (hb.mono K6.size)
  have hP7 := hP6.below hb
  have ho7 := ho.below hb
  clear K6 hP6 ho hb
  go_wp2_with fail
  ((with_reducible refine (topolys _ G _ hlG HLR.out (hG3.below K7)).mono ?_); rintro e w8 ⟨vt, rfl, ownt, hb⟩)
  have K8 := K7.trans (hb.mono K7.size)
  have hP8 := hP7.below hb
  have ho8 := ho7.below hb
  have hl8 : SlP w8 (.slice (some ⟨gb, 0, none⟩) G.length G.length) G := OwnPs.slP (base := 0) ⟨gb, FB, BB, rfl, Nat.zero_le _, hP8⟩
  clear K7 hP7 ho7 hb
  obtain ⟨gt, FT, BT, hvt, _, _, _, _⟩ := ownt.blocks
  subst hvt
  go_wp2_with fail
  ((with_reducible refine (eqpolys _ _ G _ hlG HLR.out hl8 ownt.slP).mono ?_); rintro e w9 ⟨rfl, hb⟩)
  have K9 := K8.trans (hb.mono K8.size)
  have hP9 := hP8.below hb
  have ho9 := ho8.below hb
  clear K8 hP8 ho8 hl8 ownt hb
  go_wp2_with fail
  ((with_reducible refine (markpolys gb w4.heap.size G FB BB 1 _ hlG HLR.out htG (by decide) (by decide) hP9 hBBlt hgblt).mono ?_); rintro e w12 ⟨rfl, hgI⟩)
  have K12 := K9.trans ((hgI.below (base := w3.heap.size) hgb K9.size))
  have ho12 := ho9.keepIv hgI (Nat.le_refl _)
  clear K9 hP9 ho9 hgI
  obtain ⟨kx, hkx⟩ : ∃ kx, (1 : Int) + 2 * (G.length : Int) + 4 * (totP G : Int) = kx := ⟨_, rfl⟩
  have hkx0 : ¬ kx < 0 := by omega
  rw [hkx]
  clear hkx
  go_wp2_with fail
  ((with_reducible refine (eqrows _ _ S _ hso HSR2.out ho12.slR (hs3.below K12)).mono ?_); rintro e w14 ⟨rfl, hb⟩)
  have K14 := K12.trans (hb.mono K12.size)
  have ho14 := (ho12.below hb).mono s4
  clear K12 ho12 hb
  go_wp2_with fail
  ((with_reducible refine (ho14.markT hso HSR2.out HST.out K14.size).mono ?_); rintro e w15 ⟨rfl, hM, hb⟩)
  have K15 := K14.trans hb
  have HHM := Lib.hid hM.held
  rw [HQQ.out] at HHM
  rw [HQQ.out]
  clear ho14 K14 hb
  go_wp2_with fail
  ((with_reducible refine HHM.out.mono ?_); rintro e w15' ⟨rfl, hw15⟩; have hw15 := hw15.symm; subst hw15)
  clear HHM
  go_wp2_with fail
  ((with_reducible refine (topolys _ G _ hlG HLR.out (hG3.below K15)).mono ?_); rintro e w16 ⟨vc, rfl, ownc, hb⟩)
  have K16 := K15.trans (hb.mono K15.size)
  have hM16 := hM.below hb
  obtain ⟨gc2, Fc2, Bc2, hvc, _, _, _, _⟩ := ownc.blocks
  subst hvc
  have slc := ownc.slP
  clear K15 hM ownc hb
  go_wp2_with fail
  ((with_reducible refine (HIM.out _ _ (SlC.ofQ slc)).mono ?_); rintro e w18 ⟨v18, rfl, ho18, hb⟩)
  obtain ⟨a18, c18, rfl⟩ := ho18.shape
  have K18 := K16.trans (hb.mono K16.size)
  have hM18 := hM16.below hb
  clear K16 hM16 slc hb
  go_wp2_with fail
  ((with_reducible refine (eqrows _ _ S _ hso HSR2.out ho18.slR (hs3.below K18)).mono ?_); rintro e w19 ⟨rfl, hb⟩)
  have K19 := K18.trans (hb.mono K18.size)
  have hM19 := hM18.below hb
  have HHM := Lib.hid hM19.held
  rw [HQQ.out] at HHM
  clear K18 hM18 ho18 hb
  go_wp2_with fail
  ((with_reducible refine HHM.out.mono ?_); rintro e w20 ⟨rfl, rfl⟩)
  have hend := hbw3.trans (K19.mono hbw3.size)
  go_wp2
  go_ret
  exact ⟨rfl, hend⟩
end Go.Proofs.Ytphgpadpffigjaa
