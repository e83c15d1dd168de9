/-
  The law of 'FnExactFreeNumber', walked. Conditions: as the theorem states.
-/
import Derived.Test.YtbhgbifliihlbaaR16
import Derived.Test.YtbhgbifliihlbaaR15
namespace Go.Proofs.Ytbhgbifliihlbaa
open Go.RowKit Go.Sort Go.Maps

set_option maxRecDepth 8000 in
set_option maxHeartbeats 16000000 in
theorem law_Fr (lv : Value) (G : List Pm) (k0 : Int) (w : World) (hnG : G.length ≤ 9223372036854775807) (hnr : ∀ g ∈ G, g.2.2.length ≤ 9223372036854775807) (hbG : ∀ g ∈ G, ∀ t ∈ g.2.2, tmByte t) (hG : SlP w lv G) :
    Calls Try.prog 8 #[lv, .int .i64 k0] w fun e w' => e = .returned (.bool true) ∧ Below w.heap.size w w' := by
  obtain ⟨la, lc, rfl, _⟩ := id hG
  go_enter Try.func8, Try.ntmps8
  go_wp2_with fail
  ((with_reducible refine (szpolys _ G 1048576 w (by decide) (by decide) hnG hnr hG).mono ?_); rintro e w1 ⟨rfl, hb1⟩)
  by_cases hbig : 1048576 - ((G.length + totP G : Nat) : Int) < 0
  · have HL := Lib.hid (leftOf_lt hbig)
    rw [HL.out]
    go_wp2
    go_ret
    exact ⟨rfl, hb1⟩
  have HL := Lib.hid (leftOf_ge hbig)
  have hlG : G.length ≤ 1048576 := by omega
  have htG : totP G ≤ 1048576 := by omega
  obtain ⟨lf2, hlf3⟩ : ∃ lf2, 1048576 - ((G.length + totP G : Nat) : Int) = lf2 := ⟨_, rfl⟩
  rw [HL.out, hlf3]
  rw [hlf3] at hbig
  have HLR : Hid (∀ g ∈ G, g.2.2.length ≤ 1048576) := Lib.hid (fun g hg => Nat.le_trans (totP_of hg) htG)
  have HOK : Hid (∀ g ∈ G, PmOk g) := Lib.hid (fun g hg => ⟨hbG g hg, HLR.out g hg⟩)
  clear HL hlf3 hnr hbG htG
  have hG1 := hG.below hb1
  obtain ⟨x, hx⟩ : ∃ x : Int, freeV G k0 = x := ⟨_, rfl⟩
  obtain ⟨c, hc⟩ : ∃ c : Int, someC G k0 = c := ⟨_, rfl⟩
  have HSP := Lib.hid (fun lv' w' k' => sfree lv' G k0 w' hlG HOK.out k')
  have HIM := Lib.hid (fun lv' w' k' => ifree lv' G k0 w' hlG HOK.out k')
  rw [hx, hc] at HSP HIM
  clear hx hc
  go_wp2_with fail
  ((with_reducible refine (topolys _ G _ hlG HLR.out hG1).mono ?_); rintro e w2 ⟨va, rfl, owna, hb2⟩)
  have hbw2 := hb1.trans (hb2.mono hb1.size)
  obtain ⟨ga, Fa, Ba, hva, _, _, _, _⟩ := owna.blocks
  subst hva
  go_wp2_with fail
  ((with_reducible refine (HSP.out _ _ (SlC.of owna.slP)).mono ?_); rintro e w3 ⟨rfl, hb3⟩)
  have hbw3 := hbw2.trans (hb3.mono hbw2.size)
  have hG3 := hG.below hbw3
  clear owna hb2 hb3 hbw2 hb1 hG1
  go_wp2_with fail
  ((with_reducible refine (topolys _ G _ hlG HLR.out hG3).mono ?_); rintro e w4 ⟨v4, rfl, own4, hb4⟩)
  have hbw4 := hbw3.trans (hb4.mono hbw3.size)
  obtain ⟨g4, F4, B4, hv4, _, _, _, _⟩ := own4.blocks
  subst hv4
  clear hb4 hbw3 hG3
  go_wp2_with fail
  ((with_reducible refine (HIM.out _ _ (SlC.of own4.slP)).mono ?_); rintro e w5 ⟨rfl, hb5⟩)
  have hbw5 := hbw4.trans (hb5.mono hbw4.size)
  have own5 := own4.below hb5
  have hG5 := hG.below hbw5
  have hcc : (c != c) = false := by simp
  have hxx : (x != x) = false := by simp
  clear own4 hb5 hbw4
  go_wp2_with fail
  ((with_reducible refine (topolys _ G _ hlG HLR.out hG5).mono ?_); rintro e w6 ⟨v6, rfl, own6, hb6⟩)
  have hbw6 := hbw5.trans (hb6.mono hbw5.size)
  have sl5 := (own5.below hb6).slP
  obtain ⟨g6, F6, B6, hv6, _, _, _, _⟩ := own6.blocks
  subst hv6
  clear own5 hb6 hG5
  go_wp2_with fail
  ((with_reducible refine (eqpolys _ _ G _ hlG HLR.out sl5 own6.slP).mono ?_); rintro e w7 ⟨rfl, hb7⟩)
  have hend := hbw6.trans (hb7.mono hbw6.size)
  go_wp2
  go_ret
  exact ⟨rfl, hend⟩
end Go.Proofs.Ytbhgbifliihlbaa
