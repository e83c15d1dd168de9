/-
  The law of 'FnExactIsFromBehind', walked. Conditions: as the theorem states.
-/
import Derived.Test.YtfbagpndkihcpaaRl
namespace Go.Proofs.Ytfbagpndkihcpaa
open Go.RowKit Go.Sort

set_option maxRecDepth 8000 in
set_option maxHeartbeats 8000000 in
theorem law_IsFromBehind (u0 : Value) (l0 : List Int) (w : World) (hn0 : l0.length ≤ 9223372036854775807) (hU0 : Sl w u0 l0) :
    Calls Try.prog 6 #[u0] w fun e w' => e = .returned (.bool true) ∧ Below w.heap.size w w' := by
  obtain ⟨ua0, uc0, rfl, _⟩ := id hU0
  by_cases hlong0 : 1048576 < l0.length
  · go_enter Try.func6, Try.ntmps6
    go_wp2_with fail
    go_ret
    exact ⟨rfl, Below.refl _ _⟩
  have hm0 : l0.length ≤ 1048576 := by omega
  clear hlong0
  obtain ⟨⟨B, c⟩, hr⟩ : ∃ o, rBack l0 = o := ⟨_, rfl⟩
  have HSP := Lib.hid (fun (v0 : Value) (w' : World) (k0 : Sl w' v0 l0) => by have h := sBack v0 l0 w' hm0 k0; rw [hr] at h; exact h)
  have HIM := Lib.hid (fun (v0 : Value) (w' : World) (k0 : Sl w' v0 l0) => by have h := iBack v0 l0 w' hm0 k0; rw [hr] at h; exact h)
  clear hr
  have hcc : (c != c) = false := by simp
  have hbb : (B != B) = false := by cases B <;> rfl
  go_enter Try.func6, Try.ntmps6
  have hW : Below w.heap.size w w := Below.refl _ _
  go_wp2_with fail
  ((with_reducible refine (ntoI_any _ l0 _ hm0 (hU0.below hW)).mono ?_); rintro e w1 ⟨M0, rfl, hM0, hb⟩)
  have hW' := hW.trans (hb.mono hW.size)
  clear hW
  have hW := hW'
  clear hW'
  clear hb
  go_wp2_with fail
  ((with_reducible refine (HSP.out _ _ hM0).mono ?_); rintro e w2 ⟨rfl, hb⟩)
  clear hM0
  have hW' := hW.trans (hb.mono hW.size)
  clear hW
  have hW := hW'
  clear hW'
  clear hb
  go_wp2_with fail
  ((with_reducible refine (ntoI_any _ l0 _ hm0 (hU0.below hW)).mono ?_); rintro e w3 ⟨X0, rfl, hX0, hb⟩)
  have hW' := hW.trans (hb.mono hW.size)
  clear hW
  have hW := hW'
  clear hW'
  clear hb
  go_wp2_with fail
  ((with_reducible refine (HIM.out _ _ hX0).mono ?_); rintro e w4 ⟨rfl, hb⟩)
  have hX0' := hX0.below hb
  clear hX0
  have hX0 := hX0'
  clear hX0'
  have hW' := hW.trans (hb.mono hW.size)
  clear hW
  have hW := hW'
  clear hW'
  clear hb
  go_wp2_with fail
  ((with_reducible refine (ntoI_any _ l0 _ hm0 (hU0.below hW)).mono ?_); rintro e w5 ⟨y0, rfl, hy, hb⟩)
  have hX0' := hX0.below hb
  clear hX0
  have hX0 := hX0'
  clear hX0'
  have hW' := hW.trans (hb.mono hW.size)
  clear hW
  have hW := hW'
  clear hW'
  clear hb
  go_wp2_with fail
  ((with_reducible refine (neqI_same _ _ l0 _ hm0 hX0 hy).mono ?_); rintro e w6 ⟨rfl, hb⟩)
  clear hy
  have hX0' := hX0.below hb
  clear hX0
  have hX0 := hX0'
  clear hX0'
  have hW' := hW.trans (hb.mono hW.size)
  clear hW
  have hW := hW'
  clear hW'
  clear hb
  go_wp2
  go_ret
  exact ⟨rfl, hW⟩
end Go.Proofs.Ytfbagpndkihcpaa
