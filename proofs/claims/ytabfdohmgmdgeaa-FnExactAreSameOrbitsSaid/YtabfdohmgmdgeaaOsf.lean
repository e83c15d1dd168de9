/-
  THE SAME ORBIT: 'spec.AreSameOrbits'. Conditions: the numbers of the matrices are bytes.
-/
import Derived.Test.YtabfdohmgmdgeaaOse
import Derived.Test.YtabfdohmgmdgeaaOsd
namespace Go.Proofs.Ytabfdohmgmdgeaa
open Go.RowKit Go.Sort EchM

set_option maxRecDepth 8000 in
set_option maxHeartbeats 4000000 in
theorem saso (p n : Int) (v u u' : Value) (L : List (Nat → Nat → Int)) (x y : List Int) (w : World) (hl : L.length ≤ 1048576) (hS : SlM w v L) (hby : ∀ g ∈ L, Byt g) (hxl : x.length ≤ 1048576) (hyl : y.length ≤ 1048576) (hU : Sl w u x) (hU' : Sl w u' y) :
    Calls Try.prog 5 #[.agg #[.int .i64 p, .int .i64 n, v], u, u'] w fun e w' => e = .returned (.tuple #[.bool (asoB p n L x y), .int .i64 (asoC p n L x y)]) ∧ Below w.heap.size w w' := by
  obtain ⟨W, hW, rW, hbW⟩ : ∃ W, W = w.alloc (.cells #[.int .i64 p, .int .i64 n, v] 31) ∧ W.rowIs w.heap.size 31 3 (grpF p n v) ∧ Below w.heap.size w W := ⟨_, rfl, gbox w p n v _, ebox1 _ _⟩
  have hSW := hS.below hbW
  have hUW := hU.below hbW
  have hUW' := hU'.below hbW
  obtain ⟨a, cap, rfl, hSc⟩ := id hS
  obtain ⟨ua, uc, rfl, _⟩ := id hU
  obtain ⟨ua', uc', rfl, _⟩ := id hU'
  obtain ⟨g0, g1, g2⟩ := gcells rW
  have HBY := Lib.hid hby
  obtain ⟨B, hB⟩ : ∃ B, asoB p n L x y = B := ⟨_, rfl⟩
  obtain ⟨C, hC⟩ : ∃ C, asoC p n L x y = C := ⟨_, rfl⟩
  have HB := Lib.hid hB
  have HC := Lib.hid hC
  have HCO := Lib.hid (sgroup p n _ L W hl hSW HBY.out)
  rw [hB, hC]
  clear hby hB hC
  go_enter Try.func5, Try.ntmps5
  go_wp2_with fail
  rw [← hW]
  clear hW
  ((with_reducible refine HCO.out.mono ?_); rintro e w1 ⟨rfl, hb1⟩)
  have rx1 := erow_below rW hb1 rW.lt
  have hbw1 := hbW.trans (hb1.mono hbW.size)
  have hS1 := hSW.below hb1
  have hU1 := hUW.below hb1
  have hU1' := hUW'.below hb1
  clear g0 g1 g2 HCO
  cases hg : isGrp p n L
  case false =>
    have HX : Hid (B = false ∧ C = 1) := Lib.hid (by rw [← HB.out, ← HC.out, (aso_grp hg).1, (aso_grp hg).2]; exact ⟨rfl, rfl⟩)
    clear hg
    go_wp2_with fail
    exact bodyPost_ret (v := .tuple #[.bool false, .int .i64 1]) (by simp [results, Try.results5, go_sem]) rfl ⟨by rw [HX.out.1, HX.out.2], hbw1⟩
  case true =>
    obtain ⟨m, rfl, m1, m3, hl48, hl1, hmv⟩ := isGrp_mats HBY.out hg
    obtain ⟨⟨hp2, hp13⟩, hn1⟩ := isGrp_pn hg
    have HP1 := Lib.hid (npoint_any p (m : Int) (.slice ua x.length uc) x w1 hp2 hp13 hn1 hxl hU1)
    have HP2 := Lib.hid (npoint_any p (m : Int) (.slice ua' y.length uc') y w1 hp2 hp13 hn1 hyl hU1')
    obtain ⟨h0, h1, h2⟩ := gcells rx1
    cases hpx : nptB p (m : Int) x
    · have HX : Hid (B = false ∧ C = 2) := Lib.hid (by
        have h := aso_pt (y := y) hg (by rw [hpx]; rfl : (nptB p (m : Int) x && nptB p (m : Int) y) = false)
        rw [← HB.out, ← HC.out, h.1, h.2]; exact ⟨rfl, rfl⟩)
      rw [hpx] at HP1
      clear hpx hmv hg HP2
      go_wp2_with fail
      ((with_reducible refine HP1.out.mono ?_); rintro e w2 ⟨rfl, hw2⟩; subst hw2)
      go_wp2_with fail
      exact bodyPost_ret (v := .tuple #[.bool false, .int .i64 2]) (by simp [results, Try.results5, go_sem]) rfl ⟨by rw [HX.out.1, HX.out.2], hbw1⟩
    · cases hpy : nptB p (m : Int) y
      · have HX : Hid (B = false ∧ C = 2) := Lib.hid (by
          have h := aso_pt (x := x) hg (by rw [hpy]; simp : (nptB p (m : Int) x && nptB p (m : Int) y) = false)
          rw [← HB.out, ← HC.out, h.1, h.2]; exact ⟨rfl, rfl⟩)
        rw [hpx] at HP1
        rw [hpy] at HP2
        clear hpx hpy hmv hg
        go_wp2_with fail
        ((with_reducible refine HP1.out.mono ?_); rintro e w2 ⟨rfl, hw2⟩; subst hw2)
        go_wp2_with fail
        ((with_reducible refine HP2.out.mono ?_); rintro e w2 ⟨rfl, hw2⟩; subst hw2)
        go_wp2_with fail
        exact bodyPost_ret (v := .tuple #[.bool false, .int .i64 2]) (by simp [results, Try.results5, go_sem]) rfl ⟨by rw [HX.out.1, HX.out.2], hbw1⟩
      · obtain ⟨hxm, hxp⟩ := nptB_of rfl hpx
        obtain ⟨hym, hyp⟩ := nptB_of rfl hpy
        have HX : Hid (B = decide (leastF x (imsL p m L x) = leastF y (imsL p m L y)) ∧ C = 0) := Lib.hid (by
          have h := aso_ok hg hpx hpy
          rw [← HB.out, ← HC.out, h.1, h.2]; exact ⟨rfl, rfl⟩)
        have hix := ims_len (p := p) (L := L) hxm
        have hiy := ims_len (p := p) (L := L) hym
        have HO1 := Lib.hid (fun w' (h : Below w1.heap.size w1 w') => sleast p m _ _ L x w' hg hl48 (hS1.below h) m1 m3 hmv hxm hxp (hU1.below h))
        have HO2 := Lib.hid (fun w' (h : Below w1.heap.size w1 w') => sleast p m _ _ L y w' hg hl48 (hS1.below h) m1 m3 hmv hym hyp (hU1'.below h))
        generalize leastF x (imsL p m L x) = X at *
        generalize leastF y (imsL p m L y) = Y at *
        have HSAM := Lib.hid (fun (v v' : Value) (w : World) (hS : Sl w v X) (hS' : Sl w v' Y) => ssame9 v v' X Y w (by omega) (by omega) hS hS')
        obtain ⟨E, hE⟩ : ∃ E, decide (X = Y) = E := ⟨_, rfl⟩
        rw [hE] at HX
        simp only [hE] at HSAM
        rw [hpx] at HP1
        rw [hpy] at HP2
        have KK := Lib.hid (fun w' (hq : Below w1.heap.size w1 w') => show w'.cell? ⟨w.heap.size, 0, none⟩ = some (.int .i64 p) ∧ w'.cell? ⟨w.heap.size, 1, none⟩ = some (.int .i64 (m : Int)) ∧ w'.cell? ⟨w.heap.size, 2, none⟩ = some (.slice a L.length cap) from gcells (erow_below rx1 hq rx1.lt))
        have hq0 : Below w1.heap.size w1 w1.drew := (Below.refl _ _).drew
        clear hE hpx hpy hmv hg hix hiy hxm hxp hym hyp
        go_wp2_with fail
        ((with_reducible refine HP1.out.mono ?_); rintro e w2 ⟨rfl, hw2⟩; subst hw2)
        go_wp2_with fail
        ((with_reducible refine HP2.out.mono ?_); rintro e w2 ⟨rfl, hw2⟩; subst hw2)
        go_upto_region 5 with fail
        clear h0 h1 h2
        go_region_held3 (fun w' => w'.cell? ⟨w.heap.size, 0, none⟩ = some (.int .i64 p) ∧ w'.cell? ⟨w.heap.size, 1, none⟩ = some (.int .i64 (m : Int)) ∧ w'.cell? ⟨w.heap.size, 2, none⟩ = some (.slice a L.length cap))
          (first | with_reducible exact KK.out _ hq0 | with_reducible exact KK.out _ hq5 | with_reducible exact KK.out _ hq6 | with_reducible exact KK.out _ hq7)
          (first
          | (go_at_call 15; (with_reducible refine (HO1.out _ hq0).mono ?_); rintro e w5 ⟨v5, rfl, hs5, hb5⟩; have hq5 := hq0.trans hb5)
          | (go_at_call 15; (with_reducible refine (HO2.out _ hq5).mono ?_); rintro e w6 ⟨v6, rfl, hs6, hb6⟩; have hq6 := hq5.trans (hb6.mono hq5.size); have hs56 := hs5.below hb6)
          | (go_at_call 14; (with_reducible refine (HSAM.out _ _ _ hs56 hs6).mono ?_); rintro e w7 ⟨rfl, hb7⟩; have hq7 := hq6.trans (hb7.mono hq6.size)))
        all_goals
          go_wp2_with fail
          exact bodyPost_ret (v := .tuple #[.bool E, .int .i64 0]) (by simp [results, Try.results5, go_sem]) rfl ⟨by rw [HX.out.1, HX.out.2], hbw1.trans (hq7.mono hbw1.size)⟩
end Go.Proofs.Ytabfdohmgmdgeaa
