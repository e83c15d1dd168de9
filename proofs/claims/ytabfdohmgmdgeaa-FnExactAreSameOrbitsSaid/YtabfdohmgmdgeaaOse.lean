/-
  THE SAME ORBIT: 'impl.AreSameOrbits'. Conditions: the numbers of the matrices are bytes.
-/
import Derived.Test.YtabfdohmgmdgeaaOsc
namespace Go.Proofs.Ytabfdohmgmdgeaa
open Go.RowKit Go.Sort EchM

def asoC (p n : Int) (L : List (Nat → Nat → Int)) (x y : List Int) : Int := if isGrp p n L then (if nptB p n x && nptB p n y then 0 else 2) else 1
def asoB (p n : Int) (L : List (Nat → Nat → Int)) (x y : List Int) : Bool := isGrp p n L && ((nptB p n x && nptB p n y) && decide (leastF x (imsL p n.toNat L x) = leastF y (imsL p n.toNat L y)))
theorem aso_grp {p n : Int} {L : List (Nat → Nat → Int)} {x y : List Int} (h : isGrp p n L = false) : asoC p n L x y = 1 ∧ asoB p n L x y = false := by unfold asoC asoB; simp [h]
theorem aso_pt {p n : Int} {L : List (Nat → Nat → Int)} {x y : List Int} (h : isGrp p n L = true) (hp : (nptB p n x && nptB p n y) = false) : asoC p n L x y = 2 ∧ asoB p n L x y = false := by
  unfold asoC asoB
  rw [h, hp]
  simp
theorem aso_ok {p n : Int} {L : List (Nat → Nat → Int)} {x y : List Int} (h : isGrp p n L = true) (hx : nptB p n x = true) (hy : nptB p n y = true) : asoC p n L x y = 0 ∧ asoB p n L x y = decide (leastF x (imsL p n.toNat L x) = leastF y (imsL p n.toNat L y)) := by
  unfold asoC asoB
  rw [h, hx, hy]
  simp
theorem mark_same {m : Nat} (m3 : m ≤ 3) : ∀ (X Y : List Int), X.length = m → Y.length = m → (nth X 0 == nth Y 0 && (nth X 1 == nth Y 1 && nth X 2 == nth Y 2)) = decide (X = Y)
  | [], [], _, _ => by decide
  | [a], [b], _, _ => by by_cases e : a = b <;> simp [nth, e]
  | [a, a'], [b, b'], _, _ => by by_cases e : a = b <;> by_cases e2 : a' = b' <;> simp [nth, e, e2]
  | [a, a', a2], [b, b', b2], _, _ => by by_cases e : a = b <;> by_cases e2 : a' = b' <;> by_cases e3 : a2 = b2 <;> simp [nth, e, e2, e3]
  | [], _ :: _, h, h' => by simp at h h'; omega
  | _ :: _, [], h, h' => by simp at h h'; omega
  | [_], _ :: _ :: _, h, h' => by simp at h h'; omega
  | _ :: _ :: _, [_], h, h' => by simp at h h'; omega
  | [_, _], _ :: _ :: _ :: _, h, h' => by simp at h h'; omega
  | _ :: _ :: _ :: _, [_, _], h, h' => by simp at h h'; omega
  | _ :: _ :: _ :: _ :: _, _, h, _ => by simp at h; omega
  | _, _ :: _ :: _ :: _ :: _, _, h => by simp at h; omega
theorem ims_len {p : Int} {m : Nat} {L : List (Nat → Nat → Int)} {pt : List Int} (h : pt.length = m) : (leastF pt (imsL p m L pt)).length = m :=
  (least_spec (n := m) _ pt h (fun y hy => by obtain ⟨x, _, rfl⟩ := List.mem_map.1 hy; exact leadL_len _ _ _ _)).2.1

set_option maxRecDepth 8000 in
set_option maxHeartbeats 4000000 in
theorem iaso (p n : Int) (v u u' : Value) (L : List (Nat → Nat → Int)) (x y : List Int) (w : World) (hl : L.length ≤ 1048576) (hS : SlM w v L) (hby : ∀ g ∈ L, Byt g) (hxl : x.length ≤ 1048576) (hyl : y.length ≤ 1048576) (hU : Sl w u x) (hU' : Sl w u' y) :
    Calls Try.prog 8 #[.agg #[.int .i64 p, .int .i64 n, v], u, u'] w fun e w' => e = .returned (.tuple #[.bool (asoB p n L x y), .int .i64 (asoC p n L x y)]) ∧ Below w.heap.size w w' := by
  obtain ⟨W, hW, rW, hbW⟩ : ∃ W, W = w.alloc (.cells #[.int .i64 p, .int .i64 n, v] 31) ∧ W.rowIs w.heap.size 31 3 (grpF p n v) ∧ Below w.heap.size w W := ⟨_, rfl, gbox w p n v _, ebox1 _ _⟩
  have hSW := hS.below hbW
  have hUW := hU.below hbW
  have hUW' := hU'.below hbW
  obtain ⟨a, cap, rfl, hSc⟩ := id hS
  obtain ⟨g0, g1, g2⟩ := gcells rW
  have HBY := Lib.hid hby
  obtain ⟨B, hB⟩ : ∃ B, asoB p n L x y = B := ⟨_, rfl⟩
  obtain ⟨C, hC⟩ : ∃ C, asoC p n L x y = C := ⟨_, rfl⟩
  have HB := Lib.hid hB
  have HC := Lib.hid hC
  have HCO := Lib.hid (icode p n _ u L x W hl hSW HBY.out hxl hUW)
  rw [hB, hC]
  clear hby hB hC
  go_enter Try.func8, Try.ntmps8
  go_wp2_with fail
  rw [← hW]
  clear hW
  ((with_reducible refine HCO.out.mono ?_); rintro e w1 ⟨rfl, hb1⟩)
  have rx1 := erow_below rW hb1 rW.lt
  have hbw1 := hbW.trans (hb1.mono hbW.size)
  have hS1 := hSW.below hb1
  have hU1 := hUW.below hb1
  have hU1' := hUW'.below hb1
  clear g0 g1 g2 HCO
  by_cases hc : ptC p n L x = 0
  case neg =>
    have HX : Hid (B = false ∧ C = ptC p n L x) := Lib.hid (by
      cases hg : isGrp p n L
      · rw [← HB.out, ← HC.out, (aso_grp hg).1, (aso_grp hg).2, ptC_no hg]; exact ⟨rfl, rfl⟩
      · cases hp : nptB p n x
        · have h := aso_pt (y := y) hg (by rw [hp]; rfl : (nptB p n x && nptB p n y) = false)
          rw [← HB.out, ← HC.out, h.1, h.2, ptC_bad hg hp]; exact ⟨rfl, rfl⟩
        · exact absurd (ptC_ok hg hp) hc)
    generalize ptC p n L x = K at *
    have hc' : (K != 0) = true := by simpa using hc
    clear hc
    go_wp2_with fail
    exact bodyPost_ret (v := .tuple #[.bool false, .int .i64 K]) (by simp [results, Try.results8, go_sem]) rfl ⟨by rw [HX.out.1, HX.out.2], hbw1⟩
  case pos =>
    obtain ⟨hg, hpx⟩ : isGrp p n L = true ∧ nptB p n x = true := by
      cases hg : isGrp p n L
      · rw [ptC_no hg] at hc; omega
      · cases hp : nptB p n x
        · rw [ptC_bad hg hp] at hc; omega
        · exact ⟨rfl, rfl⟩
    obtain ⟨m, rfl, m1, m3, hl48, hl1, hmv⟩ := isGrp_mats HBY.out hg
    obtain ⟨hxm, hxp⟩ := nptB_of rfl hpx
    rw [hc]
    have HAN := Lib.hid (nareNumbers_any p (m : Int) u' y w1 (by omega) hyl hU1')
    obtain ⟨h0, h1, h2⟩ := gcells rx1
    cases hpy : nptB p (m : Int) y
    · have HX : Hid (B = false ∧ C = 2) := Lib.hid (by
        have h := aso_pt (x := x) hg (by rw [hpy]; simp : (nptB p (m : Int) x && nptB p (m : Int) y) = false)
        rw [← HB.out, ← HC.out, h.1, h.2]; exact ⟨rfl, rfl⟩)
      rw [hpy] at HAN
      clear hpy hc hmv hg hpx
      go_wp2_with fail
      ((with_reducible refine HAN.out.mono ?_); rintro e w2 ⟨rfl, hb2⟩)
      have hbw2 := hbw1.trans (hb2.mono hbw1.size)
      clear h0 h1 h2 HAN
      go_wp2_with fail
      exact bodyPost_ret (v := .tuple #[.bool false, .int .i64 2]) (by simp [results, Try.results8, go_sem]) rfl ⟨by rw [HX.out.1, HX.out.2], hbw2⟩
    · obtain ⟨hym, hyp⟩ := nptB_of rfl hpy
      have HX : Hid (B = decide (leastF x (imsL p m L x) = leastF y (imsL p m L y)) ∧ C = 0) := Lib.hid (by
        have h := aso_ok hg hpx hpy
        rw [← HB.out, ← HC.out, h.1, h.2]; exact ⟨rfl, rfl⟩)
      have hms := mark_same m3 _ _ (ims_len (p := p) (L := L) hxm) (ims_len (p := p) (L := L) hym)
      have hix := ims_len (p := p) (L := L) hxm
      have hiy := ims_len (p := p) (L := L) hym
      have HOX := Lib.hid (fun w' (h : Below w1.heap.size w1 w') => iorbAt p m _ u L x w' hl48 hl1 m1 m3 (hS1.below h) hmv hxm hxp (hU1.below h))
      have HOY := Lib.hid (fun w' (h : Below w1.heap.size w1 w') => iorbAt p m _ u' L y w' hl48 hl1 m1 m3 (hS1.below h) hmv hym hyp (hU1'.below h))
      unfold mkV at HOX HOY
      rw [hix] at HOX
      rw [hiy] at HOY
      generalize leastF x (imsL p m L x) = X at *
      generalize leastF y (imsL p m L y) = Y at *
      rw [← hms] at HX
      generalize nth X 0 = x0 at *
      generalize nth X 1 = x1 at *
      generalize nth X 2 = x2 at *
      generalize nth Y 0 = y0 at *
      generalize nth Y 1 = y1 at *
      generalize nth Y 2 = y2 at *
      rw [hpy] at HAN
      clear hpy hc hmv hg hpx hms hix hiy hxm hxp hym hyp
      have HME := fun w => mark_eq (m : Int) x0 x1 x2 (m : Int) y0 y1 y2 w
      have hmm : ((m : Int) == (m : Int)) = true := by simp
      rw [hmm, Bool.true_and] at HME
      obtain ⟨E, hE⟩ : ∃ E, (x0 == y0 && (x1 == y1 && x2 == y2)) = E := ⟨_, rfl⟩
      rw [hE] at HX
      simp only [hE] at HME
      have hG : Try.prog.eqGuardType Try.prog.depth 48 = false := by kernel_rfl
      clear hE hmm
      go_wp2_with fail
      ((with_reducible refine HAN.out.mono ?_); rintro e w2 ⟨rfl, hb2⟩)
      have hbw2 := hbw1.trans (hb2.mono hbw1.size)
      obtain ⟨h0, h1, h2⟩ := gcells (erow_below rx1 hb2 rx1.lt)
      obtain ⟨w3, hw3, hb3, r3⟩ : ∃ w3, w3 = w2.alloc (.cells #[.int .i64 p, .int .i64 (m : Int), .slice a L.length cap, .slice none 0 0] 45) ∧ Below w2.heap.size w2 w3 ∧ w3.rowIs w2.heap.size 45 4 (sceF p m (.slice a L.length cap)) := ⟨_, rfl, ebox1 _ _, World.rowIs_alloc w2 #[.int .i64 p, .int .i64 (m : Int), .slice a L.length cap, .slice none 0 0] _ _ (fun i hi => by simp at hi; match i, hi with | 0, _ => rfl | 1, _ => rfl | 2, _ => rfl | 3, _ => rfl)⟩
      clear HAN
      go_upto_region 7 with fail
      rw [← hw3]
      clear hw3 h0 h1 h2
      have hb13 : Below w1.heap.size w1 w3 := hb2.trans (hb3.mono hb2.size)
      have hbw3 := hbw1.trans (hb13.mono hbw1.size)
      have KK := Lib.hid (fun w' (hq : Below w3.heap.size w3 w') => show w'.cell? ⟨w2.heap.size, 0, none⟩ = some (.int .i64 p) ∧ w'.cell? ⟨w2.heap.size, 1, none⟩ = some (.int .i64 (m : Int)) ∧ w'.cell? ⟨w2.heap.size, 2, none⟩ = some (.slice a L.length cap) ∧ w'.cell? ⟨w2.heap.size, 3, none⟩ = some (.slice none 0 0) from
        have r := erow_below r3 hq r3.lt
        ⟨r.cell (i := 0) (by omega), r.cell (i := 1) (by omega), r.cell (i := 2) (by omega), r.cell (i := 3) (by omega)⟩)
      have HO1 := Lib.hid (fun w' (h : Below w3.heap.size w3 w') => HOX.out w' (hb13.trans (h.mono hb13.size)))
      have HO2 := Lib.hid (fun w' (h : Below w3.heap.size w3 w') => HOY.out w' (hb13.trans (h.mono hb13.size)))
      have hq0 : Below w3.heap.size w3 w3.drew := (Below.refl _ _).drew
      clear HOX HOY r3 hb2 hb3
      go_region_held3 (fun w' => w'.cell? ⟨w2.heap.size, 0, none⟩ = some (.int .i64 p) ∧ w'.cell? ⟨w2.heap.size, 1, none⟩ = some (.int .i64 (m : Int)) ∧ w'.cell? ⟨w2.heap.size, 2, none⟩ = some (.slice a L.length cap) ∧ w'.cell? ⟨w2.heap.size, 3, none⟩ = some (.slice none 0 0))
        (first | with_reducible exact KK.out _ hq0 | with_reducible exact KK.out _ hq5 | with_reducible exact KK.out _ hq6)
        (first
        | (go_at_call 19; (with_reducible refine (HO1.out _ hq0).mono ?_); rintro e w5 ⟨rfl, hb5⟩; have hq5 := hq0.trans hb5)
        | (go_at_call 19; (with_reducible refine (HO2.out _ hq5).mono ?_); rintro e w6 ⟨rfl, hb6⟩; have hq6 := hq5.trans (hb6.mono hq5.size)))
      all_goals
        go_wp2_with fail
        exact bodyPost_ret (v := .tuple #[.bool E, .int .i64 0]) (by simp [results, Try.results8, go_sem]) rfl ⟨by rw [HX.out.1, HX.out.2], hbw3.trans (hq6.mono hbw3.size)⟩
end Go.Proofs.Ytabfdohmgmdgeaa
