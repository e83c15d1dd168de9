/-
  GROUPS: whether something is a group, by the program. Conditions: the numbers of the matrices are bytes.
-/
import Derived.Test.YtpbdbgajohacoaaGi
import Derived.Test.YtpbdbgajohacoaaGd
namespace Go.Proofs.Ytpbdbgajohacoaa
open Go.RowKit Go.Sort Go.Maps EchM

theorem ismat_r (p n : Int) (g : Nat → Nat → Int) (W : World) (hg : Byt g) (B : Bool) (h : isMat p n g = B) : ∀ dd os,
    Calls Try.prog 42 #[.int .i64 p, .int .i64 n, (.agg #[.int .u8 (g 0 0), .int .u8 (g 0 1), .int .u8 (g 0 2), .int .u8 (g 1 0), .int .u8 (g 1 1), .int .u8 (g 1 2), .int .u8 (g 2 0), .int .u8 (g 2 1), .int .u8 (g 2 2)])] (grow (redrawn W dd) os) fun e w'' => e = .returned (.bool B) ∧ ∃ q : Regrown, w'' = grow (redrawn W q.d) q.os := fun _ _ => Calls.regrown_of (ismat_is p n g _ hg B h)
theorem icmp_r (g h : Nat → Nat → Int) (W : World) (R : Int) (hR : cmpM g h = R) : ∀ dd os,
    Calls Try.prog 83 #[(.agg #[.int .u8 (g 0 0), .int .u8 (g 0 1), .int .u8 (g 0 2), .int .u8 (g 1 0), .int .u8 (g 1 1), .int .u8 (g 1 2), .int .u8 (g 2 0), .int .u8 (g 2 1), .int .u8 (g 2 2)]), (.agg #[.int .u8 (h 0 0), .int .u8 (h 0 1), .int .u8 (h 0 2), .int .u8 (h 1 0), .int .u8 (h 1 1), .int .u8 (h 1 2), .int .u8 (h 2 0), .int .u8 (h 2 1), .int .u8 (h 2 2)])] (grow (redrawn W dd) os) fun e w'' => e = .returned (.int .i64 R) ∧ ∃ q : Regrown, w'' = grow (redrawn W q.d) q.os := fun _ _ => Calls.regrown_of (by subst hR; exact icompare g h _)
theorem isGrp_prog {p : Int} {m : Nat} {L : List (Nat → Nat → Int)} (hp : pB p = true) (hv : (decide (1 ≤ (m : Int)) && decide ((m : Int) ≤ 3)) = true) (hl : L.length ≤ 48) : isGrp p m L = (tailG p m L 0 && (decide (0 ≤ findM L (uM m)) && closedG p L)) := by
  unfold isGrp
  rw [hp, hv, show decide (L.length ≤ 48) = true from decide_eq_true hl]
  by_cases h : 1 ≤ L.length
  · rw [show decide (1 ≤ L.length) = true from decide_eq_true h, Bool.and_comm (closedG p L)]
    simp
  · have : L = [] := List.eq_nil_of_length_eq_zero (by omega)
    subst this
    simp [findM, findA]

set_option maxRecDepth 8000 in
set_option maxHeartbeats 16000000 in
theorem igroup (p n : Int) (v : Value) (L : List (Nat → Nat → Int)) (w : World) (hl : L.length ≤ 1048576) (hS : SlM w v L) (hby : ∀ x ∈ L, Byt x) :
    Calls Try.prog 52 #[.agg #[.int .i64 p, .int .i64 n, v]] w fun e w' => e = .returned (.bool (isGrp p n L)) ∧ Below w.heap.size w w' := by
  obtain ⟨W, hW, rW, hbW, hWs⟩ : ∃ W, W = w.alloc (.cells #[.int .i64 p, .int .i64 n, v] 26) ∧ W.rowIs w.heap.size 26 3 (grpF p n v) ∧ Below w.heap.size w W ∧ w.heap.size < W.heap.size := ⟨_, rfl, gbox w p n v _, ebox1 _ _, by simp⟩
  have hSW := hS.below hbW
  obtain ⟨a, cap, rfl, hSc⟩ := id hS
  obtain ⟨g0, g1, g2⟩ := gcells rW
  have HBY := Lib.hid hby
  clear hby
  cases hp : pB p
  · have HX := Lib.hid (show isGrp p n L = false by simp [isGrp, hp])
    have HP := Lib.hid hp
    clear hp
    go_enter Try.func52, Try.ntmps52
    go_wp2_with fail
    rw [← hW]
    clear hW
    ((with_reducible refine (iprime_is p _ false HP.out).mono ?_); rintro e w1 ⟨rfl, rfl⟩)
    go_wp2_with fail
    go_ret
    exact ⟨by rw [HX.out]; rfl, hbW⟩
  have HP := Lib.hid hp
  cases hv : (decide (1 ≤ n) && decide (n ≤ 3))
  · have HX := Lib.hid (show isGrp p n L = false by rw [isGrp, hv]; simp)
    have HV := Lib.hid hv
    clear hp hv
    go_enter Try.func52, Try.ntmps52
    go_wp2_with fail
    rw [← hW]
    clear hW
    ((with_reducible refine (iprime_is p _ true HP.out).mono ?_); rintro e w1 ⟨rfl, rfl⟩)
    go_wp2_with fail
    ((with_reducible refine (ivars_is n _ false HV.out).mono ?_); rintro e w2 ⟨rfl, rfl⟩)
    go_wp2_with fail
    go_ret
    exact ⟨by rw [HX.out]; rfl, hbW⟩
  have HV := Lib.hid hv
  by_cases hsz : ¬ L.length ≤ 48
  · have HX := Lib.hid (show isGrp p n L = false by
      unfold isGrp
      rw [show decide (L.length ≤ 48) = false from decide_eq_false hsz]; simp)
    have h2 : (48 : Int) < (L.length : Int) := by omega
    clear hp hv hsz
    go_enter Try.func52, Try.ntmps52
    go_wp2_with fail
    rw [← hW]
    clear hW
    ((with_reducible refine (iprime_is p _ true HP.out).mono ?_); rintro e w1 ⟨rfl, rfl⟩)
    go_wp2_with fail
    ((with_reducible refine (ivars_is n _ true HV.out).mono ?_); rintro e w2 ⟨rfl, rfl⟩)
    go_wp2_with fail
    go_ret
    exact ⟨by rw [HX.out]; rfl, hbW⟩
  have hsz2 : L.length ≤ 48 := by omega
  have hsz2' : ¬ (48 : Int) < (L.length : Int) := by omega
  obtain ⟨m, rfl, m1, m3⟩ : ∃ m : Nat, n = (m : Int) ∧ 1 ≤ m ∧ m ≤ 3 := by
    simp only [Bool.and_eq_true, decide_eq_true_eq] at hv
    obtain ⟨m, rfl⟩ := Int.eq_ofNat_of_zero_le (show 0 ≤ n by omega)
    exact ⟨m, rfl, by omega, by omega⟩
  have HY := Lib.hid (isGrp_prog hp hv hsz2)
  clear hp hv hsz
  go_enter Try.func52, Try.ntmps52
  go_wp2_with fail
  rw [← hW]
  clear hW
  ((with_reducible refine (iprime_is p _ true HP.out).mono ?_); rintro e w1 ⟨rfl, rfl⟩)
  go_wp2_with fail
  ((with_reducible refine (ivars_is m _ true HV.out).mono ?_); rintro e w2 ⟨rfl, rfl⟩)
  go_wp2_with fail
  clear g0 g1 g2
  go_loopw [24] (fun i wr => ∃ (k : Nat), k ≤ L.length ∧ i = .int .i64 k ∧ Hid (tailG p m L 0 = tailG p m L k) ∧ Below W.heap.size W wr) (fun i _ => L.length - (intOf i).toNat)
  case atStart => exact ⟨0, by omega, rfl, Lib.hid rfl, Below.refl _ _⟩
  case round =>
    obtain ⟨k, hk, rfl, HU, hb⟩ := hrel
    by_cases hlt : k < L.length
    · have hlt' : (k : Int) < (L.length : Int) := by omega
      obtain ⟨b, off, rfl, hbb, hT⟩ : ∃ b off, a = some ⟨b, off, none⟩ ∧ b < w.heap.size ∧ MatsW w b off L := by
        rcases hSc with rfl | h
        · simp at hlt
        · exact h
      have hbbW : b < W.heap.size := by omega
      have hTr := (hT.below hbW hbb).below hb hbbW
      obtain ⟨⟨a0, a1, a2⟩, ⟨a3, a4, a5⟩, a6, a7, a8⟩ := hTr.nine hlt
      have hbx := HBY.out _ (List.getElem_mem hlt)
      have HXk := Lib.hid (show L[k] = L[k] from rfl)
      obtain ⟨x, hx⟩ : ∃ x, L[k] = x := ⟨_, rfl⟩
      rw [hx] at hbx a0 a1 a2 a3 a4 a5 a6 a7 a8
      clear HXk
      obtain ⟨wx, hwx, rX, rGx, hbx1⟩ : ∃ wx, wx = wr.alloc (.cells #[.int .u8 (x 0 0), .int .u8 (x 0 1), .int .u8 (x 0 2), .int .u8 (x 1 0), .int .u8 (x 1 1), .int .u8 (x 1 2), .int .u8 (x 2 0), .int .u8 (x 2 1), .int .u8 (x 2 2)] 55) ∧ wx.rowIs wr.heap.size 55 9 (mF x) ∧ wx.rowIs w.heap.size 26 3 (grpF p m (.slice (some ⟨b, off, none⟩) L.length cap)) ∧ Below wr.heap.size wr wx := ⟨_, rfl, mbox wr x _, (erow_below rW hb rW.lt).alloc _, ebox1 _ _⟩
      have hbxx := hb.trans (hbx1.mono hb.size)
      have hTx := hTr.below hbx1 (Nat.lt_of_lt_of_le hbbW hb.size)
      obtain ⟨g0, g1, g2⟩ := gcells rGx
      have k0 := cell_regrown g0
      have k1 := cell_regrown g1
      have k2 := cell_regrown g2
      obtain ⟨⟨x0, x1, x2⟩, ⟨x3, x4, x5⟩, x6, x7, x8⟩ := mcells rX
      have l0 := cell_regrown x0
      have l1 := cell_regrown x1
      have l2 := cell_regrown x2
      have l3 := cell_regrown x3
      have l4 := cell_regrown x4
      have l5 := cell_regrown x5
      have l6 := cell_regrown x6
      have l7 := cell_regrown x7
      have l8 := cell_regrown x8
      clear x0 x1 x2 x3 x4 x5 x6 x7 x8 g0 g1 g2
      have cM := fun B h => ismat_r p m x wx hbx B h
      cases k with
      | zero =>
        simp only [Nat.zero_mul, Nat.add_zero] at a0 a1 a2 a3 a4 a5 a6 a7 a8
        have HT := Lib.hid (HU.out.trans (tailG_zero (p := p) (n := m) hlt))
        rw [hx] at HT
        clear hx
        cases hm : isMat p m x
        · have kM := cM false hm
          have HX := Lib.hid (show isGrp p m L = false by rw [HY.out, HT.out, hm]; rfl)
          clear cM hm
          go_wp2_with fail
          rw [← hwx]
          clear hwx
          refine wp_region_quiet_below (by kernel_rfl) (by kernel_rfl) ?_
          repeat (go_big_quiet_step (first | with_reducible exact kM _ _))
          refine wpQuiet_nil ?_
          intro _ hw'
          obtain ⟨⟨dq, osq⟩, hw''⟩ := hw'
          subst hw''
          have hb2 := hbxx.trans ((below_regrown wx dq osq).mono hbxx.size)
          generalize grow (redrawn wx dq) osq = V at *
          clear k0 k1 k2 l0 l1 l2 l3 l4 l5 l6 l7 l8 kM
          go_wp2_with fail
          go_ret
          exact ⟨by rw [HX.out]; rfl, hbW.trans (hb2.mono hbW.size)⟩
        · have kM := cM true hm
          have HN := Lib.hid (show tailG p m L 0 = tailG p m L 1 by rw [HT.out, hm]; rfl)
          clear cM hm
          go_wp2_with fail
          rw [← hwx]
          clear hwx
          refine wp_region_quiet_below (by kernel_rfl) (by kernel_rfl) ?_
          repeat (go_big_quiet_step (first | with_reducible exact kM _ _))
          refine wpQuiet_nil ?_
          intro _ hw'
          obtain ⟨⟨dq, osq⟩, hw''⟩ := hw'
          subst hw''
          have hb2 := hbxx.trans ((below_regrown wx dq osq).mono hbxx.size)
          generalize grow (redrawn wx dq) osq = V at *
          clear k0 k1 k2 l0 l1 l2 l3 l4 l5 l6 l7 l8 kM
          go_wp2_with fail
          go_roundw
          case rel => exact ⟨1, by omega, by go_num, HN, hb2⟩
          case measure => simp [intOf]; omega
      | succ j =>
        have hj : j < L.length := by omega
        have HT := Lib.hid (HU.out.trans (tailG_succ (p := p) (n := m) hlt))
        obtain ⟨⟨b0, b1, b2⟩, ⟨b3, b4, b5⟩, b6, b7, b8⟩ := hTx.nine hj
        have m0 := cell_regrown b0
        have mm1 := cell_regrown b1
        have m2 := cell_regrown b2
        have mm3 := cell_regrown b3
        have m4 := cell_regrown b4
        have m5 := cell_regrown b5
        have m6 := cell_regrown b6
        have m7 := cell_regrown b7
        have m8 := cell_regrown b8
        clear b0 b1 b2 b3 b4 b5 b6 b7 b8
        rw [hx] at HT
        clear hx
        generalize L[j] = y at *
        cases hm : isMat p m x
        · have kM := cM false hm
          have HX := Lib.hid (show isGrp p m L = false by rw [HY.out, HT.out, hm]; rfl)
          clear cM hm
          go_wp2_with fail
          rw [← hwx]
          clear hwx
          refine wp_region_quiet_below (by kernel_rfl) (by kernel_rfl) ?_
          repeat (go_big_quiet_step (first | with_reducible exact kM _ _))
          refine wpQuiet_nil ?_
          intro _ hw'
          obtain ⟨⟨dq, osq⟩, hw''⟩ := hw'
          subst hw''
          have hb2 := hbxx.trans ((below_regrown wx dq osq).mono hbxx.size)
          generalize grow (redrawn wx dq) osq = V at *
          clear k0 k1 k2 l0 l1 l2 l3 l4 l5 l6 l7 l8 m0 mm1 m2 mm3 m4 m5 m6 m7 m8 kM
          go_wp2_with fail
          go_ret
          exact ⟨by rw [HX.out]; rfl, hbW.trans (hb2.mono hbW.size)⟩
        · have kM := cM true hm
          have hs := bef_sign y x
          obtain ⟨R, hR⟩ : ∃ R, cmpM y x = R := ⟨_, rfl⟩
          have kB := icmp_r y x wx R hR
          rw [hR] at hs
          clear hR
          by_cases hc : R < 0
          · have hc' : ¬ (0 ≤ R) := by omega
            have HN := Lib.hid (show tailG p m L 0 = tailG p m L (j + 2) by rw [HT.out, hm, ← hs, decide_eq_true hc]; rfl)
            clear cM hm hs
            go_wp2_with fail
            rw [← hwx]
            clear hwx
            refine wp_region_quiet_below (by kernel_rfl) (by kernel_rfl) ?_
            repeat (go_big_quiet_step (first | with_reducible exact kM _ _ | with_reducible exact kB _ _))
            refine wpQuiet_nil ?_
            intro _ hw'
            obtain ⟨⟨dq, osq⟩, hw''⟩ := hw'
            subst hw''
            have hb2 := hbxx.trans ((below_regrown wx dq osq).mono hbxx.size)
            generalize grow (redrawn wx dq) osq = V at *
            clear k0 k1 k2 l0 l1 l2 l3 l4 l5 l6 l7 l8 m0 mm1 m2 mm3 m4 m5 m6 m7 m8 kM kB
            go_wp2_with fail
            go_roundw
            case rel => exact ⟨j + 2, by omega, by go_num, HN, hb2⟩
            case measure => simp [intOf]; omega
          · have hc' : 0 ≤ R := by omega
            have HX := Lib.hid (show isGrp p m L = false by rw [HY.out, HT.out, hm, ← hs, decide_eq_false hc]; rfl)
            clear cM hm hs
            go_wp2_with fail
            rw [← hwx]
            clear hwx
            refine wp_region_quiet_below (by kernel_rfl) (by kernel_rfl) ?_
            repeat (go_big_quiet_step (first | with_reducible exact kM _ _ | with_reducible exact kB _ _))
            refine wpQuiet_nil ?_
            intro _ hw'
            obtain ⟨⟨dq, osq⟩, hw''⟩ := hw'
            subst hw''
            have hb2 := hbxx.trans ((below_regrown wx dq osq).mono hbxx.size)
            generalize grow (redrawn wx dq) osq = V at *
            clear k0 k1 k2 l0 l1 l2 l3 l4 l5 l6 l7 l8 m0 mm1 m2 mm3 m4 m5 m6 m7 m8 kM kB
            go_wp2_with fail
            go_ret
            exact ⟨by rw [HX.out]; rfl, hbW.trans (hb2.mono hbW.size)⟩
    · obtain rfl : k = L.length := by omega
      have htl : tailG p m L 0 = true := by rw [HU.out]; exact tailG_end p m L
      have HALL := Lib.hid (tailG_all htl)
      have HZ := Lib.hid (show isGrp p m L = (decide (0 ≤ findM L (uM m)) && closedG p L) by rw [HY.out, htl]; rfl)
      clear htl
      have HMV := Lib.hid (fun x (hx : x ∈ L) => show MatV p m x from by
        obtain ⟨m', hm', hmv⟩ := matV_of (HBY.out x hx) (HALL.out x hx)
        obtain rfl : m = m' := by omega
        exact hmv)
      obtain ⟨g0, g1, g2⟩ := gcells (erow_below rW hb rW.lt)
      have hSr := hSW.below (hb.mono (Nat.le_refl _))
      go_wp2_with fail
      ((with_reducible refine (iclosed p m _ L _ hl hSr HMV.out m1 m3).mono ?_); rintro e w3 ⟨rfl, hb3⟩)
      have hb4 := hbW.trans ((hb.trans (hb3.mono hb.size)).mono hbW.size)
      go_wp2_with fail
      go_ret
      exact ⟨by rw [HZ.out]; rfl, hb4⟩
end Go.Proofs.Ytpbdbgajohacoaa
