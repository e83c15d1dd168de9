/-
  GROUPS OF LISTS: 'impl.GroupOf', walked. Conditions: the numbers of the matrices are bytes.
-/
import Derived.Test.YtpbdbgajohacoaaTn
import Derived.Test.YtpbdbgajohacoaaTc
namespace Go.Proofs.Ytpbdbgajohacoaa
open Go.RowKit Go.Sort Go.Maps EchM

/-- What closure answers. -/
def CloR (p : Int) (n : Nat) (G : List (Nat → Nat → Int)) (w' : World) (base : Nat) (v : Value) (b : Bool) : Prop :=
  (b = true ∧ ∃ O, Closed48 p n G O ∧ OwnG9 w' base v O) ∨ (b = false ∧ v = .slice none 0 0 ∧ Over48 p n G)
theorem CloR.mono {p : Int} {n : Nat} {G : List (Nat → Nat → Int)} {w' : World} {base base' : Nat} {v : Value} {b : Bool} (h : CloR p n G w' base v b) (hb : base' ≤ base) : CloR p n G w' base' v b :=
  h.imp (fun ⟨a, O, c, d⟩ => ⟨a, O, c, OwnG9.mono d hb⟩) id
theorem iclo_of (p : Int) (m : Nat) (v : Value) (L L5 : List (Nat → Nat → Int)) (w : World) (h2 : 2 ≤ p) (h13 : p ≤ 13) (m1 : 1 ≤ m) (m3 : m ≤ 3) (hL : ∀ x ∈ L, MatV p m x) (hm : ∀ x, x ∈ L5 ↔ x ∈ L.map cut3) (hl : L5.length ≤ 1048576) (hS : SlM w v L5) :
    Calls Try.prog 46 #[.int .i64 p, .int .i64 (m : Int), v] w fun e w' => ∃ v' b, e = .returned (.tuple #[v', .bool b]) ∧ CloR p m L w' w.heap.size v' b ∧ Below w.heap.size w w' := by
  have q1 : ∀ g ∈ L5, ∃ g' ∈ L, eq3 g g' := fun g hg => by
    obtain ⟨x, hx, rfl⟩ := List.mem_map.1 ((hm g).1 hg)
    exact ⟨x, hx, cut3_eq3 x⟩
  have q2 : ∀ g ∈ L, ∃ g' ∈ L5, eq3 g g' := fun g hg => ⟨cut3 g, (hm _).2 (List.mem_map_of_mem hg), fun i hi j hj => (cut3_eq3 g i hi j hj).symm⟩
  refine (iclosure p m v L5 w h2 h13 m1 m3 hl (fun g hg => ?_) hS).mono ?_
  · obtain ⟨x, hx, rfl⟩ := List.mem_map.1 ((hm g).1 hg)
    refine ⟨fun i hi j hj => ?_, fun i hi j hj ho => ?_⟩
    · rw [cut3_at _ hi hj]; exact (hL x hx).bound i hi j hj
    · rw [cut3_at _ hi hj]; exact (hL x hx).out i hi j hj ho
  · rintro e w' ⟨⟨v', O, rfl, hC, ho⟩ | ⟨rfl, hO⟩, hb⟩
    · exact ⟨v', true, rfl, .inl ⟨rfl, O, hC.other q1 q2, ho⟩, hb⟩
    · exact ⟨_, false, rfl, .inr ⟨rfl, rfl, hO.other q1⟩, hb⟩

set_option maxRecDepth 8000 in
set_option maxHeartbeats 8000000 in
theorem igrof (p n : Int) (v : Value) (L : List (Nat → Nat → Int)) (w : World) (hl : L.length ≤ 1048576) (hS : SlM w v L) (hby : ∀ x ∈ L, Byt x) :
    Calls Try.prog 12 #[.int .i64 p, .int .i64 n, v] w fun e w' => ∃ o, GrpRes p n L o ∧ ResG w o e w' := by
  have hmf : ∀ (fn : Fn) (first cap : Array Value) (w : World), (Instr.makeFunc fn first cap).run Try.prog w = .ok (.func fn first cap) w := fun _ _ _ _ => rfl
  obtain ⟨W, hW, kp, kn, rR, hbW, hWs⟩ : ∃ W, W = ((w.alloc (.cells #[.int .i64 p] 2)).alloc (.cells #[.int .i64 n] 2)).alloc (.cells #[.int .i64 0, .int .i64 0, .slice none 0 0] 26) ∧ W.cell? ⟨w.heap.size, 0, none⟩ = some (.int .i64 p) ∧ W.cell? ⟨w.heap.size + 1, 0, none⟩ = some (.int .i64 n) ∧ W.rowIs (w.heap.size + 2) 26 3 (grpF 0 0 (.slice none 0 0)) ∧ Below w.heap.size w W ∧ w.heap.size + 3 ≤ W.heap.size := by
    refine ⟨_, rfl, ?_, ?_, ?_, (ebox2 _ _ _).alloc (by simp; omega) _, by simp⟩
    · go_simp
    · go_simp
    · have := gbox ((w.alloc (.cells #[.int .i64 p] 2)).alloc (.cells #[.int .i64 n] 2)) 0 0 (.slice none 0 0) 26
      rw [World.size_alloc, World.size_alloc] at this
      exact this
  have hSW := hS.below hbW
  obtain ⟨a, cap, rfl, hSc⟩ := id hS
  have HBY := Lib.hid hby
  clear hby
  cases hp : pB p
  · have HX := Lib.hid (show okL p n L = false by simp [okL, hp])
    have HP := Lib.hid hp
    clear hp
    go_enter Try.func12, Try.ntmps12
    go_wp2_with fail
    rw [← hW]
    clear hW
    ((with_reducible refine (iprime_is p _ false HP.out).mono ?_); rintro e w1 ⟨rfl, rfl⟩)
    obtain ⟨r0, r1, r2⟩ := gcells rR
    have z0 := rR.frozen 0
    have z1 := rR.frozen 1
    have z2 := rR.frozen 2
    have R := ((rR.set 0 (.int .i64 0)).set 1 (.int .i64 0)).set 2 (.slice none 0 0)
    have V0 := Lib.hid (R.cell (i := 0) (by omega))
    have V1 := Lib.hid (R.cell (i := 1) (by omega))
    have V2 := Lib.hid (R.cell (i := 2) (by omega))
    have HB := Lib.hid (((hbW.setCell (p := ⟨w.heap.size + 2, 0, none⟩) (by simp) (.int .i64 0)).setCell (p := ⟨w.heap.size + 2, 1, none⟩) (by simp) (.int .i64 0)).setCell (p := ⟨w.heap.size + 2, 2, none⟩) (by simp) (.slice none 0 0))
    clear R
    go_wp2_with fail
    exact bodyPost_ret (v := .tuple #[.agg #[.int .i64 0, .int .i64 0, .slice none 0 0], .int .i64 2]) (by simp [results, Try.results12, go_sem, V0.out, V1.out, V2.out]) rfl ⟨noG 2, .inl ⟨HX.out, rfl⟩, _, rfl, ownG9_none _ _, HB.out⟩
  have HP := Lib.hid hp
  cases hv : (decide (1 ≤ n) && decide (n ≤ 3))
  · have HX := Lib.hid (show okL p n L = false by simp only [okL, hv]; simp)
    have HV := Lib.hid hv
    clear hp hv
    go_enter Try.func12, Try.ntmps12
    go_wp2_with fail
    rw [← hW]
    clear hW
    ((with_reducible refine (iprime_is p _ true HP.out).mono ?_); rintro e w1 ⟨rfl, rfl⟩)
    go_wp2_with fail
    ((with_reducible refine (ivars_is n _ false HV.out).mono ?_); rintro e w2 ⟨rfl, rfl⟩)
    obtain ⟨r0, r1, r2⟩ := gcells rR
    have z0 := rR.frozen 0
    have z1 := rR.frozen 1
    have z2 := rR.frozen 2
    have R := ((rR.set 0 (.int .i64 0)).set 1 (.int .i64 0)).set 2 (.slice none 0 0)
    have V0 := Lib.hid (R.cell (i := 0) (by omega))
    have V1 := Lib.hid (R.cell (i := 1) (by omega))
    have V2 := Lib.hid (R.cell (i := 2) (by omega))
    have HB := Lib.hid (((hbW.setCell (p := ⟨w.heap.size + 2, 0, none⟩) (by simp) (.int .i64 0)).setCell (p := ⟨w.heap.size + 2, 1, none⟩) (by simp) (.int .i64 0)).setCell (p := ⟨w.heap.size + 2, 2, none⟩) (by simp) (.slice none 0 0))
    clear R
    go_wp2_with fail
    exact bodyPost_ret (v := .tuple #[.agg #[.int .i64 0, .int .i64 0, .slice none 0 0], .int .i64 2]) (by simp [results, Try.results12, go_sem, V0.out, V1.out, V2.out]) rfl ⟨noG 2, .inl ⟨HX.out, rfl⟩, _, rfl, ownG9_none _ _, HB.out⟩
  have HV := Lib.hid hv
  have HOK := Lib.hid (show okL p n L = L.all (isMat p n) by simp only [okL, hp, hv]; simp)
  have hW0 : w.heap.size < W.heap.size := by omega
  have hW1 : w.heap.size + 1 < W.heap.size := by omega
  have HJ : gfJ W (.pointer (some ⟨w.heap.size, 0, none⟩)) (.pointer (some ⟨w.heap.size + 1, 0, none⟩)) (fun g => !isMat p n g) L := fun w' hb' x hx => gnomat p n x _ _ _ w' (HBY.out x hx) rfl ((hb'.cell hW0).trans kp) ((hb'.cell hW1).trans kn) (Nat.lt_of_lt_of_le hW0 hb'.size) (Nat.lt_of_lt_of_le hW1 hb'.size)
  have HCON := Lib.hid (gfcontains (.pointer (some ⟨w.heap.size, 0, none⟩)) (.pointer (some ⟨w.heap.size + 1, 0, none⟩)) (fun g => !isMat p n g) _ L W hl hSW HJ)
  clear HJ
  have HANY := Lib.hid (List.all_eq_not_any_not (l := L) (p := isMat p n))
  generalize (L.any fun g => !isMat p n g) = E at *
  go_enter Try.func12, Try.ntmps12
  go_wp2_with fail
  rw [← hW]
  clear hW
  ((with_reducible refine (iprime_is p _ true HP.out).mono ?_); rintro e w1 ⟨rfl, rfl⟩)
  go_wp2_with fail
  ((with_reducible refine (ivars_is n _ true HV.out).mono ?_); rintro e w2 ⟨rfl, rfl⟩)
  go_wp2_with fail
  ((with_reducible refine HCON.out.mono ?_); rintro e w3 ⟨rfl, hb3⟩)
  have rr3 := erow_below rR hb3 rR.lt
  have kp3 : w3.cell? ⟨w.heap.size, 0, none⟩ = some (.int .i64 p) := (hb3.cell hW0).trans kp
  have kn3 : w3.cell? ⟨w.heap.size + 1, 0, none⟩ = some (.int .i64 n) := (hb3.cell hW1).trans kn
  have hbw3 := hbW.trans (hb3.mono hbW.size)
  have hS3 := hSW.below hb3
  have hsz3 := hb3.size
  clear hb3 rR kp kn HCON
  cases E
  · have HALL := Lib.hid (show L.all (isMat p n) = true by rw [HANY.out]; rfl)
    have HX := Lib.hid (HOK.out.trans HALL.out)
    obtain ⟨m, rfl⟩ : ∃ m : Nat, n = (m : Int) := by
      simp only [Bool.and_eq_true, decide_eq_true_eq] at hv
      exact ⟨n.toNat, by omega⟩
    have hm13 : 1 ≤ m ∧ m ≤ 3 := by
      simp only [Bool.and_eq_true, decide_eq_true_eq] at hv
      omega
    obtain ⟨m1, m3⟩ := hm13
    obtain ⟨p2, p13⟩ := pB_le hp
    have hmv : ∀ x ∈ L, MatV p m x := fun x hx => by
      obtain ⟨m', e, h⟩ := matV_of (HBY.out x hx) (List.all_eq_true.1 HALL.out x hx)
      have : m' = m := by omega
      rw [← this]; exact h
    have HCLO := Lib.hid (fun L5 w' v5 hm5 hl5 hS5 => iclo_of p m v5 L L5 w' p2 p13 m1 m3 hmv hm5 hl5 hS5)
    have hSd : SlM w3.drew (.slice a L.length cap) L := hS3.below (Below.refl _ _).drew
    have HDI := Lib.hid (gdistinctA _ L w3.drew hl hSd)
    have dp : w3.drew.cell? ⟨w.heap.size, 0, none⟩ = some (.int .i64 p) := kp3
    have dn : w3.drew.cell? ⟨w.heap.size + 1, 0, none⟩ = some (.int .i64 (m : Int)) := kn3
    have drr : w3.drew.rowIs (w.heap.size + 2) 26 3 (grpF 0 0 (.slice none 0 0)) := rr3
    have hbd : Below w.heap.size w w3.drew := hbw3.drew
    have hsd : w.heap.size + 3 ≤ w3.drew.heap.size := Nat.le_trans hWs hsz3
    have hd0 : w.heap.size < w3.drew.heap.size := by omega
    have hd1 : w.heap.size + 1 < w3.drew.heap.size := by omega
    clear hSd hmv hS3 hSW hS hSc hv hp HBY HALL HOK HP HV HANY
    go_wp2_with fail
    go_cut [9, 10] (fun s9 s10 wx => ∃ b, s10 = .bool b ∧ Hid (CloR p m L wx w.heap.size s9 b) ∧ Below w.heap.size w wx ∧ w.heap.size + 3 ≤ wx.heap.size ∧ wx.rowIs (w.heap.size + 2) 26 3 (grpF 0 0 (.slice none 0 0)) ∧ wx.cell? ⟨w.heap.size, 0, none⟩ = some (.int .i64 p) ∧ wx.cell? ⟨w.heap.size + 1, 0, none⟩ = some (.int .i64 (m : Int)))
    case first =>
      go_region_with (first
        | (go_at_call 47; (with_reducible refine HDI.out.mono ?_); rintro e w5 ⟨v5, L5, rfl, hS5, hm5, hl5, hb5⟩; have HS5 := hS5; obtain ⟨a5, c5, rfl, _⟩ := hS5; have ep : w5.cell? ⟨w.heap.size, 0, none⟩ = some (.int .i64 p) := (hb5.cell hd0).trans dp; have en : w5.cell? ⟨w.heap.size + 1, 0, none⟩ = some (.int .i64 (m : Int)) := (hb5.cell hd1).trans dn; have err := erow_below drr hb5 drr.lt; have hbe := hbd.trans (hb5.mono hbd.size); have hse := Nat.le_trans hsd hb5.size; have he0 : w.heap.size < w5.heap.size := (by omega); have he1 : w.heap.size + 1 < w5.heap.size := (by omega))
        | (go_at_call 46; (with_reducible refine (HCLO.out _ _ _ hm5 hl5 HS5).mono ?_); rintro e w6 ⟨v6, b, rfl, hR6, hb6⟩; have fp : w6.cell? ⟨w.heap.size, 0, none⟩ = some (.int .i64 p) := (hb6.cell he0).trans ep; have fn : w6.cell? ⟨w.heap.size + 1, 0, none⟩ = some (.int .i64 (m : Int)) := (hb6.cell he1).trans en; have frr := erow_below err hb6 err.lt; have hbf := hbe.trans (hb6.mono hbe.size); have hsf := Nat.le_trans hse hb6.size))
      all_goals
        go_wp2_with fail
        go_meet
        exact ⟨b, rfl, Lib.hid (hR6.mono (by omega)), hbf, hsf, frr, fp, fn⟩
    case rest =>
      rename World => wx
      obtain ⟨b, rfl, HR, hbx, hsx, rrx, kpx, knx⟩ := hcut
      clear HDI HCLO dp dn drr hbd hsd kp3 kn3 rr3 hbw3 hsz3
      have hR := HR.out
      clear HR
      rcases hR with ⟨rfl, O, hC, ho⟩ | ⟨rfl, rfl, hO⟩
      · have hlO : O.length ≤ 1048576 := by have := hC.2.2; omega
        obtain ⟨sa0, sc0, rfl⟩ := OwnG9.shape ho
        have hSO := OwnG9.slice ho
        have hnd : (O.map cut3).Nodup := by rw [hC.map]; exact hC.1
        have HCC := Lib.hid hC
        have dp : wx.drew.cell? ⟨w.heap.size, 0, none⟩ = some (.int .i64 p) := kpx
        have dn : wx.drew.cell? ⟨w.heap.size + 1, 0, none⟩ = some (.int .i64 (m : Int)) := knx
        have drr : wx.drew.rowIs (w.heap.size + 2) 26 3 (grpF 0 0 (.slice none 0 0)) := rrx
        have hbd : Below w.heap.size w wx.drew := hbx.drew
        have hsd : w.heap.size + 3 ≤ wx.drew.heap.size := hsx
        have hd0 : w.heap.size < wx.drew.heap.size := by omega
        have hd1 : w.heap.size + 1 < wx.drew.heap.size := by omega
        have HDI := Lib.hid (gdistinctS _ O wx.drew hlO (hSO.below (Below.refl _ _).drew) hnd)
        have hMAP := hC.map
        rw [hMAP] at HDI
        have HRES := Lib.hid (show GrpRes p m L ⟨p, m, sortM O, 0⟩ from .inr (.inr ⟨HX.out, O, hC, rfl⟩))
        clear hC ho hSO hnd HCC hMAP
        generalize sortM O = S at *
        go_wp2_with fail
        go_region_with (go_at_call 47; (with_reducible refine HDI.out.mono ?_); rintro e w4 ⟨v4, rfl, ho4, hb4⟩; have r4 := erow_below drr hb4 drr.lt; have ep : w4.cell? ⟨w.heap.size, 0, none⟩ = some (.int .i64 p) := (hb4.cell hd0).trans dp; have en : w4.cell? ⟨w.heap.size + 1, 0, none⟩ = some (.int .i64 (m : Int)) := (hb4.cell hd1).trans dn; obtain ⟨r0, r1, r2⟩ := gcells r4; have z0 := r4.frozen 0; have z1 := r4.frozen 1; have z2 := r4.frozen 2; obtain ⟨sa, sc, rfl⟩ := OwnG9.shape ho4)
        all_goals
          have R := ((r4.set 0 (.int .i64 p)).set 1 (.int .i64 m)).set 2 (.slice sa S.length sc)
          have V0 := Lib.hid (R.cell (i := 0) (by omega))
          have V1 := Lib.hid (R.cell (i := 1) (by omega))
          have V2 := Lib.hid (R.cell (i := 2) (by omega))
          have hbf := hbd.trans (hb4.mono hbd.size)
          have HB := Lib.hid (show Below w.heap.size w (((w4.setCell ⟨w.heap.size + 2, 0, none⟩ (.int .i64 p)).setCell ⟨w.heap.size + 2, 1, none⟩ (.int .i64 m)).setCell ⟨w.heap.size + 2, 2, none⟩ (.slice sa S.length sc)) from ((hbf.setCell (by simp) _).setCell (by simp) _).setCell (by simp) _)
          have HSL := Lib.hid (show OwnG9 (((w4.setCell ⟨w.heap.size + 2, 0, none⟩ (.int .i64 p)).setCell ⟨w.heap.size + 2, 1, none⟩ (.int .i64 m)).setCell ⟨w.heap.size + 2, 2, none⟩ (.slice sa S.length sc)) w.heap.size (.slice sa S.length sc) S from by
            have hne : (Value.slice sa S.length sc).ownBlock ≠ some (w.heap.size + 2) := fun e => by
              have := (World.ownsRow.lt ho4 _ e).1
              have := drr.lt
              omega
            exact OwnG9.mono (mown_set (mown_set (mown_set ho4 _ _ _ hne) _ _ _ hne) _ _ _ hne) hbd.size)
          clear R
          go_wp2_with fail
          exact bodyPost_ret (v := .tuple #[.agg #[.int .i64 p, .int .i64 m, .slice sa S.length sc], .int .i64 0]) (by simp [results, Try.results12, go_sem, V0.out, V1.out, V2.out]) rfl ⟨_, HRES.out, _, rfl, HSL.out, HB.out⟩
      · have HOV := Lib.hid hO
        clear hO
        obtain ⟨r0, r1, r2⟩ := gcells rrx
        have z0 := rrx.frozen 0
        have z1 := rrx.frozen 1
        have z2 := rrx.frozen 2
        have R := ((rrx.set 0 (.int .i64 0)).set 1 (.int .i64 0)).set 2 (.slice none 0 0)
        have V0 := Lib.hid (R.cell (i := 0) (by omega))
        have V1 := Lib.hid (R.cell (i := 1) (by omega))
        have V2 := Lib.hid (R.cell (i := 2) (by omega))
        have HB := Lib.hid (((hbx.setCell (p := ⟨w.heap.size + 2, 0, none⟩) (by simp) (.int .i64 0)).setCell (p := ⟨w.heap.size + 2, 1, none⟩) (by simp) (.int .i64 0)).setCell (p := ⟨w.heap.size + 2, 2, none⟩) (by simp) (.slice none 0 0))
        clear R
        go_wp2_with fail
        exact bodyPost_ret (v := .tuple #[.agg #[.int .i64 0, .int .i64 0, .slice none 0 0], .int .i64 3]) (by simp [results, Try.results12, go_sem, V0.out, V1.out, V2.out]) rfl ⟨noG 3, .inr (.inl ⟨HX.out, HOV.out, rfl⟩), _, rfl, ownG9_none _ _, HB.out⟩
  · have HX := Lib.hid (show okL p n L = false by rw [HOK.out, HANY.out]; rfl)
    obtain ⟨r0, r1, r2⟩ := gcells rr3
    have z0 := rr3.frozen 0
    have z1 := rr3.frozen 1
    have z2 := rr3.frozen 2
    have R := ((rr3.set 0 (.int .i64 0)).set 1 (.int .i64 0)).set 2 (.slice none 0 0)
    have V0 := Lib.hid (R.cell (i := 0) (by omega))
    have V1 := Lib.hid (R.cell (i := 1) (by omega))
    have V2 := Lib.hid (R.cell (i := 2) (by omega))
    have HB := Lib.hid (((hbw3.setCell (p := ⟨w.heap.size + 2, 0, none⟩) (by simp) (.int .i64 0)).setCell (p := ⟨w.heap.size + 2, 1, none⟩) (by simp) (.int .i64 0)).setCell (p := ⟨w.heap.size + 2, 2, none⟩) (by simp) (.slice none 0 0))
    clear R
    go_wp2_with fail
    exact bodyPost_ret (v := .tuple #[.agg #[.int .i64 0, .int .i64 0, .slice none 0 0], .int .i64 2]) (by simp [results, Try.results12, go_sem, V0.out, V1.out, V2.out]) rfl ⟨noG 2, .inl ⟨HX.out, rfl⟩, _, rfl, ownG9_none _ _, HB.out⟩
end Go.Proofs.Ytpbdbgajohacoaa
