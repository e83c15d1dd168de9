/-
  WALKS: 'spec.l01Is' computes isPolyB; both functions at every slice of terms. Conditions: the terms are bytes and 64-bit numbers; at most 2^20 of them.
-/
import Derived.Test.YtphgpadpffigjaaD
namespace Go.Proofs.Ytphgpadpffigjaa
open Go.RowKit Go.Sort

theorem sprime_is (p : Int) (w : World) (B : Bool) (h : primeB p = B) : Calls Try.prog 51 #[.int .i64 p] w fun e w' => e = .returned (.bool B) ∧ w = w' :=
  (specPrime_any p w).mono fun _ _ ⟨he, hw⟩ => ⟨by rw [he, h], hw⟩
theorem sin_is (n a b : Int) (w : World) (B : Bool) (h : (decide (a ≤ n) && decide (n ≤ b)) = B) : Calls Try.prog 52 #[.int .i64 n, .int .i64 a, .int .i64 b] w fun e w' => e = .returned (.bool B) ∧ w = w' :=
  (in_any n a b w).mono fun _ _ ⟨he, hw⟩ => ⟨by rw [he, h], hw⟩
theorem regrown_same {P : Program} {f : FuncId} {args : Array Value} {W : World} {d : Nat} {os : Array Obj} {v : Value}
    (h : Calls P f args (grow (redrawn W d) os) fun e w' => e = .returned v ∧ grow (redrawn W d) os = w') : Calls P f args (grow (redrawn W d) os) fun e w'' => e = .returned v ∧ ∃ p : Regrown, w'' = grow (redrawn W p.d) p.os :=
  h.mono fun _ _ ⟨he, hw⟩ => ⟨he, ⟨d, os⟩, hw.symm⟩

/-- The value in 1..p - 1. -/
def valB (p v : Int) : Bool := decide (1 ≤ v) && decide (v ≤ p - 1)

set_option maxHeartbeats 2000000 in
theorem specIs_in (p d : Int) (b off cap : Nat) (ts : List Tm) (w : World) (hl : ts.length ≤ 1048576) (hb : b < w.heap.size) (hT : Terms w b off ts) (hby : ∀ t ∈ ts, tmByte t) (hp : primeB p = true) (h1 : 1 ≤ d) (h3 : d ≤ 3) :
    Calls Try.prog 42 #[.agg #[.int .i64 p, .int .i64 d, .slice (some ⟨b, off, none⟩) ts.length cap]] w fun e w' => e = .returned (.bool (tailB p d ts 0)) ∧ Below w.heap.size w w' := by
  obtain ⟨hp2, hp13⟩ := prime_le hp
  have HP := Lib.hid hp
  clear hp
  have hin : (decide (1 ≤ d) && decide (d ≤ 3)) = true := by simp [h1, h3]
  have HIN := Lib.hid hin
  clear hin
  obtain ⟨W, hW, hbW, hWs, x0, x1, x2⟩ : ∃ W, W = w.alloc (.cells #[.int .i64 p, .int .i64 d, .slice (some ⟨b, off, none⟩) ts.length cap] 36) ∧ Below w.heap.size w W ∧ w.heap.size < W.heap.size ∧
      W.cell? ⟨w.heap.size, 0, none⟩ = some (.int .i64 p) ∧ W.cell? ⟨w.heap.size, 1, none⟩ = some (.int .i64 d) ∧ W.cell? ⟨w.heap.size, 2, none⟩ = some (.slice (some ⟨b, off, none⟩) ts.length cap) :=
    ⟨_, rfl, box1 _ _, by simp, by go_simp, by go_simp, by go_simp⟩
  go_enter Try.func42, Try.ntmps42
  go_wp2_with fail
  rw [← hW]
  clear hW
  ((with_reducible refine (sprime_is _ _ true HP.out).mono ?_); rintro e w1 ⟨rfl, rfl⟩)
  go_wp2_with fail
  ((with_reducible refine (sin_is _ _ _ _ true HIN.out).mono ?_); rintro e w1 ⟨rfl, rfl⟩)
  go_wp2
  go_loopw [3] (fun i wr => ∃ k : Nat, k ≤ ts.length ∧ i = .int .i64 k ∧ Upto p d ts k ∧ Below W.heap.size W wr) (fun i _ => ts.length - (intOf i).toNat)
  case atStart => exact ⟨0, by omega, rfl, Upto.start _ _ _, Below.refl _ _⟩
  case round =>
    obtain ⟨k, hk, rfl, hU, hbel⟩ := hrel
    have y2 := (hbel.cell (p := ⟨w.heap.size, 2, none⟩) hWs).trans x2
    by_cases hlt : k < ts.length
    · have hlt' : (k : Int) < (ts.length : Int) := by omega
      have hTr := (hT.below hbW hb).below hbel (Nat.lt_trans hb hWs)
      obtain ⟨c0, c1, c2, c3⟩ := hTr k hlt
      have y0 := (hbel.cell (p := ⟨w.heap.size, 0, none⟩) hWs).trans x0
      have y1 := (hbel.cell (p := ⟨w.heap.size, 1, none⟩) hWs).trans x1
      obtain ⟨⟨bx, by1, bz⟩, bv1, bv2⟩ := hby _ (List.getElem_mem hlt)
      have hz : w.heap.size < wr.heap.size := Nat.lt_of_lt_of_le hWs hbel.size
      have hzb : b < wr.heap.size := Nat.lt_trans hb hz
      obtain ⟨V, hV, hbV, t0, t1, t2, t3⟩ : ∃ V, V = wr.alloc (.cells #[.int .u8 ts[k].1, .int .u8 ts[k].2.1, .int .u8 ts[k].2.2.1, .int .i64 ts[k].2.2.2] 92) ∧ Below wr.heap.size wr V ∧
          V.cell? ⟨wr.heap.size, 0, none⟩ = some (.int .u8 ts[k].1) ∧ V.cell? ⟨wr.heap.size, 1, none⟩ = some (.int .u8 ts[k].2.1) ∧ V.cell? ⟨wr.heap.size, 2, none⟩ = some (.int .u8 ts[k].2.2.1) ∧ V.cell? ⟨wr.heap.size, 3, none⟩ = some (.int .i64 ts[k].2.2.2) :=
        ⟨_, rfl, box1 _ _, by go_simp, by go_simp, by go_simp, by go_simp⟩
      have z0 := cell_regrown ((hbV.cell (p := ⟨w.heap.size, 0, none⟩) hz).trans y0)
      have z1 := cell_regrown ((hbV.cell (p := ⟨w.heap.size, 1, none⟩) hz).trans y1)
      have z2 := cell_regrown ((hbV.cell (p := ⟨w.heap.size, 2, none⟩) hz).trans y2)
      have s0 := cell_regrown t0
      have s1 := cell_regrown t1
      have s2 := cell_regrown t2
      have s3 := cell_regrown t3
      have hTV := hTr.below hbV hzb
      have hbelV := hbel.trans (hbV.mono hbel.size)
      have cE : ∀ (B : Bool), expsOk d ts[k].1 ts[k].2.1 ts[k].2.2.1 = B → ∀ dd os, Calls Try.prog 87 #[.int .i64 d, .agg #[.int .u8 ts[k].1, .int .u8 ts[k].2.1, .int .u8 ts[k].2.2.1]] (grow (redrawn V dd) os) fun e w'' => e = .returned (.bool B) ∧ ∃ p : Regrown, w'' = grow (redrawn V p.d) p.os := fun B hB dd os => by
        rw [← hB]; exact Calls.regrown_of (exps_any d _ _ _ _ ⟨h1, h3⟩ bx by1 bz)
      have cI : ∀ (B : Bool), valB p ts[k].2.2.2 = B → ∀ dd os, Calls Try.prog 52 #[.int .i64 ts[k].2.2.2, .int .i64 1, .int .i64 (p - 1)] (grow (redrawn V dd) os) fun e w'' => e = .returned (.bool B) ∧ ∃ p : Regrown, w'' = grow (redrawn V p.d) p.os := fun B hB dd os =>
        regrown_same (sin_is _ _ _ _ B hB)
      cases hE : expsOk d ts[k].1 ts[k].2.1 ts[k].2.2.1
      · have HB : Hid (tailB p d ts 0 = false) := Lib.hid (hU.bad1 hlt (by simp [termOk, hE]))
        have kE := cE false hE
        clear hE cE cI
        go_wp2
        rw [← hV]
        clear hV
        refine wp_region_quiet_below (by kernel_rfl) (by kernel_rfl) ?_
        repeat (go_big_quiet_step (with_reducible exact kE _ _))
        refine wpQuiet_nil ?_
        intro _ hw'
        obtain ⟨⟨dq, osq⟩, hw''⟩ := hw'
        subst hw''
        go_wp2
        go_ret
        exact ⟨by rw [HB.out]; rfl, hbW.trans ((hbelV.trans ((below_regrown V dq osq).mono hbelV.size)).mono (Nat.le_of_lt hWs))⟩
      · have kE := cE true hE
        cases hI : valB p ts[k].2.2.2
        · have HB : Hid (tailB p d ts 0 = false) := Lib.hid (hU.bad1 hlt (by unfold termOk; unfold valB at hI; rw [hI]; simp))
          have kI := cI false hI
          clear hE hI cE cI
          go_wp2
          rw [← hV]
          clear hV
          refine wp_region_quiet_below (by kernel_rfl) (by kernel_rfl) ?_
          repeat (go_big_quiet_step (first | with_reducible exact kE _ _ | with_reducible exact kI _ _))
          refine wpQuiet_nil ?_
          intro _ hw'
          obtain ⟨⟨dq, osq⟩, hw''⟩ := hw'
          subst hw''
          go_wp2
          go_ret
          exact ⟨by rw [HB.out]; rfl, hbW.trans ((hbelV.trans ((below_regrown V dq osq).mono hbelV.size)).mono (Nat.le_of_lt hWs))⟩
        · have kI := cI true hI
          have hOk : termOk p d ts[k] = true := by unfold termOk; unfold valB at hI; rw [hI, hE]; rfl
          have HOk := Lib.hid hOk
          clear hOk hE hI cE cI
          cases k with
          | zero =>
            have hU1 := hU.next hlt HOk.out rfl
            simp only [Nat.zero_mul, Nat.add_zero] at c0 c1 c2 c3
            go_wp2
            rw [← hV]
            clear hV
            refine wp_region_quiet_below (by kernel_rfl) (by kernel_rfl) ?_
            repeat (go_big_quiet_step (first | with_reducible exact kE _ _ | with_reducible exact kI _ _))
            refine wpQuiet_nil ?_
            intro _ hw'
            obtain ⟨⟨dq, osq⟩, hw''⟩ := hw'
            subst hw''
            go_wp2
            go_roundw
            case rel => exact ⟨1, by omega, by go_num, hU1, hbelV.trans ((below_regrown V dq osq).mono hbelV.size)⟩
            case measure => simp [intOf]; omega
          | succ j =>
            have hj : j < ts.length := by omega
            obtain ⟨p0, p1, p2, p3⟩ := hTV j hj
            obtain ⟨⟨ax, ay, az⟩, _, _⟩ := hby _ (List.getElem_mem hj)
            have q0 := cell_regrown p0
            have q1 := cell_regrown p1
            have q2 := cell_regrown p2
            have hln : linkO (prevT ts (j + 1)) ts[j + 1] = beforeB (tmE ts[j]) (tmE ts[j + 1]) := by simp [prevT, linkO, hj]
            have HLN := Lib.hid hln
            clear hln
            have cC : ∀ (B : Bool), beforeB (tmE ts[j]) (tmE ts[j + 1]) = B → ∀ dd os, Calls Try.prog 88 #[.agg #[.int .u8 ts[j].1, .int .u8 ts[j].2.1, .int .u8 ts[j].2.2.1], .agg #[.int .u8 ts[j + 1].1, .int .u8 ts[j + 1].2.1, .int .u8 ts[j + 1].2.2.1]] (grow (redrawn V dd) os) fun e w'' => e = .returned (.bool B) ∧ ∃ p : Regrown, w'' = grow (redrawn V p.d) p.os := fun B hB dd os => by
              rw [← hB]; exact Calls.regrown_of (before_any _ _ _ _ _ _ _ ax ay az bx by1 bz)
            cases hC : beforeB (tmE ts[j]) (tmE ts[j + 1])
            · have kC := cC false hC
              have HB : Hid (tailB p d ts 0 = false) := Lib.hid (hU.bad2 hlt (HLN.out.trans hC))
              clear cC hC
              go_wp2
              rw [← hV]
              clear hV
              refine wp_region_quiet_below (by kernel_rfl) (by kernel_rfl) ?_
              repeat (go_big_quiet_step (first | with_reducible exact kE _ _ | with_reducible exact kI _ _ | with_reducible exact kC _ _))
              refine wpQuiet_nil ?_
              intro _ hw'
              obtain ⟨⟨dq, osq⟩, hw''⟩ := hw'
              subst hw''
              go_wp2
              go_ret
              exact ⟨by rw [HB.out]; rfl, hbW.trans ((hbelV.trans ((below_regrown V dq osq).mono hbelV.size)).mono (Nat.le_of_lt hWs))⟩
            · have kC := cC true hC
              have hU1 := hU.next hlt HOk.out (HLN.out.trans hC)
              clear cC hC
              go_wp2
              rw [← hV]
              clear hV
              refine wp_region_quiet_below (by kernel_rfl) (by kernel_rfl) ?_
              repeat (go_big_quiet_step (first | with_reducible exact kE _ _ | with_reducible exact kI _ _ | with_reducible exact kC _ _))
              refine wpQuiet_nil ?_
              intro _ hw'
              obtain ⟨⟨dq, osq⟩, hw''⟩ := hw'
              subst hw''
              go_wp2
              go_roundw
              case rel => exact ⟨j + 1 + 1, by omega, by go_num, hU1, hbelV.trans ((below_regrown V dq osq).mono hbelV.size)⟩
              case measure => simp [intOf]; omega
    · obtain rfl : k = ts.length := by omega
      go_wp2
      go_ret
      exact ⟨by rw [hU.done]; rfl, hbW.trans (hbel.mono (Nat.le_of_lt hWs))⟩

end Go.Proofs.Ytphgpadpffigjaa
