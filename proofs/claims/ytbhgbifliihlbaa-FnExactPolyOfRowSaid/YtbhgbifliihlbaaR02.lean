/-
  WALKS: 'spec.l01Is' computes isPolyB; both functions at every slice of terms. Conditions: the terms are bytes and 64-bit numbers; at most 2^20 of them.
  WALKS: polynomials as arguments of the laws: sizes, copies, comparing; 'IsPoly' of model and program at every polynomial value. Conditions: as each theorem states.
  Plain mathematics: the order of monomials is strict and total; sorted lists of terms with the same coefficients are one list. Conditions: none.
  Comparing two arrays of three bytes: what the model gives. Conditions: none.
  WALKS: 'spec.l01At'. Conditions: as each theorem states.
  WALKS: 'spec.l01Mod', 'spec.l01Empty', 'spec.l01Put'. Conditions: as each theorem states.
-/
import Derived.Test.YtbhgbifliihlbaaR01
import Derived.Test.YtbhgbifliihlbaaRows
import Derived.WalkKit
import Derived.Laws.StructEq
namespace Go.Proofs.Ytbhgbifliihlbaa
open Go.RowKit Go.Sort

theorem sprime_is (p : Int) (w : World) (B : Bool) (h : primeB p = B) : Calls Try.prog 40 #[.int .i64 p] w fun e w' => e = .returned (.bool B) ∧ w = w' :=
  (specPrime_any p w).mono fun _ _ ⟨he, hw⟩ => ⟨by rw [he, h], hw⟩
theorem sin_is (n a b : Int) (w : World) (B : Bool) (h : (decide (a ≤ n) && decide (n ≤ b)) = B) : Calls Try.prog 41 #[.int .i64 n, .int .i64 a, .int .i64 b] w fun e w' => e = .returned (.bool B) ∧ w = w' :=
  (in_any n a b w).mono fun _ _ ⟨he, hw⟩ => ⟨by rw [he, h], hw⟩
theorem regrown_same {P : Program} {f : FuncId} {args : Array Value} {W : World} {d : Nat} {os : Array Obj} {v : Value}
    (h : Calls P f args (grow (redrawn W d) os) fun e w' => e = .returned v ∧ grow (redrawn W d) os = w') : Calls P f args (grow (redrawn W d) os) fun e w'' => e = .returned v ∧ ∃ p : Regrown, w'' = grow (redrawn W p.d) p.os :=
  h.mono fun _ _ ⟨he, hw⟩ => ⟨he, ⟨d, os⟩, hw.symm⟩

/-- The value in 1..p - 1. -/
def valB (p v : Int) : Bool := decide (1 ≤ v) && decide (v ≤ p - 1)

set_option maxHeartbeats 2000000 in
theorem specIs_in (p d : Int) (b off cap : Nat) (ts : List Tm) (w : World) (hl : ts.length ≤ 1048576) (hb : b < w.heap.size) (hT : Terms w b off ts) (hby : ∀ t ∈ ts, tmByte t) (hp : primeB p = true) (h1 : 1 ≤ d) (h3 : d ≤ 3) :
    Calls Try.prog 65 #[.agg #[.int .i64 p, .int .i64 d, .slice (some ⟨b, off, none⟩) ts.length cap]] w fun e w' => e = .returned (.bool (tailB p d ts 0)) ∧ Below w.heap.size w w' := by
  obtain ⟨hp2, hp13⟩ := prime_le hp
  have HP := Lib.hid hp
  clear hp
  have hin : (decide (1 ≤ d) && decide (d ≤ 3)) = true := by simp [h1, h3]
  have HIN := Lib.hid hin
  clear hin
  obtain ⟨W, hW, hbW, hWs, x0, x1, x2⟩ : ∃ W, W = w.alloc (.cells #[.int .i64 p, .int .i64 d, .slice (some ⟨b, off, none⟩) ts.length cap] 40) ∧ Below w.heap.size w W ∧ w.heap.size < W.heap.size ∧
      W.cell? ⟨w.heap.size, 0, none⟩ = some (.int .i64 p) ∧ W.cell? ⟨w.heap.size, 1, none⟩ = some (.int .i64 d) ∧ W.cell? ⟨w.heap.size, 2, none⟩ = some (.slice (some ⟨b, off, none⟩) ts.length cap) :=
    ⟨_, rfl, box1 _ _, by simp, by go_simp, by go_simp, by go_simp⟩
  go_enter Try.func65, Try.ntmps65
  go_wp2_with fail
  rw [← hW]
  clear hW
  ((with_reducible refine (sprime_is _ _ true HP.out).mono ?_); rintro e w1 ⟨rfl, rfl⟩)
  go_wp2_with fail
  ((with_reducible refine (sin_is _ _ _ _ true HIN.out).mono ?_); rintro e w1 ⟨rfl, rfl⟩)
  go_wp2
  go_loopw [3] (fun i wr => ∃ k : Nat, k ≤ ts.length ∧ i = .int .i64 k ∧ Upto p d ts k ∧ Below W.heap.size W wr) (fun i _ => ts.length - (intOf i).toNat)
  case atStart => exact ⟨0, by omega, rfl, Upto.start _ _ _, Below.refl _ _⟩
  case round =>
    obtain ⟨k, hk, rfl, hU, hbel⟩ := hrel
    have y2 := (hbel.cell (p := ⟨w.heap.size, 2, none⟩) hWs).trans x2
    by_cases hlt : k < ts.length
    · have hlt' : (k : Int) < (ts.length : Int) := by omega
      have hTr := (hT.below hbW hb).below hbel (Nat.lt_trans hb hWs)
      obtain ⟨c0, c1, c2, c3⟩ := hTr k hlt
      have y0 := (hbel.cell (p := ⟨w.heap.size, 0, none⟩) hWs).trans x0
      have y1 := (hbel.cell (p := ⟨w.heap.size, 1, none⟩) hWs).trans x1
      obtain ⟨⟨bx, by1, bz⟩, bv1, bv2⟩ := hby _ (List.getElem_mem hlt)
      have hz : w.heap.size < wr.heap.size := Nat.lt_of_lt_of_le hWs hbel.size
      have hzb : b < wr.heap.size := Nat.lt_trans hb hz
      obtain ⟨V, hV, hbV, t0, t1, t2, t3⟩ : ∃ V, V = wr.alloc (.cells #[.int .u8 ts[k].1, .int .u8 ts[k].2.1, .int .u8 ts[k].2.2.1, .int .i64 ts[k].2.2.2] 115) ∧ Below wr.heap.size wr V ∧
          V.cell? ⟨wr.heap.size, 0, none⟩ = some (.int .u8 ts[k].1) ∧ V.cell? ⟨wr.heap.size, 1, none⟩ = some (.int .u8 ts[k].2.1) ∧ V.cell? ⟨wr.heap.size, 2, none⟩ = some (.int .u8 ts[k].2.2.1) ∧ V.cell? ⟨wr.heap.size, 3, none⟩ = some (.int .i64 ts[k].2.2.2) :=
        ⟨_, rfl, box1 _ _, by go_simp, by go_simp, by go_simp, by go_simp⟩
      have z0 := cell_regrown ((hbV.cell (p := ⟨w.heap.size, 0, none⟩) hz).trans y0)
      have z1 := cell_regrown ((hbV.cell (p := ⟨w.heap.size, 1, none⟩) hz).trans y1)
      have z2 := cell_regrown ((hbV.cell (p := ⟨w.heap.size, 2, none⟩) hz).trans y2)
      have s0 := cell_regrown t0
      have s1 := cell_regrown t1
      have s2 := cell_regrown t2
      have s3 := cell_regrown t3
      have hTV := hTr.below hbV hzb
      have hbelV := hbel.trans (hbV.mono hbel.size)
      have cE : ∀ (B : Bool), expsOk d ts[k].1 ts[k].2.1 ts[k].2.2.1 = B → ∀ dd os, Calls Try.prog 106 #[.int .i64 d, .agg #[.int .u8 ts[k].1, .int .u8 ts[k].2.1, .int .u8 ts[k].2.2.1]] (grow (redrawn V dd) os) fun e w'' => e = .returned (.bool B) ∧ ∃ p : Regrown, w'' = grow (redrawn V p.d) p.os := fun B hB dd os => by
        rw [← hB]; exact Calls.regrown_of (exps_any d _ _ _ _ ⟨h1, h3⟩ bx by1 bz)
      have cI : ∀ (B : Bool), valB p ts[k].2.2.2 = B → ∀ dd os, Calls Try.prog 41 #[.int .i64 ts[k].2.2.2, .int .i64 1, .int .i64 (p - 1)] (grow (redrawn V dd) os) fun e w'' => e = .returned (.bool B) ∧ ∃ p : Regrown, w'' = grow (redrawn V p.d) p.os := fun B hB dd os =>
        regrown_same (sin_is _ _ _ _ B hB)
      cases hE : expsOk d ts[k].1 ts[k].2.1 ts[k].2.2.1
      · have HB : Hid (tailB p d ts 0 = false) := Lib.hid (hU.bad1 hlt (by simp [termOk, hE]))
        have kE := cE false hE
        clear hE cE cI
        go_wp2
        rw [← hV]
        clear hV
        refine wp_region_quiet_below (by kernel_rfl) (by kernel_rfl) ?_
        repeat (go_big_quiet_step (with_reducible exact kE _ _))
        refine wpQuiet_nil ?_
        intro _ hw'
        obtain ⟨⟨dq, osq⟩, hw''⟩ := hw'
        subst hw''
        go_wp2
        go_ret
        exact ⟨by rw [HB.out]; rfl, hbW.trans ((hbelV.trans ((below_regrown V dq osq).mono hbelV.size)).mono (Nat.le_of_lt hWs))⟩
      · have kE := cE true hE
        cases hI : valB p ts[k].2.2.2
        · have HB : Hid (tailB p d ts 0 = false) := Lib.hid (hU.bad1 hlt (by unfold termOk; unfold valB at hI; rw [hI]; simp))
          have kI := cI false hI
          clear hE hI cE cI
          go_wp2
          rw [← hV]
          clear hV
          refine wp_region_quiet_below (by kernel_rfl) (by kernel_rfl) ?_
          repeat (go_big_quiet_step (first | with_reducible exact kE _ _ | with_reducible exact kI _ _))
          refine wpQuiet_nil ?_
          intro _ hw'
          obtain ⟨⟨dq, osq⟩, hw''⟩ := hw'
          subst hw''
          go_wp2
          go_ret
          exact ⟨by rw [HB.out]; rfl, hbW.trans ((hbelV.trans ((below_regrown V dq osq).mono hbelV.size)).mono (Nat.le_of_lt hWs))⟩
        · have kI := cI true hI
          have hOk : termOk p d ts[k] = true := by unfold termOk; unfold valB at hI; rw [hI, hE]; rfl
          have HOk := Lib.hid hOk
          clear hOk hE hI cE cI
          cases k with
          | zero =>
            have hU1 := hU.next hlt HOk.out rfl
            simp only [Nat.zero_mul, Nat.add_zero] at c0 c1 c2 c3
            go_wp2
            rw [← hV]
            clear hV
            refine wp_region_quiet_below (by kernel_rfl) (by kernel_rfl) ?_
            repeat (go_big_quiet_step (first | with_reducible exact kE _ _ | with_reducible exact kI _ _))
            refine wpQuiet_nil ?_
            intro _ hw'
            obtain ⟨⟨dq, osq⟩, hw''⟩ := hw'
            subst hw''
            go_wp2
            go_roundw
            case rel => exact ⟨1, by omega, by go_num, hU1, hbelV.trans ((below_regrown V dq osq).mono hbelV.size)⟩
            case measure => simp [intOf]; omega
          | succ j =>
            have hj : j < ts.length := by omega
            obtain ⟨p0, p1, p2, p3⟩ := hTV j hj
            obtain ⟨⟨ax, ay, az⟩, _, _⟩ := hby _ (List.getElem_mem hj)
            have q0 := cell_regrown p0
            have q1 := cell_regrown p1
            have q2 := cell_regrown p2
            have hln : linkO (prevT ts (j + 1)) ts[j + 1] = beforeB (tmE ts[j]) (tmE ts[j + 1]) := by simp [prevT, linkO, hj]
            have HLN := Lib.hid hln
            clear hln
            have cC : ∀ (B : Bool), beforeB (tmE ts[j]) (tmE ts[j + 1]) = B → ∀ dd os, Calls Try.prog 107 #[.agg #[.int .u8 ts[j].1, .int .u8 ts[j].2.1, .int .u8 ts[j].2.2.1], .agg #[.int .u8 ts[j + 1].1, .int .u8 ts[j + 1].2.1, .int .u8 ts[j + 1].2.2.1]] (grow (redrawn V dd) os) fun e w'' => e = .returned (.bool B) ∧ ∃ p : Regrown, w'' = grow (redrawn V p.d) p.os := fun B hB dd os => by
              rw [← hB]; exact Calls.regrown_of (before_any _ _ _ _ _ _ _ ax ay az bx by1 bz)
            cases hC : beforeB (tmE ts[j]) (tmE ts[j + 1])
            · have kC := cC false hC
              have HB : Hid (tailB p d ts 0 = false) := Lib.hid (hU.bad2 hlt (HLN.out.trans hC))
              clear cC hC
              go_wp2
              rw [← hV]
              clear hV
              refine wp_region_quiet_below (by kernel_rfl) (by kernel_rfl) ?_
              repeat (go_big_quiet_step (first | with_reducible exact kE _ _ | with_reducible exact kI _ _ | with_reducible exact kC _ _))
              refine wpQuiet_nil ?_
              intro _ hw'
              obtain ⟨⟨dq, osq⟩, hw''⟩ := hw'
              subst hw''
              go_wp2
              go_ret
              exact ⟨by rw [HB.out]; rfl, hbW.trans ((hbelV.trans ((below_regrown V dq osq).mono hbelV.size)).mono (Nat.le_of_lt hWs))⟩
            · have kC := cC true hC
              have hU1 := hU.next hlt HOk.out (HLN.out.trans hC)
              clear cC hC
              go_wp2
              rw [← hV]
              clear hV
              refine wp_region_quiet_below (by kernel_rfl) (by kernel_rfl) ?_
              repeat (go_big_quiet_step (first | with_reducible exact kE _ _ | with_reducible exact kI _ _ | with_reducible exact kC _ _))
              refine wpQuiet_nil ?_
              intro _ hw'
              obtain ⟨⟨dq, osq⟩, hw''⟩ := hw'
              subst hw''
              go_wp2
              go_roundw
              case rel => exact ⟨j + 1 + 1, by omega, by go_num, hU1, hbelV.trans ((below_regrown V dq osq).mono hbelV.size)⟩
              case measure => simp [intOf]; omega
    · obtain rfl : k = ts.length := by omega
      go_wp2
      go_ret
      exact ⟨by rw [hU.done]; rfl, hbW.trans (hbel.mono (Nat.le_of_lt hWs))⟩

end Go.Proofs.Ytbhgbifliihlbaa
namespace Go.Proofs.Ytbhgbifliihlbaa
open Go.RowKit Go.Sort

/-- A slice that reads as these terms. -/
def SliceT (w : World) (v : Value) (ts : List Tm) : Prop :=
  ∃ a cap, v = .slice a ts.length cap ∧ (ts = [] ∨ ∃ b off, a = some ⟨b, off, none⟩ ∧ b < w.heap.size ∧ Terms w b off ts)
theorem SliceT.below {w w' : World} {v : Value} {ts : List Tm} (h : SliceT w v ts) (hb : Below w.heap.size w w') : SliceT w' v ts := by
  obtain ⟨a, cap, hv, h | ⟨b, off, ha, hlt, hT⟩⟩ := h
  · exact ⟨a, cap, hv, .inl h⟩
  · exact ⟨a, cap, hv, .inr ⟨b, off, ha, Nat.lt_of_lt_of_le hlt hb.size, hT.below hb hlt⟩⟩
/-- A slice of the call's own that holds these terms. -/
def OwnT (w : World) (base : Nat) (v : Value) (ts : List Tm) : Prop :=
  ∃ g f, v = .slice (some ⟨g, 0, none⟩) ts.length ts.length ∧ base ≤ g ∧ w.rowIs g 115 (ts.length * 4) f ∧ rowT ts ts.length f
theorem OwnT.slice {w : World} {base : Nat} {v : Value} {ts : List Tm} (h : OwnT w base v ts) : SliceT w v ts := by
  obtain ⟨g, f, hv, _, hr, ht⟩ := h
  refine ⟨_, _, hv, .inr ⟨g, 0, rfl, hr.lt, fun k hk => ?_⟩⟩
  obtain ⟨h0, h1, h2, h3⟩ := ht k hk hk
  refine ⟨?_, ?_, ?_, ?_⟩
  · rw [Nat.zero_add, hr.cell (by omega), h0]
  · rw [Nat.zero_add, hr.cell (by omega), h1]
  · rw [Nat.zero_add, hr.cell (by omega), h2]
  · rw [Nat.zero_add, hr.cell (by omega), h3]
theorem OwnT.below {w w' : World} {base : Nat} {v : Value} {ts : List Tm} (h : OwnT w base v ts) (hb : Below w.heap.size w w') : OwnT w' base v ts := by
  obtain ⟨g, f, hv, hg, hr, ht⟩ := h
  exact ⟨g, f, hv, hg, rowIs_below hr hb hr.lt, ht⟩

theorem toTermS_any (v : Value) (ts : List Tm) (w : World) (hl : ts.length ≤ 1048576) (hS : SliceT w v ts) :
    Calls Try.prog 67 #[v] w fun e w' => ∃ v', e = .returned v' ∧ OwnT w' w.heap.size v' ts ∧ Below w.heap.size w w' := by
  obtain ⟨a, cap, rfl, h | ⟨b, off, rfl, hlt, hT⟩⟩ := hS
  · subst h
    obtain ⟨i0, hi, hz0, hz1, hz2⟩ := info_parts infoTerm
    have hmk : ∀ w, (Instr.makeSlice 38 (.int .i64 0) (.int .i64 0)).run Try.prog w = .ok (.slice (some ⟨w.heap.size, 0, none⟩) 0 0) (w.alloc (.cells (madeT 0) 115)) := fun w => by
      have h := run_make (P := Try.prog) w 38 115 i0 _ Try.underlying38 hi hz0 .i64 .i64 0 0 (by omega) (by omega) (by rw [hz2]; omega) (by omega)
      rw [hz1] at h
      simpa [madeT] using h
    clear hi hz0 hz1 hz2
    go_enter Try.func67, Try.ntmps67
    go_wp2
    refine wp_loop_rounds 1 ?_
    rw [rounds_succ]
    go_wp2
    go_ret
    exact ⟨_, rfl, ⟨w.heap.size, _, rfl, Nat.le_refl _, madeT_row w 0 _, fun j h => by simp at h⟩, box1 _ _⟩
  · exact (toTermS_some b off cap ts w hl hlt hT).mono fun e w' ⟨he, f, hr, ht, hb⟩ => ⟨_, he, ⟨w.heap.size, f, rfl, Nat.le_refl _, hr, ht⟩, hb⟩

/-- A polynomial value. -/
abbrev pv (p d : Int) (v : Value) : Value := .agg #[.int .i64 p, .int .i64 d, v]

set_option maxHeartbeats 1000000 in
theorem toPoly_any (p d : Int) (v : Value) (ts : List Tm) (w : World) (hl : ts.length ≤ 1048576) (hS : SliceT w v ts) :
    Calls Try.prog 32 #[.agg #[.int .i64 p, .int .i64 d, v]] w fun e w' => ∃ v', e = .returned (.agg #[.int .i64 p, .int .i64 d, v']) ∧ OwnT w' w.heap.size v' ts ∧ Below w.heap.size w w' := by
  have hS3 : ∀ o1 o2 o3, SliceT (((w.alloc o1).alloc o2).alloc o3) v ts := fun o1 o2 o3 => hS.below (box3 _ _ _ _)
  obtain ⟨a, cap, hv, _⟩ := id hS
  subst hv
  go_enter Try.func32, Try.ntmps32
  go_wp2_with fail
  ((with_reducible refine (toTermS_any _ ts _ hl (hS3 _ _ _)).mono ?_); rintro e w1 ⟨v', rfl, hown, hb⟩)
  obtain ⟨hc, hf⟩ := old_cells hb
  have hz : w.heap.size + 1 + 1 < w1.heap.size := by have := hb.size; simp at this; omega
  have hb0 := (box3 _ _ _ _).trans (hb.mono (by simp; omega))
  obtain ⟨g, f, rfl, hg, hr, ht⟩ := hown
  simp only [World.size_alloc] at hg
  clear hb hS3
  go_wp2
  exact bodyPost_ret (v := .agg #[.int .i64 p, .int .i64 d, .slice (some ⟨g, 0, none⟩) ts.length ts.length]) (by simp [results, Try.results32, go_sem, hc]) rfl ⟨_, rfl, ⟨g, f, rfl, by omega, by repeat (first | with_reducible exact hr | with_reducible refine World.rowIs.setOther ?_ (by simp; omega) _), ht⟩, by repeat (first | with_reducible exact hb0 | with_reducible refine Below.setCell ?_ (by simp; try omega) _)⟩

theorem isPoly_nil (p d : Int) (a : Option Addr) (cap : Nat) (w : World) (hp : primeB p = true) (h1 : 1 ≤ d) (h3 : d ≤ 3) :
    Calls Try.prog 68 #[.agg #[.int .i64 p, .int .i64 d, .slice a 0 cap]] w fun e w' => e = .returned (.bool true) ∧ Below w.heap.size w w' := by
  have HP := Lib.hid hp
  clear hp
  go_enter Try.func68, Try.ntmps68
  go_wp2_with fail
  ((with_reducible refine (prime_yes _ _ HP.out).mono ?_); rintro e w1 ⟨rfl, rfl⟩)
  go_wp2_with fail
  ((with_reducible refine (vars_t _ _ h1 h3).mono ?_); rintro e w1 ⟨rfl, rfl⟩)
  go_wp2
  refine wp_loop_rounds 1 ?_
  rw [rounds_succ]
  go_wp2
  go_ret
  exact ⟨rfl, box1 _ _⟩

theorem isPoly_any (p d : Int) (v : Value) (ts : List Tm) (w : World) (hl : ts.length ≤ 1048576) (hS : SliceT w v ts) (hby : ∀ t ∈ ts, tmByte t) :
    Calls Try.prog 68 #[.agg #[.int .i64 p, .int .i64 d, v]] w fun e w' => e = .returned (.bool (isPolyB p d ts)) ∧ Below w.heap.size w w' := by
  cases hp : primeB p
  · have HB : Hid (isPolyB p d ts = false) := Lib.hid (by simp [isPolyB, hp])
    have HP := Lib.hid hp
    clear hp
    obtain ⟨a, cap, rfl, _⟩ := hS
    go_enter Try.func68, Try.ntmps68
    go_wp2_with fail
    ((with_reducible refine (prime_no _ _ HP.out).mono ?_); rintro e w1 ⟨rfl, rfl⟩)
    go_wp2
    go_ret
    exact ⟨by rw [HB.out]; rfl, box1 _ _⟩
  · by_cases hd : 1 ≤ d ∧ d ≤ 3
    · obtain ⟨h1, h3⟩ := hd
      have hB : isPolyB p d ts = tailB p d ts 0 := by simp [isPolyB, hp, h1, h3]
      rw [hB]
      obtain ⟨a, cap, rfl, h | ⟨b, off, rfl, hlt, hT⟩⟩ := hS
      · subst h
        exact (isPoly_nil p d a cap w hp h1 h3).mono fun e w' ⟨he, hb⟩ => ⟨by rw [he]; rfl, hb⟩
      · exact isPoly_in p d b off cap ts w hl hlt hT hby hp h1 h3
    · have HB : Hid (isPolyB p d ts = false) := Lib.hid (by simp [isPolyB]; omega)
      have HP := Lib.hid hp
      have hd' : d < 1 ∨ 3 < d := by omega
      clear hp hd
      obtain ⟨a, cap, rfl, _⟩ := hS
      go_enter Try.func68, Try.ntmps68
      go_wp2_with fail
      ((with_reducible refine (prime_yes _ _ HP.out).mono ?_); rintro e w1 ⟨rfl, rfl⟩)
      go_wp2_with fail
      ((with_reducible refine (vars_f _ _ hd').mono ?_); rintro e w1 ⟨rfl, rfl⟩)
      go_wp2
      go_ret
      exact ⟨by rw [HB.out]; rfl, box1 _ _⟩

theorem specIs_nil (p d : Int) (a : Option Addr) (cap : Nat) (w : World) (hp : primeB p = true) (h1 : 1 ≤ d) (h3 : d ≤ 3) :
    Calls Try.prog 65 #[.agg #[.int .i64 p, .int .i64 d, .slice a 0 cap]] w fun e w' => e = .returned (.bool true) ∧ Below w.heap.size w w' := by
  have HP := Lib.hid hp
  have hin : (decide (1 ≤ d) && decide (d ≤ 3)) = true := by simp [h1, h3]
  have HIN := Lib.hid hin
  clear hp hin
  go_enter Try.func65, Try.ntmps65
  go_wp2_with fail
  ((with_reducible refine (sprime_is _ _ true HP.out).mono ?_); rintro e w1 ⟨rfl, rfl⟩)
  go_wp2_with fail
  ((with_reducible refine (sin_is _ _ _ _ true HIN.out).mono ?_); rintro e w1 ⟨rfl, rfl⟩)
  go_wp2
  refine wp_loop_rounds 1 ?_
  rw [rounds_succ]
  go_wp2
  go_ret
  exact ⟨rfl, box1 _ _⟩

theorem specIs_any (p d : Int) (v : Value) (ts : List Tm) (w : World) (hl : ts.length ≤ 1048576) (hS : SliceT w v ts) (hby : ∀ t ∈ ts, tmByte t) :
    Calls Try.prog 65 #[.agg #[.int .i64 p, .int .i64 d, v]] w fun e w' => e = .returned (.bool (isPolyB p d ts)) ∧ Below w.heap.size w w' := by
  cases hp : primeB p
  · have HB : Hid (isPolyB p d ts = false) := Lib.hid (by simp [isPolyB, hp])
    have HP := Lib.hid hp
    clear hp
    obtain ⟨a, cap, rfl, _⟩ := hS
    go_enter Try.func65, Try.ntmps65
    go_wp2_with fail
    ((with_reducible refine (sprime_is _ _ false HP.out).mono ?_); rintro e w1 ⟨rfl, rfl⟩)
    go_wp2
    go_ret
    exact ⟨by rw [HB.out]; rfl, box1 _ _⟩
  · by_cases hd : 1 ≤ d ∧ d ≤ 3
    · obtain ⟨h1, h3⟩ := hd
      have hB : isPolyB p d ts = tailB p d ts 0 := by simp [isPolyB, hp, h1, h3]
      rw [hB]
      obtain ⟨a, cap, rfl, h | ⟨b, off, rfl, hlt, hT⟩⟩ := hS
      · subst h
        exact (specIs_nil p d a cap w hp h1 h3).mono fun e w' ⟨he, hb⟩ => ⟨by rw [he]; rfl, hb⟩
      · exact specIs_in p d b off cap ts w hl hlt hT hby hp h1 h3
    · have HB : Hid (isPolyB p d ts = false) := Lib.hid (by simp [isPolyB]; omega)
      have HP := Lib.hid hp
      have HIN : Hid ((decide (1 ≤ d) && decide (d ≤ 3)) = false) := Lib.hid (by simp; omega)
      clear hp hd
      obtain ⟨a, cap, rfl, _⟩ := hS
      go_enter Try.func65, Try.ntmps65
      go_wp2_with fail
      ((with_reducible refine (sprime_is _ _ true HP.out).mono ?_); rintro e w1 ⟨rfl, rfl⟩)
      go_wp2_with fail
      ((with_reducible refine (sin_is _ _ _ _ false HIN.out).mono ?_); rintro e w1 ⟨rfl, rfl⟩)
      go_wp2
      go_ret
      exact ⟨by rw [HB.out]; rfl, box1 _ _⟩

/-- The size that is left behind a polynomial, -1 if none is. -/
def leftOf (left : Int) (n : Nat) : Int := if left - n < 0 then -1 else left - n
theorem szPoly_any (p d left : Int) (v : Value) (ts : List Tm) (w : World) (hn : ts.length ≤ 9223372036854775807) (h0 : 0 ≤ left) (h1 : left ≤ 1048576) (hS : SliceT w v ts) :
    Calls Try.prog 30 #[.agg #[.int .i64 p, .int .i64 d, v], .int .i64 left] w fun e w' => e = .returned (.int .i64 (leftOf left ts.length)) ∧ Below w.heap.size w w' := by
  obtain ⟨a, cap, rfl, _⟩ := hS
  by_cases h : left - ts.length < 0
  · go_enter Try.func30, Try.ntmps30
    go_wp2_with go_in
    go_ret
    exact ⟨by simp [leftOf, h], box1 _ _⟩
  · go_enter Try.func30, Try.ntmps30
    go_wp2_with go_in
    go_ret
    exact ⟨by simp [leftOf]; omega, box1 _ _⟩

end Go.Proofs.Ytbhgbifliihlbaa
namespace Go.Proofs.Ytbhgbifliihlbaa

/-- The value of the term with exponents e, 0 if there is none. -/
def atL : List Tm → Int × Int × Int → Int
  | [], _ => 0
  | t :: r, e => if tmE t = e then t.2.2.2 else atL r e
theorem atL_step (ts : List Tm) (e : Int × Int × Int) (k : Nat) (h : k < ts.length) : atL (ts.drop k) e = if tmE ts[k] = e then ts[k].2.2.2 else atL (ts.drop (k + 1)) e := by
  rw [List.drop_eq_getElem_cons h]; rfl

theorem before_irrefl (a : Int × Int × Int) : beforeB a a = false := by unfold beforeB; simp
theorem before_trans {a b c : Int × Int × Int} (h1 : beforeB a b = true) (h2 : beforeB b c = true) : beforeB a c = true := by
  obtain ⟨a0, a1, a2⟩ := a
  obtain ⟨b0, b1, b2⟩ := b
  obtain ⟨c0, c1, c2⟩ := c
  unfold beforeB at *
  dsimp only at *
  repeat' split at h1
  all_goals repeat' split at h2
  all_goals repeat' split
  all_goals simp only [decide_eq_true_eq] at *
  all_goals omega
theorem before_total (a b : Int × Int × Int) : beforeB a b = true ∨ a = b ∨ beforeB b a = true := by
  obtain ⟨a0, a1, a2⟩ := a
  obtain ⟨b0, b1, b2⟩ := b
  unfold beforeB
  dsimp only
  repeat' split
  all_goals simp only [decide_eq_true_eq, Prod.mk.injEq]
  all_goals omega

/-- Strictly ascending terms. -/
def Asc (ts : List Tm) : Prop := ts.Pairwise fun a b => beforeB (tmE a) (tmE b) = true
theorem atL_none {ts : List Tm} {e : Int × Int × Int} (h : ∀ t ∈ ts, tmE t ≠ e) : atL ts e = 0 := by
  induction ts with
  | nil => rfl
  | cons t r ih =>
    rw [atL, if_neg (h t (by simp))]
    exact ih fun u hu => h u (by simp [hu])
theorem before_ne {a b : Int × Int × Int} (h : beforeB a b = true) : a ≠ b := fun e => by
  subst e; rw [before_irrefl] at h; exact absurd h (by simp)

theorem asc_unique : ∀ (ts us : List Tm), Asc ts → Asc us → (∀ t ∈ ts, t.2.2.2 ≠ 0) → (∀ t ∈ us, t.2.2.2 ≠ 0) → (∀ e, atL ts e = atL us e) → ts = us
  | [], [], _, _, _, _, _ => rfl
  | [], u :: s, _, _, _, hu, h => by
    have := h (tmE u)
    rw [atL, atL, if_pos rfl] at this
    exact absurd this.symm (hu u (by simp))
  | t :: r, [], _, _, ht, _, h => by
    have := h (tmE t)
    rw [atL, atL, if_pos rfl] at this
    exact absurd this (ht t (by simp))
  | t :: r, u :: s, at', au, ht, hu, h => by
    have hr := List.pairwise_cons.1 at'
    have hs := List.pairwise_cons.1 au
    rcases before_total (tmE t) (tmE u) with hlt | he | hlt
    · exfalso
      have h0 : atL (u :: s) (tmE t) = 0 := atL_none fun x hx => by
        rcases List.mem_cons.1 hx with rfl | hx
        · exact (before_ne hlt).symm
        · exact (before_ne (before_trans hlt (hs.1 x hx))).symm
      have := h (tmE t)
      rw [h0, atL, if_pos rfl] at this
      exact ht t (by simp) this
    · have hv := h (tmE t)
      rw [atL, if_pos rfl, atL, if_pos he.symm] at hv
      have htu : t = u := by
        obtain ⟨a, b, c, v⟩ := t
        obtain ⟨a', b', c', v'⟩ := u
        simp [tmE] at he hv
        simp [he, hv]
      subst htu
      congr 1
      refine asc_unique r s hr.2 hs.2 (fun x hx => ht x (by simp [hx])) (fun x hx => hu x (by simp [hx])) fun e => ?_
      by_cases hte : tmE t = e
      · rw [atL_none (fun x hx => by rw [← hte]; exact (before_ne (hr.1 x hx)).symm), atL_none (fun x hx => by rw [← hte]; exact (before_ne (hs.1 x hx)).symm)]
      · have := h e
        rw [atL, if_neg hte, atL, if_neg hte] at this
        exact this
    · exfalso
      have h0 : atL (t :: r) (tmE u) = 0 := atL_none fun x hx => by
        rcases List.mem_cons.1 hx with rfl | hx
        · exact (before_ne hlt).symm
        · exact (before_ne (before_trans hlt (hr.1 x hx))).symm
      have := h (tmE u)
      rw [h0, atL, if_pos rfl] at this
      exact hu u (by simp) this.symm

end Go.Proofs.Ytbhgbifliihlbaa
namespace Go.Proofs.Ytbhgbifliihlbaa
open Go.RowKit

theorem arr3_eq (x y z x' y' z' : Int) (w : World) :
    (Op.equalIn 10000 113 (.agg #[.int .u8 x, .int .u8 y, .int .u8 z]) (.agg #[.int .u8 x', .int .u8 y', .int .u8 z'])).run Try.prog w = .ok (x == x' && (y == y' && z == z')) w := by
  have hs : ∀ w, (sizeOf 5).run Try.prog w = .ok 1 w := fun w => by kernel_rfl
  have hi : ∀ (a b : Int) (w : World), (Op.equalIn 9999 5 (.int .u8 a) (.int .u8 b)).run Try.prog w = .ok (a == b) w := fun a b w => run_equalIn_int w 9998 5 .u8 .u8 a b Try.underlying5
  have hp : ∀ (a b c : Int) (w : World), (Go.part 5 #[.int .u8 a, .int .u8 b, .int .u8 c] 0).run Try.prog w = .ok (.int .u8 a) w ∧ (Go.part 5 #[.int .u8 a, .int .u8 b, .int .u8 c] 1).run Try.prog w = .ok (.int .u8 b) w ∧ (Go.part 5 #[.int .u8 a, .int .u8 b, .int .u8 c] 2).run Try.prog w = .ok (.int .u8 c) w := fun a b c w => ⟨by kernel_rfl, by kernel_rfl, by kernel_rfl⟩
  have h0 := fun a b c w => (hp a b c w).1
  have h1 := fun a b c w => (hp a b c w).2.1
  have h2 := fun a b c w => (hp a b c w).2.2
  unfold Op.equalIn
  simp only [Sem.run_bind, run_underlying Try.underlying113, Result.andThen_ok, hs, Std.Legacy.Range.forIn_eq_forIn_range', Std.Legacy.Range.size, List.range'_succ, List.forIn_cons]
  cases hx : (x == x') <;> cases hy : (y == y') <;> cases hz : (z == z') <;> simp [Sem.run_bind, hi, h0, h1, h2, hx, hy, hz]

end Go.Proofs.Ytbhgbifliihlbaa
namespace Go.Proofs.Ytbhgbifliihlbaa
open Go.RowKit Go.Sort

set_option maxHeartbeats 1000000 in
theorem at_some (p d : Int) (b off cap : Nat) (ts : List Tm) (x y z : Int) (w : World) (hl : ts.length ≤ 1048576) (hb : b < w.heap.size) (hT : Terms w b off ts) :
    Calls Try.prog 108 #[.agg #[.int .i64 p, .int .i64 d, .slice (some ⟨b, off, none⟩) ts.length cap], .agg #[.int .u8 x, .int .u8 y, .int .u8 z]] w fun e w' => e = .returned (.int .i64 (atL ts (x, y, z))) ∧ Below w.heap.size w w' := by
  obtain ⟨W, hW, hbW, hWs, x0, x1, x2, e0, e1, e2⟩ : ∃ W, W = (w.alloc (.cells #[.int .i64 p, .int .i64 d, .slice (some ⟨b, off, none⟩) ts.length cap] 40)).alloc (.cells #[.int .u8 x, .int .u8 y, .int .u8 z] 113) ∧ Below w.heap.size w W ∧ w.heap.size + 1 < W.heap.size ∧
      W.cell? ⟨w.heap.size, 0, none⟩ = some (.int .i64 p) ∧ W.cell? ⟨w.heap.size, 1, none⟩ = some (.int .i64 d) ∧ W.cell? ⟨w.heap.size, 2, none⟩ = some (.slice (some ⟨b, off, none⟩) ts.length cap) ∧
      W.cell? ⟨w.heap.size + 1, 0, none⟩ = some (.int .u8 x) ∧ W.cell? ⟨w.heap.size + 1, 1, none⟩ = some (.int .u8 y) ∧ W.cell? ⟨w.heap.size + 1, 2, none⟩ = some (.int .u8 z) :=
    ⟨_, rfl, box2 _ _ _, by simp, by go_simp, by go_simp, by go_simp, by go_simp, by go_simp, by go_simp⟩
  have hTW := hT.below hbW hb
  have hbw : b < w.heap.size := hb
  go_enter Try.func108, Try.ntmps108
  go_wp2
  rw [← hW]
  clear hW
  go_loopw [5] (fun i wr => ∃ k : Nat, k ≤ ts.length ∧ i = .int .i64 k ∧ atL ts (x, y, z) = atL (ts.drop k) (x, y, z) ∧ ∃ n, wr = W.drewN n) (fun i _ => ts.length - (intOf i).toNat)
  case atStart => exact ⟨0, by omega, rfl, rfl, 0, rfl⟩
  case round =>
    obtain ⟨k, hk, rfl, hU, n, rfl⟩ := hrel
    by_cases hlt : k < ts.length
    · have hlt' : (k : Int) < (ts.length : Int) := by omega
      obtain ⟨c0, c1, c2, c3⟩ := hTW k hlt
      have hst := atL_step ts (x, y, z) k hlt
      have HST := Lib.hid (hU.trans hst)
      clear hU hst
      have hG : Try.prog.eqGuardType Try.prog.depth 113 = false := by kernel_rfl
      have hEq := arr3_eq ts[k].1 ts[k].2.1 ts[k].2.2.1 x y z
      cases hB : (ts[k].1 == x && (ts[k].2.1 == y && ts[k].2.2.1 == z))
      · have hne : ¬ tmE ts[k] = (x, y, z) := fun h => by simp [tmE] at h; simp [h] at hB
        have HN : Hid (atL ts (x, y, z) = atL (ts.drop (k + 1)) (x, y, z)) := Lib.hid (by rw [HST.out, if_neg hne])
        rw [hB] at hEq
        clear hne hB
        go_wp2
        go_quiet (fail)
        go_wp2
        go_roundw
        case rel => exact ⟨k + 1, by omega, by go_num, HN.out, _, rfl⟩
        case measure => simp [intOf]; omega
      · have he : tmE ts[k] = (x, y, z) := by simp at hB; simp [tmE, hB]
        have HN : Hid (atL ts (x, y, z) = ts[k].2.2.2) := Lib.hid (by rw [HST.out, if_pos he])
        rw [hB] at hEq
        clear he hB
        go_wp2
        go_quiet (fail)
        go_wp2
        go_ret
        exact ⟨by rw [HN.out]; rfl, by repeat (first | with_reducible exact hbW | refine below_drewN ?_ _)⟩
    · obtain rfl : k = ts.length := by omega
      have HU := Lib.hid hU
      clear hU
      go_wp2
      go_ret
      exact ⟨by rw [HU.out, List.drop_length]; rfl, below_drewN hbW n⟩

theorem at_nil (p d : Int) (a : Option Addr) (cap : Nat) (x y z : Int) (w : World) :
    Calls Try.prog 108 #[.agg #[.int .i64 p, .int .i64 d, .slice a 0 cap], .agg #[.int .u8 x, .int .u8 y, .int .u8 z]] w fun e w' => e = .returned (.int .i64 0) ∧ Below w.heap.size w w' := by
  go_enter Try.func108, Try.ntmps108
  go_wp2
  refine wp_loop_rounds 1 ?_
  rw [rounds_succ]
  go_wp2
  go_ret
  exact ⟨rfl, box2 _ _ _⟩
theorem at_any (p d : Int) (v : Value) (ts : List Tm) (x y z : Int) (w : World) (hl : ts.length ≤ 1048576) (hS : SliceT w v ts) :
    Calls Try.prog 108 #[.agg #[.int .i64 p, .int .i64 d, v], .agg #[.int .u8 x, .int .u8 y, .int .u8 z]] w fun e w' => e = .returned (.int .i64 (atL ts (x, y, z))) ∧ Below w.heap.size w w' := by
  obtain ⟨a, cap, rfl, rfl | ⟨b, off, rfl, hlt, hT⟩⟩ := hS
  · exact at_nil p d a cap x y z w
  · exact at_some p d b off cap ts x y z w hl hlt hT

end Go.Proofs.Ytbhgbifliihlbaa
namespace Go.Proofs.Ytbhgbifliihlbaa
open Go.RowKit Go.Sort

theorem mod_any (p x : Int) (w : World) (h2 : 2 ≤ p) (h13 : p ≤ 13) (h0 : 0 ≤ x) (h1 : x ≤ 1000000000) :
    Calls Try.prog 119 #[.int .i64 p, .int .i64 x] w fun e w' => e = .returned (.int .i64 (x % p)) ∧ w = w' := by
  have g0 : 0 ≤ x % p := Int.emod_nonneg _ (by omega)
  have g1 : x % p < p := Int.emod_lt_of_pos _ (by omega)
  have HQ := Lib.hid (show (x % p + p) % p = x % p by rw [Int.add_emod_right, Int.emod_emod_of_dvd _ (Int.dvd_refl p)])
  go_enter Try.func119, Try.ntmps119
  go_wp2
  go_ret
  exact ⟨by show Ending.returned (.int .i64 ((x % p + p) % p)) = _; rw [HQ.out], rfl⟩

theorem empty_any (p d : Int) (w : World) :
    Calls Try.prog 115 #[.int .i64 p, .int .i64 d] w fun e w' => e = .returned (.agg #[.int .i64 p, .int .i64 d, .slice (some ⟨w.heap.size + 1, 0, none⟩) 0 0]) ∧ w'.ownsRow w.heap.size 115 4 (.slice (some ⟨w.heap.size + 1, 0, none⟩) 0 0) 0 [] ∧ Below w.heap.size w w' := by
  go_enter Try.func115, Try.ntmps115
  go_wp2
  exact bodyPost_ret (v := .agg #[.int .i64 p, .int .i64 d, .slice (some ⟨w.heap.size + 1, 0, none⟩) 0 0]) (by simp [results, Try.results115, go_sem]) rfl ⟨rfl, by simpa using World.ownsRow_made (base := w.heap.size) (e := 115) (size := 4) (w.alloc _) #[] 0 (by simp) (by simp [maxLen]) rfl, box2 _ _ _⟩

/-- A term out of exponents and a value; its cells; those of a list. -/
def mkT (e : Int × Int × Int) (v : Int) : Tm := (e.1, e.2.1, e.2.2, v)
def cell4 (t : Tm) : List Value := [.int .u8 t.1, .int .u8 t.2.1, .int .u8 t.2.2.1, .int .i64 t.2.2.2]
def cells4 (l : List Tm) : List Value := l.flatMap cell4
theorem cells4_snoc (l : List Tm) (t : Tm) : cells4 (l ++ [t]) = cells4 l ++ cell4 t := by simp [cells4]
theorem tmE_mkT (e : Int × Int × Int) (v : Int) : tmE (mkT e v) = e := rfl

/-- What 'l01Put' lays down. -/
def putRun (e : Int × Int × Int) (val : Int) : Bool → List Tm → List Tm
  | done, [] => if done then [] else [mkT e val]
  | done, t :: r => (if !done && beforeB e (tmE t) then [mkT e val] else []) ++ ((if tmE t = e then [] else [t]) ++ putRun e val (done || beforeB e (tmE t)) r)
def putL (p : Int) (ts : List Tm) (e : Int × Int × Int) (v : Int) : List Tm := putRun e ((v + atL ts e) % p) ((v + atL ts e) % p == 0) ts

theorem putRun_done_mem {e : Int × Int × Int} {val : Int} : ∀ (ts : List Tm) (done : Bool) (x : Tm), x ∈ putRun e val done ts → (x = mkT e val ∧ done = false) ∨ (x ∈ ts ∧ tmE x ≠ e)
  | [], done, x, h => by
    cases done
    · simp [putRun] at h; exact .inl ⟨h, rfl⟩
    · simp [putRun] at h
  | t :: r, done, x, h => by
    simp only [putRun, List.mem_append] at h
    rcases h with h | h | h
    · cases done
      · by_cases hb : beforeB e (tmE t) = true
        · simp [hb] at h; exact .inl ⟨h, rfl⟩
        · simp [hb] at h
      · simp at h
    · by_cases he : tmE t = e
      · simp [he] at h
      · simp [he] at h; subst h; exact .inr ⟨by simp, he⟩
    · rcases putRun_done_mem r _ x h with ⟨h1, h2⟩ | ⟨h1, h2⟩
      · simp only [Bool.or_eq_false_iff] at h2; exact .inl ⟨h1, h2.1⟩
      · exact .inr ⟨by simp [h1], h2⟩

/-- In an ascending list: what is laid down ascends, and holds val at e (nothing if it was done), and elsewhere what was there. -/
theorem putRun_asc {e : Int × Int × Int} {val : Int} : ∀ (ts : List Tm) (done : Bool), Asc ts → Asc (putRun e val done ts)
  | [], done, _ => by cases done <;> simp [putRun, Asc]
  | t :: r, done, h => by
    have hr := List.pairwise_cons.1 h
    have ih := putRun_asc (e := e) (val := val) r (done || beforeB e (tmE t)) hr.2
    have hmem := @putRun_done_mem e val r (done || beforeB e (tmE t))
    simp only [putRun]
    by_cases he : tmE t = e
    · have hb : beforeB e (tmE t) = false := by rw [he]; exact before_irrefl e
      rw [if_pos he, hb]
      simp only [Bool.and_false, Bool.or_false, List.nil_append]
      rw [hb, Bool.or_false] at ih
      simpa using ih
    · rw [if_neg he]
      cases hb : beforeB e (tmE t)
      · simp only [Bool.and_false, Bool.or_false]
        rw [hb, Bool.or_false] at ih hmem
        show List.Pairwise _ ([] ++ ([t] ++ putRun e val done r))
        simp only [List.nil_append, List.singleton_append]
        refine List.pairwise_cons.2 ⟨fun x hx => ?_, ih⟩
        rcases hmem x hx with ⟨rfl, _⟩ | ⟨hx', _⟩
        · rw [tmE_mkT]
          rcases before_total (tmE t) e with h' | h' | h'
          · exact h'
          · exact absurd h' he
          · rw [hb] at h'; exact absurd h' (by simp)
        · exact hr.1 x hx'
      · rw [hb, Bool.or_true] at ih hmem
        simp only [Bool.and_true, Bool.or_true]
        have htail : Asc (t :: putRun e val true r) := List.pairwise_cons.2 ⟨fun x hx => by
          rcases hmem x hx with ⟨_, h'⟩ | ⟨hx', _⟩
          · exact absurd h' (by simp)
          · exact hr.1 x hx', ih⟩
        cases done
        · show List.Pairwise _ ([mkT e val] ++ ([t] ++ putRun e val true r))
          simp only [List.singleton_append]
          refine List.pairwise_cons.2 ⟨fun x hx => ?_, htail⟩
          rw [tmE_mkT]
          rcases List.mem_cons.1 hx with rfl | hx
          · exact hb
          · rcases hmem x hx with ⟨_, h'⟩ | ⟨hx', _⟩
            · exact absurd h' (by simp)
            · exact before_trans hb (hr.1 x hx')
        · show List.Pairwise _ ([] ++ ([t] ++ putRun e val true r))
          simp only [List.nil_append, List.singleton_append]
          exact htail

theorem putRun_at {e : Int × Int × Int} {val : Int} (e' : Int × Int × Int) : ∀ (ts : List Tm) (done : Bool), atL (putRun e val done ts) e' = if e' = e then (if done then 0 else val) else atL ts e'
  | [], done => by
    cases done
    · by_cases h : e' = e
      · subst h; simp [putRun, atL, tmE, mkT]
      · have h' : ¬ e = e' := fun x => h x.symm
        simp [putRun, atL, tmE_mkT, h, h']
    · simp [putRun, atL]
  | t :: r, done => by
    have ih := putRun_at (e := e) (val := val) e' r (done || beforeB e (tmE t))
    have hcons : ∀ l, atL (((if tmE t = e then [] else [t]) : List Tm) ++ l) e' = if tmE t = e then atL l e' else if tmE t = e' then t.2.2.2 else atL l e' := fun l => by
      by_cases he : tmE t = e
      · simp [he]
      · simp [he, atL]
    simp only [putRun]
    cases hb : beforeB e (tmE t)
    · rw [hb, Bool.or_false] at ih
      simp only [Bool.and_false, Bool.or_false, Bool.false_eq_true, if_false, List.nil_append]
      rw [hcons, ih, atL]
      by_cases h1 : tmE t = e
      · rw [if_pos h1]
        by_cases h2 : e' = e
        · rw [if_pos h2, if_pos h2]
        · rw [if_neg h2, if_neg h2, if_neg (fun x => h2 (x.symm.trans h1))]
      · rw [if_neg h1]
        by_cases h2 : e' = e
        · rw [if_pos h2, if_pos h2, if_neg (fun x => h1 (x.trans h2))]
        · rw [if_neg h2, if_neg h2]
    · rw [hb, Bool.or_true] at ih
      have hne : ¬ tmE t = e := fun x => by rw [x, before_irrefl] at hb; exact absurd hb (by simp)
      cases done
      · simp only [Bool.not_false, Bool.true_and, if_true, Bool.false_or]
        rw [List.singleton_append, atL, tmE_mkT, hcons, ih, if_neg hne, atL]
        by_cases h2 : e' = e
        · rw [if_pos h2.symm, if_pos h2]; rfl
        · rw [if_neg (fun x => h2 x.symm), if_neg h2, if_neg h2]
      · simp only [Bool.not_true, Bool.false_and, Bool.false_eq_true, if_false, List.nil_append, Bool.true_or]
        rw [hcons, ih, if_neg hne, atL]
        by_cases h2 : e' = e
        · rw [if_pos h2, if_pos h2, if_neg (fun x => hne (x.trans h2))]; rfl
        · rw [if_neg h2, if_neg h2]
theorem putL_at (p : Int) (ts : List Tm) (e : Int × Int × Int) (v : Int) (e' : Int × Int × Int) : atL (putL p ts e v) e' = if e' = e then (v + atL ts e) % p else atL ts e' := by
  unfold putL
  rw [putRun_at]
  by_cases h : e' = e
  · rw [if_pos h, if_pos h]
    by_cases h0 : ((v + atL ts e) % p == 0) = true
    · rw [if_pos h0]; simpa using (beq_iff_eq.1 h0).symm
    · rw [if_neg h0]
  · rw [if_neg h, if_neg h]
theorem putL_asc {p : Int} {ts : List Tm} {e : Int × Int × Int} {v : Int} (h : Asc ts) : Asc (putL p ts e v) := putRun_asc ts _ h
theorem putL_mem {p : Int} {ts : List Tm} {e : Int × Int × Int} {v : Int} {x : Tm} (h : x ∈ putL p ts e v) : (x = mkT e ((v + atL ts e) % p) ∧ (v + atL ts e) % p ≠ 0) ∨ (x ∈ ts ∧ tmE x ≠ e) := by
  rcases putRun_done_mem ts _ x h with ⟨h1, h2⟩ | h
  · exact .inl ⟨h1, by simpa using h2⟩
  · exact .inr h

end Go.Proofs.Ytbhgbifliihlbaa
