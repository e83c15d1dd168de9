/-
  WALKS: 'impl.IsPoly' computes isPolyB. Conditions: the terms are bytes and 64-bit numbers; at most 2^20 of them.
-/
import Derived.Test.YtphgpadpffigjaaC
import Derived.BigQuiet
namespace Go.Proofs.Ytphgpadpffigjaa
open Go.RowKit Go.Sort

def tmE (t : Tm) : Int × Int × Int := (t.1, t.2.1, t.2.2.1)
def tmByte (t : Tm) : Prop := ((0 ≤ t.1 ∧ t.1 ≤ 255) ∧ (0 ≤ t.2.1 ∧ t.2.1 ≤ 255) ∧ (0 ≤ t.2.2.1 ∧ t.2.2.1 ≤ 255)) ∧ (-9223372036854775808 ≤ t.2.2.2 ∧ t.2.2.2 ≤ 9223372036854775807)
def termOk (p d : Int) (t : Tm) : Bool := expsOk d t.1 t.2.1 t.2.2.1 && (decide (1 ≤ t.2.2.2) && decide (t.2.2.2 ≤ p - 1))
def linkO (o : Option Tm) (t : Tm) : Bool := match o with | none => true | some q => beforeB (tmE q) (tmE t)
def chain (p d : Int) : Option Tm → List Tm → Bool
  | _, [] => true
  | o, t :: r => termOk p d t && (linkO o t && chain p d (some t) r)
def prevT (ts : List Tm) : Nat → Option Tm
  | 0 => none
  | k + 1 => ts[k]?
def tailB (p d : Int) (ts : List Tm) (k : Nat) : Bool := chain p d (prevT ts k) (ts.drop k)
theorem tailB_step (p d : Int) (ts : List Tm) (k : Nat) (h : k < ts.length) : tailB p d ts k = (termOk p d ts[k] && (linkO (prevT ts k) ts[k] && tailB p d ts (k + 1))) := by
  unfold tailB
  rw [List.drop_eq_getElem_cons h]
  simp [chain, prevT, h]
theorem tailB_end (p d : Int) (ts : List Tm) : tailB p d ts ts.length = true := by
  unfold tailB
  rw [List.drop_length]
  cases prevT ts ts.length <;> rfl
/-- Whether the prime p, d letters and these terms make a polynomial. -/
def isPolyB (p d : Int) (ts : List Tm) : Bool := primeB p && ((decide (1 ≤ d) && decide (d ≤ 3)) && tailB p d ts 0)

theorem prime_le {p : Int} (h : primeB p = true) : 2 ≤ p ∧ p ≤ 13 := by
  simp [primeB] at h; omega

/-- The terms before place k are fit, and what is left to ask is what was to ask. -/
def Upto (p d : Int) (ts : List Tm) (k : Nat) : Prop := tailB p d ts 0 = tailB p d ts k ∧ ∀ (j : Nat) (h : j < ts.length), j < k → termOk p d ts[j] = true
theorem Upto.start (p d : Int) (ts : List Tm) : Upto p d ts 0 := ⟨rfl, fun j _ h => by omega⟩
theorem Upto.next {p d : Int} {ts : List Tm} {k : Nat} (h : Upto p d ts k) (hk : k < ts.length) (h1 : termOk p d ts[k] = true) (h2 : linkO (prevT ts k) ts[k] = true) : Upto p d ts (k + 1) := by
  refine ⟨by rw [h.1, tailB_step p d ts k hk, h1, h2]; rfl, fun j hj hjk => ?_⟩
  by_cases e : j = k
  · subst e; exact h1
  · exact h.2 j hj (by omega)
theorem Upto.bad1 {p d : Int} {ts : List Tm} {k : Nat} (h : Upto p d ts k) (hk : k < ts.length) (h1 : termOk p d ts[k] = false) : tailB p d ts 0 = false := by
  rw [h.1, tailB_step p d ts k hk, h1]; rfl
theorem Upto.bad2 {p d : Int} {ts : List Tm} {k : Nat} (h : Upto p d ts k) (hk : k < ts.length) (h2 : linkO (prevT ts k) ts[k] = false) : tailB p d ts 0 = false := by
  rw [h.1, tailB_step p d ts k hk, h2]; simp
theorem Upto.done {p d : Int} {ts : List Tm} (h : Upto p d ts ts.length) : tailB p d ts 0 = true := by rw [h.1, tailB_end]
theorem termOk_sum {p d : Int} {t : Tm} (h : termOk p d t = true) : t.1 + t.2.1 + t.2.2.1 ≤ 12 := by
  simp [termOk, expsOk] at h; exact h.1.2

theorem prime_yes (p : Int) (w : World) (h : primeB p = true) : Calls Try.prog 58 #[.int .i64 p] w fun e w' => e = .returned (.bool true) ∧ w = w' :=
  (prime_any p w).mono fun _ _ ⟨he, hw⟩ => ⟨by rw [he, h], hw⟩
theorem prime_no (p : Int) (w : World) (h : primeB p = false) : Calls Try.prog 58 #[.int .i64 p] w fun e w' => e = .returned (.bool false) ∧ w = w' :=
  (prime_any p w).mono fun _ _ ⟨he, hw⟩ => ⟨by rw [he, h], hw⟩
theorem vars_t (d : Int) (w : World) (h1 : 1 ≤ d) (h2 : d ≤ 3) : Calls Try.prog 59 #[.int .i64 d] w fun e w' => e = .returned (.bool true) ∧ w = w' := by
  go_enter Try.func59, Try.ntmps59
  go_wp2
  go_ret
  exact ⟨rfl, rfl⟩
theorem vars_f (d : Int) (w : World) (h : d < 1 ∨ 3 < d) : Calls Try.prog 59 #[.int .i64 d] w fun e w' => e = .returned (.bool false) ∧ w = w' := by
  rcases h with h | h
  · go_enter Try.func59, Try.ntmps59
    go_wp2
    go_ret
    exact ⟨rfl, rfl⟩
  · have h1 : 1 ≤ d := by omega
    go_enter Try.func59, Try.ntmps59
    go_wp2
    go_ret
    exact ⟨by simp; omega, rfl⟩

set_option maxHeartbeats 1000000 in
theorem isPoly_in (p d : Int) (b off cap : Nat) (ts : List Tm) (w : World) (hl : ts.length ≤ 1048576) (hb : b < w.heap.size) (hT : Terms w b off ts) (hby : ∀ t ∈ ts, tmByte t) (hp : primeB p = true) (h1 : 1 ≤ d) (h3 : d ≤ 3) :
    Calls Try.prog 66 #[.agg #[.int .i64 p, .int .i64 d, .slice (some ⟨b, off, none⟩) ts.length cap]] w fun e w' => e = .returned (.bool (tailB p d ts 0)) ∧ Below w.heap.size w w' := by
  obtain ⟨hp2, hp13⟩ := prime_le hp
  have HP := Lib.hid hp
  clear hp
  obtain ⟨W, hW, hbW, hWs, x0, x1, x2⟩ : ∃ W, W = w.alloc (.cells #[.int .i64 p, .int .i64 d, .slice (some ⟨b, off, none⟩) ts.length cap] 36) ∧ Below w.heap.size w W ∧ w.heap.size < W.heap.size ∧
      W.cell? ⟨w.heap.size, 0, none⟩ = some (.int .i64 p) ∧ W.cell? ⟨w.heap.size, 1, none⟩ = some (.int .i64 d) ∧ W.cell? ⟨w.heap.size, 2, none⟩ = some (.slice (some ⟨b, off, none⟩) ts.length cap) :=
    ⟨_, rfl, box1 _ _, by simp, by go_simp, by go_simp, by go_simp⟩
  go_enter Try.func66, Try.ntmps66
  go_wp2_with fail
  rw [← hW]
  clear hW
  ((with_reducible refine (prime_yes _ _ HP.out).mono ?_); rintro e w1 ⟨rfl, rfl⟩)
  go_wp2_with fail
  ((with_reducible refine (vars_t _ _ h1 h3).mono ?_); rintro e w1 ⟨rfl, rfl⟩)
  go_wp2
  go_loopw [18] (fun i wr => ∃ k : Nat, k ≤ ts.length ∧ i = .int .i64 k ∧ Upto p d ts k ∧ Below W.heap.size W wr) (fun i _ => ts.length - (intOf i).toNat)
  case atStart => exact ⟨0, by omega, rfl, Upto.start _ _ _, Below.refl _ _⟩
  case round =>
    obtain ⟨k, hk, rfl, hU, hbel⟩ := hrel
    by_cases hlt : k < ts.length
    · have hlt' : (k : Int) < (ts.length : Int) := by omega
      have hTr := (hT.below hbW hb).below hbel (Nat.lt_trans hb hWs)
      obtain ⟨c0, c1, c2, c3⟩ := hTr k hlt
      have y0 := (hbel.cell (p := ⟨w.heap.size, 0, none⟩) hWs).trans x0
      have y1 := (hbel.cell (p := ⟨w.heap.size, 1, none⟩) hWs).trans x1
      have y2 := (hbel.cell (p := ⟨w.heap.size, 2, none⟩) hWs).trans x2
      obtain ⟨⟨bx, by1, bz⟩, bv1, bv2⟩ := hby _ (List.getElem_mem hlt)
      have hz : w.heap.size < wr.heap.size := Nat.lt_of_lt_of_le hWs hbel.size
      have hzb : b < wr.heap.size := Nat.lt_trans hb hz
      have hTk := hTr
      cases hE : expsOk d ts[k].1 ts[k].2.1 ts[k].2.2.1
      · have HB : Hid (tailB p d ts 0 = false) := Lib.hid (hU.bad1 hlt (by simp [termOk, hE]))
        have HE := Lib.hid hE
        clear hE
        go_wp2_with fail
        ((with_reducible refine (monomial_any d _ _ _ _ ⟨h1, h3⟩ bx by1 bz).mono ?_); rintro e w3 ⟨rfl, hb3⟩)
        rw [HE.out]
        go_wp2
        go_ret
        exact ⟨by rw [HB.out]; rfl, (hbW.trans (hbel.mono (Nat.le_of_lt hWs))).trans (((box1 _ _).trans (hb3.mono (by simp))).mono (Nat.le_of_lt hz))⟩
      · have HE := Lib.hid hE
        clear hE
        go_wp2_with fail
        ((with_reducible refine (monomial_any d _ _ _ _ ⟨h1, h3⟩ bx by1 bz).mono ?_); rintro e w3 ⟨rfl, hb3⟩)
        rw [HE.out]
        have hs3 := hb3.size
        simp only [World.size_alloc] at hs3
        have t0 : w3.cell? ⟨wr.heap.size, 0, none⟩ = some (.int .u8 ts[k].1) := (hb3.cell (by simp)).trans (by go_simp)
        have t1 : w3.cell? ⟨wr.heap.size, 1, none⟩ = some (.int .u8 ts[k].2.1) := (hb3.cell (by simp)).trans (by go_simp)
        have t2 : w3.cell? ⟨wr.heap.size, 2, none⟩ = some (.int .u8 ts[k].2.2.1) := (hb3.cell (by simp)).trans (by go_simp)
        have t3 : w3.cell? ⟨wr.heap.size, 3, none⟩ = some (.int .i64 ts[k].2.2.2) := (hb3.cell (by simp)).trans (by go_simp)
        have hb4 : Below wr.heap.size wr w3 := (box1 _ _).trans (hb3.mono (by simp))
        clear hb3
        have z0 := (hb4.cell (p := ⟨w.heap.size, 0, none⟩) hz).trans y0
        have z1 := (hb4.cell (p := ⟨w.heap.size, 1, none⟩) hz).trans y1
        have z2 := (hb4.cell (p := ⟨w.heap.size, 2, none⟩) hz).trans y2
        have hT3 := hTr.below hb4 hzb
        have hbel3 := hbel.trans (hb4.mono hbel.size)
        clear y0 y1 y2 c0 c1 c2 c3 hTr hTk hb4
        by_cases hv1 : ts[k].2.2.2 < 1
        · have HB : Hid (tailB p d ts 0 = false) := Lib.hid (hU.bad1 hlt (by simp [termOk]; omega))
          go_wp2
          go_ret
          exact ⟨by rw [HB.out]; rfl, hbW.trans (hbel3.mono (Nat.le_of_lt hWs))⟩
        · by_cases hv2 : p ≤ ts[k].2.2.2
          · have HB : Hid (tailB p d ts 0 = false) := Lib.hid (hU.bad1 hlt (by simp [termOk]; omega))
            go_wp2
            go_ret
            exact ⟨by rw [HB.out]; rfl, hbW.trans (hbel3.mono (Nat.le_of_lt hWs))⟩
          · have hOk : termOk p d ts[k] = true := by simp [termOk, HE.out]; omega
            have HOk := Lib.hid hOk
            clear hOk
            cases k with
            | zero =>
              have hU1 := hU.next hlt HOk.out rfl
              go_wp2
              refine wp_region_quiet_below (by kernel_rfl) (by kernel_rfl) ?_
              repeat (go_big_quiet_step (fail))
              refine wpQuiet_nil ?_
              intro _ hw'
              obtain ⟨⟨dq, osq⟩, hw''⟩ := hw'
              subst hw''
              go_wp2
              go_roundw
              case rel => exact ⟨1, by omega, by go_num, hU1, hbel3.trans ((below_regrown w3 dq osq).mono hbel3.size)⟩
              case measure => simp [intOf]; omega
            | succ j =>
              have hj : j < ts.length := by omega
              obtain ⟨p0, p1, p2, p3⟩ := hT3 j hj
              obtain ⟨⟨ax, ay, az⟩, _, _⟩ := hby _ (List.getElem_mem hj)
              have q0 := cell_regrown p0
              have q1 := cell_regrown p1
              have q2 := cell_regrown p2
              have s0 := cell_regrown t0
              have s1 := cell_regrown t1
              have s2 := cell_regrown t2
              have v2 := cell_regrown z2
              have cC : ∀ dd os, Calls Try.prog 108 #[.agg #[.int .u8 ts[j].1, .int .u8 ts[j].2.1, .int .u8 ts[j].2.2.1], .agg #[.int .u8 ts[j + 1].1, .int .u8 ts[j + 1].2.1, .int .u8 ts[j + 1].2.2.1]] (grow (redrawn w3 dd) os) fun e w'' => e = .returned (.int .i64 (cmpE (tmE ts[j]) (tmE ts[j + 1]))) ∧ ∃ p : Regrown, w'' = grow (redrawn w3 p.d) p.os := fun dd os => Calls.regrown_of (compareExps_any _ _ _ _ _ _ _ ax ay az bx by1 bz)
              have hcm := cmpE_before (tmE ts[j]) (tmE ts[j + 1]) (termOk_sum (hU.2 j hj (by omega))) (termOk_sum HOk.out)
              have hln : linkO (prevT ts (j + 1)) ts[j + 1] = beforeB (tmE ts[j]) (tmE ts[j + 1]) := by simp [prevT, linkO, hj]
              have HLN := Lib.hid hln
              have HCM := Lib.hid hcm
              clear hcm hln
              generalize cmpE (tmE ts[j]) (tmE ts[j + 1]) = C at cC HCM
              by_cases hC : 0 ≤ C
              · have hbad : beforeB (tmE ts[j]) (tmE ts[j + 1]) = false := by have h := HCM.out; simp [hC] at h; exact h
                have HB : Hid (tailB p d ts 0 = false) := Lib.hid (hU.bad2 hlt (HLN.out.trans hbad))
                clear hbad
                go_wp2
                refine wp_region_quiet_below (by kernel_rfl) (by kernel_rfl) ?_
                repeat (go_big_quiet_step (with_reducible exact cC _ _))
                refine wpQuiet_nil ?_
                intro _ hw'
                obtain ⟨⟨dq, osq⟩, hw''⟩ := hw'
                subst hw''
                go_wp2
                go_ret
                exact ⟨by rw [HB.out]; rfl, hbW.trans ((hbel3.trans ((below_regrown w3 dq osq).mono hbel3.size)).mono (Nat.le_of_lt hWs))⟩
              · have hgood : beforeB (tmE ts[j]) (tmE ts[j + 1]) = true := by have h := HCM.out; simp [hC] at h; exact h
                have hU1 := hU.next hlt HOk.out (HLN.out.trans hgood)
                clear hgood
                go_wp2
                refine wp_region_quiet_below (by kernel_rfl) (by kernel_rfl) ?_
                repeat (go_big_quiet_step (with_reducible exact cC _ _))
                refine wpQuiet_nil ?_
                intro _ hw'
                obtain ⟨⟨dq, osq⟩, hw''⟩ := hw'
                subst hw''
                go_wp2
                go_roundw
                case rel => exact ⟨j + 1 + 1, by omega, by go_num, hU1, hbel3.trans ((below_regrown w3 dq osq).mono hbel3.size)⟩
                case measure => simp [intOf]; omega
    · obtain rfl : k = ts.length := by omega
      go_wp2
      go_ret
      exact ⟨by rw [hU.done]; rfl, hbW.trans (hbel.mono (Nat.le_of_lt hWs))⟩

end Go.Proofs.Ytphgpadpffigjaa
