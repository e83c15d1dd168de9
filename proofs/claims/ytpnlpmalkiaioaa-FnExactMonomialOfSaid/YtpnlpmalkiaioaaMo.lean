/-
  WALKS: 'spec.MonomialOf'. Conditions: as each theorem states.
-/
import Derived.Test.YtpnlpmalkiaioaaOn
import Derived.Test.YtpnlpmalkiaioaaV
import Derived.Test.YtpnlpmalkiaioaaLs2
import Derived.Test.YtpnlpmalkiaioaaAd
import Derived.Deep.DeepCutAuto
namespace Go.Proofs.Ytpnlpmalkiaioaa
open Go.RowKit Go.Sort Go.Maps

/-- What 'MonomialOf' asks of its arguments. -/
def MonOk (p d : Int) (l : List Int) (val : Int) : Prop := primeB p = true ∧ 1 ≤ d ∧ d ≤ 3 ∧ (l.length : Int) = d ∧ l.all (fun x => decide (0 ≤ x)) = true ∧ 0 ≤ val ∧ val < p
/-- What it gives. -/
def MonO (p d : Int) (l : List Int) (val : Int) (o : OutP) : Prop :=
  (¬ MonOk p d l val ∧ o = noP 2) ∨ (MonOk p d l val ∧ ((12 < l.sum ∧ o = noP 3) ∨ (l.sum ≤ 12 ∧ ∃ L, IsP p L (fun a => if a = padE l then val else 0) ∧ o = ⟨p, d, L, 0⟩)))
theorem padE_mono {d : Int} {l : List Int} (h : expsL d l = true) (h3 : l.length ≤ 3) : mono12 (padE l) := by
  simp only [expsL, Bool.and_eq_true, decide_eq_true_eq, List.all_eq_true] at h
  obtain ⟨_, hp, hs⟩ := h
  match l, h3 with
  | [], _ => unfold mono12 byte3; simp [padE]
  | [a], _ =>
    have ha := hp a (by simp)
    simp at hs
    unfold mono12 byte3
    simp [padE]
    omega
  | [a, b], _ =>
    have ha := hp a (by simp)
    have hb := hp b (by simp)
    simp at hs
    unfold mono12 byte3
    simp [padE]
    omega
  | [a, b, c], _ =>
    have ha := hp a (by simp)
    have hb := hp b (by simp)
    have hc := hp c (by simp)
    simp at hs
    unfold mono12 byte3
    simp [padE]
    omega
  | _ :: _ :: _ :: _ :: r, h => simp at h

set_option maxRecDepth 8000 in
set_option maxHeartbeats 8000000 in
theorem specMon (p d val : Int) (u : Value) (l : List Int) (w : World) (hm : l.length ≤ 1048576) (hU : SliceI w u l) (o : OutP) (ho : MonO p d l val o) :
    Calls Try.prog 9 #[.int .i64 p, .int .i64 d, u, .int .i64 val] w (ResO w o) := by
  obtain ⟨a, cap, rfl, _⟩ := id hU
  obtain ⟨W, hW, hbW, hWs, rr⟩ : ∃ W, W = w.alloc (.cells #[.int .i64 0, .int .i64 0, .slice none 0 0] 25) ∧ Below w.heap.size w W ∧ (W.heap.size ≤ w.heap.size + 1 ∧ w.heap.size + 1 ≤ W.heap.size) ∧ W.rowIs w.heap.size 25 3 (polyF 0 0 (.slice none 0 0)) :=
    ⟨_, rfl, box1 _ _, ⟨by simp, by simp⟩, zbox w⟩
  have hUW := hU.below hbW
  obtain ⟨⟨r0, r1, r2⟩, z0, z1, z2⟩ := poly3 rr
  obtain ⟨a0, a1, a2, a3, a4⟩ := fill_box (base := w.heap.size) rr (ownP_nil W w.heap.size) (Nat.le_refl _) hbW (by omega) 0 0
  have A0 := Lib.hid a0
  have A1 := Lib.hid a1
  have A2 := Lib.hid a2
  have A3 := Lib.hid a3
  have A4 := Lib.hid a4
  clear a0 a1 a2 a3 a4
  go_enter Try.func9, Try.ntmps9
  rcases ho with ⟨hbad, rfl⟩ | ⟨⟨hp, h1, h3, hlen, hall, v0, v1⟩, ho⟩
  · cases hp : primeB p
    · clear hbad
      go_upto_region 1 with fail
      rw [← hW]
      clear hW
      go_wp2_with fail
      ((with_reducible refine (sprime_is p W _ hp).mono ?_); rintro e w1 ⟨rfl, rfl⟩)
      go_wp2_with fail
      exact bodyPost_ret (v := .tuple #[.agg #[.int .i64 0, .int .i64 0, .slice none 0 0], .int .i64 2]) (by simp [results, Try.results9, go_sem, A0.out, A1.out, A2.out]) rfl ⟨_, rfl, A3.out, A4.out⟩
    · obtain ⟨q1, q2⟩ := prime_le hp
      cases hd : (decide (1 ≤ d) && decide (d ≤ 3))
      · clear hbad
        have HD := Lib.hid hd
        have HP := Lib.hid hp
        clear hd hp
        go_upto_region 1 with fail
        rw [← hW]
        clear hW
        go_wp2_with fail
        ((with_reducible refine (sprime_is p W _ HP.out).mono ?_); rintro e w1 ⟨rfl, rfl⟩)
        go_wp2_with fail
        ((with_reducible refine (sin_is d 1 3 W _ HD.out).mono ?_); rintro e w1 ⟨rfl, rfl⟩)
        go_wp2_with fail
        exact bodyPost_ret (v := .tuple #[.agg #[.int .i64 0, .int .i64 0, .slice none 0 0], .int .i64 2]) (by simp [results, Try.results9, go_sem, A0.out, A1.out, A2.out]) rfl ⟨_, rfl, A3.out, A4.out⟩
      · by_cases hlen : (l.length : Int) = d
        · have hne : ((l.length : Int) != d) = false := by simpa using hlen
          cases hv : (decide (0 ≤ val) && decide (val ≤ p - 1))
          · clear hbad hlen
            have HD := Lib.hid hd
            have HP := Lib.hid hp
            have HV := Lib.hid hv
            clear hd hp hv
            go_upto_region 1 with fail
            rw [← hW]
            clear hW
            go_wp2_with fail
            ((with_reducible refine (sprime_is p W _ HP.out).mono ?_); rintro e w1 ⟨rfl, rfl⟩)
            go_wp2_with fail
            ((with_reducible refine (sin_is d 1 3 W _ HD.out).mono ?_); rintro e w1 ⟨rfl, rfl⟩)
            go_wp2_with fail
            ((with_reducible refine (sin_is val 0 (p - 1) W _ HV.out).mono ?_); rintro e w1 ⟨rfl, rfl⟩)
            go_wp2_with fail
            exact bodyPost_ret (v := .tuple #[.agg #[.int .i64 0, .int .i64 0, .slice none 0 0], .int .i64 2]) (by simp [results, Try.results9, go_sem, A0.out, A1.out, A2.out]) rfl ⟨_, rfl, A3.out, A4.out⟩
          · have hall : l.all (fun x => decide (0 ≤ x)) = false := by
              cases ha : l.all (fun x => decide (0 ≤ x))
              · rfl
              · simp at hd hv
                exact absurd ⟨hp, hd.1, hd.2, hlen, ha, hv.1, by omega⟩ hbad
            obtain ⟨j, hj, hn, hpos⟩ := first_neg l hall
            obtain ⟨A, cap', hv', hcase⟩ := hUW
            simp at hv'
            obtain ⟨rfl, rfl⟩ := hv'
            rcases hcase with h0 | ⟨b, off, rfl, hltb, hT⟩
            · rw [h0] at hj; simp at hj
            have HT := Lib.hid hT
            have HD := Lib.hid hd
            have HP := Lib.hid hp
            have HV := Lib.hid hv
            have HQ := Lib.hid hpos
            clear hd hp hv hbad hlen hall hT hpos
            go_upto_region 1 with fail
            rw [← hW]
            clear hW
            go_wp2_with fail
            ((with_reducible refine (sprime_is p W _ HP.out).mono ?_); rintro e w1 ⟨rfl, rfl⟩)
            go_wp2_with fail
            ((with_reducible refine (sin_is d 1 3 W _ HD.out).mono ?_); rintro e w1 ⟨rfl, rfl⟩)
            go_wp2_with fail
            ((with_reducible refine (sin_is val 0 (p - 1) W _ HV.out).mono ?_); rintro e w1 ⟨rfl, rfl⟩)
            go_wp2_with fail
            go_loop [10] (fun i => ∃ k : Nat, k ≤ j ∧ i = .int .i64 k) (fun i => l.length - (intOf i).toNat)
            case atStart => exact ⟨0, by omega, rfl⟩
            case round =>
              obtain ⟨k, hk, rfl⟩ := hrel
              have hkl : k < l.length := by omega
              have hkl' : (k : Int) < (l.length : Int) := by omega
              have c0 := HT.out k hkl
              by_cases hkj : k = j
              · subst hkj
                have hn' : l[k] < 0 := hn
                go_wp2_with fail
                exact bodyPost_ret (v := .tuple #[.agg #[.int .i64 0, .int .i64 0, .slice none 0 0], .int .i64 2]) (by simp [results, Try.results9, go_sem, A0.out, A1.out, A2.out]) rfl ⟨_, rfl, A3.out, A4.out⟩
              · have hge : ¬ l[k] < 0 := by have := HQ.out k hkl (by omega); omega
                go_wp2_with fail
                go_round
                case rel => exact ⟨k + 1, by omega, by go_num⟩
                case measure => simp [intOf]; omega
        · have hne : ((l.length : Int) != d) = true := by simpa using hlen
          clear hbad hlen
          have HD := Lib.hid hd
          have HP := Lib.hid hp
          clear hd hp
          go_upto_region 1 with fail
          rw [← hW]
          clear hW
          go_wp2_with fail
          ((with_reducible refine (sprime_is p W _ HP.out).mono ?_); rintro e w1 ⟨rfl, rfl⟩)
          go_wp2_with fail
          ((with_reducible refine (sin_is d 1 3 W _ HD.out).mono ?_); rintro e w1 ⟨rfl, rfl⟩)
          go_wp2_with fail
          exact bodyPost_ret (v := .tuple #[.agg #[.int .i64 0, .int .i64 0, .slice none 0 0], .int .i64 2]) (by simp [results, Try.results9, go_sem, A0.out, A1.out, A2.out]) rfl ⟨_, rfl, A3.out, A4.out⟩
  · obtain ⟨q1, q2⟩ := prime_le hp
    have hne : ((l.length : Int) != d) = false := by simpa using hlen
    have hd : (decide (1 ≤ d) && decide (d ≤ 3)) = true := by simp; exact ⟨h1, h3⟩
    have hv : (decide (0 ≤ val) && decide (val ≤ p - 1)) = true := by simp; omega
    obtain ⟨A, cap', hv', hcase⟩ := id hUW
    simp at hv'
    obtain ⟨rfl, rfl⟩ := hv'
    rcases hcase with h0 | ⟨b, off, rfl, hltb, hT⟩
    · rw [h0] at hlen; simp at hlen; omega
    have HT := Lib.hid hT
    have HD := Lib.hid hd
    have HP := Lib.hid hp
    have HV := Lib.hid hv
    have HQ := Lib.hid (List.all_eq_true.1 hall)
    have HL := Lib.hid hlen
    clear hd hp hv hlen hall hT
    go_upto_region 1 with fail
    rw [← hW]
    clear hW
    go_wp2_with fail
    ((with_reducible refine (sprime_is p W _ HP.out).mono ?_); rintro e w1 ⟨rfl, rfl⟩)
    go_wp2_with fail
    ((with_reducible refine (sin_is d 1 3 W _ HD.out).mono ?_); rintro e w1 ⟨rfl, rfl⟩)
    go_wp2_with fail
    ((with_reducible refine (sin_is val 0 (p - 1) W _ HV.out).mono ?_); rintro e w1 ⟨rfl, rfl⟩)
    go_wp2_with fail
    go_loop [10] (fun i => ∃ k : Nat, k ≤ l.length ∧ i = .int .i64 k) (fun i => l.length - (intOf i).toNat)
    case atStart => exact ⟨0, by omega, rfl⟩
    case round =>
      obtain ⟨k, hk, rfl⟩ := hrel
      by_cases hkl : k < l.length
      · have hkl' : (k : Int) < (l.length : Int) := by omega
        have c0 := HT.out k hkl
        have hge : ¬ l[k] < 0 := by have := HQ.out l[k] (List.getElem_mem _); simp at this; omega
        go_wp2_with fail
        go_round
        case rel => exact ⟨k + 1, by omega, by go_num⟩
        case measure => simp [intOf]; omega
      · have hkl' : ¬ (k : Int) < (l.length : Int) := by omega
        go_wp2_with fail
        ((with_reducible refine (list_any d _ l W h1 h3 hm hUW).mono ?_); rintro e w1 ⟨x, y, z, rfl, hxyz, hb1⟩)
        have rr1 := rowIs_below rr hb1 rr.lt
        have hbw1 := hbW.trans (hb1.mono hbW.size)
        obtain ⟨V, hV, hbV, _, _⟩ : ∃ V, V = w1.alloc (.cells #[.int .u8 x, .int .u8 y, .int .u8 z] 48) ∧ Below w1.heap.size w1 V ∧ True ∧ True := ⟨_, rfl, box1 _ _, trivial, trivial⟩
        have rrV := rowIs_below rr1 hbV rr1.lt
        have hbwV := hbw1.trans (hbV.mono hbw1.size)
        have ro : ∀ o, ((w1.alloc o).cell? ⟨w.heap.size, 0, none⟩ = some (.int .i64 0) ∧ (w1.alloc o).cell? ⟨w.heap.size, 1, none⟩ = some (.int .i64 0) ∧ (w1.alloc o).cell? ⟨w.heap.size, 2, none⟩ = some (.slice none 0 0)) ∧ (w1.alloc o).frozen? ⟨w.heap.size, 0, none⟩ = false ∧ (w1.alloc o).frozen? ⟨w.heap.size, 1, none⟩ = false ∧ (w1.alloc o).frozen? ⟨w.heap.size, 2, none⟩ = false := fun o => poly3 (rowIs_below rr1 (box1 _ o) rr1.lt)
        clear A0 A1 A2 A3 A4 r0 r1 r2 z0 z1 z2
        obtain ⟨a0, a1, a2, a3, a4⟩ := fill_box (base := w.heap.size) rrV (ownP_nil V w.heap.size) (Nat.le_refl _) hbwV (by omega) 0 0
        have A0 := Lib.hid a0
        have A1 := Lib.hid a1
        have A2 := Lib.hid a2
        have A3 := Lib.hid a3
        have A4 := Lib.hid a4
        clear a0 a1 a2 a3 a4
        rcases ho with ⟨hs, rfl⟩ | ⟨hs, L, hL, rfl⟩
        · have hx : expsL d l = false := by unfold expsL; simp; intro _ _; omega
          rw [hx]
          clear hxyz hx hs
          go_wp2_with fail
          rw [← hV]
          exact bodyPost_ret (v := .tuple #[.agg #[.int .i64 0, .int .i64 0, .slice none 0 0], .int .i64 3]) (by simp [results, Try.results9, go_sem, A0.out, A1.out, A2.out]) rfl ⟨_, rfl, A3.out, A4.out⟩
        · have hx : expsL d l = true := by
            unfold expsL
            simp
            refine ⟨HL.out, fun y hy => ?_, hs⟩
            have := HQ.out y hy
            simpa using this
          have hpad := hxyz hx
          have hpb : byte3 (padE l) ∧ (padE l).1 + (padE l).2.1 + (padE l).2.2 ≤ 12 := padE_mono hx (by have := HL.out; omega)
          rw [← hpad] at hpb hL
          rw [hx]
          have HB := Lib.hid hpb
          clear hxyz hx hs hpad hpb A0 A1 A2 A3 A4
          go_wp2_with fail
          rw [← hV]
          clear hV ro
          ((with_reducible refine (one_any p d x y z val V q1 q2 HB.out.1 v0 (by omega)).mono ?_); rintro e w2 ⟨v2, rfl, ho2, hb2⟩)
          have hL2 : IsP p (putL p [] (x, y, z) val) (fun a => if a = (x, y, z) then val else 0) := (IsP.one q1 HB.out val).congr fun a _ => by
            rw [Int.emod_eq_of_lt v0 v1]
          obtain rfl := hL2.unique hL
          clear hL2 hL
          generalize putL p [] (x, y, z) val = L at *
          obtain ⟨sa2, sc2, rfl⟩ := owns_slice ho2
          have rr2 := rowIs_below rrV hb2 rrV.lt
          obtain ⟨a0, a1, a2, a3, a4⟩ := fill_box rr2 ho2 hbwV.size (hbwV.trans (hb2.mono hbwV.size)) (by omega) p d
          have A0 := Lib.hid a0
          have A1 := Lib.hid a1
          have A2 := Lib.hid a2
          have A3 := Lib.hid a3
          have A4 := Lib.hid a4
          clear a0 a1 a2 a3 a4
          obtain ⟨⟨r0, r1, r2⟩, z0, z1, z2⟩ := poly3 rr2
          clear ho2
          go_wp2_with fail
          exact bodyPost_ret (v := .tuple #[.agg #[.int .i64 p, .int .i64 d, .slice sa2 L.length sc2], .int .i64 0]) (by simp [results, Try.results9, go_sem, A0.out, A1.out, A2.out]) rfl ⟨_, rfl, A3.out, A4.out⟩
end Go.Proofs.Ytpnlpmalkiaioaa
