/-
  WALKS: 'impl.productsOf'. Conditions: as the theorem states.
  PRIMES AND LETTERS judged. Conditions: as each theorem states.
  WALKS: 'impl.DicksonInvariant'. Conditions: as each theorem states.
  WALKS: what 'spec.DicksonInvariant' calls; lists of polynomials by the index. Conditions: as each theorem states.
  LISTS OF POLYNOMIALS in a law: compared. Conditions: as each theorem states.
  LISTS OF POLYNOMIALS in a law: measured. Conditions: as the theorem states.
  LISTS OF POLYNOMIALS in a law: compared. Conditions: as the theorem states.
  WALKS: marking the terms of a polynomial and reading the marks back. Conditions: as each theorem states.
  WALKS: marking a polynomial whose terms lie in an array of the call's own, and reading the marks back. Conditions: as each theorem states.
  LISTS OF POLYNOMIALS in a law: copied. Conditions: as the theorem states.
  LISTS OF POLYNOMIALS in a law: marked. Conditions: as the theorem states.
  THE STATE OF A LAW of a function of a polynomial and a list of polynomials. Conditions: as each theorem states.
  WALKS: 'spec.DicksonInvariant'. Conditions: as the theorem states.
  LISTS OF NUMBERS compared in laws. Conditions: as each theorem states.
  LISTS of numbers in a law: compared, marked, held. Conditions: as each theorem states.
  The boxes of a law whose result is a polynomial, beside lists as arguments. Conditions: as each theorem states.
  The law of 'FnExactDicksonInvariant', walked. Conditions: as the theorem states.
-/
import Derived.Test.YtphgpadpffigjaaDa2
import Derived.Test.YtphgpadpffigjaaIsp
import Derived.Test.YtphgpadpffigjaaRza
import Derived.Test.YtphgpadpffigjaaPl
import Derived.Test.YtphgpadpffigjaaG
import Derived.Deep.RegionWith
import Derived.Test.YtphgpadpffigjaaF
import Derived.Test.YtphgpadpffigjaaMm
import Derived.Test.YtphgpadpffigjaaMr
import Derived.Test.YtphgpadpffigjaaLs2
import Derived.StillTailTactics
import Derived.Deep.RegionHeld3
import Derived.Deep.DeepCutAuto
import Derived.Test.YtphgpadpffigjaaLq
namespace Go.Proofs.Ytphgpadpffigjaa
open Go.RowKit Go.Sort Go.Maps

set_option maxRecDepth 8000 in
set_option maxHeartbeats 16000000 in
theorem iprods (p : Int) (m k : Nat) (g : Int) (v : Value) (O : List (List Tm)) (w : World) (hp2 : 2 ≤ p) (hp13 : p ≤ 13) (d1 : 1 ≤ (m : Int)) (d3 : (m : Int) ≤ 3) (h0 : 1 ≤ O.length) (h48 : O.length ≤ 1000) (hg : 0 ≤ g) (hV : ∀ X ∈ O, Valid p m X ∧ degB X g) (hk : (k : Int) * g ≤ 12) (hk48 : k ≤ 1000) (hS : SlPn w p m v O) :
    Calls Try.prog 61 #[v, .int .i64 (k : Int)] w fun e w' => ∃ v', e = .returned (.agg #[.int .i64 p, .int .i64 (m : Int), v']) ∧ OwnP w' w.heap.size v' (symE p O.reverse k) ∧ Below w.heap.size w w' := by
  obtain ⟨i0, hi0, hz0, hz1, hz2⟩ := info_parts infoPoly
  have hmk : ∀ w, (Instr.makeSlice 27 (.int .i64 ((k : Int) + 1)) (.int .i64 ((k : Int) + 1))).run Try.prog w = .ok (.slice (some ⟨w.heap.size, 0, none⟩) (k + 1) (k + 1)) (w.alloc (.cells (madeP (k + 1)) 36)) := fun w => by
    have h := run_make (P := Try.prog) w 27 36 i0 _ Try.underlying27 hi0 hz0 .i64 .i64 ((k : Int) + 1) ((k : Int) + 1) (by omega) (by omega) (by rw [hz2]; omega) (by omega)
    have e : ((k : Int) + 1).toNat = k + 1 := by omega
    rw [hz1, e] at h
    simpa [madeP] using h
  clear hi0 hz0 hz1 hz2
  obtain ⟨a, cap, rfl, _⟩ := id hS
  rw [List.length_map] at hS ⊢
  obtain ⟨bl, off, _, rfl, hbl, _, c0, c1, _, _⟩ := SlP.nth hS (k := 0) (by omega)
  rw [Nat.zero_mul, Nat.add_zero] at c0 c1
  obtain ⟨R, hR, hbR, ⟨hRs, hRs2⟩, rr⟩ := newbox w 0 0 (.slice none 0 0)
  have C0 := (hbR.cell (p := ⟨bl, off, none⟩) hbl).trans c0
  have C1 := (hbR.cell (p := ⟨bl, off + 1, none⟩) hbl).trans c1
  have hl0 : (0 : Int) < (O.length : Int) := by omega
  have HV := Lib.hid hV
  have HK := Lib.hid hk
  clear c0 c1 hV hk
  go_enter Try.func61, Try.ntmps61
  go_upto_region 1 with fail
  rw [← hR]
  clear hR
  go_cut [5, 6] (fun s5 s6 wx => s5 = .int .i64 p ∧ s6 = .int .i64 (m : Int) ∧ Below R.heap.size R wx)
  case first =>
    go_quiet (fail)
    go_wp2_with fail
    go_meet
    exact ⟨rfl, rfl, by repeat (first | with_reducible exact Below.refl _ _ | refine below_drewN ?_ _)⟩
  case rest =>
  rename World => W1
  obtain ⟨rfl, rfl, hb1⟩ := hcut
  clear C0 C1
  have hmkW := hmk W1
  obtain ⟨X, hX, hbX, hXs, rX⟩ : ∃ X, X = W1.alloc (.cells (madeP (k + 1)) 36) ∧ Below W1.heap.size W1 X ∧ X.heap.size = W1.heap.size + 1 ∧ X.rowIs W1.heap.size 36 ((k + 1) * 3) (fun i => (madeP (k + 1)).getD i undef) := ⟨_, rfl, box1 _ _, by simp, madeP_row W1 (k + 1) _⟩
  rw [← hX] at hmkW
  have hb1s := hb1.size
  have hf0 : FrW X w.heap.size W1.heap.size ((k + 1) * 3) p m (fun _ => []) 0 (fun i => (madeP (k + 1)).getD i undef) := ⟨rX, by omega, fun i hi => by omega⟩
  have hbRX := hb1.trans (hbX.mono hb1.size)
  obtain ⟨gb, hgb⟩ : ∃ gb, W1.heap.size = gb := ⟨_, rfl⟩
  rw [hgb] at hf0 hXs hmkW hb1s
  have hgX : gb < X.heap.size := by omega
  have hgR : R.heap.size ≤ gb := by omega
  clear hX hmk rX hgb
  go_wp2_with fail
  clear hmkW
  go_loopw [25] (fun i wr => ∃ (j : Nat) (F : Nat → Value), j ≤ k + 1 ∧ i = .int .i64 j ∧ FrW wr w.heap.size gb ((k + 1) * 3) p m (fun _ => []) j F ∧ gb < wr.heap.size ∧ Below R.heap.size R wr) (fun i _ => k + 1 - (intOf i).toNat)
  case atStart => exact ⟨0, _, by omega, rfl, hf0, hgX, hbRX⟩
  case round =>
    clear hf0
    obtain ⟨j, F, hj, rfl, hF, hgl, hbr⟩ := hrel
    obtain ⟨wo, hwo⟩ : ∃ wo : World, wo = wr := ⟨_, rfl⟩
    subst hwo
    have hbs := hbr.size
    by_cases hlt : j < k + 1
    · have hlt' : (j : Int) < (k : Int) + 1 := by omega
      go_wp2_with fail
      ((with_reducible refine (constant_any p (m : Int) 0 wo (by omega) (by omega)).mono ?_); rintro e w2 ⟨v2, rfl, ho2, hb2⟩)
      rw [constL_zero] at ho2
      obtain ⟨sa, sc, rfl⟩ := owns_slice ho2
      obtain ⟨⟨e0, e1, e2⟩, f0, f1, f2⟩ := (hF.later hb2).any (i := j) (by omega)
      have hN := (hF.later hb2).put (i := j) (j' := j + 1) ho2 (by omega) (by omega) (by omega)
      have hN2 := hN.congr (T' := fun _ => []) (fun i _ => by split <;> rfl)
      have hbN := setB (i0 := j * 3) (i1 := j * 3 + 1) (i2 := j * 3 + 2) (hbr.trans (hb2.mono hbr.size)) hgR (.int .i64 p) (.int .i64 (m : Int)) (.slice sa 0 sc)
      have hgN : gb < w2.heap.size := Nat.lt_of_lt_of_le hgl hb2.size
      clear hF hN ho2
      go_wp2_with fail
      go_roundw
      case rel => exact ⟨j + 1, _, by omega, by go_num, hN2, by simpa using hgN, hbN⟩
      case measure => simp [intOf]; omega
    · obtain rfl : j = k + 1 := by omega
      have hk0 : (0 : Int) < (k : Int) + 1 := by omega
      go_wp2_with fail
      ((with_reducible refine (constant_any p (m : Int) 1 wo (by omega) (by omega)).mono ?_); rintro e w2 ⟨v2, rfl, ho2, hb2⟩)
      rw [constL_one] at ho2
      obtain ⟨sa, sc, rfl⟩ := owns_slice ho2
      obtain ⟨⟨e0, e1, e2⟩, f0, f1, f2⟩ := (hF.later hb2).any (i := 0) (by omega)
      have hN := ((hF.later hb2).put (i := 0) (j' := k + 1) ho2 (by omega) (by omega) (by omega)).congr (fun i _ => allFs_zero p O i)
      have hbN := setB (i0 := 0 * 3) (i1 := 0 * 3 + 1) (i2 := 0 * 3 + 2) (hbr.trans (hb2.mono hbr.size)) hgR (.int .i64 p) (.int .i64 (m : Int)) (.slice sa [((0 : Int), (0 : Int), (0 : Int), (1 : Int))].length sc)
      have hgN : gb < w2.heap.size := Nat.lt_of_lt_of_le hgl hb2.size
      simp only [Nat.zero_mul, Nat.zero_add] at e0 e1 e2 f0 f1 f2 hN hbN
      clear hF ho2
      go_wp2_with fail
      go_loopw [42] (fun i wr => ∃ (i1 : Nat) (F : Nat → Value), i1 ≤ O.length ∧ i = .int .i64 i1 ∧ FrW wr w.heap.size gb ((k + 1) * 3) p m (allFs p O i1) (k + 1) F ∧ gb < wr.heap.size ∧ Below R.heap.size R wr) (fun i _ => O.length - (intOf i).toNat)
      case atStart => exact ⟨0, _, by omega, rfl, hN, by simpa using hgN, hbN⟩
      case round =>
        clear hN hbN hgN e0 e1 e2 f0 f1 f2 hb2
        obtain ⟨i1, F, hi, rfl, hF, hgl, hbr⟩ := hrel
        obtain ⟨w6, hw6⟩ : ∃ w6 : World, w6 = wr := ⟨_, rfl⟩
        subst hw6
        have hbs := hbr.size
        have hbw := hbR.trans (hbr.mono hbR.size)
        by_cases hlt : i1 < O.length
        · have hlt' : (i1 : Int) < (O.length : Int) := by omega
          obtain ⟨b', off', uu, hbe, _, _, c0', c1', c2', hTw⟩ := SlP.nth hS hlt
          simp at hbe
          obtain ⟨rfl, rfl⟩ := hbe
          have c0 := (hbw.cell (p := ⟨bl, off + i1 * 3, none⟩) hbl).trans c0'
          have c1 := (hbw.cell (p := ⟨bl, off + i1 * 3 + 1, none⟩) hbl).trans c1'
          have c2 := (hbw.cell (p := ⟨bl, off + i1 * 3 + 2, none⟩) hbl).trans c2'
          clear c0' c1' c2'
          have HVX := Lib.hid (HV.out O[i1] (List.getElem_mem hlt))
          have HR := Lib.hid (fun (Y : List Tm) (hY : Y ∈ (O.take i1).reverse) => HV.out Y (List.mem_of_mem_take (List.mem_reverse.1 hY)))
          have HTR := Lib.hid (take_rev O i1 hlt)
          generalize O[i1] = X at *
          obtain ⟨ua, uc, rfl, _⟩ := id hTw
          obtain ⟨V2, hV2, hbV2, _, rq⟩ := newbox w6 p (m : Int) (.slice ua X.length uc)
          have hF2 := (hF.later hbV2).congr (fun i hi => mixF_start p O (k := k) hi)
          have hxb : w6.heap.size ≠ gb := by omega
          have hg2 := Nat.lt_of_lt_of_le hgl hbV2.size
          have hb2' := hbr.trans (hbV2.mono hbr.size)
          go_upto_region 12 with fail
          rw [← hV2]
          clear hV2 c0 c1 c2
          go_wp2_with fail
          go_loopw [11] (fun i wr => ∃ (j : Nat) (F : Nat → Value), j ≤ k ∧ i = .int .i64 j ∧ FrW wr w.heap.size gb ((k + 1) * 3) p m (mixF p O i1 j) (k + 1) F ∧ wr.rowIs w6.heap.size 36 3 (polyF p (m : Int) (.slice ua X.length uc)) ∧ gb < wr.heap.size ∧ Below R.heap.size R wr) (fun i _ => (intOf i).toNat)
          case atStart => exact ⟨k, _, by omega, rfl, hF2, rq, hg2, hb2'⟩
          case round =>
            clear hF2 rq hg2 hb2' hF hgl hbr hbs hbw hbV2
            obtain ⟨j, F2, hj, rfl, hF, rb, hgl, hbr⟩ := hrel
            obtain ⟨wo, hwo⟩ : ∃ wo : World, wo = wr := ⟨_, rfl⟩
            subst hwo
            have hbs := hbr.size
            have hbw := hbR.trans (hbr.mono hbR.size)
            match j, hj, hF with
            | 0, hj, hF =>
              have hN := hF.congr (fun i _ => mixF_zero p O i1 i)
              clear hF
              go_wp2_with fail
              go_roundw
              case rel => exact ⟨i1 + 1, _, by omega, by go_num, hN, hgl, hbr⟩
              case measure => simp [intOf]; omega
            | j + 1, hj, hF =>
              have hjg : ((j + 1 : Nat) : Int) * g ≤ 12 := Int.le_trans (Int.mul_le_mul_of_nonneg_right (by omega) hg) HK.out
              have hjg2 : (j : Int) * g + g ≤ 12 := by
                have e : ((j + 1 : Nat) : Int) * g = j * g + g := by rw [Int.natCast_add, Int.add_mul]; simp
                omega
              have hjp : (0 : Int) < ((j + 1 : Nat) : Int) := by omega
              have hj1 : ((j + 1 : Nat) : Int) - 1 = (j : Int) := by omega
              have hjk : ((j + 1 : Nat) : Int) < (k : Int) + 1 := by omega
              have hjk2 : (j : Int) < (k : Int) + 1 := by omega
              have hwj : IntKind.i64.wrap (j : Int) = (j : Int) := IntWalk.i64_in _ (by omega)
              have hA1 : (0 : Int) ≤ (j : Int) + 1 := by omega
              have hA2 : j < k := by omega
              have hA3 : j ≤ k := by omega
              have hA4 : j < k + 1 := by omega
              obtain ⟨uA, a0, a1, a2, hA⟩ := hF.cells (i := j + 1) (by omega)
              obtain ⟨uB, b0, b1, b2, hB⟩ := hF.cells (i := j) (by omega)
              rw [mixF_low p O (by omega)] at hA hB
              have HAV := Lib.hid (symE_ok hp2 hp13 d1 d3 hg _ HR.out (j + 1) hjg)
              have HBV := Lib.hid (symE_ok hp2 hp13 d1 d3 hg _ HR.out j (by omega))
              have HFT := Lib.hid (degB_fits HBV.out.2 HVX.out.2 hjg2)
              have HST := Lib.hid (fun (M S : List Tm) h1 h2 => symE_step hp2 hp13 d1 d3 hg (X := X) (r := (O.take i1).reverse) (fun Y hY => by rcases List.mem_cons.1 hY with h | h; exact h ▸ HVX.out; exact HR.out Y h) (j := j) hjg (M := M) (S := S) h1 h2)
              have HMX := Lib.hid (fun l => mixF_set p O i1 j l)
              rw [HTR.out] at HMX
              generalize symE p (X :: (O.take i1).reverse) (j + 1) = Z at *
              generalize symE p (O.take i1).reverse (j + 1) = A at *
              generalize symE p (O.take i1).reverse j = B at *
              have HVA := Lib.hid HAV.out.1
              have HVB := Lib.hid HBV.out.1
              obtain ⟨sA, kA, rfl⟩ := owns_slice hA
              obtain ⟨sB, kB, rfl⟩ := owns_slice hB
              obtain ⟨⟨q0, q1, q2⟩, _⟩ := poly3 rb
              have hbd2 : Below wo.heap.size wo wo.drew := (Below.same _).drew
              have hAd := OwnP.slice hA
              have hBd := (OwnP.slice hB).below hbd2
              have hXd := (hTw.below hbw).below hbd2
              clear HAV HBV
              go_wp2_with fail
              go_region_with (first
                | (go_at_call 97; (with_reducible refine (product_any p (m : Int) _ _ B X _ hBd hXd HVB.out HVX.out.1 HFT.out).mono ?_); rintro e w13 ⟨v13, M, rfl, ho13, hI13, hb13⟩; have HB13 : Below wo.heap.size wo w13 := hbd2.trans hb13; (obtain ⟨sM, kM, rfl⟩ := owns_slice ho13); (have hA13 := hAd.below HB13); have e0 := (HB13.cell (p := ⟨gb, (j + 1) * 3, none⟩) hgl).trans a0; have e1 := (HB13.cell (p := ⟨gb, (j + 1) * 3 + 1, none⟩) hgl).trans a1; have e2 := (HB13.cell (p := ⟨gb, (j + 1) * 3 + 2, none⟩) hgl).trans a2; have HVM := Lib.hid (isP_valid (d := (m : Int)) hI13 hp2 hp13 d1 d3))
                | (go_at_call 80; (with_reducible refine (isum p m 1 _ [A, M] _ (by simp) (by simp) (fun Y hY => by simp at hY; rcases hY with h | h <;> subst h; exact HVA.out; exact HVM.out) (by omega) (by omega) (two_sl hA13 (OwnP.slice ho13))).mono ?_); rintro e w14 ⟨v14, S14, rfl, ho14, hI14, hb14⟩; have HB14 : Below wo.heap.size wo w14 := HB13.trans (((box1 w13 _).trans (hb14.mono (by simp))).mono HB13.size); (obtain rfl := HST.out _ _ hI13 hI14); (obtain ⟨sZ, kZ, rfl⟩ := owns_slice ho14); (obtain ⟨⟨g0, g1, g2⟩, f0, f1, f2⟩ := (hF.later HB14).any (i := j + 1) (by omega))))
              all_goals
                have hN := ((hF.later HB14).put (i := j + 1) (j' := k + 1) ho14 (Nat.le_trans (hbR.trans (hbr.mono hbR.size)).size (Nat.le_trans HB13.size (by simp))) (by omega) (by omega)).congr (fun i _ => HMX.out i)
                have hbN := setB (i0 := (j + 1) * 3) (i1 := (j + 1) * 3 + 1) (i2 := (j + 1) * 3 + 2) (hbr.trans (HB14.mono hbr.size)) hgR (.int .i64 p) (.int .i64 (m : Int)) (.slice sZ S14.length kZ)
                have hgN : gb < w14.heap.size := Nat.lt_of_lt_of_le hgl HB14.size
                have rbN := ((((rowIs_below rb HB14 rb.lt).setOther (a := ⟨gb, (j + 1) * 3, none⟩) (by simpa using hxb) (.int .i64 p)).setOther (a := ⟨gb, (j + 1) * 3 + 1, none⟩) (by simpa using hxb) (.int .i64 (m : Int))).setOther (a := ⟨gb, (j + 1) * 3 + 2, none⟩) (by simpa using hxb) (.slice sZ S14.length kZ))
                clear hF hA hB a0 a1 a2 b0 b1 b2 q0 q1 q2 e0 e1 e2 ho13 ho14 hI13 hI14 hAd hBd hXd rb
                go_wp2_with fail
                go_roundw
                case rel => exact ⟨j, _, by omega, rfl, hN, rbN, by simpa using hgN, hbN⟩
                case measure => first | (simp [intOf]; done) | (simp [intOf]; omega)
        · obtain rfl : i1 = O.length := by omega
          obtain ⟨u, d0, d1', d2, hU⟩ := hF.cells (i := k) (by omega)
          unfold allFs at hU
          rw [List.take_length] at hU
          have hkk : (k : Int) < (k : Int) + 1 := by omega
          obtain ⟨sa3, sc3, rfl⟩ := owns_slice hU
          have rr3 := rowIs_below rr hbr rr.lt
          obtain ⟨⟨r0, r1, r2⟩, z0, z1, z2⟩ := poly3 rr3
          obtain ⟨a0, a1, a2, a3, a4⟩ := fill_box (w := w) rr3 hU (Nat.le_refl _) hbw (by omega) p (m : Int)
          have A0 := Lib.hid a0
          have A1 := Lib.hid a1
          have A2 := Lib.hid a2
          have A3 := Lib.hid a3
          have A4 := Lib.hid a4
          clear a0 a1 a2 a3 a4
          go_wp2_with fail
          exact bodyPost_ret (v := .agg #[.int .i64 p, .int .i64 (m : Int), .slice sa3 (symE p O.reverse k).length sc3]) (by simp [results, Try.results61, go_sem, A0.out, A1.out, A2.out]) rfl ⟨_, rfl, A3.out, A4.out⟩
end Go.Proofs.Ytphgpadpffigjaa
namespace Go.Proofs.Ytphgpadpffigjaa
open Go.RowKit Go.Sort Go.Maps

theorem prime_bc {p : Int} (h : primeB p = true) : 2 ≤ p ∧ p ≤ 13 := by
  simp [primeB] at h
  omega
theorem vars_isc (d : Int) (B : Bool) (h : (decide (1 ≤ d) && decide (d ≤ 3)) = B) (w : World) : Calls Try.prog 59 #[.int .i64 d] w fun e w' => e = .returned (.bool B) ∧ w = w' := by
  subst h
  exact vars_any d w
theorem iprime_isc (p : Int) (B : Bool) (h : primeB p = B) (w : World) : Calls Try.prog 58 #[.int .i64 p] w fun e w' => e = .returned (.bool B) ∧ w = w' := by
  subst h
  exact prime_any p w
theorem sprime_isc (p : Int) (B : Bool) (h : primeB p = B) (w : World) : Calls Try.prog 51 #[.int .i64 p] w fun e w' => e = .returned (.bool B) ∧ w' = w :=
  (specPrime_any p w).mono fun _ _ ⟨a, b⟩ => ⟨by rw [a, h], b.symm⟩
/-- The model's judge of a prime and a number of letters. -/
theorem sshape (p d : Int) (B : Bool) (h : (primeB p && (decide (1 ≤ d) && decide (d ≤ 3))) = B) (w : World) : Calls Try.prog 72 #[.int .i64 p, .int .i64 d] w fun e w' => e = .returned (.bool B) ∧ w' = w := by
  cases hp : primeB p
  · have hx : B = false := by rw [← h]; simp [hp]
    subst hx
    have HP := Lib.hid (fun W => sprime_isc p false hp W)
    clear h hp
    go_enter Try.func72, Try.ntmps72
    go_wp2_with fail
    ((with_reducible refine (HP.out _).mono ?_); rintro e w1 ⟨rfl, rfl⟩)
    go_wp2_with fail
    go_ret
    exact ⟨rfl, rfl⟩
  · have HP := Lib.hid (fun W => sprime_isc p true hp W)
    have HV := Lib.hid (fun W => rin_is d 1 3 W B (by rw [← h, hp]; simp))
    clear h hp
    go_enter Try.func72, Try.ntmps72
    go_wp2_with fail
    ((with_reducible refine (HP.out _).mono ?_); rintro e w1 ⟨rfl, rfl⟩)
    go_wp2_with fail
    ((with_reducible refine (HV.out _).mono ?_); rintro e w2 ⟨rfl, rfl⟩)
    go_wp2_with fail
    go_ret
    exact ⟨rfl, rfl⟩
end Go.Proofs.Ytphgpadpffigjaa
namespace Go.Proofs.Ytphgpadpffigjaa
open Go.RowKit Go.Sort Go.Maps

def dkB (p n i : Int) : Bool := (primeB p && (decide (1 ≤ n) && decide (n ≤ 3))) && (decide (0 ≤ i) && decide (i < n))
def dkL (q n i : Nat) : List Tm := (cfs q n (q ^ n)).getD (q ^ i) []
def dkO (p n i : Int) : OutP := if dkB p n i then (if p.toNat ^ n.toNat ≤ 13 then ⟨p, n, dkL p.toNat n.toNat i.toNat, 0⟩ else noP 3) else noP 2
theorem dkO_no {p n i : Int} (h : dkB p n i = false) : dkO p n i = noP 2 := by unfold dkO; rw [if_neg (by simp [h])]
theorem dkO_big {p n i : Int} (h : dkB p n i = true) (h2 : ¬ p.toNat ^ n.toNat ≤ 13) : dkO p n i = noP 3 := by unfold dkO; rw [if_pos h, if_neg h2]
theorem dkO_yes {p n i : Int} (h : dkB p n i = true) (h2 : p.toNat ^ n.toNat ≤ 13) : dkO p n i = ⟨p, n, dkL p.toNat n.toNat i.toNat, 0⟩ := by unfold dkO; rw [if_pos h, if_pos h2]
theorem dkL_len : ∀ qn ∈ prs, ∀ i ∈ List.range qn.2, (dkL qn.1 qn.2 i).length ≤ 100 := by decide +kernel
theorem dkB_of {p n i : Int} (h : dkB p n i = true) : ∃ q m j : Nat, p = q ∧ n = m ∧ i = j ∧ q ∈ ([2, 3, 5, 7, 11, 13] : List Nat) ∧ (2 ≤ q ∧ q ≤ 13) ∧ (1 ≤ m ∧ m ≤ 3) ∧ j < m := by
  unfold dkB at h
  simp only [Bool.and_eq_true, decide_eq_true_eq] at h
  obtain ⟨⟨hp, h1, h3⟩, h0, hi⟩ := h
  obtain ⟨q, rfl, hq⟩ := primes_q hp
  have := prime_le hp
  exact ⟨q, n.toNat, i.toNat, rfl, by omega, by omega, hq, by omega, by omega, by omega⟩
theorem dkO_len (p n i : Int) : (dkO p n i).S.length ≤ 169 := by
  cases h : dkB p n i
  · rw [dkO_no h]; simp [noP]
  · obtain ⟨q, m, j, rfl, rfl, rfl, hq, hq2, hm, hj⟩ := dkB_of h
    by_cases h2 : q ^ m ≤ 13
    · rw [dkO_yes h (by simpa using h2)]
      have := dkL_len (q, m) (prs_mem hq hm h2) j (List.mem_range.2 hj)
      exact Nat.le_trans this (by decide)
    · rw [dkO_big h (by simpa using h2)]; simp [noP]

set_option maxRecDepth 8000 in
set_option maxHeartbeats 8000000 in
theorem idick (p n i : Int) (w : World) :
    Calls Try.prog 24 #[.int .i64 p, .int .i64 n, .int .i64 i] w (ResO w (dkO p n i)) := by
  obtain ⟨W, hW, hbW, ⟨hWs1, hWs2⟩, rr⟩ := newbox w 0 0 (.slice none 0 0)
  cases hp : primeB p
  · have HO : Hid (dkO p n i = noP 2) := Lib.hid (dkO_no (by simp [dkB, hp]))
    have H0 := Lib.hid (fun w' => iprime_isc p false hp w')
    clear hp
    obtain ⟨⟨r0, r1, r2⟩, z0, z1, z2⟩ := poly3 rr
    obtain ⟨a0, a1, a2, a3, a4⟩ := fill_box (w := w) rr (ownP_nil W w.heap.size) (Nat.le_refl _) hbW (by omega) 0 0
    have A0 := Lib.hid a0
    have A1 := Lib.hid a1
    have A2 := Lib.hid a2
    have A3 := Lib.hid a3
    have A4 := Lib.hid a4
    clear a0 a1 a2 a3 a4
    go_enter Try.func24, Try.ntmps24
    go_wp2_with fail
    rw [← hW]
    clear hW
    ((with_reducible refine (H0.out _).mono ?_); rintro e w0 ⟨rfl, hw0⟩; subst hw0)
    go_wp2_with fail
    exact bodyPost_ret (v := .tuple #[.agg #[.int .i64 0, .int .i64 0, .slice none 0 0], .int .i64 2]) (by simp [results, Try.results24, go_sem, A0.out, A1.out, A2.out]) rfl (by rw [HO.out]; exact ⟨_, rfl, A3.out, A4.out⟩)
  have H0 := Lib.hid (fun w' => iprime_isc p true hp w')
  cases hd : (decide (1 ≤ n) && decide (n ≤ 3))
  · have HO : Hid (dkO p n i = noP 2) := Lib.hid (dkO_no (by unfold dkB; rw [hd]; simp))
    have H1 := Lib.hid (fun w' => vars_isc n false hd w')
    clear hp hd
    obtain ⟨⟨r0, r1, r2⟩, z0, z1, z2⟩ := poly3 rr
    obtain ⟨a0, a1, a2, a3, a4⟩ := fill_box (w := w) rr (ownP_nil W w.heap.size) (Nat.le_refl _) hbW (by omega) 0 0
    have A0 := Lib.hid a0
    have A1 := Lib.hid a1
    have A2 := Lib.hid a2
    have A3 := Lib.hid a3
    have A4 := Lib.hid a4
    clear a0 a1 a2 a3 a4
    go_enter Try.func24, Try.ntmps24
    go_wp2_with fail
    rw [← hW]
    clear hW
    ((with_reducible refine (H0.out _).mono ?_); rintro e w0 ⟨rfl, hw0⟩; subst hw0)
    go_wp2_with fail
    ((with_reducible refine (H1.out _).mono ?_); rintro e w1 ⟨rfl, hw1⟩; subst hw1)
    go_wp2_with fail
    exact bodyPost_ret (v := .tuple #[.agg #[.int .i64 0, .int .i64 0, .slice none 0 0], .int .i64 2]) (by simp [results, Try.results24, go_sem, A0.out, A1.out, A2.out]) rfl (by rw [HO.out]; exact ⟨_, rfl, A3.out, A4.out⟩)
  have H1 := Lib.hid (fun w' => vars_isc n true hd w')
  by_cases hi0 : i < 0
  · have HO : Hid (dkO p n i = noP 2) := Lib.hid (dkO_no (by unfold dkB; rw [decide_eq_false (show ¬ 0 ≤ i by omega)]; simp))
    clear hp hd
    obtain ⟨⟨r0, r1, r2⟩, z0, z1, z2⟩ := poly3 rr
    obtain ⟨a0, a1, a2, a3, a4⟩ := fill_box (w := w) rr (ownP_nil W w.heap.size) (Nat.le_refl _) hbW (by omega) 0 0
    have A0 := Lib.hid a0
    have A1 := Lib.hid a1
    have A2 := Lib.hid a2
    have A3 := Lib.hid a3
    have A4 := Lib.hid a4
    clear a0 a1 a2 a3 a4
    go_enter Try.func24, Try.ntmps24
    go_wp2_with fail
    rw [← hW]
    clear hW
    ((with_reducible refine (H0.out _).mono ?_); rintro e w0 ⟨rfl, hw0⟩; subst hw0)
    go_wp2_with fail
    ((with_reducible refine (H1.out _).mono ?_); rintro e w1 ⟨rfl, hw1⟩; subst hw1)
    go_wp2_with fail
    exact bodyPost_ret (v := .tuple #[.agg #[.int .i64 0, .int .i64 0, .slice none 0 0], .int .i64 2]) (by simp [results, Try.results24, go_sem, A0.out, A1.out, A2.out]) rfl (by rw [HO.out]; exact ⟨_, rfl, A3.out, A4.out⟩)
  by_cases hin : n ≤ i
  · have HO : Hid (dkO p n i = noP 2) := Lib.hid (dkO_no (by unfold dkB; rw [decide_eq_false (show ¬ i < n by omega)]; simp))
    clear hp hd
    obtain ⟨⟨r0, r1, r2⟩, z0, z1, z2⟩ := poly3 rr
    obtain ⟨a0, a1, a2, a3, a4⟩ := fill_box (w := w) rr (ownP_nil W w.heap.size) (Nat.le_refl _) hbW (by omega) 0 0
    have A0 := Lib.hid a0
    have A1 := Lib.hid a1
    have A2 := Lib.hid a2
    have A3 := Lib.hid a3
    have A4 := Lib.hid a4
    clear a0 a1 a2 a3 a4
    go_enter Try.func24, Try.ntmps24
    go_wp2_with fail
    rw [← hW]
    clear hW
    ((with_reducible refine (H0.out _).mono ?_); rintro e w0 ⟨rfl, hw0⟩; subst hw0)
    go_wp2_with fail
    ((with_reducible refine (H1.out _).mono ?_); rintro e w1 ⟨rfl, hw1⟩; subst hw1)
    go_wp2_with fail
    exact bodyPost_ret (v := .tuple #[.agg #[.int .i64 0, .int .i64 0, .slice none 0 0], .int .i64 2]) (by simp [results, Try.results24, go_sem, A0.out, A1.out, A2.out]) rfl (by rw [HO.out]; exact ⟨_, rfl, A3.out, A4.out⟩)
  have hB : dkB p n i = true := by unfold dkB; rw [hp, hd, decide_eq_true (show 0 ≤ i by omega), decide_eq_true (show i < n by omega)]; rfl
  clear hp hd
  obtain ⟨q, m, j, rfl, rfl, rfl, hq, hq2, hm, hj⟩ := dkB_of hB
  have HW := Lib.hid (fun w' => iwp q m w' hq2.2 hm.2)
  have h27 := pow_le2197 hq2.2 hm.2
  by_cases h13 : q ^ m ≤ 13
  case neg =>
    have HO : Hid (dkO q m j = noP 3) := Lib.hid (dkO_big hB (by simpa using h13))
    obtain ⟨N, hN⟩ : ∃ N, q ^ m = N := ⟨_, rfl⟩
    rw [hN] at HW h13 h27
    have hgt : (13 : Int) < (N : Int) := by omega
    clear hB hN hq
    obtain ⟨⟨r0, r1, r2⟩, z0, z1, z2⟩ := poly3 rr
    obtain ⟨a0, a1, a2, a3, a4⟩ := fill_box (w := w) rr (ownP_nil W w.heap.size) (Nat.le_refl _) hbW (by omega) 0 0
    have A0 := Lib.hid a0
    have A1 := Lib.hid a1
    have A2 := Lib.hid a2
    have A3 := Lib.hid a3
    have A4 := Lib.hid a4
    clear a0 a1 a2 a3 a4
    go_enter Try.func24, Try.ntmps24
    go_wp2_with fail
    rw [← hW]
    clear hW
    ((with_reducible refine (H0.out _).mono ?_); rintro e w0 ⟨rfl, hw0⟩; subst hw0)
    go_wp2_with fail
    ((with_reducible refine (H1.out _).mono ?_); rintro e w1 ⟨rfl, hw1⟩; subst hw1)
    go_wp2_with fail
    ((with_reducible refine (HW.out _).mono ?_); rintro e w2 ⟨rfl, hw2⟩; subst hw2)
    go_wp2_with fail
    exact bodyPost_ret (v := .tuple #[.agg #[.int .i64 0, .int .i64 0, .slice none 0 0], .int .i64 3]) (by simp [results, Try.results24, go_sem, A0.out, A1.out, A2.out]) rfl (by rw [HO.out]; exact ⟨_, rfl, A3.out, A4.out⟩)
  case pos =>
    have HO := Lib.hid (dkO_yes hB (by simpa using h13))
    simp only [Int.toNat_natCast] at HO
    have hmem := prs_mem hq hm h13
    have HD := Lib.hid (dick_is hmem hq2 hm hj h13)
    have HI := Lib.hid (fun w' => iwp q j w' hq2.2 (by omega))
    have h1j : 1 ≤ q ^ j := Nat.one_le_pow _ _ (by omega)
    have hjm : q ^ j ≤ q ^ m := Nat.pow_le_pow_right (by omega) (by omega)
    have HV := Lib.hid (fun X (hX : X ∈ sumsL q m) => (show Valid q m X ∧ degB X 1 by
      unfold sumsL at hX
      obtain ⟨c, hc, rfl⟩ := List.mem_map.1 hX
      have := frm_ok hmem hq2 hm (List.mem_range.1 hc)
      exact ⟨this.1, this.2.1⟩))
    have HSL : Hid ((sumsL q m).length = q ^ m) := Lib.hid (by simp [sumsL])
    have HSE : Hid (sumsL q m = (List.range (q ^ m)).map (frm q m)) := Lib.hid rfl
    obtain ⟨N, hN⟩ : ∃ N, q ^ m = N := ⟨_, rfl⟩
    obtain ⟨J, hJ⟩ : ∃ J, q ^ j = J := ⟨_, rfl⟩
    rw [hN] at HW h13 h27 HSL HSE HD hjm
    rw [hJ] at HI h1j hjm HD
    have HLN := Lib.hid hN
    have HLJ := Lib.hid hJ
    have hle : ¬ (13 : Int) < (N : Int) := by omega
    have hwk : IntKind.i64.wrap ((N : Int) - (J : Int)) = ((N - J : Nat) : Int) := by rw [IntWalk.i64_in _ (by omega)]; omega
    obtain ⟨K, hK⟩ : ∃ K, N - J = K := ⟨_, rfl⟩
    rw [hK] at HD hwk
    have hK12 : K ≤ 12 := by omega
    have HIS := Lib.hid (fun w' => isol q m N w' hq2 hm h13)
    have HIP := Lib.hid (fun v w' (h : SlPn w' q m v (sumsL q m)) => iprods q m K 1 v (sumsL q m) w' (by omega) (by omega) (by omega) (by omega) (by rw [HSL.out]; omega) (by rw [HSL.out]; omega) (by omega) (fun X hX => HV.out X hX) (by omega) (by omega) h)
    rw [HD.out] at HIP
    rw [← HSE.out] at HIS
    have HDL : Hid ((cfs q m N).getD J [] = dkL q m j) := Lib.hid (by unfold dkL; rw [HLN.out, HLJ.out])
    rw [HDL.out] at HIP
    obtain ⟨S, hS⟩ : ∃ S, dkL q m j = S := ⟨_, rfl⟩
    rw [hS] at HIP HO
    clear hB hN hJ hK hq hmem hS HV HSE HD HDL
    go_enter Try.func24, Try.ntmps24
    go_wp2_with fail
    rw [← hW]
    clear hW
    ((with_reducible refine (H0.out _).mono ?_); rintro e w0 ⟨rfl, hw0⟩; subst hw0)
    go_wp2_with fail
    ((with_reducible refine (H1.out _).mono ?_); rintro e w1 ⟨rfl, hw1⟩; subst hw1)
    go_wp2_with fail
    ((with_reducible refine (HW.out _).mono ?_); rintro e w2 ⟨rfl, hw2⟩; subst hw2)
    go_wp2_with fail
    ((with_reducible refine (HIS.out _).mono ?_); rintro e w3 ⟨v3, us3, hi3, rfl, hm3, hb3⟩)
    obtain ⟨sa3, sc3, rfl⟩ := hm3.shape
    go_wp2_with fail
    ((with_reducible refine (HI.out _).mono ?_); rintro e w4 ⟨rfl, hw4⟩; subst hw4)
    go_wp2_with fail
    ((with_reducible refine (HIP.out _ _ hm3.slP).mono ?_); rintro e w5 ⟨v5, rfl, ho5, hb5⟩)
    obtain ⟨sa, sc, rfl⟩ := owns_slice ho5
    have hb35 := hb3.trans (hb5.mono hb3.size)
    have rr5 := rowIs_below rr hb35 rr.lt
    obtain ⟨⟨r0, r1, r2⟩, z0, z1, z2⟩ := poly3 rr5
    obtain ⟨a0, a1, a2, a3, a4⟩ := fill_box rr5 ho5 (Nat.le_trans hbW.size hb3.size) (hbW.trans (hb35.mono hbW.size)) (Nat.le_refl _) q m
    have A0 := Lib.hid a0
    have A1 := Lib.hid a1
    have A2 := Lib.hid a2
    have A3 := Lib.hid a3
    have A4 := Lib.hid a4
    clear a0 a1 a2 a3 a4 ho5 rr5 hb5 hb3 hb35 hm3 HIP HIS
    go_wp2_with fail
    exact bodyPost_ret (v := .tuple #[.agg #[.int .i64 q, .int .i64 m, .slice sa S.length sc], .int .i64 0]) (by simp [results, Try.results24, go_sem, A0.out, A1.out, A2.out]) rfl (by rw [HO.out]; exact ⟨_, rfl, A3.out, A4.out⟩)
end Go.Proofs.Ytphgpadpffigjaa
namespace Go.Proofs.Ytphgpadpffigjaa
open Go.RowKit Go.Sort Go.Maps

theorem PMk.nthB {w : World} {base hi : Nat} {p : Int} {n : Nat} {a : Option Addr} {l c : Nat} {us : List Value} {Ls : List (List Tm)} (h : PMk w base hi p n (.slice a l c) us Ls) {k : Nat} (hk : k < Ls.length) :
    ∃ b u, a = some ⟨b, 0, none⟩ ∧ base ≤ b ∧ b < w.heap.size ∧ w.cell? ⟨b, k * 3, none⟩ = some (.int .i64 p) ∧ w.cell? ⟨b, k * 3 + 1, none⟩ = some (.int .i64 (n : Int)) ∧ w.cell? ⟨b, k * 3 + 2, none⟩ = some u ∧ OwnP w base u Ls[k] := by
  have hl := h.len
  obtain ⟨_, ⟨_, h0⟩ | ⟨b, cap, cur, hv, hb, hg, hc1, hc2, hsz, htk⟩⟩ := id h.rows
  · omega
  · simp at hv
    obtain ⟨rfl, _, _⟩ := hv
    have hk' : k < us.length := by omega
    have key : ∀ j, j < 3 → ∀ u, ([Value.int .i64 p, .int .i64 (n : Int), us[k]] : List Value)[j]? = some u → w.cell? ⟨b, k * 3 + j, none⟩ = some u := fun j hj u hu => by
      have e2 : (cellsQ p n us)[k * 3 + j]? = some u := (cellsQ_get p n us k j hk' hj).trans hu
      have hlt : k * 3 + j < Ls.length * 3 := by omega
      rw [← htk, List.getElem?_take_of_lt hlt, Array.getElem?_toList] at e2
      simp [World.cell?, hg, e2]
    exact ⟨b, us[k], rfl, hb, (Array.getElem?_eq_some_iff.1 hg).1, key 0 (by omega) _ rfl, key 1 (by omega) _ rfl, key 2 (by omega) _ rfl, h.own k hk' hk⟩
theorem PMk.one {w : World} {base : Nat} {p : Int} {n : Nat} {u : Value} {X : List Tm} (ho : OwnP w base u X) (hb : base ≤ w.heap.size) :
    PMk (w.alloc (.cells #[.int .i64 p, .int .i64 (n : Int), u] 36)) base w.heap.size p n (.slice (some ⟨w.heap.size, 0, none⟩) 1 1) [u] [X] :=
  ⟨rfl, ⟨rfl, .inr ⟨w.heap.size, 1, _, rfl, hb, heap_alloc_new w _, Nat.le_refl _, by simp [maxLen], rfl, rfl⟩⟩,
   fun i hi hi' => by
    simp at hi
    subst hi
    exact owns_belowT ho (box1 _ _),
   fun i hi b e => by
    simp at hi
    subst hi
    exact (ho.lt b e).2,
   fun i j hi hj hij => by simp at hi hj; omega⟩
theorem PMk.zeroB (w : World) (p : Int) (n : Nat) : PMk (w.alloc (.cells #[] 36)) w.heap.size w.heap.size p n (.slice (some ⟨w.heap.size, 0, none⟩) 0 0) [] [] :=
  PMk.nilB (by simpa using World.ownsRow_made (base := w.heap.size) (e := 36) (size := 3) w #[] 0 (Nat.le_refl _) (by simp [maxLen]) rfl)
theorem prodT_nil2 (p : Int) : ∀ (xs O : List Tm), xs.foldl (fun O s => prodR p s [] O) O = O
  | [], _ => rfl
  | _ :: r, O => prodT_nil2 p r O
theorem stimesT (p d : Int) (v v' : Value) (xs ys : List Tm) (w : World) (hS : SliceT w v xs) (hS' : SliceT w v' ys) (hV : Valid p d xs) (hV' : Valid p d ys) (h : xs = [] ∨ ys = [] ∨ degI xs + degI ys ≤ 12) :
    Calls Try.prog 56 #[.agg #[.int .i64 p, .int .i64 d, v], .agg #[.int .i64 p, .int .i64 d, v']] w fun e w' =>
      ∃ v', e = .returned (.tuple #[.agg #[.int .i64 p, .int .i64 d, v'], .bool true]) ∧ OwnP w' w.heap.size v' (prodT p xs ys) ∧ Below w.heap.size w w' := by
  have hl : xs.length ≤ 1048576 := Nat.le_trans hV.isP.len (by decide)
  have hl' : ys.length ≤ 1048576 := Nat.le_trans hV'.isP.len (by decide)
  by_cases hx : xs = []
  · refine (specTimes_nil p d v v' xs ys w hS hS' hl hl' (.inl hx)).mono fun _ _ ⟨v2, h1, h2, h3⟩ => ⟨v2, h1, ?_, h3⟩
    subst hx
    exact h2
  · by_cases hy : ys = []
    · refine (specTimes_nil p d v v' xs ys w hS hS' hl hl' (.inr hy)).mono fun _ _ ⟨v2, h1, h2, h3⟩ => ⟨v2, h1, ?_, h3⟩
      subst hy
      unfold prodT
      rw [prodT_nil2]
      exact h2
    · have hd : degI xs + degI ys ≤ 12 := by
        rcases h with h | h | h
        · exact absurd h hx
        · exact absurd h hy
        · exact h
      refine (specTimes_some p d v v' xs ys w hS hS' hV hV' hx hy hd).mono fun _ _ ⟨v2, L, h1, h2, h3, h4⟩ => ⟨v2, h1, ?_, h4⟩
      rw [← h3.unique (prodT_mul hV hV' (fits_of hV hV' (.inr (.inr hd))))]
      exact h2
theorem splusT (p d : Int) (v v' : Value) (xs ys : List Tm) (f : Int × Int × Int → Int) (w : World) (hS : SliceT w v xs) (hS' : SliceT w v' ys) (hP : IsP p xs f) (hV : Valid p d ys) :
    Calls Try.prog 57 #[.agg #[.int .i64 p, .int .i64 d, v], .agg #[.int .i64 p, .int .i64 d, v'], .int .i64 1] w fun e w' =>
      ∃ v', e = .returned (.agg #[.int .i64 p, .int .i64 d, v']) ∧ OwnP w' w.heap.size v' (plusT p xs ys) ∧ Below w.heap.size w w' := by
  have hp2 := hV.p2
  refine (specPlus p d 1 v v' xs ys f w hS hS' hP hV (by omega) (by omega)).mono fun _ _ ⟨v2, L, h1, h2, h3, h4⟩ => ⟨v2, h1, ?_, h4⟩
  rw [← h3.unique (plusT_valid hP hV)]
  exact h2
/-- A polynomial put into a box of the call's own. -/
theorem box_put {X w : World} {q r : Nat} {v : Value} {S : List Tm} {p d : Int} {base : Nat} {F : Nat → Value} (hq : w.rowIs q 36 3 F) (ho : OwnP w base v S) (hb : Below r X w) (hqr : r ≤ q) :
    (((w.setCell ⟨q, 0, none⟩ (.int .i64 p)).setCell ⟨q, 1, none⟩ (.int .i64 d)).setCell ⟨q, 2, none⟩ v).rowIs q 36 3 (polyF p d v) ∧
    OwnP (((w.setCell ⟨q, 0, none⟩ (.int .i64 p)).setCell ⟨q, 1, none⟩ (.int .i64 d)).setCell ⟨q, 2, none⟩ v) base v S ∧
    Below r X (((w.setCell ⟨q, 0, none⟩ (.int .i64 p)).setCell ⟨q, 1, none⟩ (.int .i64 d)).setCell ⟨q, 2, none⟩ v) :=
  ⟨put_box hq p d, own_set3 ho hq, ((hb.setCell (p := ⟨q, 0, none⟩) hqr _).setCell (p := ⟨q, 1, none⟩) hqr _).setCell (p := ⟨q, 2, none⟩) hqr _⟩
theorem box_new (w : World) (p d : Int) (v : Value) (S : List Tm) {base : Nat} (ho : OwnP w base v S) : ∃ V, V = w.alloc (.cells #[.int .i64 p, .int .i64 d, v] 36) ∧ Below w.heap.size w V ∧ (V.heap.size ≤ w.heap.size + 1 ∧ w.heap.size + 1 ≤ V.heap.size) ∧ V.rowIs w.heap.size 36 3 (polyF p d v) ∧ OwnP V base v S := by
  obtain ⟨V, h1, h2, h3, h4⟩ := newbox w p d v
  exact ⟨V, h1, h2, h3, h4, owns_belowT ho h2⟩
end Go.Proofs.Ytphgpadpffigjaa
namespace Go.Proofs.Ytphgpadpffigjaa
open Go.RowKit Go.Sort

theorem eqPoly_r (p d : Int) (u u' : Value) (l : List Tm) (W : World) (hl : l.length ≤ 1048576) (hS : SliceT W u l) (hS' : SliceT W u' l) : ∀ dd os,
    Calls Try.prog 20 #[.agg #[.int .i64 p, .int .i64 d, u], .agg #[.int .i64 p, .int .i64 d, u']] (grow (redrawn W dd) os) fun e w'' => e = .returned (.bool true) ∧ ∃ q : Regrown, w'' = grow (redrawn W q.d) q.os := fun dd os =>
  Calls.regrown_of (eqPoly_same p d u u' l _ hl (hS.below (below_regrown W dd os)) (hS'.below (below_regrown W dd os)))

set_option maxRecDepth 8000 in
set_option maxHeartbeats 4000000 in
theorem eqpolys (v v' : Value) (G : List Pm) (w : World) (hl : G.length ≤ 1048576) (hlr : ∀ g ∈ G, g.2.2.length ≤ 1048576) (hS : SlP w v G) (hS' : SlP w v' G) :
    Calls Try.prog 14 #[v, v'] w fun e w' => e = .returned (.bool true) ∧ Below w.heap.size w w' := by
  have hnn : ((G.length : Int) != (G.length : Int)) = false := by simp
  obtain ⟨a, cap, rfl, hSc⟩ := id hS
  obtain ⟨a', cap', rfl, hSc'⟩ := id hS'
  go_enter Try.func14, Try.ntmps14
  go_wp2_with fail
  go_loopw [5] (fun i wr => ∃ k : Nat, k ≤ G.length ∧ i = .int .i64 k ∧ Below w.heap.size w wr) (fun i _ => G.length - (intOf i).toNat)
  case atStart => exact ⟨0, by omega, rfl, Below.refl _ _⟩
  case round =>
    obtain ⟨k, hk, rfl, hbel⟩ := hrel
    by_cases hlt : k < G.length
    · have hlt' : (k : Int) < (G.length : Int) := by omega
      obtain ⟨b, off, rfl, hbb, hT⟩ : ∃ b off, a = some ⟨b, off, none⟩ ∧ b < w.heap.size ∧ PolysW w b off G := by
        rcases hSc with rfl | h
        · simp at hlt
        · exact h
      obtain ⟨b', off', rfl, hbb', hT'⟩ : ∃ b off, a' = some ⟨b, off, none⟩ ∧ b < w.heap.size ∧ PolysW w b off G := by
        rcases hSc' with rfl | h
        · simp at hlt
        · exact h
      obtain ⟨u, c0, c1, c2, s0⟩ := (hT.below hbel hbb) k hlt
      obtain ⟨u', c3, c4, c5, s1⟩ := (hT'.below hbel hbb') k hlt
      have kE := eqPoly_r G[k].1 G[k].2.1 u u' G[k].2.2 wr (hlr _ (List.getElem_mem hlt)) s0 s1
      clear s0 s1
      have e0 := cell_regrown c0
      have e1 := cell_regrown c1
      have e2 := cell_regrown c2
      have e3 := cell_regrown c3
      have e4 := cell_regrown c4
      have e5 := cell_regrown c5
      clear c0 c1 c2 c3 c4 c5
      go_wp2_with fail
      refine wp_region_quiet_below (by kernel_rfl) (by kernel_rfl) ?_
      repeat (go_big_quiet_step (with_reducible exact kE _ _))
      refine wpQuiet_nil ?_
      intro _ hw'
      obtain ⟨⟨dq, osq⟩, hw''⟩ := hw'
      subst hw''
      have hb2 := hbel.trans ((below_regrown wr dq osq).mono hbel.size)
      generalize grow (redrawn wr dq) osq = V at *
      clear e0 e1 e2 e3 e4 e5 kE
      go_wp2_with fail
      go_roundw
      case rel => exact ⟨k + 1, by omega, by go_num, hb2⟩
      case measure => simp [intOf]; omega
    · obtain rfl : k = G.length := by omega
      go_wp2_with fail
      go_ret
      exact ⟨rfl, hbel⟩
end Go.Proofs.Ytphgpadpffigjaa
namespace Go.Proofs.Ytphgpadpffigjaa
open Go.RowKit Go.Sort

/-- All terms of a list of polynomials. -/
def totP (G : List Pm) : Nat := (G.map (·.2.2.length)).sum
theorem totP_take {G : List Pm} {k : Nat} (h : k < G.length) : totP (G.take (k + 1)) = totP (G.take k) + G[k].2.2.length := by
  unfold totP
  rw [List.take_succ_eq_append_getElem h, List.map_append, List.sum_append]
  simp
theorem totP_le (G : List Pm) (k : Nat) : totP (G.take k) ≤ totP G := by
  have h : totP G = totP (G.take k) + totP (G.drop k) := by
    unfold totP
    rw [← List.sum_append, ← List.map_append, List.take_append_drop]
  omega
theorem totP_of {G : List Pm} {g : Pm} (h : g ∈ G) : g.2.2.length ≤ totP G := by
  obtain ⟨k, hk, rfl⟩ := List.mem_iff_getElem.1 h
  have h1 := totP_take hk
  have h2 := totP_le G (k + 1)
  omega
theorem leftOf_lt {left : Int} {n : Nat} (h : left - n < 0) : leftOf left n = -1 := if_pos h
theorem leftOf_ge {left : Int} {n : Nat} (h : ¬ left - n < 0) : leftOf left n = left - n := if_neg h

set_option maxHeartbeats 2000000 in
theorem szpolys (v : Value) (G : List Pm) (left : Int) (w : World) (h0 : 0 ≤ left) (h1 : left ≤ 1048576) (hl : G.length ≤ 9223372036854775807) (hlr : ∀ g ∈ G, g.2.2.length ≤ 9223372036854775807) (hS : SlP w v G) :
    Calls Try.prog 9 #[v, .int .i64 left] w fun e w' => e = .returned (.int .i64 (leftOf left (G.length + totP G))) ∧ Below w.heap.size w w' := by
  obtain ⟨a, cap, rfl, hc⟩ := hS
  by_cases h : left < G.length
  · have h' : left - (G.length : Int) < 0 := by omega
    go_enter Try.func9, Try.ntmps9
    go_wp2
    go_ret
    exact ⟨by rw [leftOf_lt (by omega)]; rfl, .refl _ _⟩
  · have h' : ¬ left - (G.length : Int) < 0 := by omega
    go_enter Try.func9, Try.ntmps9
    go_wp2
    go_loopw [1, 5] (fun m i wr => ∃ k : Nat, k ≤ G.length ∧ i = .int .i64 k ∧ Below w.heap.size w wr ∧ ∃ q : Int, m = .int .i64 q ∧ q = left - G.length - totP (G.take k) ∧ 0 ≤ q ∧ q ≤ 1048576) (fun _ i _ => G.length - (intOf i).toNat)
    case atStart => exact ⟨0, by omega, rfl, .refl _ _, _, rfl, by simp [totP], by omega, by omega⟩
    case round =>
      obtain ⟨k, hk, rfl, hbel, q, rfl, hq, hq0, hq1⟩ := hrel
      by_cases hlt : k < G.length
      · have hlt' : (k : Int) < (G.length : Int) := by omega
        obtain ⟨b, off, rfl, hbb, hT⟩ : ∃ b off, a = some ⟨b, off, none⟩ ∧ b < w.heap.size ∧ PolysW w b off G := by
          rcases hc with rfl | h
          · simp at hlt
          · exact h
        obtain ⟨u, c0, c1, c2, s0⟩ := (hT.below hbel hbb) k hlt
        have hrl := hlr _ (List.getElem_mem hlt)
        have HT := Lib.hid (totP_take hlt)
        have HL := Lib.hid (totP_le G (k + 1))
        have HQ := Lib.hid hq
        clear hq
        go_wp2_with fail
        ((with_reducible refine (szPoly_any _ _ q u G[k].2.2 _ hrl hq0 hq1 s0).mono ?_); rintro e w1 ⟨rfl, hb1⟩)
        have hbel1 := hbel.trans (hb1.mono hbel.size)
        by_cases hneg : q - G[k].2.2.length < 0
        · rw [leftOf_lt hneg]
          have HN : Hid (left - ((G.length + totP G : Nat) : Int) < 0) := Lib.hid (by
            have h1 := HT.out
            have h2 := HL.out
            have h3 := HQ.out
            omega)
          clear hneg
          go_wp2_with fail
          go_ret
          exact ⟨by rw [leftOf_lt HN.out]; rfl, hbel1⟩
        · rw [leftOf_ge hneg]
          obtain ⟨q2, hq2⟩ : ∃ q2, q - (G[k].2.2.length : Int) = q2 := ⟨_, rfl⟩
          have hq20 : 0 ≤ q2 := by omega
          have hq21 : q2 ≤ 1048576 := by omega
          have hq22 : ¬ q2 < 0 := by omega
          have HN : Hid (q2 = left - G.length - totP (G.take (k + 1))) := Lib.hid (by
            have h1 := HT.out
            have h3 := HQ.out
            omega)
          rw [hq2]
          clear hneg hq2
          go_wp2_with fail
          go_roundw
          case rel => exact ⟨k + 1, by omega, by go_num, hbel1, q2, rfl, HN.out, hq20, hq21⟩
          case measure => simp [intOf]; omega
      · obtain rfl : k = G.length := by omega
        rw [List.take_length] at hq
        have HQ := Lib.hid hq
        clear hq
        go_wp2_with fail
        go_ret
        have h3 := HQ.out
        exact ⟨by rw [leftOf_ge (by omega)]; simp only [Int.natCast_add]; rw [← Int.sub_sub, ← h3]; rfl, hbel⟩
end Go.Proofs.Ytphgpadpffigjaa
namespace Go.Proofs.Ytphgpadpffigjaa
open Go.RowKit Go.Sort


end Go.Proofs.Ytphgpadpffigjaa
namespace Go.Proofs.Ytphgpadpffigjaa
open Go.RowKit Go.Sort

set_option maxHeartbeats 1000000 in
theorem heldT_any (g n cap : Nat) (k0 : Int) (w : World) (hc : ∀ j, j < n * 4 → w.cell? ⟨g, j, none⟩ = some (markT k0 j)) (hn : n ≤ 1048576) (h0 : 0 ≤ k0) (h1 : k0 ≤ 1000000000) :
    Calls Try.prog 50 #[.slice (some ⟨g, 0, none⟩) n cap, .int .i64 k0] w fun e w' => e = .returned (.int .i64 (k0 + 4 * n)) ∧ w = w' := by
  go_enter Try.func50, Try.ntmps50
  go_wp2
  go_loop [1, 5] (fun m i => ∃ k : Nat, k ≤ n ∧ i = .int .i64 k ∧ m = .int .i64 (k0 + 4 * k)) (fun _ i => n - (intOf i).toNat)
  case atStart => exact ⟨0, by omega, rfl, by simp⟩
  case round =>
    obtain ⟨k, hk, rfl, rfl⟩ := hrel
    by_cases hlt : k < n
    · have hlt' : (k : Int) < (n : Int) := by omega
      go_wp2
      go_loop [1, 6] (fun m i => ∃ t : Nat, t ≤ 3 ∧ i = .int .i64 t ∧ m = .int .i64 (k0 + 4 * k + t)) (fun _ i => 3 - (intOf i).toNat)
      case atStart => exact ⟨0, by omega, rfl, by simp⟩
      case round =>
        obtain ⟨t, ht, rfl, rfl⟩ := hrel
        by_cases hlt2 : t < 3
        · have hlt2' : (t : Int) < 3 := by omega
          have hcell : w.cell? ⟨g, k * 4 + t, none⟩ = some (.int .u8 ((k0 + 4 * ↑k + ↑t) % 256)) := by
            rw [hc _ (by omega)]; unfold markT; rw [if_neg (by omega)]; congr 2; omega
          have hne : ((k0 + 4 * (k : Int) + t) % 256 != (k0 + 4 * (k : Int) + t) % 256) = false := by simp
          go_wp2
          go_round
          case rel => exact ⟨t + 1, by omega, by go_num, by go_num⟩
          case measure => simp [intOf]; omega
        · obtain rfl : t = 3 := by omega
          have hcell : w.cell? ⟨g, k * 4 + 3, none⟩ = some (.int .i64 (k0 + 4 * ↑k + 3)) := by
            rw [hc _ (by omega)]; unfold markT; rw [if_pos (by omega)]; congr 2; omega
          have hne : ((k0 + 4 * (k : Int) + 3) != (k0 + 4 * (k : Int) + 3)) = false := by simp
          go_wp2
          go_round
          case rel => exact ⟨k + 1, by omega, by go_num, by go_num⟩
          case measure => simp [intOf]; omega
    · obtain rfl : k = n := by omega
      go_wp2
      go_ret
      exact ⟨rfl, rfl⟩
end Go.Proofs.Ytphgpadpffigjaa
namespace Go.Proofs.Ytphgpadpffigjaa
open Go.RowKit Go.Sort

theorem heldT_zero (a : Option Addr) (c : Nat) (k0 : Int) (w : World) :
    Calls Try.prog 50 #[.slice a 0 c, .int .i64 k0] w fun e w' => e = .returned (.int .i64 k0) ∧ w = w' := by
  go_enter Try.func50, Try.ntmps50
  go_wp2
  refine wp_loop_rounds 1 ?_
  rw [rounds_succ]
  go_wp2
  go_ret
  exact ⟨rfl, rfl⟩

theorem heldS_marks {v : Value} {n : Nat} {k0 : Int} (w : World) (h : MarksT w v n k0) (hn : n ≤ 1048576) (h0 : 0 ≤ k0) (h1 : k0 ≤ 1000000000) :
    Calls Try.prog 50 #[v, .int .i64 k0] w fun e w' => e = .returned (.int .i64 (k0 + 4 * n)) ∧ w = w' := by
  rcases h with ⟨rfl, rfl⟩ | ⟨g, cap, rfl, _, hc⟩
  · exact (heldT_zero none 0 k0 w).mono fun e w' ⟨he, hw⟩ => ⟨by rw [he]; simp, hw⟩
  · exact heldT_any g n cap k0 w hc hn h0 h1

set_option maxHeartbeats 1000000 in
theorem heldPoly_marks {v : Value} {n : Nat} (p d k0 : Int) (w : World) (h : MarksT w v n k0) (hn : n ≤ 1048576) (h0 : 0 ≤ k0) (h1 : k0 ≤ 1000000000) :
    Calls Try.prog 22 #[.agg #[.int .i64 p, .int .i64 d, v], .int .i64 k0] w fun e w' => e = .returned (.int .i64 (k0 + 4 * n)) ∧ Below w.heap.size w w' := by
  have hO : ∀ o, MarksT (w.alloc o) v n k0 := fun o => h.below (box1 _ _)
  obtain ⟨a, m, c, hv⟩ : ∃ a m c, v = .slice a m c := by
    rcases h with ⟨rfl, _⟩ | ⟨g, cap, rfl, _⟩
    · exact ⟨_, _, _, rfl⟩
    · exact ⟨_, _, _, rfl⟩
  subst hv
  have hq : ¬ k0 + 4 * (n : Int) < 0 := by omega
  go_enter Try.func22, Try.ntmps22
  go_wp2_with fail
  ((with_reducible refine (heldS_marks _ (hO _) hn h0 h1).mono ?_); rintro e w1 ⟨rfl, rfl⟩)
  go_wp2
  go_ret
  exact ⟨rfl, box1 _ _⟩
end Go.Proofs.Ytphgpadpffigjaa
namespace Go.Proofs.Ytphgpadpffigjaa
open Go.RowKit Go.Sort

theorem infoPolyQ : (Try.prog.info? 36).map (fun i => (i.zero, i.size, i.bytes)) = some (some (.agg #[.int .i64 0, .int .i64 0, .slice none 0 0]), 3, 40) := by kernel_rfl
def madeQ (n : Nat) : Array Value := madeCells (Value.agg #[.int .i64 0, .int .i64 0, .slice none 0 0]).cells (n * 3)
theorem madeQ_row (w : World) (n : Nat) (t : TypeId) : (w.alloc (.cells (madeQ n) t)).rowIs w.heap.size t (n * 3) (fun i => (madeQ n).getD i undef) := by
  have hs : (madeQ n).size = n * 3 := by simp [madeQ, madeCells]
  refine ⟨madeQ n, heap_alloc_new w _, hs, fun i hi => ?_⟩
  simp [Array.getD, hs, hi]
/-- A block that holds these terms. -/
def TermB (w : World) (b : Nat) (ts : List Tm) : Prop := ∃ f, w.rowIs b 92 (ts.length * 4) f ∧ rowT ts ts.length f
/-- A slice header of terms. -/
abbrev tv (b : Nat) (ts : List Tm) : Value := .slice (some ⟨b, 0, none⟩) ts.length ts.length
theorem TermB.below {w w' : World} {b : Nat} {ts : List Tm} (h : TermB w b ts) (hb : Below w.heap.size w w') : TermB w' b ts := by
  obtain ⟨f, hr, ht⟩ := h
  exact ⟨f, rowIs_below hr hb hr.lt, ht⟩
theorem TermB.lt {w : World} {b : Nat} {ts : List Tm} (h : TermB w b ts) : b < w.heap.size := by
  obtain ⟨f, hr, _⟩ := h
  exact hr.lt
theorem TermB.block {w w' : World} {b : Nat} {ts : List Tm} (h : TermB w b ts) (hb : w'.heap[b]? = w.heap[b]?) : TermB w' b ts := by
  obtain ⟨f, hr, ht⟩ := h
  exact ⟨f, hr.of_block hb, ht⟩
theorem TermB.slice {w : World} {b : Nat} {ts : List Tm} (h : TermB w b ts) : SliceT w (tv b ts) ts := by
  obtain ⟨f, hr, ht⟩ := h
  exact OwnT.slice (base := 0) ⟨b, f, rfl, Nat.zero_le _, hr, ht⟩
/-- The first k polynomials of a list of the call's own: their terms in blocks B 0 < B 1 < .. behind the list's own block. -/
structure PolsW (w : World) (gb : Nat) (G : List Pm) (k : Nat) (F : Nat → Value) (B : Nat → Nat) : Prop where
  row : w.rowIs gb 36 (G.length * 3) F
  at' : ∀ (q : Nat) (h : q < G.length), q < k → F (q * 3) = .int .i64 G[q].1 ∧ F (q * 3 + 1) = .int .i64 G[q].2.1 ∧ F (q * 3 + 2) = tv (B q) G[q].2.2 ∧ gb < B q ∧ TermB w (B q) G[q].2.2
  asc : ∀ q r, q < r → r < k → B q < B r
theorem PolsW.below {w w' : World} {gb : Nat} {G : List Pm} {k : Nat} {F : Nat → Value} {B : Nat → Nat} (h : PolsW w gb G k F B) (hb : Below w.heap.size w w') : PolsW w' gb G k F B :=
  ⟨rowIs_below h.row hb h.row.lt, fun q hq hk => by
    obtain ⟨a, b, c, d, e⟩ := h.at' q hq hk
    exact ⟨a, b, c, d, e.below hb⟩, h.asc⟩
theorem PolsW.put {w : World} {gb : Nat} {G : List Pm} {k : Nat} {F : Nat → Value} {B : Nat → Nat} (h : PolsW w gb G k F B) (hk : k < G.length) {b : Nat} (hT : TermB w b G[k].2.2) (hg : gb < b) (hB : ∀ q, q < k → B q < b) :
    ∃ F' B', PolsW (((w.setCell ⟨gb, k * 3, none⟩ (.int .i64 G[k].1)).setCell ⟨gb, k * 3 + 1, none⟩ (.int .i64 G[k].2.1)).setCell ⟨gb, k * 3 + 2, none⟩ (tv b G[k].2.2)) gb G (k + 1) F' B' := by
  have hT' : ∀ (b' : Nat) (ts : List Tm), gb < b' → TermB w b' ts → TermB (((w.setCell ⟨gb, k * 3, none⟩ (.int .i64 G[k].1)).setCell ⟨gb, k * 3 + 1, none⟩ (.int .i64 G[k].2.1)).setCell ⟨gb, k * 3 + 2, none⟩ (tv b G[k].2.2)) b' ts := fun b' ts hb' hh => hh.block (by
    rw [Below.heap_setCell _ ⟨gb, k * 3 + 2, none⟩ _ b' (by simp; omega), Below.heap_setCell _ ⟨gb, k * 3 + 1, none⟩ _ b' (by simp; omega), Below.heap_setCell _ ⟨gb, k * 3, none⟩ _ b' (by simp; omega)])
  refine ⟨_, fun q => if q = k then b else B q, ((h.row.set (k * 3) (.int .i64 G[k].1)).set (k * 3 + 1) (.int .i64 G[k].2.1)).set (k * 3 + 2) (tv b G[k].2.2), fun q hq hqk => ?_, fun q r hqr hr => ?_⟩
  · by_cases e : q = k
    · subst e
      refine ⟨?_, ?_, ?_, ?_, ?_⟩
      · simp only [if_neg (show ¬ q * 3 = q * 3 + 2 by omega), if_neg (show ¬ q * 3 = q * 3 + 1 by omega), if_true]
      · simp only [if_neg (show ¬ q * 3 + 1 = q * 3 + 2 by omega), if_true]
      · simp only [if_true]
      · simp only [if_true]; exact hg
      · simp only [if_true]; exact hT' _ _ hg hT
    · obtain ⟨a1, a2, a3, a4, a5⟩ := h.at' q hq (by omega)
      refine ⟨?_, ?_, ?_, ?_, ?_⟩
      · simp only [if_neg (show ¬ q * 3 = k * 3 + 2 by omega), if_neg (show ¬ q * 3 = k * 3 + 1 by omega), if_neg (show ¬ q * 3 = k * 3 by omega)]; exact a1
      · simp only [if_neg (show ¬ q * 3 + 1 = k * 3 + 2 by omega), if_neg (show ¬ q * 3 + 1 = k * 3 + 1 by omega), if_neg (show ¬ q * 3 + 1 = k * 3 by omega)]; exact a2
      · simp only [if_neg (show ¬ q * 3 + 2 = k * 3 + 2 by omega), if_neg (show ¬ q * 3 + 2 = k * 3 + 1 by omega), if_neg (show ¬ q * 3 + 2 = k * 3 by omega), if_neg e]; exact a3
      · simp only [if_neg e]; exact a4
      · simp only [if_neg e]; exact hT' _ _ a4 a5
  · by_cases e : r = k
    · subst e
      simp only [if_true, if_neg (show ¬ q = r by omega)]
      exact hB q hqr
    · simp only [if_neg e, if_neg (show ¬ q = k by omega)]
      exact h.asc q r hqr (by omega)
/-- A list of polynomials of the call's own. -/
def OwnPs (w : World) (base : Nat) (v : Value) (G : List Pm) : Prop :=
  ∃ gb F B, v = .slice (some ⟨gb, 0, none⟩) G.length G.length ∧ base ≤ gb ∧ PolsW w gb G G.length F B
theorem OwnPs.below {w w' : World} {base : Nat} {v : Value} {G : List Pm} (h : OwnPs w base v G) (hb : Below w.heap.size w w') : OwnPs w' base v G := by
  obtain ⟨gb, F, B, hv, hg, hW⟩ := h
  exact ⟨gb, F, B, hv, hg, hW.below hb⟩
theorem OwnPs.slP {w : World} {base : Nat} {v : Value} {G : List Pm} (h : OwnPs w base v G) : SlP w v G := by
  obtain ⟨gb, F, B, hv, hg, hW⟩ := h
  refine ⟨_, _, hv, .inr ⟨gb, 0, rfl, hW.row.lt, fun k hk => ?_⟩⟩
  obtain ⟨a, b, c, d, e⟩ := hW.at' k hk hk
  refine ⟨tv (B k) G[k].2.2, ?_, ?_, ?_, e.slice⟩
  · rw [Nat.zero_add, hW.row.cell (by omega), a]
  · rw [Nat.zero_add, hW.row.cell (by omega), b]
  · rw [Nat.zero_add, hW.row.cell (by omega), c]

set_option maxRecDepth 8000 in
set_option maxHeartbeats 4000000 in
theorem topolys (v : Value) (G : List Pm) (w : World) (hl : G.length ≤ 1048576) (hlr : ∀ g ∈ G, g.2.2.length ≤ 1048576) (hS : SlP w v G) :
    Calls Try.prog 11 #[v] w fun e w' => ∃ v', e = .returned v' ∧ OwnPs w' w.heap.size v' G ∧ Below w.heap.size w w' := by
  obtain ⟨i0, hi, hz0, hz1, hz2⟩ := info_parts infoPolyQ
  obtain ⟨a, cap, rfl, hc⟩ := hS
  have hmk : ∀ w, (Instr.makeSlice 27 (.int .i64 (G.length : Int)) (.int .i64 (G.length : Int))).run Try.prog w = .ok (.slice (some ⟨w.heap.size, 0, none⟩) G.length G.length) (w.alloc (.cells (madeQ G.length) 36)) := fun w => by
    have h := run_make (P := Try.prog) w 27 36 i0 _ Try.underlying27 hi hz0 .i64 .i64 (G.length : Int) (G.length : Int) (by omega) (by omega) (by rw [hz2]; omega) (by omega)
    rw [hz1] at h
    simpa [madeQ, Value.cells] using h
  clear hi hz0 hz1 hz2
  have hr0 := madeQ_row w G.length 36
  have HR0 : Hid (PolsW (w.alloc (.cells (madeQ G.length) 36)) w.heap.size G 0 (fun i => (madeQ G.length).getD i undef) (fun _ => 0)) := Lib.hid ⟨hr0, fun q _ h => by omega, fun q r _ h => by omega⟩
  clear hr0
  go_enter Try.func11, Try.ntmps11
  go_wp2
  go_loopw [4] (fun i wr => ∃ k : Nat, k ≤ G.length ∧ i = .int .i64 k ∧ Below w.heap.size w wr ∧ ∃ F B, PolsW wr w.heap.size G k F B) (fun i _ => G.length - (intOf i).toNat)
  case atStart => exact ⟨0, by omega, rfl, box1 _ _, _, _, HR0.out⟩
  case round =>
    clear HR0 hmk
    obtain ⟨k, hk, rfl, hbel, F, B, hP⟩ := hrel
    by_cases hlt : k < G.length
    · have hlt' : (k : Int) < (G.length : Int) := by omega
      obtain ⟨b, off, rfl, hbb, hT⟩ : ∃ b off, a = some ⟨b, off, none⟩ ∧ b < w.heap.size ∧ PolysW w b off G := by
        rcases hc with rfl | h
        · simp at hlt
        · exact h
      obtain ⟨u, c0, c1, c2, s0⟩ := (hT.below hbel hbb) k hlt
      have HL := Lib.hid (hlr _ (List.getElem_mem hlt))
      go_wp2_with fail
      ((with_reducible refine (toPoly_any _ _ u G[k].2.2 _ HL.out s0).mono ?_); rintro e w3 ⟨v3, rfl, ho, hb3⟩)
      obtain ⟨g, f3, rfl, hg, hr3, hf3⟩ := ho
      have hP3 := hP.below hb3
      have f0 := hP3.row.frozen (k * 3)
      have f1 := hP3.row.frozen (k * 3 + 1)
      have f2 := hP3.row.frozen (k * 3 + 2)
      have d0 := hP3.row.cell (i := k * 3) (by omega)
      have d1 := hP3.row.cell (i := k * 3 + 1) (by omega)
      have d2 := hP3.row.cell (i := k * 3 + 2) (by omega)
      have hbel3 := hbel.trans (hb3.mono hbel.size)
      have hgw := hP.row.lt
      have HPN := Lib.hid (hP3.put hlt ⟨f3, hr3, hf3⟩ (by omega) (fun q hq => Nat.lt_of_lt_of_le (hP.at' q (by omega) hq).2.2.2.2.lt hg))
      have hb4 := ((hbel3.setCell (p := ⟨w.heap.size, k * 3, none⟩) (Nat.le_refl _) (.int .i64 G[k].1)).setCell (p := ⟨w.heap.size, k * 3 + 1, none⟩) (Nat.le_refl _) (.int .i64 G[k].2.1)).setCell (p := ⟨w.heap.size, k * 3 + 2, none⟩) (Nat.le_refl _) (tv g G[k].2.2)
      clear hP hP3 hb3 hr3 hf3 hbel c0 c1 c2 s0
      go_wp2_with fail
      go_roundw
      case rel => exact ⟨k + 1, by omega, by go_num, hb4, HPN.out⟩
      case measure => simp [intOf]; omega
    · obtain rfl : k = G.length := by omega
      go_wp2_with fail
      go_ret
      exact ⟨_, rfl, ⟨w.heap.size, F, B, rfl, Nat.le_refl _, hP⟩, hbel⟩
end Go.Proofs.Ytphgpadpffigjaa
namespace Go.Proofs.Ytphgpadpffigjaa
open Go.RowKit Go.Sort

/-- Blocks from lo on and below hi may have changed, and new ones come; no other. -/
structure GrewI (lo hi : Nat) (w w' : World) : Prop where
  os : w'.os = w.os
  tape : w'.tape = w.tape
  output : w'.output = w.output
  size : w.heap.size ≤ w'.heap.size
  block : ∀ k, k < w.heap.size → (k < lo ∨ hi ≤ k) → w'.heap[k]? = w.heap[k]?
theorem GrewI.refl (lo hi : Nat) (w : World) : GrewI lo hi w w := ⟨rfl, rfl, rfl, Nat.le_refl _, fun _ _ _ => rfl⟩
theorem GrewI.step {lo hi : Nat} {w w' w'' : World} {b : Nat} (h : GrewI lo hi w w') (h1 : lo ≤ b) (h2 : b < hi) (hg : w'.grownBy w'' (some b)) : GrewI lo hi w w'' :=
  ⟨hg.os.trans h.os, hg.tape.trans h.tape, hg.output.trans h.output, Nat.le_trans h.size hg.size, fun k hk hn => (hg.block k (Nat.lt_of_lt_of_le hk h.size) (fun e => by
    simp at e; omega)).trans (h.block k hk hn)⟩
theorem GrewI.set {lo hi : Nat} {w w' : World} {b i : Nat} {x : Value} (h : GrewI lo hi w w') (h1 : lo ≤ b) (h2 : b < hi) : GrewI lo hi w (w'.setCell ⟨b, i, none⟩ x) :=
  ⟨h.os, h.tape, h.output, by rw [World.size_setCell]; exact h.size, fun k hk hn => (Below.heap_setCell w' ⟨b, i, none⟩ x k (by show k ≠ b; omega)).trans (h.block k hk hn)⟩
theorem GrewI.below {lo hi : Nat} {w w' : World} {base : Nat} (h : GrewI lo hi w w') (hb : base ≤ lo) (hw : base ≤ w.heap.size) : Below base w w' :=
  ⟨h.os, h.tape, h.output, h.size, fun k hk => h.block k (by omega) (.inl (by omega))⟩
/-- What of a list in the marking still stands, from k on. -/
structure MkP (w : World) (gb : Nat) (G : List Pm) (B : Nat → Nat) (k : Nat) (F : Nat → Value) : Prop where
  row : w.rowIs gb 36 (G.length * 3) F
  at' : ∀ (q : Nat) (h : q < G.length), k ≤ q → F (q * 3 + 2) = tv (B q) G[q].2.2 ∧ TermB w (B q) G[q].2.2
theorem MkP.next {w w' : World} {gb : Nat} {G : List Pm} {B : Nat → Nat} {k : Nat} {F : Nat → Value} (h : MkP w gb G B k F) (hk : k < G.length) (x y : Value) (hgb : ∀ q, q < G.length → gb < B q) (hasc : ∀ q r, q < r → r < G.length → B q < B r)
    (hg : ((w.setCell ⟨gb, k * 3, none⟩ x).setCell ⟨gb, k * 3 + 1, none⟩ y).grownBy w' (some (B k))) : ∃ F', MkP w' gb G B (k + 1) F' := by
  have hrow := (h.row.set (k * 3) x).set (k * 3 + 1) y
  refine ⟨_, hrow.of_block (hg.block gb hrow.lt (fun e => by have := hgb k hk; simp at e; omega)), fun q hq hkq => ?_⟩
  obtain ⟨a, b⟩ := h.at' q hq (by omega)
  have hgq := hgb q hq
  have hkk := hasc k q (by omega) hq
  refine ⟨?_, ?_⟩
  · simp only [if_neg (show ¬ q * 3 + 2 = k * 3 + 1 by omega), if_neg (show ¬ q * 3 + 2 = k * 3 by omega)]; exact a
  · have h2 : TermB ((w.setCell ⟨gb, k * 3, none⟩ x).setCell ⟨gb, k * 3 + 1, none⟩ y) (B q) G[q].2.2 := b.block (by
      rw [Below.heap_setCell _ ⟨gb, k * 3 + 1, none⟩ _ (B q) (by show B q ≠ gb; omega), Below.heap_setCell _ ⟨gb, k * 3, none⟩ _ (B q) (by show B q ≠ gb; omega)])
    exact h2.block (hg.block _ h2.lt (fun e => by simp at e; omega))

set_option maxRecDepth 8000 in
set_option maxHeartbeats 4000000 in
theorem markpolys (gb top : Nat) (G : List Pm) (F : Nat → Value) (B : Nat → Nat) (k0 : Int) (w : World) (hl : G.length ≤ 1048576) (hlr : ∀ g ∈ G, g.2.2.length ≤ 1048576) (ht : totP G ≤ 1048576) (h0 : 0 ≤ k0) (h1 : k0 ≤ 67108864)
    (hP : PolsW w gb G G.length F B) (htop : ∀ q, q < G.length → B q < top) (hgt : gb < top) :
    Calls Try.prog 15 #[.slice (some ⟨gb, 0, none⟩) G.length G.length, .int .i64 k0] w fun e w' => e = .returned (.int .i64 (k0 + 2 * G.length + 4 * totP G)) ∧ GrewI gb top w w' := by
  have HGB : Hid (∀ q, q < G.length → gb < B q) := Lib.hid (fun q hq => (hP.at' q hq hq).2.2.2.1)
  have HAS : Hid (∀ q r, q < r → r < G.length → B q < B r) := Lib.hid hP.asc
  have HTOP := Lib.hid htop
  have HM0 : Hid (MkP w gb G B 0 F) := Lib.hid ⟨hP.row, fun q hq _ => ⟨(hP.at' q hq hq).2.2.1, (hP.at' q hq hq).2.2.2.2⟩⟩
  clear hP htop
  go_enter Try.func15, Try.ntmps15
  go_wp2_with fail
  go_loopw [1, 5] (fun m i wr => ∃ k : Nat, k ≤ G.length ∧ i = .int .i64 k ∧ (∃ q : Int, m = .int .i64 q ∧ q = k0 + 2 * k + 4 * totP (G.take k)) ∧ (∃ F', MkP wr gb G B k F') ∧ GrewI gb top w wr) (fun _ i _ => G.length - (intOf i).toNat)
  case atStart => exact ⟨0, by omega, rfl, ⟨_, rfl, by simp [totP]⟩, ⟨_, HM0.out⟩, GrewI.refl _ _ _⟩
  case round =>
    clear HM0
    obtain ⟨k, hk, rfl, ⟨q, rfl, hq⟩, ⟨F', hM⟩, hG⟩ := hrel
    by_cases hlt : k < G.length
    · have hlt' : (k : Int) < (G.length : Int) := by omega
      have ht1 := totP_take hlt
      have ht2 := totP_le G (k + 1)
      have hq0 : 0 ≤ q := by omega
      have hq1 : q ≤ 900000000 := by omega
      have HQ : Hid (q + 1 + 1 + 4 * (G[k].2.2.length : Int) = k0 + 2 * ((k + 1 : Nat) : Int) + 4 * totP (G.take (k + 1))) := Lib.hid (by omega)
      clear ht1 ht2 hq
      obtain ⟨ct, hT⟩ := hM.at' k hlt (Nat.le_refl _)
      have f0 := hM.row.frozen (k * 3)
      have f1 := hM.row.frozen (k * 3 + 1)
      have d0 := hM.row.cell (i := k * 3) (by omega)
      have d1 := hM.row.cell (i := k * 3 + 1) (by omega)
      have d2 := hM.row.cell (i := k * 3 + 2) (by omega)
      rw [ct] at d2
      have hlk := hlr _ (List.getElem_mem hlt)
      have HGK := Lib.hid (HGB.out k hlt)
      have HTK := Lib.hid (HTOP.out k hlt)
      have HTT : ∀ x y, OwnG ((wr.setCell ⟨gb, k * 3, none⟩ x).setCell ⟨gb, k * 3 + 1, none⟩ y) 0 (tv (B k) G[k].2.2) G[k].2.2.length := fun x y => by
        have hgk := HGK.out
        obtain ⟨f, hr, _⟩ := hT.block (w' := (wr.setCell ⟨gb, k * 3, none⟩ x).setCell ⟨gb, k * 3 + 1, none⟩ y) (by
          rw [Below.heap_setCell _ ⟨gb, k * 3 + 1, none⟩ _ (B k) (by show B k ≠ gb; omega), Below.heap_setCell _ ⟨gb, k * 3, none⟩ _ (B k) (by show B k ≠ gb; omega)])
        exact .inr ⟨B k, _, _, f, rfl, Nat.zero_le _, Nat.le_refl _, hr⟩
      have HN := Lib.hid (fun w' x y hg => hM.next (w' := w') hlt x y HGB.out HAS.out hg)
      have HG2 := Lib.hid (fun w' x y (hg : ((wr.setCell ⟨gb, k * 3, none⟩ x).setCell ⟨gb, k * 3 + 1, none⟩ y).grownBy w' (some (B k))) => ((hG.set (i := k * 3) (x := x) (Nat.le_refl _) hgt).set (i := k * 3 + 1) (x := y) (Nat.le_refl _) hgt).step (Nat.le_of_lt HGK.out) HTK.out hg)
      clear hM hT hG ct
      go_wp2_with fail
      ((with_reducible refine (markS_own _ _ (HTT _ _) hlk (by omega) (by omega)).mono ?_); rintro e w2 ⟨rfl, _, hg⟩)
      have HF := Lib.hid (HN.out w2 _ _ hg)
      have HI := Lib.hid (HG2.out w2 _ _ hg)
      clear HN HG2 hg d0 d1 d2 f0 f1 HTT
      go_wp2_with fail
      go_roundw
      case rel => exact ⟨k + 1, by omega, by go_num, ⟨_, rfl, HQ.out⟩, HF.out, HI.out⟩
      case measure => simp [intOf]; omega
    · obtain rfl : k = G.length := by omega
      rw [List.take_length] at hq
      have HQ := Lib.hid hq
      clear hq
      go_wp2_with fail
      go_ret
      exact ⟨by rw [HQ.out]; rfl, hG⟩
end Go.Proofs.Ytphgpadpffigjaa
namespace Go.Proofs.Ytphgpadpffigjaa
open Go.RowKit Go.Sort

theorem OwnP.keepI {w w' : World} {lo hi base : Nat} {v : Value} {S : List Tm} (h : OwnP w base v S) (hg : GrewI lo hi w w') (hb : hi ≤ base) : OwnP w' base v S := by
  obtain ⟨h1, h2 | ⟨g, cap, cur, hv, hbg, hc, hrest⟩⟩ := h
  · exact ⟨h1, .inl h2⟩
  · have hlt : g < w.heap.size := by
      rcases Nat.lt_or_ge g w.heap.size with h | h
      · exact h
      · rw [Array.getElem?_eq_none h] at hc
        simp at hc
    exact ⟨h1, .inr ⟨g, cap, cur, hv, hbg, (hg.block g hlt (.inr (by omega))).trans hc, hrest⟩⟩
theorem rowI {w w' : World} {lo hi b t n : Nat} {f : Nat → Value} (h : w.rowIs b t n f) (hg : GrewI lo hi w w') (hb : b < lo ∨ hi ≤ b) : w'.rowIs b t n f := h.of_block (hg.block b h.lt hb)
theorem SliceB.keptI {w w' : World} {lo hi B : Nat} {v : Value} {ts : List Tm} (h : SliceB w B v ts) (hg : GrewI lo hi w w') (hB : B ≤ w.heap.size) (hl : B ≤ lo) : SliceB w' B v ts := by
  obtain ⟨a, cap, hv, h | ⟨b, off, ha, hlt, hT⟩⟩ := h
  · exact ⟨a, cap, hv, .inl h⟩
  · refine ⟨a, cap, hv, .inr ⟨b, off, ha, hlt, fun k hk => ?_⟩⟩
    have hb := hg.block b (Nat.lt_of_lt_of_le hlt hB) (.inl (by omega))
    obtain ⟨h0, h1, h2, h3⟩ := hT k hk
    exact ⟨(World.cell?_of_block (w := w) (a := ⟨b, _, none⟩) hb).trans h0, (World.cell?_of_block (w := w) (a := ⟨b, _, none⟩) hb).trans h1, (World.cell?_of_block (w := w) (a := ⟨b, _, none⟩) hb).trans h2, (World.cell?_of_block (w := w) (a := ⟨b, _, none⟩) hb).trans h3⟩
theorem LawSt.stepI {w wr w' : World} {A B0 B1 B2 N0 lo hi : Nat} {p d P D : Int} {va s0 v1 s2 : Value} {ts S : List Tm} (h : LawSt w wr A B0 B1 B2 N0 p d P D va s0 v1 s2 ts S) (hg : GrewI lo hi wr w') (hA : A < lo) (h0 : B0 < lo) (h1 : B1 < lo) (h2 : hi ≤ B2) (hN : N0 ≤ lo) :
    LawSt w w' A B0 B1 B2 N0 p d P D va s0 v1 s2 ts S := by
  obtain ⟨n1, n2⟩ := h.n0
  exact ⟨rowI h.ax hg (.inl hA), rowI h.b0 hg (.inl h0), rowI h.b1 hg (.inl h1), rowI h.b2 hg (.inr h2), h.sa.keptI hg h.below.size (by omega), h.sm.keptI hg n2 hN, h.below.trans (hg.below (by omega) h.below.size), n1, Nat.le_trans n2 hg.size⟩
theorem OwnPs.blocks {w : World} {base : Nat} {v : Value} {G : List Pm} (h : OwnPs w base v G) : ∃ gb F B, v = .slice (some ⟨gb, 0, none⟩) G.length G.length ∧ base ≤ gb ∧ PolsW w gb G G.length F B ∧ gb < w.heap.size ∧ ∀ q, q < G.length → B q < w.heap.size := by
  obtain ⟨gb, F, B, hv, hg, hW⟩ := h
  exact ⟨gb, F, B, hv, hg, hW, hW.row.lt, fun q hq => (hW.at' q hq hq).2.2.2.2.lt⟩
theorem PolsW.keepRow {w w' : World} {gb : Nat} {G : List Pm} {k : Nat} {F : Nat → Value} {B : Nat → Nat} {row : Option Nat} (h : PolsW w gb G k F B) (hg : w.grownBy w' row) (hr : ∀ g, row = some g → g < gb) : PolsW w' gb G k F B :=
  ⟨h.row.of_block (hg.block gb h.row.lt (fun e => by have := hr gb e.symm; omega)), fun q hq hk => by
    obtain ⟨a, b, c, d, e⟩ := h.at' q hq hk
    exact ⟨a, b, c, d, e.block (hg.block _ e.lt (fun x => by have := hr _ x.symm; omega))⟩, h.asc⟩
/-- The box of a law's polynomial. -/
theorem lbox1 (w : World) (p d : Int) (v : Value) : ∃ W, W = w.alloc (.cells #[.int .i64 p, .int .i64 d, v] 46) ∧ Below w.heap.size w W ∧ (W.heap.size ≤ w.heap.size + 1 ∧ w.heap.size + 1 ≤ W.heap.size) ∧
      W.rowIs w.heap.size 46 3 (polyF p d v) :=
  ⟨_, rfl, box1 _ _, ⟨by simp, by simp⟩, World.rowIs_alloc w #[Value.int .i64 p, .int .i64 d, v] _ _ (fun i hi => by simp at hi; match i, hi with | 0, _ => rfl | 1, _ => rfl | 2, _ => rfl)⟩
end Go.Proofs.Ytphgpadpffigjaa
namespace Go.Proofs.Ytphgpadpffigjaa
open Go.RowKit Go.Sort Go.Maps

theorem expsF_cellsD {w : World} {B : Nat} {x y z : Int} (h : w.rowIs B 75 3 (expsF x y z)) : w.cell? ⟨B, 0, none⟩ = some (.int .u8 x) ∧ w.cell? ⟨B, 1, none⟩ = some (.int .u8 y) ∧ w.cell? ⟨B, 2, none⟩ = some (.int .u8 z) :=
  ⟨h.cell (i := 0) (by omega), h.cell (i := 1) (by omega), h.cell (i := 2) (by omega)⟩
theorem nxE_zero {p : Int} {L : List (List Tm)} {F : List Tm} (h : 0 < L.length) : nxE p L F 0 = prodT p L[0] F := by simp [nxE, List.getD, h]
theorem nxE_mid {p : Int} {L : List (List Tm)} {F : List Tm} {k : Nat} (h0 : 0 < k) (h : k < L.length) : nxE p L F k = plusT p (prodT p L[k] F) (L[k - 1]'(by omega)) := by
  unfold nxE
  rw [if_neg (by omega), if_pos h]
  simp [List.getD, h, show k - 1 < L.length by omega]
theorem nxE_last {p : Int} {L : List (List Tm)} {F : List Tm} {k : Nat} (h0 : 0 < k) (h : k = L.length) : nxE p L F k = plusT p [] (L[k - 1]'(by omega)) := by
  unfold nxE
  rw [if_neg (by omega), if_neg (by omega)]
  simp [List.getD, show k - 1 < L.length by omega]
theorem fmL_step (q c k : Nat) : fmL q c (k + 1) = if dgt q c k = 0 then fmL q c k else putL q (fmL q c k) (ltE k) (dgt q c k) := rfl
/-- The form on its way is a polynomial. -/
theorem fmL_is {q c : Nat} (hq : 2 ≤ q) : ∀ k, k ≤ 3 → ∃ f, IsP q (fmL q c k) f
  | 0, _ => ⟨_, IsP.nil _⟩
  | k + 1, h => by
    obtain ⟨f, hf⟩ := fmL_is (c := c) hq k (by omega)
    rw [fmL_step]
    split
    · exact ⟨f, hf⟩
    · exact ⟨_, hf.put (by omega) (ltE_byte k) _⟩

set_option maxRecDepth 100000 in
set_option maxHeartbeats 32000000 in
theorem sdick (p n i : Int) (w : World) :
    Calls Try.prog 23 #[.int .i64 p, .int .i64 n, .int .i64 i] w (ResO w (dkO p n i)) := by
  obtain ⟨W, hW, hbW, ⟨hWs1, hWs2⟩, rr⟩ := newbox w 0 0 (.slice none 0 0)
  cases hp : primeB p
  · have HO : Hid (dkO p n i = noP 2) := Lib.hid (dkO_no (by simp [dkB, hp]))
    have H0 := Lib.hid (fun w' => sprime_isc p false hp w')
    clear hp
    obtain ⟨⟨r0, r1, r2⟩, z0, z1, z2⟩ := poly3 rr
    obtain ⟨a0, a1, a2, a3, a4⟩ := fill_box (w := w) rr (ownP_nil W w.heap.size) (Nat.le_refl _) hbW (by omega) 0 0
    have A0 := Lib.hid a0
    have A1 := Lib.hid a1
    have A2 := Lib.hid a2
    have A3 := Lib.hid a3
    have A4 := Lib.hid a4
    clear a0 a1 a2 a3 a4
    go_enter Try.func23, Try.ntmps23
    go_wp2_with fail
    rw [← hW]
    clear hW
    ((with_reducible refine (H0.out _).mono ?_); rintro e w0 ⟨rfl, hw0⟩; obtain rfl := hw0.symm)
    go_wp2_with fail
    exact bodyPost_ret (v := .tuple #[.agg #[.int .i64 0, .int .i64 0, .slice none 0 0], .int .i64 2]) (by simp [results, Try.results23, go_sem, A0.out, A1.out, A2.out]) rfl (by rw [HO.out]; exact ⟨_, rfl, A3.out, A4.out⟩)
  have H0 := Lib.hid (fun w' => sprime_isc p true hp w')
  cases hd : (decide (1 ≤ n) && decide (n ≤ 3))
  · have HO : Hid (dkO p n i = noP 2) := Lib.hid (dkO_no (by unfold dkB; rw [hd]; simp))
    have H1 := Lib.hid (fun w' => rin_is n 1 3 w' false hd)
    clear hp hd
    obtain ⟨⟨r0, r1, r2⟩, z0, z1, z2⟩ := poly3 rr
    obtain ⟨a0, a1, a2, a3, a4⟩ := fill_box (w := w) rr (ownP_nil W w.heap.size) (Nat.le_refl _) hbW (by omega) 0 0
    have A0 := Lib.hid a0
    have A1 := Lib.hid a1
    have A2 := Lib.hid a2
    have A3 := Lib.hid a3
    have A4 := Lib.hid a4
    clear a0 a1 a2 a3 a4
    go_enter Try.func23, Try.ntmps23
    go_wp2_with fail
    rw [← hW]
    clear hW
    ((with_reducible refine (H0.out _).mono ?_); rintro e w0 ⟨rfl, hw0⟩; obtain rfl := hw0.symm)
    go_wp2_with fail
    ((with_reducible refine (H1.out _).mono ?_); rintro e w0 ⟨rfl, hw0⟩; obtain rfl := hw0.symm)
    go_wp2_with fail
    exact bodyPost_ret (v := .tuple #[.agg #[.int .i64 0, .int .i64 0, .slice none 0 0], .int .i64 2]) (by simp [results, Try.results23, go_sem, A0.out, A1.out, A2.out]) rfl (by rw [HO.out]; exact ⟨_, rfl, A3.out, A4.out⟩)
  have H1 := Lib.hid (fun w' => rin_is n 1 3 w' true hd)
  have hn13 : 1 ≤ n ∧ n ≤ 3 := by simpa using hd
  have hwn : IntKind.i64.wrap (n - 1) = n - 1 := IntWalk.i64_in _ (by omega)
  cases hi : (decide (0 ≤ i) && decide (i ≤ n - 1))
  · have HO : Hid (dkO p n i = noP 2) := Lib.hid (dkO_no (by
      unfold dkB
      have : (decide (0 ≤ i) && decide (i < n)) = false := by
        rw [← hi]
        congr 1
        exact decide_eq_decide.2 (by omega)
      rw [this]; simp))
    have H2 := Lib.hid (fun w' => rin_is i 0 (n - 1) w' false hi)
    clear hp hd hi
    obtain ⟨⟨r0, r1, r2⟩, z0, z1, z2⟩ := poly3 rr
    obtain ⟨a0, a1, a2, a3, a4⟩ := fill_box (w := w) rr (ownP_nil W w.heap.size) (Nat.le_refl _) hbW (by omega) 0 0
    have A0 := Lib.hid a0
    have A1 := Lib.hid a1
    have A2 := Lib.hid a2
    have A3 := Lib.hid a3
    have A4 := Lib.hid a4
    clear a0 a1 a2 a3 a4
    go_enter Try.func23, Try.ntmps23
    go_wp2_with fail
    rw [← hW]
    clear hW
    ((with_reducible refine (H0.out _).mono ?_); rintro e w0 ⟨rfl, hw0⟩; obtain rfl := hw0.symm)
    go_wp2_with fail
    ((with_reducible refine (H1.out _).mono ?_); rintro e w0 ⟨rfl, hw0⟩; obtain rfl := hw0.symm)
    go_wp2_with fail
    ((with_reducible refine (H2.out _).mono ?_); rintro e w0 ⟨rfl, hw0⟩; obtain rfl := hw0.symm)
    go_wp2_with fail
    exact bodyPost_ret (v := .tuple #[.agg #[.int .i64 0, .int .i64 0, .slice none 0 0], .int .i64 2]) (by simp [results, Try.results23, go_sem, A0.out, A1.out, A2.out]) rfl (by rw [HO.out]; exact ⟨_, rfl, A3.out, A4.out⟩)
  have H2 := Lib.hid (fun w' => rin_is i 0 (n - 1) w' true hi)
  have hii : 0 ≤ i ∧ i ≤ n - 1 := by simpa using hi
  have hB : dkB p n i = true := by unfold dkB; rw [hp, hd, decide_eq_true hii.1, decide_eq_true (show i < n by omega)]; rfl
  clear hp hd hi hn13 hii
  obtain ⟨q, m, j, rfl, rfl, rfl, hq, hq2, hm, hj⟩ := dkB_of hB
  have HPW := Lib.hid (fun (k : Nat) (h : k ≤ 3) => pow_le2197 hq2.2 h)
  have HPS := Lib.hid (fun (k : Nat) => Nat.pow_succ (n := q) (m := k))
  go_enter Try.func23, Try.ntmps23
  go_wp2_with fail
  rw [← hW]
  clear hW
  ((with_reducible refine (H0.out _).mono ?_); rintro e w0 ⟨rfl, hw0⟩; obtain rfl := hw0.symm)
  go_wp2_with fail
  ((with_reducible refine (H1.out _).mono ?_); rintro e w0 ⟨rfl, hw0⟩; obtain rfl := hw0.symm)
  go_wp2_with fail
  ((with_reducible refine (H2.out _).mono ?_); rintro e w0 ⟨rfl, hw0⟩; obtain rfl := hw0.symm)
  go_wp2_with fail
  go_loop [8, 10] (fun a c => ∃ k : Nat, k ≤ m ∧ c = .int .i64 k ∧ a = .int .i64 ((q ^ k : Nat) : Int)) (fun _ c => m - (intOf c).toNat)
  case atStart => exact ⟨0, by omega, rfl, by simp⟩
  case round =>
    obtain ⟨k, hk, rfl, rfl⟩ := hrel
    by_cases hlt : k < m
    · have hlt' : (k : Int) < (m : Int) := by omega
      have h27 := HPW.out (k + 1) (by omega)
      have HM : Hid (IntKind.i64.wrap (((q ^ k : Nat) : Int) * (q : Int)) = ((q ^ (k + 1) : Nat) : Int)) := Lib.hid (by
        rw [HPS.out] at h27 ⊢
        rw [← Int.natCast_mul]
        exact IntWalk.i64_in _ (by omega))
      obtain ⟨Q, hQ⟩ : ∃ Q, ((q ^ (k + 1) : Nat) : Int) = Q := ⟨_, rfl⟩
      obtain ⟨x, hx⟩ : ∃ x, ((q ^ k : Nat) : Int) = x := ⟨_, rfl⟩
      have HQ := Lib.hid hQ
      rw [hQ, hx] at HM
      rw [hx]
      have hmm := HM.out
      clear hQ hx h27 HM
      go_wp2
      go_round
      case rel => exact ⟨k + 1, by omega, by go_num, by rw [HQ.out]⟩
      case measure => simp [intOf]; omega
    · obtain rfl : m = k := by omega
      have h27 := HPW.out m hm.2
      by_cases h13 : q ^ m ≤ 13
      case neg =>
        have HO : Hid (dkO q m j = noP 3) := Lib.hid (dkO_big hB (by simpa using h13))
        obtain ⟨N, hN⟩ : ∃ N, q ^ m = N := ⟨_, rfl⟩
        rw [hN] at h13 h27 ⊢
        have hgt : (13 : Int) < (N : Int) := by omega
        clear hB hN hq
        obtain ⟨⟨r0, r1, r2⟩, z0, z1, z2⟩ := poly3 rr
        obtain ⟨a0, a1, a2, a3, a4⟩ := fill_box (w := w) rr (ownP_nil W w.heap.size) (Nat.le_refl _) hbW (by omega) 0 0
        have A0 := Lib.hid a0
        have A1 := Lib.hid a1
        have A2 := Lib.hid a2
        have A3 := Lib.hid a3
        have A4 := Lib.hid a4
        clear a0 a1 a2 a3 a4
        go_wp2_with fail
        exact bodyPost_ret (v := .tuple #[.agg #[.int .i64 0, .int .i64 0, .slice none 0 0], .int .i64 3]) (by simp [results, Try.results23, go_sem, A0.out, A1.out, A2.out]) rfl (by rw [HO.out]; exact ⟨_, rfl, A3.out, A4.out⟩)
      case pos =>
        have HO := Lib.hid (dkO_yes hB (by simpa using h13))
        simp only [Int.toNat_natCast] at HO
        have HMEM := Lib.hid (prs_mem hq hm h13)
        obtain ⟨N, hN⟩ : ∃ N, q ^ m = N := ⟨_, rfl⟩
        have HLN := Lib.hid hN
        rw [hN] at h13 h27 ⊢
        have hle : ¬ (13 : Int) < (N : Int) := by omega
        clear hB hN hq
        go_wp2_with fail
        go_loop [9, 11] (fun a c => ∃ k : Nat, k ≤ j ∧ c = .int .i64 k ∧ a = .int .i64 ((q ^ k : Nat) : Int)) (fun _ c => j - (intOf c).toNat)
        case atStart => exact ⟨0, by omega, rfl, by simp⟩
        case round =>
          obtain ⟨k, hk, rfl, rfl⟩ := hrel
          by_cases hlt : k < j
          · have hlt' : (k : Int) < (j : Int) := by omega
            have h27 := HPW.out (k + 1) (by omega)
            have HM : Hid (IntKind.i64.wrap (((q ^ k : Nat) : Int) * (q : Int)) = ((q ^ (k + 1) : Nat) : Int)) := Lib.hid (by
              rw [HPS.out] at h27 ⊢
              rw [← Int.natCast_mul]
              exact IntWalk.i64_in _ (by omega))
            obtain ⟨Q, hQ⟩ : ∃ Q, ((q ^ (k + 1) : Nat) : Int) = Q := ⟨_, rfl⟩
            obtain ⟨x, hx⟩ : ∃ x, ((q ^ k : Nat) : Int) = x := ⟨_, rfl⟩
            have HQ := Lib.hid hQ
            rw [hQ, hx] at HM
            rw [hx]
            have hmm := HM.out
            clear hQ hx h27 HM
            go_wp2
            go_round
            case rel => exact ⟨k + 1, by omega, by go_num, by rw [HQ.out]⟩
            case measure => simp [intOf]; omega
          · obtain rfl : j = k := by omega
            have h1j : 1 ≤ q ^ j := Nat.one_le_pow _ _ (by omega)
            have hjm : q ^ j ≤ N := by rw [← HLN.out]; exact Nat.pow_le_pow_right (by omega) (by omega)
            obtain ⟨J, hJ⟩ : ∃ J, q ^ j = J := ⟨_, rfl⟩
            have HLJ := Lib.hid hJ
            rw [hJ] at h1j hjm ⊢
            clear hJ
            have HON := Lib.hid (one_any q m 0 0 0 1 W (by omega) (by omega) ⟨by simp, by simp, by simp⟩ (by decide) (by decide))
            go_wp2_with fail
            ((with_reducible refine HON.out.mono ?_); rintro e w1 ⟨v1, rfl, ho1, hb1⟩)
            obtain ⟨sa1, sc1, rfl⟩ := owns_slice ho1
            obtain ⟨V, hV, hbV, ⟨hVs1, hVs2⟩, st0⟩ : ∃ V, V = w1.alloc (.cells #[.int .i64 (q : Int), .int .i64 (m : Int), .slice sa1 (putL q [] (0, 0, 0) 1).length sc1] 36) ∧ Below w1.heap.size w1 V ∧ (V.heap.size ≤ w1.heap.size + 1 ∧ w1.heap.size + 1 ≤ V.heap.size) ∧ PMk V w.heap.size w1.heap.size q m (.slice (some ⟨w1.heap.size, 0, none⟩) 1 1) [.slice sa1 (putL q [] (0, 0, 0) 1).length sc1] [putL q [] (0, 0, 0) 1] :=
              ⟨_, rfl, box1 _ _, ⟨by simp, by simp⟩, PMk.one (owns_low ho1 hbW.size) (Nat.le_trans hbW.size hb1.size)⟩
            have hw1 : w.heap.size ≤ w1.heap.size := Nat.le_trans hbW.size hb1.size
            have hbV2 := hb1.trans (hbV.mono hb1.size)
            have rrV := rowIs_below rr hbV2 rr.lt
            have hwV := hbW.trans (hbV2.mono hbW.size)
            have H1L : Hid ([putL (q : Int) [] (0, 0, 0) 1] = cfs q m 0) := Lib.hid (by
              show [putL (q : Int) [] (0, 0, 0) 1] = [[(0, 0, 0, 1)]]
              have h1 : ((1 : Int) + 0) % (q : Int) = 1 := by rw [Int.add_zero]; exact Int.emod_eq_of_lt (by omega) (by omega)
              simp only [putL, atL, h1]
              rfl)
            rw [H1L.out] at st0
            clear ho1 hb1 hbV hbV2 HON rr
            go_upto_region 15 with fail
            rw [← hV]
            clear hV
            go_wp2_with fail
            obtain ⟨i0, hi0, hz0, hz1, hz2⟩ := info_parts infoPoly
            go_loopg [12, 13] N (fun g v ci wr => ∃ (c : Nat) (us : List Value) (hi : Nat), c + g = N ∧ ci = .int .i64 c ∧ PMk wr w.heap.size hi q m v us (cfs q m c) ∧ hi ≤ wr.heap.size ∧ w.heap.size ≤ hi ∧ wr.rowIs w.heap.size 36 3 (polyF 0 0 (.slice none 0 0)) ∧ Below w.heap.size w wr)
            case atStart => exact ⟨0, _, _, by omega, rfl, st0, by omega, hw1, rrV, hwV⟩
            case round =>
              clear st0 rrV hwV
              obtain ⟨c, us, hi, hc, rfl, st, hhi, hWhi, hz, hb⟩ := hrel
              obtain ⟨ca, cc, hv⟩ := st.shape
              rw [cfs_len] at hv
              obtain ⟨C1, hC1⟩ : ∃ C1, C1 = c + 1 := ⟨_, rfl⟩
              rw [← hC1] at hv
              subst hv
              have HC1 := Lib.hid hC1
              clear hC1
              by_cases hcN : c < N
              · have hcN' : (c : Int) < (N : Int) := by omega
                obtain ⟨g2, hg2⟩ : ∃ g2, c + 1 + g2 = N := ⟨N - (c + 1), by omega⟩
                have HG2 := Lib.hid (And.intro hg2 (show g2 < gk by omega))
                have HFO := Lib.hid (frm_ok HMEM.out hq2 hm (by rw [HLN.out]; exact hcN))
                have HEM := Lib.hid (empty_any q m wr)
                have hc12 : c ≤ 12 := by omega
                obtain ⟨wo, hwo⟩ : ∃ wo, wo = wr := ⟨_, rfl⟩
                rw [← hwo] at st hhi hz hb HEM
                clear hc hg2
                go_wp2_with fail
                rw [← hwo]
                clear hwo
                ((with_reducible refine HEM.out.mono ?_); rintro e w2 ⟨rfl, ho2, hb2⟩)
                obtain ⟨V2, hV2, hbV2, ⟨h21, h22⟩, rf, hoF⟩ := box_new w2 q m (.slice (some ⟨wo.heap.size + 1, 0, none⟩) 0 0) [] ho2
                have hb2V := hb2.trans (hbV2.mono hb2.size)
                go_upto_region 19 with fail
                rw [← hV2]
                clear hV2 ho2 HEM
                go_wp2_with fail
                go_loopg [15, 16] m (fun g s ti wq => ∃ (k : Nat) (sv : Value), k + g = m ∧ ti = .int .i64 k ∧ s = .int .i64 ((c / q ^ k : Nat) : Int) ∧ OwnP wq wo.heap.size sv (fmL q c k) ∧ wq.rowIs w2.heap.size 36 3 (polyF q m sv) ∧ Below wo.heap.size wo wq)
                case atStart => exact ⟨0, _, by omega, rfl, by simp, hoF, rf, hb2V⟩
                case round =>
                  clear hoF rf hb2V
                  obtain ⟨k, sv, hk', rfl, rfl, hoF, rf, hbo⟩ := hrel
                  have hq0 : ¬ (q : Int) = 0 := by omega
                  have hq1 : ((q : Int) == 0) = false := by simpa using hq0
                  have hqn : ¬ q = 0 := by omega
                  have hqb : (q == 0) = false := by simpa using hqn
                  by_cases hkm : k < m
                  · have hkm' : (k : Int) < (m : Int) := by omega
                    have hk3 : k < 3 := by omega
                    have hk3' : (k : Int) < 3 := by omega
                    obtain ⟨g3, hg3⟩ : ∃ g3, k + 1 + g3 = m := ⟨m - (k + 1), by omega⟩
                    have HI := Lib.hid (And.intro hg3 (show g3 < gk by omega))
                    obtain ⟨ρ, hρ⟩ : ∃ ρ, c / q ^ k = ρ := ⟨_, rfl⟩
                    have hρ27 : ρ ≤ 27 := by rw [← hρ]; exact Nat.le_trans (Nat.div_le_self _ _) (by omega)
                    obtain ⟨x, hx⟩ : ∃ x, dgt q c k = x := ⟨_, rfl⟩
                    have hxx : x = ((ρ % q : Nat) : Int) := by rw [← hx]; unfold dgt; rw [hρ]
                    have hx0 : 0 ≤ x := by omega
                    have hx1 : x ≤ 100000000 := by have := Nat.mod_lt ρ (show q > 0 by omega); omega
                    have hrem : (ρ : Int).tmod (q : Int) = x := by rw [hxx, Int.tmod_eq_emod_of_nonneg (by omega), Int.natCast_emod]
                    obtain ⟨ρ2, hρ2⟩ : ∃ ρ2, ρ / q = ρ2 := ⟨_, rfl⟩
                    have hquo : (ρ : Int).tdiv (q : Int) = (ρ2 : Int) := by rw [← hρ2, Int.tdiv_eq_ediv_of_nonneg (by omega), Int.natCast_ediv]
                    have hρ3 : ρ2 ≤ 27 := by rw [← hρ2]; exact Nat.le_trans (Nat.div_le_self _ _) hρ27
                    have hwq : IntKind.i64.wrap (ρ2 : Int) = (ρ2 : Int) := IntWalk.i64_in _ (by omega)
                    have HNX : Hid (c / q ^ (k + 1) = ρ2) := Lib.hid (by rw [← dgt_next, hρ, hρ2])
                    have HFS := Lib.hid (fmL_step q c k)
                    obtain ⟨ff, hff⟩ := fmL_is (q := q) (c := c) hq2.1 k (by omega)
                    have HFF := Lib.hid hff
                    obtain ⟨F0, hF0⟩ : ∃ F0, fmL q c k = F0 := ⟨_, rfl⟩
                    rw [hx, hF0] at HFS
                    rw [hF0] at HFF hoF
                    obtain ⟨fa, fc, rfl⟩ := owns_slice hoF
                    obtain ⟨W5, hW5, r5, hb5⟩ : ∃ W5, W5 = wr.alloc (.cells #[.int .u8 0, .int .u8 0, .int .u8 0] 75) ∧ W5.rowIs wr.heap.size 75 3 (expsF 0 0 0) ∧ Below wr.heap.size wr W5 := ⟨_, rfl, World.rowIs_alloc wr #[_, _, _] _ _ (fun i hi => by simp at hi; match i, hi with | 0, _ => rfl | 1, _ => rfl | 2, _ => rfl), ebox1 _ _⟩
                    obtain ⟨W6, hW6, r6, hb6⟩ : ∃ W6, W6 = W5.setCell ⟨wr.heap.size, k, none⟩ (.int .u8 1) ∧ W6.rowIs wr.heap.size 75 3 (expsF (ltE k).1 (ltE k).2.1 (ltE k).2.2) ∧ Below wr.heap.size wr W6 := ⟨_, rfl, (r5.set k (.int .u8 1)).congr (fun i hi => by
                      have h2 : k = 0 ∨ k = 1 ∨ k = 2 := by omega
                      have h3 : i = 0 ∨ i = 1 ∨ i = 2 := by omega
                      rcases h2 with rfl | rfl | rfl <;> rcases h3 with rfl | rfl | rfl <;> rfl), hb5.setCell (p := ⟨wr.heap.size, k, none⟩) (Nat.le_refl _) _⟩
                    have c5 := r5.cell (i := k) hk3
                    have z5 := r5.frozen k
                    have hbo6 := hbo.trans (hb6.mono hbo.size)
                    have rf6 := rowIs_below rf hb6 rf.lt
                    have ho6 := owns_belowT hoF hb6
                    have hw26 : wo.heap.size ≤ w2.heap.size := hb2.size
                    obtain ⟨⟨f0, f1, f2⟩, y0, y1, y2⟩ := poly3 rf6
                    obtain ⟨e0, e1, e2⟩ := expsF_cellsD r6
                    obtain ⟨hby, _⟩ := ltE_byte k
                    obtain ⟨⟨l0, l1, l2⟩, hl⟩ : ∃ t, ltE k = t := ⟨_, rfl⟩
                    rw [hl] at hby HFS e0 e1 e2
                    rw [hρ]
                    clear hx hxx hρ hρ2 hk' hg3 hff hF0 hl hoF rf hbo
                    go_upto_region 23 with fail
                    rw [← hW5]
                    clear hW5
                    go_upto_region 24 with fail
                    rw [← hW6]
                    clear hW6 c5 z5 r5 hb5
                    by_cases hx00 : x = 0
                    · have hne : (x != 0) = false := by simpa using hx00
                      have HFE : Hid (fmL q c (k + 1) = F0) := Lib.hid (by rw [HFS.out, if_pos hx00])
                      go_wp2_with fail
                      go_roundg g3
                      case measure => exact HI.out.2
                      case rel => exact ⟨k + 1, _, HI.out.1, by go_num, by rw [HNX.out], by rw [HFE.out]; exact ho6, rf6, hbo6⟩
                    · have hne : (x != 0) = true := by simpa using hx00
                      have HFE : Hid (fmL q c (k + 1) = putL q F0 (l0, l1, l2) x) := Lib.hid (by rw [HFS.out, if_neg hx00])
                      have ho6d : OwnP W6.drew wo.heap.size (.slice fa F0.length fc) F0 := ho6
                      have HPU := Lib.hid (specPut q m _ F0 ff l0 l1 l2 x W6.drew (OwnP.slice ho6d) HFF.out (by omega) (by omega) hby hx0 hx1)
                      have rf6d : W6.drew.rowIs w2.heap.size 36 3 (polyF q m (.slice fa F0.length fc)) := rf6
                      have hbo6d := hbo6.drew
                      clear rf6 ho6 ho6d hbo6
                      go_wp2_with fail
                      refine region_tail 5 (by kernel_rfl) (by kernel_rfl) ?_
                      simp only [List.take_succ_cons, List.take_zero, List.drop_succ_cons, List.drop_zero]
                      repeat still_step
                      refine wpStill_nil ?_
                      go_wp2_with fail
                      ((with_reducible refine HPU.out.mono ?_); rintro e w7 ⟨v7, rfl, ho7, hb7⟩)
                      obtain ⟨ga, gc, rfl⟩ := owns_slice ho7
                      have rf7 := rowIs_below rf6d hb7 rf6d.lt
                      have hbo7 := hbo6d.trans (hb7.mono hbo6d.size)
                      obtain ⟨s1, s2, s3⟩ := box_put (p := (q : Int)) (d := (m : Int)) rf7 (owns_low ho7 hbo6d.size) hbo7 hw26
                      have HS := Lib.hid (And.intro s1 (And.intro s2 s3))
                      clear f0 f1 f2 y0 y1 y2 s1 s2 s3
                      obtain ⟨⟨f0, f1, f2⟩, y0, y1, y2⟩ := poly3 rf7
                      clear rf7 ho7 hb7 hbo7 rf6d hbo6d HPU e0 e1 e2 r6 hb6
                      go_wp2_with fail
                      go_roundg g3
                      case measure => exact HI.out.2
                      case rel => exact ⟨k + 1, _, HI.out.1, by go_num, by rw [HNX.out], by rw [HFE.out]; exact HS.out.2.1, HS.out.1, HS.out.2.2⟩
                  · obtain rfl : m = k := by omega
                    have HFR0 := HFO.out.2.2.1
                    rw [HFR0] at hoF
                    clear HFR0
                    have HVF := Lib.hid HFO.out.1
                    obtain ⟨F, hF⟩ : ∃ F, frm q m c = F := ⟨_, rfl⟩
                    have HFR := Lib.hid hF
                    rw [hF] at hoF HVF
                    obtain ⟨fa, fc, rfl⟩ := owns_slice hoF
                    obtain ⟨X, hX, hbX, st2⟩ : ∃ X, X = wr.alloc (.cells #[] 36) ∧ Below wr.heap.size wr X ∧ PMk X wr.heap.size wr.heap.size q m (.slice (some ⟨wr.heap.size, 0, none⟩) 0 0) [] ((cfs q m (c + 1)).take 0) := ⟨_, rfl, box1 _ _, PMk.zeroB wr q m⟩
                    obtain ⟨wy, hwy⟩ : ∃ wy, wy = wr := ⟨_, rfl⟩
                    rw [← hwy] at hoF rf hbo hX hbX st2
                    have sty := st.below hbo
                    have hzy := rowIs_below hz hbo hz.lt
                    have hby := hb.trans (hbo.mono hb.size)
                    have hyy := hbX.size
                    clear hk' hF
                    go_upto_region 28 with fail
                    rw [← hwy, ← hX]
                    clear hX hwy
                    go_wp2_with fail
                    go_loopg [18, 19] (c + 2) (fun g v ti wq => ∃ (k : Nat) (us2 : List Value) (hi2 : Nat), k + g = c + 2 ∧ ti = .int .i64 k ∧ PMk wq wy.heap.size hi2 q m v us2 ((cfs q m (c + 1)).take k) ∧ hi2 ≤ wq.heap.size ∧ wy.heap.size ≤ hi2 ∧ Below wy.heap.size wy wq)
                    case atStart => exact ⟨0, _, _, by omega, rfl, st2, hyy, Nat.le_refl _, hbX⟩
                    case round =>
                      clear st2 hbX hyy
                      obtain ⟨k, us2, hi2, hk2, rfl, st2, hhi2, hWhi2, hbq⟩ := hrel
                      have stq := sty.below hbq
                      have hfq := rowIs_below rf hbq rf.lt
                      have hoFq := owns_belowT hoF hbq
                      by_cases hkc : k < c + 2
                      · have hkc' : (k : Int) ≤ (C1 : Int) := by have := HC1.out; omega
                        obtain ⟨g4, hg4⟩ : ∃ g4, k + 1 + g4 = c + 2 := ⟨c + 2 - (k + 1), by omega⟩
                        have HG4 := Lib.hid (And.intro hg4 (show g4 < gk by omega))
                        have HEM := Lib.hid (empty_any q m wr)
                        clear hk2 hg4
                        go_wp2_with fail
                        ((with_reducible refine HEM.out.mono ?_); rintro e w3 ⟨rfl, ho3, hb3⟩)
                        obtain ⟨w4, hw4, hb4, ⟨h41, h42⟩, ro4, ho4⟩ := box_new w3 q m (.slice (some ⟨wr.heap.size + 1, 0, none⟩) 0 0) [] ho3
                        have hB4 := hb3.trans (hb4.mono hb3.size)
                        have hw3 : wr.heap.size ≤ w3.heap.size := hb3.size
                        go_upto_region 32 with fail
                        rw [← hw4]
                        clear hw4 ho3 HEM hb3 hb4
                        by_cases hkl : k < C1
                        · have hkl' : (k : Int) < (C1 : Int) := by omega
                          have hkL : k < (cfs q m c).length := by rw [cfs_len, ← HC1.out]; exact hkl
                          obtain ⟨hVX, hFX⟩ := HFO.out.2.2.2 _ (List.getElem_mem hkL)
                          rw [HFR.out] at hFX
                          have HE0 : Hid (k = 0 → nxE q (cfs q m c) F k = prodT q (cfs q m c)[k] F) := Lib.hid (fun h => by subst h; exact nxE_zero hkL)
                          have HEP0 : Hid ((h : 0 < k) → nxE q (cfs q m c) F k = plusT q (prodT q (cfs q m c)[k] F) ((cfs q m c)[k - 1]'(by omega))) := Lib.hid (fun h => nxE_mid h hkL)
                          obtain ⟨b0, u0, hca, _, hb0l, d0, d1, d2, hou⟩ := (stq.below hB4).nthB hkL
                          obtain ⟨XK, hXK⟩ : ∃ XK, (cfs q m c)[k] = XK := ⟨_, rfl⟩
                          rw [hXK] at hVX hFX HE0 HEP0 hou
                          have HTM := Lib.hid (fun v v' w' h h' => stimesT q m v v' XK F w' h h' hVX HVF.out hFX)
                          have hIP := Lib.hid (show ∃ f, IsP q (prodT q XK F) f from by
                            by_cases hx : XK = []
                            · subst hx; exact ⟨_, IsP.nil _⟩
                            · by_cases hy : F = []
                              · subst hy; exact ⟨_, by unfold prodT; rw [prodT_nil2]; exact IsP.nil _⟩
                              · exact ⟨_, prodT_mul hVX HVF.out (fits_of hVX HVF.out (.inr (.inr (by rcases hFX with h | h | h; exact absurd h hx; exact absurd h hy; exact h))))⟩)
                          obtain ⟨ua, uc, rfl⟩ := owns_slice hou
                          subst hca
                          have hf4 := rowIs_below hfq hB4 hfq.lt
                          have hoF4 := owns_belowT hoFq hB4
                          have KK := Lib.hid (fun w' (h : Below w4.heap.size w4 w') => show ((w'.cell? ⟨b0, k * 3, none⟩ = some (.int .i64 (q : Int)) ∧ w'.cell? ⟨b0, k * 3 + 1, none⟩ = some (.int .i64 (m : Int)) ∧ w'.cell? ⟨b0, k * 3 + 2, none⟩ = some (.slice ua XK.length uc)) ∧ (w'.cell? ⟨w2.heap.size, 0, none⟩ = some (.int .i64 (q : Int)) ∧ w'.cell? ⟨w2.heap.size, 1, none⟩ = some (.int .i64 (m : Int)) ∧ w'.cell? ⟨w2.heap.size, 2, none⟩ = some (.slice fa F.length fc))) from
                            ⟨⟨(h.cell (p := ⟨b0, k * 3, none⟩) hb0l).trans d0, (h.cell (p := ⟨b0, k * 3 + 1, none⟩) hb0l).trans d1, (h.cell (p := ⟨b0, k * 3 + 2, none⟩) hb0l).trans d2⟩, (poly3 (rowIs_below hf4 h hf4.lt)).1⟩)
                          have hSX := OwnP.slice hou
                          have hSF := OwnP.slice hoF4
                          have HSX := Lib.hid (fun w' (h : Below w4.heap.size w4 w') => hSX.below h)
                          have HSF := Lib.hid (fun w' (h : Below w4.heap.size w4 w') => hSF.below h)
                          have hq0 : Below w4.heap.size w4 w4.drew := (Below.same _).drew
                          have hqZ : Below w4.heap.size w4 (w4.alloc (.cells #[.int .i64 0, .int .i64 0, .slice none 0 0] 36)).drew := (box1 w4 _).drew
                          have rz0 := zboxD w4
                          obtain ⟨PK, hPK⟩ : ∃ PK, prodT (q : Int) XK F = PK := ⟨_, rfl⟩
                          rw [hPK] at HTM HE0 HEP0 hIP
                          obtain ⟨⟨c0, c1, c2⟩, ⟨c3, c4, c5⟩⟩ := KK.out _ (Below.same w4)
                          have hkk : (0 : Int) ≤ (k : Int) := by omega
                          clear hXK hVX hFX d0 d1 d2 hou hSX hSF hPK hf4 hoF4
                          go_wp2_with fail
                          go_cut [21, 22] (fun s21 s22 wx => ∃ (b : Nat) (v : Value), s21 = .pointer (some ⟨b, 0, none⟩) ∧ s22 = .bool true ∧ w4.heap.size ≤ b ∧ wx.rowIs b 36 3 (polyF q m v) ∧ OwnP wx w4.heap.size v PK ∧ Below w4.heap.size w4 wx)
                          case first =>
                            go_region_held3 (fun w' => ((w'.cell? ⟨b0, k * 3, none⟩ = some (.int .i64 (q : Int)) ∧ w'.cell? ⟨b0, k * 3 + 1, none⟩ = some (.int .i64 (m : Int)) ∧ w'.cell? ⟨b0, k * 3 + 2, none⟩ = some (.slice ua XK.length uc)) ∧ (w'.cell? ⟨w2.heap.size, 0, none⟩ = some (.int .i64 (q : Int)) ∧ w'.cell? ⟨w2.heap.size, 1, none⟩ = some (.int .i64 (m : Int)) ∧ w'.cell? ⟨w2.heap.size, 2, none⟩ = some (.slice fa F.length fc))))
                              (first | with_reducible exact KK.out _ hq0 | with_reducible exact KK.out _ hqZ | with_reducible exact KK.out _ hq7 | with_reducible exact KK.out _ hq8 | with_reducible exact KK.out _ (hq7.trans ((box1 w7 _).mono hq7.size)) | with_reducible exact KK.out _ hq9)
                              ((go_at_call 56; (with_reducible refine (HTM.out _ _ _ (by first | with_reducible exact HSX.out _ hq0 | with_reducible exact HSX.out _ hqZ) (by first | with_reducible exact HSF.out _ hq0 | with_reducible exact HSF.out _ hqZ)).mono ?_); rintro e w7 ⟨v7, rfl, ho7, hb7⟩; (obtain ⟨ta, tc, rfl⟩ := owns_slice ho7); have hq7 : Below w4.heap.size w4 w7 := (by first | exact hq0.trans (hb7.mono hq0.size) | exact hqZ.trans (hb7.mono hqZ.size)); have hq8 : Below w4.heap.size w4 (w7.alloc (.cells #[.int .i64 (q : Int), .int .i64 (m : Int), .slice ta PK.length tc] 36)) := hq7.trans ((box1 w7 _).mono hq7.size); have ho7' : OwnP w7 w4.heap.size (.slice ta PK.length tc) PK := owns_low ho7 (by first | exact hq0.size | exact hqZ.size); (try (have rz7 := rowIs_below rz0 hb7 rz0.lt; obtain ⟨⟨k0, k1, k2⟩, j0, j1, j2⟩ := poly3 rz7; obtain ⟨t1, t2, hq9⟩ := box_put (v := .slice ta PK.length tc) (p := (q : Int)) (d := (m : Int)) rz7 ho7' hq7 (Nat.le_refl _)))))
                            all_goals
                              go_wp2_with fail
                              go_meet
                              first
                                | exact ⟨w7.heap.size, _, rfl, rfl, hq7.size, World.rowIs_alloc w7 #[Value.int .i64 (q : Int), .int .i64 (m : Int), .slice ta PK.length tc] _ _ (fun i hi => by simp at hi; match i, hi with | 0, _ => rfl | 1, _ => rfl | 2, _ => rfl), owns_belowT ho7' (box1 _ _), hq8⟩
                                | exact ⟨w4.heap.size, _, rfl, rfl, Nat.le_refl _, t1, t2, hq9⟩
                          case rest =>
                            clear c0 c1 c2 c3 c4 c5
                            obtain ⟨b, v5, rfl, rfl, hbb, rb, ho5, hB5⟩ := hcut
                            obtain ⟨oa, oc, rfl⟩ := owns_slice ho5
                            have ro5 := rowIs_below ro4 hB5 ro4.lt
                            have hBc := hB4.trans (hB5.mono hB4.size)
                            have hb43 : w3.heap.size ≠ b := by omega
                            obtain ⟨s1, s2, s3⟩ := box_put (v := .slice oa PK.length oc) (p := (q : Int)) (d := (m : Int)) ro5 (owns_low (base' := wr.heap.size) ho5 hB4.size) hBc hw3
                            obtain ⟨⟨e0, e1, e2⟩, y0, y1, y2⟩ := poly3 ro5
                            obtain ⟨⟨m0, m1, m2⟩, _⟩ := poly3 rb
                            go_upto_region 36 with fail
                            obtain ⟨U, hU⟩ : ∃ U, ((wc.setCell ⟨w3.heap.size, 0, none⟩ (.int .i64 (q : Int))).setCell ⟨w3.heap.size, 1, none⟩ (.int .i64 (m : Int))).setCell ⟨w3.heap.size, 2, none⟩ (.slice oa PK.length oc) = U := ⟨_, rfl⟩
                            rw [hU] at s1 s2 s3 ⊢
                            clear hU e0 e1 e2 y0 y1 y2 m0 m1 m2 rb ho5 ro5 hBc
                            obtain ⟨fO, hIO⟩ := hIP.out
                            by_cases hk0 : k = 0
                            · have HEQ : Hid (nxE q (cfs q m c) F k = PK) := Lib.hid (HE0.out hk0)
                              obtain ⟨κ, hκ⟩ : ∃ κ : Int, (k : Int) = κ := ⟨_, rfl⟩
                              have HKK := Lib.hid hκ
                              have hκ0 : ¬ (0 : Int) < κ := by omega
                              have hκw : IntKind.i64.wrap (κ + 1) = κ + 1 := IntWalk.i64_in _ (by omega)
                              rw [hκ]
                              clear hk0 hκ HE0 HEP0
                              go_upto_region 38 with fail
                              obtain ⟨⟨a0, a1, a2⟩, _⟩ := poly3 s1
                              have hln : ((cfs q m (c + 1)).take k).length = k := by rw [List.length_take, cfs_len]; omega
                              have HNT : Hid ((cfs q m (c + 1)).take (k + 1) = (cfs q m (c + 1)).take k ++ [PK]) := Lib.hid (by rw [List.take_succ_eq_append_getElem (by rw [cfs_len]; omega), cfs_at, HFR.out, HEQ.out])
                              obtain ⟨Ls, hLs⟩ : ∃ Ls, (cfs q m (c + 1)).take k = Ls := ⟨_, rfl⟩
                              rw [hLs] at HNT hln st2
                              have HLN := Lib.hid hln
                              obtain ⟨na, nc, hnv⟩ := st2.shape
                              rw [hln] at hnv
                              subst hnv
                              have hb4 : Below wr.heap.size wr (U.alloc (.cells #[.int .i64 (q : Int), .int .i64 (m : Int), (.slice oa PK.length oc)] 36)) := s3.trans ((box1 _ _).mono s3.size)
                              have st4 := st2.below hb4
                              have hk15 : k ≤ 14 := by omega
                              have hmx : k + 1 ≤ maxLen := by unfold maxLen; omega
                              have hmb : (k + 1) * 40 ≤ 140737488355328 := by omega
                              have hbs := Nat.le_trans hbq.size hb4.size
                              have ho4 := owns_low (base' := wr.heap.size) (owns_belowT s2 (box1 U (.cells #[.int .i64 (q : Int), .int .i64 (m : Int), (.slice oa PK.length oc)] 36))) (Nat.le_refl _)
                              have hr4 : (U.alloc (.cells #[.int .i64 (q : Int), .int .i64 (m : Int), (.slice oa PK.length oc)] 36)).ownsRow wy.heap.size 36 3 (.slice na k nc) k (cellsQ q m us2) := by
                                have := st4.rows
                                rwa [HLN.out] at this
                              clear hLs hln
                              go_wp2_with (at_builtin; refine wpList_append_lies _ rfl _ _ 27 rfl wy.heap.size 36 i0 _ 3 40 Try.underlying27 hi0 hz0 hz1 hz2 rfl (by decide) (.slice na k nc) k (cellsQ q m us2) rfl hr4 ⟨U.heap.size, 0, none⟩ 1 1 [.int .i64 q, .int .i64 (m : Int), (.slice oa PK.length oc)] rfl rfl (one_polyD U q (m : Int) _) (by intro y hy; simp at hy; rcases hy with rfl | rfl | rfl <;> rfl) (by omega) hmx hmb hbs _ rfl ?_)
                              intro gg cap3 w9 hown9 hgrow9 hat9 hlt9
                              have stN := st4.more (u := (.slice oa PK.length oc)) (X := PK) (hi2 := (U.alloc (.cells #[.int .i64 (q : Int), .int .i64 (m : Int), (.slice oa PK.length oc)] 36)).heap.size) ho4 hhi2 hbq.size (Nat.le_refl _) (by exact hgrow9) (by rw [HLN.out]; exact hown9)
                              rw [← HNT.out] at stN
                              have h1 := hgrow9.size
                              have hq9 : Below wy.heap.size wy w9 := (hbq.trans (hb4.mono hbq.size)).grown hgrow9 hbs (fun q hq => (World.ownsRow.lt hr4 q hq).1)
                              have HH := Lib.hid (And.intro stN (And.intro h1 (And.intro hbs hq9)))
                              clear hown9 hgrow9 hat9 st4 stN h1 hbs hq9 ho4 hr4 hb4 hlt9 a0 a1 a2
                              go_wp2_with fail
                              go_roundg g4
                              case measure => exact HG4.out.2
                              case rel => exact ⟨k + 1, _, _, HG4.out.1, (by rw [Int.natCast_succ, HKK.out]), HH.out.1, HH.out.2.1, HH.out.2.2.1, HH.out.2.2.2⟩
                            · have ro : U.rowIs w3.heap.size 36 3 (polyF q m (.slice oa PK.length oc)) := s1
                              have hoO := s2
                              have hBU := s3
                              have HEP := Lib.hid (HEP0.out (by omega))
                              clear s1 s2 s3
                              obtain ⟨X1, hX1⟩ : ∃ X1, (cfs q m c)[k - 1]'(by rw [cfs_len]; omega) = X1 := ⟨_, rfl⟩
                              have hVX := (HFO.out.2.2.2 _ (List.getElem_mem (show k - 1 < (cfs q m c).length by rw [cfs_len]; omega))).1
                              rw [hX1] at hVX HEP
                              try clear hkL
                              obtain ⟨b1, u1, hca, _, hb1l, d0, d1, d2, hou1⟩ := (stq.below hBU).nthB (k := k - 1) (by rw [cfs_len]; omega)
                              rw [hX1] at hou1
                              have hSX := OwnP.slice hou1
                              have hSO := OwnP.slice hoO
                              obtain ⟨ua, uc, rfl⟩ := owns_slice hou1
                              first | subst hca | (obtain rfl : b0 = b1 := by simpa using hca)
                              have HPL := Lib.hid (splusT q m _ _ PK X1 fO U.drew (show SliceT U.drew _ PK from hSO) (show SliceT U.drew _ X1 from hSX) hIO hVX)
                              have HEQ : Hid (nxE q (cfs q m c) F k = plusT q PK X1) := HEP
                              have hk0' : (0 : Int) < (k : Int) := by omega
                              have hwk : IntKind.i64.wrap ((k : Int) - 1) = ((k - 1 : Nat) : Int) := by rw [IntWalk.i64_in _ (by omega)]; omega
                              obtain ⟨K1, hK1⟩ : ∃ K1, k - 1 = K1 := ⟨_, rfl⟩
                              have hK1' : (K1 : Int) < (C1 : Int) := by have := HC1.out; omega
                              rw [hK1] at d0 d1 d2 hwk
                              have roD : U.drew.rowIs w3.heap.size 36 3 (polyF q m (.slice oa PK.length oc)) := ro
                              have hBD := hBU.drew
                              obtain ⟨⟨a0, a1, a2⟩, y0, y1, y2⟩ := poly3 ro
                              clear hX1 hK1 hVX hou1 hSX hSO
                              try clear hca
                              go_wp2_with fail
                              refine region_tail 6 (by kernel_rfl) (by kernel_rfl) ?_
                              simp only [List.take_succ_cons, List.take_zero, List.drop_succ_cons, List.drop_zero]
                              repeat still_step
                              refine wpStill_nil ?_
                              go_wp2_with fail
                              ((with_reducible refine HPL.out.mono ?_); rintro e w8 ⟨v8, rfl, ho8, hb8⟩)
                              obtain ⟨pa, pc, rfl⟩ := owns_slice ho8
                              have ro8 := rowIs_below roD hb8 roD.lt
                              have hB8 := hBD.trans (hb8.mono hBD.size)
                              obtain ⟨s1, s2, s3⟩ := box_put (p := (q : Int)) (d := (m : Int)) ro8 (owns_low (base' := wr.heap.size) ho8 hBD.size) hB8 hw3
                              clear a0 a1 a2 y0 y1 y2
                              obtain ⟨⟨a0, a1, a2⟩, y0, y1, y2⟩ := poly3 ro8
                              clear d0 d1 d2 HPL ho8 hb8 hB8 roD hBD
                              obtain ⟨P8, hP8⟩ : ∃ P8, plusT (q : Int) PK X1 = P8 := ⟨_, rfl⟩
                              rw [hP8] at HEQ s1 s2 s3
                              simp only [hP8]
                              clear hP8
                              go_upto_region 38 with fail
                              obtain ⟨V8, hV8⟩ : ∃ V8, ((w8.setCell ⟨w3.heap.size, 0, none⟩ (.int .i64 (q : Int))).setCell ⟨w3.heap.size, 1, none⟩ (.int .i64 (m : Int))).setCell ⟨w3.heap.size, 2, none⟩ (.slice pa P8.length pc) = V8 := ⟨_, rfl⟩
                              rw [hV8] at s1 s2 s3 ⊢
                              clear hV8 a0 a1 a2 y0 y1 y2 ro8
                              obtain ⟨⟨a0, a1, a2⟩, _⟩ := poly3 s1
                              have hln : ((cfs q m (c + 1)).take k).length = k := by rw [List.length_take, cfs_len]; omega
                              have HNT : Hid ((cfs q m (c + 1)).take (k + 1) = (cfs q m (c + 1)).take k ++ [P8]) := Lib.hid (by rw [List.take_succ_eq_append_getElem (by rw [cfs_len]; omega), cfs_at, HFR.out, HEQ.out])
                              obtain ⟨Ls, hLs⟩ : ∃ Ls, (cfs q m (c + 1)).take k = Ls := ⟨_, rfl⟩
                              rw [hLs] at HNT hln st2
                              have HLN := Lib.hid hln
                              obtain ⟨na, nc, hnv⟩ := st2.shape
                              rw [hln] at hnv
                              subst hnv
                              have hb4 : Below wr.heap.size wr (V8.alloc (.cells #[.int .i64 (q : Int), .int .i64 (m : Int), (.slice pa P8.length pc)] 36)) := s3.trans ((box1 _ _).mono s3.size)
                              have st4 := st2.below hb4
                              have hk15 : k ≤ 14 := by omega
                              have hmx : k + 1 ≤ maxLen := by unfold maxLen; omega
                              have hmb : (k + 1) * 40 ≤ 140737488355328 := by omega
                              have hbs := Nat.le_trans hbq.size hb4.size
                              have ho4 := owns_low (base' := wr.heap.size) (owns_belowT s2 (box1 V8 (.cells #[.int .i64 (q : Int), .int .i64 (m : Int), (.slice pa P8.length pc)] 36))) (Nat.le_refl _)
                              have hr4 : (V8.alloc (.cells #[.int .i64 (q : Int), .int .i64 (m : Int), (.slice pa P8.length pc)] 36)).ownsRow wy.heap.size 36 3 (.slice na k nc) k (cellsQ q m us2) := by
                                have := st4.rows
                                rwa [HLN.out] at this
                              clear hLs hln
                              go_wp2_with (at_builtin; refine wpList_append_lies _ rfl _ _ 27 rfl wy.heap.size 36 i0 _ 3 40 Try.underlying27 hi0 hz0 hz1 hz2 rfl (by decide) (.slice na k nc) k (cellsQ q m us2) rfl hr4 ⟨V8.heap.size, 0, none⟩ 1 1 [.int .i64 q, .int .i64 (m : Int), (.slice pa P8.length pc)] rfl rfl (one_polyD V8 q (m : Int) _) (by intro y hy; simp at hy; rcases hy with rfl | rfl | rfl <;> rfl) (by omega) hmx hmb hbs _ rfl ?_)
                              intro gg cap3 w9 hown9 hgrow9 hat9 hlt9
                              have stN := st4.more (u := (.slice pa P8.length pc)) (X := P8) (hi2 := (V8.alloc (.cells #[.int .i64 (q : Int), .int .i64 (m : Int), (.slice pa P8.length pc)] 36)).heap.size) ho4 hhi2 hbq.size (Nat.le_refl _) (by exact hgrow9) (by rw [HLN.out]; exact hown9)
                              rw [← HNT.out] at stN
                              have h1 := hgrow9.size
                              have hq9 : Below wy.heap.size wy w9 := (hbq.trans (hb4.mono hbq.size)).grown hgrow9 hbs (fun q hq => (World.ownsRow.lt hr4 q hq).1)
                              have HH := Lib.hid (And.intro stN (And.intro h1 (And.intro hbs hq9)))
                              clear hown9 hgrow9 hat9 st4 stN h1 hbs hq9 ho4 hr4 hb4 hlt9 a0 a1 a2
                              go_wp2_with fail
                              go_roundg g4
                              case measure => exact HG4.out.2
                              case rel => exact ⟨k + 1, _, _, HG4.out.1, by go_num, HH.out.1, HH.out.2.1, HH.out.2.2.1, HH.out.2.2.2⟩
                        · have hkl' : ¬ (k : Int) < (C1 : Int) := by omega
                          have hkC : k = c + 1 := by have := HC1.out; omega
                          have hk0 : 0 < k := by omega
                          have hE : ∀ h, nxE q (cfs q m c) F k = plusT q [] ((cfs q m c)[k - 1]'h) := fun h => nxE_last hk0 (by rw [cfs_len]; exact hkC)
                          have hkle : k ≤ c + 1 := by omega
                          clear hkC
                          have HEP := Lib.hid (hE (by rw [cfs_len]; omega))
                          clear hE
                          obtain ⟨U, hU⟩ : ∃ U, w4 = U := ⟨_, rfl⟩
                          have ro : U.rowIs w3.heap.size 36 3 (polyF q m (.slice (some ⟨wr.heap.size + 1, 0, none⟩) 0 0)) := by rw [← hU]; exact ro4
                          have hoO : OwnP U wr.heap.size (.slice (some ⟨wr.heap.size + 1, 0, none⟩) 0 0) [] := by rw [← hU]; exact ho4
                          have hBU : Below wr.heap.size wr U := by rw [← hU]; exact hB4
                          have hIO : IsP (q : Int) ([] : List Tm) (fun _ => 0) := IsP.nil _
                          rw [hU]
                          clear hU
                          obtain ⟨X1, hX1⟩ : ∃ X1, (cfs q m c)[k - 1]'(by rw [cfs_len]; omega) = X1 := ⟨_, rfl⟩
                          have hVX := (HFO.out.2.2.2 _ (List.getElem_mem (show k - 1 < (cfs q m c).length by rw [cfs_len]; omega))).1
                          rw [hX1] at hVX HEP
                          try clear hkL
                          obtain ⟨b1, u1, hca, _, hb1l, d0, d1, d2, hou1⟩ := (stq.below hBU).nthB (k := k - 1) (by rw [cfs_len]; omega)
                          rw [hX1] at hou1
                          have hSX := OwnP.slice hou1
                          have hSO := OwnP.slice hoO
                          obtain ⟨ua, uc, rfl⟩ := owns_slice hou1
                          first | subst hca | (obtain rfl : b0 = b1 := by simpa using hca)
                          have HPL := Lib.hid (splusT q m _ _ [] X1 (fun _ => 0) U.drew (show SliceT U.drew _ ([] : List Tm) from hSO) (show SliceT U.drew _ X1 from hSX) hIO hVX)
                          have HEQ : Hid (nxE q (cfs q m c) F k = plusT q [] X1) := HEP
                          have hk0' : (0 : Int) < (k : Int) := by omega
                          have hwk : IntKind.i64.wrap ((k : Int) - 1) = ((k - 1 : Nat) : Int) := by rw [IntWalk.i64_in _ (by omega)]; omega
                          obtain ⟨K1, hK1⟩ : ∃ K1, k - 1 = K1 := ⟨_, rfl⟩
                          have hK1' : (K1 : Int) < (C1 : Int) := by have := HC1.out; omega
                          rw [hK1] at d0 d1 d2 hwk
                          have roD : U.drew.rowIs w3.heap.size 36 3 (polyF q m (.slice (some ⟨wr.heap.size + 1, 0, none⟩) 0 0)) := ro
                          have hBD := hBU.drew
                          obtain ⟨⟨a0, a1, a2⟩, y0, y1, y2⟩ := poly3 ro
                          clear hX1 hK1 hVX hou1 hSX hSO
                          try clear hca
                          go_wp2_with fail
                          refine region_tail 6 (by kernel_rfl) (by kernel_rfl) ?_
                          simp only [List.take_succ_cons, List.take_zero, List.drop_succ_cons, List.drop_zero]
                          repeat still_step
                          refine wpStill_nil ?_
                          go_wp2_with fail
                          ((with_reducible refine HPL.out.mono ?_); rintro e w8 ⟨v8, rfl, ho8, hb8⟩)
                          obtain ⟨pa, pc, rfl⟩ := owns_slice ho8
                          have ro8 := rowIs_below roD hb8 roD.lt
                          have hB8 := hBD.trans (hb8.mono hBD.size)
                          obtain ⟨s1, s2, s3⟩ := box_put (p := (q : Int)) (d := (m : Int)) ro8 (owns_low (base' := wr.heap.size) ho8 hBD.size) hB8 hw3
                          clear a0 a1 a2 y0 y1 y2
                          obtain ⟨⟨a0, a1, a2⟩, y0, y1, y2⟩ := poly3 ro8
                          clear d0 d1 d2 HPL ho8 hb8 hB8 roD hBD
                          obtain ⟨P8, hP8⟩ : ∃ P8, plusT (q : Int) [] X1 = P8 := ⟨_, rfl⟩
                          rw [hP8] at HEQ s1 s2 s3
                          simp only [hP8]
                          clear hP8
                          go_upto_region 38 with fail
                          obtain ⟨V8, hV8⟩ : ∃ V8, ((w8.setCell ⟨w3.heap.size, 0, none⟩ (.int .i64 (q : Int))).setCell ⟨w3.heap.size, 1, none⟩ (.int .i64 (m : Int))).setCell ⟨w3.heap.size, 2, none⟩ (.slice pa P8.length pc) = V8 := ⟨_, rfl⟩
                          rw [hV8] at s1 s2 s3 ⊢
                          clear hV8 a0 a1 a2 y0 y1 y2 ro8
                          obtain ⟨⟨a0, a1, a2⟩, _⟩ := poly3 s1
                          have hln : ((cfs q m (c + 1)).take k).length = k := by rw [List.length_take, cfs_len]; omega
                          have HNT : Hid ((cfs q m (c + 1)).take (k + 1) = (cfs q m (c + 1)).take k ++ [P8]) := Lib.hid (by rw [List.take_succ_eq_append_getElem (by rw [cfs_len]; omega), cfs_at, HFR.out, HEQ.out])
                          obtain ⟨Ls, hLs⟩ : ∃ Ls, (cfs q m (c + 1)).take k = Ls := ⟨_, rfl⟩
                          rw [hLs] at HNT hln st2
                          have HLN := Lib.hid hln
                          obtain ⟨na, nc, hnv⟩ := st2.shape
                          rw [hln] at hnv
                          subst hnv
                          have hb4 : Below wr.heap.size wr (V8.alloc (.cells #[.int .i64 (q : Int), .int .i64 (m : Int), (.slice pa P8.length pc)] 36)) := s3.trans ((box1 _ _).mono s3.size)
                          have st4 := st2.below hb4
                          have hk15 : k ≤ 14 := by omega
                          have hmx : k + 1 ≤ maxLen := by unfold maxLen; omega
                          have hmb : (k + 1) * 40 ≤ 140737488355328 := by omega
                          have hbs := Nat.le_trans hbq.size hb4.size
                          have ho4 := owns_low (base' := wr.heap.size) (owns_belowT s2 (box1 V8 (.cells #[.int .i64 (q : Int), .int .i64 (m : Int), (.slice pa P8.length pc)] 36))) (Nat.le_refl _)
                          have hr4 : (V8.alloc (.cells #[.int .i64 (q : Int), .int .i64 (m : Int), (.slice pa P8.length pc)] 36)).ownsRow wy.heap.size 36 3 (.slice na k nc) k (cellsQ q m us2) := by
                            have := st4.rows
                            rwa [HLN.out] at this
                          clear hLs hln
                          go_wp2_with (at_builtin; refine wpList_append_lies _ rfl _ _ 27 rfl wy.heap.size 36 i0 _ 3 40 Try.underlying27 hi0 hz0 hz1 hz2 rfl (by decide) (.slice na k nc) k (cellsQ q m us2) rfl hr4 ⟨V8.heap.size, 0, none⟩ 1 1 [.int .i64 q, .int .i64 (m : Int), (.slice pa P8.length pc)] rfl rfl (one_polyD V8 q (m : Int) _) (by intro y hy; simp at hy; rcases hy with rfl | rfl | rfl <;> rfl) (by omega) hmx hmb hbs _ rfl ?_)
                          intro gg cap3 w9 hown9 hgrow9 hat9 hlt9
                          have stN := st4.more (u := (.slice pa P8.length pc)) (X := P8) (hi2 := (V8.alloc (.cells #[.int .i64 (q : Int), .int .i64 (m : Int), (.slice pa P8.length pc)] 36)).heap.size) ho4 hhi2 hbq.size (Nat.le_refl _) (by exact hgrow9) (by rw [HLN.out]; exact hown9)
                          rw [← HNT.out] at stN
                          have h1 := hgrow9.size
                          have hq9 : Below wy.heap.size wy w9 := (hbq.trans (hb4.mono hbq.size)).grown hgrow9 hbs (fun q hq => (World.ownsRow.lt hr4 q hq).1)
                          have HH := Lib.hid (And.intro stN (And.intro h1 (And.intro hbs hq9)))
                          clear hown9 hgrow9 hat9 st4 stN h1 hbs hq9 ho4 hr4 hb4 hlt9 a0 a1 a2
                          go_wp2_with fail
                          go_roundg g4
                          case measure => exact HG4.out.2
                          case rel => exact ⟨k + 1, _, _, HG4.out.1, by go_num, HH.out.1, HH.out.2.1, HH.out.2.2.1, HH.out.2.2.2⟩
                      · obtain rfl : k = c + 2 := by omega
                        have hkc' : ¬ ((c + 2 : Nat) : Int) ≤ (C1 : Int) := by have := HC1.out; omega
                        have hkc2 : ¬ (c : Int) + 2 ≤ (C1 : Int) := by have := HC1.out; omega
                        rw [List.take_of_length_le (by rw [cfs_len]; omega)] at st2
                        have HH := Lib.hid (And.intro (st2.low (base' := w.heap.size) hby.size) (And.intro hhi2 (And.intro (Nat.le_trans hby.size hWhi2) (And.intro (rowIs_below hzy hbq hzy.lt) (hby.trans (hbq.mono hby.size))))))
                        clear st2 stq hfq hoFq
                        go_wp2_with fail
                        go_roundg g2
                        case measure => exact HG2.out.2
                        case rel => exact ⟨c + 1, _, _, HG2.out.1, by go_num, HH.out.1, HH.out.2.1, HH.out.2.2.1, HH.out.2.2.2.1, HH.out.2.2.2.2⟩

              · obtain rfl : N = c := by omega
                obtain ⟨b0, u0, hca, _, hb0l, d0, d1, d2, hou⟩ := st.nthB (k := J) (by rw [cfs_len]; omega)
                have HDL : Hid ((cfs q m N)[J]'(by rw [cfs_len]; omega) = dkL q m j) := Lib.hid (by unfold dkL; rw [HLN.out, HLJ.out]; simp [List.getD, show J < (cfs q m N).length by rw [cfs_len]; omega])
                rw [HDL.out] at hou
                obtain ⟨S, hS⟩ : ∃ S, dkL q m j = S := ⟨_, rfl⟩
                rw [hS] at hou HO
                obtain ⟨ua, uc, rfl⟩ := owns_slice hou
                subst hca
                have hJC : (J : Int) < (C1 : Int) := by have := HC1.out; omega
                obtain ⟨⟨r0, r1, r2⟩, z0, z1, z2⟩ := poly3 hz
                obtain ⟨a0, a1, a2, a3, a4⟩ := fill_box hz hou (Nat.le_refl _) hb (Nat.le_refl _) q m
                have A0 := Lib.hid a0
                have A1 := Lib.hid a1
                have A2 := Lib.hid a2
                have A3 := Lib.hid a3
                have A4 := Lib.hid a4
                clear a0 a1 a2 a3 a4 hou hz hb st hS HDL
                go_wp2_with fail
                exact bodyPost_ret (v := .tuple #[.agg #[.int .i64 q, .int .i64 m, .slice ua S.length uc], .int .i64 0]) (by simp [results, Try.results23, go_sem, A0.out, A1.out, A2.out]) rfl (by rw [HO.out]; exact ⟨_, rfl, A3.out, A4.out⟩)


end Go.Proofs.Ytphgpadpffigjaa
namespace Go.Proofs.Ytphgpadpffigjaa
open Go.RowKit Go.Sort

set_option maxHeartbeats 1000000 in
theorem neqI_some (g o cap g' o' cap' : Nat) (l : List Int) (w : World) (hl : l.length ≤ 1048576) (hT : Cs w g o l) (hT' : Cs w g' o' l) :
    Calls Try.prog 38 #[.slice (some ⟨g, o, none⟩) l.length cap, .slice (some ⟨g', o', none⟩) l.length cap'] w fun e w' => e = .returned (.bool true) ∧ Below w.heap.size w w' := by
  have hnn : ((l.length : Int) != (l.length : Int)) = false := by simp
  go_enter Try.func38, Try.ntmps38
  go_wp2
  go_loopw [5] (fun i wr => ∃ k : Nat, k ≤ l.length ∧ i = .int .i64 k ∧ ∃ n, wr = w.drewN n) (fun i _ => l.length - (intOf i).toNat)
  case atStart => exact ⟨0, by omega, rfl, 0, rfl⟩
  case round =>
    obtain ⟨k, hk, rfl, n, rfl⟩ := hrel
    by_cases hlt : k < l.length
    · have hlt' : (k : Int) < (l.length : Int) := by omega
      have a0 := hT k hlt
      have b0 := hT' k hlt
      have hq : (l[k] != l[k]) = false := by simp
      go_wp2
      go_quiet (fail)
      go_wp2
      go_roundw
      case rel => exact ⟨k + 1, by omega, by go_num, _, rfl⟩
      case measure => simp [intOf]; omega
    · obtain rfl : k = l.length := by omega
      go_wp2
      go_ret
      exact ⟨rfl, below_drewN (Below.refl _ _) n⟩

theorem neqI_zero (a a' : Option Addr) (c c' : Nat) (w : World) :
    Calls Try.prog 38 #[.slice a 0 c, .slice a' 0 c'] w fun e w' => e = .returned (.bool true) ∧ Below w.heap.size w w' := by
  go_enter Try.func38, Try.ntmps38
  go_wp2
  refine wp_loop_rounds 1 ?_
  rw [rounds_succ]
  go_wp2
  go_ret
  exact ⟨rfl, Below.refl _ _⟩

theorem neqI_same (v v' : Value) (l : List Int) (w : World) (hl : l.length ≤ 1048576) (hS : Sl w v l) (hS' : Sl w v' l) :
    Calls Try.prog 38 #[v, v'] w fun e w' => e = .returned (.bool true) ∧ Below w.heap.size w w' := by
  obtain ⟨a, cap, rfl, h⟩ := hS
  obtain ⟨a', cap', rfl, h'⟩ := hS'
  cases l with
  | nil => exact neqI_zero _ _ _ _ _
  | cons t r =>
    rcases h with h | ⟨b, off, rfl, hlt, hT⟩
    · cases h
    · rcases h' with h' | ⟨b', off', rfl, hlt', hT'⟩
      · cases h'
      · exact neqI_some b off cap b' off' cap' _ w hl hT hT'
end Go.Proofs.Ytphgpadpffigjaa
namespace Go.Proofs.Ytphgpadpffigjaa
open Go.RowKit Go.Sort

set_option maxHeartbeats 1000000 in
theorem nmarkI_own {base : Nat} {v : Value} {l : List Int} (k0 : Int) (w : World) (h : nOwnI w base v l) (hn : l.length ≤ 1048576) (h0 : 0 ≤ k0) (h1 : k0 ≤ 1000000000) :
    Calls Try.prog 40 #[v, .int .i64 k0] w fun e w' => e = .returned (.int .i64 (k0 + l.length)) ∧ w.grownBy w' v.ownBlock := by
  obtain ⟨g, f, rfl, hg, hr, hf⟩ := h
  clear hf
  simp only [Value.ownBlock]
  generalize l.length = n at *
  go_enter Try.func40, Try.ntmps40
  go_wp2
  go_loopw [1, 5] (fun m i wr => ∃ k : Nat, k ≤ n ∧ i = .int .i64 k ∧ m = .int .i64 (k0 + k) ∧ (∃ f', wr.rowIs g 2 n f') ∧ w.grownBy wr (some g)) (fun _ i _ => n - (intOf i).toNat)
  case atStart => exact ⟨0, by omega, rfl, by simp, ⟨f, hr⟩, World.grownBy.refl _ _⟩
  case round =>
    obtain ⟨k, hk, rfl, rfl, ⟨f', hr'⟩, hg'⟩ := hrel
    by_cases hlt : k < n
    · have hlt' : (k : Int) < (n : Int) := by omega
      have c0 := hr'.cell hlt
      have z0 := hr'.frozen k
      have hr2 := hr'.set k (.int .i64 (k0 + k))
      have hg2 := ngrown_setT hg' k (.int .i64 (k0 + k))
      clear hr' hg' hr
      go_wp2
      go_roundw
      case rel => exact ⟨k + 1, by omega, by go_num, by go_num, ⟨_, hr2⟩, hg2⟩
      case measure => simp [intOf]; omega
    · obtain rfl : k = n := by omega
      go_wp2
      go_ret
      exact ⟨rfl, hg'⟩

set_option maxHeartbeats 1000000 in
theorem rmark (base : Nat) (e : Row3) (k0 : Int) (w : World) (h : RowAt w base e) (hn : e.2.1.length ≤ 1048576) (h0 : 0 ≤ k0) (h1 : k0 ≤ 1000000000) :
    Calls Try.prog 40 #[e.1, .int .i64 k0] w fun r w' => r = .returned (.int .i64 (k0 + e.2.1.length)) ∧ RowAt w' base (e.1, seqL k0 e.2.1.length, e.2.2) ∧ w.grownBy w' (some e.2.2) := by
  obtain ⟨u, l, g⟩ := e
  obtain ⟨cap, N, f, hu, hg, hN, hr, hf⟩ := h
  simp only at hu hg hN hr hf hn ⊢
  subst hu
  clear hf
  have hsl := seqL_len k0 l.length
  suffices hh : Calls Try.prog 40 #[.slice (some ⟨g, 0, none⟩) l.length cap, .int .i64 k0] w fun r w' => r = .returned (.int .i64 (k0 + l.length)) ∧ (∃ f', w'.rowIs g 2 N f' ∧ ∀ q, q < l.length → f' q = .int .i64 (k0 + (q : Int))) ∧ w.grownBy w' (some g) by
    refine hh.mono fun r w' ⟨hr', ⟨f', hrow, hf'⟩, hgr⟩ => ⟨hr', ⟨cap, N, f', by simp only [hsl], hg, by simp only [hsl]; exact hN, hrow, fun q hq => ?_⟩, hgr⟩
    rw [hf' q (by simpa [hsl] using hq)]
    simp only [seqL_at]
  clear hsl
  generalize l.length = n at *
  go_enter Try.func40, Try.ntmps40
  go_wp2
  go_loopw [1, 5] (fun m i wr => ∃ k : Nat, k ≤ n ∧ i = .int .i64 k ∧ m = .int .i64 (k0 + k) ∧ (∃ f', wr.rowIs g 2 N f' ∧ Hid (∀ q, q < k → f' q = .int .i64 (k0 + (q : Int)))) ∧ w.grownBy wr (some g)) (fun _ i _ => n - (intOf i).toNat)
  case atStart => exact ⟨0, by omega, rfl, by simp, ⟨f, hr, Lib.hid (fun q h => by omega)⟩, World.grownBy.refl _ _⟩
  case round =>
    obtain ⟨k, hk, rfl, rfl, ⟨f', hr', HF⟩, hg'⟩ := hrel
    by_cases hlt : k < n
    · have hlt' : (k : Int) < (n : Int) := by omega
      have c0 := hr'.cell (i := k) (by omega)
      have z0 := hr'.frozen k
      have hr2 := hr'.set k (.int .i64 (k0 + k))
      have hg2 := ngrown_setT hg' k (.int .i64 (k0 + k))
      have HN : Hid (∀ q, q < k + 1 → (fun j => if j = k then Value.int .i64 (k0 + (k : Int)) else f' j) q = .int .i64 (k0 + (q : Int))) := Lib.hid (fun q hq => by
        by_cases e : q = k
        · subst e; simp
        · simp only [if_neg e]; exact HF.out q (by omega))
      clear hr' hg' hr HF
      go_wp2
      go_roundw
      case rel => exact ⟨k + 1, by omega, by go_num, by go_num, ⟨_, hr2, HN⟩, hg2⟩
      case measure => simp [intOf]; omega
    · obtain rfl : k = n := by omega
      have HN := HF.out
      go_wp2
      go_ret
      exact ⟨rfl, ⟨f', hr', HN⟩, hg'⟩
set_option maxHeartbeats 1000000 in
theorem rheld (u : Value) (n : Nat) (k0 : Int) (w : World) (hS : Sl w u (seqL k0 n)) (hn : n ≤ 1048576) (h0 : 0 ≤ k0) (h1 : k0 ≤ 1000000000) :
    Calls Try.prog 41 #[u, .int .i64 k0] w fun r w' => r = .returned (.int .i64 (k0 + n)) ∧ w' = w := by
  obtain ⟨a, cap, rfl, hc⟩ := hS
  have HSQ := Lib.hid (seqL_at k0 n)
  have hsl := seqL_len k0 n
  have HL := Lib.hid hsl
  rw [hsl]
  clear hsl
  go_enter Try.func41, Try.ntmps41
  go_wp2_with fail
  go_loop [1, 5] (fun m i => ∃ k : Nat, k ≤ n ∧ i = .int .i64 k ∧ m = .int .i64 (k0 + k)) (fun _ i => n - (intOf i).toNat)
  case atStart => exact ⟨0, by omega, rfl, by simp⟩
  case round =>
    obtain ⟨k, hk, rfl, rfl⟩ := hrel
    by_cases hlt : k < n
    · have hlt' : (k : Int) < (n : Int) := by omega
      have hks : k < (seqL k0 n).length := by rw [HL.out]; exact hlt
      obtain ⟨b, off, rfl, hbb, hT⟩ : ∃ b off, a = some ⟨b, off, none⟩ ∧ b < w.heap.size ∧ Cs w b off (seqL k0 n) := by
        rcases hc with h | h
        · rw [h] at hks; simp at hks
        · exact h
      have c0 := hT k hks
      rw [HSQ.out k hks] at c0
      have hne : (k0 + (k : Int) != k0 + (k : Int)) = false := by simp
      clear hks
      go_wp2_with fail
      go_round
      case rel => exact ⟨k + 1, by omega, by go_num, by go_num⟩
      case measure => simp [intOf]; omega
    · obtain rfl : k = n := by omega
      go_wp2_with fail
      go_ret
      exact ⟨rfl, rfl⟩


theorem rmark_none (a : Option Addr) (c : Nat) (k0 : Int) (w : World) :
    Calls Try.prog 40 #[.slice a 0 c, .int .i64 k0] w fun r w' => r = .returned (.int .i64 k0) ∧ w' = w := by
  go_enter Try.func40, Try.ntmps40
  go_wp2
  refine wp_loop_rounds 1 ?_
  rw [rounds_succ]
  go_wp2
  go_ret
  exact ⟨rfl, rfl⟩
theorem OwnV.mark {w : World} {base : Nat} {v : Value} {S : List Int} (h : OwnV w base v S) (hl : S.length ≤ 1048576) (hbw : base ≤ w.heap.size) :
    Calls Try.prog 40 #[v, .int .i64 1] w fun r w' => r = .returned (.int .i64 (1 + (S.length : Int))) ∧ OwnV w' base v (seqL 1 S.length) ∧ Below base w w' := by
  rcases h with ⟨rfl, a, c, rfl⟩ | ⟨b, h⟩
  · exact (rmark_none a c 1 w).mono fun r w' ⟨hr, hw⟩ => ⟨by simpa using hr, .inl ⟨by simp [seqL], a, c, rfl⟩, by rw [hw]; exact ⟨rfl, rfl, rfl, Nat.le_refl _, fun _ _ => rfl⟩⟩
  · refine (rmark base (v, S, b) 1 w h hl (by decide) (by decide)).mono fun r w' ⟨hr, hrow, hg⟩ => ⟨hr, .inr ⟨b, hrow⟩, ?_⟩
    obtain ⟨_, _, _, _, hb, _⟩ := h
    exact ⟨hg.os, hg.tape, hg.output, hg.size, fun k hk => hg.block k (by omega) (fun e => by simp at e hb; omega)⟩
theorem OwnV.held {w : World} {base : Nat} {v : Value} {n : Nat} (h : OwnV w base v (seqL 1 n)) (hl : n ≤ 1048576) :
    Calls Try.prog 41 #[v, .int .i64 1] w fun r w' => r = .returned (.int .i64 (1 + (n : Int))) ∧ w' = w :=
  rheld v n 1 w h.sl hl (by decide) (by decide)
end Go.Proofs.Ytphgpadpffigjaa
namespace Go.Proofs.Ytphgpadpffigjaa
open Go.RowKit Go.Sort Go.Maps

/-- The boxes of a law: the model's result's (B0), the program's result's (B2). -/
structure LawR (w wr : World) (B0 B2 N0 : Nat) (P D : Int) (s0 s2 : Value) (S : List Tm) : Prop where
  b0 : wr.rowIs B0 36 3 (polyF P D s0)
  b2 : wr.rowIs B2 36 3 (polyF P D s2)
  sm : SliceB wr N0 s0 S
  below : Below w.heap.size w wr
  n0 : w.heap.size ≤ N0 ∧ N0 ≤ wr.heap.size
theorem LawR.step {w wr w' : World} {B0 B2 N0 : Nat} {P D : Int} {s0 s2 : Value} {S : List Tm} {row : Option Nat} (h : LawR w wr B0 B2 N0 P D s0 s2 S) (hg : wr.grownBy w' row) (hr : ∀ g, row = some g → N0 ≤ g ∧ ∃ N f, wr.rowIs g 92 N f) :
    LawR w w' B0 B2 N0 P D s0 s2 S := by
  have hsz := hg.size
  obtain ⟨n1, n2⟩ := h.n0
  have key : ∀ b t f, wr.rowIs b t 3 f → t ≠ 92 → w'.rowIs b t 3 f := fun b t f hb ht => hb.of_block (hg.block b hb.lt fun e => by
    obtain ⟨_, N, f', hrow⟩ := hr b e.symm
    exact rowIs_ne hb hrow ht rfl)
  refine ⟨key _ _ _ h.b0 (by decide), key _ _ _ h.b2 (by decide), h.sm.kept hg n2 fun g e => (hr g e).1, ?_, n1, by omega⟩
  exact h.below.grown hg h.below.size fun g e => Nat.le_trans n1 (hr g e).1
theorem LawR.on {w wr w' : World} {B0 B2 N0 : Nat} {P D : Int} {s0 s2 : Value} {S : List Tm} (h : LawR w wr B0 B2 N0 P D s0 s2 S) (hb : Below wr.heap.size wr w') : LawR w w' B0 B2 N0 P D s0 s2 S :=
  h.step (below_grown hb) (fun g e => by simp at e)
theorem LawR.stepI {w wr w' : World} {B0 B2 N0 lo hi : Nat} {P D : Int} {s0 s2 : Value} {S : List Tm} (h : LawR w wr B0 B2 N0 P D s0 s2 S) (hg : GrewI lo hi wr w') (h0 : B0 < lo) (h2 : hi ≤ B2) (hN : N0 ≤ lo) :
    LawR w w' B0 B2 N0 P D s0 s2 S := by
  obtain ⟨n1, n2⟩ := h.n0
  exact ⟨rowI h.b0 hg (.inl h0), rowI h.b2 hg (.inr h2), h.sm.keptI hg n2 hN, h.below.trans (hg.below (by omega) h.below.size), n1, Nat.le_trans n2 hg.size⟩
theorem GrewI.one {lo hi b : Nat} {w w' : World} (h1 : lo ≤ b) (h2 : b < hi) (hg : w.grownBy w' (some b)) : GrewI lo hi w w' := (GrewI.refl lo hi w).step h1 h2 hg
theorem nOwnI.blk {w : World} {base : Nat} {v : Value} {l : List Int} (h : nOwnI w base v l) : ∃ g, v = .slice (some ⟨g, 0, none⟩) l.length l.length ∧ base ≤ g ∧ g < w.heap.size := by
  obtain ⟨g, f, hv, hb, hr, _⟩ := h
  exact ⟨g, hv, hb, hr.lt⟩
theorem nOwnI.on {w w' : World} {base : Nat} {v : Value} {l : List Int} (h : nOwnI w base v l) (hb : Below w.heap.size w w') : nOwnI w' base v l := by
  obtain ⟨g, f, hv, hg, hr, hf⟩ := h
  exact ⟨g, f, hv, hg, rowIs_below hr hb hr.lt, hf⟩
theorem nOwnI.onI {w w' : World} {base lo hi : Nat} {v : Value} {l : List Int} (h : nOwnI w base v l) (hg : GrewI lo hi w w') (hb : hi ≤ base) : nOwnI w' base v l := by
  obtain ⟨g, f, hv, hbg, hr, hf⟩ := h
  exact ⟨g, f, hv, hbg, rowI hr hg (.inr (by omega)), hf⟩
end Go.Proofs.Ytphgpadpffigjaa
namespace Go.Proofs.Ytphgpadpffigjaa
open Go.RowKit Go.Sort Go.Maps

set_option maxRecDepth 8000 in
set_option maxHeartbeats 16000000 in
theorem law_dk (p n i : Int) (w : World) :
    Calls Try.prog 5 #[.int .i64 p, .int .i64 n, .int .i64 i] w fun e w' => e = .returned (.bool true) ∧ Below w.heap.size w w' := by
  obtain ⟨o, ho⟩ : ∃ o, dkO p n i = o := ⟨_, rfl⟩
  have hso : o.S.length ≤ 1048576 := by rw [← ho]; exact Nat.le_trans (dkO_len p n i) (by decide)
  have HSP := Lib.hid (fun w' => sdick p n i w')
  have HIM := Lib.hid (fun w' => idick p n i w')
  rw [ho] at HSP HIM
  clear ho
  obtain ⟨P, D, S, c⟩ := o
  simp only at hso
  go_enter Try.func5, Try.ntmps5
  go_wp2_with fail
  ((with_reducible refine (HSP.out _).mono ?_); rintro e w3 ⟨sv3, rfl, hp3, hbs⟩)
  simp only at hp3
  have ho3 := OwnP.slice hp3
  obtain ⟨a3, c3, rfl, _⟩ := id ho3
  obtain ⟨V3, hV3, hbV3, ⟨hV3s1, hV3s2⟩, rb0⟩ := newbox w3 P D (.slice a3 S.length c3)
  have K3 := hbs.trans (hbV3.mono hbs.size)
  have sm3 := (ho3.below hbV3).bound
  clear ho3 hp3 hbs hbV3
  go_upto_region 2 with fail
  rw [← hV3]
  clear hV3
  obtain ⟨N0, hN0⟩ : ∃ N0, V3.heap.size = N0 := ⟨_, rfl⟩
  have hB0lt : w3.heap.size < N0 := by have := rb0.lt; omega
  have hwN : w.heap.size ≤ N0 := by have := K3.size; omega
  go_wp2_with fail
  ((with_reducible refine (HIM.out _).mono ?_); rintro e wk ⟨sv5, rfl, ho5, hbk⟩)
  simp only at ho5
  obtain ⟨a5, c5, rfl⟩ := owns_slice ho5
  have sk := hbk.size
  obtain ⟨V6, hV6, hbV6, ⟨hV6s1, hV6s2⟩, rb2⟩ := newbox wk P D (.slice a5 S.length c5)
  have hbx := hbk.trans (hbV6.mono sk)
  have hg6 : OwnP V6 V3.heap.size (.slice a5 S.length c5) S := owns_belowT ho5 hbV6
  have st : LawR w V6 w3.heap.size wk.heap.size N0 P D (.slice a3 S.length c3) (.slice a5 S.length c5) S :=
    ⟨rowIs_below rb0 hbx rb0.lt, rb2, by rw [← hN0]; exact sm3.kept (below_grown hbx) (Nat.le_refl _) (fun g e => by simp at e), K3.trans (hbx.mono K3.size), hwN, by have := hbx.size; omega⟩
  have hcc : (c != c) = false := by simp
  have hB2 : V3.heap.size ≤ wk.heap.size := sk
  clear rb0 rb2 sm3 ho5 hbk hbV6 hbx K3 HSP
  go_upto_region 3 with fail
  rw [← hV6]
  clear hV6
  obtain ⟨⟨q0, q1, q2⟩, _⟩ := poly3 st.b2
  obtain ⟨⟨k0, k1, k2⟩, _⟩ := poly3 st.b0
  go_wp2_with fail
  ((with_reducible refine (eqPoly_same P D _ _ S _ hso (OwnP.slice hg6) (st.sm.slice st.n0.2)).mono ?_); rintro e w14 ⟨rfl, hb14⟩)
  have st14 := st.on hb14
  have hg14 : OwnP w14 V3.heap.size (.slice a5 S.length c5) S := owns_belowT hg6 hb14
  clear q0 q1 q2 k0 k1 k2 st hg6 hb14
  obtain ⟨⟨q0, q1, q2⟩, _⟩ := poly3 st14.b2
  go_wp2_with fail
  ((with_reducible refine (markPoly_own P D 1 _ (OwnG.of_owns hg14) hso (by decide) (by decide)).mono ?_); rintro e w15 ⟨rfl, hM15, hgr15⟩)
  have st15 := st14.step hgr15 (fun g e => by obtain ⟨h1, h2⟩ := (OwnG.of_owns hg14).row g e; exact ⟨by omega, h2⟩)
  clear q0 q1 q2 st14 hg14 hgr15
  obtain ⟨⟨q0, q1, q2⟩, _⟩ := poly3 st15.b2
  go_wp2_with fail
  ((with_reducible refine (heldPoly_marks P D 1 _ hM15 hso (by decide) (by decide)).mono ?_); rintro e w16 ⟨rfl, hb16⟩)
  have st16 := st15.on hb16
  have hM16 := hM15.below hb16
  clear q0 q1 q2 st15 hM15 hb16
  have hq2 : ¬ (1 : Int) + 4 * (S.length : Int) < 0 := by omega
  have hq3 : ((1 : Int) + 4 * (S.length : Int) != 1 + 4 * (S.length : Int)) = false := by simp
  go_wp2_with fail
  ((with_reducible refine (HIM.out _).mono ?_); rintro e w19 ⟨sv19, rfl, ho19, hb19⟩)
  simp only at ho19
  obtain ⟨a19, c19, rfl⟩ := owns_slice ho19
  obtain ⟨V19, hV19, hbV19, ⟨hV19s1, hV19s2⟩, rh⟩ := newbox w19 P D (.slice a19 S.length c19)
  have hbx := hb19.trans (hbV19.mono hb19.size)
  have hS19 := (OwnP.slice ho19).below hbV19
  have st19 := st16.on hbx
  have hM19 := hM16.below hbx
  clear st16 hM16 hbx ho19 hb19 hbV19
  go_upto_region 14 with fail
  rw [← hV19]
  clear hV19
  obtain ⟨⟨q0, q1, q2⟩, _⟩ := poly3 rh
  obtain ⟨⟨k0, k1, k2⟩, _⟩ := poly3 st19.b0
  go_wp2_with fail
  ((with_reducible refine (eqPoly_same P D _ _ S _ hso hS19 (st19.sm.slice st19.n0.2)).mono ?_); rintro e w20 ⟨rfl, hb20⟩)
  have st20 := st19.on hb20
  have hM20 := hM19.below hb20
  clear q0 q1 q2 k0 k1 k2 st19 hM19 hS19 rh hb20
  obtain ⟨⟨q0, q1, q2⟩, _⟩ := poly3 st20.b2
  go_wp2_with fail
  ((with_reducible refine (heldPoly_marks P D 1 _ hM20 hso (by decide) (by decide)).mono ?_); rintro e w21 ⟨rfl, hb21⟩)
  have hend := (st20.on hb21).below
  clear q0 q1 q2 st20 hM20 hb21
  go_wp2
  go_ret
  exact ⟨rfl, hend⟩
end Go.Proofs.Ytphgpadpffigjaa
