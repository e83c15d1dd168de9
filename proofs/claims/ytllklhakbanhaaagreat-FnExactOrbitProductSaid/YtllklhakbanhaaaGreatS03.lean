/-
  WALKS: 'impl.productsOf'. Conditions: as the theorem states.
-/
import Derived.Test.YtllklhakbanhaaaGreatS01
import Derived.Test.YtllklhakbanhaaaGreatQ47
import Derived.Test.YtllklhakbanhaaaGreatQ16
namespace Go.Proofs.YtllklhakbanhaaaGreat
open Go.RowKit Go.Sort Go.Maps EchM

set_option maxRecDepth 8000 in
set_option maxHeartbeats 16000000 in
theorem iprods (p : Int) (m k : Nat) (g : Int) (v : Value) (O : List (List Tm)) (w : World) (hp2 : 2 ≤ p) (hp13 : p ≤ 13) (d1 : 1 ≤ (m : Int)) (d3 : (m : Int) ≤ 3) (h0 : 1 ≤ O.length) (h48 : O.length ≤ 1000) (hg : 0 ≤ g) (hV : ∀ X ∈ O, Valid p m X ∧ degB X g) (hk : (k : Int) * g ≤ 12) (hk48 : k ≤ 1000) (hS : SlPn w p m v O) :
    Calls Tryz.prog 72 #[v, .int .i64 (k : Int)] w fun e w' => ∃ v', e = .returned (.agg #[.int .i64 p, .int .i64 (m : Int), v']) ∧ OwnP w' w.heap.size v' (symE p O.reverse k) ∧ Below w.heap.size w w' := by
  obtain ⟨i0, hi0, hz0, hz1, hz2⟩ := info_parts infoPoly
  have hmk : ∀ w, (Instr.makeSlice 30 (.int .i64 ((k : Int) + 1)) (.int .i64 ((k : Int) + 1))).run Tryz.prog w = .ok (.slice (some ⟨w.heap.size, 0, none⟩) (k + 1) (k + 1)) (w.alloc (.cells (madeP (k + 1)) 39)) := fun w => by
    have h := run_make (P := Tryz.prog) w 30 39 i0 _ Tryz.underlying30 hi0 hz0 .i64 .i64 ((k : Int) + 1) ((k : Int) + 1) (by omega) (by omega) (by rw [hz2]; omega) (by omega)
    have e : ((k : Int) + 1).toNat = k + 1 := by omega
    rw [hz1, e] at h
    simpa [madeP] using h
  clear hi0 hz0 hz1 hz2
  obtain ⟨a, cap, rfl, _⟩ := id hS
  rw [List.length_map] at hS ⊢
  obtain ⟨bl, off, _, rfl, hbl, _, c0, c1, _, _⟩ := SlP.nth hS (k := 0) (by omega)
  rw [Nat.zero_mul, Nat.add_zero] at c0 c1
  obtain ⟨R, hR, hbR, ⟨hRs, hRs2⟩, rr⟩ := newbox w 0 0 (.slice none 0 0)
  have C0 := (hbR.cell (p := ⟨bl, off, none⟩) hbl).trans c0
  have C1 := (hbR.cell (p := ⟨bl, off + 1, none⟩) hbl).trans c1
  have hl0 : (0 : Int) < (O.length : Int) := by omega
  have HV := Lib.hid hV
  have HK := Lib.hid hk
  clear c0 c1 hV hk
  go_enter Tryz.func72, Tryz.ntmps72
  go_upto_region 1 with fail
  rw [← hR]
  clear hR
  go_cut [5, 6] (fun s5 s6 wx => s5 = .int .i64 p ∧ s6 = .int .i64 (m : Int) ∧ Below R.heap.size R wx)
  case first =>
    go_quiet (fail)
    go_wp2_with fail
    go_meet
    exact ⟨rfl, rfl, by repeat (first | with_reducible exact Below.refl _ _ | refine below_drewN ?_ _)⟩
  case rest =>
  rename World => W1
  obtain ⟨rfl, rfl, hb1⟩ := hcut
  clear C0 C1
  have hmkW := hmk W1
  obtain ⟨X, hX, hbX, hXs, rX⟩ : ∃ X, X = W1.alloc (.cells (madeP (k + 1)) 39) ∧ Below W1.heap.size W1 X ∧ X.heap.size = W1.heap.size + 1 ∧ X.rowIs W1.heap.size 39 ((k + 1) * 3) (fun i => (madeP (k + 1)).getD i undef) := ⟨_, rfl, box1 _ _, by simp, madeP_row W1 (k + 1) _⟩
  rw [← hX] at hmkW
  have hb1s := hb1.size
  have hf0 : FrW X w.heap.size W1.heap.size ((k + 1) * 3) p m (fun _ => []) 0 (fun i => (madeP (k + 1)).getD i undef) := ⟨rX, by omega, fun i hi => by omega⟩
  have hbRX := hb1.trans (hbX.mono hb1.size)
  obtain ⟨gb, hgb⟩ : ∃ gb, W1.heap.size = gb := ⟨_, rfl⟩
  rw [hgb] at hf0 hXs hmkW hb1s
  have hgX : gb < X.heap.size := by omega
  have hgR : R.heap.size ≤ gb := by omega
  clear hX hmk rX hgb
  go_wp2_with fail
  clear hmkW
  go_loopw [25] (fun i wr => ∃ (j : Nat) (F : Nat → Value), j ≤ k + 1 ∧ i = .int .i64 j ∧ FrW wr w.heap.size gb ((k + 1) * 3) p m (fun _ => []) j F ∧ gb < wr.heap.size ∧ Below R.heap.size R wr) (fun i _ => k + 1 - (intOf i).toNat)
  case atStart => exact ⟨0, _, by omega, rfl, hf0, hgX, hbRX⟩
  case round =>
    clear hf0
    obtain ⟨j, F, hj, rfl, hF, hgl, hbr⟩ := hrel
    obtain ⟨wo, hwo⟩ : ∃ wo : World, wo = wr := ⟨_, rfl⟩
    subst hwo
    have hbs := hbr.size
    by_cases hlt : j < k + 1
    · have hlt' : (j : Int) < (k : Int) + 1 := by omega
      go_wp2_with fail
      ((with_reducible refine (constant_any p (m : Int) 0 wo (by omega) (by omega)).mono ?_); rintro e w2 ⟨v2, rfl, ho2, hb2⟩)
      rw [constL_zero] at ho2
      obtain ⟨sa, sc, rfl⟩ := owns_slice ho2
      obtain ⟨⟨e0, e1, e2⟩, f0, f1, f2⟩ := (hF.later hb2).any (i := j) (by omega)
      have hN := (hF.later hb2).put (i := j) (j' := j + 1) ho2 (by omega) (by omega) (by omega)
      have hN2 := hN.congr (T' := fun _ => []) (fun i _ => by split <;> rfl)
      have hbN := setB (i0 := j * 3) (i1 := j * 3 + 1) (i2 := j * 3 + 2) (hbr.trans (hb2.mono hbr.size)) hgR (.int .i64 p) (.int .i64 (m : Int)) (.slice sa 0 sc)
      have hgN : gb < w2.heap.size := Nat.lt_of_lt_of_le hgl hb2.size
      clear hF hN ho2
      go_wp2_with fail
      go_roundw
      case rel => exact ⟨j + 1, _, by omega, by go_num, hN2, by simpa using hgN, hbN⟩
      case measure => simp [intOf]; omega
    · obtain rfl : j = k + 1 := by omega
      have hk0 : (0 : Int) < (k : Int) + 1 := by omega
      go_wp2_with fail
      ((with_reducible refine (constant_any p (m : Int) 1 wo (by omega) (by omega)).mono ?_); rintro e w2 ⟨v2, rfl, ho2, hb2⟩)
      rw [constL_one] at ho2
      obtain ⟨sa, sc, rfl⟩ := owns_slice ho2
      obtain ⟨⟨e0, e1, e2⟩, f0, f1, f2⟩ := (hF.later hb2).any (i := 0) (by omega)
      have hN := ((hF.later hb2).put (i := 0) (j' := k + 1) ho2 (by omega) (by omega) (by omega)).congr (fun i _ => allF_zero p O i)
      have hbN := setB (i0 := 0 * 3) (i1 := 0 * 3 + 1) (i2 := 0 * 3 + 2) (hbr.trans (hb2.mono hbr.size)) hgR (.int .i64 p) (.int .i64 (m : Int)) (.slice sa [((0 : Int), (0 : Int), (0 : Int), (1 : Int))].length sc)
      have hgN : gb < w2.heap.size := Nat.lt_of_lt_of_le hgl hb2.size
      simp only [Nat.zero_mul, Nat.zero_add] at e0 e1 e2 f0 f1 f2 hN hbN
      clear hF ho2
      go_wp2_with fail
      go_loopw [42] (fun i wr => ∃ (i1 : Nat) (F : Nat → Value), i1 ≤ O.length ∧ i = .int .i64 i1 ∧ FrW wr w.heap.size gb ((k + 1) * 3) p m (allF p O i1) (k + 1) F ∧ gb < wr.heap.size ∧ Below R.heap.size R wr) (fun i _ => O.length - (intOf i).toNat)
      case atStart => exact ⟨0, _, by omega, rfl, hN, by simpa using hgN, hbN⟩
      case round =>
        clear hN hbN hgN e0 e1 e2 f0 f1 f2 hb2
        obtain ⟨i1, F, hi, rfl, hF, hgl, hbr⟩ := hrel
        obtain ⟨w6, hw6⟩ : ∃ w6 : World, w6 = wr := ⟨_, rfl⟩
        subst hw6
        have hbs := hbr.size
        have hbw := hbR.trans (hbr.mono hbR.size)
        by_cases hlt : i1 < O.length
        · have hlt' : (i1 : Int) < (O.length : Int) := by omega
          obtain ⟨b', off', uu, hbe, _, _, c0', c1', c2', hTw⟩ := SlP.nth hS hlt
          simp at hbe
          obtain ⟨rfl, rfl⟩ := hbe
          have c0 := (hbw.cell (p := ⟨bl, off + i1 * 3, none⟩) hbl).trans c0'
          have c1 := (hbw.cell (p := ⟨bl, off + i1 * 3 + 1, none⟩) hbl).trans c1'
          have c2 := (hbw.cell (p := ⟨bl, off + i1 * 3 + 2, none⟩) hbl).trans c2'
          clear c0' c1' c2'
          have HVX := Lib.hid (HV.out O[i1] (List.getElem_mem hlt))
          have HR := Lib.hid (fun (Y : List Tm) (hY : Y ∈ (O.take i1).reverse) => HV.out Y (List.mem_of_mem_take (List.mem_reverse.1 hY)))
          have HTR := Lib.hid (take_rev O i1 hlt)
          generalize O[i1] = X at *
          obtain ⟨ua, uc, rfl, _⟩ := id hTw
          obtain ⟨V2, hV2, hbV2, _, rq⟩ := newbox w6 p (m : Int) (.slice ua X.length uc)
          have hF2 := (hF.later hbV2).congr (fun i hi => mixF_start p O (k := k) hi)
          have hxb : w6.heap.size ≠ gb := by omega
          have hg2 := Nat.lt_of_lt_of_le hgl hbV2.size
          have hb2' := hbr.trans (hbV2.mono hbr.size)
          go_upto_region 12 with fail
          rw [← hV2]
          clear hV2 c0 c1 c2
          go_wp2_with fail
          go_loopw [11] (fun i wr => ∃ (j : Nat) (F : Nat → Value), j ≤ k ∧ i = .int .i64 j ∧ FrW wr w.heap.size gb ((k + 1) * 3) p m (mixF p O i1 j) (k + 1) F ∧ wr.rowIs w6.heap.size 39 3 (polyF p (m : Int) (.slice ua X.length uc)) ∧ gb < wr.heap.size ∧ Below R.heap.size R wr) (fun i _ => (intOf i).toNat)
          case atStart => exact ⟨k, _, by omega, rfl, hF2, rq, hg2, hb2'⟩
          case round =>
            clear hF2 rq hg2 hb2' hF hgl hbr hbs hbw hbV2
            obtain ⟨j, F2, hj, rfl, hF, rb, hgl, hbr⟩ := hrel
            obtain ⟨wo, hwo⟩ : ∃ wo : World, wo = wr := ⟨_, rfl⟩
            subst hwo
            have hbs := hbr.size
            have hbw := hbR.trans (hbr.mono hbR.size)
            match j, hj, hF with
            | 0, hj, hF =>
              have hN := hF.congr (fun i _ => mixF_zero p O i1 i)
              clear hF
              go_wp2_with fail
              go_roundw
              case rel => exact ⟨i1 + 1, _, by omega, by go_num, hN, hgl, hbr⟩
              case measure => simp [intOf]; omega
            | j + 1, hj, hF =>
              have hjg : ((j + 1 : Nat) : Int) * g ≤ 12 := Int.le_trans (Int.mul_le_mul_of_nonneg_right (by omega) hg) HK.out
              have hjg2 : (j : Int) * g + g ≤ 12 := by
                have e : ((j + 1 : Nat) : Int) * g = j * g + g := by rw [Int.natCast_add, Int.add_mul]; simp
                omega
              have hjp : (0 : Int) < ((j + 1 : Nat) : Int) := by omega
              have hj1 : ((j + 1 : Nat) : Int) - 1 = (j : Int) := by omega
              have hjk : ((j + 1 : Nat) : Int) < (k : Int) + 1 := by omega
              have hjk2 : (j : Int) < (k : Int) + 1 := by omega
              have hwj : IntKind.i64.wrap (j : Int) = (j : Int) := IntWalk.i64_in _ (by omega)
              have hA1 : (0 : Int) ≤ (j : Int) + 1 := by omega
              have hA2 : j < k := by omega
              have hA3 : j ≤ k := by omega
              have hA4 : j < k + 1 := by omega
              obtain ⟨uA, a0, a1, a2, hA⟩ := hF.cells (i := j + 1) (by omega)
              obtain ⟨uB, b0, b1, b2, hB⟩ := hF.cells (i := j) (by omega)
              rw [mixF_low p O (by omega)] at hA hB
              have HAV := Lib.hid (symE_ok hp2 hp13 d1 d3 hg _ HR.out (j + 1) hjg)
              have HBV := Lib.hid (symE_ok hp2 hp13 d1 d3 hg _ HR.out j (by omega))
              have HFT := Lib.hid (degB_fits HBV.out.2 HVX.out.2 hjg2)
              have HST := Lib.hid (fun (M S : List Tm) h1 h2 => symE_step hp2 hp13 d1 d3 hg (X := X) (r := (O.take i1).reverse) (fun Y hY => by rcases List.mem_cons.1 hY with h | h; exact h ▸ HVX.out; exact HR.out Y h) (j := j) hjg (M := M) (S := S) h1 h2)
              have HMX := Lib.hid (fun l => mixF_set p O i1 j l)
              rw [HTR.out] at HMX
              generalize symE p (X :: (O.take i1).reverse) (j + 1) = Z at *
              generalize symE p (O.take i1).reverse (j + 1) = A at *
              generalize symE p (O.take i1).reverse j = B at *
              have HVA := Lib.hid HAV.out.1
              have HVB := Lib.hid HBV.out.1
              obtain ⟨sA, kA, rfl⟩ := owns_slice hA
              obtain ⟨sB, kB, rfl⟩ := owns_slice hB
              obtain ⟨⟨q0, q1, q2⟩, _⟩ := poly3 rb
              have hbd2 : Below wo.heap.size wo wo.drew := (Below.same _).drew
              have hAd := OwnP.slice hA
              have hBd := (OwnP.slice hB).below hbd2
              have hXd := (hTw.below hbw).below hbd2
              clear HAV HBV
              go_wp2_with fail
              go_region_with (first
                | (go_at_call 70; (with_reducible refine (product_any p (m : Int) _ _ B X _ hBd hXd HVB.out HVX.out.1 HFT.out).mono ?_); rintro e w13 ⟨v13, M, rfl, ho13, hI13, hb13⟩; have HB13 : Below wo.heap.size wo w13 := hbd2.trans hb13; (obtain ⟨sM, kM, rfl⟩ := owns_slice ho13); (have hA13 := hAd.below HB13); have e0 := (HB13.cell (p := ⟨gb, (j + 1) * 3, none⟩) hgl).trans a0; have e1 := (HB13.cell (p := ⟨gb, (j + 1) * 3 + 1, none⟩) hgl).trans a1; have e2 := (HB13.cell (p := ⟨gb, (j + 1) * 3 + 2, none⟩) hgl).trans a2; have HVM := Lib.hid (isP_valid (d := (m : Int)) hI13 hp2 hp13 d1 d3))
                | (go_at_call 66; (with_reducible refine (isum p m 1 _ [A, M] _ (by simp) (by simp) (fun Y hY => by simp at hY; rcases hY with h | h <;> subst h; exact HVA.out; exact HVM.out) (by omega) (by omega) (two_sl hA13 (OwnP.slice ho13))).mono ?_); rintro e w14 ⟨v14, S14, rfl, ho14, hI14, hb14⟩; have HB14 : Below wo.heap.size wo w14 := HB13.trans (((box1 w13 _).trans (hb14.mono (by simp))).mono HB13.size); (obtain rfl := HST.out _ _ hI13 hI14); (obtain ⟨sZ, kZ, rfl⟩ := owns_slice ho14); (obtain ⟨⟨g0, g1, g2⟩, f0, f1, f2⟩ := (hF.later HB14).any (i := j + 1) (by omega))))
              all_goals
                have hN := ((hF.later HB14).put (i := j + 1) (j' := k + 1) ho14 (Nat.le_trans (hbR.trans (hbr.mono hbR.size)).size (Nat.le_trans HB13.size (by simp))) (by omega) (by omega)).congr (fun i _ => HMX.out i)
                have hbN := setB (i0 := (j + 1) * 3) (i1 := (j + 1) * 3 + 1) (i2 := (j + 1) * 3 + 2) (hbr.trans (HB14.mono hbr.size)) hgR (.int .i64 p) (.int .i64 (m : Int)) (.slice sZ S14.length kZ)
                have hgN : gb < w14.heap.size := Nat.lt_of_lt_of_le hgl HB14.size
                have rbN := ((((rowIs_below rb HB14 rb.lt).setOther (a := ⟨gb, (j + 1) * 3, none⟩) (by simpa using hxb) (.int .i64 p)).setOther (a := ⟨gb, (j + 1) * 3 + 1, none⟩) (by simpa using hxb) (.int .i64 (m : Int))).setOther (a := ⟨gb, (j + 1) * 3 + 2, none⟩) (by simpa using hxb) (.slice sZ S14.length kZ))
                clear hF hA hB a0 a1 a2 b0 b1 b2 q0 q1 q2 e0 e1 e2 ho13 ho14 hI13 hI14 hAd hBd hXd rb
                go_wp2_with fail
                go_roundw
                case rel => exact ⟨j, _, by omega, rfl, hN, rbN, by simpa using hgN, hbN⟩
                case measure => first | (simp [intOf]; done) | (simp [intOf]; omega)
        · obtain rfl : i1 = O.length := by omega
          obtain ⟨u, d0, d1', d2, hU⟩ := hF.cells (i := k) (by omega)
          unfold allF at hU
          rw [List.take_length] at hU
          have hkk : (k : Int) < (k : Int) + 1 := by omega
          obtain ⟨sa3, sc3, rfl⟩ := owns_slice hU
          have rr3 := rowIs_below rr hbr rr.lt
          obtain ⟨⟨r0, r1, r2⟩, z0, z1, z2⟩ := poly3 rr3
          obtain ⟨a0, a1, a2, a3, a4⟩ := fill_box (w := w) rr3 hU (Nat.le_refl _) hbw (by omega) p (m : Int)
          have A0 := Lib.hid a0
          have A1 := Lib.hid a1
          have A2 := Lib.hid a2
          have A3 := Lib.hid a3
          have A4 := Lib.hid a4
          clear a0 a1 a2 a3 a4
          go_wp2_with fail
          exact bodyPost_ret (v := .agg #[.int .i64 p, .int .i64 (m : Int), .slice sa3 (symE p O.reverse k).length sc3]) (by simp [results, Tryz.results72, go_sem, A0.out, A1.out, A2.out]) rfl ⟨_, rfl, A3.out, A4.out⟩
end Go.Proofs.YtllklhakbanhaaaGreat
