/-
  WALKS: what all matrices make of a polynomial, by the model: 'spec.l03All'. Conditions: as each theorem states.
  WALKS: sums of polynomials, times a number: 'impl.sumTimes'. Conditions: as the theorem states.. Conditions: as each theorem states.
  WALKS: 'impl.factorBetween'. Conditions: as the theorem states.
  WALKS: 'spec.l01Scale'. Conditions: as the theorem states.
  WALKS: 'impl.CharacterOf', 'spec.CharacterOf'. Conditions: the numbers fit their kinds.
  WALKS: 'spec.CharacterOf'. Conditions: the numbers fit their kinds.
-/
import Derived.Test.YtbhgbifliihlbaaGreatQ20
import Derived.Test.YtbhgbifliihlbaaGreatQ22
import Derived.Test.YtbhgbifliihlbaaGreatQ18
import Derived.Test.YtbhgbifliihlbaaGreatQ06
import Derived.Test.YtbhgbifliihlbaaGreatQ11
import Derived.Test.YtbhgbifliihlbaaGreatQ19
import Derived.Test.YtbhgbifliihlbaaGreatQ10
import Derived.Test.YtbhgbifliihlbaaGreatQ02
import Derived.Test.YtbhgbifliihlbaaGreatQ13
namespace Go.Proofs.YtbhgbifliihlbaaGreat
open Go.RowKit Go.Sort Go.Maps EchM

theorem nine_belowF {w w' : World} {b off B : Nat} {x : Nat → Nat → Int} (h : (w.cell? ⟨b, off, none⟩ = some (.int .u8 (x 0 0)) ∧ w.cell? ⟨b, off + 1, none⟩ = some (.int .u8 (x 0 1)) ∧ w.cell? ⟨b, off + 2, none⟩ = some (.int .u8 (x 0 2))) ∧ (w.cell? ⟨b, off + 3, none⟩ = some (.int .u8 (x 1 0)) ∧ w.cell? ⟨b, off + 4, none⟩ = some (.int .u8 (x 1 1)) ∧ w.cell? ⟨b, off + 5, none⟩ = some (.int .u8 (x 1 2))) ∧ (w.cell? ⟨b, off + 6, none⟩ = some (.int .u8 (x 2 0)) ∧ w.cell? ⟨b, off + 7, none⟩ = some (.int .u8 (x 2 1)) ∧ w.cell? ⟨b, off + 8, none⟩ = some (.int .u8 (x 2 2)))) (hb : Below B w w') (hB : b < B) :
    (w'.cell? ⟨b, off, none⟩ = some (.int .u8 (x 0 0)) ∧ w'.cell? ⟨b, off + 1, none⟩ = some (.int .u8 (x 0 1)) ∧ w'.cell? ⟨b, off + 2, none⟩ = some (.int .u8 (x 0 2))) ∧ (w'.cell? ⟨b, off + 3, none⟩ = some (.int .u8 (x 1 0)) ∧ w'.cell? ⟨b, off + 4, none⟩ = some (.int .u8 (x 1 1)) ∧ w'.cell? ⟨b, off + 5, none⟩ = some (.int .u8 (x 1 2))) ∧ (w'.cell? ⟨b, off + 6, none⟩ = some (.int .u8 (x 2 0)) ∧ w'.cell? ⟨b, off + 7, none⟩ = some (.int .u8 (x 2 1)) ∧ w'.cell? ⟨b, off + 8, none⟩ = some (.int .u8 (x 2 2))) := by
  have q : ∀ o, w'.cell? ⟨b, o, none⟩ = w.cell? ⟨b, o, none⟩ := fun o => hb.cell (p := ⟨b, o, none⟩) hB
  obtain ⟨⟨a0, a1, a2⟩, ⟨a3, a4, a5⟩, a6, a7, a8⟩ := h
  exact ⟨⟨(q _).trans a0, (q _).trans a1, (q _).trans a2⟩, ⟨(q _).trans a3, (q _).trans a4, (q _).trans a5⟩, (q _).trans a6, (q _).trans a7, (q _).trans a8⟩
theorem zeroPl (w : World) : (w.alloc (.cells #[] 39)).ownsRow w.heap.size 39 3 (.slice (some ⟨w.heap.size, 0, none⟩) 0 0) 0 [] := by
  simpa using World.ownsRow_made (base := w.heap.size) (e := 39) (size := 3) w #[] 0 (Nat.le_refl _) (by simp [maxLen]) rfl
theorem one_poly (w : World) (p n : Int) (u : Value) : ∀ (j : Nat) (x : Value), ([Value.int .i64 p, .int .i64 n, u] : List Value)[j]? = some x → (w.alloc (.cells #[.int .i64 p, .int .i64 n, u] 39)).cell? ((⟨w.heap.size, 0, none⟩ : Addr).add j) = some x :=
  World.news_of_block (cs := #[.int .i64 p, .int .i64 n, u]) (t := 39) (fr := (0, 0)) (heap_alloc_new w _)

set_option maxRecDepth 8000 in
set_option maxHeartbeats 16000000 in
theorem sall {p : Int} {m : Nat} {L : List (Nat → Nat → Int)} {xs : List Tm} (h : GrpP p m L xs) (v u : Value) (w : World) (hS : SlM w v L) (hU : SliceT w u xs) :
    Calls Tryz.prog 20 #[.agg #[.int .i64 p, .int .i64 (m : Int), v], .agg #[.int .i64 p, .int .i64 (m : Int), u]] w fun e w' => ∃ v' us hi, e = .returned v' ∧ PMk w' w.heap.size hi p m v' us (allL p m L xs) ∧ Below w.heap.size w w' := by
  obtain ⟨i0, hi0, hz0, hz1, hz2⟩ := info_parts infoPoly
  obtain ⟨W, hW, hbW, ⟨hWs1, hWs2⟩, rg, rx⟩ := boxGP w p (m : Int) v p (m : Int) u
  have hl : L.length ≤ 48 := h.l48
  have hUW := hU.below hbW
  obtain ⟨a, cap, rfl, hc⟩ := id hS
  obtain ⟨ua, uc, rfl, _⟩ := id hU
  obtain ⟨X, hX, hbX, hXs, hown⟩ : ∃ X, X = W.alloc (.cells #[] 39) ∧ Below W.heap.size W X ∧ X.heap.size = W.heap.size + 1 ∧ X.ownsRow W.heap.size 39 3 (.slice (some ⟨W.heap.size, 0, none⟩) 0 0) 0 [] := ⟨_, rfl, box1 _ _, by simp, zeroPl W⟩
  have st0 : PMk X W.heap.size W.heap.size p m (.slice (some ⟨W.heap.size, 0, none⟩) 0 0) [] (allL p m (L.take 0) xs) := PMk.nilB hown
  have HG := Lib.hid h
  clear h hown
  go_enter Tryz.func20, Tryz.ntmps20
  go_upto_region 1 with fail
  rw [← hW]
  clear hW
  go_upto_region 2 with fail
  rw [← hX]
  clear hX
  go_wp2_with fail
  go_loopw [6, 5] (fun i vv wr => ∃ (k : Nat) (v : Value) (us : List Value) (hi : Nat), k ≤ L.length ∧ i = .int .i64 k ∧ vv = v ∧ PMk wr W.heap.size hi p m v us (allL p m (L.take k) xs) ∧ hi ≤ wr.heap.size ∧ W.heap.size ≤ hi ∧ Below W.heap.size W wr) (fun i _ _ => L.length - (intOf i).toNat)
  case atStart => exact ⟨0, _, _, _, by omega, rfl, rfl, st0, by omega, Nat.le_refl _, hbX⟩
  case round =>
    clear st0
    obtain ⟨k, v, us, hi, hk, rfl, hvv, st, hhi, hWhi, hbr⟩ := hrel
    have hbwr := hbW.trans (hbr.mono hbW.size)
    have rg1 := erow_below rg hbr rg.lt
    have rx1 := erow_below rx hbr rx.lt
    obtain ⟨g0, g1, g2⟩ := gcells rg1
    by_cases hlt : k < L.length
    · have hlt' : (k : Int) < (L.length : Int) := by omega
      obtain ⟨b, off, rfl, hbb, hT⟩ : ∃ b off, a = some ⟨b, off, none⟩ ∧ b < w.heap.size ∧ MatsW w b off L := by
        rcases hc with rfl | h
        · simp at hlt
        · exact h
      have HA := Lib.hid (fun w' v' h1 => HG.out.slead (List.getElem_mem hlt) v' w' h1)
      have HN := Lib.hid (allL_snoc p m L xs k hlt)
      have hln : (allL p m (L.take k) xs).length = k := by rw [allL_len, List.length_take]; omega
      have HLN := Lib.hid hln
      obtain ⟨sa, sc, hv⟩ := st.shape
      rw [hln] at hv
      subst hv
      subst u5
      clear hln
      obtain ⟨⟨p0, p1, p2⟩, _⟩ := poly3 rx1
      have hbr0 : Below wr.heap.size wr wr.drew := (Below.refl _ _).drew
      have hUd : SliceT wr.drew (.slice ua xs.length uc) xs := (hUW.below hbr).below hbr0
      have hbwz : b < wr.heap.size := Nat.lt_of_lt_of_le hbb hbwr.size
      have hxz := rx1.lt
      have hgz := rg1.lt
      have hWr := hbr.size
      have H9 := Lib.hid ((hT.below hbW hbb).nine hlt)
      generalize ledF p m xs L[k] = D at *
      generalize L[k] = x at *
      have KK := Lib.hid (fun w' (hq : Below W.heap.size W w') => show (w'.cell? ⟨w.heap.size, 2, none⟩ = some (.slice (some ⟨b, off, none⟩) L.length cap)) ∧ (w'.cell? ⟨w.heap.size + 1, 0, none⟩ = some (.int .i64 p) ∧ w'.cell? ⟨w.heap.size + 1, 1, none⟩ = some (.int .i64 (m : Int)) ∧ w'.cell? ⟨w.heap.size + 1, 2, none⟩ = some (.slice ua xs.length uc)) ∧ ((w'.cell? ⟨b, off + k * 9, none⟩ = some (.int .u8 (x 0 0)) ∧ w'.cell? ⟨b, off + k * 9 + 1, none⟩ = some (.int .u8 (x 0 1)) ∧ w'.cell? ⟨b, off + k * 9 + 2, none⟩ = some (.int .u8 (x 0 2))) ∧ (w'.cell? ⟨b, off + k * 9 + 3, none⟩ = some (.int .u8 (x 1 0)) ∧ w'.cell? ⟨b, off + k * 9 + 4, none⟩ = some (.int .u8 (x 1 1)) ∧ w'.cell? ⟨b, off + k * 9 + 5, none⟩ = some (.int .u8 (x 1 2))) ∧ (w'.cell? ⟨b, off + k * 9 + 6, none⟩ = some (.int .u8 (x 2 0)) ∧ w'.cell? ⟨b, off + k * 9 + 7, none⟩ = some (.int .u8 (x 2 1)) ∧ w'.cell? ⟨b, off + k * 9 + 8, none⟩ = some (.int .u8 (x 2 2)))) from
        ⟨(hq.cell (p := ⟨w.heap.size, 2, none⟩) rg.lt).trans (gcells rg).2.2, (poly3 (rowIs_below rx hq rx.lt)).1, nine_belowF H9.out hq (Nat.lt_of_lt_of_le hbb hbW.size)⟩)
      have H0 : Below W.heap.size W wr.drew := hbr.trans (hbr0.mono hWr)
      have hmx : k + 1 ≤ maxLen := by unfold maxLen; omega
      have hmb : (k + 1) * 40 ≤ 140737488355328 := by omega
      clear H9 hT rg1 rx1 p0 p1 p2
      go_wp2_with fail
      clear g0 g1 g2
      go_region_held3 (fun w' => (w'.cell? ⟨w.heap.size, 2, none⟩ = some (.slice (some ⟨b, off, none⟩) L.length cap)) ∧ (w'.cell? ⟨w.heap.size + 1, 0, none⟩ = some (.int .i64 p) ∧ w'.cell? ⟨w.heap.size + 1, 1, none⟩ = some (.int .i64 (m : Int)) ∧ w'.cell? ⟨w.heap.size + 1, 2, none⟩ = some (.slice ua xs.length uc)) ∧ ((w'.cell? ⟨b, off + k * 9, none⟩ = some (.int .u8 (x 0 0)) ∧ w'.cell? ⟨b, off + k * 9 + 1, none⟩ = some (.int .u8 (x 0 1)) ∧ w'.cell? ⟨b, off + k * 9 + 2, none⟩ = some (.int .u8 (x 0 2))) ∧ (w'.cell? ⟨b, off + k * 9 + 3, none⟩ = some (.int .u8 (x 1 0)) ∧ w'.cell? ⟨b, off + k * 9 + 4, none⟩ = some (.int .u8 (x 1 1)) ∧ w'.cell? ⟨b, off + k * 9 + 5, none⟩ = some (.int .u8 (x 1 2))) ∧ (w'.cell? ⟨b, off + k * 9 + 6, none⟩ = some (.int .u8 (x 2 0)) ∧ w'.cell? ⟨b, off + k * 9 + 7, none⟩ = some (.int .u8 (x 2 1)) ∧ w'.cell? ⟨b, off + k * 9 + 8, none⟩ = some (.int .u8 (x 2 2)))))
        (first | with_reducible exact KK.out _ H0 | with_reducible exact KK.out _ H5 | with_reducible exact KK.out _ H6 | with_reducible exact KK.out _ hq8)
        (first
        | (go_at_call 36; (with_reducible refine (HA.out _ _ hUd).mono ?_); rintro e w5 ⟨v5, rfl, ho5, hb5⟩; (obtain ⟨sa5, sc5, rfl⟩ := owns_slice ho5); have hq5 : Below wr.heap.size wr w5 := hbr0.trans hb5; have H5 : Below W.heap.size W w5 := hbr.trans (hq5.mono hWr); have hq6 : Below wr.heap.size wr (w5.alloc (.cells #[.int .i64 p, .int .i64 (m : Int), .slice sa5 D.length sc5] 39)) := hq5.trans ((box1 _ _).mono hq5.size); have H6 : Below W.heap.size W (w5.alloc (.cells #[.int .i64 p, .int .i64 (m : Int), .slice sa5 D.length sc5] 39)) := hbr.trans (hq6.mono hWr); have st6 := st.below hq6; have hr6 : (w5.alloc (.cells #[.int .i64 p, .int .i64 (m : Int), .slice sa5 D.length sc5] 39)).ownsRow W.heap.size 39 3 (.slice sa k sc) k (cellsQ p m us) := (by have q := st6.rows; rwa [HLN.out] at q))
        | ((refine step_append_lies _ (by rfl) _ _ _ (by rfl) W.heap.size 39 i0 _ 3 40 Tryz.underlying51 hi0 hz0 hz1 hz2 rfl (by omega) (.slice sa k sc) k (cellsQ p m us) (by rfl) hr6 ⟨w5.heap.size, 0, none⟩ 1 1 [.int .i64 p, .int .i64 (m : Int), .slice sa5 D.length sc5] (by rfl) (by rfl) (one_poly w5 p (m : Int) _) (by intro y hy; simp at hy; rcases hy with rfl | rfl | rfl <;> rfl) (by omega) hmx hmb (Nat.le_trans hWr hq6.size) _ (by rfl) ?_
            intro gg cap3 w8 hown8 hgrow8 hat8 hlt8
            have hq8 : Below W.heap.size W w8 := (hbr.trans (hq6.mono hWr)).grown hgrow8 (Nat.le_trans hWr hq6.size) (fun q hq => (World.ownsRow.lt hr6 q hq).1)
            clear hat8)))
      all_goals
        have stN := st6.more (u := .slice sa5 D.length sc5) (X := D) (hi2 := (w5.alloc (.cells #[.int .i64 p, .int .i64 (m : Int), .slice sa5 D.length sc5] 39)).heap.size) (owns_belowT ho5 (box1 _ _)) hhi hWr (Nat.le_refl _) hgrow8 (by rw [HLN.out]; exact hown8)
        rw [← HN.out] at stN
        have h1 := hgrow8.size
        have h2 := Nat.le_trans hWr hq6.size
        go_wp2_with fail
        go_roundw
        case rel => exact ⟨k + 1, _, _, _, by omega, by go_num, rfl, stN, h1, h2, hq8⟩
        case measure => simp [intOf]; omega
    · obtain rfl : k = L.length := by omega
      subst u5
      rw [List.take_length] at st
      have hend := hbwr
      have HD := Lib.hid (st.low hbW.size)
      clear st
      go_wp2_with fail
      go_ret
      exact ⟨_, _, _, rfl, HD.out, hend⟩
end Go.Proofs.YtbhgbifliihlbaaGreat
namespace Go.Proofs.YtbhgbifliihlbaaGreat
open Go.RowKit Go.Sort Go.Maps EchM

set_option maxRecDepth 8000 in
set_option maxHeartbeats 8000000 in
theorem isum (p : Int) (m : Nat) (kk : Int) (v : Value) (Ls : List (List Tm)) (w : World) (h0 : 1 ≤ Ls.length) (hl : Ls.length ≤ 1000) (hV : ∀ X ∈ Ls, Valid p m X) (hk0 : 0 ≤ kk) (hk1 : kk < p) (hS : SlPn w p m v Ls) :
    Calls Tryz.prog 47 #[v, .int .i64 kk] w fun e w' => ∃ v' S, e = .returned (.agg #[.int .i64 p, .int .i64 (m : Int), v']) ∧ OwnP w' w.heap.size v' S ∧ IsP p S (sumK p kk Ls) ∧ Below w.heap.size w w' := by
  have hp2 : 2 ≤ p := (hV Ls[0] (List.getElem_mem (by omega))).p2
  have hp13 : p ≤ 13 := (hV Ls[0] (List.getElem_mem (by omega))).p13
  obtain ⟨a, cap, rfl, _⟩ := id hS
  obtain ⟨bl, off, _, rfl, hbl, _, _⟩ := SlP.nth hS (k := 0) (by omega)
  rw [List.length_map] at hS ⊢
  obtain ⟨R, hR, hbR, ⟨hRs, hRs2⟩, rr⟩ : ∃ R, R = w.alloc (.cells #[.int .i64 0, .int .i64 0, .slice none 0 0] 39) ∧ Below w.heap.size w R ∧ (R.heap.size ≤ w.heap.size + 1 ∧ w.heap.size + 1 ≤ R.heap.size) ∧ R.rowIs w.heap.size 39 3 (polyF 0 0 (.slice none 0 0)) := ⟨_, rfl, box1 _ _, ⟨by simp, by simp⟩, zbox w⟩
  have hmm := @run_makeMap Tryz.prog
  have hm := World.ownsMap_made (H := Unit) R Tryz.prog 55 (plainElem Tryz.prog 2)
  obtain ⟨V, hV1, hbV, hVs1⟩ : ∃ V, V = R.alloc (.map #[] 0) ∧ Below R.heap.size R V ∧ R.heap.size + 1 ≤ V.heap.size := ⟨_, rfl, box1 _ _, by simp⟩
  rw [← hV1] at hm
  have hbwV := hbR.trans (hbV.mono hbR.size)
  have rrV := rowIs_below rr hbV rr.lt
  have HV := Lib.hid hV
  have hRw : w.heap.size ≤ R.heap.size := hbR.size
  clear hV rr
  go_enter Tryz.func47, Tryz.ntmps47
  go_upto_region 1 with fail
  rw [← hR]
  clear hR
  go_wp2_with fail
  rw [← hV1]
  clear hV1 hmm
  go_loopw [11] (fun i wr => ∃ (k : Nat) (D : DataW Unit), k ≤ Ls.length ∧ i = .int .i64 k ∧ Hid (∀ e, byte3 e → cf D e = sumK p kk (Ls.take k) e) ∧ MapE wr R.heap.size (k * 2197) D ∧ V.grownBy wr (some R.heap.size)) (fun i _ => Ls.length - (intOf i).toNat)
  case atStart => exact ⟨0, _, by omega, rfl, Lib.hid (fun e _ => by rw [cf_empty]; exact (sumK_nil p kk e).symm), by simpa using hm, World.grownBy.refl _ _⟩
  case round =>
    clear hm
    obtain ⟨k, D, hk, rfl, HD, hM, hgr⟩ := hrel
    have hend := hbwV.grown hgr hbwV.size (fun q hq => by simp at hq; omega)
    have hSr := hS.below hend
    by_cases hlt : k < Ls.length
    · have hlt' : (k : Int) < (Ls.length : Int) := by omega
      obtain ⟨b', off', uu, hbe, _, hmm, c0, c1, c2, hT⟩ := SlP.nth hSr hlt
      simp at hbe
      obtain ⟨rfl, rfl⟩ := hbe
      have HVX := Lib.hid (HV.out Ls[k] (List.getElem_mem hlt))
      have hXl : Ls[k].length ≤ 2197 := HVX.out.isP.len
      have HB := Lib.hid (fun e => sumK_bound (p := p) (k := kk) hp2 (Ls.take k) e)
      have HN := Lib.hid (fun e => (sumK_snoc p kk Ls[k] (Ls.take k) e).trans (by rw [← List.take_succ_eq_append_getElem hlt]))
      generalize Ls[k] = X at *
      obtain ⟨ua, uc, rfl, _⟩ := id hT
      obtain ⟨V2, hV2, hbV2, _, rq⟩ := newbox wr p (m : Int) (.slice ua X.length uc)
      have hM2 := hM.later hbV2
      have hT2 := hT.below hbV2
      have hg2 := hgr.trans (gBelow hbV2)
      obtain ⟨⟨q0, q1, q2⟩, _⟩ := poly3 rq
      clear hmm hT
      go_upto_region 5 with fail
      rw [← hV2]
      clear hV2 c0 c1 c2
      go_wp2_with fail
      ((with_reducible refine (addTimes_any p (m : Int) kk _ X V2 R.heap.size (k * 2197) D (sumK p kk (Ls.take k)) (by omega) hT2 HVX.out hM2 (by omega) HD.out (fun e _ => HB.out e) hk0 hk1).mono ?_); rintro e w3 ⟨D3, rfl, hM3, hD3, hg3⟩)
      have HD3 : Hid (∀ e, byte3 e → cf D3 e = sumK p kk (Ls.take (k + 1)) e) := Lib.hid (fun e he => (hD3 e he).trans (HN.out e))
      have hM4 := hM3.mono (show k * 2197 + X.length ≤ (k + 1) * 2197 by omega)
      have hg4 := hg2.trans hg3
      clear q0 q1 q2 hM3 hD3 hg3 hM2 hg2 hM rq hT2
      go_wp2_with fail
      go_roundw
      case rel => exact ⟨k + 1, _, by omega, by go_num, HD3, hM4, hg4⟩
      case measure => simp [intOf]; omega
    · obtain rfl : k = Ls.length := by omega
      have HD2 : Hid (∀ e, byte3 e → cf D e = sumK p kk Ls e) := Lib.hid (by have := HD.out; rwa [List.take_length] at this)
      have HB := Lib.hid (fun e => sumK_bound (p := p) (k := kk) hp2 Ls e)
      have HG := Lib.hid (fun e he => sumK_deg (k := kk) (e := e) HV.out he)
      have HPO := Lib.hid (fun w (hME : MapE w R.heap.size (Ls.length * 2197) D) => polyOf_any sort_says p (m : Int) R.heap.size (Ls.length * 2197) D w hME (by omega) (fun e he hc => by
        rw [HD2.out e he] at hc
        exact HG.out e hc))
      have HGD := Lib.hid (fun (S : List Tm) (h : Good D S) => show IsP p S (sumK p kk Ls) from h.isP HD2.out (fun e _ => HB.out e) (fun e _ hc => HG.out e hc))
      obtain ⟨b', off', uu, hbe, _, hmm, c0, c1, c2, hT⟩ := SlP.nth hSr (k := 0) (by omega)
      simp at hbe
      obtain ⟨rfl, rfl⟩ := hbe
      rw [Nat.zero_mul, Nat.add_zero] at c0 c1
      have rr2 := rowG rrV hgr (by omega)
      have hMd : MapE wr.drew R.heap.size (Ls.length * 2197) D := hM.later (Below.same _).drew
      have hl0 : (0 : Int) < (Ls.length : Int) := by omega
      clear hmm hT c2 HD HD2 hM
      go_wp2_with fail
      go_region_with
        ((go_at_call 71; (with_reducible refine (HPO.out _ hMd).mono ?_); rintro e w13 ⟨v13, S13, rfl, ho13, hg13, hb13⟩; have HB13 : Below wr.heap.size wr w13 := (Below.same _).drew.trans hb13; have hP13 := Lib.hid (HGD.out S13 hg13); (obtain ⟨sa13, sc13, rfl⟩ := owns_slice ho13); have rr13 := rowIs_below rr2 HB13 rr2.lt; (obtain ⟨⟨e130, e131, e132⟩, f130, f131, f132⟩ := poly3 rr13)))
      all_goals
        obtain ⟨a0, a1, a2, a3, a4⟩ := fill_box (w := w) (base := wr.drew.heap.size) rr13 ho13 hend.size (hend.trans (HB13.mono hend.size)) (Nat.le_refl _) p (m : Int)
        have A0 := Lib.hid a0
        have A1 := Lib.hid a1
        have A2 := Lib.hid a2
        have A3 := Lib.hid a3
        have A4 := Lib.hid a4
        clear a0 a1 a2 a3 a4
        go_wp2_with fail
        exact bodyPost_ret (v := .agg #[.int .i64 p, .int .i64 (m : Int), .slice sa13 S13.length sc13]) (by simp [results, Tryz.results47, go_sem, A0.out, A1.out, A2.out]) rfl ⟨_, S13, rfl, A3.out, hP13.out, A4.out⟩
end Go.Proofs.YtbhgbifliihlbaaGreat
namespace Go.Proofs.YtbhgbifliihlbaaGreat
open Go.RowKit Go.Sort Go.Maps EchM

/-- The first term. -/
def hdT (ts : List Tm) : Tm := ts.headD (0, 0, 0, 0)
theorem hdT_mem {ts : List Tm} (h : ts ≠ []) : hdT ts ∈ ts := by
  cases ts with
  | nil => exact absurd rfl h
  | cons t r => simp [hdT]
theorem chP_hd {p : Int} {xs D : List Tm} (h0 : xs ≠ []) (h1 : D ≠ []) : chP p xs D = (hdT D).2.2.2 * invP p (hdT xs).2.2.2 % p := by
  cases xs with
  | nil => exact absurd rfl h0
  | cons t r =>
    cases D with
    | nil => exact absurd rfl h1
    | cons s r' => rfl
theorem chK_hd {p : Int} {xs D : List Tm} (h0 : xs ≠ []) : chK p xs D = atL D (tmE (hdT xs)) * invP p (hdT xs).2.2.2 % p := by
  cases xs with
  | nil => exact absurd rfl h0
  | cons t r => rfl
/-- The first term in memory. -/
theorem terms0 {w : World} {v : Value} {ts : List Tm} (h : SliceT w v ts) (h0 : ts ≠ []) : ∃ b off cap, v = .slice (some ⟨b, off, none⟩) ts.length cap ∧ b < w.heap.size ∧
    (w.cell? ⟨b, off, none⟩ = some (.int .u8 (hdT ts).1) ∧ w.cell? ⟨b, off + 1, none⟩ = some (.int .u8 (hdT ts).2.1) ∧ w.cell? ⟨b, off + 2, none⟩ = some (.int .u8 (hdT ts).2.2.1)) ∧ w.cell? ⟨b, off + 3, none⟩ = some (.int .i64 (hdT ts).2.2.2) := by
  cases ts with
  | nil => exact absurd rfl h0
  | cons t r =>
    obtain ⟨a, cap, rfl, h | ⟨b, off, rfl, hlt, hT⟩⟩ := h
    · cases h
    · obtain ⟨c0, c1, c2, c3⟩ := hT 0 (by simp)
      rw [Nat.zero_mul, Nat.add_zero] at c0 c1 c2 c3
      exact ⟨b, off, cap, rfl, hlt, ⟨c0, c1, c2⟩, c3⟩
/-- A slice of one polynomial. -/
theorem one_sl {w : World} {p : Int} {m : Nat} {u : Value} {A : List Tm} (hA : SliceT w u A) : SlPn (w.alloc (.cells #[.int .i64 p, .int .i64 (m : Int), u] 39)) p m (.slice (some ⟨w.heap.size, 0, none⟩) 1 1) [A] := by
  have hb := box1 w (.cells #[.int .i64 p, .int .i64 (m : Int), u] 39)
  have hr := World.rowIs_alloc w #[Value.int .i64 p, .int .i64 (m : Int), u] 39 (fun i => (#[Value.int .i64 p, .int .i64 (m : Int), u] : Array Value).getD i undef) (fun i hi => by simp at hi; match i, hi with | 0, _ => rfl | 1, _ => rfl | 2, _ => rfl)
  refine ⟨some ⟨w.heap.size, 0, none⟩, 1, rfl, .inr ⟨w.heap.size, 0, rfl, hr.lt, fun k hk => ?_⟩⟩
  match k, hk with
  | 0, _ => exact ⟨u, hr.cell (i := 0) (by simp), hr.cell (i := 1) (by simp), hr.cell (i := 2) (by simp), hA.below hb⟩

set_option maxRecDepth 8000 in
set_option maxHeartbeats 8000000 in
theorem ifactor (p : Int) (m : Nat) (u v : Value) (xs D : List Tm) (w : World) (hX : Valid p m xs) (hD : Valid p m D) (hp : PrimeS p) (h0 : xs ≠ []) (h1 : D ≠ []) (hU : SliceT w u xs) (hS : SliceT w v D) :
    Calls Tryz.prog 29 #[.agg #[.int .i64 p, .int .i64 (m : Int), u], .agg #[.int .i64 p, .int .i64 (m : Int), v]] w fun e w' => e = .returned (.tuple #[.int .i64 (chP p xs D), .bool (chB p xs D)]) ∧ Below w.heap.size w w' := by
  have h2 := hX.p2
  have h13 := hX.p13
  obtain ⟨W, hW, hbW, ⟨hWs1, hWs2⟩, rx, ry⟩ := pair2 w p (m : Int) u p (m : Int) v
  have hUW := hU.below hbW
  have hSW := hS.below hbW
  obtain ⟨b, off, cu, rfl, hb, _, c3⟩ := terms0 hUW h0
  obtain ⟨b', off', cv, rfl, hb', _, d3⟩ := terms0 hSW h1
  have hmx := hX.mem _ (hdT_mem h0)
  have hmd := hD.mem _ (hdT_mem h1)
  have HP := Lib.hid (chP_hd (p := p) h0 h1)
  have HB := Lib.hid (ch_same hX hD hp h0 h1).1
  obtain ⟨a, ha⟩ : ∃ a, (hdT xs).2.2.2 = a := ⟨_, rfl⟩
  obtain ⟨d, hd⟩ : ∃ d, (hdT D).2.2.2 = d := ⟨_, rfl⟩
  rw [ha] at c3 hmx HP
  rw [hd] at d3 hmd HP
  have hinv := inv_one hp (x := a) (by omega) (by omega)
  have kI : ∀ dd os, Calls Tryz.prog 45 #[.int .i64 p, .int .i64 a] (grow (redrawn W dd) os) fun e w'' => e = .returned (.int .i64 (invP p a)) ∧ ∃ q : Regrown, w'' = grow (redrawn W q.d) q.os := fun dd os => by
    rw [← hinv]; exact regrown_same (invmod p a _ h2 h13 (by omega))
  obtain ⟨i0, i1⟩ := (invP_ok hp (x := a) (by omega) (by omega)).2
  obtain ⟨I, hI⟩ : ∃ I, invP p a = I := ⟨_, rfl⟩
  rw [hI] at kI HP i0 i1
  obtain ⟨f0, f1⟩ := eprod_fit (a := d) (b := I) h13 (by omega) (by omega)
  obtain ⟨g0, g1⟩ := emod_small (p := p) (a := d * I) h2
  have hdm := hmd.2
  clear hinv hI ha hd hmx hmd hU hS
  obtain ⟨⟨x0, x1, x2⟩, _⟩ := poly3 rx
  obtain ⟨⟨y0, y1, y2⟩, _⟩ := poly3 ry
  have e0 := cell_regrown x0
  have e1 := cell_regrown x1
  have e2 := cell_regrown x2
  have e3 := cell_regrown y0
  have e4 := cell_regrown y1
  have e5 := cell_regrown y2
  have e6 := cell_regrown c3
  have e7 := cell_regrown d3
  have hl1 : (0 : Int) < (xs.length : Int) := by have := List.length_pos_iff.2 h0; omega
  have hl2 : (0 : Int) < (D.length : Int) := by have := List.length_pos_iff.2 h1; omega
  have HX := Lib.hid hX
  have hxl : xs.length ≤ 2197 := hX.isP.len
  have hdl : D.length ≤ 2197 := hD.isP.len
  clear x0 x1 x2 y0 y1 y2 c3 d3 hX hD h0 h1
  go_enter Tryz.func29, Tryz.ntmps29
  go_upto_region 1 with fail
  rw [← hW]
  clear hW
  refine wp_region_quiet_below (by kernel_rfl) (by kernel_rfl) ?_
  repeat (go_big_quiet_step (with_reducible exact kI _ _))
  refine wpQuiet_nil ?_
  intro _ hw'
  obtain ⟨⟨dq, osq⟩, hw''⟩ := hw'
  subst hw''
  have hbq := below_regrown W dq osq
  have hbw := hbW.trans (hbq.mono hbW.size)
  have hUq := hUW.below hbq
  have hSq := hSW.below hbq
  have rxq := rowIs_below rx hbq rx.lt
  have ryq := rowIs_below ry hbq ry.lt
  generalize grow (redrawn W dq) osq = w1 at *
  rw [← HP.out] at g0 g1
  rw [← HP.out]
  clear e0 e1 e2 e3 e4 e5 e6 e7 kI hbq rx ry hUW hSW
  obtain ⟨K, hK⟩ : ∃ K, chP p xs D = K := ⟨_, rfl⟩
  have HKK := Lib.hid hK
  rw [hK] at HB g0 g1 ⊢
  clear HP hK
  obtain ⟨⟨x0, x1, x2⟩, _⟩ := poly3 rxq
  obtain ⟨⟨y0, y1, y2⟩, _⟩ := poly3 ryq
  obtain ⟨BX, hBX⟩ : ∃ BX : Obj, BX = .cells #[.int .i64 p, .int .i64 (m : Int), .slice (some ⟨b, off, none⟩) xs.length cu] 39 := ⟨_, rfl⟩
  have hbd : Below w1.heap.size w1 (w1.alloc BX).drew := (box1 w1 BX).drew
  have hSV : SlPn (w1.alloc BX).drew p m (.slice (some ⟨w1.heap.size, 0, none⟩) 1 1) [xs] := by rw [hBX]; exact (one_sl hUq).below (Below.same _).drew
  have hSd : SliceT (w1.alloc BX).drew (.slice (some ⟨b', off', none⟩) D.length cv) D := hSq.below hbd
  have hy1 : w.heap.size + 1 < w1.heap.size := ryq.lt
  have Y0 := (hbd.cell (p := ⟨w.heap.size + 1, 0, none⟩) hy1).trans y0
  have Y1 := (hbd.cell (p := ⟨w.heap.size + 1, 1, none⟩) hy1).trans y1
  have Y2 := (hbd.cell (p := ⟨w.heap.size + 1, 2, none⟩) hy1).trans y2
  rw [hBX] at hbd hSV hSd Y0 Y1 Y2
  clear hBX
  go_wp2_with fail
  go_region_with (first
    | (go_at_call 47; (with_reducible refine (isum p m K _ [xs] _ (by simp) (by simp) (fun Y hY => by simp at hY; subst hY; exact HX.out) g0 g1 hSV).mono ?_); rintro e w14 ⟨v14, S14, rfl, ho14, hI14, hb14⟩; have HB14 : Below w1.heap.size w1 w14 := hbd.trans (hb14.mono hbd.size); have Q0 := (HB14.cell (p := ⟨w.heap.size + 1, 0, none⟩) hy1).trans y0; have Q1 := (HB14.cell (p := ⟨w.heap.size + 1, 1, none⟩) hy1).trans y1; have Q2 := (HB14.cell (p := ⟨w.heap.size + 1, 2, none⟩) hy1).trans y2)
    | (go_at_call 46; (with_reducible refine (isame p (m : Int) p (m : Int) _ _ S14 D _ (Nat.le_trans hI14.len (by omega)) (by omega) (OwnP.slice ho14) (hSq.below HB14)).mono ?_); rintro e w15 ⟨rfl, hb15⟩))
  all_goals
    have HE : Hid (sameT S14 D = chB p xs D) := Lib.hid (by rw [← HB.out, hI14.unique (timesT_is HX.out K)])
    have hend := hbw.trans ((HB14.trans (hb15.mono HB14.size)).mono hbw.size)
    go_wp2_with fail
    go_ret2
    exact ⟨by rw [HE.out, HKK.out]; rfl, hend⟩
end Go.Proofs.YtbhgbifliihlbaaGreat
namespace Go.Proofs.YtbhgbifliihlbaaGreat
open Go.RowKit Go.Sort Go.Maps EchM

set_option maxRecDepth 8000 in
set_option maxHeartbeats 8000000 in
theorem sscale (p : Int) (m : Nat) (k : Int) (v : Value) (xs : List Tm) (w : World) (hS : SliceT w v xs) (hV : Valid p m xs) (hk0 : 0 ≤ k) (hk1 : k < p) :
    Calls Tryz.prog 24 #[.agg #[.int .i64 p, .int .i64 (m : Int), v], .int .i64 k] w fun e w' => ∃ v' S, e = .returned (.agg #[.int .i64 p, .int .i64 (m : Int), v']) ∧ OwnP w' w.heap.size v' S ∧ IsP p S (sumK p k [xs]) ∧ Below w.heap.size w w' := by
  obtain ⟨a, cap, rfl, _⟩ := id hS
  obtain ⟨W, hW, hbW, ⟨hWs1, hWs2⟩, rx, rr⟩ := boxes2 w p (m : Int) (.slice a xs.length cap)
  obtain ⟨⟨x0, x1, x2⟩, _⟩ := poly3 rx
  have hbd : Below W.heap.size W W.drew := (Below.same _).drew
  have hSd := (hS.below hbW).below hbd
  have HV := Lib.hid hV
  have HNL := Lib.hid (IsP.nil p)
  clear hV
  go_enter Tryz.func24, Tryz.ntmps24
  go_upto_region 1 with fail
  rw [← hW]
  clear hW
  go_region_with (first
    | (go_at_call 39; (with_reducible refine (empty_any p (m : Int) W.drew).mono ?_); rintro e w5 ⟨rfl, hown5, hb5⟩; have HB5 : Below W.heap.size W w5 := hbd.trans hb5; (obtain ⟨⟨e0, e1, e2⟩, _⟩ := poly3 (rowIs_below rx HB5 rx.lt)); have hE5 : SliceT w5 (.slice (some ⟨W.heap.size + 1, 0, none⟩) 0 0) [] := OwnP.slice (S := []) hown5)
    | (go_at_call 38; (with_reducible refine (specPlus p (m : Int) k _ _ [] xs (fun _ => 0) w5 hE5 (hSd.below hb5) HNL.out HV.out hk0 hk1).mono ?_); rintro e w6 ⟨v6, S6, rfl, ho6, hI6, hb6⟩; have HB6 : Below W.heap.size W w6 := HB5.trans (hb6.mono HB5.size); have rr6 := rowIs_below rr HB6 rr.lt; (obtain ⟨⟨r0, r1, r2⟩, z0, z1, z2⟩ := poly3 rr6); (obtain ⟨s6, k6, rfl⟩ := owns_slice ho6)))
  all_goals
    obtain ⟨a0, a1, a2, a3, a4⟩ := fill_box (w := w) rr6 ho6 (Nat.le_trans hbW.size HB5.size) (hbW.trans (HB6.mono hbW.size)) (by omega) p (m : Int)
    have A0 := Lib.hid a0
    have A1 := Lib.hid a1
    have A2 := Lib.hid a2
    have A3 := Lib.hid a3
    have A4 := Lib.hid a4
    have HI := Lib.hid (hI6.congr (g := sumK p k [xs]) fun e _ => by simp [sumK, sumA])
    clear a0 a1 a2 a3 a4 hI6
    go_wp2_with fail
    exact bodyPost_ret (v := .agg #[.int .i64 p, .int .i64 (m : Int), .slice s6 S6.length k6]) (by simp [results, Tryz.results24, go_sem, A0.out, A1.out, A2.out]) rfl ⟨_, S6, rfl, A3.out, HI.out, A4.out⟩
end Go.Proofs.YtbhgbifliihlbaaGreat
namespace Go.Proofs.YtbhgbifliihlbaaGreat
open Go.RowKit Go.Sort Go.Maps EchM

theorem ch_snoc {F : (Nat → Nat → Int) → Bool} {L : List (Nat → Nat → Int)} {k : Nat} (h : k < L.length) : (L.take (k + 1)).all F = ((L.take k).all F && F L[k]) := by
  rw [List.take_succ_eq_append_getElem h, List.all_append]; simp
theorem ch_map {V : (Nat → Nat → Int) → Int} {L : List (Nat → Nat → Int)} {k : Nat} (h : k < L.length) : (L.take (k + 1)).map V = (L.take k).map V ++ [V L[k]] := by
  rw [List.take_succ_eq_append_getElem h, List.map_append]; rfl

set_option maxRecDepth 8000 in
set_option maxHeartbeats 8000000 in
theorem ichar (p n : Int) (v : Value) (L : List (Nat → Nat → Int)) (q d : Int) (u : Value) (xs : List Tm) (w : World) (hl : L.length ≤ 1048576) (hS : SlM w v L) (hby : ∀ x ∈ L, Byt x) (hxl : xs.length ≤ 1048576) (hU : SliceT w u xs) (hxb : ∀ t ∈ xs, tmByte t) :
    Calls Tryz.prog 9 #[.agg #[.int .i64 p, .int .i64 n, v], .agg #[.int .i64 q, .int .i64 d, u]] w fun e w' => ∃ v', e = .returned (.tuple #[v', .int .i64 (chC p n L q d xs)]) ∧ OwnV w' w.heap.size v' (chL p n L q d xs) ∧ Below w.heap.size w w' := by
  obtain ⟨i0, hi, hz0, hz1, hz2⟩ := info_parts einfoI
  obtain ⟨W, hW, hbW, ⟨hWs1, hWs2⟩, rg, rx⟩ := boxGP w p n v q d u
  have hSW := hS.below hbW
  have hUW := hU.below hbW
  obtain ⟨a, cap, rfl, _⟩ := id hS
  obtain ⟨ua, uc, rfl, _⟩ := id hU
  obtain ⟨g0, g1, g2⟩ := gcells rg
  obtain ⟨⟨x0, x1, x2⟩, _⟩ := poly3 rx
  have HBY := Lib.hid hby
  have HXB := Lib.hid hxb
  clear hby hxb
  go_enter Tryz.func9, Tryz.ntmps9
  go_wp2_with fail
  rw [← hW]
  clear hW
  ((with_reducible refine (icode3 p n _ L q d _ xs W hl hSW HBY.out hxl hUW HXB.out).mono ?_); rintro e w1 ⟨rfl, hb1⟩)
  have hbw1 := hbW.trans (hb1.mono hbW.size)
  have rg1 := erow_below rg hb1 rg.lt
  have rx1 := erow_below rx hb1 rx.lt
  have hS1 := hSW.below hb1
  have hU1 := hUW.below hb1
  clear g0 g1 g2 x0 x1 x2 rg rx
  by_cases hc : actC p n L q d xs = 0
  case neg =>
    have HO := Lib.hid (ch_act hc)
    obtain ⟨C, hC⟩ : ∃ C, actC p n L q d xs = C := ⟨_, rfl⟩
    rw [hC] at hc HO ⊢
    have hc' : (C != 0) = true := by simpa using hc
    clear hc hC
    go_wp2_with fail
    go_ret2
    exact ⟨_, by rw [HO.out.1]; rfl, by rw [HO.out.2]; exact OwnV.none _ _, hbw1⟩
  case pos =>
    obtain ⟨m', hm', _, _, _, _, hMV⟩ := isGrp_mats HBY.out (actC_zero hc).1
    have HNO := Lib.hid (fun x hx hf => ch_no (x := x) hc hx hf)
    have HYE := Lib.hid (fun hx hf => ch_yes hc hx hf)
    have HNI := Lib.hid (fun hx => ch_nil hc hx)
    rw [hc]
    obtain ⟨m, rfl, rfl, rfl, hG⟩ := grpP_of HBY.out HXB.out hc
    obtain rfl : m = m' := by omega
    simp only [Int.toNat_natCast] at HNO HYE
    clear hc hm'
    obtain ⟨⟨x0, x1, x2⟩, _⟩ := poly3 rx1
    by_cases hx0 : xs = []
    · have HE := Lib.hid (HNI.out hx0)
      have hx0' : ((xs.length : Int) == 0) = true := by simp [hx0]
      have hx0z : (xs.length : Int) = 0 := by simp [hx0]
      clear hx0
      go_wp2_with fail
      go_ret2
      exact ⟨_, by rw [HE.out.1]; rfl, by rw [HE.out.2]; exact OwnV.none _ _, hbw1⟩
    have hx0' : ((xs.length : Int) == 0) = false := by simpa using hx0
    have HX0 := Lib.hid hx0
    clear hx0
    obtain ⟨g0, g1, g2⟩ := gcells rg1
    have HAC := Lib.hid (iactions q m (.slice a L.length cap) L w1 hl hS1 hG.mat)
    have HG := Lib.hid hG
    have HMV := Lib.hid hMV
    have hl48 := hG.l48
    have hp2 := hG.p2
    clear hG hMV
    go_wp2_with fail
    ((with_reducible refine HAC.out.mono ?_); rintro e w2 ⟨v2, rfl, hA2, hb2⟩)
    have hbw2 := hbw1.trans (hb2.mono hbw1.size)
    have rx2 := rowIs_below rx1 hb2 rx1.lt
    have hU2 := hU1.below hb2
    obtain ⟨gb, gc, rfl, hgl, hAc⟩ := id hA2
    have HAA := Lib.hid (fun w' (hb : Below w2.heap.size w2 w') => (fun k hk => by
      obtain ⟨B, hc, hB⟩ := hAc k hk
      exact ⟨B, (hb.cell (p := ⟨gb, k, none⟩) hgl).trans hc, hB.below hb⟩ : ∀ (k : Nat) (h : k < L.length), ∃ B, w'.cell? ⟨gb, k, none⟩ = some (actV B) ∧ ActW w' B q m L[k]))
    clear g0 g1 g2 x0 x1 x2 HAC hA2 hAc rg1 hS1 hSW hUW hb1 hb2 hbw1 hbW hU1 rx1
    go_wp2_with fail
    go_loopw [25, 7] (fun i nv wr => ∃ (k : Nat) (sv : Value), k ≤ L.length ∧ i = .int .i64 k ∧ nv = sv ∧ OwnL wr w2.heap.size sv ((L.take k).map (chV q m xs)) ∧ Hid ((L.take k).all (chF q m xs) = true) ∧ Below w2.heap.size w2 wr) (fun i _ _ => L.length - (intOf i).toNat)
    case atStart => exact ⟨0, _, by omega, rfl, rfl, World.ownsRow_nil _ _ _ _, Lib.hid (by simp), Below.refl _ _⟩
    case round =>
      obtain ⟨k, sv, hk, rfl, hsv, hO, HU, hbr⟩ := hrel
      have hkl : ((L.take k).map (chV q m xs)).length ≤ k := by simp; omega
      obtain ⟨sa, sc, rfl⟩ := hO.shape
      subst u7
      by_cases hlt : k < L.length
      · have hlt' : (k : Int) < (L.length : Int) := by omega
        obtain ⟨B, c0, hB⟩ := HAA.out wr hbr k hlt
        have HA := Lib.hid (fun w' h1 h2 => HG.out.act (List.getElem_mem hlt) B (.slice ua xs.length uc) w' h1 h2)
        have HXV := Lib.hid HG.out.valid
        have HDV := Lib.hid (HG.out.ledV (List.getElem_mem hlt))
        have HD0 := Lib.hid (HG.out.led_ne (List.getElem_mem hlt) (HMV.out _ (List.getElem_mem hlt)) HX0.out)
        have HPR := Lib.hid (HMV.out _ (List.getElem_mem hlt)).prime
        have HF : Hid (chF q m xs L[k] = chB q xs (ledF q m xs L[k])) := Lib.hid rfl
        have HV : Hid (chV q m xs L[k] = chK q xs (ledF q m xs L[k])) := Lib.hid rfl
        have HCS := Lib.hid (ch_same HXV.out HDV.out HPR.out HX0.out HD0.out)
        have HNOk := Lib.hid (fun h => HNO.out _ (List.getElem_mem hlt) (HF.out.trans h))
        have HALL : Hid ((L.take (k + 1)).all (chF q m xs) = chB q xs (ledF q m xs L[k])) := Lib.hid (by rw [ch_snoc hlt, HU.out, HF.out]; rfl)
        have HMAP : Hid ((L.take (k + 1)).map (chV q m xs) = (L.take k).map (chV q m xs) ++ [chK q xs (ledF q m xs L[k])]) := Lib.hid (by rw [ch_map hlt, HV.out])
        have rxr := rowIs_below rx2 hbr rx2.lt
        obtain ⟨⟨p0, p1, p2⟩, _⟩ := poly3 rxr
        have P0 : wr.drew.cell? ⟨w.heap.size + 1, 0, none⟩ = some (.int .i64 q) := p0
        have P1 : wr.drew.cell? ⟨w.heap.size + 1, 1, none⟩ = some (.int .i64 (m : Int)) := p1
        have P2 : wr.drew.cell? ⟨w.heap.size + 1, 2, none⟩ = some (.slice ua xs.length uc) := p2
        have hz : w.heap.size + 1 < wr.drew.heap.size := rxr.lt
        have hBd : ActW wr.drew B q m L[k] := hB.below (Below.refl _ _).drew
        have hUd : SliceT wr.drew (.slice ua xs.length uc) xs := (hU2.below hbr).below (Below.refl _ _).drew
        generalize ledF q m xs L[k] = D at *
        generalize L[k] = x at *
        obtain ⟨O, hOO⟩ : ∃ O, (L.take k).map (chV q m xs) = O := ⟨_, rfl⟩
        rw [hOO] at HMAP hO hkl ⊢
        clear hOO hB rxr HF HV HU
        go_wp2_with fail
        go_cut [10, 11] (fun s10 s11 wx => s10 = .int .i64 (chP q xs D) ∧ s11 = .bool (chB q xs D) ∧ Below wr.heap.size wr wx)
        case first =>
          go_region_with (first
            | (go_at_call 72; (with_reducible refine (HA.out _ hBd hUd).mono ?_); rintro e w3 ⟨v3, rfl, own3, hb3⟩; have Q0 := (hb3.cell (p := ⟨w.heap.size + 1, 0, none⟩) hz).trans P0; have Q1 := (hb3.cell (p := ⟨w.heap.size + 1, 1, none⟩) hz).trans P1; have Q2 := (hb3.cell (p := ⟨w.heap.size + 1, 2, none⟩) hz).trans P2)
            | (go_at_call 29; (with_reducible refine (ifactor q m _ _ xs D _ HXV.out HDV.out HPR.out HX0.out HD0.out (hUd.below hb3) (OwnP.slice own3)).mono ?_); rintro e w4 ⟨rfl, hb4⟩))
          all_goals
            go_wp2_with fail
            go_meet
            exact ⟨rfl, rfl, (Below.refl _ _).drew.trans (hb3.trans (hb4.mono hb3.size))⟩
        case rest =>
          rename World => w4
          obtain ⟨rfl, rfl, hb4⟩ := hcut
          have hO4 := hO.below hb4
          have hbr4 := hbr.trans (hb4.mono hbr.size)
          have hs4 := hbr4.size
          have HCV := Lib.hid HCS.out.2
          clear p0 p1 p2 P0 P1 P2 hz hBd hUd hO HA c0 HCS
          cases hf : chB q xs D
          · have HE := Lib.hid (HNOk.out hf)
            have hend := hbw2.trans (hbr4.mono hbw2.size)
            clear hf HALL HMAP HCV
            go_wp2_with fail
            go_ret2
            exact ⟨_, by rw [HE.out.1]; rfl, by rw [HE.out.2]; exact OwnV.none _ _, hend⟩
          · have HN := Lib.hid (show O ++ [chP q xs D] = (L.take (k + 1)).map (chV q m xs) by rw [HMAP.out, HCV.out hf])
            have HU2 : Hid ((L.take (k + 1)).all (chF q m xs) = true) := Lib.hid (HALL.out.trans hf)
            obtain ⟨K, hK⟩ : ∃ K, chP q xs D = K := ⟨_, rfl⟩
            rw [hK] at HN ⊢
            clear hf hK HALL HMAP HCV
            go_wp2_with (at_builtin; refine wpList_append_lies _ rfl _ _ 30 rfl w2.heap.size 2 i0 _ 1 8 Tryz.underlying30 hi hz0 hz1 hz2 rfl (by decide) (.slice sa O.length sc) O.length (valsI O) rfl (World.ownsRow.alloc hO4 _) ⟨w4.heap.size, 0, none⟩ 1 1 [.int .i64 K] rfl rfl (World.news_of_block (cs := #[.int .i64 K]) (t := 2) (fr := (0, 0)) (heap_alloc_new _ _)) (by simp [Value.oneCell']) (by omega) (by unfold maxLen; omega) (by omega) (by simp; omega) _ rfl ?_)
            intro gg cap3 w5 hown3 hgrow3 hat3 hlt3
            have hb5 : Below w2.heap.size w2 w5 := (hbr4.alloc hbr4.size (.cells #[.int .i64 K] 2)).grown hgrow3 (by simp; omega) (fun q hq => (World.ownsRow.lt hO4 q hq).1)
            have hO5 : OwnL w5 w2.heap.size (.slice (some ⟨gg, 0, none⟩) (O.length + 1) cap3) (O ++ [K]) := by
              unfold OwnL
              rw [← valsI_snoc, List.length_append]
              exact hown3
            clear hown3 hgrow3 hat3
            go_wp2_with fail
            go_roundw
            case rel => exact ⟨k + 1, _, by omega, by go_num, rfl, by rw [← HN.out]; exact hO5, HU2, hb5⟩
            case measure => simp [intOf]; omega
      · obtain rfl : k = L.length := by omega
        rw [List.take_length] at hO HU hkl ⊢
        have HE := Lib.hid (HYE.out HX0.out HU.out)
        have HO : Hid (OwnV wr w.heap.size (.slice sa (L.map (chV q m xs)).length sc) (L.map (chV q m xs))) := Lib.hid (hO.mono hbw2.size).toV
        have hend := hbw2.trans (hbr.mono hbw2.size)
        obtain ⟨lo, hlo⟩ : ∃ lo, (L.map (chV q m xs)).length = lo := ⟨_, rfl⟩
        rw [hlo] at HO ⊢
        clear hO hlo HU hkl
        go_wp2_with fail
        go_ret2
        exact ⟨.slice sa lo sc, by rw [HE.out.1]; rfl, by rw [HE.out.2]; exact HO.out, hend⟩
end Go.Proofs.YtbhgbifliihlbaaGreat
namespace Go.Proofs.YtbhgbifliihlbaaGreat
open Go.RowKit Go.Sort Go.Maps EchM

set_option maxRecDepth 8000 in
set_option maxHeartbeats 8000000 in
theorem schar (p n : Int) (v : Value) (L : List (Nat → Nat → Int)) (q d : Int) (u : Value) (xs : List Tm) (w : World) (hl : L.length ≤ 1048576) (hS : SlM w v L) (hby : ∀ x ∈ L, Byt x) (hxl : xs.length ≤ 1048576) (hU : SliceT w u xs) (hxb : ∀ t ∈ xs, tmByte t) :
    Calls Tryz.prog 6 #[.agg #[.int .i64 p, .int .i64 n, v], .agg #[.int .i64 q, .int .i64 d, u]] w fun e w' => ∃ v', e = .returned (.tuple #[v', .int .i64 (chC p n L q d xs)]) ∧ Sl w' v' (chL p n L q d xs) ∧ Below w.heap.size w w' := by
  obtain ⟨i0, hi, hz0, hz1, hz2⟩ := info_parts einfoI
  obtain ⟨W, hW, hbW, ⟨hWs1, hWs2⟩, rg, rx⟩ := boxGP w p n v q d u
  have hSW := hS.below hbW
  have hUW := hU.below hbW
  obtain ⟨a, cap, rfl, _⟩ := id hS
  obtain ⟨ua, uc, rfl, _⟩ := id hU
  obtain ⟨g0, g1, g2⟩ := gcells rg
  obtain ⟨⟨x0, x1, x2⟩, _⟩ := poly3 rx
  have HBY := Lib.hid hby
  have HXB := Lib.hid hxb
  clear hby hxb
  go_enter Tryz.func6, Tryz.ntmps6
  go_wp2_with fail
  rw [← hW]
  clear hW
  ((with_reducible refine (scode3 p n _ L q d _ xs W hl hSW HBY.out hxl hUW HXB.out).mono ?_); rintro e w1 ⟨rfl, hb1⟩)
  have hbw1 := hbW.trans (hb1.mono hbW.size)
  have rg1 := erow_below rg hb1 rg.lt
  have rx1 := erow_below rx hb1 rx.lt
  have hS1 := hSW.below hb1
  have hU1 := hUW.below hb1
  clear g0 g1 g2 x0 x1 x2 rg rx
  by_cases hc : actC p n L q d xs = 0
  case neg =>
    have HO := Lib.hid (ch_act hc)
    obtain ⟨C, hC⟩ : ∃ C, actC p n L q d xs = C := ⟨_, rfl⟩
    rw [hC] at hc HO ⊢
    have hc' : (C != 0) = true := by simpa using hc
    have hc'' : (C == 0) = false := by simpa using hc
    clear hc hC
    go_wp2_with fail
    go_ret2
    exact ⟨_, by rw [HO.out.1]; rfl, by rw [HO.out.2]; exact ⟨none, 0, rfl, .inl rfl⟩, hbw1⟩
  case pos =>
    obtain ⟨m', hm', _, _, _, _, hMV⟩ := isGrp_mats HBY.out (actC_zero hc).1
    have HNO := Lib.hid (fun x hx hf => ch_no (x := x) hc hx hf)
    have HYE := Lib.hid (fun hx hf => ch_yes hc hx hf)
    have HNI := Lib.hid (fun hx => ch_nil hc hx)
    rw [hc]
    obtain ⟨m, rfl, rfl, rfl, hG⟩ := grpP_of HBY.out HXB.out hc
    obtain rfl : m = m' := by omega
    simp only [Int.toNat_natCast] at HNO HYE
    clear hc hm'
    obtain ⟨⟨x0, x1, x2⟩, _⟩ := poly3 rx1
    by_cases hx0 : xs = []
    · have HE := Lib.hid (HNI.out hx0)
      have hx0' : ((xs.length : Int) == 0) = true := by simp [hx0]
      have hx0z : (xs.length : Int) = 0 := by simp [hx0]
      clear hx0
      go_wp2_with fail
      go_ret2
      exact ⟨_, by rw [HE.out.1]; rfl, by rw [HE.out.2]; exact ⟨none, 0, rfl, .inl rfl⟩, hbw1⟩
    have hx0' : ((xs.length : Int) == 0) = false := by simpa using hx0
    have HX0 := Lib.hid hx0
    clear hx0
    obtain ⟨g0, g1, g2⟩ := gcells rg1
    have HAC := Lib.hid (sall hG (.slice a L.length cap) (.slice ua xs.length uc) w1 hS1 hU1)
    have HG := Lib.hid hG
    have HMV := Lib.hid hMV
    have hl48 := hG.l48
    have hp2 := hG.p2
    have hp13 := hG.p13
    clear hG hMV
    go_wp2_with fail
    ((with_reducible refine HAC.out.mono ?_); rintro e w2 ⟨v2, us, hi2, rfl, hP2, hb2⟩)
    have hbw2 := hbw1.trans (hb2.mono hbw1.size)
    have rx2 := rowIs_below rx1 hb2 rx1.lt
    have rg2 := erow_below rg1 hb2 rg1.lt
    have hU2 := hU1.below hb2
    have hR2 : SlPn w2 q m v2 (allL q m L xs) := hP2.slP
    obtain ⟨pa, pc, hpv⟩ := hP2.shape
    rw [allL_len] at hpv
    subst hpv
    obtain ⟨X, hX, hbX, hXs, hown⟩ : ∃ X, X = w2.alloc (.cells #[] 2) ∧ Below w2.heap.size w2 X ∧ X.heap.size = w2.heap.size + 1 ∧ OwnL X w2.heap.size (.slice (some ⟨w2.heap.size, 0, none⟩) 0 0) ((L.take 0).map (chV q m xs)) := ⟨_, rfl, box1 _ _, by simp, by simpa [OwnL, valsI] using World.ownsRow_made (base := w2.heap.size) (e := 2) (size := 1) w2 #[] 0 (Nat.le_refl _) (by simp [maxLen]) rfl⟩
    clear g0 g1 g2 x0 x1 x2 HAC rg1 hS1 hSW hUW hb1 hb2 hbw1 hbW hU1 rx1 hP2
    go_wp2_with fail
    rw [← hX]
    clear hX
    go_loopw [9, 8] (fun i nv wr => ∃ (k : Nat) (sv : Value), k ≤ L.length ∧ i = .int .i64 k ∧ nv = sv ∧ OwnL wr w2.heap.size sv ((L.take k).map (chV q m xs)) ∧ Hid ((L.take k).all (chF q m xs) = true) ∧ Below w2.heap.size w2 wr) (fun i _ _ => L.length - (intOf i).toNat)
    case atStart => exact ⟨0, _, by omega, rfl, rfl, hown, Lib.hid (by simp), hbX⟩
    case round =>
      clear hown
      obtain ⟨k, sv, hk, rfl, hsv, hO, HU, hbr⟩ := hrel
      have hkl : ((L.take k).map (chV q m xs)).length ≤ k := by simp; omega
      obtain ⟨sa, sc, rfl⟩ := hO.shape
      subst u8
      by_cases hlt : k < L.length
      · have hlt' : (k : Int) < (L.length : Int) := by omega
        obtain ⟨bp, off, uu, rfl, hbp, hmm, c0, c1, c2, hT⟩ := SlP.nth (hR2.below hbr) (k := k) (by rw [allL_len]; exact hlt)
        rw [allL_at q m L xs k hlt] at hT
        clear hmm
        have HXV := Lib.hid HG.out.valid
        have HDV := Lib.hid (HG.out.ledV (List.getElem_mem hlt))
        have HDI := Lib.hid (HG.out.isp (List.getElem_mem hlt))
        have HPR := Lib.hid (HMV.out _ (List.getElem_mem hlt)).prime
        have HF : Hid (chF q m xs L[k] = chB q xs (ledF q m xs L[k])) := Lib.hid rfl
        have HV : Hid (chV q m xs L[k] = chK q xs (ledF q m xs L[k])) := Lib.hid rfl
        have HNOk := Lib.hid (fun h => HNO.out _ (List.getElem_mem hlt) (HF.out.trans h))
        have HALL : Hid ((L.take (k + 1)).all (chF q m xs) = chB q xs (ledF q m xs L[k])) := Lib.hid (by rw [ch_snoc hlt, HU.out, HF.out]; rfl)
        have HMAP : Hid ((L.take (k + 1)).map (chV q m xs) = (L.take k).map (chV q m xs) ++ [chK q xs (ledF q m xs L[k])]) := Lib.hid (by rw [ch_map hlt, HV.out])
        have hl1 : (ledF q m xs L[k]).length ≤ 1048576 := Nat.le_trans (HG.out.len (List.getElem_mem hlt)) (by omega)
        have rxr := rowIs_below rx2 hbr rx2.lt
        have hUr := hU2.below hbr
        obtain ⟨⟨p0, p1, p2⟩, _⟩ := poly3 rxr
        obtain ⟨g0, g1, g2⟩ := gcells (erow_below rg2 hbr rg2.lt)
        generalize ledF q m xs L[k] = D at *
        generalize L[k] = x at *
        obtain ⟨O, hOO⟩ : ∃ O, (L.take k).map (chV q m xs) = O := ⟨_, rfl⟩
        rw [hOO] at HMAP hO hkl ⊢
        clear hOO HF HV HU
        -- the first term
        obtain ⟨tb, toff, tc, hue, htb, ⟨t0, t1, t2⟩, t3⟩ := terms0 hUr HX0.out
        simp at hue
        obtain ⟨rfl, rfl⟩ := hue
        have hmx := HXV.out.mem _ (hdT_mem HX0.out)
        have HK := Lib.hid (chK_hd (p := q) (D := D) HX0.out)
        have hAb := HDI.out.bound (by omega) hmx.1.1
        simp only [tmE] at hAb hmx HK
        obtain ⟨ex, hex⟩ : ∃ e, (hdT xs).1 = e := ⟨_, rfl⟩
        obtain ⟨ey, hey⟩ : ∃ e, (hdT xs).2.1 = e := ⟨_, rfl⟩
        obtain ⟨ez, hez⟩ : ∃ e, (hdT xs).2.2.1 = e := ⟨_, rfl⟩
        obtain ⟨xv, hxv⟩ : ∃ e, (hdT xs).2.2.2 = e := ⟨_, rfl⟩
        rw [hex] at t0 hAb hmx HK
        rw [hey] at t1 hAb hmx HK
        rw [hez] at t2 hAb hmx HK
        rw [hxv] at t3 hmx HK
        have hxv1 := hmx.2
        have kA : ∀ dd os, Calls Tryz.prog 21 #[.agg #[.int .i64 q, .int .i64 (m : Int), uu], .agg #[.int .u8 ex, .int .u8 ey, .int .u8 ez]] (grow (redrawn wr dd) os) fun e w'' => e = .returned (.int .i64 (atL D (ex, ey, ez))) ∧ ∃ r : Regrown, w'' = grow (redrawn wr r.d) r.os := fun dd os =>
          Calls.regrown_of (at_any q (m : Int) uu D ex ey ez _ hl1 (hT.below (below_regrown wr dd os)))
        have kI : ∀ dd os, Calls Tryz.prog 22 #[.int .i64 q, .int .i64 xv] (grow (redrawn wr dd) os) fun e w'' => e = .returned (.int .i64 (invP q xv)) ∧ ∃ r : Regrown, w'' = grow (redrawn wr r.d) r.os := fun dd os =>
          regrown_same ((einv q xv _ hp2 hp13 (by omega)).mono fun _ _ h => ⟨h.1, h.2.symm⟩)
        obtain ⟨i1, i2⟩ := (invP_ok HPR.out (x := xv) (by omega) (by omega)).2
        obtain ⟨I, hI⟩ : ∃ I, invP q xv = I := ⟨_, rfl⟩
        obtain ⟨AT, hAT⟩ : ∃ A, atL D (ex, ey, ez) = A := ⟨_, rfl⟩
        rw [hI] at kI HK i1 i2
        rw [hAT] at kA HK hAb
        obtain ⟨f0, f1⟩ := eprod_fit (a := AT) (b := I) hp13 hAb (by omega)
        obtain ⟨h0, h1⟩ := emod_small (p := q) (a := AT * I) hp2
        have e0 := cell_regrown c0
        have e1 := cell_regrown c1
        have e2 := cell_regrown c2
        have e3 := cell_regrown p0
        have e4 := cell_regrown p1
        have e5 := cell_regrown p2
        have e6 := cell_regrown g0
        have e7 := cell_regrown t0
        have e8 := cell_regrown t1
        have e9 := cell_regrown t2
        have ea := cell_regrown t3
        have hxs0 : (0 : Int) < (xs.length : Int) := by have := List.length_pos_iff.2 HX0.out; omega
        have hkL : (k : Int) < ((L.length : Nat) : Int) := hlt'
        clear hex hey hez hxv hI hAT hmx HDI p0 p1 p2 g0 g1 g2 t0 t1 t2 t3
        go_wp2_with fail
        refine wp_region_quiet_below (by kernel_rfl) (by kernel_rfl) ?_
        repeat (go_big_quiet_step (first | with_reducible exact kA _ _ | with_reducible exact kI _ _))
        refine wpQuiet_nil ?_
        intro _ hw'
        obtain ⟨⟨dq, osq⟩, hw''⟩ := hw'
        subst hw''
        have hbq := below_regrown wr dq osq
        have hbr3 := hbr.trans (hbq.mono hbr.size)
        have rx3 := rowIs_below rx2 hbr3 rx2.lt
        have hU3 := hU2.below hbr3
        have hT3 := hT.below hbq
        have hO3 := hO.below hbq
        have C0 := (hbq.cell (p := ⟨bp, off + k * 3, none⟩) hbp).trans c0
        have C1 := (hbq.cell (p := ⟨bp, off + k * 3 + 1, none⟩) hbp).trans c1
        have C2 := (hbq.cell (p := ⟨bp, off + k * 3 + 2, none⟩) hbp).trans c2
        have hbp3 := Nat.lt_of_lt_of_le hbp hbq.size
        generalize grow (redrawn wr dq) osq = w3 at *
        rw [← HK.out] at h0 h1
        rw [← HK.out]
        obtain ⟨K, hK⟩ : ∃ K, chK q xs D = K := ⟨_, rfl⟩
        have HCB : Hid (chB q xs D = sameT D (timesT q K xs)) := Lib.hid (by rw [← hK]; rfl)
        rw [hK] at HMAP h0 h1 ⊢
        clear e0 e1 e2 e3 e4 e5 e6 e7 e8 e9 ea kA kI c0 c1 c2 hbq HK hK hO hT f0 f1 hAb
        obtain ⟨⟨p0, p1, p2⟩, _⟩ := poly3 rx3
        have hd3 : Below w3.heap.size w3 w3.drew := (Below.refl _ _).drew
        have hUd := hU3.below hd3
        have hTd := hT3.below hd3
        have D0 : w3.drew.cell? ⟨bp, off + k * 3, none⟩ = some (.int .i64 q) := C0
        have D1 : w3.drew.cell? ⟨bp, off + k * 3 + 1, none⟩ = some (.int .i64 (m : Int)) := C1
        have D2 : w3.drew.cell? ⟨bp, off + k * 3 + 2, none⟩ = some uu := C2
        have hbpd : bp < w3.drew.heap.size := hbp3
        go_wp2_with fail
        go_cut [65] (fun s wx => s = .bool (!chB q xs D) ∧ Below w3.heap.size w3 wx)
        case first =>
          go_region_with (first
            | (go_at_call 24; (with_reducible refine (sscale q m K _ xs _ hUd HXV.out h0 h1).mono ?_); rintro e w4 ⟨v4, S4, rfl, ho4, hI4, hb4⟩; have Q0 := (hb4.cell (p := ⟨bp, off + k * 3, none⟩) hbpd).trans D0; have Q1 := (hb4.cell (p := ⟨bp, off + k * 3 + 1, none⟩) hbpd).trans D1; have Q2 := (hb4.cell (p := ⟨bp, off + k * 3 + 2, none⟩) hbpd).trans D2)
            | (go_at_call 23; (with_reducible refine (ssame q m q m _ _ D S4 _ hl1 (Nat.le_trans hI4.len (by omega)) (hTd.below hb4) (OwnP.slice ho4)).mono ?_); rintro e w5 ⟨rfl, hb5⟩))
          all_goals
            have HE : Hid (sameT D S4 = chB q xs D) := Lib.hid (by rw [HCB.out, hI4.unique (timesT_is HXV.out K)])
            go_wp2_with fail
            go_meet
            exact ⟨by rw [HE.out], hd3.trans (hb4.trans (hb5.mono hb4.size))⟩
        case rest =>
          rename World => w6
          obtain ⟨rfl, hb6⟩ := hcut
          have hO4 := hO3.below hb6
          have hbr4 := hbr3.trans (hb6.mono hbr3.size)
          have hs4 := hbr4.size
          clear p0 p1 p2 C0 C1 C2 D0 D1 D2 hUd hTd hO3 HCB
          cases hf : chB q xs D
          · have HE := Lib.hid (HNOk.out hf)
            have hend := hbw2.trans (hbr4.mono hbw2.size)
            clear hf HALL HMAP
            go_wp2_with fail
            go_ret2
            exact ⟨_, by rw [HE.out.1]; rfl, by rw [HE.out.2]; exact ⟨none, 0, rfl, .inl rfl⟩, hend⟩
          · have HU2 : Hid ((L.take (k + 1)).all (chF q m xs) = true) := Lib.hid (HALL.out.trans hf)
            clear hf HALL
            go_wp2_with (at_builtin; refine wpList_append_lies _ rfl _ _ 30 rfl w2.heap.size 2 i0 _ 1 8 Tryz.underlying30 hi hz0 hz1 hz2 rfl (by decide) (.slice sa O.length sc) O.length (valsI O) rfl (World.ownsRow.alloc hO4 _) ⟨w6.heap.size, 0, none⟩ 1 1 [.int .i64 K] rfl rfl (World.news_of_block (cs := #[.int .i64 K]) (t := 2) (fr := (0, 0)) (heap_alloc_new _ _)) (by simp [Value.oneCell']) (by omega) (by unfold maxLen; omega) (by omega) (by simp; omega) _ rfl ?_)
            intro gg cap3 w5 hown3 hgrow3 hat3 hlt3
            have hb5 : Below w2.heap.size w2 w5 := (hbr4.alloc hbr4.size (.cells #[.int .i64 K] 2)).grown hgrow3 (by simp; omega) (fun q hq => (World.ownsRow.lt hO4 q hq).1)
            have hO5 : OwnL w5 w2.heap.size (.slice (some ⟨gg, 0, none⟩) (O.length + 1) cap3) (O ++ [K]) := by
              unfold OwnL
              rw [← valsI_snoc, List.length_append]
              exact hown3
            clear hown3 hgrow3 hat3
            go_wp2_with fail
            go_roundw
            case rel => exact ⟨k + 1, _, by omega, by go_num, rfl, by rw [HMAP.out]; exact hO5, HU2, hb5⟩
            case measure => simp [intOf]; omega
      · obtain rfl : k = L.length := by omega
        rw [List.take_length] at hO HU hkl ⊢
        have HE := Lib.hid (HYE.out HX0.out HU.out)
        have HO : Hid (Sl wr (.slice sa (L.map (chV q m xs)).length sc) (L.map (chV q m xs))) := Lib.hid hO.slice
        have hend := hbw2.trans (hbr.mono hbw2.size)
        obtain ⟨lo, hlo⟩ : ∃ lo, (L.map (chV q m xs)).length = lo := ⟨_, rfl⟩
        rw [hlo] at HO ⊢
        clear hO hlo HU hkl
        go_wp2_with fail
        go_ret2
        exact ⟨.slice sa lo sc, by rw [HE.out.1]; rfl, by rw [HE.out.2]; exact HO.out, hend⟩
end Go.Proofs.YtbhgbifliihlbaaGreat
