/-
  WALKS: what all matrices make of a polynomial, by the model: 'spec.l03All'. Conditions: as each theorem states.
  WALKS: 'impl.StabiliserOfPoly', 'spec.StabiliserOfPoly'. Conditions: the numbers fit their kinds.
  LISTS of numbers in a law: compared, marked, held. Conditions: as each theorem states.
  WALKS of the laws on matrices: copying. Conditions: as each theorem states.
  WALKS of the laws on matrices: comparing. Conditions: as each theorem states.
  WALKS of the laws on groups: copying a list of matrices. Conditions: as each theorem states.
-/
import Derived.Test.YtllklhakbanhaaaGreatQ39
import Derived.Test.YtllklhakbanhaaaGreatQ40
import Derived.Test.YtllklhakbanhaaaGreatQ20
import Derived.Test.YtllklhakbanhaaaGreatQ23
import Derived.Test.YtllklhakbanhaaaGreatQ30
import Derived.OwnWalk
namespace Go.Proofs.YtllklhakbanhaaaGreat
open Go.RowKit Go.Sort Go.Maps EchM

theorem nine_belowF {w w' : World} {b off B : Nat} {x : Nat → Nat → Int} (h : (w.cell? ⟨b, off, none⟩ = some (.int .u8 (x 0 0)) ∧ w.cell? ⟨b, off + 1, none⟩ = some (.int .u8 (x 0 1)) ∧ w.cell? ⟨b, off + 2, none⟩ = some (.int .u8 (x 0 2))) ∧ (w.cell? ⟨b, off + 3, none⟩ = some (.int .u8 (x 1 0)) ∧ w.cell? ⟨b, off + 4, none⟩ = some (.int .u8 (x 1 1)) ∧ w.cell? ⟨b, off + 5, none⟩ = some (.int .u8 (x 1 2))) ∧ (w.cell? ⟨b, off + 6, none⟩ = some (.int .u8 (x 2 0)) ∧ w.cell? ⟨b, off + 7, none⟩ = some (.int .u8 (x 2 1)) ∧ w.cell? ⟨b, off + 8, none⟩ = some (.int .u8 (x 2 2)))) (hb : Below B w w') (hB : b < B) :
    (w'.cell? ⟨b, off, none⟩ = some (.int .u8 (x 0 0)) ∧ w'.cell? ⟨b, off + 1, none⟩ = some (.int .u8 (x 0 1)) ∧ w'.cell? ⟨b, off + 2, none⟩ = some (.int .u8 (x 0 2))) ∧ (w'.cell? ⟨b, off + 3, none⟩ = some (.int .u8 (x 1 0)) ∧ w'.cell? ⟨b, off + 4, none⟩ = some (.int .u8 (x 1 1)) ∧ w'.cell? ⟨b, off + 5, none⟩ = some (.int .u8 (x 1 2))) ∧ (w'.cell? ⟨b, off + 6, none⟩ = some (.int .u8 (x 2 0)) ∧ w'.cell? ⟨b, off + 7, none⟩ = some (.int .u8 (x 2 1)) ∧ w'.cell? ⟨b, off + 8, none⟩ = some (.int .u8 (x 2 2))) := by
  have q : ∀ o, w'.cell? ⟨b, o, none⟩ = w.cell? ⟨b, o, none⟩ := fun o => hb.cell (p := ⟨b, o, none⟩) hB
  obtain ⟨⟨a0, a1, a2⟩, ⟨a3, a4, a5⟩, a6, a7, a8⟩ := h
  exact ⟨⟨(q _).trans a0, (q _).trans a1, (q _).trans a2⟩, ⟨(q _).trans a3, (q _).trans a4, (q _).trans a5⟩, (q _).trans a6, (q _).trans a7, (q _).trans a8⟩
theorem zeroPl (w : World) : (w.alloc (.cells #[] 39)).ownsRow w.heap.size 39 3 (.slice (some ⟨w.heap.size, 0, none⟩) 0 0) 0 [] := by
  simpa using World.ownsRow_made (base := w.heap.size) (e := 39) (size := 3) w #[] 0 (Nat.le_refl _) (by simp [maxLen]) rfl
theorem one_poly (w : World) (p n : Int) (u : Value) : ∀ (j : Nat) (x : Value), ([Value.int .i64 p, .int .i64 n, u] : List Value)[j]? = some x → (w.alloc (.cells #[.int .i64 p, .int .i64 n, u] 39)).cell? ((⟨w.heap.size, 0, none⟩ : Addr).add j) = some x :=
  World.news_of_block (cs := #[.int .i64 p, .int .i64 n, u]) (t := 39) (fr := (0, 0)) (heap_alloc_new w _)

set_option maxRecDepth 8000 in
set_option maxHeartbeats 16000000 in
theorem sall {p : Int} {m : Nat} {L : List (Nat → Nat → Int)} {xs : List Tm} (h : GrpP p m L xs) (v u : Value) (w : World) (hS : SlM w v L) (hU : SliceT w u xs) :
    Calls Tryz.prog 63 #[.agg #[.int .i64 p, .int .i64 (m : Int), v], .agg #[.int .i64 p, .int .i64 (m : Int), u]] w fun e w' => ∃ v' us hi, e = .returned v' ∧ PMk w' w.heap.size hi p m v' us (allL p m L xs) ∧ Below w.heap.size w w' := by
  obtain ⟨i0, hi0, hz0, hz1, hz2⟩ := info_parts infoPoly
  obtain ⟨W, hW, hbW, ⟨hWs1, hWs2⟩, rg, rx⟩ := boxGP w p (m : Int) v p (m : Int) u
  have hl : L.length ≤ 48 := h.l48
  have hUW := hU.below hbW
  obtain ⟨a, cap, rfl, hc⟩ := id hS
  obtain ⟨ua, uc, rfl, _⟩ := id hU
  obtain ⟨X, hX, hbX, hXs, hown⟩ : ∃ X, X = W.alloc (.cells #[] 39) ∧ Below W.heap.size W X ∧ X.heap.size = W.heap.size + 1 ∧ X.ownsRow W.heap.size 39 3 (.slice (some ⟨W.heap.size, 0, none⟩) 0 0) 0 [] := ⟨_, rfl, box1 _ _, by simp, zeroPl W⟩
  have st0 : PMk X W.heap.size W.heap.size p m (.slice (some ⟨W.heap.size, 0, none⟩) 0 0) [] (allL p m (L.take 0) xs) := PMk.nilB hown
  have HG := Lib.hid h
  clear h hown
  go_enter Tryz.func63, Tryz.ntmps63
  go_upto_region 1 with fail
  rw [← hW]
  clear hW
  go_upto_region 2 with fail
  rw [← hX]
  clear hX
  go_wp2_with fail
  go_loopw [6, 5] (fun i vv wr => ∃ (k : Nat) (v : Value) (us : List Value) (hi : Nat), k ≤ L.length ∧ i = .int .i64 k ∧ vv = v ∧ PMk wr W.heap.size hi p m v us (allL p m (L.take k) xs) ∧ hi ≤ wr.heap.size ∧ W.heap.size ≤ hi ∧ Below W.heap.size W wr) (fun i _ _ => L.length - (intOf i).toNat)
  case atStart => exact ⟨0, _, _, _, by omega, rfl, rfl, st0, by omega, Nat.le_refl _, hbX⟩
  case round =>
    clear st0
    obtain ⟨k, v, us, hi, hk, rfl, hvv, st, hhi, hWhi, hbr⟩ := hrel
    have hbwr := hbW.trans (hbr.mono hbW.size)
    have rg1 := erow_below rg hbr rg.lt
    have rx1 := erow_below rx hbr rx.lt
    obtain ⟨g0, g1, g2⟩ := gcells rg1
    by_cases hlt : k < L.length
    · have hlt' : (k : Int) < (L.length : Int) := by omega
      obtain ⟨b, off, rfl, hbb, hT⟩ : ∃ b off, a = some ⟨b, off, none⟩ ∧ b < w.heap.size ∧ MatsW w b off L := by
        rcases hc with rfl | h
        · simp at hlt
        · exact h
      have HA := Lib.hid (fun w' v' h1 => HG.out.slead (List.getElem_mem hlt) v' w' h1)
      have HN := Lib.hid (allL_snoc p m L xs k hlt)
      have hln : (allL p m (L.take k) xs).length = k := by rw [allL_len, List.length_take]; omega
      have HLN := Lib.hid hln
      obtain ⟨sa, sc, hv⟩ := st.shape
      rw [hln] at hv
      subst hv
      subst u5
      clear hln
      obtain ⟨⟨p0, p1, p2⟩, _⟩ := poly3 rx1
      have hbr0 : Below wr.heap.size wr wr.drew := (Below.refl _ _).drew
      have hUd : SliceT wr.drew (.slice ua xs.length uc) xs := (hUW.below hbr).below hbr0
      have hbwz : b < wr.heap.size := Nat.lt_of_lt_of_le hbb hbwr.size
      have hxz := rx1.lt
      have hgz := rg1.lt
      have hWr := hbr.size
      have H9 := Lib.hid ((hT.below hbW hbb).nine hlt)
      generalize ledF p m xs L[k] = D at *
      generalize L[k] = x at *
      have KK := Lib.hid (fun w' (hq : Below W.heap.size W w') => show (w'.cell? ⟨w.heap.size, 2, none⟩ = some (.slice (some ⟨b, off, none⟩) L.length cap)) ∧ (w'.cell? ⟨w.heap.size + 1, 0, none⟩ = some (.int .i64 p) ∧ w'.cell? ⟨w.heap.size + 1, 1, none⟩ = some (.int .i64 (m : Int)) ∧ w'.cell? ⟨w.heap.size + 1, 2, none⟩ = some (.slice ua xs.length uc)) ∧ ((w'.cell? ⟨b, off + k * 9, none⟩ = some (.int .u8 (x 0 0)) ∧ w'.cell? ⟨b, off + k * 9 + 1, none⟩ = some (.int .u8 (x 0 1)) ∧ w'.cell? ⟨b, off + k * 9 + 2, none⟩ = some (.int .u8 (x 0 2))) ∧ (w'.cell? ⟨b, off + k * 9 + 3, none⟩ = some (.int .u8 (x 1 0)) ∧ w'.cell? ⟨b, off + k * 9 + 4, none⟩ = some (.int .u8 (x 1 1)) ∧ w'.cell? ⟨b, off + k * 9 + 5, none⟩ = some (.int .u8 (x 1 2))) ∧ (w'.cell? ⟨b, off + k * 9 + 6, none⟩ = some (.int .u8 (x 2 0)) ∧ w'.cell? ⟨b, off + k * 9 + 7, none⟩ = some (.int .u8 (x 2 1)) ∧ w'.cell? ⟨b, off + k * 9 + 8, none⟩ = some (.int .u8 (x 2 2)))) from
        ⟨(hq.cell (p := ⟨w.heap.size, 2, none⟩) rg.lt).trans (gcells rg).2.2, (poly3 (rowIs_below rx hq rx.lt)).1, nine_belowF H9.out hq (Nat.lt_of_lt_of_le hbb hbW.size)⟩)
      have H0 : Below W.heap.size W wr.drew := hbr.trans (hbr0.mono hWr)
      have hmx : k + 1 ≤ maxLen := by unfold maxLen; omega
      have hmb : (k + 1) * 40 ≤ 140737488355328 := by omega
      clear H9 hT rg1 rx1 p0 p1 p2
      go_wp2_with fail
      clear g0 g1 g2
      go_region_held3 (fun w' => (w'.cell? ⟨w.heap.size, 2, none⟩ = some (.slice (some ⟨b, off, none⟩) L.length cap)) ∧ (w'.cell? ⟨w.heap.size + 1, 0, none⟩ = some (.int .i64 p) ∧ w'.cell? ⟨w.heap.size + 1, 1, none⟩ = some (.int .i64 (m : Int)) ∧ w'.cell? ⟨w.heap.size + 1, 2, none⟩ = some (.slice ua xs.length uc)) ∧ ((w'.cell? ⟨b, off + k * 9, none⟩ = some (.int .u8 (x 0 0)) ∧ w'.cell? ⟨b, off + k * 9 + 1, none⟩ = some (.int .u8 (x 0 1)) ∧ w'.cell? ⟨b, off + k * 9 + 2, none⟩ = some (.int .u8 (x 0 2))) ∧ (w'.cell? ⟨b, off + k * 9 + 3, none⟩ = some (.int .u8 (x 1 0)) ∧ w'.cell? ⟨b, off + k * 9 + 4, none⟩ = some (.int .u8 (x 1 1)) ∧ w'.cell? ⟨b, off + k * 9 + 5, none⟩ = some (.int .u8 (x 1 2))) ∧ (w'.cell? ⟨b, off + k * 9 + 6, none⟩ = some (.int .u8 (x 2 0)) ∧ w'.cell? ⟨b, off + k * 9 + 7, none⟩ = some (.int .u8 (x 2 1)) ∧ w'.cell? ⟨b, off + k * 9 + 8, none⟩ = some (.int .u8 (x 2 2)))))
        (first | with_reducible exact KK.out _ H0 | with_reducible exact KK.out _ H5 | with_reducible exact KK.out _ H6 | with_reducible exact KK.out _ hq8)
        (first
        | (go_at_call 89; (with_reducible refine (HA.out _ _ hUd).mono ?_); rintro e w5 ⟨v5, rfl, ho5, hb5⟩; (obtain ⟨sa5, sc5, rfl⟩ := owns_slice ho5); have hq5 : Below wr.heap.size wr w5 := hbr0.trans hb5; have H5 : Below W.heap.size W w5 := hbr.trans (hq5.mono hWr); have hq6 : Below wr.heap.size wr (w5.alloc (.cells #[.int .i64 p, .int .i64 (m : Int), .slice sa5 D.length sc5] 39)) := hq5.trans ((box1 _ _).mono hq5.size); have H6 : Below W.heap.size W (w5.alloc (.cells #[.int .i64 p, .int .i64 (m : Int), .slice sa5 D.length sc5] 39)) := hbr.trans (hq6.mono hWr); have st6 := st.below hq6; have hr6 : (w5.alloc (.cells #[.int .i64 p, .int .i64 (m : Int), .slice sa5 D.length sc5] 39)).ownsRow W.heap.size 39 3 (.slice sa k sc) k (cellsQ p m us) := (by have q := st6.rows; rwa [HLN.out] at q))
        | ((refine step_append_lies _ (by rfl) _ _ _ (by rfl) W.heap.size 39 i0 _ 3 40 Tryz.underlying30 hi0 hz0 hz1 hz2 rfl (by omega) (.slice sa k sc) k (cellsQ p m us) (by rfl) hr6 ⟨w5.heap.size, 0, none⟩ 1 1 [.int .i64 p, .int .i64 (m : Int), .slice sa5 D.length sc5] (by rfl) (by rfl) (one_poly w5 p (m : Int) _) (by intro y hy; simp at hy; rcases hy with rfl | rfl | rfl <;> rfl) (by omega) hmx hmb (Nat.le_trans hWr hq6.size) _ (by rfl) ?_
            intro gg cap3 w8 hown8 hgrow8 hat8 hlt8
            have hq8 : Below W.heap.size W w8 := (hbr.trans (hq6.mono hWr)).grown hgrow8 (Nat.le_trans hWr hq6.size) (fun q hq => (World.ownsRow.lt hr6 q hq).1)
            clear hat8)))
      all_goals
        have stN := st6.more (u := .slice sa5 D.length sc5) (X := D) (hi2 := (w5.alloc (.cells #[.int .i64 p, .int .i64 (m : Int), .slice sa5 D.length sc5] 39)).heap.size) (owns_belowT ho5 (box1 _ _)) hhi hWr (Nat.le_refl _) hgrow8 (by rw [HLN.out]; exact hown8)
        rw [← HN.out] at stN
        have h1 := hgrow8.size
        have h2 := Nat.le_trans hWr hq6.size
        go_wp2_with fail
        go_roundw
        case rel => exact ⟨k + 1, _, _, _, by omega, by go_num, rfl, stN, h1, h2, hq8⟩
        case measure => simp [intOf]; omega
    · obtain rfl : k = L.length := by omega
      subst u5
      rw [List.take_length] at st
      have hend := hbwr
      have HD := Lib.hid (st.low hbW.size)
      clear st
      go_wp2_with fail
      go_ret
      exact ⟨_, _, _, rfl, HD.out, hend⟩
end Go.Proofs.YtllklhakbanhaaaGreat
namespace Go.Proofs.YtllklhakbanhaaaGreat
open Go.RowKit Go.Sort Go.Maps EchM

/-- The numbers below k at which f is true. -/
def stN (f : Nat → Bool) : Nat → List Int
  | 0 => []
  | k + 1 => if f k then stN f k ++ [(k : Int)] else stN f k
theorem stN_len (f : Nat → Bool) : ∀ k, (stN f k).length ≤ k
  | 0 => by simp [stN]
  | k + 1 => by
    have := stN_len f k
    rw [stN]
    split
    · simp; omega
    · omega
/-- The matrix k of a list. -/
def nthM (L : List (Nat → Nat → Int)) (k : Nat) : Nat → Nat → Int := L.getD k (fun _ _ => 0)
theorem nthM_at {L : List (Nat → Nat → Int)} {k : Nat} (h : k < L.length) : nthM L k = L[k] := by simp [nthM, List.getD, h]
noncomputable def fixN (p : Int) (m : Nat) (L : List (Nat → Nat → Int)) (xs : List Tm) (k : Nat) : Bool := fixB p m xs (nthM L k)
/-- The numbers of the matrices that leave a polynomial. -/
noncomputable def staL (p n : Int) (L : List (Nat → Nat → Int)) (q d : Int) (xs : List Tm) : List Int := if actC p n L q d xs = 0 then stN (fixN p n.toNat L xs) L.length else []
theorem staL_len {p n : Int} {L : List (Nat → Nat → Int)} {q d : Int} {xs : List Tm} (h : L.length ≤ 1048576) : (staL p n L q d xs).length ≤ 1048576 := by
  unfold staL
  split
  · exact Nat.le_trans (stN_len _ _) h
  · simp

set_option maxRecDepth 8000 in
set_option maxHeartbeats 8000000 in
theorem istap (p n : Int) (v : Value) (L : List (Nat → Nat → Int)) (q d : Int) (u : Value) (xs : List Tm) (w : World) (hl : L.length ≤ 1048576) (hS : SlM w v L) (hby : ∀ x ∈ L, Byt x) (hxl : xs.length ≤ 1048576) (hU : SliceT w u xs) (hxb : ∀ t ∈ xs, tmByte t) :
    Calls Tryz.prog 28 #[.agg #[.int .i64 p, .int .i64 n, v], .agg #[.int .i64 q, .int .i64 d, u]] w fun e w' => ∃ v', e = .returned (.tuple #[v', .int .i64 (actC p n L q d xs)]) ∧ OwnV w' w.heap.size v' (staL p n L q d xs) ∧ Below w.heap.size w w' := by
  obtain ⟨i0, hi, hz0, hz1, hz2⟩ := info_parts einfoI
  obtain ⟨W, hW, hbW, ⟨hWs1, hWs2⟩, rg, rx⟩ := boxGP w p n v q d u
  have hSW := hS.below hbW
  have hUW := hU.below hbW
  obtain ⟨a, cap, rfl, _⟩ := id hS
  obtain ⟨ua, uc, rfl, _⟩ := id hU
  obtain ⟨g0, g1, g2⟩ := gcells rg
  obtain ⟨⟨x0, x1, x2⟩, _⟩ := poly3 rx
  have HBY := Lib.hid hby
  have HXB := Lib.hid hxb
  clear hby hxb
  go_enter Tryz.func28, Tryz.ntmps28
  go_wp2_with fail
  rw [← hW]
  clear hW
  ((with_reducible refine (icode3 p n _ L q d _ xs W hl hSW HBY.out hxl hUW HXB.out).mono ?_); rintro e w1 ⟨rfl, hb1⟩)
  have hbw1 := hbW.trans (hb1.mono hbW.size)
  have rg1 := erow_below rg hb1 rg.lt
  have rx1 := erow_below rx hb1 rx.lt
  have hS1 := hSW.below hb1
  have hU1 := hUW.below hb1
  clear g0 g1 g2 x0 x1 x2 rg rx
  by_cases hc : actC p n L q d xs = 0
  case neg =>
    have HO := Lib.hid (show staL p n L q d xs = [] by unfold staL; rw [if_neg hc])
    obtain ⟨C, hC⟩ : ∃ C, actC p n L q d xs = C := ⟨_, rfl⟩
    have HC := Lib.hid hC
    rw [hC] at hc ⊢
    have hc' : (C != 0) = true := by simpa using hc
    clear hc hC
    go_wp2_with fail
    go_ret2
    exact ⟨_, by rw [HC.out]; rfl, by rw [HO.out]; exact OwnV.none _ _, hbw1⟩
  case pos =>
    obtain ⟨m, rfl, rfl, rfl, hG⟩ := grpP_of HBY.out HXB.out hc
    have HO := Lib.hid (show staL q m L q m xs = stN (fixN q m L xs) L.length by unfold staL; rw [if_pos hc]; rfl)
    have HC := Lib.hid hc
    rw [hc]
    clear hc
    obtain ⟨g0, g1, g2⟩ := gcells rg1
    have HAC := Lib.hid (iactions q m (.slice a L.length cap) L w1 hl hS1 hG.mat)
    have HG := Lib.hid hG
    have hl48 := hG.l48
    clear hG
    go_wp2_with fail
    ((with_reducible refine HAC.out.mono ?_); rintro e w2 ⟨v2, rfl, hA2, hb2⟩)
    have hbw2 := hbw1.trans (hb2.mono hbw1.size)
    have rx2 := rowIs_below rx1 hb2 rx1.lt
    have hU2 := hU1.below hb2
    obtain ⟨gb, gc, rfl, hgl, hAc⟩ := id hA2
    have HAA := Lib.hid (fun w' (hb : Below w2.heap.size w2 w') => (fun k hk => by
      obtain ⟨B, hc, hB⟩ := hAc k hk
      exact ⟨B, (hb.cell (p := ⟨gb, k, none⟩) hgl).trans hc, hB.below hb⟩ : ∀ (k : Nat) (h : k < L.length), ∃ B, w'.cell? ⟨gb, k, none⟩ = some (actV B) ∧ ActW w' B q m L[k]))
    clear g0 g1 g2 HAC hA2 hAc rg1 hS1 hSW hUW hb1 hb2 hbw1 hbW hU1 rx1
    go_wp2_with fail
    go_loopw [19, 7] (fun i nv wr => ∃ (k : Nat) (sv : Value), k ≤ L.length ∧ i = .int .i64 k ∧ nv = sv ∧ OwnL wr w2.heap.size sv (stN (fixN q m L xs) k) ∧ Below w2.heap.size w2 wr) (fun i _ _ => L.length - (intOf i).toNat)
    case atStart => exact ⟨0, _, by omega, rfl, rfl, World.ownsRow_nil _ _ _ _, Below.refl _ _⟩
    case round =>
      obtain ⟨k, sv, hk, rfl, hsv, hO, hbr⟩ := hrel
      have hkl := stN_len (fixN q m L xs) k
      obtain ⟨sa, sc, rfl⟩ := hO.shape
      subst u7
      by_cases hlt : k < L.length
      · have hlt' : (k : Int) < (L.length : Int) := by omega
        obtain ⟨B, c0, hB⟩ := HAA.out wr hbr k hlt
        have HA := Lib.hid (fun w' h1 h2 => HG.out.act (List.getElem_mem hlt) B (.slice ua xs.length uc) w' h1 h2)
        have hl1 : (ledF q m xs L[k]).length ≤ 1048576 := Nat.le_trans (HG.out.len (List.getElem_mem hlt)) (by omega)
        have HS : Hid (stN (fixN q m L xs) (k + 1) = if sameT (ledF q m xs L[k]) xs then stN (fixN q m L xs) k ++ [(k : Int)] else stN (fixN q m L xs) k) := Lib.hid (by rw [stN]; unfold fixN fixB; rw [nthM_at hlt])
        have rxr := rowIs_below rx2 hbr rx2.lt
        obtain ⟨⟨p0, p1, p2⟩, _⟩ := poly3 rxr
        have P0 : wr.drew.cell? ⟨w.heap.size + 1, 0, none⟩ = some (.int .i64 q) := p0
        have P1 : wr.drew.cell? ⟨w.heap.size + 1, 1, none⟩ = some (.int .i64 (m : Int)) := p1
        have P2 : wr.drew.cell? ⟨w.heap.size + 1, 2, none⟩ = some (.slice ua xs.length uc) := p2
        have hz : w.heap.size + 1 < wr.drew.heap.size := rxr.lt
        have hBd : ActW wr.drew B q m L[k] := hB.below (Below.refl _ _).drew
        have hUd : SliceT wr.drew (.slice ua xs.length uc) xs := (hU2.below hbr).below (Below.refl _ _).drew
        generalize ledF q m xs L[k] = D at *
        generalize L[k] = x at *
        obtain ⟨O, hOO⟩ : ∃ O, stN (fixN q m L xs) k = O := ⟨_, rfl⟩
        rw [hOO] at HS hO hkl ⊢
        clear hOO hB rxr
        go_wp2_with fail
        go_cut [28] (fun s wx => s = .bool (sameT D xs) ∧ Below wr.heap.size wr wx)
        case first =>
          go_region_with (first
            | (go_at_call 120; (with_reducible refine (HA.out _ hBd hUd).mono ?_); rintro e w3 ⟨v3, rfl, own3, hb3⟩; have Q0 := (hb3.cell (p := ⟨w.heap.size + 1, 0, none⟩) hz).trans P0; have Q1 := (hb3.cell (p := ⟨w.heap.size + 1, 1, none⟩) hz).trans P1; have Q2 := (hb3.cell (p := ⟨w.heap.size + 1, 2, none⟩) hz).trans P2)
            | (go_at_call 61; (with_reducible refine (isame q m q m _ _ D xs _ hl1 hxl (OwnP.slice own3) (hUd.below hb3)).mono ?_); rintro e w4 ⟨rfl, hb4⟩))
          all_goals
            go_wp2_with fail
            go_meet
            exact ⟨rfl, (Below.refl _ _).drew.trans (hb3.trans (hb4.mono hb3.size))⟩
        case rest =>
          rename World => w4
          obtain ⟨rfl, hb4⟩ := hcut
          have hO4 := hO.below hb4
          have hbr4 := hbr.trans (hb4.mono hbr.size)
          have hs4 := hbr4.size
          clear p0 p1 p2 P0 P1 P2 hz hBd hUd hO HA c0
          cases hf : sameT D xs
          · have HN := Lib.hid (show O = stN (fixN q m L xs) (k + 1) by rw [HS.out, hf]; rfl)
            clear hf HS
            go_wp2_with fail
            go_roundw
            case rel => exact ⟨k + 1, _, by omega, by go_num, rfl, by rw [← HN.out]; exact hO4, hbr4⟩
            case measure => simp [intOf]; omega
          · have HN := Lib.hid (show O ++ [(k : Int)] = stN (fixN q m L xs) (k + 1) by rw [HS.out, hf]; rfl)
            clear hf HS
            go_wp2_with (at_builtin; refine wpList_append_lies _ rfl _ _ 50 rfl w2.heap.size 2 i0 _ 1 8 Tryz.underlying50 hi hz0 hz1 hz2 rfl (by decide) (.slice sa O.length sc) O.length (valsI O) rfl (World.ownsRow.alloc hO4 _) ⟨w4.heap.size, 0, none⟩ 1 1 [.int .i64 (k : Int)] rfl rfl (World.news_of_block (cs := #[.int .i64 (k : Int)]) (t := 2) (fr := (0, 0)) (heap_alloc_new _ _)) (by simp [Value.oneCell']) (by omega) (by unfold maxLen; omega) (by omega) (by simp; omega) _ rfl ?_)
            intro gg cap3 w5 hown3 hgrow3 hat3 hlt3
            have hb5 : Below w2.heap.size w2 w5 := (hbr4.alloc hbr4.size (.cells #[.int .i64 (k : Int)] 2)).grown hgrow3 (by simp; omega) (fun q hq => (World.ownsRow.lt hO4 q hq).1)
            have hO5 : OwnL w5 w2.heap.size (.slice (some ⟨gg, 0, none⟩) (O.length + 1) cap3) (O ++ [(k : Int)]) := by
              unfold OwnL
              rw [← valsI_snoc, List.length_append]
              exact hown3
            clear hown3 hgrow3 hat3
            go_wp2_with fail
            go_roundw
            case rel => exact ⟨k + 1, _, by omega, by go_num, rfl, by rw [← HN.out]; exact hO5, hb5⟩
            case measure => simp [intOf]; omega
      · obtain rfl : k = L.length := by omega
        have HE := Lib.hid (show OwnV wr w.heap.size (.slice sa (stN (fixN q m L xs) L.length).length sc) (staL q m L q m xs) by rw [HO.out]; exact (hO.mono hbw2.size).toV)
        have hend := hbw2.trans (hbr.mono hbw2.size)
        obtain ⟨lo, hlo⟩ : ∃ lo, (stN (fixN q m L xs) L.length).length = lo := ⟨_, rfl⟩
        rw [hlo] at HE ⊢
        clear hO hlo
        go_wp2_with fail
        go_ret2
        exact ⟨.slice sa lo sc, by rw [HC.out]; rfl, HE.out, hend⟩

set_option maxRecDepth 8000 in
set_option maxHeartbeats 8000000 in
theorem sstap (p n : Int) (v : Value) (L : List (Nat → Nat → Int)) (q d : Int) (u : Value) (xs : List Tm) (w : World) (hl : L.length ≤ 1048576) (hS : SlM w v L) (hby : ∀ x ∈ L, Byt x) (hxl : xs.length ≤ 1048576) (hU : SliceT w u xs) (hxb : ∀ t ∈ xs, tmByte t) :
    Calls Tryz.prog 27 #[.agg #[.int .i64 p, .int .i64 n, v], .agg #[.int .i64 q, .int .i64 d, u]] w fun e w' => ∃ v', e = .returned (.tuple #[v', .int .i64 (actC p n L q d xs)]) ∧ Sl w' v' (staL p n L q d xs) ∧ Below w.heap.size w w' := by
  obtain ⟨i0, hi, hz0, hz1, hz2⟩ := info_parts einfoI
  obtain ⟨W, hW, hbW, ⟨hWs1, hWs2⟩, rg, rx⟩ := boxGP w p n v q d u
  have hSW := hS.below hbW
  have hUW := hU.below hbW
  obtain ⟨a, cap, rfl, _⟩ := id hS
  obtain ⟨ua, uc, rfl, _⟩ := id hU
  obtain ⟨g0, g1, g2⟩ := gcells rg
  obtain ⟨⟨x0, x1, x2⟩, _⟩ := poly3 rx
  have HBY := Lib.hid hby
  have HXB := Lib.hid hxb
  clear hby hxb
  go_enter Tryz.func27, Tryz.ntmps27
  go_wp2_with fail
  rw [← hW]
  clear hW
  ((with_reducible refine (scode3 p n _ L q d _ xs W hl hSW HBY.out hxl hUW HXB.out).mono ?_); rintro e w1 ⟨rfl, hb1⟩)
  have hbw1 := hbW.trans (hb1.mono hbW.size)
  have rg1 := erow_below rg hb1 rg.lt
  have rx1 := erow_below rx hb1 rx.lt
  have hS1 := hSW.below hb1
  have hU1 := hUW.below hb1
  clear g0 g1 g2 x0 x1 x2 rg rx
  by_cases hc : actC p n L q d xs = 0
  case neg =>
    have HO := Lib.hid (show staL p n L q d xs = [] by unfold staL; rw [if_neg hc])
    obtain ⟨C, hC⟩ : ∃ C, actC p n L q d xs = C := ⟨_, rfl⟩
    have HC := Lib.hid hC
    rw [hC] at hc ⊢
    have hc' : (C != 0) = true := by simpa using hc
    clear hc hC
    go_wp2_with fail
    go_ret2
    exact ⟨_, by rw [HC.out]; rfl, by rw [HO.out]; exact ⟨none, 0, rfl, .inl rfl⟩, hbw1⟩
  case pos =>
    obtain ⟨m, rfl, rfl, rfl, hG⟩ := grpP_of HBY.out HXB.out hc
    have HO := Lib.hid (show staL q m L q m xs = stN (fixN q m L xs) L.length by unfold staL; rw [if_pos hc]; rfl)
    have HC := Lib.hid hc
    rw [hc]
    clear hc
    obtain ⟨g0, g1, g2⟩ := gcells rg1
    obtain ⟨⟨x0, x1, x2⟩, _⟩ := poly3 rx1
    have HAC := Lib.hid (sall hG (.slice a L.length cap) (.slice ua xs.length uc) w1 hS1 hU1)
    have HG := Lib.hid hG
    have hl48 := hG.l48
    clear hG
    go_wp2_with fail
    ((with_reducible refine HAC.out.mono ?_); rintro e w2 ⟨v2, us, hi2, rfl, hP2, hb2⟩)
    have hbw2 := hbw1.trans (hb2.mono hbw1.size)
    have rx2 := rowIs_below rx1 hb2 rx1.lt
    have hU2 := hU1.below hb2
    have hR2 : SlPn w2 q m v2 (allL q m L xs) := hP2.slP
    obtain ⟨pa, pc, hpv⟩ := hP2.shape
    rw [allL_len] at hpv
    subst hpv
    obtain ⟨X, hX, hbX, hXs, hown⟩ : ∃ X, X = w2.alloc (.cells #[] 2) ∧ Below w2.heap.size w2 X ∧ X.heap.size = w2.heap.size + 1 ∧ OwnL X w2.heap.size (.slice (some ⟨w2.heap.size, 0, none⟩) 0 0) (stN (fixN q m L xs) 0) := ⟨_, rfl, box1 _ _, by simp, by simpa [stN, OwnL, valsI] using World.ownsRow_made (base := w2.heap.size) (e := 2) (size := 1) w2 #[] 0 (Nat.le_refl _) (by simp [maxLen]) rfl⟩
    clear g0 g1 g2 x0 x1 x2 HAC rg1 hS1 hSW hUW hb1 hb2 hbw1 hbW hU1 rx1 hP2
    go_wp2_with fail
    rw [← hX]
    clear hX
    go_loopw [9, 8] (fun i nv wr => ∃ (k : Nat) (sv : Value), k ≤ L.length ∧ i = .int .i64 k ∧ nv = sv ∧ OwnL wr w2.heap.size sv (stN (fixN q m L xs) k) ∧ Below w2.heap.size w2 wr) (fun i _ _ => L.length - (intOf i).toNat)
    case atStart => exact ⟨0, _, by omega, rfl, rfl, hown, hbX⟩
    case round =>
      clear hown
      obtain ⟨k, sv, hk, rfl, hsv, hO, hbr⟩ := hrel
      have hkl := stN_len (fixN q m L xs) k
      obtain ⟨sa, sc, rfl⟩ := hO.shape
      subst u8
      by_cases hlt : k < L.length
      · have hlt' : (k : Int) < (L.length : Int) := by omega
        obtain ⟨bp, off, uu, rfl, hbp, hmm, c0, c1, c2, hT⟩ := SlP.nth (hR2.below hbr) (k := k) (by rw [allL_len]; exact hlt)
        rw [allL_at q m L xs k hlt] at hT
        clear hmm
        have hl1 : (ledF q m xs L[k]).length ≤ 1048576 := Nat.le_trans (HG.out.len (List.getElem_mem hlt)) (by omega)
        have HS : Hid (stN (fixN q m L xs) (k + 1) = if sameT (ledF q m xs L[k]) xs then stN (fixN q m L xs) k ++ [(k : Int)] else stN (fixN q m L xs) k) := Lib.hid (by rw [stN]; unfold fixN fixB; rw [nthM_at hlt])
        obtain ⟨⟨p0, p1, p2⟩, _⟩ := poly3 (rowIs_below rx2 hbr rx2.lt)
        have hUd : SliceT wr.drew (.slice ua xs.length uc) xs := (hU2.below hbr).below (Below.refl _ _).drew
        have hTd : SliceT wr.drew uu (ledF q m xs L[k]) := hT.below (Below.refl _ _).drew
        generalize ledF q m xs L[k] = D at *
        obtain ⟨O, hOO⟩ : ∃ O, stN (fixN q m L xs) k = O := ⟨_, rfl⟩
        rw [hOO] at HS hO hkl ⊢
        clear hOO hT
        go_wp2_with fail
        go_cut [31] (fun s wx => s = .bool (sameT D xs) ∧ Below wr.heap.size wr wx)
        case first =>
          go_region_with (first
            | (go_at_call 64; (with_reducible refine (ssame q m q m _ _ D xs _ hl1 hxl hTd hUd).mono ?_); rintro e w4 ⟨rfl, hb4⟩))
          all_goals
            go_wp2_with fail
            go_meet
            exact ⟨rfl, (Below.refl _ _).drew.trans hb4⟩
        case rest =>
          rename World => w4
          obtain ⟨rfl, hb4⟩ := hcut
          have hO4 := hO.below hb4
          have hbr4 := hbr.trans (hb4.mono hbr.size)
          have hs4 := hbr4.size
          clear p0 p1 p2 hTd hUd hO c0 c1 c2
          cases hf : sameT D xs
          · have HN := Lib.hid (show O = stN (fixN q m L xs) (k + 1) by rw [HS.out, hf]; rfl)
            clear hf HS
            go_wp2_with fail
            go_roundw
            case rel => exact ⟨k + 1, _, by omega, by go_num, rfl, by rw [← HN.out]; exact hO4, hbr4⟩
            case measure => simp [intOf]; omega
          · have HN := Lib.hid (show O ++ [(k : Int)] = stN (fixN q m L xs) (k + 1) by rw [HS.out, hf]; rfl)
            clear hf HS
            go_wp2_with (at_builtin; refine wpList_append_lies _ rfl _ _ 50 rfl w2.heap.size 2 i0 _ 1 8 Tryz.underlying50 hi hz0 hz1 hz2 rfl (by decide) (.slice sa O.length sc) O.length (valsI O) rfl (World.ownsRow.alloc hO4 _) ⟨w4.heap.size, 0, none⟩ 1 1 [.int .i64 (k : Int)] rfl rfl (World.news_of_block (cs := #[.int .i64 (k : Int)]) (t := 2) (fr := (0, 0)) (heap_alloc_new _ _)) (by simp [Value.oneCell']) (by omega) (by unfold maxLen; omega) (by omega) (by simp; omega) _ rfl ?_)
            intro gg cap3 w5 hown3 hgrow3 hat3 hlt3
            have hb5 : Below w2.heap.size w2 w5 := (hbr4.alloc hbr4.size (.cells #[.int .i64 (k : Int)] 2)).grown hgrow3 (by simp; omega) (fun q hq => (World.ownsRow.lt hO4 q hq).1)
            have hO5 : OwnL w5 w2.heap.size (.slice (some ⟨gg, 0, none⟩) (O.length + 1) cap3) (O ++ [(k : Int)]) := by
              unfold OwnL
              rw [← valsI_snoc, List.length_append]
              exact hown3
            clear hown3 hgrow3 hat3
            go_wp2_with fail
            go_roundw
            case rel => exact ⟨k + 1, _, by omega, by go_num, rfl, by rw [← HN.out]; exact hO5, hb5⟩
            case measure => simp [intOf]; omega
      · obtain rfl : k = L.length := by omega
        have HE := Lib.hid (show Sl wr (.slice sa (stN (fixN q m L xs) L.length).length sc) (staL q m L q m xs) by rw [HO.out]; exact hO.slice)
        have hend := hbw2.trans (hbr.mono hbw2.size)
        obtain ⟨lo, hlo⟩ : ∃ lo, (stN (fixN q m L xs) L.length).length = lo := ⟨_, rfl⟩
        rw [hlo] at HE ⊢
        clear hO hlo
        go_wp2_with fail
        go_ret2
        exact ⟨.slice sa lo sc, by rw [HC.out]; rfl, HE.out, hend⟩
end Go.Proofs.YtllklhakbanhaaaGreat
namespace Go.Proofs.YtllklhakbanhaaaGreat
open Go.RowKit Go.Sort

set_option maxHeartbeats 1000000 in
theorem neqI_some (g o cap g' o' cap' : Nat) (l : List Int) (w : World) (hl : l.length ≤ 1048576) (hT : Cs w g o l) (hT' : Cs w g' o' l) :
    Calls Tryz.prog 29 #[.slice (some ⟨g, o, none⟩) l.length cap, .slice (some ⟨g', o', none⟩) l.length cap'] w fun e w' => e = .returned (.bool true) ∧ Below w.heap.size w w' := by
  have hnn : ((l.length : Int) != (l.length : Int)) = false := by simp
  go_enter Tryz.func29, Tryz.ntmps29
  go_wp2
  go_loopw [5] (fun i wr => ∃ k : Nat, k ≤ l.length ∧ i = .int .i64 k ∧ ∃ n, wr = w.drewN n) (fun i _ => l.length - (intOf i).toNat)
  case atStart => exact ⟨0, by omega, rfl, 0, rfl⟩
  case round =>
    obtain ⟨k, hk, rfl, n, rfl⟩ := hrel
    by_cases hlt : k < l.length
    · have hlt' : (k : Int) < (l.length : Int) := by omega
      have a0 := hT k hlt
      have b0 := hT' k hlt
      have hq : (l[k] != l[k]) = false := by simp
      go_wp2
      go_quiet (fail)
      go_wp2
      go_roundw
      case rel => exact ⟨k + 1, by omega, by go_num, _, rfl⟩
      case measure => simp [intOf]; omega
    · obtain rfl : k = l.length := by omega
      go_wp2
      go_ret
      exact ⟨rfl, below_drewN (Below.refl _ _) n⟩

theorem neqI_zero (a a' : Option Addr) (c c' : Nat) (w : World) :
    Calls Tryz.prog 29 #[.slice a 0 c, .slice a' 0 c'] w fun e w' => e = .returned (.bool true) ∧ Below w.heap.size w w' := by
  go_enter Tryz.func29, Tryz.ntmps29
  go_wp2
  refine wp_loop_rounds 1 ?_
  rw [rounds_succ]
  go_wp2
  go_ret
  exact ⟨rfl, Below.refl _ _⟩

theorem neqI_same (v v' : Value) (l : List Int) (w : World) (hl : l.length ≤ 1048576) (hS : Sl w v l) (hS' : Sl w v' l) :
    Calls Tryz.prog 29 #[v, v'] w fun e w' => e = .returned (.bool true) ∧ Below w.heap.size w w' := by
  obtain ⟨a, cap, rfl, h⟩ := hS
  obtain ⟨a', cap', rfl, h'⟩ := hS'
  cases l with
  | nil => exact neqI_zero _ _ _ _ _
  | cons t r =>
    rcases h with h | ⟨b, off, rfl, hlt, hT⟩
    · cases h
    · rcases h' with h' | ⟨b', off', rfl, hlt', hT'⟩
      · cases h'
      · exact neqI_some b off cap b' off' cap' _ w hl hT hT'



set_option maxHeartbeats 1000000 in
theorem nmarkI_own {base : Nat} {v : Value} {l : List Int} (k0 : Int) (w : World) (h : nOwnI w base v l) (hn : l.length ≤ 1048576) (h0 : 0 ≤ k0) (h1 : k0 ≤ 1000000000) :
    Calls Tryz.prog 30 #[v, .int .i64 k0] w fun e w' => e = .returned (.int .i64 (k0 + l.length)) ∧ w.grownBy w' v.ownBlock := by
  obtain ⟨g, f, rfl, hg, hr, hf⟩ := h
  clear hf
  simp only [Value.ownBlock]
  generalize l.length = n at *
  go_enter Tryz.func30, Tryz.ntmps30
  go_wp2
  go_loopw [1, 5] (fun m i wr => ∃ k : Nat, k ≤ n ∧ i = .int .i64 k ∧ m = .int .i64 (k0 + k) ∧ (∃ f', wr.rowIs g 2 n f') ∧ w.grownBy wr (some g)) (fun _ i _ => n - (intOf i).toNat)
  case atStart => exact ⟨0, by omega, rfl, by simp, ⟨f, hr⟩, World.grownBy.refl _ _⟩
  case round =>
    obtain ⟨k, hk, rfl, rfl, ⟨f', hr'⟩, hg'⟩ := hrel
    by_cases hlt : k < n
    · have hlt' : (k : Int) < (n : Int) := by omega
      have c0 := hr'.cell hlt
      have z0 := hr'.frozen k
      have hr2 := hr'.set k (.int .i64 (k0 + k))
      have hg2 := ngrown_setT hg' k (.int .i64 (k0 + k))
      clear hr' hg' hr
      go_wp2
      go_roundw
      case rel => exact ⟨k + 1, by omega, by go_num, by go_num, ⟨_, hr2⟩, hg2⟩
      case measure => simp [intOf]; omega
    · obtain rfl : k = n := by omega
      go_wp2
      go_ret
      exact ⟨rfl, hg'⟩

set_option maxHeartbeats 1000000 in
theorem rmark (base : Nat) (e : Row3) (k0 : Int) (w : World) (h : RowAt w base e) (hn : e.2.1.length ≤ 1048576) (h0 : 0 ≤ k0) (h1 : k0 ≤ 1000000000) :
    Calls Tryz.prog 30 #[e.1, .int .i64 k0] w fun r w' => r = .returned (.int .i64 (k0 + e.2.1.length)) ∧ RowAt w' base (e.1, seqL k0 e.2.1.length, e.2.2) ∧ w.grownBy w' (some e.2.2) := by
  obtain ⟨u, l, g⟩ := e
  obtain ⟨cap, N, f, hu, hg, hN, hr, hf⟩ := h
  simp only at hu hg hN hr hf hn ⊢
  subst hu
  clear hf
  have hsl := seqL_len k0 l.length
  suffices hh : Calls Tryz.prog 30 #[.slice (some ⟨g, 0, none⟩) l.length cap, .int .i64 k0] w fun r w' => r = .returned (.int .i64 (k0 + l.length)) ∧ (∃ f', w'.rowIs g 2 N f' ∧ ∀ q, q < l.length → f' q = .int .i64 (k0 + (q : Int))) ∧ w.grownBy w' (some g) by
    refine hh.mono fun r w' ⟨hr', ⟨f', hrow, hf'⟩, hgr⟩ => ⟨hr', ⟨cap, N, f', by simp only [hsl], hg, by simp only [hsl]; exact hN, hrow, fun q hq => ?_⟩, hgr⟩
    rw [hf' q (by simpa [hsl] using hq)]
    simp only [seqL_at]
  clear hsl
  generalize l.length = n at *
  go_enter Tryz.func30, Tryz.ntmps30
  go_wp2
  go_loopw [1, 5] (fun m i wr => ∃ k : Nat, k ≤ n ∧ i = .int .i64 k ∧ m = .int .i64 (k0 + k) ∧ (∃ f', wr.rowIs g 2 N f' ∧ Hid (∀ q, q < k → f' q = .int .i64 (k0 + (q : Int)))) ∧ w.grownBy wr (some g)) (fun _ i _ => n - (intOf i).toNat)
  case atStart => exact ⟨0, by omega, rfl, by simp, ⟨f, hr, Lib.hid (fun q h => by omega)⟩, World.grownBy.refl _ _⟩
  case round =>
    obtain ⟨k, hk, rfl, rfl, ⟨f', hr', HF⟩, hg'⟩ := hrel
    by_cases hlt : k < n
    · have hlt' : (k : Int) < (n : Int) := by omega
      have c0 := hr'.cell (i := k) (by omega)
      have z0 := hr'.frozen k
      have hr2 := hr'.set k (.int .i64 (k0 + k))
      have hg2 := ngrown_setT hg' k (.int .i64 (k0 + k))
      have HN : Hid (∀ q, q < k + 1 → (fun j => if j = k then Value.int .i64 (k0 + (k : Int)) else f' j) q = .int .i64 (k0 + (q : Int))) := Lib.hid (fun q hq => by
        by_cases e : q = k
        · subst e; simp
        · simp only [if_neg e]; exact HF.out q (by omega))
      clear hr' hg' hr HF
      go_wp2
      go_roundw
      case rel => exact ⟨k + 1, by omega, by go_num, by go_num, ⟨_, hr2, HN⟩, hg2⟩
      case measure => simp [intOf]; omega
    · obtain rfl : k = n := by omega
      have HN := HF.out
      go_wp2
      go_ret
      exact ⟨rfl, ⟨f', hr', HN⟩, hg'⟩
set_option maxHeartbeats 1000000 in
theorem rheld (u : Value) (n : Nat) (k0 : Int) (w : World) (hS : Sl w u (seqL k0 n)) (hn : n ≤ 1048576) (h0 : 0 ≤ k0) (h1 : k0 ≤ 1000000000) :
    Calls Tryz.prog 31 #[u, .int .i64 k0] w fun r w' => r = .returned (.int .i64 (k0 + n)) ∧ w' = w := by
  obtain ⟨a, cap, rfl, hc⟩ := hS
  have HSQ := Lib.hid (seqL_at k0 n)
  have hsl := seqL_len k0 n
  have HL := Lib.hid hsl
  rw [hsl]
  clear hsl
  go_enter Tryz.func31, Tryz.ntmps31
  go_wp2_with fail
  go_loop [1, 5] (fun m i => ∃ k : Nat, k ≤ n ∧ i = .int .i64 k ∧ m = .int .i64 (k0 + k)) (fun _ i => n - (intOf i).toNat)
  case atStart => exact ⟨0, by omega, rfl, by simp⟩
  case round =>
    obtain ⟨k, hk, rfl, rfl⟩ := hrel
    by_cases hlt : k < n
    · have hlt' : (k : Int) < (n : Int) := by omega
      have hks : k < (seqL k0 n).length := by rw [HL.out]; exact hlt
      obtain ⟨b, off, rfl, hbb, hT⟩ : ∃ b off, a = some ⟨b, off, none⟩ ∧ b < w.heap.size ∧ Cs w b off (seqL k0 n) := by
        rcases hc with h | h
        · rw [h] at hks; simp at hks
        · exact h
      have c0 := hT k hks
      rw [HSQ.out k hks] at c0
      have hne : (k0 + (k : Int) != k0 + (k : Int)) = false := by simp
      clear hks
      go_wp2_with fail
      go_round
      case rel => exact ⟨k + 1, by omega, by go_num, by go_num⟩
      case measure => simp [intOf]; omega
    · obtain rfl : k = n := by omega
      go_wp2_with fail
      go_ret
      exact ⟨rfl, rfl⟩


theorem rmark_none (a : Option Addr) (c : Nat) (k0 : Int) (w : World) :
    Calls Tryz.prog 30 #[.slice a 0 c, .int .i64 k0] w fun r w' => r = .returned (.int .i64 k0) ∧ w' = w := by
  go_enter Tryz.func30, Tryz.ntmps30
  go_wp2
  refine wp_loop_rounds 1 ?_
  rw [rounds_succ]
  go_wp2
  go_ret
  exact ⟨rfl, rfl⟩
theorem OwnV.mark {w : World} {base : Nat} {v : Value} {S : List Int} (h : OwnV w base v S) (hl : S.length ≤ 1048576) (hbw : base ≤ w.heap.size) :
    Calls Tryz.prog 30 #[v, .int .i64 1] w fun r w' => r = .returned (.int .i64 (1 + (S.length : Int))) ∧ OwnV w' base v (seqL 1 S.length) ∧ Below base w w' := by
  rcases h with ⟨rfl, a, c, rfl⟩ | ⟨b, h⟩
  · exact (rmark_none a c 1 w).mono fun r w' ⟨hr, hw⟩ => ⟨by simpa using hr, .inl ⟨by simp [seqL], a, c, rfl⟩, by rw [hw]; exact ⟨rfl, rfl, rfl, Nat.le_refl _, fun _ _ => rfl⟩⟩
  · refine (rmark base (v, S, b) 1 w h hl (by decide) (by decide)).mono fun r w' ⟨hr, hrow, hg⟩ => ⟨hr, .inr ⟨b, hrow⟩, ?_⟩
    obtain ⟨_, _, _, _, hb, _⟩ := h
    exact ⟨hg.os, hg.tape, hg.output, hg.size, fun k hk => hg.block k (by omega) (fun e => by simp at e hb; omega)⟩
theorem OwnV.held {w : World} {base : Nat} {v : Value} {n : Nat} (h : OwnV w base v (seqL 1 n)) (hl : n ≤ 1048576) :
    Calls Tryz.prog 31 #[v, .int .i64 1] w fun r w' => r = .returned (.int .i64 (1 + (n : Int))) ∧ w' = w :=
  rheld v n 1 w h.sl hl (by decide) (by decide)
end Go.Proofs.YtllklhakbanhaaaGreat
namespace Go.Proofs.YtllklhakbanhaaaGreat
open Go.RowKit Go.Sort EchM

set_option maxHeartbeats 2000000 in
theorem tobyte3 (x y z : Int) (w : World) : Calls Tryz.prog 111 #[.agg #[.int .u8 x, .int .u8 y, .int .u8 z]] w fun e w' => e = .returned (.agg #[.int .u8 x, .int .u8 y, .int .u8 z]) ∧ Below w.heap.size w w' := by
  go_enter Tryz.func111, Tryz.ntmps111
  go_wp2
  refine wp_loop_rounds 4 ?_
  iterate 4 (rw [rounds_succ]; go_wp2)
  exact bodyPost_ret (v := .agg #[.int .u8 x, .int .u8 y, .int .u8 z]) (by simp [results, Tryz.results111, go_sem]) rfl ⟨rfl, (ebox2 _ _ _).alloc (by simp; omega) _⟩

set_option maxRecDepth 8000 in
set_option maxHeartbeats 4000000 in
theorem tomat (g : Nat → Nat → Int) (w : World) : Calls Tryz.prog 82 #[mv g] w fun e w' => e = .returned (mv g) ∧ Below w.heap.size w w' := by
  obtain ⟨W, hW, rW, rR, rO, hbW⟩ : ∃ W, W = ((w.alloc (.cells #[.int .u8 (g 0 0), .int .u8 (g 0 1), .int .u8 (g 0 2), .int .u8 (g 1 0), .int .u8 (g 1 1), .int .u8 (g 1 2), .int .u8 (g 2 0), .int .u8 (g 2 1), .int .u8 (g 2 2)] 97)).alloc (.cells #[.int .u8 0, .int .u8 0, .int .u8 0, .int .u8 0, .int .u8 0, .int .u8 0, .int .u8 0, .int .u8 0, .int .u8 0] 98)).alloc (.cells #[.int .u8 0, .int .u8 0, .int .u8 0, .int .u8 0, .int .u8 0, .int .u8 0, .int .u8 0, .int .u8 0, .int .u8 0] 98) ∧
      W.rowIs w.heap.size 97 9 (mF g) ∧ W.rowIs (w.heap.size + 1) 98 9 (mF fun _ _ => 0) ∧ W.rowIs (w.heap.size + 2) 98 9 (mF fun _ _ => 0) ∧ Below w.heap.size w W := by
    refine ⟨_, rfl, ((mbox w g _).alloc _).alloc _, ?_, ?_, (ebox2 _ _ _).alloc (by simp; omega) _⟩
    · have := mbox (w.alloc (.cells #[.int .u8 (g 0 0), .int .u8 (g 0 1), .int .u8 (g 0 2), .int .u8 (g 1 0), .int .u8 (g 1 1), .int .u8 (g 1 2), .int .u8 (g 2 0), .int .u8 (g 2 1), .int .u8 (g 2 2)] 97)) (fun _ _ => 0) 98
      rw [World.size_alloc] at this
      exact this.alloc _
    · have := mbox ((w.alloc (.cells #[.int .u8 (g 0 0), .int .u8 (g 0 1), .int .u8 (g 0 2), .int .u8 (g 1 0), .int .u8 (g 1 1), .int .u8 (g 1 2), .int .u8 (g 2 0), .int .u8 (g 2 1), .int .u8 (g 2 2)] 97)).alloc (.cells #[.int .u8 0, .int .u8 0, .int .u8 0, .int .u8 0, .int .u8 0, .int .u8 0, .int .u8 0, .int .u8 0, .int .u8 0] 98)) (fun _ _ => 0) 98
      rw [World.size_alloc, World.size_alloc] at this
      exact this
  have hWs : w.heap.size + 3 ≤ W.heap.size := by rw [hW]; simp
  unfold mv
  go_enter Tryz.func82, Tryz.ntmps82
  go_upto_region 2 with fail
  rw [← hW]
  clear hW
  go_wp2_with fail
  go_loopw [4] (fun i wr => ∃ (k : Nat), k ≤ 3 ∧ i = .int .i64 k ∧ wr.rowIs w.heap.size 97 9 (mF g) ∧ wr.rowIs (w.heap.size + 1) 98 9 (mF fun _ _ => 0) ∧ wr.rowIs (w.heap.size + 2) 98 9 (mF fun a b => if a < k then g a b else 0) ∧ Below w.heap.size w wr ∧ w.heap.size + 3 ≤ wr.heap.size) (fun i _ => 3 - (intOf i).toNat)
  case atStart => exact ⟨0, by omega, rfl, rW, rR, mF_congr rO (fun a _ b _ => by simp), hbW, hWs⟩
  case round =>
    obtain ⟨k, hk, rfl, q1, q2, q3, hb, hs⟩ := hrel
    by_cases hlt : k < 3
    · obtain ⟨⟨c0, c1, c2⟩, ⟨c3, c4, c5⟩, c6, c7, c8⟩ := mcells q1
      have h3 : k = 0 ∨ k = 1 ∨ k = 2 := by omega
      rcases h3 with rfl | rfl | rfl
      all_goals
        go_wp2_with fail
        ((with_reducible refine (tobyte3 _ _ _ _).mono ?_); rintro e w2 ⟨rfl, hb2⟩)
        have p1 := erow_below q1 hb2 q1.lt
        have p2 := erow_below q2 hb2 q2.lt
        have p3 := erow_below q3 hb2 q3.lt
        have hb3 := hb.trans (hb2.mono hb.size)
        have hs3 := hb2.size
        obtain ⟨⟨o0, o1, o2⟩, ⟨o3, o4, o5⟩, o6, o7, o8⟩ := mcells p3
        have z0 := p3.frozen 0
        have z1 := p3.frozen 1
        have z2 := p3.frozen 2
        have z3 := p3.frozen 3
        have z4 := p3.frozen 4
        have z5 := p3.frozen 5
        have z6 := p3.frozen 6
        have z7 := p3.frozen 7
        have z8 := p3.frozen 8
        clear c0 c1 c2 c3 c4 c5 c6 c7 c8
      · have r1 := (((p3.set 0 (.int .u8 (g 0 0))).set 1 (.int .u8 (g 0 1))).set 2 (.int .u8 (g 0 2))).congr (g := mF fun a b => if a < 1 then g a b else 0) fun q hq => by
          match q, hq with | 0, _ => rfl | 1, _ => rfl | 2, _ => rfl | 3, _ => rfl | 4, _ => rfl | 5, _ => rfl | 6, _ => rfl | 7, _ => rfl | 8, _ => rfl
        go_wp2_with fail
        go_roundw
        case rel => exact ⟨1, by omega, by go_num, ((p1.setOther (by simp; omega) _).setOther (by simp; omega) _).setOther (by simp; omega) _, ((p2.setOther (by simp) _).setOther (by simp) _).setOther (by simp) _, r1, ((hb3.setCell (by simp; omega) _).setCell (by simp; omega) _).setCell (by simp; omega) _, by simp; omega⟩
        case measure => simp [intOf]
      · have r1 := (((p3.set 3 (.int .u8 (g 1 0))).set 4 (.int .u8 (g 1 1))).set 5 (.int .u8 (g 1 2))).congr (g := mF fun a b => if a < 2 then g a b else 0) fun q hq => by
          match q, hq with | 0, _ => rfl | 1, _ => rfl | 2, _ => rfl | 3, _ => rfl | 4, _ => rfl | 5, _ => rfl | 6, _ => rfl | 7, _ => rfl | 8, _ => rfl
        go_wp2_with fail
        go_roundw
        case rel => exact ⟨2, by omega, by go_num, ((p1.setOther (by simp; omega) _).setOther (by simp; omega) _).setOther (by simp; omega) _, ((p2.setOther (by simp) _).setOther (by simp) _).setOther (by simp) _, r1, ((hb3.setCell (by simp; omega) _).setCell (by simp; omega) _).setCell (by simp; omega) _, by simp; omega⟩
        case measure => simp [intOf]
      · have r1 := (((p3.set 6 (.int .u8 (g 2 0))).set 7 (.int .u8 (g 2 1))).set 8 (.int .u8 (g 2 2))).congr (g := mF fun a b => if a < 3 then g a b else 0) fun q hq => by
          match q, hq with | 0, _ => rfl | 1, _ => rfl | 2, _ => rfl | 3, _ => rfl | 4, _ => rfl | 5, _ => rfl | 6, _ => rfl | 7, _ => rfl | 8, _ => rfl
        go_wp2_with fail
        go_roundw
        case rel => exact ⟨3, by omega, by go_num, ((p1.setOther (by simp; omega) _).setOther (by simp; omega) _).setOther (by simp; omega) _, ((p2.setOther (by simp) _).setOther (by simp) _).setOther (by simp) _, r1, ((hb3.setCell (by simp; omega) _).setCell (by simp; omega) _).setCell (by simp; omega) _, by simp; omega⟩
        case measure => simp [intOf]
    · obtain rfl : k = 3 := by omega
      have q4 := mF_congr (h := g) q3 (fun a ha b _ => by simp [ha])
      obtain ⟨⟨o0, o1, o2⟩, ⟨o3, o4, o5⟩, o6, o7, o8⟩ := mcells q4
      obtain ⟨⟨y0, y1, y2⟩, ⟨y3, y4, y5⟩, y6, y7, y8⟩ := mcells q2
      have z0 := q2.frozen 0
      have z1 := q2.frozen 1
      have z2 := q2.frozen 2
      have z3 := q2.frozen 3
      have z4 := q2.frozen 4
      have z5 := q2.frozen 5
      have z6 := q2.frozen 6
      have z7 := q2.frozen 7
      have z8 := q2.frozen 8
      obtain ⟨hf1, hf2⟩ := mfill (w := w) (B := w.heap.size) q2 hb (by omega) g
      obtain ⟨⟨v0, v1, v2⟩, ⟨v3, v4, v5⟩, v6, v7, v8⟩ := mcells hf1
      have V0 := Lib.hid v0
      have V1 := Lib.hid v1
      have V2 := Lib.hid v2
      have V3 := Lib.hid v3
      have V4 := Lib.hid v4
      have V5 := Lib.hid v5
      have V6 := Lib.hid v6
      have V7 := Lib.hid v7
      have V8 := Lib.hid v8
      have HF2 := Lib.hid hf2
      clear hf1 hf2 v0 v1 v2 v3 v4 v5 v6 v7 v8 q3 q4
      go_wp2_with fail
      exact bodyPost_ret (v := mv g) (by simp [results, Tryz.results82, go_sem, mv, V0.out, V1.out, V2.out, V3.out, V4.out, V5.out, V6.out, V7.out, V8.out]) rfl ⟨rfl, HF2.out⟩
theorem tomat_agg (g : Nat → Nat → Int) (w : World) : Calls Tryz.prog 82 #[.agg #[.int .u8 (g 0 0), .int .u8 (g 0 1), .int .u8 (g 0 2), .int .u8 (g 1 0), .int .u8 (g 1 1), .int .u8 (g 1 2), .int .u8 (g 2 0), .int .u8 (g 2 1), .int .u8 (g 2 2)]] w fun e w' => e = .returned (.agg #[.int .u8 (g 0 0), .int .u8 (g 0 1), .int .u8 (g 0 2), .int .u8 (g 1 0), .int .u8 (g 1 1), .int .u8 (g 1 2), .int .u8 (g 2 0), .int .u8 (g 2 1), .int .u8 (g 2 2)]) ∧ Below w.heap.size w w' := tomat g w
end Go.Proofs.YtllklhakbanhaaaGreat
namespace Go.Proofs.YtllklhakbanhaaaGreat
open Go.RowKit Go.Sort EchM

set_option maxHeartbeats 2000000 in
theorem eqbyte3 (x y z : Int) (w : World) : Calls Tryz.prog 122 #[.agg #[.int .u8 x, .int .u8 y, .int .u8 z], .agg #[.int .u8 x, .int .u8 y, .int .u8 z]] w fun e w' => e = .returned (.bool true) ∧ Below w.heap.size w w' := by
  have hx : (x != x) = false := by simp
  have hy : (y != y) = false := by simp
  have hz : (z != z) = false := by simp
  go_enter Tryz.func122, Tryz.ntmps122
  go_wp2
  refine wp_loop_rounds 4 ?_
  iterate 3 (rw [rounds_succ]; go_wp2; go_quiet (fail); go_wp2)
  rw [rounds_succ]
  go_wp2
  go_ret
  exact ⟨rfl, by repeat (first | exact ebox2 _ _ _ | refine below_drewN ?_ _)⟩

end Go.Proofs.YtllklhakbanhaaaGreat
namespace Go.Proofs.YtllklhakbanhaaaGreat
open Go.RowKit Go.Sort EchM

theorem infoMat : (Tryz.prog.info? 98).map (fun i => (i.zero, i.size, i.bytes)) = some (some (.agg #[.int .u8 0, .int .u8 0, .int .u8 0, .int .u8 0, .int .u8 0, .int .u8 0, .int .u8 0, .int .u8 0, .int .u8 0]), 9, 9) := by kernel_rfl
def madeM (n : Nat) : Array Value := madeCells (Value.agg #[.int .u8 0, .int .u8 0, .int .u8 0, .int .u8 0, .int .u8 0, .int .u8 0, .int .u8 0, .int .u8 0, .int .u8 0]).cells (n * 9)
theorem madeM_row (w : World) (n : Nat) (t : TypeId) : (w.alloc (.cells (madeM n) t)).rowIs w.heap.size t (n * 9) (fun i => (madeM n).getD i undef) := by
  have hs : (madeM n).size = n * 9 := by simp [madeM, madeCells]
  refine ⟨madeM n, heap_alloc_new w _, hs, fun i hi => ?_⟩
  simp [Array.getD, hs, hi]
/-- What the row holds behind k rounds: the first k matrices. -/
def rowM (L : List (Nat → Nat → Int)) (k : Nat) (f : Nat → Value) : Prop :=
  ∀ (j : Nat) (h : j < L.length), j < k → ∀ a b, a < 3 → b < 3 → f (j * 9 + (a * 3 + b)) = .int .u8 (L[j] a b)
def putM (f : Nat → Value) (k : Nat) (x : Nat → Nat → Int) (q : Nat) : Value := if k * 9 ≤ q ∧ q < k * 9 + 9 then .int .u8 (x ((q - k * 9) / 3) ((q - k * 9) % 3)) else f q
theorem rowM_step {L : List (Nat → Nat → Int)} {k : Nat} {f : Nat → Value} (h : rowM L k f) (hk : k < L.length) : rowM L (k + 1) (putM f k L[k]) := by
  intro j hj hjk a b ha hb
  unfold putM
  by_cases e : j = k
  · subst e
    rw [if_pos (by omega), show (j * 9 + (a * 3 + b) - j * 9) / 3 = a by omega, show (j * 9 + (a * 3 + b) - j * 9) % 3 = b by omega]
  · rw [if_neg (by omega)]
    exact h j hj (by omega) a b ha hb
theorem putM_row {w : World} {B n : Nat} {t : TypeId} {f : Nat → Value} (h : w.rowIs B t n f) (k : Nat) (x : Nat → Nat → Int) :
    ((((((((((w).setCell ⟨B, k * 9, none⟩ (.int .u8 (x 0 0))).setCell ⟨B, k * 9 + 1, none⟩ (.int .u8 (x 0 1))).setCell ⟨B, k * 9 + 2, none⟩ (.int .u8 (x 0 2))).setCell ⟨B, k * 9 + 3, none⟩ (.int .u8 (x 1 0))).setCell ⟨B, k * 9 + 4, none⟩ (.int .u8 (x 1 1))).setCell ⟨B, k * 9 + 5, none⟩ (.int .u8 (x 1 2))).setCell ⟨B, k * 9 + 6, none⟩ (.int .u8 (x 2 0))).setCell ⟨B, k * 9 + 7, none⟩ (.int .u8 (x 2 1))).setCell ⟨B, k * 9 + 8, none⟩ (.int .u8 (x 2 2))).rowIs B t n (putM f k x) := by
  refine ((((((((((h).set (k * 9) (.int .u8 (x 0 0))).set (k * 9 + 1) (.int .u8 (x 0 1))).set (k * 9 + 2) (.int .u8 (x 0 2))).set (k * 9 + 3) (.int .u8 (x 1 0))).set (k * 9 + 4) (.int .u8 (x 1 1))).set (k * 9 + 5) (.int .u8 (x 1 2))).set (k * 9 + 6) (.int .u8 (x 2 0))).set (k * 9 + 7) (.int .u8 (x 2 1))).set (k * 9 + 8) (.int .u8 (x 2 2))).congr fun q _ => ?_
  unfold putM
  by_cases e : k * 9 ≤ q ∧ q < k * 9 + 9
  · obtain ⟨r, rfl⟩ : ∃ r, q = k * 9 + r := ⟨q - k * 9, by omega⟩
    have hr : r < 9 := by omega
    rw [if_pos e, Nat.add_sub_cancel_left]
    match r, hr with
    | 0, _ => simp
    | 1, _ => simp
    | 2, _ => simp
    | 3, _ => simp
    | 4, _ => simp
    | 5, _ => simp
    | 6, _ => simp
    | 7, _ => simp
    | 8, _ => simp
  · rw [if_neg e]
    repeat (rw [if_neg (by omega)])
/-- A list of matrices that a call has made, and holds as its own. -/
def OwnM (w : World) (base : Nat) (v : Value) (L : List (Nat → Nat → Int)) : Prop :=
  ∃ g f, v = .slice (some ⟨g, 0, none⟩) L.length L.length ∧ base ≤ g ∧ w.rowIs g 98 (L.length * 9) f ∧ rowM L L.length f
theorem OwnM.slice {w : World} {base : Nat} {v : Value} {L : List (Nat → Nat → Int)} (h : OwnM w base v L) : SlM w v L := by
  obtain ⟨g, f, hv, _, hr, ht⟩ := h
  refine ⟨_, _, hv, .inr ⟨g, 0, rfl, hr.lt, fun k hk i j hi hj => ?_⟩⟩
  rw [Nat.zero_add, hr.cell (by omega), ht k hk hk i j hi hj]
theorem OwnM.below {w w' : World} {base : Nat} {v : Value} {L : List (Nat → Nat → Int)} (h : OwnM w base v L) (hb : Below w.heap.size w w') : OwnM w' base v L := by
  obtain ⟨g, f, hv, hg, hr, ht⟩ := h
  exact ⟨g, f, hv, hg, erow_below hr hb hr.lt, ht⟩

set_option maxRecDepth 8000 in
set_option maxHeartbeats 8000000 in
theorem tomats (v : Value) (L : List (Nat → Nat → Int)) (w : World) (hl : L.length ≤ 1048576) (hS : SlM w v L) :
    Calls Tryz.prog 49 #[v] w fun e w' => ∃ v', e = .returned v' ∧ OwnM w' w.heap.size v' L ∧ Below w.heap.size w w' := by
  obtain ⟨i0, hi, hz0, hz1, hz2⟩ := info_parts infoMat
  have hmk : ∀ w, (Instr.makeSlice 33 (.int .i64 (L.length : Int)) (.int .i64 (L.length : Int))).run Tryz.prog w = .ok (.slice (some ⟨w.heap.size, 0, none⟩) L.length L.length) (w.alloc (.cells (madeM L.length) 98)) := fun w => by
    have h := run_make (P := Tryz.prog) w 33 98 i0 _ Tryz.underlying33 hi hz0 .i64 .i64 (L.length : Int) (L.length : Int) (by omega) (by omega) (by rw [hz2]; omega) (by omega)
    rw [hz1] at h
    simpa [madeM] using h
  clear hi hz0 hz1 hz2
  obtain ⟨a, cap, rfl, hSc⟩ := id hS
  go_enter Tryz.func49, Tryz.ntmps49
  go_wp2_with fail
  go_loopw [4] (fun i wr => ∃ k : Nat, k ≤ L.length ∧ i = .int .i64 k ∧ Below w.heap.size w wr ∧ w.heap.size < wr.heap.size ∧ ∃ f, wr.rowIs w.heap.size 98 (L.length * 9) f ∧ Hid (rowM L k f)) (fun i _ => L.length - (intOf i).toNat)
  case atStart => exact ⟨0, by omega, rfl, ebox1 _ _, by simp, _, madeM_row w _ _, Lib.hid (fun j _ h => by omega)⟩
  case round =>
    obtain ⟨k, hk, rfl, hbel, hsz, f, hrow, HR⟩ := hrel
    by_cases hlt : k < L.length
    · have hlt' : (k : Int) < (L.length : Int) := by omega
      obtain ⟨b, off, rfl, hbb, hT⟩ : ∃ b off, a = some ⟨b, off, none⟩ ∧ b < w.heap.size ∧ MatsW w b off L := by
        rcases hSc with rfl | h
        · simp at hlt
        · exact h
      obtain ⟨⟨a0, a1, a2⟩, ⟨a3, a4, a5⟩, a6, a7, a8⟩ := (hT.below hbel hbb).nine hlt
      have HN := Lib.hid (rowM_step HR.out hlt)
      generalize L[k] = x at *
      go_wp2_with fail
      ((with_reducible refine (tomat_agg x _).mono ?_); rintro e w1 ⟨rfl, hb1⟩)
      have row1 := erow_below hrow hb1 hsz
      have d0 := row1.cell (i := k * 9) (by omega)
      have f0 := row1.frozen (k * 9)
      have d1 := row1.cell (i := k * 9 + 1) (by omega)
      have f1 := row1.frozen (k * 9 + 1)
      have d2 := row1.cell (i := k * 9 + 2) (by omega)
      have f2 := row1.frozen (k * 9 + 2)
      have d3 := row1.cell (i := k * 9 + 3) (by omega)
      have f3 := row1.frozen (k * 9 + 3)
      have d4 := row1.cell (i := k * 9 + 4) (by omega)
      have f4 := row1.frozen (k * 9 + 4)
      have d5 := row1.cell (i := k * 9 + 5) (by omega)
      have f5 := row1.frozen (k * 9 + 5)
      have d6 := row1.cell (i := k * 9 + 6) (by omega)
      have f6 := row1.frozen (k * 9 + 6)
      have d7 := row1.cell (i := k * 9 + 7) (by omega)
      have f7 := row1.frozen (k * 9 + 7)
      have d8 := row1.cell (i := k * 9 + 8) (by omega)
      have f8 := row1.frozen (k * 9 + 8)
      have hbel1 := hbel.trans (hb1.mono (Nat.le_of_lt hsz))
      have hsz1 := Nat.lt_of_lt_of_le hsz hb1.size
      have rows := putM_row row1 k x
      clear hb1 row1 a0 a1 a2 a3 a4 a5 a6 a7 a8
      go_wp2_with fail
      go_roundw
      case rel => exact ⟨k + 1, by omega, by go_num, (((((((((hbel1).setCell (Nat.le_refl _) _).setCell (Nat.le_refl _) _).setCell (Nat.le_refl _) _).setCell (Nat.le_refl _) _).setCell (Nat.le_refl _) _).setCell (Nat.le_refl _) _).setCell (Nat.le_refl _) _).setCell (Nat.le_refl _) _).setCell (Nat.le_refl _) _, by simpa using hsz1, _, rows, HN⟩
      case measure => simp [intOf]; omega
    · obtain rfl : k = L.length := by omega
      have hR := HR.out
      go_wp2_with fail
      go_ret
      exact ⟨_, rfl, ⟨w.heap.size, f, rfl, Nat.le_refl _, hrow, hR⟩, hbel⟩
end Go.Proofs.YtllklhakbanhaaaGreat
