/-
  WALKS: the orbit by the model: 'spec.l03Orbit'. Conditions: as each theorem states.
  WALKS: 'impl.OrbitSum', 'spec.OrbitSum'. Conditions: the numbers fit their kinds.
-/
import Derived.Test.YtllklhakbanhaaaGreatQ51
import Derived.Test.YtllklhakbanhaaaGreatQ48
namespace Go.Proofs.YtllklhakbanhaaaGreat
open Go.RowKit Go.Sort Go.Maps EchM

/-- A list of polynomials of a prime and letters in the making, whose terms may lie anywhere. -/
structure PRk (w : World) (base : Nat) (p : Int) (n : Nat) (v : Value) (us : List Value) (Ls : List (List Tm)) : Prop where
  len : us.length = Ls.length
  rows : w.ownsRow base 39 3 v Ls.length (cellsQ p n us)
  own : ∀ (i : Nat) (h : i < us.length) (h' : i < Ls.length), OwnP w 0 us[i] Ls[i]
theorem PRk.below {w w' : World} {base : Nat} {p : Int} {n : Nat} {v : Value} {us : List Value} {Ls : List (List Tm)} (h : PRk w base p n v us Ls) (hb : Below w.heap.size w w') : PRk w' base p n v us Ls :=
  ⟨h.len, owns_belowT h.rows hb, fun i hi hi' => owns_belowT (h.own i hi hi') hb⟩
theorem PRk.more {w w2 : World} {base : Nat} {p : Int} {n : Nat} {v v2 u : Value} {us : List Value} {Ls : List (List Tm)} {X : List Tm} (h : PRk w base p n v us Ls) (ho : OwnP w 0 u X)
    (hg : w.grownBy w2 v.ownBlock) (hr : w2.ownsRow base 39 3 v2 (Ls.length + 1) (cellsQ p n us ++ [.int .i64 p, .int .i64 (n : Int), u])) : PRk w2 base p n v2 (us ++ [u]) (Ls ++ [X]) := by
  have hl := h.len
  refine ⟨by simp [hl], by rw [cellsQ_snoc]; simpa using hr, fun i hi hi' => ?_⟩
  simp at hi
  by_cases e : i = us.length
  · subst e
    rw [List.getElem_append_right (by omega), List.getElem_append_right (by omega)]
    simp only [Nat.sub_self, hl, List.getElem_cons_zero]
    exact ho.kept hg (own_own ho h.rows (by decide))
  · rw [List.getElem_append_left (by omega), List.getElem_append_left (by omega)]
    exact (h.own i (by omega) (by omega)).kept hg (own_own (h.own i (by omega) (by omega)) h.rows (by decide))
theorem PRk.slP {w : World} {base : Nat} {p : Int} {n : Nat} {v : Value} {us : List Value} {Ls : List (List Tm)} (h : PRk w base p n v us Ls) : SlPn w p n v Ls := by
  have hl := h.len
  obtain ⟨_, ⟨rfl, h0⟩ | ⟨b, cap, cur, rfl, hb, hg, hc1, hc2, hsz, htk⟩⟩ := id h.rows
  · refine ⟨none, 0, by rw [List.length_map, h0], .inl ?_⟩
    apply List.eq_nil_of_length_eq_zero
    rw [List.length_map, h0]
  · refine ⟨_, cap, by rw [List.length_map], .inr ⟨b, 0, rfl, (Array.getElem?_eq_some_iff.1 hg).1, fun k hk => ?_⟩⟩
    rw [List.length_map] at hk
    have hk' : k < us.length := by omega
    rw [List.getElem_map]
    have key : ∀ j, j < 3 → ∀ u, ([Value.int .i64 p, .int .i64 (n : Int), us[k]] : List Value)[j]? = some u → w.cell? ⟨b, 0 + k * 3 + j, none⟩ = some u := fun j hj u hu => by
      have e2 : (cellsQ p n us)[k * 3 + j]? = some u := (cellsQ_get p n us k j hk' hj).trans hu
      have hlt : k * 3 + j < Ls.length * 3 := by omega
      rw [← htk, List.getElem?_take_of_lt hlt, Array.getElem?_toList] at e2
      simp [World.cell?, hg, e2]
    exact ⟨us[k], key 0 (by omega) _ rfl, key 1 (by omega) _ rfl, key 2 (by omega) _ rfl, OwnP.slice (h.own k hk' hk)⟩
theorem PRk.shape {w : World} {base : Nat} {p : Int} {n : Nat} {v : Value} {us : List Value} {Ls : List (List Tm)} (h : PRk w base p n v us Ls) : ∃ a c, v = .slice a Ls.length c := owns_slice h.rows
/-- The polynomial k of a list of the call's own: its cells, its terms. -/
theorem PMk.nthO {w : World} {base hi : Nat} {p : Int} {n : Nat} {a : Option Addr} {l c : Nat} {us : List Value} {Ls : List (List Tm)} (h : PMk w base hi p n (.slice a l c) us Ls) {k : Nat} (hk : k < Ls.length) :
    ∃ b u, a = some ⟨b, 0, none⟩ ∧ b < w.heap.size ∧ w.cell? ⟨b, k * 3, none⟩ = some (.int .i64 p) ∧ w.cell? ⟨b, k * 3 + 1, none⟩ = some (.int .i64 (n : Int)) ∧ w.cell? ⟨b, k * 3 + 2, none⟩ = some u ∧ OwnP w 0 u Ls[k] := by
  have hl := h.len
  obtain ⟨_, ⟨_, h0⟩ | ⟨b, cap, cur, hv, hb, hg, hc1, hc2, hsz, htk⟩⟩ := id h.rows
  · omega
  · simp at hv
    obtain ⟨rfl, _, _⟩ := hv
    have hk' : k < us.length := by omega
    have key : ∀ j, j < 3 → ∀ u, ([Value.int .i64 p, .int .i64 (n : Int), us[k]] : List Value)[j]? = some u → w.cell? ⟨b, k * 3 + j, none⟩ = some u := fun j hj u hu => by
      have e2 : (cellsQ p n us)[k * 3 + j]? = some u := (cellsQ_get p n us k j hk' hj).trans hu
      have hlt : k * 3 + j < Ls.length * 3 := by omega
      rw [← htk, List.getElem?_take_of_lt hlt, Array.getElem?_toList] at e2
      simp [World.cell?, hg, e2]
    exact ⟨b, us[k], rfl, (Array.getElem?_eq_some_iff.1 hg).1, key 0 (by omega) _ rfl, key 1 (by omega) _ rfl, key 2 (by omega) _ rfl, owns_low (h.own k hk' hk) (Nat.zero_le _)⟩

set_option maxRecDepth 8000 in
set_option maxHeartbeats 16000000 in
theorem spor {p : Int} {m : Nat} {L : List (Nat → Nat → Int)} {xs : List Tm} (h : GrpP p m L xs) (v u : Value) (w : World) (hS : SlM w v L) (hU : SliceT w u xs) :
    Calls Tryz.prog 48 #[.agg #[.int .i64 p, .int .i64 (m : Int), v], .agg #[.int .i64 p, .int .i64 (m : Int), u]] w fun e w' => ∃ v' us, e = .returned v' ∧ PRk w' w.heap.size p m v' us (orbL (allL p m L xs)) ∧ Below w.heap.size w w' := by
  obtain ⟨i0, hi0, hz0, hz1, hz2⟩ := info_parts infoPoly
  obtain ⟨W, hW, hbW, ⟨hWs1, hWs2⟩, rg, rx⟩ := boxGP w p (m : Int) v p (m : Int) u
  have hl := h.l48
  have HAC := Lib.hid (sall h v u W (hS.below hbW) (hU.below hbW))
  have HLN := Lib.hid (fun (X : List Tm) (hX : X ∈ allL p m L xs) => show X.length ≤ 2197 from (h.allV X hX).isP.len)
  have hll : (allL p m L xs).length = L.length := allL_len p m L xs
  obtain ⟨Ls, hLs⟩ : ∃ Ls, allL p m L xs = Ls := ⟨_, rfl⟩
  rw [hLs] at HAC HLN hll ⊢
  have hlL : Ls.length ≤ 48 := by omega
  obtain ⟨a, cap, rfl, _⟩ := id hS
  obtain ⟨ua, uc, rfl, _⟩ := id hU
  obtain ⟨g0, g1, g2⟩ := gcells rg
  obtain ⟨⟨x0, x1, x2⟩, _⟩ := poly3 rx
  clear h hLs hll hl rg rx
  go_enter Tryz.func48, Tryz.ntmps48
  go_upto_region 1 with fail
  rw [← hW]
  clear hW
  go_wp2_with fail
  ((with_reducible refine HAC.out.mono ?_); rintro e w1 ⟨v1, us1, hi1, rfl, hP1, hb1⟩)
  have hbw1 := hbW.trans (hb1.mono hbW.size)
  obtain ⟨pa, pc, rfl⟩ := hP1.shape
  obtain ⟨X0, hX0, hbX0, ⟨hXs1, hXs2⟩, hown⟩ : ∃ X, X = w1.alloc (.cells #[] 39) ∧ Below w1.heap.size w1 X ∧ (X.heap.size ≤ w1.heap.size + 1 ∧ w1.heap.size + 1 ≤ X.heap.size) ∧ X.ownsRow w1.heap.size 39 3 (.slice (some ⟨w1.heap.size, 0, none⟩) 0 0) 0 [] := ⟨_, rfl, box1 _ _, ⟨by simp, by simp⟩, zeroPl w1⟩
  have st0 : PRk X0 w1.heap.size p m (.slice (some ⟨w1.heap.size, 0, none⟩) 0 0) [] (orbL (Ls.take 0)) := ⟨rfl, hown, fun i h => by simp at h⟩
  clear g0 g1 g2 x0 x1 x2 HAC hb1 hbW hown
  go_wp2_with fail
  rw [← hX0]
  clear hX0
  go_loopw [7, 6] (fun i vv wr => ∃ (k : Nat) (v : Value) (us : List Value), k ≤ Ls.length ∧ i = .int .i64 k ∧ vv = v ∧ PRk wr w1.heap.size p m v us (orbL (Ls.take k)) ∧ Below w1.heap.size w1 wr) (fun i _ _ => Ls.length - (intOf i).toNat)
  case atStart => exact ⟨0, _, _, by omega, rfl, rfl, st0, hbX0⟩
  case round =>
    clear st0
    obtain ⟨k, v, us, hk, rfl, hvv, st, hbr⟩ := hrel
    obtain ⟨sa, sc, hv⟩ := st.shape
    subst hv
    subst u6
    obtain ⟨wo, hwo⟩ : ∃ wo : World, wo = wr := ⟨_, rfl⟩
    subst hwo
    by_cases hlt : k < Ls.length
    · have hlt' : (k : Int) < (Ls.length : Int) := by omega
      have hOl := orbL_len (Ls.take k)
      rw [List.length_take] at hOl
      have HN := Lib.hid (show orbL (Ls.take (k + 1)) = orbS (orbL (Ls.take k)) Ls[k] by rw [List.take_succ_eq_append_getElem hlt, orbL_snoc])
      have HOL := Lib.hid (fun (Y : List Tm) (hY : Y ∈ orbL (Ls.take k)) => HLN.out Y (List.mem_of_mem_take (orbL_mem hY)))
      obtain ⟨O, hOO⟩ : ∃ O, orbL (Ls.take k) = O := ⟨_, rfl⟩
      rw [hOO] at hOl HN HOL st ⊢
      have hO47 : O.length ≤ 47 := by omega
      have hXl := HLN.out Ls[k] (List.getElem_mem hlt)
      obtain ⟨bp, up, rfl, hbp, _, _, _, _⟩ := hP1.nthO hlt
      have HX := Lib.hid (fun w' (hb : Below w1.heap.size w1 w') => (hP1.below hb).nthO hlt)
      generalize Ls[k] = X at *
      clear hOO hOl
      go_wp2_with fail
      go_loopw [9, 8] (fun j mv wr => ∃ (k2 : Nat), k2 ≤ O.length ∧ j = .int .i64 k2 ∧ mv = .bool ((O.take k2).any (fun Y => sameT Y X)) ∧ Below wo.heap.size wo wr) (fun j _ _ => O.length - (intOf j).toNat)
      case atStart => exact ⟨0, by omega, rfl, by simp, Below.refl _ _⟩
      case round =>
        obtain ⟨k2, hk2, rfl, hmv, hb2⟩ := hrel
        subst u8
        have hbr2 := hbr.trans (hb2.mono hbr.size)
        by_cases hlt2 : k2 < O.length
        · have hlt2' : (k2 : Int) < (O.length : Int) := by omega
          have HSN := Lib.hid (any_take (fun Y => sameT Y X) O k2 hlt2)
          have hYl := HOL.out O[k2] (List.getElem_mem hlt2)
          obtain ⟨bo, oo, uo, rfl, hbo, hmm, c0, c1, c2, hT⟩ := SlP.nth (st.below hb2).slP hlt2
          obtain ⟨bp', up', hbe, hbp', d0, d1, d2, hXo⟩ := HX.out wr hbr2
          simp at hbe
          subst hbe
          generalize O[k2] = Y at *
          obtain ⟨B, hB⟩ : ∃ B, (O.take k2).any (fun Y => sameT Y X) = B := ⟨_, rfl⟩
          rw [hB] at HSN ⊢
          have hTd : SliceT wr.drew uo Y := hT.below (Below.refl _ _).drew
          have hXd : SliceT wr.drew up' X := (OwnP.slice hXo).below (Below.refl _ _).drew
          obtain ⟨ya, yc, rfl, _⟩ := id hT
          obtain ⟨xa, xc, rfl⟩ := owns_slice hXo
          clear hB hmm
          cases B
          · go_wp2_with fail
            have HB := Lib.hid (show sameT Y X = (O.take (k2 + 1)).any (fun Y => sameT Y X) by rw [HSN.out]; simp)
            go_region_with
              ((go_at_call 64; (with_reducible refine (ssame p m p m _ _ Y X _ (by omega) (by omega) hTd hXd).mono ?_); rintro e w4 ⟨rfl, hb4⟩))
            all_goals
              have hb5 := hb2.trans (((Below.refl _ _).drew.trans hb4).mono hb2.size)
              clear c0 c1 c2 d0 d1 d2 hTd hXd hT hXo
              go_wp2_with fail
              go_roundw
              case rel => exact ⟨k2 + 1, by omega, by go_num, by rw [HB.out], hb5⟩
              case measure => simp [intOf]; omega
          · have HB := Lib.hid (show true = (O.take (k2 + 1)).any (fun Y => sameT Y X) by rw [HSN.out]; simp)
            have hb5 : Below wo.heap.size wo wr.drew := hb2.drew
            go_wp2_with fail
            go_quiet (fail)
            go_wp2_with fail
            go_roundw
            case rel => exact ⟨k2 + 1, by omega, by go_num, by rw [← HB.out], by repeat (first | with_reducible exact hb2 | refine below_drewN ?_ _)⟩
            case measure => simp [intOf]; omega
        · obtain rfl : k2 = O.length := by omega
          rw [List.take_length]
          have stR := st.below hb2
          obtain ⟨bp', up', hbe, hbp', d0, d1, d2, hXo⟩ := HX.out wr hbr2
          simp at hbe
          subst hbe
          obtain ⟨xa, xc, rfl⟩ := owns_slice hXo
          obtain ⟨B, hB⟩ : ∃ B, O.any (fun Y => sameT Y X) = B := ⟨_, rfl⟩
          rw [hB]
          cases B
          · have HE : Hid (O ++ [X] = orbL (Ls.take (k + 1))) := Lib.hid (by rw [HN.out, orbS, hB]; rfl)
            have hb6 : Below wr.heap.size wr (wr.alloc (.cells #[.int .i64 p, .int .i64 (m : Int), .slice xa X.length xc] 39)) := box1 _ _
            have st6 := stR.below hb6
            have hmx : O.length + 1 ≤ maxLen := by unfold maxLen; omega
            have hmb : (O.length + 1) * 40 ≤ 140737488355328 := by omega
            have hWr := hbr2.size
            have hbs := Nat.le_trans hWr hb6.size
            clear hB
            go_wp2_with (at_builtin; refine wpList_append_lies _ rfl _ _ 30 rfl w1.heap.size 39 i0 _ 3 40 Tryz.underlying30 hi0 hz0 hz1 hz2 rfl (by decide) (.slice sa O.length sc) O.length (cellsQ p m us) rfl st6.rows ⟨wr.heap.size, 0, none⟩ 1 1 [.int .i64 p, .int .i64 (m : Int), .slice xa X.length xc] rfl rfl (one_poly wr p (m : Int) _) (by intro y hy; simp at hy; rcases hy with rfl | rfl | rfl <;> rfl) (by omega) hmx hmb hbs _ rfl ?_)
            intro gg cap3 w8 hown8 hgrow8 hat8 hlt8
            have stN := st6.more (u := .slice xa X.length xc) (X := X) (owns_belowT hXo hb6) hgrow8 hown8
            have hq8 : Below w1.heap.size w1 w8 := (hbr2.trans (hb6.mono hWr)).grown hgrow8 hbs (fun q hq => (World.ownsRow.lt st6.rows q hq).1)
            rw [HE.out] at stN
            clear hown8 hgrow8 hat8 st6 stR
            go_wp2_with fail
            go_roundw
            case rel => exact ⟨k + 1, _, _, by omega, by go_num, rfl, stN, hq8⟩
            case measure => simp [intOf]; omega
          · have HE : Hid (O = orbL (Ls.take (k + 1))) := Lib.hid (by rw [HN.out, orbS, hB]; rfl)
            rw [HE.out] at stR
            clear hB
            go_wp2_with fail
            go_roundw
            case rel => exact ⟨k + 1, _, us, by omega, by go_num, by rw [← HE.out], stR, hbr2⟩
            case measure => simp [intOf]; omega
    · obtain rfl : k = Ls.length := by omega
      rw [List.take_length] at st ⊢
      have hend := hbw1.trans (hbr.mono hbw1.size)
      have HD := Lib.hid (show PRk wo w.heap.size p m (.slice sa (orbL Ls).length sc) us (orbL Ls) from ⟨st.len, owns_low st.rows hbw1.size, st.own⟩)
      obtain ⟨lo, hlo⟩ : ∃ lo, (orbL Ls).length = lo := ⟨_, rfl⟩
      rw [hlo] at HD ⊢
      clear st hlo
      go_wp2_with fail
      go_ret
      exact ⟨_, _, rfl, HD.out, hend⟩
end Go.Proofs.YtllklhakbanhaaaGreat
namespace Go.Proofs.YtllklhakbanhaaaGreat
open Go.RowKit Go.Sort Go.Maps EchM

theorem GrpP.orbV {p : Int} {m : Nat} {L : List (Nat → Nat → Int)} {xs : List Tm} (h : GrpP p m L xs) : ∀ X ∈ orbL (allL p m L xs), Valid p m X := fun X hX => h.allV X (orbL_mem hX)
theorem GrpP.orb1 {p : Int} {m : Nat} {L : List (Nat → Nat → Int)} {xs : List Tm} (h : GrpP p m L xs) : 1 ≤ (orbL (allL p m L xs)).length := orbL_pos (by rw [allL_len]; exact h.l1)
theorem GrpP.orb48 {p : Int} {m : Nat} {L : List (Nat → Nat → Int)} {xs : List Tm} (h : GrpP p m L xs) : (orbL (allL p m L xs)).length ≤ 48 := Nat.le_trans (orbL_len _) (by rw [allL_len]; exact h.l48)
/-- What the orbit sum is. -/
def orsR (p : Int) (L : List (Nat → Nat → Int)) (xs : List Tm) (m : Nat) (S : List Tm) : Prop := IsP p S (sumK p 1 (orbL (allL p m L xs)))
abbrev OrsO (p n : Int) (L : List (Nat → Nat → Int)) (q d : Int) (xs : List Tm) (o : OutP) : Prop := GpO p n (actC p n L q d xs) (orsR p L xs) o
theorem orsO_len {p n : Int} {L : List (Nat → Nat → Int)} {q d : Int} {xs : List Tm} {o : OutP} (h : OrsO p n L q d xs o) : o.S.length ≤ 1048576 :=
  gpO_len (fun _ _ hS => Nat.le_trans (IsP.len hS) (by omega)) h
theorem orsO_ex {p n : Int} {L : List (Nat → Nat → Int)} {q d : Int} {xs : List Tm} (hby : ∀ x ∈ L, Byt x) (hxb : ∀ t ∈ xs, tmByte t) : ∃ o, OrsO p n L q d xs o := by
  by_cases hc : actC p n L q d xs = 0
  · obtain ⟨m, rfl, rfl, rfl, hG⟩ := grpP_of hby hxb hc
    obtain ⟨S, hS⟩ := sum_ex (k := 1) hG.p2 _ (orbL (allL q m L xs)) rfl hG.orbV
    exact ⟨_, .inr ⟨hc, m, S, rfl, hS, rfl⟩⟩
  · exact ⟨_, .inl ⟨hc, rfl⟩⟩

set_option maxRecDepth 8000 in
set_option maxHeartbeats 8000000 in
theorem iors (p n : Int) (v : Value) (L : List (Nat → Nat → Int)) (q d : Int) (u : Value) (xs : List Tm) (w : World) (hl : L.length ≤ 1048576) (hS : SlM w v L) (hby : ∀ x ∈ L, Byt x) (hxl : xs.length ≤ 1048576) (hU : SliceT w u xs) (hxb : ∀ t ∈ xs, tmByte t) (o : OutP) (ho : OrsO p n L q d xs o) :
    Calls Tryz.prog 33 #[.agg #[.int .i64 p, .int .i64 n, v], .agg #[.int .i64 q, .int .i64 d, u]] w (ResO w o) := by
  obtain ⟨W, hW, hbW, ⟨hWs1, hWs2⟩, rg, rx, rr⟩ := boxGPR w p n v q d u
  have hSW := hS.below hbW
  have hUW := hU.below hbW
  obtain ⟨a, cap, rfl, _⟩ := id hS
  obtain ⟨ua, uc, rfl, _⟩ := id hU
  obtain ⟨g0, g1, g2⟩ := gcells rg
  obtain ⟨⟨x0, x1, x2⟩, _⟩ := poly3 rx
  have HBY := Lib.hid hby
  have HXB := Lib.hid hxb
  clear hby hxb
  go_enter Tryz.func33, Tryz.ntmps33
  go_upto_region 1 with fail
  rw [← hW]
  clear hW
  go_wp2_with fail
  ((with_reducible refine (icode3 p n _ L q d _ xs W hl hSW HBY.out hxl hUW HXB.out).mono ?_); rintro e w1 ⟨rfl, hb1⟩)
  have hbw1 := hbW.trans (hb1.mono hbW.size)
  have rg1 := erow_below rg hb1 rg.lt
  have rx1 := erow_below rx hb1 rx.lt
  have rr1 := erow_below rr hb1 rr.lt
  have hS1 := hSW.below hb1
  have hU1 := hUW.below hb1
  clear g0 g1 g2 x0 x1 x2 rg rx rr
  rcases ho with ⟨hc, rfl⟩ | ⟨hc, m', S, hm', hR, rfl⟩
  · obtain ⟨C, hC⟩ : ∃ C, actC p n L q d xs = C := ⟨_, rfl⟩
    have HC := Lib.hid hC
    rw [hC] at hc ⊢
    have hc' : (C != 0) = true := by simpa using hc
    clear hc hC
    obtain ⟨⟨r0, r1, r2⟩, z0, z1, z2⟩ := poly3 rr1
    obtain ⟨a0, a1, a2, a3, a4⟩ := fill_box (base := w.heap.size) rr1 (ownP_nil w1 w.heap.size) (Nat.le_refl _) hbw1 (by omega) 0 0
    have A0 := Lib.hid a0
    have A1 := Lib.hid a1
    have A2 := Lib.hid a2
    have A3 := Lib.hid a3
    have A4 := Lib.hid a4
    clear a0 a1 a2 a3 a4
    go_wp2_with fail
    exact bodyPost_ret (v := .tuple #[.agg #[.int .i64 0, .int .i64 0, .slice none 0 0], .int .i64 C]) (by simp [results, Tryz.results33, go_sem, A0.out, A1.out, A2.out]) rfl ⟨_, by rw [HC.out]; rfl, A3.out, A4.out⟩
  · obtain ⟨m, rfl, rfl, rfl, hG⟩ := grpP_of HBY.out HXB.out hc
    obtain rfl : m = m' := by omega
    have HR := Lib.hid hR
    rw [hc]
    clear hc hR hm'
    obtain ⟨g0, g1, g2⟩ := gcells rg1
    obtain ⟨⟨x0, x1, x2⟩, _⟩ := poly3 rx1
    have hbd : Below w1.heap.size w1 w1.drew := (Below.refl _ _).drew
    have X0 : w1.drew.cell? ⟨w.heap.size + 1, 0, none⟩ = some (.int .i64 q) := x0
    have X1 : w1.drew.cell? ⟨w.heap.size + 1, 1, none⟩ = some (.int .i64 (m : Int)) := x1
    have X2 : w1.drew.cell? ⟨w.heap.size + 1, 2, none⟩ = some (.slice ua xs.length uc) := x2
    have hzx : w.heap.size + 1 < w1.drew.heap.size := rx1.lt
    have hUd := hU1.below hbd
    have HAC := Lib.hid (iactions q m (.slice a L.length cap) L w1.drew hl (hS1.below hbd) hG.mat)
    have HPO := Lib.hid (fun v w h1 h2 => ipor hG v (.slice ua xs.length uc) w h1 h2)
    have HSM := Lib.hid (fun w v h => isum q m 1 v (orbL (allL q m L xs)) w hG.orb1 (Nat.le_trans hG.orb48 (by omega)) hG.orbV (by omega) (by have := hG.p2; omega) h)
    clear hG
    go_wp2_with fail
    go_region_with (first
      | (go_at_call 53; (with_reducible refine HAC.out.mono ?_); rintro e w2 ⟨v2, rfl, hA2, hb2⟩; (obtain ⟨gb, gc, rfl, _⟩ := id hA2); have Q0 := (hb2.cell (p := ⟨w.heap.size + 1, 0, none⟩) hzx).trans X0; have Q1 := (hb2.cell (p := ⟨w.heap.size + 1, 1, none⟩) hzx).trans X1; have Q2 := (hb2.cell (p := ⟨w.heap.size + 1, 2, none⟩) hzx).trans X2; have HB2 := hbd.trans hb2)
      | (go_at_call 52; (with_reducible refine (HPO.out _ _ hA2 (hUd.below hb2)).mono ?_); rintro e w4 ⟨v4, us4, hi4, rfl, hP4, hb4⟩; have hR4 : SlPn w4 q m v4 (orbL (allL q m L xs)) := hP4.slP; (obtain ⟨pa, pc, rfl⟩ := hP4.shape); have HB4 := HB2.trans (hb4.mono HB2.size))
      | (go_at_call 66; (with_reducible refine (HSM.out _ _ hR4).mono ?_); rintro e w3 ⟨v3, S3, rfl, ho3, hI3, hb3⟩; (obtain rfl : S3 = S := hI3.unique HR.out); (obtain ⟨sa3, sc3, rfl⟩ := owns_slice ho3); have HB3 := HB4.trans (hb3.mono HB4.size); have rr3 := rowIs_below rr1 HB3 rr1.lt; (obtain ⟨⟨r0, r1, r2⟩, z0, z1, z2⟩ := poly3 rr3)))
    all_goals
      obtain ⟨a0, a1, a2, a3, a4⟩ := fill_box (w := w) rr3 ho3 (Nat.le_trans hbw1.size HB4.size) (hbw1.trans (HB3.mono hbw1.size)) (by omega) q (m : Int)
      have A0 := Lib.hid a0
      have A1 := Lib.hid a1
      have A2 := Lib.hid a2
      have A3 := Lib.hid a3
      have A4 := Lib.hid a4
      clear a0 a1 a2 a3 a4
      go_wp2_with fail
      exact bodyPost_ret (v := .tuple #[.agg #[.int .i64 q, .int .i64 (m : Int), .slice sa3 S3.length sc3], .int .i64 0]) (by simp [results, Tryz.results33, go_sem, A0.out, A1.out, A2.out]) rfl ⟨_, rfl, A3.out, A4.out⟩

set_option maxRecDepth 8000 in
set_option maxHeartbeats 8000000 in
theorem sors (p n : Int) (v : Value) (L : List (Nat → Nat → Int)) (q d : Int) (u : Value) (xs : List Tm) (w : World) (hl : L.length ≤ 1048576) (hS : SlM w v L) (hby : ∀ x ∈ L, Byt x) (hxl : xs.length ≤ 1048576) (hU : SliceT w u xs) (hxb : ∀ t ∈ xs, tmByte t) (o : OutP) (ho : OrsO p n L q d xs o) :
    Calls Tryz.prog 32 #[.agg #[.int .i64 p, .int .i64 n, v], .agg #[.int .i64 q, .int .i64 d, u]] w (ResO w o) := by
  obtain ⟨W, hW, hbW, ⟨hWs1, hWs2⟩, rg, rx, rr⟩ := boxGPR w p n v q d u
  have hSW := hS.below hbW
  have hUW := hU.below hbW
  obtain ⟨a, cap, rfl, _⟩ := id hS
  obtain ⟨ua, uc, rfl, _⟩ := id hU
  obtain ⟨g0, g1, g2⟩ := gcells rg
  obtain ⟨⟨x0, x1, x2⟩, _⟩ := poly3 rx
  have HBY := Lib.hid hby
  have HXB := Lib.hid hxb
  clear hby hxb
  go_enter Tryz.func32, Tryz.ntmps32
  go_upto_region 1 with fail
  rw [← hW]
  clear hW
  go_wp2_with fail
  ((with_reducible refine (scode3 p n _ L q d _ xs W hl hSW HBY.out hxl hUW HXB.out).mono ?_); rintro e w1 ⟨rfl, hb1⟩)
  have hbw1 := hbW.trans (hb1.mono hbW.size)
  have rg1 := erow_below rg hb1 rg.lt
  have rx1 := erow_below rx hb1 rx.lt
  have rr1 := erow_below rr hb1 rr.lt
  have hS1 := hSW.below hb1
  have hU1 := hUW.below hb1
  clear g0 g1 g2 x0 x1 x2 rg rx rr
  rcases ho with ⟨hc, rfl⟩ | ⟨hc, m', S, hm', hR, rfl⟩
  · obtain ⟨C, hC⟩ : ∃ C, actC p n L q d xs = C := ⟨_, rfl⟩
    have HC := Lib.hid hC
    rw [hC] at hc ⊢
    have hc' : (C != 0) = true := by simpa using hc
    clear hc hC
    obtain ⟨⟨r0, r1, r2⟩, z0, z1, z2⟩ := poly3 rr1
    obtain ⟨a0, a1, a2, a3, a4⟩ := fill_box (base := w.heap.size) rr1 (ownP_nil w1 w.heap.size) (Nat.le_refl _) hbw1 (by omega) 0 0
    have A0 := Lib.hid a0
    have A1 := Lib.hid a1
    have A2 := Lib.hid a2
    have A3 := Lib.hid a3
    have A4 := Lib.hid a4
    clear a0 a1 a2 a3 a4
    go_wp2_with fail
    exact bodyPost_ret (v := .tuple #[.agg #[.int .i64 0, .int .i64 0, .slice none 0 0], .int .i64 C]) (by simp [results, Tryz.results32, go_sem, A0.out, A1.out, A2.out]) rfl ⟨_, by rw [HC.out]; rfl, A3.out, A4.out⟩
  · obtain ⟨m, rfl, rfl, rfl, hG⟩ := grpP_of HBY.out HXB.out hc
    obtain rfl : m = m' := by omega
    have HR := Lib.hid hR
    rw [hc]
    clear hc hR hm'
    obtain ⟨g0, g1, g2⟩ := gcells rg1
    obtain ⟨⟨x0, x1, x2⟩, _⟩ := poly3 rx1
    have hbd : Below w1.heap.size w1 w1.drew := (Below.refl _ _).drew
    have X0 : w1.drew.cell? ⟨w.heap.size + 1, 0, none⟩ = some (.int .i64 q) := x0
    have X1 : w1.drew.cell? ⟨w.heap.size + 1, 1, none⟩ = some (.int .i64 (m : Int)) := x1
    have X2 : w1.drew.cell? ⟨w.heap.size + 1, 2, none⟩ = some (.slice ua xs.length uc) := x2
    have hzx : w.heap.size + 1 < w1.drew.heap.size := rx1.lt
    have HAC := Lib.hid (spor hG (.slice a L.length cap) (.slice ua xs.length uc) w1.drew (hS1.below hbd) (hU1.below hbd))
    have HSM := Lib.hid (fun w u v h => sadd q m u v (orbL (allL q m L xs)) w hG.p2 hG.p13 (Nat.le_trans hG.orb48 (by omega)) hG.orbV h)
    clear hG
    go_wp2_with fail
    go_region_with (first
      | (go_at_call 48; (with_reducible refine HAC.out.mono ?_); rintro e w2 ⟨v2, us, rfl, hP2, hb2⟩; have hR2 : SlPn w2 q m v2 (orbL (allL q m L xs)) := hP2.slP; (obtain ⟨pa, pc, rfl⟩ := hP2.shape); have Q0 := (hb2.cell (p := ⟨w.heap.size + 1, 0, none⟩) hzx).trans X0; have Q1 := (hb2.cell (p := ⟨w.heap.size + 1, 1, none⟩) hzx).trans X1; have Q2 := (hb2.cell (p := ⟨w.heap.size + 1, 2, none⟩) hzx).trans X2; have HB2 := hbd.trans hb2)
      | (go_at_call 65; (with_reducible refine (HSM.out _ _ _ hR2).mono ?_); rintro e w3 ⟨v3, S3, rfl, ho3, hI3, hb3⟩; (obtain rfl : S3 = S := hI3.unique HR.out); (obtain ⟨sa3, sc3, rfl⟩ := owns_slice ho3); have HB3 := HB2.trans (hb3.mono HB2.size); have rr3 := rowIs_below rr1 HB3 rr1.lt; (obtain ⟨⟨r0, r1, r2⟩, z0, z1, z2⟩ := poly3 rr3)))
    all_goals
      obtain ⟨a0, a1, a2, a3, a4⟩ := fill_box (w := w) rr3 ho3 (Nat.le_trans hbw1.size HB2.size) (hbw1.trans (HB3.mono hbw1.size)) (by omega) q (m : Int)
      have A0 := Lib.hid a0
      have A1 := Lib.hid a1
      have A2 := Lib.hid a2
      have A3 := Lib.hid a3
      have A4 := Lib.hid a4
      clear a0 a1 a2 a3 a4 hR2
      go_wp2_with fail
      exact bodyPost_ret (v := .tuple #[.agg #[.int .i64 q, .int .i64 (m : Int), .slice sa3 S3.length sc3], .int .i64 0]) (by simp [results, Tryz.results32, go_sem, A0.out, A1.out, A2.out]) rfl ⟨_, rfl, A3.out, A4.out⟩
end Go.Proofs.YtllklhakbanhaaaGreat
