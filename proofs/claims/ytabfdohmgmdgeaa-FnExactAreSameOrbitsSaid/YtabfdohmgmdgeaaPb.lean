/-
  POINTS led by matrices: the model's walk and the program's. Conditions: as each theorem states.
-/
import Derived.Test.YtabfdohmgmdgeaaPa
import Derived.Test.YtabfdohmgmdgeaaCaa
namespace Go.Proofs.Ytabfdohmgmdgeaa
open Go.RowKit Go.Sort EchM

/-- The sum of the products for the number j of the point, up to k. -/
def lsum (x : Nat → Nat → Int) (pt : List Int) (j : Nat) : Nat → Int
  | 0 => 0
  | k + 1 => lsum x pt j k + nth pt k * x k j
def leadL (p : Int) (n : Nat) (x : Nat → Nat → Int) (pt : List Int) : List Int := (List.range n).map fun j => lsum x pt j n % p
theorem lsum_bound {p : Int} (h13 : p ≤ 13) {m : Nat} (m3 : m ≤ 3) {x : Nat → Nat → Int} {pt : List Int} (hx : ∀ i, i < 3 → ∀ j, j < 3 → 0 ≤ x i j ∧ x i j < p) (hp : ∀ k, k < m → 0 ≤ nth pt k ∧ nth pt k < p) {j : Nat} (hj : j < 3) : ∀ k, k ≤ m → 0 ≤ lsum x pt j k ∧ lsum x pt j k ≤ 169 * k
  | 0, _ => ⟨by simp [lsum], by simp [lsum]⟩
  | k + 1, hk => by
    have ih := lsum_bound h13 m3 hx hp hj k (by omega)
    obtain ⟨f0, f1⟩ := eprod_fit h13 (hp k (by omega)) (hx k (by omega) j hj)
    rw [lsum]
    omega
theorem nptB_of {p d : Int} {m : Nat} (hd : d = (m : Int)) {pt : List Int} (h : nptB p d pt = true) : pt.length = m ∧ ∀ k, k < m → 0 ≤ nth pt k ∧ nth pt k < p := by
  subst hd
  unfold nptB at h
  simp only [Bool.and_eq_true, decide_eq_true_eq, List.all_eq_true] at h
  obtain ⟨h1, h2⟩ := h
  have hl : pt.length = m := by omega
  refine ⟨hl, fun k hk => ?_⟩
  have := h2 pt[k] (List.getElem_mem _)
  unfold nnumB at this
  simp only [Bool.and_eq_true, decide_eq_true_eq] at this
  rwa [nth_lt (by omega)]
theorem leadL_len (p : Int) (n : Nat) (x : Nat → Nat → Int) (pt : List Int) : (leadL p n x pt).length = n := by simp [leadL]

set_option maxRecDepth 8000 in
set_option maxHeartbeats 8000000 in
theorem slead (p : Int) (m : Nat) (x : Nat → Nat → Int) (v : Value) (pt : List Int) (w : World) (hx : MatV p m x) (hpt : pt.length = m) (hp : ∀ k, k < m → 0 ≤ nth pt k ∧ nth pt k < p) (hS : Sl w v pt) :
    Calls Try.prog 39 #[.int .i64 p, .int .i64 (m : Int), .agg #[.int .u8 (x 0 0), .int .u8 (x 0 1), .int .u8 (x 0 2), .int .u8 (x 1 0), .int .u8 (x 1 1), .int .u8 (x 1 2), .int .u8 (x 2 0), .int .u8 (x 2 1), .int .u8 (x 2 2)], v] w fun e w' => ∃ v', e = .returned v' ∧ OwnL w' w.heap.size v' (leadL p m x pt) ∧ Below w.heap.size w w' := by
  obtain ⟨i0, hi, hz0, hz1, hz2⟩ := info_parts einfoI
  have h2 := hx.h2
  have h13 := hx.h13
  have m1 := hx.m1
  have m3 := hx.m3
  have HB := Lib.hid hx.bound
  have HPP := Lib.hid hp
  have HLS := Lib.hid (fun (j : Nat) (hj : j < 3) (k : Nat) (hk : k ≤ m) => lsum_bound h13 m3 hx.bound hp hj k hk)
  clear hp hx
  obtain ⟨W, hW, rX, hbW, hWs, hown⟩ : ∃ W, W = (w.alloc (.cells #[.int .u8 (x 0 0), .int .u8 (x 0 1), .int .u8 (x 0 2), .int .u8 (x 1 0), .int .u8 (x 1 1), .int .u8 (x 1 2), .int .u8 (x 2 0), .int .u8 (x 2 1), .int .u8 (x 2 2)] 56)).alloc (.cells #[] 2) ∧ W.rowIs w.heap.size 56 9 (mF x) ∧ Below w.heap.size w W ∧ w.heap.size + 1 ≤ W.heap.size ∧ OwnL W (w.heap.size + 1) (.slice (some ⟨w.heap.size + 1, 0, none⟩) 0 0) [] := by
    refine ⟨_, rfl, (mbox w x _).alloc _, ebox2 _ _ _, by simp, ?_⟩
    have := World.ownsRow_made (base := w.heap.size + 1) (e := 2) (size := 1) (w.alloc (.cells #[.int .u8 (x 0 0), .int .u8 (x 0 1), .int .u8 (x 0 2), .int .u8 (x 1 0), .int .u8 (x 1 1), .int .u8 (x 1 2), .int .u8 (x 2 0), .int .u8 (x 2 1), .int .u8 (x 2 2)] 56)) #[] 0 (by simp) (by simp [maxLen]) rfl
    simpa [OwnL, valsI] using this
  obtain ⟨a, cap, rfl, hc⟩ := id hS
  obtain ⟨b, off, rfl, hbb, hT⟩ : ∃ b off, a = some ⟨b, off, none⟩ ∧ b < w.heap.size ∧ Cs w b off pt := by
    rcases hc with rfl | h
    · simp at hpt; omega
    · exact h
  have HPT := Lib.hid hpt
  rw [hpt]
  clear hpt hS hc
  go_enter Try.func39, Try.ntmps39
  go_wp2_with fail
  rw [← hW]
  clear hW
  go_loopw [9, 10] (fun s i wr => ∃ (j : Nat), j ≤ m ∧ i = .int .i64 j ∧ OwnL wr (w.heap.size + 1) s ((List.range j).map fun j => lsum x pt j m % p) ∧ wr.rowIs w.heap.size 56 9 (mF x) ∧ Below w.heap.size w wr ∧ w.heap.size + 1 ≤ wr.heap.size) (fun _ i _ => m - (intOf i).toNat)
  case atStart => exact ⟨0, by omega, rfl, by simpa using hown, rX, hbW, hWs⟩
  case round =>
    obtain ⟨j, hj, rfl, hO, rX', hb, hsz⟩ := hrel
    obtain ⟨sa, sc, rfl⟩ := hO.shape
    by_cases hlt : j < m
    · have hlt' : (j : Int) < (m : Int) := by omega
      obtain ⟨wo, rfl⟩ : ∃ wo : World, wo = wr := ⟨_, rfl⟩
      go_wp2_with fail
      go_loopw [11, 12] (fun s u wr => ∃ (k : Nat), k ≤ m ∧ s = .int .i64 (lsum x pt j k) ∧ u = .int .i64 k ∧ ∃ n, wr = wo.drewN n) (fun _ u _ => m - (intOf u).toNat)
      case atStart => exact ⟨0, by omega, rfl, rfl, 0, rfl⟩
      case round =>
        obtain ⟨k, hk, rfl, rfl, nd, rfl⟩ := hrel
        obtain ⟨s0, s1⟩ := HLS.out j (by omega) k hk
        by_cases hkt : k < m
        · have hkt' : (k : Int) < (m : Int) := by omega
          have c0 := (hT.below hb hbb) k (by have := HPT.out; omega)
          have c1 := mcell rX' (i := k) (j := j) (by omega) (by omega)
          have HNT := nth_lt (r := pt) (show k < pt.length by have := HPT.out; omega)
          obtain ⟨x0, x1⟩ := HPP.out k hkt
          obtain ⟨y0, y1⟩ := HB.out k (by omega) j (by omega)
          obtain ⟨f0, f1⟩ := eprod_fit h13 ⟨x0, x1⟩ ⟨y0, y1⟩
          have HS := Lib.hid (show lsum x pt j k + nth pt k * x k j = lsum x pt j (k + 1) from rfl)
          rw [← HNT] at c0
          clear HNT
          generalize nth pt k = X at c0 x0 x1 f0 f1 HS
          generalize x k j = Y at c1 y0 y1 f0 f1 HS
          generalize lsum x pt j k = S at s0 s1 HS ⊢
          have w1 : IntKind.i64.wrap (X * Y) = X * Y := IntWalk.i64_in _ (by omega)
          have w2 : IntKind.i64.wrap (S + X * Y) = S + X * Y := IntWalk.i64_in _ (by omega)
          have hk3 : (k : Int) < 3 := by omega
          have hj3 : (j : Int) < 3 := by omega
          go_wp2_with fail
          go_quiet (fail)
          go_wp2_with fail
          go_roundw
          case rel => exact ⟨k + 1, by omega, by rw [← HS.out], by go_num, _, rfl⟩
          case measure => simp [intOf]; omega
        · obtain rfl : k = m := by omega
          have hOd := (hO.below (below_drewN (Below.refl _ _) nd))
          have htm : (lsum x pt j k).tmod p = lsum x pt j k % p := Int.tmod_eq_emod_of_nonneg s0
          have HR := Lib.hid (show ((List.range j).map fun j => lsum x pt j k % p) ++ [lsum x pt j k % p] = (List.range (j + 1)).map fun j => lsum x pt j k % p by rw [List.range_succ, List.map_append]; rfl)
          have hlen : ((List.range j).map fun j => lsum x pt j k % p).length = j := by simp
          generalize ((List.range j).map fun j => lsum x pt j k % p) = O at *
          have hOd2 : (wo.drewN nd).ownsRow (w.heap.size + 1) 2 1 (.slice sa j sc) j (valsI O) := by
            have h := hOd
            unfold OwnL at h
            rwa [hlen] at h
          have HLEN := Lib.hid hlen
          clear hlen hOd hO
          rw [HLEN.out]
          obtain ⟨q0, q1⟩ := emod_small (a := lsum x pt j k) h2
          generalize lsum x pt j k % p = R at *
          generalize lsum x pt j k = S at *
          go_wp2_with (at_builtin; refine wpList_append_lies _ rfl _ _ 25 rfl (w.heap.size + 1) 2 i0 _ 1 8 Try.underlying25 hi hz0 hz1 hz2 rfl (by decide) (.slice sa j sc) j (valsI O) rfl (World.ownsRow.alloc hOd2 _) ⟨(wo.drewN nd).heap.size, 0, none⟩ 1 1 [.int .i64 R] rfl rfl (World.news_of_block (cs := #[.int .i64 R]) (t := 2) (fr := (0, 0)) (heap_alloc_new _ _)) (by simp [Value.oneCell']) (by omega) (by unfold maxLen; omega) (by omega) (by simp; omega) _ rfl ?_)
          intro gg cap3 w3 hown3 hgrow3 hat3 hlt3
          have rXd := erow_below rX' ((below_drewN (Below.refl _ _) nd).trans (ebox1 (wo.drewN nd) (.cells #[.int .i64 R] 2))) rX'.lt
          have rX3 := mrow_grown rXd hgrow3 (World.ownsRow.alloc hOd2 _) (by decide)
          have hb3 : Below w.heap.size w w3 := ((below_drewN hb nd).alloc (by simp; omega) (.cells #[.int .i64 R] 2)).grown hgrow3 (by simp; omega) (fun q hq => by have := (World.ownsRow.lt hOd2 q hq).1; omega)
          have hsz3 : w.heap.size + 1 ≤ w3.heap.size := by have := hgrow3.size; simp at this; omega
          have hO3 : OwnL w3 (w.heap.size + 1) (.slice (some ⟨gg, 0, none⟩) (j + 1) cap3) (O ++ [R]) := by
            have h := hown3
            rw [valsI_snoc] at h
            simpa [OwnL, HLEN.out] using h
          clear hown3 hgrow3 hat3 rXd hOd2
          rw [HR.out] at hO3
          go_wp2_with fail
          go_roundw
          case rel => exact ⟨j + 1, by omega, by go_num, hO3, rX3, hb3, hsz3⟩
          case measure => simp [intOf]; omega
    · obtain rfl : j = m := by omega
      go_wp2_with fail
      go_ret
      exact ⟨_, rfl, by unfold leadL; exact OwnL.mono hO (by omega), hb⟩

/-- The numbers of the point that arises, at the place j with k products added. -/
def thF (p : Int) (m : Nat) (x : Nat → Nat → Int) (pt : List Int) (j k q : Nat) : Value := .int .i64 (if q < j then lsum x pt q m % p else if q = j then lsum x pt j k else 0)

set_option maxRecDepth 8000 in
set_option maxHeartbeats 8000000 in
theorem ilead (p : Int) (m : Nat) (x : Nat → Nat → Int) (v : Value) (pt : List Int) (w : World) (hx : MatV p m x) (hpt : pt.length = m) (hp : ∀ k, k < m → 0 ≤ nth pt k ∧ nth pt k < p) (hS : Sl w v pt) :
    Calls Try.prog 34 #[.int .i64 p, .agg #[.int .u8 (x 0 0), .int .u8 (x 0 1), .int .u8 (x 0 2), .int .u8 (x 1 0), .int .u8 (x 1 1), .int .u8 (x 1 2), .int .u8 (x 2 0), .int .u8 (x 2 1), .int .u8 (x 2 2)], v] w fun e w' => ∃ v', e = .returned v' ∧ nOwnI w' w.heap.size v' (leadL p m x pt) ∧ Below w.heap.size w w' := by
  obtain ⟨i0, hi, hz0, hz1, hz2⟩ := info_parts einfoI
  have h2 := hx.h2
  have h13 := hx.h13
  have m1 := hx.m1
  have m3 := hx.m3
  have HB := Lib.hid hx.bound
  have HPP := Lib.hid hp
  have HLS := Lib.hid (fun (j : Nat) (hj : j < 3) (k : Nat) (hk : k ≤ m) => lsum_bound h13 m3 hx.bound hp hj k hk)
  have hmk : ∀ w, (Instr.makeSlice 25 (.int .i64 (m : Int)) (.int .i64 (m : Int))).run Try.prog w = .ok (.slice (some ⟨w.heap.size, 0, none⟩) m m) (w.alloc (.cells (nmadeI m) 2)) := fun w => by
    have h := run_make (P := Try.prog) w 25 2 i0 _ Try.underlying25 hi hz0 .i64 .i64 (m : Int) (m : Int) (by omega) (by omega) (by rw [hz2]; omega) (by omega)
    rw [hz1] at h
    simpa [nmadeI, Value.cells] using h
  clear hp hx hi hz0 hz1 hz2
  obtain ⟨W, hW, rX, hbW, hWs, hth⟩ : ∃ W, W = (w.alloc (.cells #[.int .u8 (x 0 0), .int .u8 (x 0 1), .int .u8 (x 0 2), .int .u8 (x 1 0), .int .u8 (x 1 1), .int .u8 (x 1 2), .int .u8 (x 2 0), .int .u8 (x 2 1), .int .u8 (x 2 2)] 56)).alloc (.cells (nmadeI m) 2) ∧ W.rowIs w.heap.size 56 9 (mF x) ∧ Below w.heap.size w W ∧ w.heap.size + 2 ≤ W.heap.size ∧ W.rowIs (w.heap.size + 1) 2 m (thF p m x pt 0 0) := by
    refine ⟨_, rfl, (mbox w x _).alloc _, ebox2 _ _ _, by simp, ?_⟩
    have h := nmadeI_row (w.alloc (.cells #[.int .u8 (x 0 0), .int .u8 (x 0 1), .int .u8 (x 0 2), .int .u8 (x 1 0), .int .u8 (x 1 1), .int .u8 (x 1 2), .int .u8 (x 2 0), .int .u8 (x 2 1), .int .u8 (x 2 2)] 56)) m 2
    rw [World.size_alloc] at h
    refine h.congr fun q hq => ?_
    unfold thF
    by_cases e : q = 0 <;> simp [e, lsum]
  obtain ⟨a, cap, rfl, hc⟩ := id hS
  obtain ⟨b, off, rfl, hbb, hT⟩ : ∃ b off, a = some ⟨b, off, none⟩ ∧ b < w.heap.size ∧ Cs w b off pt := by
    rcases hc with rfl | h
    · simp at hpt; omega
    · exact h
  rw [hpt]
  go_enter Try.func34, Try.ntmps34
  go_wp2_with fail
  rw [← hW]
  clear hW
  go_loopw [16] (fun i wr => ∃ (j : Nat), j ≤ m ∧ i = .int .i64 j ∧ wr.rowIs (w.heap.size + 1) 2 m (thF p m x pt j 0) ∧ wr.rowIs w.heap.size 56 9 (mF x) ∧ Below w.heap.size w wr) (fun i _ => m - (intOf i).toNat)
  case atStart => exact ⟨0, by omega, rfl, hth, rX, hbW⟩
  case round =>
    obtain ⟨j, hj, rfl, hR, rX', hb⟩ := hrel
    by_cases hlt : j < m
    · have hlt' : (j : Int) < (m : Int) := by omega
      go_wp2_with fail
      go_loopw [21] (fun u wr => ∃ (k : Nat), k ≤ m ∧ u = .int .i64 k ∧ wr.rowIs (w.heap.size + 1) 2 m (thF p m x pt j k) ∧ wr.rowIs w.heap.size 56 9 (mF x) ∧ Below w.heap.size w wr) (fun u _ => m - (intOf u).toNat)
      case atStart => exact ⟨0, by omega, rfl, hR, rX', hb⟩
      case round =>
        clear hR rX' hb
        obtain ⟨k, hk, rfl, hR, rX', hb⟩ := hrel
        obtain ⟨s0, s1⟩ := HLS.out j (by omega) k hk
        have d0 : wr.cell? ⟨w.heap.size + 1, j, none⟩ = some (.int .i64 (lsum x pt j k)) := by
          rw [hR.cell hlt, thF, if_neg (by omega), if_pos rfl]
        have f0 := hR.frozen j
        by_cases hkt : k < m
        · have hkt' : (k : Int) < (m : Int) := by omega
          have c0 := (hT.below hb hbb) k (by omega)
          have c1 := mcell rX' (i := k) (j := j) (by omega) (by omega)
          have HNT := nth_lt (r := pt) (show k < pt.length by omega)
          obtain ⟨x0, x1⟩ := HPP.out k hkt
          obtain ⟨y0, y1⟩ := HB.out k (by omega) j (by omega)
          obtain ⟨f0', f1'⟩ := eprod_fit h13 ⟨x0, x1⟩ ⟨y0, y1⟩
          have HS := Lib.hid (show lsum x pt j k + nth pt k * x k j = lsum x pt j (k + 1) from rfl)
          have rows := (hR.set j (.int .i64 (lsum x pt j k + nth pt k * x k j))).congr (g := thF p m x pt j (k + 1)) (fun q hq => by
            unfold thF
            by_cases e : q = j
            · subst e; simp [lsum]
            · simp [e])
          have rX2 : (wr.drew.setCell ⟨w.heap.size + 1, j, none⟩ (.int .i64 (lsum x pt j k + nth pt k * x k j))).rowIs w.heap.size 56 9 (mF x) := rX'.setOther (by simp) _
          have hb2 : Below w.heap.size w (wr.drew.setCell ⟨w.heap.size + 1, j, none⟩ (.int .i64 (lsum x pt j k + nth pt k * x k j))) := hb.drew.setCell (by simp) _
          have rows2 : (wr.drew.setCell ⟨w.heap.size + 1, j, none⟩ (.int .i64 (lsum x pt j k + nth pt k * x k j))).rowIs (w.heap.size + 1) 2 m (thF p m x pt j (k + 1)) := rows
          clear rows hR rX'
          rw [← HNT] at c0
          clear HNT
          generalize nth pt k = X at *
          generalize x k j = Y at *
          generalize lsum x pt j k = S at *
          have w1 : IntKind.i64.wrap (X * Y) = X * Y := IntWalk.i64_in _ (by omega)
          have w2 : IntKind.i64.wrap (S + X * Y) = S + X * Y := IntWalk.i64_in _ (by omega)
          have hk3 : (k : Int) < 3 := by omega
          have hj3 : (j : Int) < 3 := by omega
          go_wp2_with fail
          go_region
          all_goals
            go_wp2_with fail
            go_roundw
            case rel => exact ⟨k + 1, by omega, by go_num, rows2, rX2, hb2⟩
            case measure => simp [intOf]; omega
        · obtain rfl : k = m := by omega
          have htm : (lsum x pt j k).tmod p = lsum x pt j k % p := Int.tmod_eq_emod_of_nonneg s0
          obtain ⟨q0, q1⟩ := emod_small (a := lsum x pt j k) h2
          have rows := (hR.set j (.int .i64 (lsum x pt j k % p))).congr (g := thF p k x pt (j + 1) 0) (fun q hq => by
            unfold thF
            by_cases e : q = j
            · subst e; simp
            · by_cases e2 : q < j
              · simp [e, e2, show q < j + 1 by omega]
              · by_cases e3 : q = j + 1
                · subst e3; simp [lsum, show ¬ j + 1 < j by omega]
                · simp [e, e2, e3, show ¬ q < j + 1 by omega])
          have rX2 := show (wr.setCell ⟨w.heap.size + 1, j, none⟩ (.int .i64 (lsum x pt j k % p))).rowIs w.heap.size 56 9 (mF x) from rX'.setOther (by simp) _
          have hb2 := show Below w.heap.size w (wr.setCell ⟨w.heap.size + 1, j, none⟩ (.int .i64 (lsum x pt j k % p))) from hb.setCell (by simp) _
          clear hR rX'
          generalize lsum x pt j k % p = R at *
          generalize lsum x pt j k = S at *
          go_wp2_with fail
          go_roundw
          case rel => exact ⟨j + 1, by omega, by go_num, rows, rX2, hb2⟩
          case measure => simp [intOf]; omega
    · obtain rfl : j = m := by omega
      go_wp2_with fail
      go_ret
      refine ⟨_, rfl, ⟨w.heap.size + 1, _, by rw [leadL_len]; rfl, by omega, by rw [leadL_len]; exact hR, fun q hq => ?_⟩, hb⟩
      have hq' : q < j := by simpa [leadL] using hq
      simp [thF, hq', leadL]
end Go.Proofs.Ytabfdohmgmdgeaa
