/-
  WALKS: 'impl.ordersOf'. Conditions: as the theorem states.
-/
import Derived.Test.YtphgpadpffigjaaSyd
import Derived.Deep.LoopGhost
import Derived.WalkMore
import Derived.StillTail
import Derived.StillTailTactics
import Derived.StillTactics
namespace Go.Proofs.Ytphgpadpffigjaa
open Go.RowKit Go.Sort

theorem ord_tail {P : Program} {id : Nat} {Q : Exit → Act → World → Prop} {a : Act} {w : World} {l : List Oper} (n : Nat) (hm : P.follows .mixedOrders = true) (hB : Region.lexTailB .any l.toArray n = true)
    (h : wpStill P l.toArray w.drew (fun a' => wpList P l.toArray Q (l.drop n) a' w.drew) (l.take n) a) : (Code.region id l.toArray true).wp P Q a w :=
  wp_region_still_tail n hm hB h
/-- The row while its digits are written. -/
def dgF (d r i : Nat) (q : Nat) : Value := .int .i64 (if q < i then dgt d r q else 0)
theorem dgF_put (d r i : Nat) (q : Nat) : (if q = i then Value.int .i64 (dgt d r i) else dgF d r i q) = dgF d r (i + 1) q := by
  unfold dgF
  by_cases e : q = i
  · subst e; rw [if_pos rfl, if_pos (by omega)]
  · rw [if_neg e]
    by_cases h : q < i
    · rw [if_pos h, if_pos (by omega)]
    · rw [if_neg h, if_neg (by omega)]
theorem dgF_sl {w : World} {g d r i k cap : Nat} {t : TypeId} (h : w.rowIs g t d (dgF d r k)) (hi : i ≤ k) (hk : k ≤ d) : Sl w (.slice (some ⟨g, 0, none⟩) i cap) (dgT d r i) := by
  refine ⟨_, cap, by rw [dgT_len], .inr ⟨g, 0, rfl, h.lt, fun j hj => ?_⟩⟩
  have hj' : j < i := by rw [dgT_len] at hj; exact hj
  rw [Nat.zero_add, h.cell (by omega)]
  simp [dgF, dgT, show j < k by omega]

set_option maxRecDepth 8000 in
set_option maxHeartbeats 8000000 in
theorem iorders (d : Nat) (w : World) (h : 1 ≤ d ∧ d ≤ 3) : Calls Try.prog 71 #[.int .i64 d] w fun e w' => ∃ v, e = .returned v ∧ OwnRR w' w.heap.size v (ordL d (d ^ d)) ∧ Below w.heap.size w w' := by
  obtain ⟨i0, hi, hz0, hz1, hz2⟩ := info_parts einfoI
  have hmk : ∀ w, (Instr.makeSlice 61 (.int .i64 (d : Int)) (.int .i64 (d : Int))).run Try.prog w = .ok (.slice (some ⟨w.heap.size, 0, none⟩) d d) (w.alloc (.cells (nmadeI d) 2)) := fun w => by
    have h := run_make (P := Try.prog) w 61 2 i0 _ Try.underlying61 hi hz0 .i64 .i64 (d : Int) (d : Int) (by omega) (by omega) (by rw [hz2]; omega) (by omega)
    rw [hz1] at h
    simpa [nmadeI, Value.cells] using h
  clear hi hz0 hz1 hz2
  have h27 := pow_le27 h (i := d) (Nat.le_refl _)
  have hd0 : ¬ (d : Int) = 0 := by omega
  have hd1 : ((d : Int) == 0) = false := by simpa using hd0
  obtain ⟨P, hP⟩ : ∃ P, d ^ d = P := ⟨_, rfl⟩
  have HW := Lib.hid (fun W => iwhole d W h)
  rw [hP] at HW h27 ⊢
  clear hP
  go_enter Try.func71, Try.ntmps71
  go_wp2
  go_step3
  go_wp2
  go_step3
  go_wp2_with fail
  ((with_reducible refine (HW.out _).mono ?_); rintro e w1 ⟨rfl, rfl⟩)
  go_wp2_with fail
  go_loopg [3, 10] P (fun g s c wq => ∃ (r : Nat) (O : List Row3), r + g = P ∧ c = .int .i64 r ∧ RowsM wq w1.heap.size s O ∧ Hid (O.map (·.2.1) = ordL d r) ∧ Below w1.heap.size w1 wq)
  case atStart => exact ⟨0, [], by omega, rfl, RowsM.nil _ _, Lib.hid rfl, Below.refl _ _⟩
  case round =>
    obtain ⟨r, O, hr, rfl, hM, HO, hb⟩ := hrel
    have hrP : Hid (r + gk = P) := Lib.hid hr
    by_cases hlt : r < P
    · have hlt' : (r : Int) < (P : Int) := by omega
      obtain ⟨g, hg⟩ : ∃ g, r + 1 + g = P := ⟨gk - 1, by omega⟩
      have HGG := Lib.hid (And.intro hg (show g < gk by omega))
      obtain ⟨W1, hW1, rW, hbW⟩ : ∃ W1, W1 = wr.alloc (.cells (nmadeI d) 2) ∧ W1.rowIs wr.heap.size 2 d (dgF d r 0) ∧ Below wr.heap.size wr W1 := ⟨_, rfl, (nmadeI_row wr d _).congr (fun q _ => by simp [dgF]), ebox1 _ _⟩
      obtain ⟨wo, hwo⟩ : ∃ wo, wo = wr := ⟨_, rfl⟩
      rw [← hwo] at hM hb rW hbW hW1
      clear hr hg
      obtain ⟨ra, rc, rfl⟩ := hM.shape
      go_upto_region 6 with fail
      rw [← hwo, ← hW1]
      clear hW1 hwo hmk
      go_wp2_with fail
      go_loopg [4, 17] d (fun g s c wq => ∃ i : Nat, i + g = d ∧ c = .int .i64 i ∧ s = .int .i64 ((r / d ^ i : Nat) : Int) ∧ wq.rowIs wo.heap.size 2 d (dgF d r i) ∧ Hid ((dgT d r i).Nodup) ∧ Below wo.heap.size wo wq)
      case atStart => exact ⟨0, by omega, rfl, by simp, rW, Lib.hid (by simp [dgT]), hbW⟩
      case round =>
        clear rW hbW
        obtain ⟨i, hi, rfl, rfl, hR, HN, hbo⟩ := hrel
        have hbn := hb.trans (hbo.mono hb.size)
        have hMn := hM.below hbo
        by_cases hid : i < d
        · have hid' : (i : Int) < (d : Int) := by omega
          obtain ⟨g2, hg2⟩ : ∃ g2, i + 1 + g2 = d := ⟨d - (i + 1), by omega⟩
          have HI := Lib.hid (And.intro hg2 (show g2 < gk by omega))
          obtain ⟨ρ, hρ⟩ : ∃ ρ, r / d ^ i = ρ := ⟨_, rfl⟩
          have hρ27 : ρ ≤ 27 := by rw [← hρ]; exact Nat.le_trans (Nat.div_le_self _ _) (by omega)
          obtain ⟨x, hx⟩ : ∃ x, dgt d r i = x := ⟨_, rfl⟩
          have hxx : x = ((ρ % d : Nat) : Int) := by rw [← hx]; unfold dgt; rw [hρ]
          have hrem : (ρ : Int).tmod (d : Int) = x := by rw [hxx, Int.tmod_eq_emod_of_nonneg (by omega), Int.natCast_emod]
          obtain ⟨ρ2, hρ2⟩ : ∃ ρ2, ρ / d = ρ2 := ⟨_, rfl⟩
          have hquo : (ρ : Int).tdiv (d : Int) = (ρ2 : Int) := by rw [← hρ2, Int.tdiv_eq_ediv_of_nonneg (by omega), Int.natCast_ediv]
          have hρ3 : ρ2 ≤ 27 := by rw [← hρ2]; exact Nat.le_trans (Nat.div_le_self _ _) hρ27
          have hwq : IntKind.i64.wrap (ρ2 : Int) = (ρ2 : Int) := IntWalk.i64_in _ (by omega)
          have HNX : Hid (r / d ^ (i + 1) = ρ2) := Lib.hid (by rw [← dgt_next, hρ, hρ2])
          have hc := hR.cell (i := i) hid
          have hf := hR.frozen i
          have hR2 := (hR.set i (.int .i64 x)).congr (g := dgF d r (i + 1)) (fun q _ => by rw [← hx]; exact dgF_put d r i q)
          have hb2 := hbo.setCell (p := ⟨wo.heap.size, i, none⟩) (Nat.le_refl _) (.int .i64 x)
          have HSL := Lib.hid (dgF_sl (i := i) (cap := d) hR2 (by omega) (by omega))
          have hcx : (wr.setCell ⟨wo.heap.size, i, none⟩ (.int .i64 x)).cell? ⟨wo.heap.size, i, none⟩ = some (.int .i64 x) := by
            have := hR2.cell (i := i) hid
            unfold dgF at this
            rwa [if_pos (by omega), hx] at this
          have hlt0 := hR.lt
          obtain ⟨W2, hW2⟩ : ∃ W2, wr.setCell ⟨wo.heap.size, i, none⟩ (.int .i64 x) = W2 := ⟨_, rfl⟩
          rw [hW2] at hR2 hb2 HSL hcx
          have HR2 := Lib.hid hR2
          have HB2 := Lib.hid hb2
          have HHX := Lib.hid hx
          have hit := int_take wo.heap.size d d i (by omega) (Nat.le_refl _) W2.drew
          have HMO := Lib.hid (And.intro hM hb)
          rw [hρ]
          clear hxx hρ2 hR hbo hbn hMn hR2 hb2 hg2 hi hx hM hb hρ27
          clear hρ
          go_upto_region 11 with fail
          have HCT := Lib.hid (gcontains (.slice (some ⟨wo.heap.size, 0, none⟩) i d) (dgT d r i) x W2.drew (by rw [dgT_len]; omega) HSL.out)
          cases hB : (dgT d r i).contains x
          · rw [hB] at HCT
            have HN2 : Hid ((dgT d r (i + 1)).Nodup) := Lib.hid (dgT_once HN.out (by rw [HHX.out]; exact hB))
            clear hB HN HSL
            refine ord_tail 7 (by kernel_rfl) (by kernel_rfl) ?_
            simp only [List.take_succ_cons, List.take_zero, List.drop_succ_cons, List.drop_zero]
            repeat still_step
            refine wpStill_nil ?_
            go_wp2_with fail
            ((with_reducible refine HCT.out.mono ?_); rintro e w5 ⟨rfl, rfl⟩)
            go_wp2_with fail
            go_roundg g2
            case measure => exact HI.out.2
            case rel => exact ⟨i + 1, HI.out.1, by go_num, by rw [HNX.out], HR2.out, HN2, HB2.out.drew⟩
          · rw [hB] at HCT
            have HND := Lib.hid (dgT_twice hid (by rw [HHX.out]; exact hB))
            have HO2 : Hid (O.map (·.2.1) = ordL d (r + 1)) := Lib.hid (by rw [ordL_succ, if_neg HND.out, List.append_nil, HO.out])
            have hbW2 := HMO.out.2.trans (HB2.out.drew.mono HMO.out.2.size)
            have hMW2 := HMO.out.1.below HB2.out.drew
            clear hB HN HSL HND
            refine ord_tail 7 (by kernel_rfl) (by kernel_rfl) ?_
            simp only [List.take_succ_cons, List.take_zero, List.drop_succ_cons, List.drop_zero]
            repeat still_step
            refine wpStill_nil ?_
            go_wp2_with fail
            ((with_reducible refine HCT.out.mono ?_); rintro e w5 ⟨rfl, rfl⟩)
            go_wp2_with fail
            go_roundg g
            case measure => exact HGG.out.2
            case rel => exact ⟨r + 1, O, HGG.out.1, by go_num, hMW2, HO2, hbW2⟩
        · obtain rfl : i = d := by omega
          obtain ⟨i0, hi0, hz0, hz1, hz2⟩ := info_parts einfoR
          have hne : (dgL i r).Nodup := by have := HN.out; exact this
          have HO2 : Hid ((O ++ [(Value.slice (some ⟨wo.heap.size, 0, none⟩) i i, dgL i r, wo.heap.size)]).map (·.2.1) = ordL i (r + 1)) := Lib.hid (by rw [ordL_succ, if_pos hne, List.map_append, HO.out]; rfl)
          have hAt : RowAt wr w1.heap.size (Value.slice (some ⟨wo.heap.size, 0, none⟩) i i, dgL i r, wo.heap.size) := ⟨i, i, _, by simp only [dgL_len], hb.size, by simp only [dgL_len]; exact Nat.le_refl _, hR, fun q hq => by
            have hq' : q < i := by have h1 : q < (dgL i r).length := hq; rwa [dgL_len] at h1
            show dgF i r i q = .int .i64 ((dgL i r)[q]'(by rw [dgL_len]; exact hq'))
            rw [dgL_at]
            unfold dgF
            rw [if_pos hq']⟩
          have HFR := Lib.hid (hM.fresh (Nat.le_refl _))
          have hM8 := hMn.below (ebox1 wr (.cells #[.slice (some ⟨wo.heap.size, 0, none⟩) i i] 61))
          have hr8 := hAt.below (ebox1 wr (.cells #[.slice (some ⟨wo.heap.size, 0, none⟩) i i] 61))
          have hb18 := hbn.trans ((ebox1 wr (.cells #[.slice (some ⟨wo.heap.size, 0, none⟩) i i] 61)).mono hbn.size)
          have hww : w1.heap.size ≤ (wr.alloc (.cells #[.slice (some ⟨wo.heap.size, 0, none⟩) i i] 61)).heap.size := hb18.size
          have HOL : Hid (O.length ≤ 27) := Lib.hid (by
            have h1 := congrArg List.length HO.out
            rw [List.length_map] at h1
            have h2 := ordL_len i r
            omega)
          clear hM hMn hb hbo hbn hAt hR HN hne HO hi
          go_wp2_with (at_builtin; refine wpList_append_lies _ rfl _ _ 24 rfl w1.heap.size 61 i0 _ 1 24 Try.underlying24 hi0 hz0 hz1 hz2 rfl (by decide) (.slice ra O.length rc) O.length (O.map (·.1)) rfl hM8.owns ⟨wr.heap.size, 0, none⟩ 1 1 [.slice (some ⟨wo.heap.size, 0, none⟩) i i] rfl rfl (World.news_of_block (cs := #[.slice (some ⟨wo.heap.size, 0, none⟩) i i]) (t := 61) (fr := (0, 0)) (heap_alloc_new wr _)) (by simp [Value.oneCell']) (by omega) (by have := HOL.out; unfold maxLen; omega) (by have := HOL.out; omega) hww _ rfl ?_)
          intro g9 cap9 w9 hown9 hgrow9 hat9 hlt9
          have hM9 := hM8.push hr8 HFR.out hown9 hgrow9
          have hb9 : Below w1.heap.size w1 w9 := hb18.grown hgrow9 hww (fun q hq => by
            rcases owns_at hM8.owns with ⟨h, _⟩ | ⟨g, c, N, f, h, hgb, _⟩
            · rw [h] at hq
              simp [Value.ownBlock] at hq
            · rw [h] at hq
              simp [Value.ownBlock] at hq
              omega)
          clear hown9 hgrow9 hat9 hlt9 hM8 hr8 hb18 hww HFR hi0 hz0 hz1 hz2
          go_wp2_with fail
          go_roundg g
          case measure => exact HGG.out.2
          case rel => exact ⟨r + 1, _, HGG.out.1, by go_num, by simpa using hM9, HO2, hb9⟩
    · obtain rfl : r = P := by omega
      have hrr := hM.rr
      rw [HO.out] at hrr
      obtain ⟨a9, c9, rfl⟩ := hM.shape
      go_wp2_with fail
      try rw [Exit.noGoto_ret]
      go_ret
      exact ⟨_, rfl, hrr, hb⟩
end Go.Proofs.Ytphgpadpffigjaa
