/-
  GROUPS: whether a list of matrices holds all products and the unit, by the program. Conditions: as each theorem states.
-/
import Derived.Test.YtpbdbgajohacoaaGh
import Derived.Test.YtpbdbgajohacoaaMv
import Derived.Maps.OwnSet
namespace Go.Proofs.Ytpbdbgajohacoaa
open Go.RowKit Go.Sort Go.Maps EchM

theorem zero64M (w : World) : (zeroValue 2).run Try.prog w = .ok (.int .i64 0) w := by kernel_rfl
theorem findA_in (g : Nat → Nat → Int) : ∀ (L : List (Nat → Nat → Int)) (k : Nat), 0 ≤ findA g L k ↔ ∃ x ∈ L, eqM x g = true := by
  intro L
  induction L with
  | nil => intro k; simp [findA]
  | cons y L ih =>
    intro k
    rw [findA]
    by_cases e : eqM y g = true
    · rw [if_pos e]; simp [e]
    · rw [if_neg e, ih]; simp [e]
theorem lastA_in (g : Nat → Nat → Int) (L : List (Nat → Nat → Int)) : ∀ k, k ≤ L.length → (0 ≤ lastA g L k ↔ ∃ x ∈ L.take k, eqM x g = true) := by
  intro k
  induction k with
  | zero => intro _; simp [lastA]
  | succ k ih =>
    intro hk
    rw [lastA_step (by omega), ← List.take_append_getElem (by omega : k < L.length)]
    by_cases e : eqM L[k] g = true
    · rw [if_pos e]; exact ⟨fun _ => ⟨L[k], List.mem_append_right _ (List.mem_singleton.2 rfl), e⟩, fun _ => by omega⟩
    · rw [if_neg e, ih (by omega)]
      exact ⟨fun ⟨x, hx, q⟩ => ⟨x, List.mem_append_left _ hx, q⟩, fun ⟨x, hx, q⟩ => (List.mem_append.1 hx).elim (fun h => ⟨x, h, q⟩) (fun h => by rw [List.mem_singleton.1 h] at q; exact absurd q e)⟩
theorem last_find (g : Nat → Nat → Int) (L : List (Nat → Nat → Int)) : decide (0 ≤ lastA g L L.length) = decide (0 ≤ findM L g) := by
  apply decide_eq_decide.2
  unfold findM
  rw [lastA_in g L _ (Nat.le_refl _), findA_in, List.take_length]
theorem mapM_look {w : World} {b n : Nat} {D : DataW Unit} {L : List (Nat → Nat → Int)} (h : MapM w b n D) (hn : NumD D L L.length) {g : Nat → Nat → Int} (hg : byteM g) {B : Bool} (hB : decide (0 ≤ findM L g) = B) :
    ∃ c, (Instr.lookup 112 (.map (some b)) (.agg #[.int .u8 (g 0 0), .int .u8 (g 0 1), .int .u8 (g 0 2), .int .u8 (g 1 0), .int .u8 (g 1 1), .int .u8 (g 1 2), .int .u8 (g 2 0), .int .u8 (g 2 1), .int .u8 (g 2 2)]) true).run Try.prog w = .ok (.tuple #[.int .i64 c, .bool B]) w := by
  obtain ⟨v, ps, hrun, hv⟩ := h.look_ok lawM Try.underlying112 (zero64M w) (plainElem_int Try.underlying2 (wf64M (n := 0) (by omega) (by omega))) (keyOf_mv g hg)
  obtain ⟨c, rfl, _, _⟩ := plainElem_int_inv Try.underlying2 hv
  rw [(hn g hg).1, last_find, hB] at hrun
  exact ⟨c, hrun⟩
theorem MatV.byteM {p : Int} {m : Nat} {g : Nat → Nat → Int} (h : MatV p m g) : byteM g := fun i j hi hj => by
  have := h.bound i hi j hj
  have := h.h13
  omega
theorem uM_byte (m : Nat) : byteM (uM m) := fun i j _ _ => by unfold uM; split <;> omega
theorem prodM_byte {p : Int} (h2 : 2 ≤ p) (h13 : p ≤ 13) (g h : Nat → Nat → Int) : byteM (prodM p g h) := fun i j _ _ => by
  have h0 := Int.emod_nonneg (psum g h i j 3) (show p ≠ 0 by omega)
  have h1 := Int.emod_lt_of_pos (psum g h i j 3) (show 0 < p by omega)
  have e : prodM p g h i j = (psum g h i j 3) % p := rfl
  omega
theorem MapM.later {w w' : World} {b n : Nat} {D : DataW Unit} (h : MapM w b n D) (hb : Below w.heap.size w w') : MapM w' b n D :=
  h.kept (row := none) ⟨hb.os, hb.tape, hb.output, hb.size, fun k hk _ => hb.block k hk⟩ (by simp)

set_option maxRecDepth 8000 in
set_option maxHeartbeats 16000000 in
theorem iclosed (p : Int) (m : Nat) (v : Value) (L : List (Nat → Nat → Int)) (w : World) (hl : L.length ≤ 1048576) (hS : SlM w v L) (hV : ∀ x ∈ L, MatV p m x) (m1 : 1 ≤ m) (m3 : m ≤ 3) :
    Calls Try.prog 87 #[.agg #[.int .i64 p, .int .i64 (m : Int), v]] w fun e w' => e = .returned (.bool (decide (0 ≤ findM L (uM m)) && closedG p L)) ∧ Below w.heap.size w w' := by
  obtain ⟨W, hW, rW, hbW, hWs⟩ : ∃ W, W = w.alloc (.cells #[.int .i64 p, .int .i64 (m : Int), v] 26) ∧ W.rowIs w.heap.size 26 3 (grpF p m v) ∧ Below w.heap.size w W ∧ w.heap.size < W.heap.size := ⟨_, rfl, gbox w p m v _, ebox1 _ _, by simp⟩
  have hSW := hS.below hbW
  obtain ⟨a, cap, rfl, hSc⟩ := id hS
  obtain ⟨g0, g1, g2⟩ := gcells rW
  have HV := Lib.hid hV
  have HBY := Lib.hid (fun x hx => (show Byt x from fun i hi j hj => (hV x hx).byteM i j hi hj))
  obtain ⟨u, hu⟩ : ∃ u, uM m = u := ⟨_, rfl⟩
  have hub : byteM u := hu ▸ uM_byte m
  have HU := Lib.hid hu
  rw [hu]
  clear hV hu
  obtain ⟨B, hB⟩ : ∃ B, decide (0 ≤ findM L u) = B := ⟨_, rfl⟩
  rw [hB]
  cases B
  · have HB := Lib.hid hB
    clear hB
    go_enter Try.func87, Try.ntmps87
    go_wp2_with fail
    rw [← hW]
    clear hW
    go_wp2_with fail
    ((with_reducible refine (inumbers p m _ L _ hl hSW HBY.out).mono ?_); rintro e w1 ⟨b, D, rfl, hbb, hM1, hN, hb1⟩)
    have HN := Lib.hid hN
    have rW1 := erow_below rW hb1 rW.lt
    obtain ⟨g0', g1', g2'⟩ := gcells rW1
    clear hN g0 g1 g2
    go_wp2_with fail
    ((with_reducible refine (iunit m u _ m1 m3 HU.out).mono ?_); rintro e w2 ⟨rfl, hb2⟩)
    have hM2 := hM1.later hb2
    have rW2 := erow_below rW1 hb2 rW1.lt
    obtain ⟨k0, k1, k2⟩ := gcells rW2
    have hbW2 := (hbW.trans (hb1.mono hbW.size)).trans (hb2.mono (hbW.trans (hb1.mono hbW.size)).size)
    obtain ⟨c, hrun⟩ := mapM_look hM2 HN.out hub HB.out
    clear g0' g1' g2'
    go_wp2_with fail
    go_ret
    exact ⟨rfl, hbW2⟩
  · have HB := Lib.hid hB
    clear hB
    go_enter Try.func87, Try.ntmps87
    go_wp2_with fail
    rw [← hW]
    clear hW
    go_wp2_with fail
    ((with_reducible refine (inumbers p m _ L _ hl hSW HBY.out).mono ?_); rintro e w1 ⟨b, D, rfl, hbb, hM1, hN, hb1⟩)
    have HN := Lib.hid hN
    have rW1 := erow_below rW hb1 rW.lt
    obtain ⟨g0', g1', g2'⟩ := gcells rW1
    clear hN g0 g1 g2
    go_wp2_with fail
    ((with_reducible refine (iunit m u _ m1 m3 HU.out).mono ?_); rintro e w2 ⟨rfl, hb2⟩)
    have hM2 := hM1.later hb2
    have rW2 := erow_below rW1 hb2 rW1.lt
    obtain ⟨k0, k1, k2⟩ := gcells rW2
    have hbW2 := (hbW.trans (hb1.mono hbW.size)).trans (hb2.mono (hbW.trans (hb1.mono hbW.size)).size)
    obtain ⟨c, hrun⟩ := mapM_look hM2 HN.out hub HB.out
    clear g0' g1' g2'
    go_wp2_with fail
    clear hrun
    go_loopw [27] (fun i wr => ∃ (k : Nat), k ≤ L.length ∧ i = .int .i64 k ∧ Hid (∀ (i : Nat) (hi : i < L.length), i < k → ∀ (j : Nat) (hj : j < L.length), 0 ≤ findM L (prodM p L[i] L[j])) ∧ Below w2.heap.size w2 wr) (fun i _ => L.length - (intOf i).toNat)
    case atStart => exact ⟨0, by omega, rfl, Lib.hid (fun i hi h => absurd h (by omega)), Below.refl _ _⟩
    case round =>
      obtain ⟨k, hk, rfl, HK, hb⟩ := hrel
      obtain ⟨wo, hwo⟩ : ∃ wo, wo = wr := ⟨_, rfl⟩
      subst hwo
      by_cases hlt : k < L.length
      · have hlt' : (k : Int) < (L.length : Int) := by omega
        obtain ⟨b0, off, rfl, hbb0, hT⟩ : ∃ b off, a = some ⟨b, off, none⟩ ∧ b < w.heap.size ∧ MatsW w b off L := by
          rcases hSc with rfl | h
          · simp at hlt
          · exact h
        have hT2 := hT.below hbW2 hbb0
        have hb02 : b0 < w2.heap.size := Nat.lt_of_lt_of_le hbb0 hbW2.size
        have hTo := hT2.below hb hb02
        have rG := erow_below rW2 hb rW2.lt
        have hMo := hM2.later hb
        obtain ⟨⟨a0, a1, a2⟩, ⟨a3, a4, a5⟩, a6, a7, a8⟩ := hTo.nine hlt
        obtain ⟨q0, q1, q2⟩ := gcells rG
        have HVx := Lib.hid (HV.out L[k] (List.getElem_mem _))
        have HKx := Lib.hid (⟨hlt, rfl⟩ : ∃ h : k < L.length, L[k] = L[k])
        obtain ⟨x, hx⟩ : ∃ x, L[k] = x := ⟨_, rfl⟩
        rw [hx] at HVx a0 a1 a2 a3 a4 a5 a6 a7 a8
        have HX := Lib.hid hx
        clear hx HKx k0 k1 k2
        obtain ⟨wx, hwx, rX, rGx, hbx⟩ : ∃ wx, wx = wo.alloc (.cells #[.int .u8 (x 0 0), .int .u8 (x 0 1), .int .u8 (x 0 2), .int .u8 (x 1 0), .int .u8 (x 1 1), .int .u8 (x 1 2), .int .u8 (x 2 0), .int .u8 (x 2 1), .int .u8 (x 2 2)] 55) ∧ wx.rowIs wo.heap.size 55 9 (mF x) ∧ wx.rowIs w.heap.size 26 3 (grpF p m (.slice (some ⟨b0, off, none⟩) L.length cap)) ∧ Below wo.heap.size wo wx := ⟨_, rfl, mbox wo x _, rG.alloc _, ebox1 _ _⟩
        have hMx := hMo.later hbx
        have hTx := hTo.below hbx (Nat.lt_of_lt_of_le hb02 hb.size)
        obtain ⟨p0, p1, p2⟩ := gcells rGx
        have p2' := p2
        rw [hwx] at p2'
        go_wp2_with fail
        rw [← hwx]
        clear hwx p2'
        have hbxx := hb.trans (hbx.mono hb.size)
        have hb0x : b0 < wx.heap.size := Nat.lt_of_lt_of_le hb02 hbxx.size
        go_loopw [34] (fun i wr => ∃ (j : Nat), j ≤ L.length ∧ i = .int .i64 j ∧ Hid (∀ (j' : Nat) (hj : j' < L.length), j' < j → 0 ≤ findM L (prodM p x L[j'])) ∧ Below wx.heap.size wx wr) (fun i _ => L.length - (intOf i).toNat)
        case atStart => exact ⟨0, by omega, rfl, Lib.hid (fun j' hj h => absurd h (by omega)), Below.refl _ _⟩
        case round =>
          obtain ⟨j, hj, rfl, HJ, hbj⟩ := hrel
          by_cases hjt : j < L.length
          · have hjt' : (j : Int) < (L.length : Int) := by omega
            have hTr := hTx.below hbj hb0x
            have rGr := erow_below rGx hbj rGx.lt
            have rXr := erow_below rX hbj rX.lt
            have hMr := hMx.later hbj
            clear a0 a1 a2 a3 a4 a5 a6 a7 a8 q0 q1 q2 p0 p1 p2
            obtain ⟨⟨a0, a1, a2⟩, ⟨a3, a4, a5⟩, a6, a7, a8⟩ := hTr.nine hjt
            have HVy := Lib.hid (HV.out L[j] (List.getElem_mem _))
            obtain ⟨y, hy⟩ : ∃ y, L[j] = y := ⟨_, rfl⟩
            rw [hy] at HVy a0 a1 a2 a3 a4 a5 a6 a7 a8
            have HYy := Lib.hid hy
            clear hy
            obtain ⟨⟨x0, x1, x2⟩, ⟨x3, x4, x5⟩, x6, x7, x8⟩ := mcells (rXr.alloc (.cells #[.int .u8 (y 0 0), .int .u8 (y 0 1), .int .u8 (y 0 2), .int .u8 (y 1 0), .int .u8 (y 1 1), .int .u8 (y 1 2), .int .u8 (y 2 0), .int .u8 (y 2 1), .int .u8 (y 2 2)] 55))
            obtain ⟨p0, p1, p2⟩ := gcells (rGr.alloc (.cells #[.int .u8 (y 0 0), .int .u8 (y 0 1), .int .u8 (y 0 2), .int .u8 (y 1 0), .int .u8 (y 1 1), .int .u8 (y 1 2), .int .u8 (y 2 0), .int .u8 (y 2 1), .int .u8 (y 2 2)] 55))
            have hMy := hMr.alloc (.cells #[.int .u8 (y 0 0), .int .u8 (y 0 1), .int .u8 (y 0 2), .int .u8 (y 1 0), .int .u8 (y 1 1), .int .u8 (y 1 2), .int .u8 (y 2 0), .int .u8 (y 2 1), .int .u8 (y 2 2)] 55)
            have hby := ebox1 wr (.cells #[.int .u8 (y 0 0), .int .u8 (y 0 1), .int .u8 (y 0 2), .int .u8 (y 1 0), .int .u8 (y 1 1), .int .u8 (y 1 2), .int .u8 (y 2 0), .int .u8 (y 2 1), .int .u8 (y 2 2)] 55)
            obtain ⟨r, hr⟩ : ∃ r, prodM p x y = r := ⟨_, rfl⟩
            have hrb : byteM r := hr ▸ prodM_byte HVx.out.h2 HVx.out.h13 x y
            have HR := Lib.hid hr
            clear hr
            go_wp2_with fail
            ((with_reducible refine (iprod_agg p m x y r _ HVx.out HVy.out HR.out).mono ?_); rintro e w3 ⟨rfl, hb3⟩)
            have hM3 := MapM.later hMy hb3
            have hb3' := hby.trans (hb3.mono hby.size)
            have hbj3 := hbj.trans (hb3'.mono hbj.size)
            clear x0 x1 x2 x3 x4 x5 x6 x7 x8 p0 p1 p2 a0 a1 a2 a3 a4 a5 a6 a7 a8
            cases hB2 : decide (0 ≤ findM L r)
            · have HB2 := Lib.hid hB2
              obtain ⟨c2, hrun2⟩ := mapM_look hM3 HN.out hrb HB2.out
              have HC := Lib.hid (show closedG p L = false from closed_no hlt hjt (by
                rw [HX.out, HYy.out, HR.out]
                have := of_decide_eq_false hB2
                omega))
              clear hB2
              go_wp2_with fail
              go_ret
              exact ⟨by rw [HC.out]; rfl, hbW2.trans ((hbxx.trans (hbj3.mono hbxx.size)).mono hbW2.size)⟩
            · have HB2 := Lib.hid hB2
              obtain ⟨c2, hrun2⟩ := mapM_look hM3 HN.out hrb HB2.out
              have HJ2 : Hid (∀ (j' : Nat) (hj : j' < L.length), j' < j + 1 → 0 ≤ findM L (prodM p x L[j'])) := Lib.hid (fun j' hj' h => by
                by_cases e : j' = j
                · subst e
                  rw [HYy.out, HR.out]
                  exact of_decide_eq_true hB2
                · exact HJ.out j' hj' (by omega))
              clear hB2
              go_wp2_with fail
              go_roundw
              case rel => exact ⟨j + 1, by omega, by go_num, HJ2, hbj3⟩
              case measure => simp [intOf]; omega
          · obtain rfl : j = L.length := by omega
            have HK2 : Hid (∀ (i : Nat) (hi : i < L.length), i < k + 1 → ∀ (j : Nat) (hj : j < L.length), 0 ≤ findM L (prodM p L[i] L[j])) := Lib.hid (fun i hi h j' hj' => by
              by_cases e : i = k
              · subst e
                rw [HX.out]
                exact HJ.out j' hj' hj'
              · exact HK.out i hi (by omega) j' hj')
            clear a0 a1 a2 a3 a4 a5 a6 a7 a8 q0 q1 q2 p0 p1 p2
            go_wp2_with fail
            go_roundw
            case rel => exact ⟨k + 1, by omega, by go_num, HK2, hbxx.trans (hbj.mono hbxx.size)⟩
            case measure => simp [intOf]; omega
      · obtain rfl : k = L.length := by omega
        have HX := Lib.hid (closed_yes (p := p) (L := L) (fun i hi j hj => HK.out i hi hi j hj))
        clear k0 k1 k2
        go_wp2_with fail
        go_ret
        exact ⟨by rw [HX.out]; rfl, hbW2.trans (hb.mono hbW2.size)⟩
end Go.Proofs.Ytpbdbgajohacoaa
