/-
  WALKS of the model: inverses of matrices. Conditions: as each theorem states.
  WALKS of the model: whether something is a matrix. Conditions: the numbers are bytes.
  What a matrix is like; the tests for a matrix by their contracts. Conditions: the numbers are bytes.
  ACTIONS: what a matrix makes of the letters, in memory. Conditions: as each theorem states.
  WALKS: 'impl.actionOf' and the action that it gives. Conditions: as each theorem states.
-/
import Derived.Test.YtbhgbifliihlbaaGreatQ14
import Derived.Deep.DeepCutAuto
import Derived.Test.YtbhgbifliihlbaaGreatQ15
import Derived.Test.YtbhgbifliihlbaaGreatQ10
import Derived.Test.YtbhgbifliihlbaaGreatQ12
namespace Go.Proofs.YtbhgbifliihlbaaGreat
open Go.RowKit Go.Sort EchM

theorem rowF_set {m : Nat} {F : Nat → Int} {j : Nat} (a : Int) : (rowF m F).set j a = rowF m fun q => if q = j then a else F q := by
  refine List.ext_getElem (by simp [rowF]) fun k h1 h2 => ?_
  simp only [rowF, List.getElem_set, List.getElem_map, List.getElem_range]
  by_cases e : j = k
  · subst e; simp
  · rw [if_neg e, if_neg (by omega)]
theorem rowF_congr {m : Nat} {F G : Nat → Int} (h : ∀ j, j < m → F j = G j) : rowF m F = rowF m G := by
  unfold rowF
  exact List.map_congr_left fun j hj => h j (by simpa using hj)
theorem vals_rowF {m : Nat} {F : Nat → Int} {j : Nat} (hj : j < m) : (valsI (rowF m F))[j]? = some (.int .i64 (F j)) := by
  rw [List.getElem?_eq_getElem (by simpa [valsI, rowF] using hj)]
  simp [valsI, rowF]
/-- A list of zeroes that the call has made. -/
theorem made_own (w : World) (base N : Nat) (hb : base ≤ w.heap.size) (hN : N ≤ 1000) {t : TypeId} (ht : t = 2) : OwnL (w.alloc (.cells (madeCells #[.int .i64 0] N) t)) base (.slice (some ⟨w.heap.size, 0, none⟩) N N) (rowF N fun _ => 0) := by
  subst ht
  have := World.ownsRow_lit (base := base) (e := 2) (size := 1) w (madeCells #[Value.int .i64 0] N) N hb (by unfold maxLen; omega) (by simp [madeCells])
  unfold OwnL
  rw [len_rowF]
  have e : (madeCells #[Value.int .i64 0] N).toList = valsI (rowF N fun _ => 0) := by
    rw [toList_madeCells_one]
    refine List.ext_getElem (by simp [valsI, rowF]) fun k h1 h2 => ?_
    simp [valsI, rowF]
  rwa [e] at this
/-- What the program reads behind the unit. -/
def behind (n : Nat) (R : List (List Int)) (i j : Nat) : Int := nth (R.getD i []) (n + j)
/-- The numbers that are copied, up to a place. -/
def upto (n : Nat) (R : List (List Int)) (i j : Nat) (i' j' : Nat) : Int := if (i' < i ∧ j' < n) ∨ (i' = i ∧ j' < j) then behind n R i' j' else 0

set_option maxRecDepth 8000 in
set_option maxHeartbeats 8000000 in
theorem sinv_any (p : Int) (n : Nat) (g : Nat → Nat → Int) (w : World) (hp : PrimeS p) (h1 : 1 ≤ n) (h3 : n ≤ 3) (hg : ∀ i, i < 3 → ∀ j, j < 3 → 0 ≤ g i j ∧ g i j < p) :
    Calls Tryz.prog 79 #[.int .i64 p, .int .i64 (n : Int), mv g] w fun e w' =>
      (∃ r b, e = .returned (.tuple #[mv r, .bool b]) ∧ (b = true ↔ okR n (echL p (gRows n g))) ∧ (b = true → r = cutM n (behind n (echL p (gRows n g))))) ∧ Below w.heap.size w w' := by
  obtain ⟨h2, h13⟩ := hp.le
  obtain ⟨i0, hi, hz0, hz1, hz2⟩ := info_parts einfoI
  obtain ⟨i1, hi', hz0', hz1', hz2'⟩ := info_parts einfoR
  obtain ⟨W, hW, rW, rR, hbW⟩ : ∃ W, W = (w.alloc (.cells #[.int .u8 (g 0 0), .int .u8 (g 0 1), .int .u8 (g 0 2), .int .u8 (g 1 0), .int .u8 (g 1 1), .int .u8 (g 1 2), .int .u8 (g 2 0), .int .u8 (g 2 1), .int .u8 (g 2 2)] 76)).alloc (.cells #[.int .u8 0, .int .u8 0, .int .u8 0, .int .u8 0, .int .u8 0, .int .u8 0, .int .u8 0, .int .u8 0, .int .u8 0] 76) ∧
      W.rowIs w.heap.size 76 9 (mF g) ∧ W.rowIs (w.heap.size + 1) 76 9 (mF fun _ _ => 0) ∧ Below w.heap.size w W := by
    refine ⟨_, rfl, (mbox w g _).alloc _, ?_, ebox2 _ _ _⟩
    have := mbox (w.alloc (.cells #[.int .u8 (g 0 0), .int .u8 (g 0 1), .int .u8 (g 0 2), .int .u8 (g 1 0), .int .u8 (g 1 1), .int .u8 (g 1 2), .int .u8 (g 2 0), .int .u8 (g 2 1), .int .u8 (g 2 2)] 76)) (fun _ _ => 0) 76
    simpa using this
  have hwr : IntKind.i64.wrap (2 * (n : Int)) = 2 * n := IntWalk.i64_in _ (by omega)
  have hmk : ∀ w, (Instr.makeSlice 30 (.int .i64 (2 * (n : Int))) (.int .i64 (2 * (n : Int)))).run Tryz.prog w = .ok (.slice (some ⟨w.heap.size, 0, none⟩) (2 * n) (2 * n)) (w.alloc (.cells (madeCells #[.int .i64 0] (2 * n)) 2)) := fun w => by
    have h := run_make (P := Tryz.prog) w 30 2 i0 _ Tryz.underlying30 hi hz0 .i64 .i64 (2 * (n : Int)) (2 * (n : Int)) (by omega) (by omega) (by rw [hz2]; omega) (by omega)
    rw [hz1, show (2 * (n : Int)).toNat = 2 * n by omega] at h
    simpa [Value.cells] using h
  have HMK := Lib.hid hmk
  have HG := Lib.hid hg
  clear hmk hg hi hz0 hz1 hz2
  have hWs : W.heap.size = w.heap.size + 2 := by rw [hW]; simp
  have hnil : ∀ t, t = 30 → OwnR (W.alloc (.cells #[] t)) W.heap.size (.slice (some ⟨w.heap.size + 2, 0, none⟩) 0 0) [] := fun t ht => by rw [← hWs]; exact OwnR.nil (Nat.le_refl _) ht
  have hWs1 : w.heap.size + 2 ≤ W.heap.size := by omega
  have HWS := Lib.hid hWs
  clear hWs
  have HNIL := Lib.hid hnil
  clear hnil
  unfold mv
  go_enter Tryz.func79, Tryz.ntmps79
  go_wp2_with fail
  rw [← hW]
  clear hW
  go_loopw [8, 9] (fun s i wr => ∃ (k : Nat) (G : List (List Int)) (sa : Option Addr) (sc : Nat), k ≤ n ∧ s = .slice sa G.length sc ∧ i = .int .i64 k ∧ Hid (G = (List.range k).map (gRow n g)) ∧ G.length ≤ k ∧ OwnR wr W.heap.size (.slice sa G.length sc) G ∧ Below W.heap.size W wr) (fun _ i _ => n - (intOf i).toNat)
  case atStart => exact ⟨0, [], _, _, by omega, rfl, rfl, Lib.hid rfl, by simp, HNIL.out _ rfl, ebox1 _ _⟩
  case round =>
    obtain ⟨k, G, sa, sc, hk, rfl, rfl, HU, hGl, hG, hb⟩ := hrel
    by_cases hlt : k < n
    · have hlt' : (k : Int) < (n : Int) := by omega
      obtain ⟨wo, rfl⟩ : ∃ wo : World, wo = wr := ⟨_, rfl⟩
      have hmk := HMK.out wo
      have hm0 := made_own wo wo.heap.size (2 * n) (Nat.le_refl _) (by omega) (t := 2) rfl
      have hm1 := ebox1 wo (.cells (madeCells #[.int .i64 0] (2 * n)) 2)
      have hs := hb.size
      go_wp2_with fail
      generalize wo.alloc _ = V at hm0 hm1 ⊢
      clear hmk
      go_loopw [11] (fun i wr => ∃ (j : Nat), j ≤ n ∧ i = .int .i64 j ∧ OwnL wr wo.heap.size (.slice (some ⟨wo.heap.size, 0, none⟩) (2 * n) (2 * n)) (rowF (2 * n) fun q => if q < j then g k q else 0) ∧ Below wo.heap.size wo wr) (fun i _ => n - (intOf i).toNat)
      case atStart => exact ⟨0, by omega, rfl, by simpa using hm0, hm1⟩
      case round =>
        obtain ⟨j, hj, rfl, hO, hB⟩ := hrel
        clear hm0 hm1
        by_cases hjt : j < n
        · have hjt' : (j : Int) < (n : Int) := by omega
          have hj6 : (j : Int) < ((2 * n : Nat) : Int) := by omega
          have l0 := mcell (erow_below rW (hb.trans (hB.mono hs)) rW.lt) (i := k) (j := j) (by omega) (by omega)
          have k0 := World.ownsRow.cellAt (n := 2 * n) (xs := valsI (rowF (2 * n) fun q => if q < j then g k q else 0)) (by simpa [OwnL, len_rowF] using hO) j (by omega)
          rw [vals_rowF (by omega), if_neg (by omega)] at k0
          have z0 := World.ownsRow.frozenAt (n := 2 * n) (xs := valsI (rowF (2 * n) fun q => if q < j then g k q else 0)) (by simpa [OwnL, len_rowF] using hO) j
          obtain ⟨x0, x1⟩ := HG.out k (by omega) j (by omega)
          have hst := hO.set j (g k j)
          rw [rowF_set] at hst
          have e : (rowF (2 * n) fun q => if q = j then g k j else if q < j then g k q else 0) = rowF (2 * n) fun q => if q < j + 1 then g k q else 0 := rowF_congr fun q hq => by
            by_cases e : q = j
            · subst e; rw [if_pos rfl, if_pos (by omega)]
            · rw [if_neg e]
              by_cases h : q < j
              · rw [if_pos h, if_pos (by omega)]
              · rw [if_neg h, if_neg (by omega)]
          rw [e] at hst
          clear e hO
          generalize g k j = X at l0 x0 x1 hst
          go_wp2_with fail
          go_roundw
          case rel => exact ⟨j + 1, by omega, by go_num, hst, hB.setCell (Nat.le_refl _) _⟩
          case measure => simp [intOf]; omega
        · obtain rfl : j = n := by omega
          have hk6 : (j : Int) + (k : Int) < ((2 * j : Nat) : Int) := by omega
          have htn : ((j : Int) + (k : Int)).toNat = j + k := by omega
          have k0 := World.ownsRow.cellAt (n := 2 * j) (xs := valsI (rowF (2 * j) fun q => if q < j then g k q else 0)) (by simpa [OwnL, len_rowF] using hO) (j + k) (by omega)
          rw [vals_rowF (by omega), if_neg (by omega)] at k0
          have z0 := World.ownsRow.frozenAt (n := 2 * j) (xs := valsI (rowF (2 * j) fun q => if q < j then g k q else 0)) (by simpa [OwnL, len_rowF] using hO) (j + k)
          have hst := hO.set (j + k) 1
          rw [rowF_set] at hst
          have e : (rowF (2 * j) fun q => if q = j + k then 1 else if q < j then g k q else 0) = gRow j g k := rowF_congr fun q hq => by
            by_cases e : q = j + k
            · subst e; rw [if_pos rfl, if_neg (by omega), if_pos (by omega)]
            · rw [if_neg e]
              by_cases h : q < j
              · rw [if_pos h, if_pos h]
              · rw [if_neg h, if_neg h, if_neg (by omega)]
          rw [e] at hst
          clear e hO
          have hB1 : Below wo.heap.size wo (wr.setCell ⟨wo.heap.size, j + k, none⟩ (.int .i64 1)) := hB.setCell (Nat.le_refl _) _
          go_upto_region 11 with fail
          generalize wr.setCell _ _ = w5 at hst hB1 ⊢
          clear hB
          have hG5 := hG.below hB1
          obtain ⟨us0, x1, x2, x3⟩ := hG5
          have hs5 := hB1.size
          go_wp2_with (at_builtin; refine wpList_append_lies _ rfl _ _ 132 rfl W.heap.size 30 i1 _ 1 24 Tryz.underlying132 hi' hz0' hz1' hz2' rfl (by decide) (.slice sa G.length sc) G.length us0 rfl (World.ownsRow.alloc x2 _) ⟨w5.heap.size, 0, none⟩ 1 1 [.slice (some ⟨wo.heap.size, 0, none⟩) (2 * j) (2 * j)] rfl rfl (World.news_of_block (cs := #[.slice (some ⟨wo.heap.size, 0, none⟩) (2 * j) (2 * j)]) (t := 30) (fr := (0, 0)) (heap_alloc_new w5 _)) (by simp [Value.oneCell']) (by omega) (by unfold maxLen; omega) (by omega) (by simp; omega) _ rfl ?_)
          intro g4 cap4 w6 hown6 hgrow6 hat6 hlt6
          have hB6 : Below W.heap.size W w6 := ((hb.trans (hB1.mono hs)).alloc (by omega) _).grown hgrow6 (by simp; omega) (fun q hq => (World.ownsRow.lt x2 q hq).1)
          have hN6 : OwnR w6 W.heap.size (.slice (some ⟨g4, 0, none⟩) (G.length + 1) cap4) (G ++ [gRow j g k]) := OwnR.push x1 (World.ownsRow.alloc x2 _) (fun k hk hk' => (x3 k hk hk').below (ebox1 w5 _)) ((hst.mono hs).below (ebox1 w5 _)) hown6 hgrow6
          clear x1 x2 x3 hown6 hgrow6 hat6 hst
          go_wp2_with fail
          go_roundw
          case rel => exact ⟨k + 1, G ++ [gRow j g k], some ⟨g4, 0, none⟩, cap4, by omega, by simp, by go_num, Lib.hid (by rw [HU.out, List.range_succ]; simp), by simp; omega, by simpa using hN6, hB6⟩
          case measure => simp [intOf]; omega
    · obtain rfl : k = n := by omega
      obtain ⟨w3, rfl⟩ : ∃ w3 : World, w3 = wr := ⟨_, rfl⟩
      have hIn : ∀ r ∈ G, InP p (2 * k) r := fun r hr => by
        rw [HU.out] at hr
        obtain ⟨i, hi, rfl⟩ := List.mem_map.1 hr
        exact gRow_inP h2 (fun a ha b hb => HG.out a (by omega) b (by omega)) (by simpa using hi)
      have hred := (echL_spec hp (m := 2 * k) G hIn).1
      have HR := Lib.hid (show echL p G = echL p (gRows k g) by rw [HU.out]; rfl)
      have hGs := hG.slice
      have hs := hb.size
      go_wp2_with fail
      ((with_reducible refine (eech p _ G (2 * k) _ hp (by omega) (by omega) hIn hGs).mono ?_); rintro e w4 ⟨v4, rfl, hR4, hb4⟩)
      have hRl := ech_len p G
      obtain ⟨R, hRR⟩ : ∃ R, echL p G = R := ⟨_, rfl⟩
      rw [hRR] at hR4 hred HR hRl
      clear hRR hIn hGs hG
      obtain ⟨s4, c4, rfl⟩ := hR4.shape
      have hbw := hb.trans (hb4.mono hs)
      obtain ⟨Z, hZ, rZ, hbZ⟩ : ∃ Z, Z = w4.alloc (.cells #[.int .u8 0, .int .u8 0, .int .u8 0, .int .u8 0, .int .u8 0, .int .u8 0, .int .u8 0, .int .u8 0, .int .u8 0] 76) ∧ Z.rowIs w4.heap.size 76 9 (mF fun _ _ => 0) ∧ Below w4.heap.size w4 Z := ⟨_, rfl, mbox w4 (fun _ _ => 0) _, ebox1 _ _⟩
      have hbz := hbw.trans (hbZ.mono hbw.size)
      have rR5 := erow_below rR hbz rR.lt
      have hb5 := hbW.trans (hbz.mono hbW.size)
      have hRZ := hR4.below hbZ
      go_upto_region 13 with fail
      rw [← hZ]
      clear hZ
      by_cases hlen : R.length = k
      · have hne : ((R.length : Int) != (k : Int)) = false := by simp; omega
        have hRk : k ≤ R.length := by omega
        have hRk2 : R.length ≤ k := by omega
        have HLEN := Lib.hid hlen
        clear hlen
        go_wp2_with fail
        clear hne
        go_loopw [14] (fun i wr => ∃ (t : Nat), t ≤ k ∧ i = .int .i64 t ∧ Hid (∀ a, (h : a < R.length) → a < t → leadN R[a] = a) ∧ wr.rowIs w4.heap.size 76 9 (mF (upto k R t 0)) ∧ Below w4.heap.size w4 wr) (fun i _ => k - (intOf i).toNat)
        case atStart => exact ⟨0, by omega, rfl, Lib.hid (fun a _ h => by omega), mF_congr rZ (fun i _ j _ => by unfold upto; rw [if_neg (by omega)]), hbZ⟩
        case round =>
          obtain ⟨t, ht, rfl, HV, hro, hB⟩ := hrel
          have hs4 := hB.size
          have rR6 := erow_below rR (hbw.trans (hB.mono hbw.size)) rR.lt
          have hb6 := hbW.trans ((hbw.trans (hB.mono hbw.size)).mono hbW.size)
          by_cases hlt2 : t < k
          · have hlt2' : (t : Int) < (k : Int) := by omega
            have htR : (t : Int) < (R.length : Int) := by omega
            obtain ⟨g4, c5, hv4, _, hlt4, hc4⟩ := hR4.cells (by omega)
            simp only [Value.slice.injEq] at hv4
            obtain ⟨rfl, _, rfl⟩ := hv4
            obtain ⟨u4, e1, e2⟩ := hc4 t (by omega)
            have hin := hred.inP R[t] (List.getElem_mem _)
            have hlq := hred.lt R[t] (List.getElem_mem _)
            have hbeh : ∀ j, behind k R t j = nth R[t] (k + j) := fun j => by simp [behind, List.getD, show t < R.length by omega]
            have HLV := Lib.hid (show leadN R[t] = t → ∀ a, (h : a < R.length) → a < t + 1 → leadN R[a] = a from fun h a ha hat => by
              by_cases e : a = t
              · subst e; exact h
              · exact HV.out a ha (by omega))
            have HLN := Lib.hid (show leadN R[t] ≠ t → ¬ okR k (echL p (gRows k g)) from fun h ho => by
              rw [← HR.out] at ho
              exact h (ho.2 t (by omega)))
            generalize hq0 : R[t] = q at e2 hin hlq hbeh HLV HLN
            clear hq0 hc4
            have hqs : q.length ≤ 2 * k := by rw [hin.1]; omega
            have hqs2 : 2 * k ≤ q.length := by rw [hin.1]; omega
            obtain ⟨gq, cq, rfl, _, hltq, hcq⟩ := e2.form (by omega)
            have m0 := (hB.cell (p := ⟨g4, t, none⟩) hlt4).trans e1
            have hqsl := (e2.below hB).slice
            obtain ⟨lq, hlqe⟩ : ∃ lq, leadN q = lq := ⟨_, rfl⟩
            rw [hlqe] at HLV HLN hlq
            have HLQ := Lib.hid hlqe
            clear hlqe
            by_cases hld : lq = t
            · have hld2 : ((lq : Int) != (t : Int)) = false := by simp [hld]
              have HV2 := Lib.hid (HLV.out hld)
              clear HLV HLN hld
              go_wp2_with fail
              ((with_reducible refine (elead_at _ q lq _ (by omega) hqsl HLQ.out (by omega)).mono ?_); rintro e w8 ⟨rfl, rfl⟩)
              obtain ⟨w9, rfl⟩ : ∃ w9 : World, w9 = w8 := ⟨_, rfl⟩
              go_wp2_with fail
              clear hld2
              go_loopw [15] (fun i wr => ∃ (j : Nat), j ≤ k ∧ i = .int .i64 j ∧ wr.rowIs w4.heap.size 76 9 (mF (upto k R t j)) ∧ Below w4.heap.size w4 wr) (fun i _ => k - (intOf i).toNat)
              case atStart => exact ⟨0, by omega, rfl, hro, hB⟩
              case round =>
                obtain ⟨j, hj, rfl, hro5, hB5⟩ := hrel
                by_cases hjt : j < k
                · have hjt' : (j : Int) < (k : Int) := by omega
                  have hkj : (k : Int) + (j : Int) < (q.length : Int) := by omega
                  have htn : ((k : Int) + (j : Int)).toNat = k + j := by omega
                  have hws : IntKind.i64.wrap ((k : Int) + (j : Int)) = k + j := IntWalk.i64_in _ (by omega)
                  have m1 := (hB5.cell (p := ⟨g4, t, none⟩) hlt4).trans e1
                  have m2 := (hB5.cell (p := ⟨gq, k + j, none⟩) hltq).trans (hcq (k + j) (by omega))
                  rw [← nth_lt (by omega), ← hbeh] at m2
                  have hX := hin.nth (by omega) (k + j)
                  rw [← hbeh] at hX
                  obtain ⟨x0, x1⟩ := hX
                  have hm := mset (i := t) (j := j) hro5 (by omega) (behind k R t j)
                  have hm2 := mF_congr (h := upto k R t (j + 1)) hm (fun a ha b hb => by
                    unfold upd upto
                    by_cases e : a = t ∧ b = j
                    · obtain ⟨rfl, rfl⟩ := e
                      rw [if_pos ⟨rfl, rfl⟩, if_pos (by omega)]
                    · rw [if_neg e]
                      by_cases e2 : (a < t ∧ b < k) ∨ (a = t ∧ b < j)
                      · rw [if_pos e2, if_pos (by omega)]
                      · rw [if_neg e2, if_neg (by omega)])
                  have y0 := mcell hro5 (i := t) (j := j) (by omega) (by omega)
                  have z0 := World.rowIs.frozen hro5 (t * 3 + j)
                  clear hm hro5
                  have HBH := Lib.hid hbeh
                  generalize behind k R t j = X at m2 x0 x1 hm2
                  have hw8 : IntKind.u8.wrap X = X := IntWalk.u8_in _ (by omega)
                  go_wp2_with fail
                  go_region
                  all_goals
                    go_wp2_with fail
                    go_roundw
                    case rel => exact ⟨j + 1, by omega, by go_num, hm2, (hB5.setCell (Nat.le_refl _) _).drew⟩
                    case measure => simp [intOf]; omega
                · obtain rfl : j = k := by omega
                  have hro6 := mF_congr (h := upto j R (t + 1) 0) hro5 (fun a ha b hb => by
                    unfold upto
                    by_cases e2 : (a < t ∧ b < j) ∨ (a = t ∧ b < j)
                    · rw [if_pos e2, if_pos (by omega)]
                    · rw [if_neg e2, if_neg (by omega)])
                  go_wp2_with fail
                  go_roundw
                  case rel => exact ⟨t + 1, by omega, by go_num, HV2, hro6, hB5⟩
                  case measure => simp [intOf]; omega
            · have hld2 : ((lq : Int) != (t : Int)) = true := by simp; omega
              have HNO := Lib.hid (HLN.out hld)
              clear HLV HLN hld
              go_wp2_with fail
              ((with_reducible refine (elead_at _ q lq _ (by omega) hqsl HLQ.out (by omega)).mono ?_); rintro e w8 ⟨rfl, rfl⟩)
              obtain ⟨rq, hrq⟩ : ∃ rq, rq = upto k R t 0 := ⟨_, rfl⟩
              have HRQ := Lib.hid hrq
              have hro2 : w8.rowIs w4.heap.size 76 9 (mF rq) := by rw [hrq]; exact hro
              clear hrq
              obtain ⟨⟨o0, o1, o2⟩, ⟨o3, o4, o5⟩, o6, o7, o8⟩ := mcells hro2
              obtain ⟨⟨y0, y1, y2⟩, ⟨y3, y4, y5⟩, y6, y7, y8⟩ := mcells rR6
              have zz0 := World.rowIs.frozen rR6 0
              have zz1 := World.rowIs.frozen rR6 1
              have zz2 := World.rowIs.frozen rR6 2
              have zz3 := World.rowIs.frozen rR6 3
              have zz4 := World.rowIs.frozen rR6 4
              have zz5 := World.rowIs.frozen rR6 5
              have zz6 := World.rowIs.frozen rR6 6
              have zz7 := World.rowIs.frozen rR6 7
              have zz8 := World.rowIs.frozen rR6 8
              obtain ⟨hf1, hf2⟩ := mfill (w := w) (B := w.heap.size) rR6 hb6 (by omega) rq
              obtain ⟨⟨v0, v1, v2⟩, ⟨v3, v4, v5⟩, v6, v7, v8⟩ := mcells hf1
              have V0 := Lib.hid v0
              have V1 := Lib.hid v1
              have V2 := Lib.hid v2
              have V3 := Lib.hid v3
              have V4 := Lib.hid v4
              have V5 := Lib.hid v5
              have V6 := Lib.hid v6
              have V7 := Lib.hid v7
              have V8 := Lib.hid v8
              have HF2 := Lib.hid hf2
              clear hf1 hf2 v0 v1 v2 v3 v4 v5 v6 v7 v8
              go_wp2_with fail
              exact bodyPost_ret (v := .tuple #[mv rq, .bool false]) (by simp [results, Tryz.results79, go_sem, mv, V0.out, V1.out, V2.out, V3.out, V4.out, V5.out, V6.out, V7.out, V8.out]) rfl ⟨⟨rq, false, rfl, ⟨(fun h => by cases h), fun h => absurd h HNO.out⟩, (fun h => by cases h)⟩, HF2.out⟩
          · obtain rfl : t = k := by omega
            have HOK := Lib.hid (show okR t (echL p (gRows t g)) by
              rw [← HR.out]
              exact ⟨HLEN.out, fun i hi => HV.out i hi (by omega)⟩)
            have hro7 := mF_congr (h := cutM t (behind t R)) hro (fun a ha b hb => by
              unfold upto cutM
              by_cases e2 : a < t ∧ b < t
              · rw [if_pos (.inl e2), if_pos e2]
              · rw [if_neg (by omega), if_neg e2])
            obtain ⟨rq, hrq⟩ : ∃ rq, rq = cutM t (behind t R) := ⟨_, rfl⟩
            have HRQ := Lib.hid hrq
            have hro2 : wr.rowIs w4.heap.size 76 9 (mF rq) := by rw [hrq]; exact hro7
            clear hrq
            obtain ⟨⟨o0, o1, o2⟩, ⟨o3, o4, o5⟩, o6, o7, o8⟩ := mcells hro2
            obtain ⟨⟨y0, y1, y2⟩, ⟨y3, y4, y5⟩, y6, y7, y8⟩ := mcells rR6
            have zz0 := World.rowIs.frozen rR6 0
            have zz1 := World.rowIs.frozen rR6 1
            have zz2 := World.rowIs.frozen rR6 2
            have zz3 := World.rowIs.frozen rR6 3
            have zz4 := World.rowIs.frozen rR6 4
            have zz5 := World.rowIs.frozen rR6 5
            have zz6 := World.rowIs.frozen rR6 6
            have zz7 := World.rowIs.frozen rR6 7
            have zz8 := World.rowIs.frozen rR6 8
            obtain ⟨hf1, hf2⟩ := mfill (w := w) (B := w.heap.size) rR6 hb6 (by omega) rq
            obtain ⟨⟨v0, v1, v2⟩, ⟨v3, v4, v5⟩, v6, v7, v8⟩ := mcells hf1
            have V0 := Lib.hid v0
            have V1 := Lib.hid v1
            have V2 := Lib.hid v2
            have V3 := Lib.hid v3
            have V4 := Lib.hid v4
            have V5 := Lib.hid v5
            have V6 := Lib.hid v6
            have V7 := Lib.hid v7
            have V8 := Lib.hid v8
            have HF2 := Lib.hid hf2
            clear hf1 hf2 v0 v1 v2 v3 v4 v5 v6 v7 v8
            go_wp2_with fail
            exact bodyPost_ret (v := .tuple #[mv rq, .bool true]) (by simp [results, Tryz.results79, go_sem, mv, V0.out, V1.out, V2.out, V3.out, V4.out, V5.out, V6.out, V7.out, V8.out]) rfl ⟨⟨rq, true, rfl, ⟨(fun _ => HOK.out), fun _ => rfl⟩, (fun _ => by rw [HRQ.out, HR.out])⟩, HF2.out⟩
      · have hne : ((R.length : Int) != (k : Int)) = true := by simp; omega
        have HNO := Lib.hid (show ¬ okR k (echL p (gRows k g)) from fun h => by rw [← HR.out] at h; exact hlen h.1)
        clear hlen
        obtain ⟨⟨o0, o1, o2⟩, ⟨o3, o4, o5⟩, o6, o7, o8⟩ := mcells rZ
        obtain ⟨⟨y0, y1, y2⟩, ⟨y3, y4, y5⟩, y6, y7, y8⟩ := mcells rR5
        have zz0 := World.rowIs.frozen rR5 0
        have zz1 := World.rowIs.frozen rR5 1
        have zz2 := World.rowIs.frozen rR5 2
        have zz3 := World.rowIs.frozen rR5 3
        have zz4 := World.rowIs.frozen rR5 4
        have zz5 := World.rowIs.frozen rR5 5
        have zz6 := World.rowIs.frozen rR5 6
        have zz7 := World.rowIs.frozen rR5 7
        have zz8 := World.rowIs.frozen rR5 8
        have hfin := mfill (w := w) (B := w.heap.size) rR5 hb5 (by omega) (fun _ _ => 0)
        obtain ⟨hf1, hf2⟩ := hfin
        obtain ⟨⟨v0, v1, v2⟩, ⟨v3, v4, v5⟩, v6, v7, v8⟩ := mcells hf1
        have V0 := Lib.hid v0
        have V1 := Lib.hid v1
        have V2 := Lib.hid v2
        have V3 := Lib.hid v3
        have V4 := Lib.hid v4
        have V5 := Lib.hid v5
        have V6 := Lib.hid v6
        have V7 := Lib.hid v7
        have V8 := Lib.hid v8
        have HF2 := Lib.hid hf2
        clear hf1 hf2 v0 v1 v2 v3 v4 v5 v6 v7 v8
        go_wp2_with fail
        exact bodyPost_ret (v := .tuple #[mv (fun _ _ => 0), .bool false]) (by simp [results, Tryz.results79, go_sem, mv, V0.out, V1.out, V2.out, V3.out, V4.out, V5.out, V6.out, V7.out, V8.out]) rfl ⟨⟨fun _ _ => 0, false, rfl, ⟨(fun h => by cases h), fun h => absurd h HNO.out⟩, (fun h => by cases h)⟩, HF2.out⟩
end Go.Proofs.YtbhgbifliihlbaaGreat
namespace Go.Proofs.YtbhgbifliihlbaaGreat
open Go.RowKit Go.Sort EchM

theorem eprime_is (p : Int) (w : World) (B : Bool) (h : pB p = B) : Calls Tryz.prog 50 #[.int .i64 p] w fun e w' => e = .returned (.bool B) ∧ w = w' := by rw [← h]; exact eprime p w
theorem ein_is (n a b : Int) (w : World) (B : Bool) (h : (decide (a ≤ n) && decide (n ≤ b)) = B) : Calls Tryz.prog 51 #[.int .i64 n, .int .i64 a, .int .i64 b] w fun e w' => e = .returned (.bool B) ∧ w = w' := by rw [← h]; exact ein n a b w
theorem sinv_agg (p : Int) (n : Nat) (g : Nat → Nat → Int) (w : World) (hp : PrimeS p) (h1 : 1 ≤ n) (h3 : n ≤ 3) (hg : ∀ i, i < 3 → ∀ j, j < 3 → 0 ≤ g i j ∧ g i j < p) :
    Calls Tryz.prog 79 #[.int .i64 p, .int .i64 (n : Int), .agg #[.int .u8 (g 0 0), .int .u8 (g 0 1), .int .u8 (g 0 2), .int .u8 (g 1 0), .int .u8 (g 1 1), .int .u8 (g 1 2), .int .u8 (g 2 0), .int .u8 (g 2 1), .int .u8 (g 2 2)]] w fun e w' =>
      (∃ r b, e = .returned (.tuple #[.agg #[.int .u8 (r 0 0), .int .u8 (r 0 1), .int .u8 (r 0 2), .int .u8 (r 1 0), .int .u8 (r 1 1), .int .u8 (r 1 2), .int .u8 (r 2 0), .int .u8 (r 2 1), .int .u8 (r 2 2)], .bool b]) ∧ (b = true ↔ okR n (echL p (gRows n g))) ∧ (b = true → r = cutM n (behind n (echL p (gRows n g))))) ∧ Below w.heap.size w w' :=
  sinv_any p n g w hp h1 h3 hg

set_option maxRecDepth 8000 in
set_option maxHeartbeats 8000000 in
theorem smat_any (p n : Int) (g : Nat → Nat → Int) (w : World) (hg : Byt g) :
    Calls Tryz.prog 52 #[.int .i64 p, .int .i64 n, mv g] w fun e w' => e = .returned (.bool (isMat p n g)) ∧ Below w.heap.size w w' := by
  obtain ⟨W, hW, rW, hbW⟩ : ∃ W, W = w.alloc (.cells #[.int .u8 (g 0 0), .int .u8 (g 0 1), .int .u8 (g 0 2), .int .u8 (g 1 0), .int .u8 (g 1 1), .int .u8 (g 1 2), .int .u8 (g 2 0), .int .u8 (g 2 1), .int .u8 (g 2 2)] 76) ∧ W.rowIs w.heap.size 76 9 (mF g) ∧ Below w.heap.size w W := ⟨_, rfl, mbox w g _, ebox1 _ _⟩
  unfold mv
  have HG := Lib.hid hg
  clear hg
  cases hp : pB p
  · have HX := Lib.hid (show isMat p n g = false by simp [isMat, hp])
    have HP := Lib.hid hp
    clear hp
    go_enter Tryz.func52, Tryz.ntmps52
    go_wp2_with fail
    rw [← hW]
    clear hW
    ((with_reducible refine (eprime_is p _ false HP.out).mono ?_); rintro e w1 ⟨rfl, rfl⟩)
    go_wp2_with fail
    go_ret
    exact ⟨by rw [HX.out]; rfl, hbW⟩
  · have HP := Lib.hid hp
    cases hv : (decide (1 ≤ n) && decide (n ≤ 3))
    · have HX := Lib.hid (show isMat p n g = false by rw [isMat, hv]; simp)
      have HV := Lib.hid hv
      clear hp hv
      go_enter Tryz.func52, Tryz.ntmps52
      go_wp2_with fail
      rw [← hW]
      clear hW
      ((with_reducible refine (eprime_is p _ true HP.out).mono ?_); rintro e w1 ⟨rfl, rfl⟩)
      go_wp2_with fail
      ((with_reducible refine (ein_is n 1 3 _ false HV.out).mono ?_); rintro e w2 ⟨rfl, rfl⟩)
      go_wp2_with fail
      go_ret
      exact ⟨by rw [HX.out]; rfl, hbW⟩
    · have HV := Lib.hid hv
      obtain ⟨h2, h13⟩ := pB_le hp
      have hps := pB_set hp
      simp only [Bool.and_eq_true, decide_eq_true_eq] at hv
      obtain ⟨m, rfl⟩ := Int.eq_ofNat_of_zero_le (show 0 ≤ n by omega)
      have HY := Lib.hid (show isMat p m g = (hasB p m g && decide (detP p (fullM m g) ≠ 0)) by rw [isMat, hp, HV.out]; simp)
      have hm1 : 1 ≤ m := by omega
      have hm3 : m ≤ 3 := by omega
      clear hp hv
      go_enter Tryz.func52, Tryz.ntmps52
      go_wp2_with fail
      rw [← hW]
      clear hW
      ((with_reducible refine (eprime_is p _ true HP.out).mono ?_); rintro e w1 ⟨rfl, rfl⟩)
      go_wp2_with fail
      ((with_reducible refine (ein_is m 1 3 _ true HV.out).mono ?_); rintro e w2 ⟨rfl, rfl⟩)
      go_wp2_with fail
      go_loop [7] (fun i => ∃ (k : Nat), k ≤ 3 ∧ i = .int .i64 k ∧ Hid (∀ i, i < k → ∀ j, j < 3 → okC p m (g i j) i j = true)) (fun i => 3 - (intOf i).toNat)
      case atStart => exact ⟨0, by omega, rfl, Lib.hid (fun i hi => by omega)⟩
      case round =>
        obtain ⟨k, hk, rfl, HU⟩ := hrel
        by_cases hlt : k < 3
        · have hlt' : (k : Int) < 3 := by omega
          go_wp2_with fail
          go_loop [8] (fun i => ∃ (j : Nat), j ≤ 3 ∧ i = .int .i64 j ∧ Hid (∀ j', j' < j → okC p m (g k j') k j' = true)) (fun i => 3 - (intOf i).toNat)
          case atStart => exact ⟨0, by omega, rfl, Lib.hid (fun j hj => by omega)⟩
          case round =>
            obtain ⟨j, hj, rfl, HW⟩ := hrel
            by_cases hjt : j < 3
            · have hjt' : (j : Int) < 3 := by omega
              have c0 := mcell rW (i := k) (j := j) hlt hjt
              have hx := HG.out k hlt j hjt
              have HNo := Lib.hid (fun h => hasB_no (p := p) (n := m) (g := g) hlt hjt (okC_no h))
              have HYes : (g k j < p → ((k : Int) < (m : Int) ∧ (j : Int) < (m : Int)) ∨ g k j = 0 → Hid (∀ j', j' < j + 1 → okC p m (g k j') k j' = true)) := fun h1 h2 => Lib.hid (fun j' hj' => by
                by_cases e : j' = j
                · subst e; exact okC_yes h1 h2
                · exact HW.out j' (by omega))
              have HYY := Lib.hid HYes
              clear HYes
              generalize hX : g k j = X at c0 hx HNo HYY
              clear hX
              obtain ⟨x0, x1⟩ := hx
              by_cases h1 : p ≤ X
              · have HX := Lib.hid (show isMat p m g = false by rw [HY.out, HNo.out (.inl h1)]; rfl)
                clear HNo HYY
                go_wp2_with fail
                all_goals go_ret
                all_goals exact ⟨by rw [HX.out]; rfl, hbW⟩
              · by_cases hz : X = 0
                · have HN := HYY.out (by omega) (.inr hz)
                  subst hz
                  clear HNo HYY
                  by_cases h2' : (k : Int) < (m : Int)
                  · by_cases h3' : (j : Int) < (m : Int)
                    · go_wp2_with fail
                      go_round
                      case rel => exact ⟨j + 1, by omega, by go_num, HN⟩
                      case measure => simp [intOf]; omega
                    · go_wp2_with fail
                      go_round
                      case rel => exact ⟨j + 1, by omega, by go_num, HN⟩
                      case measure => simp [intOf]; omega
                  · go_wp2_with fail
                    go_round
                    case rel => exact ⟨j + 1, by omega, by go_num, HN⟩
                    case measure => simp [intOf]; omega
                · have hq : (X != 0) = true := by simp [hz]
                  by_cases h2' : (k : Int) < (m : Int)
                  · by_cases h3' : (j : Int) < (m : Int)
                    · have HN := HYY.out (by omega) (.inl ⟨h2', h3'⟩)
                      clear HNo HYY hz
                      go_wp2_with fail
                      go_round
                      case rel => exact ⟨j + 1, by omega, by go_num, HN⟩
                      case measure => simp [intOf]; omega
                    · have HX := Lib.hid (show isMat p m g = false by rw [HY.out, HNo.out (.inr ⟨.inr (by omega), hz⟩)]; rfl)
                      clear HNo HYY hz
                      go_wp2_with fail
                      go_ret
                      exact ⟨by rw [HX.out]; rfl, hbW⟩
                  · have HX := Lib.hid (show isMat p m g = false by rw [HY.out, HNo.out (.inr ⟨.inl (by omega), hz⟩)]; rfl)
                    clear HNo HYY hz
                    go_wp2_with fail
                    go_ret
                    exact ⟨by rw [HX.out]; rfl, hbW⟩
            · obtain rfl : j = 3 := by omega
              have HN : Hid (∀ i, i < k + 1 → ∀ j, j < 3 → okC p m (g i j) i j = true) := Lib.hid (fun i hi j hj => by
                by_cases e : i = k
                · subst e; exact HW.out j hj
                · exact HU.out i (by omega) j hj)
              go_wp2_with fail
              go_round
              case rel => exact ⟨k + 1, by omega, by go_num, HN⟩
              case measure => simp [intOf]; omega
        · obtain rfl : k = 3 := by omega
          have hh := hasB_yes HU.out
          have HB := Lib.hid (hasB_bound HG.out hh)
          have HO := Lib.hid (hasB_out hh)
          have HM := Lib.hid (ech_mat hps hm1 hm3 (g := g) (fun i hi j hj => HB.out i (by omega) j (by omega)) HO.out).1
          have HX := Lib.hid (show isMat p m g = decide (detP p (fullM m g) ≠ 0) by rw [HY.out, hh]; rfl)
          clear hh
          obtain ⟨⟨c0, c1, c2⟩, ⟨c3, c4, c5⟩, c6, c7, c8⟩ := mcells rW
          go_wp2_with fail
          ((with_reducible refine (sinv_agg p m g _ hps hm1 hm3 HB.out).mono ?_); rintro e w4 ⟨⟨r, b, rfl, hb, _⟩, hb4⟩)
          have HBB := Lib.hid (show isMat p m g = b by
            rw [HX.out, ← Bool.coe_iff_coe, hb]; simp only [decide_eq_true_eq]; exact HM.out.symm)
          have hb5 := hbW.trans (hb4.mono hbW.size)
          have hb6 := Lib.hid (fun o => hb5.alloc hb5.size o)
          clear hb c0 c1 c2 c3 c4 c5 c6 c7 c8
          go_wp2_with fail
          go_ret
          exact ⟨by rw [HBB.out]; rfl, hb6.out _⟩
end Go.Proofs.YtbhgbifliihlbaaGreat
namespace Go.Proofs.YtbhgbifliihlbaaGreat
open Go.RowKit Go.Sort EchM

theorem ismat_is (p n : Int) (g : Nat → Nat → Int) (w : World) (hg : Byt g) (B : Bool) (h : isMat p n g = B) :
    Calls Tryz.prog 66 #[.int .i64 p, .int .i64 n, (.agg #[.int .u8 (g 0 0), .int .u8 (g 0 1), .int .u8 (g 0 2), .int .u8 (g 1 0), .int .u8 (g 1 1), .int .u8 (g 1 2), .int .u8 (g 2 0), .int .u8 (g 2 1), .int .u8 (g 2 2)])] w fun e w' => e = .returned (.bool B) ∧ Below w.heap.size w w' := by subst h; exact isMatrix_any p n g w hg
theorem smat_is (p n : Int) (g : Nat → Nat → Int) (w : World) (hg : Byt g) (B : Bool) (h : isMat p n g = B) :
    Calls Tryz.prog 52 #[.int .i64 p, .int .i64 n, (.agg #[.int .u8 (g 0 0), .int .u8 (g 0 1), .int .u8 (g 0 2), .int .u8 (g 1 0), .int .u8 (g 1 1), .int .u8 (g 1 2), .int .u8 (g 2 0), .int .u8 (g 2 1), .int .u8 (g 2 2)])] w fun e w' => e = .returned (.bool B) ∧ Below w.heap.size w w' := by subst h; exact smat_any p n g w hg
/-- What a matrix is like. -/
structure MatV (p : Int) (m : Nat) (g : Nat → Nat → Int) : Prop where
  prime : PrimeS p
  h2 : 2 ≤ p
  h13 : p ≤ 13
  m1 : 1 ≤ m
  m3 : m ≤ 3
  bound : ∀ i, i < 3 → ∀ j, j < 3 → 0 ≤ g i j ∧ g i j < p
  out : Out0 m g
  det : detP p (fullM m g) ≠ 0
theorem matV_of {p n : Int} {g : Nat → Nat → Int} (hg : Byt g) (h : isMat p n g = true) : ∃ m : Nat, n = (m : Int) ∧ MatV p m g := by
  unfold isMat at h
  simp only [Bool.and_eq_true, decide_eq_true_eq] at h
  obtain ⟨h1, ⟨h2, h3⟩, h4, h5⟩ := h
  obtain ⟨m, rfl⟩ := Int.eq_ofNat_of_zero_le (show 0 ≤ n by omega)
  obtain ⟨a, b⟩ := pB_le h1
  exact ⟨m, rfl, pB_set h1, a, b, by omega, by omega, hasB_bound hg h4, hasB_out h4, h5⟩
end Go.Proofs.YtbhgbifliihlbaaGreat
namespace Go.Proofs.YtbhgbifliihlbaaGreat
open Go.RowKit Go.Sort Go.Maps EchM

theorem infoPoly : (Tryz.prog.info? 39).map (fun i => (i.zero, i.size, i.bytes)) = some (some (.agg #[.int .i64 0, .int .i64 0, .slice none 0 0]), 3, 40) := by kernel_rfl
def madeP (n : Nat) : Array Value := madeCells (Value.agg #[.int .i64 0, .int .i64 0, .slice none 0 0]).cells (n * 3)
theorem madeP_row (w : World) (n : Nat) (t : TypeId) : (w.alloc (.cells (madeP n) t)).rowIs w.heap.size t (n * 3) (fun i => (madeP n).getD i undef) := by
  have hs : (madeP n).size = n * 3 := by simp [madeP, madeCells]
  refine ⟨madeP n, heap_alloc_new w _, hs, fun i hi => ?_⟩
  simp [Array.getD, hs, hi]
/-- The polynomials that the letters become. -/
def formsP (p : Int) (n : Nat) (g : Nat → Nat → Int) : List Pm := (List.range n).map fun j => (p, (n : Int), formL g j)
theorem formsP_len (p : Int) (n : Nat) (g : Nat → Nat → Int) : (formsP p n g).length = n := by simp [formsP]
theorem formsP_at {p : Int} {n : Nat} {g : Nat → Nat → Int} {j : Nat} (h : j < (formsP p n g).length) : (formsP p n g)[j] = (p, (n : Int), formL g j) := by simp [formsP]
theorem formsP_tms (p : Int) (n : Nat) (g : Nat → Nat → Int) : tmsL (formsP p n g) = formsL g n := by
  simp [tmsL, formsP, formsL]
/-- The first j polynomials of a row are there. -/
structure FormsW (w : World) (base gb n : Nat) (p : Int) (g : Nat → Nat → Int) (j : Nat) (F : Nat → Value) : Prop where
  row : w.rowIs gb 39 (n * 3) F
  at' : ∀ i, i < j → ∃ u, F (i * 3) = .int .i64 p ∧ F (i * 3 + 1) = .int .i64 n ∧ F (i * 3 + 2) = u ∧ OwnP w base u (formL g i)
theorem FormsW.later {w w' : World} {base gb n : Nat} {p : Int} {g : Nat → Nat → Int} {j : Nat} {F : Nat → Value} (h : FormsW w base gb n p g j F) (hb : Below w.heap.size w w') : FormsW w' base gb n p g j F :=
  ⟨rowIs_below h.row hb h.row.lt, fun i hi => by
    obtain ⟨u, a, b, c, d⟩ := h.at' i hi
    exact ⟨u, a, b, c, owns_belowT d hb⟩⟩
theorem own_set {w : World} {base b i N : Nat} {f : Nat → Value} {v x : Value} {S : List Tm} (h : OwnP w base v S) (hr : w.rowIs b 39 N f) : OwnP (w.setCell ⟨b, i, none⟩ x) base v S :=
  h.kept (row := some b) ⟨rfl, rfl, rfl, by rw [World.size_setCell]; exact Nat.le_refl _, fun k hk hne => Below.heap_setCell w ⟨b, i, none⟩ x k (fun e => hne (by rw [e]))⟩ (own_ne hr h (by decide))
theorem own_set3 {w : World} {base b i0 i1 i2 N : Nat} {f : Nat → Value} {v x0 x1 x2 : Value} {S : List Tm} (h : OwnP w base v S) (hr : w.rowIs b 39 N f) : OwnP (((w.setCell ⟨b, i0, none⟩ x0).setCell ⟨b, i1, none⟩ x1).setCell ⟨b, i2, none⟩ x2) base v S :=
  own_set (own_set (own_set h hr) (hr.set i0 x0)) ((hr.set i0 x0).set i1 x1)
theorem FormsW.put {w : World} {base base' gb n : Nat} {p : Int} {g : Nat → Nat → Int} {j : Nat} {F : Nat → Value} {u : Value} (h : FormsW w base gb n p g j F) (ho : OwnP w base' u (formL g j)) (hb : base ≤ base') :
    FormsW (((w.setCell ⟨gb, j * 3, none⟩ (.int .i64 p)).setCell ⟨gb, j * 3 + 1, none⟩ (.int .i64 n)).setCell ⟨gb, j * 3 + 2, none⟩ u) base gb n p g (j + 1) (fun i => if i = j * 3 + 2 then u else if i = j * 3 + 1 then .int .i64 n else if i = j * 3 then .int .i64 p else F i) := by
  refine ⟨((h.row.set (j * 3) (.int .i64 p)).set (j * 3 + 1) (.int .i64 n)).set (j * 3 + 2) u, fun i hi => ?_⟩
  by_cases e : i = j
  · subst e
    refine ⟨u, ?_, ?_, ?_, owns_low (own_set3 ho h.row) hb⟩
    · rw [if_neg (by omega), if_neg (by omega), if_pos rfl]
    · rw [if_neg (by omega), if_pos rfl]
    · rw [if_pos rfl]
  · obtain ⟨v, a, b, c, d⟩ := h.at' i (by omega)
    refine ⟨v, ?_, ?_, ?_, own_set3 d h.row⟩
    · rw [if_neg (by omega), if_neg (by omega), if_neg (by omega), a]
    · rw [if_neg (by omega), if_neg (by omega), if_neg (by omega), b]
    · rw [if_neg (by omega), if_neg (by omega), if_neg (by omega), c]
theorem FormsW.done {w : World} {base gb n : Nat} {p : Int} {g : Nat → Nat → Int} {F : Nat → Value} (h : FormsW w base gb n p g n F) : SlP w (.slice (some ⟨gb, 0, none⟩) n n) (formsP p n g) := by
  refine ⟨some ⟨gb, 0, none⟩, n, by rw [formsP_len], .inr ⟨gb, 0, rfl, h.row.lt, fun k hk => ?_⟩⟩
  rw [formsP_len] at hk
  rw [formsP_at]
  obtain ⟨u, a, b, c, d⟩ := h.at' k hk
  refine ⟨u, ?_, ?_, ?_, OwnP.slice d⟩
  · rw [Nat.zero_add, h.row.cell (by omega), a]
  · rw [Nat.zero_add, h.row.cell (by omega), b]
  · rw [Nat.zero_add, h.row.cell (by omega), c]
theorem unE_row {w : World} {i : Nat} (hi : i < 3) : ((w.alloc (.cells #[.int .u8 0, .int .u8 0, .int .u8 0] 55)).setCell ⟨w.heap.size, i, none⟩ (.int .u8 1)).rowIs w.heap.size 55 3 (expsF (unE i).1 (unE i).2.1 (unE i).2.2) := by
  have h := World.rowIs_alloc w #[Value.int .u8 0, .int .u8 0, .int .u8 0] 55 (expsF 0 0 0) (fun i hi => by simp at hi; match i, hi with | 0, _ => rfl | 1, _ => rfl | 2, _ => rfl)
  refine (h.set i (.int .u8 1)).congr fun k hk => ?_
  match i, k, hi, hk with
  | 0, 0, _, _ => rfl
  | 0, 1, _, _ => rfl
  | 0, 2, _, _ => rfl
  | 1, 0, _, _ => rfl
  | 1, 1, _, _ => rfl
  | 1, 2, _, _ => rfl
  | 2, 0, _, _ => rfl
  | 2, 1, _, _ => rfl
  | 2, 2, _, _ => rfl
end Go.Proofs.YtbhgbifliihlbaaGreat
namespace Go.Proofs.YtbhgbifliihlbaaGreat
open Go.RowKit Go.Sort Go.Maps EchM

/-- What an action has captured. -/
structure ActW (w : World) (B : Nat) (p : Int) (n : Nat) (g : Nat → Nat → Int) : Prop where
  ex : ∃ v, w.cell? ⟨B, 0, none⟩ = some v ∧ SlP w v (formsP p n g)
  lt : B < w.heap.size
theorem ActW.below {w w' : World} {B : Nat} {p : Int} {n : Nat} {g : Nat → Nat → Int} (h : ActW w B p n g) (hb : Below w.heap.size w w') : ActW w' B p n g := by
  obtain ⟨⟨v, h1, h2⟩, h3⟩ := h
  exact ⟨⟨v, (hb.cell (p := ⟨B, 0, none⟩) h3).trans h1, h2.below hb⟩, Nat.lt_of_lt_of_le h3 hb.size⟩
/-- An action of the call's own. -/
structure ActO (w : World) (base B : Nat) (p : Int) (n : Nat) (g : Nat → Nat → Int) : Prop where
  ex : ∃ gb b' F, w.cell? ⟨B, 0, none⟩ = some (.slice (some ⟨gb, 0, none⟩) n n) ∧ FormsW w b' gb n p g n F ∧ base ≤ gb ∧ base ≤ b'
  lt : B < w.heap.size
  ge : base ≤ B
theorem ActO.act {w : World} {base B : Nat} {p : Int} {n : Nat} {g : Nat → Nat → Int} (h : ActO w base B p n g) : ActW w B p n g := by
  obtain ⟨gb, b', F, h1, h2, _, _⟩ := h.ex
  exact ⟨⟨_, h1, h2.done⟩, h.lt⟩
theorem ActO.below {w w' : World} {base B : Nat} {p : Int} {n : Nat} {g : Nat → Nat → Int} (h : ActO w base B p n g) (hb : Below w.heap.size w w') : ActO w' base B p n g := by
  obtain ⟨gb, b', F, h1, h2, h3, h4⟩ := h.ex
  exact ⟨⟨gb, b', F, (hb.cell (p := ⟨B, 0, none⟩) h.lt).trans h1, h2.later hb, h3, h4⟩, Nat.lt_of_lt_of_le h.lt hb.size, h.ge⟩
theorem ActO.low {w : World} {base base' B : Nat} {p : Int} {n : Nat} {g : Nat → Nat → Int} (h : ActO w base B p n g) (hb : base' ≤ base) : ActO w base' B p n g := by
  obtain ⟨gb, b', F, h1, h2, h3, h4⟩ := h.ex
  exact ⟨⟨gb, b', F, h1, h2, Nat.le_trans hb h3, Nat.le_trans hb h4⟩, h.lt, Nat.le_trans hb h.ge⟩
theorem ActO.kept {w w' : World} {base B b : Nat} {p : Int} {n : Nat} {g : Nat → Nat → Int} (h : ActO w base B p n g) (hg : w.grownBy w' (some b)) (hb : b < base) : ActO w' base B p n g := by
  obtain ⟨gb, b', F, h1, h2, h3, h4⟩ := h.ex
  have hge := h.ge
  refine ⟨⟨gb, b', F, hg.cell h1 (by simp; omega), ⟨rowG h2.row hg (by omega), fun i hi => ?_⟩, h3, h4⟩, Nat.lt_of_lt_of_le h.lt hg.size, hge⟩
  obtain ⟨u, a, b1, c, d⟩ := h2.at' i hi
  refine ⟨u, a, b1, c, d.kept hg ?_⟩
  cases hub : u.ownBlock with
  | none => exact .inl rfl
  | some k => exact .inr (fun e => by injection e with e; have := (d.lt k hub).1; omega)
/-- An action. -/
abbrev actV (B : Nat) : Value := .func (.func 72) #[] #[.pointer (some ⟨B, 0, none⟩)]
theorem gSame {w w' : World} {b : Nat} (h : w.grownBy w' (some b)) (o : Nat) (v : Value) : w.grownBy (w'.setCell ⟨b, o, none⟩ v) (some b) :=
  ⟨h.os, h.tape, h.output, by rw [World.size_setCell]; exact h.size, fun k hk hne => (Below.heap_setCell w' ⟨b, o, none⟩ v k (fun e => hne (by rw [e]))).trans (h.block k hk hne)⟩
theorem formK_part {p : Int} {g : Nat → Nat → Int} {n j : Nat} (hp : 0 < p) (hg : ∀ i, i < 3 → 0 ≤ g i j ∧ g i j < p) {D : DataW Unit} {S : List Tm} (h : Good D S) (hf : ∀ e, byte3 e → cf D e = formK g j n e) : IsP p S (formK g j n) :=
  h.isP hf (fun e _ => formK_bound hp hg n e) (fun e _ hc => by have := formK_deg hc; omega)

set_option maxRecDepth 8000 in
set_option maxHeartbeats 32000000 in
theorem iactO (p : Int) (n : Nat) (g : Nat → Nat → Int) (w : World) (hM : MatP p n g) :
    Calls Tryz.prog 44 #[.int .i64 p, .int .i64 (n : Int), (.agg #[.int .u8 (g 0 0), .int .u8 (g 0 1), .int .u8 (g 0 2), .int .u8 (g 1 0), .int .u8 (g 1 1), .int .u8 (g 1 2), .int .u8 (g 2 0), .int .u8 (g 2 1), .int .u8 (g 2 2)])] w fun e w' =>
      ∃ B, e = .returned (actV B) ∧ ActO w' w.heap.size B p n g ∧ Below w.heap.size w w' := by
  obtain ⟨i0, hi, hz0, hz1, hz2⟩ := info_parts infoPoly
  have hn1 := hM.n1
  have hn3 := hM.n3
  have hp2 : 2 ≤ p ∧ p ≤ 13 := prime_le hM.prime
  have hn1' : (1 : Int) ≤ (n : Int) := by omega
  have hmk : ∀ w, (Instr.makeSlice 51 (.int .i64 (n : Int)) (.int .i64 (n : Int))).run Tryz.prog w = .ok (.slice (some ⟨w.heap.size, 0, none⟩) n n) (w.alloc (.cells (madeP n) 39)) := fun w => by
    have h := run_make (P := Tryz.prog) w 51 39 i0 _ Tryz.underlying51 hi hz0 .i64 .i64 (n : Int) (n : Int) (by omega) (by omega) (by rw [hz2]; omega) (by omega)
    rw [hz1] at h
    simpa [madeP] using h
  clear hi hz0 hz1 hz2
  obtain ⟨W, hW, hbW, rg⟩ : ∃ W, W = w.alloc (.cells #[.int .u8 (g 0 0), .int .u8 (g 0 1), .int .u8 (g 0 2), .int .u8 (g 1 0), .int .u8 (g 1 1), .int .u8 (g 1 2), .int .u8 (g 2 0), .int .u8 (g 2 1), .int .u8 (g 2 2)] 76) ∧ Below w.heap.size w W ∧ W.rowIs w.heap.size 76 9 (mF g) := ⟨_, rfl, ebox1 _ _, mbox w g _⟩
  have hmkW := hmk W
  obtain ⟨X, hX, hbX, hXs, rX⟩ : ∃ X, X = W.alloc (.cells (madeP n) 39) ∧ Below W.heap.size W X ∧ X.heap.size = W.heap.size + 1 ∧ X.rowIs W.heap.size 39 (n * 3) (fun i => (madeP n).getD i undef) := ⟨_, rfl, box1 _ _, by simp, madeP_row W n _⟩
  rw [← hX] at hmkW
  obtain ⟨Y, hY, hbY, hYs, cY⟩ : ∃ Y, Y = X.alloc (.cells #[.slice (some ⟨W.heap.size, 0, none⟩) n n] 51) ∧ Below X.heap.size X Y ∧ Y.heap.size = X.heap.size + 1 ∧ Y.cell? ⟨X.heap.size, 0, none⟩ = some (.slice (some ⟨W.heap.size, 0, none⟩) n n) := ⟨_, rfl, box1 _ _, by simp, (World.rowIs_alloc X #[Value.slice (some ⟨W.heap.size, 0, none⟩) n n] 51 (fun _ => .slice (some ⟨W.heap.size, 0, none⟩) n n) (fun i hi => by simp at hi; subst hi; rfl)).cell (i := 0) (by simp)⟩
  have hbWY := hbX.trans (hbY.mono hbX.size)
  have hbwY := hbW.trans (hbWY.mono hbW.size)
  have hf0 : FormsW Y Y.heap.size W.heap.size n p g 0 (fun i => (madeP n).getD i undef) := ⟨rowIs_below rX hbY rX.lt, fun i hi => by omega⟩
  have rgY := rowIs_below rg hbWY rg.lt
  have hWw : w.heap.size < W.heap.size := rg.lt
  go_enter Tryz.func44, Tryz.ntmps44
  go_upto_region 1 with fail
  rw [← hW]
  clear hW
  go_upto_region 2 with fail
  try rw [← hX]
  rw [← hY]
  clear hY hX hmkW
  have HMK := Lib.hid hM
  rw [hXs] at cY
  have hY2 : W.heap.size + 2 ≤ Y.heap.size := by omega
  clear hmk hbX hbY hbWY rX rg hM hbW hYs hXs
  go_wp2_with fail
  go_loopw [15] (fun jv wr => ∃ (j : Nat) (F : Nat → Value), j ≤ n ∧ jv = .int .i64 j ∧ FormsW wr Y.heap.size W.heap.size n p g j F ∧ Y.grownBy wr (some W.heap.size)) (fun jv _ => n - (intOf jv).toNat)
  case atStart => exact ⟨0, _, by omega, rfl, hf0, World.grownBy.refl _ _⟩
  case round =>
    clear hf0
    obtain ⟨j, F, hj, rfl, hF, hgr⟩ := hrel
    obtain ⟨wo, rfl⟩ : ∃ wo : World, wo = wr := ⟨_, rfl⟩
    by_cases hlj : j < n
    · have hlj' : (j : Int) < (n : Int) := by omega
      have hj3 : j < 3 := by omega
      have hj3' : (j : Int) < 3 := by omega
      have HG := Lib.hid (fun (i : Nat) (hi : i < 3) => HMK.out.num i hi j hj3)
      have HFL := Lib.hid (HMK.out.form hlj)
      have hmm := @run_makeMap Tryz.prog
      have hm := World.ownsMap_made (H := Unit) wo Tryz.prog 55 (plainElem Tryz.prog 2)
      obtain ⟨V, hV1, hbV, hVs1⟩ : ∃ V, V = wo.alloc (.map #[] 0) ∧ Below wo.heap.size wo V ∧ wo.heap.size + 1 ≤ V.heap.size := ⟨_, rfl, box1 _ _, by simp⟩
      rw [← hV1] at hm
      go_wp2_with fail
      rw [← hV1]
      clear hV1 hmm
      have rgo := rowG rgY hgr (by omega)
      go_loopw [20] (fun iv wr => ∃ (i n2 : Nat) (E : DataW Unit), i ≤ n ∧ iv = .int .i64 i ∧ n2 ≤ i ∧ Hid (∀ e, byte3 e → cf E e = formK g j i e) ∧ MapE wr wo.heap.size n2 E ∧ Below wo.heap.size wo wr) (fun iv _ => n - (intOf iv).toNat)
      case atStart => exact ⟨0, 0, _, by omega, rfl, by omega, Lib.hid (fun e _ => by rw [cf_empty, formK_zero]), hm, hbV⟩
      case round =>
        clear hm hbV
        obtain ⟨i, n2, E, hi, rfl, hn2, HE, hME, hbr⟩ := hrel
        by_cases hli : i < n
        · have hli' : (i : Int) < (n : Int) := by omega
          have hi3 : i < 3 := by omega
          have hi3' : (i : Int) < 3 := by omega
          obtain ⟨g0, g1⟩ := HG.out i hi3
          have ra := World.rowIs_alloc wr #[Value.int .u8 0, .int .u8 0, .int .u8 0] 55 (expsF 0 0 0) (fun i hi => by simp at hi; match i, hi with | 0, _ => rfl | 1, _ => rfl | 2, _ => rfl)
          obtain ⟨A2, hA2⟩ : ∃ A2, A2 = wr.alloc (.cells #[.int .u8 0, .int .u8 0, .int .u8 0] 55) := ⟨_, rfl⟩
          obtain ⟨V2, hV2, hbV2, ru⟩ : ∃ V2, V2 = A2.setCell ⟨wr.heap.size, i, none⟩ (.int .u8 1) ∧ Below wr.heap.size wr V2 ∧ V2.rowIs wr.heap.size 55 3 (expsF (unE i).1 (unE i).2.1 (unE i).2.2) := ⟨_, rfl, by rw [hA2]; exact (box1 wr _).setCell (by simp) _, by rw [hA2]; exact unE_row hi3⟩
          replace ra : A2.rowIs wr.heap.size 55 3 (expsF 0 0 0) := by rw [hA2]; exact ra
          have z0 := nthX_cell ra hi3
          have z1 := ra.frozen i
          have rg2 := rowIs_below (rowIs_below rgo hbr rgo.lt) hbV2 (Nat.lt_of_lt_of_le rgo.lt hbr.size)
          have hmu := unE_mono hi3
          obtain ⟨ux, hux⟩ : ∃ ux, (unE i).1 = ux := ⟨_, rfl⟩
          obtain ⟨uy, huy⟩ : ∃ uy, (unE i).2.1 = uy := ⟨_, rfl⟩
          obtain ⟨uz, huz⟩ : ∃ uz, (unE i).2.2 = uz := ⟨_, rfl⟩
          have hun : unE i = (ux, uy, uz) := by rw [← hux, ← huy, ← huz]
          have HD2 : Hid (∀ e, byte3 e → cf (E.put (kE (ux, uy, uz)) (.lit (.int .i64 (g i j)))) e = formK g j (i + 1) e) := Lib.hid (fun e he => by
            rw [cf_put hME.isMap (by rw [← hun]; exact hmu.1) he, formK_step g j i hi3, hun, HE.out e he])
          rw [hux, huy, huz] at ru
          have hkey : keyOf Tryz.prog 55 (.agg #[.int .u8 ux, .int .u8 uy, .int .u8 uz]) = some (kE (ux, uy, uz)) := keyOf_vE (ux, uy, uz) (by rw [← hun]; exact hmu.1)
          have hMm : MapE V2.drew wo.heap.size n2 E := (hME.later hbV2).later (Below.same _).drew
          have u0 : V2.drew.cell? ⟨wr.heap.size, 0, none⟩ = some (.int .u8 ux) := ru.cell (i := 0) (by omega)
          have u1 : V2.drew.cell? ⟨wr.heap.size, 1, none⟩ = some (.int .u8 uy) := ru.cell (i := 1) (by omega)
          have u2 : V2.drew.cell? ⟨wr.heap.size, 2, none⟩ = some (.int .u8 uz) := ru.cell (i := 2) (by omega)
          have c0 : V2.drew.cell? ⟨w.heap.size, i * 3 + j, none⟩ = some (.int .u8 (g i j)) := mcell rg2 hi3 hj3
          have hbr2 := (hbr.trans (hbV2.mono hbr.size)).drew
          have hml : n2 < maxLen := by unfold maxLen; omega
          have hwg : IntKind.i64.wrap (g i j) = g i j := IntWalk.i64_in _ (by omega)
          clear hun hux huy huz hmu ru rg2 hME hbV2 HE
          go_upto_region 10 with fail
          rw [← hA2]
          clear hA2
          go_upto_region 11 with fail
          rw [← hV2]
          clear hV2 z0 z1 ra
          refine region_tail 8 (by kernel_rfl) (by kernel_rfl) ?_
          simp only [List.take_succ_cons, List.take_zero, List.drop_succ_cons, List.drop_zero]
          repeat still_step
          refine wpStill_nil ?_
          try simp only [hwg]
          go_wp2_with (at_mapUpdate; refine wpList_mapUpdate_own _ rfl _ _ _ 103 rfl 55 2 lawK Tryz.underlying103 (plainElem Tryz.prog 2) wo.heap.size n2 E rfl hMm hml (.agg #[.int .u8 ux, .int .u8 uy, .int .u8 uz]) _ _ rfl rfl hkey _ [] (plainElem_int Tryz.underlying2 (wf64 g0 (by omega))) ?_; intro w2 hown2 hgrow2)
          have hb4 : Below wo.heap.size wo w2 := hbr2.grown hgrow2 hbr2.size (fun g e => by simp at e; omega)
          go_roundw
          case rel => exact ⟨i + 1, _, _, by omega, by go_num, by omega, HD2, hown2, hb4⟩
          case measure => simp [intOf]; omega
        · obtain rfl : i = n := by omega
          have hgo := (hgr.trans (gBelow hbr))
          have hFr := hF.later hbr
          have cYr : wr.cell? ⟨W.heap.size + 1, 0, none⟩ = some (.slice (some ⟨W.heap.size, 0, none⟩) i i) := (hgo.cell_far ⟨W.heap.size + 1, 0, none⟩ (by show W.heap.size + 1 < Y.heap.size; omega) (by first | (simp; done) | (simp; omega))).trans cY
          have HPO := Lib.hid (fun w (hME : MapE w wo.heap.size n2 E) => polyOf_any sort_says p (i : Int) wo.heap.size n2 E w hME (by omega) (fun e he hc => by
            rw [HE.out e he] at hc
            have := formK_deg hc
            omega))
          have HGD := Lib.hid (fun (S : List Tm) (h : Good E S) => show S = formL g j from (formK_part (by omega) HG.out h HE.out).unique HFL.out)
          have hMd : MapE wr.drew wo.heap.size n2 E := hME.later (Below.same _).drew
          have hXw : (W.heap.size + 1) < wr.heap.size := by have := hgo.size; omega
          have KK := Lib.hid (fun w' (h : Below wr.heap.size wr w') => show (w'.cell? ⟨W.heap.size + 1, 0, none⟩ = some (.slice (some ⟨W.heap.size, 0, none⟩) i i)) from (h.cell (p := ⟨W.heap.size + 1, 0, none⟩) hXw).trans cYr)
          have hXW : (W.heap.size + 1) ≠ W.heap.size := by omega
          have KS := Lib.hid (fun w' (h : Below wr.heap.size wr w') (u0 u1 u2 : Value) => show ((((w'.setCell ⟨W.heap.size, j * 3, none⟩ u0).setCell ⟨W.heap.size, j * 3 + 1, none⟩ u1).setCell ⟨W.heap.size, j * 3 + 2, none⟩ u2).cell? ⟨W.heap.size + 1, 0, none⟩ = some (.slice (some ⟨W.heap.size, 0, none⟩) i i)) from by
            have q : (((w'.setCell ⟨W.heap.size, j * 3, none⟩ u0).setCell ⟨W.heap.size, j * 3 + 1, none⟩ u1).setCell ⟨W.heap.size, j * 3 + 2, none⟩ u2).cell? ⟨W.heap.size + 1, 0, none⟩ = w'.cell? ⟨W.heap.size + 1, 0, none⟩ := by
              unfold World.cell?
              rw [Below.heap_setCell _ ⟨W.heap.size, j * 3 + 2, none⟩ u2 (W.heap.size + 1) hXW, Below.heap_setCell _ ⟨W.heap.size, j * 3 + 1, none⟩ u1 (W.heap.size + 1) hXW, Below.heap_setCell _ ⟨W.heap.size, j * 3, none⟩ u0 (W.heap.size + 1) hXW]
            exact q.trans (KK.out w' h))
          have hYo : Y.heap.size ≤ wr.heap.size := hgo.size
          clear HE hME hbr
          go_upto_region 13 with fail
          clear cYr
          go_region_held3 (fun w' => (w'.cell? ⟨W.heap.size + 1, 0, none⟩ = some (.slice (some ⟨W.heap.size, 0, none⟩) i i)))
            (first | with_reducible exact KS.out _ HB13 _ _ _ | with_reducible exact KK.out _ (Below.same _).drew | with_reducible exact KK.out _ HB13)
            ((go_at_call 71; (with_reducible refine (HPO.out _ hMd).mono ?_); rintro e w13 ⟨v13, S13, rfl, ho13, hg13, hb13⟩; have HB13 : Below wr.heap.size wr w13 := (Below.same _).drew.trans hb13; (obtain rfl := HGD.out S13 hg13); (obtain ⟨sa13, sc13, rfl⟩ := owns_slice ho13); have hF13 := hFr.later HB13; (obtain ⟨f130, f131, f132⟩ : w13.frozen? ⟨W.heap.size, j * 3, none⟩ = false ∧ w13.frozen? ⟨W.heap.size, j * 3 + 1, none⟩ = false ∧ w13.frozen? ⟨W.heap.size, j * 3 + 2, none⟩ = false := ⟨hF13.row.frozen _, hF13.row.frozen _, hF13.row.frozen _⟩); (have e130 := hF13.row.cell (i := j * 3) (by omega)); (have e131 := hF13.row.cell (i := j * 3 + 1) (by omega)); (have e132 := hF13.row.cell (i := j * 3 + 2) (by omega))))
          all_goals
            have hFN := hF13.put ho13 hYo
            have hGN := gSame (gSame (gSame (hgo.trans (gBelow HB13)) (j * 3) (.int .i64 p)) (j * 3 + 1) (.int .i64 (i : Int))) (j * 3 + 2) (.slice sa13 (formL g j).length sc13)
            clear hF13 ho13 hFr hF KK KS f130 f131 f132 e130 e131 e132
            go_wp2_with fail
            go_roundw
            case rel => exact ⟨j + 1, _, by omega, by go_num, hFN, hGN⟩
            case measure => simp [intOf]; omega
    · obtain rfl : j = n := by omega
      have cYo : wo.cell? ⟨W.heap.size + 1, 0, none⟩ = some (.slice (some ⟨W.heap.size, 0, none⟩) j j) := (hgr.cell_far ⟨W.heap.size + 1, 0, none⟩ (by show W.heap.size + 1 < Y.heap.size; omega) (by first | (simp; done) | (simp; omega))).trans cY
      have hlt : W.heap.size + 1 < wo.heap.size := by have := hgr.size; omega
      have hend : Below w.heap.size w wo := hbwY.grown hgr hbwY.size (fun g e => by simp at e; omega)
      have HA : Hid (ActO wo w.heap.size (W.heap.size + 1) p j g) := Lib.hid ⟨⟨_, _, _, cYo, hF, by omega, by omega⟩, hlt, by omega⟩
      clear hF
      go_wp2_with fail
      go_ret
      exact ⟨_, rfl, HA.out, hend⟩
theorem iact (p : Int) (n : Nat) (g : Nat → Nat → Int) (w : World) (hM : MatP p n g) :
    Calls Tryz.prog 44 #[.int .i64 p, .int .i64 (n : Int), (.agg #[.int .u8 (g 0 0), .int .u8 (g 0 1), .int .u8 (g 0 2), .int .u8 (g 1 0), .int .u8 (g 1 1), .int .u8 (g 1 2), .int .u8 (g 2 0), .int .u8 (g 2 1), .int .u8 (g 2 2)])] w fun e w' =>
      ∃ B, e = .returned (actV B) ∧ ActW w' B p n g ∧ Below w.heap.size w w' ∧ w.heap.size ≤ B :=
  (iactO p n g w hM).mono fun _ _ ⟨B, h1, h2, h3⟩ => ⟨B, h1, h2.act, h3, h2.ge⟩
end Go.Proofs.YtbhgbifliihlbaaGreat
