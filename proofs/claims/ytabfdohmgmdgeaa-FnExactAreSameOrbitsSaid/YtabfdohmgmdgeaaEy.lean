/-
  WALKS of the model: inverses of matrices. Conditions: as each theorem states.
  WALKS of the model: whether something is a matrix. Conditions: the numbers are bytes.
-/
import Derived.Test.YtabfdohmgmdgeaaEf
import Derived.Test.YtabfdohmgmdgeaaEn
import Derived.Deep.DeepCutAuto
import Derived.Test.YtabfdohmgmdgeaaEx
namespace Go.Proofs.Ytabfdohmgmdgeaa
open Go.RowKit Go.Sort EchM

theorem rowF_set {m : Nat} {F : Nat → Int} {j : Nat} (a : Int) : (rowF m F).set j a = rowF m fun q => if q = j then a else F q := by
  refine List.ext_getElem (by simp [rowF]) fun k h1 h2 => ?_
  simp only [rowF, List.getElem_set, List.getElem_map, List.getElem_range]
  by_cases e : j = k
  · subst e; simp
  · rw [if_neg e, if_neg (by omega)]
theorem rowF_congr {m : Nat} {F G : Nat → Int} (h : ∀ j, j < m → F j = G j) : rowF m F = rowF m G := by
  unfold rowF
  exact List.map_congr_left fun j hj => h j (by simpa using hj)
theorem vals_rowF {m : Nat} {F : Nat → Int} {j : Nat} (hj : j < m) : (valsI (rowF m F))[j]? = some (.int .i64 (F j)) := by
  rw [List.getElem?_eq_getElem (by simpa [valsI, rowF] using hj)]
  simp [valsI, rowF]
/-- A list of zeroes that the call has made. -/
theorem made_own (w : World) (base N : Nat) (hb : base ≤ w.heap.size) (hN : N ≤ 1000) {t : TypeId} (ht : t = 2) : OwnL (w.alloc (.cells (madeCells #[.int .i64 0] N) t)) base (.slice (some ⟨w.heap.size, 0, none⟩) N N) (rowF N fun _ => 0) := by
  subst ht
  have := World.ownsRow_lit (base := base) (e := 2) (size := 1) w (madeCells #[Value.int .i64 0] N) N hb (by unfold maxLen; omega) (by simp [madeCells])
  unfold OwnL
  rw [len_rowF]
  have e : (madeCells #[Value.int .i64 0] N).toList = valsI (rowF N fun _ => 0) := by
    rw [toList_madeCells_one]
    refine List.ext_getElem (by simp [valsI, rowF]) fun k h1 h2 => ?_
    simp [valsI, rowF]
  rwa [e] at this
/-- What the program reads behind the unit. -/
def behind (n : Nat) (R : List (List Int)) (i j : Nat) : Int := nth (R.getD i []) (n + j)
/-- The numbers that are copied, up to a place. -/
def upto (n : Nat) (R : List (List Int)) (i j : Nat) (i' j' : Nat) : Int := if (i' < i ∧ j' < n) ∨ (i' = i ∧ j' < j) then behind n R i' j' else 0

set_option maxRecDepth 8000 in
set_option maxHeartbeats 8000000 in
theorem sinv_any (p : Int) (n : Nat) (g : Nat → Nat → Int) (w : World) (hp : PrimeS p) (h1 : 1 ≤ n) (h3 : n ≤ 3) (hg : ∀ i, i < 3 → ∀ j, j < 3 → 0 ≤ g i j ∧ g i j < p) :
    Calls Try.prog 38 #[.int .i64 p, .int .i64 (n : Int), mv g] w fun e w' =>
      (∃ r b, e = .returned (.tuple #[mv r, .bool b]) ∧ (b = true ↔ okR n (echL p (gRows n g))) ∧ (b = true → r = cutM n (behind n (echL p (gRows n g))))) ∧ Below w.heap.size w w' := by
  obtain ⟨h2, h13⟩ := hp.le
  obtain ⟨i0, hi, hz0, hz1, hz2⟩ := info_parts einfoI
  obtain ⟨i1, hi', hz0', hz1', hz2'⟩ := info_parts einfoR
  obtain ⟨W, hW, rW, rR, hbW⟩ : ∃ W, W = (w.alloc (.cells #[.int .u8 (g 0 0), .int .u8 (g 0 1), .int .u8 (g 0 2), .int .u8 (g 1 0), .int .u8 (g 1 1), .int .u8 (g 1 2), .int .u8 (g 2 0), .int .u8 (g 2 1), .int .u8 (g 2 2)] 56)).alloc (.cells #[.int .u8 0, .int .u8 0, .int .u8 0, .int .u8 0, .int .u8 0, .int .u8 0, .int .u8 0, .int .u8 0, .int .u8 0] 56) ∧
      W.rowIs w.heap.size 56 9 (mF g) ∧ W.rowIs (w.heap.size + 1) 56 9 (mF fun _ _ => 0) ∧ Below w.heap.size w W := by
    refine ⟨_, rfl, (mbox w g _).alloc _, ?_, ebox2 _ _ _⟩
    have := mbox (w.alloc (.cells #[.int .u8 (g 0 0), .int .u8 (g 0 1), .int .u8 (g 0 2), .int .u8 (g 1 0), .int .u8 (g 1 1), .int .u8 (g 1 2), .int .u8 (g 2 0), .int .u8 (g 2 1), .int .u8 (g 2 2)] 56)) (fun _ _ => 0) 56
    simpa using this
  have hwr : IntKind.i64.wrap (2 * (n : Int)) = 2 * n := IntWalk.i64_in _ (by omega)
  have hmk : ∀ w, (Instr.makeSlice 25 (.int .i64 (2 * (n : Int))) (.int .i64 (2 * (n : Int)))).run Try.prog w = .ok (.slice (some ⟨w.heap.size, 0, none⟩) (2 * n) (2 * n)) (w.alloc (.cells (madeCells #[.int .i64 0] (2 * n)) 2)) := fun w => by
    have h := run_make (P := Try.prog) w 25 2 i0 _ Try.underlying25 hi hz0 .i64 .i64 (2 * (n : Int)) (2 * (n : Int)) (by omega) (by omega) (by rw [hz2]; omega) (by omega)
    rw [hz1, show (2 * (n : Int)).toNat = 2 * n by omega] at h
    simpa [Value.cells] using h
  have HMK := Lib.hid hmk
  have HG := Lib.hid hg
  clear hmk hg hi hz0 hz1 hz2
  have hWs : W.heap.size = w.heap.size + 2 := by rw [hW]; simp
  have hnil : ∀ t, t = 25 → OwnR (W.alloc (.cells #[] t)) W.heap.size (.slice (some ⟨w.heap.size + 2, 0, none⟩) 0 0) [] := fun t ht => by rw [← hWs]; exact OwnR.nil (Nat.le_refl _) ht
  have hWs1 : w.heap.size + 2 ≤ W.heap.size := by omega
  have HWS := Lib.hid hWs
  clear hWs
  have HNIL := Lib.hid hnil
  clear hnil
  unfold mv
  go_enter Try.func38, Try.ntmps38
  go_wp2_with fail
  rw [← hW]
  clear hW
  go_loopw [8, 9] (fun s i wr => ∃ (k : Nat) (G : List (List Int)) (sa : Option Addr) (sc : Nat), k ≤ n ∧ s = .slice sa G.length sc ∧ i = .int .i64 k ∧ Hid (G = (List.range k).map (gRow n g)) ∧ G.length ≤ k ∧ OwnR wr W.heap.size (.slice sa G.length sc) G ∧ Below W.heap.size W wr) (fun _ i _ => n - (intOf i).toNat)
  case atStart => exact ⟨0, [], _, _, by omega, rfl, rfl, Lib.hid rfl, by simp, HNIL.out _ rfl, ebox1 _ _⟩
  case round =>
    obtain ⟨k, G, sa, sc, hk, rfl, rfl, HU, hGl, hG, hb⟩ := hrel
    by_cases hlt : k < n
    · have hlt' : (k : Int) < (n : Int) := by omega
      obtain ⟨wo, rfl⟩ : ∃ wo : World, wo = wr := ⟨_, rfl⟩
      have hmk := HMK.out wo
      have hm0 := made_own wo wo.heap.size (2 * n) (Nat.le_refl _) (by omega) (t := 2) rfl
      have hm1 := ebox1 wo (.cells (madeCells #[.int .i64 0] (2 * n)) 2)
      have hs := hb.size
      go_wp2_with fail
      generalize wo.alloc _ = V at hm0 hm1 ⊢
      clear hmk
      go_loopw [11] (fun i wr => ∃ (j : Nat), j ≤ n ∧ i = .int .i64 j ∧ OwnL wr wo.heap.size (.slice (some ⟨wo.heap.size, 0, none⟩) (2 * n) (2 * n)) (rowF (2 * n) fun q => if q < j then g k q else 0) ∧ Below wo.heap.size wo wr) (fun i _ => n - (intOf i).toNat)
      case atStart => exact ⟨0, by omega, rfl, by simpa using hm0, hm1⟩
      case round =>
        obtain ⟨j, hj, rfl, hO, hB⟩ := hrel
        clear hm0 hm1
        by_cases hjt : j < n
        · have hjt' : (j : Int) < (n : Int) := by omega
          have hj6 : (j : Int) < ((2 * n : Nat) : Int) := by omega
          have l0 := mcell (erow_below rW (hb.trans (hB.mono hs)) rW.lt) (i := k) (j := j) (by omega) (by omega)
          have k0 := World.ownsRow.cellAt (n := 2 * n) (xs := valsI (rowF (2 * n) fun q => if q < j then g k q else 0)) (by simpa [OwnL, len_rowF] using hO) j (by omega)
          rw [vals_rowF (by omega), if_neg (by omega)] at k0
          have z0 := World.ownsRow.frozenAt (n := 2 * n) (xs := valsI (rowF (2 * n) fun q => if q < j then g k q else 0)) (by simpa [OwnL, len_rowF] using hO) j
          obtain ⟨x0, x1⟩ := HG.out k (by omega) j (by omega)
          have hst := hO.set j (g k j)
          rw [rowF_set] at hst
          have e : (rowF (2 * n) fun q => if q = j then g k j else if q < j then g k q else 0) = rowF (2 * n) fun q => if q < j + 1 then g k q else 0 := rowF_congr fun q hq => by
            by_cases e : q = j
            · subst e; rw [if_pos rfl, if_pos (by omega)]
            · rw [if_neg e]
              by_cases h : q < j
              · rw [if_pos h, if_pos (by omega)]
              · rw [if_neg h, if_neg (by omega)]
          rw [e] at hst
          clear e hO
          generalize g k j = X at l0 x0 x1 hst
          go_wp2_with fail
          go_roundw
          case rel => exact ⟨j + 1, by omega, by go_num, hst, hB.setCell (Nat.le_refl _) _⟩
          case measure => simp [intOf]; omega
        · obtain rfl : j = n := by omega
          have hk6 : (j : Int) + (k : Int) < ((2 * j : Nat) : Int) := by omega
          have htn : ((j : Int) + (k : Int)).toNat = j + k := by omega
          have k0 := World.ownsRow.cellAt (n := 2 * j) (xs := valsI (rowF (2 * j) fun q => if q < j then g k q else 0)) (by simpa [OwnL, len_rowF] using hO) (j + k) (by omega)
          rw [vals_rowF (by omega), if_neg (by omega)] at k0
          have z0 := World.ownsRow.frozenAt (n := 2 * j) (xs := valsI (rowF (2 * j) fun q => if q < j then g k q else 0)) (by simpa [OwnL, len_rowF] using hO) (j + k)
          have hst := hO.set (j + k) 1
          rw [rowF_set] at hst
          have e : (rowF (2 * j) fun q => if q = j + k then 1 else if q < j then g k q else 0) = gRow j g k := rowF_congr fun q hq => by
            by_cases e : q = j + k
            · subst e; rw [if_pos rfl, if_neg (by omega), if_pos (by omega)]
            · rw [if_neg e]
              by_cases h : q < j
              · rw [if_pos h, if_pos h]
              · rw [if_neg h, if_neg h, if_neg (by omega)]
          rw [e] at hst
          clear e hO
          have hB1 : Below wo.heap.size wo (wr.setCell ⟨wo.heap.size, j + k, none⟩ (.int .i64 1)) := hB.setCell (Nat.le_refl _) _
          go_upto_region 11 with fail
          generalize wr.setCell _ _ = w5 at hst hB1 ⊢
          clear hB
          have hG5 := hG.below hB1
          obtain ⟨us0, x1, x2, x3⟩ := hG5
          have hs5 := hB1.size
          go_wp2_with (at_builtin; refine wpList_append_lies _ rfl _ _ 61 rfl W.heap.size 25 i1 _ 1 24 Try.underlying61 hi' hz0' hz1' hz2' rfl (by decide) (.slice sa G.length sc) G.length us0 rfl (World.ownsRow.alloc x2 _) ⟨w5.heap.size, 0, none⟩ 1 1 [.slice (some ⟨wo.heap.size, 0, none⟩) (2 * j) (2 * j)] rfl rfl (World.news_of_block (cs := #[.slice (some ⟨wo.heap.size, 0, none⟩) (2 * j) (2 * j)]) (t := 25) (fr := (0, 0)) (heap_alloc_new w5 _)) (by simp [Value.oneCell']) (by omega) (by unfold maxLen; omega) (by omega) (by simp; omega) _ rfl ?_)
          intro g4 cap4 w6 hown6 hgrow6 hat6 hlt6
          have hB6 : Below W.heap.size W w6 := ((hb.trans (hB1.mono hs)).alloc (by omega) _).grown hgrow6 (by simp; omega) (fun q hq => (World.ownsRow.lt x2 q hq).1)
          have hN6 : OwnR w6 W.heap.size (.slice (some ⟨g4, 0, none⟩) (G.length + 1) cap4) (G ++ [gRow j g k]) := OwnR.push x1 (World.ownsRow.alloc x2 _) (fun k hk hk' => (x3 k hk hk').below (ebox1 w5 _)) ((hst.mono hs).below (ebox1 w5 _)) hown6 hgrow6
          clear x1 x2 x3 hown6 hgrow6 hat6 hst
          go_wp2_with fail
          go_roundw
          case rel => exact ⟨k + 1, G ++ [gRow j g k], some ⟨g4, 0, none⟩, cap4, by omega, by simp, by go_num, Lib.hid (by rw [HU.out, List.range_succ]; simp), by simp; omega, by simpa using hN6, hB6⟩
          case measure => simp [intOf]; omega
    · obtain rfl : k = n := by omega
      obtain ⟨w3, rfl⟩ : ∃ w3 : World, w3 = wr := ⟨_, rfl⟩
      have hIn : ∀ r ∈ G, InP p (2 * k) r := fun r hr => by
        rw [HU.out] at hr
        obtain ⟨i, hi, rfl⟩ := List.mem_map.1 hr
        exact gRow_inP h2 (fun a ha b hb => HG.out a (by omega) b (by omega)) (by simpa using hi)
      have hred := (echL_spec hp (m := 2 * k) G hIn).1
      have HR := Lib.hid (show echL p G = echL p (gRows k g) by rw [HU.out]; rfl)
      have hGs := hG.slice
      have hs := hb.size
      go_wp2_with fail
      ((with_reducible refine (eech p _ G (2 * k) _ hp (by omega) (by omega) hIn hGs).mono ?_); rintro e w4 ⟨v4, rfl, hR4, hb4⟩)
      have hRl := ech_len p G
      obtain ⟨R, hRR⟩ : ∃ R, echL p G = R := ⟨_, rfl⟩
      rw [hRR] at hR4 hred HR hRl
      clear hRR hIn hGs hG
      obtain ⟨s4, c4, rfl⟩ := hR4.shape
      have hbw := hb.trans (hb4.mono hs)
      obtain ⟨Z, hZ, rZ, hbZ⟩ : ∃ Z, Z = w4.alloc (.cells #[.int .u8 0, .int .u8 0, .int .u8 0, .int .u8 0, .int .u8 0, .int .u8 0, .int .u8 0, .int .u8 0, .int .u8 0] 56) ∧ Z.rowIs w4.heap.size 56 9 (mF fun _ _ => 0) ∧ Below w4.heap.size w4 Z := ⟨_, rfl, mbox w4 (fun _ _ => 0) _, ebox1 _ _⟩
      have hbz := hbw.trans (hbZ.mono hbw.size)
      have rR5 := erow_below rR hbz rR.lt
      have hb5 := hbW.trans (hbz.mono hbW.size)
      have hRZ := hR4.below hbZ
      go_upto_region 13 with fail
      rw [← hZ]
      clear hZ
      by_cases hlen : R.length = k
      · have hne : ((R.length : Int) != (k : Int)) = false := by simp; omega
        have hRk : k ≤ R.length := by omega
        have hRk2 : R.length ≤ k := by omega
        have HLEN := Lib.hid hlen
        clear hlen
        go_wp2_with fail
        clear hne
        go_loopw [14] (fun i wr => ∃ (t : Nat), t ≤ k ∧ i = .int .i64 t ∧ Hid (∀ a, (h : a < R.length) → a < t → leadN R[a] = a) ∧ wr.rowIs w4.heap.size 56 9 (mF (upto k R t 0)) ∧ Below w4.heap.size w4 wr) (fun i _ => k - (intOf i).toNat)
        case atStart => exact ⟨0, by omega, rfl, Lib.hid (fun a _ h => by omega), mF_congr rZ (fun i _ j _ => by unfold upto; rw [if_neg (by omega)]), hbZ⟩
        case round =>
          obtain ⟨t, ht, rfl, HV, hro, hB⟩ := hrel
          have hs4 := hB.size
          have rR6 := erow_below rR (hbw.trans (hB.mono hbw.size)) rR.lt
          have hb6 := hbW.trans ((hbw.trans (hB.mono hbw.size)).mono hbW.size)
          by_cases hlt2 : t < k
          · have hlt2' : (t : Int) < (k : Int) := by omega
            have htR : (t : Int) < (R.length : Int) := by omega
            obtain ⟨g4, c5, hv4, _, hlt4, hc4⟩ := hR4.cells (by omega)
            simp only [Value.slice.injEq] at hv4
            obtain ⟨rfl, _, rfl⟩ := hv4
            obtain ⟨u4, e1, e2⟩ := hc4 t (by omega)
            have hin := hred.inP R[t] (List.getElem_mem _)
            have hlq := hred.lt R[t] (List.getElem_mem _)
            have hbeh : ∀ j, behind k R t j = nth R[t] (k + j) := fun j => by simp [behind, List.getD, show t < R.length by omega]
            have HLV := Lib.hid (show leadN R[t] = t → ∀ a, (h : a < R.length) → a < t + 1 → leadN R[a] = a from fun h a ha hat => by
              by_cases e : a = t
              · subst e; exact h
              · exact HV.out a ha (by omega))
            have HLN := Lib.hid (show leadN R[t] ≠ t → ¬ okR k (echL p (gRows k g)) from fun h ho => by
              rw [← HR.out] at ho
              exact h (ho.2 t (by omega)))
            generalize hq0 : R[t] = q at e2 hin hlq hbeh HLV HLN
            clear hq0 hc4
            have hqs : q.length ≤ 2 * k := by rw [hin.1]; omega
            have hqs2 : 2 * k ≤ q.length := by rw [hin.1]; omega
            obtain ⟨gq, cq, rfl, _, hltq, hcq⟩ := e2.form (by omega)
            have m0 := (hB.cell (p := ⟨g4, t, none⟩) hlt4).trans e1
            have hqsl := (e2.below hB).slice
            obtain ⟨lq, hlqe⟩ : ∃ lq, leadN q = lq := ⟨_, rfl⟩
            rw [hlqe] at HLV HLN hlq
            have HLQ := Lib.hid hlqe
            clear hlqe
            by_cases hld : lq = t
            · have hld2 : ((lq : Int) != (t : Int)) = false := by simp [hld]
              have HV2 := Lib.hid (HLV.out hld)
              clear HLV HLN hld
              go_wp2_with fail
              ((with_reducible refine (elead_at _ q lq _ (by omega) hqsl HLQ.out (by omega)).mono ?_); rintro e w8 ⟨rfl, rfl⟩)
              obtain ⟨w9, rfl⟩ : ∃ w9 : World, w9 = w8 := ⟨_, rfl⟩
              go_wp2_with fail
              clear hld2
              go_loopw [15] (fun i wr => ∃ (j : Nat), j ≤ k ∧ i = .int .i64 j ∧ wr.rowIs w4.heap.size 56 9 (mF (upto k R t j)) ∧ Below w4.heap.size w4 wr) (fun i _ => k - (intOf i).toNat)
              case atStart => exact ⟨0, by omega, rfl, hro, hB⟩
              case round =>
                obtain ⟨j, hj, rfl, hro5, hB5⟩ := hrel
                by_cases hjt : j < k
                · have hjt' : (j : Int) < (k : Int) := by omega
                  have hkj : (k : Int) + (j : Int) < (q.length : Int) := by omega
                  have htn : ((k : Int) + (j : Int)).toNat = k + j := by omega
                  have hws : IntKind.i64.wrap ((k : Int) + (j : Int)) = k + j := IntWalk.i64_in _ (by omega)
                  have m1 := (hB5.cell (p := ⟨g4, t, none⟩) hlt4).trans e1
                  have m2 := (hB5.cell (p := ⟨gq, k + j, none⟩) hltq).trans (hcq (k + j) (by omega))
                  rw [← nth_lt (by omega), ← hbeh] at m2
                  have hX := hin.nth (by omega) (k + j)
                  rw [← hbeh] at hX
                  obtain ⟨x0, x1⟩ := hX
                  have hm := mset (i := t) (j := j) hro5 (by omega) (behind k R t j)
                  have hm2 := mF_congr (h := upto k R t (j + 1)) hm (fun a ha b hb => by
                    unfold upd upto
                    by_cases e : a = t ∧ b = j
                    · obtain ⟨rfl, rfl⟩ := e
                      rw [if_pos ⟨rfl, rfl⟩, if_pos (by omega)]
                    · rw [if_neg e]
                      by_cases e2 : (a < t ∧ b < k) ∨ (a = t ∧ b < j)
                      · rw [if_pos e2, if_pos (by omega)]
                      · rw [if_neg e2, if_neg (by omega)])
                  have y0 := mcell hro5 (i := t) (j := j) (by omega) (by omega)
                  have z0 := World.rowIs.frozen hro5 (t * 3 + j)
                  clear hm hro5
                  have HBH := Lib.hid hbeh
                  generalize behind k R t j = X at m2 x0 x1 hm2
                  have hw8 : IntKind.u8.wrap X = X := IntWalk.u8_in _ (by omega)
                  go_wp2_with fail
                  go_region
                  all_goals
                    go_wp2_with fail
                    go_roundw
                    case rel => exact ⟨j + 1, by omega, by go_num, hm2, (hB5.setCell (Nat.le_refl _) _).drew⟩
                    case measure => simp [intOf]; omega
                · obtain rfl : j = k := by omega
                  have hro6 := mF_congr (h := upto j R (t + 1) 0) hro5 (fun a ha b hb => by
                    unfold upto
                    by_cases e2 : (a < t ∧ b < j) ∨ (a = t ∧ b < j)
                    · rw [if_pos e2, if_pos (by omega)]
                    · rw [if_neg e2, if_neg (by omega)])
                  go_wp2_with fail
                  go_roundw
                  case rel => exact ⟨t + 1, by omega, by go_num, HV2, hro6, hB5⟩
                  case measure => simp [intOf]; omega
            · have hld2 : ((lq : Int) != (t : Int)) = true := by simp; omega
              have HNO := Lib.hid (HLN.out hld)
              clear HLV HLN hld
              go_wp2_with fail
              ((with_reducible refine (elead_at _ q lq _ (by omega) hqsl HLQ.out (by omega)).mono ?_); rintro e w8 ⟨rfl, rfl⟩)
              obtain ⟨rq, hrq⟩ : ∃ rq, rq = upto k R t 0 := ⟨_, rfl⟩
              have HRQ := Lib.hid hrq
              have hro2 : w8.rowIs w4.heap.size 56 9 (mF rq) := by rw [hrq]; exact hro
              clear hrq
              obtain ⟨⟨o0, o1, o2⟩, ⟨o3, o4, o5⟩, o6, o7, o8⟩ := mcells hro2
              obtain ⟨⟨y0, y1, y2⟩, ⟨y3, y4, y5⟩, y6, y7, y8⟩ := mcells rR6
              have zz0 := World.rowIs.frozen rR6 0
              have zz1 := World.rowIs.frozen rR6 1
              have zz2 := World.rowIs.frozen rR6 2
              have zz3 := World.rowIs.frozen rR6 3
              have zz4 := World.rowIs.frozen rR6 4
              have zz5 := World.rowIs.frozen rR6 5
              have zz6 := World.rowIs.frozen rR6 6
              have zz7 := World.rowIs.frozen rR6 7
              have zz8 := World.rowIs.frozen rR6 8
              obtain ⟨hf1, hf2⟩ := mfill (w := w) (B := w.heap.size) rR6 hb6 (by omega) rq
              obtain ⟨⟨v0, v1, v2⟩, ⟨v3, v4, v5⟩, v6, v7, v8⟩ := mcells hf1
              have V0 := Lib.hid v0
              have V1 := Lib.hid v1
              have V2 := Lib.hid v2
              have V3 := Lib.hid v3
              have V4 := Lib.hid v4
              have V5 := Lib.hid v5
              have V6 := Lib.hid v6
              have V7 := Lib.hid v7
              have V8 := Lib.hid v8
              have HF2 := Lib.hid hf2
              clear hf1 hf2 v0 v1 v2 v3 v4 v5 v6 v7 v8
              go_wp2_with fail
              exact bodyPost_ret (v := .tuple #[mv rq, .bool false]) (by simp [results, Try.results38, go_sem, mv, V0.out, V1.out, V2.out, V3.out, V4.out, V5.out, V6.out, V7.out, V8.out]) rfl ⟨⟨rq, false, rfl, ⟨(fun h => by cases h), fun h => absurd h HNO.out⟩, (fun h => by cases h)⟩, HF2.out⟩
          · obtain rfl : t = k := by omega
            have HOK := Lib.hid (show okR t (echL p (gRows t g)) by
              rw [← HR.out]
              exact ⟨HLEN.out, fun i hi => HV.out i hi (by omega)⟩)
            have hro7 := mF_congr (h := cutM t (behind t R)) hro (fun a ha b hb => by
              unfold upto cutM
              by_cases e2 : a < t ∧ b < t
              · rw [if_pos (.inl e2), if_pos e2]
              · rw [if_neg (by omega), if_neg e2])
            obtain ⟨rq, hrq⟩ : ∃ rq, rq = cutM t (behind t R) := ⟨_, rfl⟩
            have HRQ := Lib.hid hrq
            have hro2 : wr.rowIs w4.heap.size 56 9 (mF rq) := by rw [hrq]; exact hro7
            clear hrq
            obtain ⟨⟨o0, o1, o2⟩, ⟨o3, o4, o5⟩, o6, o7, o8⟩ := mcells hro2
            obtain ⟨⟨y0, y1, y2⟩, ⟨y3, y4, y5⟩, y6, y7, y8⟩ := mcells rR6
            have zz0 := World.rowIs.frozen rR6 0
            have zz1 := World.rowIs.frozen rR6 1
            have zz2 := World.rowIs.frozen rR6 2
            have zz3 := World.rowIs.frozen rR6 3
            have zz4 := World.rowIs.frozen rR6 4
            have zz5 := World.rowIs.frozen rR6 5
            have zz6 := World.rowIs.frozen rR6 6
            have zz7 := World.rowIs.frozen rR6 7
            have zz8 := World.rowIs.frozen rR6 8
            obtain ⟨hf1, hf2⟩ := mfill (w := w) (B := w.heap.size) rR6 hb6 (by omega) rq
            obtain ⟨⟨v0, v1, v2⟩, ⟨v3, v4, v5⟩, v6, v7, v8⟩ := mcells hf1
            have V0 := Lib.hid v0
            have V1 := Lib.hid v1
            have V2 := Lib.hid v2
            have V3 := Lib.hid v3
            have V4 := Lib.hid v4
            have V5 := Lib.hid v5
            have V6 := Lib.hid v6
            have V7 := Lib.hid v7
            have V8 := Lib.hid v8
            have HF2 := Lib.hid hf2
            clear hf1 hf2 v0 v1 v2 v3 v4 v5 v6 v7 v8
            go_wp2_with fail
            exact bodyPost_ret (v := .tuple #[mv rq, .bool true]) (by simp [results, Try.results38, go_sem, mv, V0.out, V1.out, V2.out, V3.out, V4.out, V5.out, V6.out, V7.out, V8.out]) rfl ⟨⟨rq, true, rfl, ⟨(fun _ => HOK.out), fun _ => rfl⟩, (fun _ => by rw [HRQ.out, HR.out])⟩, HF2.out⟩
      · have hne : ((R.length : Int) != (k : Int)) = true := by simp; omega
        have HNO := Lib.hid (show ¬ okR k (echL p (gRows k g)) from fun h => by rw [← HR.out] at h; exact hlen h.1)
        clear hlen
        obtain ⟨⟨o0, o1, o2⟩, ⟨o3, o4, o5⟩, o6, o7, o8⟩ := mcells rZ
        obtain ⟨⟨y0, y1, y2⟩, ⟨y3, y4, y5⟩, y6, y7, y8⟩ := mcells rR5
        have zz0 := World.rowIs.frozen rR5 0
        have zz1 := World.rowIs.frozen rR5 1
        have zz2 := World.rowIs.frozen rR5 2
        have zz3 := World.rowIs.frozen rR5 3
        have zz4 := World.rowIs.frozen rR5 4
        have zz5 := World.rowIs.frozen rR5 5
        have zz6 := World.rowIs.frozen rR5 6
        have zz7 := World.rowIs.frozen rR5 7
        have zz8 := World.rowIs.frozen rR5 8
        have hfin := mfill (w := w) (B := w.heap.size) rR5 hb5 (by omega) (fun _ _ => 0)
        obtain ⟨hf1, hf2⟩ := hfin
        obtain ⟨⟨v0, v1, v2⟩, ⟨v3, v4, v5⟩, v6, v7, v8⟩ := mcells hf1
        have V0 := Lib.hid v0
        have V1 := Lib.hid v1
        have V2 := Lib.hid v2
        have V3 := Lib.hid v3
        have V4 := Lib.hid v4
        have V5 := Lib.hid v5
        have V6 := Lib.hid v6
        have V7 := Lib.hid v7
        have V8 := Lib.hid v8
        have HF2 := Lib.hid hf2
        clear hf1 hf2 v0 v1 v2 v3 v4 v5 v6 v7 v8
        go_wp2_with fail
        exact bodyPost_ret (v := .tuple #[mv (fun _ _ => 0), .bool false]) (by simp [results, Try.results38, go_sem, mv, V0.out, V1.out, V2.out, V3.out, V4.out, V5.out, V6.out, V7.out, V8.out]) rfl ⟨⟨fun _ _ => 0, false, rfl, ⟨(fun h => by cases h), fun h => absurd h HNO.out⟩, (fun h => by cases h)⟩, HF2.out⟩
end Go.Proofs.Ytabfdohmgmdgeaa
namespace Go.Proofs.Ytabfdohmgmdgeaa
open Go.RowKit Go.Sort EchM

theorem eprime_is (p : Int) (w : World) (B : Bool) (h : pB p = B) : Calls Try.prog 21 #[.int .i64 p] w fun e w' => e = .returned (.bool B) ∧ w = w' := by rw [← h]; exact eprime p w
theorem ein_is (n a b : Int) (w : World) (B : Bool) (h : (decide (a ≤ n) && decide (n ≤ b)) = B) : Calls Try.prog 22 #[.int .i64 n, .int .i64 a, .int .i64 b] w fun e w' => e = .returned (.bool B) ∧ w = w' := by rw [← h]; exact ein n a b w
theorem sinv_agg (p : Int) (n : Nat) (g : Nat → Nat → Int) (w : World) (hp : PrimeS p) (h1 : 1 ≤ n) (h3 : n ≤ 3) (hg : ∀ i, i < 3 → ∀ j, j < 3 → 0 ≤ g i j ∧ g i j < p) :
    Calls Try.prog 38 #[.int .i64 p, .int .i64 (n : Int), .agg #[.int .u8 (g 0 0), .int .u8 (g 0 1), .int .u8 (g 0 2), .int .u8 (g 1 0), .int .u8 (g 1 1), .int .u8 (g 1 2), .int .u8 (g 2 0), .int .u8 (g 2 1), .int .u8 (g 2 2)]] w fun e w' =>
      (∃ r b, e = .returned (.tuple #[.agg #[.int .u8 (r 0 0), .int .u8 (r 0 1), .int .u8 (r 0 2), .int .u8 (r 1 0), .int .u8 (r 1 1), .int .u8 (r 1 2), .int .u8 (r 2 0), .int .u8 (r 2 1), .int .u8 (r 2 2)], .bool b]) ∧ (b = true ↔ okR n (echL p (gRows n g))) ∧ (b = true → r = cutM n (behind n (echL p (gRows n g))))) ∧ Below w.heap.size w w' :=
  sinv_any p n g w hp h1 h3 hg

set_option maxRecDepth 8000 in
set_option maxHeartbeats 8000000 in
theorem smat_any (p n : Int) (g : Nat → Nat → Int) (w : World) (hg : Byt g) :
    Calls Try.prog 23 #[.int .i64 p, .int .i64 n, mv g] w fun e w' => e = .returned (.bool (isMat p n g)) ∧ Below w.heap.size w w' := by
  obtain ⟨W, hW, rW, hbW⟩ : ∃ W, W = w.alloc (.cells #[.int .u8 (g 0 0), .int .u8 (g 0 1), .int .u8 (g 0 2), .int .u8 (g 1 0), .int .u8 (g 1 1), .int .u8 (g 1 2), .int .u8 (g 2 0), .int .u8 (g 2 1), .int .u8 (g 2 2)] 56) ∧ W.rowIs w.heap.size 56 9 (mF g) ∧ Below w.heap.size w W := ⟨_, rfl, mbox w g _, ebox1 _ _⟩
  unfold mv
  have HG := Lib.hid hg
  clear hg
  cases hp : pB p
  · have HX := Lib.hid (show isMat p n g = false by simp [isMat, hp])
    have HP := Lib.hid hp
    clear hp
    go_enter Try.func23, Try.ntmps23
    go_wp2_with fail
    rw [← hW]
    clear hW
    ((with_reducible refine (eprime_is p _ false HP.out).mono ?_); rintro e w1 ⟨rfl, rfl⟩)
    go_wp2_with fail
    go_ret
    exact ⟨by rw [HX.out]; rfl, hbW⟩
  · have HP := Lib.hid hp
    cases hv : (decide (1 ≤ n) && decide (n ≤ 3))
    · have HX := Lib.hid (show isMat p n g = false by rw [isMat, hv]; simp)
      have HV := Lib.hid hv
      clear hp hv
      go_enter Try.func23, Try.ntmps23
      go_wp2_with fail
      rw [← hW]
      clear hW
      ((with_reducible refine (eprime_is p _ true HP.out).mono ?_); rintro e w1 ⟨rfl, rfl⟩)
      go_wp2_with fail
      ((with_reducible refine (ein_is n 1 3 _ false HV.out).mono ?_); rintro e w2 ⟨rfl, rfl⟩)
      go_wp2_with fail
      go_ret
      exact ⟨by rw [HX.out]; rfl, hbW⟩
    · have HV := Lib.hid hv
      obtain ⟨h2, h13⟩ := pB_le hp
      have hps := pB_set hp
      simp only [Bool.and_eq_true, decide_eq_true_eq] at hv
      obtain ⟨m, rfl⟩ := Int.eq_ofNat_of_zero_le (show 0 ≤ n by omega)
      have HY := Lib.hid (show isMat p m g = (hasB p m g && decide (detP p (fullM m g) ≠ 0)) by rw [isMat, hp, HV.out]; simp)
      have hm1 : 1 ≤ m := by omega
      have hm3 : m ≤ 3 := by omega
      clear hp hv
      go_enter Try.func23, Try.ntmps23
      go_wp2_with fail
      rw [← hW]
      clear hW
      ((with_reducible refine (eprime_is p _ true HP.out).mono ?_); rintro e w1 ⟨rfl, rfl⟩)
      go_wp2_with fail
      ((with_reducible refine (ein_is m 1 3 _ true HV.out).mono ?_); rintro e w2 ⟨rfl, rfl⟩)
      go_wp2_with fail
      go_loop [7] (fun i => ∃ (k : Nat), k ≤ 3 ∧ i = .int .i64 k ∧ Hid (∀ i, i < k → ∀ j, j < 3 → okC p m (g i j) i j = true)) (fun i => 3 - (intOf i).toNat)
      case atStart => exact ⟨0, by omega, rfl, Lib.hid (fun i hi => by omega)⟩
      case round =>
        obtain ⟨k, hk, rfl, HU⟩ := hrel
        by_cases hlt : k < 3
        · have hlt' : (k : Int) < 3 := by omega
          go_wp2_with fail
          go_loop [8] (fun i => ∃ (j : Nat), j ≤ 3 ∧ i = .int .i64 j ∧ Hid (∀ j', j' < j → okC p m (g k j') k j' = true)) (fun i => 3 - (intOf i).toNat)
          case atStart => exact ⟨0, by omega, rfl, Lib.hid (fun j hj => by omega)⟩
          case round =>
            obtain ⟨j, hj, rfl, HW⟩ := hrel
            by_cases hjt : j < 3
            · have hjt' : (j : Int) < 3 := by omega
              have c0 := mcell rW (i := k) (j := j) hlt hjt
              have hx := HG.out k hlt j hjt
              have HNo := Lib.hid (fun h => hasB_no (p := p) (n := m) (g := g) hlt hjt (okC_no h))
              have HYes : (g k j < p → ((k : Int) < (m : Int) ∧ (j : Int) < (m : Int)) ∨ g k j = 0 → Hid (∀ j', j' < j + 1 → okC p m (g k j') k j' = true)) := fun h1 h2 => Lib.hid (fun j' hj' => by
                by_cases e : j' = j
                · subst e; exact okC_yes h1 h2
                · exact HW.out j' (by omega))
              have HYY := Lib.hid HYes
              clear HYes
              generalize hX : g k j = X at c0 hx HNo HYY
              clear hX
              obtain ⟨x0, x1⟩ := hx
              by_cases h1 : p ≤ X
              · have HX := Lib.hid (show isMat p m g = false by rw [HY.out, HNo.out (.inl h1)]; rfl)
                clear HNo HYY
                go_wp2_with fail
                all_goals go_ret
                all_goals exact ⟨by rw [HX.out]; rfl, hbW⟩
              · by_cases hz : X = 0
                · have HN := HYY.out (by omega) (.inr hz)
                  subst hz
                  clear HNo HYY
                  by_cases h2' : (k : Int) < (m : Int)
                  · by_cases h3' : (j : Int) < (m : Int)
                    · go_wp2_with fail
                      go_round
                      case rel => exact ⟨j + 1, by omega, by go_num, HN⟩
                      case measure => simp [intOf]; omega
                    · go_wp2_with fail
                      go_round
                      case rel => exact ⟨j + 1, by omega, by go_num, HN⟩
                      case measure => simp [intOf]; omega
                  · go_wp2_with fail
                    go_round
                    case rel => exact ⟨j + 1, by omega, by go_num, HN⟩
                    case measure => simp [intOf]; omega
                · have hq : (X != 0) = true := by simp [hz]
                  by_cases h2' : (k : Int) < (m : Int)
                  · by_cases h3' : (j : Int) < (m : Int)
                    · have HN := HYY.out (by omega) (.inl ⟨h2', h3'⟩)
                      clear HNo HYY hz
                      go_wp2_with fail
                      go_round
                      case rel => exact ⟨j + 1, by omega, by go_num, HN⟩
                      case measure => simp [intOf]; omega
                    · have HX := Lib.hid (show isMat p m g = false by rw [HY.out, HNo.out (.inr ⟨.inr (by omega), hz⟩)]; rfl)
                      clear HNo HYY hz
                      go_wp2_with fail
                      go_ret
                      exact ⟨by rw [HX.out]; rfl, hbW⟩
                  · have HX := Lib.hid (show isMat p m g = false by rw [HY.out, HNo.out (.inr ⟨.inl (by omega), hz⟩)]; rfl)
                    clear HNo HYY hz
                    go_wp2_with fail
                    go_ret
                    exact ⟨by rw [HX.out]; rfl, hbW⟩
            · obtain rfl : j = 3 := by omega
              have HN : Hid (∀ i, i < k + 1 → ∀ j, j < 3 → okC p m (g i j) i j = true) := Lib.hid (fun i hi j hj => by
                by_cases e : i = k
                · subst e; exact HW.out j hj
                · exact HU.out i (by omega) j hj)
              go_wp2_with fail
              go_round
              case rel => exact ⟨k + 1, by omega, by go_num, HN⟩
              case measure => simp [intOf]; omega
        · obtain rfl : k = 3 := by omega
          have hh := hasB_yes HU.out
          have HB := Lib.hid (hasB_bound HG.out hh)
          have HO := Lib.hid (hasB_out hh)
          have HM := Lib.hid (ech_mat hps hm1 hm3 (g := g) (fun i hi j hj => HB.out i (by omega) j (by omega)) HO.out).1
          have HX := Lib.hid (show isMat p m g = decide (detP p (fullM m g) ≠ 0) by rw [HY.out, hh]; rfl)
          clear hh
          obtain ⟨⟨c0, c1, c2⟩, ⟨c3, c4, c5⟩, c6, c7, c8⟩ := mcells rW
          go_wp2_with fail
          ((with_reducible refine (sinv_agg p m g _ hps hm1 hm3 HB.out).mono ?_); rintro e w4 ⟨⟨r, b, rfl, hb, _⟩, hb4⟩)
          have HBB := Lib.hid (show isMat p m g = b by
            rw [HX.out, ← Bool.coe_iff_coe, hb]; simp only [decide_eq_true_eq]; exact HM.out.symm)
          have hb5 := hbW.trans (hb4.mono hbW.size)
          have hb6 := Lib.hid (fun o => hb5.alloc hb5.size o)
          clear hb c0 c1 c2 c3 c4 c5 c6 c7 c8
          go_wp2_with fail
          go_ret
          exact ⟨by rw [HBB.out]; rfl, hb6.out _⟩
end Go.Proofs.Ytabfdohmgmdgeaa
