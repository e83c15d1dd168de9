/-
  WALKS: 'impl.degreesOf', 'impl.checkBound', 'spec.l07Code', 'FreeNumber'. Conditions: as each theorem states.
  LISTS OF POLYNOMIALS in a law: marked. Conditions: as the theorem states.
  THE STATE OF A LAW of a function of a polynomial and a list of polynomials. Conditions: as each theorem states.
-/
import Derived.Test.YtbhgbifliihlbaaR15
import Derived.Test.YtbhgbifliihlbaaR11
import Derived.Test.YtbhgbifliihlbaaR07
namespace Go.Proofs.Ytbhgbifliihlbaa
open Go.RowKit Go.Sort Go.Maps EchM

theorem SlC.of {w : World} {a : Option Addr} {G : List Pm} (h : SlP w (.slice a G.length G.length) G) : SlC w (.slice a G.length G.length) G := ⟨a, G.length, rfl, Nat.le_refl _, h⟩
/-- The degrees of a list, as numbers. -/
def dgL (G : List Pm) : List Int := G.map fun g => degI g.2.2
theorem dgL_nth {G : List Pm} {k : Nat} (h : k < G.length) : nth (dgL G) k = degI G[k].2.2 := by rw [nth_lt (by simpa [dgL] using h)]; simp [dgL]
def dgF (G : List Pm) (k q : Nat) : Value := .int .i64 (if q < k then nth (dgL G) q else 0)

set_option maxRecDepth 8000 in
set_option maxHeartbeats 4000000 in
theorem idegs (lv : Value) (G : List Pm) (w : World) (hlG : G.length ≤ 1048576) (hok : ∀ g ∈ G, PmOk g) (hpm : ∀ g ∈ G, isPm g = true) (hG : SlP w lv G) :
    Calls Try.prog 80 #[lv] w fun e w' => ∃ v', e = .returned v' ∧ nOwnI w' w.heap.size v' (dgL G) ∧ Below w.heap.size w w' := by
  obtain ⟨i0, hi, hz0, hz1, hz2⟩ := info_parts einfoI
  obtain ⟨la, lc, rfl, hc⟩ := id hG
  have hmk : ∀ w, (Instr.makeSlice 37 (.int .i64 (G.length : Int)) (.int .i64 (G.length : Int))).run Try.prog w = .ok (.slice (some ⟨w.heap.size, 0, none⟩) G.length G.length) (w.alloc (.cells (nmadeI G.length) 2)) := fun w => by
    have h := run_make (P := Try.prog) w 37 2 i0 _ Try.underlying37 hi hz0 .i64 .i64 (G.length : Int) (G.length : Int) (by omega) (by omega) (by rw [hz2]; omega) (by omega)
    rw [hz1] at h
    simpa [nmadeI, Value.cells] using h
  have HOK := Lib.hid hok
  have HPM := Lib.hid hpm
  have hrow0 := (nmadeI_row w G.length 2).congr (g := dgF G 0) (fun q hq => by unfold dgF; rw [if_neg (by omega)])
  have hb0 := box1 w (.cells (nmadeI G.length) 2)
  clear hi hz0 hz1 hz2 hok hpm
  go_enter Try.func80, Try.ntmps80
  go_wp2_with fail
  clear hmk
  go_loopw [11] (fun i wr => ∃ k : Nat, k ≤ G.length ∧ i = .int .i64 k ∧ wr.rowIs w.heap.size 2 G.length (dgF G k) ∧ Below w.heap.size w wr) (fun i _ => G.length - (intOf i).toNat)
  case atStart => exact ⟨0, by omega, rfl, hrow0, hb0⟩
  case round =>
    clear hrow0 hb0
    obtain ⟨k, hk, rfl, hO, hbr⟩ := hrel
    by_cases hlt : k < G.length
    · have hlt' : (k : Int) < (G.length : Int) := by omega
      obtain ⟨b, off, rfl, hbb, hT⟩ : ∃ b off, la = some ⟨b, off, none⟩ ∧ b < w.heap.size ∧ PolysW w b off G := by
        rcases hc with rfl | h
        · simp at hlt
        · exact h
      obtain ⟨u, c0, c1, c2, hu⟩ := (hT.below hbr hbb) k hlt
      have hokk := HOK.out _ (List.getElem_mem hlt)
      have hpmk := HPM.out _ (List.getElem_mem hlt)
      have HN := Lib.hid (dgL_nth hlt)
      have rows := (hO.set k (.int .i64 (nth (dgL G) k))).congr (g := dgF G (k + 1)) (fun q hq => by
        unfold dgF
        by_cases e : q = k
        · subst e; simp
        · simp only [if_neg e]
          congr 1
          by_cases e2 : q < k
          · rw [if_pos e2, if_pos (by omega)]
          · rw [if_neg e2, if_neg (by omega)])
      have HD := Lib.hid (fun w' (h : SliceT w' _ _) => degree_any2 G[k].1 G[k].2.1 u G[k].2.2 w' hokk.2 h hokk.1 (polyB_sum hpmk))
      obtain ⟨ua, uc, rfl, _⟩ := id hu
      obtain ⟨V2, hV2, hbV2, ⟨hVs1, hVs2⟩, rq⟩ := newbox wr G[k].1 G[k].2.1 (.slice ua G[k].2.2.length uc)
      have hu2 := hu.below hbV2
      have hO2 := rowIs_below hO hbV2 hO.lt
      have hb2 := hbr.trans (hbV2.mono hbr.size)
      obtain ⟨⟨q0, q1, q2⟩, _⟩ := poly3 rq
      generalize G[k] = g at *
      clear hokk hpmk hu hT rows
      go_upto_region 5 with fail
      rw [← hV2]
      clear hV2 c0 c1 c2
      go_wp2_with fail
      ((with_reducible refine (HD.out _ hu2).mono ?_); rintro e w3 ⟨rfl, hb3⟩)
      have hO3 := rowIs_below hO2 hb3 hO2.lt
      have d0 := hO3.cell hlt
      have f0 := hO3.frozen k
      have rows := (hO3.set k (.int .i64 (degI g.2.2))).congr (g := dgF G (k + 1)) (fun q hq => by
        unfold dgF
        by_cases e : q = k
        · subst e; simp [HN.out]
        · simp only [if_neg e]
          congr 1
          by_cases e2 : q < k
          · rw [if_pos e2, if_pos (by omega)]
          · rw [if_neg e2, if_neg (by omega)])
      have hb4 := (hb2.trans (hb3.mono hb2.size)).setCell (p := ⟨w.heap.size, k, none⟩) (Nat.le_refl _) (.int .i64 (degI g.2.2))
      clear hO hO2 hO3 hb2 hb3 q0 q1 q2 rq hu2 HN
      generalize degI g.2.2 = dv at *
      go_wp2_with fail
      go_roundw
      case rel => exact ⟨k + 1, by omega, by go_num, rows, hb4⟩
      case measure => simp [intOf]; omega
    · obtain rfl : k = G.length := by omega
      have HL : Hid ((dgL G).length = G.length) := Lib.hid (by simp [dgL])
      have HR : Hid (nOwnI wr w.heap.size (.slice (some ⟨w.heap.size, 0, none⟩) G.length G.length) (dgL G)) := Lib.hid ⟨w.heap.size, dgF G G.length, by rw [HL.out], Nat.le_refl _, by rw [HL.out]; exact hO, fun j hj => by
        unfold dgF
        rw [if_pos (by rw [← HL.out]; exact hj), nth_lt hj]⟩
      clear hO
      go_wp2_with fail
      go_ret
      exact ⟨_, rfl, HR.out, hbr⟩

set_option maxHeartbeats 4000000 in
theorem icb (lv : Value) (G : List Pm) (n : Int) (w : World) (hlG : G.length ≤ 1048576) (hok : ∀ g ∈ G, PmOk g) (hG : SlP w lv G) :
    Calls Try.prog 77 #[lv, .int .i64 0, .int .i64 n] w fun e w' => e = .returned (.int .i64 (someC G n)) ∧ Below w.heap.size w w' := by
  have HI := Lib.hid (icl lv G w hlG hok hG)
  have HC : Hid (someC G n = if listC 1 G = 0 then (if 0 ≤ n ∧ n ≤ 12 then 0 else 2) else listC 1 G) := Lib.hid rfl
  obtain ⟨C, hC⟩ : ∃ C, listC 1 G = C := ⟨_, rfl⟩
  rw [hC] at HI HC
  obtain ⟨la, lc, rfl, _⟩ := id hG
  clear hok hG hC
  go_enter Try.func77, Try.ntmps77
  go_wp2_with fail
  ((with_reducible refine HI.out.mono ?_); rintro e w1 ⟨rfl, hb1⟩)
  by_cases hc : C = 0
  · subst hc
    by_cases h0 : n < 0
    · have HO : Hid (someC G n = 2) := Lib.hid (by
        have h2 : ¬ (0 ≤ n ∧ n ≤ 12) := by omega
        rw [HC.out]; simp [h2])
      go_wp2_with fail
      go_ret
      exact ⟨retI HO.out.symm, hb1⟩
    · by_cases h1 : 12 < n
      · have HO : Hid (someC G n = 2) := Lib.hid (by
        have h2 : ¬ (0 ≤ n ∧ n ≤ 12) := by omega
        rw [HC.out]; simp [h2])
        go_wp2_with fail
        go_ret
        exact ⟨retI HO.out.symm, hb1⟩
      · have HO : Hid (someC G n = 0) := Lib.hid (by
          have h2 : 0 ≤ n ∧ n ≤ 12 := by omega
          rw [HC.out]; simp [h2])
        go_wp2_with fail
        go_ret
        exact ⟨retI HO.out.symm, hb1⟩
  · have HO : Hid (someC G n = C) := Lib.hid (by rw [HC.out, if_neg hc])
    have hc' : (C != 0) = true := by simpa using hc
    clear hc
    go_wp2_with fail
    go_ret
    exact ⟨retI HO.out.symm, hb1⟩

set_option maxHeartbeats 4000000 in
theorem sc7 (lv : Value) (G : List Pm) (n : Int) (w : World) (hlG : G.length ≤ 1048576) (hok : ∀ g ∈ G, PmOk g) (hG : SlP w lv G) :
    Calls Try.prog 76 #[lv, .int .i64 n, .int .i64 0] w fun e w' => e = .returned (.int .i64 (someC G n)) ∧ Below w.heap.size w w' := by
  have h0 : someC G 0 = listC 1 G := by
    unfold someC
    split
    · rename_i h; rw [h]; rfl
    · rfl
  have HI := Lib.hid (ssome lv G 0 w hlG hok hG)
  rw [h0] at HI
  have HC : Hid (someC G n = if listC 1 G = 0 then (if 0 ≤ n ∧ n ≤ 12 then 0 else 2) else listC 1 G) := Lib.hid rfl
  obtain ⟨C, hC⟩ : ∃ C, listC 1 G = C := ⟨_, rfl⟩
  rw [hC] at HI HC
  obtain ⟨la, lc, rfl, _⟩ := id hG
  clear hok hG hC h0
  go_enter Try.func76, Try.ntmps76
  go_wp2_with fail
  ((with_reducible refine HI.out.mono ?_); rintro e w1 ⟨rfl, hb1⟩)
  by_cases hc : C = 0
  · subst hc
    go_wp2_with fail
    ((with_reducible refine (in_any n 0 12 w1).mono ?_); rintro e w2 ⟨rfl, rfl⟩)
    by_cases h : 0 ≤ n ∧ n ≤ 12
    · have HO : Hid (someC G n = 0) := Lib.hid (by rw [HC.out]; simp [h])
      have hd : (decide (0 ≤ n) && decide (n ≤ 12)) = true := by simp [h]
      rw [hd]
      clear h hd
      go_wp2_with fail
      go_ret
      exact ⟨retI HO.out.symm, hb1⟩
    · have HO : Hid (someC G n = 2) := Lib.hid (by rw [HC.out]; simp [h])
      have hd : (decide (0 ≤ n) && decide (n ≤ 12)) = false := by rw [Bool.and_eq_false_iff, decide_eq_false_iff_not, decide_eq_false_iff_not]; omega
      rw [hd]
      clear h hd
      go_wp2_with fail
      go_ret
      exact ⟨retI HO.out.symm, hb1⟩
  · have HO : Hid (someC G n = C) := Lib.hid (by rw [HC.out, if_neg hc])
    have hc' : (C == 0) = false := by simpa using hc
    clear hc
    go_wp2_with fail
    go_ret
    exact ⟨retI HO.out.symm, hb1⟩

/-- The number of products of a degree. -/
def freeV (G : List Pm) (n : Int) : Int := if someC G n = 0 then lenE (degsN G) n.toNat else 0
theorem someC_zero {G : List Pm} {n : Int} (hok : ∀ g ∈ G, PmOk g) (h : someC G n = 0) : (0 ≤ n ∧ n ≤ 12) ∧ listC 1 G = 0 ∧ G.length ≤ 8 ∧ (∀ g ∈ G, DegOk g) ∧ ∀ g ∈ G, isPm g = true := by
  unfold someC at h
  by_cases hl : listC 1 G = 0
  · rw [if_pos hl] at h
    by_cases hn : 0 ≤ n ∧ n ≤ 12
    · obtain ⟨_, h8, hG⟩ := listC_zero hok hl
      refine ⟨hn, hl, h8, fun g hg => ⟨hok g hg, (hG g hg).2.2.2, (deg_bound (hG g hg).2.2.1).2⟩, ?_⟩
      unfold listC at hl
      split at hl
      · rename_i h1; exact fun g hg => List.all_eq_true.1 h1 g hg
      · exact absurd hl (by decide)
    · rw [if_neg hn] at h
      exact absurd h (by decide)
  · rw [if_neg hl] at h
    exact absurd h hl

set_option maxRecDepth 8000 in
set_option maxHeartbeats 4000000 in
theorem sfree (lv : Value) (G : List Pm) (n : Int) (w : World) (hlG : G.length ≤ 1048576) (hok : ∀ g ∈ G, PmOk g) (hG : SlC w lv G) :
    Calls Try.prog 37 #[lv, .int .i64 n] w fun e w' => e = .returned (.tuple #[.int .i64 (freeV G n), .int .i64 (someC G n)]) ∧ Below w.heap.size w w' := by
  have HI := Lib.hid (sc7 lv G n w hlG hok hG.slP)
  have HV : Hid (freeV G n = if someC G n = 0 then lenE (degsN G) n.toNat else 0) := Lib.hid rfl
  by_cases h : someC G n = 0
  · obtain ⟨⟨h0, h12⟩, _, h8, hdeg, _⟩ := someC_zero hok h
    obtain ⟨N, rfl⟩ := Int.eq_ofNat_of_zero_le h0
    have HE := Lib.hid (fun w' h' => sexps G lv N w' h8 (by omega) hdeg h')
    have HO := Lib.hid h
    have hG2 := Lib.hid hG
    have HL : Hid (lenE (degsN G) N = ((expL (degsN G) N).length : Int)) := Lib.hid rfl
    rw [if_pos h, Int.toNat_natCast, HL.out] at HV
    rw [h] at HI
    obtain ⟨a, cap, rfl, _⟩ := hG
    clear h hok hdeg HL
    go_enter Try.func37, Try.ntmps37
    go_wp2_with fail
    ((with_reducible refine HI.out.mono ?_); rintro e w1 ⟨rfl, hb1⟩)
    go_wp2_with fail
    ((with_reducible refine (HE.out w1 (hG2.out.below hb1)).mono ?_); rintro e w2 ⟨v2, rfl, hO2, hb2⟩)
    have hend := hb1.trans (hb2.mono hb1.size)
    obtain ⟨oa, oc, rfl⟩ := hO2.shape
    clear hO2
    go_wp2_with fail
    go_ret2
    exact ⟨by rw [HV.out, HO.out]; rfl, hend⟩
  · rw [if_neg h] at HV
    obtain ⟨C, hC⟩ : ∃ C, someC G n = C := ⟨_, rfl⟩
    have HC := Lib.hid hC
    rw [hC] at HI h
    have hc' : (C != 0) = true := by simpa using h
    obtain ⟨a, cap, rfl, _⟩ := hG
    clear hC h hok
    go_enter Try.func37, Try.ntmps37
    go_wp2_with fail
    ((with_reducible refine HI.out.mono ?_); rintro e w1 ⟨rfl, hb1⟩)
    go_wp2_with fail
    go_ret2
    exact ⟨by rw [HV.out, HC.out]; rfl, hb1⟩

set_option maxRecDepth 8000 in
set_option maxHeartbeats 4000000 in
theorem ifree (lv : Value) (G : List Pm) (n : Int) (w : World) (hlG : G.length ≤ 1048576) (hok : ∀ g ∈ G, PmOk g) (hG : SlC w lv G) :
    Calls Try.prog 38 #[lv, .int .i64 n] w fun e w' => e = .returned (.tuple #[.int .i64 (freeV G n), .int .i64 (someC G n)]) ∧ Below w.heap.size w w' := by
  have HI := Lib.hid (icb lv G n w hlG hok hG.slP)
  have HV : Hid (freeV G n = if someC G n = 0 then lenE (degsN G) n.toNat else 0) := Lib.hid rfl
  by_cases h : someC G n = 0
  · obtain ⟨⟨h0, h12⟩, _, h8, hdeg, hpm⟩ := someC_zero hok h
    obtain ⟨N, rfl⟩ := Int.eq_ofNat_of_zero_le h0
    have HE := Lib.hid (fun w' h' => idegs lv G w' hlG hok hpm h')
    have hdl : DegL (dgL G) := ⟨by simpa [dgL] using h8, fun k hk => by
      have hk' : k < G.length := by simpa [dgL] using hk
      have := hdeg G[k] (List.getElem_mem hk')
      have e : (dgL G)[k] = degI G[k].2.2 := by simp [dgL]
      rw [e]
      exact ⟨this.2.1, by have := this.2.2; omega⟩⟩
    have HDL := Lib.hid hdl
    have HSL : Hid (serL (dgL G) N = lenE (degsN G) N) := Lib.hid (by
      rw [serL_lenE _ (fun x hx => by
        obtain ⟨g, hg, rfl⟩ := List.mem_map.1 hx
        exact (hdeg g hg).2.1)]
      congr 1
      simp [dgL, degsN])
    have HO := Lib.hid h
    have hG2 := Lib.hid hG.slP
    have hN : N ≤ 12 := by omega
    rw [if_pos h, Int.toNat_natCast] at HV
    rw [h] at HI
    obtain ⟨a, cap, rfl, _⟩ := hG
    clear h hok hdeg hdl hpm h0 h12
    go_enter Try.func38, Try.ntmps38
    go_wp2_with fail
    ((with_reducible refine HI.out.mono ?_); rintro e w1 ⟨rfl, hb1⟩)
    go_wp2_with fail
    ((with_reducible refine (HE.out w1 (hG2.out.below hb1)).mono ?_); rintro e w2 ⟨v2, rfl, hO2, hb2⟩)
    have hb12 := hb1.trans (hb2.mono hb1.size)
    have hs2 := hO2.slice
    obtain ⟨g2, f2, rfl, _⟩ := hO2
    go_wp2_with fail
    ((with_reducible refine (iserof _ (dgL G) (N + 1) w2 (by omega) HDL.out hs2).mono ?_); rintro e w3 ⟨v3, rfl, hS3, hb3⟩)
    have hb13 := hb12.trans (hb3.mono hb12.size)
    obtain ⟨gf, lb, rfl, _⟩ := id hS3
    clear hs2
    go_wp2_with fail
    ((with_reducible refine (iupto N _ (serL (dgL G)) w3 (by omega) hS3).mono ?_); rintro e w4 ⟨v4, rfl, hO4, hb4⟩)
    have hb14 := hb13.trans (hb4.mono hb13.size)
    obtain ⟨b4, c4, rfl, _, hR4⟩ := ownV_rowF hO4 (by simp)
    have hll : ((List.range (N + 1)).map (serL (dgL G))).length = N + 1 := by simp
    rw [hll] at hR4 ⊢
    have hc4 := hR4.cell (k := N) (by omega)
    rw [nth_map_range _ (by omega), HSL.out] at hc4
    have hNl : (N : Int) < (N : Int) + 1 := by omega
    obtain ⟨LV, hLV⟩ : ∃ LV, lenE (degsN G) N = LV := ⟨_, rfl⟩
    rw [hLV] at hc4 HV
    clear hO4 hR4 hll hLV HSL
    go_wp2_with fail
    go_ret2
    exact ⟨by rw [HV.out, HO.out]; rfl, hb14⟩
  · rw [if_neg h] at HV
    obtain ⟨C, hC⟩ : ∃ C, someC G n = C := ⟨_, rfl⟩
    have HC := Lib.hid hC
    rw [hC] at HI h
    have hc' : (C != 0) = true := by simpa using h
    obtain ⟨a, cap, rfl, _⟩ := hG
    clear hC h hok
    go_enter Try.func38, Try.ntmps38
    go_wp2_with fail
    ((with_reducible refine HI.out.mono ?_); rintro e w1 ⟨rfl, hb1⟩)
    go_wp2_with fail
    go_ret2
    exact ⟨by rw [HV.out, HC.out]; rfl, hb1⟩
end Go.Proofs.Ytbhgbifliihlbaa
namespace Go.Proofs.Ytbhgbifliihlbaa
open Go.RowKit Go.Sort

/-- Blocks from lo on and below hi may have changed, and new ones come; no other. -/
structure GrewI (lo hi : Nat) (w w' : World) : Prop where
  os : w'.os = w.os
  tape : w'.tape = w.tape
  output : w'.output = w.output
  size : w.heap.size ≤ w'.heap.size
  block : ∀ k, k < w.heap.size → (k < lo ∨ hi ≤ k) → w'.heap[k]? = w.heap[k]?
theorem GrewI.refl (lo hi : Nat) (w : World) : GrewI lo hi w w := ⟨rfl, rfl, rfl, Nat.le_refl _, fun _ _ _ => rfl⟩
theorem GrewI.step {lo hi : Nat} {w w' w'' : World} {b : Nat} (h : GrewI lo hi w w') (h1 : lo ≤ b) (h2 : b < hi) (hg : w'.grownBy w'' (some b)) : GrewI lo hi w w'' :=
  ⟨hg.os.trans h.os, hg.tape.trans h.tape, hg.output.trans h.output, Nat.le_trans h.size hg.size, fun k hk hn => (hg.block k (Nat.lt_of_lt_of_le hk h.size) (fun e => by
    simp at e; omega)).trans (h.block k hk hn)⟩
theorem GrewI.set {lo hi : Nat} {w w' : World} {b i : Nat} {x : Value} (h : GrewI lo hi w w') (h1 : lo ≤ b) (h2 : b < hi) : GrewI lo hi w (w'.setCell ⟨b, i, none⟩ x) :=
  ⟨h.os, h.tape, h.output, by rw [World.size_setCell]; exact h.size, fun k hk hn => (Below.heap_setCell w' ⟨b, i, none⟩ x k (by show k ≠ b; omega)).trans (h.block k hk hn)⟩
theorem GrewI.below {lo hi : Nat} {w w' : World} {base : Nat} (h : GrewI lo hi w w') (hb : base ≤ lo) (hw : base ≤ w.heap.size) : Below base w w' :=
  ⟨h.os, h.tape, h.output, h.size, fun k hk => h.block k (by omega) (.inl (by omega))⟩
/-- What of a list in the marking still stands, from k on. -/
structure MkP (w : World) (gb : Nat) (G : List Pm) (B : Nat → Nat) (k : Nat) (F : Nat → Value) : Prop where
  row : w.rowIs gb 40 (G.length * 3) F
  at' : ∀ (q : Nat) (h : q < G.length), k ≤ q → F (q * 3 + 2) = tv (B q) G[q].2.2 ∧ TermB w (B q) G[q].2.2
theorem MkP.next {w w' : World} {gb : Nat} {G : List Pm} {B : Nat → Nat} {k : Nat} {F : Nat → Value} (h : MkP w gb G B k F) (hk : k < G.length) (x y : Value) (hgb : ∀ q, q < G.length → gb < B q) (hasc : ∀ q r, q < r → r < G.length → B q < B r)
    (hg : ((w.setCell ⟨gb, k * 3, none⟩ x).setCell ⟨gb, k * 3 + 1, none⟩ y).grownBy w' (some (B k))) : ∃ F', MkP w' gb G B (k + 1) F' := by
  have hrow := (h.row.set (k * 3) x).set (k * 3 + 1) y
  refine ⟨_, hrow.of_block (hg.block gb hrow.lt (fun e => by have := hgb k hk; simp at e; omega)), fun q hq hkq => ?_⟩
  obtain ⟨a, b⟩ := h.at' q hq (by omega)
  have hgq := hgb q hq
  have hkk := hasc k q (by omega) hq
  refine ⟨?_, ?_⟩
  · simp only [if_neg (show ¬ q * 3 + 2 = k * 3 + 1 by omega), if_neg (show ¬ q * 3 + 2 = k * 3 by omega)]; exact a
  · have h2 : TermB ((w.setCell ⟨gb, k * 3, none⟩ x).setCell ⟨gb, k * 3 + 1, none⟩ y) (B q) G[q].2.2 := b.block (by
      rw [Below.heap_setCell _ ⟨gb, k * 3 + 1, none⟩ _ (B q) (by show B q ≠ gb; omega), Below.heap_setCell _ ⟨gb, k * 3, none⟩ _ (B q) (by show B q ≠ gb; omega)])
    exact h2.block (hg.block _ h2.lt (fun e => by simp at e; omega))

set_option maxRecDepth 8000 in
set_option maxHeartbeats 4000000 in
theorem markpolys (gb top : Nat) (G : List Pm) (F : Nat → Value) (B : Nat → Nat) (k0 : Int) (w : World) (hl : G.length ≤ 1048576) (hlr : ∀ g ∈ G, g.2.2.length ≤ 1048576) (ht : totP G ≤ 1048576) (h0 : 0 ≤ k0) (h1 : k0 ≤ 67108864)
    (hP : PolsW w gb G G.length F B) (htop : ∀ q, q < G.length → B q < top) (hgt : gb < top) :
    Calls Try.prog 21 #[.slice (some ⟨gb, 0, none⟩) G.length G.length, .int .i64 k0] w fun e w' => e = .returned (.int .i64 (k0 + 2 * G.length + 4 * totP G)) ∧ GrewI gb top w w' := by
  have HGB : Hid (∀ q, q < G.length → gb < B q) := Lib.hid (fun q hq => (hP.at' q hq hq).2.2.2.1)
  have HAS : Hid (∀ q r, q < r → r < G.length → B q < B r) := Lib.hid hP.asc
  have HTOP := Lib.hid htop
  have HM0 : Hid (MkP w gb G B 0 F) := Lib.hid ⟨hP.row, fun q hq _ => ⟨(hP.at' q hq hq).2.2.1, (hP.at' q hq hq).2.2.2.2⟩⟩
  clear hP htop
  go_enter Try.func21, Try.ntmps21
  go_wp2_with fail
  go_loopw [1, 5] (fun m i wr => ∃ k : Nat, k ≤ G.length ∧ i = .int .i64 k ∧ (∃ q : Int, m = .int .i64 q ∧ q = k0 + 2 * k + 4 * totP (G.take k)) ∧ (∃ F', MkP wr gb G B k F') ∧ GrewI gb top w wr) (fun _ i _ => G.length - (intOf i).toNat)
  case atStart => exact ⟨0, by omega, rfl, ⟨_, rfl, by simp [totP]⟩, ⟨_, HM0.out⟩, GrewI.refl _ _ _⟩
  case round =>
    clear HM0
    obtain ⟨k, hk, rfl, ⟨q, rfl, hq⟩, ⟨F', hM⟩, hG⟩ := hrel
    by_cases hlt : k < G.length
    · have hlt' : (k : Int) < (G.length : Int) := by omega
      have ht1 := totP_take hlt
      have ht2 := totP_le G (k + 1)
      have hq0 : 0 ≤ q := by omega
      have hq1 : q ≤ 900000000 := by omega
      have HQ : Hid (q + 1 + 1 + 4 * (G[k].2.2.length : Int) = k0 + 2 * ((k + 1 : Nat) : Int) + 4 * totP (G.take (k + 1))) := Lib.hid (by omega)
      clear ht1 ht2 hq
      obtain ⟨ct, hT⟩ := hM.at' k hlt (Nat.le_refl _)
      have f0 := hM.row.frozen (k * 3)
      have f1 := hM.row.frozen (k * 3 + 1)
      have d0 := hM.row.cell (i := k * 3) (by omega)
      have d1 := hM.row.cell (i := k * 3 + 1) (by omega)
      have d2 := hM.row.cell (i := k * 3 + 2) (by omega)
      rw [ct] at d2
      have hlk := hlr _ (List.getElem_mem hlt)
      have HGK := Lib.hid (HGB.out k hlt)
      have HTK := Lib.hid (HTOP.out k hlt)
      have HTT : ∀ x y, OwnG ((wr.setCell ⟨gb, k * 3, none⟩ x).setCell ⟨gb, k * 3 + 1, none⟩ y) 0 (tv (B k) G[k].2.2) G[k].2.2.length := fun x y => by
        have hgk := HGK.out
        obtain ⟨f, hr, _⟩ := hT.block (w' := (wr.setCell ⟨gb, k * 3, none⟩ x).setCell ⟨gb, k * 3 + 1, none⟩ y) (by
          rw [Below.heap_setCell _ ⟨gb, k * 3 + 1, none⟩ _ (B k) (by show B k ≠ gb; omega), Below.heap_setCell _ ⟨gb, k * 3, none⟩ _ (B k) (by show B k ≠ gb; omega)])
        exact .inr ⟨B k, _, _, f, rfl, Nat.zero_le _, Nat.le_refl _, hr⟩
      have HN := Lib.hid (fun w' x y hg => hM.next (w' := w') hlt x y HGB.out HAS.out hg)
      have HG2 := Lib.hid (fun w' x y (hg : ((wr.setCell ⟨gb, k * 3, none⟩ x).setCell ⟨gb, k * 3 + 1, none⟩ y).grownBy w' (some (B k))) => ((hG.set (i := k * 3) (x := x) (Nat.le_refl _) hgt).set (i := k * 3 + 1) (x := y) (Nat.le_refl _) hgt).step (Nat.le_of_lt HGK.out) HTK.out hg)
      clear hM hT hG ct
      go_wp2_with fail
      ((with_reducible refine (markS_own _ _ (HTT _ _) hlk (by omega) (by omega)).mono ?_); rintro e w2 ⟨rfl, _, hg⟩)
      have HF := Lib.hid (HN.out w2 _ _ hg)
      have HI := Lib.hid (HG2.out w2 _ _ hg)
      clear HN HG2 hg d0 d1 d2 f0 f1 HTT
      go_wp2_with fail
      go_roundw
      case rel => exact ⟨k + 1, by omega, by go_num, ⟨_, rfl, HQ.out⟩, HF.out, HI.out⟩
      case measure => simp [intOf]; omega
    · obtain rfl : k = G.length := by omega
      rw [List.take_length] at hq
      have HQ := Lib.hid hq
      clear hq
      go_wp2_with fail
      go_ret
      exact ⟨by rw [HQ.out]; rfl, hG⟩
end Go.Proofs.Ytbhgbifliihlbaa
namespace Go.Proofs.Ytbhgbifliihlbaa
open Go.RowKit Go.Sort

theorem OwnP.keepI {w w' : World} {lo hi base : Nat} {v : Value} {S : List Tm} (h : OwnP w base v S) (hg : GrewI lo hi w w') (hb : hi ≤ base) : OwnP w' base v S := by
  obtain ⟨h1, h2 | ⟨g, cap, cur, hv, hbg, hc, hrest⟩⟩ := h
  · exact ⟨h1, .inl h2⟩
  · have hlt : g < w.heap.size := by
      rcases Nat.lt_or_ge g w.heap.size with h | h
      · exact h
      · rw [Array.getElem?_eq_none h] at hc
        simp at hc
    exact ⟨h1, .inr ⟨g, cap, cur, hv, hbg, (hg.block g hlt (.inr (by omega))).trans hc, hrest⟩⟩
theorem rowI {w w' : World} {lo hi b t n : Nat} {f : Nat → Value} (h : w.rowIs b t n f) (hg : GrewI lo hi w w') (hb : b < lo ∨ hi ≤ b) : w'.rowIs b t n f := h.of_block (hg.block b h.lt hb)
theorem SliceB.keptI {w w' : World} {lo hi B : Nat} {v : Value} {ts : List Tm} (h : SliceB w B v ts) (hg : GrewI lo hi w w') (hB : B ≤ w.heap.size) (hl : B ≤ lo) : SliceB w' B v ts := by
  obtain ⟨a, cap, hv, h | ⟨b, off, ha, hlt, hT⟩⟩ := h
  · exact ⟨a, cap, hv, .inl h⟩
  · refine ⟨a, cap, hv, .inr ⟨b, off, ha, hlt, fun k hk => ?_⟩⟩
    have hb := hg.block b (Nat.lt_of_lt_of_le hlt hB) (.inl (by omega))
    obtain ⟨h0, h1, h2, h3⟩ := hT k hk
    exact ⟨(World.cell?_of_block (w := w) (a := ⟨b, _, none⟩) hb).trans h0, (World.cell?_of_block (w := w) (a := ⟨b, _, none⟩) hb).trans h1, (World.cell?_of_block (w := w) (a := ⟨b, _, none⟩) hb).trans h2, (World.cell?_of_block (w := w) (a := ⟨b, _, none⟩) hb).trans h3⟩
theorem LawSt.stepI {w wr w' : World} {A B0 B1 B2 N0 lo hi : Nat} {p d P D : Int} {va s0 v1 s2 : Value} {ts S : List Tm} (h : LawSt w wr A B0 B1 B2 N0 p d P D va s0 v1 s2 ts S) (hg : GrewI lo hi wr w') (hA : A < lo) (h0 : B0 < lo) (h1 : B1 < lo) (h2 : hi ≤ B2) (hN : N0 ≤ lo) :
    LawSt w w' A B0 B1 B2 N0 p d P D va s0 v1 s2 ts S := by
  obtain ⟨n1, n2⟩ := h.n0
  exact ⟨rowI h.ax hg (.inl hA), rowI h.b0 hg (.inl h0), rowI h.b1 hg (.inl h1), rowI h.b2 hg (.inr h2), h.sa.keptI hg h.below.size (by omega), h.sm.keptI hg n2 hN, h.below.trans (hg.below (by omega) h.below.size), n1, Nat.le_trans n2 hg.size⟩
theorem OwnPs.blocks {w : World} {base : Nat} {v : Value} {G : List Pm} (h : OwnPs w base v G) : ∃ gb F B, v = .slice (some ⟨gb, 0, none⟩) G.length G.length ∧ base ≤ gb ∧ PolsW w gb G G.length F B ∧ gb < w.heap.size ∧ ∀ q, q < G.length → B q < w.heap.size := by
  obtain ⟨gb, F, B, hv, hg, hW⟩ := h
  exact ⟨gb, F, B, hv, hg, hW, hW.row.lt, fun q hq => (hW.at' q hq hq).2.2.2.2.lt⟩
theorem PolsW.keepRow {w w' : World} {gb : Nat} {G : List Pm} {k : Nat} {F : Nat → Value} {B : Nat → Nat} {row : Option Nat} (h : PolsW w gb G k F B) (hg : w.grownBy w' row) (hr : ∀ g, row = some g → g < gb) : PolsW w' gb G k F B :=
  ⟨h.row.of_block (hg.block gb h.row.lt (fun e => by have := hr gb e.symm; omega)), fun q hq hk => by
    obtain ⟨a, b, c, d, e⟩ := h.at' q hq hk
    exact ⟨a, b, c, d, e.block (hg.block _ e.lt (fun x => by have := hr _ x.symm; omega))⟩, h.asc⟩
/-- The box of a law's polynomial. -/
theorem lbox1 (w : World) (p d : Int) (v : Value) : ∃ W, W = w.alloc (.cells #[.int .i64 p, .int .i64 d, v] 51) ∧ Below w.heap.size w W ∧ (W.heap.size ≤ w.heap.size + 1 ∧ w.heap.size + 1 ≤ W.heap.size) ∧
      W.rowIs w.heap.size 51 3 (polyF p d v) :=
  ⟨_, rfl, box1 _ _, ⟨by simp, by simp⟩, World.rowIs_alloc w #[Value.int .i64 p, .int .i64 d, v] _ _ (fun i hi => by simp at hi; match i, hi with | 0, _ => rfl | 1, _ => rfl | 2, _ => rfl)⟩
end Go.Proofs.Ytbhgbifliihlbaa
