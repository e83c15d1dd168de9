/-
  THE MARK OF AN ORBIT: 'impl.scene.orbitAt'. Conditions: as the theorem states.
-/
import Derived.Test.YtabfdohmgmdgeaaOsb
import Derived.Test.YtabfdohmgmdgeaaUd
namespace Go.Proofs.Ytabfdohmgmdgeaa
open Go.RowKit Go.Sort EchM

def sceF (p n : Int) (v : Value) (i : Nat) : Value := #[Value.int .i64 p, .int .i64 n, v, .slice none 0 0].getD i undef

set_option maxRecDepth 8000 in
set_option maxHeartbeats 1000000 in
theorem iorbAt (p : Int) (m : Nat) (v u : Value) (L : List (Nat → Nat → Int)) (pt : List Int) (w : World) (hl48 : L.length ≤ 48) (hl1 : 1 ≤ L.length) (m1 : 1 ≤ m) (m3 : m ≤ 3) (hS : SlM w v L) (hmv : ∀ x ∈ L, MatV p m x) (hpt : pt.length = m) (hpp : ∀ k, k < m → 0 ≤ nth pt k ∧ nth pt k < p) (hU : Sl w u pt) :
    Calls Try.prog 19 #[.agg #[.int .i64 p, .int .i64 (m : Int), v, .slice none 0 0], u] w fun e w' => e = .returned (mkV (leastF pt (imsL p m L pt))) ∧ Below w.heap.size w w' := by
  obtain ⟨W, hW, rW, hbW⟩ : ∃ W, W = w.alloc (.cells #[.int .i64 p, .int .i64 (m : Int), v, .slice none 0 0] 45) ∧ W.rowIs w.heap.size 45 4 (sceF p m v) ∧ Below w.heap.size w W := ⟨_, rfl, World.rowIs_alloc w #[.int .i64 p, .int .i64 (m : Int), v, .slice none 0 0] _ _ (fun i hi => by simp at hi; match i, hi with | 0, _ => rfl | 1, _ => rfl | 2, _ => rfl | 3, _ => rfl), ebox1 _ _⟩
  obtain ⟨V0, hV0, hbV0, r0⟩ : ∃ V, V = W.alloc (.cells #[.int .i64 0, .int .i64 0, .int .i64 0, .int .i64 0, .int .i64 0, .int .i64 0, .int .i64 0, .int .i64 0, .int .i64 0] 48) ∧ Below W.heap.size W V ∧ V.rowIs W.heap.size 48 9 (mkF 0 0 0 0) := ⟨_, rfl, ebox1 _ _, World.rowIs_alloc W #[.int .i64 0, .int .i64 0, .int .i64 0, .int .i64 0, .int .i64 0, .int .i64 0, .int .i64 0, .int .i64 0, .int .i64 0] _ _ (fun i hi => by simp at hi; match i, hi with | 0, _ => rfl | 1, _ => rfl | 2, _ => rfl | 3, _ => rfl | 4, _ => rfl | 5, _ => rfl | 6, _ => rfl | 7, _ => rfl | 8, _ => rfl)⟩
  have hszW := rW.lt
  have hWs : W.heap.size = w.heap.size + 1 := by rw [hW]; simp
  rw [hWs] at r0
  have hsz0 := r0.lt
  have rW0 := erow_below rW hbV0 rW.lt
  have hb0 : Below w.heap.size w V0 := hbW.trans (hbV0.mono hbW.size)
  have hS0 := hS.below hb0
  have hU0 := hU.below hb0
  obtain ⟨a, cap, rfl, hSc⟩ := id hS
  obtain ⟨b, off, rfl, hbb, hT⟩ : ∃ b off, a = some ⟨b, off, none⟩ ∧ b < w.heap.size ∧ MatsW w b off L := by
    rcases hSc with rfl | h
    · simp at hl1
    · exact h
  obtain ⟨ua, uc, rfl, _⟩ := id hU
  obtain ⟨F, hF⟩ : ∃ F, (fun x => leadL p m x pt) = F := ⟨_, rfl⟩
  have HFx := Lib.hid (fun x => (congrFun hF x).symm)
  have HLM : Hid (∀ x, (F x).length = m) := Lib.hid (fun x => by rw [← hF]; exact leadL_len _ _ _ _)
  have HFI : Hid (imsL p m L pt = L.map F) := Lib.hid (by unfold imsL; rw [hF])
  have HLL : Hid (∀ k, (leastF pt ((L.take k).map F)).length = m) := Lib.hid (fun k => (least_spec (n := m) _ pt hpt (fun y hy => by obtain ⟨x, _, rfl⟩ := List.mem_map.1 hy; exact HLM.out x)).2.1)
  have HMV := Lib.hid hmv
  have HPP := Lib.hid hpp
  have HPT := Lib.hid hpt
  obtain ⟨X0, hX0⟩ : ∃ X, leastF pt (imsL p m L pt) = X := ⟨_, rfl⟩
  have HX0 := Lib.hid hX0
  rw [hX0]
  have HST0 : Hid (Sl V0 (.slice ua pt.length uc) (leastF pt ((L.take 0).map F))) := Lib.hid hU0
  have c0 : V0.cell? ⟨w.heap.size, 0, none⟩ = some (.int .i64 p) := rW0.cell (i := 0) (by omega)
  have c2 : V0.cell? ⟨w.heap.size, 2, none⟩ = some (.slice (some ⟨b, off, none⟩) L.length cap) := rW0.cell (i := 2) (by omega)
  have HRW := Lib.hid rW0
  have HR0 := Lib.hid r0
  have HU0 := Lib.hid hU0
  have HHT := Lib.hid hT
  have HB0 := Lib.hid hb0
  clear hX0 hF hmv hpp hpt hS hSc hU hU0 hT hb0 rW0 r0 rW hbW hbV0 hS0
  go_enter Try.func19, Try.ntmps19
  go_upto_region 1 with fail
  rw [← hW, ← hV0]
  clear hW hV0
  go_wp2_with fail
  clear c0 c2
  go_loopw [5, 14] (fun s i wr => ∃ k : Nat, k ≤ L.length ∧ i = .int .i64 k ∧ Sl wr s (leastF pt ((L.take k).map F)) ∧ Below V0.heap.size V0 wr) (fun _ i _ => L.length - (intOf i).toNat)
  case atStart => exact ⟨0, by omega, rfl, HST0.out, Below.refl _ _⟩
  case round =>
    clear HST0
    obtain ⟨k, hk, rfl, hs, hb⟩ := hrel
    have hbs := hb.size
    by_cases hlt : k < L.length
    · have hlt' : (k : Int) < (L.length : Int) := by omega
      have hbw : Below w.heap.size w wr := HB0.out.trans (hb.mono HB0.out.size)
      obtain ⟨⟨a0, a1, a2⟩, ⟨a3, a4, a5⟩, a6, a7, a8⟩ := (HHT.out.below hbw hbb).nine hlt
      have hxv := HMV.out _ (List.getElem_mem hlt)
      have hTT := List.take_succ_eq_append_getElem hlt
      have hLS : leastF pt ((L.take (k + 1)).map F) = if cmpI (F L[k]) (leastF pt ((L.take k).map F)) < 0 then F L[k] else leastF pt ((L.take k).map F) := by
        rw [hTT, List.map_append]; exact leastF_snoc _ _ _
      clear hTT
      have hXl := HLL.out k
      obtain ⟨X, hX⟩ : ∃ X, leastF pt ((L.take k).map F) = X := ⟨_, rfl⟩
      rw [hX] at hs hLS hXl
      generalize L[k] = x at *
      obtain ⟨V, hV, rV, hbV⟩ : ∃ V, V = wr.alloc (.cells #[.int .u8 (x 0 0), .int .u8 (x 0 1), .int .u8 (x 0 2), .int .u8 (x 1 0), .int .u8 (x 1 1), .int .u8 (x 1 2), .int .u8 (x 2 0), .int .u8 (x 2 1), .int .u8 (x 2 2)] 56) ∧ V.rowIs wr.heap.size 56 9 (mF x) ∧ Below wr.heap.size wr V := ⟨_, rfl, mbox wr x _, ebox1 _ _⟩
      have hb1 : Below V0.heap.size V0 V := hb.trans (hbV.mono hb.size)
      have hUV := HU0.out.below hb1
      have HLEAD := Lib.hid (ilead p m x (.slice ua pt.length uc) pt V hxv HPT.out HPP.out hUV)
      have q0 : V.cell? ⟨w.heap.size, 0, none⟩ = some (.int .i64 p) := (erow_below HRW.out hb1 (by omega)).cell (i := 0) (by omega)
      obtain ⟨⟨m0, m1', m2⟩, ⟨m3', m4, m5⟩, m6, m7, m8⟩ := mcells rV
      have hsV := hs.below hbV
      obtain ⟨sa, scp, rfl, hsc⟩ := id hsV
      obtain ⟨sb, so, rfl, hsb, hsT⟩ : ∃ b off, sa = some ⟨b, off, none⟩ ∧ b < V.heap.size ∧ Cs V b off X := by
        rcases hsc with h | h
        · rw [h] at hXl; simp at hXl; omega
        · exact h
      have HFD := HFx.out x
      have HFL := HLM.out x
      have HSS := Lib.hid hsV
      have HST := Lib.hid hsT
      have HB1 := Lib.hid hb1
      have HLS := Lib.hid hLS
      have HXL := Lib.hid hXl
      rw [hXl]
      clear hsc hsT hsV hs hb hLS hX hxv rV hbV hUV hbw hbs hXl
      go_upto_region 5 with fail
      rw [← hV]
      clear hV a0 a1 a2 a3 a4 a5 a6 a7 a8
      go_wp2_with fail
      ((with_reducible refine HLEAD.out.mono ?_); rintro e w3 ⟨v3, rfl, hown3, hb3⟩)
      rw [← HFD] at hown3
      obtain ⟨y, hy⟩ : ∃ y, F x = y := ⟨_, rfl⟩
      rw [hy] at hown3 HLS HFL
      have hs3 := hown3.slice
      obtain ⟨g3, f3, hv3, hg3, hr3, hf3⟩ := id hown3
      rw [HFL] at hv3
      subst hv3
      have hy3 : Cs w3 g3 0 y := fun q hq => by rw [Nat.zero_add, hr3.cell (by omega), hf3 q hq]
      have hx3 := HST.out.below hb3 hsb
      have HCM := Lib.hid (icmpI g3 0 m sb so scp y X w3 (by omega) (by rw [HFL, HXL.out]) hy3 hx3)
      rw [HFL] at HCM
      have hss3 := HSS.out.below hb3
      rw [HXL.out] at hss3
      have hb13 := HB1.out.trans (hb3.mono HB1.out.size)
      have HFIN := Lib.hid (And.intro hs3 (And.intro hss3 hb13))
      obtain ⟨c, hc⟩ : ∃ c, cmpI y X = c := ⟨_, rfl⟩
      rw [hc] at HCM HLS
      clear hown3 hg3 hr3 hf3 hy3 hx3 hs3 hss3 hb13 hc hy HLEAD q0 m0 m1' m2 m3' m4 m5 m6 m7 m8 hb3 HSS HST
      by_cases hcn : c < 0
      · rw [if_pos hcn] at HLS
        go_wp2_with fail
        ((with_reducible refine HCM.out.mono ?_); rintro e w4 ⟨rfl, hw4⟩; subst hw4)
        go_wp2_with fail
        obtain ⟨z1, z2, z3⟩ := HFIN.out
        go_roundw
        case rel => exact ⟨k + 1, by omega, by go_num, by rw [HLS.out]; exact z1, z3⟩
        case measure => simp [intOf]; omega
      · rw [if_neg hcn] at HLS
        go_wp2_with fail
        ((with_reducible refine HCM.out.mono ?_); rintro e w4 ⟨rfl, hw4⟩; subst hw4)
        go_wp2_with fail
        obtain ⟨z1, z2, z3⟩ := HFIN.out
        go_roundw
        case rel => exact ⟨k + 1, by omega, by go_num, by rw [HLS.out]; exact z2, z3⟩
        case measure => simp [intOf]; omega
    · obtain rfl : k = L.length := by omega
      rw [List.take_length, ← HFI.out, HX0.out] at hs
      have hXl := HLL.out L.length
      rw [List.take_length, ← HFI.out, HX0.out] at hXl
      have hrr := erow_below HR0.out hb (by omega)
      have HB := Lib.hid (HB0.out.trans (hb.mono HB0.out.size))
      obtain ⟨X, hX⟩ : ∃ X, X0 = X := ⟨_, rfl⟩
      subst hX
      have HMK := Lib.hid (imark _ X0 wr (by omega) (by omega) hs)
      have HRR := Lib.hid hrr
      clear hrr hb hs
      go_wp2_with fail
      ((with_reducible refine HMK.out.mono ?_); rintro e w5 ⟨rfl, hb5⟩)
      have r5 := erow_below HRR.out hb5 (by omega)
      have hbw5 := HB.out.trans (hb5.mono HB.out.size)
      obtain ⟨⟨k0, k1, k2⟩, ⟨k3, k4, k5⟩, k6, k7, k8⟩ := mkCells r5
      have z := fun i => r5.frozen i
      obtain ⟨f1, f2⟩ := mkFill r5 hbw5 (by omega) (m : Int) (nth X0 0) (nth X0 1) (nth X0 2)
      obtain ⟨⟨e0, e1, e2⟩, ⟨e3, e4, e5⟩, e6, e7, e8⟩ := mkCells f1
      unfold mkV
      have HF2 := Lib.hid f2
      clear f1 f2 r5 hbw5 hb5 HMK
      go_wp2_with fail
      unfold mkV
      simp only [hXl]
      generalize nth X0 0 = x0 at *
      generalize nth X0 1 = x1 at *
      generalize nth X0 2 = x2 at *
      clear k0 k1 k2 k3 k4 k5 k6 k7 k8 z
      have hres : Try.f19.results = #[.cell 4 48] := by kernel_rfl
      refine bodyPost_ret (v := .agg #[.int .i64 (m : Int), .int .i64 x0, .int .i64 x1, .int .i64 x2, .int .i64 0, .int .i64 0, .int .i64 0, .int .i64 0, .int .i64 0]) ?_ rfl ⟨rfl, HF2.out⟩
      simp only [results, hres]
      simp [go_sem, e0, e1, e2, e3, e4, e5, e6, e7, e8]
end Go.Proofs.Ytabfdohmgmdgeaa
