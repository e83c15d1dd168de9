/-
  'OrderOfMatrix' of the program. Conditions: the numbers are bytes.
-/
import Derived.Test.YtflhfbdcljbleaaKj
namespace Go.Proofs.Ytflhfbdcljbleaa
open Go.RowKit Go.Sort EchM

theorem iprod_raw (p : Int) (g h r : Nat → Nat → Int) (w : World) (h2 : 2 ≤ p) (h13 : p ≤ 13) (hg : ∀ i, i < 3 → ∀ j, j < 3 → 0 ≤ g i j ∧ g i j < p) (hh : ∀ i, i < 3 → ∀ j, j < 3 → 0 ≤ h i j ∧ h i j < p) (hr : prodM p g h = r) :
    Calls Try.prog 35 #[.int .i64 p, (.agg #[.int .u8 (g 0 0), .int .u8 (g 0 1), .int .u8 (g 0 2), .int .u8 (g 1 0), .int .u8 (g 1 1), .int .u8 (g 1 2), .int .u8 (g 2 0), .int .u8 (g 2 1), .int .u8 (g 2 2)]), (.agg #[.int .u8 (h 0 0), .int .u8 (h 0 1), .int .u8 (h 0 2), .int .u8 (h 1 0), .int .u8 (h 1 1), .int .u8 (h 1 2), .int .u8 (h 2 0), .int .u8 (h 2 1), .int .u8 (h 2 2)])] w fun e w' => e = .returned (.agg #[.int .u8 (r 0 0), .int .u8 (r 0 1), .int .u8 (r 0 2), .int .u8 (r 1 0), .int .u8 (r 1 1), .int .u8 (r 1 2), .int .u8 (r 2 0), .int .u8 (r 2 1), .int .u8 (r 2 2)]) ∧ Below w.heap.size w w' := by subst hr; exact iprod p g h w h2 h13 hg hh
theorem sprod_raw (p : Int) (n : Nat) (g h r : Nat → Nat → Int) (w : World) (h2 : 2 ≤ p) (h13 : p ≤ 13) (hg : ∀ i, i < 3 → ∀ j, j < 3 → 0 ≤ g i j ∧ g i j < p) (hh : ∀ i, i < 3 → ∀ j, j < 3 → 0 ≤ h i j ∧ h i j < p) (hn3 : n ≤ 3) (hog : Out0 n g) (hoh : Out0 n h) (hr : prodM p g h = r) :
    Calls Try.prog 34 #[.int .i64 p, .int .i64 (n : Int), (.agg #[.int .u8 (g 0 0), .int .u8 (g 0 1), .int .u8 (g 0 2), .int .u8 (g 1 0), .int .u8 (g 1 1), .int .u8 (g 1 2), .int .u8 (g 2 0), .int .u8 (g 2 1), .int .u8 (g 2 2)]), (.agg #[.int .u8 (h 0 0), .int .u8 (h 0 1), .int .u8 (h 0 2), .int .u8 (h 1 0), .int .u8 (h 1 1), .int .u8 (h 1 2), .int .u8 (h 2 0), .int .u8 (h 2 1), .int .u8 (h 2 2)])] w fun e w' => e = .returned (.agg #[.int .u8 (r 0 0), .int .u8 (r 0 1), .int .u8 (r 0 2), .int .u8 (r 1 0), .int .u8 (r 1 1), .int .u8 (r 1 2), .int .u8 (r 2 0), .int .u8 (r 2 1), .int .u8 (r 2 2)]) ∧ Below w.heap.size w w' := by subst hr; exact sprod p n g h w h2 h13 hg hh hn3 hog hoh

set_option maxRecDepth 8000 in
set_option maxHeartbeats 8000000 in
theorem iorder (p n : Int) (g : Nat → Nat → Int) (w : World) (hg : Byt g) :
    Calls Try.prog 20 #[.int .i64 p, .int .i64 n, mv g] w fun e w' => e = .returned (.tuple #[.int .i64 (ordR p n g).1, .int .i64 (ordR p n g).2]) ∧ Below w.heap.size w w' := by
  obtain ⟨W, hW, rG, hbW, hWs⟩ : ∃ W, W = w.alloc (.cells #[.int .u8 (g 0 0), .int .u8 (g 0 1), .int .u8 (g 0 2), .int .u8 (g 1 0), .int .u8 (g 1 1), .int .u8 (g 1 2), .int .u8 (g 2 0), .int .u8 (g 2 1), .int .u8 (g 2 2)] 25) ∧ W.rowIs w.heap.size 25 9 (mF g) ∧ Below w.heap.size w W ∧ w.heap.size < W.heap.size := ⟨_, rfl, mbox w g _, ebox1 _ _, by simp⟩
  have HG := Lib.hid hg
  cases h1 : isMat p n g
  · have HX := Lib.hid (show ordR p n g = (0, 2) by simp [ordR, h1])
    have H1 := Lib.hid h1
    clear h1 hg
    unfold mv
    go_enter Try.func20, Try.ntmps20
    go_wp2_with fail
    rw [← hW]
    clear hW
    ((with_reducible refine (ismat_is p n g _ HG.out false H1.out).mono ?_); rintro e w1 ⟨rfl, hb1⟩)
    have hbw1 := hbW.trans (hb1.mono hbW.size)
    go_wp2_with fail
    exact bodyPost_ret (v := .tuple #[.int .i64 0, .int .i64 2]) (by simp [results, Try.results20, go_sem]) rfl ⟨by rw [HX.out], hbw1⟩
  · obtain ⟨m, rfl, hv⟩ := matV_of hg h1
    obtain ⟨u, hu⟩ : ∃ u, uM m = u := ⟨_, rfl⟩
    have HU := Lib.hid hu
    have HY := Lib.hid (show ordR p m g = if srch p g u 3000 1 = 0 then (0, 3) else ((srch p g u 3000 1 : Int), 0) by simp [ordR, h1, hu])
    have HPW := Lib.hid (pw_ok hv.h2 hv.bound hv.out)
    have H1 := Lib.hid h1
    obtain ⟨h2, h13, m1, m3⟩ := And.intro hv.h2 (And.intro hv.h13 (And.intro hv.m1 hv.m3))
    have HB := Lib.hid hv.bound
    clear h1 hg hu
    unfold mv
    go_enter Try.func20, Try.ntmps20
    go_wp2_with fail
    rw [← hW]
    clear hW
    ((with_reducible refine (ismat_is p m g _ HG.out true H1.out).mono ?_); rintro e w1 ⟨rfl, hb1⟩)
    go_wp2_with fail
    ((with_reducible refine (iunit m u _ m1 m3 HU.out).mono ?_); rintro e w2 ⟨rfl, hb2⟩)
    have hb12 := hb1.trans (hb2.mono hb1.size)
    have hs2 := hb12.size
    obtain ⟨V, hV, rV, hbV, hVs⟩ : ∃ V, V = w2.alloc (.cells #[.int .u8 (u 0 0), .int .u8 (u 0 1), .int .u8 (u 0 2), .int .u8 (u 1 0), .int .u8 (u 1 1), .int .u8 (u 1 2), .int .u8 (u 2 0), .int .u8 (u 2 1), .int .u8 (u 2 2)] 25) ∧ V.rowIs w2.heap.size 25 9 (mF u) ∧ Below w2.heap.size w2 V ∧ V.heap.size = w2.heap.size + 1 := ⟨_, rfl, mbox w2 u _, ebox1 _ _, by simp⟩
    go_upto_region 4 with fail
    rw [← hV]
    clear hV
    have hb13 := hb12.trans (hbV.mono hs2)
    obtain ⟨⟨c0, c1, c2⟩, ⟨c3, c4, c5⟩, c6, c7, c8⟩ := mcells (erow_below rG hb13 rG.lt)
    obtain ⟨U, hU, rU, hbU, hUs⟩ : ∃ U, U = V.alloc (.cells #[.int .u8 (g 0 0), .int .u8 (g 0 1), .int .u8 (g 0 2), .int .u8 (g 1 0), .int .u8 (g 1 1), .int .u8 (g 1 2), .int .u8 (g 2 0), .int .u8 (g 2 1), .int .u8 (g 2 2)] 25) ∧ U.rowIs V.heap.size 25 9 (mF g) ∧ Below V.heap.size V U ∧ V.heap.size < U.heap.size := ⟨_, rfl, mbox V g _, ebox1 _ _, by simp⟩
    have HVS := Lib.hid hVs
    have hVs2 : w2.heap.size + 1 ≤ V.heap.size := by omega
    clear hVs
    go_upto_region 5 with fail
    rw [← hU]
    clear hU c0 c1 c2 c3 c4 c5 c6 c7 c8
    have hb14 := hb13.trans (hbU.mono hb13.size)
    have rG5 := erow_below rG hb14 rG.lt
    have rU5 := erow_below rV hbU rV.lt
    have rP5 : U.rowIs V.heap.size 25 9 (mF (pw p g 1)) := rU
    have hb5 := hbW.trans (hb14.mono hbW.size)
    have hB9w : w.heap.size ≤ V.heap.size := by omega
    have hB59 : w.heap.size ≠ V.heap.size := by omega
    have hB89 : w2.heap.size ≠ V.heap.size := by omega
    clear rU rV hbU hbV hb1 hb2 hb12 hb13 hb14 hbW rG
    go_wp2_with fail
    go_loopw [10] (fun i wr => ∃ (k : Nat), (1 ≤ k ∧ k ≤ 3001) ∧ i = .int .i64 k ∧ Hid (srch p g u 3000 1 = srch p g u (3001 - k) k) ∧ wr.rowIs w.heap.size 25 9 (mF g) ∧ wr.rowIs w2.heap.size 25 9 (mF u) ∧ wr.rowIs V.heap.size 25 9 (mF (pw p g k)) ∧ Below w.heap.size w wr) (fun i _ => 3001 - (intOf i).toNat)
    case atStart => exact ⟨1, by omega, rfl, Lib.hid rfl, rG5, rU5, rP5, hb5⟩
    case round =>
      clear rG5 rU5 rP5 hb5
      obtain ⟨k, ⟨hk1, hk2⟩, rfl, HQ, qG, qU, qP, hb⟩ := hrel
      by_cases hlt : k ≤ 3000
      · have hlt' : (k : Int) ≤ 3000 := by omega
        obtain ⟨⟨a0, a1, a2⟩, ⟨a3, a4, a5⟩, a6, a7, a8⟩ := mcells qP
        obtain ⟨⟨b0, b1, b2⟩, ⟨b3, b4, b5⟩, b6, b7, b8⟩ := mcells qU
        obtain ⟨⟨c0, c1, c2⟩, ⟨c3, c4, c5⟩, c6, c7, c8⟩ := mcells qG
        obtain ⟨pb, po⟩ := HPW.out k
        have HPB := Lib.hid pb
        have HPO := Lib.hid po
        have HN := Lib.hid (pw_next p g hk1)
        obtain ⟨q, hq⟩ : ∃ q, pw p g k = q := ⟨_, rfl⟩
        have hit := fun he => HQ.out.trans (srch_hit (p := p) (g := g) (u := u) hlt he)
        have miss := fun he => HQ.out.trans (srch_miss (p := p) (g := g) (u := u) hlt he)
        rw [hq] at a0 a1 a2 a3 a4 a5 a6 a7 a8 qP HPB HPO HN hit miss
        have HIT := Lib.hid hit
        have MISS := Lib.hid miss
        clear pb po hit miss hq
        have hE := fun w => mat_eq q u w
        cases he : eqM q u
        · rw [he] at hE
          have HQ2 := Lib.hid (MISS.out he)
          clear he
          obtain ⟨r, hr⟩ : ∃ r, prodM p q g = r := ⟨_, rfl⟩
          have HRR := Lib.hid hr
          rw [hr] at HN
          clear hr
          go_wp2_with fail
          ((with_reducible refine (iprod_raw p q g r _ h2 h13 HPB.out HB.out HRR.out).mono ?_); rintro e w6 ⟨rfl, hb6⟩)
          have hbw6 := hb.trans (hb6.mono hb.size)
          have sG := erow_below qG hb6 qG.lt
          have sU := erow_below qU hb6 qU.lt
          have sP := erow_below qP hb6 qP.lt
          clear a0 a1 a2 a3 a4 a5 a6 a7 a8 b0 b1 b2 b3 b4 b5 b6 b7 b8 c0 c1 c2 c3 c4 c5 c6 c7 c8 hE
          obtain ⟨⟨y0, y1, y2⟩, ⟨y3, y4, y5⟩, y6, y7, y8⟩ := mcells sP
          have z0 := sP.frozen 0
          have z1 := sP.frozen 1
          have z2 := sP.frozen 2
          have z3 := sP.frozen 3
          have z4 := sP.frozen 4
          have z5 := sP.frozen 5
          have z6 := sP.frozen 6
          have z7 := sP.frozen 7
          have z8 := sP.frozen 8
          have tP := (mfill (w := w) (B := w.heap.size) sP hbw6 hB9w r).1
          have tB := (mfill (w := w) (B := w.heap.size) sP hbw6 hB9w r).2
          have tG := mother sG hB59 r
          have tU := mother sU hB89 r
          have TP := Lib.hid tP
          have TB := Lib.hid tB
          have TG := Lib.hid tG
          have TU := Lib.hid tU
          clear tP tB tG tU
          go_wp2_with fail
          go_roundw
          case rel => exact ⟨k + 1, by omega, by go_num, HQ2, TG.out, TU.out, by rw [HN.out]; exact TP.out, TB.out⟩
          case measure => simp [intOf]; omega
        · rw [he] at hE
          have HX := Lib.hid (show ordR p m g = ((k : Int), 0) by rw [HY.out, HIT.out he, if_neg (by omega)])
          clear he
          go_wp2_with fail
          exact bodyPost_ret (v := .tuple #[.int .i64 (k : Int), .int .i64 0]) (by simp [results, Try.results20, go_sem]) rfl ⟨by rw [HX.out], hb⟩
      · obtain rfl : k = 3001 := by omega
        have HX := Lib.hid (show ordR p m g = (0, 3) by rw [HY.out, HQ.out]; rfl)
        go_wp2_with fail
        exact bodyPost_ret (v := .tuple #[.int .i64 0, .int .i64 3]) (by simp [results, Try.results20, go_sem]) rfl ⟨by rw [HX.out], hb⟩
end Go.Proofs.Ytflhfbdcljbleaa
