/-
  WALKS: 'impl.LeadPoly'. Conditions: as each theorem states.
-/
import Derived.Test.YtadcbfngmgclaaaP27
namespace Go.Proofs.Ytadcbfngmgclaaa
open Go.RowKit Go.Sort Go.Maps EchM

theorem matP_of {p d : Int} {g : Nat → Nat → Int} {xs : List Tm} (hg : Byt g) (hx : isPolyB p d xs = true) (h : isMat p d g = true) : ∃ n : Nat, d = (n : Int) ∧ MatP p n g := by
  obtain ⟨n, hn, hV⟩ := matV_of hg h
  refine ⟨n, hn, ?_, hV.m1, hV.m3, hV.bound, hV.out⟩
  simp only [isPolyB, Bool.and_eq_true] at hx
  exact hx.1
/-- The outcome. -/
def LeadO (p d : Int) (g : Nat → Nat → Int) (xs : List Tm) (o : OutP) : Prop :=
  (isPolyB p d xs = false ∧ o = noP 1) ∨ (isPolyB p d xs = true ∧ isMat p d g = false ∧ o = noP 2) ∨ (isPolyB p d xs = true ∧ isMat p d g = true ∧ ∃ (n : Nat) (L : List Tm), d = (n : Int) ∧ MatP p n g ∧ Led p n g xs L ∧ o = ⟨p, d, L, 0⟩)
theorem leadO_ex {p d : Int} {g : Nat → Nat → Int} {xs : List Tm} (hg : Byt g) (hby : ∀ t ∈ xs, tmByte t) : ∃ o, LeadO p d g xs o := by
  cases h1 : isPolyB p d xs
  · exact ⟨_, .inl ⟨h1, rfl⟩⟩
  · cases h2 : isMat p d g
    · exact ⟨_, .inr (.inl ⟨h1, h2, rfl⟩)⟩
    · obtain ⟨n, hn, hM⟩ := matP_of hg h1 h2
      subst hn
      obtain ⟨L, hL⟩ := led_ex hM h1 hby
      exact ⟨_, .inr (.inr ⟨h1, h2, n, L, rfl, hM, hL, rfl⟩)⟩
theorem leadO_len {p d : Int} {g : Nat → Nat → Int} {xs : List Tm} {o : OutP} (h : LeadO p d g xs o) : o.S.length ≤ 1048576 := by
  rcases h with ⟨_, rfl⟩ | ⟨_, _, rfl⟩ | ⟨_, _, n, L, _, _, ⟨P, _, hL⟩, rfl⟩
  · simp [noP]
  · simp [noP]
  · exact Nat.le_trans hL.len (by omega)
/-- The boxes of a matrix, of a polynomial and of the result. -/
theorem boxMPR (w : World) (g : Nat → Nat → Int) (p d : Int) (v : Value) : ∃ W, W = ((w.alloc (.cells #[.int .u8 (g 0 0), .int .u8 (g 0 1), .int .u8 (g 0 2), .int .u8 (g 1 0), .int .u8 (g 1 1), .int .u8 (g 1 2), .int .u8 (g 2 0), .int .u8 (g 2 1), .int .u8 (g 2 2)] 44)).alloc (.cells #[.int .i64 p, .int .i64 d, v] 30)).alloc (.cells #[.int .i64 0, .int .i64 0, .slice none 0 0] 30) ∧ Below w.heap.size w W ∧ (W.heap.size ≤ w.heap.size + 3 ∧ w.heap.size + 3 ≤ W.heap.size) ∧
      W.rowIs w.heap.size 44 9 (mF g) ∧ W.rowIs (w.heap.size + 1) 30 3 (polyF p d v) ∧ W.rowIs (w.heap.size + 2) 30 3 (polyF 0 0 (.slice none 0 0)) := by
  obtain ⟨U, hU, hbU, rm⟩ : ∃ U, U = w.alloc (.cells #[.int .u8 (g 0 0), .int .u8 (g 0 1), .int .u8 (g 0 2), .int .u8 (g 1 0), .int .u8 (g 1 1), .int .u8 (g 1 2), .int .u8 (g 2 0), .int .u8 (g 2 1), .int .u8 (g 2 2)] 44) ∧ Below w.heap.size w U ∧ U.rowIs w.heap.size 44 9 (mF g) := ⟨_, rfl, ebox1 _ _, mbox w g _⟩
  have hs : U.heap.size = w.heap.size + 1 := by rw [hU]; simp
  obtain ⟨W, hW, hbW, ⟨s1, s2⟩, rx, rr⟩ := boxes2 U p d v
  rw [hs] at rx rr s1 s2
  exact ⟨W, by rw [hW, hU], hbU.trans (hbW.mono hbU.size), ⟨by omega, by omega⟩, rowIs_below rm hbW rm.lt, rx, rr⟩

set_option maxRecDepth 8000 in
set_option maxHeartbeats 16000000 in
theorem ilead (p d : Int) (g : Nat → Nat → Int) (v : Value) (xs : List Tm) (w : World) (hg : Byt g) (hl : xs.length ≤ 1048576) (hS : SliceT w v xs) (hby : ∀ t ∈ xs, tmByte t) (o : OutP) (ho : LeadO p d g xs o) :
    Calls Try.prog 18 #[(.agg #[.int .u8 (g 0 0), .int .u8 (g 0 1), .int .u8 (g 0 2), .int .u8 (g 1 0), .int .u8 (g 1 1), .int .u8 (g 1 2), .int .u8 (g 2 0), .int .u8 (g 2 1), .int .u8 (g 2 2)]), .agg #[.int .i64 p, .int .i64 d, v]] w (ResO w o) := by
  obtain ⟨a, cap, rfl, _⟩ := id hS
  obtain ⟨W, hW, hbW, ⟨hWs1, hWs2⟩, rm, rx, rr⟩ := boxMPR w g p d (.slice a xs.length cap)
  obtain ⟨⟨c0, c1, c2⟩, _⟩ := poly3 rx
  have hSW := hS.below hbW
  go_enter Try.func18, Try.ntmps18
  go_wp2_with fail
  rw [← hW]
  clear hW
  ((with_reducible refine (isPoly_any p d _ xs W hl hSW hby).mono ?_); rintro e w1 ⟨rfl, hb1⟩)
  have hbw1 := hbW.trans (hb1.mono hbW.size)
  have rm1 := rowIs_below rm hb1 rm.lt
  have rx1 := rowIs_below rx hb1 rx.lt
  have rr1 := rowIs_below rr hb1 rr.lt
  have hs1 := hb1.size
  have hS1 := hSW.below hb1
  clear c0 c1 c2 rm rx rr
  rcases ho with ⟨hx, rfl⟩ | ⟨hx, hm, rfl⟩ | ⟨hx, hm, n, L, rfl, hM, hL, rfl⟩
  · rw [hx]
    clear hx
    obtain ⟨⟨r0, r1, r2⟩, z0, z1, z2⟩ := poly3 rr1
    obtain ⟨a0, a1, a2, a3, a4⟩ := fill_box (base := w.heap.size) rr1 (ownP_nil w1 w.heap.size) (Nat.le_refl _) hbw1 (by omega) 0 0
    have A0 := Lib.hid a0
    have A1 := Lib.hid a1
    have A2 := Lib.hid a2
    have A3 := Lib.hid a3
    have A4 := Lib.hid a4
    clear a0 a1 a2 a3 a4
    go_wp2_with fail
    exact bodyPost_ret (v := .tuple #[.agg #[.int .i64 0, .int .i64 0, .slice none 0 0], .int .i64 1]) (by simp [results, Try.results18, go_sem, A0.out, A1.out, A2.out]) rfl ⟨_, rfl, A3.out, A4.out⟩
  · rw [hx]
    obtain ⟨⟨c0, c1, c2⟩, _⟩ := poly3 rx1
    obtain ⟨⟨m0, m1, m2⟩, ⟨m3, m4, m5⟩, m6, m7, m8⟩ := mcells rm1
    go_wp2_with fail
    ((with_reducible refine (ismat_is p d g w1 hg false hm).mono ?_); rintro e w2 ⟨rfl, hb2⟩)
    have rr2 := rowIs_below rr1 hb2 rr1.lt
    have hbw2 := hbw1.trans (hb2.mono hbw1.size)
    obtain ⟨⟨r0, r1, r2⟩, z0, z1, z2⟩ := poly3 rr2
    obtain ⟨a0, a1, a2, a3, a4⟩ := fill_box (base := w.heap.size) rr2 (ownP_nil w2 w.heap.size) (Nat.le_refl _) hbw2 (by omega) 0 0
    have A0 := Lib.hid a0
    have A1 := Lib.hid a1
    have A2 := Lib.hid a2
    have A3 := Lib.hid a3
    have A4 := Lib.hid a4
    clear a0 a1 a2 a3 a4 c0 c1 c2 m0 m1 m2 m3 m4 m5 m6 m7 m8
    go_wp2_with fail
    exact bodyPost_ret (v := .tuple #[.agg #[.int .i64 0, .int .i64 0, .slice none 0 0], .int .i64 2]) (by simp [results, Try.results18, go_sem, A0.out, A1.out, A2.out]) rfl ⟨_, rfl, A3.out, A4.out⟩
  · rw [hx]
    obtain ⟨⟨c0, c1, c2⟩, _⟩ := poly3 rx1
    obtain ⟨⟨m0, m1, m2⟩, ⟨m3, m4, m5⟩, m6, m7, m8⟩ := mcells rm1
    go_wp2_with fail
    ((with_reducible refine (ismat_is p (n : Int) g w1 hg true hm).mono ?_); rintro e w2 ⟨rfl, hb2⟩)
    have rr2 := rowIs_below rr1 hb2 rr1.lt
    have rx2 := rowIs_below rx1 hb2 rx1.lt
    have rm2 := rowIs_below rm1 hb2 rm1.lt
    have hbw2 := hbw1.trans (hb2.mono hbw1.size)
    have hS2 := hS1.below hb2
    clear c0 c1 c2 m0 m1 m2 m3 m4 m5 m6 m7 m8
    have HI := Lib.hid (fun w => iact p n g w hM)
    have HC := Lib.hid (fun w B v h1 h2 => iactC p n g B v xs L w hM h1 hl h2 hby hx hL)
    have KK := Lib.hid (fun w' (h : Below w2.heap.size w2 w') => show ((w'.cell? ⟨w.heap.size + 1, 0, none⟩ = some (.int .i64 p) ∧ w'.cell? ⟨w.heap.size + 1, 1, none⟩ = some (.int .i64 (n : Int)) ∧ w'.cell? ⟨w.heap.size + 1, 2, none⟩ = some (.slice a xs.length cap)) ∧ ((w'.cell? ⟨w.heap.size, 0, none⟩ = some (.int .u8 (g 0 0)) ∧ w'.cell? ⟨w.heap.size, 1, none⟩ = some (.int .u8 (g 0 1)) ∧ w'.cell? ⟨w.heap.size, 2, none⟩ = some (.int .u8 (g 0 2))) ∧ (w'.cell? ⟨w.heap.size, 3, none⟩ = some (.int .u8 (g 1 0)) ∧ w'.cell? ⟨w.heap.size, 4, none⟩ = some (.int .u8 (g 1 1)) ∧ w'.cell? ⟨w.heap.size, 5, none⟩ = some (.int .u8 (g 1 2))) ∧ (w'.cell? ⟨w.heap.size, 6, none⟩ = some (.int .u8 (g 2 0)) ∧ w'.cell? ⟨w.heap.size, 7, none⟩ = some (.int .u8 (g 2 1)) ∧ w'.cell? ⟨w.heap.size, 8, none⟩ = some (.int .u8 (g 2 2))))) from
      ⟨(poly3 (rowIs_below rx2 h rx2.lt)).1, mcells (rowIs_below rm2 h rm2.lt)⟩)
    have KS := Lib.hid (fun w' (h : Below w2.heap.size w2 w') (u0 u1 u2 : Value) => show (fun w' => ((w'.cell? ⟨w.heap.size + 1, 0, none⟩ = some (.int .i64 p) ∧ w'.cell? ⟨w.heap.size + 1, 1, none⟩ = some (.int .i64 (n : Int)) ∧ w'.cell? ⟨w.heap.size + 1, 2, none⟩ = some (.slice a xs.length cap)) ∧ ((w'.cell? ⟨w.heap.size, 0, none⟩ = some (.int .u8 (g 0 0)) ∧ w'.cell? ⟨w.heap.size, 1, none⟩ = some (.int .u8 (g 0 1)) ∧ w'.cell? ⟨w.heap.size, 2, none⟩ = some (.int .u8 (g 0 2))) ∧ (w'.cell? ⟨w.heap.size, 3, none⟩ = some (.int .u8 (g 1 0)) ∧ w'.cell? ⟨w.heap.size, 4, none⟩ = some (.int .u8 (g 1 1)) ∧ w'.cell? ⟨w.heap.size, 5, none⟩ = some (.int .u8 (g 1 2))) ∧ (w'.cell? ⟨w.heap.size, 6, none⟩ = some (.int .u8 (g 2 0)) ∧ w'.cell? ⟨w.heap.size, 7, none⟩ = some (.int .u8 (g 2 1)) ∧ w'.cell? ⟨w.heap.size, 8, none⟩ = some (.int .u8 (g 2 2)))))) (((w'.setCell ⟨w.heap.size + 2, 0, none⟩ u0).setCell ⟨w.heap.size + 2, 1, none⟩ u1).setCell ⟨w.heap.size + 2, 2, none⟩ u2) from
      ⟨(poly3 (setO3 (rowIs_below rx2 h rx2.lt) (by omega) u0 u1 u2)).1, mcells (setO3 (rowIs_below rm2 h rm2.lt) (by omega) u0 u1 u2)⟩)
    clear hM hL
    go_upto_region 5 with fail
    go_region_held3 (fun w' => ((w'.cell? ⟨w.heap.size + 1, 0, none⟩ = some (.int .i64 p) ∧ w'.cell? ⟨w.heap.size + 1, 1, none⟩ = some (.int .i64 (n : Int)) ∧ w'.cell? ⟨w.heap.size + 1, 2, none⟩ = some (.slice a xs.length cap)) ∧ ((w'.cell? ⟨w.heap.size, 0, none⟩ = some (.int .u8 (g 0 0)) ∧ w'.cell? ⟨w.heap.size, 1, none⟩ = some (.int .u8 (g 0 1)) ∧ w'.cell? ⟨w.heap.size, 2, none⟩ = some (.int .u8 (g 0 2))) ∧ (w'.cell? ⟨w.heap.size, 3, none⟩ = some (.int .u8 (g 1 0)) ∧ w'.cell? ⟨w.heap.size, 4, none⟩ = some (.int .u8 (g 1 1)) ∧ w'.cell? ⟨w.heap.size, 5, none⟩ = some (.int .u8 (g 1 2))) ∧ (w'.cell? ⟨w.heap.size, 6, none⟩ = some (.int .u8 (g 2 0)) ∧ w'.cell? ⟨w.heap.size, 7, none⟩ = some (.int .u8 (g 2 1)) ∧ w'.cell? ⟨w.heap.size, 8, none⟩ = some (.int .u8 (g 2 2))))))
      (first | with_reducible exact KS.out _ HB14 _ _ _ | with_reducible exact KK.out _ (Below.same _).drew | with_reducible exact KK.out _ HB13 | with_reducible exact KK.out _ HB14)
      (first
      | (go_at_call 36; (with_reducible refine (HI.out _).mono ?_); rintro e w13 ⟨B13, rfl, hA13, hb13, hB13⟩; have HB13 : Below w2.heap.size w2 w13 := (Below.same _).drew.trans hb13)
      | (go_at_call 64; (with_reducible refine (HC.out _ B13 _ hA13 (hS2.below HB13)).mono ?_); rintro e w14 ⟨v14, rfl, ho14, hb14⟩; have HB14 : Below w2.heap.size w2 w14 := HB13.trans (hb14.mono HB13.size); have rr14 := rowIs_below rr2 HB14 rr2.lt; (obtain ⟨sa14, sc14, rfl⟩ := owns_slice ho14); (obtain ⟨⟨r0, r1, r2⟩, z0, z1, z2⟩ := poly3 rr14); (obtain ⟨a0, a1, a2, a3, a4⟩ := fill_box (w := w) rr14 ho14 (Nat.le_trans hbw2.size HB13.size) (hbw2.trans (HB14.mono hbw2.size)) (by omega) p (n : Int)); have A0 := Lib.hid a0; have A1 := Lib.hid a1; have A2 := Lib.hid a2; have A3 := Lib.hid a3; have A4 := Lib.hid a4; clear a0 a1 a2 a3 a4))
    all_goals
      go_wp2_with fail
      exact bodyPost_ret (v := .tuple #[.agg #[.int .i64 p, .int .i64 (n : Int), .slice sa14 L.length sc14], .int .i64 0]) (by simp [results, Try.results18, go_sem, A0.out, A1.out, A2.out]) rfl ⟨_, rfl, A3.out, A4.out⟩
end Go.Proofs.Ytadcbfngmgclaaa
