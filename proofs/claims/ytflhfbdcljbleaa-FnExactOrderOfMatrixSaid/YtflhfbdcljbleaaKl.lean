/-
  'OrderOfMatrix' of the model. Conditions: the numbers are bytes.
-/
import Derived.Test.YtflhfbdcljbleaaKk
import Derived.Test.YtflhfbdcljbleaaMuxLaw
namespace Go.Proofs.Ytflhfbdcljbleaa
open Go.RowKit Go.Sort EchM

theorem bel_alloc2drew {w w' : World} {o o' : Obj} (h : Below ((w.alloc o).alloc o').drew.heap.size ((w.alloc o).alloc o').drew w') : Below w.heap.size w w' := bel_alloc ((bel_alloc (bel_drew h)).mono (by simp))
theorem zr2_new {w w' : World} (h : Below ((w.alloc (.cells #[.int .u8 0, .int .u8 0, .int .u8 0, .int .u8 0, .int .u8 0, .int .u8 0, .int .u8 0, .int .u8 0, .int .u8 0] 25)).alloc (.cells #[.int .u8 0, .int .u8 0, .int .u8 0, .int .u8 0, .int .u8 0, .int .u8 0, .int .u8 0, .int .u8 0, .int .u8 0] 25)).drew.heap.size ((w.alloc (.cells #[.int .u8 0, .int .u8 0, .int .u8 0, .int .u8 0, .int .u8 0, .int .u8 0, .int .u8 0, .int .u8 0, .int .u8 0] 25)).alloc (.cells #[.int .u8 0, .int .u8 0, .int .u8 0, .int .u8 0, .int .u8 0, .int .u8 0, .int .u8 0, .int .u8 0, .int .u8 0] 25)).drew w') : w'.rowIs w.heap.size 25 9 (mF fun _ _ => 0) ∧ w'.rowIs (w.heap.size + 1) 25 9 (mF fun _ _ => 0) := by
  have h2 := bel_drew h
  refine ⟨erow_below ((zmbox w).alloc _) h2 (by simp; omega), erow_below (B := ((w.alloc (.cells #[.int .u8 0, .int .u8 0, .int .u8 0, .int .u8 0, .int .u8 0, .int .u8 0, .int .u8 0, .int .u8 0, .int .u8 0] 25)).alloc (.cells #[.int .u8 0, .int .u8 0, .int .u8 0, .int .u8 0, .int .u8 0, .int .u8 0, .int .u8 0, .int .u8 0, .int .u8 0] 25)).heap.size) ?_ h2 (by simp)⟩
  have := zmbox (w.alloc (.cells #[.int .u8 0, .int .u8 0, .int .u8 0, .int .u8 0, .int .u8 0, .int .u8 0, .int .u8 0, .int .u8 0, .int .u8 0] 25))
  rwa [World.size_alloc] at this

theorem two_fill {w Z : World} {B A C : Nat} {t : TypeId} {F G : Nat → Value} (hA : Z.rowIs A t 9 F) (hC : Z.rowIs C t 9 G) (hne : A ≠ C) (hb : Below B w Z) (bA : B ≤ A) (bC : B ≤ C) (g u : Nat → Nat → Int) :
    ((((((((((((((((((Z.setCell ⟨A, 0, none⟩ (.int .u8 (g 0 0))).setCell ⟨A, 1, none⟩ (.int .u8 (g 0 1))).setCell ⟨A, 2, none⟩ (.int .u8 (g 0 2))).setCell ⟨A, 3, none⟩ (.int .u8 (g 1 0))).setCell ⟨A, 4, none⟩ (.int .u8 (g 1 1))).setCell ⟨A, 5, none⟩ (.int .u8 (g 1 2))).setCell ⟨A, 6, none⟩ (.int .u8 (g 2 0))).setCell ⟨A, 7, none⟩ (.int .u8 (g 2 1))).setCell ⟨A, 8, none⟩ (.int .u8 (g 2 2))).setCell ⟨C, 0, none⟩ (.int .u8 (u 0 0))).setCell ⟨C, 1, none⟩ (.int .u8 (u 0 1))).setCell ⟨C, 2, none⟩ (.int .u8 (u 0 2))).setCell ⟨C, 3, none⟩ (.int .u8 (u 1 0))).setCell ⟨C, 4, none⟩ (.int .u8 (u 1 1))).setCell ⟨C, 5, none⟩ (.int .u8 (u 1 2))).setCell ⟨C, 6, none⟩ (.int .u8 (u 2 0))).setCell ⟨C, 7, none⟩ (.int .u8 (u 2 1))).setCell ⟨C, 8, none⟩ (.int .u8 (u 2 2))).rowIs A t 9 (mF g) ∧ ((((((((((((((((((Z.setCell ⟨A, 0, none⟩ (.int .u8 (g 0 0))).setCell ⟨A, 1, none⟩ (.int .u8 (g 0 1))).setCell ⟨A, 2, none⟩ (.int .u8 (g 0 2))).setCell ⟨A, 3, none⟩ (.int .u8 (g 1 0))).setCell ⟨A, 4, none⟩ (.int .u8 (g 1 1))).setCell ⟨A, 5, none⟩ (.int .u8 (g 1 2))).setCell ⟨A, 6, none⟩ (.int .u8 (g 2 0))).setCell ⟨A, 7, none⟩ (.int .u8 (g 2 1))).setCell ⟨A, 8, none⟩ (.int .u8 (g 2 2))).setCell ⟨C, 0, none⟩ (.int .u8 (u 0 0))).setCell ⟨C, 1, none⟩ (.int .u8 (u 0 1))).setCell ⟨C, 2, none⟩ (.int .u8 (u 0 2))).setCell ⟨C, 3, none⟩ (.int .u8 (u 1 0))).setCell ⟨C, 4, none⟩ (.int .u8 (u 1 1))).setCell ⟨C, 5, none⟩ (.int .u8 (u 1 2))).setCell ⟨C, 6, none⟩ (.int .u8 (u 2 0))).setCell ⟨C, 7, none⟩ (.int .u8 (u 2 1))).setCell ⟨C, 8, none⟩ (.int .u8 (u 2 2))).rowIs C t 9 (mF u) ∧ Below B w ((((((((((((((((((Z.setCell ⟨A, 0, none⟩ (.int .u8 (g 0 0))).setCell ⟨A, 1, none⟩ (.int .u8 (g 0 1))).setCell ⟨A, 2, none⟩ (.int .u8 (g 0 2))).setCell ⟨A, 3, none⟩ (.int .u8 (g 1 0))).setCell ⟨A, 4, none⟩ (.int .u8 (g 1 1))).setCell ⟨A, 5, none⟩ (.int .u8 (g 1 2))).setCell ⟨A, 6, none⟩ (.int .u8 (g 2 0))).setCell ⟨A, 7, none⟩ (.int .u8 (g 2 1))).setCell ⟨A, 8, none⟩ (.int .u8 (g 2 2))).setCell ⟨C, 0, none⟩ (.int .u8 (u 0 0))).setCell ⟨C, 1, none⟩ (.int .u8 (u 0 1))).setCell ⟨C, 2, none⟩ (.int .u8 (u 0 2))).setCell ⟨C, 3, none⟩ (.int .u8 (u 1 0))).setCell ⟨C, 4, none⟩ (.int .u8 (u 1 1))).setCell ⟨C, 5, none⟩ (.int .u8 (u 1 2))).setCell ⟨C, 6, none⟩ (.int .u8 (u 2 0))).setCell ⟨C, 7, none⟩ (.int .u8 (u 2 1))).setCell ⟨C, 8, none⟩ (.int .u8 (u 2 2))) := by
  obtain ⟨m1, m2⟩ := mfill hA hb bA g
  have m3 := mother hC (Ne.symm hne) g
  exact ⟨mother m1 hne u, (mfill m3 m2 bC u).1, (mfill m3 m2 bC u).2⟩

set_option maxRecDepth 8000 in
set_option maxHeartbeats 8000000 in
theorem sorder0 (p : Int) (m : Nat) (g u : Nat → Nat → Int) (w : World) (hv : MatV p m g) (hu : uM m = u) :
    Calls Try.prog 40 #[.int .i64 p, .int .i64 (m : Int), mv g] w fun e w' =>
      e = .returned (if srch p g u 3000 1 = 0 then .tuple #[.int .i64 0, .bool false] else .tuple #[.int .i64 (srch p g u 3000 1 : Int), .bool true]) ∧ Below w.heap.size w w' := by
  obtain ⟨T, hT⟩ : ∃ T, (if srch p g u 3000 1 = 0 then Value.tuple #[.int .i64 0, .bool false] else Value.tuple #[.int .i64 (srch p g u 3000 1 : Int), .bool true]) = T := ⟨_, rfl⟩
  rw [hT]
  have HT := Lib.hid hT
  clear hT
  obtain ⟨W, hW, rG, hbW, hWs⟩ : ∃ W, W = w.alloc (.cells #[.int .u8 (g 0 0), .int .u8 (g 0 1), .int .u8 (g 0 2), .int .u8 (g 1 0), .int .u8 (g 1 1), .int .u8 (g 1 2), .int .u8 (g 2 0), .int .u8 (g 2 1), .int .u8 (g 2 2)] 25) ∧ W.rowIs w.heap.size 25 9 (mF g) ∧ Below w.heap.size w W ∧ w.heap.size < W.heap.size := ⟨_, rfl, mbox w g _, ebox1 _ _, by simp⟩
  have HU := Lib.hid hu
  have HPW := Lib.hid (pw_ok hv.h2 hv.bound hv.out)
  obtain ⟨h2, h13, m1, m3⟩ := And.intro hv.h2 (And.intro hv.h13 (And.intro hv.m1 hv.m3))
  have HB := Lib.hid hv.bound
  have HO := Lib.hid hv.out
  clear hu
  obtain ⟨⟨c0, c1, c2⟩, ⟨c3, c4, c5⟩, c6, c7, c8⟩ := mcells rG
  unfold mv
  go_enter Try.func40, Try.ntmps40
  go_upto_region 1 with fail
  rw [← hW]
  clear hW
  have KKh := Lib.hid (fun w' (hq : Below W.heap.size W w') => show (w'.cell? ⟨w.heap.size, 0, none⟩ = some (.int .u8 (g 0 0)) ∧ w'.cell? ⟨w.heap.size, 1, none⟩ = some (.int .u8 (g 0 1)) ∧ w'.cell? ⟨w.heap.size, 2, none⟩ = some (.int .u8 (g 0 2))) ∧ (w'.cell? ⟨w.heap.size, 3, none⟩ = some (.int .u8 (g 1 0)) ∧ w'.cell? ⟨w.heap.size, 4, none⟩ = some (.int .u8 (g 1 1)) ∧ w'.cell? ⟨w.heap.size, 5, none⟩ = some (.int .u8 (g 1 2))) ∧ (w'.cell? ⟨w.heap.size, 6, none⟩ = some (.int .u8 (g 2 0)) ∧ w'.cell? ⟨w.heap.size, 7, none⟩ = some (.int .u8 (g 2 1)) ∧ w'.cell? ⟨w.heap.size, 8, none⟩ = some (.int .u8 (g 2 2))) from mcells (erow_below rG hq rG.lt))
  have hA : w.heap.size ≠ W.heap.size := by omega
  have hC : w.heap.size ≠ W.heap.size + 1 := by omega
  have hGl := rG.lt
  go_cut [8, 9] (fun s8 s9 wx => ∃ B8 B9, s8 = .pointer (some ⟨B8, 0, none⟩) ∧ s9 = .pointer (some ⟨B9, 0, none⟩) ∧ wx.rowIs B8 25 9 (mF g) ∧ wx.rowIs B9 25 9 (mF u) ∧ Below W.heap.size W wx ∧ W.heap.size ≤ B8 ∧ W.heap.size ≤ B9 ∧ B8 ≠ B9)
  case first =>
    go_region_held3 (fun w' => (w'.cell? ⟨w.heap.size, 0, none⟩ = some (.int .u8 (g 0 0)) ∧ w'.cell? ⟨w.heap.size, 1, none⟩ = some (.int .u8 (g 0 1)) ∧ w'.cell? ⟨w.heap.size, 2, none⟩ = some (.int .u8 (g 0 2))) ∧ (w'.cell? ⟨w.heap.size, 3, none⟩ = some (.int .u8 (g 1 0)) ∧ w'.cell? ⟨w.heap.size, 4, none⟩ = some (.int .u8 (g 1 1)) ∧ w'.cell? ⟨w.heap.size, 5, none⟩ = some (.int .u8 (g 1 2))) ∧ (w'.cell? ⟨w.heap.size, 6, none⟩ = some (.int .u8 (g 2 0)) ∧ w'.cell? ⟨w.heap.size, 7, none⟩ = some (.int .u8 (g 2 1)) ∧ w'.cell? ⟨w.heap.size, 8, none⟩ = some (.int .u8 (g 2 2))))
      (first | with_reducible exact mcells (mother (mother (R13.alloc (.cells #[.int .u8 0, .int .u8 0, .int .u8 0, .int .u8 0, .int .u8 0, .int .u8 0, .int .u8 0, .int .u8 0, .int .u8 0] 25)) hA g) hD u) | with_reducible exact mcells (mother (mother (R13.alloc (.cells #[.int .u8 0, .int .u8 0, .int .u8 0, .int .u8 0, .int .u8 0, .int .u8 0, .int .u8 0, .int .u8 0, .int .u8 0] 25)) hD g) hA u) | with_reducible exact mcells (mother (R13.alloc (.cells #[.int .u8 0, .int .u8 0, .int .u8 0, .int .u8 0, .int .u8 0, .int .u8 0, .int .u8 0, .int .u8 0, .int .u8 0] 25)) hD g) | with_reducible exact mcells (mother (mother (R13.alloc (.cells #[.int .u8 0, .int .u8 0, .int .u8 0, .int .u8 0, .int .u8 0, .int .u8 0, .int .u8 0, .int .u8 0, .int .u8 0] 25)) hA u) hD g) | with_reducible exact mcells (mother (mother (R13.alloc (.cells #[.int .u8 0, .int .u8 0, .int .u8 0, .int .u8 0, .int .u8 0, .int .u8 0, .int .u8 0, .int .u8 0, .int .u8 0] 25)) hD u) hA g) | with_reducible exact mcells (mother (R13.alloc (.cells #[.int .u8 0, .int .u8 0, .int .u8 0, .int .u8 0, .int .u8 0, .int .u8 0, .int .u8 0, .int .u8 0, .int .u8 0] 25)) hD u) | with_reducible exact mcells (mother R13 hA g) | with_reducible exact mcells (mother R13 hC g) | with_reducible exact mcells (mother R13 hA u) | with_reducible exact mcells (mother R13 hC u) | with_reducible exact mcells (mother (mother R13 hA g) hC u) | with_reducible exact mcells (mother (mother R13 hC g) hA u) | with_reducible exact mcells (mother (mother R13 hA u) hC g) | with_reducible exact mcells (mother (mother R13 hC u) hA g) | with_reducible exact mcells (mother (R13.alloc (.cells #[.int .u8 0, .int .u8 0, .int .u8 0, .int .u8 0, .int .u8 0, .int .u8 0, .int .u8 0, .int .u8 0, .int .u8 0] 25)) hA g) | with_reducible exact mcells (mother (R13.alloc (.cells #[.int .u8 0, .int .u8 0, .int .u8 0, .int .u8 0, .int .u8 0, .int .u8 0, .int .u8 0, .int .u8 0, .int .u8 0] 25)) hA u) | with_reducible exact mcells (mother (R13.alloc (.cells #[.int .u8 (u 0 0), .int .u8 (u 0 1), .int .u8 (u 0 2), .int .u8 (u 1 0), .int .u8 (u 1 1), .int .u8 (u 1 2), .int .u8 (u 2 0), .int .u8 (u 2 1), .int .u8 (u 2 2)] 25)) hA g) | with_reducible exact mcells (mother (R13.alloc (.cells #[.int .u8 (u 0 0), .int .u8 (u 0 1), .int .u8 (u 0 2), .int .u8 (u 1 0), .int .u8 (u 1 1), .int .u8 (u 1 2), .int .u8 (u 2 0), .int .u8 (u 2 1), .int .u8 (u 2 2)] 25)) hA u) | with_reducible exact mcells (mother (R13.alloc (.cells #[.int .u8 (g 0 0), .int .u8 (g 0 1), .int .u8 (g 0 2), .int .u8 (g 1 0), .int .u8 (g 1 1), .int .u8 (g 1 2), .int .u8 (g 2 0), .int .u8 (g 2 1), .int .u8 (g 2 2)] 25)) hA g) | with_reducible exact mcells (mother (R13.alloc (.cells #[.int .u8 (g 0 0), .int .u8 (g 0 1), .int .u8 (g 0 2), .int .u8 (g 1 0), .int .u8 (g 1 1), .int .u8 (g 1 2), .int .u8 (g 2 0), .int .u8 (g 2 1), .int .u8 (g 2 2)] 25)) hA u) | with_reducible exact KKh.out _ (Below.refl _ _).drew | with_reducible exact KKh.out _ (ebox1 _ _).drew | with_reducible exact KKh.out _ (ebox2 _ _ _).drew | with_reducible exact KKh.out _ HB13 | with_reducible exact KKh.out _ (HB13.trans ((ebox1 _ _).mono HB13.size)) | with_reducible exact KKh.out _ (HB13.trans ((ebox2 _ _ _).mono HB13.size)))
      (first
        | (go_at_call 60; (with_reducible refine (sunit m u _ m1 m3 HU.out).mono ?_); rintro e w13 ⟨rfl, hb13⟩; have HB13 : Below W.heap.size W w13 := (by first | with_reducible exact bel_drew hb13 | with_reducible exact bel_allocdrew hb13 | with_reducible exact bel_alloc2drew hb13); have R13 := erow_below rG HB13 hGl; (first | (have ZR := zr2_new hb13; have ZA := ZR.1; have ZB := ZR.2; obtain ⟨⟨ea0, ea1, ea2⟩, ⟨ea3, ea4, ea5⟩, ea6, ea7, ea8⟩ := mcells ZA; have fa0 := ZA.frozen 0; have fa1 := ZA.frozen 1; have fa2 := ZA.frozen 2; have fa3 := ZA.frozen 3; have fa4 := ZA.frozen 4; have fa5 := ZA.frozen 5; have fa6 := ZA.frozen 6; have fa7 := ZA.frozen 7; have fa8 := ZA.frozen 8; obtain ⟨⟨eb0, eb1, eb2⟩, ⟨eb3, eb4, eb5⟩, eb6, eb7, eb8⟩ := mcells ZB; have fb0 := ZB.frozen 0; have fb1 := ZB.frozen 1; have fb2 := ZB.frozen 2; have fb3 := ZB.frozen 3; have fb4 := ZB.frozen 4; have fb5 := ZB.frozen 5; have fb6 := ZB.frozen 6; have fb7 := ZB.frozen 7; have fb8 := ZB.frozen 8) | (have ZA : w13.rowIs W.heap.size 25 9 (mF fun _ _ => 0) := (by with_reducible exact zr_newDr hb13); have hA13 : ¬ W.heap.size = w13.heap.size := (by have := ZA.lt; omega); have hA13' : ¬ w13.heap.size = W.heap.size := (by have := ZA.lt; omega); have hD : w.heap.size ≠ w13.heap.size := (by have := HB13.size; omega); have hA13b : (W.heap.size == w13.heap.size) = false := (by simp; exact hA13); have hA13c : (w13.heap.size == W.heap.size) = false := (by simp; exact hA13'); obtain ⟨⟨ea0, ea1, ea2⟩, ⟨ea3, ea4, ea5⟩, ea6, ea7, ea8⟩ := mcells ZA; have fa0 := ZA.frozen 0; have fa1 := ZA.frozen 1; have fa2 := ZA.frozen 2; have fa3 := ZA.frozen 3; have fa4 := ZA.frozen 4; have fa5 := ZA.frozen 5; have fa6 := ZA.frozen 6; have fa7 := ZA.frozen 7; have fa8 := ZA.frozen 8; have oa0 : ∀ o, (w13.alloc o).cell? ⟨W.heap.size, 0, none⟩ = some (.int .u8 0) := fun o => (mcells (ZA.alloc o)).1.1; have pa0 := fun o => (ZA.alloc o).frozen 0; have oa1 : ∀ o, (w13.alloc o).cell? ⟨W.heap.size, 1, none⟩ = some (.int .u8 0) := fun o => (mcells (ZA.alloc o)).1.2.1; have pa1 := fun o => (ZA.alloc o).frozen 1; have oa2 : ∀ o, (w13.alloc o).cell? ⟨W.heap.size, 2, none⟩ = some (.int .u8 0) := fun o => (mcells (ZA.alloc o)).1.2.2; have pa2 := fun o => (ZA.alloc o).frozen 2; have oa3 : ∀ o, (w13.alloc o).cell? ⟨W.heap.size, 3, none⟩ = some (.int .u8 0) := fun o => (mcells (ZA.alloc o)).2.1.1; have pa3 := fun o => (ZA.alloc o).frozen 3; have oa4 : ∀ o, (w13.alloc o).cell? ⟨W.heap.size, 4, none⟩ = some (.int .u8 0) := fun o => (mcells (ZA.alloc o)).2.1.2.1; have pa4 := fun o => (ZA.alloc o).frozen 4; have oa5 : ∀ o, (w13.alloc o).cell? ⟨W.heap.size, 5, none⟩ = some (.int .u8 0) := fun o => (mcells (ZA.alloc o)).2.1.2.2; have pa5 := fun o => (ZA.alloc o).frozen 5; have oa6 : ∀ o, (w13.alloc o).cell? ⟨W.heap.size, 6, none⟩ = some (.int .u8 0) := fun o => (mcells (ZA.alloc o)).2.2.1; have pa6 := fun o => (ZA.alloc o).frozen 6; have oa7 : ∀ o, (w13.alloc o).cell? ⟨W.heap.size, 7, none⟩ = some (.int .u8 0) := fun o => (mcells (ZA.alloc o)).2.2.2.1; have pa7 := fun o => (ZA.alloc o).frozen 7; have oa8 : ∀ o, (w13.alloc o).cell? ⟨W.heap.size, 8, none⟩ = some (.int .u8 0) := fun o => (mcells (ZA.alloc o)).2.2.2.2; have pa8 := fun o => (ZA.alloc o).frozen 8) | skip)))
    all_goals
      go_wp2_with fail
      go_meet
    · have m1 : ((w13.alloc (.cells #[.int .u8 (g 0 0), .int .u8 (g 0 1), .int .u8 (g 0 2), .int .u8 (g 1 0), .int .u8 (g 1 1), .int .u8 (g 1 2), .int .u8 (g 2 0), .int .u8 (g 2 1), .int .u8 (g 2 2)] 25)).alloc (.cells #[.int .u8 (u 0 0), .int .u8 (u 0 1), .int .u8 (u 0 2), .int .u8 (u 1 0), .int .u8 (u 1 1), .int .u8 (u 1 2), .int .u8 (u 2 0), .int .u8 (u 2 1), .int .u8 (u 2 2)] 25)).rowIs (w13.heap.size + 1) 25 9 (mF u) := by
        have := mbox (w13.alloc (.cells #[.int .u8 (g 0 0), .int .u8 (g 0 1), .int .u8 (g 0 2), .int .u8 (g 1 0), .int .u8 (g 1 1), .int .u8 (g 1 2), .int .u8 (g 2 0), .int .u8 (g 2 1), .int .u8 (g 2 2)] 25)) u 25
        rwa [World.size_alloc] at this
      exact ⟨_, _, rfl, rfl, (mbox w13 g _).alloc _, m1, HB13.trans ((ebox2 _ _ _).mono HB13.size), HB13.size, by have := HB13.size; omega, by omega⟩
    · have m1 : ((w13.alloc (.cells #[.int .u8 (u 0 0), .int .u8 (u 0 1), .int .u8 (u 0 2), .int .u8 (u 1 0), .int .u8 (u 1 1), .int .u8 (u 1 2), .int .u8 (u 2 0), .int .u8 (u 2 1), .int .u8 (u 2 2)] 25)).alloc (.cells #[.int .u8 (g 0 0), .int .u8 (g 0 1), .int .u8 (g 0 2), .int .u8 (g 1 0), .int .u8 (g 1 1), .int .u8 (g 1 2), .int .u8 (g 2 0), .int .u8 (g 2 1), .int .u8 (g 2 2)] 25)).rowIs (w13.heap.size + 1) 25 9 (mF g) := by
        have := mbox (w13.alloc (.cells #[.int .u8 (u 0 0), .int .u8 (u 0 1), .int .u8 (u 0 2), .int .u8 (u 1 0), .int .u8 (u 1 1), .int .u8 (u 1 2), .int .u8 (u 2 0), .int .u8 (u 2 1), .int .u8 (u 2 2)] 25)) g 25
        rwa [World.size_alloc] at this
      exact ⟨_, _, rfl, rfl, m1, (mbox w13 u _).alloc _, HB13.trans ((ebox2 _ _ _).mono HB13.size), by have := HB13.size; omega, HB13.size, by omega⟩
    · obtain ⟨m1, m2, m3⟩ := two_fill (ZA.alloc (.cells #[.int .u8 0, .int .u8 0, .int .u8 0, .int .u8 0, .int .u8 0, .int .u8 0, .int .u8 0, .int .u8 0, .int .u8 0] 25)) (zmbox w13) hA13 (HB13.trans ((ebox1 _ _).mono HB13.size)) (Nat.le_refl _) HB13.size g u
      exact ⟨_, _, rfl, rfl, m1, m2, m3, Nat.le_refl _, HB13.size, hA13⟩
    · obtain ⟨m1, m2, m3⟩ := two_fill ZA ZB (by omega) HB13 (Nat.le_refl _) (Nat.le_succ _) g u
      exact ⟨_, _, rfl, rfl, m1, m2, m3, Nat.le_refl _, Nat.le_succ _, by omega⟩
    · obtain ⟨m1, m2⟩ := mfill (ZA.alloc (.cells #[.int .u8 (g 0 0), .int .u8 (g 0 1), .int .u8 (g 0 2), .int .u8 (g 1 0), .int .u8 (g 1 1), .int .u8 (g 1 2), .int .u8 (g 2 0), .int .u8 (g 2 1), .int .u8 (g 2 2)] 25)) (HB13.trans ((ebox1 _ _).mono HB13.size)) (Nat.le_refl _) u
      exact ⟨_, _, rfl, rfl, mother (mbox w13 g _) hA13' u, m1, m2, HB13.size, Nat.le_refl _, hA13'⟩
    · obtain ⟨m1, m2, m3⟩ := two_fill ZB ZA (by omega) HB13 (Nat.le_succ _) (Nat.le_refl _) g u
      exact ⟨_, _, rfl, rfl, m1, m2, m3, Nat.le_succ _, Nat.le_refl _, by omega⟩
  case rest =>
    obtain ⟨Bp, Bu, rfl, rfl, rP5', rU5, hbx, hbp, hbu, hne⟩ := hcut
    have rG5 := erow_below rG hbx rG.lt
    have rP5 : wc.rowIs Bp 25 9 (mF (pw p g 1)) := rP5'
    have hb5 := hbW.trans (hbx.mono hbW.size)
    have hB9w : w.heap.size ≤ Bp := by omega
    have hB59 : w.heap.size ≠ Bp := by omega
    have hB89 : Bu ≠ Bp := fun e => hne e.symm
    clear c0 c1 c2 c3 c4 c5 c6 c7 c8 rP5' hbx hbW KKh rG
    go_wp2_with fail
    go_loopw [10] (fun i wr => ∃ (k : Nat), (1 ≤ k ∧ k ≤ 3001) ∧ i = .int .i64 k ∧ Hid (srch p g u 3000 1 = srch p g u (3001 - k) k) ∧ wr.rowIs w.heap.size 25 9 (mF g) ∧ wr.rowIs Bu 25 9 (mF u) ∧ wr.rowIs Bp 25 9 (mF (pw p g k)) ∧ Below w.heap.size w wr) (fun i _ => 3001 - (intOf i).toNat)
    case atStart => exact ⟨1, by omega, rfl, Lib.hid rfl, rG5, rU5, rP5, hb5⟩
    case round =>
      clear rG5 rU5 rP5 hb5
      obtain ⟨k, ⟨hk1, hk2⟩, rfl, HQ, qG, qU, qP, hb⟩ := hrel
      by_cases hlt : k ≤ 3000
      · have hlt' : (k : Int) ≤ 3000 := by omega
        obtain ⟨⟨a0, a1, a2⟩, ⟨a3, a4, a5⟩, a6, a7, a8⟩ := mcells qP
        obtain ⟨⟨b0, b1, b2⟩, ⟨b3, b4, b5⟩, b6, b7, b8⟩ := mcells qU
        obtain ⟨⟨c0, c1, c2⟩, ⟨c3, c4, c5⟩, c6, c7, c8⟩ := mcells qG
        obtain ⟨pb, po⟩ := HPW.out k
        have HPB := Lib.hid pb
        have HPO := Lib.hid po
        have HN := Lib.hid (pw_next p g hk1)
        obtain ⟨q, hq⟩ : ∃ q, pw p g k = q := ⟨_, rfl⟩
        have hit := fun he => HQ.out.trans (srch_hit (p := p) (g := g) (u := u) hlt he)
        have miss := fun he => HQ.out.trans (srch_miss (p := p) (g := g) (u := u) hlt he)
        rw [hq] at a0 a1 a2 a3 a4 a5 a6 a7 a8 qP HPB HPO HN hit miss
        have HIT := Lib.hid hit
        have MISS := Lib.hid miss
        clear pb po hit miss hq
        have hE := fun w => mat_eq q u w
        cases he : eqM q u
        · rw [he] at hE
          have HQ2 := Lib.hid (MISS.out he)
          clear he
          obtain ⟨r, hr⟩ : ∃ r, prodM p q g = r := ⟨_, rfl⟩
          have HRR := Lib.hid hr
          rw [hr] at HN
          clear hr
          go_wp2_with fail
          ((with_reducible refine (sprod_raw p m q g r _ h2 h13 HPB.out HB.out m3 HPO.out HO.out HRR.out).mono ?_); rintro e w6 ⟨rfl, hb6⟩)
          have hbw6 := hb.trans (hb6.mono hb.size)
          have sG := erow_below qG hb6 qG.lt
          have sU := erow_below qU hb6 qU.lt
          have sP := erow_below qP hb6 qP.lt
          clear a0 a1 a2 a3 a4 a5 a6 a7 a8 b0 b1 b2 b3 b4 b5 b6 b7 b8 c0 c1 c2 c3 c4 c5 c6 c7 c8 hE
          obtain ⟨⟨y0, y1, y2⟩, ⟨y3, y4, y5⟩, y6, y7, y8⟩ := mcells sP
          have z0 := sP.frozen 0
          have z1 := sP.frozen 1
          have z2 := sP.frozen 2
          have z3 := sP.frozen 3
          have z4 := sP.frozen 4
          have z5 := sP.frozen 5
          have z6 := sP.frozen 6
          have z7 := sP.frozen 7
          have z8 := sP.frozen 8
          have tP := (mfill (w := w) (B := w.heap.size) sP hbw6 hB9w r).1
          have tB := (mfill (w := w) (B := w.heap.size) sP hbw6 hB9w r).2
          have tG := mother sG hB59 r
          have tU := mother sU hB89 r
          have TP := Lib.hid tP
          have TB := Lib.hid tB
          have TG := Lib.hid tG
          have TU := Lib.hid tU
          clear tP tB tG tU
          go_wp2_with fail
          go_roundw
          case rel => exact ⟨k + 1, by omega, by go_num, HQ2, TG.out, TU.out, by rw [HN.out]; exact TP.out, TB.out⟩
          case measure => simp [intOf]; omega
        · rw [he] at hE
          have HX := Lib.hid (show T = Value.tuple #[.int .i64 (k : Int), .bool true] by rw [← HT.out, HIT.out he, if_neg (by omega)])
          clear he
          go_wp2_with fail
          exact bodyPost_ret (v := .tuple #[.int .i64 (k : Int), .bool true]) (by simp [results, Try.results40, go_sem]) rfl ⟨by rw [HX.out], hb⟩
      · obtain rfl : k = 3001 := by omega
        have HX := Lib.hid (show T = Value.tuple #[.int .i64 0, .bool false] by rw [← HT.out, HQ.out]; rfl)
        go_wp2_with fail
        exact bodyPost_ret (v := .tuple #[.int .i64 0, .bool false]) (by simp [results, Try.results40, go_sem]) rfl ⟨by rw [HX.out], hb⟩

theorem sorder0_agg (p : Int) (m : Nat) (g u : Nat → Nat → Int) (K : Nat) (w : World) (hv : MatV p m g) (hu : uM m = u) (hK : srch p g u 3000 1 = K) :
    Calls Try.prog 40 #[.int .i64 p, .int .i64 (m : Int), (.agg #[.int .u8 (g 0 0), .int .u8 (g 0 1), .int .u8 (g 0 2), .int .u8 (g 1 0), .int .u8 (g 1 1), .int .u8 (g 1 2), .int .u8 (g 2 0), .int .u8 (g 2 1), .int .u8 (g 2 2)])] w fun e w' => (K = 0 → e = .returned (.tuple #[.int .i64 0, .bool false])) ∧ (K ≠ 0 → e = .returned (.tuple #[.int .i64 (K : Int), .bool true])) ∧ Below w.heap.size w w' := by
  subst hK
  refine (sorder0 p m g u w hv hu).mono fun e w' ⟨h1, h2⟩ => ⟨fun h => ?_, fun h => ?_, h2⟩
  · rw [h1, if_pos h]
  · rw [h1, if_neg h]

set_option maxRecDepth 8000 in
set_option maxHeartbeats 8000000 in
theorem sorder (p n : Int) (g : Nat → Nat → Int) (w : World) (hg : Byt g) :
    Calls Try.prog 19 #[.int .i64 p, .int .i64 n, mv g] w fun e w' => e = .returned (.tuple #[.int .i64 (ordR p n g).1, .int .i64 (ordR p n g).2]) ∧ Below w.heap.size w w' := by
  obtain ⟨W, hW, rG, hbW⟩ : ∃ W, W = w.alloc (.cells #[.int .u8 (g 0 0), .int .u8 (g 0 1), .int .u8 (g 0 2), .int .u8 (g 1 0), .int .u8 (g 1 1), .int .u8 (g 1 2), .int .u8 (g 2 0), .int .u8 (g 2 1), .int .u8 (g 2 2)] 25) ∧ W.rowIs w.heap.size 25 9 (mF g) ∧ Below w.heap.size w W := ⟨_, rfl, mbox w g _, ebox1 _ _⟩
  have HG := Lib.hid hg
  cases h1 : isMat p n g
  · have HX := Lib.hid (show ordR p n g = (0, 2) by simp [ordR, h1])
    have H1 := Lib.hid h1
    clear h1 hg
    unfold mv
    go_enter Try.func19, Try.ntmps19
    go_wp2_with fail
    rw [← hW]
    clear hW
    ((with_reducible refine (smat_is p n g _ HG.out false H1.out).mono ?_); rintro e w1 ⟨rfl, hb1⟩)
    have hbw1 := hbW.trans (hb1.mono hbW.size)
    go_wp2_with fail
    exact bodyPost_ret (v := .tuple #[.int .i64 0, .int .i64 2]) (by simp [results, Try.results19, go_sem]) rfl ⟨by rw [HX.out], hbw1⟩
  · obtain ⟨m, rfl, hv⟩ := matV_of hg h1
    obtain ⟨u, hu⟩ : ∃ u, uM m = u := ⟨_, rfl⟩
    obtain ⟨K, hK⟩ : ∃ K, srch p g u 3000 1 = K := ⟨_, rfl⟩
    have HU := Lib.hid hu
    have HK := Lib.hid hK
    have HY := Lib.hid (show ordR p m g = if K = 0 then (0, 3) else ((K : Int), 0) by simp [ordR, h1, hu, hK])
    have H1 := Lib.hid h1
    clear h1 hg hu hK
    unfold mv
    go_enter Try.func19, Try.ntmps19
    go_wp2_with fail
    rw [← hW]
    clear hW
    ((with_reducible refine (smat_is p m g _ HG.out true H1.out).mono ?_); rintro e w1 ⟨rfl, hb1⟩)
    obtain ⟨⟨c0, c1, c2⟩, ⟨c3, c4, c5⟩, c6, c7, c8⟩ := mcells (erow_below rG hb1 rG.lt)
    go_wp2_with fail
    ((with_reducible refine (sorder0_agg p m g u K _ hv HU.out HK.out).mono ?_); rintro e w2 ⟨e1, e2, hb2⟩)
    have hbw1 := hbW.trans ((hb1.trans (hb2.mono hb1.size)).mono hbW.size)
    clear c0 c1 c2 c3 c4 c5 c6 c7 c8
    by_cases hz : K = 0
    · obtain rfl := e1 hz
      have HX := Lib.hid (show ordR p m g = (0, 3) by rw [HY.out, if_pos hz])
      clear e1 e2 hz
      go_wp2_with fail
      exact bodyPost_ret (v := .tuple #[.int .i64 0, .int .i64 3]) (by simp [results, Try.results19, go_sem]) rfl ⟨by rw [HX.out], hbw1⟩
    · obtain rfl := e2 hz
      have HX := Lib.hid (show ordR p m g = ((K : Int), 0) by rw [HY.out, if_neg hz])
      clear e1 e2 hz
      go_wp2_with fail
      exact bodyPost_ret (v := .tuple #[.int .i64 (K : Int), .int .i64 0]) (by simp [results, Try.results19, go_sem]) rfl ⟨by rw [HX.out], hbw1⟩
end Go.Proofs.Ytflhfbdcljbleaa
