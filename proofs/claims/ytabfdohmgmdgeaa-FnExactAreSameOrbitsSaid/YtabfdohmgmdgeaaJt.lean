/-
  WALKS of the laws on matrices: copying. Conditions: as each theorem states.
-/
import Derived.Test.YtabfdohmgmdgeaaEn
namespace Go.Proofs.Ytabfdohmgmdgeaa
open Go.RowKit Go.Sort EchM

set_option maxHeartbeats 2000000 in
theorem tobyte3 (x y z : Int) (w : World) : Calls Try.prog 41 #[.agg #[.int .u8 x, .int .u8 y, .int .u8 z]] w fun e w' => e = .returned (.agg #[.int .u8 x, .int .u8 y, .int .u8 z]) ∧ Below w.heap.size w w' := by
  go_enter Try.func41, Try.ntmps41
  go_wp2
  refine wp_loop_rounds 4 ?_
  iterate 4 (rw [rounds_succ]; go_wp2)
  exact bodyPost_ret (v := .agg #[.int .u8 x, .int .u8 y, .int .u8 z]) (by simp [results, Try.results41, go_sem]) rfl ⟨rfl, (ebox2 _ _ _).alloc (by simp; omega) _⟩

set_option maxRecDepth 8000 in
set_option maxHeartbeats 4000000 in
theorem tomat (g : Nat → Nat → Int) (w : World) : Calls Try.prog 29 #[mv g] w fun e w' => e = .returned (mv g) ∧ Below w.heap.size w w' := by
  obtain ⟨W, hW, rW, rR, rO, hbW⟩ : ∃ W, W = ((w.alloc (.cells #[.int .u8 (g 0 0), .int .u8 (g 0 1), .int .u8 (g 0 2), .int .u8 (g 1 0), .int .u8 (g 1 1), .int .u8 (g 1 2), .int .u8 (g 2 0), .int .u8 (g 2 1), .int .u8 (g 2 2)] 55)).alloc (.cells #[.int .u8 0, .int .u8 0, .int .u8 0, .int .u8 0, .int .u8 0, .int .u8 0, .int .u8 0, .int .u8 0, .int .u8 0] 56)).alloc (.cells #[.int .u8 0, .int .u8 0, .int .u8 0, .int .u8 0, .int .u8 0, .int .u8 0, .int .u8 0, .int .u8 0, .int .u8 0] 56) ∧
      W.rowIs w.heap.size 55 9 (mF g) ∧ W.rowIs (w.heap.size + 1) 56 9 (mF fun _ _ => 0) ∧ W.rowIs (w.heap.size + 2) 56 9 (mF fun _ _ => 0) ∧ Below w.heap.size w W := by
    refine ⟨_, rfl, ((mbox w g _).alloc _).alloc _, ?_, ?_, (ebox2 _ _ _).alloc (by simp; omega) _⟩
    · have := mbox (w.alloc (.cells #[.int .u8 (g 0 0), .int .u8 (g 0 1), .int .u8 (g 0 2), .int .u8 (g 1 0), .int .u8 (g 1 1), .int .u8 (g 1 2), .int .u8 (g 2 0), .int .u8 (g 2 1), .int .u8 (g 2 2)] 55)) (fun _ _ => 0) 56
      rw [World.size_alloc] at this
      exact this.alloc _
    · have := mbox ((w.alloc (.cells #[.int .u8 (g 0 0), .int .u8 (g 0 1), .int .u8 (g 0 2), .int .u8 (g 1 0), .int .u8 (g 1 1), .int .u8 (g 1 2), .int .u8 (g 2 0), .int .u8 (g 2 1), .int .u8 (g 2 2)] 55)).alloc (.cells #[.int .u8 0, .int .u8 0, .int .u8 0, .int .u8 0, .int .u8 0, .int .u8 0, .int .u8 0, .int .u8 0, .int .u8 0] 56)) (fun _ _ => 0) 56
      rw [World.size_alloc, World.size_alloc] at this
      exact this
  have hWs : w.heap.size + 3 ≤ W.heap.size := by rw [hW]; simp
  unfold mv
  go_enter Try.func29, Try.ntmps29
  go_upto_region 2 with fail
  rw [← hW]
  clear hW
  go_wp2_with fail
  go_loopw [4] (fun i wr => ∃ (k : Nat), k ≤ 3 ∧ i = .int .i64 k ∧ wr.rowIs w.heap.size 55 9 (mF g) ∧ wr.rowIs (w.heap.size + 1) 56 9 (mF fun _ _ => 0) ∧ wr.rowIs (w.heap.size + 2) 56 9 (mF fun a b => if a < k then g a b else 0) ∧ Below w.heap.size w wr ∧ w.heap.size + 3 ≤ wr.heap.size) (fun i _ => 3 - (intOf i).toNat)
  case atStart => exact ⟨0, by omega, rfl, rW, rR, mF_congr rO (fun a _ b _ => by simp), hbW, hWs⟩
  case round =>
    obtain ⟨k, hk, rfl, q1, q2, q3, hb, hs⟩ := hrel
    by_cases hlt : k < 3
    · obtain ⟨⟨c0, c1, c2⟩, ⟨c3, c4, c5⟩, c6, c7, c8⟩ := mcells q1
      have h3 : k = 0 ∨ k = 1 ∨ k = 2 := by omega
      rcases h3 with rfl | rfl | rfl
      all_goals
        go_wp2_with fail
        ((with_reducible refine (tobyte3 _ _ _ _).mono ?_); rintro e w2 ⟨rfl, hb2⟩)
        have p1 := erow_below q1 hb2 q1.lt
        have p2 := erow_below q2 hb2 q2.lt
        have p3 := erow_below q3 hb2 q3.lt
        have hb3 := hb.trans (hb2.mono hb.size)
        have hs3 := hb2.size
        obtain ⟨⟨o0, o1, o2⟩, ⟨o3, o4, o5⟩, o6, o7, o8⟩ := mcells p3
        have z0 := p3.frozen 0
        have z1 := p3.frozen 1
        have z2 := p3.frozen 2
        have z3 := p3.frozen 3
        have z4 := p3.frozen 4
        have z5 := p3.frozen 5
        have z6 := p3.frozen 6
        have z7 := p3.frozen 7
        have z8 := p3.frozen 8
        clear c0 c1 c2 c3 c4 c5 c6 c7 c8
      · have r1 := (((p3.set 0 (.int .u8 (g 0 0))).set 1 (.int .u8 (g 0 1))).set 2 (.int .u8 (g 0 2))).congr (g := mF fun a b => if a < 1 then g a b else 0) fun q hq => by
          match q, hq with | 0, _ => rfl | 1, _ => rfl | 2, _ => rfl | 3, _ => rfl | 4, _ => rfl | 5, _ => rfl | 6, _ => rfl | 7, _ => rfl | 8, _ => rfl
        go_wp2_with fail
        go_roundw
        case rel => exact ⟨1, by omega, by go_num, ((p1.setOther (by simp; omega) _).setOther (by simp; omega) _).setOther (by simp; omega) _, ((p2.setOther (by simp) _).setOther (by simp) _).setOther (by simp) _, r1, ((hb3.setCell (by simp; omega) _).setCell (by simp; omega) _).setCell (by simp; omega) _, by simp; omega⟩
        case measure => simp [intOf]
      · have r1 := (((p3.set 3 (.int .u8 (g 1 0))).set 4 (.int .u8 (g 1 1))).set 5 (.int .u8 (g 1 2))).congr (g := mF fun a b => if a < 2 then g a b else 0) fun q hq => by
          match q, hq with | 0, _ => rfl | 1, _ => rfl | 2, _ => rfl | 3, _ => rfl | 4, _ => rfl | 5, _ => rfl | 6, _ => rfl | 7, _ => rfl | 8, _ => rfl
        go_wp2_with fail
        go_roundw
        case rel => exact ⟨2, by omega, by go_num, ((p1.setOther (by simp; omega) _).setOther (by simp; omega) _).setOther (by simp; omega) _, ((p2.setOther (by simp) _).setOther (by simp) _).setOther (by simp) _, r1, ((hb3.setCell (by simp; omega) _).setCell (by simp; omega) _).setCell (by simp; omega) _, by simp; omega⟩
        case measure => simp [intOf]
      · have r1 := (((p3.set 6 (.int .u8 (g 2 0))).set 7 (.int .u8 (g 2 1))).set 8 (.int .u8 (g 2 2))).congr (g := mF fun a b => if a < 3 then g a b else 0) fun q hq => by
          match q, hq with | 0, _ => rfl | 1, _ => rfl | 2, _ => rfl | 3, _ => rfl | 4, _ => rfl | 5, _ => rfl | 6, _ => rfl | 7, _ => rfl | 8, _ => rfl
        go_wp2_with fail
        go_roundw
        case rel => exact ⟨3, by omega, by go_num, ((p1.setOther (by simp; omega) _).setOther (by simp; omega) _).setOther (by simp; omega) _, ((p2.setOther (by simp) _).setOther (by simp) _).setOther (by simp) _, r1, ((hb3.setCell (by simp; omega) _).setCell (by simp; omega) _).setCell (by simp; omega) _, by simp; omega⟩
        case measure => simp [intOf]
    · obtain rfl : k = 3 := by omega
      have q4 := mF_congr (h := g) q3 (fun a ha b _ => by simp [ha])
      obtain ⟨⟨o0, o1, o2⟩, ⟨o3, o4, o5⟩, o6, o7, o8⟩ := mcells q4
      obtain ⟨⟨y0, y1, y2⟩, ⟨y3, y4, y5⟩, y6, y7, y8⟩ := mcells q2
      have z0 := q2.frozen 0
      have z1 := q2.frozen 1
      have z2 := q2.frozen 2
      have z3 := q2.frozen 3
      have z4 := q2.frozen 4
      have z5 := q2.frozen 5
      have z6 := q2.frozen 6
      have z7 := q2.frozen 7
      have z8 := q2.frozen 8
      obtain ⟨hf1, hf2⟩ := mfill (w := w) (B := w.heap.size) q2 hb (by omega) g
      obtain ⟨⟨v0, v1, v2⟩, ⟨v3, v4, v5⟩, v6, v7, v8⟩ := mcells hf1
      have V0 := Lib.hid v0
      have V1 := Lib.hid v1
      have V2 := Lib.hid v2
      have V3 := Lib.hid v3
      have V4 := Lib.hid v4
      have V5 := Lib.hid v5
      have V6 := Lib.hid v6
      have V7 := Lib.hid v7
      have V8 := Lib.hid v8
      have HF2 := Lib.hid hf2
      clear hf1 hf2 v0 v1 v2 v3 v4 v5 v6 v7 v8 q3 q4
      go_wp2_with fail
      exact bodyPost_ret (v := mv g) (by simp [results, Try.results29, go_sem, mv, V0.out, V1.out, V2.out, V3.out, V4.out, V5.out, V6.out, V7.out, V8.out]) rfl ⟨rfl, HF2.out⟩
theorem tomat_agg (g : Nat → Nat → Int) (w : World) : Calls Try.prog 29 #[.agg #[.int .u8 (g 0 0), .int .u8 (g 0 1), .int .u8 (g 0 2), .int .u8 (g 1 0), .int .u8 (g 1 1), .int .u8 (g 1 2), .int .u8 (g 2 0), .int .u8 (g 2 1), .int .u8 (g 2 2)]] w fun e w' => e = .returned (.agg #[.int .u8 (g 0 0), .int .u8 (g 0 1), .int .u8 (g 0 2), .int .u8 (g 1 0), .int .u8 (g 1 1), .int .u8 (g 1 2), .int .u8 (g 2 0), .int .u8 (g 2 1), .int .u8 (g 2 2)]) ∧ Below w.heap.size w w' := tomat g w
end Go.Proofs.Ytabfdohmgmdgeaa
