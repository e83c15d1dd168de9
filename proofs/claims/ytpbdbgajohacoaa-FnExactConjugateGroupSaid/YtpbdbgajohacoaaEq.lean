/-
  WALKS of the program on matrices: filled matrices, cofactors. Conditions: as each theorem states.
-/
import Derived.Test.YtpbdbgajohacoaaEp
import Derived.Deep.RegionHeld3
import Derived.Deep.DeepCutAuto
namespace Go.Proofs.Ytpbdbgajohacoaa
open Go.RowKit Go.Sort EchM

set_option maxRecDepth 8000 in
set_option maxHeartbeats 4000000 in
theorem filled_any (n : Nat) (g : Nat → Nat → Int) (w : World) (h1 : 1 ≤ n) (h3 : n ≤ 3) :
    Calls Try.prog 97 #[.int .i64 (n : Int), mv g] w fun e w' => e = .returned (mv (fullM n g)) ∧ Below w.heap.size w w' := by
  have hn : n = 1 ∨ n = 2 ∨ n = 3 := by omega
  unfold mv
  rcases hn with rfl | rfl | rfl
  all_goals
    simp only [fullM]
    simp
    go_enter Try.func97, Try.ntmps97
    go_wp2
    refine wp_loop_rounds 4 ?_
    iterate 3 (try (rw [rounds_succ]; go_wp2))
  · exact bodyPost_ret (v := mv (fullM 1 g)) (by simp [results, Try.results97, go_sem, mv, fullM]) rfl ⟨by simp [mv, fullM], ebox2 _ _ _⟩
  · exact bodyPost_ret (v := mv (fullM 2 g)) (by simp [results, Try.results97, go_sem, mv, fullM]) rfl ⟨by simp [mv, fullM], ebox2 _ _ _⟩
  · exact bodyPost_ret (v := mv (fullM 3 g)) (by simp [results, Try.results97, go_sem, mv, fullM]) rfl ⟨by simp [mv, fullM], ebox2 _ _ _⟩
/-- A row of three bytes. -/
def r3F (x y z : Int) : Nat → Value := fun q => if q = 0 then .int .u8 x else if q = 1 then .int .u8 y else .int .u8 z
theorem r3row (w : World) (x y z : Int) : (w.drew.alloc (.cells #[.int .u8 x, .int .u8 y, .int .u8 z] 52)).rowIs w.heap.size 52 3 (r3F x y z) := by
  have := World.rowIs_alloc w.drew #[Value.int .u8 x, .int .u8 y, .int .u8 z] 52 (r3F x y z) (fun i hi => by simp at hi; match i, hi with | 0, _ => rfl | 1, _ => rfl | 2, _ => rfl)
  exact this
theorem r3row1 (w : World) (o : Obj) (x y z : Int) : ((w.drew.alloc o).alloc (.cells #[.int .u8 x, .int .u8 y, .int .u8 z] 52)).rowIs (w.heap.size + 1) 52 3 (r3F x y z) := by
  have := World.rowIs_alloc (w.drew.alloc o) #[Value.int .u8 x, .int .u8 y, .int .u8 z] 52 (r3F x y z) (fun i hi => by simp at hi; match i, hi with | 0, _ => rfl | 1, _ => rfl | 2, _ => rfl)
  simpa using this
theorem r3cells {w : World} {B : Nat} {t : TypeId} {x y z : Int} (h : w.rowIs B t 3 (r3F x y z)) : w.cell? ⟨B, 0, none⟩ = some (.int .u8 x) ∧ w.cell? ⟨B, 1, none⟩ = some (.int .u8 y) ∧ w.cell? ⟨B, 2, none⟩ = some (.int .u8 z) :=
  ⟨h.cell (i := 0) (by omega), h.cell (i := 1) (by omega), h.cell (i := 2) (by omega)⟩


set_option maxRecDepth 8000 in
set_option maxHeartbeats 4000000 in
theorem cof_00 (p : Int) (f : Nat → Nat → Int) (w : World) (h2 : 2 ≤ p) (h13 : p ≤ 13) (hf : ∀ i, i < 3 → ∀ j, j < 3 → 0 ≤ f i j ∧ f i j < p) :
    Calls Try.prog 98 #[.int .i64 p, mv f, .int .i64 0, .int .i64 0] w fun e w' => e = .returned (.int .i64 (cofP p f 0 0)) ∧ Below w.heap.size w w' := by
  obtain ⟨W, hW, rW, hbW⟩ : ∃ W, W = w.alloc (.cells #[.int .u8 (f 0 0), .int .u8 (f 0 1), .int .u8 (f 0 2), .int .u8 (f 1 0), .int .u8 (f 1 1), .int .u8 (f 1 2), .int .u8 (f 2 0), .int .u8 (f 2 1), .int .u8 (f 2 2)] 55) ∧ W.rowIs w.heap.size 55 9 (mF f) ∧ Below w.heap.size w W := ⟨_, rfl, mbox w f _, ebox1 _ _⟩
  obtain ⟨⟨c0, c1, c2⟩, ⟨c3, c4, c5⟩, c6, c7, c8⟩ := mcells rW
  have HC := Lib.hid (show cofP p f 0 0 = (f 1 1 * f 2 2 + (p - 1) * (f 1 2 * f 2 1)) % p from rfl)
  have b0 := hf 1 (by omega) 0 (by omega)
  have b1 := hf 1 (by omega) 1 (by omega)
  have b2 := hf 1 (by omega) 2 (by omega)
  have e0 := hf 2 (by omega) 0 (by omega)
  have e1 := hf 2 (by omega) 1 (by omega)
  have e2 := hf 2 (by omega) 2 (by omega)
  clear hf
  have s1 : IntKind.i64.wrap 1 = 1 := by decide
  have s2 : IntKind.i64.wrap 2 = 2 := by decide
  have s3 : IntKind.i64.wrap 3 = 3 := by decide
  have s4 : IntKind.i64.wrap 4 = 4 := by decide
  have t1 : (1 : Int).tmod 3 = 1 := by decide
  have t2 : (2 : Int).tmod 3 = 2 := by decide
  have t3 : (3 : Int).tmod 3 = 0 := by decide
  have t4 : (4 : Int).tmod 3 = 1 := by decide
  unfold mv
  go_enter Try.func98, Try.ntmps98
  go_upto_region 1 with fail
  rw [← hW]
  clear hW
  have hlt := rW.lt
  generalize f 1 0 = x at *
  generalize f 1 1 = y at *
  generalize f 1 2 = z at *
  generalize f 2 0 = u at *
  generalize f 2 1 = v at *
  generalize f 2 2 = t at *
  have KK := Lib.hid (fun w' (h : Below W.heap.size W w') => show w'.cell? ⟨w.heap.size, 3, none⟩ = some (.int .u8 x) ∧ w'.cell? ⟨w.heap.size, 4, none⟩ = some (.int .u8 y) ∧ w'.cell? ⟨w.heap.size, 5, none⟩ = some (.int .u8 z) ∧ w'.cell? ⟨w.heap.size, 6, none⟩ = some (.int .u8 u) ∧ w'.cell? ⟨w.heap.size, 7, none⟩ = some (.int .u8 v) ∧ w'.cell? ⟨w.heap.size, 8, none⟩ = some (.int .u8 t) from
    ⟨(h.cell (p := ⟨_, _, none⟩) hlt).trans c3, (h.cell (p := ⟨_, _, none⟩) hlt).trans c4, (h.cell (p := ⟨_, _, none⟩) hlt).trans c5, (h.cell (p := ⟨_, _, none⟩) hlt).trans c6, (h.cell (p := ⟨_, _, none⟩) hlt).trans c7, (h.cell (p := ⟨_, _, none⟩) hlt).trans c8⟩)
  go_cut [9, 10] (fun s9 s10 wx => ∃ ba bb, s9 = .pointer (some ⟨ba, 0, none⟩) ∧ s10 = .pointer (some ⟨bb, 0, none⟩) ∧ wx.rowIs ba 52 3 (r3F x y z) ∧ wx.rowIs bb 52 3 (r3F u v t) ∧ Below W.heap.size W wx)
  case first =>
    go_region_held3 (fun w' => w'.cell? ⟨w.heap.size, 3, none⟩ = some (.int .u8 x) ∧ w'.cell? ⟨w.heap.size, 4, none⟩ = some (.int .u8 y) ∧ w'.cell? ⟨w.heap.size, 5, none⟩ = some (.int .u8 z) ∧ w'.cell? ⟨w.heap.size, 6, none⟩ = some (.int .u8 u) ∧ w'.cell? ⟨w.heap.size, 7, none⟩ = some (.int .u8 v) ∧ w'.cell? ⟨w.heap.size, 8, none⟩ = some (.int .u8 t))
      (first | with_reducible exact KK.out _ (Below.refl _ _).drew | with_reducible exact KK.out _ (ebox1 _ _) | with_reducible exact KK.out _ (ebox1 _ _).drew | with_reducible exact KK.out _ (ebox2 _ _ _) | with_reducible exact KK.out _ (ebox2 _ _ _).drew)
      (fail)
    all_goals
      go_wp2_with fail
      go_meet
      first
        | exact ⟨W.heap.size, W.heap.size + 1, rfl, rfl, (r3row W x y z).alloc _, r3row1 W _ u v t, (ebox2 _ _ _).drew⟩
        | exact ⟨W.heap.size + 1, W.heap.size, rfl, rfl, r3row1 W _ x y z, (r3row W u v t).alloc _, (ebox2 _ _ _).drew⟩
  case rest =>
    obtain ⟨ba, bb, rfl, rfl, ra, rb, hbx⟩ := hcut
    obtain ⟨m0, m1, m2⟩ := r3cells ra
    obtain ⟨n0, n1, n2⟩ := r3cells rb
    obtain ⟨f0, f1⟩ := eprod_fit h13 (a := y) (b := t) b1 e2
    obtain ⟨g0, g1⟩ := eprod_fit h13 (a := z) (b := v) b2 e1
    have q0 : 0 ≤ (p - 1) * (z * v) := Int.mul_nonneg (by omega) g0
    have q1 : (p - 1) * (z * v) ≤ 12 * 169 := Int.mul_le_mul (by omega) g1 g0 (by omega)
    have hb2 := hbW.trans (hbx.mono hbW.size)
    clear KK c0 c1 c2 c3 c4 c5 c6 c7 c8 ra rb hbx hbW rW
    go_wp2_with fail
    go_quiet (fail)
    go_wp2_with fail
    go_quiet (fail)
    go_wp2_with fail
    go_ret
    exact ⟨by rw [HC.out]; rfl, below_drewN hb2 _⟩

set_option maxRecDepth 8000 in
set_option maxHeartbeats 4000000 in
theorem cof_01 (p : Int) (f : Nat → Nat → Int) (w : World) (h2 : 2 ≤ p) (h13 : p ≤ 13) (hf : ∀ i, i < 3 → ∀ j, j < 3 → 0 ≤ f i j ∧ f i j < p) :
    Calls Try.prog 98 #[.int .i64 p, mv f, .int .i64 0, .int .i64 1] w fun e w' => e = .returned (.int .i64 (cofP p f 0 1)) ∧ Below w.heap.size w w' := by
  obtain ⟨W, hW, rW, hbW⟩ : ∃ W, W = w.alloc (.cells #[.int .u8 (f 0 0), .int .u8 (f 0 1), .int .u8 (f 0 2), .int .u8 (f 1 0), .int .u8 (f 1 1), .int .u8 (f 1 2), .int .u8 (f 2 0), .int .u8 (f 2 1), .int .u8 (f 2 2)] 55) ∧ W.rowIs w.heap.size 55 9 (mF f) ∧ Below w.heap.size w W := ⟨_, rfl, mbox w f _, ebox1 _ _⟩
  obtain ⟨⟨c0, c1, c2⟩, ⟨c3, c4, c5⟩, c6, c7, c8⟩ := mcells rW
  have HC := Lib.hid (show cofP p f 0 1 = (f 1 2 * f 2 0 + (p - 1) * (f 1 0 * f 2 2)) % p from rfl)
  have b0 := hf 1 (by omega) 0 (by omega)
  have b1 := hf 1 (by omega) 1 (by omega)
  have b2 := hf 1 (by omega) 2 (by omega)
  have e0 := hf 2 (by omega) 0 (by omega)
  have e1 := hf 2 (by omega) 1 (by omega)
  have e2 := hf 2 (by omega) 2 (by omega)
  clear hf
  have s1 : IntKind.i64.wrap 1 = 1 := by decide
  have s2 : IntKind.i64.wrap 2 = 2 := by decide
  have s3 : IntKind.i64.wrap 3 = 3 := by decide
  have s4 : IntKind.i64.wrap 4 = 4 := by decide
  have t1 : (1 : Int).tmod 3 = 1 := by decide
  have t2 : (2 : Int).tmod 3 = 2 := by decide
  have t3 : (3 : Int).tmod 3 = 0 := by decide
  have t4 : (4 : Int).tmod 3 = 1 := by decide
  unfold mv
  go_enter Try.func98, Try.ntmps98
  go_upto_region 1 with fail
  rw [← hW]
  clear hW
  have hlt := rW.lt
  generalize f 1 0 = x at *
  generalize f 1 1 = y at *
  generalize f 1 2 = z at *
  generalize f 2 0 = u at *
  generalize f 2 1 = v at *
  generalize f 2 2 = t at *
  have KK := Lib.hid (fun w' (h : Below W.heap.size W w') => show w'.cell? ⟨w.heap.size, 3, none⟩ = some (.int .u8 x) ∧ w'.cell? ⟨w.heap.size, 4, none⟩ = some (.int .u8 y) ∧ w'.cell? ⟨w.heap.size, 5, none⟩ = some (.int .u8 z) ∧ w'.cell? ⟨w.heap.size, 6, none⟩ = some (.int .u8 u) ∧ w'.cell? ⟨w.heap.size, 7, none⟩ = some (.int .u8 v) ∧ w'.cell? ⟨w.heap.size, 8, none⟩ = some (.int .u8 t) from
    ⟨(h.cell (p := ⟨_, _, none⟩) hlt).trans c3, (h.cell (p := ⟨_, _, none⟩) hlt).trans c4, (h.cell (p := ⟨_, _, none⟩) hlt).trans c5, (h.cell (p := ⟨_, _, none⟩) hlt).trans c6, (h.cell (p := ⟨_, _, none⟩) hlt).trans c7, (h.cell (p := ⟨_, _, none⟩) hlt).trans c8⟩)
  go_cut [9, 10] (fun s9 s10 wx => ∃ ba bb, s9 = .pointer (some ⟨ba, 0, none⟩) ∧ s10 = .pointer (some ⟨bb, 0, none⟩) ∧ wx.rowIs ba 52 3 (r3F x y z) ∧ wx.rowIs bb 52 3 (r3F u v t) ∧ Below W.heap.size W wx)
  case first =>
    go_region_held3 (fun w' => w'.cell? ⟨w.heap.size, 3, none⟩ = some (.int .u8 x) ∧ w'.cell? ⟨w.heap.size, 4, none⟩ = some (.int .u8 y) ∧ w'.cell? ⟨w.heap.size, 5, none⟩ = some (.int .u8 z) ∧ w'.cell? ⟨w.heap.size, 6, none⟩ = some (.int .u8 u) ∧ w'.cell? ⟨w.heap.size, 7, none⟩ = some (.int .u8 v) ∧ w'.cell? ⟨w.heap.size, 8, none⟩ = some (.int .u8 t))
      (first | with_reducible exact KK.out _ (Below.refl _ _).drew | with_reducible exact KK.out _ (ebox1 _ _) | with_reducible exact KK.out _ (ebox1 _ _).drew | with_reducible exact KK.out _ (ebox2 _ _ _) | with_reducible exact KK.out _ (ebox2 _ _ _).drew)
      (fail)
    all_goals
      go_wp2_with fail
      go_meet
      first
        | exact ⟨W.heap.size, W.heap.size + 1, rfl, rfl, (r3row W x y z).alloc _, r3row1 W _ u v t, (ebox2 _ _ _).drew⟩
        | exact ⟨W.heap.size + 1, W.heap.size, rfl, rfl, r3row1 W _ x y z, (r3row W u v t).alloc _, (ebox2 _ _ _).drew⟩
  case rest =>
    obtain ⟨ba, bb, rfl, rfl, ra, rb, hbx⟩ := hcut
    obtain ⟨m0, m1, m2⟩ := r3cells ra
    obtain ⟨n0, n1, n2⟩ := r3cells rb
    obtain ⟨f0, f1⟩ := eprod_fit h13 (a := z) (b := u) b2 e0
    obtain ⟨g0, g1⟩ := eprod_fit h13 (a := x) (b := t) b0 e2
    have q0 : 0 ≤ (p - 1) * (x * t) := Int.mul_nonneg (by omega) g0
    have q1 : (p - 1) * (x * t) ≤ 12 * 169 := Int.mul_le_mul (by omega) g1 g0 (by omega)
    have hb2 := hbW.trans (hbx.mono hbW.size)
    clear KK c0 c1 c2 c3 c4 c5 c6 c7 c8 ra rb hbx hbW rW
    go_wp2_with fail
    go_quiet (fail)
    go_wp2_with fail
    go_quiet (fail)
    go_wp2_with fail
    go_ret
    exact ⟨by rw [HC.out]; rfl, below_drewN hb2 _⟩

set_option maxRecDepth 8000 in
set_option maxHeartbeats 4000000 in
theorem cof_02 (p : Int) (f : Nat → Nat → Int) (w : World) (h2 : 2 ≤ p) (h13 : p ≤ 13) (hf : ∀ i, i < 3 → ∀ j, j < 3 → 0 ≤ f i j ∧ f i j < p) :
    Calls Try.prog 98 #[.int .i64 p, mv f, .int .i64 0, .int .i64 2] w fun e w' => e = .returned (.int .i64 (cofP p f 0 2)) ∧ Below w.heap.size w w' := by
  obtain ⟨W, hW, rW, hbW⟩ : ∃ W, W = w.alloc (.cells #[.int .u8 (f 0 0), .int .u8 (f 0 1), .int .u8 (f 0 2), .int .u8 (f 1 0), .int .u8 (f 1 1), .int .u8 (f 1 2), .int .u8 (f 2 0), .int .u8 (f 2 1), .int .u8 (f 2 2)] 55) ∧ W.rowIs w.heap.size 55 9 (mF f) ∧ Below w.heap.size w W := ⟨_, rfl, mbox w f _, ebox1 _ _⟩
  obtain ⟨⟨c0, c1, c2⟩, ⟨c3, c4, c5⟩, c6, c7, c8⟩ := mcells rW
  have HC := Lib.hid (show cofP p f 0 2 = (f 1 0 * f 2 1 + (p - 1) * (f 1 1 * f 2 0)) % p from rfl)
  have b0 := hf 1 (by omega) 0 (by omega)
  have b1 := hf 1 (by omega) 1 (by omega)
  have b2 := hf 1 (by omega) 2 (by omega)
  have e0 := hf 2 (by omega) 0 (by omega)
  have e1 := hf 2 (by omega) 1 (by omega)
  have e2 := hf 2 (by omega) 2 (by omega)
  clear hf
  have s1 : IntKind.i64.wrap 1 = 1 := by decide
  have s2 : IntKind.i64.wrap 2 = 2 := by decide
  have s3 : IntKind.i64.wrap 3 = 3 := by decide
  have s4 : IntKind.i64.wrap 4 = 4 := by decide
  have t1 : (1 : Int).tmod 3 = 1 := by decide
  have t2 : (2 : Int).tmod 3 = 2 := by decide
  have t3 : (3 : Int).tmod 3 = 0 := by decide
  have t4 : (4 : Int).tmod 3 = 1 := by decide
  unfold mv
  go_enter Try.func98, Try.ntmps98
  go_upto_region 1 with fail
  rw [← hW]
  clear hW
  have hlt := rW.lt
  generalize f 1 0 = x at *
  generalize f 1 1 = y at *
  generalize f 1 2 = z at *
  generalize f 2 0 = u at *
  generalize f 2 1 = v at *
  generalize f 2 2 = t at *
  have KK := Lib.hid (fun w' (h : Below W.heap.size W w') => show w'.cell? ⟨w.heap.size, 3, none⟩ = some (.int .u8 x) ∧ w'.cell? ⟨w.heap.size, 4, none⟩ = some (.int .u8 y) ∧ w'.cell? ⟨w.heap.size, 5, none⟩ = some (.int .u8 z) ∧ w'.cell? ⟨w.heap.size, 6, none⟩ = some (.int .u8 u) ∧ w'.cell? ⟨w.heap.size, 7, none⟩ = some (.int .u8 v) ∧ w'.cell? ⟨w.heap.size, 8, none⟩ = some (.int .u8 t) from
    ⟨(h.cell (p := ⟨_, _, none⟩) hlt).trans c3, (h.cell (p := ⟨_, _, none⟩) hlt).trans c4, (h.cell (p := ⟨_, _, none⟩) hlt).trans c5, (h.cell (p := ⟨_, _, none⟩) hlt).trans c6, (h.cell (p := ⟨_, _, none⟩) hlt).trans c7, (h.cell (p := ⟨_, _, none⟩) hlt).trans c8⟩)
  go_cut [9, 10] (fun s9 s10 wx => ∃ ba bb, s9 = .pointer (some ⟨ba, 0, none⟩) ∧ s10 = .pointer (some ⟨bb, 0, none⟩) ∧ wx.rowIs ba 52 3 (r3F x y z) ∧ wx.rowIs bb 52 3 (r3F u v t) ∧ Below W.heap.size W wx)
  case first =>
    go_region_held3 (fun w' => w'.cell? ⟨w.heap.size, 3, none⟩ = some (.int .u8 x) ∧ w'.cell? ⟨w.heap.size, 4, none⟩ = some (.int .u8 y) ∧ w'.cell? ⟨w.heap.size, 5, none⟩ = some (.int .u8 z) ∧ w'.cell? ⟨w.heap.size, 6, none⟩ = some (.int .u8 u) ∧ w'.cell? ⟨w.heap.size, 7, none⟩ = some (.int .u8 v) ∧ w'.cell? ⟨w.heap.size, 8, none⟩ = some (.int .u8 t))
      (first | with_reducible exact KK.out _ (Below.refl _ _).drew | with_reducible exact KK.out _ (ebox1 _ _) | with_reducible exact KK.out _ (ebox1 _ _).drew | with_reducible exact KK.out _ (ebox2 _ _ _) | with_reducible exact KK.out _ (ebox2 _ _ _).drew)
      (fail)
    all_goals
      go_wp2_with fail
      go_meet
      first
        | exact ⟨W.heap.size, W.heap.size + 1, rfl, rfl, (r3row W x y z).alloc _, r3row1 W _ u v t, (ebox2 _ _ _).drew⟩
        | exact ⟨W.heap.size + 1, W.heap.size, rfl, rfl, r3row1 W _ x y z, (r3row W u v t).alloc _, (ebox2 _ _ _).drew⟩
  case rest =>
    obtain ⟨ba, bb, rfl, rfl, ra, rb, hbx⟩ := hcut
    obtain ⟨m0, m1, m2⟩ := r3cells ra
    obtain ⟨n0, n1, n2⟩ := r3cells rb
    obtain ⟨f0, f1⟩ := eprod_fit h13 (a := x) (b := v) b0 e1
    obtain ⟨g0, g1⟩ := eprod_fit h13 (a := y) (b := u) b1 e0
    have q0 : 0 ≤ (p - 1) * (y * u) := Int.mul_nonneg (by omega) g0
    have q1 : (p - 1) * (y * u) ≤ 12 * 169 := Int.mul_le_mul (by omega) g1 g0 (by omega)
    have hb2 := hbW.trans (hbx.mono hbW.size)
    clear KK c0 c1 c2 c3 c4 c5 c6 c7 c8 ra rb hbx hbW rW
    go_wp2_with fail
    go_quiet (fail)
    go_wp2_with fail
    go_quiet (fail)
    go_wp2_with fail
    go_ret
    exact ⟨by rw [HC.out]; rfl, below_drewN hb2 _⟩

set_option maxRecDepth 8000 in
set_option maxHeartbeats 4000000 in
theorem cof_10 (p : Int) (f : Nat → Nat → Int) (w : World) (h2 : 2 ≤ p) (h13 : p ≤ 13) (hf : ∀ i, i < 3 → ∀ j, j < 3 → 0 ≤ f i j ∧ f i j < p) :
    Calls Try.prog 98 #[.int .i64 p, mv f, .int .i64 1, .int .i64 0] w fun e w' => e = .returned (.int .i64 (cofP p f 1 0)) ∧ Below w.heap.size w w' := by
  obtain ⟨W, hW, rW, hbW⟩ : ∃ W, W = w.alloc (.cells #[.int .u8 (f 0 0), .int .u8 (f 0 1), .int .u8 (f 0 2), .int .u8 (f 1 0), .int .u8 (f 1 1), .int .u8 (f 1 2), .int .u8 (f 2 0), .int .u8 (f 2 1), .int .u8 (f 2 2)] 55) ∧ W.rowIs w.heap.size 55 9 (mF f) ∧ Below w.heap.size w W := ⟨_, rfl, mbox w f _, ebox1 _ _⟩
  obtain ⟨⟨c0, c1, c2⟩, ⟨c3, c4, c5⟩, c6, c7, c8⟩ := mcells rW
  have HC := Lib.hid (show cofP p f 1 0 = (f 2 1 * f 0 2 + (p - 1) * (f 2 2 * f 0 1)) % p from rfl)
  have b0 := hf 2 (by omega) 0 (by omega)
  have b1 := hf 2 (by omega) 1 (by omega)
  have b2 := hf 2 (by omega) 2 (by omega)
  have e0 := hf 0 (by omega) 0 (by omega)
  have e1 := hf 0 (by omega) 1 (by omega)
  have e2 := hf 0 (by omega) 2 (by omega)
  clear hf
  have s1 : IntKind.i64.wrap 1 = 1 := by decide
  have s2 : IntKind.i64.wrap 2 = 2 := by decide
  have s3 : IntKind.i64.wrap 3 = 3 := by decide
  have s4 : IntKind.i64.wrap 4 = 4 := by decide
  have t1 : (1 : Int).tmod 3 = 1 := by decide
  have t2 : (2 : Int).tmod 3 = 2 := by decide
  have t3 : (3 : Int).tmod 3 = 0 := by decide
  have t4 : (4 : Int).tmod 3 = 1 := by decide
  unfold mv
  go_enter Try.func98, Try.ntmps98
  go_upto_region 1 with fail
  rw [← hW]
  clear hW
  have hlt := rW.lt
  generalize f 2 0 = x at *
  generalize f 2 1 = y at *
  generalize f 2 2 = z at *
  generalize f 0 0 = u at *
  generalize f 0 1 = v at *
  generalize f 0 2 = t at *
  have KK := Lib.hid (fun w' (h : Below W.heap.size W w') => show w'.cell? ⟨w.heap.size, 6, none⟩ = some (.int .u8 x) ∧ w'.cell? ⟨w.heap.size, 7, none⟩ = some (.int .u8 y) ∧ w'.cell? ⟨w.heap.size, 8, none⟩ = some (.int .u8 z) ∧ w'.cell? ⟨w.heap.size, 0, none⟩ = some (.int .u8 u) ∧ w'.cell? ⟨w.heap.size, 1, none⟩ = some (.int .u8 v) ∧ w'.cell? ⟨w.heap.size, 2, none⟩ = some (.int .u8 t) from
    ⟨(h.cell (p := ⟨_, _, none⟩) hlt).trans c6, (h.cell (p := ⟨_, _, none⟩) hlt).trans c7, (h.cell (p := ⟨_, _, none⟩) hlt).trans c8, (h.cell (p := ⟨_, _, none⟩) hlt).trans c0, (h.cell (p := ⟨_, _, none⟩) hlt).trans c1, (h.cell (p := ⟨_, _, none⟩) hlt).trans c2⟩)
  go_cut [9, 10] (fun s9 s10 wx => ∃ ba bb, s9 = .pointer (some ⟨ba, 0, none⟩) ∧ s10 = .pointer (some ⟨bb, 0, none⟩) ∧ wx.rowIs ba 52 3 (r3F x y z) ∧ wx.rowIs bb 52 3 (r3F u v t) ∧ Below W.heap.size W wx)
  case first =>
    go_region_held3 (fun w' => w'.cell? ⟨w.heap.size, 6, none⟩ = some (.int .u8 x) ∧ w'.cell? ⟨w.heap.size, 7, none⟩ = some (.int .u8 y) ∧ w'.cell? ⟨w.heap.size, 8, none⟩ = some (.int .u8 z) ∧ w'.cell? ⟨w.heap.size, 0, none⟩ = some (.int .u8 u) ∧ w'.cell? ⟨w.heap.size, 1, none⟩ = some (.int .u8 v) ∧ w'.cell? ⟨w.heap.size, 2, none⟩ = some (.int .u8 t))
      (first | with_reducible exact KK.out _ (Below.refl _ _).drew | with_reducible exact KK.out _ (ebox1 _ _) | with_reducible exact KK.out _ (ebox1 _ _).drew | with_reducible exact KK.out _ (ebox2 _ _ _) | with_reducible exact KK.out _ (ebox2 _ _ _).drew)
      (fail)
    all_goals
      go_wp2_with fail
      go_meet
      first
        | exact ⟨W.heap.size, W.heap.size + 1, rfl, rfl, (r3row W x y z).alloc _, r3row1 W _ u v t, (ebox2 _ _ _).drew⟩
        | exact ⟨W.heap.size + 1, W.heap.size, rfl, rfl, r3row1 W _ x y z, (r3row W u v t).alloc _, (ebox2 _ _ _).drew⟩
  case rest =>
    obtain ⟨ba, bb, rfl, rfl, ra, rb, hbx⟩ := hcut
    obtain ⟨m0, m1, m2⟩ := r3cells ra
    obtain ⟨n0, n1, n2⟩ := r3cells rb
    obtain ⟨f0, f1⟩ := eprod_fit h13 (a := y) (b := t) b1 e2
    obtain ⟨g0, g1⟩ := eprod_fit h13 (a := z) (b := v) b2 e1
    have q0 : 0 ≤ (p - 1) * (z * v) := Int.mul_nonneg (by omega) g0
    have q1 : (p - 1) * (z * v) ≤ 12 * 169 := Int.mul_le_mul (by omega) g1 g0 (by omega)
    have hb2 := hbW.trans (hbx.mono hbW.size)
    clear KK c0 c1 c2 c3 c4 c5 c6 c7 c8 ra rb hbx hbW rW
    go_wp2_with fail
    go_quiet (fail)
    go_wp2_with fail
    go_quiet (fail)
    go_wp2_with fail
    go_ret
    exact ⟨by rw [HC.out]; rfl, below_drewN hb2 _⟩

set_option maxRecDepth 8000 in
set_option maxHeartbeats 4000000 in
theorem cof_11 (p : Int) (f : Nat → Nat → Int) (w : World) (h2 : 2 ≤ p) (h13 : p ≤ 13) (hf : ∀ i, i < 3 → ∀ j, j < 3 → 0 ≤ f i j ∧ f i j < p) :
    Calls Try.prog 98 #[.int .i64 p, mv f, .int .i64 1, .int .i64 1] w fun e w' => e = .returned (.int .i64 (cofP p f 1 1)) ∧ Below w.heap.size w w' := by
  obtain ⟨W, hW, rW, hbW⟩ : ∃ W, W = w.alloc (.cells #[.int .u8 (f 0 0), .int .u8 (f 0 1), .int .u8 (f 0 2), .int .u8 (f 1 0), .int .u8 (f 1 1), .int .u8 (f 1 2), .int .u8 (f 2 0), .int .u8 (f 2 1), .int .u8 (f 2 2)] 55) ∧ W.rowIs w.heap.size 55 9 (mF f) ∧ Below w.heap.size w W := ⟨_, rfl, mbox w f _, ebox1 _ _⟩
  obtain ⟨⟨c0, c1, c2⟩, ⟨c3, c4, c5⟩, c6, c7, c8⟩ := mcells rW
  have HC := Lib.hid (show cofP p f 1 1 = (f 2 2 * f 0 0 + (p - 1) * (f 2 0 * f 0 2)) % p from rfl)
  have b0 := hf 2 (by omega) 0 (by omega)
  have b1 := hf 2 (by omega) 1 (by omega)
  have b2 := hf 2 (by omega) 2 (by omega)
  have e0 := hf 0 (by omega) 0 (by omega)
  have e1 := hf 0 (by omega) 1 (by omega)
  have e2 := hf 0 (by omega) 2 (by omega)
  clear hf
  have s1 : IntKind.i64.wrap 1 = 1 := by decide
  have s2 : IntKind.i64.wrap 2 = 2 := by decide
  have s3 : IntKind.i64.wrap 3 = 3 := by decide
  have s4 : IntKind.i64.wrap 4 = 4 := by decide
  have t1 : (1 : Int).tmod 3 = 1 := by decide
  have t2 : (2 : Int).tmod 3 = 2 := by decide
  have t3 : (3 : Int).tmod 3 = 0 := by decide
  have t4 : (4 : Int).tmod 3 = 1 := by decide
  unfold mv
  go_enter Try.func98, Try.ntmps98
  go_upto_region 1 with fail
  rw [← hW]
  clear hW
  have hlt := rW.lt
  generalize f 2 0 = x at *
  generalize f 2 1 = y at *
  generalize f 2 2 = z at *
  generalize f 0 0 = u at *
  generalize f 0 1 = v at *
  generalize f 0 2 = t at *
  have KK := Lib.hid (fun w' (h : Below W.heap.size W w') => show w'.cell? ⟨w.heap.size, 6, none⟩ = some (.int .u8 x) ∧ w'.cell? ⟨w.heap.size, 7, none⟩ = some (.int .u8 y) ∧ w'.cell? ⟨w.heap.size, 8, none⟩ = some (.int .u8 z) ∧ w'.cell? ⟨w.heap.size, 0, none⟩ = some (.int .u8 u) ∧ w'.cell? ⟨w.heap.size, 1, none⟩ = some (.int .u8 v) ∧ w'.cell? ⟨w.heap.size, 2, none⟩ = some (.int .u8 t) from
    ⟨(h.cell (p := ⟨_, _, none⟩) hlt).trans c6, (h.cell (p := ⟨_, _, none⟩) hlt).trans c7, (h.cell (p := ⟨_, _, none⟩) hlt).trans c8, (h.cell (p := ⟨_, _, none⟩) hlt).trans c0, (h.cell (p := ⟨_, _, none⟩) hlt).trans c1, (h.cell (p := ⟨_, _, none⟩) hlt).trans c2⟩)
  go_cut [9, 10] (fun s9 s10 wx => ∃ ba bb, s9 = .pointer (some ⟨ba, 0, none⟩) ∧ s10 = .pointer (some ⟨bb, 0, none⟩) ∧ wx.rowIs ba 52 3 (r3F x y z) ∧ wx.rowIs bb 52 3 (r3F u v t) ∧ Below W.heap.size W wx)
  case first =>
    go_region_held3 (fun w' => w'.cell? ⟨w.heap.size, 6, none⟩ = some (.int .u8 x) ∧ w'.cell? ⟨w.heap.size, 7, none⟩ = some (.int .u8 y) ∧ w'.cell? ⟨w.heap.size, 8, none⟩ = some (.int .u8 z) ∧ w'.cell? ⟨w.heap.size, 0, none⟩ = some (.int .u8 u) ∧ w'.cell? ⟨w.heap.size, 1, none⟩ = some (.int .u8 v) ∧ w'.cell? ⟨w.heap.size, 2, none⟩ = some (.int .u8 t))
      (first | with_reducible exact KK.out _ (Below.refl _ _).drew | with_reducible exact KK.out _ (ebox1 _ _) | with_reducible exact KK.out _ (ebox1 _ _).drew | with_reducible exact KK.out _ (ebox2 _ _ _) | with_reducible exact KK.out _ (ebox2 _ _ _).drew)
      (fail)
    all_goals
      go_wp2_with fail
      go_meet
      first
        | exact ⟨W.heap.size, W.heap.size + 1, rfl, rfl, (r3row W x y z).alloc _, r3row1 W _ u v t, (ebox2 _ _ _).drew⟩
        | exact ⟨W.heap.size + 1, W.heap.size, rfl, rfl, r3row1 W _ x y z, (r3row W u v t).alloc _, (ebox2 _ _ _).drew⟩
  case rest =>
    obtain ⟨ba, bb, rfl, rfl, ra, rb, hbx⟩ := hcut
    obtain ⟨m0, m1, m2⟩ := r3cells ra
    obtain ⟨n0, n1, n2⟩ := r3cells rb
    obtain ⟨f0, f1⟩ := eprod_fit h13 (a := z) (b := u) b2 e0
    obtain ⟨g0, g1⟩ := eprod_fit h13 (a := x) (b := t) b0 e2
    have q0 : 0 ≤ (p - 1) * (x * t) := Int.mul_nonneg (by omega) g0
    have q1 : (p - 1) * (x * t) ≤ 12 * 169 := Int.mul_le_mul (by omega) g1 g0 (by omega)
    have hb2 := hbW.trans (hbx.mono hbW.size)
    clear KK c0 c1 c2 c3 c4 c5 c6 c7 c8 ra rb hbx hbW rW
    go_wp2_with fail
    go_quiet (fail)
    go_wp2_with fail
    go_quiet (fail)
    go_wp2_with fail
    go_ret
    exact ⟨by rw [HC.out]; rfl, below_drewN hb2 _⟩

set_option maxRecDepth 8000 in
set_option maxHeartbeats 4000000 in
theorem cof_12 (p : Int) (f : Nat → Nat → Int) (w : World) (h2 : 2 ≤ p) (h13 : p ≤ 13) (hf : ∀ i, i < 3 → ∀ j, j < 3 → 0 ≤ f i j ∧ f i j < p) :
    Calls Try.prog 98 #[.int .i64 p, mv f, .int .i64 1, .int .i64 2] w fun e w' => e = .returned (.int .i64 (cofP p f 1 2)) ∧ Below w.heap.size w w' := by
  obtain ⟨W, hW, rW, hbW⟩ : ∃ W, W = w.alloc (.cells #[.int .u8 (f 0 0), .int .u8 (f 0 1), .int .u8 (f 0 2), .int .u8 (f 1 0), .int .u8 (f 1 1), .int .u8 (f 1 2), .int .u8 (f 2 0), .int .u8 (f 2 1), .int .u8 (f 2 2)] 55) ∧ W.rowIs w.heap.size 55 9 (mF f) ∧ Below w.heap.size w W := ⟨_, rfl, mbox w f _, ebox1 _ _⟩
  obtain ⟨⟨c0, c1, c2⟩, ⟨c3, c4, c5⟩, c6, c7, c8⟩ := mcells rW
  have HC := Lib.hid (show cofP p f 1 2 = (f 2 0 * f 0 1 + (p - 1) * (f 2 1 * f 0 0)) % p from rfl)
  have b0 := hf 2 (by omega) 0 (by omega)
  have b1 := hf 2 (by omega) 1 (by omega)
  have b2 := hf 2 (by omega) 2 (by omega)
  have e0 := hf 0 (by omega) 0 (by omega)
  have e1 := hf 0 (by omega) 1 (by omega)
  have e2 := hf 0 (by omega) 2 (by omega)
  clear hf
  have s1 : IntKind.i64.wrap 1 = 1 := by decide
  have s2 : IntKind.i64.wrap 2 = 2 := by decide
  have s3 : IntKind.i64.wrap 3 = 3 := by decide
  have s4 : IntKind.i64.wrap 4 = 4 := by decide
  have t1 : (1 : Int).tmod 3 = 1 := by decide
  have t2 : (2 : Int).tmod 3 = 2 := by decide
  have t3 : (3 : Int).tmod 3 = 0 := by decide
  have t4 : (4 : Int).tmod 3 = 1 := by decide
  unfold mv
  go_enter Try.func98, Try.ntmps98
  go_upto_region 1 with fail
  rw [← hW]
  clear hW
  have hlt := rW.lt
  generalize f 2 0 = x at *
  generalize f 2 1 = y at *
  generalize f 2 2 = z at *
  generalize f 0 0 = u at *
  generalize f 0 1 = v at *
  generalize f 0 2 = t at *
  have KK := Lib.hid (fun w' (h : Below W.heap.size W w') => show w'.cell? ⟨w.heap.size, 6, none⟩ = some (.int .u8 x) ∧ w'.cell? ⟨w.heap.size, 7, none⟩ = some (.int .u8 y) ∧ w'.cell? ⟨w.heap.size, 8, none⟩ = some (.int .u8 z) ∧ w'.cell? ⟨w.heap.size, 0, none⟩ = some (.int .u8 u) ∧ w'.cell? ⟨w.heap.size, 1, none⟩ = some (.int .u8 v) ∧ w'.cell? ⟨w.heap.size, 2, none⟩ = some (.int .u8 t) from
    ⟨(h.cell (p := ⟨_, _, none⟩) hlt).trans c6, (h.cell (p := ⟨_, _, none⟩) hlt).trans c7, (h.cell (p := ⟨_, _, none⟩) hlt).trans c8, (h.cell (p := ⟨_, _, none⟩) hlt).trans c0, (h.cell (p := ⟨_, _, none⟩) hlt).trans c1, (h.cell (p := ⟨_, _, none⟩) hlt).trans c2⟩)
  go_cut [9, 10] (fun s9 s10 wx => ∃ ba bb, s9 = .pointer (some ⟨ba, 0, none⟩) ∧ s10 = .pointer (some ⟨bb, 0, none⟩) ∧ wx.rowIs ba 52 3 (r3F x y z) ∧ wx.rowIs bb 52 3 (r3F u v t) ∧ Below W.heap.size W wx)
  case first =>
    go_region_held3 (fun w' => w'.cell? ⟨w.heap.size, 6, none⟩ = some (.int .u8 x) ∧ w'.cell? ⟨w.heap.size, 7, none⟩ = some (.int .u8 y) ∧ w'.cell? ⟨w.heap.size, 8, none⟩ = some (.int .u8 z) ∧ w'.cell? ⟨w.heap.size, 0, none⟩ = some (.int .u8 u) ∧ w'.cell? ⟨w.heap.size, 1, none⟩ = some (.int .u8 v) ∧ w'.cell? ⟨w.heap.size, 2, none⟩ = some (.int .u8 t))
      (first | with_reducible exact KK.out _ (Below.refl _ _).drew | with_reducible exact KK.out _ (ebox1 _ _) | with_reducible exact KK.out _ (ebox1 _ _).drew | with_reducible exact KK.out _ (ebox2 _ _ _) | with_reducible exact KK.out _ (ebox2 _ _ _).drew)
      (fail)
    all_goals
      go_wp2_with fail
      go_meet
      first
        | exact ⟨W.heap.size, W.heap.size + 1, rfl, rfl, (r3row W x y z).alloc _, r3row1 W _ u v t, (ebox2 _ _ _).drew⟩
        | exact ⟨W.heap.size + 1, W.heap.size, rfl, rfl, r3row1 W _ x y z, (r3row W u v t).alloc _, (ebox2 _ _ _).drew⟩
  case rest =>
    obtain ⟨ba, bb, rfl, rfl, ra, rb, hbx⟩ := hcut
    obtain ⟨m0, m1, m2⟩ := r3cells ra
    obtain ⟨n0, n1, n2⟩ := r3cells rb
    obtain ⟨f0, f1⟩ := eprod_fit h13 (a := x) (b := v) b0 e1
    obtain ⟨g0, g1⟩ := eprod_fit h13 (a := y) (b := u) b1 e0
    have q0 : 0 ≤ (p - 1) * (y * u) := Int.mul_nonneg (by omega) g0
    have q1 : (p - 1) * (y * u) ≤ 12 * 169 := Int.mul_le_mul (by omega) g1 g0 (by omega)
    have hb2 := hbW.trans (hbx.mono hbW.size)
    clear KK c0 c1 c2 c3 c4 c5 c6 c7 c8 ra rb hbx hbW rW
    go_wp2_with fail
    go_quiet (fail)
    go_wp2_with fail
    go_quiet (fail)
    go_wp2_with fail
    go_ret
    exact ⟨by rw [HC.out]; rfl, below_drewN hb2 _⟩

set_option maxRecDepth 8000 in
set_option maxHeartbeats 4000000 in
theorem cof_20 (p : Int) (f : Nat → Nat → Int) (w : World) (h2 : 2 ≤ p) (h13 : p ≤ 13) (hf : ∀ i, i < 3 → ∀ j, j < 3 → 0 ≤ f i j ∧ f i j < p) :
    Calls Try.prog 98 #[.int .i64 p, mv f, .int .i64 2, .int .i64 0] w fun e w' => e = .returned (.int .i64 (cofP p f 2 0)) ∧ Below w.heap.size w w' := by
  obtain ⟨W, hW, rW, hbW⟩ : ∃ W, W = w.alloc (.cells #[.int .u8 (f 0 0), .int .u8 (f 0 1), .int .u8 (f 0 2), .int .u8 (f 1 0), .int .u8 (f 1 1), .int .u8 (f 1 2), .int .u8 (f 2 0), .int .u8 (f 2 1), .int .u8 (f 2 2)] 55) ∧ W.rowIs w.heap.size 55 9 (mF f) ∧ Below w.heap.size w W := ⟨_, rfl, mbox w f _, ebox1 _ _⟩
  obtain ⟨⟨c0, c1, c2⟩, ⟨c3, c4, c5⟩, c6, c7, c8⟩ := mcells rW
  have HC := Lib.hid (show cofP p f 2 0 = (f 0 1 * f 1 2 + (p - 1) * (f 0 2 * f 1 1)) % p from rfl)
  have b0 := hf 0 (by omega) 0 (by omega)
  have b1 := hf 0 (by omega) 1 (by omega)
  have b2 := hf 0 (by omega) 2 (by omega)
  have e0 := hf 1 (by omega) 0 (by omega)
  have e1 := hf 1 (by omega) 1 (by omega)
  have e2 := hf 1 (by omega) 2 (by omega)
  clear hf
  have s1 : IntKind.i64.wrap 1 = 1 := by decide
  have s2 : IntKind.i64.wrap 2 = 2 := by decide
  have s3 : IntKind.i64.wrap 3 = 3 := by decide
  have s4 : IntKind.i64.wrap 4 = 4 := by decide
  have t1 : (1 : Int).tmod 3 = 1 := by decide
  have t2 : (2 : Int).tmod 3 = 2 := by decide
  have t3 : (3 : Int).tmod 3 = 0 := by decide
  have t4 : (4 : Int).tmod 3 = 1 := by decide
  unfold mv
  go_enter Try.func98, Try.ntmps98
  go_upto_region 1 with fail
  rw [← hW]
  clear hW
  have hlt := rW.lt
  generalize f 0 0 = x at *
  generalize f 0 1 = y at *
  generalize f 0 2 = z at *
  generalize f 1 0 = u at *
  generalize f 1 1 = v at *
  generalize f 1 2 = t at *
  have KK := Lib.hid (fun w' (h : Below W.heap.size W w') => show w'.cell? ⟨w.heap.size, 0, none⟩ = some (.int .u8 x) ∧ w'.cell? ⟨w.heap.size, 1, none⟩ = some (.int .u8 y) ∧ w'.cell? ⟨w.heap.size, 2, none⟩ = some (.int .u8 z) ∧ w'.cell? ⟨w.heap.size, 3, none⟩ = some (.int .u8 u) ∧ w'.cell? ⟨w.heap.size, 4, none⟩ = some (.int .u8 v) ∧ w'.cell? ⟨w.heap.size, 5, none⟩ = some (.int .u8 t) from
    ⟨(h.cell (p := ⟨_, _, none⟩) hlt).trans c0, (h.cell (p := ⟨_, _, none⟩) hlt).trans c1, (h.cell (p := ⟨_, _, none⟩) hlt).trans c2, (h.cell (p := ⟨_, _, none⟩) hlt).trans c3, (h.cell (p := ⟨_, _, none⟩) hlt).trans c4, (h.cell (p := ⟨_, _, none⟩) hlt).trans c5⟩)
  go_cut [9, 10] (fun s9 s10 wx => ∃ ba bb, s9 = .pointer (some ⟨ba, 0, none⟩) ∧ s10 = .pointer (some ⟨bb, 0, none⟩) ∧ wx.rowIs ba 52 3 (r3F x y z) ∧ wx.rowIs bb 52 3 (r3F u v t) ∧ Below W.heap.size W wx)
  case first =>
    go_region_held3 (fun w' => w'.cell? ⟨w.heap.size, 0, none⟩ = some (.int .u8 x) ∧ w'.cell? ⟨w.heap.size, 1, none⟩ = some (.int .u8 y) ∧ w'.cell? ⟨w.heap.size, 2, none⟩ = some (.int .u8 z) ∧ w'.cell? ⟨w.heap.size, 3, none⟩ = some (.int .u8 u) ∧ w'.cell? ⟨w.heap.size, 4, none⟩ = some (.int .u8 v) ∧ w'.cell? ⟨w.heap.size, 5, none⟩ = some (.int .u8 t))
      (first | with_reducible exact KK.out _ (Below.refl _ _).drew | with_reducible exact KK.out _ (ebox1 _ _) | with_reducible exact KK.out _ (ebox1 _ _).drew | with_reducible exact KK.out _ (ebox2 _ _ _) | with_reducible exact KK.out _ (ebox2 _ _ _).drew)
      (fail)
    all_goals
      go_wp2_with fail
      go_meet
      first
        | exact ⟨W.heap.size, W.heap.size + 1, rfl, rfl, (r3row W x y z).alloc _, r3row1 W _ u v t, (ebox2 _ _ _).drew⟩
        | exact ⟨W.heap.size + 1, W.heap.size, rfl, rfl, r3row1 W _ x y z, (r3row W u v t).alloc _, (ebox2 _ _ _).drew⟩
  case rest =>
    obtain ⟨ba, bb, rfl, rfl, ra, rb, hbx⟩ := hcut
    obtain ⟨m0, m1, m2⟩ := r3cells ra
    obtain ⟨n0, n1, n2⟩ := r3cells rb
    obtain ⟨f0, f1⟩ := eprod_fit h13 (a := y) (b := t) b1 e2
    obtain ⟨g0, g1⟩ := eprod_fit h13 (a := z) (b := v) b2 e1
    have q0 : 0 ≤ (p - 1) * (z * v) := Int.mul_nonneg (by omega) g0
    have q1 : (p - 1) * (z * v) ≤ 12 * 169 := Int.mul_le_mul (by omega) g1 g0 (by omega)
    have hb2 := hbW.trans (hbx.mono hbW.size)
    clear KK c0 c1 c2 c3 c4 c5 c6 c7 c8 ra rb hbx hbW rW
    go_wp2_with fail
    go_quiet (fail)
    go_wp2_with fail
    go_quiet (fail)
    go_wp2_with fail
    go_ret
    exact ⟨by rw [HC.out]; rfl, below_drewN hb2 _⟩

set_option maxRecDepth 8000 in
set_option maxHeartbeats 4000000 in
theorem cof_21 (p : Int) (f : Nat → Nat → Int) (w : World) (h2 : 2 ≤ p) (h13 : p ≤ 13) (hf : ∀ i, i < 3 → ∀ j, j < 3 → 0 ≤ f i j ∧ f i j < p) :
    Calls Try.prog 98 #[.int .i64 p, mv f, .int .i64 2, .int .i64 1] w fun e w' => e = .returned (.int .i64 (cofP p f 2 1)) ∧ Below w.heap.size w w' := by
  obtain ⟨W, hW, rW, hbW⟩ : ∃ W, W = w.alloc (.cells #[.int .u8 (f 0 0), .int .u8 (f 0 1), .int .u8 (f 0 2), .int .u8 (f 1 0), .int .u8 (f 1 1), .int .u8 (f 1 2), .int .u8 (f 2 0), .int .u8 (f 2 1), .int .u8 (f 2 2)] 55) ∧ W.rowIs w.heap.size 55 9 (mF f) ∧ Below w.heap.size w W := ⟨_, rfl, mbox w f _, ebox1 _ _⟩
  obtain ⟨⟨c0, c1, c2⟩, ⟨c3, c4, c5⟩, c6, c7, c8⟩ := mcells rW
  have HC := Lib.hid (show cofP p f 2 1 = (f 0 2 * f 1 0 + (p - 1) * (f 0 0 * f 1 2)) % p from rfl)
  have b0 := hf 0 (by omega) 0 (by omega)
  have b1 := hf 0 (by omega) 1 (by omega)
  have b2 := hf 0 (by omega) 2 (by omega)
  have e0 := hf 1 (by omega) 0 (by omega)
  have e1 := hf 1 (by omega) 1 (by omega)
  have e2 := hf 1 (by omega) 2 (by omega)
  clear hf
  have s1 : IntKind.i64.wrap 1 = 1 := by decide
  have s2 : IntKind.i64.wrap 2 = 2 := by decide
  have s3 : IntKind.i64.wrap 3 = 3 := by decide
  have s4 : IntKind.i64.wrap 4 = 4 := by decide
  have t1 : (1 : Int).tmod 3 = 1 := by decide
  have t2 : (2 : Int).tmod 3 = 2 := by decide
  have t3 : (3 : Int).tmod 3 = 0 := by decide
  have t4 : (4 : Int).tmod 3 = 1 := by decide
  unfold mv
  go_enter Try.func98, Try.ntmps98
  go_upto_region 1 with fail
  rw [← hW]
  clear hW
  have hlt := rW.lt
  generalize f 0 0 = x at *
  generalize f 0 1 = y at *
  generalize f 0 2 = z at *
  generalize f 1 0 = u at *
  generalize f 1 1 = v at *
  generalize f 1 2 = t at *
  have KK := Lib.hid (fun w' (h : Below W.heap.size W w') => show w'.cell? ⟨w.heap.size, 0, none⟩ = some (.int .u8 x) ∧ w'.cell? ⟨w.heap.size, 1, none⟩ = some (.int .u8 y) ∧ w'.cell? ⟨w.heap.size, 2, none⟩ = some (.int .u8 z) ∧ w'.cell? ⟨w.heap.size, 3, none⟩ = some (.int .u8 u) ∧ w'.cell? ⟨w.heap.size, 4, none⟩ = some (.int .u8 v) ∧ w'.cell? ⟨w.heap.size, 5, none⟩ = some (.int .u8 t) from
    ⟨(h.cell (p := ⟨_, _, none⟩) hlt).trans c0, (h.cell (p := ⟨_, _, none⟩) hlt).trans c1, (h.cell (p := ⟨_, _, none⟩) hlt).trans c2, (h.cell (p := ⟨_, _, none⟩) hlt).trans c3, (h.cell (p := ⟨_, _, none⟩) hlt).trans c4, (h.cell (p := ⟨_, _, none⟩) hlt).trans c5⟩)
  go_cut [9, 10] (fun s9 s10 wx => ∃ ba bb, s9 = .pointer (some ⟨ba, 0, none⟩) ∧ s10 = .pointer (some ⟨bb, 0, none⟩) ∧ wx.rowIs ba 52 3 (r3F x y z) ∧ wx.rowIs bb 52 3 (r3F u v t) ∧ Below W.heap.size W wx)
  case first =>
    go_region_held3 (fun w' => w'.cell? ⟨w.heap.size, 0, none⟩ = some (.int .u8 x) ∧ w'.cell? ⟨w.heap.size, 1, none⟩ = some (.int .u8 y) ∧ w'.cell? ⟨w.heap.size, 2, none⟩ = some (.int .u8 z) ∧ w'.cell? ⟨w.heap.size, 3, none⟩ = some (.int .u8 u) ∧ w'.cell? ⟨w.heap.size, 4, none⟩ = some (.int .u8 v) ∧ w'.cell? ⟨w.heap.size, 5, none⟩ = some (.int .u8 t))
      (first | with_reducible exact KK.out _ (Below.refl _ _).drew | with_reducible exact KK.out _ (ebox1 _ _) | with_reducible exact KK.out _ (ebox1 _ _).drew | with_reducible exact KK.out _ (ebox2 _ _ _) | with_reducible exact KK.out _ (ebox2 _ _ _).drew)
      (fail)
    all_goals
      go_wp2_with fail
      go_meet
      first
        | exact ⟨W.heap.size, W.heap.size + 1, rfl, rfl, (r3row W x y z).alloc _, r3row1 W _ u v t, (ebox2 _ _ _).drew⟩
        | exact ⟨W.heap.size + 1, W.heap.size, rfl, rfl, r3row1 W _ x y z, (r3row W u v t).alloc _, (ebox2 _ _ _).drew⟩
  case rest =>
    obtain ⟨ba, bb, rfl, rfl, ra, rb, hbx⟩ := hcut
    obtain ⟨m0, m1, m2⟩ := r3cells ra
    obtain ⟨n0, n1, n2⟩ := r3cells rb
    obtain ⟨f0, f1⟩ := eprod_fit h13 (a := z) (b := u) b2 e0
    obtain ⟨g0, g1⟩ := eprod_fit h13 (a := x) (b := t) b0 e2
    have q0 : 0 ≤ (p - 1) * (x * t) := Int.mul_nonneg (by omega) g0
    have q1 : (p - 1) * (x * t) ≤ 12 * 169 := Int.mul_le_mul (by omega) g1 g0 (by omega)
    have hb2 := hbW.trans (hbx.mono hbW.size)
    clear KK c0 c1 c2 c3 c4 c5 c6 c7 c8 ra rb hbx hbW rW
    go_wp2_with fail
    go_quiet (fail)
    go_wp2_with fail
    go_quiet (fail)
    go_wp2_with fail
    go_ret
    exact ⟨by rw [HC.out]; rfl, below_drewN hb2 _⟩

set_option maxRecDepth 8000 in
set_option maxHeartbeats 4000000 in
theorem cof_22 (p : Int) (f : Nat → Nat → Int) (w : World) (h2 : 2 ≤ p) (h13 : p ≤ 13) (hf : ∀ i, i < 3 → ∀ j, j < 3 → 0 ≤ f i j ∧ f i j < p) :
    Calls Try.prog 98 #[.int .i64 p, mv f, .int .i64 2, .int .i64 2] w fun e w' => e = .returned (.int .i64 (cofP p f 2 2)) ∧ Below w.heap.size w w' := by
  obtain ⟨W, hW, rW, hbW⟩ : ∃ W, W = w.alloc (.cells #[.int .u8 (f 0 0), .int .u8 (f 0 1), .int .u8 (f 0 2), .int .u8 (f 1 0), .int .u8 (f 1 1), .int .u8 (f 1 2), .int .u8 (f 2 0), .int .u8 (f 2 1), .int .u8 (f 2 2)] 55) ∧ W.rowIs w.heap.size 55 9 (mF f) ∧ Below w.heap.size w W := ⟨_, rfl, mbox w f _, ebox1 _ _⟩
  obtain ⟨⟨c0, c1, c2⟩, ⟨c3, c4, c5⟩, c6, c7, c8⟩ := mcells rW
  have HC := Lib.hid (show cofP p f 2 2 = (f 0 0 * f 1 1 + (p - 1) * (f 0 1 * f 1 0)) % p from rfl)
  have b0 := hf 0 (by omega) 0 (by omega)
  have b1 := hf 0 (by omega) 1 (by omega)
  have b2 := hf 0 (by omega) 2 (by omega)
  have e0 := hf 1 (by omega) 0 (by omega)
  have e1 := hf 1 (by omega) 1 (by omega)
  have e2 := hf 1 (by omega) 2 (by omega)
  clear hf
  have s1 : IntKind.i64.wrap 1 = 1 := by decide
  have s2 : IntKind.i64.wrap 2 = 2 := by decide
  have s3 : IntKind.i64.wrap 3 = 3 := by decide
  have s4 : IntKind.i64.wrap 4 = 4 := by decide
  have t1 : (1 : Int).tmod 3 = 1 := by decide
  have t2 : (2 : Int).tmod 3 = 2 := by decide
  have t3 : (3 : Int).tmod 3 = 0 := by decide
  have t4 : (4 : Int).tmod 3 = 1 := by decide
  unfold mv
  go_enter Try.func98, Try.ntmps98
  go_upto_region 1 with fail
  rw [← hW]
  clear hW
  have hlt := rW.lt
  generalize f 0 0 = x at *
  generalize f 0 1 = y at *
  generalize f 0 2 = z at *
  generalize f 1 0 = u at *
  generalize f 1 1 = v at *
  generalize f 1 2 = t at *
  have KK := Lib.hid (fun w' (h : Below W.heap.size W w') => show w'.cell? ⟨w.heap.size, 0, none⟩ = some (.int .u8 x) ∧ w'.cell? ⟨w.heap.size, 1, none⟩ = some (.int .u8 y) ∧ w'.cell? ⟨w.heap.size, 2, none⟩ = some (.int .u8 z) ∧ w'.cell? ⟨w.heap.size, 3, none⟩ = some (.int .u8 u) ∧ w'.cell? ⟨w.heap.size, 4, none⟩ = some (.int .u8 v) ∧ w'.cell? ⟨w.heap.size, 5, none⟩ = some (.int .u8 t) from
    ⟨(h.cell (p := ⟨_, _, none⟩) hlt).trans c0, (h.cell (p := ⟨_, _, none⟩) hlt).trans c1, (h.cell (p := ⟨_, _, none⟩) hlt).trans c2, (h.cell (p := ⟨_, _, none⟩) hlt).trans c3, (h.cell (p := ⟨_, _, none⟩) hlt).trans c4, (h.cell (p := ⟨_, _, none⟩) hlt).trans c5⟩)
  go_cut [9, 10] (fun s9 s10 wx => ∃ ba bb, s9 = .pointer (some ⟨ba, 0, none⟩) ∧ s10 = .pointer (some ⟨bb, 0, none⟩) ∧ wx.rowIs ba 52 3 (r3F x y z) ∧ wx.rowIs bb 52 3 (r3F u v t) ∧ Below W.heap.size W wx)
  case first =>
    go_region_held3 (fun w' => w'.cell? ⟨w.heap.size, 0, none⟩ = some (.int .u8 x) ∧ w'.cell? ⟨w.heap.size, 1, none⟩ = some (.int .u8 y) ∧ w'.cell? ⟨w.heap.size, 2, none⟩ = some (.int .u8 z) ∧ w'.cell? ⟨w.heap.size, 3, none⟩ = some (.int .u8 u) ∧ w'.cell? ⟨w.heap.size, 4, none⟩ = some (.int .u8 v) ∧ w'.cell? ⟨w.heap.size, 5, none⟩ = some (.int .u8 t))
      (first | with_reducible exact KK.out _ (Below.refl _ _).drew | with_reducible exact KK.out _ (ebox1 _ _) | with_reducible exact KK.out _ (ebox1 _ _).drew | with_reducible exact KK.out _ (ebox2 _ _ _) | with_reducible exact KK.out _ (ebox2 _ _ _).drew)
      (fail)
    all_goals
      go_wp2_with fail
      go_meet
      first
        | exact ⟨W.heap.size, W.heap.size + 1, rfl, rfl, (r3row W x y z).alloc _, r3row1 W _ u v t, (ebox2 _ _ _).drew⟩
        | exact ⟨W.heap.size + 1, W.heap.size, rfl, rfl, r3row1 W _ x y z, (r3row W u v t).alloc _, (ebox2 _ _ _).drew⟩
  case rest =>
    obtain ⟨ba, bb, rfl, rfl, ra, rb, hbx⟩ := hcut
    obtain ⟨m0, m1, m2⟩ := r3cells ra
    obtain ⟨n0, n1, n2⟩ := r3cells rb
    obtain ⟨f0, f1⟩ := eprod_fit h13 (a := x) (b := v) b0 e1
    obtain ⟨g0, g1⟩ := eprod_fit h13 (a := y) (b := u) b1 e0
    have q0 : 0 ≤ (p - 1) * (y * u) := Int.mul_nonneg (by omega) g0
    have q1 : (p - 1) * (y * u) ≤ 12 * 169 := Int.mul_le_mul (by omega) g1 g0 (by omega)
    have hb2 := hbW.trans (hbx.mono hbW.size)
    clear KK c0 c1 c2 c3 c4 c5 c6 c7 c8 ra rb hbx hbW rW
    go_wp2_with fail
    go_quiet (fail)
    go_wp2_with fail
    go_quiet (fail)
    go_wp2_with fail
    go_ret
    exact ⟨by rw [HC.out]; rfl, below_drewN hb2 _⟩
end Go.Proofs.Ytpbdbgajohacoaa
