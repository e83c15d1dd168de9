/-
  WALKS of the program on matrices: whether the numbers fit. Conditions: as each theorem states.
  WALKS of the program on matrices: filled matrices, cofactors. Conditions: as each theorem states.
  WALKS of the program on matrices: determinants, whether something is a matrix. Conditions: as each theorem states.
  WALKS of the program: 'IsMatrix' at every value. Conditions: the numbers are bytes.
-/
import Derived.Test.YtabfdohmgmdgeaaEn
import Derived.Deep.RegionHeld3
import Derived.Deep.DeepCutAuto
namespace Go.Proofs.Ytabfdohmgmdgeaa
open Go.RowKit Go.Sort EchM

set_option maxRecDepth 8000 in
set_option maxHeartbeats 4000000 in
theorem has_any (p n : Int) (g : Nat → Nat → Int) (w : World) (hg : Byt g) :
    Calls Try.prog 52 #[.int .i64 p, .int .i64 n, mv g] w fun e w' => e = .returned (.bool (hasB p n g)) ∧ Below w.heap.size w w' := by
  have hb0 : Below w.heap.size w (w.alloc (.cells #[.int .u8 (g 0 0), .int .u8 (g 0 1), .int .u8 (g 0 2), .int .u8 (g 1 0), .int .u8 (g 1 1), .int .u8 (g 1 2), .int .u8 (g 2 0), .int .u8 (g 2 1), .int .u8 (g 2 2)] 56)) := ebox1 _ _
  have HG := Lib.hid hg
  clear hg
  unfold mv
  go_enter Try.func52, Try.ntmps52
  go_wp2
  go_loopw [13] (fun i wr => ∃ (k : Nat), k ≤ 3 ∧ i = .int .i64 k ∧ Hid (∀ i, i < k → ∀ j, j < 3 → okC p n (g i j) i j = true) ∧ Below w.heap.size w wr) (fun i _ => 3 - (intOf i).toNat)
  case atStart => exact ⟨0, by omega, rfl, Lib.hid (fun i hi => by omega), hb0⟩
  case round =>
    obtain ⟨k, hk, rfl, HU, hb⟩ := hrel
    have hs := hb.size
    by_cases hlt : k < 3
    · have hlt' : (k : Int) < 3 := by omega
      have hI := idx9 g hlt
      have hBn : ∀ o, Below w.heap.size w (wr.alloc o) := fun o => hb.alloc hs o
      have HB := Lib.hid hBn
      clear hBn hb hb0
      go_wp2_with fail
      generalize hW : wr.alloc _ = W
      have hbW : Below w.heap.size w W := by rw [← hW]; exact HB.out _
      clear hW HB hI
      go_wp2_with fail
      go_loop [18] (fun i => ∃ (j : Nat), j ≤ 3 ∧ i = .int .i64 j ∧ Hid (∀ j', j' < j → okC p n (g k j') k j' = true)) (fun i => 3 - (intOf i).toNat)
      case atStart => exact ⟨0, by omega, rfl, Lib.hid (fun j hj => by omega)⟩
      case round =>
        obtain ⟨j, hj, rfl, HV⟩ := hrel
        by_cases hjt : j < 3
        · have hjt' : (j : Int) < 3 := by omega
          have hI := idx3 (g k) hjt
          have hx := HG.out k hlt j hjt
          have HNo := Lib.hid (fun h => hasB_no (p := p) (n := n) (g := g) hlt hjt (okC_no h))
          have HYes : (g k j < p → ((k : Int) < n ∧ (j : Int) < n) ∨ g k j = 0 → Hid (∀ j', j' < j + 1 → okC p n (g k j') k j' = true)) := fun h1 h2 => Lib.hid (fun j' hj' => by
            by_cases e : j' = j
            · subst e; exact okC_yes h1 h2
            · exact HV.out j' (by omega))
          have HY := Lib.hid HYes
          clear HYes
          generalize hX : g k j = X at hI hx HNo HY
          clear hX
          obtain ⟨x0, x1⟩ := hx
          by_cases h1 : p ≤ X
          · have HX := Lib.hid (HNo.out (.inl h1))
            clear HNo HY
            go_wp2_with fail
            all_goals go_ret
            all_goals exact ⟨by rw [HX.out]; rfl, hbW⟩
          · by_cases hz : X = 0
            · have HN := HY.out (by omega) (.inr hz)
              subst hz
              clear HNo HY
              by_cases h2 : (k : Int) < n
              · by_cases h3 : (j : Int) < n
                · go_wp2_with fail
                  go_round
                  case rel => exact ⟨j + 1, by omega, by go_num, HN⟩
                  case measure => simp [intOf]; omega
                · go_wp2_with fail
                  go_round
                  case rel => exact ⟨j + 1, by omega, by go_num, HN⟩
                  case measure => simp [intOf]; omega
              · go_wp2_with fail
                go_round
                case rel => exact ⟨j + 1, by omega, by go_num, HN⟩
                case measure => simp [intOf]; omega
            · have hq : (X != 0) = true := by simp [hz]
              by_cases h2 : (k : Int) < n
              · by_cases h3 : (j : Int) < n
                · have HN := HY.out (by omega) (.inl ⟨h2, h3⟩)
                  clear HNo HY hz
                  go_wp2_with fail
                  go_round
                  case rel => exact ⟨j + 1, by omega, by go_num, HN⟩
                  case measure => simp [intOf]; omega
                · have HX := Lib.hid (HNo.out (.inr ⟨.inr (by omega), hz⟩))
                  clear HNo HY hz
                  go_wp2_with fail
                  go_ret
                  exact ⟨by rw [HX.out]; rfl, hbW⟩
              · have HX := Lib.hid (HNo.out (.inr ⟨.inl (by omega), hz⟩))
                clear HNo HY hz
                go_wp2_with fail
                go_ret
                exact ⟨by rw [HX.out]; rfl, hbW⟩
        · obtain rfl : j = 3 := by omega
          have HN : Hid (∀ i, i < k + 1 → ∀ j, j < 3 → okC p n (g i j) i j = true) := Lib.hid (fun i hi j hj => by
            by_cases e : i = k
            · subst e; exact HV.out j hj
            · exact HU.out i (by omega) j hj)
          go_wp2_with fail
          go_roundw
          case rel => exact ⟨k + 1, by omega, by go_num, HN, hbW⟩
          case measure => simp [intOf]; omega
    · obtain rfl : k = 3 := by omega
      have HX : Hid (hasB p n g = true) := Lib.hid (hasB_yes HU.out)
      go_wp2_with fail
      go_ret
      exact ⟨by rw [HX.out]; rfl, hb⟩
end Go.Proofs.Ytabfdohmgmdgeaa
namespace Go.Proofs.Ytabfdohmgmdgeaa
open Go.RowKit Go.Sort EchM

set_option maxRecDepth 8000 in
set_option maxHeartbeats 4000000 in
theorem filled_any (n : Nat) (g : Nat → Nat → Int) (w : World) (h1 : 1 ≤ n) (h3 : n ≤ 3) :
    Calls Try.prog 62 #[.int .i64 (n : Int), mv g] w fun e w' => e = .returned (mv (fullM n g)) ∧ Below w.heap.size w w' := by
  have hn : n = 1 ∨ n = 2 ∨ n = 3 := by omega
  unfold mv
  rcases hn with rfl | rfl | rfl
  all_goals
    simp only [fullM]
    simp
    go_enter Try.func62, Try.ntmps62
    go_wp2
    refine wp_loop_rounds 4 ?_
    iterate 3 (try (rw [rounds_succ]; go_wp2))
  · exact bodyPost_ret (v := mv (fullM 1 g)) (by simp [results, Try.results62, go_sem, mv, fullM]) rfl ⟨by simp [mv, fullM], ebox2 _ _ _⟩
  · exact bodyPost_ret (v := mv (fullM 2 g)) (by simp [results, Try.results62, go_sem, mv, fullM]) rfl ⟨by simp [mv, fullM], ebox2 _ _ _⟩
  · exact bodyPost_ret (v := mv (fullM 3 g)) (by simp [results, Try.results62, go_sem, mv, fullM]) rfl ⟨by simp [mv, fullM], ebox2 _ _ _⟩
/-- A row of three bytes. -/
def r3F (x y z : Int) : Nat → Value := fun q => if q = 0 then .int .u8 x else if q = 1 then .int .u8 y else .int .u8 z
theorem r3row (w : World) (x y z : Int) : (w.drew.alloc (.cells #[.int .u8 x, .int .u8 y, .int .u8 z] 54)).rowIs w.heap.size 54 3 (r3F x y z) := by
  have := World.rowIs_alloc w.drew #[Value.int .u8 x, .int .u8 y, .int .u8 z] 54 (r3F x y z) (fun i hi => by simp at hi; match i, hi with | 0, _ => rfl | 1, _ => rfl | 2, _ => rfl)
  exact this
theorem r3row1 (w : World) (o : Obj) (x y z : Int) : ((w.drew.alloc o).alloc (.cells #[.int .u8 x, .int .u8 y, .int .u8 z] 54)).rowIs (w.heap.size + 1) 54 3 (r3F x y z) := by
  have := World.rowIs_alloc (w.drew.alloc o) #[Value.int .u8 x, .int .u8 y, .int .u8 z] 54 (r3F x y z) (fun i hi => by simp at hi; match i, hi with | 0, _ => rfl | 1, _ => rfl | 2, _ => rfl)
  simpa using this
theorem r3cells {w : World} {B : Nat} {t : TypeId} {x y z : Int} (h : w.rowIs B t 3 (r3F x y z)) : w.cell? ⟨B, 0, none⟩ = some (.int .u8 x) ∧ w.cell? ⟨B, 1, none⟩ = some (.int .u8 y) ∧ w.cell? ⟨B, 2, none⟩ = some (.int .u8 z) :=
  ⟨h.cell (i := 0) (by omega), h.cell (i := 1) (by omega), h.cell (i := 2) (by omega)⟩


set_option maxRecDepth 8000 in
set_option maxHeartbeats 4000000 in
theorem cof_00 (p : Int) (f : Nat → Nat → Int) (w : World) (h2 : 2 ≤ p) (h13 : p ≤ 13) (hf : ∀ i, i < 3 → ∀ j, j < 3 → 0 ≤ f i j ∧ f i j < p) :
    Calls Try.prog 63 #[.int .i64 p, mv f, .int .i64 0, .int .i64 0] w fun e w' => e = .returned (.int .i64 (cofP p f 0 0)) ∧ Below w.heap.size w w' := by
  obtain ⟨W, hW, rW, hbW⟩ : ∃ W, W = w.alloc (.cells #[.int .u8 (f 0 0), .int .u8 (f 0 1), .int .u8 (f 0 2), .int .u8 (f 1 0), .int .u8 (f 1 1), .int .u8 (f 1 2), .int .u8 (f 2 0), .int .u8 (f 2 1), .int .u8 (f 2 2)] 56) ∧ W.rowIs w.heap.size 56 9 (mF f) ∧ Below w.heap.size w W := ⟨_, rfl, mbox w f _, ebox1 _ _⟩
  obtain ⟨⟨c0, c1, c2⟩, ⟨c3, c4, c5⟩, c6, c7, c8⟩ := mcells rW
  have HC := Lib.hid (show cofP p f 0 0 = (f 1 1 * f 2 2 + (p - 1) * (f 1 2 * f 2 1)) % p from rfl)
  have b0 := hf 1 (by omega) 0 (by omega)
  have b1 := hf 1 (by omega) 1 (by omega)
  have b2 := hf 1 (by omega) 2 (by omega)
  have e0 := hf 2 (by omega) 0 (by omega)
  have e1 := hf 2 (by omega) 1 (by omega)
  have e2 := hf 2 (by omega) 2 (by omega)
  clear hf
  have s1 : IntKind.i64.wrap 1 = 1 := by decide
  have s2 : IntKind.i64.wrap 2 = 2 := by decide
  have s3 : IntKind.i64.wrap 3 = 3 := by decide
  have s4 : IntKind.i64.wrap 4 = 4 := by decide
  have t1 : (1 : Int).tmod 3 = 1 := by decide
  have t2 : (2 : Int).tmod 3 = 2 := by decide
  have t3 : (3 : Int).tmod 3 = 0 := by decide
  have t4 : (4 : Int).tmod 3 = 1 := by decide
  unfold mv
  go_enter Try.func63, Try.ntmps63
  go_upto_region 1 with fail
  rw [← hW]
  clear hW
  have hlt := rW.lt
  generalize f 1 0 = x at *
  generalize f 1 1 = y at *
  generalize f 1 2 = z at *
  generalize f 2 0 = u at *
  generalize f 2 1 = v at *
  generalize f 2 2 = t at *
  have KK := Lib.hid (fun w' (h : Below W.heap.size W w') => show w'.cell? ⟨w.heap.size, 3, none⟩ = some (.int .u8 x) ∧ w'.cell? ⟨w.heap.size, 4, none⟩ = some (.int .u8 y) ∧ w'.cell? ⟨w.heap.size, 5, none⟩ = some (.int .u8 z) ∧ w'.cell? ⟨w.heap.size, 6, none⟩ = some (.int .u8 u) ∧ w'.cell? ⟨w.heap.size, 7, none⟩ = some (.int .u8 v) ∧ w'.cell? ⟨w.heap.size, 8, none⟩ = some (.int .u8 t) from
    ⟨(h.cell (p := ⟨_, _, none⟩) hlt).trans c3, (h.cell (p := ⟨_, _, none⟩) hlt).trans c4, (h.cell (p := ⟨_, _, none⟩) hlt).trans c5, (h.cell (p := ⟨_, _, none⟩) hlt).trans c6, (h.cell (p := ⟨_, _, none⟩) hlt).trans c7, (h.cell (p := ⟨_, _, none⟩) hlt).trans c8⟩)
  go_cut [9, 10] (fun s9 s10 wx => ∃ ba bb, s9 = .pointer (some ⟨ba, 0, none⟩) ∧ s10 = .pointer (some ⟨bb, 0, none⟩) ∧ wx.rowIs ba 54 3 (r3F x y z) ∧ wx.rowIs bb 54 3 (r3F u v t) ∧ Below W.heap.size W wx)
  case first =>
    go_region_held3 (fun w' => w'.cell? ⟨w.heap.size, 3, none⟩ = some (.int .u8 x) ∧ w'.cell? ⟨w.heap.size, 4, none⟩ = some (.int .u8 y) ∧ w'.cell? ⟨w.heap.size, 5, none⟩ = some (.int .u8 z) ∧ w'.cell? ⟨w.heap.size, 6, none⟩ = some (.int .u8 u) ∧ w'.cell? ⟨w.heap.size, 7, none⟩ = some (.int .u8 v) ∧ w'.cell? ⟨w.heap.size, 8, none⟩ = some (.int .u8 t))
      (first | with_reducible exact KK.out _ (Below.refl _ _).drew | with_reducible exact KK.out _ (ebox1 _ _) | with_reducible exact KK.out _ (ebox1 _ _).drew | with_reducible exact KK.out _ (ebox2 _ _ _) | with_reducible exact KK.out _ (ebox2 _ _ _).drew)
      (fail)
    all_goals
      go_wp2_with fail
      go_meet
      first
        | exact ⟨W.heap.size, W.heap.size + 1, rfl, rfl, (r3row W x y z).alloc _, r3row1 W _ u v t, (ebox2 _ _ _).drew⟩
        | exact ⟨W.heap.size + 1, W.heap.size, rfl, rfl, r3row1 W _ x y z, (r3row W u v t).alloc _, (ebox2 _ _ _).drew⟩
  case rest =>
    obtain ⟨ba, bb, rfl, rfl, ra, rb, hbx⟩ := hcut
    obtain ⟨m0, m1, m2⟩ := r3cells ra
    obtain ⟨n0, n1, n2⟩ := r3cells rb
    obtain ⟨f0, f1⟩ := eprod_fit h13 (a := y) (b := t) b1 e2
    obtain ⟨g0, g1⟩ := eprod_fit h13 (a := z) (b := v) b2 e1
    have q0 : 0 ≤ (p - 1) * (z * v) := Int.mul_nonneg (by omega) g0
    have q1 : (p - 1) * (z * v) ≤ 12 * 169 := Int.mul_le_mul (by omega) g1 g0 (by omega)
    have hb2 := hbW.trans (hbx.mono hbW.size)
    clear KK c0 c1 c2 c3 c4 c5 c6 c7 c8 ra rb hbx hbW rW
    go_wp2_with fail
    go_quiet (fail)
    go_wp2_with fail
    go_quiet (fail)
    go_wp2_with fail
    go_ret
    exact ⟨by rw [HC.out]; rfl, below_drewN hb2 _⟩

set_option maxRecDepth 8000 in
set_option maxHeartbeats 4000000 in
theorem cof_01 (p : Int) (f : Nat → Nat → Int) (w : World) (h2 : 2 ≤ p) (h13 : p ≤ 13) (hf : ∀ i, i < 3 → ∀ j, j < 3 → 0 ≤ f i j ∧ f i j < p) :
    Calls Try.prog 63 #[.int .i64 p, mv f, .int .i64 0, .int .i64 1] w fun e w' => e = .returned (.int .i64 (cofP p f 0 1)) ∧ Below w.heap.size w w' := by
  obtain ⟨W, hW, rW, hbW⟩ : ∃ W, W = w.alloc (.cells #[.int .u8 (f 0 0), .int .u8 (f 0 1), .int .u8 (f 0 2), .int .u8 (f 1 0), .int .u8 (f 1 1), .int .u8 (f 1 2), .int .u8 (f 2 0), .int .u8 (f 2 1), .int .u8 (f 2 2)] 56) ∧ W.rowIs w.heap.size 56 9 (mF f) ∧ Below w.heap.size w W := ⟨_, rfl, mbox w f _, ebox1 _ _⟩
  obtain ⟨⟨c0, c1, c2⟩, ⟨c3, c4, c5⟩, c6, c7, c8⟩ := mcells rW
  have HC := Lib.hid (show cofP p f 0 1 = (f 1 2 * f 2 0 + (p - 1) * (f 1 0 * f 2 2)) % p from rfl)
  have b0 := hf 1 (by omega) 0 (by omega)
  have b1 := hf 1 (by omega) 1 (by omega)
  have b2 := hf 1 (by omega) 2 (by omega)
  have e0 := hf 2 (by omega) 0 (by omega)
  have e1 := hf 2 (by omega) 1 (by omega)
  have e2 := hf 2 (by omega) 2 (by omega)
  clear hf
  have s1 : IntKind.i64.wrap 1 = 1 := by decide
  have s2 : IntKind.i64.wrap 2 = 2 := by decide
  have s3 : IntKind.i64.wrap 3 = 3 := by decide
  have s4 : IntKind.i64.wrap 4 = 4 := by decide
  have t1 : (1 : Int).tmod 3 = 1 := by decide
  have t2 : (2 : Int).tmod 3 = 2 := by decide
  have t3 : (3 : Int).tmod 3 = 0 := by decide
  have t4 : (4 : Int).tmod 3 = 1 := by decide
  unfold mv
  go_enter Try.func63, Try.ntmps63
  go_upto_region 1 with fail
  rw [← hW]
  clear hW
  have hlt := rW.lt
  generalize f 1 0 = x at *
  generalize f 1 1 = y at *
  generalize f 1 2 = z at *
  generalize f 2 0 = u at *
  generalize f 2 1 = v at *
  generalize f 2 2 = t at *
  have KK := Lib.hid (fun w' (h : Below W.heap.size W w') => show w'.cell? ⟨w.heap.size, 3, none⟩ = some (.int .u8 x) ∧ w'.cell? ⟨w.heap.size, 4, none⟩ = some (.int .u8 y) ∧ w'.cell? ⟨w.heap.size, 5, none⟩ = some (.int .u8 z) ∧ w'.cell? ⟨w.heap.size, 6, none⟩ = some (.int .u8 u) ∧ w'.cell? ⟨w.heap.size, 7, none⟩ = some (.int .u8 v) ∧ w'.cell? ⟨w.heap.size, 8, none⟩ = some (.int .u8 t) from
    ⟨(h.cell (p := ⟨_, _, none⟩) hlt).trans c3, (h.cell (p := ⟨_, _, none⟩) hlt).trans c4, (h.cell (p := ⟨_, _, none⟩) hlt).trans c5, (h.cell (p := ⟨_, _, none⟩) hlt).trans c6, (h.cell (p := ⟨_, _, none⟩) hlt).trans c7, (h.cell (p := ⟨_, _, none⟩) hlt).trans c8⟩)
  go_cut [9, 10] (fun s9 s10 wx => ∃ ba bb, s9 = .pointer (some ⟨ba, 0, none⟩) ∧ s10 = .pointer (some ⟨bb, 0, none⟩) ∧ wx.rowIs ba 54 3 (r3F x y z) ∧ wx.rowIs bb 54 3 (r3F u v t) ∧ Below W.heap.size W wx)
  case first =>
    go_region_held3 (fun w' => w'.cell? ⟨w.heap.size, 3, none⟩ = some (.int .u8 x) ∧ w'.cell? ⟨w.heap.size, 4, none⟩ = some (.int .u8 y) ∧ w'.cell? ⟨w.heap.size, 5, none⟩ = some (.int .u8 z) ∧ w'.cell? ⟨w.heap.size, 6, none⟩ = some (.int .u8 u) ∧ w'.cell? ⟨w.heap.size, 7, none⟩ = some (.int .u8 v) ∧ w'.cell? ⟨w.heap.size, 8, none⟩ = some (.int .u8 t))
      (first | with_reducible exact KK.out _ (Below.refl _ _).drew | with_reducible exact KK.out _ (ebox1 _ _) | with_reducible exact KK.out _ (ebox1 _ _).drew | with_reducible exact KK.out _ (ebox2 _ _ _) | with_reducible exact KK.out _ (ebox2 _ _ _).drew)
      (fail)
    all_goals
      go_wp2_with fail
      go_meet
      first
        | exact ⟨W.heap.size, W.heap.size + 1, rfl, rfl, (r3row W x y z).alloc _, r3row1 W _ u v t, (ebox2 _ _ _).drew⟩
        | exact ⟨W.heap.size + 1, W.heap.size, rfl, rfl, r3row1 W _ x y z, (r3row W u v t).alloc _, (ebox2 _ _ _).drew⟩
  case rest =>
    obtain ⟨ba, bb, rfl, rfl, ra, rb, hbx⟩ := hcut
    obtain ⟨m0, m1, m2⟩ := r3cells ra
    obtain ⟨n0, n1, n2⟩ := r3cells rb
    obtain ⟨f0, f1⟩ := eprod_fit h13 (a := z) (b := u) b2 e0
    obtain ⟨g0, g1⟩ := eprod_fit h13 (a := x) (b := t) b0 e2
    have q0 : 0 ≤ (p - 1) * (x * t) := Int.mul_nonneg (by omega) g0
    have q1 : (p - 1) * (x * t) ≤ 12 * 169 := Int.mul_le_mul (by omega) g1 g0 (by omega)
    have hb2 := hbW.trans (hbx.mono hbW.size)
    clear KK c0 c1 c2 c3 c4 c5 c6 c7 c8 ra rb hbx hbW rW
    go_wp2_with fail
    go_quiet (fail)
    go_wp2_with fail
    go_quiet (fail)
    go_wp2_with fail
    go_ret
    exact ⟨by rw [HC.out]; rfl, below_drewN hb2 _⟩

set_option maxRecDepth 8000 in
set_option maxHeartbeats 4000000 in
theorem cof_02 (p : Int) (f : Nat → Nat → Int) (w : World) (h2 : 2 ≤ p) (h13 : p ≤ 13) (hf : ∀ i, i < 3 → ∀ j, j < 3 → 0 ≤ f i j ∧ f i j < p) :
    Calls Try.prog 63 #[.int .i64 p, mv f, .int .i64 0, .int .i64 2] w fun e w' => e = .returned (.int .i64 (cofP p f 0 2)) ∧ Below w.heap.size w w' := by
  obtain ⟨W, hW, rW, hbW⟩ : ∃ W, W = w.alloc (.cells #[.int .u8 (f 0 0), .int .u8 (f 0 1), .int .u8 (f 0 2), .int .u8 (f 1 0), .int .u8 (f 1 1), .int .u8 (f 1 2), .int .u8 (f 2 0), .int .u8 (f 2 1), .int .u8 (f 2 2)] 56) ∧ W.rowIs w.heap.size 56 9 (mF f) ∧ Below w.heap.size w W := ⟨_, rfl, mbox w f _, ebox1 _ _⟩
  obtain ⟨⟨c0, c1, c2⟩, ⟨c3, c4, c5⟩, c6, c7, c8⟩ := mcells rW
  have HC := Lib.hid (show cofP p f 0 2 = (f 1 0 * f 2 1 + (p - 1) * (f 1 1 * f 2 0)) % p from rfl)
  have b0 := hf 1 (by omega) 0 (by omega)
  have b1 := hf 1 (by omega) 1 (by omega)
  have b2 := hf 1 (by omega) 2 (by omega)
  have e0 := hf 2 (by omega) 0 (by omega)
  have e1 := hf 2 (by omega) 1 (by omega)
  have e2 := hf 2 (by omega) 2 (by omega)
  clear hf
  have s1 : IntKind.i64.wrap 1 = 1 := by decide
  have s2 : IntKind.i64.wrap 2 = 2 := by decide
  have s3 : IntKind.i64.wrap 3 = 3 := by decide
  have s4 : IntKind.i64.wrap 4 = 4 := by decide
  have t1 : (1 : Int).tmod 3 = 1 := by decide
  have t2 : (2 : Int).tmod 3 = 2 := by decide
  have t3 : (3 : Int).tmod 3 = 0 := by decide
  have t4 : (4 : Int).tmod 3 = 1 := by decide
  unfold mv
  go_enter Try.func63, Try.ntmps63
  go_upto_region 1 with fail
  rw [← hW]
  clear hW
  have hlt := rW.lt
  generalize f 1 0 = x at *
  generalize f 1 1 = y at *
  generalize f 1 2 = z at *
  generalize f 2 0 = u at *
  generalize f 2 1 = v at *
  generalize f 2 2 = t at *
  have KK := Lib.hid (fun w' (h : Below W.heap.size W w') => show w'.cell? ⟨w.heap.size, 3, none⟩ = some (.int .u8 x) ∧ w'.cell? ⟨w.heap.size, 4, none⟩ = some (.int .u8 y) ∧ w'.cell? ⟨w.heap.size, 5, none⟩ = some (.int .u8 z) ∧ w'.cell? ⟨w.heap.size, 6, none⟩ = some (.int .u8 u) ∧ w'.cell? ⟨w.heap.size, 7, none⟩ = some (.int .u8 v) ∧ w'.cell? ⟨w.heap.size, 8, none⟩ = some (.int .u8 t) from
    ⟨(h.cell (p := ⟨_, _, none⟩) hlt).trans c3, (h.cell (p := ⟨_, _, none⟩) hlt).trans c4, (h.cell (p := ⟨_, _, none⟩) hlt).trans c5, (h.cell (p := ⟨_, _, none⟩) hlt).trans c6, (h.cell (p := ⟨_, _, none⟩) hlt).trans c7, (h.cell (p := ⟨_, _, none⟩) hlt).trans c8⟩)
  go_cut [9, 10] (fun s9 s10 wx => ∃ ba bb, s9 = .pointer (some ⟨ba, 0, none⟩) ∧ s10 = .pointer (some ⟨bb, 0, none⟩) ∧ wx.rowIs ba 54 3 (r3F x y z) ∧ wx.rowIs bb 54 3 (r3F u v t) ∧ Below W.heap.size W wx)
  case first =>
    go_region_held3 (fun w' => w'.cell? ⟨w.heap.size, 3, none⟩ = some (.int .u8 x) ∧ w'.cell? ⟨w.heap.size, 4, none⟩ = some (.int .u8 y) ∧ w'.cell? ⟨w.heap.size, 5, none⟩ = some (.int .u8 z) ∧ w'.cell? ⟨w.heap.size, 6, none⟩ = some (.int .u8 u) ∧ w'.cell? ⟨w.heap.size, 7, none⟩ = some (.int .u8 v) ∧ w'.cell? ⟨w.heap.size, 8, none⟩ = some (.int .u8 t))
      (first | with_reducible exact KK.out _ (Below.refl _ _).drew | with_reducible exact KK.out _ (ebox1 _ _) | with_reducible exact KK.out _ (ebox1 _ _).drew | with_reducible exact KK.out _ (ebox2 _ _ _) | with_reducible exact KK.out _ (ebox2 _ _ _).drew)
      (fail)
    all_goals
      go_wp2_with fail
      go_meet
      first
        | exact ⟨W.heap.size, W.heap.size + 1, rfl, rfl, (r3row W x y z).alloc _, r3row1 W _ u v t, (ebox2 _ _ _).drew⟩
        | exact ⟨W.heap.size + 1, W.heap.size, rfl, rfl, r3row1 W _ x y z, (r3row W u v t).alloc _, (ebox2 _ _ _).drew⟩
  case rest =>
    obtain ⟨ba, bb, rfl, rfl, ra, rb, hbx⟩ := hcut
    obtain ⟨m0, m1, m2⟩ := r3cells ra
    obtain ⟨n0, n1, n2⟩ := r3cells rb
    obtain ⟨f0, f1⟩ := eprod_fit h13 (a := x) (b := v) b0 e1
    obtain ⟨g0, g1⟩ := eprod_fit h13 (a := y) (b := u) b1 e0
    have q0 : 0 ≤ (p - 1) * (y * u) := Int.mul_nonneg (by omega) g0
    have q1 : (p - 1) * (y * u) ≤ 12 * 169 := Int.mul_le_mul (by omega) g1 g0 (by omega)
    have hb2 := hbW.trans (hbx.mono hbW.size)
    clear KK c0 c1 c2 c3 c4 c5 c6 c7 c8 ra rb hbx hbW rW
    go_wp2_with fail
    go_quiet (fail)
    go_wp2_with fail
    go_quiet (fail)
    go_wp2_with fail
    go_ret
    exact ⟨by rw [HC.out]; rfl, below_drewN hb2 _⟩

set_option maxRecDepth 8000 in
set_option maxHeartbeats 4000000 in
theorem cof_10 (p : Int) (f : Nat → Nat → Int) (w : World) (h2 : 2 ≤ p) (h13 : p ≤ 13) (hf : ∀ i, i < 3 → ∀ j, j < 3 → 0 ≤ f i j ∧ f i j < p) :
    Calls Try.prog 63 #[.int .i64 p, mv f, .int .i64 1, .int .i64 0] w fun e w' => e = .returned (.int .i64 (cofP p f 1 0)) ∧ Below w.heap.size w w' := by
  obtain ⟨W, hW, rW, hbW⟩ : ∃ W, W = w.alloc (.cells #[.int .u8 (f 0 0), .int .u8 (f 0 1), .int .u8 (f 0 2), .int .u8 (f 1 0), .int .u8 (f 1 1), .int .u8 (f 1 2), .int .u8 (f 2 0), .int .u8 (f 2 1), .int .u8 (f 2 2)] 56) ∧ W.rowIs w.heap.size 56 9 (mF f) ∧ Below w.heap.size w W := ⟨_, rfl, mbox w f _, ebox1 _ _⟩
  obtain ⟨⟨c0, c1, c2⟩, ⟨c3, c4, c5⟩, c6, c7, c8⟩ := mcells rW
  have HC := Lib.hid (show cofP p f 1 0 = (f 2 1 * f 0 2 + (p - 1) * (f 2 2 * f 0 1)) % p from rfl)
  have b0 := hf 2 (by omega) 0 (by omega)
  have b1 := hf 2 (by omega) 1 (by omega)
  have b2 := hf 2 (by omega) 2 (by omega)
  have e0 := hf 0 (by omega) 0 (by omega)
  have e1 := hf 0 (by omega) 1 (by omega)
  have e2 := hf 0 (by omega) 2 (by omega)
  clear hf
  have s1 : IntKind.i64.wrap 1 = 1 := by decide
  have s2 : IntKind.i64.wrap 2 = 2 := by decide
  have s3 : IntKind.i64.wrap 3 = 3 := by decide
  have s4 : IntKind.i64.wrap 4 = 4 := by decide
  have t1 : (1 : Int).tmod 3 = 1 := by decide
  have t2 : (2 : Int).tmod 3 = 2 := by decide
  have t3 : (3 : Int).tmod 3 = 0 := by decide
  have t4 : (4 : Int).tmod 3 = 1 := by decide
  unfold mv
  go_enter Try.func63, Try.ntmps63
  go_upto_region 1 with fail
  rw [← hW]
  clear hW
  have hlt := rW.lt
  generalize f 2 0 = x at *
  generalize f 2 1 = y at *
  generalize f 2 2 = z at *
  generalize f 0 0 = u at *
  generalize f 0 1 = v at *
  generalize f 0 2 = t at *
  have KK := Lib.hid (fun w' (h : Below W.heap.size W w') => show w'.cell? ⟨w.heap.size, 6, none⟩ = some (.int .u8 x) ∧ w'.cell? ⟨w.heap.size, 7, none⟩ = some (.int .u8 y) ∧ w'.cell? ⟨w.heap.size, 8, none⟩ = some (.int .u8 z) ∧ w'.cell? ⟨w.heap.size, 0, none⟩ = some (.int .u8 u) ∧ w'.cell? ⟨w.heap.size, 1, none⟩ = some (.int .u8 v) ∧ w'.cell? ⟨w.heap.size, 2, none⟩ = some (.int .u8 t) from
    ⟨(h.cell (p := ⟨_, _, none⟩) hlt).trans c6, (h.cell (p := ⟨_, _, none⟩) hlt).trans c7, (h.cell (p := ⟨_, _, none⟩) hlt).trans c8, (h.cell (p := ⟨_, _, none⟩) hlt).trans c0, (h.cell (p := ⟨_, _, none⟩) hlt).trans c1, (h.cell (p := ⟨_, _, none⟩) hlt).trans c2⟩)
  go_cut [9, 10] (fun s9 s10 wx => ∃ ba bb, s9 = .pointer (some ⟨ba, 0, none⟩) ∧ s10 = .pointer (some ⟨bb, 0, none⟩) ∧ wx.rowIs ba 54 3 (r3F x y z) ∧ wx.rowIs bb 54 3 (r3F u v t) ∧ Below W.heap.size W wx)
  case first =>
    go_region_held3 (fun w' => w'.cell? ⟨w.heap.size, 6, none⟩ = some (.int .u8 x) ∧ w'.cell? ⟨w.heap.size, 7, none⟩ = some (.int .u8 y) ∧ w'.cell? ⟨w.heap.size, 8, none⟩ = some (.int .u8 z) ∧ w'.cell? ⟨w.heap.size, 0, none⟩ = some (.int .u8 u) ∧ w'.cell? ⟨w.heap.size, 1, none⟩ = some (.int .u8 v) ∧ w'.cell? ⟨w.heap.size, 2, none⟩ = some (.int .u8 t))
      (first | with_reducible exact KK.out _ (Below.refl _ _).drew | with_reducible exact KK.out _ (ebox1 _ _) | with_reducible exact KK.out _ (ebox1 _ _).drew | with_reducible exact KK.out _ (ebox2 _ _ _) | with_reducible exact KK.out _ (ebox2 _ _ _).drew)
      (fail)
    all_goals
      go_wp2_with fail
      go_meet
      first
        | exact ⟨W.heap.size, W.heap.size + 1, rfl, rfl, (r3row W x y z).alloc _, r3row1 W _ u v t, (ebox2 _ _ _).drew⟩
        | exact ⟨W.heap.size + 1, W.heap.size, rfl, rfl, r3row1 W _ x y z, (r3row W u v t).alloc _, (ebox2 _ _ _).drew⟩
  case rest =>
    obtain ⟨ba, bb, rfl, rfl, ra, rb, hbx⟩ := hcut
    obtain ⟨m0, m1, m2⟩ := r3cells ra
    obtain ⟨n0, n1, n2⟩ := r3cells rb
    obtain ⟨f0, f1⟩ := eprod_fit h13 (a := y) (b := t) b1 e2
    obtain ⟨g0, g1⟩ := eprod_fit h13 (a := z) (b := v) b2 e1
    have q0 : 0 ≤ (p - 1) * (z * v) := Int.mul_nonneg (by omega) g0
    have q1 : (p - 1) * (z * v) ≤ 12 * 169 := Int.mul_le_mul (by omega) g1 g0 (by omega)
    have hb2 := hbW.trans (hbx.mono hbW.size)
    clear KK c0 c1 c2 c3 c4 c5 c6 c7 c8 ra rb hbx hbW rW
    go_wp2_with fail
    go_quiet (fail)
    go_wp2_with fail
    go_quiet (fail)
    go_wp2_with fail
    go_ret
    exact ⟨by rw [HC.out]; rfl, below_drewN hb2 _⟩

set_option maxRecDepth 8000 in
set_option maxHeartbeats 4000000 in
theorem cof_11 (p : Int) (f : Nat → Nat → Int) (w : World) (h2 : 2 ≤ p) (h13 : p ≤ 13) (hf : ∀ i, i < 3 → ∀ j, j < 3 → 0 ≤ f i j ∧ f i j < p) :
    Calls Try.prog 63 #[.int .i64 p, mv f, .int .i64 1, .int .i64 1] w fun e w' => e = .returned (.int .i64 (cofP p f 1 1)) ∧ Below w.heap.size w w' := by
  obtain ⟨W, hW, rW, hbW⟩ : ∃ W, W = w.alloc (.cells #[.int .u8 (f 0 0), .int .u8 (f 0 1), .int .u8 (f 0 2), .int .u8 (f 1 0), .int .u8 (f 1 1), .int .u8 (f 1 2), .int .u8 (f 2 0), .int .u8 (f 2 1), .int .u8 (f 2 2)] 56) ∧ W.rowIs w.heap.size 56 9 (mF f) ∧ Below w.heap.size w W := ⟨_, rfl, mbox w f _, ebox1 _ _⟩
  obtain ⟨⟨c0, c1, c2⟩, ⟨c3, c4, c5⟩, c6, c7, c8⟩ := mcells rW
  have HC := Lib.hid (show cofP p f 1 1 = (f 2 2 * f 0 0 + (p - 1) * (f 2 0 * f 0 2)) % p from rfl)
  have b0 := hf 2 (by omega) 0 (by omega)
  have b1 := hf 2 (by omega) 1 (by omega)
  have b2 := hf 2 (by omega) 2 (by omega)
  have e0 := hf 0 (by omega) 0 (by omega)
  have e1 := hf 0 (by omega) 1 (by omega)
  have e2 := hf 0 (by omega) 2 (by omega)
  clear hf
  have s1 : IntKind.i64.wrap 1 = 1 := by decide
  have s2 : IntKind.i64.wrap 2 = 2 := by decide
  have s3 : IntKind.i64.wrap 3 = 3 := by decide
  have s4 : IntKind.i64.wrap 4 = 4 := by decide
  have t1 : (1 : Int).tmod 3 = 1 := by decide
  have t2 : (2 : Int).tmod 3 = 2 := by decide
  have t3 : (3 : Int).tmod 3 = 0 := by decide
  have t4 : (4 : Int).tmod 3 = 1 := by decide
  unfold mv
  go_enter Try.func63, Try.ntmps63
  go_upto_region 1 with fail
  rw [← hW]
  clear hW
  have hlt := rW.lt
  generalize f 2 0 = x at *
  generalize f 2 1 = y at *
  generalize f 2 2 = z at *
  generalize f 0 0 = u at *
  generalize f 0 1 = v at *
  generalize f 0 2 = t at *
  have KK := Lib.hid (fun w' (h : Below W.heap.size W w') => show w'.cell? ⟨w.heap.size, 6, none⟩ = some (.int .u8 x) ∧ w'.cell? ⟨w.heap.size, 7, none⟩ = some (.int .u8 y) ∧ w'.cell? ⟨w.heap.size, 8, none⟩ = some (.int .u8 z) ∧ w'.cell? ⟨w.heap.size, 0, none⟩ = some (.int .u8 u) ∧ w'.cell? ⟨w.heap.size, 1, none⟩ = some (.int .u8 v) ∧ w'.cell? ⟨w.heap.size, 2, none⟩ = some (.int .u8 t) from
    ⟨(h.cell (p := ⟨_, _, none⟩) hlt).trans c6, (h.cell (p := ⟨_, _, none⟩) hlt).trans c7, (h.cell (p := ⟨_, _, none⟩) hlt).trans c8, (h.cell (p := ⟨_, _, none⟩) hlt).trans c0, (h.cell (p := ⟨_, _, none⟩) hlt).trans c1, (h.cell (p := ⟨_, _, none⟩) hlt).trans c2⟩)
  go_cut [9, 10] (fun s9 s10 wx => ∃ ba bb, s9 = .pointer (some ⟨ba, 0, none⟩) ∧ s10 = .pointer (some ⟨bb, 0, none⟩) ∧ wx.rowIs ba 54 3 (r3F x y z) ∧ wx.rowIs bb 54 3 (r3F u v t) ∧ Below W.heap.size W wx)
  case first =>
    go_region_held3 (fun w' => w'.cell? ⟨w.heap.size, 6, none⟩ = some (.int .u8 x) ∧ w'.cell? ⟨w.heap.size, 7, none⟩ = some (.int .u8 y) ∧ w'.cell? ⟨w.heap.size, 8, none⟩ = some (.int .u8 z) ∧ w'.cell? ⟨w.heap.size, 0, none⟩ = some (.int .u8 u) ∧ w'.cell? ⟨w.heap.size, 1, none⟩ = some (.int .u8 v) ∧ w'.cell? ⟨w.heap.size, 2, none⟩ = some (.int .u8 t))
      (first | with_reducible exact KK.out _ (Below.refl _ _).drew | with_reducible exact KK.out _ (ebox1 _ _) | with_reducible exact KK.out _ (ebox1 _ _).drew | with_reducible exact KK.out _ (ebox2 _ _ _) | with_reducible exact KK.out _ (ebox2 _ _ _).drew)
      (fail)
    all_goals
      go_wp2_with fail
      go_meet
      first
        | exact ⟨W.heap.size, W.heap.size + 1, rfl, rfl, (r3row W x y z).alloc _, r3row1 W _ u v t, (ebox2 _ _ _).drew⟩
        | exact ⟨W.heap.size + 1, W.heap.size, rfl, rfl, r3row1 W _ x y z, (r3row W u v t).alloc _, (ebox2 _ _ _).drew⟩
  case rest =>
    obtain ⟨ba, bb, rfl, rfl, ra, rb, hbx⟩ := hcut
    obtain ⟨m0, m1, m2⟩ := r3cells ra
    obtain ⟨n0, n1, n2⟩ := r3cells rb
    obtain ⟨f0, f1⟩ := eprod_fit h13 (a := z) (b := u) b2 e0
    obtain ⟨g0, g1⟩ := eprod_fit h13 (a := x) (b := t) b0 e2
    have q0 : 0 ≤ (p - 1) * (x * t) := Int.mul_nonneg (by omega) g0
    have q1 : (p - 1) * (x * t) ≤ 12 * 169 := Int.mul_le_mul (by omega) g1 g0 (by omega)
    have hb2 := hbW.trans (hbx.mono hbW.size)
    clear KK c0 c1 c2 c3 c4 c5 c6 c7 c8 ra rb hbx hbW rW
    go_wp2_with fail
    go_quiet (fail)
    go_wp2_with fail
    go_quiet (fail)
    go_wp2_with fail
    go_ret
    exact ⟨by rw [HC.out]; rfl, below_drewN hb2 _⟩

set_option maxRecDepth 8000 in
set_option maxHeartbeats 4000000 in
theorem cof_12 (p : Int) (f : Nat → Nat → Int) (w : World) (h2 : 2 ≤ p) (h13 : p ≤ 13) (hf : ∀ i, i < 3 → ∀ j, j < 3 → 0 ≤ f i j ∧ f i j < p) :
    Calls Try.prog 63 #[.int .i64 p, mv f, .int .i64 1, .int .i64 2] w fun e w' => e = .returned (.int .i64 (cofP p f 1 2)) ∧ Below w.heap.size w w' := by
  obtain ⟨W, hW, rW, hbW⟩ : ∃ W, W = w.alloc (.cells #[.int .u8 (f 0 0), .int .u8 (f 0 1), .int .u8 (f 0 2), .int .u8 (f 1 0), .int .u8 (f 1 1), .int .u8 (f 1 2), .int .u8 (f 2 0), .int .u8 (f 2 1), .int .u8 (f 2 2)] 56) ∧ W.rowIs w.heap.size 56 9 (mF f) ∧ Below w.heap.size w W := ⟨_, rfl, mbox w f _, ebox1 _ _⟩
  obtain ⟨⟨c0, c1, c2⟩, ⟨c3, c4, c5⟩, c6, c7, c8⟩ := mcells rW
  have HC := Lib.hid (show cofP p f 1 2 = (f 2 0 * f 0 1 + (p - 1) * (f 2 1 * f 0 0)) % p from rfl)
  have b0 := hf 2 (by omega) 0 (by omega)
  have b1 := hf 2 (by omega) 1 (by omega)
  have b2 := hf 2 (by omega) 2 (by omega)
  have e0 := hf 0 (by omega) 0 (by omega)
  have e1 := hf 0 (by omega) 1 (by omega)
  have e2 := hf 0 (by omega) 2 (by omega)
  clear hf
  have s1 : IntKind.i64.wrap 1 = 1 := by decide
  have s2 : IntKind.i64.wrap 2 = 2 := by decide
  have s3 : IntKind.i64.wrap 3 = 3 := by decide
  have s4 : IntKind.i64.wrap 4 = 4 := by decide
  have t1 : (1 : Int).tmod 3 = 1 := by decide
  have t2 : (2 : Int).tmod 3 = 2 := by decide
  have t3 : (3 : Int).tmod 3 = 0 := by decide
  have t4 : (4 : Int).tmod 3 = 1 := by decide
  unfold mv
  go_enter Try.func63, Try.ntmps63
  go_upto_region 1 with fail
  rw [← hW]
  clear hW
  have hlt := rW.lt
  generalize f 2 0 = x at *
  generalize f 2 1 = y at *
  generalize f 2 2 = z at *
  generalize f 0 0 = u at *
  generalize f 0 1 = v at *
  generalize f 0 2 = t at *
  have KK := Lib.hid (fun w' (h : Below W.heap.size W w') => show w'.cell? ⟨w.heap.size, 6, none⟩ = some (.int .u8 x) ∧ w'.cell? ⟨w.heap.size, 7, none⟩ = some (.int .u8 y) ∧ w'.cell? ⟨w.heap.size, 8, none⟩ = some (.int .u8 z) ∧ w'.cell? ⟨w.heap.size, 0, none⟩ = some (.int .u8 u) ∧ w'.cell? ⟨w.heap.size, 1, none⟩ = some (.int .u8 v) ∧ w'.cell? ⟨w.heap.size, 2, none⟩ = some (.int .u8 t) from
    ⟨(h.cell (p := ⟨_, _, none⟩) hlt).trans c6, (h.cell (p := ⟨_, _, none⟩) hlt).trans c7, (h.cell (p := ⟨_, _, none⟩) hlt).trans c8, (h.cell (p := ⟨_, _, none⟩) hlt).trans c0, (h.cell (p := ⟨_, _, none⟩) hlt).trans c1, (h.cell (p := ⟨_, _, none⟩) hlt).trans c2⟩)
  go_cut [9, 10] (fun s9 s10 wx => ∃ ba bb, s9 = .pointer (some ⟨ba, 0, none⟩) ∧ s10 = .pointer (some ⟨bb, 0, none⟩) ∧ wx.rowIs ba 54 3 (r3F x y z) ∧ wx.rowIs bb 54 3 (r3F u v t) ∧ Below W.heap.size W wx)
  case first =>
    go_region_held3 (fun w' => w'.cell? ⟨w.heap.size, 6, none⟩ = some (.int .u8 x) ∧ w'.cell? ⟨w.heap.size, 7, none⟩ = some (.int .u8 y) ∧ w'.cell? ⟨w.heap.size, 8, none⟩ = some (.int .u8 z) ∧ w'.cell? ⟨w.heap.size, 0, none⟩ = some (.int .u8 u) ∧ w'.cell? ⟨w.heap.size, 1, none⟩ = some (.int .u8 v) ∧ w'.cell? ⟨w.heap.size, 2, none⟩ = some (.int .u8 t))
      (first | with_reducible exact KK.out _ (Below.refl _ _).drew | with_reducible exact KK.out _ (ebox1 _ _) | with_reducible exact KK.out _ (ebox1 _ _).drew | with_reducible exact KK.out _ (ebox2 _ _ _) | with_reducible exact KK.out _ (ebox2 _ _ _).drew)
      (fail)
    all_goals
      go_wp2_with fail
      go_meet
      first
        | exact ⟨W.heap.size, W.heap.size + 1, rfl, rfl, (r3row W x y z).alloc _, r3row1 W _ u v t, (ebox2 _ _ _).drew⟩
        | exact ⟨W.heap.size + 1, W.heap.size, rfl, rfl, r3row1 W _ x y z, (r3row W u v t).alloc _, (ebox2 _ _ _).drew⟩
  case rest =>
    obtain ⟨ba, bb, rfl, rfl, ra, rb, hbx⟩ := hcut
    obtain ⟨m0, m1, m2⟩ := r3cells ra
    obtain ⟨n0, n1, n2⟩ := r3cells rb
    obtain ⟨f0, f1⟩ := eprod_fit h13 (a := x) (b := v) b0 e1
    obtain ⟨g0, g1⟩ := eprod_fit h13 (a := y) (b := u) b1 e0
    have q0 : 0 ≤ (p - 1) * (y * u) := Int.mul_nonneg (by omega) g0
    have q1 : (p - 1) * (y * u) ≤ 12 * 169 := Int.mul_le_mul (by omega) g1 g0 (by omega)
    have hb2 := hbW.trans (hbx.mono hbW.size)
    clear KK c0 c1 c2 c3 c4 c5 c6 c7 c8 ra rb hbx hbW rW
    go_wp2_with fail
    go_quiet (fail)
    go_wp2_with fail
    go_quiet (fail)
    go_wp2_with fail
    go_ret
    exact ⟨by rw [HC.out]; rfl, below_drewN hb2 _⟩

set_option maxRecDepth 8000 in
set_option maxHeartbeats 4000000 in
theorem cof_20 (p : Int) (f : Nat → Nat → Int) (w : World) (h2 : 2 ≤ p) (h13 : p ≤ 13) (hf : ∀ i, i < 3 → ∀ j, j < 3 → 0 ≤ f i j ∧ f i j < p) :
    Calls Try.prog 63 #[.int .i64 p, mv f, .int .i64 2, .int .i64 0] w fun e w' => e = .returned (.int .i64 (cofP p f 2 0)) ∧ Below w.heap.size w w' := by
  obtain ⟨W, hW, rW, hbW⟩ : ∃ W, W = w.alloc (.cells #[.int .u8 (f 0 0), .int .u8 (f 0 1), .int .u8 (f 0 2), .int .u8 (f 1 0), .int .u8 (f 1 1), .int .u8 (f 1 2), .int .u8 (f 2 0), .int .u8 (f 2 1), .int .u8 (f 2 2)] 56) ∧ W.rowIs w.heap.size 56 9 (mF f) ∧ Below w.heap.size w W := ⟨_, rfl, mbox w f _, ebox1 _ _⟩
  obtain ⟨⟨c0, c1, c2⟩, ⟨c3, c4, c5⟩, c6, c7, c8⟩ := mcells rW
  have HC := Lib.hid (show cofP p f 2 0 = (f 0 1 * f 1 2 + (p - 1) * (f 0 2 * f 1 1)) % p from rfl)
  have b0 := hf 0 (by omega) 0 (by omega)
  have b1 := hf 0 (by omega) 1 (by omega)
  have b2 := hf 0 (by omega) 2 (by omega)
  have e0 := hf 1 (by omega) 0 (by omega)
  have e1 := hf 1 (by omega) 1 (by omega)
  have e2 := hf 1 (by omega) 2 (by omega)
  clear hf
  have s1 : IntKind.i64.wrap 1 = 1 := by decide
  have s2 : IntKind.i64.wrap 2 = 2 := by decide
  have s3 : IntKind.i64.wrap 3 = 3 := by decide
  have s4 : IntKind.i64.wrap 4 = 4 := by decide
  have t1 : (1 : Int).tmod 3 = 1 := by decide
  have t2 : (2 : Int).tmod 3 = 2 := by decide
  have t3 : (3 : Int).tmod 3 = 0 := by decide
  have t4 : (4 : Int).tmod 3 = 1 := by decide
  unfold mv
  go_enter Try.func63, Try.ntmps63
  go_upto_region 1 with fail
  rw [← hW]
  clear hW
  have hlt := rW.lt
  generalize f 0 0 = x at *
  generalize f 0 1 = y at *
  generalize f 0 2 = z at *
  generalize f 1 0 = u at *
  generalize f 1 1 = v at *
  generalize f 1 2 = t at *
  have KK := Lib.hid (fun w' (h : Below W.heap.size W w') => show w'.cell? ⟨w.heap.size, 0, none⟩ = some (.int .u8 x) ∧ w'.cell? ⟨w.heap.size, 1, none⟩ = some (.int .u8 y) ∧ w'.cell? ⟨w.heap.size, 2, none⟩ = some (.int .u8 z) ∧ w'.cell? ⟨w.heap.size, 3, none⟩ = some (.int .u8 u) ∧ w'.cell? ⟨w.heap.size, 4, none⟩ = some (.int .u8 v) ∧ w'.cell? ⟨w.heap.size, 5, none⟩ = some (.int .u8 t) from
    ⟨(h.cell (p := ⟨_, _, none⟩) hlt).trans c0, (h.cell (p := ⟨_, _, none⟩) hlt).trans c1, (h.cell (p := ⟨_, _, none⟩) hlt).trans c2, (h.cell (p := ⟨_, _, none⟩) hlt).trans c3, (h.cell (p := ⟨_, _, none⟩) hlt).trans c4, (h.cell (p := ⟨_, _, none⟩) hlt).trans c5⟩)
  go_cut [9, 10] (fun s9 s10 wx => ∃ ba bb, s9 = .pointer (some ⟨ba, 0, none⟩) ∧ s10 = .pointer (some ⟨bb, 0, none⟩) ∧ wx.rowIs ba 54 3 (r3F x y z) ∧ wx.rowIs bb 54 3 (r3F u v t) ∧ Below W.heap.size W wx)
  case first =>
    go_region_held3 (fun w' => w'.cell? ⟨w.heap.size, 0, none⟩ = some (.int .u8 x) ∧ w'.cell? ⟨w.heap.size, 1, none⟩ = some (.int .u8 y) ∧ w'.cell? ⟨w.heap.size, 2, none⟩ = some (.int .u8 z) ∧ w'.cell? ⟨w.heap.size, 3, none⟩ = some (.int .u8 u) ∧ w'.cell? ⟨w.heap.size, 4, none⟩ = some (.int .u8 v) ∧ w'.cell? ⟨w.heap.size, 5, none⟩ = some (.int .u8 t))
      (first | with_reducible exact KK.out _ (Below.refl _ _).drew | with_reducible exact KK.out _ (ebox1 _ _) | with_reducible exact KK.out _ (ebox1 _ _).drew | with_reducible exact KK.out _ (ebox2 _ _ _) | with_reducible exact KK.out _ (ebox2 _ _ _).drew)
      (fail)
    all_goals
      go_wp2_with fail
      go_meet
      first
        | exact ⟨W.heap.size, W.heap.size + 1, rfl, rfl, (r3row W x y z).alloc _, r3row1 W _ u v t, (ebox2 _ _ _).drew⟩
        | exact ⟨W.heap.size + 1, W.heap.size, rfl, rfl, r3row1 W _ x y z, (r3row W u v t).alloc _, (ebox2 _ _ _).drew⟩
  case rest =>
    obtain ⟨ba, bb, rfl, rfl, ra, rb, hbx⟩ := hcut
    obtain ⟨m0, m1, m2⟩ := r3cells ra
    obtain ⟨n0, n1, n2⟩ := r3cells rb
    obtain ⟨f0, f1⟩ := eprod_fit h13 (a := y) (b := t) b1 e2
    obtain ⟨g0, g1⟩ := eprod_fit h13 (a := z) (b := v) b2 e1
    have q0 : 0 ≤ (p - 1) * (z * v) := Int.mul_nonneg (by omega) g0
    have q1 : (p - 1) * (z * v) ≤ 12 * 169 := Int.mul_le_mul (by omega) g1 g0 (by omega)
    have hb2 := hbW.trans (hbx.mono hbW.size)
    clear KK c0 c1 c2 c3 c4 c5 c6 c7 c8 ra rb hbx hbW rW
    go_wp2_with fail
    go_quiet (fail)
    go_wp2_with fail
    go_quiet (fail)
    go_wp2_with fail
    go_ret
    exact ⟨by rw [HC.out]; rfl, below_drewN hb2 _⟩

set_option maxRecDepth 8000 in
set_option maxHeartbeats 4000000 in
theorem cof_21 (p : Int) (f : Nat → Nat → Int) (w : World) (h2 : 2 ≤ p) (h13 : p ≤ 13) (hf : ∀ i, i < 3 → ∀ j, j < 3 → 0 ≤ f i j ∧ f i j < p) :
    Calls Try.prog 63 #[.int .i64 p, mv f, .int .i64 2, .int .i64 1] w fun e w' => e = .returned (.int .i64 (cofP p f 2 1)) ∧ Below w.heap.size w w' := by
  obtain ⟨W, hW, rW, hbW⟩ : ∃ W, W = w.alloc (.cells #[.int .u8 (f 0 0), .int .u8 (f 0 1), .int .u8 (f 0 2), .int .u8 (f 1 0), .int .u8 (f 1 1), .int .u8 (f 1 2), .int .u8 (f 2 0), .int .u8 (f 2 1), .int .u8 (f 2 2)] 56) ∧ W.rowIs w.heap.size 56 9 (mF f) ∧ Below w.heap.size w W := ⟨_, rfl, mbox w f _, ebox1 _ _⟩
  obtain ⟨⟨c0, c1, c2⟩, ⟨c3, c4, c5⟩, c6, c7, c8⟩ := mcells rW
  have HC := Lib.hid (show cofP p f 2 1 = (f 0 2 * f 1 0 + (p - 1) * (f 0 0 * f 1 2)) % p from rfl)
  have b0 := hf 0 (by omega) 0 (by omega)
  have b1 := hf 0 (by omega) 1 (by omega)
  have b2 := hf 0 (by omega) 2 (by omega)
  have e0 := hf 1 (by omega) 0 (by omega)
  have e1 := hf 1 (by omega) 1 (by omega)
  have e2 := hf 1 (by omega) 2 (by omega)
  clear hf
  have s1 : IntKind.i64.wrap 1 = 1 := by decide
  have s2 : IntKind.i64.wrap 2 = 2 := by decide
  have s3 : IntKind.i64.wrap 3 = 3 := by decide
  have s4 : IntKind.i64.wrap 4 = 4 := by decide
  have t1 : (1 : Int).tmod 3 = 1 := by decide
  have t2 : (2 : Int).tmod 3 = 2 := by decide
  have t3 : (3 : Int).tmod 3 = 0 := by decide
  have t4 : (4 : Int).tmod 3 = 1 := by decide
  unfold mv
  go_enter Try.func63, Try.ntmps63
  go_upto_region 1 with fail
  rw [← hW]
  clear hW
  have hlt := rW.lt
  generalize f 0 0 = x at *
  generalize f 0 1 = y at *
  generalize f 0 2 = z at *
  generalize f 1 0 = u at *
  generalize f 1 1 = v at *
  generalize f 1 2 = t at *
  have KK := Lib.hid (fun w' (h : Below W.heap.size W w') => show w'.cell? ⟨w.heap.size, 0, none⟩ = some (.int .u8 x) ∧ w'.cell? ⟨w.heap.size, 1, none⟩ = some (.int .u8 y) ∧ w'.cell? ⟨w.heap.size, 2, none⟩ = some (.int .u8 z) ∧ w'.cell? ⟨w.heap.size, 3, none⟩ = some (.int .u8 u) ∧ w'.cell? ⟨w.heap.size, 4, none⟩ = some (.int .u8 v) ∧ w'.cell? ⟨w.heap.size, 5, none⟩ = some (.int .u8 t) from
    ⟨(h.cell (p := ⟨_, _, none⟩) hlt).trans c0, (h.cell (p := ⟨_, _, none⟩) hlt).trans c1, (h.cell (p := ⟨_, _, none⟩) hlt).trans c2, (h.cell (p := ⟨_, _, none⟩) hlt).trans c3, (h.cell (p := ⟨_, _, none⟩) hlt).trans c4, (h.cell (p := ⟨_, _, none⟩) hlt).trans c5⟩)
  go_cut [9, 10] (fun s9 s10 wx => ∃ ba bb, s9 = .pointer (some ⟨ba, 0, none⟩) ∧ s10 = .pointer (some ⟨bb, 0, none⟩) ∧ wx.rowIs ba 54 3 (r3F x y z) ∧ wx.rowIs bb 54 3 (r3F u v t) ∧ Below W.heap.size W wx)
  case first =>
    go_region_held3 (fun w' => w'.cell? ⟨w.heap.size, 0, none⟩ = some (.int .u8 x) ∧ w'.cell? ⟨w.heap.size, 1, none⟩ = some (.int .u8 y) ∧ w'.cell? ⟨w.heap.size, 2, none⟩ = some (.int .u8 z) ∧ w'.cell? ⟨w.heap.size, 3, none⟩ = some (.int .u8 u) ∧ w'.cell? ⟨w.heap.size, 4, none⟩ = some (.int .u8 v) ∧ w'.cell? ⟨w.heap.size, 5, none⟩ = some (.int .u8 t))
      (first | with_reducible exact KK.out _ (Below.refl _ _).drew | with_reducible exact KK.out _ (ebox1 _ _) | with_reducible exact KK.out _ (ebox1 _ _).drew | with_reducible exact KK.out _ (ebox2 _ _ _) | with_reducible exact KK.out _ (ebox2 _ _ _).drew)
      (fail)
    all_goals
      go_wp2_with fail
      go_meet
      first
        | exact ⟨W.heap.size, W.heap.size + 1, rfl, rfl, (r3row W x y z).alloc _, r3row1 W _ u v t, (ebox2 _ _ _).drew⟩
        | exact ⟨W.heap.size + 1, W.heap.size, rfl, rfl, r3row1 W _ x y z, (r3row W u v t).alloc _, (ebox2 _ _ _).drew⟩
  case rest =>
    obtain ⟨ba, bb, rfl, rfl, ra, rb, hbx⟩ := hcut
    obtain ⟨m0, m1, m2⟩ := r3cells ra
    obtain ⟨n0, n1, n2⟩ := r3cells rb
    obtain ⟨f0, f1⟩ := eprod_fit h13 (a := z) (b := u) b2 e0
    obtain ⟨g0, g1⟩ := eprod_fit h13 (a := x) (b := t) b0 e2
    have q0 : 0 ≤ (p - 1) * (x * t) := Int.mul_nonneg (by omega) g0
    have q1 : (p - 1) * (x * t) ≤ 12 * 169 := Int.mul_le_mul (by omega) g1 g0 (by omega)
    have hb2 := hbW.trans (hbx.mono hbW.size)
    clear KK c0 c1 c2 c3 c4 c5 c6 c7 c8 ra rb hbx hbW rW
    go_wp2_with fail
    go_quiet (fail)
    go_wp2_with fail
    go_quiet (fail)
    go_wp2_with fail
    go_ret
    exact ⟨by rw [HC.out]; rfl, below_drewN hb2 _⟩

set_option maxRecDepth 8000 in
set_option maxHeartbeats 4000000 in
theorem cof_22 (p : Int) (f : Nat → Nat → Int) (w : World) (h2 : 2 ≤ p) (h13 : p ≤ 13) (hf : ∀ i, i < 3 → ∀ j, j < 3 → 0 ≤ f i j ∧ f i j < p) :
    Calls Try.prog 63 #[.int .i64 p, mv f, .int .i64 2, .int .i64 2] w fun e w' => e = .returned (.int .i64 (cofP p f 2 2)) ∧ Below w.heap.size w w' := by
  obtain ⟨W, hW, rW, hbW⟩ : ∃ W, W = w.alloc (.cells #[.int .u8 (f 0 0), .int .u8 (f 0 1), .int .u8 (f 0 2), .int .u8 (f 1 0), .int .u8 (f 1 1), .int .u8 (f 1 2), .int .u8 (f 2 0), .int .u8 (f 2 1), .int .u8 (f 2 2)] 56) ∧ W.rowIs w.heap.size 56 9 (mF f) ∧ Below w.heap.size w W := ⟨_, rfl, mbox w f _, ebox1 _ _⟩
  obtain ⟨⟨c0, c1, c2⟩, ⟨c3, c4, c5⟩, c6, c7, c8⟩ := mcells rW
  have HC := Lib.hid (show cofP p f 2 2 = (f 0 0 * f 1 1 + (p - 1) * (f 0 1 * f 1 0)) % p from rfl)
  have b0 := hf 0 (by omega) 0 (by omega)
  have b1 := hf 0 (by omega) 1 (by omega)
  have b2 := hf 0 (by omega) 2 (by omega)
  have e0 := hf 1 (by omega) 0 (by omega)
  have e1 := hf 1 (by omega) 1 (by omega)
  have e2 := hf 1 (by omega) 2 (by omega)
  clear hf
  have s1 : IntKind.i64.wrap 1 = 1 := by decide
  have s2 : IntKind.i64.wrap 2 = 2 := by decide
  have s3 : IntKind.i64.wrap 3 = 3 := by decide
  have s4 : IntKind.i64.wrap 4 = 4 := by decide
  have t1 : (1 : Int).tmod 3 = 1 := by decide
  have t2 : (2 : Int).tmod 3 = 2 := by decide
  have t3 : (3 : Int).tmod 3 = 0 := by decide
  have t4 : (4 : Int).tmod 3 = 1 := by decide
  unfold mv
  go_enter Try.func63, Try.ntmps63
  go_upto_region 1 with fail
  rw [← hW]
  clear hW
  have hlt := rW.lt
  generalize f 0 0 = x at *
  generalize f 0 1 = y at *
  generalize f 0 2 = z at *
  generalize f 1 0 = u at *
  generalize f 1 1 = v at *
  generalize f 1 2 = t at *
  have KK := Lib.hid (fun w' (h : Below W.heap.size W w') => show w'.cell? ⟨w.heap.size, 0, none⟩ = some (.int .u8 x) ∧ w'.cell? ⟨w.heap.size, 1, none⟩ = some (.int .u8 y) ∧ w'.cell? ⟨w.heap.size, 2, none⟩ = some (.int .u8 z) ∧ w'.cell? ⟨w.heap.size, 3, none⟩ = some (.int .u8 u) ∧ w'.cell? ⟨w.heap.size, 4, none⟩ = some (.int .u8 v) ∧ w'.cell? ⟨w.heap.size, 5, none⟩ = some (.int .u8 t) from
    ⟨(h.cell (p := ⟨_, _, none⟩) hlt).trans c0, (h.cell (p := ⟨_, _, none⟩) hlt).trans c1, (h.cell (p := ⟨_, _, none⟩) hlt).trans c2, (h.cell (p := ⟨_, _, none⟩) hlt).trans c3, (h.cell (p := ⟨_, _, none⟩) hlt).trans c4, (h.cell (p := ⟨_, _, none⟩) hlt).trans c5⟩)
  go_cut [9, 10] (fun s9 s10 wx => ∃ ba bb, s9 = .pointer (some ⟨ba, 0, none⟩) ∧ s10 = .pointer (some ⟨bb, 0, none⟩) ∧ wx.rowIs ba 54 3 (r3F x y z) ∧ wx.rowIs bb 54 3 (r3F u v t) ∧ Below W.heap.size W wx)
  case first =>
    go_region_held3 (fun w' => w'.cell? ⟨w.heap.size, 0, none⟩ = some (.int .u8 x) ∧ w'.cell? ⟨w.heap.size, 1, none⟩ = some (.int .u8 y) ∧ w'.cell? ⟨w.heap.size, 2, none⟩ = some (.int .u8 z) ∧ w'.cell? ⟨w.heap.size, 3, none⟩ = some (.int .u8 u) ∧ w'.cell? ⟨w.heap.size, 4, none⟩ = some (.int .u8 v) ∧ w'.cell? ⟨w.heap.size, 5, none⟩ = some (.int .u8 t))
      (first | with_reducible exact KK.out _ (Below.refl _ _).drew | with_reducible exact KK.out _ (ebox1 _ _) | with_reducible exact KK.out _ (ebox1 _ _).drew | with_reducible exact KK.out _ (ebox2 _ _ _) | with_reducible exact KK.out _ (ebox2 _ _ _).drew)
      (fail)
    all_goals
      go_wp2_with fail
      go_meet
      first
        | exact ⟨W.heap.size, W.heap.size + 1, rfl, rfl, (r3row W x y z).alloc _, r3row1 W _ u v t, (ebox2 _ _ _).drew⟩
        | exact ⟨W.heap.size + 1, W.heap.size, rfl, rfl, r3row1 W _ x y z, (r3row W u v t).alloc _, (ebox2 _ _ _).drew⟩
  case rest =>
    obtain ⟨ba, bb, rfl, rfl, ra, rb, hbx⟩ := hcut
    obtain ⟨m0, m1, m2⟩ := r3cells ra
    obtain ⟨n0, n1, n2⟩ := r3cells rb
    obtain ⟨f0, f1⟩ := eprod_fit h13 (a := x) (b := v) b0 e1
    obtain ⟨g0, g1⟩ := eprod_fit h13 (a := y) (b := u) b1 e0
    have q0 : 0 ≤ (p - 1) * (y * u) := Int.mul_nonneg (by omega) g0
    have q1 : (p - 1) * (y * u) ≤ 12 * 169 := Int.mul_le_mul (by omega) g1 g0 (by omega)
    have hb2 := hbW.trans (hbx.mono hbW.size)
    clear KK c0 c1 c2 c3 c4 c5 c6 c7 c8 ra rb hbx hbW rW
    go_wp2_with fail
    go_quiet (fail)
    go_wp2_with fail
    go_quiet (fail)
    go_wp2_with fail
    go_ret
    exact ⟨by rw [HC.out]; rfl, below_drewN hb2 _⟩
end Go.Proofs.Ytabfdohmgmdgeaa
namespace Go.Proofs.Ytabfdohmgmdgeaa
open Go.RowKit Go.Sort EchM

theorem cof_row0 (p : Int) (f : Nat → Nat → Int) (j : Nat) (w : World) (hj : j < 3) (h2 : 2 ≤ p) (h13 : p ≤ 13) (hf : ∀ i, i < 3 → ∀ j, j < 3 → 0 ≤ f i j ∧ f i j < p) :
    Calls Try.prog 63 #[.int .i64 p, mv f, .int .i64 0, .int .i64 (j : Int)] w fun e w' => e = .returned (.int .i64 (cofP p f 0 j)) ∧ Below w.heap.size w w' := by
  have hj3 : j = 0 ∨ j = 1 ∨ j = 2 := by omega
  rcases hj3 with rfl | rfl | rfl
  · exact cof_00 p f w h2 h13 hf
  · exact cof_01 p f w h2 h13 hf
  · exact cof_02 p f w h2 h13 hf
theorem cof_any (p : Int) (f : Nat → Nat → Int) (i j : Nat) (w : World) (hi : i < 3) (hj : j < 3) (h2 : 2 ≤ p) (h13 : p ≤ 13) (hf : ∀ i, i < 3 → ∀ j, j < 3 → 0 ≤ f i j ∧ f i j < p) :
    Calls Try.prog 63 #[.int .i64 p, mv f, .int .i64 (i : Int), .int .i64 (j : Int)] w fun e w' => e = .returned (.int .i64 (cofP p f i j)) ∧ Below w.heap.size w w' := by
  have hi3 : i = 0 ∨ i = 1 ∨ i = 2 := by omega
  have hj3 : j = 0 ∨ j = 1 ∨ j = 2 := by omega
  rcases hi3 with rfl | rfl | rfl
  · exact cof_row0 p f j w hj h2 h13 hf
  · rcases hj3 with rfl | rfl | rfl
    · exact cof_10 p f w h2 h13 hf
    · exact cof_11 p f w h2 h13 hf
    · exact cof_12 p f w h2 h13 hf
  · rcases hj3 with rfl | rfl | rfl
    · exact cof_20 p f w h2 h13 hf
    · exact cof_21 p f w h2 h13 hf
    · exact cof_22 p f w h2 h13 hf
theorem full_bound {p : Int} {n : Nat} {g : Nat → Nat → Int} (h2 : 2 ≤ p) (hg : ∀ i, i < 3 → ∀ j, j < 3 → 0 ≤ g i j ∧ g i j < p) : ∀ i, i < 3 → ∀ j, j < 3 → 0 ≤ fullM n g i j ∧ fullM n g i j < p := fun i hi j hj => by
  unfold fullM
  split
  · omega
  · exact hg i hi j hj
/-- The sum of a determinant up to a column. -/
def dsum (p : Int) (f : Nat → Nat → Int) : Nat → Int
  | 0 => 0
  | j + 1 => dsum p f j + f 0 j * cofP p f 0 j
theorem cofP_bound {p : Int} (h2 : 2 ≤ p) (f : Nat → Nat → Int) (i j : Nat) : 0 ≤ cofP p f i j ∧ cofP p f i j < p := emod_small h2
theorem dsum_bound {p : Int} (h2 : 2 ≤ p) (h13 : p ≤ 13) {f : Nat → Nat → Int} (hf : ∀ i, i < 3 → ∀ j, j < 3 → 0 ≤ f i j ∧ f i j < p) : ∀ j, j ≤ 3 → 0 ≤ dsum p f j ∧ dsum p f j ≤ 169 * j
  | 0, _ => ⟨by simp [dsum], by simp [dsum]⟩
  | j + 1, hj => by
    have ih := dsum_bound h2 h13 hf j (by omega)
    obtain ⟨f0, f1⟩ := eprod_fit h13 (hf 0 (by omega) j (by omega)) (cofP_bound h2 f 0 j)
    rw [dsum]
    omega

set_option maxRecDepth 8000 in
set_option maxHeartbeats 4000000 in
theorem det_any (p : Int) (n : Nat) (g : Nat → Nat → Int) (w : World) (h2 : 2 ≤ p) (h13 : p ≤ 13) (h1 : 1 ≤ n) (h3 : n ≤ 3) (hg : ∀ i, i < 3 → ∀ j, j < 3 → 0 ≤ g i j ∧ g i j < p) :
    Calls Try.prog 53 #[.int .i64 p, .int .i64 (n : Int), mv g] w fun e w' => e = .returned (.int .i64 (detP p (fullM n g))) ∧ Below w.heap.size w w' := by
  have hF := full_bound (n := n) h2 hg
  have HM := Lib.hid (show mv g = .agg #[.int .u8 (g 0 0), .int .u8 (g 0 1), .int .u8 (g 0 2), .int .u8 (g 1 0), .int .u8 (g 1 1), .int .u8 (g 1 2), .int .u8 (g 2 0), .int .u8 (g 2 1), .int .u8 (g 2 2)] from rfl)
  obtain ⟨f, hf⟩ : ∃ f, fullM n g = f := ⟨_, rfl⟩
  have HM2 := Lib.hid (show mv f = .agg #[.int .u8 (f 0 0), .int .u8 (f 0 1), .int .u8 (f 0 2), .int .u8 (f 1 0), .int .u8 (f 1 1), .int .u8 (f 1 2), .int .u8 (f 2 0), .int .u8 (f 2 1), .int .u8 (f 2 2)] from rfl)
  have cF := fun w => filled_any n g w h1 h3
  rw [hf] at hF cF ⊢
  rw [HM.out] at cF ⊢
  rw [HM2.out] at cF
  have HF := Lib.hid hF
  have CF := Lib.hid cF
  have cC : ∀ (j : Nat) (w : World), j < 3 → Calls Try.prog 63 #[.int .i64 p, .agg #[.int .u8 (f 0 0), .int .u8 (f 0 1), .int .u8 (f 0 2), .int .u8 (f 1 0), .int .u8 (f 1 1), .int .u8 (f 1 2), .int .u8 (f 2 0), .int .u8 (f 2 1), .int .u8 (f 2 2)], .int .i64 0, .int .i64 (j : Int)] w fun e w' => e = .returned (.int .i64 (cofP p f 0 j)) ∧ Below w.heap.size w w' :=
    fun j w hj => cof_row0 p f j w hj h2 h13 hF
  have CC := Lib.hid cC
  have DB := Lib.hid (fun j hj => dsum_bound h2 h13 hF j hj)
  have HD := Lib.hid (show detP p f = dsum p f 3 % p by simp [detP, dsum])
  clear hf hF cF cC HM HM2
  go_enter Try.func53, Try.ntmps53
  go_wp2_with fail
  generalize hW : w.alloc _ = W
  have hbW : Below w.heap.size w W := by rw [← hW]; exact ebox1 _ _
  clear hW
  ((with_reducible refine (CF.out W).mono ?_); rintro e w1 ⟨rfl, hb1⟩)
  have hb2 := hbW.trans (hb1.mono hbW.size)
  obtain ⟨V, hV, rV, hbV⟩ : ∃ V, V = w1.alloc (.cells #[.int .u8 (f 0 0), .int .u8 (f 0 1), .int .u8 (f 0 2), .int .u8 (f 1 0), .int .u8 (f 1 1), .int .u8 (f 1 2), .int .u8 (f 2 0), .int .u8 (f 2 1), .int .u8 (f 2 2)] 56) ∧ V.rowIs w1.heap.size 56 9 (mF f) ∧ Below w1.heap.size w1 V := ⟨_, rfl, mbox w1 f _, ebox1 _ _⟩
  have hb3 := hb2.trans (hbV.mono hb2.size)
  go_wp2_with fail
  rw [← hV]
  clear hV
  go_loopw [8, 16] (fun s i wr => ∃ (k : Nat), k ≤ 3 ∧ s = .int .i64 (dsum p f k) ∧ i = .int .i64 k ∧ Below V.heap.size V wr) (fun _ i _ => 3 - (intOf i).toNat)
  case atStart => exact ⟨0, by omega, rfl, rfl, Below.refl _ _⟩
  case round =>
    obtain ⟨k, hk, rfl, rfl, hb⟩ := hrel
    have rr := erow_below rV hb rV.lt
    obtain ⟨d0, d1⟩ := DB.out k hk
    by_cases hlt : k < 3
    · have hlt' : (k : Int) < 3 := by omega
      have hI := idx3 (f 0) hlt
      obtain ⟨⟨c0, c1, c2⟩, ⟨c3, c4, c5⟩, c6, c7, c8⟩ := mcells rr
      obtain ⟨x0, x1⟩ := HF.out 0 (by omega) k hlt
      obtain ⟨y0, y1⟩ := cofP_bound h2 f 0 k
      obtain ⟨f0, f1⟩ := eprod_fit h13 ⟨x0, x1⟩ ⟨y0, y1⟩
      have HS := Lib.hid (show dsum p f k + f 0 k * cofP p f 0 k = dsum p f (k + 1) from rfl)
      clear rr
      go_wp2_with fail
      ((with_reducible refine (CC.out k _ hlt).mono ?_); rintro e w4 ⟨rfl, hb4⟩)
      have hb5 := hb.trans (hb4.mono hb.size)
      go_wp2_with fail
      go_roundw
      case rel => exact ⟨k + 1, by omega, by rw [← HS.out], by go_num, hb5⟩
      case measure => simp [intOf]; omega
    · obtain rfl : k = 3 := by omega
      go_wp2_with fail
      go_ret
      exact ⟨by rw [HD.out]; rfl, hb3.trans (hb.mono hb3.size)⟩
end Go.Proofs.Ytabfdohmgmdgeaa
namespace Go.Proofs.Ytabfdohmgmdgeaa
open Go.RowKit Go.Sort EchM

/-- Whether p, n and g make a matrix. -/
def isMat (p n : Int) (g : Nat → Nat → Int) : Bool := pB p && ((decide (1 ≤ n) && decide (n ≤ 3)) && (hasB p n g && decide (detP p (fullM n.toNat g) ≠ 0)))
theorem okC_bound {p n x : Int} {i j : Nat} (h : okC p n x i j = true) : x < p ∧ ((n ≤ i ∨ n ≤ j) → x = 0) := by
  unfold okC at h
  simp only [Bool.and_eq_true, Bool.or_eq_true, decide_eq_true_eq] at h
  omega
theorem hasB_all {p n : Int} {g : Nat → Nat → Int} (h : hasB p n g = true) : ∀ i, i < 3 → ∀ j, j < 3 → okC p n (g i j) i j = true := by
  unfold hasB at h
  simp only [Bool.and_eq_true] at h
  obtain ⟨⟨⟨⟨a, b⟩, c⟩, ⟨d, e⟩, f⟩, ⟨x, y⟩, z⟩ := h
  intro i hi j hj
  have hi3 : i = 0 ∨ i = 1 ∨ i = 2 := by omega
  have hj3 : j = 0 ∨ j = 1 ∨ j = 2 := by omega
  rcases hi3 with rfl | rfl | rfl <;> rcases hj3 with rfl | rfl | rfl <;> assumption
theorem hasB_bound {p n : Int} {g : Nat → Nat → Int} (hg : Byt g) (h : hasB p n g = true) : ∀ i, i < 3 → ∀ j, j < 3 → 0 ≤ g i j ∧ g i j < p := fun i hi j hj => ⟨(hg i hi j hj).1, (okC_bound (hasB_all h i hi j hj)).1⟩
theorem hasB_out {p : Int} {n : Nat} {g : Nat → Nat → Int} (h : hasB p n g = true) : Out0 n g := fun i hi j hj ho => (okC_bound (hasB_all h i hi j hj)).2 (by omega)

theorem iprime_is (p : Int) (w : World) (B : Bool) (h : pB p = B) : Calls Try.prog 42 #[.int .i64 p] w fun e w' => e = .returned (.bool B) ∧ w = w' := by rw [← h]; exact iprime p w
theorem ivars_is (n : Int) (w : World) (B : Bool) (h : (decide (1 ≤ n) && decide (n ≤ 3)) = B) : Calls Try.prog 43 #[.int .i64 n] w fun e w' => e = .returned (.bool B) ∧ w = w' := by rw [← h]; exact ivars n w
theorem has_is (p n : Int) (g : Nat → Nat → Int) (w : World) (hg : Byt g) (B : Bool) (h : hasB p n g = B) :
    Calls Try.prog 52 #[.int .i64 p, .int .i64 n, .agg #[.int .u8 (g 0 0), .int .u8 (g 0 1), .int .u8 (g 0 2), .int .u8 (g 1 0), .int .u8 (g 1 1), .int .u8 (g 1 2), .int .u8 (g 2 0), .int .u8 (g 2 1), .int .u8 (g 2 2)]] w fun e w' => e = .returned (.bool B) ∧ Below w.heap.size w w' := by rw [← h]; exact has_any p n g w hg
theorem det_is (p : Int) (n : Nat) (g : Nat → Nat → Int) (w : World) (h2 : 2 ≤ p) (h13 : p ≤ 13) (h1 : 1 ≤ n) (h3 : n ≤ 3) (hg : ∀ i, i < 3 → ∀ j, j < 3 → 0 ≤ g i j ∧ g i j < p) (D : Int) (h : detP p (fullM n g) = D) :
    Calls Try.prog 53 #[.int .i64 p, .int .i64 (n : Int), .agg #[.int .u8 (g 0 0), .int .u8 (g 0 1), .int .u8 (g 0 2), .int .u8 (g 1 0), .int .u8 (g 1 1), .int .u8 (g 1 2), .int .u8 (g 2 0), .int .u8 (g 2 1), .int .u8 (g 2 2)]] w fun e w' => e = .returned (.int .i64 D) ∧ Below w.heap.size w w' := by rw [← h]; exact det_any p n g w h2 h13 h1 h3 hg

set_option maxRecDepth 8000 in
set_option maxHeartbeats 4000000 in
theorem isMatrix_any (p n : Int) (g : Nat → Nat → Int) (w : World) (hg : Byt g) :
    Calls Try.prog 44 #[.int .i64 p, .int .i64 n, mv g] w fun e w' => e = .returned (.bool (isMat p n g)) ∧ Below w.heap.size w w' := by
  obtain ⟨W, hW, rW, hbW⟩ : ∃ W, W = w.alloc (.cells #[.int .u8 (g 0 0), .int .u8 (g 0 1), .int .u8 (g 0 2), .int .u8 (g 1 0), .int .u8 (g 1 1), .int .u8 (g 1 2), .int .u8 (g 2 0), .int .u8 (g 2 1), .int .u8 (g 2 2)] 56) ∧ W.rowIs w.heap.size 56 9 (mF g) ∧ Below w.heap.size w W := ⟨_, rfl, mbox w g _, ebox1 _ _⟩
  unfold mv
  cases hp : pB p
  · have HX := Lib.hid (show isMat p n g = false by simp [isMat, hp])
    have HP := Lib.hid hp
    clear hp hg
    go_enter Try.func44, Try.ntmps44
    go_wp2_with fail
    rw [← hW]
    clear hW
    ((with_reducible refine (iprime_is p _ false HP.out).mono ?_); rintro e w1 ⟨rfl, rfl⟩)
    go_wp2_with fail
    go_ret
    exact ⟨by rw [HX.out]; rfl, hbW⟩
  · have HP := Lib.hid hp
    cases hv : (decide (1 ≤ n) && decide (n ≤ 3))
    · have HX := Lib.hid (show isMat p n g = false by rw [isMat, hv]; simp)
      have HV := Lib.hid hv
      clear hp hg hv
      go_enter Try.func44, Try.ntmps44
      go_wp2_with fail
      rw [← hW]
      clear hW
      ((with_reducible refine (iprime_is p _ true HP.out).mono ?_); rintro e w1 ⟨rfl, rfl⟩)
      go_wp2_with fail
      ((with_reducible refine (ivars_is n _ false HV.out).mono ?_); rintro e w2 ⟨rfl, rfl⟩)
      go_wp2_with fail
      go_ret
      exact ⟨by rw [HX.out]; rfl, hbW⟩
    · have HV := Lib.hid hv
      obtain ⟨⟨⟨c0, c1, c2⟩, ⟨c3, c4, c5⟩, c6, c7, c8⟩⟩ := And.intro (mcells rW) trivial
      cases hh : hasB p n g
      · have HX := Lib.hid (show isMat p n g = false by rw [isMat, hh]; simp)
        have HH := Lib.hid hh
        clear hp hv hh
        have HG := Lib.hid hg
        clear hg
        go_enter Try.func44, Try.ntmps44
        go_wp2_with fail
        rw [← hW]
        clear hW
        ((with_reducible refine (iprime_is p _ true HP.out).mono ?_); rintro e w1 ⟨rfl, rfl⟩)
        go_wp2_with fail
        ((with_reducible refine (ivars_is n _ true HV.out).mono ?_); rintro e w2 ⟨rfl, rfl⟩)
        go_wp2_with fail
        ((with_reducible refine (has_is p n g _ HG.out false HH.out).mono ?_); rintro e w3 ⟨rfl, hb3⟩)
        go_wp2_with fail
        go_ret
        exact ⟨by rw [HX.out]; rfl, hbW.trans (hb3.mono hbW.size)⟩
      · have hb := hasB_bound hg hh
        obtain ⟨h2, h13⟩ := pB_le hp
        simp only [Bool.and_eq_true, decide_eq_true_eq] at hv
        obtain ⟨m, rfl⟩ := Int.eq_ofNat_of_zero_le (show 0 ≤ n by omega)
        obtain ⟨D, hD⟩ : ∃ D, detP p (fullM m g) = D := ⟨_, rfl⟩
        have HX := Lib.hid (show isMat p m g = decide (D ≠ 0) by rw [isMat, hp, hh, HV.out, ← hD]; simp)
        have HD := Lib.hid hD
        have HH := Lib.hid hh
        have HB := Lib.hid hb
        have HG := Lib.hid hg
        have hm1 : 1 ≤ m := by omega
        have hm3 : m ≤ 3 := by omega
        clear hp hv hh hb hg hD
        go_enter Try.func44, Try.ntmps44
        go_wp2_with fail
        rw [← hW]
        clear hW
        ((with_reducible refine (iprime_is p _ true HP.out).mono ?_); rintro e w1 ⟨rfl, rfl⟩)
        go_wp2_with fail
        ((with_reducible refine (ivars_is m _ true HV.out).mono ?_); rintro e w2 ⟨rfl, rfl⟩)
        go_wp2_with fail
        ((with_reducible refine (has_is p m g _ HG.out true HH.out).mono ?_); rintro e w3 ⟨rfl, hb3⟩)
        obtain ⟨⟨d0, d1, d2⟩, ⟨d3, d4, d5⟩, d6, d7, d8⟩ := mcells (erow_below rW hb3 rW.lt)
        clear c0 c1 c2 c3 c4 c5 c6 c7 c8
        go_wp2_with fail
        ((with_reducible refine (det_is p m g _ h2 h13 hm1 hm3 HB.out D HD.out).mono ?_); rintro e w4 ⟨rfl, hb4⟩)
        have hb5 := (hbW.trans (hb3.mono hbW.size)).trans (hb4.mono (Nat.le_trans hbW.size hb3.size))
        go_wp2_with fail
        go_ret
        have hD2 : (D != 0) = decide (D ≠ 0) := by by_cases h : D = 0 <;> simp [h]
        exact ⟨by rw [HX.out, ← hD2]; rfl, hb5⟩
end Go.Proofs.Ytabfdohmgmdgeaa
