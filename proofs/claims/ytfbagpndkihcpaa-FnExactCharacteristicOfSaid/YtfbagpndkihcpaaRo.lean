/-
  CHARACTERISTIC polynomials of matrices: the model's walk. Conditions: as each theorem states.
-/
import Derived.Test.YtfbagpndkihcpaaRn
import Derived.Test.YtfbagpndkihcpaaKc
namespace Go.Proofs.Ytfbagpndkihcpaa
open Go.RowKit Go.Sort EchM

/-- A new block of numbers, as a slice of the call's own. -/
theorem ownL_build (w : World) (l : List Int) (cs : Array Value) (hcs : cs.toList = valsI l) (base : Nat) (hb : base ≤ w.heap.size) (hl : l.length ≤ 1048576) : OwnL (w.alloc (.cells cs 2)) base (.slice (some ⟨w.heap.size, 0, none⟩) l.length l.length) l := by
  have hs : cs.size = l.length := by rw [← Array.length_toList, hcs]; simp [valsI]
  refine ⟨by simp [valsI], .inr ⟨w.heap.size, l.length, cs, rfl, hb, heap_alloc_new w _, Nat.le_refl _, by unfold maxLen; omega, by omega, ?_⟩⟩
  rw [hcs, List.take_of_length_le (by simp [valsI])]
theorem sdet_agg (p : Int) (g : Nat → Nat → Int) (w : World) (D : Int) (h2 : 2 ≤ p) (h13 : p ≤ 13) (hg : ∀ i, i < 3 → ∀ j, j < 3 → 0 ≤ g i j ∧ g i j < p) (hD : detP p (fullM 3 g) = D) :
    Calls Try.prog 50 #[.int .i64 p, .int .i64 3, .agg #[.int .u8 (g 0 0), .int .u8 (g 0 1), .int .u8 (g 0 2), .int .u8 (g 1 0), .int .u8 (g 1 1), .int .u8 (g 1 2), .int .u8 (g 2 0), .int .u8 (g 2 1), .int .u8 (g 2 2)]] w fun e w' => e = .returned (.int .i64 D) ∧ Below w.heap.size w w' := by
  subst hD
  exact sdet p 3 g w h2 h13 (by omega) hg

theorem lbel_drew {w w' : World} (h : Below w.drew.heap.size w.drew w') : Below w.heap.size w w' := (Below.refl _ _).drew.trans h

set_option maxRecDepth 8000 in
set_option maxHeartbeats 8000000 in
theorem schar (p : Int) (m : Nat) (g : Nat → Nat → Int) (w : World) (hx : MatV p m g) :
    Calls Try.prog 36 #[.int .i64 p, .int .i64 (m : Int), .agg #[.int .u8 (g 0 0), .int .u8 (g 0 1), .int .u8 (g 0 2), .int .u8 (g 1 0), .int .u8 (g 1 1), .int .u8 (g 1 2), .int .u8 (g 2 0), .int .u8 (g 2 1), .int .u8 (g 2 2)]] w fun e w' => ∃ v', e = .returned v' ∧ OwnL w' w.heap.size v' (chL p m g) ∧ Below w.heap.size w w' := by
  obtain ⟨i0, hi, hz0, hz1, hz2⟩ := info_parts einfoI
  have h2 := hx.h2
  have h13 := hx.h13
  have m1 := hx.m1
  have m3 := hx.m3
  have HB := Lib.hid hx.bound
  have HO := Lib.hid hx.out
  have HT := Lib.hid (fun i hi => trF_bound h13 hx.bound i hi)
  have HN := Lib.hid (fun i hi => mnF_bound h13 hx.bound m3 i hi)
  have HR := Lib.hid (fun i c hi => mrF_bound h13 hx.bound (i := i) c hi)
  clear hx
  obtain ⟨W, hW, rX, hbW⟩ : ∃ W, W = w.alloc (.cells #[.int .u8 (g 0 0), .int .u8 (g 0 1), .int .u8 (g 0 2), .int .u8 (g 1 0), .int .u8 (g 1 1), .int .u8 (g 1 2), .int .u8 (g 2 0), .int .u8 (g 2 1), .int .u8 (g 2 2)] 36) ∧ W.rowIs w.heap.size 36 9 (mF g) ∧ Below w.heap.size w W := ⟨_, rfl, mbox w g _, ebox1 _ _⟩
  go_enter Try.func36, Try.ntmps36
  go_upto_region 1 with fail
  rw [← hW]
  clear hW
  go_wp2_with fail
  go_loopw [7, 8, 9] (fun t mm i wr => ∃ (k : Nat), k ≤ m ∧ t = .int .i64 (trF g k) ∧ mm = .int .i64 (mnF g m k) ∧ i = .int .i64 k ∧ ∃ nd, wr = W.drewN nd) (fun _ _ i _ => m - (intOf i).toNat)
  case atStart => exact ⟨0, by omega, rfl, rfl, rfl, 0, rfl⟩
  case round =>
    obtain ⟨k, hk, rfl, rfl, rfl, nd, rfl⟩ := hrel
    obtain ⟨t0, t1⟩ := HT.out k (by omega)
    obtain ⟨n0, n1⟩ := HN.out k hk
    have rd : (W.drewN nd).rowIs w.heap.size 36 9 (mF g) := erow_below rX (below_drewN (Below.refl _ _) nd) rX.lt
    by_cases hlt : k < m
    · have hlt' : (k : Int) < (m : Int) := by omega
      have hk3 : (k : Int) < 3 := by omega
      have c0 := mcell rd (i := k) (j := k) (by omega) (by omega)
      obtain ⟨x0, x1⟩ := HB.out k (by omega) k (by omega)
      have HS := Lib.hid (show trF g k + g k k = trF g (k + 1) from rfl)
      have HMN := Lib.hid (show mnF g m k + mrF g k (m - (k + 1)) = mnF g m (k + 1) from rfl)
      obtain ⟨X, hX⟩ : ∃ X, g k k = X := ⟨_, rfl⟩
      rw [hX] at c0 x0 x1 HS
      have HX := Lib.hid hX
      obtain ⟨T, hT⟩ : ∃ T, trF g k = T := ⟨_, rfl⟩
      rw [hT] at t0 t1 HS ⊢
      have w1 : IntKind.i64.wrap (T + X) = T + X := IntWalk.i64_in _ (by omega)
      clear hX hT
      go_wp2_with fail
      generalize mnF g m k = M at *
      go_loopw [8, 10] (fun mm j wr => ∃ (c : Nat), c ≤ m - (k + 1) ∧ mm = .int .i64 (M + mrF g k c) ∧ j = .int .i64 ((k : Int) + 1 + c) ∧ ∃ nd, wr = W.drewN nd) (fun _ j _ => m - (intOf j).toNat)
      case atStart => exact ⟨0, by omega, by simp [mrF], by simp, nd, rfl⟩
      case round =>
        clear c0 rd
        obtain ⟨c, hc, rfl, rfl, nd, rfl⟩ := hrel
        have rd : (W.drewN nd).rowIs w.heap.size 36 9 (mF g) := erow_below rX (below_drewN (Below.refl _ _) nd) rX.lt
        by_cases hct : k + 1 + c < m
        · obtain ⟨j, hj⟩ : ∃ j, k + 1 + c = j := ⟨_, rfl⟩
          have hje : (k : Int) + 1 + (c : Int) = (j : Int) := by omega
          have hjm : (j : Int) < (m : Int) := by omega
          have hj3 : (j : Int) < 3 := by omega
          have c0 := mcell rX (i := k) (j := k) (by omega) (by omega)
          have c1 := mcell rX (i := j) (j := j) (by omega) (by omega)
          have c2 := mcell rX (i := k) (j := j) (by omega) (by omega)
          have c3 := mcell rX (i := j) (j := k) (by omega) (by omega)
          obtain ⟨r0, r1⟩ := HR.out k c (by omega)
          obtain ⟨y0, y1⟩ := HB.out j (by omega) j (by omega)
          obtain ⟨z0, z1⟩ := HB.out k (by omega) j (by omega)
          obtain ⟨v0, v1⟩ := HB.out j (by omega) k (by omega)
          have HS2 := Lib.hid (show mrF g k c + (g k k * g (k + 1 + c) (k + 1 + c) - g k (k + 1 + c) * g (k + 1 + c) k) = mrF g k (c + 1) from rfl)
          rw [hj, HX.out] at HS2
          rw [HX.out] at c0
          generalize g j j = Y at *
          generalize g k j = Z at *
          generalize g j k = V at *
          generalize mrF g k c = R at *
          obtain ⟨f0, f1⟩ := eprod_fit h13 ⟨x0, x1⟩ ⟨y0, y1⟩
          obtain ⟨e0, e1⟩ := eprod_fit h13 ⟨z0, z1⟩ ⟨v0, v1⟩
          have HS3 : Hid (M + R + X * Y - Z * V = M + mrF g k (c + 1)) := Lib.hid (by rw [← HS2.out]; omega)
          have w2 : IntKind.i64.wrap (X * Y) = X * Y := IntWalk.i64_in _ (by omega)
          have w3 : IntKind.i64.wrap (Z * V) = Z * V := IntWalk.i64_in _ (by omega)
          have w4 : IntKind.i64.wrap (M + R + X * Y) = M + R + X * Y := IntWalk.i64_in _ (by omega)
          have w5 : IntKind.i64.wrap (M + R + X * Y - Z * V) = M + R + X * Y - Z * V := IntWalk.i64_in _ (by omega)
          have hj1 : (j : Int) + 1 = (k : Int) + 1 + ((c + 1 : Nat) : Int) := by omega
          have HJ1 := Lib.hid hj1
          clear hj hj1
          rw [hje]
          clear hje rd
          go_wp2_with fail
          go_quiet (fail)
          go_wp2_with fail
          go_roundw
          case rel => exact ⟨c + 1, by omega, by rw [← HS3.out], by rw [← HJ1.out], _, rfl⟩
          case measure => simp [intOf]; omega
        · have hcm : m - (k + 1) = c := by omega
          have hnm : ¬ (k : Int) + 1 + (c : Int) < (m : Int) := by omega
          rw [hcm] at HMN
          clear hcm rd
          go_wp2_with fail
          go_roundw
          case rel => exact ⟨k + 1, by omega, by rw [← HS.out], by rw [← HMN.out], by go_num, _, rfl⟩
          case measure => simp [intOf]; omega
    · obtain rfl : k = m := by omega
      have b1 : -1000000000 ≤ -trF g k := by omega
      have b2 : -trF g k ≤ 1000000000 := by omega
      have b3 : -1000000000 ≤ mnF g k k := by omega
      have b4 : mnF g k k ≤ 1000000000 := by omega
      have hnt : IntKind.i64.wrap (-trF g k) = -trF g k := IntWalk.i64_in _ (by omega)
      have hbW2 := below_drewN hbW nd
      have hbs : w.heap.size + 1 ≤ (W.drewN nd).heap.size := by have := rd.lt; omega
      have hm : k = 1 ∨ k = 2 ∨ k = 3 := by omega
      clear rX hbW
      generalize W.drewN nd = U at *
      have HC1 := Lib.hid (fun (ho : Out0 1 g) => ch_1 (p := p) ho)
      have HC2 := Lib.hid (fun (ho : Out0 2 g) => ch_2 (p := p) ho)
      have HC3 := Lib.hid (ch_3 (p := p) (g := g))
      rcases hm with rfl | rfl | rfl
      · have HX := Lib.hid (HC1.out HO.out)
        clear HC1 HC2 HC3
        generalize trF g 1 = T at *
        go_wp2_with fail
        ((with_reducible refine (emod_still p (-T) _ h2 h13 b1 b2).mono ?_); rintro e w3 ⟨rfl, rfl⟩)
        generalize -T % p = Q at *
        have ho := ownL_build w3 [1, Q] #[.int .i64 1, .int .i64 Q] rfl w.heap.size (by omega) (by simp)
        have hb := hbW2.trans ((ebox1 w3 (.cells #[.int .i64 1, .int .i64 Q] 2)).mono hbW2.size)
        go_wp2_with fail
        go_ret
        exact ⟨_, rfl, by rw [HX.out]; exact ho, hb⟩
      · have HX := Lib.hid (HC2.out HO.out)
        clear HC1 HC2 HC3
        generalize trF g 2 = T at *
        generalize mnF g 2 2 = M at *
        go_wp2_with fail
        ((with_reducible refine (emod_still p (-T) _ h2 h13 b1 b2).mono ?_); rintro e w3 ⟨rfl, rfl⟩)
        generalize -T % p = Q at *
        have ho := ownL_build w3 [1, Q] #[.int .i64 1, .int .i64 Q] rfl w.heap.size (by omega) (by simp)
        have hb := hbW2.trans ((ebox1 w3 (.cells #[.int .i64 1, .int .i64 Q] 2)).mono hbW2.size)
        obtain ⟨V, hV⟩ : ∃ V, V = w3.alloc (.cells #[.int .i64 1, .int .i64 Q] 2) := ⟨_, rfl⟩
        rw [← hV] at ho hb
        go_wp2_with fail
        rw [← hV]
        clear hV
        ((with_reducible refine (emod_still p M _ h2 h13 b3 b4).mono ?_); rintro e w4 ⟨rfl, rfl⟩)
        generalize M % p = Q2 at *
        have hs4 := hb.size
        go_wp2_with (at_builtin; refine wpList_append_lies _ rfl _ _ 22 rfl w.heap.size 2 i0 _ 1 8 Try.underlying22 hi hz0 hz1 hz2 rfl (by decide) (.slice (some ⟨w3.heap.size, 0, none⟩) 2 2) 2 (valsI [1, Q]) rfl (World.ownsRow.alloc ho _) ⟨w4.heap.size, 0, none⟩ 1 1 [.int .i64 Q2] rfl rfl (World.news_of_block (cs := #[.int .i64 Q2]) (t := 2) (fr := (0, 0)) (heap_alloc_new _ _)) (by simp [Value.oneCell']) (by omega) (by unfold maxLen; omega) (by omega) (by simp; omega) _ rfl ?_)
        intro gg cap3 w5 hown3 hgrow3 hat3 hlt3
        have hb5 : Below w.heap.size w w5 := (hb.alloc hb.size (.cells #[.int .i64 Q2] 2)).grown hgrow3 (by simp; omega) (fun q hq => (World.ownsRow.lt ho q hq).1)
        have hO5 : OwnL w5 w.heap.size (.slice (some ⟨gg, 0, none⟩) 3 cap3) [1, Q, Q2] := hown3
        clear hown3 hgrow3 hat3
        go_wp2_with fail
        go_ret
        exact ⟨_, rfl, by rw [HX.out]; exact hO5, hb5⟩
      · have HX := HC3
        have hbb := HB.out
        clear HC1 HC2 HC3
        generalize trF g 3 = T at *
        generalize mnF g 3 3 = M at *
        obtain ⟨D, hD⟩ : ∃ D, detP p (fullM 3 g) = D := ⟨_, rfl⟩
        rw [hD] at HX
        have d0 : 0 ≤ D ∧ D < p := by rw [← hD]; exact emod_small h2
        have b5 : -1000000000 ≤ -D := by omega
        have b6 : -D ≤ 1000000000 := by omega
        have hnd : IntKind.i64.wrap (-D) = -D := IntWalk.i64_in _ (by omega)
        have HDD := Lib.hid (fun w => sdet_agg p g w D h2 h13 hbb hD)
        clear hD hbb
        go_wp2_with fail
        ((with_reducible refine (emod_still p (-T) _ h2 h13 b1 b2).mono ?_); rintro e w3 ⟨rfl, rfl⟩)
        generalize -T % p = Q at *
        have ho := ownL_build w3 [1, Q] #[.int .i64 1, .int .i64 Q] rfl w.heap.size (by omega) (by simp)
        have hb := hbW2.trans ((ebox1 w3 (.cells #[.int .i64 1, .int .i64 Q] 2)).mono hbW2.size)
        have rd2 := rd.alloc (.cells #[.int .i64 1, .int .i64 Q] 2)
        obtain ⟨V, hV⟩ : ∃ V, V = w3.alloc (.cells #[.int .i64 1, .int .i64 Q] 2) := ⟨_, rfl⟩
        have hVW := rd.lt
        have h3V : w3.heap.size ≤ V.heap.size := by rw [hV]; simp
        rw [← hV] at ho hb rd2
        obtain ⟨⟨c0, c1, c2⟩, ⟨c3, c4, c5⟩, c6, c7, c8⟩ := mcells rd2
        clear rd rd2
        have hs4 := hb.size
        go_wp2_with fail
        rw [← hV]
        clear hV
        have hod : OwnL V.drew w.heap.size (.slice (some ⟨w3.heap.size, 0, none⟩) 2 2) [1, Q] := ho
        have hbd : Below w.heap.size w V.drew := hb.drew
        have hb' := hb
        have hq3 : w.heap.size ≤ w3.heap.size := by omega
        have hVd : Below w3.heap.size V V.drew := (Below.refl _ _).drew
        clear ho hb
        have KK := Lib.hid (fun w' (h : Below w3.heap.size V w') => show w'.cell? ⟨w.heap.size, 0, none⟩ = some (.int .u8 (g 0 0)) ∧ w'.cell? ⟨w.heap.size, 1, none⟩ = some (.int .u8 (g 0 1)) ∧ w'.cell? ⟨w.heap.size, 2, none⟩ = some (.int .u8 (g 0 2)) ∧ w'.cell? ⟨w.heap.size, 3, none⟩ = some (.int .u8 (g 1 0)) ∧ w'.cell? ⟨w.heap.size, 4, none⟩ = some (.int .u8 (g 1 1)) ∧ w'.cell? ⟨w.heap.size, 5, none⟩ = some (.int .u8 (g 1 2)) ∧ w'.cell? ⟨w.heap.size, 6, none⟩ = some (.int .u8 (g 2 0)) ∧ w'.cell? ⟨w.heap.size, 7, none⟩ = some (.int .u8 (g 2 1)) ∧ w'.cell? ⟨w.heap.size, 8, none⟩ = some (.int .u8 (g 2 2)) from
          ⟨(h.cell (p := ⟨_, 0, none⟩) hVW).trans c0, (h.cell (p := ⟨_, 1, none⟩) hVW).trans c1, (h.cell (p := ⟨_, 2, none⟩) hVW).trans c2, (h.cell (p := ⟨_, 3, none⟩) hVW).trans c3, (h.cell (p := ⟨_, 4, none⟩) hVW).trans c4, (h.cell (p := ⟨_, 5, none⟩) hVW).trans c5, (h.cell (p := ⟨_, 6, none⟩) hVW).trans c6, (h.cell (p := ⟨_, 7, none⟩) hVW).trans c7, (h.cell (p := ⟨_, 8, none⟩) hVW).trans c8⟩)
        go_region_held3 (fun w' => w'.cell? ⟨w.heap.size, 0, none⟩ = some (.int .u8 (g 0 0)) ∧ w'.cell? ⟨w.heap.size, 1, none⟩ = some (.int .u8 (g 0 1)) ∧ w'.cell? ⟨w.heap.size, 2, none⟩ = some (.int .u8 (g 0 2)) ∧ w'.cell? ⟨w.heap.size, 3, none⟩ = some (.int .u8 (g 1 0)) ∧ w'.cell? ⟨w.heap.size, 4, none⟩ = some (.int .u8 (g 1 1)) ∧ w'.cell? ⟨w.heap.size, 5, none⟩ = some (.int .u8 (g 1 2)) ∧ w'.cell? ⟨w.heap.size, 6, none⟩ = some (.int .u8 (g 2 0)) ∧ w'.cell? ⟨w.heap.size, 7, none⟩ = some (.int .u8 (g 2 1)) ∧ w'.cell? ⟨w.heap.size, 8, none⟩ = some (.int .u8 (g 2 2)))
          (first | with_reducible exact KK.out _ hVd | with_reducible exact KK.out _ hb5' | with_reducible exact KK.out _ (hb5'.alloc hs5 _) | with_reducible exact KK.out _ hb7)
          (first
            | ((with_reducible refine (emod_still p M _ h2 h13 b3 b4).mono ?_); rintro e w4 ⟨rfl, rfl⟩)
            | ((with_reducible refine (HDD.out _).mono ?_); rintro e w5 ⟨rfl, hb5⟩
               have hb5' : Below w3.heap.size V w5 := (lbel_drew hb5).mono h3V; have hs5 : w3.heap.size ≤ w5.heap.size := Nat.le_trans h3V hb5.size
               have hq5 : w.heap.size ≤ w5.heap.size := Nat.le_trans hbd.size hb5.size)
            | ((with_reducible refine (emod_still p (-D) _ h2 h13 b5 b6).mono ?_); rintro e w6 ⟨rfl, rfl⟩)
            | ((refine step_append_lies _ (by rfl) _ _ _ (by rfl) w.heap.size 2 i0 _ 1 8 Try.underlying22 hi hz0 hz1 hz2 rfl (by omega) (.slice (some ⟨w3.heap.size, 0, none⟩) 2 2) 2 (valsI [1, Q]) (by rfl) (World.ownsRow.alloc (hod.below hb5) _) ⟨w6.heap.size, 0, none⟩ 2 2 [.int .i64 (M % p), .int .i64 (-D % p)] (by rfl) (by rfl) (World.news_of_block (cs := #[.int .i64 (M % p), .int .i64 (-D % p)]) (t := 2) (fr := (0, 0)) (heap_alloc_new w6 _)) (by simp [Value.oneCell']) (by omega) (by unfold maxLen; omega) (by omega) (by simp; omega) (w6.heap.size + 1) (by simp) ?_
                intro gg cap3 w7 hown3 hgrow3 hat3 hlt3
                have hb7 : Below w3.heap.size V w7 := (hb5'.alloc hs5 _).grown hgrow3 (by simp; omega) (fun q hq => by simp [Value.ownBlock] at hq; omega)
                clear hat3)))
        all_goals
          go_wp2_with fail
          go_ret
          exact ⟨_, rfl, by rw [HX.out]; exact hown3, hb'.trans (hb7.mono hq3)⟩
end Go.Proofs.Ytfbagpndkihcpaa
