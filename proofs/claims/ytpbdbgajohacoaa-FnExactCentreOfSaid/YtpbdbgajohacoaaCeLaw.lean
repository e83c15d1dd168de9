/-
  The law of 'FnExactCentreOf', walked. Conditions: as the theorem states.
-/
import Derived.Test.YtpbdbgajohacoaaJh
import Derived.Test.YtpbdbgajohacoaaCd
namespace Go.Proofs.Ytpbdbgajohacoaa
open Go.RowKit Go.Sort EchM

theorem cenO_len (p n : Int) (L : List (Nat → Nat → Int)) (hl : L.length ≤ 1048576) : (cenO p n L).S.length ≤ 1048576 := by
  unfold cenO
  split
  · exact Nat.le_trans (List.length_filter_le _ _) hl
  · simp [noG]

set_option maxRecDepth 8000 in
set_option maxHeartbeats 8000000 in
theorem law_centreOf (p n : Int) (v : Value) (L : List (Nat → Nat → Int)) (w : World) (hn : L.length ≤ 9223372036854775807) (hS : SlM w v L) (hby : ∀ x ∈ L, Byt x) :
    Calls Try.prog 4 #[.agg #[.int .i64 p, .int .i64 n, v]] w fun e w' => e = .returned (.bool true) ∧ Below w.heap.size w w' := by
  obtain ⟨W, hW, rW, hbW⟩ : ∃ W, W = w.alloc (.cells #[.int .i64 p, .int .i64 n, v] 36) ∧ W.rowIs w.heap.size 36 3 (grpF p n v) ∧ Below w.heap.size w W := ⟨_, rfl, gbox w p n v _, ebox1 _ _⟩
  have hSW := hS.below hbW
  obtain ⟨a, cap, rfl, _⟩ := id hS
  obtain ⟨y0, y1, y2⟩ := gcells rW
  have HBY := Lib.hid hby
  clear hby
  by_cases hbig : 1048576 < L.length
  · go_enter Try.func4, Try.ntmps4
    go_wp2_with fail
    rw [← hW]
    clear hW
    ((with_reducible refine (szgrp_no p n a L.length cap _ hbig hn).mono ?_); rintro e w1 ⟨rfl, hb1⟩)
    go_wp2_with fail
    go_ret
    exact ⟨rfl, hbW.trans (hb1.mono hbW.size)⟩
  have hl : L.length ≤ 1048576 := by omega
  have hpos : ¬ (1048576 - (L.length : Int)) < 0 := by omega
  clear hbig
  have hso : (cenO p n L).S.length ≤ 1048576 := cenO_len p n L hl
  have hspec := fun v' w' h' => scentre p n v' L w' hl h' HBY.out
  have himpl := fun v' w' h' => icentre p n v' L w' hl h' HBY.out
  generalize cenO p n L = o at hso hspec himpl
  obtain ⟨P, D, S, c⟩ := o
  simp only at hso
  have HSP := Lib.hid hspec
  have HIM := Lib.hid himpl
  clear hspec himpl
  go_enter Try.func4, Try.ntmps4
  go_wp2_with fail
  rw [← hW]
  clear hW
  ((with_reducible refine (szgrp_ok p n a L.length cap _ hl).mono ?_); rintro e w1 ⟨rfl, hb1⟩)
  have r1 := erow_below rW hb1 rW.lt
  clear y0 y1 y2
  obtain ⟨y0, y1, y2⟩ := gcells r1
  go_wp2_with fail
  ((with_reducible refine (togrp p n _ L _ hl (hSW.below hb1)).mono ?_); rintro e w2 ⟨v2, rfl, own2, hb2⟩)
  have hb12 := hb1.trans (hb2.mono hb1.size)
  go_wp2_with fail
  ((with_reducible refine (HSP.out v2 w2 own2.slice).mono ?_); rintro e w3 ⟨v3, rfl, hs3, hb3⟩)
  obtain ⟨a3, c3, rfl, _⟩ := id hs3
  have hb13 := hb12.trans (hb3.mono hb12.size)
  have r3 := erow_below rW hb13 rW.lt
  clear hb1 hb2 hb3 hb12 own2 y0 y1 y2
  obtain ⟨V3, hV3, rb0, hbV3⟩ : ∃ V, V = w3.alloc (.cells #[.int .i64 P, .int .i64 D, .slice a3 S.length c3] 26) ∧ V.rowIs w3.heap.size 26 3 (grpF P D (.slice a3 S.length c3)) ∧ Below w3.heap.size w3 V := ⟨_, rfl, gbox w3 P D _ _, ebox1 _ _⟩
  have xo : ∀ o, ((w3.alloc o).cell? ⟨w.heap.size, 0, none⟩ = some (.int .i64 p) ∧ (w3.alloc o).cell? ⟨w.heap.size, 1, none⟩ = some (.int .i64 n) ∧ (w3.alloc o).cell? ⟨w.heap.size, 2, none⟩ = some (.slice a L.length cap)) := fun o => gcells (erow_below r3 (ebox1 w3 o) r3.lt)
  have hs3V := hs3.below hbV3
  have hSV := (hSW.below hb13).below hbV3
  have hbWV3 := hb13.trans (hbV3.mono hb13.size)
  have rV3 := erow_below rW hbWV3 rW.lt
  clear hs3
  go_wp2_with fail
  rw [← hV3]
  clear hV3 xo
  ((with_reducible refine (togrp p n _ L _ hl hSV).mono ?_); rintro e w4 ⟨v4, rfl, own4, hb4⟩)
  obtain ⟨g4, f4, hv4, _⟩ := id own4
  subst hv4
  obtain ⟨V4, hV4, rb1, hbV4⟩ : ∃ V, V = w4.alloc (.cells #[.int .i64 p, .int .i64 n, .slice (some ⟨g4, 0, none⟩) L.length L.length] 26) ∧ V.rowIs w4.heap.size 26 3 (grpF p n (.slice (some ⟨g4, 0, none⟩) L.length L.length)) ∧ Below w4.heap.size w4 V := ⟨_, rfl, gbox w4 p n _ _, ebox1 _ _⟩
  have hb34 := hb4.trans (hbV4.mono hb4.size)
  have hs4 := own4.slice.below hbV4
  clear own4
  obtain ⟨t0, t1, t2⟩ := gcells rb1
  go_wp2_with fail
  rw [← hV4]
  clear hV4
  ((with_reducible refine (HIM.out _ V4 hs4).mono ?_); rintro e w5 ⟨v5, rfl, hs5, hb5⟩)
  clear t0 t1 t2
  obtain ⟨a5, c5, rfl, _⟩ := id hs5
  obtain ⟨V5, hV5, rb2, hbV5⟩ : ∃ V, V = w5.alloc (.cells #[.int .i64 P, .int .i64 D, .slice a5 S.length c5] 26) ∧ V.rowIs w5.heap.size 26 3 (grpF P D (.slice a5 S.length c5)) ∧ Below w5.heap.size w5 V := ⟨_, rfl, gbox w5 P D _ _, ebox1 _ _⟩
  have hb45 := hb5.trans (hbV5.mono hb5.size)
  have hb35 := hb34.trans (hb45.mono hb34.size)
  have hbW5 := hbWV3.trans (hb35.mono hbWV3.size)
  have st : GLaw w V5 w.heap.size w3.heap.size w4.heap.size w5.heap.size p n P D (.slice a L.length cap) (.slice a3 S.length c3) (.slice (some ⟨g4, 0, none⟩) L.length L.length) (.slice a5 S.length c5) L S :=
    ⟨erow_below rW hbW5 rW.lt, erow_below rb0 hb35 rb0.lt, erow_below rb1 hb45 rb1.lt, rb2, hSV.below hb35, hs3V.below hb35, hs4.below hb45, hs5.below hbV5, hbW.trans (hbW5.mono hbW.size)⟩
  have ko : ∀ o, ((w5.alloc o).cell? ⟨w3.heap.size, 0, none⟩ = some (.int .i64 P) ∧ (w5.alloc o).cell? ⟨w3.heap.size, 1, none⟩ = some (.int .i64 D) ∧ (w5.alloc o).cell? ⟨w3.heap.size, 2, none⟩ = some (.slice a3 S.length c3)) := by
    have r := erow_below (erow_below rb0 hb34 rb0.lt) hb5 (Nat.lt_of_lt_of_le rb0.lt hb34.size)
    exact fun o => gcells (erow_below r (ebox1 w5 o) r.lt)
  have hcc : (c != c) = false := by simp
  have hkk : ((1 : Int) != 1) = false := rfl
  clear hbW rW r1 r3 rV3 rb0 rb1 rb2 hSW hb13 hbV3 hs3V hSV hbWV3 hb4 hbV4 hb34 hs4 hb5 hbV5 hs5 hb45 hb35 hbW5
  go_wp2_with fail
  rw [← hV5]
  clear hV5 ko
  ((with_reducible refine (eqgrp P D _ _ S _ hso st.s5 st.s3).mono ?_); rintro e w6 ⟨rfl, hb6⟩)
  have st6 := st.on (hb6.drew)
  obtain ⟨y0, y1, y2⟩ := gcells (st.on hb6).ax
  obtain ⟨t0, t1, t2⟩ := gcells (st.on hb6).b1
  have hz6 := st6.b1.lt
  have hA6 := st6.sa
  have hX6 := st6.s4
  obtain ⟨T0, T1, T2⟩ := gcells st6.b1
  clear st hb6
  go_wp2_with fail
  go_region_with (first
    | (go_at_call 20; (with_reducible refine (togrp p n _ L _ hl hA6).mono ?_); rintro e w7 ⟨v7, rfl, own7, hb7⟩; have Q0 := (hb7.cell (p := ⟨w4.heap.size, 0, none⟩) hz6).trans T0; have Q1 := (hb7.cell (p := ⟨w4.heap.size, 1, none⟩) hz6).trans T1; have Q2 := (hb7.cell (p := ⟨w4.heap.size, 2, none⟩) hz6).trans T2)
    | (go_at_call 13; (with_reducible refine (eqgrp p n _ _ L _ hl (hX6.below hb7) own7.slice).mono ?_); rintro e w8 ⟨rfl, hb8⟩))
  all_goals
    have st8 := (st6.on hb7).on hb8
    clear y0 y1 y2 t0 t1 t2 T0 T1 T2 st6 hA6 hz6 hX6 own7 hb7 hb8
    try clear Q0 Q1 Q2
    obtain ⟨t0, t1, t2⟩ := gcells st8.b1
    go_wp2_with fail
    ((with_reducible refine (markgrp p n _ _ _ 1 _ hl).mono ?_); rintro e w9 ⟨rfl, hb9⟩)
    have st9 := st8.on hb9
    clear t0 t1 t2 st8 hb9
    obtain ⟨q0, q1, q2⟩ := gcells st9.b2
    obtain ⟨k0, k1, k2⟩ := gcells st9.b0
    go_wp2_with fail
    ((with_reducible refine (eqgrp P D _ _ S _ hso st9.s5 st9.s3).mono ?_); rintro e w10 ⟨rfl, hb10⟩)
    have st10 := st9.on hb10
    clear q0 q1 q2 k0 k1 k2 st9 hb10
    obtain ⟨q0, q1, q2⟩ := gcells st10.b2
    go_wp2_with fail
    ((with_reducible refine (markgrp P D _ _ _ 1 _ hso).mono ?_); rintro e w11 ⟨rfl, hb11⟩)
    have st11 := st10.on hb11
    clear q0 q1 q2 st10 hb11
    obtain ⟨q0, q1, q2⟩ := gcells st11.b2
    go_wp2_with fail
    ((with_reducible refine (heldgrp P D _ _ _ 1 _ hso (by decide)).mono ?_); rintro e w12 ⟨rfl, hb12⟩)
    have st12 := st11.on hb12
    clear q0 q1 q2 st11 hb12
    obtain ⟨y0, y1, y2⟩ := gcells st12.ax
    go_wp2_with fail
    ((with_reducible refine (togrp p n _ L _ hl st12.sa).mono ?_); rintro e w13 ⟨v13, rfl, own13, hb13⟩)
    have st13 := st12.on hb13
    clear y0 y1 y2 st12 hb13
    go_wp2_with fail
    ((with_reducible refine (HIM.out _ w13 own13.slice).mono ?_); rintro e w14 ⟨v14, rfl, hs14, hb14⟩)
    obtain ⟨a14, c14, rfl, _⟩ := id hs14
    have st14 := st13.on hb14
    clear st13 hb14 own13
    obtain ⟨V14, hV14, rh, hbV14⟩ : ∃ V, V = w14.alloc (.cells #[.int .i64 P, .int .i64 D, .slice a14 S.length c14] 26) ∧ V.rowIs w14.heap.size 26 3 (grpF P D (.slice a14 S.length c14)) ∧ Below w14.heap.size w14 V := ⟨_, rfl, gbox w14 P D _ _, ebox1 _ _⟩
    have ko : ∀ o, ((w14.alloc o).cell? ⟨w3.heap.size, 0, none⟩ = some (.int .i64 P) ∧ (w14.alloc o).cell? ⟨w3.heap.size, 1, none⟩ = some (.int .i64 D) ∧ (w14.alloc o).cell? ⟨w3.heap.size, 2, none⟩ = some (.slice a3 S.length c3)) := fun o => gcells (erow_below st14.b0 (ebox1 w14 o) st14.b0.lt)
    have stV := st14.on hbV14
    have hsV := hs14.below hbV14
    clear st14 hbV14 hs14
    go_wp2_with fail
    rw [← hV14]
    clear hV14 ko
    ((with_reducible refine (eqgrp P D _ _ S _ hso hsV stV.s3).mono ?_); rintro e w15 ⟨rfl, hb15⟩)
    have st15 := stV.on hb15
    clear stV hsV rh hb15
    obtain ⟨q0, q1, q2⟩ := gcells st15.b2
    go_wp2_with fail
    ((with_reducible refine (heldgrp P D _ _ _ 1 _ hso (by decide)).mono ?_); rintro e w16 ⟨rfl, hb16⟩)
    have hend := (st15.on hb16).below
    clear q0 q1 q2 st15 hb16
    go_wp2
    go_ret
    exact ⟨rfl, hend⟩
end Go.Proofs.Ytpbdbgajohacoaa
