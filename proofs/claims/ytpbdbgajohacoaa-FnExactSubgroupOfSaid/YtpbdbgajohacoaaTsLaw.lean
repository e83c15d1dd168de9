/-
  The law of 'FnExactSubgroupOf', walked. Conditions: as the theorem states.
-/
import Derived.Test.YtpbdbgajohacoaaJi
import Derived.Test.YtpbdbgajohacoaaTr
namespace Go.Proofs.Ytpbdbgajohacoaa
open Go.RowKit Go.Sort EchM

set_option maxRecDepth 8000 in
set_option maxHeartbeats 8000000 in
theorem law_subgroupOf (p n : Int) (v : Value) (L : List (Nat → Nat → Int)) (u : Value) (l : List Int) (w : World) (hn : L.length ≤ 9223372036854775807) (hS : SlM w v L) (hby : ∀ x ∈ L, Byt x) (hnl : l.length ≤ 9223372036854775807) (hU : Sl w u l) :
    Calls Try.prog 7 #[.agg #[.int .i64 p, .int .i64 n, v], u] w fun e w' => e = .returned (.bool true) ∧ Below w.heap.size w w' := by
  obtain ⟨W, hW, rW, hbW⟩ : ∃ W, W = w.alloc (.cells #[.int .i64 p, .int .i64 n, v] 36) ∧ W.rowIs w.heap.size 36 3 (grpF p n v) ∧ Below w.heap.size w W := ⟨_, rfl, gbox w p n v _, ebox1 _ _⟩
  have hSW := hS.below hbW
  have hUW := hU.below hbW
  obtain ⟨a, cap, rfl, _⟩ := id hS
  obtain ⟨y0, y1, y2⟩ := gcells rW
  have HBY := Lib.hid hby
  clear hby
  obtain ⟨ua, ucap, rfl, _⟩ := id hU
  by_cases hlong : 1048576 < l.length
  · go_enter Try.func7, Try.ntmps7
    go_wp2_with fail
    rw [← hW]
    clear hW
    go_wp2_with fail
    go_ret
    exact ⟨rfl, hbW⟩
  have hm : l.length ≤ 1048576 := by omega
  clear hlong
  by_cases hbig : 1048576 < L.length
  · go_enter Try.func7, Try.ntmps7
    go_wp2_with fail
    rw [← hW]
    clear hW
    ((with_reducible refine (szgrp_no p n a L.length cap _ hbig hn).mono ?_); rintro e w1 ⟨rfl, hb1⟩)
    go_wp2_with fail
    go_ret
    exact ⟨rfl, hbW.trans (hb1.mono hbW.size)⟩
  have hl : L.length ≤ 1048576 := by omega
  have hpos : ¬ (1048576 - (L.length : Int)) < 0 := by omega
  clear hbig
  obtain ⟨oX, hoX⟩ := SubRes.ex p n L l
  have hso : (oX).S.length ≤ 1048576 := hoX.len
  have hspec := fun v' u' w' h' k' => ssubR hoX v' u' w' hl h' HBY.out hm k'
  have himpl := fun v' u' w' h' k' => isubR hoX v' u' w' hl h' HBY.out hm k'
  generalize oX = o at hso hspec himpl
  obtain ⟨P, D, S, c⟩ := o
  simp only at hso
  have HSP := Lib.hid hspec
  have HIM := Lib.hid himpl
  clear hspec himpl
  go_enter Try.func7, Try.ntmps7
  go_wp2_with fail
  rw [← hW]
  clear hW
  ((with_reducible refine (szgrp_ok p n a L.length cap _ hl).mono ?_); rintro e w1 ⟨rfl, hb1⟩)
  have r1 := erow_below rW hb1 rW.lt
  clear y0 y1 y2
  obtain ⟨y0, y1, y2⟩ := gcells r1
  go_wp2_with fail
  ((with_reducible refine (togrp p n _ L _ hl (hSW.below hb1)).mono ?_); rintro e w2 ⟨v2, rfl, own2, hb2⟩)
  have hb12 := hb1.trans (hb2.mono hb1.size)
  go_wp2_with fail
  ((with_reducible refine (ntoI_any _ l _ hm (hUW.below hb12)).mono ?_); rintro e w2u ⟨u2, rfl, hU2, hb2u⟩)
  have hb12u := hb12.trans (hb2u.mono hb12.size)
  go_wp2_with fail
  ((with_reducible refine (HSP.out v2 u2 w2u (own2.slice.below hb2u) hU2).mono ?_); rintro e w3 ⟨v3, rfl, ho3, hb3⟩)
  have hs3 := OwnG9.slice ho3
  clear ho3
  obtain ⟨a3, c3, rfl, _⟩ := id hs3
  have hb13 := hb12u.trans (hb3.mono hb12u.size)
  have r3 := erow_below rW hb13 rW.lt
  clear hb1 hb2 hb3 hb12 hb2u hb12u hU2 own2 y0 y1 y2
  obtain ⟨V3, hV3, rb0, hbV3⟩ : ∃ V, V = w3.alloc (.cells #[.int .i64 P, .int .i64 D, .slice a3 S.length c3] 26) ∧ V.rowIs w3.heap.size 26 3 (grpF P D (.slice a3 S.length c3)) ∧ Below w3.heap.size w3 V := ⟨_, rfl, gbox w3 P D _ _, ebox1 _ _⟩
  have xo : ∀ o, ((w3.alloc o).cell? ⟨w.heap.size, 0, none⟩ = some (.int .i64 p) ∧ (w3.alloc o).cell? ⟨w.heap.size, 1, none⟩ = some (.int .i64 n) ∧ (w3.alloc o).cell? ⟨w.heap.size, 2, none⟩ = some (.slice a L.length cap)) := fun o => gcells (erow_below r3 (ebox1 w3 o) r3.lt)
  have hs3V := hs3.below hbV3
  have hSV := (hSW.below hb13).below hbV3
  have hUV := (hUW.below hb13).below hbV3
  have hbWV3 := hb13.trans (hbV3.mono hb13.size)
  have rV3 := erow_below rW hbWV3 rW.lt
  clear hs3
  go_wp2_with fail
  rw [← hV3]
  clear hV3 xo
  ((with_reducible refine (togrp p n _ L _ hl hSV).mono ?_); rintro e w4 ⟨v4, rfl, own4, hb4⟩)
  obtain ⟨g4, f4, hv4, _⟩ := id own4
  subst hv4
  obtain ⟨V4, hV4, rb1, hbV4⟩ : ∃ V, V = w4.alloc (.cells #[.int .i64 p, .int .i64 n, .slice (some ⟨g4, 0, none⟩) L.length L.length] 26) ∧ V.rowIs w4.heap.size 26 3 (grpF p n (.slice (some ⟨g4, 0, none⟩) L.length L.length)) ∧ Below w4.heap.size w4 V := ⟨_, rfl, gbox w4 p n _ _, ebox1 _ _⟩
  have hb34 := hb4.trans (hbV4.mono hb4.size)
  have hs4 := own4.slice.below hbV4
  clear own4
  obtain ⟨t0, t1, t2⟩ := gcells rb1
  go_wp2_with fail
  rw [← hV4]
  clear hV4
  ((with_reducible refine (ntoI_own _ l _ hm ((hUV.below hb4).below hbV4)).mono ?_); rintro e w4u ⟨u4, rfl, ow4, hb4u⟩)
  have hs4u := hs4.below hb4u
  have rb1u := erow_below rb1 hb4u rb1.lt
  have hb34u := hb34.trans (hb4u.mono hb34.size)
  obtain ⟨t0, t1, t2⟩ := gcells rb1u
  obtain ⟨u4a, f4u, hu4, hg4u, hr4u, _⟩ := id ow4
  subst hu4
  go_wp2_with fail
  ((with_reducible refine (HIM.out _ _ w4u hs4u ow4.slice).mono ?_); rintro e w5 ⟨v5, rfl, ho5, hb5⟩)
  have hs5 := OwnG9.slice ho5
  have aw5 := ho5.away hr4u.lt
  have ow5 := ow4.below hb5
  clear ho5
  clear t0 t1 t2
  obtain ⟨a5, c5, rfl, _⟩ := id hs5
  obtain ⟨V5, hV5, rb2, hbV5⟩ : ∃ V, V = w5.alloc (.cells #[.int .i64 P, .int .i64 D, .slice a5 S.length c5] 26) ∧ V.rowIs w5.heap.size 26 3 (grpF P D (.slice a5 S.length c5)) ∧ Below w5.heap.size w5 V := ⟨_, rfl, gbox w5 P D _ _, ebox1 _ _⟩
  have hb45 := hb5.trans (hbV5.mono hb5.size)
  have owV := ow5.below hbV5
  have hb35 := hb34u.trans (hb45.mono hb34u.size)
  have hbW5 := hbWV3.trans (hb35.mono hbWV3.size)
  have st : GLaw w V5 w.heap.size w3.heap.size w4.heap.size w5.heap.size p n P D (.slice a L.length cap) (.slice a3 S.length c3) (.slice (some ⟨g4, 0, none⟩) L.length L.length) (.slice a5 S.length c5) L S :=
    ⟨erow_below rW hbW5 rW.lt, erow_below rb0 hb35 rb0.lt, erow_below rb1u hb45 rb1u.lt, rb2, hSV.below hb35, hs3V.below hb35, hs4u.below hb45, hs5.below hbV5, hbW.trans (hbW5.mono hbW.size)⟩
  have hUst : Sl V5 (.slice ua l.length ucap) l := hUV.below hb35
  have nA : w.heap.size < u4a := by have := rV3.lt; have := hb34.size; omega
  have n0 : w3.heap.size < u4a := by have := rb0.lt; have := hb34.size; omega
  have n1 : w4.heap.size < u4a := by have := rb1.lt; omega
  have n2 : u4a < w5.heap.size := Nat.lt_of_lt_of_le hr4u.lt hb5.size
  have awA := hSV.away (show V3.heap.size ≤ u4a by have := hb34.size; omega)
  have aw3 := hs3V.away (show V3.heap.size ≤ u4a by have := hb34.size; omega)
  have aw4 := hs4.away hg4u
  have awU := hUV.away (show V3.heap.size ≤ u4a by have := hb34.size; omega)
  have HAW := Lib.hid (And.intro (And.intro nA (And.intro n0 (And.intro n1 n2))) (And.intro (And.intro awA aw3) (And.intro aw4 (And.intro aw5 awU))))
  have ko : ∀ o, ((w5.alloc o).cell? ⟨w3.heap.size, 0, none⟩ = some (.int .i64 P) ∧ (w5.alloc o).cell? ⟨w3.heap.size, 1, none⟩ = some (.int .i64 D) ∧ (w5.alloc o).cell? ⟨w3.heap.size, 2, none⟩ = some (.slice a3 S.length c3)) := by
    have r := erow_below (erow_below rb0 hb34u rb0.lt) hb5 (Nat.lt_of_lt_of_le rb0.lt hb34u.size)
    exact fun o => gcells (erow_below r (ebox1 w5 o) r.lt)
  have hcc : (c != c) = false := by simp
  have hkk : ((1 : Int) != 1) = false := rfl
  clear hbW rW r1 r3 rV3 rb0 rb1 rb1u rb2 hSW hUW hb13 hbV3 hs3V hSV hUV hbWV3 hb4 hbV4 hb4u hb34 hb34u hs4 hs4u hb5 hbV5 hs5 hb45 hb35 hbW5 nA n0 n1 n2 awA aw3 aw4 aw5 awU hg4u hr4u ow4 ow5
  go_wp2_with fail
  rw [← hV5]
  clear hV5 ko
  ((with_reducible refine (eqgrp P D _ _ S _ hso st.s5 st.s3).mono ?_); rintro e w6 ⟨rfl, hb6⟩)
  have st6 := st.on (hb6.drew)
  have ow6 : nOwnI w6.drew V4.heap.size (.slice (some ⟨u4a, 0, none⟩) l.length l.length) l := owV.below (hb6.drew)
  have hU6 : Sl w6.drew (.slice ua l.length ucap) l := hUst.below (hb6.drew)
  obtain ⟨y0, y1, y2⟩ := gcells (st.on hb6).ax
  obtain ⟨t0, t1, t2⟩ := gcells (st.on hb6).b1
  have hz6 := st6.b1.lt
  have hA6 := st6.sa
  have hX6 := st6.s4
  obtain ⟨T0, T1, T2⟩ := gcells st6.b1
  clear st hb6 owV hUst
  go_wp2_with fail
  go_region_with (first
    | (go_at_call 20; (with_reducible refine (togrp p n _ L _ hl hA6).mono ?_); rintro e w7 ⟨v7, rfl, own7, hb7⟩; have Q0 := (hb7.cell (p := ⟨w4.heap.size, 0, none⟩) hz6).trans T0; have Q1 := (hb7.cell (p := ⟨w4.heap.size, 1, none⟩) hz6).trans T1; have Q2 := (hb7.cell (p := ⟨w4.heap.size, 2, none⟩) hz6).trans T2)
    | (go_at_call 13; (with_reducible refine (eqgrp p n _ _ L _ hl (hX6.below hb7) own7.slice).mono ?_); rintro e w8 ⟨rfl, hb8⟩))
  all_goals
    have st8 := (st6.on hb7).on hb8
    have ow8 := (ow6.below hb7).below hb8
    have hU8 := (hU6.below hb7).below hb8
    clear y0 y1 y2 t0 t1 t2 T0 T1 T2 st6 ow6 hU6 hA6 hz6 hX6 own7 hb7 hb8
    try clear Q0 Q1 Q2
    go_wp2_with fail
    ((with_reducible refine (ntoI_any _ l _ hm hU8).mono ?_); rintro e w8u ⟨u8, rfl, hU8u, hb8u⟩)
    have st8u := st8.on hb8u
    have ow8u := ow8.below hb8u
    have hU8w := hU8.below hb8u
    clear st8 ow8 hU8 hb8u
    go_wp2_with fail
    ((with_reducible refine (neqI_same _ _ l _ hm ow8u.slice hU8u).mono ?_); rintro e w8v ⟨rfl, hb8v⟩)
    have st8v := st8u.on hb8v
    have ow8v := ow8u.below hb8v
    have hU8v := hU8w.below hb8v
    clear st8u ow8u hU8w hU8u hb8v
    obtain ⟨t0, t1, t2⟩ := gcells st8v.b1
    go_wp2_with fail
    ((with_reducible refine (markgrp p n _ _ _ 1 _ hl).mono ?_); rintro e w9m ⟨rfl, hb9m⟩)
    have st9m := st8v.on hb9m
    have ow9m := ow8v.below hb9m
    have hU9m := hU8v.below hb9m
    clear t0 t1 t2 st8v ow8v hU8v hb9m
    go_wp2_with fail
    ((with_reducible refine (nmarkI_own 1 _ ow9m hm (by decide) (by decide)).mono ?_); rintro e w9 ⟨rfl, hg9⟩)
    obtain ⟨⟨nA, n0, n1, n2⟩, ⟨awA, aw3⟩, aw4, aw5, awU⟩ := HAW.out
    have st9 := st9m.kept hg9 (Nat.ne_of_lt nA) (Nat.ne_of_lt n0) (Nat.ne_of_lt n1) (Nat.ne_of_gt n2) awA aw3 aw4 aw5 (Nat.le_of_lt nA)
    have hU9 := hU9m.kept2 hg9 awU
    have hq1 : ¬ (1 : Int) + (l.length : Int) < 0 := by omega
    clear st9m ow9m hU9m hg9 nA n0 n1 n2 awA aw3 aw4 aw5 awU
    obtain ⟨q0, q1, q2⟩ := gcells st9.b2
    obtain ⟨k0, k1, k2⟩ := gcells st9.b0
    go_wp2_with fail
    ((with_reducible refine (eqgrp P D _ _ S _ hso st9.s5 st9.s3).mono ?_); rintro e w10 ⟨rfl, hb10⟩)
    have st10 := st9.on hb10
    have hU10 := hU9.below hb10
    clear q0 q1 q2 k0 k1 k2 st9 hb10
    obtain ⟨q0, q1, q2⟩ := gcells st10.b2
    go_wp2_with fail
    ((with_reducible refine (markgrp P D _ _ _ 1 _ hso).mono ?_); rintro e w11 ⟨rfl, hb11⟩)
    have st11 := st10.on hb11
    have hU11 := hU10.below hb11
    clear q0 q1 q2 st10 hb11
    obtain ⟨q0, q1, q2⟩ := gcells st11.b2
    go_wp2_with fail
    ((with_reducible refine (heldgrp P D _ _ _ 1 _ hso (by decide)).mono ?_); rintro e w12 ⟨rfl, hb12⟩)
    have st12 := st11.on hb12
    have hU12 := hU11.below hb12
    clear q0 q1 q2 st11 hb12
    obtain ⟨y0, y1, y2⟩ := gcells st12.ax
    go_wp2_with fail
    ((with_reducible refine (togrp p n _ L _ hl st12.sa).mono ?_); rintro e w13 ⟨v13, rfl, own13, hb13⟩)
    have st13 := st12.on hb13
    clear y0 y1 y2 st12
    go_wp2_with fail
    ((with_reducible refine (ntoI_any _ l _ hm (hU12.below hb13)).mono ?_); rintro e w13u ⟨u13, rfl, hU13, hb13u⟩)
    have st13u := st13.on hb13u
    go_wp2_with fail
    ((with_reducible refine (HIM.out _ _ w13u (own13.slice.below hb13u) hU13).mono ?_); rintro e w14 ⟨v14, rfl, ho14, hb14⟩)
    have hs14 := OwnG9.slice ho14
    clear ho14
    obtain ⟨a14, c14, rfl, _⟩ := id hs14
    have st14 := st13u.on hb14
    clear st13 st13u hU12 hU13 hb13 hb13u hb14 own13
    obtain ⟨V14, hV14, rh, hbV14⟩ : ∃ V, V = w14.alloc (.cells #[.int .i64 P, .int .i64 D, .slice a14 S.length c14] 26) ∧ V.rowIs w14.heap.size 26 3 (grpF P D (.slice a14 S.length c14)) ∧ Below w14.heap.size w14 V := ⟨_, rfl, gbox w14 P D _ _, ebox1 _ _⟩
    have ko : ∀ o, ((w14.alloc o).cell? ⟨w3.heap.size, 0, none⟩ = some (.int .i64 P) ∧ (w14.alloc o).cell? ⟨w3.heap.size, 1, none⟩ = some (.int .i64 D) ∧ (w14.alloc o).cell? ⟨w3.heap.size, 2, none⟩ = some (.slice a3 S.length c3)) := fun o => gcells (erow_below st14.b0 (ebox1 w14 o) st14.b0.lt)
    have stV := st14.on hbV14
    have hsV := hs14.below hbV14
    clear st14 hbV14 hs14
    go_wp2_with fail
    rw [← hV14]
    clear hV14 ko
    ((with_reducible refine (eqgrp P D _ _ S _ hso hsV stV.s3).mono ?_); rintro e w15 ⟨rfl, hb15⟩)
    have st15 := stV.on hb15
    clear stV hsV rh hb15
    obtain ⟨q0, q1, q2⟩ := gcells st15.b2
    go_wp2_with fail
    ((with_reducible refine (heldgrp P D _ _ _ 1 _ hso (by decide)).mono ?_); rintro e w16 ⟨rfl, hb16⟩)
    have hend := (st15.on hb16).below
    clear q0 q1 q2 st15 hb16
    go_wp2
    go_ret
    exact ⟨rfl, hend⟩
end Go.Proofs.Ytpbdbgajohacoaa
