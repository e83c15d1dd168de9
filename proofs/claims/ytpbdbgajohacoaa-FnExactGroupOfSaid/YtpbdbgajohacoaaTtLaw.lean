/-
  The law of 'FnExactGroupOf', walked. Conditions: as the theorem states.
-/
import Derived.Test.YtpbdbgajohacoaaJh
import Derived.Test.YtpbdbgajohacoaaTp
namespace Go.Proofs.Ytpbdbgajohacoaa
open Go.RowKit Go.Sort EchM

theorem GrpRes.len2 {p n : Int} {L : List (Nat → Nat → Int)} {o : GO} (h : GrpRes p n L o) : o.S.length ≤ 1048576 := Nat.le_trans h.len (by decide)
theorem sgrofR {p n : Int} {L : List (Nat → Nat → Int)} {o : GO} (ho : GrpRes p n L o) (v : Value) (w : World) (hl : L.length ≤ 1048576) (hS : SlM w v L) (hby : ∀ x ∈ L, Byt x) :
    Calls Try.prog 10 #[.int .i64 p, .int .i64 n, v] w (ResG w o) :=
  (sgrof p n v L w hl hS hby).mono fun _ _ ⟨_, ho', h⟩ => by rw [← ho'.unique ho]; exact h
theorem igrofR {p n : Int} {L : List (Nat → Nat → Int)} {o : GO} (ho : GrpRes p n L o) (v : Value) (w : World) (hl : L.length ≤ 1048576) (hS : SlM w v L) (hby : ∀ x ∈ L, Byt x) :
    Calls Try.prog 12 #[.int .i64 p, .int .i64 n, v] w (ResG w o) :=
  (igrof p n v L w hl hS hby).mono fun _ _ ⟨_, ho', h⟩ => by rw [← ho'.unique ho]; exact h
/-- What stands in memory while the law runs: the model's answer (block B0), the program's answer (block B2). -/
structure GLw (w wr : World) (B0 B2 : Nat) (P D : Int) (va v3 v4 v5 : Value) (L S : List (Nat → Nat → Int)) : Prop where
  b0 : wr.rowIs B0 26 3 (grpF P D v3)
  b2 : wr.rowIs B2 26 3 (grpF P D v5)
  sa : SlM wr va L
  s3 : SlM wr v3 S
  s4 : SlM wr v4 L
  s5 : SlM wr v5 S
  below : Below w.heap.size w wr
theorem GLw.on {w wr w1 : World} {B0 B2 : Nat} {P D : Int} {va v3 v4 v5 : Value} {L S : List (Nat → Nat → Int)} (h : GLw w wr B0 B2 P D va v3 v4 v5 L S) (hb : Below wr.heap.size wr w1) : GLw w w1 B0 B2 P D va v3 v4 v5 L S :=
  ⟨erow_below h.b0 hb h.b0.lt, erow_below h.b2 hb h.b2.lt, h.sa.below hb, h.s3.below hb, h.s4.below hb, h.s5.below hb, h.below.trans (hb.mono h.below.size)⟩

set_option maxRecDepth 8000 in
set_option maxHeartbeats 8000000 in
theorem law_groupOf (p n : Int) (v : Value) (L : List (Nat → Nat → Int)) (w : World) (hS : SlM w v L) (hby : ∀ x ∈ L, Byt x) (hn : L.length ≤ 9223372036854775807) :
    Calls Try.prog 3 #[.int .i64 p, .int .i64 n, v] w fun e w' => e = .returned (.bool true) ∧ Below w.heap.size w w' := by
  obtain ⟨a, cap, rfl, _⟩ := id hS
  have HBY := Lib.hid hby
  clear hby
  by_cases hbig : 1048576 < L.length
  · go_enter Try.func3, Try.ntmps3
    go_wp2_with fail
    ((with_reducible refine (szmats_no a L.length cap _ hbig hn).mono ?_); rintro e w1 ⟨rfl, rfl⟩)
    go_wp2_with fail
    go_ret
    exact ⟨rfl, Below.refl _ _⟩
  have hl : L.length ≤ 1048576 := by omega
  have hpos : ¬ (1048576 - (L.length : Int)) < 0 := by omega
  clear hbig
  obtain ⟨o, ho⟩ := GrpRes.ex p n L
  have hso : o.S.length ≤ 1048576 := ho.len2
  have hspec := fun v' w' h' => sgrofR ho v' w' hl h' HBY.out
  have himpl := fun v' w' h' => igrofR ho v' w' hl h' HBY.out
  clear ho
  obtain ⟨P, D, S, c⟩ := o
  simp only at hso
  have HSP := Lib.hid hspec
  have HIM := Lib.hid himpl
  clear hspec himpl
  go_enter Try.func3, Try.ntmps3
  go_wp2_with fail
  ((with_reducible refine (szmats_ok a L.length cap _ hl).mono ?_); rintro e w1 ⟨rfl, rfl⟩)
  go_wp2_with fail
  ((with_reducible refine (tomats _ L _ hl hS).mono ?_); rintro e w2 ⟨v2, rfl, own2, hb2⟩)
  have hs2 := own2.slice
  clear own2
  obtain ⟨a2, c2, rfl, _⟩ := id hs2
  go_wp2_with fail
  ((with_reducible refine (HSP.out _ w2 hs2).mono ?_); rintro e w3 ⟨v3, rfl, ho3, hb3⟩)
  have hs3 := OwnG9.slice ho3
  clear ho3
  obtain ⟨a3, c3, rfl, _⟩ := id hs3
  have hb13 := hb2.trans (hb3.mono hb2.size)
  clear hb2 hb3 hs2
  obtain ⟨V3, hV3, rb0, hbV3⟩ : ∃ V, V = w3.alloc (.cells #[.int .i64 P, .int .i64 D, .slice a3 S.length c3] 26) ∧ V.rowIs w3.heap.size 26 3 (grpF P D (.slice a3 S.length c3)) ∧ Below w3.heap.size w3 V := ⟨_, rfl, gbox w3 P D _ _, ebox1 _ _⟩
  have hs3V := hs3.below hbV3
  have hSV := (hS.below hb13).below hbV3
  have hbWV3 := hb13.trans (hbV3.mono hb13.size)
  clear hs3
  go_wp2_with fail
  rw [← hV3]
  clear hV3
  ((with_reducible refine (tomats _ L _ hl hSV).mono ?_); rintro e w4 ⟨v4, rfl, own4, hb4⟩)
  have hs4 := own4.slice
  clear own4
  obtain ⟨a4, c4, rfl, _⟩ := id hs4
  go_wp2_with fail
  ((with_reducible refine (HIM.out _ w4 hs4).mono ?_); rintro e w5 ⟨v5, rfl, ho5, hb5⟩)
  have hs5 := OwnG9.slice ho5
  clear ho5
  obtain ⟨a5, c5, rfl, _⟩ := id hs5
  obtain ⟨V5, hV5, rb2, hbV5⟩ : ∃ V, V = w5.alloc (.cells #[.int .i64 P, .int .i64 D, .slice a5 S.length c5] 26) ∧ V.rowIs w5.heap.size 26 3 (grpF P D (.slice a5 S.length c5)) ∧ Below w5.heap.size w5 V := ⟨_, rfl, gbox w5 P D _ _, ebox1 _ _⟩
  have hb45 := hb5.trans (hbV5.mono hb5.size)
  have hb35 := hb4.trans (hb45.mono hb4.size)
  have hbW5 := hbWV3.trans (hb35.mono hbWV3.size)
  have st : GLw w V5 w3.heap.size w5.heap.size P D (.slice a L.length cap) (.slice a3 S.length c3) (.slice a4 L.length c4) (.slice a5 S.length c5) L S :=
    ⟨erow_below rb0 hb35 rb0.lt, rb2, hSV.below hb35, hs3V.below hb35, hs4.below hb45, hs5.below hbV5, hbW5⟩
  have ko : ∀ o, ((w5.alloc o).cell? ⟨w3.heap.size, 0, none⟩ = some (.int .i64 P) ∧ (w5.alloc o).cell? ⟨w3.heap.size, 1, none⟩ = some (.int .i64 D) ∧ (w5.alloc o).cell? ⟨w3.heap.size, 2, none⟩ = some (.slice a3 S.length c3)) := by
    have r := erow_below (erow_below rb0 hb4 rb0.lt) hb5 (Nat.lt_of_lt_of_le rb0.lt hb4.size)
    exact fun o => gcells (erow_below r (ebox1 w5 o) r.lt)
  have hcc : (c != c) = false := by simp
  have hkk : ((1 : Int) != 1) = false := rfl
  clear rb0 rb2 hS hb13 hbV3 hs3V hSV hbWV3 hb4 hs4 hb5 hbV5 hs5 hb45 hb35 hbW5
  go_wp2_with fail
  rw [← hV5]
  clear hV5 ko
  ((with_reducible refine (eqgrp P D _ _ S _ hso st.s5 st.s3).mono ?_); rintro e w6 ⟨rfl, hb6⟩)
  have st6 := st.on hb6
  clear st hb6
  go_wp2_with fail
  ((with_reducible refine (tomats _ L _ hl st6.sa).mono ?_); rintro e w7 ⟨v7, rfl, own7, hb7⟩)
  have st7 := st6.on hb7
  have hs7 := own7.slice
  clear st6 hb7 own7
  obtain ⟨a7, c7, rfl, _⟩ := id hs7
  go_wp2_with fail
  ((with_reducible refine (eqmats _ _ L _ hl st7.s4 hs7).mono ?_); rintro e w8 ⟨rfl, hb8⟩)
  have st8 := st7.on hb8
  clear st7 hb8 hs7
  go_wp2_with fail
  ((with_reducible refine (markmats _ _ _ 1 _ hl).mono ?_); rintro e w9 ⟨rfl, rfl⟩)
  obtain ⟨q0, q1, q2⟩ := gcells st8.b2
  obtain ⟨k0, k1, k2⟩ := gcells st8.b0
  go_wp2_with fail
  ((with_reducible refine (eqgrp P D _ _ S _ hso st8.s5 st8.s3).mono ?_); rintro e w10 ⟨rfl, hb10⟩)
  have st10 := st8.on hb10
  clear q0 q1 q2 k0 k1 k2 st8 hb10
  obtain ⟨q0, q1, q2⟩ := gcells st10.b2
  go_wp2_with fail
  ((with_reducible refine (markgrp P D _ _ _ 1 _ hso).mono ?_); rintro e w11 ⟨rfl, hb11⟩)
  have st11 := st10.on hb11
  clear q0 q1 q2 st10 hb11
  obtain ⟨q0, q1, q2⟩ := gcells st11.b2
  go_wp2_with fail
  ((with_reducible refine (heldgrp P D _ _ _ 1 _ hso (by decide)).mono ?_); rintro e w12 ⟨rfl, hb12⟩)
  have st12 := st11.on hb12
  clear q0 q1 q2 st11 hb12
  go_wp2_with fail
  ((with_reducible refine (tomats _ L _ hl st12.sa).mono ?_); rintro e w13 ⟨v13, rfl, own13, hb13⟩)
  have st13 := st12.on hb13
  have hs13 := own13.slice
  clear st12 hb13 own13
  obtain ⟨a13, c13, rfl, _⟩ := id hs13
  go_wp2_with fail
  ((with_reducible refine (HIM.out _ w13 hs13).mono ?_); rintro e w14 ⟨v14, rfl, ho14, hb14⟩)
  have hs14 := OwnG9.slice ho14
  clear ho14
  obtain ⟨a14, c14, rfl, _⟩ := id hs14
  have st14 := st13.on hb14
  clear st13 hb14 hs13
  obtain ⟨V14, hV14, rh, hbV14⟩ : ∃ V, V = w14.alloc (.cells #[.int .i64 P, .int .i64 D, .slice a14 S.length c14] 26) ∧ V.rowIs w14.heap.size 26 3 (grpF P D (.slice a14 S.length c14)) ∧ Below w14.heap.size w14 V := ⟨_, rfl, gbox w14 P D _ _, ebox1 _ _⟩
  have ko : ∀ o, ((w14.alloc o).cell? ⟨w3.heap.size, 0, none⟩ = some (.int .i64 P) ∧ (w14.alloc o).cell? ⟨w3.heap.size, 1, none⟩ = some (.int .i64 D) ∧ (w14.alloc o).cell? ⟨w3.heap.size, 2, none⟩ = some (.slice a3 S.length c3)) := fun o => gcells (erow_below st14.b0 (ebox1 w14 o) st14.b0.lt)
  have stV := st14.on hbV14
  have hsV := hs14.below hbV14
  clear st14 hbV14 hs14
  go_wp2_with fail
  rw [← hV14]
  clear hV14 ko
  ((with_reducible refine (eqgrp P D _ _ S _ hso hsV stV.s3).mono ?_); rintro e w15 ⟨rfl, hb15⟩)
  have st15 := stV.on hb15
  clear stV hsV rh hb15
  obtain ⟨q0, q1, q2⟩ := gcells st15.b2
  go_wp2_with fail
  ((with_reducible refine (heldgrp P D _ _ _ 1 _ hso (by decide)).mono ?_); rintro e w16 ⟨rfl, hb16⟩)
  have hend := (st15.on hb16).below
  clear q0 q1 q2 st15 hb16
  go_wp2
  go_ret
  exact ⟨rfl, hend⟩
end Go.Proofs.Ytpbdbgajohacoaa
