/-
  The law of 'FnExactOrbitOfPoint', walked. Conditions: as the theorem states.
-/
import Derived.Test.YtpbdbgajohacoaaJi
import Derived.Test.YtpbdbgajohacoaaUg
namespace Go.Proofs.Ytpbdbgajohacoaa
open Go.RowKit Go.Sort EchM

theorem orb_slen {α : Type} : ∀ {l l' : List α}, l.Nodup → (∀ x ∈ l, x ∈ l') → l.length ≤ l'.length
  | [], _, _, _ => by simp
  | a :: l, l', hn, hs => by
    obtain ⟨h1, h2⟩ := List.nodup_cons.1 hn
    obtain ⟨s, t, rfl⟩ := List.append_of_mem (hs a (by simp))
    have := orb_slen (l' := s ++ t) h2 fun x hx => by
      have hx' := hs x (by simp [hx])
      simp only [List.mem_append, List.mem_cons] at hx' ⊢
      rcases hx' with h | rfl | h
      · exact .inl h
      · exact absurd hx h1
      · exact .inr h
    simp at this ⊢
    omega
theorem OrbRes.len {p n : Int} {L : List (Nat → Nat → Int)} {l : List Int} {o : PO} (h : OrbRes p n L l o) (hl : L.length ≤ 1048576) : o.S.length ≤ 1048576 := by
  rcases h with ⟨_, rfl⟩ | ⟨_, _, c⟩
  · simp
  · have := orb_slen (orb_nodup c.1) fun x hx => (c.2 x).1 hx
    simp at this
    omega
theorem OrbRes.rows {p n : Int} {L : List (Nat → Nat → Int)} {l : List Int} {o : PO} (h : OrbRes p n L l o) (hby : ∀ x ∈ L, Byt x) : ∀ r ∈ o.S, r.length ≤ 64 := fun r hr => by
  rcases h with ⟨_, rfl⟩ | ⟨hc, _, c⟩
  · simp at hr
  · obtain ⟨x, _, rfl⟩ := List.mem_map.1 ((c.2 r).1 hr)
    obtain ⟨m, rfl, _, m3, _⟩ := isGrp_mats hby (ptC_nil hc).1
    rw [leadL_len]
    omega
theorem sorbR {p n : Int} {L : List (Nat → Nat → Int)} {pt : List Int} {o : PO} (ho : OrbRes p n L pt o) (v u : Value) (w : World) (hl : L.length ≤ 1048576) (hS : SlM w v L) (hby : ∀ x ∈ L, Byt x) (hpl : pt.length ≤ 1048576) (hU : Sl w u pt) :
    Calls Try.prog 22 #[.agg #[.int .i64 p, .int .i64 n, v], u] w fun e w' => ∃ v', e = .returned (.tuple #[v', .int .i64 o.c]) ∧ SlR w' v' o.S ∧ Below w.heap.size w w' :=
  (sorb p n v u L pt w hl hS hby hpl hU).mono fun _ _ ⟨_, ho', h⟩ => by rw [← ho'.unique ho]; exact h
theorem iorbR {p n : Int} {L : List (Nat → Nat → Int)} {pt : List Int} {o : PO} (ho : OrbRes p n L pt o) (v u : Value) (w : World) (hl : L.length ≤ 1048576) (hS : SlM w v L) (hby : ∀ x ∈ L, Byt x) (hpl : pt.length ≤ 1048576) (hU : Sl w u pt) :
    Calls Try.prog 24 #[.agg #[.int .i64 p, .int .i64 n, v], u] w fun e w' => ∃ v', e = .returned (.tuple #[v', .int .i64 o.c]) ∧ OwnRR w' w.heap.size v' o.S ∧ Below w.heap.size w w' :=
  (iorb p n v u L pt w hl hS hby hpl hU).mono fun _ _ ⟨_, ho', h⟩ => by rw [← ho'.unique ho]; exact h

set_option maxRecDepth 8000 in
set_option maxHeartbeats 8000000 in
theorem law_orbitOfPoint (p n : Int) (v : Value) (L : List (Nat → Nat → Int)) (u : Value) (l : List Int) (w : World) (hn : L.length ≤ 9223372036854775807) (hS : SlM w v L) (hby : ∀ x ∈ L, Byt x) (hnl : l.length ≤ 9223372036854775807) (hU : Sl w u l) :
    Calls Try.prog 5 #[.agg #[.int .i64 p, .int .i64 n, v], u] w fun e w' => e = .returned (.bool true) ∧ Below w.heap.size w w' := by
  obtain ⟨W, hW, rW, hbW⟩ : ∃ W, W = w.alloc (.cells #[.int .i64 p, .int .i64 n, v] 36) ∧ W.rowIs w.heap.size 36 3 (grpF p n v) ∧ Below w.heap.size w W := ⟨_, rfl, gbox w p n v _, ebox1 _ _⟩
  have hSW := hS.below hbW
  have hUW := hU.below hbW
  obtain ⟨a, cap, rfl, _⟩ := id hS
  obtain ⟨y0, y1, y2⟩ := gcells rW
  have HBY := Lib.hid hby
  obtain ⟨ua, ucap, rfl, _⟩ := id hU
  by_cases hlong : 1048576 < l.length
  · go_enter Try.func5, Try.ntmps5
    go_wp2_with fail
    rw [← hW]
    clear hW
    go_wp2_with fail
    go_ret
    exact ⟨rfl, hbW⟩
  have hm : l.length ≤ 1048576 := by omega
  clear hlong
  by_cases hbig : 1048576 < L.length
  · go_enter Try.func5, Try.ntmps5
    go_wp2_with fail
    rw [← hW]
    clear hW
    ((with_reducible refine (szgrp_no p n a L.length cap _ hbig hn).mono ?_); rintro e w1 ⟨rfl, hb1⟩)
    go_wp2_with fail
    go_ret
    exact ⟨rfl, hbW.trans (hb1.mono hbW.size)⟩
  have hl : L.length ≤ 1048576 := by omega
  have hpos : ¬ (1048576 - (L.length : Int)) < 0 := by omega
  clear hbig
  obtain ⟨o, ho⟩ := OrbRes.ex p n L l
  have hso : o.S.length ≤ 1048576 := ho.len hl
  have hsr := ho.rows hby
  have hspec := fun v' u' w' h' k' => sorbR ho v' u' w' hl h' HBY.out hm k'
  have himpl := fun v' u' w' h' k' => iorbR ho v' u' w' hl h' HBY.out hm k'
  clear ho hby
  obtain ⟨S, c⟩ := o
  simp only at hso hsr
  have HSP := Lib.hid hspec
  have HIM := Lib.hid himpl
  have HSR := Lib.hid hsr
  have HSR2 : Hid (∀ r ∈ S, r.length ≤ 1048576) := Lib.hid (fun r hr => Nat.le_trans (HSR.out r hr) (by decide))
  clear hspec himpl hsr
  go_enter Try.func5, Try.ntmps5
  go_wp2_with fail
  rw [← hW]
  clear hW
  ((with_reducible refine (szgrp_ok p n a L.length cap _ hl).mono ?_); rintro e w1 ⟨rfl, hb1⟩)
  have r1 := erow_below rW hb1 rW.lt
  clear y0 y1 y2
  obtain ⟨y0, y1, y2⟩ := gcells r1
  go_wp2_with fail
  ((with_reducible refine (togrp p n _ L _ hl (hSW.below hb1)).mono ?_); rintro e w2 ⟨v2, rfl, own2, hb2⟩)
  have hb12 := hb1.trans (hb2.mono hb1.size)
  go_wp2_with fail
  ((with_reducible refine (ntoI_any _ l _ hm (hUW.below hb12)).mono ?_); rintro e w2u ⟨u2, rfl, hU2, hb2u⟩)
  have hb12u := hb12.trans (hb2u.mono hb12.size)
  go_wp2_with fail
  ((with_reducible refine (HSP.out v2 u2 w2u (own2.slice.below hb2u) hU2).mono ?_); rintro e w3 ⟨v3, rfl, hs3, hb3⟩)
  obtain ⟨a3, c3, rfl, _⟩ := id hs3
  have hb13 := hb12u.trans (hb3.mono hb12u.size)
  have r3 := erow_below rW hb13 rW.lt
  have hS3 := hSW.below hb13
  have hU3 := hUW.below hb13
  have hbw3 := hbW.trans (hb13.mono hbW.size)
  clear hb1 hb2 hb3 hb12 hb2u hb12u hU2 own2 y0 y1 y2 rW r1 hSW hUW hbW hb13
  obtain ⟨y0, y1, y2⟩ := gcells r3
  go_wp2_with fail
  ((with_reducible refine (togrp p n _ L _ hl hS3).mono ?_); rintro e w4 ⟨v4, rfl, own4, hb4⟩)
  obtain ⟨g4, f4, hv4, _⟩ := id own4
  subst hv4
  obtain ⟨V4, hV4, rb1, hbV4⟩ : ∃ V, V = w4.alloc (.cells #[.int .i64 p, .int .i64 n, .slice (some ⟨g4, 0, none⟩) L.length L.length] 26) ∧ V.rowIs w4.heap.size 26 3 (grpF p n (.slice (some ⟨g4, 0, none⟩) L.length L.length)) ∧ Below w4.heap.size w4 V := ⟨_, rfl, gbox w4 p n _ _, ebox1 _ _⟩
  have K4 := hb4.trans (hbV4.mono hb4.size)
  have hs4 := own4.slice.below hbV4
  clear own4 y0 y1 y2
  go_wp2_with fail
  rw [← hV4]
  clear hV4
  ((with_reducible refine (ntoI_own _ l _ hm (hU3.below K4)).mono ?_); rintro e w4u ⟨u4, rfl, ow4, hb4u⟩)
  have hs4u := hs4.below hb4u
  have rb1u := erow_below rb1 hb4u rb1.lt
  have K4u := K4.trans (hb4u.mono K4.size)
  obtain ⟨t0, t1, t2⟩ := gcells rb1u
  obtain ⟨ub, f4u, hu4, hg4u, hr4u, _⟩ := id ow4
  subst hu4
  go_wp2_with fail
  ((with_reducible refine (HIM.out _ _ w4u hs4u ow4.slice).mono ?_); rintro e w5 ⟨v5, rfl, ho5, hb5⟩)
  have K5 := K4u.trans (hb5.mono K4u.size)
  have rb5 := erow_below rb1u hb5 rb1u.lt
  have hs45 := hs4u.below hb5
  have ow5 := ow4.below hb5
  have HUB := Lib.hid (And.intro (show w3.heap.size ≤ ub from Nat.le_trans K4.size hg4u) (And.intro (show ub < w4u.heap.size from hr4u.lt) (And.intro K4u.size hb5.size)))
  obtain ⟨a5, c5, rfl⟩ := ho5.shape
  have hcc : (c != c) = false := by simp
  clear t0 t1 t2 hs4 hb4 hbV4 rb1 K4 hb4u hs4u rb1u K4u ow4 hg4u hr4u hb5
  go_wp2_with fail
  ((with_reducible refine (eqrows _ _ S _ hso HSR2.out ho5.slR (hs3.below K5)).mono ?_); rintro e w6 ⟨rfl, hb6⟩)
  have K6 := K5.trans (hb6.mono K5.size)
  have rb6 := erow_below rb5 hb6 rb5.lt
  have hs46 := hs45.below hb6
  have ow6 := ow5.below hb6
  have ho6 := ho5.below hb6
  have s56 := hb6.size
  clear rb5 hs45 ow5 ho5 K5 hb6
  have hz6 : w4.heap.size < w6.drew.heap.size := rb6.lt
  have hA6 : SlM w6.drew (.slice a L.length cap) L := (hS3.below K6).below (Below.refl _ _).drew
  have hX6 : SlM w6.drew (.slice (some ⟨g4, 0, none⟩) L.length L.length) L := hs46.below (Below.refl _ _).drew
  obtain ⟨y0, y1, y2⟩ := gcells (erow_below r3 K6 r3.lt)
  obtain ⟨t0, t1, t2⟩ := gcells rb6
  obtain ⟨T0, T1, T2⟩ := gcells (show w6.drew.rowIs w4.heap.size 26 3 (grpF p n (.slice (some ⟨g4, 0, none⟩) L.length L.length)) from rb6)
  go_wp2_with fail
  go_cut [56] (fun s56 wx => s56 = .bool false ∧ Below w6.heap.size w6 wx)
  case first =>
    go_region_with (first
      | (go_at_call 20; (with_reducible refine (togrp p n _ L _ hl hA6).mono ?_); rintro e w7 ⟨v7, rfl, own7, hb7⟩; have Q0 := (hb7.cell (p := ⟨w4.heap.size, 0, none⟩) hz6).trans T0; have Q1 := (hb7.cell (p := ⟨w4.heap.size, 1, none⟩) hz6).trans T1; have Q2 := (hb7.cell (p := ⟨w4.heap.size, 2, none⟩) hz6).trans T2)
      | (go_at_call 13; (with_reducible refine (eqgrp p n _ _ L _ hl (hX6.below hb7) own7.slice).mono ?_); rintro e w8 ⟨rfl, hb8⟩))
    all_goals
      go_wp2_with fail
      go_meet
      exact ⟨rfl, (Below.refl _ _).drew.trans (hb7.trans (hb8.mono hb7.size))⟩
  case rest =>
  rename World => w7
  obtain ⟨rfl, hb7⟩ := hcut
  have K7 := K6.trans (hb7.mono K6.size)
  have rb7 := erow_below rb6 hb7 rb6.lt
  have ow7 := ow6.below hb7
  have ho7 := ho6.below hb7
  have s67 := hb7.size
  clear y0 y1 y2 t0 t1 t2 T0 T1 T2 hz6 hA6 hX6 rb6 hs46 ow6 ho6 K6 hb7
  go_wp2_with fail
  ((with_reducible refine (ntoI_any _ l _ hm (hU3.below K7)).mono ?_); rintro e w8 ⟨u8, rfl, hU8, hb8⟩)
  have K8 := K7.trans (hb8.mono K7.size)
  have rb8 := erow_below rb7 hb8 rb7.lt
  have ow8 := ow7.below hb8
  have ho8 := ho7.below hb8
  have s78 := hb8.size
  clear rb7 ow7 ho7 K7 hb8
  go_wp2_with fail
  ((with_reducible refine (neqI_same _ _ l _ hm ow8.slice hU8).mono ?_); rintro e w9 ⟨rfl, hb9⟩)
  have K9 := K8.trans (hb9.mono K8.size)
  have rb9 := erow_below rb8 hb9 rb8.lt
  have ow9 := ow8.below hb9
  have ho9 := ho8.below hb9
  have s89 := hb9.size
  clear rb8 ow8 ho8 K8 hb9 hU8
  obtain ⟨t0, t1, t2⟩ := gcells rb9
  go_wp2_with fail
  ((with_reducible refine (markgrp p n _ _ _ 1 _ hl).mono ?_); rintro e w10 ⟨rfl, hb10⟩)
  have K10 := K9.trans (hb10.mono K9.size)
  have ow10 := ow9.below hb10
  have ho10 := ho9.below hb10
  have s910 := hb10.size
  clear rb9 ow9 ho9 K9 hb10 t0 t1 t2
  go_wp2_with fail
  ((with_reducible refine (nmarkI_own 1 _ ow10 hm (by decide) (by decide)).mono ?_); rintro e w11 ⟨rfl, hg11⟩)
  have hg11' : w10.grownBy w11 (some ub) := hg11
  obtain ⟨q1, q2, q3, q4⟩ := HUB.out
  have K11 := K10.grown hg11' K10.size (fun k hk => by simp at hk; omega)
  have ho11 := ho10.kept hg11' q2
  have s1011 := hg11'.size
  have hq1 : ¬ (1 : Int) + (l.length : Int) < 0 := by omega
  clear K10 ow10 ho10 hg11 hg11'
  go_wp2_with fail
  ((with_reducible refine (eqrows _ _ S _ hso HSR2.out ho11.slR (hs3.below K11)).mono ?_); rintro e w12 ⟨rfl, hb12⟩)
  have K12 := K11.trans (hb12.mono K11.size)
  have ho12 := ho11.below hb12
  obtain ⟨tot, htot, hmk⟩ := ho12.mark hso HSR.out (by have := hb12.size; omega)
  have HMK := Lib.hid hmk
  clear K11 ho11 hb12 ho12 hmk hq1
  go_wp2_with fail
  ((with_reducible refine HMK.out.mono ?_); rintro e w13 ⟨rfl, hM13, hb13⟩)
  have K13 := K12.trans (hb13.mono q3)
  have hnt : ¬ (1 : Int) + (tot : Int) < 0 := by omega
  have hne : ((1 : Int) + (tot : Int) != 1 + (tot : Int)) = false := by simp
  clear K12 hb13 HMK htot s56 s67 s78 s89 s910 s1011 q1 q2 q3 q4
  go_wp2_with fail
  ((with_reducible refine hM13.held.mono ?_); rintro e w13' ⟨rfl, rfl⟩)
  obtain ⟨y0, y1, y2⟩ := gcells (erow_below r3 K13 r3.lt)
  go_wp2_with fail
  ((with_reducible refine (togrp p n _ L _ hl (hS3.below K13)).mono ?_); rintro e w14 ⟨v14, rfl, own14, hb14⟩)
  have K14 := K13.trans (hb14.mono K13.size)
  have hM14 := hM13.below hb14
  clear y0 y1 y2 K13 hM13 hb14
  go_wp2_with fail
  ((with_reducible refine (ntoI_any _ l _ hm (hU3.below K14)).mono ?_); rintro e w15 ⟨u15, rfl, hU15, hb15⟩)
  have K15 := K14.trans (hb15.mono K14.size)
  have hM15 := hM14.below hb15
  have hs15 := own14.slice.below hb15
  clear K14 hM14 hb15 own14
  go_wp2_with fail
  ((with_reducible refine (HIM.out _ _ w15 hs15 hU15).mono ?_); rintro e w16 ⟨v16, rfl, ho16, hb16⟩)
  have K16 := K15.trans (hb16.mono K15.size)
  have hM16 := hM15.below hb16
  obtain ⟨a16, c16, rfl⟩ := ho16.shape
  clear K15 hM15 hb16 hs15 hU15
  go_wp2_with fail
  ((with_reducible refine (eqrows _ _ S _ hso HSR2.out ho16.slR (hs3.below K16)).mono ?_); rintro e w17 ⟨rfl, hb17⟩)
  have K17 := K16.trans (hb17.mono K16.size)
  have hM17 := hM16.below hb17
  clear K16 hM16 hb17 ho16
  go_wp2_with fail
  ((with_reducible refine hM17.held.mono ?_); rintro e w18 ⟨rfl, rfl⟩)
  have hend := hbw3.trans (K17.mono hbw3.size)
  go_wp2
  go_ret
  exact ⟨rfl, hend⟩
end Go.Proofs.Ytpbdbgajohacoaa
