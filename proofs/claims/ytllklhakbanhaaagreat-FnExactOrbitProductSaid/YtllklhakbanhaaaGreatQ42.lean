/-
  WALKS of the laws on matrices: comparing two matrices that are alike. Conditions: as each theorem states.
  WALKS of the laws on groups: sizes, comparing, copying. Conditions: as each theorem states.
  WALKS of the laws on groups: copying a group; the law of 'FnExactIsGroup'. Conditions: as each theorem states.
  LISTS OF MATRICES that grow, and a group that is built in a block of its own. Conditions: as each theorem states.
  WALKS of the laws on groups: marking. Conditions: as each theorem states.
-/
import Derived.Test.YtllklhakbanhaaaGreatQ41
import Derived.Test.YtllklhakbanhaaaGreatQ33
import Derived.Test.YtllklhakbanhaaaGreatQ21
import Derived.Test.YtllklhakbanhaaaGreatQ30
import Derived.Deep.RegionLaw
import Derived.Deep.RegionWith
namespace Go.Proofs.YtllklhakbanhaaaGreat
open Go.RowKit Go.Sort EchM

theorem eqb3_regrown (x y z : Int) (W : World) (d : Nat) (os : Array Obj) :
    Calls Tryz.prog 122 #[.agg #[.int .u8 x, .int .u8 y, .int .u8 z], .agg #[.int .u8 x, .int .u8 y, .int .u8 z]] (grow (redrawn W d) os) fun e w'' => e = .returned (.bool true) ∧ ∃ p : Regrown, w'' = grow (redrawn W p.d) p.os :=
  Calls.regrown_of (eqbyte3 x y z _)

set_option maxRecDepth 8000 in
set_option maxHeartbeats 4000000 in
theorem eqmat (g : Nat → Nat → Int) (w : World) : Calls Tryz.prog 87 #[mv g, mv g] w fun e w' => e = .returned (.bool true) ∧ Below w.heap.size w w' := by
  obtain ⟨W, hW, r1, r2, hbW⟩ : ∃ W, W = (w.alloc (.cells #[.int .u8 (g 0 0), .int .u8 (g 0 1), .int .u8 (g 0 2), .int .u8 (g 1 0), .int .u8 (g 1 1), .int .u8 (g 1 2), .int .u8 (g 2 0), .int .u8 (g 2 1), .int .u8 (g 2 2)] 98)).alloc (.cells #[.int .u8 (g 0 0), .int .u8 (g 0 1), .int .u8 (g 0 2), .int .u8 (g 1 0), .int .u8 (g 1 1), .int .u8 (g 1 2), .int .u8 (g 2 0), .int .u8 (g 2 1), .int .u8 (g 2 2)] 98) ∧
      W.rowIs w.heap.size 98 9 (mF g) ∧ W.rowIs (w.heap.size + 1) 98 9 (mF g) ∧ Below w.heap.size w W := by
    refine ⟨_, rfl, (mbox w g _).alloc _, ?_, ebox2 _ _ _⟩
    have := mbox (w.alloc (.cells #[.int .u8 (g 0 0), .int .u8 (g 0 1), .int .u8 (g 0 2), .int .u8 (g 1 0), .int .u8 (g 1 1), .int .u8 (g 1 2), .int .u8 (g 2 0), .int .u8 (g 2 1), .int .u8 (g 2 2)] 98)) g 98
    rwa [World.size_alloc] at this
  unfold mv
  go_enter Tryz.func87, Tryz.ntmps87
  go_upto_region 1 with fail
  rw [← hW]
  clear hW
  go_wp2_with fail
  go_loopw [5] (fun i wr => ∃ (k : Nat), k ≤ 3 ∧ i = .int .i64 k ∧ Below W.heap.size W wr) (fun i _ => 3 - (intOf i).toNat)
  case atStart => exact ⟨0, by omega, rfl, Below.refl _ _⟩
  case round =>
    obtain ⟨k, hk, rfl, hb⟩ := hrel
    by_cases hlt : k < 3
    · obtain ⟨⟨a0, a1, a2⟩, ⟨a3, a4, a5⟩, a6, a7, a8⟩ := mcells (erow_below r1 hb r1.lt)
      obtain ⟨⟨b0, b1, b2⟩, ⟨b3, b4, b5⟩, b6, b7, b8⟩ := mcells (erow_below r2 hb r2.lt)
      have k0 := cell_regrown a0
      have k1 := cell_regrown a1
      have k2 := cell_regrown a2
      have k3 := cell_regrown a3
      have k4 := cell_regrown a4
      have k5 := cell_regrown a5
      have k6 := cell_regrown a6
      have k7 := cell_regrown a7
      have k8 := cell_regrown a8
      have l0 := cell_regrown b0
      have l1 := cell_regrown b1
      have l2 := cell_regrown b2
      have l3 := cell_regrown b3
      have l4 := cell_regrown b4
      have l5 := cell_regrown b5
      have l6 := cell_regrown b6
      have l7 := cell_regrown b7
      have l8 := cell_regrown b8
      have cE := fun i => eqb3_regrown (g i 0) (g i 1) (g i 2) wr
      have h3 : k = 0 ∨ k = 1 ∨ k = 2 := by omega
      rcases h3 with rfl | rfl | rfl
      · have c1 := cE 0
        clear cE k3 k4 k5 k6 k7 k8 l3 l4 l5 l6 l7 l8
        go_wp2_with fail
        refine wp_region_quiet_below (by kernel_rfl) (by kernel_rfl) ?_
        repeat (quiet_step (first | with_reducible exact c1 _ _))
        refine wpQuiet_nil ?_
        intro _ hw'
        obtain ⟨⟨dq, osq⟩, hw''⟩ := hw'
        subst hw''
        have hb2 := hb.trans ((below_regrown wr dq osq).mono hb.size)
        generalize grow (redrawn wr dq) osq = V at *
        clear k0 k1 k2 l0 l1 l2 c1
        go_wp2_with fail
        go_roundw
        case rel => exact ⟨1, by omega, by go_num, hb2⟩
        case measure => simp [intOf]
      · have c1 := cE 1
        clear cE k0 k1 k2 k6 k7 k8 l0 l1 l2 l6 l7 l8
        go_wp2_with fail
        refine wp_region_quiet_below (by kernel_rfl) (by kernel_rfl) ?_
        repeat (quiet_step (first | with_reducible exact c1 _ _))
        refine wpQuiet_nil ?_
        intro _ hw'
        obtain ⟨⟨dq, osq⟩, hw''⟩ := hw'
        subst hw''
        have hb2 := hb.trans ((below_regrown wr dq osq).mono hb.size)
        generalize grow (redrawn wr dq) osq = V at *
        clear k3 k4 k5 l3 l4 l5 c1
        go_wp2_with fail
        go_roundw
        case rel => exact ⟨2, by omega, by go_num, hb2⟩
        case measure => simp [intOf]
      · have c1 := cE 2
        clear cE k3 k4 k5 k0 k1 k2 l3 l4 l5 l0 l1 l2
        go_wp2_with fail
        refine wp_region_quiet_below (by kernel_rfl) (by kernel_rfl) ?_
        repeat (quiet_step (first | with_reducible exact c1 _ _))
        refine wpQuiet_nil ?_
        intro _ hw'
        obtain ⟨⟨dq, osq⟩, hw''⟩ := hw'
        subst hw''
        have hb2 := hb.trans ((below_regrown wr dq osq).mono hb.size)
        generalize grow (redrawn wr dq) osq = V at *
        clear k6 k7 k8 l6 l7 l8 c1
        go_wp2_with fail
        go_roundw
        case rel => exact ⟨3, by omega, by go_num, hb2⟩
        case measure => simp [intOf]
    · obtain rfl : k = 3 := by omega
      go_wp2_with fail
      go_ret
      exact ⟨rfl, hbW.trans (hb.mono hbW.size)⟩
end Go.Proofs.YtllklhakbanhaaaGreat
namespace Go.Proofs.YtllklhakbanhaaaGreat
open Go.RowKit Go.Sort EchM

theorem eqmat_r (g : Nat → Nat → Int) (W : World) : ∀ dd os, Calls Tryz.prog 87 #[(.agg #[.int .u8 (g 0 0), .int .u8 (g 0 1), .int .u8 (g 0 2), .int .u8 (g 1 0), .int .u8 (g 1 1), .int .u8 (g 1 2), .int .u8 (g 2 0), .int .u8 (g 2 1), .int .u8 (g 2 2)]), (.agg #[.int .u8 (g 0 0), .int .u8 (g 0 1), .int .u8 (g 0 2), .int .u8 (g 1 0), .int .u8 (g 1 1), .int .u8 (g 1 2), .int .u8 (g 2 0), .int .u8 (g 2 1), .int .u8 (g 2 2)])] (grow (redrawn W dd) os) fun e w'' => e = .returned (.bool true) ∧ ∃ q : Regrown, w'' = grow (redrawn W q.d) q.os := fun _ _ => Calls.regrown_of (eqmat g _)

set_option maxRecDepth 8000 in
set_option maxHeartbeats 4000000 in
theorem eqmats (v v' : Value) (L : List (Nat → Nat → Int)) (w : World) (hl : L.length ≤ 1048576) (hS : SlM w v L) (hS' : SlM w v' L) :
    Calls Tryz.prog 54 #[v, v'] w fun e w' => e = .returned (.bool true) ∧ Below w.heap.size w w' := by
  have hnn : ((L.length : Int) != (L.length : Int)) = false := by simp
  obtain ⟨a, cap, rfl, hSc⟩ := id hS
  obtain ⟨a', cap', rfl, hSc'⟩ := id hS'
  go_enter Tryz.func54, Tryz.ntmps54
  go_wp2_with fail
  go_loopw [5] (fun i wr => ∃ k : Nat, k ≤ L.length ∧ i = .int .i64 k ∧ Below w.heap.size w wr) (fun i _ => L.length - (intOf i).toNat)
  case atStart => exact ⟨0, by omega, rfl, Below.refl _ _⟩
  case round =>
    obtain ⟨k, hk, rfl, hbel⟩ := hrel
    by_cases hlt : k < L.length
    · have hlt' : (k : Int) < (L.length : Int) := by omega
      obtain ⟨b, off, rfl, hbb, hT⟩ : ∃ b off, a = some ⟨b, off, none⟩ ∧ b < w.heap.size ∧ MatsW w b off L := by
        rcases hSc with rfl | h
        · simp at hlt
        · exact h
      obtain ⟨b', off', rfl, hbb', hT'⟩ : ∃ b off, a' = some ⟨b, off, none⟩ ∧ b < w.heap.size ∧ MatsW w b off L := by
        rcases hSc' with rfl | h
        · simp at hlt
        · exact h
      obtain ⟨⟨a0, a1, a2⟩, ⟨a3, a4, a5⟩, a6, a7, a8⟩ := (hT.below hbel hbb).nine hlt
      obtain ⟨⟨b0, b1, b2⟩, ⟨b3, b4, b5⟩, b6, b7, b8⟩ := (hT'.below hbel hbb').nine hlt
      generalize L[k] = x at *
      have e0 := cell_regrown a0
      have e1 := cell_regrown a1
      have e2 := cell_regrown a2
      have e3 := cell_regrown a3
      have e4 := cell_regrown a4
      have e5 := cell_regrown a5
      have e6 := cell_regrown a6
      have e7 := cell_regrown a7
      have e8 := cell_regrown a8
      have f0 := cell_regrown b0
      have f1 := cell_regrown b1
      have f2 := cell_regrown b2
      have f3 := cell_regrown b3
      have f4 := cell_regrown b4
      have f5 := cell_regrown b5
      have f6 := cell_regrown b6
      have f7 := cell_regrown b7
      have f8 := cell_regrown b8
      clear a0 a1 a2 a3 a4 a5 a6 a7 a8 b0 b1 b2 b3 b4 b5 b6 b7 b8
      have kE := eqmat_r x wr
      go_wp2_with fail
      refine wp_region_quiet_below (by kernel_rfl) (by kernel_rfl) ?_
      repeat (go_big_quiet_step (with_reducible exact kE _ _))
      refine wpQuiet_nil ?_
      intro _ hw'
      obtain ⟨⟨dq, osq⟩, hw''⟩ := hw'
      subst hw''
      have hb2 := hbel.trans ((below_regrown wr dq osq).mono hbel.size)
      generalize grow (redrawn wr dq) osq = V at *
      clear e0 e1 e2 e3 e4 e5 e6 e7 e8 f0 f1 f2 f3 f4 f5 f6 f7 f8 kE
      go_wp2_with fail
      go_roundw
      case rel => exact ⟨k + 1, by omega, by go_num, hb2⟩
      case measure => simp [intOf]; omega
    · obtain rfl : k = L.length := by omega
      go_wp2_with fail
      go_ret
      exact ⟨rfl, hbel⟩

theorem szmats_ok (a : Option Addr) (l cap : Nat) (w : World) (hl : l ≤ 1048576) :
    Calls Tryz.prog 45 #[.slice a l cap, .int .i64 1048576] w fun e w' => e = .returned (.int .i64 (1048576 - (l : Int))) ∧ w = w' := by
  have h1 : IntKind.i64.wrap (1048576 - (l : Int)) = 1048576 - (l : Int) := IntWalk.i64_in _ (by omega)
  have h2 : ¬ (1048576 - (l : Int)) < 0 := by omega
  go_enter Tryz.func45, Tryz.ntmps45
  go_wp2_with fail
  go_ret
  exact ⟨rfl, rfl⟩
theorem szmats_no (a : Option Addr) (l cap : Nat) (w : World) (hl : 1048576 < l) (hl2 : l ≤ 9223372036854775807) :
    Calls Tryz.prog 45 #[.slice a l cap, .int .i64 1048576] w fun e w' => e = .returned (.int .i64 (-1)) ∧ w = w' := by
  have h1 : IntKind.i64.wrap (1048576 - (l : Int)) = 1048576 - (l : Int) := IntWalk.i64_in _ (by omega)
  have h2 : (1048576 - (l : Int)) < 0 := by omega
  have h3 : (1048576 : Int) < (l : Int) := by omega
  go_enter Tryz.func45, Tryz.ntmps45
  go_wp2_with fail
  go_ret
  exact ⟨rfl, rfl⟩
theorem szgrp_ok (p n : Int) (a : Option Addr) (l cap : Nat) (w : World) (hl : l ≤ 1048576) :
    Calls Tryz.prog 12 #[.agg #[.int .i64 p, .int .i64 n, .slice a l cap], .int .i64 1048576] w fun e w' => e = .returned (.int .i64 (1048576 - (l : Int))) ∧ Below w.heap.size w w' := by
  obtain ⟨W, hW, rW, hbW⟩ : ∃ W, W = w.alloc (.cells #[.int .i64 p, .int .i64 n, .slice a l cap] 24) ∧ W.rowIs w.heap.size 24 3 (grpF p n (.slice a l cap)) ∧ Below w.heap.size w W := ⟨_, rfl, gbox w p n _ _, ebox1 _ _⟩
  obtain ⟨g0, g1, g2⟩ := gcells rW
  have h2 : ¬ (1048576 - (l : Int)) < 0 := by omega
  go_enter Tryz.func12, Tryz.ntmps12
  go_wp2_with fail
  rw [← hW]
  clear hW
  go_wp2_with fail
  ((with_reducible refine (szmats_ok a l cap _ hl).mono ?_); rintro e w1 ⟨rfl, rfl⟩)
  go_wp2_with fail
  go_ret
  exact ⟨rfl, hbW⟩
theorem szgrp_no (p n : Int) (a : Option Addr) (l cap : Nat) (w : World) (hl : 1048576 < l) (hl2 : l ≤ 9223372036854775807) :
    Calls Tryz.prog 12 #[.agg #[.int .i64 p, .int .i64 n, .slice a l cap], .int .i64 1048576] w fun e w' => e = .returned (.int .i64 (-1)) ∧ Below w.heap.size w w' := by
  obtain ⟨W, hW, rW, hbW⟩ : ∃ W, W = w.alloc (.cells #[.int .i64 p, .int .i64 n, .slice a l cap] 24) ∧ W.rowIs w.heap.size 24 3 (grpF p n (.slice a l cap)) ∧ Below w.heap.size w W := ⟨_, rfl, gbox w p n _ _, ebox1 _ _⟩
  obtain ⟨g0, g1, g2⟩ := gcells rW
  go_enter Tryz.func12, Tryz.ntmps12
  go_wp2_with fail
  rw [← hW]
  clear hW
  go_wp2_with fail
  ((with_reducible refine (szmats_no a l cap _ hl hl2).mono ?_); rintro e w1 ⟨rfl, rfl⟩)
  go_wp2_with fail
  go_ret
  exact ⟨rfl, hbW⟩
set_option maxHeartbeats 2000000 in
theorem eqgrp (p n : Int) (v v' : Value) (L : List (Nat → Nat → Int)) (w : World) (hl : L.length ≤ 1048576) (hS : SlM w v L) (hS' : SlM w v' L) :
    Calls Tryz.prog 19 #[.agg #[.int .i64 p, .int .i64 n, v], .agg #[.int .i64 p, .int .i64 n, v']] w fun e w' => e = .returned (.bool true) ∧ Below w.heap.size w w' := by
  obtain ⟨W, hW, r1, r2, hbW⟩ : ∃ W, W = (w.alloc (.cells #[.int .i64 p, .int .i64 n, v] 35)).alloc (.cells #[.int .i64 p, .int .i64 n, v'] 35) ∧ W.rowIs w.heap.size 35 3 (grpF p n v) ∧ W.rowIs (w.heap.size + 1) 35 3 (grpF p n v') ∧ Below w.heap.size w W := by
    refine ⟨_, rfl, (gbox w p n v _).alloc _, ?_, ebox2 _ _ _⟩
    have := gbox (w.alloc (.cells #[.int .i64 p, .int .i64 n, v] 35)) p n v' 35
    rwa [World.size_alloc] at this
  have hSW := hS.below hbW
  have hSW' := hS'.below hbW
  obtain ⟨a, cap, rfl, _⟩ := id hS
  obtain ⟨a', cap', rfl, _⟩ := id hS'
  obtain ⟨g0, g1, g2⟩ := gcells r1
  obtain ⟨k0, k1, k2⟩ := gcells r2
  have hp : (p != p) = false := by simp
  have hn : (n != n) = false := by simp
  go_enter Tryz.func19, Tryz.ntmps19
  go_upto_region 1 with fail
  rw [← hW]
  clear hW
  go_wp2_with fail
  ((with_reducible refine (eqmats _ _ L _ hl hSW hSW').mono ?_); rintro e w1 ⟨rfl, hb1⟩)
  go_wp2_with fail
  go_ret
  exact ⟨rfl, hbW.trans (hb1.mono hbW.size)⟩
end Go.Proofs.YtllklhakbanhaaaGreat
namespace Go.Proofs.YtllklhakbanhaaaGreat
open Go.RowKit Go.Sort EchM

theorem gold_cells {W w1 : World} (hb : Below W.heap.size W w1) : (∀ b o, b < W.heap.size → w1.cell? ⟨b, o, none⟩ = W.cell? ⟨b, o, none⟩) ∧ (∀ b o, b < W.heap.size → w1.frozen? ⟨b, o, none⟩ = W.frozen? ⟨b, o, none⟩) :=
  ⟨fun b o h => hb.cell (p := ⟨b, o, none⟩) h, fun b o h => hb.frozen (p := ⟨b, o, none⟩) h⟩
set_option maxRecDepth 8000 in
set_option maxHeartbeats 4000000 in
theorem togrp (p n : Int) (v : Value) (L : List (Nat → Nat → Int)) (w : World) (hl : L.length ≤ 1048576) (hS : SlM w v L) :
    Calls Tryz.prog 15 #[.agg #[.int .i64 p, .int .i64 n, v]] w fun e w' => ∃ v', e = .returned (.agg #[.int .i64 p, .int .i64 n, v']) ∧ OwnM w' w.heap.size v' L ∧ Below w.heap.size w w' := by
  have hb3 : ∀ o1 o2 o3, Below w.heap.size w (((w.alloc o1).alloc o2).alloc o3) := fun o1 o2 o3 => (ebox2 _ _ _).alloc (by simp; omega) _
  have hS3 : ∀ o1 o2 o3, SlM (((w.alloc o1).alloc o2).alloc o3) v L := fun o1 o2 o3 => hS.below (hb3 _ _ _)
  obtain ⟨a, cap, hv, _⟩ := id hS
  subst hv
  go_enter Tryz.func15, Tryz.ntmps15
  go_wp2_with fail
  ((with_reducible refine (tomats _ L _ hl (hS3 _ _ _)).mono ?_); rintro e w1 ⟨v', rfl, hown, hb⟩)
  obtain ⟨hc, hf⟩ := gold_cells hb
  have hz : w.heap.size + 1 + 1 < w1.heap.size := by have := hb.size; simp at this; omega
  have hb0 := (hb3 _ _ _).trans (hb.mono (by simp; omega))
  obtain ⟨g, f, rfl, hg, hr, ht⟩ := hown
  simp only [World.size_alloc] at hg
  have HT := Lib.hid ht
  clear hb hS3 hb3 ht
  go_wp2_with fail
  exact bodyPost_ret (v := .agg #[.int .i64 p, .int .i64 n, .slice (some ⟨g, 0, none⟩) L.length L.length]) (by simp [results, Tryz.results15, go_sem, hc]) rfl ⟨_, rfl, ⟨g, f, rfl, by omega, by repeat (first | with_reducible exact hr | with_reducible refine World.rowIs.setOther ?_ (by simp; omega) _), HT.out⟩, by repeat (first | with_reducible exact hb0 | with_reducible refine Below.setCell ?_ (by simp; try omega) _)⟩
end Go.Proofs.YtllklhakbanhaaaGreat
namespace Go.Proofs.YtllklhakbanhaaaGreat
open Go.RowKit Go.Sort EchM

theorem mrow_grown {w w' : World} {b n m base size : Nat} {t e : TypeId} {f : Nat → Value} {v : Value} {xs : List Value} (h : w.rowIs b t n f) (hg : w.grownBy w' v.ownBlock) (ho : w.ownsRow base e size v m xs) (hne : t ≠ e) : w'.rowIs b t n f := by
  refine h.of_block (hg.block b h.lt fun hb => ?_)
  obtain ⟨c, hc, _⟩ := h
  obtain ⟨_, ⟨rfl, _⟩ | ⟨g, cap, cur, rfl, _, hgc, _⟩⟩ := ho
  · simp [Value.ownBlock] at hb
  · simp [Value.ownBlock] at hb
    subst hb
    rw [hc] at hgc
    simp at hgc
    exact hne hgc.2


theorem mown_ne {w : World} {b n m base size : Nat} {t e : TypeId} {f : Nat → Value} {v : Value} {xs : List Value} (h : w.rowIs b t n f) (ho : w.ownsRow base e size v m xs) (hne : t ≠ e) : v.ownBlock = none ∨ v.ownBlock ≠ some b := by
  obtain ⟨c, hc, _⟩ := h
  obtain ⟨_, ⟨rfl, _⟩ | ⟨g, cap, cur, rfl, _, hgc, _⟩⟩ := ho
  · exact .inl rfl
  · refine .inr fun hb => ?_
    simp [Value.ownBlock] at hb
    subst hb
    rw [hc] at hgc
    simp at hgc
    exact hne hgc.2

theorem mown_slice {w : World} {base : Nat} {e : TypeId} {size : Nat} {v : Value} {n : Nat} {xs : List Value} (h : w.ownsRow base e size v n xs) : ∃ a c, v = .slice a n c := by
  obtain ⟨_, ⟨hv, hn⟩ | ⟨g, cap, cur, hv, _⟩⟩ := h
  · exact ⟨none, 0, by rw [hv, hn]⟩
  · exact ⟨_, _, hv⟩

theorem mown_set {w : World} {base : Nat} {e : TypeId} {size n : Nat} {v : Value} {xs : List Value} (h : w.ownsRow base e size v n xs) (b o : Nat) (x : Value) (hne : v.ownBlock ≠ some b) : (w.setCell ⟨b, o, none⟩ x).ownsRow base e size v n xs :=
  h.kept (row := some b) ⟨rfl, rfl, rfl, by rw [World.size_setCell]; exact Nat.le_refl _, fun k hk hk2 => Below.heap_setCell w ⟨b, o, none⟩ x k (fun e => hk2 (by rw [e]))⟩ (.inr hne)
/-- The cells of a list of matrices. -/
def cell9 (g : Nat → Nat → Int) : List Value := [.int .u8 (g 0 0), .int .u8 (g 0 1), .int .u8 (g 0 2), .int .u8 (g 1 0), .int .u8 (g 1 1), .int .u8 (g 1 2), .int .u8 (g 2 0), .int .u8 (g 2 1), .int .u8 (g 2 2)]
def cells9 (L : List (Nat → Nat → Int)) : List Value := L.flatMap cell9
theorem cells9_snoc (L : List (Nat → Nat → Int)) (g : Nat → Nat → Int) : cells9 (L ++ [g]) = cells9 L ++ cell9 g := by simp [cells9]
theorem cells9_len (L : List (Nat → Nat → Int)) : (cells9 L).length = L.length * 9 := by
  induction L with
  | nil => rfl
  | cons x r ih => simp [cells9, cell9] at ih ⊢; omega
theorem cell9_one (g : Nat → Nat → Int) : ∀ u ∈ cell9 g, u.oneCell' = true := by
  intro u hu
  simp only [cell9, List.mem_cons, List.not_mem_nil, or_false] at hu
  rcases hu with rfl | rfl | rfl | rfl | rfl | rfl | rfl | rfl | rfl <;> rfl
theorem cells9_one (L : List (Nat → Nat → Int)) : ∀ u ∈ cells9 L, u.oneCell' = true := by
  intro u hu
  simp only [cells9, List.mem_flatMap] at hu
  obtain ⟨g, _, hg⟩ := hu
  exact cell9_one g u hg
theorem cells9_at : ∀ (L : List (Nat → Nat → Int)) (k : Nat) (hk : k < L.length) (i j : Nat), i < 3 → j < 3 → (cells9 L)[k * 9 + (i * 3 + j)]? = some (.int .u8 (L[k] i j))
  | [], k, hk, _, _, _, _ => by simp at hk
  | x :: r, 0, _, i, j, hi, hj => by
    have e : cells9 (x :: r) = cell9 x ++ cells9 r := by simp [cells9]
    have hi' : i = 0 ∨ i = 1 ∨ i = 2 := by omega
    have hj' : j = 0 ∨ j = 1 ∨ j = 2 := by omega
    rw [e, List.getElem?_append_left (by simp [cell9]; omega)]
    rcases hi' with rfl | rfl | rfl <;> rcases hj' with rfl | rfl | rfl <;> rfl
  | x :: r, k + 1, hk, i, j, hi, hj => by
    have e : cells9 (x :: r) = cell9 x ++ cells9 r := by simp [cells9]
    rw [e, List.getElem?_append_right (by simp [cell9]; omega), show (k + 1) * 9 + (i * 3 + j) - (cell9 x).length = k * 9 + (i * 3 + j) by simp [cell9]; omega, cells9_at r k (by simpa using hk) i j hi hj]
    rfl
/-- A list of matrices of the call's own, which may grow. -/
def OwnG9 (w : World) (base : Nat) (v : Value) (L : List (Nat → Nat → Int)) : Prop := w.ownsRow base 98 9 v L.length (cells9 L)
theorem OwnG9.below {w w' : World} {base : Nat} {v : Value} {L : List (Nat → Nat → Int)} (h : OwnG9 w base v L) (hb : Below w.heap.size w w') : OwnG9 w' base v L := eowns_below h hb
theorem OwnG9.mono {w : World} {base base' : Nat} {v : Value} {L : List (Nat → Nat → Int)} (h : OwnG9 w base v L) (hb : base' ≤ base) : OwnG9 w base' v L := owns_mono h hb
theorem OwnG9.slice {w : World} {base : Nat} {v : Value} {L : List (Nat → Nat → Int)} (h : OwnG9 w base v L) : SlM w v L := by
  have h' := h
  obtain ⟨_, ⟨hv, hn⟩ | ⟨g, cap, cur, hv, _, hg, _⟩⟩ := h
  · have : L = [] := List.eq_nil_of_length_eq_zero hn
    subst this
    exact ⟨none, 0, hv, .inl rfl⟩
  · refine ⟨_, _, hv, .inr ⟨g, 0, rfl, (World.ownsRow.lt h' g (by rw [hv]; rfl)).2, fun k hk i j hi hj => ?_⟩⟩
    have := World.ownsRow.cells h' (g := g) (by rw [hv]; rfl) (k * 9 + (i * 3 + j)) _ (cells9_at L k hk i j hi hj)
    rwa [show (⟨g, 0, none⟩ : Addr).add (k * 9 + (i * 3 + j)) = ⟨g, 0 + k * 9 + (i * 3 + j), none⟩ by unfold Addr.add; split <;> simp_all] at this
theorem OwnG9.shape {w : World} {base : Nat} {v : Value} {L : List (Nat → Nat → Int)} (h : OwnG9 w base v L) : ∃ a c, v = .slice a L.length c := mown_slice h
theorem OwnG9.nil {w : World} {base : Nat} (hb : base ≤ w.heap.size) {t : TypeId} (ht : t = 98) : OwnG9 (w.alloc (.cells #[] t)) base (.slice (some ⟨w.heap.size, 0, none⟩) 0 0) [] := by
  subst ht
  have := World.ownsRow_made (base := base) (e := 98) (size := 9) w #[] 0 hb (by simp [maxLen]) rfl
  simpa [OwnG9, cells9] using this
theorem ownG9_none (w : World) (base : Nat) : OwnG9 w base (.slice none 0 0) [] := World.ownsRow_nil _ _ _ _
theorem grpF_set (p n : Int) (v v' : Value) : (fun j => if j = 2 then v' else grpF p n v j) = fun j => if j < 3 then grpF p n v' j else (if j = 2 then v' else grpF p n v j) := by
  funext j
  match j with
  | 0 => rfl
  | 1 => rfl
  | 2 => rfl
  | j + 3 => simp [grpF]; intro h; omega
/-- What stands in memory while a group's elements are chosen: its own three cells (block q), the rows of its terms, the argument's box, the result's (blocks a and r). -/
structure GPart (w wr : World) (base q a r : Nat) (p d : Int) (xv sv : Value) (O : List (Nat → Nat → Int)) : Prop where
  rows : wr.ownsRow base 98 9 sv O.length (cells9 O)
  out : wr.rowIs q 35 3 (grpF p d sv)
  arg : wr.rowIs a 35 3 (grpF p d xv)
  res : wr.rowIs r 35 3 (grpF 0 0 (.slice none 0 0))
  below : Below w.heap.size w wr
  b1 : w.heap.size ≤ base
  b2 : base ≤ wr.heap.size
  b3 : w.heap.size ≤ q
  b4 : w.heap.size ≤ r
  qa : a ≠ q
  qr : r ≠ q
theorem GPart.later {w wr w1 : World} {base q a r : Nat} {p d : Int} {xv sv : Value} {O : List (Nat → Nat → Int)} (h : GPart w wr base q a r p d xv sv O) (hb : Below wr.heap.size wr w1) : GPart w w1 base q a r p d xv sv O :=
  ⟨eowns_below h.rows hb, erow_below h.out hb h.out.lt, erow_below h.arg hb h.arg.lt, erow_below h.res hb h.res.lt, h.below.trans (hb.mono h.below.size), h.b1, Nat.le_trans h.b2 hb.size, h.b3, h.b4, h.qa, h.qr⟩
theorem GPart.more {w wr wx w2 : World} {base q a r : Nat} {p d : Int} {xv sv sv' : Value} {O : List (Nat → Nat → Int)} {t : Nat → Nat → Int} (h : GPart w wr base q a r p d xv sv O) (hb : Below wr.heap.size wr wx)
    (hg : wx.grownBy w2 sv.ownBlock) (ho : w2.ownsRow base 98 9 sv' (O.length + 1) (cells9 O ++ cell9 t)) : GPart w (w2.setCell ⟨q, 2, none⟩ sv') base q a r p d xv sv' (O ++ [t]) ∧ w2.rowIs q 35 3 (grpF p d sv) := by
  have h1 := h.later hb
  have hn1 : 35 ≠ 98 := by decide
  have r1 := mrow_grown h1.out hg h1.rows hn1
  have r2 := mrow_grown h1.arg hg h1.rows hn1
  have r4 := mrow_grown h1.res hg h1.rows hn1
  refine ⟨⟨?_, ?_, r2.setOther (by simpa using fun e => h.qa e) _, r4.setOther (by simpa using fun e => h.qr e) _, ?_, h.b1, ?_, h.b3, h.b4, h.qa, h.qr⟩, r1⟩
  · rw [cells9_snoc, show (O ++ [t]).length = O.length + 1 by simp]
    exact ho.kept (row := some q) ⟨rfl, rfl, rfl, by rw [World.size_setCell]; exact Nat.le_refl _, fun k hk hne => Below.heap_setCell w2 ⟨q, 2, none⟩ sv' k (fun e => hne (by rw [e]))⟩ (mown_ne r1 ho hn1)
  · refine (r1.set 2 sv').congr fun i hi => ?_
    rw [congrFun (grpF_set p d sv sv') i, if_pos hi]
  · have hb1 := h.b1
    have hb3 := h.b3
    exact (h1.below.grown hg (Nat.le_trans hb1 h1.b2) (fun k hk => Nat.le_trans hb1 (h1.rows.lt k hk).1)).setCell (by simpa using hb3) _
  · rw [World.size_setCell]; exact Nat.le_trans h1.b2 hg.size
theorem GPart.finish {w wr : World} {base q a r : Nat} {p d : Int} {xv sv : Value} {O : List (Nat → Nat → Int)} (h : GPart w wr base q a r p d xv sv O) (p' d' : Int) :
    (((wr.setCell ⟨r, 0, none⟩ (.int .i64 p')).setCell ⟨r, 1, none⟩ (.int .i64 d')).setCell ⟨r, 2, none⟩ sv).cell? ⟨r, 0, none⟩ = some (.int .i64 p') ∧
    (((wr.setCell ⟨r, 0, none⟩ (.int .i64 p')).setCell ⟨r, 1, none⟩ (.int .i64 d')).setCell ⟨r, 2, none⟩ sv).cell? ⟨r, 1, none⟩ = some (.int .i64 d') ∧
    (((wr.setCell ⟨r, 0, none⟩ (.int .i64 p')).setCell ⟨r, 1, none⟩ (.int .i64 d')).setCell ⟨r, 2, none⟩ sv).cell? ⟨r, 2, none⟩ = some sv ∧
    (((wr.setCell ⟨r, 0, none⟩ (.int .i64 p')).setCell ⟨r, 1, none⟩ (.int .i64 d')).setCell ⟨r, 2, none⟩ sv).ownsRow w.heap.size 98 9 sv O.length (cells9 O) ∧
    Below w.heap.size w (((wr.setCell ⟨r, 0, none⟩ (.int .i64 p')).setCell ⟨r, 1, none⟩ (.int .i64 d')).setCell ⟨r, 2, none⟩ sv) := by
  have R := ((h.res.set 0 (.int .i64 p')).set 1 (.int .i64 d')).set 2 sv
  have hb1 := h.b1
  have hb4 := h.b4
  refine ⟨R.cell (i := 0) (by omega), R.cell (i := 1) (by omega), R.cell (i := 2) (by omega), ?_, ((h.below.setCell (by simpa using hb4) _).setCell (by simpa using hb4) _).setCell (by simpa using hb4) _⟩
  refine owns_mono (h.rows.kept (row := some r) ⟨rfl, rfl, rfl, by simp only [World.size_setCell]; exact Nat.le_refl _, fun k hk hne => ?_⟩ (mown_ne h.res h.rows (by decide))) hb1
  have hk : k ≠ r := fun e => hne (by rw [e])
  exact (Below.heap_setCell _ ⟨r, 2, none⟩ sv k hk).trans ((Below.heap_setCell _ ⟨r, 1, none⟩ _ k hk).trans (Below.heap_setCell _ ⟨r, 0, none⟩ _ k hk))

end Go.Proofs.YtllklhakbanhaaaGreat
namespace Go.Proofs.YtllklhakbanhaaaGreat
open Go.RowKit Go.Sort EchM

set_option maxRecDepth 8000 in
set_option maxHeartbeats 4000000 in
theorem markmats (a : Option Addr) (l cap : Nat) (k : Int) (w : World) (hl : l ≤ 1048576) :
    Calls Tryz.prog 56 #[.slice a l cap, .int .i64 k] w fun e w' => e = .returned (.int .i64 k) ∧ w = w' := by
  go_enter Tryz.func56, Tryz.ntmps56
  go_wp2_with fail
  go_loop [5] (fun i => ∃ j : Nat, j ≤ l ∧ i = .int .i64 j) (fun i => l - (intOf i).toNat)
  case atStart => exact ⟨0, by omega, rfl⟩
  case round =>
    obtain ⟨j, hj, rfl⟩ := hrel
    by_cases hlt : j < l
    · have hlt' : (j : Int) < (l : Int) := by omega
      go_wp2
      go_round
      case rel => exact ⟨j + 1, by omega, by go_num⟩
      case measure => simp [intOf]; omega
    · obtain rfl : j = l := by omega
      go_wp2
      go_ret
      exact ⟨rfl, rfl⟩
theorem markgrp (p n : Int) (a : Option Addr) (l cap : Nat) (k : Int) (w : World) (hl : l ≤ 1048576) :
    Calls Tryz.prog 21 #[.agg #[.int .i64 p, .int .i64 n, .slice a l cap], .int .i64 k] w fun e w' => e = .returned (.int .i64 k) ∧ Below w.heap.size w w' := by
  obtain ⟨W, hW, rW, hbW⟩ : ∃ W, W = w.alloc (.cells #[.int .i64 p, .int .i64 n, .slice a l cap] 35) ∧ W.rowIs w.heap.size 35 3 (grpF p n (.slice a l cap)) ∧ Below w.heap.size w W := ⟨_, rfl, gbox w p n _ _, ebox1 _ _⟩
  obtain ⟨g0, g1, g2⟩ := gcells rW
  go_enter Tryz.func21, Tryz.ntmps21
  go_upto_region 1 with fail
  rw [← hW]
  clear hW
  go_wp2_with fail
  ((with_reducible refine (markmats a l cap k _ hl).mono ?_); rintro e w1 ⟨rfl, rfl⟩)
  go_wp2
  go_ret
  exact ⟨rfl, hbW⟩
end Go.Proofs.YtllklhakbanhaaaGreat
