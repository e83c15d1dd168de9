/-
  LISTS OF POLYNOMIALS: what a substitution asks of them, by the program. Conditions: as each theorem states.
  LISTS OF POLYNOMIALS: what a substitution asks of them, by the program. Conditions: as each theorem states.
  WALKS: 'impl.checkSubstitution'. Conditions: as the theorem states.
  SUBSTITUTIONS, the program: the outcome; what stays beside maps. Conditions: as each theorem states.
  WALKS: 'impl.SubstitutePoly'. Conditions: as the theorem states.
-/
import Derived.Test.YtbhgbifliihlbaaGreatQ10
import Derived.Deep.RegionWith
import Derived.Test.YtbhgbifliihlbaaGreatQ11
import Derived.Deep.DeepCutAuto
import Derived.Deep.RegionHeld3
namespace Go.Proofs.YtbhgbifliihlbaaGreat
open Go.RowKit Go.Sort

theorem inv_any (g : Pm) (v : Value) (w : World) (_hJ : True) (hok : PmOk g) (hS : SliceT w v g.2.2) :
    Calls Tryz.prog 107 #[.agg #[.int .i64 g.1, .int .i64 g.2.1, v]] w fun e w' => e = .returned (.bool (!isPm g)) ∧ Below w.heap.size w w' := by
  obtain ⟨p, d, ts⟩ := g
  obtain ⟨hby, hl⟩ := hok
  simp only at hby hl hS ⊢
  obtain ⟨a, cap, rfl, _⟩ := id hS
  obtain ⟨V, hV1, hbV, _, rq⟩ := newbox w p d (.slice a ts.length cap)
  obtain ⟨⟨c0, c1, c2⟩, _⟩ := poly3 rq
  have HC := Lib.hid (isPoly_any p d _ ts V hl (hS.below hbV) hby)
  obtain ⟨B, hB⟩ : ∃ B, isPolyB p d ts = B := ⟨_, rfl⟩
  have HB : Hid (isPm (p, d, ts) = B) := Lib.hid hB
  rw [hB] at HC
  clear hby hS hB
  go_enter Tryz.func107, Tryz.ntmps107
  go_wp2_with fail
  rw [← hV1]
  clear hV1
  ((with_reducible refine HC.out.mono ?_); rintro e w1 ⟨rfl, hb1⟩)
  have hend := hbV.trans (hb1.mono hbV.size)
  go_wp2
  go_ret
  exact ⟨by rw [HB.out]; rfl, hend⟩

set_option maxHeartbeats 1000000 in
theorem ividx_some (b off cap : Nat) (G : List Pm) (w : World) (hJ : True) (hbb : b < w.heap.size) (hl : G.length ≤ 1048576) (hok : ∀ g ∈ G, PmOk g) (hT : PolysW w b off G) (j : Nat) (hj : j < G.length) (hn : isPm G[j] = false) (hp : ∀ (i : Nat) (h : i < G.length), i < j → isPm G[i] = true) :
    Calls Tryz.prog 125 #[.slice (some ⟨b, off, none⟩) G.length cap, .func (.func 107) #[] #[]] w fun e w' => e = .returned (.int .i64 j) ∧ Below w.heap.size w w' := by
  have HN := Lib.hid hn
  have HP := Lib.hid hp
  have HOK := Lib.hid hok
  have HT := Lib.hid hT
  have HJ := Lib.hid (fun (w' : World) (hb : Below w.heap.size w w') => (by exact hJ : True))
  clear hn hp hok hT hJ
  go_enter Tryz.func125, Tryz.ntmps125
  go_wp2
  go_loopw [8] (fun i wr => ∃ k : Nat, k ≤ j ∧ i = .int .i64 k ∧ Below w.heap.size w wr) (fun i _ => G.length - (intOf i).toNat)
  case atStart => exact ⟨0, by omega, rfl, Below.refl _ _⟩
  case round =>
    obtain ⟨k, hk, rfl, hbr⟩ := hrel
    have hlt : k < G.length := by omega
    have hlt' : (k : Int) < (G.length : Int) := by omega
    obtain ⟨u, c0, c1, c2, s0⟩ := (HT.out.below hbr hbb) k hlt
    have HC := Lib.hid (inv_any  G[k] u wr (HJ.out wr hbr) (HOK.out _ (List.getElem_mem hlt)) s0)
    clear s0
    by_cases e : k = j
    · subst e
      go_wp2_with fail
      ((with_reducible refine HC.out.mono ?_); rintro e w1 ⟨rfl, hb1⟩)
      have hend := hbr.trans (hb1.mono hbr.size)
      rw [HN.out]
      go_wp2
      go_ret
      exact ⟨rfl, hend⟩
    · have h0 := Lib.hid (HP.out k hlt (by omega))
      go_wp2_with fail
      ((with_reducible refine HC.out.mono ?_); rintro e w1 ⟨rfl, hb1⟩)
      have hend := hbr.trans (hb1.mono hbr.size)
      rw [h0.out]
      go_wp2
      go_roundw
      case rel => exact ⟨k + 1, by omega, by go_num, hend⟩
      case measure => simp [intOf]; omega

set_option maxHeartbeats 1000000 in
theorem ividx_none (a : Option Addr) (cap : Nat) (G : List Pm) (w : World) (hJ : True) (hl : G.length ≤ 1048576) (hok : ∀ g ∈ G, PmOk g) (hS : G = [] ∨ ∃ b off, a = some ⟨b, off, none⟩ ∧ b < w.heap.size ∧ PolysW w b off G) (hp : ∀ (i : Nat) (h : i < G.length), isPm G[i] = true) :
    Calls Tryz.prog 125 #[.slice a G.length cap, .func (.func 107) #[] #[]] w fun e w' => e = .returned (.int .i64 (-1)) ∧ Below w.heap.size w w' := by
  have HP := Lib.hid hp
  have HOK := Lib.hid hok
  have HJ := Lib.hid (fun (w' : World) (hb : Below w.heap.size w w') => (by exact hJ : True))
  clear hp hok hJ
  go_enter Tryz.func125, Tryz.ntmps125
  go_wp2
  go_loopw [8] (fun i wr => ∃ k : Nat, k ≤ G.length ∧ i = .int .i64 k ∧ Below w.heap.size w wr) (fun i _ => G.length - (intOf i).toNat)
  case atStart => exact ⟨0, by omega, rfl, Below.refl _ _⟩
  case round =>
    obtain ⟨k, hk, rfl, hbr⟩ := hrel
    by_cases hlt : k < G.length
    · have hlt' : (k : Int) < (G.length : Int) := by omega
      obtain ⟨b, off, rfl, hbb, hT⟩ : ∃ b off, a = some ⟨b, off, none⟩ ∧ b < w.heap.size ∧ PolysW w b off G := by
        rcases hS with rfl | h
        · simp at hlt
        · exact h
      obtain ⟨u, c0, c1, c2, s0⟩ := (hT.below hbr hbb) k hlt
      have HC := Lib.hid (inv_any  G[k] u wr (HJ.out wr hbr) (HOK.out _ (List.getElem_mem hlt)) s0)
      have h0 := Lib.hid (HP.out k hlt)
      clear s0 hT
      go_wp2_with fail
      ((with_reducible refine HC.out.mono ?_); rintro e w1 ⟨rfl, hb1⟩)
      have hend := hbr.trans (hb1.mono hbr.size)
      rw [h0.out]
      go_wp2
      go_roundw
      case rel => exact ⟨k + 1, by omega, by go_num, hend⟩
      case measure => simp [intOf]; omega
    · obtain rfl : k = G.length := by omega
      go_wp2
      go_ret
      exact ⟨rfl, hbr⟩

theorem ivcontains (v : Value) (G : List Pm) (w : World) (hJ : True) (hl : G.length ≤ 1048576) (hok : ∀ g ∈ G, PmOk g) (hS : SlP w v G) :
    Calls Tryz.prog 108 #[v, .func (.func 107) #[] #[]] w fun e w' => e = .returned (.bool (!G.all isPm)) ∧ Below w.heap.size w w' := by
  obtain ⟨a, cap, rfl, hc⟩ := hS
  cases h : G.all isPm
  · obtain ⟨j, hj, hn, hp⟩ := first_outP isPm G h
    obtain ⟨b, off, rfl, hbb, hT⟩ : ∃ b off, a = some ⟨b, off, none⟩ ∧ b < w.heap.size ∧ PolysW w b off G := by
      rcases hc with rfl | h
      · simp at hj
      · exact h
    have HC := Lib.hid (ividx_some  b off cap G w hJ hbb hl hok hT j hj hn hp)
    clear h hc hn hp hok hT hJ
    go_enter Tryz.func108, Tryz.ntmps108
    go_wp2_with fail
    ((with_reducible refine HC.out.mono ?_); rintro e w1 ⟨rfl, hb1⟩)
    go_wp2
    go_ret
    exact ⟨rfl, hb1⟩
  · have hp : ∀ (i : Nat) (hi : i < G.length), isPm G[i] = true := fun i hi => List.all_eq_true.1 h _ (List.getElem_mem hi)
    have HC := Lib.hid (ividx_none  a cap G w hJ hl hok hc hp)
    clear h hp hok hc hJ
    go_enter Tryz.func108, Tryz.ntmps108
    go_wp2_with fail
    ((with_reducible refine HC.out.mono ?_); rintro e w1 ⟨rfl, hb1⟩)
    go_wp2
    go_ret
    exact ⟨rfl, hb1⟩
end Go.Proofs.YtbhgbifliihlbaaGreat
namespace Go.Proofs.YtbhgbifliihlbaaGreat
open Go.RowKit Go.Sort

/-- The boxes of what is captured: the polynomial, the list. -/
structure Capt (w : World) (bx bl : Nat) (p d : Int) (xv lv : Value) (G : List Pm) : Prop where
  x : w.rowIs bx 39 3 (polyF p d xv)
  l : w.cell? ⟨bl, 0, none⟩ = some lv
  ltl : bl < w.heap.size
  s : SlP w lv G
  n : 0 < G.length
theorem Capt.below {w w' : World} {bx bl : Nat} {p d : Int} {xv lv : Value} {G : List Pm} (h : Capt w bx bl p d xv lv G) (hb : Below w.heap.size w w') : Capt w' bx bl p d xv lv G :=
  ⟨rowIs_below h.x hb h.x.lt, (hb.cell (p := ⟨bl, 0, none⟩) h.ltl).trans h.l, Nat.lt_of_lt_of_le h.ltl hb.size, h.s.below hb, h.n⟩
set_option maxHeartbeats 4000000 in
theorem unl_any (bx bl : Nat) (p d : Int) (xv lv : Value) (G : List Pm) (g : Pm) (v : Value) (w : World) (hJ : Capt w bx bl p d xv lv G) (hok : PmOk g) (hS : SliceT w v g.2.2) :
    Calls Tryz.prog 109 #[.agg #[.int .i64 g.1, .int .i64 g.2.1, v], .pointer (some ⟨bx, 0, none⟩), .pointer (some ⟨bl, 0, none⟩)] w fun e w' => e = .returned (.bool (!likeT p (hdP G) g)) ∧ Below w.heap.size w w' := by
  obtain ⟨p2, d2, ts⟩ := g
  obtain ⟨hby, hl⟩ := hok
  simp only at hby hl hS ⊢
  obtain ⟨a, cap, rfl, _⟩ := id hS
  obtain ⟨V, hV1, hbV, _, rq⟩ := newbox w p2 d2 (.slice a ts.length cap)
  have hJV := hJ.below hbV
  obtain ⟨la, lc, rfl, hc⟩ := hJV.s
  have hn := hJ.n
  have hn' : (0 : Int) < (G.length : Int) := by omega
  obtain ⟨b, off, rfl, hbb, hT⟩ : ∃ b off, la = some ⟨b, off, none⟩ ∧ b < V.heap.size ∧ PolysW V b off G := by
    rcases hc with h | h
    · rw [h] at hn; simp at hn
    · exact h
  obtain ⟨u, g0, g1, g2, hu⟩ := hT 0 hn
  obtain ⟨ua, uc, rfl, _⟩ := id hu
  rw [hdP_at hn]
  obtain ⟨q, hq⟩ : ∃ q, G[0].1 = q := ⟨_, rfl⟩
  obtain ⟨e, he⟩ : ∃ e, G[0].2.1 = e := ⟨_, rfl⟩
  obtain ⟨n0, hn0⟩ : ∃ n0, G[0].2.2.length = n0 := ⟨_, rfl⟩
  have HX : Hid (likeT p G[0] (p2, d2, ts) = (decide (p2 = p) && (decide (p2 = q) && decide (d2 = e)))) := Lib.hid (by unfold likeT; rw [hq, he])
  rw [hq, Nat.zero_mul, Nat.add_zero] at g0
  rw [he, Nat.zero_mul, Nat.add_zero] at g1
  rw [hn0, Nat.zero_mul, Nat.add_zero] at g2
  obtain ⟨⟨c0, c1, c2⟩, _⟩ := poly3 rq
  obtain ⟨⟨x0, _, _⟩, _⟩ := poly3 hJV.x
  have l0 := hJV.l
  have k0 := cell_regrown c0
  have k1 := cell_regrown c1
  have k2 := cell_regrown c2
  have k3 := cell_regrown x0
  have k4 := cell_regrown l0
  have k5 := cell_regrown g0
  have k6 := cell_regrown g1
  have k7 := cell_regrown g2
  obtain ⟨B, hB⟩ : ∃ B, (decide (p2 = q) && decide (d2 = e)) = B := ⟨_, rfl⟩
  have kA : ∀ dd os, Calls Tryz.prog 110 #[.agg #[.int .i64 p2, .int .i64 d2, .slice a ts.length cap], .agg #[.int .i64 q, .int .i64 e, .slice ua n0 uc]] (grow (redrawn V dd) os) fun e w'' => e = .returned (.bool B) ∧ ∃ p : Regrown, w'' = grow (redrawn V p.d) p.os := fun dd os =>
    Calls.regrown_of (alike_is p2 d2 q e _ _ _ B hB)
  have HB := Lib.hid hB
  clear g0 g1 g2 c0 c1 c2 x0 l0 hu hT hc hJV hJ hby hq he hn0 hS rq hB
  by_cases hp : p2 = p
  · subst hp
    have hpp : (p2 != p2) = false := by simp
    go_enter Tryz.func109, Tryz.ntmps109
    go_wp2_with fail
    rw [← hV1]
    clear hV1
    refine wp_region_quiet_below (by kernel_rfl) (by kernel_rfl) ?_
    repeat (go_big_quiet_step (with_reducible exact kA _ _))
    refine wpQuiet_nil ?_
    intro _ hw'
    obtain ⟨⟨dq, osq⟩, hw''⟩ := hw'
    subst hw''
    have hend := hbV.trans ((below_regrown V dq osq).mono hbV.size)
    generalize grow (redrawn V dq) osq = w2 at *
    clear k0 k1 k2 k3 k4 k5 k6 k7 kA
    go_wp2_with fail
    go_ret
    exact ⟨by rw [HX.out, HB.out]; simp, hend⟩
  · have hpp : (p2 != p) = true := by simpa using hp
    have HX2 : Hid (likeT p G[0] (p2, d2, ts) = false) := Lib.hid (by rw [HX.out]; simp [hp])
    clear hp
    go_enter Tryz.func109, Tryz.ntmps109
    go_wp2_with fail
    rw [← hV1]
    clear hV1
    refine wp_region_quiet_below (by kernel_rfl) (by kernel_rfl) ?_
    repeat (go_big_quiet_step (with_reducible exact kA _ _))
    refine wpQuiet_nil ?_
    intro _ hw'
    obtain ⟨⟨dq, osq⟩, hw''⟩ := hw'
    subst hw''
    have hend := hbV.trans ((below_regrown V dq osq).mono hbV.size)
    generalize grow (redrawn V dq) osq = w2 at *
    clear k0 k1 k2 k3 k4 k5 k6 k7 kA
    go_wp2_with fail
    go_ret
    exact ⟨by rw [HX2.out]; rfl, hend⟩

set_option maxHeartbeats 1000000 in
theorem ulidx_some (bx bl : Nat) (p d : Int) (xv lv : Value) (G0 : List Pm) (b off cap : Nat) (G : List Pm) (w : World) (hJ : Capt w bx bl p d xv lv G0) (hbb : b < w.heap.size) (hl : G.length ≤ 1048576) (hok : ∀ g ∈ G, PmOk g) (hT : PolysW w b off G) (j : Nat) (hj : j < G.length) (hn : (likeT p (hdP G0)) G[j] = false) (hp : ∀ (i : Nat) (h : i < G.length), i < j → (likeT p (hdP G0)) G[i] = true) :
    Calls Tryz.prog 125 #[.slice (some ⟨b, off, none⟩) G.length cap, .func (.func 109) #[] #[.pointer (some ⟨bx, 0, none⟩), .pointer (some ⟨bl, 0, none⟩)]] w fun e w' => e = .returned (.int .i64 j) ∧ Below w.heap.size w w' := by
  have HN := Lib.hid hn
  have HP := Lib.hid hp
  have HOK := Lib.hid hok
  have HT := Lib.hid hT
  have HJ := Lib.hid (fun (w' : World) (hb : Below w.heap.size w w') => (by exact hJ.below hb : Capt w' bx bl p d xv lv G0))
  clear hn hp hok hT hJ
  go_enter Tryz.func125, Tryz.ntmps125
  go_wp2
  go_loopw [8] (fun i wr => ∃ k : Nat, k ≤ j ∧ i = .int .i64 k ∧ Below w.heap.size w wr) (fun i _ => G.length - (intOf i).toNat)
  case atStart => exact ⟨0, by omega, rfl, Below.refl _ _⟩
  case round =>
    obtain ⟨k, hk, rfl, hbr⟩ := hrel
    have hlt : k < G.length := by omega
    have hlt' : (k : Int) < (G.length : Int) := by omega
    obtain ⟨u, c0, c1, c2, s0⟩ := (HT.out.below hbr hbb) k hlt
    have HC := Lib.hid (unl_any bx bl p d xv lv G0 G[k] u wr (HJ.out wr hbr) (HOK.out _ (List.getElem_mem hlt)) s0)
    clear s0
    by_cases e : k = j
    · subst e
      go_wp2_with fail
      ((with_reducible refine HC.out.mono ?_); rintro e w1 ⟨rfl, hb1⟩)
      have hend := hbr.trans (hb1.mono hbr.size)
      rw [HN.out]
      go_wp2
      go_ret
      exact ⟨rfl, hend⟩
    · have h0 := Lib.hid (HP.out k hlt (by omega))
      go_wp2_with fail
      ((with_reducible refine HC.out.mono ?_); rintro e w1 ⟨rfl, hb1⟩)
      have hend := hbr.trans (hb1.mono hbr.size)
      rw [h0.out]
      go_wp2
      go_roundw
      case rel => exact ⟨k + 1, by omega, by go_num, hend⟩
      case measure => simp [intOf]; omega

set_option maxHeartbeats 1000000 in
theorem ulidx_none (bx bl : Nat) (p d : Int) (xv lv : Value) (G0 : List Pm) (a : Option Addr) (cap : Nat) (G : List Pm) (w : World) (hJ : Capt w bx bl p d xv lv G0) (hl : G.length ≤ 1048576) (hok : ∀ g ∈ G, PmOk g) (hS : G = [] ∨ ∃ b off, a = some ⟨b, off, none⟩ ∧ b < w.heap.size ∧ PolysW w b off G) (hp : ∀ (i : Nat) (h : i < G.length), (likeT p (hdP G0)) G[i] = true) :
    Calls Tryz.prog 125 #[.slice a G.length cap, .func (.func 109) #[] #[.pointer (some ⟨bx, 0, none⟩), .pointer (some ⟨bl, 0, none⟩)]] w fun e w' => e = .returned (.int .i64 (-1)) ∧ Below w.heap.size w w' := by
  have HP := Lib.hid hp
  have HOK := Lib.hid hok
  have HJ := Lib.hid (fun (w' : World) (hb : Below w.heap.size w w') => (by exact hJ.below hb : Capt w' bx bl p d xv lv G0))
  clear hp hok hJ
  go_enter Tryz.func125, Tryz.ntmps125
  go_wp2
  go_loopw [8] (fun i wr => ∃ k : Nat, k ≤ G.length ∧ i = .int .i64 k ∧ Below w.heap.size w wr) (fun i _ => G.length - (intOf i).toNat)
  case atStart => exact ⟨0, by omega, rfl, Below.refl _ _⟩
  case round =>
    obtain ⟨k, hk, rfl, hbr⟩ := hrel
    by_cases hlt : k < G.length
    · have hlt' : (k : Int) < (G.length : Int) := by omega
      obtain ⟨b, off, rfl, hbb, hT⟩ : ∃ b off, a = some ⟨b, off, none⟩ ∧ b < w.heap.size ∧ PolysW w b off G := by
        rcases hS with rfl | h
        · simp at hlt
        · exact h
      obtain ⟨u, c0, c1, c2, s0⟩ := (hT.below hbr hbb) k hlt
      have HC := Lib.hid (unl_any bx bl p d xv lv G0 G[k] u wr (HJ.out wr hbr) (HOK.out _ (List.getElem_mem hlt)) s0)
      have h0 := Lib.hid (HP.out k hlt)
      clear s0 hT
      go_wp2_with fail
      ((with_reducible refine HC.out.mono ?_); rintro e w1 ⟨rfl, hb1⟩)
      have hend := hbr.trans (hb1.mono hbr.size)
      rw [h0.out]
      go_wp2
      go_roundw
      case rel => exact ⟨k + 1, by omega, by go_num, hend⟩
      case measure => simp [intOf]; omega
    · obtain rfl : k = G.length := by omega
      go_wp2
      go_ret
      exact ⟨rfl, hbr⟩

theorem ulcontains (bx bl : Nat) (p d : Int) (xv lv : Value) (G0 : List Pm) (v : Value) (G : List Pm) (w : World) (hJ : Capt w bx bl p d xv lv G0) (hl : G.length ≤ 1048576) (hok : ∀ g ∈ G, PmOk g) (hS : SlP w v G) :
    Calls Tryz.prog 108 #[v, .func (.func 109) #[] #[.pointer (some ⟨bx, 0, none⟩), .pointer (some ⟨bl, 0, none⟩)]] w fun e w' => e = .returned (.bool (!G.all (likeT p (hdP G0)))) ∧ Below w.heap.size w w' := by
  obtain ⟨a, cap, rfl, hc⟩ := hS
  cases h : G.all (likeT p (hdP G0))
  · obtain ⟨j, hj, hn, hp⟩ := first_outP (likeT p (hdP G0)) G h
    obtain ⟨b, off, rfl, hbb, hT⟩ : ∃ b off, a = some ⟨b, off, none⟩ ∧ b < w.heap.size ∧ PolysW w b off G := by
      rcases hc with rfl | h
      · simp at hj
      · exact h
    have HC := Lib.hid (ulidx_some bx bl p d xv lv G0 b off cap G w hJ hbb hl hok hT j hj hn hp)
    clear h hc hn hp hok hT hJ
    go_enter Tryz.func108, Tryz.ntmps108
    go_wp2_with fail
    ((with_reducible refine HC.out.mono ?_); rintro e w1 ⟨rfl, hb1⟩)
    go_wp2
    go_ret
    exact ⟨rfl, hb1⟩
  · have hp : ∀ (i : Nat) (hi : i < G.length), (likeT p (hdP G0)) G[i] = true := fun i hi => List.all_eq_true.1 h _ (List.getElem_mem hi)
    have HC := Lib.hid (ulidx_none bx bl p d xv lv G0 a cap G w hJ hl hok hc hp)
    clear h hp hok hc hJ
    go_enter Tryz.func108, Tryz.ntmps108
    go_wp2_with fail
    ((with_reducible refine HC.out.mono ?_); rintro e w1 ⟨rfl, hb1⟩)
    go_wp2
    go_ret
    exact ⟨rfl, hb1⟩
end Go.Proofs.YtbhgbifliihlbaaGreat
namespace Go.Proofs.YtbhgbifliihlbaaGreat
open Go.RowKit Go.Sort Go.Maps

/-- A box of a polynomial and one of a list. -/
theorem boxPL (w : World) (p d : Int) (v lv : Value) : ∃ W, W = (w.alloc (.cells #[.int .i64 p, .int .i64 d, v] 39)).alloc (.cells #[lv] 51) ∧ Below w.heap.size w W ∧ (W.heap.size ≤ w.heap.size + 2 ∧ w.heap.size + 2 ≤ W.heap.size) ∧
      W.rowIs w.heap.size 39 3 (polyF p d v) ∧ W.cell? ⟨w.heap.size + 1, 0, none⟩ = some lv := by
  refine ⟨_, rfl, box2 _ _ _, ⟨by simp, by simp⟩, ?_, ?_⟩
  · refine World.rowIs.alloc (World.rowIs_alloc w #[Value.int .i64 p, .int .i64 d, v] _ _ (fun i hi => ?_)) _
    simp at hi; match i, hi with | 0, _ => rfl | 1, _ => rfl | 2, _ => rfl
  · have := (World.rowIs_alloc (w.alloc (.cells #[.int .i64 p, .int .i64 d, v] 39)) #[lv] 51 (fun _ => lv) (fun i hi => by simp at hi; subst hi; rfl)).cell (i := 0) (by simp)
    rwa [World.size_alloc] at this
theorem nthE_cell {w : World} {B : Nat} {x y z u : Int} (h : w.rowIs B 57 4 (tmF x y z u)) {k : Nat} (hk : k < 3) : w.cell? ⟨B, k, none⟩ = some (.int .u8 (nthE (x, y, z) k)) := by
  have := h.cell (i := k) (by omega)
  rw [this]
  match k, hk with
  | 0, _ => rfl
  | 1, _ => rfl
  | 2, _ => rfl

set_option maxRecDepth 8000 in
set_option maxHeartbeats 16000000 in
theorem csub (p d : Int) (v lv : Value) (xs : List Tm) (G : List Pm) (w : World) (hl : xs.length ≤ 1048576) (hS : SliceT w v xs) (hby : ∀ t ∈ xs, tmByte t) (hlG : G.length ≤ 1048576) (hok : ∀ g ∈ G, PmOk g) (hG : SlP w lv G) :
    Calls Tryz.prog 96 #[.agg #[.int .i64 p, .int .i64 d, v], lv] w fun e w' => e = .returned (.int .i64 (subsC p d xs G)) ∧ Below w.heap.size w w' := by
  obtain ⟨a, cap, rfl, _⟩ := id hS
  obtain ⟨la, lc, rfl, hc⟩ := id hG
  obtain ⟨W, hW, hbW, ⟨hWs1, hWs2⟩, rx, rl⟩ := boxPL w p d (.slice a xs.length cap) (.slice la G.length lc)
  obtain ⟨⟨c0, c1, c2⟩, _⟩ := poly3 rx
  have hSW := hS.below hbW
  have hGW := hG.below hbW
  have HI := Lib.hid (inv_any (p, d, xs) (.slice a xs.length cap) W trivial ⟨hby, hl⟩ hSW)
  have HQ : Hid (isPm (p, d, xs) = isPolyB p d xs) := Lib.hid rfl
  go_enter Tryz.func96, Tryz.ntmps96
  go_wp2_with fail
  rw [← hW]
  clear hW
  ((refine HI.out.mono ?_); rintro e w1 ⟨rfl, hb1⟩)
  rw [HQ.out]
  have hbw1 := hbW.trans (hb1.mono hbW.size)
  have rx1 := rowIs_below rx hb1 rx.lt
  have hq0 : w.heap.size + 1 < W.heap.size := by omega
  have rl1 := (hb1.cell (p := ⟨w.heap.size + 1, 0, none⟩) hq0).trans rl
  have hG1 := hGW.below hb1
  have hs1 := hb1.size
  have hq1 : w.heap.size + 1 < w1.heap.size := by omega
  clear c0 c1 c2 HI HQ
  cases hB : isPolyB p d xs
  · have HO : Hid (subsC p d xs G = 1) := Lib.hid (by simp [subsC, hB])
    clear hB
    go_wp2_with fail
    go_ret
    exact ⟨retI HO.out.symm, hbw1⟩
  have HC := Lib.hid (ivcontains (.slice la G.length lc) G w1 trivial hlG hok hG1)
  obtain ⟨B, hB1⟩ : ∃ B, G.all isPm = B := ⟨_, rfl⟩
  rw [hB1] at HC
  have HB := Lib.hid hB
  clear hB
  go_wp2_with fail
  ((with_reducible refine HC.out.mono ?_); rintro e w2 ⟨rfl, hb2⟩)
  have hbw2 := hbw1.trans (hb2.mono hbw1.size)
  have rx2 := rowIs_below rx1 hb2 rx1.lt
  have rl2 := (hb2.cell (p := ⟨w.heap.size + 1, 0, none⟩) hq1).trans rl1
  have hG2 := hG1.below hb2
  have hs2 := hb2.size
  clear HC rx1 rl1 hG1
  cases B
  · have HO : Hid (subsC p d xs G = 1) := Lib.hid (by simp only [subsC, hB1, Bool.and_false]; rfl)
    clear hB1
    go_wp2_with fail
    go_ret
    exact ⟨retI HO.out.symm, hbw2⟩
  have HP := Lib.hid hB1
  clear hB1
  obtain ⟨⟨c0, c1, c2⟩, _⟩ := poly3 rx2
  by_cases hd : ¬ (G.length : Int) = d
  · have HO : Hid (subsC p d xs G = 2) := Lib.hid (by simp [subsC, HB.out, HP.out, hd])
    have hdn : ((G.length : Int) != d) = true := by simpa using hd
    clear hd
    go_wp2_with fail
    go_ret
    exact ⟨retI HO.out.symm, hbw2⟩
  have hd := Classical.not_not.1 hd
  subst hd
  have hdn : ((G.length : Int) != (G.length : Int)) = false := by simp
  obtain ⟨g1, g3⟩ : (1 : Int) ≤ (G.length : Int) ∧ (G.length : Int) ≤ 3 := by
    have := HB.out
    simp only [isPolyB, Bool.and_eq_true, decide_eq_true_eq] at this
    exact this.2.1
  have hn0 : 0 < G.length := by omega
  have hJ : Capt w2 w.heap.size (w.heap.size + 1) p (G.length : Int) (.slice a xs.length cap) (.slice la G.length lc) G := ⟨rx2, rl2, by omega, hG2, hn0⟩
  have HC := Lib.hid (ulcontains w.heap.size (w.heap.size + 1) p (G.length : Int) (.slice a xs.length cap) (.slice la G.length lc) G (.slice la G.length lc) G w2 hJ hlG hok hG2)
  obtain ⟨B, hB1⟩ : ∃ B, G.all (likeT p (hdP G)) = B := ⟨_, rfl⟩
  rw [hB1] at HC
  go_wp2_with fail
  ((with_reducible refine HC.out.mono ?_); rintro e w3 ⟨rfl, hb3⟩)
  have hbw3 := hbw2.trans (hb3.mono hbw2.size)
  have hs3 := hb3.size
  have hJ3 := hJ.below hb3
  clear HC c0 c1 c2 rx2 rl2 hG2 hJ
  cases B
  · have HO : Hid (subsC p (G.length : Int) xs G = 2) := Lib.hid (by simp [subsC, HB.out, HP.out, hB1])
    clear hB1
    go_wp2_with fail
    go_ret
    exact ⟨retI HO.out.symm, hbw3⟩
  have HK := Lib.hid hB1
  clear hB1
  have HX : Hid (subsC p (G.length : Int) xs G = if xs.all (fun t => decide (bndE (tmsL G) (tmE t) ≤ 12)) = true then 0 else 3) := Lib.hid (by simp [subsC, HB.out, HP.out, HK.out])
  have HV := Lib.hid (valid_of HB.out hby)
  have HD := Lib.hid (dg_bound hok HP.out)
  have HPV : Hid (∀ g ∈ G, Valid g.1 g.2.1 g.2.2) := Lib.hid (fun g hg => isPm_valid (hok g hg) (List.all_eq_true.1 HP.out g hg))
  have HOK := Lib.hid hok
  have HF := Lib.hid (fun e => bndK_full (Ls := tmsL G) (by rw [tmsL_len]; omega) (by rw [tmsL_len]; omega) e)
  have HLN := Lib.hid (tmsL_len G)
  obtain ⟨⟨c0, c1, c2⟩, _⟩ := poly3 hJ3.x
  have l0 := hJ3.l
  have hSW3 := hS.below hbw3
  clear hok hby hS hG hc hSW hGW rx rl
  go_wp2_with fail
  clear c0 c1 c2 l0
  go_loopw [34] (fun i wr => ∃ k : Nat, k ≤ xs.length ∧ i = .int .i64 k ∧ Hid (∀ (j : Nat) (h : j < xs.length), j < k → bndE (tmsL G) (tmE xs[j]) ≤ 12) ∧ Below w3.heap.size w3 wr) (fun i _ => xs.length - (intOf i).toNat)
  case atStart => exact ⟨0, by omega, rfl, Lib.hid (fun j _ h => by omega), Below.refl _ _⟩
  case round =>
    obtain ⟨k, hk, rfl, HU, hbr⟩ := hrel
    obtain ⟨wo, rfl⟩ : ∃ wo : World, wo = wr := ⟨_, rfl⟩
    by_cases hlt : k < xs.length
    · have hlt' : (k : Int) < (xs.length : Int) := by omega
      have hSr := hSW3.below hbr
      obtain ⟨A1, cap1, hv1, hcase1⟩ := hSr
      simp at hv1
      obtain ⟨rfl, rfl⟩ := hv1
      rcases hcase1 with h0 | ⟨b1, off1, rfl, hltb1, hTx⟩
      · rw [h0] at hlt; exact absurd hlt (by simp)
      obtain ⟨d0, d1, d2, d3⟩ := hTx k hlt
      have hm12 := (HV.out.mem xs[k] (List.getElem_mem _)).1
      have HE := Lib.hid (nthE_bound hm12)
      have HBK := Lib.hid (bndK_bound (Ls := tmsL G) hm12 HD.out)
      simp only [tmE] at HE HBK
      have HT : Hid (tmE xs[k] = (xs[k].1, xs[k].2.1, xs[k].2.2.1)) := Lib.hid rfl
      generalize hx : xs[k].1 = x at *
      generalize hy : xs[k].2.1 = y at *
      generalize hz : xs[k].2.2.1 = z at *
      generalize hvv : xs[k].2.2.2 = u at *
      have hJr := hJ3.below hbr
      obtain ⟨wx, hwx, hbx, rt⟩ : ∃ wx, wx = wo.alloc (.cells #[.int .u8 x, .int .u8 y, .int .u8 z, .int .i64 u] 57) ∧ Below wo.heap.size wo wx ∧ wx.rowIs wo.heap.size 57 4 (tmF x y z u) := ⟨_, rfl, box1 _ _, trow wo x y z u⟩
      have l0 : ∀ o, (wo.alloc o).cell? ⟨w.heap.size + 1, 0, none⟩ = some (.slice la G.length lc) := fun o => ((box1 wo o).cell (p := ⟨w.heap.size + 1, 0, none⟩) hJr.ltl).trans hJr.l
      have hJx := hJr.below hbx
      have hbrx := hbr.trans (hbx.mono hbr.size)
      clear hx hy hz hvv hTx hm12 hJr
      go_wp2_with fail
      rw [← hwx]
      clear hwx l0 d0 d1 d2 d3
      go_loopw [40, 9] (fun i bd wr => ∃ m : Nat, m ≤ G.length ∧ i = .int .i64 m ∧ bd = .int .i64 (bndK (tmsL G) (x, y, z) m) ∧ Below wx.heap.size wx wr) (fun i _ _ => G.length - (intOf i).toNat)
      case atStart => exact ⟨0, by omega, rfl, rfl, Below.refl _ _⟩
      case round =>
        obtain ⟨m, hm, rfl, rfl, hb5⟩ := hrel
        by_cases hlm : m < G.length
        · have hlm' : (m : Int) < (G.length : Int) := by omega
          have hm3 : m < 3 := by omega
          have hm3' : (m : Int) < 3 := by omega
          have hJ5 := hJx.below hb5
          obtain ⟨la', lc', hlv, hcl⟩ := hJ5.s
          simp at hlv
          obtain ⟨rfl, rfl⟩ := hlv
          obtain ⟨b, off, rfl, hbb, hT⟩ : ∃ b off, la = some ⟨b, off, none⟩ ∧ b < wr.heap.size ∧ PolysW wr b off G := by
            rcases hcl with h | h
            · rw [h] at hlm; simp at hlm
            · exact h
          obtain ⟨uv, g0, g1, g2, hu⟩ := hT m hlm
          obtain ⟨ua, uc, rfl, _⟩ := id hu
          have hv := HPV.out G[m] (List.getElem_mem hlm)
          have hDG : dgN (tmsL G) m = max (degI G[m].2.2) 0 := by unfold dgN; rw [tmsL_nth hlm]
          obtain ⟨dg1, dg2⟩ := deg_bound hv
          obtain ⟨V, hV1, hbV, _, rq⟩ := newbox wr G[m].1 G[m].2.1 (.slice ua G[m].2.2.length uc)
          have kD : ∀ dd os, Calls Tryz.prog 111 #[.agg #[.int .i64 G[m].1, .int .i64 G[m].2.1, .slice ua G[m].2.2.length uc]] (grow (redrawn V dd) os) fun e w'' => e = .returned (.int .i64 (degI G[m].2.2)) ∧ ∃ p : Regrown, w'' = grow (redrawn V p.d) p.os := fun dd os =>
            Calls.regrown_of (degree_any2 _ _ _ _ _ (HOK.out _ (List.getElem_mem hlm)).2 ((hu.below hbV).below (below_regrown V dd os)) (HOK.out _ (List.getElem_mem hlm)).1 (fun t ht => (hv.mem t ht).1.2))
          obtain ⟨⟨c0, c1, c2⟩, _⟩ := poly3 rq
          have k0 := cell_regrown c0
          have k1 := cell_regrown c1
          have k2 := cell_regrown c2
          have rtV := rowIs_below (rowIs_below rt hb5 rt.lt) hbV (Nat.lt_of_lt_of_le rt.lt hb5.size)
          have k3 := cell_regrown (nthE_cell rtV hm3)
          obtain ⟨e0, e1⟩ := HE.out m
          obtain ⟨bk0, bk1⟩ := HBK.out m
          obtain ⟨mx, hmx⟩ : ∃ mx, max (degI G[m].2.2) 0 = mx := ⟨_, rfl⟩
          have hmx1 : 0 ≤ mx ∧ mx ≤ 12 := by omega
          rw [hmx] at hDG
          have HNX : Hid (bndK (tmsL G) (x, y, z) (m + 1) = bndK (tmsL G) (x, y, z) m + nthE (x, y, z) m * mx) := Lib.hid (by rw [bndK, hDG])
          have m0 : 0 ≤ nthE (x, y, z) m * mx := Int.mul_nonneg e0 hmx1.1
          have m1 : nthE (x, y, z) m * mx ≤ 12 * 12 := Int.mul_le_mul e1 hmx1.2 hmx1.1 (by omega)
          have hw1 : IntKind.i64.wrap (nthE (x, y, z) m * mx) = nthE (x, y, z) m * mx := IntWalk.i64_in _ (by omega)
          have hw2 : IntKind.i64.wrap (bndK (tmsL G) (x, y, z) m + nthE (x, y, z) m * mx) = bndK (tmsL G) (x, y, z) m + nthE (x, y, z) m * mx := IntWalk.i64_in _ (by omega)
          have hb6 := hb5.trans (hbV.mono hb5.size)
          obtain ⟨E, hE⟩ : ∃ E, nthE (x, y, z) m = E := ⟨_, rfl⟩
          obtain ⟨S, hS⟩ : ∃ S, bndK (tmsL G) (x, y, z) m = S := ⟨_, rfl⟩
          rw [hE] at k3 HNX m0 m1 hw1 hw2 e0 e1
          rw [hS] at HNX hw2 bk0 bk1 ⊢
          clear c0 c1 c2 hu hv hT hcl hDG hJ5 rtV hE hS
          go_wp2_with fail
          rw [← hV1]
          clear hV1 g0 g1 g2
          refine wp_region_quiet_below (by kernel_rfl) (by kernel_rfl) ?_
          repeat (go_big_quiet_step (with_reducible exact kD _ _))
          refine wpQuiet_nil ?_
          intro _ hw'
          obtain ⟨⟨dq, osq⟩, hw''⟩ := hw'
          subst hw''
          have hend := hb6.trans ((below_regrown V dq osq).mono hb6.size)
          generalize grow (redrawn V dq) osq = w7 at *
          clear k0 k1 k2 k3 kD
          go_wp2_with fail
          go_roundw
          case rel => exact ⟨m + 1, by omega, by go_num, by rw [HNX.out], hend⟩
          case measure => simp [intOf]; omega
        · obtain rfl : m = G.length := by omega
          have hF := HF.out (x, y, z)
          rw [HLN.out] at hF
          rw [hF]
          obtain ⟨bk0, bk1⟩ := HBK.out G.length
          rw [hF] at bk0 bk1
          have hbr2 := hbrx.trans (hb5.mono hbrx.size)
          by_cases hb12 : bndE (tmsL G) (x, y, z) ≤ 12
          · have hN : Hid (∀ (j : Nat) (h : j < xs.length), j < k + 1 → bndE (tmsL G) (tmE xs[j]) ≤ 12) := Lib.hid (fun j hj hjk => by
              by_cases e : j = k
              · subst e; rw [HT.out]; exact hb12
              · exact HU.out j hj (by omega))
            have hgt : decide (12 < bndE (tmsL G) (x, y, z)) = false := by simpa using hb12
            clear hb12 hF
            go_wp2_with fail
            go_roundw
            case rel => exact ⟨k + 1, by omega, by go_num, hN, hbr2⟩
            case measure => simp [intOf]; omega
          · have HO : Hid (subsC p (G.length : Int) xs G = 3) := Lib.hid (by
              rw [HX.out, if_neg]
              intro hall
              have := List.all_eq_true.1 hall xs[k] (List.getElem_mem hlt)
              rw [HT.out] at this
              exact hb12 (by simpa using this))
            have hgt : decide (12 < bndE (tmsL G) (x, y, z)) = true := by simpa using hb12
            have hend := hbw3.trans (hbr2.mono hbw3.size)
            clear hb12 hF
            go_wp2_with fail
            go_ret
            exact ⟨retI HO.out.symm, hend⟩
    · obtain rfl : k = xs.length := by omega
      have HO : Hid (subsC p (G.length : Int) xs G = 0) := Lib.hid (by
        rw [HX.out, if_pos]
        rw [List.all_eq_true]
        intro t ht
        obtain ⟨j, hj, rfl⟩ := List.mem_iff_getElem.1 ht
        simpa using HU.out j hj hj)
      have hend := hbw3.trans (hbr.mono hbw3.size)
      go_wp2_with fail
      go_ret
      exact ⟨retI HO.out.symm, hend⟩
end Go.Proofs.YtbhgbifliihlbaaGreat
namespace Go.Proofs.YtbhgbifliihlbaaGreat
open Go.RowKit Go.Sort Go.Maps

/-- The outcome of a substitution. -/
def SubO (p d : Int) (xs : List Tm) (G : List Pm) (o : OutP) : Prop :=
  (subsC p d xs G ≠ 0 ∧ o = noP (subsC p d xs G)) ∨ (subsC p d xs G = 0 ∧ ∃ P L, Subs p (tmsL G) xs P ∧ IsP p L (subF p P xs) ∧ o = ⟨p, (hdP G).2.1, L, 0⟩)
theorem subs_zero {p d : Int} {xs : List Tm} {G : List Pm} (hok : ∀ g ∈ G, PmOk g) (h : subsC p d xs G = 0) : isPolyB p d xs = true ∧ ListP p (hdP G).2.1 G ∧ (G.length : Int) = d ∧ Bnd (tmsL G) xs ∧ ∀ t ∈ xs, ∀ i, G.length ≤ i → nthE (tmE t) i = 0 := by
  unfold subsC at h
  split at h
  · rename_i h1
    split at h
    · rename_i h2
      split at h
      · rename_i h3
        simp only [Bool.and_eq_true, decide_eq_true_eq] at h1 h2
        have hd : 1 ≤ d ∧ d ≤ 3 := by
          have := h1.1
          simp only [isPolyB, Bool.and_eq_true, decide_eq_true_eq] at this
          exact this.2.1
        refine ⟨h1.1, ⟨by omega, by omega, fun g hg => ?_⟩, h2.1, fun t ht => by simpa using List.all_eq_true.1 h3 t ht, fun t ht i hi => ?_⟩
        · have hl := List.all_eq_true.1 h2.2 g hg
          simp only [likeT, Bool.and_eq_true, decide_eq_true_eq] at hl
          have hv := isPm_valid (hok g hg) (List.all_eq_true.1 h1.2 g hg)
          rw [hl.1, hl.2.2] at hv
          exact ⟨hl.1, hl.2.2, hv⟩
        · have hc : chain p d none xs = true := by
            have := h1.1
            simp only [isPolyB, Bool.and_eq_true] at this
            simpa [tailB, prevT] using this.2.2
          have hk := (chain_asc p d xs none hc).2.2 t ht
          simp only [termOk, expsOk, tailOk, Bool.and_eq_true, Bool.or_eq_true, decide_eq_true_eq, beq_iff_eq] at hk
          obtain ⟨⟨⟨⟨_, hy⟩, hz⟩, _⟩, _⟩ := hk
          unfold nthE
          simp only [tmE]
          split
          · omega
          · split
            · subst_vars; omega
            · split
              · subst_vars; omega
              · rfl
      · exact absurd h (by decide)
    · exact absurd h (by decide)
  · exact absurd h (by decide)
theorem subO_ex {p d : Int} {xs : List Tm} {G : List Pm} (hok : ∀ g ∈ G, PmOk g) (hby : ∀ t ∈ xs, tmByte t) : ∃ o, SubO p d xs G o := by
  by_cases h : subsC p d xs G = 0
  · obtain ⟨h1, hLP, _, hB, _⟩ := subs_zero hok h
    have hl1 := hLP.l1
    have hx := (hLP.ok G[0] (List.getElem_mem (by omega))).2.2
    have hX := valid_of h1 hby
    obtain ⟨P, hP⟩ := subs_ex hx hLP.tms hX hB
    obtain ⟨L, hL⟩ : ∃ L, IsP p L (subF p P xs) := by
      have key : ∀ k, k ≤ xs.length → ∃ L, IsP p L (subF p P (xs.take k)) := fun k => by
        induction k with
        | zero => exact fun _ => ⟨[], (IsP.nil p).congr fun e _ => (subF_zero p P xs e).symm⟩
        | succ k ih =>
          intro hk
          obtain ⟨L, hL⟩ := ih (by omega)
          have hlt : k < xs.length := by omega
          obtain ⟨f, hf⟩ := (hP xs[k] (List.getElem_mem hlt)).isP
          obtain ⟨M, hM⟩ := plus_ex (k := xs[k].2.2.2) ⟨_, hL⟩ (P (tmE xs[k])) (hx.of_isP hf)
          exact ⟨M, hM.congr fun e he => by rw [addF, hL.2.2 e he, subF_take p P xs k hlt e]⟩
      have := key xs.length (Nat.le_refl _)
      rwa [List.take_length] at this
    exact ⟨_, .inr ⟨h, P, L, hP, hL, rfl⟩⟩
  · exact ⟨_, .inl ⟨h, rfl⟩⟩
theorem subO_len {p d : Int} {xs : List Tm} {G : List Pm} {o : OutP} (h : SubO p d xs G o) : o.S.length ≤ 1048576 := by
  rcases h with ⟨_, rfl⟩ | ⟨_, P, L, _, hL, rfl⟩
  · simp [noP]
  · exact Nat.le_trans hL.len (by omega)
/-- What lies in cells stays where a block that holds no cells is written. -/
theorem SliceT.besideN {w w' : World} {b : Nat} {v : Value} {ts : List Tm} (h : SliceT w v ts) (hno : ∀ o, w.cell? ⟨b, o, none⟩ = none) (hg : w.grownBy w' (some b)) : SliceT w' v ts := by
  obtain ⟨a, cap, hv, h | ⟨b1, off, ha, hlt, hT⟩⟩ := h
  · exact ⟨a, cap, hv, .inl h⟩
  by_cases hn : ts = []
  · exact ⟨a, cap, hv, .inl hn⟩
  refine ⟨a, cap, hv, .inr ⟨b1, off, ha, Nat.lt_of_lt_of_le hlt hg.size, ?_⟩⟩
  have hne : b1 ≠ b := fun e => by
    have h0 := (hT 0 (List.length_pos_iff.2 hn)).1
    rw [e, hno] at h0
    simp at h0
  have q : ∀ o, w'.cell? ⟨b1, o, none⟩ = w.cell? ⟨b1, o, none⟩ := fun o => hg.cell_far ⟨b1, o, none⟩ hlt (by simpa using hne)
  intro k hk
  obtain ⟨c0, c1, c2, c3⟩ := hT k hk
  exact ⟨(q _).trans c0, (q _).trans c1, (q _).trans c2, (q _).trans c3⟩
theorem SlP.besideN {w w' : World} {b : Nat} {v : Value} {G : List Pm} (h : SlP w v G) (hno : ∀ o, w.cell? ⟨b, o, none⟩ = none) (hg : w.grownBy w' (some b)) : SlP w' v G := by
  obtain ⟨a, cap, hv, h | ⟨b1, off, ha, hlt, hT⟩⟩ := h
  · exact ⟨a, cap, hv, .inl h⟩
  · refine ⟨a, cap, hv, .inr ⟨b1, off, ha, Nat.lt_of_lt_of_le hlt hg.size, fun k hk => ?_⟩⟩
    obtain ⟨u, h0, h1, h2, hS⟩ := hT k hk
    have hne : b1 ≠ b := fun e => by
      rw [e, hno] at h0
      simp at h0
    have q : ∀ o, w'.cell? ⟨b1, o, none⟩ = w.cell? ⟨b1, o, none⟩ := fun o => hg.cell_far ⟨b1, o, none⟩ hlt (by simpa using hne)
    exact ⟨u, (q _).trans h0, (q _).trans h1, (q _).trans h2, hS.besideN hno hg⟩
theorem MapE.noCell {w : World} {b n : Nat} {D : DataW Unit} (h : MapE w b n D) (o : Nat) : w.cell? ⟨b, o, none⟩ = none := by
  obtain ⟨es, clock, hb, _⟩ := h
  simp [World.cell?, hb]
theorem DoneP.besideN {w w' : World} {b b' n : Nat} {D : DataW Value} {p d : Int} {Ls : List (List Tm)} (h : DoneP w b n D p d Ls) (hne : b ≠ b') (hno : ∀ o, w.cell? ⟨b', o, none⟩ = none) (hg : w.grownBy w' (some b')) : DoneP w' b n D p d Ls :=
  ⟨h.map.kept hg (by simpa using hne), h.one, fun e he hh => by
    obtain ⟨v, L, h1, h2, h3⟩ := h.ok e he hh
    exact ⟨v, L, h1, h2.besideN hno hg, h3⟩⟩
/-- The map with the product of nothing. -/
theorem DoneP.first {w w' : World} {b : Nat} {p d : Int} {Ls : List (List Tm)} {v : Value} (hp : 2 ≤ p) (hM : MapP w b 0 (.map [])) (hS : SliceT w v (constL 1))
    (hm : MapP w' b 1 (DataW.put (.map []) (kE (0, 0, 0)) (.held (.agg #[.int .i64 p, .int .i64 d, v])))) (hg : w.grownBy w' (some b)) : DoneP w' b 1 (DataW.put (.map []) (kE (0, 0, 0)) (.held (.agg #[.int .i64 p, .int .i64 d, v]))) p d Ls := by
  have hz : byte3 ((0 : Int), (0 : Int), (0 : Int)) := by unfold byte3; simp
  refine ⟨hm, has_put_same hM.isMap (kE_key _) _, fun e he hh => ?_⟩
  by_cases hx : e = (0, 0, 0)
  · subst hx
    refine ⟨v, constL 1, atKey_put_same hM.isMap (kE_key _) _ _, hS.besideP hM hg, ?_⟩
    rw [fac_zero]
    show IsP p (constL 1) (fun e => if e = (0, 0, 0) then 1 else 0)
    refine ⟨by simp [constL, Asc], fun t ht => ?_, fun e _ => ?_⟩
    · simp [constL, mkT] at ht
      subst ht
      exact ⟨⟨by unfold byte3 tmE; simp, by simp [tmE]⟩, by simp, by simp only []; omega⟩
    · by_cases h : e = (0, 0, 0)
      · subst h; simp [constL, mkT, atL, tmE]
      · have h' : ¬ (0, 0, 0) = e := fun x => h x.symm
        simp [constL, mkT, atL, tmE, h, h']
  · rw [has_put_other (kE_ne he hz hx)] at hh
    simp [Maps.has] at hh
end Go.Proofs.YtbhgbifliihlbaaGreat
namespace Go.Proofs.YtbhgbifliihlbaaGreat
open Go.RowKit Go.Sort Go.Maps

theorem MapE.later {w w' : World} {b n : Nat} {D : DataW Unit} (h : MapE w b n D) (hb : Below w.heap.size w w') : MapE w' b n D :=
  h.kept (row := none) ⟨hb.os, hb.tape, hb.output, hb.size, fun k hk _ => hb.block k hk⟩ (by simp)
/-- What stands in memory: the map of what monomials become (block b), the coefficients (block b2), the boxes. -/
structure SubS (w wr : World) (b n b2 n2 : Nat) (D : DataW Value) (E : DataW Unit) (p d d' : Int) (xv lv : Value) (xs : List Tm) (G : List Pm) : Prop where
  don : DoneP wr b n D p d (tmsL G)
  map : MapE wr b2 n2 E
  arg : wr.rowIs w.heap.size 39 3 (polyF p d' xv)
  res : wr.rowIs (w.heap.size + 1) 39 3 (polyF 0 0 (.slice none 0 0))
  sx : SliceT wr xv xs
  sl : SlP wr lv G
  below : Below w.heap.size w wr
  bb : w.heap.size + 2 ≤ b ∧ w.heap.size + 2 ≤ b2 ∧ b ≠ b2
theorem SubS.later {w wr w1 : World} {b n b2 n2 : Nat} {D : DataW Value} {E : DataW Unit} {p d d' : Int} {xv lv : Value} {xs : List Tm} {G : List Pm} (h : SubS w wr b n b2 n2 D E p d d' xv lv xs G) (hb : Below wr.heap.size wr w1) : SubS w w1 b n b2 n2 D E p d d' xv lv xs G :=
  ⟨h.don.later hb, h.map.later hb, rowIs_below h.arg hb h.arg.lt, rowIs_below h.res hb h.res.lt, h.sx.below hb, h.sl.below hb, h.below.trans (hb.mono h.below.size), h.bb⟩
theorem SubS.putIn {w wr w1 : World} {b n n' b2 n2 : Nat} {D D' : DataW Value} {E : DataW Unit} {p d d' : Int} {xv lv : Value} {xs : List Tm} {G : List Pm} (h : SubS w wr b n b2 n2 D E p d d' xv lv xs G) (hg : wr.grownBy w1 (some b)) (hD : DoneP w1 b n' D' p d (tmsL G)) : SubS w w1 b n' b2 n2 D' E p d d' xv lv xs G :=
  ⟨hD, h.map.kept hg (by simpa using fun e => h.bb.2.2 e.symm), rowG h.arg hg (by have := h.bb; omega), rowG h.res hg (by have := h.bb; omega), h.sx.besideP h.don.map hg, h.sl.besideP h.don.map hg,
    h.below.grown hg h.below.size (fun g e => by have := h.bb; simp at e; omega), h.bb⟩
theorem SubS.added {w wr w1 : World} {b n b2 n2 n3 : Nat} {D : DataW Value} {E E' : DataW Unit} {p d d' : Int} {xv lv : Value} {xs : List Tm} {G : List Pm} (h : SubS w wr b n b2 n2 D E p d d' xv lv xs G) (hg : wr.grownBy w1 (some b2)) (hE : MapE w1 b2 n3 E') : SubS w w1 b n b2 n3 D E' p d d' xv lv xs G :=
  ⟨h.don.besideN h.bb.2.2 (h.map.noCell) hg, hE, rowG h.arg hg (by have := h.bb; omega), rowG h.res hg (by have := h.bb; omega), h.sx.besideN h.map.noCell hg, h.sl.besideN h.map.noCell hg,
    h.below.grown hg h.below.size (fun g e => by have := h.bb; simp at e; omega), h.bb⟩

set_option maxRecDepth 8000 in
set_option maxHeartbeats 32000000 in
theorem iSub (p d : Int) (v lv : Value) (xs : List Tm) (G : List Pm) (w : World) (hl : xs.length ≤ 1048576) (hS : SliceT w v xs) (hby : ∀ t ∈ xs, tmByte t) (hlG : G.length ≤ 1048576) (hok : ∀ g ∈ G, PmOk g) (hG : SlP w lv G) (o : OutP) (ho : SubO p d xs G o) :
    Calls Tryz.prog 73 #[.agg #[.int .i64 p, .int .i64 d, v], lv] w (ResO w o) := by
  obtain ⟨a, cap, rfl, _⟩ := id hS
  obtain ⟨la, lc, rfl, hc⟩ := id hG
  obtain ⟨W, hW, hbW, ⟨hWs1, hWs2⟩, rx, rr⟩ := boxes2 w p d (.slice a xs.length cap)
  obtain ⟨⟨c0, c1, c2⟩, _⟩ := poly3 rx
  have HC := Lib.hid (csub p d _ _ xs G W hl (hS.below hbW) hby hlG hok (hG.below hbW))
  go_enter Tryz.func73, Tryz.ntmps73
  go_wp2_with fail
  rw [← hW]
  clear hW
  ((with_reducible refine HC.out.mono ?_); rintro e w1 ⟨rfl, hb1⟩)
  have hbw1 := hbW.trans (hb1.mono hbW.size)
  have rx1 := rowIs_below rx hb1 rx.lt
  have rr1 := rowIs_below rr hb1 rr.lt
  have hs1 := hb1.size
  have hSx1 := hS.below hbw1
  have hG1 := hG.below hbw1
  clear HC c0 c1 c2 rx rr
  rcases ho with ⟨hne, rfl⟩ | ⟨hz, P, L, hP, hL, rfl⟩
  · have hcn : (subsC p d xs G != 0) = true := by simpa using hne
    obtain ⟨C, hC⟩ : ∃ C, subsC p d xs G = C := ⟨_, rfl⟩
    rw [hC] at hcn ⊢
    have HCC := Lib.hid hC
    clear hC hne
    obtain ⟨⟨r0, r1, r2⟩, z0, z1, z2⟩ := poly3 rr1
    obtain ⟨a0, a1, a2, a3, a4⟩ := fill_box (base := w.heap.size) rr1 (ownP_nil w1 w.heap.size) (Nat.le_refl _) hbw1 (by omega) 0 0
    have A0 := Lib.hid a0
    have A1 := Lib.hid a1
    have A2 := Lib.hid a2
    have A3 := Lib.hid a3
    have A4 := Lib.hid a4
    clear a0 a1 a2 a3 a4
    go_wp2_with fail
    exact bodyPost_ret (v := .tuple #[.agg #[.int .i64 0, .int .i64 0, .slice none 0 0], .int .i64 C]) (by simp [results, Tryz.results73, go_sem, A0.out, A1.out, A2.out]) rfl ⟨_, by rw [HCC.out]; rfl, A3.out, A4.out⟩
  · obtain ⟨h1, hLP, hd, hB, hzz⟩ := subs_zero hok hz
    have hX := valid_of h1 hby
    have hl1 := hLP.l1
    have hl3 := hLP.l3
    have hlx := hX.isP.len
    have hp2 := hX.p2
    have hp13 := hX.p13
    obtain ⟨d1, hd1⟩ : ∃ d1, (hdP G).2.1 = d1 := ⟨_, rfl⟩
    rw [hd1] at hLP ⊢
    have HD1 := Lib.hid hd1
    clear hd1
    have hok0 := hLP.ok G[0] (List.getElem_mem (by omega))
    obtain ⟨bl, off, rfl, hbl, hT⟩ : ∃ bl off, la = some ⟨bl, off, none⟩ ∧ bl < w.heap.size ∧ PolysW w bl off G := by
      rcases hc with h | h
      · rw [h] at hl1; simp at hl1
      · exact h
    obtain ⟨u0, t0, t1, t2, t3⟩ := (hT.below hbw1 hbl) 0 (by omega)
    rw [hok0.2.1, Nat.zero_mul, Nat.add_zero] at t1
    have hl0 : 0 < G.length := by omega
    have hl0' : (0 : Int) < (G.length : Int) := by omega
    rw [hz]
    obtain ⟨⟨c0, c1, c2⟩, _⟩ := poly3 rx1
    have hmm := @run_makeMap Tryz.prog
    have hm0 := World.ownsMap_made (H := Value) w1 Tryz.prog 55 elemP
    obtain ⟨V, hV1, hbV, hVs1⟩ : ∃ V, V = w1.alloc (.map #[] 0) ∧ Below w1.heap.size w1 V ∧ w1.heap.size + 1 ≤ V.heap.size := ⟨_, rfl, box1 _ _, by simp⟩
    rw [← hV1] at hm0
    have xo : ∀ o, (w1.alloc o).cell? ⟨w.heap.size, 0, none⟩ = some (.int .i64 p) := fun o => ((box1 w1 o).cell rx1.lt).trans c0
    go_wp2_with fail
    rw [← hV1]
    clear hV1 xo
    have hm1 : MapP V w1.heap.size 0 (.map []) := hm0
    have hbwV := hbw1.trans (hbV.mono hbw1.size)
    have rxV := rowIs_below rx1 hbV rx1.lt
    have rrV := rowIs_below rr1 hbV rr1.lt
    ((with_reducible refine (constant_any p d1 1 V (by omega) (by omega)).mono ?_); rintro e w2 ⟨v2, rfl, ho2, hb2⟩)
    have hS2 := OwnP.slice ho2
    have hm2 : MapP w2 w1.heap.size 0 (.map []) := hm1.kept (row := none) ⟨hb2.os, hb2.tape, hb2.output, hb2.size, fun k hk _ => hb2.block k hk⟩ (by simp)
    have hbw2 := hbwV.trans (hb2.mono hbwV.size)
    have rx2 := rowIs_below rxV hb2 rxV.lt
    have rr2 := rowIs_below rrV hb2 rrV.lt
    have hk0 : keyOf Tryz.prog 55 (.agg #[.int .u8 0, .int .u8 0, .int .u8 0]) = some (kE (0, 0, 0)) := keyOf_vE (0, 0, 0) (by simp [byte3])
    obtain ⟨sa2, sc2, rfl⟩ := owns_slice ho2
    obtain ⟨w3, hrun, hown3, hg3⟩ := hm2.update lawK Tryz.underlying130 (by unfold maxLen; omega) hk0 (val := .agg #[.int .i64 p, .int .i64 d1, .slice sa2 (constL 1).length sc2]) (d := .held (.agg #[.int .i64 p, .int .i64 d1, .slice sa2 (constL 1).length sc2])) (ps := []) rfl
    have hdn := DoneP.first (Ls := tmsL G) hp2 hm2 hS2 hown3 hg3
    have hbb : w.heap.size + 2 ≤ w1.heap.size := by omega
    have hbw3 : Below w.heap.size w w3 := hbw2.grown hg3 hbw2.size (fun g e => by simp at e; omega)
    have rx3 := rowG rx2 hg3 (by omega)
    have rr3 := rowG rr2 hg3 (by omega)
    obtain ⟨⟨x0, x1, x2⟩, _⟩ := poly3 rx3
    have hme := World.ownsMap_made (H := Unit) w3 Tryz.prog 55 (plainElem Tryz.prog 2)
    obtain ⟨Y, hY, hbY, hYs1⟩ : ∃ Y, Y = w3.alloc (.map #[] 0) ∧ Below w3.heap.size w3 Y ∧ w3.heap.size + 1 ≤ Y.heap.size := ⟨_, rfl, box1 _ _, by simp⟩
    rw [← hY] at hme
    have hbwY := hbw3.trans (hbY.mono hbw3.size)
    have hSxY := hS.below hbwY
    have hGY := hG.below hbwY
    have h13 : w1.heap.size < w3.heap.size := by have := hb2.size; have := hg3.size; omega
    have st : SubS w Y w1.heap.size 1 w3.heap.size 0 (DataW.put (.map []) (kE (0, 0, 0)) (.held (.agg #[.int .i64 p, .int .i64 d1, .slice sa2 (constL 1).length sc2]))) (.map []) p d1 d (.slice a xs.length cap) (.slice (some ⟨bl, off, none⟩) G.length lc) xs G :=
      ⟨hdn.later hbY, hme, rowIs_below rx3 hbY rx3.lt, rowIs_below rr3 hbY rr3.lt, hSxY, hGY, hbwY, by omega, by omega, by omega⟩
    have xo : ∀ o, (w3.alloc o).cell? ⟨w.heap.size, 2, none⟩ = some (.slice a xs.length cap) := fun o => ((box1 w3 o).cell rx3.lt).trans x2
    clear hm0 hm1 c0 c1 c2 t0 t1 t2 t3 ho2 hS2 rxV rrV hm2 hown3 hdn rx2 rr2 rx3 rr3 x0 x1 hme hSxY hGY
    go_wp2_with fail
    rw [← hY]
    clear hY xo hrun hk0 hmm
    have HX := Lib.hid hX
    have HP := Lib.hid hP
    have HB := Lib.hid hB
    have HZ := Lib.hid hzz
    have HLP := Lib.hid hLP
    have HL := Lib.hid hL
    have HE0 : Hid (∀ e, byte3 e → cf (.map [] : DataW Unit) e = subF p P (xs.take 0) e) := Lib.hid (fun e _ => by rw [cf_empty, subF_zero])
    have st1 := Exists.intro (p := fun D => SubS w Y w1.heap.size 1 w3.heap.size 0 D (.map []) p d1 d (.slice a xs.length cap) (.slice (some ⟨bl, off, none⟩) G.length lc) xs G) _ st
    obtain ⟨D0, st1⟩ := st1
    have hcap : xs.length ≤ 2197 := hlx
    clear st hT hok0 hX hP hB hzz hL hS hc hG hSx1 hG1 hlx h1 hz hby hok hb1 hb2 hbV hbY hg3 hbw1 hbwV hbw2 hbw3 hbwY rx1 rr1 hl0 hl0'
    go_loopw [34] (fun i wr => ∃ (k n n2 : Nat) (D : DataW Value) (E : DataW Unit), k ≤ xs.length ∧ i = .int .i64 k ∧ n ≤ 1 + 12 * k ∧ n2 ≤ 2197 * k ∧ Hid (∀ e, byte3 e → cf E e = subF p P (xs.take k) e) ∧ SubS w wr w1.heap.size n w3.heap.size n2 D E p d1 d (.slice a xs.length cap) (.slice (some ⟨bl, off, none⟩) G.length lc) xs G) (fun i _ => xs.length - (intOf i).toNat)
    case atStart => exact ⟨0, 1, 0, _, _, by omega, rfl, by omega, by omega, HE0, st1⟩
    case round =>
      clear st1 HE0
      obtain ⟨k, n, n2, D, E, hk, rfl, hn, hn2, HE, st⟩ := hrel
      by_cases hlt : k < xs.length
      · have hlt' : (k : Int) < (xs.length : Int) := by omega
        obtain ⟨A1, cap1, hv1, hcase1⟩ := st.sx
        simp at hv1
        obtain ⟨rfl, rfl⟩ := hv1
        rcases hcase1 with h0 | ⟨b1, off1, rfl, hltb1, hTx⟩
        · rw [h0] at hlt; exact absurd hlt (by simp)
        obtain ⟨d0, d1', d2, d3⟩ := hTx k hlt
        obtain ⟨⟨hm12, hs12⟩, bu1, bu2⟩ := HX.out.mem xs[k] (List.getElem_mem _)
        have hbnd := HB.out xs[k] (List.getElem_mem _)
        have hzz := HZ.out xs[k] (List.getElem_mem _)
        have hpr := HP.out xs[k] (List.getElem_mem _)
        have HSTEP := Lib.hid (fun e => subF_take p P xs k hlt e)
        have HFB := Lib.hid (fun e => show 0 ≤ subF p P (xs.take k) e ∧ subF p P (xs.take k) e < p from ⟨Int.emod_nonneg _ (by omega), Int.emod_lt_of_pos _ (by omega)⟩)
        have hex : tmE xs[k] = (xs[k].1, xs[k].2.1, xs[k].2.2.1) := rfl
        rw [hex] at hm12 hbnd hzz hpr HSTEP
        generalize hx : xs[k].1 = x at *
        generalize hy : xs[k].2.1 = y at *
        generalize hz : xs[k].2.2.1 = z at *
        generalize hvv : xs[k].2.2.2 = u at *
        clear hex hx hy hz hvv hTx
        obtain ⟨s, hs⟩ : ∃ s : Nat, x + y + z = (s : Int) := ⟨(x + y + z).toNat, by
          obtain ⟨⟨q1, q2⟩, ⟨q3, q4⟩, q5, q6⟩ : (0 ≤ x ∧ x ≤ 255) ∧ (0 ≤ y ∧ y ≤ 255) ∧ (0 ≤ z ∧ z ≤ 255) := hm12
          omega⟩
        have hs2 : s ≤ 12 := by omega
        obtain ⟨PL, hPL⟩ : ∃ PL, P (x, y, z) = PL := ⟨_, rfl⟩
        rw [hPL] at hpr HSTEP
        obtain ⟨f1, hf1⟩ := hpr.isP
        have HVP := Lib.hid ((HLP.out.ok G[0] (List.getElem_mem (by omega))).2.2.of_isP hf1)
        have hPll : PL.length ≤ 1048576 := Nat.le_trans hf1.len (by omega)
        obtain ⟨V4, hV4, hbV4, rt⟩ : ∃ wx, wx = wr.alloc (.cells #[.int .u8 x, .int .u8 y, .int .u8 z, .int .i64 u] 57) ∧ Below wr.heap.size wr wx ∧ wx.rowIs wr.heap.size 57 4 (tmF x y z u) := ⟨_, rfl, box1 _ _, trow wr x y z u⟩
        have st4 := (st.later hbV4).later (Below.same _).drew
        have rt4 : V4.drew.rowIs wr.heap.size 57 4 (tmF x y z u) := rt
        have hnb : n + s ≤ 1048576 := by omega
        have hnb2 : n2 ≤ 1000000000 := by omega
        have hw1r : w1.heap.size < wr.heap.size := st.don.map.lt
        have hw3r : w3.heap.size < wr.heap.size := st.map.lt
        have HPI := Lib.hid (putIn_any p d1 G (.slice (some ⟨bl, off, none⟩) G.length lc) w1.heap.size HLP.out s x y z n D V4.drew hm12 hs hzz hbnd st4.sl st4.don hnb)
        have HAT := Lib.hid (fun v13 w13 hS13 hM13 => addTimes_any p d1 u v13 PL w13 w3.heap.size n2 E (subF p P (xs.take k)) hPll hS13 HVP.out hM13 hnb2 HE.out (fun e _ => HFB.out e) (by omega) (by omega))
        have KK := Lib.hid (fun (w' : World) (h : w'.rowIs wr.heap.size 57 4 (tmF x y z u)) => show (w'.cell? ⟨wr.heap.size, 0, none⟩ = some (.int .u8 x) ∧ w'.cell? ⟨wr.heap.size, 1, none⟩ = some (.int .u8 y) ∧ w'.cell? ⟨wr.heap.size, 2, none⟩ = some (.int .u8 z) ∧ w'.cell? ⟨wr.heap.size, 3, none⟩ = some (.int .i64 u)) from
          ⟨h.cell (i := 0) (by omega), h.cell (i := 1) (by omega), h.cell (i := 2) (by omega), h.cell (i := 3) (by omega)⟩)
        have HPR := Lib.hid hpr
        have hnw1 : wr.heap.size ≠ w1.heap.size := by omega
        have hnw3 : wr.heap.size ≠ w3.heap.size := by omega
        have hn13 : n + s ≤ 1 + 12 * (k + 1) := by omega
        have hPl2 : PL.length ≤ 2197 := hf1.len
        clear hpr hf1 hzz hbnd hm12 hs st hbV4 rt
        go_upto_region 10 with fail
        rw [← hV4]
        clear hV4 d0 d1' d2 d3
        go_region_held3 (fun w' => (w'.cell? ⟨wr.heap.size, 0, none⟩ = some (.int .u8 x) ∧ w'.cell? ⟨wr.heap.size, 1, none⟩ = some (.int .u8 y) ∧ w'.cell? ⟨wr.heap.size, 2, none⟩ = some (.int .u8 z) ∧ w'.cell? ⟨wr.heap.size, 3, none⟩ = some (.int .i64 u)))
          (first | with_reducible exact KK.out _ rt4 | with_reducible exact KK.out _ rt13 | with_reducible exact KK.out _ rt14)
          (first
          | (go_at_call 98; (with_reducible refine HPI.out.mono ?_); rintro e w13 ⟨v13, L13, D13, n13, rfl, hS13, hL13, hD13, hn13', hg13⟩; have rt13 := rowG rt4 hg13 hnw1; have st13 := st4.putIn hg13 hD13; (obtain rfl : PL = L13 := HPR.out.unique hL13); (obtain ⟨a13, c13, rfl, _⟩ := id hS13))
          | (go_at_call 76; (with_reducible refine (HAT.out _ w13 hS13 st13.map).mono ?_); rintro e w14 ⟨E14, rfl, hM14, hcf14, hg14⟩; have rt14 := rowG rt13 hg14 hnw3; have st14 := st13.added hg14 hM14))
        all_goals
          have HN := Lib.hid (fun e he => (hcf14 e he).trans (HSTEP.out e).symm)
          have hnn := Nat.le_trans hn13' hn13
          have hnn2 : n2 + PL.length ≤ 2197 * (k + 1) := by omega
          clear hcf14 rt14 rt13 rt4 st13 st4 hg14 hM14 hg13 hD13 hS13 hL13 hn13' KK HAT HPI
          go_wp2_with fail
          go_roundw
          case rel => exact ⟨k + 1, n13, _, D13, E14, by omega, by go_num, hnn, hnn2, HN, st14⟩
          case measure => simp [intOf]; omega
      · obtain rfl : k = xs.length := by omega
        have hE := HE.out
        rw [List.take_length] at hE
        have HPO := Lib.hid (polyOf_any sort_says p d1 w3.heap.size n2 E wr st.map (by omega) (fun e he hc => by
          rw [hE e he, ← List.take_length (l := xs)] at hc
          exact sub_deg (HLP.out.ok G[0] (List.getElem_mem (by omega))).2.2 HLP.out.tms HX.out HB.out HP.out hc))
        have HGD := Lib.hid (fun (S : List Tm) (h : Good E S) => show S = L from (h.isP hE (fun e _ => ⟨Int.emod_nonneg _ (by omega), Int.emod_lt_of_pos _ (by omega)⟩) (fun e he hc => by
          rw [← List.take_length (l := xs)] at hc
          exact sub_deg (HLP.out.ok G[0] (List.getElem_mem (by omega))).2.2 HLP.out.tms HX.out HB.out HP.out hc)).unique HL.out)
        obtain ⟨⟨c0, c1, c2⟩, _⟩ := poly3 st.arg
        clear hE HE
        go_wp2_with fail
        ((with_reducible refine HPO.out.mono ?_); rintro e w14 ⟨v14, S14, rfl, ho14, hgood, hb14⟩)
        have hSL := HGD.out S14 hgood
        subst hSL
        have st14 := st.later hb14
        obtain ⟨sa14, sc14, rfl⟩ := owns_slice ho14
        obtain ⟨⟨r0, r1, r2⟩, z0, z1, z2⟩ := poly3 st14.res
        obtain ⟨a0, a1, a2, a3, a4⟩ := fill_box (w := w) st14.res ho14 st.below.size st14.below (by omega) p d1
        have A0 := Lib.hid a0
        have A1 := Lib.hid a1
        have A2 := Lib.hid a2
        have A3 := Lib.hid a3
        have A4 := Lib.hid a4
        clear a0 a1 a2 a3 a4 st st14 c0 c1 c2 hgood ho14
        go_wp2_with fail
        exact bodyPost_ret (v := .tuple #[.agg #[.int .i64 p, .int .i64 d1, .slice sa14 S14.length sc14], .int .i64 0]) (by simp [results, Tryz.results73, go_sem, A0.out, A1.out, A2.out]) rfl ⟨_, by rw [HD1.out], A3.out, A4.out⟩
end Go.Proofs.YtbhgbifliihlbaaGreat
