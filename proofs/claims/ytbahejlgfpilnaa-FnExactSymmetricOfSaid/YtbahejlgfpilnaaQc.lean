/-
  LISTS OF POLYNOMIALS: what a substitution asks of them, by the program. Conditions: as each theorem states.
  LISTS OF POLYNOMIALS: what a substitution asks of them, by the program. Conditions: as each theorem states.
  WALKS: 'impl.checkSubstitution'. Conditions: as the theorem states.
  SUBSTITUTIONS, the program: the outcome; what stays beside maps. Conditions: as each theorem states.
  ELEMENTARY POLYNOMIALS as lists; what they make of a polynomial. Conditions: as each theorem states.
  WALKS: 'impl.constant'. Conditions: as the theorem states.
  WALKS: 'impl.SubstitutePoly'. Conditions: as the theorem states.
  LISTS OF POLYNOMIALS by their cells. Conditions: as each theorem states.
  LISTS OF POLYNOMIALS of the call's own, in the making. Conditions: as each theorem states.
  BOXES of polynomials, filled; what lies beside. Conditions: as each theorem states.. Conditions: as each theorem states.
  SUBSTITUTIONS, the model: what stands in memory. Conditions: as each theorem states.
  WALKS: 'spec.l01Replace'. Conditions: as the theorem states.
  ROWS OF POLYNOMIALS into which polynomials are stored; 'impl.elementaries'. Conditions: as each theorem states.
  SYMMETRIC POLYNOMIALS of elementary ones: 'impl.SymmetricOf', 'spec.SymmetricOf'. Conditions: as each theorem states.
  WALKS: marking the terms of a polynomial and reading the marks back. Conditions: as each theorem states.
  WALKS: marking a polynomial whose terms lie in an array of the call's own, and reading the marks back. Conditions: as each theorem states.
  The law of 'SymmetricOf', walked. Conditions: as the theorem states.
  A list of 64-bit numbers as an argument of a law, opened; a row's end. Conditions: the argument can be read as data.
  A polynomial argument of a law, opened: its cells and its terms. Conditions: the argument can be read as data.
-/
import Derived.Test.YtbahejlgfpilnaaQb
import Derived.Deep.RegionWith
import Derived.Test.YtbahejlgfpilnaaIns
import Derived.Deep.DeepCutAuto
import Derived.Deep.RegionHeld3
import Derived.Test.YtbahejlgfpilnaaMm
import Derived.Test.YtbahejlgfpilnaaF
import Derived.Test.YtbahejlgfpilnaaMr
import Derived.Test.YtbahejlgfpilnaaLs
import Derived.Test.YtbahejlgfpilnaaLa
import Derived.ProofKit
import Derived.OpenShut
import Derived.Lib.SmallJoins
import Derived.Deep.Slices
namespace Go.Proofs.Ytbahejlgfpilnaa
open Go.RowKit Go.Sort

theorem inv_any (g : Pm) (v : Value) (w : World) (_hJ : True) (hok : PmOk g) (hS : SliceT w v g.2.2) :
    Calls Try.prog 228 #[.agg #[.int .i64 g.1, .int .i64 g.2.1, v]] w fun e w' => e = .returned (.bool (!isPm g)) ∧ Below w.heap.size w w' := by
  obtain ⟨p, d, ts⟩ := g
  obtain ⟨hby, hl⟩ := hok
  simp only at hby hl hS ⊢
  obtain ⟨a, cap, rfl, _⟩ := id hS
  obtain ⟨V, hV1, hbV, _, rq⟩ := newbox w p d (.slice a ts.length cap)
  obtain ⟨⟨c0, c1, c2⟩, _⟩ := poly3 rq
  have HC := Lib.hid (isPoly_any p d _ ts V hl (hS.below hbV) hby)
  obtain ⟨B, hB⟩ : ∃ B, isPolyB p d ts = B := ⟨_, rfl⟩
  have HB : Hid (isPm (p, d, ts) = B) := Lib.hid hB
  rw [hB] at HC
  clear hby hS hB
  go_enter Try.func228, Try.ntmps228
  go_wp2_with fail
  rw [← hV1]
  clear hV1
  ((with_reducible refine HC.out.mono ?_); rintro e w1 ⟨rfl, hb1⟩)
  have hend := hbV.trans (hb1.mono hbV.size)
  go_wp2
  go_ret
  exact ⟨by rw [HB.out]; rfl, hend⟩

set_option maxHeartbeats 1000000 in
theorem ividx_some (b off cap : Nat) (G : List Pm) (w : World) (hJ : True) (hbb : b < w.heap.size) (hl : G.length ≤ 1048576) (hok : ∀ g ∈ G, PmOk g) (hT : PolysW w b off G) (j : Nat) (hj : j < G.length) (hn : isPm G[j] = false) (hp : ∀ (i : Nat) (h : i < G.length), i < j → isPm G[i] = true) :
    Calls Try.prog 216 #[.slice (some ⟨b, off, none⟩) G.length cap, .func (.func 228) #[] #[]] w fun e w' => e = .returned (.int .i64 j) ∧ Below w.heap.size w w' := by
  have HN := Lib.hid hn
  have HP := Lib.hid hp
  have HOK := Lib.hid hok
  have HT := Lib.hid hT
  have HJ := Lib.hid (fun (w' : World) (hb : Below w.heap.size w w') => (by exact hJ : True))
  clear hn hp hok hT hJ
  go_enter Try.func216, Try.ntmps216
  go_wp2
  go_loopw [8] (fun i wr => ∃ k : Nat, k ≤ j ∧ i = .int .i64 k ∧ Below w.heap.size w wr) (fun i _ => G.length - (intOf i).toNat)
  case atStart => exact ⟨0, by omega, rfl, Below.refl _ _⟩
  case round =>
    obtain ⟨k, hk, rfl, hbr⟩ := hrel
    have hlt : k < G.length := by omega
    have hlt' : (k : Int) < (G.length : Int) := by omega
    obtain ⟨u, c0, c1, c2, s0⟩ := (HT.out.below hbr hbb) k hlt
    have HC := Lib.hid (inv_any  G[k] u wr (HJ.out wr hbr) (HOK.out _ (List.getElem_mem hlt)) s0)
    clear s0
    by_cases e : k = j
    · subst e
      go_wp2_with fail
      ((with_reducible refine HC.out.mono ?_); rintro e w1 ⟨rfl, hb1⟩)
      have hend := hbr.trans (hb1.mono hbr.size)
      rw [HN.out]
      go_wp2
      go_ret
      exact ⟨rfl, hend⟩
    · have h0 := Lib.hid (HP.out k hlt (by omega))
      go_wp2_with fail
      ((with_reducible refine HC.out.mono ?_); rintro e w1 ⟨rfl, hb1⟩)
      have hend := hbr.trans (hb1.mono hbr.size)
      rw [h0.out]
      go_wp2
      go_roundw
      case rel => exact ⟨k + 1, by omega, by go_num, hend⟩
      case measure => simp [intOf]; omega

set_option maxHeartbeats 1000000 in
theorem ividx_none (a : Option Addr) (cap : Nat) (G : List Pm) (w : World) (hJ : True) (hl : G.length ≤ 1048576) (hok : ∀ g ∈ G, PmOk g) (hS : G = [] ∨ ∃ b off, a = some ⟨b, off, none⟩ ∧ b < w.heap.size ∧ PolysW w b off G) (hp : ∀ (i : Nat) (h : i < G.length), isPm G[i] = true) :
    Calls Try.prog 216 #[.slice a G.length cap, .func (.func 228) #[] #[]] w fun e w' => e = .returned (.int .i64 (-1)) ∧ Below w.heap.size w w' := by
  have HP := Lib.hid hp
  have HOK := Lib.hid hok
  have HJ := Lib.hid (fun (w' : World) (hb : Below w.heap.size w w') => (by exact hJ : True))
  clear hp hok hJ
  go_enter Try.func216, Try.ntmps216
  go_wp2
  go_loopw [8] (fun i wr => ∃ k : Nat, k ≤ G.length ∧ i = .int .i64 k ∧ Below w.heap.size w wr) (fun i _ => G.length - (intOf i).toNat)
  case atStart => exact ⟨0, by omega, rfl, Below.refl _ _⟩
  case round =>
    obtain ⟨k, hk, rfl, hbr⟩ := hrel
    by_cases hlt : k < G.length
    · have hlt' : (k : Int) < (G.length : Int) := by omega
      obtain ⟨b, off, rfl, hbb, hT⟩ : ∃ b off, a = some ⟨b, off, none⟩ ∧ b < w.heap.size ∧ PolysW w b off G := by
        rcases hS with rfl | h
        · simp at hlt
        · exact h
      obtain ⟨u, c0, c1, c2, s0⟩ := (hT.below hbr hbb) k hlt
      have HC := Lib.hid (inv_any  G[k] u wr (HJ.out wr hbr) (HOK.out _ (List.getElem_mem hlt)) s0)
      have h0 := Lib.hid (HP.out k hlt)
      clear s0 hT
      go_wp2_with fail
      ((with_reducible refine HC.out.mono ?_); rintro e w1 ⟨rfl, hb1⟩)
      have hend := hbr.trans (hb1.mono hbr.size)
      rw [h0.out]
      go_wp2
      go_roundw
      case rel => exact ⟨k + 1, by omega, by go_num, hend⟩
      case measure => simp [intOf]; omega
    · obtain rfl : k = G.length := by omega
      go_wp2
      go_ret
      exact ⟨rfl, hbr⟩

theorem ivcontains (v : Value) (G : List Pm) (w : World) (hJ : True) (hl : G.length ≤ 1048576) (hok : ∀ g ∈ G, PmOk g) (hS : SlP w v G) :
    Calls Try.prog 152 #[v, .func (.func 228) #[] #[]] w fun e w' => e = .returned (.bool (!G.all isPm)) ∧ Below w.heap.size w w' := by
  obtain ⟨a, cap, rfl, hc⟩ := hS
  cases h : G.all isPm
  · obtain ⟨j, hj, hn, hp⟩ := first_outP isPm G h
    obtain ⟨b, off, rfl, hbb, hT⟩ : ∃ b off, a = some ⟨b, off, none⟩ ∧ b < w.heap.size ∧ PolysW w b off G := by
      rcases hc with rfl | h
      · simp at hj
      · exact h
    have HC := Lib.hid (ividx_some  b off cap G w hJ hbb hl hok hT j hj hn hp)
    clear h hc hn hp hok hT hJ
    go_enter Try.func152, Try.ntmps152
    go_wp2_with fail
    ((with_reducible refine HC.out.mono ?_); rintro e w1 ⟨rfl, hb1⟩)
    go_wp2
    go_ret
    exact ⟨rfl, hb1⟩
  · have hp : ∀ (i : Nat) (hi : i < G.length), isPm G[i] = true := fun i hi => List.all_eq_true.1 h _ (List.getElem_mem hi)
    have HC := Lib.hid (ividx_none  a cap G w hJ hl hok hc hp)
    clear h hp hok hc hJ
    go_enter Try.func152, Try.ntmps152
    go_wp2_with fail
    ((with_reducible refine HC.out.mono ?_); rintro e w1 ⟨rfl, hb1⟩)
    go_wp2
    go_ret
    exact ⟨rfl, hb1⟩
end Go.Proofs.Ytbahejlgfpilnaa
namespace Go.Proofs.Ytbahejlgfpilnaa
open Go.RowKit Go.Sort

/-- The boxes of what is captured: the polynomial, the list. -/
structure Capt (w : World) (bx bl : Nat) (p d : Int) (xv lv : Value) (G : List Pm) : Prop where
  x : w.rowIs bx 42 3 (polyF p d xv)
  l : w.cell? ⟨bl, 0, none⟩ = some lv
  ltl : bl < w.heap.size
  s : SlP w lv G
  n : 0 < G.length
theorem Capt.below {w w' : World} {bx bl : Nat} {p d : Int} {xv lv : Value} {G : List Pm} (h : Capt w bx bl p d xv lv G) (hb : Below w.heap.size w w') : Capt w' bx bl p d xv lv G :=
  ⟨rowIs_below h.x hb h.x.lt, (hb.cell (p := ⟨bl, 0, none⟩) h.ltl).trans h.l, Nat.lt_of_lt_of_le h.ltl hb.size, h.s.below hb, h.n⟩
set_option maxHeartbeats 4000000 in
theorem unl_any (bx bl : Nat) (p d : Int) (xv lv : Value) (G : List Pm) (g : Pm) (v : Value) (w : World) (hJ : Capt w bx bl p d xv lv G) (hok : PmOk g) (hS : SliceT w v g.2.2) :
    Calls Try.prog 229 #[.agg #[.int .i64 g.1, .int .i64 g.2.1, v], .pointer (some ⟨bx, 0, none⟩), .pointer (some ⟨bl, 0, none⟩)] w fun e w' => e = .returned (.bool (!likeT p (hdP G) g)) ∧ Below w.heap.size w w' := by
  obtain ⟨p2, d2, ts⟩ := g
  obtain ⟨hby, hl⟩ := hok
  simp only at hby hl hS ⊢
  obtain ⟨a, cap, rfl, _⟩ := id hS
  obtain ⟨V, hV1, hbV, _, rq⟩ := newbox w p2 d2 (.slice a ts.length cap)
  have hJV := hJ.below hbV
  obtain ⟨la, lc, rfl, hc⟩ := hJV.s
  have hn := hJ.n
  have hn' : (0 : Int) < (G.length : Int) := by omega
  obtain ⟨b, off, rfl, hbb, hT⟩ : ∃ b off, la = some ⟨b, off, none⟩ ∧ b < V.heap.size ∧ PolysW V b off G := by
    rcases hc with h | h
    · rw [h] at hn; simp at hn
    · exact h
  obtain ⟨u, g0, g1, g2, hu⟩ := hT 0 hn
  obtain ⟨ua, uc, rfl, _⟩ := id hu
  rw [hdP_at hn]
  obtain ⟨q, hq⟩ : ∃ q, G[0].1 = q := ⟨_, rfl⟩
  obtain ⟨e, he⟩ : ∃ e, G[0].2.1 = e := ⟨_, rfl⟩
  obtain ⟨n0, hn0⟩ : ∃ n0, G[0].2.2.length = n0 := ⟨_, rfl⟩
  have HX : Hid (likeT p G[0] (p2, d2, ts) = (decide (p2 = p) && (decide (p2 = q) && decide (d2 = e)))) := Lib.hid (by unfold likeT; rw [hq, he])
  rw [hq, Nat.zero_mul, Nat.add_zero] at g0
  rw [he, Nat.zero_mul, Nat.add_zero] at g1
  rw [hn0, Nat.zero_mul, Nat.add_zero] at g2
  obtain ⟨⟨c0, c1, c2⟩, _⟩ := poly3 rq
  obtain ⟨⟨x0, _, _⟩, _⟩ := poly3 hJV.x
  have l0 := hJV.l
  have k0 := cell_regrown c0
  have k1 := cell_regrown c1
  have k2 := cell_regrown c2
  have k3 := cell_regrown x0
  have k4 := cell_regrown l0
  have k5 := cell_regrown g0
  have k6 := cell_regrown g1
  have k7 := cell_regrown g2
  obtain ⟨B, hB⟩ : ∃ B, (decide (p2 = q) && decide (d2 = e)) = B := ⟨_, rfl⟩
  have kA : ∀ dd os, Calls Try.prog 154 #[.agg #[.int .i64 p2, .int .i64 d2, .slice a ts.length cap], .agg #[.int .i64 q, .int .i64 e, .slice ua n0 uc]] (grow (redrawn V dd) os) fun e w'' => e = .returned (.bool B) ∧ ∃ p : Regrown, w'' = grow (redrawn V p.d) p.os := fun dd os =>
    Calls.regrown_of (alike_is p2 d2 q e _ _ _ B hB)
  have HB := Lib.hid hB
  clear g0 g1 g2 c0 c1 c2 x0 l0 hu hT hc hJV hJ hby hq he hn0 hS rq hB
  by_cases hp : p2 = p
  · subst hp
    have hpp : (p2 != p2) = false := by simp
    go_enter Try.func229, Try.ntmps229
    go_wp2_with fail
    rw [← hV1]
    clear hV1
    refine wp_region_quiet_below (by kernel_rfl) (by kernel_rfl) ?_
    repeat (go_big_quiet_step (with_reducible exact kA _ _))
    refine wpQuiet_nil ?_
    intro _ hw'
    obtain ⟨⟨dq, osq⟩, hw''⟩ := hw'
    subst hw''
    have hend := hbV.trans ((below_regrown V dq osq).mono hbV.size)
    generalize grow (redrawn V dq) osq = w2 at *
    clear k0 k1 k2 k3 k4 k5 k6 k7 kA
    go_wp2_with fail
    go_ret
    exact ⟨by rw [HX.out, HB.out]; simp, hend⟩
  · have hpp : (p2 != p) = true := by simpa using hp
    have HX2 : Hid (likeT p G[0] (p2, d2, ts) = false) := Lib.hid (by rw [HX.out]; simp [hp])
    clear hp
    go_enter Try.func229, Try.ntmps229
    go_wp2_with fail
    rw [← hV1]
    clear hV1
    refine wp_region_quiet_below (by kernel_rfl) (by kernel_rfl) ?_
    repeat (go_big_quiet_step (with_reducible exact kA _ _))
    refine wpQuiet_nil ?_
    intro _ hw'
    obtain ⟨⟨dq, osq⟩, hw''⟩ := hw'
    subst hw''
    have hend := hbV.trans ((below_regrown V dq osq).mono hbV.size)
    generalize grow (redrawn V dq) osq = w2 at *
    clear k0 k1 k2 k3 k4 k5 k6 k7 kA
    go_wp2_with fail
    go_ret
    exact ⟨by rw [HX2.out]; rfl, hend⟩

set_option maxHeartbeats 1000000 in
theorem ulidx_some (bx bl : Nat) (p d : Int) (xv lv : Value) (G0 : List Pm) (b off cap : Nat) (G : List Pm) (w : World) (hJ : Capt w bx bl p d xv lv G0) (hbb : b < w.heap.size) (hl : G.length ≤ 1048576) (hok : ∀ g ∈ G, PmOk g) (hT : PolysW w b off G) (j : Nat) (hj : j < G.length) (hn : (likeT p (hdP G0)) G[j] = false) (hp : ∀ (i : Nat) (h : i < G.length), i < j → (likeT p (hdP G0)) G[i] = true) :
    Calls Try.prog 216 #[.slice (some ⟨b, off, none⟩) G.length cap, .func (.func 229) #[] #[.pointer (some ⟨bx, 0, none⟩), .pointer (some ⟨bl, 0, none⟩)]] w fun e w' => e = .returned (.int .i64 j) ∧ Below w.heap.size w w' := by
  have HN := Lib.hid hn
  have HP := Lib.hid hp
  have HOK := Lib.hid hok
  have HT := Lib.hid hT
  have HJ := Lib.hid (fun (w' : World) (hb : Below w.heap.size w w') => (by exact hJ.below hb : Capt w' bx bl p d xv lv G0))
  clear hn hp hok hT hJ
  go_enter Try.func216, Try.ntmps216
  go_wp2
  go_loopw [8] (fun i wr => ∃ k : Nat, k ≤ j ∧ i = .int .i64 k ∧ Below w.heap.size w wr) (fun i _ => G.length - (intOf i).toNat)
  case atStart => exact ⟨0, by omega, rfl, Below.refl _ _⟩
  case round =>
    obtain ⟨k, hk, rfl, hbr⟩ := hrel
    have hlt : k < G.length := by omega
    have hlt' : (k : Int) < (G.length : Int) := by omega
    obtain ⟨u, c0, c1, c2, s0⟩ := (HT.out.below hbr hbb) k hlt
    have HC := Lib.hid (unl_any bx bl p d xv lv G0 G[k] u wr (HJ.out wr hbr) (HOK.out _ (List.getElem_mem hlt)) s0)
    clear s0
    by_cases e : k = j
    · subst e
      go_wp2_with fail
      ((with_reducible refine HC.out.mono ?_); rintro e w1 ⟨rfl, hb1⟩)
      have hend := hbr.trans (hb1.mono hbr.size)
      rw [HN.out]
      go_wp2
      go_ret
      exact ⟨rfl, hend⟩
    · have h0 := Lib.hid (HP.out k hlt (by omega))
      go_wp2_with fail
      ((with_reducible refine HC.out.mono ?_); rintro e w1 ⟨rfl, hb1⟩)
      have hend := hbr.trans (hb1.mono hbr.size)
      rw [h0.out]
      go_wp2
      go_roundw
      case rel => exact ⟨k + 1, by omega, by go_num, hend⟩
      case measure => simp [intOf]; omega

set_option maxHeartbeats 1000000 in
theorem ulidx_none (bx bl : Nat) (p d : Int) (xv lv : Value) (G0 : List Pm) (a : Option Addr) (cap : Nat) (G : List Pm) (w : World) (hJ : Capt w bx bl p d xv lv G0) (hl : G.length ≤ 1048576) (hok : ∀ g ∈ G, PmOk g) (hS : G = [] ∨ ∃ b off, a = some ⟨b, off, none⟩ ∧ b < w.heap.size ∧ PolysW w b off G) (hp : ∀ (i : Nat) (h : i < G.length), (likeT p (hdP G0)) G[i] = true) :
    Calls Try.prog 216 #[.slice a G.length cap, .func (.func 229) #[] #[.pointer (some ⟨bx, 0, none⟩), .pointer (some ⟨bl, 0, none⟩)]] w fun e w' => e = .returned (.int .i64 (-1)) ∧ Below w.heap.size w w' := by
  have HP := Lib.hid hp
  have HOK := Lib.hid hok
  have HJ := Lib.hid (fun (w' : World) (hb : Below w.heap.size w w') => (by exact hJ.below hb : Capt w' bx bl p d xv lv G0))
  clear hp hok hJ
  go_enter Try.func216, Try.ntmps216
  go_wp2
  go_loopw [8] (fun i wr => ∃ k : Nat, k ≤ G.length ∧ i = .int .i64 k ∧ Below w.heap.size w wr) (fun i _ => G.length - (intOf i).toNat)
  case atStart => exact ⟨0, by omega, rfl, Below.refl _ _⟩
  case round =>
    obtain ⟨k, hk, rfl, hbr⟩ := hrel
    by_cases hlt : k < G.length
    · have hlt' : (k : Int) < (G.length : Int) := by omega
      obtain ⟨b, off, rfl, hbb, hT⟩ : ∃ b off, a = some ⟨b, off, none⟩ ∧ b < w.heap.size ∧ PolysW w b off G := by
        rcases hS with rfl | h
        · simp at hlt
        · exact h
      obtain ⟨u, c0, c1, c2, s0⟩ := (hT.below hbr hbb) k hlt
      have HC := Lib.hid (unl_any bx bl p d xv lv G0 G[k] u wr (HJ.out wr hbr) (HOK.out _ (List.getElem_mem hlt)) s0)
      have h0 := Lib.hid (HP.out k hlt)
      clear s0 hT
      go_wp2_with fail
      ((with_reducible refine HC.out.mono ?_); rintro e w1 ⟨rfl, hb1⟩)
      have hend := hbr.trans (hb1.mono hbr.size)
      rw [h0.out]
      go_wp2
      go_roundw
      case rel => exact ⟨k + 1, by omega, by go_num, hend⟩
      case measure => simp [intOf]; omega
    · obtain rfl : k = G.length := by omega
      go_wp2
      go_ret
      exact ⟨rfl, hbr⟩

theorem ulcontains (bx bl : Nat) (p d : Int) (xv lv : Value) (G0 : List Pm) (v : Value) (G : List Pm) (w : World) (hJ : Capt w bx bl p d xv lv G0) (hl : G.length ≤ 1048576) (hok : ∀ g ∈ G, PmOk g) (hS : SlP w v G) :
    Calls Try.prog 152 #[v, .func (.func 229) #[] #[.pointer (some ⟨bx, 0, none⟩), .pointer (some ⟨bl, 0, none⟩)]] w fun e w' => e = .returned (.bool (!G.all (likeT p (hdP G0)))) ∧ Below w.heap.size w w' := by
  obtain ⟨a, cap, rfl, hc⟩ := hS
  cases h : G.all (likeT p (hdP G0))
  · obtain ⟨j, hj, hn, hp⟩ := first_outP (likeT p (hdP G0)) G h
    obtain ⟨b, off, rfl, hbb, hT⟩ : ∃ b off, a = some ⟨b, off, none⟩ ∧ b < w.heap.size ∧ PolysW w b off G := by
      rcases hc with rfl | h
      · simp at hj
      · exact h
    have HC := Lib.hid (ulidx_some bx bl p d xv lv G0 b off cap G w hJ hbb hl hok hT j hj hn hp)
    clear h hc hn hp hok hT hJ
    go_enter Try.func152, Try.ntmps152
    go_wp2_with fail
    ((with_reducible refine HC.out.mono ?_); rintro e w1 ⟨rfl, hb1⟩)
    go_wp2
    go_ret
    exact ⟨rfl, hb1⟩
  · have hp : ∀ (i : Nat) (hi : i < G.length), (likeT p (hdP G0)) G[i] = true := fun i hi => List.all_eq_true.1 h _ (List.getElem_mem hi)
    have HC := Lib.hid (ulidx_none bx bl p d xv lv G0 a cap G w hJ hl hok hc hp)
    clear h hp hok hc hJ
    go_enter Try.func152, Try.ntmps152
    go_wp2_with fail
    ((with_reducible refine HC.out.mono ?_); rintro e w1 ⟨rfl, hb1⟩)
    go_wp2
    go_ret
    exact ⟨rfl, hb1⟩
end Go.Proofs.Ytbahejlgfpilnaa
namespace Go.Proofs.Ytbahejlgfpilnaa
open Go.RowKit Go.Sort Go.Maps

/-- A box of a polynomial and one of a list. -/
theorem boxPL (w : World) (p d : Int) (v lv : Value) : ∃ W, W = (w.alloc (.cells #[.int .i64 p, .int .i64 d, v] 42)).alloc (.cells #[lv] 27) ∧ Below w.heap.size w W ∧ (W.heap.size ≤ w.heap.size + 2 ∧ w.heap.size + 2 ≤ W.heap.size) ∧
      W.rowIs w.heap.size 42 3 (polyF p d v) ∧ W.cell? ⟨w.heap.size + 1, 0, none⟩ = some lv := by
  refine ⟨_, rfl, box2 _ _ _, ⟨by simp, by simp⟩, ?_, ?_⟩
  · refine World.rowIs.alloc (World.rowIs_alloc w #[Value.int .i64 p, .int .i64 d, v] _ _ (fun i hi => ?_)) _
    simp at hi; match i, hi with | 0, _ => rfl | 1, _ => rfl | 2, _ => rfl
  · have := (World.rowIs_alloc (w.alloc (.cells #[.int .i64 p, .int .i64 d, v] 42)) #[lv] 27 (fun _ => lv) (fun i hi => by simp at hi; subst hi; rfl)).cell (i := 0) (by simp)
    rwa [World.size_alloc] at this
theorem nthE_cell {w : World} {B : Nat} {x y z u : Int} (h : w.rowIs B 151 4 (tmF x y z u)) {k : Nat} (hk : k < 3) : w.cell? ⟨B, k, none⟩ = some (.int .u8 (nthE (x, y, z) k)) := by
  have := h.cell (i := k) (by omega)
  rw [this]
  match k, hk with
  | 0, _ => rfl
  | 1, _ => rfl
  | 2, _ => rfl

set_option maxRecDepth 8000 in
set_option maxHeartbeats 16000000 in
theorem csub (p d : Int) (v lv : Value) (xs : List Tm) (G : List Pm) (w : World) (hl : xs.length ≤ 1048576) (hS : SliceT w v xs) (hby : ∀ t ∈ xs, tmByte t) (hlG : G.length ≤ 1048576) (hok : ∀ g ∈ G, PmOk g) (hG : SlP w lv G) :
    Calls Try.prog 183 #[.agg #[.int .i64 p, .int .i64 d, v], lv] w fun e w' => e = .returned (.int .i64 (subsC p d xs G)) ∧ Below w.heap.size w w' := by
  obtain ⟨a, cap, rfl, _⟩ := id hS
  obtain ⟨la, lc, rfl, hc⟩ := id hG
  obtain ⟨W, hW, hbW, ⟨hWs1, hWs2⟩, rx, rl⟩ := boxPL w p d (.slice a xs.length cap) (.slice la G.length lc)
  obtain ⟨⟨c0, c1, c2⟩, _⟩ := poly3 rx
  have hSW := hS.below hbW
  have hGW := hG.below hbW
  have HI := Lib.hid (inv_any (p, d, xs) (.slice a xs.length cap) W trivial ⟨hby, hl⟩ hSW)
  have HQ : Hid (isPm (p, d, xs) = isPolyB p d xs) := Lib.hid rfl
  go_enter Try.func183, Try.ntmps183
  go_wp2_with fail
  rw [← hW]
  clear hW
  ((refine HI.out.mono ?_); rintro e w1 ⟨rfl, hb1⟩)
  rw [HQ.out]
  have hbw1 := hbW.trans (hb1.mono hbW.size)
  have rx1 := rowIs_below rx hb1 rx.lt
  have hq0 : w.heap.size + 1 < W.heap.size := by omega
  have rl1 := (hb1.cell (p := ⟨w.heap.size + 1, 0, none⟩) hq0).trans rl
  have hG1 := hGW.below hb1
  have hs1 := hb1.size
  have hq1 : w.heap.size + 1 < w1.heap.size := by omega
  clear c0 c1 c2 HI HQ
  cases hB : isPolyB p d xs
  · have HO : Hid (subsC p d xs G = 1) := Lib.hid (by simp [subsC, hB])
    clear hB
    go_wp2_with fail
    go_ret
    exact ⟨retI HO.out.symm, hbw1⟩
  have HC := Lib.hid (ivcontains (.slice la G.length lc) G w1 trivial hlG hok hG1)
  obtain ⟨B, hB1⟩ : ∃ B, G.all isPm = B := ⟨_, rfl⟩
  rw [hB1] at HC
  have HB := Lib.hid hB
  clear hB
  go_wp2_with fail
  ((with_reducible refine HC.out.mono ?_); rintro e w2 ⟨rfl, hb2⟩)
  have hbw2 := hbw1.trans (hb2.mono hbw1.size)
  have rx2 := rowIs_below rx1 hb2 rx1.lt
  have rl2 := (hb2.cell (p := ⟨w.heap.size + 1, 0, none⟩) hq1).trans rl1
  have hG2 := hG1.below hb2
  have hs2 := hb2.size
  clear HC rx1 rl1 hG1
  cases B
  · have HO : Hid (subsC p d xs G = 1) := Lib.hid (by simp only [subsC, hB1, Bool.and_false]; rfl)
    clear hB1
    go_wp2_with fail
    go_ret
    exact ⟨retI HO.out.symm, hbw2⟩
  have HP := Lib.hid hB1
  clear hB1
  obtain ⟨⟨c0, c1, c2⟩, _⟩ := poly3 rx2
  by_cases hd : ¬ (G.length : Int) = d
  · have HO : Hid (subsC p d xs G = 2) := Lib.hid (by simp [subsC, HB.out, HP.out, hd])
    have hdn : ((G.length : Int) != d) = true := by simpa using hd
    clear hd
    go_wp2_with fail
    go_ret
    exact ⟨retI HO.out.symm, hbw2⟩
  have hd := Classical.not_not.1 hd
  subst hd
  have hdn : ((G.length : Int) != (G.length : Int)) = false := by simp
  obtain ⟨g1, g3⟩ : (1 : Int) ≤ (G.length : Int) ∧ (G.length : Int) ≤ 3 := by
    have := HB.out
    simp only [isPolyB, Bool.and_eq_true, decide_eq_true_eq] at this
    exact this.2.1
  have hn0 : 0 < G.length := by omega
  have hJ : Capt w2 w.heap.size (w.heap.size + 1) p (G.length : Int) (.slice a xs.length cap) (.slice la G.length lc) G := ⟨rx2, rl2, by omega, hG2, hn0⟩
  have HC := Lib.hid (ulcontains w.heap.size (w.heap.size + 1) p (G.length : Int) (.slice a xs.length cap) (.slice la G.length lc) G (.slice la G.length lc) G w2 hJ hlG hok hG2)
  obtain ⟨B, hB1⟩ : ∃ B, G.all (likeT p (hdP G)) = B := ⟨_, rfl⟩
  rw [hB1] at HC
  go_wp2_with fail
  ((with_reducible refine HC.out.mono ?_); rintro e w3 ⟨rfl, hb3⟩)
  have hbw3 := hbw2.trans (hb3.mono hbw2.size)
  have hs3 := hb3.size
  have hJ3 := hJ.below hb3
  clear HC c0 c1 c2 rx2 rl2 hG2 hJ
  cases B
  · have HO : Hid (subsC p (G.length : Int) xs G = 2) := Lib.hid (by simp [subsC, HB.out, HP.out, hB1])
    clear hB1
    go_wp2_with fail
    go_ret
    exact ⟨retI HO.out.symm, hbw3⟩
  have HK := Lib.hid hB1
  clear hB1
  have HX : Hid (subsC p (G.length : Int) xs G = if xs.all (fun t => decide (bndE (tmsL G) (tmE t) ≤ 12)) = true then 0 else 3) := Lib.hid (by simp [subsC, HB.out, HP.out, HK.out])
  have HV := Lib.hid (valid_of HB.out hby)
  have HD := Lib.hid (dg_bound hok HP.out)
  have HPV : Hid (∀ g ∈ G, Valid g.1 g.2.1 g.2.2) := Lib.hid (fun g hg => isPm_valid (hok g hg) (List.all_eq_true.1 HP.out g hg))
  have HOK := Lib.hid hok
  have HF := Lib.hid (fun e => bndK_full (Ls := tmsL G) (by rw [tmsL_len]; omega) (by rw [tmsL_len]; omega) e)
  have HLN := Lib.hid (tmsL_len G)
  obtain ⟨⟨c0, c1, c2⟩, _⟩ := poly3 hJ3.x
  have l0 := hJ3.l
  have hSW3 := hS.below hbw3
  clear hok hby hS hG hc hSW hGW rx rl
  go_wp2_with fail
  clear c0 c1 c2 l0
  go_loopw [34] (fun i wr => ∃ k : Nat, k ≤ xs.length ∧ i = .int .i64 k ∧ Hid (∀ (j : Nat) (h : j < xs.length), j < k → bndE (tmsL G) (tmE xs[j]) ≤ 12) ∧ Below w3.heap.size w3 wr) (fun i _ => xs.length - (intOf i).toNat)
  case atStart => exact ⟨0, by omega, rfl, Lib.hid (fun j _ h => by omega), Below.refl _ _⟩
  case round =>
    obtain ⟨k, hk, rfl, HU, hbr⟩ := hrel
    obtain ⟨wo, rfl⟩ : ∃ wo : World, wo = wr := ⟨_, rfl⟩
    by_cases hlt : k < xs.length
    · have hlt' : (k : Int) < (xs.length : Int) := by omega
      have hSr := hSW3.below hbr
      obtain ⟨A1, cap1, hv1, hcase1⟩ := hSr
      simp at hv1
      obtain ⟨rfl, rfl⟩ := hv1
      rcases hcase1 with h0 | ⟨b1, off1, rfl, hltb1, hTx⟩
      · rw [h0] at hlt; exact absurd hlt (by simp)
      obtain ⟨d0, d1, d2, d3⟩ := hTx k hlt
      have hm12 := (HV.out.mem xs[k] (List.getElem_mem _)).1
      have HE := Lib.hid (nthE_bound hm12)
      have HBK := Lib.hid (bndK_bound (Ls := tmsL G) hm12 HD.out)
      simp only [tmE] at HE HBK
      have HT : Hid (tmE xs[k] = (xs[k].1, xs[k].2.1, xs[k].2.2.1)) := Lib.hid rfl
      generalize hx : xs[k].1 = x at *
      generalize hy : xs[k].2.1 = y at *
      generalize hz : xs[k].2.2.1 = z at *
      generalize hvv : xs[k].2.2.2 = u at *
      have hJr := hJ3.below hbr
      obtain ⟨wx, hwx, hbx, rt⟩ : ∃ wx, wx = wo.alloc (.cells #[.int .u8 x, .int .u8 y, .int .u8 z, .int .i64 u] 151) ∧ Below wo.heap.size wo wx ∧ wx.rowIs wo.heap.size 151 4 (tmF x y z u) := ⟨_, rfl, box1 _ _, trow wo x y z u⟩
      have l0 : ∀ o, (wo.alloc o).cell? ⟨w.heap.size + 1, 0, none⟩ = some (.slice la G.length lc) := fun o => ((box1 wo o).cell (p := ⟨w.heap.size + 1, 0, none⟩) hJr.ltl).trans hJr.l
      have hJx := hJr.below hbx
      have hbrx := hbr.trans (hbx.mono hbr.size)
      clear hx hy hz hvv hTx hm12 hJr
      go_wp2_with fail
      rw [← hwx]
      clear hwx l0 d0 d1 d2 d3
      go_loopw [40, 9] (fun i bd wr => ∃ m : Nat, m ≤ G.length ∧ i = .int .i64 m ∧ bd = .int .i64 (bndK (tmsL G) (x, y, z) m) ∧ Below wx.heap.size wx wr) (fun i _ _ => G.length - (intOf i).toNat)
      case atStart => exact ⟨0, by omega, rfl, rfl, Below.refl _ _⟩
      case round =>
        obtain ⟨m, hm, rfl, rfl, hb5⟩ := hrel
        by_cases hlm : m < G.length
        · have hlm' : (m : Int) < (G.length : Int) := by omega
          have hm3 : m < 3 := by omega
          have hm3' : (m : Int) < 3 := by omega
          have hJ5 := hJx.below hb5
          obtain ⟨la', lc', hlv, hcl⟩ := hJ5.s
          simp at hlv
          obtain ⟨rfl, rfl⟩ := hlv
          obtain ⟨b, off, rfl, hbb, hT⟩ : ∃ b off, la = some ⟨b, off, none⟩ ∧ b < wr.heap.size ∧ PolysW wr b off G := by
            rcases hcl with h | h
            · rw [h] at hlm; simp at hlm
            · exact h
          obtain ⟨uv, g0, g1, g2, hu⟩ := hT m hlm
          obtain ⟨ua, uc, rfl, _⟩ := id hu
          have hv := HPV.out G[m] (List.getElem_mem hlm)
          have hDG : dgN (tmsL G) m = max (degI G[m].2.2) 0 := by unfold dgN; rw [tmsL_nth hlm]
          obtain ⟨dg1, dg2⟩ := deg_bound hv
          obtain ⟨V, hV1, hbV, _, rq⟩ := newbox wr G[m].1 G[m].2.1 (.slice ua G[m].2.2.length uc)
          have kD : ∀ dd os, Calls Try.prog 135 #[.agg #[.int .i64 G[m].1, .int .i64 G[m].2.1, .slice ua G[m].2.2.length uc]] (grow (redrawn V dd) os) fun e w'' => e = .returned (.int .i64 (degI G[m].2.2)) ∧ ∃ p : Regrown, w'' = grow (redrawn V p.d) p.os := fun dd os =>
            Calls.regrown_of (degree_any2 _ _ _ _ _ (HOK.out _ (List.getElem_mem hlm)).2 ((hu.below hbV).below (below_regrown V dd os)) (HOK.out _ (List.getElem_mem hlm)).1 (fun t ht => (hv.mem t ht).1.2))
          obtain ⟨⟨c0, c1, c2⟩, _⟩ := poly3 rq
          have k0 := cell_regrown c0
          have k1 := cell_regrown c1
          have k2 := cell_regrown c2
          have rtV := rowIs_below (rowIs_below rt hb5 rt.lt) hbV (Nat.lt_of_lt_of_le rt.lt hb5.size)
          have k3 := cell_regrown (nthE_cell rtV hm3)
          obtain ⟨e0, e1⟩ := HE.out m
          obtain ⟨bk0, bk1⟩ := HBK.out m
          obtain ⟨mx, hmx⟩ : ∃ mx, max (degI G[m].2.2) 0 = mx := ⟨_, rfl⟩
          have hmx1 : 0 ≤ mx ∧ mx ≤ 12 := by omega
          rw [hmx] at hDG
          have HNX : Hid (bndK (tmsL G) (x, y, z) (m + 1) = bndK (tmsL G) (x, y, z) m + nthE (x, y, z) m * mx) := Lib.hid (by rw [bndK, hDG])
          have m0 : 0 ≤ nthE (x, y, z) m * mx := Int.mul_nonneg e0 hmx1.1
          have m1 : nthE (x, y, z) m * mx ≤ 12 * 12 := Int.mul_le_mul e1 hmx1.2 hmx1.1 (by omega)
          have hw1 : IntKind.i64.wrap (nthE (x, y, z) m * mx) = nthE (x, y, z) m * mx := IntWalk.i64_in _ (by omega)
          have hw2 : IntKind.i64.wrap (bndK (tmsL G) (x, y, z) m + nthE (x, y, z) m * mx) = bndK (tmsL G) (x, y, z) m + nthE (x, y, z) m * mx := IntWalk.i64_in _ (by omega)
          have hb6 := hb5.trans (hbV.mono hb5.size)
          obtain ⟨E, hE⟩ : ∃ E, nthE (x, y, z) m = E := ⟨_, rfl⟩
          obtain ⟨S, hS⟩ : ∃ S, bndK (tmsL G) (x, y, z) m = S := ⟨_, rfl⟩
          rw [hE] at k3 HNX m0 m1 hw1 hw2 e0 e1
          rw [hS] at HNX hw2 bk0 bk1 ⊢
          clear c0 c1 c2 hu hv hT hcl hDG hJ5 rtV hE hS
          go_wp2_with fail
          rw [← hV1]
          clear hV1 g0 g1 g2
          refine wp_region_quiet_below (by kernel_rfl) (by kernel_rfl) ?_
          repeat (go_big_quiet_step (with_reducible exact kD _ _))
          refine wpQuiet_nil ?_
          intro _ hw'
          obtain ⟨⟨dq, osq⟩, hw''⟩ := hw'
          subst hw''
          have hend := hb6.trans ((below_regrown V dq osq).mono hb6.size)
          generalize grow (redrawn V dq) osq = w7 at *
          clear k0 k1 k2 k3 kD
          go_wp2_with fail
          go_roundw
          case rel => exact ⟨m + 1, by omega, by go_num, by rw [HNX.out], hend⟩
          case measure => simp [intOf]; omega
        · obtain rfl : m = G.length := by omega
          have hF := HF.out (x, y, z)
          rw [HLN.out] at hF
          rw [hF]
          obtain ⟨bk0, bk1⟩ := HBK.out G.length
          rw [hF] at bk0 bk1
          have hbr2 := hbrx.trans (hb5.mono hbrx.size)
          by_cases hb12 : bndE (tmsL G) (x, y, z) ≤ 12
          · have hN : Hid (∀ (j : Nat) (h : j < xs.length), j < k + 1 → bndE (tmsL G) (tmE xs[j]) ≤ 12) := Lib.hid (fun j hj hjk => by
              by_cases e : j = k
              · subst e; rw [HT.out]; exact hb12
              · exact HU.out j hj (by omega))
            have hgt : decide (12 < bndE (tmsL G) (x, y, z)) = false := by simpa using hb12
            clear hb12 hF
            go_wp2_with fail
            go_roundw
            case rel => exact ⟨k + 1, by omega, by go_num, hN, hbr2⟩
            case measure => simp [intOf]; omega
          · have HO : Hid (subsC p (G.length : Int) xs G = 3) := Lib.hid (by
              rw [HX.out, if_neg]
              intro hall
              have := List.all_eq_true.1 hall xs[k] (List.getElem_mem hlt)
              rw [HT.out] at this
              exact hb12 (by simpa using this))
            have hgt : decide (12 < bndE (tmsL G) (x, y, z)) = true := by simpa using hb12
            have hend := hbw3.trans (hbr2.mono hbw3.size)
            clear hb12 hF
            go_wp2_with fail
            go_ret
            exact ⟨retI HO.out.symm, hend⟩
    · obtain rfl : k = xs.length := by omega
      have HO : Hid (subsC p (G.length : Int) xs G = 0) := Lib.hid (by
        rw [HX.out, if_pos]
        rw [List.all_eq_true]
        intro t ht
        obtain ⟨j, hj, rfl⟩ := List.mem_iff_getElem.1 ht
        simpa using HU.out j hj hj)
      have hend := hbw3.trans (hbr.mono hbw3.size)
      go_wp2_with fail
      go_ret
      exact ⟨retI HO.out.symm, hend⟩
end Go.Proofs.Ytbahejlgfpilnaa
namespace Go.Proofs.Ytbahejlgfpilnaa
open Go.RowKit Go.Sort Go.Maps

/-- The outcome of a substitution. -/
def SubO (p d : Int) (xs : List Tm) (G : List Pm) (o : OutP) : Prop :=
  (subsC p d xs G ≠ 0 ∧ o = noP (subsC p d xs G)) ∨ (subsC p d xs G = 0 ∧ ∃ P L, Subs p (tmsL G) xs P ∧ IsP p L (subF p P xs) ∧ o = ⟨p, (hdP G).2.1, L, 0⟩)
theorem subs_zero {p d : Int} {xs : List Tm} {G : List Pm} (hok : ∀ g ∈ G, PmOk g) (h : subsC p d xs G = 0) : isPolyB p d xs = true ∧ ListP p (hdP G).2.1 G ∧ (G.length : Int) = d ∧ Bnd (tmsL G) xs ∧ ∀ t ∈ xs, ∀ i, G.length ≤ i → nthE (tmE t) i = 0 := by
  unfold subsC at h
  split at h
  · rename_i h1
    split at h
    · rename_i h2
      split at h
      · rename_i h3
        simp only [Bool.and_eq_true, decide_eq_true_eq] at h1 h2
        have hd : 1 ≤ d ∧ d ≤ 3 := by
          have := h1.1
          simp only [isPolyB, Bool.and_eq_true, decide_eq_true_eq] at this
          exact this.2.1
        refine ⟨h1.1, ⟨by omega, by omega, fun g hg => ?_⟩, h2.1, fun t ht => by simpa using List.all_eq_true.1 h3 t ht, fun t ht i hi => ?_⟩
        · have hl := List.all_eq_true.1 h2.2 g hg
          simp only [likeT, Bool.and_eq_true, decide_eq_true_eq] at hl
          have hv := isPm_valid (hok g hg) (List.all_eq_true.1 h1.2 g hg)
          rw [hl.1, hl.2.2] at hv
          exact ⟨hl.1, hl.2.2, hv⟩
        · have hc : chain p d none xs = true := by
            have := h1.1
            simp only [isPolyB, Bool.and_eq_true] at this
            simpa [tailB, prevT] using this.2.2
          have hk := (chain_asc p d xs none hc).2.2 t ht
          simp only [termOk, expsOk, tailOk, Bool.and_eq_true, Bool.or_eq_true, decide_eq_true_eq, beq_iff_eq] at hk
          obtain ⟨⟨⟨⟨_, hy⟩, hz⟩, _⟩, _⟩ := hk
          unfold nthE
          simp only [tmE]
          split
          · omega
          · split
            · subst_vars; omega
            · split
              · subst_vars; omega
              · rfl
      · exact absurd h (by decide)
    · exact absurd h (by decide)
  · exact absurd h (by decide)
theorem subO_ex {p d : Int} {xs : List Tm} {G : List Pm} (hok : ∀ g ∈ G, PmOk g) (hby : ∀ t ∈ xs, tmByte t) : ∃ o, SubO p d xs G o := by
  by_cases h : subsC p d xs G = 0
  · obtain ⟨h1, hLP, _, hB, _⟩ := subs_zero hok h
    have hl1 := hLP.l1
    have hx := (hLP.ok G[0] (List.getElem_mem (by omega))).2.2
    have hX := valid_of h1 hby
    obtain ⟨P, hP⟩ := subs_ex hx hLP.tms hX hB
    obtain ⟨L, hL⟩ : ∃ L, IsP p L (subF p P xs) := by
      have key : ∀ k, k ≤ xs.length → ∃ L, IsP p L (subF p P (xs.take k)) := fun k => by
        induction k with
        | zero => exact fun _ => ⟨[], (IsP.nil p).congr fun e _ => (subF_zero p P xs e).symm⟩
        | succ k ih =>
          intro hk
          obtain ⟨L, hL⟩ := ih (by omega)
          have hlt : k < xs.length := by omega
          obtain ⟨f, hf⟩ := (hP xs[k] (List.getElem_mem hlt)).isP
          obtain ⟨M, hM⟩ := plus_ex (k := xs[k].2.2.2) ⟨_, hL⟩ (P (tmE xs[k])) (hx.of_isP hf)
          exact ⟨M, hM.congr fun e he => by rw [addF, hL.2.2 e he, subF_take p P xs k hlt e]⟩
      have := key xs.length (Nat.le_refl _)
      rwa [List.take_length] at this
    exact ⟨_, .inr ⟨h, P, L, hP, hL, rfl⟩⟩
  · exact ⟨_, .inl ⟨h, rfl⟩⟩
theorem subO_len {p d : Int} {xs : List Tm} {G : List Pm} {o : OutP} (h : SubO p d xs G o) : o.S.length ≤ 1048576 := by
  rcases h with ⟨_, rfl⟩ | ⟨_, P, L, _, hL, rfl⟩
  · simp [noP]
  · exact Nat.le_trans hL.len (by omega)
/-- What lies in cells stays where a block that holds no cells is written. -/
theorem SliceT.besideN {w w' : World} {b : Nat} {v : Value} {ts : List Tm} (h : SliceT w v ts) (hno : ∀ o, w.cell? ⟨b, o, none⟩ = none) (hg : w.grownBy w' (some b)) : SliceT w' v ts := by
  obtain ⟨a, cap, hv, h | ⟨b1, off, ha, hlt, hT⟩⟩ := h
  · exact ⟨a, cap, hv, .inl h⟩
  by_cases hn : ts = []
  · exact ⟨a, cap, hv, .inl hn⟩
  refine ⟨a, cap, hv, .inr ⟨b1, off, ha, Nat.lt_of_lt_of_le hlt hg.size, ?_⟩⟩
  have hne : b1 ≠ b := fun e => by
    have h0 := (hT 0 (List.length_pos_iff.2 hn)).1
    rw [e, hno] at h0
    simp at h0
  have q : ∀ o, w'.cell? ⟨b1, o, none⟩ = w.cell? ⟨b1, o, none⟩ := fun o => hg.cell_far ⟨b1, o, none⟩ hlt (by simpa using hne)
  intro k hk
  obtain ⟨c0, c1, c2, c3⟩ := hT k hk
  exact ⟨(q _).trans c0, (q _).trans c1, (q _).trans c2, (q _).trans c3⟩
theorem SlP.besideN {w w' : World} {b : Nat} {v : Value} {G : List Pm} (h : SlP w v G) (hno : ∀ o, w.cell? ⟨b, o, none⟩ = none) (hg : w.grownBy w' (some b)) : SlP w' v G := by
  obtain ⟨a, cap, hv, h | ⟨b1, off, ha, hlt, hT⟩⟩ := h
  · exact ⟨a, cap, hv, .inl h⟩
  · refine ⟨a, cap, hv, .inr ⟨b1, off, ha, Nat.lt_of_lt_of_le hlt hg.size, fun k hk => ?_⟩⟩
    obtain ⟨u, h0, h1, h2, hS⟩ := hT k hk
    have hne : b1 ≠ b := fun e => by
      rw [e, hno] at h0
      simp at h0
    have q : ∀ o, w'.cell? ⟨b1, o, none⟩ = w.cell? ⟨b1, o, none⟩ := fun o => hg.cell_far ⟨b1, o, none⟩ hlt (by simpa using hne)
    exact ⟨u, (q _).trans h0, (q _).trans h1, (q _).trans h2, hS.besideN hno hg⟩
theorem MapE.noCell {w : World} {b n : Nat} {D : DataW Unit} (h : MapE w b n D) (o : Nat) : w.cell? ⟨b, o, none⟩ = none := by
  obtain ⟨es, clock, hb, _⟩ := h
  simp [World.cell?, hb]
theorem DoneP.besideN {w w' : World} {b b' n : Nat} {D : DataW Value} {p d : Int} {Ls : List (List Tm)} (h : DoneP w b n D p d Ls) (hne : b ≠ b') (hno : ∀ o, w.cell? ⟨b', o, none⟩ = none) (hg : w.grownBy w' (some b')) : DoneP w' b n D p d Ls :=
  ⟨h.map.kept hg (by simpa using hne), h.one, fun e he hh => by
    obtain ⟨v, L, h1, h2, h3⟩ := h.ok e he hh
    exact ⟨v, L, h1, h2.besideN hno hg, h3⟩⟩
/-- The map with the product of nothing. -/
theorem DoneP.first {w w' : World} {b : Nat} {p d : Int} {Ls : List (List Tm)} {v : Value} (hp : 2 ≤ p) (hM : MapP w b 0 (.map [])) (hS : SliceT w v (constL 1))
    (hm : MapP w' b 1 (DataW.put (.map []) (kE (0, 0, 0)) (.held (.agg #[.int .i64 p, .int .i64 d, v])))) (hg : w.grownBy w' (some b)) : DoneP w' b 1 (DataW.put (.map []) (kE (0, 0, 0)) (.held (.agg #[.int .i64 p, .int .i64 d, v]))) p d Ls := by
  have hz : byte3 ((0 : Int), (0 : Int), (0 : Int)) := by unfold byte3; simp
  refine ⟨hm, has_put_same hM.isMap (kE_key _) _, fun e he hh => ?_⟩
  by_cases hx : e = (0, 0, 0)
  · subst hx
    refine ⟨v, constL 1, atKey_put_same hM.isMap (kE_key _) _ _, hS.besideP hM hg, ?_⟩
    rw [fac_zero]
    show IsP p (constL 1) (fun e => if e = (0, 0, 0) then 1 else 0)
    refine ⟨by simp [constL, Asc], fun t ht => ?_, fun e _ => ?_⟩
    · simp [constL, mkT] at ht
      subst ht
      exact ⟨⟨by unfold byte3 tmE; simp, by simp [tmE]⟩, by simp, by simp only []; omega⟩
    · by_cases h : e = (0, 0, 0)
      · subst h; simp [constL, mkT, atL, tmE]
      · have h' : ¬ (0, 0, 0) = e := fun x => h x.symm
        simp [constL, mkT, atL, tmE, h, h']
  · rw [has_put_other (kE_ne he hz hx)] at hh
    simp [Maps.has] at hh
end Go.Proofs.Ytbahejlgfpilnaa
namespace Go.Proofs.Ytbahejlgfpilnaa
open Go.RowKit Go.Sort Go.Maps

/-- The elementary polynomial of k in d letters. -/
def eT (d k : Nat) : List Tm := rT (eM d k) (onesL (eM d k))
where eM : Nat → Nat → List (Int × Int × Int)
  | 1, 1 => [(1, 0, 0)]
  | 2, 1 => [(1, 0, 0), (0, 1, 0)]
  | 2, 2 => [(1, 1, 0)]
  | 3, 1 => [(1, 0, 0), (0, 1, 0), (0, 0, 1)]
  | 3, 2 => [(1, 1, 0), (1, 0, 1), (0, 1, 1)]
  | 3, 3 => [(1, 1, 1)]
  | _, _ => []
theorem eT_cases {d k : Nat} (hd : 1 ≤ d ∧ d ≤ 3) (hk : 1 ≤ k ∧ k ≤ d) : (d = 1 ∧ k = 1) ∨ (d = 2 ∧ k = 1) ∨ (d = 2 ∧ k = 2) ∨ (d = 3 ∧ k = 1) ∨ (d = 3 ∧ k = 2) ∨ (d = 3 ∧ k = 3) := by omega
theorem eT_img {d k : Nat} (hd : 1 ≤ d ∧ d ≤ 3) (hk : 1 ≤ k ∧ k ≤ d) : indF (imgL (elL d k) (sOrd d)) = indF (eT.eM d k) := by
  refine ind_same fun e => ?_
  have key : ∀ (A B : List (Int × Int × Int)), (A.all fun x => B.contains x) = true → (B.all fun x => A.contains x) = true → (e ∈ A ↔ e ∈ B) := fun A B h1 h2 =>
    ⟨fun h => by simpa using List.all_eq_true.1 h1 e h, fun h => by simpa using List.all_eq_true.1 h2 e h⟩
  rcases eT_cases hd hk with ⟨rfl, rfl⟩ | ⟨rfl, rfl⟩ | ⟨rfl, rfl⟩ | ⟨rfl, rfl⟩ | ⟨rfl, rfl⟩ | ⟨rfl, rfl⟩ <;> exact key _ _ (by decide +kernel) (by decide +kernel)
theorem eT_poly {p : Int} (hp : primeB p = true) {d k : Nat} (hd : 1 ≤ d ∧ d ≤ 3) (hk : 1 ≤ k ∧ k ≤ d) : isPolyB p (d : Int) (eT d k) = true := by
  have hps : p = 2 ∨ p = 3 ∨ p = 5 ∨ p = 7 ∨ p = 11 ∨ p = 13 := by
    simp only [primeB, Bool.or_eq_true, beq_iff_eq] at hp
    omega
  rcases eT_cases hd hk with ⟨rfl, rfl⟩ | ⟨rfl, rfl⟩ | ⟨rfl, rfl⟩ | ⟨rfl, rfl⟩ | ⟨rfl, rfl⟩ | ⟨rfl, rfl⟩ <;> rcases hps with rfl | rfl | rfl | rfl | rfl | rfl <;> decide +kernel
theorem eT_byte (d k : Nat) : ∀ t ∈ eT d k, tmByte t := by
  have key : ∀ (L : List Tm), (L.all fun t => decide (((0 ≤ t.1 ∧ t.1 ≤ 255) ∧ (0 ≤ t.2.1 ∧ t.2.1 ≤ 255) ∧ (0 ≤ t.2.2.1 ∧ t.2.2.1 ≤ 255)) ∧ (-9223372036854775808 ≤ t.2.2.2 ∧ t.2.2.2 ≤ 9223372036854775807))) = true → ∀ t ∈ L, tmByte t := fun L h t ht => by
    have h2 := List.all_eq_true.1 h t ht
    simp only [decide_eq_true_eq] at h2
    exact h2
  match d, k with
  | 1, 1 => exact key _ (by decide +kernel)
  | 2, 1 => exact key _ (by decide +kernel)
  | 2, 2 => exact key _ (by decide +kernel)
  | 3, 1 => exact key _ (by decide +kernel)
  | 3, 2 => exact key _ (by decide +kernel)
  | 3, 3 => exact key _ (by decide +kernel)
  | 0, k => intro t ht; simp [eT, eT.eM, rT] at ht
  | 1, 0 => intro t ht; simp [eT, eT.eM, rT] at ht
  | 1, k + 2 => intro t ht; simp [eT, eT.eM, rT] at ht
  | 2, 0 => intro t ht; simp [eT, eT.eM, rT] at ht
  | 2, k + 3 => intro t ht; simp [eT, eT.eM, rT] at ht
  | 3, 0 => intro t ht; simp [eT, eT.eM, rT] at ht
  | 3, k + 4 => intro t ht; simp [eT, eT.eM, rT] at ht
  | d + 4, k => intro t ht; simp [eT, eT.eM, rT] at ht
theorem eT_isP {p : Int} (hp : primeB p = true) {d k : Nat} (hd : 1 ≤ d ∧ d ≤ 3) (hk : 1 ≤ k ∧ k ≤ d) : IsP p (eT d k) (indF (imgL (elL d k) (sOrd d))) := by
  have hv := (valid_of (eT_poly hp hd hk) (eT_byte d k)).isP
  rw [eT_img hd hk]
  exact hv.congr fun e _ => ones_at _ e
theorem eT_ms {p : Int} (hp : primeB p = true) {d k : Nat} (hd : 1 ≤ d ∧ d ≤ 3) (hk : 1 ≤ k ∧ k ≤ d) : msS p (elL d k) = eT d k := by
  unfold msS
  rw [elL_len]
  exact isS_of (eT_isP hp hd hk)
theorem eT_len (d k : Nat) : (eT d k).length ≤ 3 := by
  match d, k with
  | 1, 1 => decide
  | 2, 1 => decide
  | 2, 2 => decide
  | 3, 1 => decide
  | 3, 2 => decide
  | 3, 3 => decide
  | 0, k => simp [eT, eT.eM, rT]
  | 1, 0 => simp [eT, eT.eM, rT]
  | 1, k + 2 => simp [eT, eT.eM, rT]
  | 2, 0 => simp [eT, eT.eM, rT]
  | 2, k + 3 => simp [eT, eT.eM, rT]
  | 3, 0 => simp [eT, eT.eM, rT]
  | 3, k + 4 => simp [eT, eT.eM, rT]
  | d + 4, k => simp [eT, eT.eM, rT]
/-- The first elementary polynomials. -/
def eLs (d k : Nat) : List (List Tm) := (List.range k).map fun i => eT d (i + 1)
theorem eLs_len (d k : Nat) : (eLs d k).length = k := by simp [eLs]
theorem eLs_step (d k : Nat) : eLs d (k + 1) = eLs d k ++ [eT d (k + 1)] := by simp [eLs, List.range_succ]
def eG (p : Int) (d : Nat) : List Pm := (eLs d d).map fun X => (p, (d : Int), X)
theorem eG_len (p : Int) (d : Nat) : (eG p d).length = d := by simp [eG, eLs]
theorem eG_mem {p : Int} {d : Nat} {g : Pm} (h : g ∈ eG p d) : ∃ k, 1 ≤ k ∧ k ≤ d ∧ g = (p, (d : Int), eT d k) := by
  obtain ⟨X, hX, rfl⟩ := List.mem_map.1 h
  obtain ⟨i, hi, rfl⟩ := List.mem_map.1 hX
  rw [List.mem_range] at hi
  exact ⟨i + 1, by omega, by omega, rfl⟩
theorem eG_ok (p : Int) (d : Nat) : ∀ g ∈ eG p d, PmOk g := fun g h => by
  obtain ⟨k, _, _, rfl⟩ := eG_mem h
  exact ⟨eT_byte d k, Nat.le_trans (eT_len d k) (by decide)⟩
theorem eG_hd (p : Int) {d : Nat} (h : 1 ≤ d) : hdP (eG p d) = (p, (d : Int), eT d 1) := by
  rw [hdP_at (by rw [eG_len]; omega)]
  simp [eG, eLs]
/-- The code of a substitution of elementary polynomials. -/
theorem eG_code {p : Int} {d : Nat} {xs : List Tm} (h : isPolyB p (d : Int) xs = true) : subsC p d xs (eG p d) = if xs.all (fun t => decide (bndE (tmsL (eG p d)) (tmE t) ≤ 12)) = true then 0 else 3 := by
  have h0 := h
  simp only [isPolyB, Bool.and_eq_true, decide_eq_true_eq] at h0
  have hp := h0.1
  have hd : 1 ≤ d ∧ d ≤ 3 := by have := h0.2.1; omega
  unfold subsC
  rw [if_pos, if_pos]
  · rw [Bool.and_eq_true, eG_hd p hd.1]
    refine ⟨by rw [eG_len]; simp, List.all_eq_true.2 fun g hg => ?_⟩
    obtain ⟨k, _, _, rfl⟩ := eG_mem hg
    simp [likeT]
  · rw [Bool.and_eq_true]
    refine ⟨h, List.all_eq_true.2 fun g hg => ?_⟩
    obtain ⟨k, h1, h2, rfl⟩ := eG_mem hg
    exact eT_poly hp hd ⟨h1, h2⟩
/-- The outcome of SymmetricOf. -/
def SymO (p d : Int) (xs : List Tm) (o : OutP) : Prop := (isPolyB p d xs = false ∧ o = noP 1) ∨ (isPolyB p d xs = true ∧ SubO p d xs (eG p d.toNat) o)
theorem symO_ex {p d : Int} {xs : List Tm} (hby : ∀ t ∈ xs, tmByte t) : ∃ o, SymO p d xs o := by
  cases h : isPolyB p d xs
  · exact ⟨_, .inl ⟨h, rfl⟩⟩
  · obtain ⟨o, ho⟩ := subO_ex (p := p) (d := d) (xs := xs) (eG_ok p d.toNat) hby
    exact ⟨o, .inr ⟨h, ho⟩⟩
theorem symO_len {p d : Int} {xs : List Tm} {o : OutP} (h : SymO p d xs o) : o.S.length ≤ 1048576 := by
  rcases h with ⟨_, rfl⟩ | ⟨_, h⟩
  · simp [noP]
  · exact subO_len h
end Go.Proofs.Ytbahejlgfpilnaa
namespace Go.Proofs.Ytbahejlgfpilnaa
open Go.RowKit Go.Sort Go.Maps

set_option maxHeartbeats 1000000 in
theorem constant_any (p d v : Int) (w : World) (h0 : 0 ≤ v) (h1 : v ≤ 1000000) :
    Calls Try.prog 161 #[.int .i64 p, .int .i64 d, .int .i64 v] w fun e w' =>
      ∃ v', e = .returned (.agg #[.int .i64 p, .int .i64 d, v']) ∧ OwnP w' w.heap.size v' (constL v) ∧ Below w.heap.size w w' := by
  have hmm := @run_makeMap Try.prog
  have hb0 : byte3 (0, 0, 0) := by simp [byte3]
  have hk0 : keyOf Try.prog 107 (.agg #[.int .u8 0, .int .u8 0, .int .u8 0]) = some (kE (0, 0, 0)) := keyOf_vE (0, 0, 0) hb0
  have rr : (w.alloc (.cells #[.int .i64 0, .int .i64 0, .slice none 0 0] 42)).rowIs w.heap.size 42 3 (polyF 0 0 (.slice none 0 0)) := World.rowIs_alloc w #[Value.int .i64 0, .int .i64 0, .slice none 0 0] 42 (polyF 0 0 (.slice none 0 0)) (fun i hi => by simp at hi; match i, hi with | 0, _ => rfl | 1, _ => rfl | 2, _ => rfl)
  have hmade := World.ownsMap_made (H := Unit) (w.alloc (.cells #[.int .i64 0, .int .i64 0, .slice none 0 0] 42)) Try.prog 107 (plainElem Try.prog 2)
  obtain ⟨W, hrun, hown, hgr⟩ := hmade.update lawK Try.underlying168 (by unfold maxLen; omega) hk0 (plainElem_int Try.underlying2 (wf64 h0 (by omega)))
  have rrW := (rr.alloc (.map #[] 0)).of_block (hgr.block _ (by simp; omega) (by simp))
  have hbW : Below w.heap.size w W := (box2 w _ _).grown hgr (by simp; omega) (fun k hk => by simp at hk; omega)
  have hsW : w.heap.size + 2 ≤ W.heap.size := by have := hgr.size; simp at this; omega
  have hb' : (w.alloc (.cells #[.int .i64 0, .int .i64 0, .slice none 0 0] 42)).heap.size = w.heap.size + 1 := by simp
  rw [hb'] at hrun hown
  clear rr hmade hgr hb'
  go_enter Try.func161, Try.ntmps161
  go_wp2_with fail
  have hcf : ∀ a, byte3 a → cf (DataW.put (H := Unit) (.map []) (kE (0, 0, 0)) (.lit (.int .i64 v))) a = if a = (0, 0, 0) then v else 0 := fun a ha => by
    rw [cf_put isMap_empty hb0 ha, cf_empty]
  refine (polyOf_any sort_says p d (w.heap.size + 1) (0 + 1) _ W hown (by omega) (fun e he hc => ?_)).mono ?_
  · rw [hcf e he] at hc
    by_cases h : e = (0, 0, 0)
    · subst h; simp
    · rw [if_neg h] at hc; exact absurd rfl hc
  rintro e w2 ⟨v', S, rfl, ho, hgood, hb2⟩
  obtain ⟨sa, sc, rfl⟩ := owns_slice ho
  have hS : S = constL v := hgood.one hb0 hcf
  clear hmm hk0 hrun hown hgood hcf
  have rr2 := rowIs_below rrW hb2 rrW.lt
  have hbw2 := hbW.trans (hb2.mono hbW.size)
  have r0 := rr2.cell (i := 0) (by omega)
  have r1 := rr2.cell (i := 1) (by omega)
  have r2 := rr2.cell (i := 2) (by omega)
  have z0 := rr2.frozen 0
  have z1 := rr2.frozen 1
  have z2 := rr2.frozen 2
  simp [polyF] at r0 r1 r2
  obtain ⟨a0, a1, a2, a3, a4⟩ := fill_box rr2 ho hbW.size hbw2 (Nat.le_refl _) p d
  have HF := Lib.hid (And.intro a3 a4)
  have HS := Lib.hid hS
  have A0 := Lib.hid a0
  have A1 := Lib.hid a1
  have A2 := Lib.hid a2
  clear a0 a1 a2 a3 a4 hS ho
  go_wp2_with fail
  rw [← HS.out]
  exact bodyPost_ret (v := .agg #[.int .i64 p, .int .i64 d, .slice sa S.length sc]) (by simp [results, Try.results161, go_sem, A0.out, A1.out, A2.out]) rfl ⟨_, rfl, HF.out.1, HF.out.2⟩
end Go.Proofs.Ytbahejlgfpilnaa
namespace Go.Proofs.Ytbahejlgfpilnaa
open Go.RowKit Go.Sort Go.Maps

theorem MapE.later {w w' : World} {b n : Nat} {D : DataW Unit} (h : MapE w b n D) (hb : Below w.heap.size w w') : MapE w' b n D :=
  h.kept (row := none) ⟨hb.os, hb.tape, hb.output, hb.size, fun k hk _ => hb.block k hk⟩ (by simp)
/-- What stands in memory: the map of what monomials become (block b), the coefficients (block b2), the boxes. -/
structure SubS (w wr : World) (b n b2 n2 : Nat) (D : DataW Value) (E : DataW Unit) (p d d' : Int) (xv lv : Value) (xs : List Tm) (G : List Pm) : Prop where
  don : DoneP wr b n D p d (tmsL G)
  map : MapE wr b2 n2 E
  arg : wr.rowIs w.heap.size 42 3 (polyF p d' xv)
  res : wr.rowIs (w.heap.size + 1) 42 3 (polyF 0 0 (.slice none 0 0))
  sx : SliceT wr xv xs
  sl : SlP wr lv G
  below : Below w.heap.size w wr
  bb : w.heap.size + 2 ≤ b ∧ w.heap.size + 2 ≤ b2 ∧ b ≠ b2
theorem SubS.later {w wr w1 : World} {b n b2 n2 : Nat} {D : DataW Value} {E : DataW Unit} {p d d' : Int} {xv lv : Value} {xs : List Tm} {G : List Pm} (h : SubS w wr b n b2 n2 D E p d d' xv lv xs G) (hb : Below wr.heap.size wr w1) : SubS w w1 b n b2 n2 D E p d d' xv lv xs G :=
  ⟨h.don.later hb, h.map.later hb, rowIs_below h.arg hb h.arg.lt, rowIs_below h.res hb h.res.lt, h.sx.below hb, h.sl.below hb, h.below.trans (hb.mono h.below.size), h.bb⟩
theorem SubS.putIn {w wr w1 : World} {b n n' b2 n2 : Nat} {D D' : DataW Value} {E : DataW Unit} {p d d' : Int} {xv lv : Value} {xs : List Tm} {G : List Pm} (h : SubS w wr b n b2 n2 D E p d d' xv lv xs G) (hg : wr.grownBy w1 (some b)) (hD : DoneP w1 b n' D' p d (tmsL G)) : SubS w w1 b n' b2 n2 D' E p d d' xv lv xs G :=
  ⟨hD, h.map.kept hg (by simpa using fun e => h.bb.2.2 e.symm), rowG h.arg hg (by have := h.bb; omega), rowG h.res hg (by have := h.bb; omega), h.sx.besideP h.don.map hg, h.sl.besideP h.don.map hg,
    h.below.grown hg h.below.size (fun g e => by have := h.bb; simp at e; omega), h.bb⟩
theorem SubS.added {w wr w1 : World} {b n b2 n2 n3 : Nat} {D : DataW Value} {E E' : DataW Unit} {p d d' : Int} {xv lv : Value} {xs : List Tm} {G : List Pm} (h : SubS w wr b n b2 n2 D E p d d' xv lv xs G) (hg : wr.grownBy w1 (some b2)) (hE : MapE w1 b2 n3 E') : SubS w w1 b n b2 n3 D E' p d d' xv lv xs G :=
  ⟨h.don.besideN h.bb.2.2 (h.map.noCell) hg, hE, rowG h.arg hg (by have := h.bb; omega), rowG h.res hg (by have := h.bb; omega), h.sx.besideN h.map.noCell hg, h.sl.besideN h.map.noCell hg,
    h.below.grown hg h.below.size (fun g e => by have := h.bb; simp at e; omega), h.bb⟩

set_option maxRecDepth 8000 in
set_option maxHeartbeats 32000000 in
theorem iSub (p d : Int) (v lv : Value) (xs : List Tm) (G : List Pm) (w : World) (hl : xs.length ≤ 1048576) (hS : SliceT w v xs) (hby : ∀ t ∈ xs, tmByte t) (hlG : G.length ≤ 1048576) (hok : ∀ g ∈ G, PmOk g) (hG : SlP w lv G) (o : OutP) (ho : SubO p d xs G o) :
    Calls Try.prog 115 #[.agg #[.int .i64 p, .int .i64 d, v], lv] w (ResO w o) := by
  obtain ⟨a, cap, rfl, _⟩ := id hS
  obtain ⟨la, lc, rfl, hc⟩ := id hG
  obtain ⟨W, hW, hbW, ⟨hWs1, hWs2⟩, rx, rr⟩ := boxes2 w p d (.slice a xs.length cap)
  obtain ⟨⟨c0, c1, c2⟩, _⟩ := poly3 rx
  have HC := Lib.hid (csub p d _ _ xs G W hl (hS.below hbW) hby hlG hok (hG.below hbW))
  go_enter Try.func115, Try.ntmps115
  go_wp2_with fail
  rw [← hW]
  clear hW
  ((with_reducible refine HC.out.mono ?_); rintro e w1 ⟨rfl, hb1⟩)
  have hbw1 := hbW.trans (hb1.mono hbW.size)
  have rx1 := rowIs_below rx hb1 rx.lt
  have rr1 := rowIs_below rr hb1 rr.lt
  have hs1 := hb1.size
  have hSx1 := hS.below hbw1
  have hG1 := hG.below hbw1
  clear HC c0 c1 c2 rx rr
  rcases ho with ⟨hne, rfl⟩ | ⟨hz, P, L, hP, hL, rfl⟩
  · have hcn : (subsC p d xs G != 0) = true := by simpa using hne
    obtain ⟨C, hC⟩ : ∃ C, subsC p d xs G = C := ⟨_, rfl⟩
    rw [hC] at hcn ⊢
    have HCC := Lib.hid hC
    clear hC hne
    obtain ⟨⟨r0, r1, r2⟩, z0, z1, z2⟩ := poly3 rr1
    obtain ⟨a0, a1, a2, a3, a4⟩ := fill_box (base := w.heap.size) rr1 (ownP_nil w1 w.heap.size) (Nat.le_refl _) hbw1 (by omega) 0 0
    have A0 := Lib.hid a0
    have A1 := Lib.hid a1
    have A2 := Lib.hid a2
    have A3 := Lib.hid a3
    have A4 := Lib.hid a4
    clear a0 a1 a2 a3 a4
    go_wp2_with fail
    exact bodyPost_ret (v := .tuple #[.agg #[.int .i64 0, .int .i64 0, .slice none 0 0], .int .i64 C]) (by simp [results, Try.results115, go_sem, A0.out, A1.out, A2.out]) rfl ⟨_, by rw [HCC.out]; rfl, A3.out, A4.out⟩
  · obtain ⟨h1, hLP, hd, hB, hzz⟩ := subs_zero hok hz
    have hX := valid_of h1 hby
    have hl1 := hLP.l1
    have hl3 := hLP.l3
    have hlx := hX.isP.len
    have hp2 := hX.p2
    have hp13 := hX.p13
    obtain ⟨d1, hd1⟩ : ∃ d1, (hdP G).2.1 = d1 := ⟨_, rfl⟩
    rw [hd1] at hLP ⊢
    have HD1 := Lib.hid hd1
    clear hd1
    have hok0 := hLP.ok G[0] (List.getElem_mem (by omega))
    obtain ⟨bl, off, rfl, hbl, hT⟩ : ∃ bl off, la = some ⟨bl, off, none⟩ ∧ bl < w.heap.size ∧ PolysW w bl off G := by
      rcases hc with h | h
      · rw [h] at hl1; simp at hl1
      · exact h
    obtain ⟨u0, t0, t1, t2, t3⟩ := (hT.below hbw1 hbl) 0 (by omega)
    rw [hok0.2.1, Nat.zero_mul, Nat.add_zero] at t1
    have hl0 : 0 < G.length := by omega
    have hl0' : (0 : Int) < (G.length : Int) := by omega
    rw [hz]
    obtain ⟨⟨c0, c1, c2⟩, _⟩ := poly3 rx1
    have hmm := @run_makeMap Try.prog
    have hm0 := World.ownsMap_made (H := Value) w1 Try.prog 107 elemP
    obtain ⟨V, hV1, hbV, hVs1⟩ : ∃ V, V = w1.alloc (.map #[] 0) ∧ Below w1.heap.size w1 V ∧ w1.heap.size + 1 ≤ V.heap.size := ⟨_, rfl, box1 _ _, by simp⟩
    rw [← hV1] at hm0
    have xo : ∀ o, (w1.alloc o).cell? ⟨w.heap.size, 0, none⟩ = some (.int .i64 p) := fun o => ((box1 w1 o).cell rx1.lt).trans c0
    go_wp2_with fail
    rw [← hV1]
    clear hV1 xo
    have hm1 : MapP V w1.heap.size 0 (.map []) := hm0
    have hbwV := hbw1.trans (hbV.mono hbw1.size)
    have rxV := rowIs_below rx1 hbV rx1.lt
    have rrV := rowIs_below rr1 hbV rr1.lt
    ((with_reducible refine (constant_any p d1 1 V (by omega) (by omega)).mono ?_); rintro e w2 ⟨v2, rfl, ho2, hb2⟩)
    have hS2 := OwnP.slice ho2
    have hm2 : MapP w2 w1.heap.size 0 (.map []) := hm1.kept (row := none) ⟨hb2.os, hb2.tape, hb2.output, hb2.size, fun k hk _ => hb2.block k hk⟩ (by simp)
    have hbw2 := hbwV.trans (hb2.mono hbwV.size)
    have rx2 := rowIs_below rxV hb2 rxV.lt
    have rr2 := rowIs_below rrV hb2 rrV.lt
    have hk0 : keyOf Try.prog 107 (.agg #[.int .u8 0, .int .u8 0, .int .u8 0]) = some (kE (0, 0, 0)) := keyOf_vE (0, 0, 0) (by simp [byte3])
    obtain ⟨sa2, sc2, rfl⟩ := owns_slice ho2
    obtain ⟨w3, hrun, hown3, hg3⟩ := hm2.update lawK Try.underlying195 (by unfold maxLen; omega) hk0 (val := .agg #[.int .i64 p, .int .i64 d1, .slice sa2 (constL 1).length sc2]) (d := .held (.agg #[.int .i64 p, .int .i64 d1, .slice sa2 (constL 1).length sc2])) (ps := []) rfl
    have hdn := DoneP.first (Ls := tmsL G) hp2 hm2 hS2 hown3 hg3
    have hbb : w.heap.size + 2 ≤ w1.heap.size := by omega
    have hbw3 : Below w.heap.size w w3 := hbw2.grown hg3 hbw2.size (fun g e => by simp at e; omega)
    have rx3 := rowG rx2 hg3 (by omega)
    have rr3 := rowG rr2 hg3 (by omega)
    obtain ⟨⟨x0, x1, x2⟩, _⟩ := poly3 rx3
    have hme := World.ownsMap_made (H := Unit) w3 Try.prog 107 (plainElem Try.prog 2)
    obtain ⟨Y, hY, hbY, hYs1⟩ : ∃ Y, Y = w3.alloc (.map #[] 0) ∧ Below w3.heap.size w3 Y ∧ w3.heap.size + 1 ≤ Y.heap.size := ⟨_, rfl, box1 _ _, by simp⟩
    rw [← hY] at hme
    have hbwY := hbw3.trans (hbY.mono hbw3.size)
    have hSxY := hS.below hbwY
    have hGY := hG.below hbwY
    have h13 : w1.heap.size < w3.heap.size := by have := hb2.size; have := hg3.size; omega
    have st : SubS w Y w1.heap.size 1 w3.heap.size 0 (DataW.put (.map []) (kE (0, 0, 0)) (.held (.agg #[.int .i64 p, .int .i64 d1, .slice sa2 (constL 1).length sc2]))) (.map []) p d1 d (.slice a xs.length cap) (.slice (some ⟨bl, off, none⟩) G.length lc) xs G :=
      ⟨hdn.later hbY, hme, rowIs_below rx3 hbY rx3.lt, rowIs_below rr3 hbY rr3.lt, hSxY, hGY, hbwY, by omega, by omega, by omega⟩
    have xo : ∀ o, (w3.alloc o).cell? ⟨w.heap.size, 2, none⟩ = some (.slice a xs.length cap) := fun o => ((box1 w3 o).cell rx3.lt).trans x2
    clear hm0 hm1 c0 c1 c2 t0 t1 t2 t3 ho2 hS2 rxV rrV hm2 hown3 hdn rx2 rr2 rx3 rr3 x0 x1 hme hSxY hGY
    go_wp2_with fail
    rw [← hY]
    clear hY xo hrun hk0 hmm
    have HX := Lib.hid hX
    have HP := Lib.hid hP
    have HB := Lib.hid hB
    have HZ := Lib.hid hzz
    have HLP := Lib.hid hLP
    have HL := Lib.hid hL
    have HE0 : Hid (∀ e, byte3 e → cf (.map [] : DataW Unit) e = subF p P (xs.take 0) e) := Lib.hid (fun e _ => by rw [cf_empty, subF_zero])
    have st1 := Exists.intro (p := fun D => SubS w Y w1.heap.size 1 w3.heap.size 0 D (.map []) p d1 d (.slice a xs.length cap) (.slice (some ⟨bl, off, none⟩) G.length lc) xs G) _ st
    obtain ⟨D0, st1⟩ := st1
    have hcap : xs.length ≤ 2197 := hlx
    clear st hT hok0 hX hP hB hzz hL hS hc hG hSx1 hG1 hlx h1 hz hby hok hb1 hb2 hbV hbY hg3 hbw1 hbwV hbw2 hbw3 hbwY rx1 rr1 hl0 hl0'
    go_loopw [34] (fun i wr => ∃ (k n n2 : Nat) (D : DataW Value) (E : DataW Unit), k ≤ xs.length ∧ i = .int .i64 k ∧ n ≤ 1 + 12 * k ∧ n2 ≤ 2197 * k ∧ Hid (∀ e, byte3 e → cf E e = subF p P (xs.take k) e) ∧ SubS w wr w1.heap.size n w3.heap.size n2 D E p d1 d (.slice a xs.length cap) (.slice (some ⟨bl, off, none⟩) G.length lc) xs G) (fun i _ => xs.length - (intOf i).toNat)
    case atStart => exact ⟨0, 1, 0, _, _, by omega, rfl, by omega, by omega, HE0, st1⟩
    case round =>
      clear st1 HE0
      obtain ⟨k, n, n2, D, E, hk, rfl, hn, hn2, HE, st⟩ := hrel
      by_cases hlt : k < xs.length
      · have hlt' : (k : Int) < (xs.length : Int) := by omega
        obtain ⟨A1, cap1, hv1, hcase1⟩ := st.sx
        simp at hv1
        obtain ⟨rfl, rfl⟩ := hv1
        rcases hcase1 with h0 | ⟨b1, off1, rfl, hltb1, hTx⟩
        · rw [h0] at hlt; exact absurd hlt (by simp)
        obtain ⟨d0, d1', d2, d3⟩ := hTx k hlt
        obtain ⟨⟨hm12, hs12⟩, bu1, bu2⟩ := HX.out.mem xs[k] (List.getElem_mem _)
        have hbnd := HB.out xs[k] (List.getElem_mem _)
        have hzz := HZ.out xs[k] (List.getElem_mem _)
        have hpr := HP.out xs[k] (List.getElem_mem _)
        have HSTEP := Lib.hid (fun e => subF_take p P xs k hlt e)
        have HFB := Lib.hid (fun e => show 0 ≤ subF p P (xs.take k) e ∧ subF p P (xs.take k) e < p from ⟨Int.emod_nonneg _ (by omega), Int.emod_lt_of_pos _ (by omega)⟩)
        have hex : tmE xs[k] = (xs[k].1, xs[k].2.1, xs[k].2.2.1) := rfl
        rw [hex] at hm12 hbnd hzz hpr HSTEP
        generalize hx : xs[k].1 = x at *
        generalize hy : xs[k].2.1 = y at *
        generalize hz : xs[k].2.2.1 = z at *
        generalize hvv : xs[k].2.2.2 = u at *
        clear hex hx hy hz hvv hTx
        obtain ⟨s, hs⟩ : ∃ s : Nat, x + y + z = (s : Int) := ⟨(x + y + z).toNat, by
          obtain ⟨⟨q1, q2⟩, ⟨q3, q4⟩, q5, q6⟩ : (0 ≤ x ∧ x ≤ 255) ∧ (0 ≤ y ∧ y ≤ 255) ∧ (0 ≤ z ∧ z ≤ 255) := hm12
          omega⟩
        have hs2 : s ≤ 12 := by omega
        obtain ⟨PL, hPL⟩ : ∃ PL, P (x, y, z) = PL := ⟨_, rfl⟩
        rw [hPL] at hpr HSTEP
        obtain ⟨f1, hf1⟩ := hpr.isP
        have HVP := Lib.hid ((HLP.out.ok G[0] (List.getElem_mem (by omega))).2.2.of_isP hf1)
        have hPll : PL.length ≤ 1048576 := Nat.le_trans hf1.len (by omega)
        obtain ⟨V4, hV4, hbV4, rt⟩ : ∃ wx, wx = wr.alloc (.cells #[.int .u8 x, .int .u8 y, .int .u8 z, .int .i64 u] 151) ∧ Below wr.heap.size wr wx ∧ wx.rowIs wr.heap.size 151 4 (tmF x y z u) := ⟨_, rfl, box1 _ _, trow wr x y z u⟩
        have st4 := (st.later hbV4).later (Below.same _).drew
        have rt4 : V4.drew.rowIs wr.heap.size 151 4 (tmF x y z u) := rt
        have hnb : n + s ≤ 1048576 := by omega
        have hnb2 : n2 ≤ 1000000000 := by omega
        have hw1r : w1.heap.size < wr.heap.size := st.don.map.lt
        have hw3r : w3.heap.size < wr.heap.size := st.map.lt
        have HPI := Lib.hid (putIn_any p d1 G (.slice (some ⟨bl, off, none⟩) G.length lc) w1.heap.size HLP.out s x y z n D V4.drew hm12 hs hzz hbnd st4.sl st4.don hnb)
        have HAT := Lib.hid (fun v13 w13 hS13 hM13 => addTimes_any p d1 u v13 PL w13 w3.heap.size n2 E (subF p P (xs.take k)) hPll hS13 HVP.out hM13 hnb2 HE.out (fun e _ => HFB.out e) (by omega) (by omega))
        have KK := Lib.hid (fun (w' : World) (h : w'.rowIs wr.heap.size 151 4 (tmF x y z u)) => show (w'.cell? ⟨wr.heap.size, 0, none⟩ = some (.int .u8 x) ∧ w'.cell? ⟨wr.heap.size, 1, none⟩ = some (.int .u8 y) ∧ w'.cell? ⟨wr.heap.size, 2, none⟩ = some (.int .u8 z) ∧ w'.cell? ⟨wr.heap.size, 3, none⟩ = some (.int .i64 u)) from
          ⟨h.cell (i := 0) (by omega), h.cell (i := 1) (by omega), h.cell (i := 2) (by omega), h.cell (i := 3) (by omega)⟩)
        have HPR := Lib.hid hpr
        have hnw1 : wr.heap.size ≠ w1.heap.size := by omega
        have hnw3 : wr.heap.size ≠ w3.heap.size := by omega
        have hn13 : n + s ≤ 1 + 12 * (k + 1) := by omega
        have hPl2 : PL.length ≤ 2197 := hf1.len
        clear hpr hf1 hzz hbnd hm12 hs st hbV4 rt
        go_upto_region 10 with fail
        rw [← hV4]
        clear hV4 d0 d1' d2 d3
        go_region_held3 (fun w' => (w'.cell? ⟨wr.heap.size, 0, none⟩ = some (.int .u8 x) ∧ w'.cell? ⟨wr.heap.size, 1, none⟩ = some (.int .u8 y) ∧ w'.cell? ⟨wr.heap.size, 2, none⟩ = some (.int .u8 z) ∧ w'.cell? ⟨wr.heap.size, 3, none⟩ = some (.int .i64 u)))
          (first | with_reducible exact KK.out _ rt4 | with_reducible exact KK.out _ rt13 | with_reducible exact KK.out _ rt14)
          (first
          | (go_at_call 184; (with_reducible refine HPI.out.mono ?_); rintro e w13 ⟨v13, L13, D13, n13, rfl, hS13, hL13, hD13, hn13', hg13⟩; have rt13 := rowG rt4 hg13 hnw1; have st13 := st4.putIn hg13 hD13; (obtain rfl : PL = L13 := HPR.out.unique hL13); (obtain ⟨a13, c13, rfl, _⟩ := id hS13))
          | (go_at_call 157; (with_reducible refine (HAT.out _ w13 hS13 st13.map).mono ?_); rintro e w14 ⟨E14, rfl, hM14, hcf14, hg14⟩; have rt14 := rowG rt13 hg14 hnw3; have st14 := st13.added hg14 hM14))
        all_goals
          have HN := Lib.hid (fun e he => (hcf14 e he).trans (HSTEP.out e).symm)
          have hnn := Nat.le_trans hn13' hn13
          have hnn2 : n2 + PL.length ≤ 2197 * (k + 1) := by omega
          clear hcf14 rt14 rt13 rt4 st13 st4 hg14 hM14 hg13 hD13 hS13 hL13 hn13' KK HAT HPI
          go_wp2_with fail
          go_roundw
          case rel => exact ⟨k + 1, n13, _, D13, E14, by omega, by go_num, hnn, hnn2, HN, st14⟩
          case measure => simp [intOf]; omega
      · obtain rfl : k = xs.length := by omega
        have hE := HE.out
        rw [List.take_length] at hE
        have HPO := Lib.hid (polyOf_any sort_says p d1 w3.heap.size n2 E wr st.map (by omega) (fun e he hc => by
          rw [hE e he, ← List.take_length (l := xs)] at hc
          exact sub_deg (HLP.out.ok G[0] (List.getElem_mem (by omega))).2.2 HLP.out.tms HX.out HB.out HP.out hc))
        have HGD := Lib.hid (fun (S : List Tm) (h : Good E S) => show S = L from (h.isP hE (fun e _ => ⟨Int.emod_nonneg _ (by omega), Int.emod_lt_of_pos _ (by omega)⟩) (fun e he hc => by
          rw [← List.take_length (l := xs)] at hc
          exact sub_deg (HLP.out.ok G[0] (List.getElem_mem (by omega))).2.2 HLP.out.tms HX.out HB.out HP.out hc)).unique HL.out)
        obtain ⟨⟨c0, c1, c2⟩, _⟩ := poly3 st.arg
        clear hE HE
        go_wp2_with fail
        ((with_reducible refine HPO.out.mono ?_); rintro e w14 ⟨v14, S14, rfl, ho14, hgood, hb14⟩)
        have hSL := HGD.out S14 hgood
        subst hSL
        have st14 := st.later hb14
        obtain ⟨sa14, sc14, rfl⟩ := owns_slice ho14
        obtain ⟨⟨r0, r1, r2⟩, z0, z1, z2⟩ := poly3 st14.res
        obtain ⟨a0, a1, a2, a3, a4⟩ := fill_box (w := w) st14.res ho14 st.below.size st14.below (by omega) p d1
        have A0 := Lib.hid a0
        have A1 := Lib.hid a1
        have A2 := Lib.hid a2
        have A3 := Lib.hid a3
        have A4 := Lib.hid a4
        clear a0 a1 a2 a3 a4 st st14 c0 c1 c2 hgood ho14
        go_wp2_with fail
        exact bodyPost_ret (v := .tuple #[.agg #[.int .i64 p, .int .i64 d1, .slice sa14 S14.length sc14], .int .i64 0]) (by simp [results, Try.results115, go_sem, A0.out, A1.out, A2.out]) rfl ⟨_, by rw [HD1.out], A3.out, A4.out⟩
end Go.Proofs.Ytbahejlgfpilnaa
namespace Go.Proofs.Ytbahejlgfpilnaa
open Go.RowKit Go.Sort Go.Maps

theorem own_own {w : World} {base base' n n' size size' : Nat} {t e : TypeId} {v v' : Value} {xs xs' : List Value} (h : w.ownsRow base t size v n xs) (h' : w.ownsRow base' e size' v' n' xs') (hne : t ≠ e) : v.ownBlock = none ∨ v.ownBlock ≠ v'.ownBlock := by
  obtain ⟨_, ⟨rfl, _⟩ | ⟨g, cap, cur, rfl, _, hgc, _⟩⟩ := h
  · exact .inl rfl
  · obtain ⟨_, ⟨rfl, _⟩ | ⟨g', cap', cur', rfl, _, hgc', _⟩⟩ := h'
    · exact .inr (by simp [Value.ownBlock])
    · refine .inr fun hb => ?_
      simp [Value.ownBlock] at hb
      subst hb
      rw [hgc] at hgc'
      simp at hgc'
      exact hne hgc'.2
/-- The cells of polynomials of a prime and letters. -/
def cellsQ (p : Int) (n : Nat) (us : List Value) : List Value := us.flatMap fun u => [.int .i64 p, .int .i64 (n : Int), u]
theorem cellsQ_snoc (p : Int) (n : Nat) (us : List Value) (u : Value) : cellsQ p n (us ++ [u]) = cellsQ p n us ++ [.int .i64 p, .int .i64 (n : Int), u] := by simp [cellsQ]
theorem cellsQ_get (p : Int) (n : Nat) : ∀ (us : List Value) (k j : Nat) (h : k < us.length), j < 3 → (cellsQ p n us)[k * 3 + j]? = ([Value.int .i64 p, .int .i64 (n : Int), us[k]] : List Value)[j]?
  | [], k, _, h, _ => by simp at h
  | u :: r, 0, j, _, hj => by
    match j, hj with
    | 0, _ => simp [cellsQ]
    | 1, _ => simp [cellsQ]
    | 2, _ => simp [cellsQ]
  | u :: r, k + 1, j, h, hj => by
    have := cellsQ_get p n r k j (by simpa using h) hj
    rw [show (k + 1) * 3 + j = (k * 3 + j) + 3 by omega]
    simpa [cellsQ] using this
end Go.Proofs.Ytbahejlgfpilnaa
namespace Go.Proofs.Ytbahejlgfpilnaa
open Go.RowKit Go.Sort Go.Maps

/-- A list of polynomials of a prime and letters, of the call's own; the blocks of the terms ascend and lie below hi. -/
structure PMk (w : World) (base hi : Nat) (p : Int) (n : Nat) (v : Value) (us : List Value) (Ls : List (List Tm)) : Prop where
  len : us.length = Ls.length
  rows : w.ownsRow base 42 3 v Ls.length (cellsQ p n us)
  own : ∀ (i : Nat) (h : i < us.length) (h' : i < Ls.length), OwnP w base us[i] Ls[i]
  top : ∀ (i : Nat) (h : i < us.length) (b : Nat), us[i].ownBlock = some b → b < hi
  asc : ∀ (i j : Nat) (hi' : i < us.length) (hj : j < us.length), i < j → ∀ b b', us[i].ownBlock = some b → us[j].ownBlock = some b' → b < b'
theorem PMk.nil (w : World) (base : Nat) (p : Int) (n : Nat) : PMk w base base p n (.slice none 0 0) [] [] :=
  ⟨rfl, World.ownsRow_nil _ _ _ _, fun i h => by simp at h, fun i h => by simp at h, fun i j h => by simp at h⟩
theorem PMk.nilB {w : World} {base b : Nat} {p : Int} {n : Nat} (h : w.ownsRow base 42 3 (.slice (some ⟨b, 0, none⟩) 0 0) 0 []) : PMk w base base p n (.slice (some ⟨b, 0, none⟩) 0 0) [] [] :=
  ⟨rfl, h, fun i h => by simp at h, fun i h => by simp at h, fun i j h => by simp at h⟩
theorem PMk.below {w w' : World} {base hi : Nat} {p : Int} {n : Nat} {v : Value} {us : List Value} {Ls : List (List Tm)} (h : PMk w base hi p n v us Ls) (hb : Below w.heap.size w w') : PMk w' base hi p n v us Ls :=
  ⟨h.len, owns_belowT h.rows hb, fun i hi hi' => owns_belowT (h.own i hi hi') hb, h.top, h.asc⟩
theorem PMk.low {w : World} {base base' hi : Nat} {p : Int} {n : Nat} {v : Value} {us : List Value} {Ls : List (List Tm)} (h : PMk w base hi p n v us Ls) (hb : base' ≤ base) : PMk w base' hi p n v us Ls :=
  ⟨h.len, owns_low h.rows hb, fun i hi hi' => owns_low (h.own i hi hi') hb, h.top, h.asc⟩
theorem PMk.kept {w w' : World} {base hi : Nat} {p : Int} {n : Nat} {v : Value} {us : List Value} {Ls : List (List Tm)} (h : PMk w base hi p n v us Ls) {b : Nat} (hg : w.grownBy w' (some b)) (hb : b < base) : PMk w' base hi p n v us Ls := by
  have q : ∀ (k : Nat) (x : Value), x.ownBlock = some k → base ≤ k → x.ownBlock = none ∨ x.ownBlock ≠ some b := fun k x hx hk => .inr (fun e => by rw [e] at hx; injection hx with hx; omega)
  have q' : ∀ {e : TypeId} {size m : Nat} {x : Value} {xs : List Value}, w.ownsRow base e size x m xs → x.ownBlock = none ∨ x.ownBlock ≠ some b := fun {_ _ _ x _} hx => by
    cases hxb : x.ownBlock with
    | none => exact .inl rfl
    | some k => exact .inr (fun e => by injection e with e; have := (hx.lt k hxb).1; omega)
  exact ⟨h.len, h.rows.kept hg (q' h.rows), fun i hi hi' => (h.own i hi hi').kept hg (q' (h.own i hi hi')), h.top, h.asc⟩
theorem PMk.more {w w2 : World} {base hi b1 hi2 : Nat} {p : Int} {n : Nat} {v v2 u : Value} {us : List Value} {Ls : List (List Tm)} {X : List Tm} (h : PMk w base hi p n v us Ls) (ho : OwnP w b1 u X) (h1 : hi ≤ b1) (hb : base ≤ b1) (h2 : w.heap.size ≤ hi2)
    (hg : w.grownBy w2 v.ownBlock) (hr : w2.ownsRow base 42 3 v2 (Ls.length + 1) (cellsQ p n us ++ [.int .i64 p, .int .i64 (n : Int), u])) : PMk w2 base hi2 p n v2 (us ++ [u]) (Ls ++ [X]) := by
  have hl := h.len
  have hu : ∀ b, u.ownBlock = some b → b1 ≤ b ∧ b < hi2 := fun b e => ⟨(ho.lt b e).1, Nat.lt_of_lt_of_le (ho.lt b e).2 h2⟩
  refine ⟨by simp [hl], by rw [cellsQ_snoc]; simpa using hr, fun i hi hi' => ?_, fun i hi b e => ?_, fun i j hi' hj hij b b' e e' => ?_⟩
  · simp at hi
    by_cases e : i = us.length
    · subst e
      rw [List.getElem_append_right (by omega), List.getElem_append_right (by omega)]
      simp only [Nat.sub_self, hl, List.getElem_cons_zero]
      exact owns_low (ho.kept hg (own_own ho h.rows (by decide))) hb
    · rw [List.getElem_append_left (by omega), List.getElem_append_left (by omega)]
      exact (h.own i (by omega) (by omega)).kept hg (own_own (h.own i (by omega) (by omega)) h.rows (by decide))
  · simp at hi
    by_cases e1 : i = us.length
    · subst e1
      rw [List.getElem_append_right (by omega)] at e
      simp only [Nat.sub_self, List.getElem_cons_zero] at e
      exact (hu b e).2
    · rw [List.getElem_append_left (by omega)] at e
      exact Nat.lt_of_lt_of_le ((h.own i (by omega) (by omega)).lt b e).2 h2
  · simp at hi' hj
    rw [List.getElem_append_left (by omega)] at e
    by_cases e1 : j = us.length
    · subst e1
      rw [List.getElem_append_right (by omega)] at e'
      simp only [Nat.sub_self, List.getElem_cons_zero] at e'
      have := h.top i (by omega) b e
      have := (hu b' e').1
      omega
    · rw [List.getElem_append_left (by omega)] at e'
      exact h.asc i j (by omega) (by omega) hij b b' e e'
theorem PMk.slP {w : World} {base hi : Nat} {p : Int} {n : Nat} {v : Value} {us : List Value} {Ls : List (List Tm)} (h : PMk w base hi p n v us Ls) : SlP w v (Ls.map fun X => (p, (n : Int), X)) := by
  have hl := h.len
  obtain ⟨_, ⟨rfl, h0⟩ | ⟨b, cap, cur, rfl, hb, hg, hc1, hc2, hsz, htk⟩⟩ := id h.rows
  · refine ⟨none, 0, by rw [List.length_map, h0], .inl ?_⟩
    apply List.eq_nil_of_length_eq_zero
    rw [List.length_map, h0]
  · refine ⟨_, cap, by rw [List.length_map], .inr ⟨b, 0, rfl, (Array.getElem?_eq_some_iff.1 hg).1, fun k hk => ?_⟩⟩
    rw [List.length_map] at hk
    have hk' : k < us.length := by omega
    rw [List.getElem_map]
    have key : ∀ j, j < 3 → ∀ u, ([Value.int .i64 p, .int .i64 (n : Int), us[k]] : List Value)[j]? = some u → w.cell? ⟨b, 0 + k * 3 + j, none⟩ = some u := fun j hj u hu => by
      have e2 : (cellsQ p n us)[k * 3 + j]? = some u := (cellsQ_get p n us k j hk' hj).trans hu
      have hlt : k * 3 + j < Ls.length * 3 := by omega
      rw [← htk, List.getElem?_take_of_lt hlt, Array.getElem?_toList] at e2
      simp [World.cell?, hg, e2]
    exact ⟨us[k], key 0 (by omega) _ rfl, key 1 (by omega) _ rfl, key 2 (by omega) _ rfl, OwnP.slice (h.own k hk' hk)⟩
theorem PMk.shape {w : World} {base hi : Nat} {p : Int} {n : Nat} {v : Value} {us : List Value} {Ls : List (List Tm)} (h : PMk w base hi p n v us Ls) : ∃ a c, v = .slice a Ls.length c := owns_slice h.rows
/-- A list of polynomials that reads so. -/
abbrev SlPn (w : World) (p : Int) (n : Nat) (v : Value) (Ls : List (List Tm)) : Prop := SlP w v (Ls.map fun X => (p, (n : Int), X))
/-- The polynomial k of such a list. -/
theorem SlP.nth {w : World} {p : Int} {n : Nat} {a : Option Addr} {m c : Nat} {Ls : List (List Tm)} (h : SlPn w p n (.slice a m c) Ls) {k : Nat} (hk : k < Ls.length) : ∃ b off u, a = some ⟨b, off, none⟩ ∧ b < w.heap.size ∧ m = Ls.length ∧ w.cell? ⟨b, off + k * 3, none⟩ = some (.int .i64 p) ∧ w.cell? ⟨b, off + k * 3 + 1, none⟩ = some (.int .i64 (n : Int)) ∧ w.cell? ⟨b, off + k * 3 + 2, none⟩ = some u ∧ SliceT w u Ls[k] := by
  obtain ⟨b, off, ha, hlt, hP, hm⟩ := SlP.at h (by rw [List.length_map]; omega)
  obtain ⟨u, h0, h1, h2, h3⟩ := hP k (by rw [List.length_map]; exact hk)
  rw [List.getElem_map] at h0 h1 h3
  exact ⟨b, off, u, ha, hlt, by rw [hm, List.length_map], h0, h1, h2, h3⟩
end Go.Proofs.Ytbahejlgfpilnaa
namespace Go.Proofs.Ytbahejlgfpilnaa
open Go.RowKit Go.Sort Go.Maps

theorem rep_own1 {w : World} {base b i N : Nat} {f : Nat → Value} {v x : Value} {S : List Tm} (h : OwnP w base v S) (hr : w.rowIs b 42 N f) : OwnP (w.setCell ⟨b, i, none⟩ x) base v S :=
  h.kept (row := some b) ⟨rfl, rfl, rfl, by rw [World.size_setCell]; exact Nat.le_refl _, fun k hk hne => Below.heap_setCell w ⟨b, i, none⟩ x k (fun e => hne (by rw [e]))⟩ (own_ne hr h (by decide))
theorem rep_own3 {w : World} {base b i0 i1 i2 N : Nat} {f : Nat → Value} {v x0 x1 x2 : Value} {S : List Tm} (h : OwnP w base v S) (hr : w.rowIs b 42 N f) : OwnP (((w.setCell ⟨b, i0, none⟩ x0).setCell ⟨b, i1, none⟩ x1).setCell ⟨b, i2, none⟩ x2) base v S :=
  rep_own1 (rep_own1 (rep_own1 h hr) (hr.set i0 x0)) ((hr.set i0 x0).set i1 x1)
theorem setB3 {w : World} {B0 : Nat} {F : Nat → Value} {v : Value} {S : List Tm} (hR : w.rowIs B0 42 3 F) (hs : SliceT w v S) (P Q : Int) :
    (((w.setCell ⟨B0, 0, none⟩ (.int .i64 P)).setCell ⟨B0, 1, none⟩ (.int .i64 Q)).setCell ⟨B0, 2, none⟩ v).rowIs B0 42 3 (polyF P Q v) ∧
    SliceT (((w.setCell ⟨B0, 0, none⟩ (.int .i64 P)).setCell ⟨B0, 1, none⟩ (.int .i64 Q)).setCell ⟨B0, 2, none⟩ v) v S := by
  have R1 := hR.set 0 (.int .i64 P)
  have R2 := R1.set 1 (.int .i64 Q)
  refine ⟨(R2.set 2 v).congr fun i hi => ?_, ((hs.setBox hR).setBox R1).setBox R2⟩
  match i, hi with
  | 0, _ => rfl
  | 1, _ => rfl
  | 2, _ => rfl
theorem setO3 {w : World} {B0 B1 n : Nat} {t : TypeId} {F : Nat → Value} (hR : w.rowIs B1 t n F) (hne : B1 ≠ B0) (u0 u1 u2 : Value) :
    (((w.setCell ⟨B0, 0, none⟩ u0).setCell ⟨B0, 1, none⟩ u1).setCell ⟨B0, 2, none⟩ u2).rowIs B1 t n F :=
  ((hR.setOther (by simpa using hne) _).setOther (by simpa using hne) _).setOther (by simpa using hne) _
theorem setL3 {w wr : World} {B0 : Nat} (h : Below w.heap.size w wr) (hB : w.heap.size ≤ B0) (u0 u1 u2 : Value) :
    Below w.heap.size w (((wr.setCell ⟨B0, 0, none⟩ u0).setCell ⟨B0, 1, none⟩ u1).setCell ⟨B0, 2, none⟩ u2) :=
  ((h.setCell (by simpa using hB) _).setCell (by simpa using hB) _).setCell (by simpa using hB) _
end Go.Proofs.Ytbahejlgfpilnaa
namespace Go.Proofs.Ytbahejlgfpilnaa
open Go.RowKit Go.Sort Go.Maps

/-- What stands in memory: the sum so far (block q), the boxes of the argument and the result. -/
structure RepS (w wr : World) (q : Nat) (p d d' : Int) (xv sv : Value) (O : List Tm) : Prop where
  out : wr.rowIs q 42 3 (polyF p d sv)
  rows : OwnP wr w.heap.size sv O
  arg : wr.rowIs w.heap.size 42 3 (polyF p d' xv)
  res : wr.rowIs (w.heap.size + 1) 42 3 (polyF 0 0 (.slice none 0 0))
  below : Below w.heap.size w wr
  q2 : w.heap.size + 2 ≤ q
theorem RepS.later {w wr w1 : World} {q : Nat} {p d d' : Int} {xv sv : Value} {O : List Tm} (h : RepS w wr q p d d' xv sv O) (hb : Below wr.heap.size wr w1) : RepS w w1 q p d d' xv sv O :=
  ⟨rowIs_below h.out hb h.out.lt, owns_belowT h.rows hb, rowIs_below h.arg hb h.arg.lt, rowIs_below h.res hb h.res.lt, h.below.trans (hb.mono h.below.size), h.q2⟩
theorem RepS.put {w wr w2 : World} {q : Nat} {p d d' : Int} {xv sv v2 : Value} {O O2 : List Tm} {b2 : Nat} (h : RepS w wr q p d d' xv sv O) (hb : Below wr.heap.size wr w2) (ho : OwnP w2 b2 v2 O2) (hb2 : w.heap.size ≤ b2) :
    RepS w (((w2.setCell ⟨q, 0, none⟩ (.int .i64 p)).setCell ⟨q, 1, none⟩ (.int .i64 d)).setCell ⟨q, 2, none⟩ v2) q p d d' xv v2 O2 := by
  have h1 := h.later hb
  have hq := h.q2
  exact ⟨(setB3 h1.out (OwnP.slice ho) p d).1, owns_low (rep_own3 ho h1.out) hb2, setO3 h1.arg (by omega) _ _ _, setO3 h1.res (by omega) _ _ _, setL3 h1.below (by omega) _ _ _, hq⟩

theorem RepS.set3 {w wr : World} {q bo : Nat} {p d d' : Int} {xv sv : Value} {O : List Tm} {F : Nat → Value} (h : RepS w wr q p d d' xv sv O) (hr : wr.rowIs bo 42 3 F) (hne : bo ≠ q) (hb : w.heap.size + 2 ≤ bo) (u0 u1 u2 : Value) :
    RepS w (((wr.setCell ⟨bo, 0, none⟩ u0).setCell ⟨bo, 1, none⟩ u1).setCell ⟨bo, 2, none⟩ u2) q p d d' xv sv O :=
  ⟨setO3 h.out (fun e => hne e.symm) _ _ _, rep_own3 h.rows hr, setO3 h.arg (by omega) _ _ _, setO3 h.res (by omega) _ _ _, setL3 h.below (by omega) _ _ _, h.q2⟩
theorem nthT_cell {w : World} {b off : Nat} {ts : List Tm} (hT : Terms w b off ts) {k m : Nat} (hk : k < ts.length) (hm : m < 3) : w.cell? ⟨b, off + k * 4 + m, none⟩ = some (.int .u8 (nthE (tmE ts[k]) m)) := by
  obtain ⟨c0, c1, c2, _⟩ := hT k hk
  match m, hm with
  | 0, _ => exact c0
  | 1, _ => exact c1
  | 2, _ => exact c2
end Go.Proofs.Ytbahejlgfpilnaa
namespace Go.Proofs.Ytbahejlgfpilnaa
open Go.RowKit Go.Sort Go.Maps

set_option maxRecDepth 8000 in
set_option maxHeartbeats 32000000 in
theorem sRep (p d d' : Int) (v lv : Value) (xs : List Tm) (G : List Pm) (P : Int × Int × Int → List Tm) (w : World) (hLP : ListP p d G) (hX : Valid p d' xs) (hz : ∀ t ∈ xs, ∀ i, G.length ≤ i → nthE (tmE t) i = 0) (hP : Bnd (tmsL G) xs → Subs p (tmsL G) xs P) (hS : SliceT w v xs) (hG : SlP w lv G) :
    Calls Try.prog 114 #[.agg #[.int .i64 p, .int .i64 d', v], lv] w fun e w' =>
      ((Bnd (tmsL G) xs ∧ ∃ v' L, e = .returned (.tuple #[.agg #[.int .i64 p, .int .i64 d, v'], .bool true]) ∧ OwnP w' w.heap.size v' L ∧ IsP p L (subF p P xs)) ∨
        (¬ Bnd (tmsL G) xs ∧ ∃ v', e = .returned (.tuple #[.agg #[.int .i64 p, .int .i64 d, v'], .bool false]) ∧ SliceT w' v' [])) ∧ Below w.heap.size w w' := by
  have hl1 := hLP.l1
  have hl3 := hLP.l3
  have hlx := hX.isP.len
  obtain ⟨a, cap, rfl, _⟩ := id hS
  obtain ⟨la, lc, rfl, hc⟩ := id hG
  obtain ⟨bl, off, rfl, hbl, hT⟩ : ∃ bl off, la = some ⟨bl, off, none⟩ ∧ bl < w.heap.size ∧ PolysW w bl off G := by
    rcases hc with h | h
    · rw [h] at hl1; simp at hl1
    · exact h
  have hl0' : (0 : Int) < (G.length : Int) := by omega
  have hl0 : 0 < G.length := by omega
  obtain ⟨W, hW, hbW, ⟨hWs1, hWs2⟩, rx, rr⟩ : ∃ W, W = (w.alloc (.cells #[.int .i64 p, .int .i64 d', .slice a xs.length cap] 42)).alloc (.cells #[.int .i64 0, .int .i64 0, .slice none 0 0] 42) ∧ Below w.heap.size w W ∧ (W.heap.size ≤ w.heap.size + 2 ∧ w.heap.size + 2 ≤ W.heap.size) ∧
      W.rowIs w.heap.size 42 3 (polyF p d' (.slice a xs.length cap)) ∧ W.rowIs (w.heap.size + 1) 42 3 (polyF 0 0 (.slice none 0 0)) := boxes2 w p d' (.slice a xs.length cap)
  have HT := Lib.hid hT
  have hok0 := hLP.ok G[0] (List.getElem_mem (by omega))
  obtain ⟨u0, t0, t1, t2, t3⟩ := (hT.below hbW hbl) 0 (by omega)
  rw [hok0.1, Nat.zero_mul, Nat.add_zero] at t0
  rw [hok0.2.1, Nat.zero_mul, Nat.add_zero] at t1
  have hblW : bl < W.heap.size := Nat.lt_of_lt_of_le hbl hbW.size
  have KK := Lib.hid (fun w' (h : Below W.heap.size W w') => show (w'.cell? ⟨bl, off, none⟩ = some (.int .i64 p) ∧ w'.cell? ⟨bl, off + 1, none⟩ = some (.int .i64 d)) from
    ⟨(h.cell (p := ⟨bl, _, none⟩) hblW).trans t0, (h.cell (p := ⟨bl, _, none⟩) hblW).trans t1⟩)
  clear hT hc t2 t3
  go_enter Try.func114, Try.ntmps114
  go_upto_region 1 with fail
  rw [← hW]
  clear hW t0 t1
  go_cut [6] (fun s6 wx => ∃ (bq : Nat) (A : Option Addr) (c : Nat), s6 = .pointer (some ⟨bq, 0, none⟩) ∧ wx.rowIs bq 42 3 (polyF p d (.slice A 0 c)) ∧ Below W.heap.size W wx ∧ W.heap.size ≤ bq ∧ OwnP wx W.heap.size (.slice A 0 c) [])
  case first =>
    go_region_held3 (fun w' => (w'.cell? ⟨bl, off, none⟩ = some (.int .i64 p) ∧ w'.cell? ⟨bl, off + 1, none⟩ = some (.int .i64 d)))
      (first | with_reducible exact KK.out _ (setL3 HB13 (Nat.le_refl _) _ _ _) | with_reducible exact KK.out _ (Below.same _).drew | with_reducible exact KK.out _ (box1 _ _).drew | with_reducible exact KK.out _ HB13 | with_reducible exact KK.out _ (HB13.trans ((box1 _ _).mono HB13.size)) | with_reducible exact KK.out _ (setL3 (HB13.trans ((box1 _ _).mono HB13.size)) HB13.size _ _ _))
      ((go_at_call 86; (with_reducible refine (empty_any p d _).mono ?_); rintro e w13 ⟨rfl, hown13, hb13⟩; have HB13 : Below W.heap.size W w13 := (by first | exact (Below.same _).drew.trans hb13 | with_reducible exact (box1 _ _).drew.trans (hb13.mono (by simp))); (first | (have ZR13 : w13.rowIs W.heap.size 42 3 (polyF 0 0 (.slice none 0 0)) := rowIs_below (zboxD W) hb13 (by simp); obtain ⟨⟨e130, e131, e132⟩, f130, f131, f132⟩ := poly3 ZR13) | skip)))
    all_goals
      go_wp2_with fail
      go_meet
      first
        | exact ⟨w13.heap.size, _, _, rfl, World.rowIs_alloc w13 #[Value.int .i64 p, .int .i64 d, _] _ _ (fun i hi => by simp at hi; match i, hi with | 0, _ => rfl | 1, _ => rfl | 2, _ => rfl), HB13.trans ((box1 _ _).mono HB13.size), HB13.size, owns_low (owns_belowT hown13 (box1 _ _)) (by first | exact Nat.le_refl _ | simp)⟩
        | exact ⟨W.heap.size, _, _, rfl, (setB3 (S := []) ZR13 ⟨_, _, rfl, .inl rfl⟩ p d).1, setL3 HB13 (Nat.le_refl _) _ _ _, Nat.le_refl _, (by have q := owns_low (base' := W.heap.size) hown13 (by simp); simp at q; exact rep_own3 (show OwnP w13 W.heap.size (.slice (some ⟨W.heap.size + 1 + 1, 0, none⟩) 0 0) [] from q) ZR13)⟩
  case rest =>
    obtain ⟨bq, A0, c0, rfl, rq, hbq, hqW, hq0⟩ := hcut
    have st0 : RepS w wc bq p d d' (.slice a xs.length cap) (.slice A0 0 c0) [] := ⟨rq, owns_low hq0 hbW.size, rowIs_below rx hbq rx.lt, rowIs_below rr hbq rr.lt, hbW.trans (hbq.mono hbW.size), by omega⟩
    obtain ⟨sv0, hsv0⟩ : ∃ sv0, (.slice A0 0 c0 : Value) = sv0 := ⟨_, rfl⟩
    have HA0 := Lib.hid hsv0
    have hSW := hS
    have HV := Lib.hid hX
    have HD := Lib.hid (fun i => show dgN (tmsL G) i ≤ 12 from by
      by_cases h : i < G.length
      · unfold dgN
        rw [tmsL_nth h]
        exact (max_deg (hLP.ok _ (List.getElem_mem h)).2.2).2
      · rw [dgN_ge (by rw [tmsL_len]; omega)]
        omega)
    have HPV : Hid (∀ (m : Nat) (h : m < G.length), G[m].1 = p ∧ G[m].2.1 = d ∧ Valid p d G[m].2.2) := Lib.hid (fun m hm => hLP.ok _ (List.getElem_mem hm))
    have HF := Lib.hid (fun e => bndK_full (Ls := tmsL G) (by rw [tmsL_len]; omega) (by rw [tmsL_len]; omega) e)
    have HLN := Lib.hid (tmsL_len G)
    have HLT := Lib.hid hLP.tms
    have HXZ := Lib.hid hz
    have HSB := Lib.hid hP
    clear hok0 KK rq rx rr hbq hsv0 hbW hX hz hP hLP hG
    go_wp2_with fail
    go_loopw [7] (fun i wr => ∃ k : Nat, k ≤ xs.length ∧ i = .int .i64 k ∧ Hid (∀ (j : Nat) (h : j < xs.length), j < k → bndE (tmsL G) (tmE xs[j]) ≤ 12) ∧ RepS w wr bq p d d' (.slice a xs.length cap) (.slice A0 0 c0) []) (fun i _ => xs.length - (intOf i).toNat)
    case atStart => exact ⟨0, by omega, rfl, Lib.hid (fun j _ h => by omega), st0⟩
    case round =>
      clear st0
      obtain ⟨k, hk, rfl, HU, st⟩ := hrel
      obtain ⟨wo, rfl⟩ : ∃ wo : World, wo = wr := ⟨_, rfl⟩
      obtain ⟨⟨c0', c1', c2'⟩, _⟩ := poly3 st.arg
      by_cases hlt : k < xs.length
      · have hlt' : (k : Int) < (xs.length : Int) := by omega
        obtain ⟨A1, cap1, hv1, hcase1⟩ := hS
        simp at hv1
        obtain ⟨rfl, rfl⟩ := hv1
        rcases hcase1 with h0 | ⟨b1, off1, rfl, hltb1, hTx⟩
        · rw [h0] at hlt; exact absurd hlt (by simp)
        have HTX := Lib.hid hTx
        have hm12 := (HV.out.mem xs[k] (List.getElem_mem _)).1
        have HE := Lib.hid (nthE_bound hm12)
        have HBK := Lib.hid (bndK_bound (Ls := tmsL G) hm12 HD.out)
        have HNT := Lib.hid (fun (w' : World) (hb : Below w.heap.size w w') (m : Nat) (hm : m < 3) => nthT_cell (hTx.below hb hltb1) hlt hm)
        generalize hex : tmE xs[k] = e at HE HBK HNT
        clear hTx hm12 hSW
        go_wp2_with fail
        clear c0' c1' c2'
        go_loopw [9, 8] (fun i bd wr => ∃ m : Nat, m ≤ G.length ∧ i = .int .i64 m ∧ bd = .int .i64 (bndK (tmsL G) e m) ∧ RepS w wr bq p d d' (.slice (some ⟨b1, off1, none⟩) xs.length cap) (.slice A0 0 c0) []) (fun i _ _ => G.length - (intOf i).toNat)
        case atStart => exact ⟨0, by omega, rfl, rfl, st⟩
        case round =>
          clear st
          obtain ⟨m, hm, rfl, rfl, st⟩ := hrel
          by_cases hlm : m < G.length
          · have hlm' : (m : Int) < (G.length : Int) := by omega
            have hm3 : m < 3 := by omega
            have hm3' : (m : Int) < 3 := by omega
            obtain ⟨uv, g0, g1, g2, hu⟩ := (HT.out.below st.below hbl) m hlm
            obtain ⟨ua, uc, rfl, _⟩ := id hu
            have hv := (HPV.out m hlm).2.2
            have hDG : dgN (tmsL G) m = max (degI G[m].2.2) 0 := by unfold dgN; rw [tmsL_nth hlm]
            obtain ⟨dg1, dg2⟩ := deg_bound hv
            have hlg := hv.isP.len
            have kD : ∀ dd os, Calls Try.prog 75 #[.agg #[.int .i64 G[m].1, .int .i64 G[m].2.1, .slice ua G[m].2.2.length uc]] (grow (redrawn wr dd) os) fun e w'' => e = .returned (.int .i64 (degI G[m].2.2)) ∧ ∃ p : Regrown, w'' = grow (redrawn wr p.d) p.os := fun dd os =>
              Calls.regrown_of (specDegree_any _ _ _ _ _ (by omega) (hu.below (below_regrown wr dd os)) (hv.isP.byte hv.p13))
            obtain ⟨⟨x0, x1, x2⟩, _⟩ := poly3 st.arg
            have k0 := cell_regrown x2
            have k1 := cell_regrown (HNT.out wr st.below m hm3)
            have k2 := cell_regrown g0
            have k3 := cell_regrown g1
            have k4 := cell_regrown g2
            obtain ⟨e0, e1⟩ := HE.out m
            obtain ⟨bk0, bk1⟩ := HBK.out m
            obtain ⟨mx, hmx⟩ : ∃ mx, max (degI G[m].2.2) 0 = mx := ⟨_, rfl⟩
            have hmx1 : 0 ≤ mx ∧ mx ≤ 12 := by omega
            rw [hmx] at hDG
            have HNX : Hid (bndK (tmsL G) e (m + 1) = bndK (tmsL G) e m + nthE e m * mx) := Lib.hid (by rw [bndK, hDG])
            have m0 : 0 ≤ nthE e m * mx := Int.mul_nonneg e0 hmx1.1
            have m1 : nthE e m * mx ≤ 12 * 12 := Int.mul_le_mul e1 hmx1.2 hmx1.1 (by omega)
            have hw1 : IntKind.i64.wrap (nthE e m * mx) = nthE e m * mx := IntWalk.i64_in _ (by omega)
            have hw2 : IntKind.i64.wrap (bndK (tmsL G) e m + nthE e m * mx) = bndK (tmsL G) e m + nthE e m * mx := IntWalk.i64_in _ (by omega)
            obtain ⟨E, hE⟩ : ∃ E, nthE e m = E := ⟨_, rfl⟩
            obtain ⟨S, hS2⟩ : ∃ S, bndK (tmsL G) e m = S := ⟨_, rfl⟩
            rw [hE] at k1 HNX m0 m1 hw1 hw2 e0 e1
            rw [hS2] at HNX hw2 bk0 bk1 ⊢
            clear x0 x1 x2 g0 g1 g2 hu hv hDG hE hS2 hlg
            go_wp2_with fail
            refine wp_region_quiet_below (by kernel_rfl) (by kernel_rfl) ?_
            repeat (go_big_quiet_step (with_reducible exact kD _ _))
            refine wpQuiet_nil ?_
            intro _ hw'
            obtain ⟨⟨dq, osq⟩, hw''⟩ := hw'
            subst hw''
            have hst := st.later (below_regrown wr dq osq)
            generalize grow (redrawn wr dq) osq = w7 at *
            clear k0 k1 k2 k3 k4 kD
            go_wp2_with fail
            go_roundw
            case rel => exact ⟨m + 1, by omega, by go_num, by rw [HNX.out], hst⟩
            case measure => simp [intOf]; omega
          · obtain rfl : m = G.length := by omega
            have hF := HF.out e
            rw [HLN.out] at hF
            rw [hF]
            obtain ⟨bk0, bk1⟩ := HBK.out G.length
            rw [hF] at bk0 bk1
            by_cases hb12 : bndE (tmsL G) e ≤ 12
            · have hN : Hid (∀ (j : Nat) (h : j < xs.length), j < k + 1 → bndE (tmsL G) (tmE xs[j]) ≤ 12) := Lib.hid (fun j hj hjk => by
                by_cases e : j = k
                · subst e; rw [hex]; exact hb12
                · exact HU.out j hj (by omega))
              have hgt : decide (12 < bndE (tmsL G) e) = false := by simpa using hb12
              clear hb12 hF
              go_wp2_with fail
              go_roundw
              case rel => exact ⟨k + 1, by omega, by go_num, hN, st⟩
              case measure => simp [intOf]; omega
            · have HO : Hid (¬ Bnd (tmsL G) xs) := Lib.hid (fun h => hb12 (by rw [← hex]; exact h _ (List.getElem_mem hlt)))
              have hgt : decide (12 < bndE (tmsL G) e) = true := by simpa using hb12
              clear hb12 hF
              obtain ⟨⟨q0, q1, q2⟩, _⟩ := poly3 st.out
              obtain ⟨⟨r0, r1, r2⟩, z0, z1, z2⟩ := poly3 st.res
              have hA := (setB3 st.res (OwnP.slice st.rows) p d)
              have hL := setL3 st.below (B0 := w.heap.size + 1) (by omega) (.int .i64 p) (.int .i64 d) (.slice A0 0 c0)
              obtain ⟨⟨m0, m1, m2⟩, _⟩ := poly3 hA.1
              go_wp2_with fail
              exact bodyPost_ret (v := .tuple #[.agg #[.int .i64 p, .int .i64 d, .slice A0 0 c0], .bool false]) (by simp [results, Try.results114, go_sem, m0, m1, m2]) rfl ⟨.inr ⟨HO.out, _, rfl, hA.2⟩, hL⟩
      · obtain rfl : k = xs.length := by omega
        have hBnd : Bnd (tmsL G) xs := fun t ht => by
          obtain ⟨j, hj, rfl⟩ := List.mem_iff_getElem.1 ht
          exact HU.out j hj hj
        have HS2 := Lib.hid (HSB.out hBnd)
        have HBN := Lib.hid hBnd
        clear hBnd HU
        go_wp2_with fail
        clear c0' c1' c2'
        have HO0 : Hid (IsP p [] (subF p P (xs.take 0))) := Lib.hid ((IsP.nil p).congr fun e _ => (subF_zero p P xs e).symm)
        have st1 : ∃ sv, RepS w wo bq p d d' (.slice a xs.length cap) sv [] := ⟨_, st⟩
        clear st
        obtain ⟨svS, st1⟩ := st1
        go_loopw [10] (fun i wr => ∃ (k : Nat) (sv : Value) (O : List Tm), k ≤ xs.length ∧ i = .int .i64 k ∧ Hid (IsP p O (subF p P (xs.take k))) ∧ RepS w wr bq p d d' (.slice a xs.length cap) sv O) (fun i _ => xs.length - (intOf i).toNat)
        case atStart => exact ⟨0, _, _, by omega, rfl, HO0, st1⟩
        case round =>
          clear st1 HO0
          obtain ⟨k, sv, O, hk, rfl, HO, st⟩ := hrel
          obtain ⟨wo, rfl⟩ : ∃ wo : World, wo = wr := ⟨_, rfl⟩
          obtain ⟨sa, sc, rfl⟩ := owns_slice st.rows
          obtain ⟨⟨c0', c1', c2'⟩, _⟩ := poly3 st.arg
          obtain ⟨⟨q0, q1, q2⟩, y0, y1, y2⟩ := poly3 st.out
          by_cases hlt : k < xs.length
          · have hlt' : (k : Int) < (xs.length : Int) := by omega
            obtain ⟨A1, cap1, hv1, hcase1⟩ := hS
            simp at hv1
            obtain ⟨rfl, rfl⟩ := hv1
            rcases hcase1 with h0 | ⟨b1, off1, rfl, hltb1, hTx⟩
            · rw [h0] at hlt; exact absurd hlt (by simp)
            obtain ⟨⟨hm12, hs12⟩, bu1, bu2⟩ := HV.out.mem xs[k] (List.getElem_mem _)
            have hm : mono12 (tmE xs[k]) := ⟨hm12, hs12⟩
            have HNT := Lib.hid (fun (w' : World) (hb : Below w.heap.size w w') (m : Nat) (hm : m < 3) => nthT_cell (hTx.below hb hltb1) hlt hm)
            have HE := Lib.hid (nthE_bound hm)
            have hpr := HS2.out xs[k] (List.getElem_mem _)
            have HSTEP := Lib.hid (fun (L : List Tm) (hL : ∀ e, byte3 e → atL L e = xs[k].2.2.2 * atL (P (tmE xs[k])) e % p) e he => sub_step (P := P) hlt hL e he)
            obtain ⟨_, _, _, cu⟩ := hTx.below st.below hltb1 k hlt
            have hbnd := HBN.out xs[k] (List.getElem_mem _)
            rw [← HF.out, HLN.out] at hbnd
            have HSUM := Lib.hid (fun (m j : Nat) (hj : (j : Int) ≤ nthE (tmE xs[k]) m) (hmn : m < G.length) => sumD_facP (Ls := tmsL G) hm hj hmn hbnd)
            have HFV := Lib.hid (fun (m j : Nat) => facP_valid (HPV.out 0 (by omega)).2.2 HLT.out (tmE xs[k]) m j)
            have HFK := Lib.hid (facK_full (Ls := tmsL G) hl1 hl3 (HXZ.out xs[k] (List.getElem_mem _)))
            generalize hu : xs[k].2.2.2 = u at cu bu1 bu2 HSTEP
            generalize hex : tmE xs[k] = e at HNT HE hpr HSUM HFV HFK HSTEP
            have HPR := Lib.hid hpr
            have hpp := HV.out.p2
            have hpp13 := HV.out.p13
            obtain ⟨O1, hO1⟩ : ∃ O1, putL p [] (0, 0, 0) u = O1 := ⟨_, rfl⟩
            have HO1 : Hid (PrV p u (facP (tmsL G) e 0 0) O1) := Lib.hid (by rw [← hO1]; exact PrV.one (HPV.out 0 (by omega)).2.2)
            have hblo : b1 < wo.heap.size := Nat.lt_of_lt_of_le hltb1 st.below.size
            have KK := Lib.hid (fun w' (h : Below wo.heap.size wo w') => show ((w'.cell? ⟨bq, 0, none⟩ = some (.int .i64 p) ∧ w'.cell? ⟨bq, 1, none⟩ = some (.int .i64 d)) ∧ (w'.cell? ⟨w.heap.size, 2, none⟩ = some (.slice (some ⟨b1, off1, none⟩) xs.length cap) ∧ w'.cell? ⟨b1, off1 + k * 4 + 3, none⟩ = some (.int .i64 u))) from
              ⟨⟨(h.cell (p := ⟨bq, _, none⟩) st.out.lt).trans q0, (h.cell (p := ⟨bq, _, none⟩) st.out.lt).trans q1⟩, (h.cell (p := ⟨w.heap.size, _, none⟩) st.arg.lt).trans c2', (h.cell (p := ⟨b1, _, none⟩) hblo).trans cu⟩)
            have H1A := Lib.hid (fun w => one_any p d 0 0 0 u w hpp hpp13 (by unfold byte3; simp) (by omega) (by omega))
            rw [hO1] at H1A
            clear hTx hm hm12 hs12 hpr hbnd hO1 hu hex
            go_upto_region 15 with fail
            clear c0' c1' c2' q0 q1 q2 y0 y1 y2 cu
            go_cut [11] (fun s11 wx => ∃ (bo : Nat) (A : Option Addr) (c : Nat), s11 = .pointer (some ⟨bo, 0, none⟩) ∧ wx.rowIs bo 42 3 (polyF p d (.slice A O1.length c)) ∧ SliceT wx (.slice A O1.length c) O1 ∧ Below wo.heap.size wo wx ∧ wo.heap.size ≤ bo)
            case first =>
              go_region_held3 (fun w' => ((w'.cell? ⟨bq, 0, none⟩ = some (.int .i64 p) ∧ w'.cell? ⟨bq, 1, none⟩ = some (.int .i64 d)) ∧ (w'.cell? ⟨w.heap.size, 2, none⟩ = some (.slice (some ⟨b1, off1, none⟩) xs.length cap) ∧ w'.cell? ⟨b1, off1 + k * 4 + 3, none⟩ = some (.int .i64 u))))
                (first | with_reducible exact KK.out _ (setL3 HB13 (Nat.le_refl _) _ _ _) | with_reducible exact KK.out _ (Below.same _).drew | with_reducible exact KK.out _ (box1 _ _).drew | with_reducible exact KK.out _ HB13 | with_reducible exact KK.out _ (HB13.trans ((box1 _ _).mono HB13.size)))
                ((go_at_call 85; (with_reducible refine (H1A.out _).mono ?_); rintro e w13 ⟨v13, rfl, ho13, hb13⟩; have HB13 : Below wo.heap.size wo w13 := (by first | exact (Below.same _).drew.trans hb13 | with_reducible exact (box1 _ _).drew.trans (hb13.mono (by simp))); (first | (have ZR13 : w13.rowIs wo.heap.size 42 3 (polyF 0 0 (.slice none 0 0)) := rowIs_below (zboxD wo) hb13 (by simp); obtain ⟨⟨e130, e131, e132⟩, f130, f131, f132⟩ := poly3 ZR13) | skip); (obtain ⟨sa13, sc13, rfl⟩ := owns_slice ho13)))
              all_goals
                go_wp2_with fail
                go_meet
                first
                  | exact ⟨w13.heap.size, sa13, sc13, rfl, World.rowIs_alloc w13 #[Value.int .i64 p, .int .i64 d, .slice sa13 O1.length sc13] _ _ (fun i hi => by simp at hi; match i, hi with | 0, _ => rfl | 1, _ => rfl | 2, _ => rfl), (OwnP.slice ho13).below (box1 _ _), HB13.trans ((box1 _ _).mono HB13.size), HB13.size⟩
                  | exact ⟨wo.heap.size, sa13, sc13, rfl, (setB3 ZR13 (OwnP.slice ho13) p d).1, (setB3 ZR13 (OwnP.slice ho13) p d).2, setL3 HB13 (Nat.le_refl _) _ _ _, Nat.le_refl _⟩
            case rest =>
              obtain ⟨bo, A2, c2, rfl, ro, ho, hbo, hbo2⟩ := hcut
              have hqo : bo ≠ bq := by have := st.out.lt; omega
              have hbo3 : w.heap.size + 2 ≤ bo := by have := st.out.lt; have := st.q2; omega
              have st2 := st.later hbo
              clear st KK H1A hbo hbo2
              go_wp2_with fail
              go_loopw [12] (fun i wr => ∃ (m : Nat) (sv2 : Value) (O2 : List Tm), m ≤ G.length ∧ i = .int .i64 m ∧ Hid (PrV p u (facP (tmsL G) e m 0) O2) ∧ wr.rowIs bo 42 3 (polyF p d sv2) ∧ SliceT wr sv2 O2 ∧ RepS w wr bq p d d' (.slice (some ⟨b1, off1, none⟩) xs.length cap) (.slice sa O.length sc) O) (fun i _ => G.length - (intOf i).toNat)
              case atStart => exact ⟨0, _, O1, by omega, rfl, HO1, ro, ho, st2⟩
              case round =>
                clear st2 ro ho HO1
                obtain ⟨m, sv2, O2, hm, rfl, HO2, ro, ho, st⟩ := hrel
                obtain ⟨wm, rfl⟩ : ∃ wm : World, wm = wr := ⟨_, rfl⟩
                by_cases hlm : m < G.length
                · have hlm' : (m : Int) < (G.length : Int) := by omega
                  have hm3 : m < 3 := by omega
                  have hm3' : (m : Int) < 3 := by omega
                  obtain ⟨⟨x0, x1, x2⟩, _⟩ := poly3 st.arg
                  have cE := HNT.out wm st.below m hm3
                  obtain ⟨e0, e1⟩ := HE.out m
                  obtain ⟨E, hE⟩ : ∃ E : Nat, nthE e m = (E : Int) := ⟨(nthE e m).toNat, by omega⟩
                  have HFU : Hid (facP (tmsL G) e m E = facP (tmsL G) e (m + 1) 0) := Lib.hid (by
                    rw [facP_zero, ← facP_full, hE]; rfl)
                  have HSM := Lib.hid (fun (j : Nat) (hj : j ≤ E) => HSUM.out m j (by rw [hE]; omega) hlm)
                  have hv := (HPV.out m hlm)
                  have HTM := Lib.hid (tmsL_nth hlm)
                  rw [hE] at cE e1
                  have HVM := Lib.hid hv
                  clear hE e0 hv
                  go_wp2_with fail
                  clear x0 x1 x2 cE
                  go_loopw [13] (fun i wr => ∃ (j : Nat) (sv3 : Value) (O3 : List Tm), j ≤ E ∧ i = .int .u8 ((E : Int) - j) ∧ Hid (PrV p u (facP (tmsL G) e m j) O3) ∧ wr.rowIs bo 42 3 (polyF p d sv3) ∧ SliceT wr sv3 O3 ∧ RepS w wr bq p d d' (.slice (some ⟨b1, off1, none⟩) xs.length cap) (.slice sa O.length sc) O) (fun i _ => (intOf i).toNat)
                  case atStart => exact ⟨0, _, O2, by omega, by simp, HO2, ro, ho, st⟩
                  case round =>
                    clear st ro ho HO2
                    obtain ⟨j, sv3, O3, hj, rfl, HO3, ro, ho, st⟩ := hrel
                    by_cases hlj : j < E
                    · have hpos : (0 : Int) < (E : Int) - j := by omega
                      obtain ⟨sa3, sc3, rfl, _⟩ := id ho
                      obtain ⟨⟨o0, o1, o2⟩, z0, z1, z2⟩ := poly3 ro
                      obtain ⟨uv, g0, g1, g2, hu⟩ := (HT.out.below st.below hbl) m hlm
                      obtain ⟨ua, uc, rfl, _⟩ := id hu
                      rw [HVM.out.1] at g0
                      rw [HVM.out.2.1] at g1
                      obtain ⟨f3, hf3⟩ := HO3.out.isP
                      have hV3 := HVM.out.2.2.of_isP hf3
                      have hsd : sumD (G[m].2.2 :: facP (tmsL G) e m j) ≤ 12 := by rw [← HTM.out, ← facP_succ]; exact HSM.out (j + 1) (by omega)
                      have HRM := Lib.hid (And.intro hV3 (PrV.room (HFV.out m j) hsd HO3.out))
                      have HNXT := Lib.hid (fun (L' : List Tm) (hL' : IsP p L' (mulF p O3 G[m].2.2)) => show PrV p u (facP (tmsL G) e m (j + 1)) L' from by
                        rw [facP_succ, HTM.out]
                        exact PrV.step (HFV.out m j) HVM.out.2.2 hsd HO3.out hL')
                      have hwd : IntKind.u8.wrap ((E : Int) - j - 1) = (E : Int) - j - 1 := IntWalk.u8_in _ (by omega)
                      clear hf3 hV3 hsd
                      go_upto_region 22 with fail
                      go_region_with
                        ((go_at_call 88; (with_reducible refine (specTimes_any p d _ _ O3 G[m].2.2 _ (ho.below (Below.same _).drew) (hu.below (Below.same _).drew) HRM.out.1 HVM.out.2.2 HRM.out.2).mono ?_); rintro e w13 ⟨v13, L13, rfl, ho13, hL13, hb13⟩; have HB13 : Below wr.heap.size wr w13 := (Below.same _).drew.trans hb13; have ZR13 := rowIs_below ro HB13 ro.lt; (obtain ⟨⟨e130, e131, e132⟩, f130, f131, f132⟩ := poly3 ZR13); (obtain ⟨sa13, sc13, rfl⟩ := owns_slice ho13)))
                      all_goals
                        have st13 := (st.later HB13).set3 ZR13 hqo hbo3 (.int .i64 p) (.int .i64 d) (.slice sa13 L13.length sc13)
                        have hset := setB3 ZR13 (OwnP.slice ho13) p d
                        have HN1 := Lib.hid (HNXT.out L13 hL13)
                        have hsub : (E : Int) - j - 1 = (E : Int) - ((j + 1 : Nat) : Int) := by omega
                        have HSUB := Lib.hid hsub
                        clear ho13 o0 o1 o2 z0 z1 z2 g0 g1 g2 ro ho st hu hsub
                        go_wp2_with fail
                        go_roundw
                        case rel => exact ⟨j + 1, _, L13, by omega, by rw [← HSUB.out], HN1, hset.1, hset.2, st13⟩
                        case measure => simp [intOf]; omega
                    · obtain rfl : j = E := by omega
                      have hpos : ¬ (0 : Int) < (j : Int) - j := by omega
                      have HO4 : Hid (PrV p u (facP (tmsL G) e (m + 1) 0) O3) := Lib.hid (by rw [← HFU.out]; exact HO3.out)
                      go_wp2_with fail
                      go_roundw
                      case rel => exact ⟨m + 1, _, O3, by omega, by go_num, HO4, ro, ho, st⟩
                      case measure => simp [intOf]; omega
                · obtain rfl : m = G.length := by omega
                  obtain ⟨sa3, sc3, rfl, _⟩ := id ho
                  obtain ⟨⟨o0, o1, o2⟩, _⟩ := poly3 ro
                  obtain ⟨⟨q0, q1, q2⟩, y0, y1, y2⟩ := poly3 st.out
                  have hO2 := HO2.out
                  rw [facP_zero, HFK.out] at hO2
                  obtain ⟨f2, hf2⟩ := hO2.isP
                  have HV2 := Lib.hid ((HPV.out 0 hl0).2.2.of_isP hf2)
                  have HSTP := Lib.hid (HSTEP.out O2 (fun e' he' => PrV.at hO2 HPR.out e' he'))
                  clear hO2 hf2
                  go_wp2_with fail
                  ((with_reducible refine (specPlus p d 1 _ _ O O2 (subF p P (xs.take k)) _ (OwnP.slice st.rows) ho HO.out HV2.out (by omega) (by omega)).mono ?_); rintro e w13 ⟨v13, L13, rfl, ho13, hL13, hb13⟩)
                  have HN1 : Hid (IsP p L13 (subF p P (xs.take (k + 1)))) := Lib.hid (hL13.congr fun e' he' => HSTP.out e' he')
                  obtain ⟨sa13, sc13, rfl⟩ := owns_slice ho13
                  have st13 := st.later hb13
                  have st14 := st.put hb13 ho13 st.below.size
                  obtain ⟨⟨e130, e131, e132⟩, f130, f131, f132⟩ := poly3 st13.out
                  clear ho13 o0 o1 o2 q0 q1 q2 y0 y1 y2 ro ho st st13 hL13 hb13
                  go_wp2_with fail
                  go_roundw
                  case rel => exact ⟨k + 1, _, L13, by omega, by go_num, HN1, st14⟩
                  case measure => simp [intOf]; omega
          · obtain rfl : k = xs.length := by omega
            have hO := HO.out
            rw [List.take_length] at hO
            have HOF := Lib.hid hO
            obtain ⟨⟨r0, r1, r2⟩, z0, z1, z2⟩ := poly3 st.res
            have hA := (setB3 st.res (OwnP.slice st.rows) p d)
            have hL := setL3 st.below (B0 := w.heap.size + 1) (by omega) (.int .i64 p) (.int .i64 d) (.slice sa O.length sc)
            obtain ⟨⟨m0, m1, m2⟩, _⟩ := poly3 hA.1
            have HOW : OwnP _ w.heap.size (.slice sa O.length sc) O := rep_own3 (i0 := 0) (i1 := 1) (i2 := 2) (x0 := .int .i64 p) (x1 := .int .i64 d) (x2 := .slice sa O.length sc) st.rows st.res
            have HOWN := Lib.hid HOW
            clear hO HO HOW
            go_wp2_with fail
            exact bodyPost_ret (v := .tuple #[.agg #[.int .i64 p, .int .i64 d, .slice sa O.length sc], .bool true]) (by simp [results, Try.results114, go_sem, m0, m1, m2]) rfl ⟨.inl ⟨HBN.out, _, O, rfl, HOWN.out, HOF.out⟩, hL⟩
end Go.Proofs.Ytbahejlgfpilnaa
namespace Go.Proofs.Ytbahejlgfpilnaa
open Go.RowKit Go.Sort Go.Maps

theorem infoPolyE : (Try.prog.info? 42).map (fun i => (i.zero, i.size, i.bytes)) = some (some (.agg #[.int .i64 0, .int .i64 0, .slice none 0 0]), 3, 40) := by kernel_rfl
def madePE (n : Nat) : Array Value := madeCells (Value.agg #[.int .i64 0, .int .i64 0, .slice none 0 0]).cells (n * 3)
theorem madePE_row (w : World) (n : Nat) (t : TypeId) : (w.alloc (.cells (madePE n) t)).rowIs w.heap.size t (n * 3) (fun i => (madePE n).getD i undef) := by
  have hs : (madePE n).size = n * 3 := by simp [madePE, madeCells]
  refine ⟨madePE n, heap_alloc_new w _, hs, fun i hi => ?_⟩
  simp [Array.getD, hs, hi]
theorem own_setE {w : World} {base b i N : Nat} {f : Nat → Value} {v x : Value} {S : List Tm} (h : OwnP w base v S) (hr : w.rowIs b 42 N f) : OwnP (w.setCell ⟨b, i, none⟩ x) base v S :=
  h.kept (row := some b) ⟨rfl, rfl, rfl, by rw [World.size_setCell]; exact Nat.le_refl _, fun k hk hne => Below.heap_setCell w ⟨b, i, none⟩ x k (fun e => hne (by rw [e]))⟩ (own_ne hr h (by decide))
theorem own_set3E {w : World} {base b i0 i1 i2 N : Nat} {f : Nat → Value} {v x0 x1 x2 : Value} {S : List Tm} (h : OwnP w base v S) (hr : w.rowIs b 42 N f) : OwnP (((w.setCell ⟨b, i0, none⟩ x0).setCell ⟨b, i1, none⟩ x1).setCell ⟨b, i2, none⟩ x2) base v S :=
  own_setE (own_setE (own_setE h hr) (hr.set i0 x0)) ((hr.set i0 x0).set i1 x1)
/-- The first j polynomials of a row of N cells are T 0, T 1, .. -/
structure FrE (w : World) (base gb N : Nat) (p : Int) (m : Nat) (T : Nat → List Tm) (j : Nat) (F : Nat → Value) : Prop where
  row : w.rowIs gb 42 N F
  fit : j * 3 ≤ N
  at' : ∀ i, i < j → F (i * 3) = .int .i64 p ∧ F (i * 3 + 1) = .int .i64 (m : Int) ∧ OwnP w base (F (i * 3 + 2)) (T i)
theorem FrE.later {w w' : World} {base gb N : Nat} {p : Int} {m : Nat} {T : Nat → List Tm} {j : Nat} {F : Nat → Value} (h : FrE w base gb N p m T j F) (hb : Below w.heap.size w w') : FrE w' base gb N p m T j F :=
  ⟨rowIs_below h.row hb h.row.lt, h.fit, fun i hi => ⟨(h.at' i hi).1, (h.at' i hi).2.1, owns_belowT (h.at' i hi).2.2 hb⟩⟩
theorem FrE.congr {w : World} {base gb N : Nat} {p : Int} {m : Nat} {T T' : Nat → List Tm} {j : Nat} {F : Nat → Value} (h : FrE w base gb N p m T j F) (e : ∀ i, i < j → T i = T' i) : FrE w base gb N p m T' j F :=
  ⟨h.row, h.fit, fun i hi => ⟨(h.at' i hi).1, (h.at' i hi).2.1, by rw [← e i hi]; exact (h.at' i hi).2.2⟩⟩
theorem FrE.put {w : World} {base base' gb N : Nat} {p : Int} {m : Nat} {T : Nat → List Tm} {j : Nat} {F : Nat → Value} (h : FrE w base gb N p m T j F) {i j' : Nat} {u : Value} {X : List Tm} (ho : OwnP w base' u X) (hb : base ≤ base') (hj : ∀ l, l < j' → l = i ∨ l < j) (hf : j' * 3 ≤ N) :
    FrE (((w.setCell ⟨gb, i * 3, none⟩ (.int .i64 p)).setCell ⟨gb, i * 3 + 1, none⟩ (.int .i64 (m : Int))).setCell ⟨gb, i * 3 + 2, none⟩ u) base gb N p m (fun l => if l = i then X else T l) j' (fun l => if l = i * 3 + 2 then u else if l = i * 3 + 1 then .int .i64 (m : Int) else if l = i * 3 then .int .i64 p else F l) := by
  refine ⟨((h.row.set (i * 3) (.int .i64 p)).set (i * 3 + 1) (.int .i64 (m : Int))).set (i * 3 + 2) u, hf, fun l hl => ?_⟩
  by_cases e : l = i
  · subst e
    refine ⟨?_, ?_, ?_⟩
    · rw [if_neg (by omega), if_neg (by omega), if_pos rfl]
    · rw [if_neg (by omega), if_pos rfl]
    · rw [if_pos rfl, if_pos rfl]
      exact owns_low (own_set3E ho h.row) hb
  · obtain ⟨a, b, c⟩ := h.at' l (by rcases hj l hl with h | h; exact absurd h e; exact h)
    refine ⟨?_, ?_, ?_⟩
    · rw [if_neg (by omega), if_neg (by omega), if_neg (by omega), a]
    · rw [if_neg (by omega), if_neg (by omega), if_neg (by omega), b]
    · rw [if_neg (by omega), if_neg (by omega), if_neg (by omega), if_neg e]
      exact own_set3E c h.row
theorem FrE.cells {w : World} {base gb N : Nat} {p : Int} {m : Nat} {T : Nat → List Tm} {j : Nat} {F : Nat → Value} (h : FrE w base gb N p m T j F) {i : Nat} (hi : i < j) :
    ∃ u, w.cell? ⟨gb, i * 3, none⟩ = some (.int .i64 p) ∧ w.cell? ⟨gb, i * 3 + 1, none⟩ = some (.int .i64 (m : Int)) ∧ w.cell? ⟨gb, i * 3 + 2, none⟩ = some u ∧ OwnP w base u (T i) := by
  obtain ⟨a, b, c⟩ := h.at' i hi
  have hf := h.fit
  exact ⟨_, (h.row.cell (by omega)).trans (by rw [a]), (h.row.cell (by omega)).trans (by rw [b]), h.row.cell (by omega), c⟩
theorem FrE.any {w : World} {base gb N : Nat} {p : Int} {m : Nat} {T : Nat → List Tm} {j : Nat} {F : Nat → Value} (h : FrE w base gb N p m T j F) {i : Nat} (hi : i * 3 + 3 ≤ N) :
    (w.cell? ⟨gb, i * 3, none⟩ = some (F (i * 3)) ∧ w.cell? ⟨gb, i * 3 + 1, none⟩ = some (F (i * 3 + 1)) ∧ w.cell? ⟨gb, i * 3 + 2, none⟩ = some (F (i * 3 + 2))) ∧ w.frozen? ⟨gb, i * 3, none⟩ = false ∧ w.frozen? ⟨gb, i * 3 + 1, none⟩ = false ∧ w.frozen? ⟨gb, i * 3 + 2, none⟩ = false :=
  ⟨⟨h.row.cell (by omega), h.row.cell (by omega), h.row.cell (by omega)⟩, h.row.frozen _, h.row.frozen _, h.row.frozen _⟩
theorem FrE.done {w : World} {base gb n : Nat} {p : Int} {F : Nat → Value} (h : FrE w base gb (n * 3) p n (fun i => eT n (i + 1)) n F) : SlP w (.slice (some ⟨gb, 0, none⟩) n n) (eG p n) := by
  refine ⟨some ⟨gb, 0, none⟩, n, by rw [eG_len], .inr ⟨gb, 0, rfl, h.row.lt, fun k hk => ?_⟩⟩
  rw [eG_len] at hk
  obtain ⟨u, a, b, c, d⟩ := h.cells hk
  have e : (eG p n)[k]'(by rw [eG_len]; exact hk) = (p, (n : Int), eT n (k + 1)) := by simp [eG, eLs]
  rw [e]
  exact ⟨u, by rw [Nat.zero_add]; exact a, by rw [Nat.zero_add]; exact b, by rw [Nat.zero_add]; exact c, OwnP.slice d⟩
theorem iel1 {p : Int} (hp : primeB p = true) {d k : Nat} (hd : 1 ≤ d ∧ d ≤ 3) (hk : k < d) (w : World) :
    Calls Try.prog 185 #[.int .i64 p, .int .i64 d, .int .i64 ((k : Int) + 1)] w fun e w' => ∃ v', e = .returned (.agg #[.int .i64 p, .int .i64 d, v']) ∧ OwnP w' w.heap.size v' (eT d (k + 1)) ∧ Below w.heap.size w w' := by
  obtain ⟨h2, h13⟩ := prime_bc hp
  have h := iel p d (k + 1) w hd (by omega) h2 h13
  rw [eT_ms hp hd ⟨by omega, by omega⟩, show ((k + 1 : Nat) : Int) = (k : Int) + 1 by simp] at h
  exact h
theorem sel1 {p : Int} (hp : primeB p = true) {d k : Nat} (hd : 1 ≤ d ∧ d ≤ 3) (hk : k < d) (w : World) :
    Calls Try.prog 113 #[.int .i64 p, .int .i64 d, .int .i64 ((k : Int) + 1)] w fun e w' => ∃ v', e = .returned (.agg #[.int .i64 p, .int .i64 d, v']) ∧ OwnP w' w.heap.size v' (eT d (k + 1)) ∧ Below w.heap.size w w' := by
  obtain ⟨h2, h13⟩ := prime_bc hp
  have h := sel p d (k + 1) w hd (by omega) h2 h13
  rw [eT_ms hp hd ⟨by omega, by omega⟩, show ((k + 1 : Nat) : Int) = (k : Int) + 1 by simp] at h
  exact h

set_option maxRecDepth 8000 in
set_option maxHeartbeats 8000000 in
theorem ielems (p : Int) (n : Nat) (w : World) (hp : primeB p = true) (hd : 1 ≤ n ∧ n ≤ 3) :
    Calls Try.prog 116 #[.int .i64 p, .int .i64 n] w fun e w' => ∃ gb, e = .returned (.slice (some ⟨gb, 0, none⟩) n n) ∧ SlP w' (.slice (some ⟨gb, 0, none⟩) n n) (eG p n) ∧ Below w.heap.size w w' := by
  obtain ⟨i0, hi, hz0, hz1, hz2⟩ := info_parts infoPolyE
  have hmk : ∀ w, (Instr.makeSlice 27 (.int .i64 (n : Int)) (.int .i64 (n : Int))).run Try.prog w = .ok (.slice (some ⟨w.heap.size, 0, none⟩) n n) (w.alloc (.cells (madePE n) 42)) := fun w => by
    have h := run_make (P := Try.prog) w 27 42 i0 _ Try.underlying27 hi hz0 .i64 .i64 (n : Int) (n : Int) (by omega) (by omega) (by rw [hz2]; omega) (by omega)
    rw [hz1] at h
    simpa [madePE, Value.cells] using h
  obtain ⟨W, hW, hbW, rW⟩ : ∃ W, W = w.alloc (.cells (madePE n) 42) ∧ Below w.heap.size w W ∧ W.rowIs w.heap.size 42 (n * 3) (fun i => (madePE n).getD i undef) := ⟨_, rfl, ebox1 _ _, madePE_row w n _⟩
  have hf0 : FrE W w.heap.size w.heap.size (n * 3) p n (fun i => eT n (i + 1)) 0 _ := ⟨rW, by omega, fun i h => by omega⟩
  have HEL := Lib.hid (fun k (hk : k < n) w => iel1 hp hd hk w)
  clear hi hz0 hz1 hz2 rW hp
  go_enter Try.func116, Try.ntmps116
  go_upto_region 2 with fail
  rw [← hW]
  clear hW hmk
  go_wp2_with fail
  go_loopw [11] (fun jv wr => ∃ (j : Nat) (F : Nat → Value), j ≤ n ∧ jv = .int .i64 j ∧ FrE wr w.heap.size w.heap.size (n * 3) p n (fun i => eT n (i + 1)) j F ∧ Below w.heap.size w wr) (fun jv _ => n - (intOf jv).toNat)
  case atStart => exact ⟨0, _, by omega, rfl, hf0, hbW⟩
  case round =>
    clear hf0 hbW
    obtain ⟨j, F, hj, rfl, hF, hbr⟩ := hrel
    by_cases hlj : j < n
    · have hlj' : (j : Int) < (n : Int) := by omega
      have hwj : IntKind.i64.wrap ((j : Int) + 1) = (j : Int) + 1 := IntWalk.i64_in _ (by omega)
      go_wp2_with fail
      ((with_reducible refine (HEL.out j hlj _).mono ?_); rintro e w2 ⟨v2, rfl, ho2, hb2⟩)
      obtain ⟨sa, sc, rfl⟩ := owns_slice ho2
      obtain ⟨X, hX⟩ : ∃ X, eT n (j + 1) = X := ⟨_, rfl⟩
      have HX := Lib.hid hX
      rw [hX] at ho2
      simp only [hX]
      have hF2 := hF.later hb2
      obtain ⟨⟨k0, k1, k2⟩, z0, z1, z2⟩ := hF2.any (i := j) (by omega)
      have hF3 := hF2.put (i := j) (j' := j + 1) ho2 hbr.size (fun l hl => by omega) (by omega)
      have hF4 := hF3.congr (T' := fun i => eT n (i + 1)) (fun i hi => by
        by_cases e : i = j
        · subst e; simp only [if_true]; exact HX.out.symm
        · simp only [e, if_false])
      have hb4 := (((hbr.trans (hb2.mono hbr.size)).setCell (p := ⟨w.heap.size, j * 3, none⟩) (Nat.le_refl _) (.int .i64 p)).setCell (p := ⟨w.heap.size, j * 3 + 1, none⟩) (Nat.le_refl _) (.int .i64 (n : Int))).setCell (p := ⟨w.heap.size, j * 3 + 2, none⟩) (Nat.le_refl _) (.slice sa X.length sc)
      clear hF hF2 hF3 hX hbr hb2 ho2
      go_wp2_with fail
      go_roundw
      case rel => exact ⟨j + 1, _, by omega, by go_num, hF4, hb4⟩
      case measure => simp [intOf]; omega
    · obtain rfl : j = n := by omega
      have hd := hF.done
      go_wp2_with fail
      go_ret
      exact ⟨_, rfl, hd, hbr⟩
end Go.Proofs.Ytbahejlgfpilnaa
namespace Go.Proofs.Ytbahejlgfpilnaa
open Go.RowKit Go.Sort Go.Maps

theorem beyondE {p : Int} {n : Nat} {xs : List Tm} (h : isPolyB p n xs = true) : ∀ t ∈ xs, ∀ i, n ≤ i → nthE (tmE t) i = 0 := fun t ht i hi => by
  have hd : 1 ≤ n := by
    simp only [isPolyB, Bool.and_eq_true, decide_eq_true_eq] at h
    have := h.2.1.1
    omega
  have hc : chain p n none xs = true := by
    simp only [isPolyB, Bool.and_eq_true] at h
    simpa [tailB, prevT] using h.2.2
  have hk := (chain_asc p n xs none hc).2.2 t ht
  simp only [termOk, expsOk, tailOk, Bool.and_eq_true, Bool.or_eq_true, decide_eq_true_eq, beq_iff_eq] at hk
  obtain ⟨⟨⟨⟨_, hy⟩, hz⟩, _⟩, _⟩ := hk
  unfold nthE
  simp only [tmE]
  split
  · omega
  · split
    · subst_vars; omega
    · split
      · subst_vars; omega
      · rfl

theorem eG_listP {p : Int} {n : Nat} (hp : primeB p = true) (hd : 1 ≤ n ∧ n ≤ 3) : ListP p n (eG p n) :=
  ⟨by rw [eG_len]; exact hd.1, by rw [eG_len]; exact hd.2, fun g hg => by
    obtain ⟨k, h1, h2, rfl⟩ := eG_mem hg
    exact ⟨rfl, rfl, valid_of (eT_poly hp hd ⟨h1, h2⟩) (eT_byte n k)⟩⟩
theorem one_polyE (w : World) (p n : Int) (u : Value) : ∀ (j : Nat) (x : Value), ([Value.int .i64 p, .int .i64 n, u] : List Value)[j]? = some x → (w.alloc (.cells #[.int .i64 p, .int .i64 n, u] 42)).cell? ((⟨w.heap.size, 0, none⟩ : Addr).add j) = some x :=
  World.news_of_block (cs := #[.int .i64 p, .int .i64 n, u]) (t := 42) (fr := (0, 0)) (heap_alloc_new w _)
/-- What a substitution of elementary polynomials gives. -/
theorem sub_cases {p : Int} {n : Nat} {xs : List Tm} {o : OutP} (hx : isPolyB p (n : Int) xs = true) (hd : 1 ≤ n) (ho : SubO p n xs (eG p n) o) :
    (Bnd (tmsL (eG p n)) xs ∧ ∃ P L, Subs p (tmsL (eG p n)) xs P ∧ IsP p L (subF p P xs) ∧ o = ⟨p, n, L, 0⟩) ∨ (¬ Bnd (tmsL (eG p n)) xs ∧ o = noP 3) := by
  have hc := eG_code hx
  by_cases hB : xs.all (fun t => decide (bndE (tmsL (eG p n)) (tmE t) ≤ 12)) = true
  · rw [if_pos hB] at hc
    rcases ho with ⟨h, _⟩ | ⟨_, P, L, h1, h2, h3⟩
    · exact absurd hc h
    · refine .inl ⟨fun t ht => by simpa using List.all_eq_true.1 hB t ht, P, L, h1, h2, ?_⟩
      rw [h3, eG_hd p hd]
  · rw [if_neg hB] at hc
    rcases ho with ⟨_, h⟩ | ⟨h, _⟩
    · refine .inr ⟨fun h' => hB (List.all_eq_true.2 fun t ht => by simpa using h' t ht), by rw [h, hc]⟩
    · rw [hc] at h; cases h

set_option maxRecDepth 8000 in
set_option maxHeartbeats 16000000 in
theorem isyo (p d : Int) (v : Value) (xs : List Tm) (w : World) (hl : xs.length ≤ 1048576) (hS : SliceT w v xs) (hby : ∀ t ∈ xs, tmByte t) (o : OutP) (ho : SymO p d xs o) :
    Calls Try.prog 45 #[.agg #[.int .i64 p, .int .i64 d, v]] w (ResO w o) := by
  obtain ⟨a, cap, rfl, _⟩ := id hS
  obtain ⟨W, hW, hbW, ⟨hWs1, hWs2⟩, rx, rr⟩ := boxes2 w p d (.slice a xs.length cap)
  obtain ⟨⟨c0, c1, c2⟩, _⟩ := poly3 rx
  have HB := Lib.hid (isPoly_any p d _ xs W hl (hS.below hbW) hby)
  go_enter Try.func45, Try.ntmps45
  go_wp2_with fail
  rw [← hW]
  clear hW
  ((with_reducible refine HB.out.mono ?_); rintro e w1 ⟨rfl, hb1⟩)
  have hbw1 := hbW.trans (hb1.mono hbW.size)
  have rx1 := rowIs_below rx hb1 rx.lt
  have rr1 := rowIs_below rr hb1 rr.lt
  have hs1 := hb1.size
  have hS1 := hS.below hbw1
  clear c0 c1 c2 rx rr HB
  rcases ho with ⟨hx, hoe⟩ | ⟨hx, ho⟩
  · rw [hx]
    clear hx
    obtain ⟨⟨r0, r1, r2⟩, z0, z1, z2⟩ := poly3 rr1
    obtain ⟨a0, a1, a2, a3, a4⟩ := fill_box (base := w.heap.size) rr1 (ownP_nil w1 w.heap.size) (Nat.le_refl _) hbw1 (by omega) 0 0
    have A0 := Lib.hid a0
    have A1 := Lib.hid a1
    have A2 := Lib.hid a2
    have A3 := Lib.hid a3
    have A4 := Lib.hid a4
    clear a0 a1 a2 a3 a4
    go_wp2_with fail
    exact bodyPost_ret (v := .tuple #[.agg #[.int .i64 0, .int .i64 0, .slice none 0 0], .int .i64 1]) (by simp [results, Try.results45, go_sem, A0.out, A1.out, A2.out]) rfl (by rw [hoe]; exact ⟨_, rfl, A3.out, A4.out⟩)
  · rw [hx]
    have h0 := hx
    simp only [isPolyB, Bool.and_eq_true, decide_eq_true_eq] at h0
    obtain ⟨hp, hdd, _⟩ := h0
    obtain ⟨n, rfl⟩ := Int.eq_ofNat_of_zero_le (show 0 ≤ d by omega)
    have hd : 1 ≤ n ∧ n ≤ 3 := by omega
    rw [show ((n : Int)).toNat = n by simp] at ho
    obtain ⟨P, D, S, c⟩ := o
    have HE := Lib.hid (fun w => ielems p n w hp hd)
    have HC := Lib.hid (fun w lv h1 h2 => iSub p n (.slice a xs.length cap) lv xs (eG p n) w hl h1 hby (by rw [eG_len]; omega) (eG_ok p n) h2 _ ho)
    have KK := Lib.hid (fun w' (h : Below w1.heap.size w1 w') => show (w'.cell? ⟨w.heap.size, 0, none⟩ = some (.int .i64 p) ∧ w'.cell? ⟨w.heap.size, 1, none⟩ = some (.int .i64 (n : Int)) ∧ w'.cell? ⟨w.heap.size, 2, none⟩ = some (.slice a xs.length cap)) from (poly3 (rowIs_below rx1 h rx1.lt)).1)
    have KS := Lib.hid (fun w' (h : Below w1.heap.size w1 w') (u0 u1 u2 : Value) => show (fun w' => (w'.cell? ⟨w.heap.size, 0, none⟩ = some (.int .i64 p) ∧ w'.cell? ⟨w.heap.size, 1, none⟩ = some (.int .i64 (n : Int)) ∧ w'.cell? ⟨w.heap.size, 2, none⟩ = some (.slice a xs.length cap))) (((w'.setCell ⟨w.heap.size + 1, 0, none⟩ u0).setCell ⟨w.heap.size + 1, 1, none⟩ u1).setCell ⟨w.heap.size + 1, 2, none⟩ u2) from
      (poly3 (setO3 (rowIs_below rx1 h rx1.lt) (by omega) u0 u1 u2)).1)
    clear hx ho hp hdd
    go_upto_region 3 with fail
    go_region_held3 (fun w' => (w'.cell? ⟨w.heap.size, 0, none⟩ = some (.int .i64 p) ∧ w'.cell? ⟨w.heap.size, 1, none⟩ = some (.int .i64 (n : Int)) ∧ w'.cell? ⟨w.heap.size, 2, none⟩ = some (.slice a xs.length cap)))
      (first | with_reducible exact KS.out _ HB14 _ _ _ | with_reducible exact KK.out _ (Below.same _).drew | with_reducible exact KK.out _ HB13 | with_reducible exact KK.out _ HB14)
      (first
      | (go_at_call 116; (with_reducible refine (HE.out _).mono ?_); rintro e w13 ⟨B13, rfl, hG13, hb13⟩; have HB13 : Below w1.heap.size w1 w13 := (Below.same _).drew.trans hb13)
      | (go_at_call 115; (with_reducible refine (HC.out _ _ (hS1.below HB13) hG13).mono ?_); rintro e w14 ⟨v14, rfl, ho14, hb14⟩; simp only at ho14; have HB14 : Below w1.heap.size w1 w14 := HB13.trans (hb14.mono HB13.size); have rr14 := rowIs_below rr1 HB14 rr1.lt; (obtain ⟨sa14, sc14, rfl⟩ := owns_slice ho14); (obtain ⟨⟨r0, r1, r2⟩, z0, z1, z2⟩ := poly3 rr14); (obtain ⟨a0, a1, a2, a3, a4⟩ := fill_box (w := w) rr14 ho14 (Nat.le_trans hbw1.size HB13.size) (hbw1.trans (HB14.mono hbw1.size)) (by omega) P D); have A0 := Lib.hid a0; have A1 := Lib.hid a1; have A2 := Lib.hid a2; have A3 := Lib.hid a3; have A4 := Lib.hid a4; clear a0 a1 a2 a3 a4))
    all_goals
      go_wp2_with fail
      exact bodyPost_ret (v := .tuple #[.agg #[.int .i64 P, .int .i64 D, .slice sa14 S.length sc14], .int .i64 c]) (by simp [results, Try.results45, go_sem, A0.out, A1.out, A2.out]) rfl ⟨_, rfl, A3.out, A4.out⟩

set_option maxRecDepth 8000 in
set_option maxHeartbeats 16000000 in
theorem ssyo (p d : Int) (v : Value) (xs : List Tm) (w : World) (hl : xs.length ≤ 1048576) (hS : SliceT w v xs) (hby : ∀ t ∈ xs, tmByte t) (o : OutP) (ho : SymO p d xs o) :
    Calls Try.prog 44 #[.agg #[.int .i64 p, .int .i64 d, v]] w (ResO w o) := by
  obtain ⟨a, cap, rfl, _⟩ := id hS
  obtain ⟨W, hW, hbW, ⟨hWs1, hWs2⟩, rx, rr⟩ := boxes2 w p d (.slice a xs.length cap)
  obtain ⟨⟨c0, c1, c2⟩, _⟩ := poly3 rx
  have HB := Lib.hid (specIs_any p d _ xs W hl (hS.below hbW) hby)
  go_enter Try.func44, Try.ntmps44
  go_wp2_with fail
  rw [← hW]
  clear hW
  ((with_reducible refine HB.out.mono ?_); rintro e w1 ⟨rfl, hb1⟩)
  have hbw1 := hbW.trans (hb1.mono hbW.size)
  have rx1 := rowIs_below rx hb1 rx.lt
  have rr1 := rowIs_below rr hb1 rr.lt
  have hs1 := hb1.size
  have hS1 := hS.below hbw1
  clear c0 c1 c2 rx rr HB
  rcases ho with ⟨hx, hoe⟩ | ⟨hx, ho⟩
  · rw [hx]
    clear hx
    obtain ⟨⟨r0, r1, r2⟩, z0, z1, z2⟩ := poly3 rr1
    obtain ⟨a0, a1, a2, a3, a4⟩ := fill_box (base := w.heap.size) rr1 (ownP_nil w1 w.heap.size) (Nat.le_refl _) hbw1 (by omega) 0 0
    have A0 := Lib.hid a0
    have A1 := Lib.hid a1
    have A2 := Lib.hid a2
    have A3 := Lib.hid a3
    have A4 := Lib.hid a4
    clear a0 a1 a2 a3 a4
    go_wp2_with fail
    exact bodyPost_ret (v := .tuple #[.agg #[.int .i64 0, .int .i64 0, .slice none 0 0], .int .i64 1]) (by simp [results, Try.results44, go_sem, A0.out, A1.out, A2.out]) rfl (by rw [hoe]; exact ⟨_, rfl, A3.out, A4.out⟩)
  · rw [hx]
    have h0 := hx
    simp only [isPolyB, Bool.and_eq_true, decide_eq_true_eq] at h0
    obtain ⟨hp, hdd, _⟩ := h0
    obtain ⟨n, rfl⟩ := Int.eq_ofNat_of_zero_le (show 0 ≤ d by omega)
    have hd : 1 ≤ n ∧ n ≤ 3 := by omega
    rw [show ((n : Int)).toNat = n by simp] at ho
    have HCC := Lib.hid (sub_cases hx hd.1 ho)
    have HEL := Lib.hid (fun k (hk : k < n) w => sel1 hp hd hk w)
    have HLP := Lib.hid (eG_listP hp hd)
    have HV := Lib.hid (valid_of hx hby)
    have HZ := Lib.hid (show ∀ t ∈ xs, ∀ i, (eG p n).length ≤ i → nthE (tmE t) i = 0 by rw [eG_len]; exact beyondE hx)
    obtain ⟨i0, hi0, hz0, hz1, hz2⟩ := info_parts infoPolyE
    have st0 : PMk (w1.alloc (.cells #[] 42)) w1.heap.size w1.heap.size p n (.slice (some ⟨w1.heap.size, 0, none⟩) 0 0) [] (eLs n 0) := PMk.nilB (by
      have := World.ownsRow_made (base := w1.heap.size) (e := 42) (size := 3) w1 #[] 0 (Nat.le_refl _) (by simp [maxLen]) rfl
      simpa using this)
    have hb0 := box1 w1 (.cells #[] 42)
    clear hx ho hp hdd
    go_wp2_with fail
    go_loopw [4, 5] (fun vv i wr => ∃ (k : Nat) (v : Value) (us : List Value) (hi : Nat), k ≤ n ∧ i = .int .i64 ((k : Int) + 1) ∧ vv = v ∧ PMk wr w1.heap.size hi p n v us (eLs n k) ∧ hi ≤ wr.heap.size ∧ w1.heap.size ≤ hi ∧ Below w1.heap.size w1 wr) (fun _ i _ => n + 1 - (intOf i).toNat)
    case atStart => exact ⟨0, _, _, _, by omega, rfl, rfl, st0, hb0.size, Nat.le_refl _, hb0⟩
    case round =>
      clear st0 hb0
      obtain ⟨k, v, us, hi, hk, rfl, hvv, st, hhi, hWhi, hbr⟩ := hrel
      obtain ⟨sa, sc, hv⟩ := st.shape
      subst hv
      subst u4
      have hln : (eLs n k).length = k := eLs_len n k
      have HST := Lib.hid (eLs_step n k)
      obtain ⟨Ls, hLs⟩ : ∃ Ls, eLs n k = Ls := ⟨_, rfl⟩
      have HLE := Lib.hid hLs
      rw [hLs] at HST hln st ⊢
      have HLN := Lib.hid hln
      have hkl : Ls.length ≤ 3 := by omega
      clear hLs hln
      obtain ⟨⟨p0, p1, p2⟩, _⟩ := poly3 (rowIs_below rx1 hbr rx1.lt)
      have hWr := hbr.size
      by_cases hlt : k < n
      · have hlt' : (k : Int) + 1 ≤ (n : Int) := by omega
        obtain ⟨X, hX⟩ : ∃ X, eT n (k + 1) = X := ⟨_, rfl⟩
        have HEK := Lib.hid (HEL.out k hlt wr)
        rw [hX] at HEK HST
        clear hX
        go_wp2_with fail
        ((with_reducible refine HEK.out.mono ?_); rintro e w3 ⟨v3, rfl, ho3, hb3⟩)
        obtain ⟨sa3, sc3, rfl⟩ := owns_slice ho3
        have hb4 : Below wr.heap.size wr (w3.alloc (.cells #[.int .i64 p, .int .i64 (n : Int), .slice sa3 X.length sc3] 42)) := hb3.trans ((box1 _ _).mono hb3.size)
        have st4 := st.below hb4
        have hmx : Ls.length + 1 ≤ maxLen := by unfold maxLen; omega
        have hmb : (Ls.length + 1) * 40 ≤ 140737488355328 := by omega
        have hbs := Nat.le_trans hWr hb4.size
        clear p0 p1 p2 HEK
        go_wp2_with (at_builtin; refine wpList_append_lies _ rfl _ _ 27 rfl w1.heap.size 42 i0 _ 3 40 Try.underlying27 hi0 hz0 hz1 hz2 rfl (by decide) (.slice sa Ls.length sc) Ls.length (cellsQ p n us) rfl st4.rows ⟨w3.heap.size, 0, none⟩ 1 1 [.int .i64 p, .int .i64 (n : Int), .slice sa3 X.length sc3] rfl rfl (one_polyE w3 p (n : Int) _) (by intro y hy; simp at hy; rcases hy with rfl | rfl | rfl <;> rfl) (by omega) hmx hmb hbs _ rfl ?_)
        intro gg cap3 w8 hown8 hgrow8 hat8 hlt8
        have stN := st4.more (u := .slice sa3 X.length sc3) (X := X) (hi2 := (w3.alloc (.cells #[.int .i64 p, .int .i64 (n : Int), .slice sa3 X.length sc3] 42)).heap.size) (owns_belowT ho3 (box1 _ _)) hhi hWr (Nat.le_refl _) hgrow8 hown8
        rw [← HST.out] at stN
        have h1 := hgrow8.size
        have hq8 : Below w1.heap.size w1 w8 := (hbr.trans (hb4.mono hWr)).grown hgrow8 hbs (fun q hq => (World.ownsRow.lt st4.rows q hq).1)
        clear hown8 hgrow8 hat8 st4 st
        go_wp2_with fail
        go_roundw
        case rel => exact ⟨k + 1, _, _, _, by omega, by go_num, rfl, stN, h1, hbs, hq8⟩
        case measure => simp [intOf]; omega
      · obtain rfl : k = n := by omega
        have hlt' : ¬ ((k : Int) + 1 ≤ (k : Int)) := by omega
        have hsl := st.slP
        have hG : SlP wr (.slice sa Ls.length sc) (eG p k) := by
          unfold eG
          rw [HLE.out]
          exact hsl
        have hSr := hS1.below hbr
        have rrr := rowIs_below rr1 hbr rr1.lt
        have hbwr := hbw1.trans (hbr.mono hbw1.size)
        rcases HCC.out with ⟨hBn, P, L, hP, hL, hoe⟩ | ⟨hBn, hoe⟩
        · have HR := Lib.hid (sRep p k k _ _ xs (eG p k) P wr HLP.out HV.out HZ.out (fun _ => hP) hSr hG)
          have HL := Lib.hid hL
          have HO := Lib.hid hoe
          have HBn := Lib.hid hBn
          clear st hsl hG hSr hP hL hoe hBn
          go_wp2_with fail
          ((with_reducible refine HR.out.mono ?_); rintro e w5 ⟨hres, hb5⟩)
          rcases hres with ⟨_, v5, L', rfl, ho5, hL'⟩ | ⟨hn, _⟩
          · obtain rfl : L' = L := hL'.unique HL.out
            obtain ⟨sa5, sc5, rfl⟩ := owns_slice ho5
            obtain ⟨V5, hV5, hbV5, ⟨hV5s1, hV5s2⟩, rb5⟩ := newbox w5 p (k : Int) (.slice sa5 L'.length sc5)
            have hbr5 := hb5.trans (hbV5.mono hb5.size)
            have rr5 := rowIs_below rrr hbr5 rrr.lt
            have hbw5 := hbwr.trans (hbr5.mono hbwr.size)
            have ho6 := owns_belowT ho5 hbV5
            obtain ⟨⟨q0, q1, q2⟩, _⟩ := poly3 rb5
            obtain ⟨⟨r0, r1, r2⟩, z0, z1, z2⟩ := poly3 rr5
            obtain ⟨a0, a1, a2, a3, a4⟩ := fill_box (w := w) rr5 ho6 hbwr.size hbw5 (by omega) p (k : Int)
            have A0 := Lib.hid a0
            have A1 := Lib.hid a1
            have A2 := Lib.hid a2
            have A3 := Lib.hid a3
            have A4 := Lib.hid a4
            clear a0 a1 a2 a3 a4 HR hL' ho5 ho6 rr5 rrr
            go_upto_region 9 with fail
            rw [← hV5]
            clear hV5
            go_wp2_with fail
            exact bodyPost_ret (v := .tuple #[.agg #[.int .i64 p, .int .i64 k, .slice sa5 L'.length sc5], .int .i64 0]) (by simp [results, Try.results44, go_sem, A0.out, A1.out, A2.out]) rfl (by rw [HO.out]; exact ⟨_, rfl, A3.out, A4.out⟩)
          · exact absurd HBn.out hn
        · have HR := Lib.hid (sRep p k k _ _ xs (eG p k) (fun _ => []) wr HLP.out HV.out HZ.out (fun h => absurd h hBn) hSr hG)
          have HO := Lib.hid hoe
          have HBn := Lib.hid hBn
          clear st hsl hG hSr hoe hBn
          go_wp2_with fail
          ((with_reducible refine HR.out.mono ?_); rintro e w5 ⟨hres, hb5⟩)
          rcases hres with ⟨hn, _⟩ | ⟨_, v5, rfl, hs5⟩
          · exact absurd hn HBn.out
          · obtain ⟨sa5, sc5, rfl, _⟩ := id hs5
            obtain ⟨V5, hV5, hbV5, ⟨hV5s1, hV5s2⟩, rb5⟩ := newbox w5 p (k : Int) (.slice sa5 0 sc5)
            have hbr5 := hb5.trans (hbV5.mono hb5.size)
            have rr5 := rowIs_below rrr hbr5 rrr.lt
            have hbw5 := hbwr.trans (hbr5.mono hbwr.size)
            obtain ⟨⟨r0, r1, r2⟩, z0, z1, z2⟩ := poly3 rr5
            obtain ⟨a0, a1, a2, a3, a4⟩ := fill_box (w := w) rr5 (ownP_nil V5 w.heap.size) (Nat.le_refl _) hbw5 (by omega) 0 0
            have A0 := Lib.hid a0
            have A1 := Lib.hid a1
            have A2 := Lib.hid a2
            have A3 := Lib.hid a3
            have A4 := Lib.hid a4
            clear a0 a1 a2 a3 a4 HR rr5 rrr
            go_upto_region 9 with fail
            try rw [← hV5]
            clear hV5
            go_wp2_with fail
            exact bodyPost_ret (v := .tuple #[.agg #[.int .i64 0, .int .i64 0, .slice none 0 0], .int .i64 3]) (by simp [results, Try.results44, go_sem, A0.out, A1.out, A2.out]) rfl (by rw [HO.out]; exact ⟨_, rfl, A3.out, A4.out⟩)
end Go.Proofs.Ytbahejlgfpilnaa
namespace Go.Proofs.Ytbahejlgfpilnaa
open Go.RowKit Go.Sort

set_option maxHeartbeats 1000000 in
theorem heldT_any (g n cap : Nat) (k0 : Int) (w : World) (hc : ∀ j, j < n * 4 → w.cell? ⟨g, j, none⟩ = some (markT k0 j)) (hn : n ≤ 1048576) (h0 : 0 ≤ k0) (h1 : k0 ≤ 1000000000) :
    Calls Try.prog 82 #[.slice (some ⟨g, 0, none⟩) n cap, .int .i64 k0] w fun e w' => e = .returned (.int .i64 (k0 + 4 * n)) ∧ w = w' := by
  go_enter Try.func82, Try.ntmps82
  go_wp2
  go_loop [1, 5] (fun m i => ∃ k : Nat, k ≤ n ∧ i = .int .i64 k ∧ m = .int .i64 (k0 + 4 * k)) (fun _ i => n - (intOf i).toNat)
  case atStart => exact ⟨0, by omega, rfl, by simp⟩
  case round =>
    obtain ⟨k, hk, rfl, rfl⟩ := hrel
    by_cases hlt : k < n
    · have hlt' : (k : Int) < (n : Int) := by omega
      go_wp2
      go_loop [1, 6] (fun m i => ∃ t : Nat, t ≤ 3 ∧ i = .int .i64 t ∧ m = .int .i64 (k0 + 4 * k + t)) (fun _ i => 3 - (intOf i).toNat)
      case atStart => exact ⟨0, by omega, rfl, by simp⟩
      case round =>
        obtain ⟨t, ht, rfl, rfl⟩ := hrel
        by_cases hlt2 : t < 3
        · have hlt2' : (t : Int) < 3 := by omega
          have hcell : w.cell? ⟨g, k * 4 + t, none⟩ = some (.int .u8 ((k0 + 4 * ↑k + ↑t) % 256)) := by
            rw [hc _ (by omega)]; unfold markT; rw [if_neg (by omega)]; congr 2; omega
          have hne : ((k0 + 4 * (k : Int) + t) % 256 != (k0 + 4 * (k : Int) + t) % 256) = false := by simp
          go_wp2
          go_round
          case rel => exact ⟨t + 1, by omega, by go_num, by go_num⟩
          case measure => simp [intOf]; omega
        · obtain rfl : t = 3 := by omega
          have hcell : w.cell? ⟨g, k * 4 + 3, none⟩ = some (.int .i64 (k0 + 4 * ↑k + 3)) := by
            rw [hc _ (by omega)]; unfold markT; rw [if_pos (by omega)]; congr 2; omega
          have hne : ((k0 + 4 * (k : Int) + 3) != (k0 + 4 * (k : Int) + 3)) = false := by simp
          go_wp2
          go_round
          case rel => exact ⟨k + 1, by omega, by go_num, by go_num⟩
          case measure => simp [intOf]; omega
    · obtain rfl : k = n := by omega
      go_wp2
      go_ret
      exact ⟨rfl, rfl⟩
end Go.Proofs.Ytbahejlgfpilnaa
namespace Go.Proofs.Ytbahejlgfpilnaa
open Go.RowKit Go.Sort

theorem heldT_zero (a : Option Addr) (c : Nat) (k0 : Int) (w : World) :
    Calls Try.prog 82 #[.slice a 0 c, .int .i64 k0] w fun e w' => e = .returned (.int .i64 k0) ∧ w = w' := by
  go_enter Try.func82, Try.ntmps82
  go_wp2
  refine wp_loop_rounds 1 ?_
  rw [rounds_succ]
  go_wp2
  go_ret
  exact ⟨rfl, rfl⟩

theorem heldS_marks {v : Value} {n : Nat} {k0 : Int} (w : World) (h : MarksT w v n k0) (hn : n ≤ 1048576) (h0 : 0 ≤ k0) (h1 : k0 ≤ 1000000000) :
    Calls Try.prog 82 #[v, .int .i64 k0] w fun e w' => e = .returned (.int .i64 (k0 + 4 * n)) ∧ w = w' := by
  rcases h with ⟨rfl, rfl⟩ | ⟨g, cap, rfl, _, hc⟩
  · exact (heldT_zero none 0 k0 w).mono fun e w' ⟨he, hw⟩ => ⟨by rw [he]; simp, hw⟩
  · exact heldT_any g n cap k0 w hc hn h0 h1

set_option maxHeartbeats 1000000 in
theorem heldPoly_marks {v : Value} {n : Nat} (p d k0 : Int) (w : World) (h : MarksT w v n k0) (hn : n ≤ 1048576) (h0 : 0 ≤ k0) (h1 : k0 ≤ 1000000000) :
    Calls Try.prog 30 #[.agg #[.int .i64 p, .int .i64 d, v], .int .i64 k0] w fun e w' => e = .returned (.int .i64 (k0 + 4 * n)) ∧ Below w.heap.size w w' := by
  have hO : ∀ o, MarksT (w.alloc o) v n k0 := fun o => h.below (box1 _ _)
  obtain ⟨a, m, c, hv⟩ : ∃ a m c, v = .slice a m c := by
    rcases h with ⟨rfl, _⟩ | ⟨g, cap, rfl, _⟩
    · exact ⟨_, _, _, rfl⟩
    · exact ⟨_, _, _, rfl⟩
  subst hv
  have hq : ¬ k0 + 4 * (n : Int) < 0 := by omega
  go_enter Try.func30, Try.ntmps30
  go_wp2_with fail
  ((with_reducible refine (heldS_marks _ (hO _) hn h0 h1).mono ?_); rintro e w1 ⟨rfl, rfl⟩)
  go_wp2
  go_ret
  exact ⟨rfl, box1 _ _⟩
end Go.Proofs.Ytbahejlgfpilnaa
namespace Go.Proofs.Ytbahejlgfpilnaa
open Go.RowKit Go.Sort


set_option maxRecDepth 8000 in
set_option maxHeartbeats 4000000 in
theorem law_Smo (p d : Int) (v : Value) (ts : List Tm) (w : World) (hn : ts.length ≤ 9223372036854775807) (hS : SliceT w v ts) (hby : ∀ t ∈ ts, tmByte t) :
    Calls Try.prog 10 #[.agg #[.int .i64 p, .int .i64 d, v]] w fun e w' => e = .returned (.bool true) ∧ Below w.heap.size w w' := by
  obtain ⟨W, hW, hbW, hWs, rx⟩ : ∃ W, W = w.alloc (.cells #[.int .i64 p, .int .i64 d, v] 60) ∧ Below w.heap.size w W ∧ w.heap.size < W.heap.size ∧
      W.rowIs w.heap.size 60 3 (polyF p d v) :=
    ⟨_, rfl, box1 _ _, by simp, World.rowIs_alloc w #[Value.int .i64 p, .int .i64 d, v] _ _ (fun i hi => by simp at hi; match i, hi with | 0, _ => rfl | 1, _ => rfl | 2, _ => rfl)⟩
  have hSW := hS.below hbW
  obtain ⟨a, cap, hv, _⟩ := id hS
  subst hv
  obtain ⟨⟨x0, x1, x2⟩, _⟩ := poly3 rx
  go_enter Try.func10, Try.ntmps10
  go_wp2_with fail
  rw [← hW]
  clear hW
  ((with_reducible refine (szPoly_any p d _ _ ts _ hn (by decide) (by decide) hSW).mono ?_); rintro e w1 ⟨rfl, hb1⟩)
  clear x0 x1 x2
  have rx1 := rowIs_below rx hb1 rx.lt
  have s1 := hb1.size
  obtain ⟨⟨x0, x1, x2⟩, _⟩ := poly3 rx1
  by_cases hbig : 1048576 < ts.length
  · have HL : Hid (leftOf 1048576 ts.length = -1) := Lib.hid (by simp [leftOf]; omega)
    rw [HL.out]
    go_wp2
    go_ret
    exact ⟨rfl, hbW.trans (hb1.mono (Nat.le_of_lt hWs))⟩
  have hl : ts.length ≤ 1048576 := by omega
  have HL : Hid (leftOf 1048576 ts.length = 1048576 - (ts.length : Int)) := Lib.hid (by simp [leftOf]; omega)
  rw [HL.out]
  clear hbig HL
  obtain ⟨o, ho⟩ := symO_ex (p := p) (d := d) (xs := ts) hby
  have hso : o.S.length ≤ 1048576 := symO_len ho
  have hspec := fun v' w' h' => ssyo p d v' ts w' hl h' hby o ho
  have himpl := fun v' w' h' => isyo p d v' ts w' hl h' hby o ho
  clear ho
  obtain ⟨P, D, S, c⟩ := o
  simp only at hso
  go_wp2_with fail
  ((with_reducible refine (toPoly_any p d _ ts _ hl (hSW.below hb1)).mono ?_); rintro e w2 ⟨v2, rfl, own2, hb2⟩)
  clear x0 x1 x2
  have rx2 := rowIs_below rx1 hb2 rx1.lt
  have s2 := hb2.size
  go_wp2_with fail
  ((with_reducible refine (hspec v2 w2 own2.slice).mono ?_); rintro e w3 ⟨sv3, rfl, ho3, hb3⟩)
  simp only at ho3
  obtain ⟨a3, c3, rfl⟩ := owns_slice ho3
  have rx3 := rowIs_below rx2 hb3 rx2.lt
  have s3 := hb3.size
  have hb13 := (hb1.trans (hb2.mono s1)).trans (hb3.mono (Nat.le_trans s1 s2))
  have hbw3 := hbW.trans (hb13.mono hbW.size)
  have sm3 := (OwnP.slice ho3).bound
  have hS3 := hSW.below hb13
  obtain ⟨V3, hV3, hbV3, ⟨hV3s1, hV3s2⟩, rb0⟩ : ∃ V, V = w3.alloc (.cells #[.int .i64 P, .int .i64 D, .slice a3 S.length c3] 42) ∧ Below w3.heap.size w3 V ∧ (V.heap.size ≤ w3.heap.size + 1 ∧ w3.heap.size + 1 ≤ V.heap.size) ∧
      V.rowIs w3.heap.size 42 3 (polyF P D (.slice a3 S.length c3)) :=
    ⟨_, rfl, box1 _ _, ⟨by simp, by simp⟩, World.rowIs_alloc w3 #[Value.int .i64 P, .int .i64 D, .slice a3 S.length c3] _ _ (fun i hi => by simp at hi; match i, hi with | 0, _ => rfl | 1, _ => rfl | 2, _ => rfl)⟩
  have xo0 : ∀ o, (w3.alloc o).cell? ⟨w.heap.size, 0, none⟩ = some (.int .i64 p) := fun o => ((box1 w3 o).cell rx3.lt).trans (poly3 rx3).1.1
  have xo1 : ∀ o, (w3.alloc o).cell? ⟨w.heap.size, 1, none⟩ = some (.int .i64 d) := fun o => ((box1 w3 o).cell rx3.lt).trans (poly3 rx3).1.2.1
  have xo2 : ∀ o, (w3.alloc o).cell? ⟨w.heap.size, 2, none⟩ = some (.slice a ts.length cap) := fun o => ((box1 w3 o).cell rx3.lt).trans (poly3 rx3).1.2.2
  go_wp2_with fail
  rw [← hV3]
  clear hV3 xo0 xo1 xo2
  have rxV3 := rowIs_below rx3 hbV3 rx3.lt
  have hSV3 := hS3.below hbV3
  have hbwV3 := hbw3.trans (hbV3.mono hbw3.size)
  ((with_reducible refine (toPoly_any p d _ ts _ hl hSV3).mono ?_); rintro e w4 ⟨v4, rfl, own4, hb4⟩)
  obtain ⟨g4, f4, hv4, _⟩ := id own4
  subst hv4
  have s4 := hb4.size
  have sz3 := hbw3.size
  obtain ⟨V4, hV4, hbV4, ⟨hV4s1, hV4s2⟩, rb1⟩ : ∃ V, V = w4.alloc (.cells #[.int .i64 p, .int .i64 d, .slice (some ⟨g4, 0, none⟩) ts.length ts.length] 42) ∧ Below w4.heap.size w4 V ∧ (V.heap.size ≤ w4.heap.size + 1 ∧ w4.heap.size + 1 ≤ V.heap.size) ∧
      V.rowIs w4.heap.size 42 3 (polyF p d (.slice (some ⟨g4, 0, none⟩) ts.length ts.length)) :=
    ⟨_, rfl, box1 _ _, ⟨by simp, by simp⟩, World.rowIs_alloc w4 #[Value.int .i64 p, .int .i64 d, .slice (some ⟨g4, 0, none⟩) ts.length ts.length] _ _ (fun i hi => by simp at hi; match i, hi with | 0, _ => rfl | 1, _ => rfl | 2, _ => rfl)⟩
  have hb34 := hbV3.trans ((hb4.trans (hbV4.mono s4)).mono (by omega))
  have hbVV := hb4.trans (hbV4.mono s4)
  have hS4 := own4.slice.below hbV4
  have own4V := own4.below hbV4
  go_wp2_with fail
  rw [← hV4]
  clear hV4
  ((with_reducible refine (himpl _ V4 hS4).mono ?_); rintro e w5 ⟨sv5, rfl, ho5, hb5⟩)
  simp only at ho5
  obtain ⟨a5, c5, rfl⟩ := owns_slice ho5
  have s5 := hb5.size
  obtain ⟨V5, hV5, hbV5, ⟨hV5s1, hV5s2⟩, rb2⟩ : ∃ V, V = w5.alloc (.cells #[.int .i64 P, .int .i64 D, .slice a5 S.length c5] 42) ∧ Below w5.heap.size w5 V ∧ (V.heap.size ≤ w5.heap.size + 1 ∧ w5.heap.size + 1 ≤ V.heap.size) ∧
      V.rowIs w5.heap.size 42 3 (polyF P D (.slice a5 S.length c5)) :=
    ⟨_, rfl, box1 _ _, ⟨by simp, by simp⟩, World.rowIs_alloc w5 #[Value.int .i64 P, .int .i64 D, .slice a5 S.length c5] _ _ (fun i hi => by simp at hi; match i, hi with | 0, _ => rfl | 1, _ => rfl | 2, _ => rfl)⟩
  have hb45 := hb5.trans (hbV5.mono s5)
  have hb35 := hbVV.trans (hb45.mono (by omega))
  have hb3V5 := hbV3.trans (hb35.mono (by omega))
  have st : LawSt w V5 w.heap.size w3.heap.size w4.heap.size w5.heap.size w3.heap.size p d P D (.slice a ts.length cap) (.slice a3 S.length c3) (.slice (some ⟨g4, 0, none⟩) ts.length ts.length) (.slice a5 S.length c5) ts S :=
    ⟨rowIs_below rx3 hb3V5 rx3.lt, rowIs_below rb0 hb35 rb0.lt, rowIs_below rb1 hb45 rb1.lt, rb2, (hS.bound.kept (below_grown (hbw3.trans (hb3V5.mono hbw3.size))) (Nat.le_refl _) (fun g e => by simp at e)), sm3.kept (below_grown hb3V5) (Nat.le_refl _) (fun g e => by simp at e), hbw3.trans (hb3V5.mono hbw3.size), sz3, by omega⟩
  have hx5 : OwnT V5 V3.heap.size (.slice (some ⟨g4, 0, none⟩) ts.length ts.length) ts := own4V.below hb45
  have hg5 : OwnP V5 V4.heap.size (.slice a5 S.length c5) S := owns_belowT ho5 hbV5
  have hg4lt : g4 < V4.heap.size := by obtain ⟨g, f, e, _, hr, _⟩ := own4V; simp at e; rw [e]; exact hr.lt
  have hg4ge : V3.heap.size ≤ g4 := by obtain ⟨g, f, e, hh, _, _⟩ := own4V; simp at e; rw [e]; exact hh
  have hN0 : w3.heap.size ≤ V3.heap.size := by omega
  have hN4 : w3.heap.size ≤ V4.heap.size := by omega
  obtain ⟨⟨q0, q1, q2⟩, _⟩ := poly3 rb2
  obtain ⟨⟨k0, k1, k2⟩, _⟩ := poly3 (rowIs_below (rowIs_below rb0 hbVV rb0.lt) hb5 (Nat.lt_of_lt_of_le rb0.lt hbVV.size))
  have ko0 : ∀ o, (w5.alloc o).cell? ⟨w3.heap.size, 0, none⟩ = some (.int .i64 P) := fun o => ((box1 w5 o).cell (by simp; omega)).trans k0
  have ko1 : ∀ o, (w5.alloc o).cell? ⟨w3.heap.size, 1, none⟩ = some (.int .i64 D) := fun o => ((box1 w5 o).cell (by simp; omega)).trans k1
  have ko2 : ∀ o, (w5.alloc o).cell? ⟨w3.heap.size, 2, none⟩ = some (.slice a3 S.length c3) := fun o => ((box1 w5 o).cell (by simp; omega)).trans k2
  have hcc : (c != c) = false := by simp
  clear rx rx1 rx2 rx3 rxV3 rb0 rb1 rb2 hb1 hb2 hb3 hb4 hb5 hb13 hbw3 hbV3 hbV4 hbV5 hb34 hbVV hb45 hb35 hb3V5 hS3 hSV3 hS4 own2 own4 own4V ho3 ho5 sm3 q0 q1 q2 k0 k1 k2 hspec hSW hbW hbwV3
  go_wp2_with fail
  rw [← hV5]
  clear hV5 ko0 ko1 ko2
  ((with_reducible refine (eqPoly_same P D _ _ S _ hso (OwnP.slice hg5) (st.sm.slice st.n0.2)).mono ?_); rintro e w6 ⟨rfl, hb6⟩)
  have st6 := st.on (hb6.drew)
  have hx6 := hx5.below (hb6.drew)
  have hg6 : OwnP w6.drew V4.heap.size (.slice a5 S.length c5) S := owns_belowT hg5 (hb6.drew)
  obtain ⟨⟨x0, x1, x2⟩, _⟩ := poly3 (st.on hb6).ax
  obtain ⟨⟨b0, b1, b2⟩, _⟩ := poly3 (st.on hb6).b1
  clear st hx5 hg5 hb6
  have hA6 := st6.sa.slice st6.below.size
  have hz6 := st6.b1.lt
  have hX6 := hx6.slice
  obtain ⟨⟨B0, B1, B2⟩, _⟩ := poly3 st6.b1
  go_wp2
  go_region_with (first
    | (go_at_call 42; (with_reducible refine (toPoly_any p d _ ts _ hl hA6).mono ?_); rintro e w7 ⟨v7, rfl, own7, hb7⟩; have Q0 := (hb7.cell (p := ⟨w4.heap.size, 0, none⟩) hz6).trans B0; have Q1 := (hb7.cell (p := ⟨w4.heap.size, 1, none⟩) hz6).trans B1; have Q2 := (hb7.cell (p := ⟨w4.heap.size, 2, none⟩) hz6).trans B2)
    | (go_at_call 28; (with_reducible refine (eqPoly_same p d _ _ ts _ hl (hX6.below hb7) own7.slice).mono ?_); rintro e w8 ⟨rfl, hb8⟩))
  all_goals
    have st8 := (st6.on hb7).on hb8
    have hx8 := (hx6.below hb7).below hb8
    have hg8 : OwnP w8 V4.heap.size (.slice a5 S.length c5) S := owns_belowT (owns_belowT hg6 hb7) hb8
    clear x0 x1 x2 b0 b1 b2 B0 B1 B2 st6 hx6 hg6 hA6 hz6 hX6 own7 hb7 hb8
    try clear Q0 Q1 Q2
    obtain ⟨⟨B0, B1, B2⟩, _⟩ := poly3 st8.b1
    go_wp2_with fail
    ((with_reducible refine (markPoly_own p d 1 _ hx8.own hl (by decide) (by decide)).mono ?_); rintro e w9 ⟨rfl, _, hgr9⟩)
    have st9 := st8.step hgr9 (fun g e => by obtain ⟨h1, h2⟩ := hx8.own.row g e; exact ⟨by omega, h2⟩)
    have hg9 : OwnP w9 V4.heap.size (.slice a5 S.length c5) S := hg8.keep hgr9 (fun g e => by simp [Value.ownBlock] at e; omega)
    clear B0 B1 B2 st8 hx8 hg8 hgr9
    have hq1 : ¬ (1 : Int) + 4 * (ts.length : Int) < 0 := by omega
    obtain ⟨⟨q0, q1, q2⟩, _⟩ := poly3 st9.b2
    obtain ⟨⟨k0, k1, k2⟩, _⟩ := poly3 st9.b0
    go_wp2_with fail
    ((with_reducible refine (eqPoly_same P D _ _ S _ hso (OwnP.slice hg9) (st9.sm.slice st9.n0.2)).mono ?_); rintro e w10 ⟨rfl, hb10⟩)
    have st10 := st9.on hb10
    have hg10 : OwnP w10 V4.heap.size (.slice a5 S.length c5) S := owns_belowT hg9 hb10
    clear q0 q1 q2 k0 k1 k2 st9 hg9 hb10 hq1
    obtain ⟨⟨q0, q1, q2⟩, _⟩ := poly3 st10.b2
    go_wp2_with fail
    ((with_reducible refine (markPoly_own P D 1 _ (OwnG.of_owns hg10) hso (by decide) (by decide)).mono ?_); rintro e w11 ⟨rfl, hM11, hgr11⟩)
    have st11 := st10.step hgr11 (fun g e => by obtain ⟨h1, h2⟩ := (OwnG.of_owns hg10).row g e; exact ⟨by omega, h2⟩)
    clear q0 q1 q2 st10 hg10 hgr11
    obtain ⟨⟨q0, q1, q2⟩, _⟩ := poly3 st11.b2
    go_wp2_with fail
    ((with_reducible refine (heldPoly_marks P D 1 _ hM11 hso (by decide) (by decide)).mono ?_); rintro e w12 ⟨rfl, hb12⟩)
    have st12 := st11.on hb12
    have hM12 := hM11.below hb12
    clear q0 q1 q2 st11 hM11 hb12
    have hq2 : ¬ (1 : Int) + 4 * (S.length : Int) < 0 := by omega
    have hq3 : ((1 : Int) + 4 * (S.length : Int) != 1 + 4 * (S.length : Int)) = false := by simp
    obtain ⟨⟨x0, x1, x2⟩, _⟩ := poly3 st12.ax
    go_wp2_with fail
    ((with_reducible refine (toPoly_any p d _ ts _ hl (st12.sa.slice st12.below.size)).mono ?_); rintro e w13 ⟨v13, rfl, own13, hb13⟩)
    have st13 := st12.on hb13
    have hM13 := hM12.below hb13
    clear x0 x1 x2 st12 hM12 hb13
    go_wp2_with fail
    ((with_reducible refine (himpl _ w13 own13.slice).mono ?_); rintro e w14 ⟨sv14, rfl, ho14, hb14⟩)
    simp only at ho14
    obtain ⟨a14, c14, rfl⟩ := owns_slice ho14
    have st14 := st13.on hb14
    have hM14 := hM13.below hb14
    clear st13 hM13 hb14 own13
    obtain ⟨V14, hV14, hbV14, rh⟩ : ∃ V, V = w14.alloc (.cells #[.int .i64 P, .int .i64 D, .slice a14 S.length c14] 42) ∧ Below w14.heap.size w14 V ∧
        V.rowIs w14.heap.size 42 3 (polyF P D (.slice a14 S.length c14)) :=
      ⟨_, rfl, box1 _ _, World.rowIs_alloc w14 #[Value.int .i64 P, .int .i64 D, .slice a14 S.length c14] _ _ (fun i hi => by simp at hi; match i, hi with | 0, _ => rfl | 1, _ => rfl | 2, _ => rfl)⟩
    obtain ⟨⟨k0, k1, k2⟩, _⟩ := poly3 st14.b0
    have hkl := st14.b0.lt
    have ko0 : ∀ o, (w14.alloc o).cell? ⟨w3.heap.size, 0, none⟩ = some (.int .i64 P) := fun o => ((box1 w14 o).cell hkl).trans k0
    have ko1 : ∀ o, (w14.alloc o).cell? ⟨w3.heap.size, 1, none⟩ = some (.int .i64 D) := fun o => ((box1 w14 o).cell hkl).trans k1
    have ko2 : ∀ o, (w14.alloc o).cell? ⟨w3.heap.size, 2, none⟩ = some (.slice a3 S.length c3) := fun o => ((box1 w14 o).cell hkl).trans k2
    have stV := st14.on hbV14
    have hMV := hM14.below hbV14
    have hoV : OwnP V14 w13.heap.size (.slice a14 S.length c14) S := owns_belowT ho14 hbV14
    clear st14 hM14 ho14 hbV14 k0 k1 k2
    go_wp2_with fail
    rw [← hV14]
    clear hV14 ko0 ko1 ko2
    ((with_reducible refine (eqPoly_same P D _ _ S _ hso (OwnP.slice hoV) (stV.sm.slice stV.n0.2)).mono ?_); rintro e w15 ⟨rfl, hb15⟩)
    have st15 := stV.on hb15
    have hM15 := hMV.below hb15
    clear stV hMV hoV rh hb15
    obtain ⟨⟨q0, q1, q2⟩, _⟩ := poly3 st15.b2
    go_wp2_with fail
    ((with_reducible refine (heldPoly_marks P D 1 _ hM15 hso (by decide) (by decide)).mono ?_); rintro e w16 ⟨rfl, hb16⟩)
    have hend := (st15.on hb16).below
    clear q0 q1 q2 st15 hM15 hb16
    go_wp2
    go_ret
    exact ⟨rfl, hend⟩

end Go.Proofs.Ytbahejlgfpilnaa
namespace Go.Proofs.Ytbahejlgfpilnaa
open Go.ChangeShapes Go.WideShapes Go.ChangeAt Go.RowKit Go.Sort Go.Joins Go.Deep

section
variable {H : Type} {enc : TypeId × Value → H} {w : World} {spare : Nat → Bool} {held : Bool}
theorem gi64_of {fuel : Nat} {cs : List Value} {x : DataW H × List MemPlace} (h : DataW.trod enc Try.prog w 0 spare held fuel 2 cs = some x) : ∃ n, cs = [.int .i64 n] ∧ -9223372036854775808 ≤ n ∧ n ≤ 9223372036854775807 := by
  obtain ⟨n, hc, _, hw⟩ := DataW.trod_int Try.underlying2 h
  simp [Lit.wf, IntKind.min, IntKind.max, IntKind.signed, IntKind.bits] at hw
  exact ⟨n, hc, hw.1, by omega⟩

/-- The row's end, where all that was there before the call is as it was. -/
theorem mrow_end {P : Program} {f : Func} {s : ChangeSpec} {apart fresh handsOn : Bool} {W W' : World} {args : Array Value} {v : Value} {ds gs : List (DataW H)} {before pa pv : List MemPlace}
    (hW : DataW.Whole enc P f.params.toList s.vars apart W args.toList ds gs before) (hb : Below W.heap.size W W')
    (hr : ∀ (b : Nat) (sp : Nat → Bool) (hd : Bool), DataW.TrodAll enc P W' b sp hd f.resultTypes.toList (v.resultList f.resultTypes.size) (s.fn H (ds ++ gs)).results [])
    (ha : DataW.TrodAll enc P W' 0 (fun b => decide (b < W.heap.size)) true f.params.toList args.toList (s.fn H (ds ++ gs)).args pa)
    (hv : DataW.TrodVars enc P W' (fun b => decide (b < W.heap.size)) s.vars (s.fn H (ds ++ gs)).vars pv) (hp : ∀ p ∈ before, p ∈ pa ∨ p ∈ pv) :
    s.post enc P f apart fresh handsOn false W args v W' :=
  ⟨ds, gs, before, [], pa, pv, hW, hr _ _ _, ha, hv, World.keptBut_mono (fun p h => ⟨h, .inr (hp p h)⟩) (hb.frame (· ∈ before)), fun h => absurd h (by decide)⟩
end

theorem mlaidOut : laidOutB Try.prog = true := by kernel_rfl
theorem mown : ownKnob Try.prog.godebug = none := by kernel_rfl
theorem readIntsN : Try.prog.readableRec 52 = true ∧ 52 < Try.prog.types.size := ⟨by kernel_rfl, of_decide_eq_true (by kernel_rfl)⟩
theorem ncellsI64 : Try.prog.cellsOf 2 = 1 := by kernel_rfl

set_option maxRecDepth 100000 in
theorem open_listN {H : Type} {enc : TypeId × Value → H} {w : World} {held : Bool} {r : Reach} {b0 : Nat} {v : Value} {d : DataW H} {p : List MemPlace} (hv : Value.okWide Try.prog w r b0 52 v) (h : DataW.Trod enc Try.prog w 0 (fun _ => true) held 52 v d p) :
    ∃ l : List Int, Sl w v l ∧ l.length ≤ 9223372036854775807 := by
  obtain ⟨a0, len0, cap0, rfl⟩ := okWide_slice Try.underlying52 hv
  obtain ⟨fuel, hf⟩ := h
  rcases open_slice Try.underlying52 hf with ⟨hc, _⟩ | ⟨a, len, cap, m, n, D, Pl, hc, _, hl, hm, hmm, _, hi⟩
  · simp [Value.cells] at hc
    obtain ⟨rfl, rfl, rfl⟩ := hc
    exact ⟨[], ⟨none, 0, rfl, .inl rfl⟩, by simp⟩
  · simp [Value.cells] at hc
    obtain ⟨rfl, rfl, rfl⟩ := hc
    unfold maxLen at hm
    simp at hmm
    subst hmm
    rw [ncellsI64] at hi
    have hex : ∀ i, i < len0 → ∃ x : Int, w.cell? (a.add i) = some (.int .i64 x) := fun i hil => by
      obtain ⟨cs, hcs, ht⟩ := hi i (by omega)
      obtain ⟨x, e, hb⟩ := gi64_of ht
      obtain ⟨_, _, hat⟩ := World.cells?_some hcs
      have h0 := hat 0 (by omega)
      rw [e] at h0
      exact ⟨x, by simpa [Addr.add] using h0⟩
    obtain ⟨F, hF⟩ := choose_lt hex
    refine ⟨(List.range len0).map F, ⟨some a, _, by simp; rfl, ?_⟩, by simp; omega⟩
    by_cases h0 : len0 = 0
    · left; simp [h0]
    · right
      have hc0 := hF 0 (by omega)
      obtain ⟨b, off, spot⟩ := a
      have hspot : spot = none := World.cell?_spot (w := w) (a := ⟨b, off, spot⟩) (by simpa [Addr.add] using hc0)
      subst hspot
      refine ⟨b, off, rfl, World.block_lt_of_cell? (w := w) (a := ⟨b, off, none⟩) (by simpa [Addr.add] using hc0), fun k hk => ?_⟩
      have hat := hF k (by simpa using hk)
      by_cases hk0 : k = 0
      · subst hk0
        simpa [Addr.add] using hat
      · simp only [Addr.add, if_neg hk0] at hat
        simpa using hat
end Go.Proofs.Ytbahejlgfpilnaa
namespace Go.Proofs.Ytbahejlgfpilnaa
open Go.ChangeShapes Go.WideShapes Go.ChangeAt Go.RowKit Go.Sort Go.Joins Go.Deep

section
variable {H : Type} {enc : TypeId × Value → H} {w : World} {spare : Nat → Bool} {held : Bool}

theorem cellsLTerm : Try.prog.cellsOf 188 = 4 := by kernel_rfl
theorem cellsB3 : Try.prog.cellsOf 34 = 3 := by kernel_rfl
theorem cellsU8 : Try.prog.cellsOf 5 = 1 := by kernel_rfl
theorem cellsI64 : Try.prog.cellsOf 2 = 1 := by kernel_rfl
theorem cellsLPoly : Try.prog.cellsOf 60 = 3 := by kernel_rfl

theorem u8_of {fuel : Nat} {cs : List Value} {x : DataW H × List MemPlace} (h : DataW.trod enc Try.prog w 0 spare held fuel 5 cs = some x) : ∃ n, cs = [.int .u8 n] ∧ 0 ≤ n ∧ n ≤ 255 := by
  obtain ⟨n, hc, _, hw⟩ := DataW.trod_int Try.underlying5 h
  simp [Lit.wf, IntKind.min, IntKind.max, IntKind.signed, IntKind.bits] at hw
  exact ⟨n, hc, hw.1, by omega⟩
theorem i64_of {fuel : Nat} {cs : List Value} {x : DataW H × List MemPlace} (h : DataW.trod enc Try.prog w 0 spare held fuel 2 cs = some x) : ∃ n, cs = [.int .i64 n] ∧ -9223372036854775808 ≤ n ∧ n ≤ 9223372036854775807 := by
  obtain ⟨n, hc, _, hw⟩ := DataW.trod_int Try.underlying2 h
  simp [Lit.wf, IntKind.min, IntKind.max, IntKind.signed, IntKind.bits] at hw
  exact ⟨n, hc, hw.1, by omega⟩

set_option maxRecDepth 100000 in
theorem bytes3_of {fuel : Nat} {cs : List Value} {x : DataW H × List MemPlace} (h : DataW.trod enc Try.prog w 0 spare held fuel 34 cs = some x) :
    ∃ a b c, cs = [.int .u8 a, .int .u8 b, .int .u8 c] ∧ (0 ≤ a ∧ a ≤ 255) ∧ (0 ≤ b ∧ b ≤ 255) ∧ (0 ≤ c ∧ c ≤ 255) := by
  obtain ⟨xs, m, _, _, hlen, hx, hi⟩ := DataW.trod_array Try.underlying34 h
  rw [cellsB3] at hlen
  match cs, hlen with
  | [c0, c1, c2], _ =>
    match xs, hx with
    | [y0, y1, y2], _ =>
      have h0 := hi 0 (by omega)
      have h1 := hi 1 (by omega)
      have h2 := hi 2 (by omega)
      simp [cellsU8] at h0 h1 h2
      obtain ⟨a, ea, ha⟩ := u8_of h0
      obtain ⟨b, eb, hb⟩ := u8_of h1
      obtain ⟨c, ec, hc⟩ := u8_of h2
      simp at ea eb ec
      exact ⟨a, b, c, by simp [ea, eb, ec], ha, hb, hc⟩

set_option maxRecDepth 100000 in
theorem term_of {fuel : Nat} {cs : List Value} {x : DataW H × List MemPlace} (h : DataW.trod enc Try.prog w 0 spare held fuel 188 cs = some x) :
    ∃ t : Tm, cs = [.int .u8 t.1, .int .u8 t.2.1, .int .u8 t.2.2.1, .int .i64 t.2.2.2] ∧ tmByte t := by
  obtain ⟨xs, m, _, _, hlen, hx, hi⟩ := DataW.trod_struct Try.underlying188 h
  rw [cellsLTerm] at hlen
  match cs, hlen with
  | [c0, c1, c2, c3], _ =>
    match xs, hx with
    | [y0, y1], _ =>
      have h0 := hi 0 _ rfl
      have h1 := hi 1 _ rfl
      simp [cellsB3, cellsI64] at h0 h1
      obtain ⟨a, b, c, e0, ha, hb, hc⟩ := bytes3_of h0
      obtain ⟨v, e1, hv⟩ := i64_of h1
      simp at e0 e1
      exact ⟨(a, b, c, v), by simp [e0, e1], ⟨ha, hb, hc⟩, hv⟩

set_option maxRecDepth 100000 in
theorem slice_of {fuel : Nat} {v : Value} {x : DataW H × List MemPlace} (h : DataW.trod enc Try.prog w 0 (fun _ => true) held fuel 58 [v] = some x) :
    ∃ ts : List Tm, SliceT w v ts ∧ (∀ t ∈ ts, tmByte t) ∧ ts.length ≤ 9223372036854775807 := by
  rcases open_slice Try.underlying58 h with ⟨hc, _⟩ | ⟨a, len, cap, m, n, D, Pl, hc, _, hl, hm, hmm, _, hi⟩
  · simp at hc
    subst hc
    exact ⟨[], ⟨none, 0, rfl, .inl rfl⟩, fun t ht => by simp at ht, by simp⟩
  · simp at hc
    subst hc
    unfold maxLen at hm
    simp at hmm
    subst hmm
    rw [cellsLTerm] at hi
    have hex : ∀ i, i < len → ∃ t : Tm, tmByte t ∧ ∀ j, j < 4 → w.cell? ((a.add (i * 4)).add j) = [Value.int .u8 t.1, .int .u8 t.2.1, .int .u8 t.2.2.1, .int .i64 t.2.2.2][j]? := fun i hil => by
      obtain ⟨cs, hcs, ht⟩ := hi i (by omega)
      obtain ⟨t, e, hb⟩ := term_of ht
      obtain ⟨_, _, hat⟩ := World.cells?_some hcs
      exact ⟨t, hb, fun j hj => by rw [hat j hj, e]⟩
    obtain ⟨F, hF⟩ := choose_lt hex
    refine ⟨(List.range len).map F, ⟨some a, m, by simp, ?_⟩, fun t ht => ?_, by simp; omega⟩
    · by_cases h0 : len = 0
      · left; simp [h0]
      · right
        have hc0 := (hF 0 (by omega)).2 0 (by omega)
        obtain ⟨b, off, spot⟩ := a
        have hspot : spot = none := by
          have := World.cell?_spot (w := w) (a := ⟨b, off, spot⟩) (by simpa [Addr.add] using hc0)
          exact this
        subst hspot
        refine ⟨b, off, rfl, World.block_lt_of_cell? (w := w) (a := ⟨b, off, none⟩) (by simpa [Addr.add] using hc0), fun k hk => ?_⟩
        have hkl : k < len := by simpa using hk
        have hat := (hF k hkl).2
        have g0 := hat 0 (by omega)
        have g1 := hat 1 (by omega)
        have g2 := hat 2 (by omega)
        have g3 := hat 3 (by omega)
        rw [add_plain, add_plain] at g0 g1 g2 g3
        simp only [List.getElem_map, List.getElem_range]
        exact ⟨by simpa using g0, by simpa using g1, by simpa using g2, by simpa using g3⟩
    · obtain ⟨i, hi', rfl⟩ := List.mem_map.1 ht
      exact (hF i (by simpa using hi')).1

set_option maxRecDepth 100000 in
/-- A polynomial of the laws' own type, read as data: its prime, its number of letters, its terms. -/
theorem open_poly {r : Reach} {b0 : Nat} {v : Value} {d : DataW H} {p : List MemPlace} (hv : Value.okWide Try.prog w r b0 60 v) (h : DataW.Trod enc Try.prog w 0 (fun _ => true) held 60 v d p) :
    ∃ (q n : Int) (sv : Value) (ts : List Tm), v = .agg #[.int .i64 q, .int .i64 n, sv] ∧ SliceT w sv ts ∧ (∀ t ∈ ts, tmByte t) ∧ ts.length ≤ 9223372036854775807 := by
  obtain ⟨v0, v1, v2, y0, y1, y2, m, rfl, _, _, h0, h1, h2⟩ := open_agg3 Try.underlying60 (by kernel_rfl) cellsLPoly hv h
  obtain ⟨q, e0, _⟩ := i64_of h0
  obtain ⟨n, e1, _⟩ := i64_of h1
  obtain ⟨ts, hs, hb, hn⟩ := slice_of h2
  simp at e0 e1
  subst e0 e1
  exact ⟨q, n, v2, ts, rfl, hs, hb, hn⟩

/-- The row's end, where all that was there before the call is as it was. -/
theorem row_end {P : Program} {f : Func} {s : ChangeSpec} {apart fresh handsOn : Bool} {W W' : World} {args : Array Value} {v : Value} {ds gs : List (DataW H)} {before pa pv : List MemPlace}
    (hW : DataW.Whole enc P f.params.toList s.vars apart W args.toList ds gs before) (hb : Below W.heap.size W W')
    (hr : ∀ (b : Nat) (sp : Nat → Bool) (hd : Bool), DataW.TrodAll enc P W' b sp hd f.resultTypes.toList (v.resultList f.resultTypes.size) (s.fn H (ds ++ gs)).results [])
    (ha : DataW.TrodAll enc P W' 0 (fun b => decide (b < W.heap.size)) true f.params.toList args.toList (s.fn H (ds ++ gs)).args pa)
    (hv : DataW.TrodVars enc P W' (fun b => decide (b < W.heap.size)) s.vars (s.fn H (ds ++ gs)).vars pv) (hp : ∀ p ∈ before, p ∈ pa ∨ p ∈ pv) :
    s.post enc P f apart fresh handsOn false W args v W' :=
  ⟨ds, gs, before, [], pa, pv, hW, hr _ _ _, ha, hv, World.keptBut_mono (fun p h => ⟨h, .inr (hp p h)⟩) (hb.frame (· ∈ before)), fun h => absurd h (by decide)⟩

end

theorem laidOut : laidOutB Try.prog = true := by kernel_rfl
theorem own : ownKnob Try.prog.godebug = none := by kernel_rfl
theorem readPoly : Try.prog.readableRec 60 = true ∧ 60 < Try.prog.types.size := ⟨by kernel_rfl, of_decide_eq_true (by kernel_rfl)⟩
end Go.Proofs.Ytbahejlgfpilnaa
