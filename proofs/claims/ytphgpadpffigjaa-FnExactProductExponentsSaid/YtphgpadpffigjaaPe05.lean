/-
  LISTS OF POLYNOMIALS: what 'impl.checkList' asks of each. Conditions: as each theorem states.
  SUBSTITUTIONS: the model's road to what a monomial becomes, in plain mathematics. Conditions: as each theorem states.
  PRODUCTS WITH EXPONENTS of a list of polynomials, in plain mathematics. Conditions: as each theorem states.
  WALKS: 'impl.checkList' with at least one polynomial. Conditions: as the theorem states.
  WALKS: 'spec.l05List', 'spec.l05Some'. Conditions: as each theorem states.
  LISTS OF ROWS of the call's own: what an append leaves. Conditions: as each theorem states.
-/
import Derived.Test.YtphgpadpffigjaaPe04
import Derived.Test.YtphgpadpffigjaaPe03
import Derived.Test.YtphgpadpffigjaaLa
import Derived.Test.YtphgpadpffigjaaLe
import Derived.Lib.OwnKind
namespace Go.Proofs.Ytphgpadpffigjaa
open Go.RowKit Go.Sort

/-- The box of what is captured: the list. -/
structure CapL (w : World) (bl : Nat) (lv : Value) (G : List Pm) : Prop where
  l : w.cell? ⟨bl, 0, none⟩ = some lv
  ltl : bl < w.heap.size
  s : SlP w lv G
  n : 0 < G.length
theorem CapL.below {w w' : World} {bl : Nat} {lv : Value} {G : List Pm} (h : CapL w bl lv G) (hb : Below w.heap.size w w') : CapL w' bl lv G :=
  ⟨(hb.cell (p := ⟨bl, 0, none⟩) h.ltl).trans h.l, Nat.lt_of_lt_of_le h.ltl hb.size, h.s.below hb, h.n⟩
/-- Whether a polynomial is homogeneous, of a degree of at least 1, and like another one. -/
def fitT (g0 g : Pm) : Bool := evenB g.2.2 && (decide (1 ≤ degI g.2.2) && (decide (g.1 = g0.1) && decide (g.2.1 = g0.2.1)))

set_option maxRecDepth 8000 in
set_option maxHeartbeats 8000000 in
theorem lft_any (bl : Nat) (lv : Value) (G : List Pm) (g : Pm) (v : Value) (w : World) (hJ : CapL w bl lv G) (hok : PmOk g ∧ isPm g = true) (hS : SliceT w v g.2.2) :
    Calls Try.prog 120 #[.agg #[.int .i64 g.1, .int .i64 g.2.1, v], .pointer (some ⟨bl, 0, none⟩)] w fun e w' => e = .returned (.bool (!fitT (hdP G) g)) ∧ Below w.heap.size w w' := by
  obtain ⟨p2, d2, ts⟩ := g
  obtain ⟨⟨hby, hl⟩, hpm⟩ := hok
  simp only at hby hl hS ⊢
  have hpm2 : isPolyB p2 d2 ts = true := hpm
  have hnG := hJ.n
  rw [hdP_at hnG]
  obtain ⟨a, cap, rfl, _⟩ := id hS
  obtain ⟨V, hV1, hbV, _, rq⟩ := newbox w p2 d2 (.slice a ts.length cap)
  have hJV := hJ.below hbV
  have hSV := hS.below hbV
  have HH := Lib.hid (implHom p2 d2 _ ts V hl hSV hby)
  have HHB : Hid (homB p2 d2 ts = evenB ts ∧ polyC p2 d2 ts = 0) := Lib.hid ⟨by simp [homB, hpm2], by simp [polyC, hpm2]⟩
  rw [HHB.out.1, HHB.out.2] at HH
  have HDG := Lib.hid (fun w' h => degree_any2 p2 d2 (.slice a ts.length cap) ts w' hl h hby (polyB_sum hpm2))
  have HX : Hid (fitT G[0] (p2, d2, ts) = (evenB ts && (decide (1 ≤ degI ts) && (decide (p2 = G[0].1) && decide (d2 = G[0].2.1))))) := Lib.hid rfl
  clear hpm hpm2
  obtain ⟨⟨c0, c1, c2⟩, _⟩ := poly3 rq
  obtain ⟨E, hE⟩ : ∃ E, evenB ts = E := ⟨_, rfl⟩
  rw [hE] at HH HX
  clear hE hJ hS
  go_enter Try.func120, Try.ntmps120
  go_wp2_with fail
  rw [← hV1]
  clear hV1
  ((with_reducible refine HH.out.mono ?_); rintro e w1 ⟨rfl, hb1⟩)
  have hbw1 := hbV.trans (hb1.mono hbV.size)
  have rq1 := rowIs_below rq hb1 rq.lt
  have hS1 := hSV.below hb1
  have hJ1 := hJV.below hb1
  clear HH c0 c1 c2 rq hSV hJV hb1
  obtain ⟨dg, hdg⟩ : ∃ dg, degI ts = dg := ⟨_, rfl⟩
  have kD : ∀ dd os, Calls Try.prog 86 #[.agg #[.int .i64 p2, .int .i64 d2, .slice a ts.length cap]] (grow (redrawn w1 dd) os) fun e w'' => e = .returned (.int .i64 dg) ∧ ∃ p : Regrown, w'' = grow (redrawn w1 p.d) p.os := fun dd os => by
    rw [← hdg]; exact Calls.regrown_of (HDG.out _ (hS1.below (below_regrown w1 dd os)))
  rw [hdg] at HX
  clear hdg
  obtain ⟨la, lc, rfl, hc⟩ := hJ1.s
  have hn := hJ1.n
  have hn' : (0 : Int) < (G.length : Int) := by omega
  obtain ⟨b, off, rfl, hbb, hT⟩ : ∃ b off, la = some ⟨b, off, none⟩ ∧ b < w1.heap.size ∧ PolysW w1 b off G := by
    rcases hc with h | h
    · rw [h] at hn; simp at hn
    · exact h
  obtain ⟨u, g0, g1, g2, hu⟩ := hT 0 hn
  obtain ⟨ua, uc, rfl, _⟩ := id hu
  obtain ⟨q, hq⟩ : ∃ q, G[0].1 = q := ⟨_, rfl⟩
  obtain ⟨e, he⟩ : ∃ e, G[0].2.1 = e := ⟨_, rfl⟩
  obtain ⟨n0, hn0⟩ : ∃ n0, G[0].2.2.length = n0 := ⟨_, rfl⟩
  rw [hq, he] at HX
  rw [hq, Nat.zero_mul, Nat.add_zero] at g0
  rw [he, Nat.zero_mul, Nat.add_zero] at g1
  rw [hn0, Nat.zero_mul, Nat.add_zero] at g2
  obtain ⟨⟨c0, c1, c2⟩, _⟩ := poly3 rq1
  have l0 := hJ1.l
  have k0 := cell_regrown c0
  have k1 := cell_regrown c1
  have k2 := cell_regrown c2
  have k4 := cell_regrown l0
  have k5 := cell_regrown g0
  have k6 := cell_regrown g1
  have k7 := cell_regrown g2
  obtain ⟨B, hB⟩ : ∃ B, (decide (p2 = q) && decide (d2 = e)) = B := ⟨_, rfl⟩
  have kA : ∀ dd os, Calls Try.prog 93 #[.agg #[.int .i64 p2, .int .i64 d2, .slice a ts.length cap], .agg #[.int .i64 q, .int .i64 e, .slice ua n0 uc]] (grow (redrawn w1 dd) os) fun e w'' => e = .returned (.bool B) ∧ ∃ p : Regrown, w'' = grow (redrawn w1 p.d) p.os := fun dd os =>
    Calls.regrown_of (alike_is p2 d2 q e _ _ _ B hB)
  have HY : Hid (fitT G[0] (p2, d2, ts) = (E && (decide (1 ≤ dg) && B))) := Lib.hid (by rw [HX.out, hB])
  clear g0 g1 g2 c0 c1 c2 l0 hu hT hc hJ1 hby hq he hn0 rq1 hB HX HDG hS1
  cases E
  · have HX2 : Hid (fitT G[0] (p2, d2, ts) = false) := Lib.hid (by rw [HY.out]; rfl)
    go_wp2_with fail
    refine wp_region_quiet_below (by kernel_rfl) (by kernel_rfl) ?_
    repeat (go_big_quiet_step (first | with_reducible exact kD _ _ | with_reducible exact kA _ _))
    refine wpQuiet_nil ?_
    intro _ hw'
    obtain ⟨⟨dq, osq⟩, hw''⟩ := hw'
    subst hw''
    have hend := hbw1.trans ((below_regrown w1 dq osq).mono hbw1.size)
    generalize grow (redrawn w1 dq) osq = w3 at *
    clear k0 k1 k2 k4 k5 k6 k7 kA kD
    go_wp2_with fail
    go_ret
    exact ⟨by rw [HX2.out]; rfl, hend⟩
  by_cases hd1 : dg < 1
  · have hdt : decide (dg < 1) = true := by simpa using hd1
    have HX2 : Hid (fitT G[0] (p2, d2, ts) = false) := Lib.hid (by
      have h2 : ¬ 1 ≤ dg := by omega
      rw [HY.out]; simp [h2])
    go_wp2_with fail
    refine wp_region_quiet_below (by kernel_rfl) (by kernel_rfl) ?_
    repeat (go_big_quiet_step (first | with_reducible exact kD _ _ | with_reducible exact kA _ _))
    refine wpQuiet_nil ?_
    intro _ hw'
    obtain ⟨⟨dq, osq⟩, hw''⟩ := hw'
    subst hw''
    have hend := hbw1.trans ((below_regrown w1 dq osq).mono hbw1.size)
    generalize grow (redrawn w1 dq) osq = w3 at *
    clear k0 k1 k2 k4 k5 k6 k7 kA kD
    go_wp2_with fail
    go_ret
    exact ⟨by rw [HX2.out]; rfl, hend⟩
  · have hdt : decide (dg < 1) = false := by simpa using hd1
    have HX2 : Hid (fitT G[0] (p2, d2, ts) = B) := Lib.hid (by
      have h2 : 1 ≤ dg := by omega
      rw [HY.out]; simp [h2])
    go_wp2_with fail
    refine wp_region_quiet_below (by kernel_rfl) (by kernel_rfl) ?_
    repeat (go_big_quiet_step (first | with_reducible exact kD _ _ | with_reducible exact kA _ _))
    refine wpQuiet_nil ?_
    intro _ hw'
    obtain ⟨⟨dq, osq⟩, hw''⟩ := hw'
    subst hw''
    have hend := hbw1.trans ((below_regrown w1 dq osq).mono hbw1.size)
    generalize grow (redrawn w1 dq) osq = w3 at *
    clear k0 k1 k2 k4 k5 k6 k7 kA kD
    go_wp2_with fail
    go_ret
    exact ⟨by rw [HX2.out]; rfl, hend⟩

set_option maxHeartbeats 1000000 in
theorem lfidx_some (bl : Nat) (lv : Value) (G0 : List Pm) (b off cap : Nat) (G : List Pm) (w : World) (hJ : CapL w bl lv G0) (hbb : b < w.heap.size) (hl : G.length ≤ 1048576) (hok : ∀ g ∈ G, PmOk g ∧ isPm g = true) (hT : PolysW w b off G) (j : Nat) (hj : j < G.length) (hn : (fitT (hdP G0)) G[j] = false) (hp : ∀ (i : Nat) (h : i < G.length), i < j → (fitT (hdP G0)) G[i] = true) :
    Calls Try.prog 123 #[.slice (some ⟨b, off, none⟩) G.length cap, .func (.func 120) #[] #[.pointer (some ⟨bl, 0, none⟩)]] w fun e w' => e = .returned (.int .i64 j) ∧ Below w.heap.size w w' := by
  have HN := Lib.hid hn
  have HP := Lib.hid hp
  have HOK := Lib.hid hok
  have HT := Lib.hid hT
  have HJ := Lib.hid (fun (w' : World) (hb : Below w.heap.size w w') => (by exact hJ.below hb : CapL w' bl lv G0))
  clear hn hp hok hT hJ
  go_enter Try.func123, Try.ntmps123
  go_wp2
  go_loopw [8] (fun i wr => ∃ k : Nat, k ≤ j ∧ i = .int .i64 k ∧ Below w.heap.size w wr) (fun i _ => G.length - (intOf i).toNat)
  case atStart => exact ⟨0, by omega, rfl, Below.refl _ _⟩
  case round =>
    obtain ⟨k, hk, rfl, hbr⟩ := hrel
    have hlt : k < G.length := by omega
    have hlt' : (k : Int) < (G.length : Int) := by omega
    obtain ⟨u, c0, c1, c2, s0⟩ := (HT.out.below hbr hbb) k hlt
    have HC := Lib.hid (lft_any bl lv G0 G[k] u wr (HJ.out wr hbr) (HOK.out _ (List.getElem_mem hlt)) s0)
    clear s0
    by_cases e : k = j
    · subst e
      go_wp2_with fail
      ((with_reducible refine HC.out.mono ?_); rintro e w1 ⟨rfl, hb1⟩)
      have hend := hbr.trans (hb1.mono hbr.size)
      rw [HN.out]
      go_wp2
      go_ret
      exact ⟨rfl, hend⟩
    · have h0 := Lib.hid (HP.out k hlt (by omega))
      go_wp2_with fail
      ((with_reducible refine HC.out.mono ?_); rintro e w1 ⟨rfl, hb1⟩)
      have hend := hbr.trans (hb1.mono hbr.size)
      rw [h0.out]
      go_wp2
      go_roundw
      case rel => exact ⟨k + 1, by omega, by go_num, hend⟩
      case measure => simp [intOf]; omega

set_option maxHeartbeats 1000000 in
theorem lfidx_none (bl : Nat) (lv : Value) (G0 : List Pm) (a : Option Addr) (cap : Nat) (G : List Pm) (w : World) (hJ : CapL w bl lv G0) (hl : G.length ≤ 1048576) (hok : ∀ g ∈ G, PmOk g ∧ isPm g = true) (hS : G = [] ∨ ∃ b off, a = some ⟨b, off, none⟩ ∧ b < w.heap.size ∧ PolysW w b off G) (hp : ∀ (i : Nat) (h : i < G.length), (fitT (hdP G0)) G[i] = true) :
    Calls Try.prog 123 #[.slice a G.length cap, .func (.func 120) #[] #[.pointer (some ⟨bl, 0, none⟩)]] w fun e w' => e = .returned (.int .i64 (-1)) ∧ Below w.heap.size w w' := by
  have HP := Lib.hid hp
  have HOK := Lib.hid hok
  have HJ := Lib.hid (fun (w' : World) (hb : Below w.heap.size w w') => (by exact hJ.below hb : CapL w' bl lv G0))
  clear hp hok hJ
  go_enter Try.func123, Try.ntmps123
  go_wp2
  go_loopw [8] (fun i wr => ∃ k : Nat, k ≤ G.length ∧ i = .int .i64 k ∧ Below w.heap.size w wr) (fun i _ => G.length - (intOf i).toNat)
  case atStart => exact ⟨0, by omega, rfl, Below.refl _ _⟩
  case round =>
    obtain ⟨k, hk, rfl, hbr⟩ := hrel
    by_cases hlt : k < G.length
    · have hlt' : (k : Int) < (G.length : Int) := by omega
      obtain ⟨b, off, rfl, hbb, hT⟩ : ∃ b off, a = some ⟨b, off, none⟩ ∧ b < w.heap.size ∧ PolysW w b off G := by
        rcases hS with rfl | h
        · simp at hlt
        · exact h
      obtain ⟨u, c0, c1, c2, s0⟩ := (hT.below hbr hbb) k hlt
      have HC := Lib.hid (lft_any bl lv G0 G[k] u wr (HJ.out wr hbr) (HOK.out _ (List.getElem_mem hlt)) s0)
      have h0 := Lib.hid (HP.out k hlt)
      clear s0 hT
      go_wp2_with fail
      ((with_reducible refine HC.out.mono ?_); rintro e w1 ⟨rfl, hb1⟩)
      have hend := hbr.trans (hb1.mono hbr.size)
      rw [h0.out]
      go_wp2
      go_roundw
      case rel => exact ⟨k + 1, by omega, by go_num, hend⟩
      case measure => simp [intOf]; omega
    · obtain rfl : k = G.length := by omega
      go_wp2
      go_ret
      exact ⟨rfl, hbr⟩

theorem lfcontains (bl : Nat) (lv : Value) (G0 : List Pm) (v : Value) (G : List Pm) (w : World) (hJ : CapL w bl lv G0) (hl : G.length ≤ 1048576) (hok : ∀ g ∈ G, PmOk g ∧ isPm g = true) (hS : SlP w v G) :
    Calls Try.prog 91 #[v, .func (.func 120) #[] #[.pointer (some ⟨bl, 0, none⟩)]] w fun e w' => e = .returned (.bool (!G.all (fitT (hdP G0)))) ∧ Below w.heap.size w w' := by
  obtain ⟨a, cap, rfl, hc⟩ := hS
  cases h : G.all (fitT (hdP G0))
  · obtain ⟨j, hj, hn, hp⟩ := first_outP (fitT (hdP G0)) G h
    obtain ⟨b, off, rfl, hbb, hT⟩ : ∃ b off, a = some ⟨b, off, none⟩ ∧ b < w.heap.size ∧ PolysW w b off G := by
      rcases hc with rfl | h
      · simp at hj
      · exact h
    have HC := Lib.hid (lfidx_some bl lv G0 b off cap G w hJ hbb hl hok hT j hj hn hp)
    clear h hc hn hp hok hT hJ
    go_enter Try.func91, Try.ntmps91
    go_wp2_with fail
    ((with_reducible refine HC.out.mono ?_); rintro e w1 ⟨rfl, hb1⟩)
    go_wp2
    go_ret
    exact ⟨rfl, hb1⟩
  · have hp : ∀ (i : Nat) (hi : i < G.length), (fitT (hdP G0)) G[i] = true := fun i hi => List.all_eq_true.1 h _ (List.getElem_mem hi)
    have HC := Lib.hid (lfidx_none bl lv G0 a cap G w hJ hl hok hc hp)
    clear h hp hok hc hJ
    go_enter Try.func91, Try.ntmps91
    go_wp2_with fail
    ((with_reducible refine HC.out.mono ?_); rintro e w1 ⟨rfl, hb1⟩)
    go_wp2
    go_ret
    exact ⟨rfl, hb1⟩
end Go.Proofs.Ytphgpadpffigjaa
namespace Go.Proofs.Ytphgpadpffigjaa
open Go.RowKit Go.Sort Go.Maps

/-- The factors of the first k letters; j more of the letter k. -/
def facK (Ls : List (List Tm)) (e : Int × Int × Int) : Nat → List (List Tm)
  | 0 => []
  | k + 1 => List.replicate (nthE e k).toNat (nthL Ls k) ++ facK Ls e k
def facP (Ls : List (List Tm)) (e : Int × Int × Int) (k j : Nat) : List (List Tm) := List.replicate j (nthL Ls k) ++ facK Ls e k
theorem facP_zero (Ls : List (List Tm)) (e : Int × Int × Int) (k : Nat) : facP Ls e k 0 = facK Ls e k := by simp [facP]
theorem facP_succ (Ls : List (List Tm)) (e : Int × Int × Int) (k j : Nat) : facP Ls e k (j + 1) = nthL Ls k :: facP Ls e k j := by simp [facP, List.replicate_succ]
theorem facP_full (Ls : List (List Tm)) (e : Int × Int × Int) (k : Nat) : facP Ls e k (nthE e k).toNat = facK Ls e (k + 1) := rfl
theorem facK_full {Ls : List (List Tm)} {e : Int × Int × Int} {n : Nat} (h1 : 1 ≤ n) (h3 : n ≤ 3) (hz : ∀ i, n ≤ i → nthE e i = 0) : facK Ls e n = facL Ls e := by
  have e0 : nthE e 0 = e.1 := rfl
  have e1 : nthE e 1 = e.2.1 := rfl
  have e2 : nthE e 2 = e.2.2 := rfl
  have hx : n = 1 ∨ n = 2 ∨ n = 3 := by omega
  unfold facL facN
  rcases hx with rfl | rfl | rfl
  · have h1 := hz 1 (by omega)
    have h2 := hz 2 (by omega)
    rw [e1] at h1
    rw [e2] at h2
    simp [facK, e0, h1, h2]
  · have h2 := hz 2 (by omega)
    rw [e2] at h2
    simp [facK, e0, e1, h2]
  · simp [facK, e0, e1, e2]
theorem sumD_facK {Ls : List (List Tm)} {e : Int × Int × Int} (he : mono12 e) : ∀ k : Nat, sumD (facK Ls e k) = bndK Ls e k
  | 0 => rfl
  | k + 1 => by
    rw [facK, bndK, sumD_append, sumD_replicate, sumD_facK he k, Int.toNat_of_nonneg (nthE_bound he k).1, Int.add_comm]
    rfl
theorem bndK_mono {Ls : List (List Tm)} {e : Int × Int × Int} (he : mono12 e) {k n : Nat} (h : k ≤ n) : bndK Ls e k ≤ bndK Ls e n := by
  induction n with
  | zero => obtain rfl : k = 0 := by omega
            exact Int.le_refl _
  | succ n ih =>
    by_cases hk : k = n + 1
    · subst hk; exact Int.le_refl _
    · have h1 := ih (by omega)
      have h2 : 0 ≤ nthE e n * dgN Ls n := Int.mul_nonneg (nthE_bound he n).1 (dgN_nonneg Ls n)
      rw [bndK]
      omega
/-- No part of the road has a greater degree bound. -/
theorem sumD_facP {Ls : List (List Tm)} {e : Int × Int × Int} (he : mono12 e) {k j n : Nat} (hj : (j : Int) ≤ nthE e k) (hk : k < n) (hb : bndK Ls e n ≤ 12) : sumD (facP Ls e k j) ≤ 12 := by
  have h1 := bndK_mono (Ls := Ls) he (show k + 1 ≤ n from hk)
  have h2 : (j : Int) * dgN Ls k ≤ nthE e k * dgN Ls k := Int.mul_le_mul_of_nonneg_right hj (dgN_nonneg Ls k)
  rw [facP, sumD_append, sumD_replicate, sumD_facK he]
  rw [bndK] at h1
  unfold dgN at *
  omega
theorem facK_valid {p d : Int} {Ls : List (List Tm)} {x : List Tm} (hx : Valid p d x) (hL : ∀ g ∈ Ls, Valid p d g) (e : Int × Int × Int) : ∀ k : Nat, ∀ g ∈ facK Ls e k, Valid p d g
  | 0, g, h => by simp [facK] at h
  | k + 1, g, h => by
    simp only [facK, List.mem_append, List.mem_replicate] at h
    rcases h with ⟨_, rfl⟩ | h
    · by_cases hk : k < Ls.length
      · rw [nthL_lt hk]; exact hL _ (List.getElem_mem hk)
      · rw [nthL_ge (by omega)]
        exact ⟨hx.p2, hx.p13, hx.d1, hx.d3, List.Pairwise.nil, fun t ht => by simp at ht⟩
    · exact facK_valid hx hL e k g h
theorem facP_valid {p d : Int} {Ls : List (List Tm)} {x : List Tm} (hx : Valid p d x) (hL : ∀ g ∈ Ls, Valid p d g) (e : Int × Int × Int) (k j : Nat) : ∀ g ∈ facP Ls e k j, Valid p d g := fun g h => by
  simp only [facP, List.mem_append, List.mem_replicate] at h
  rcases h with ⟨_, rfl⟩ | h
  · by_cases hk : k < Ls.length
    · rw [nthL_lt hk]; exact hL _ (List.getElem_mem hk)
    · rw [nthL_ge (by omega)]
      exact ⟨hx.p2, hx.p13, hx.d1, hx.d3, List.Pairwise.nil, fun t ht => by simp at ht⟩
  · exact facK_valid hx hL e k g h
/-- A number stands at the beginning of the road. -/
theorem PrV.one {p d v : Int} {x : List Tm} (hx : Valid p d x) : PrV p v [] (putL p [] (0, 0, 0) v) := by
  obtain ⟨M, hM⟩ := pr_ex hx (fs := []) (fun g hg => by simp at hg) (by simp [sumD])
  refine ⟨M, hM, (IsP.one hx.p2 (e := (0, 0, 0)) ⟨by unfold byte3; simp, by simp⟩ v).congr fun a ha => ?_⟩
  have h := hM.2.2 a ha
  rw [h]
  by_cases h0 : a = (0, 0, 0)
  · simp [h0]
  · simp [h0]
theorem PrV.isP {p v : Int} {fs : List (List Tm)} {L : List Tm} (h : PrV p v fs L) : ∃ f, IsP p L f := by
  obtain ⟨M, _, h⟩ := h
  exact ⟨_, h⟩
/-- At the end of the road. -/
theorem PrV.at {p v : Int} {fs : List (List Tm)} {L M : List Tm} (h : PrV p v fs L) (hM : PrR p fs M) (e : Int × Int × Int) (he : byte3 e) : atL L e = v * atL M e % p := by
  obtain ⟨M', h1, h2⟩ := h
  rw [h2.2.2 e he, h1.unique hM]
end Go.Proofs.Ytphgpadpffigjaa
namespace Go.Proofs.Ytphgpadpffigjaa
open Go.RowKit Go.Sort Go.Maps

/-- Exponent number k of a list. -/
def nthX (es : List Int) (k : Nat) : Int := es.getD k 0
theorem nthX_lt {es : List Int} {k : Nat} (h : k < es.length) : nthX es k = es[k] := by simp [nthX, List.getD, h]
theorem nthX_nonneg {es : List Int} (h : ∀ x ∈ es, 0 ≤ x) (k : Nat) : 0 ≤ nthX es k := by
  by_cases hk : k < es.length
  · rw [nthX_lt hk]; exact h _ (List.getElem_mem hk)
  · simp [nthX, List.getD, List.getElem?_eq_none (show es.length ≤ k by omega)]
/-- The factors on the road: the first k polynomials, each as often as its exponent says; then j times the next. -/
def facX (Ls : List (List Tm)) (es : List Int) : Nat → List (List Tm)
  | 0 => []
  | k + 1 => List.replicate (nthX es k).toNat (nthL Ls k) ++ facX Ls es k
def facY (Ls : List (List Tm)) (es : List Int) (k j : Nat) : List (List Tm) := List.replicate j (nthL Ls k) ++ facX Ls es k
theorem facY_zero (Ls : List (List Tm)) (es : List Int) (k : Nat) : facY Ls es k 0 = facX Ls es k := by simp [facY]
theorem facY_succ (Ls : List (List Tm)) (es : List Int) (k j : Nat) : facY Ls es k (j + 1) = nthL Ls k :: facY Ls es k j := by simp [facY, List.replicate_succ]
theorem facY_full (Ls : List (List Tm)) (es : List Int) (k : Nat) : facY Ls es k (nthX es k).toNat = facX Ls es (k + 1) := rfl
/-- The sum of exponents times degrees. -/
def bndX (Ls : List (List Tm)) (es : List Int) : Nat → Int
  | 0 => 0
  | k + 1 => bndX Ls es k + nthX es k * dgN Ls k
theorem sumD_facX {Ls : List (List Tm)} {es : List Int} (he : ∀ x ∈ es, 0 ≤ x) : ∀ k : Nat, sumD (facX Ls es k) = bndX Ls es k
  | 0 => rfl
  | k + 1 => by
    rw [facX, bndX, sumD_append, sumD_replicate, sumD_facX he k, Int.toNat_of_nonneg (nthX_nonneg he k), Int.add_comm]
    rfl
theorem bndX_mono {Ls : List (List Tm)} {es : List Int} (he : ∀ x ∈ es, 0 ≤ x) {k n : Nat} (h : k ≤ n) : bndX Ls es k ≤ bndX Ls es n := by
  induction n with
  | zero => obtain rfl : k = 0 := by omega
            exact Int.le_refl _
  | succ n ih =>
    by_cases hk : k = n + 1
    · subst hk; exact Int.le_refl _
    · have h1 := ih (by omega)
      have h2 : 0 ≤ nthX es n * dgN Ls n := Int.mul_nonneg (nthX_nonneg he n) (dgN_nonneg Ls n)
      rw [bndX]
      omega
theorem bndX_nonneg {Ls : List (List Tm)} {es : List Int} (he : ∀ x ∈ es, 0 ≤ x) (k : Nat) : 0 ≤ bndX Ls es k := bndX_mono he (Nat.zero_le k)
theorem sumD_facY {Ls : List (List Tm)} {es : List Int} (he : ∀ x ∈ es, 0 ≤ x) {k j n : Nat} (hj : (j : Int) ≤ nthX es k) (hk : k < n) (hb : bndX Ls es n ≤ 12) : sumD (facY Ls es k j) ≤ 12 := by
  have h1 := bndX_mono (Ls := Ls) he (show k + 1 ≤ n from hk)
  have h2 : (j : Int) * dgN Ls k ≤ nthX es k * dgN Ls k := Int.mul_le_mul_of_nonneg_right hj (dgN_nonneg Ls k)
  rw [facY, sumD_append, sumD_replicate, sumD_facX he]
  rw [bndX] at h1
  unfold dgN at *
  omega
theorem nthL_valid {p d : Int} {Ls : List (List Tm)} {x : List Tm} (hx : Valid p d x) (hL : ∀ g ∈ Ls, Valid p d g) (k : Nat) : Valid p d (nthL Ls k) := by
  by_cases hk : k < Ls.length
  · rw [nthL_lt hk]; exact hL _ (List.getElem_mem hk)
  · rw [nthL_ge (by omega)]
    exact ⟨hx.p2, hx.p13, hx.d1, hx.d3, List.Pairwise.nil, fun t ht => by simp at ht⟩
theorem facX_valid {p d : Int} {Ls : List (List Tm)} {x : List Tm} (hx : Valid p d x) (hL : ∀ g ∈ Ls, Valid p d g) (es : List Int) : ∀ k : Nat, ∀ g ∈ facX Ls es k, Valid p d g
  | 0, g, h => by simp [facX] at h
  | k + 1, g, h => by
    simp only [facX, List.mem_append, List.mem_replicate] at h
    rcases h with ⟨_, rfl⟩ | h
    · exact nthL_valid hx hL k
    · exact facX_valid hx hL es k g h
theorem facY_valid {p d : Int} {Ls : List (List Tm)} {x : List Tm} (hx : Valid p d x) (hL : ∀ g ∈ Ls, Valid p d g) (es : List Int) (k j : Nat) : ∀ g ∈ facY Ls es k j, Valid p d g := fun g h => by
  simp only [facY, List.mem_append, List.mem_replicate] at h
  rcases h with ⟨_, rfl⟩ | h
  · exact nthL_valid hx hL k
  · exact facX_valid hx hL es k g h
/-- What is left of the room is what the program reckons; its test at each polynomial is that of the whole sum so far. -/
theorem roomX {Ls : List (List Tm)} {es : List Int} {k : Nat} (he : ∀ x ∈ es, 0 ≤ x) (hd : 1 ≤ dgN Ls k) :
    (12 - bndX Ls es k < nthX es k ∨ 12 - bndX Ls es k < nthX es k * dgN Ls k) ↔ 12 < bndX Ls es (k + 1) := by
  have h0 := nthX_nonneg he k
  have h1 : nthX es k * 1 ≤ nthX es k * dgN Ls k := Int.mul_le_mul_of_nonneg_left hd h0
  rw [bndX]
  omega
/-- An exponent above the bound makes the sum too great. -/
theorem bndX_big {Ls : List (List Tm)} {es : List Int} {k n : Nat} (he : ∀ x ∈ es, 0 ≤ x) (hd : 1 ≤ dgN Ls k) (hk : k < n) (h : 12 < nthX es k) : 12 < bndX Ls es n := by
  have h0 := nthX_nonneg he k
  have h1 : nthX es k * 1 ≤ nthX es k * dgN Ls k := Int.mul_le_mul_of_nonneg_left hd h0
  have h2 := bndX_mono (Ls := Ls) he (show k + 1 ≤ n from hk)
  have h3 := bndX_nonneg (Ls := Ls) he k
  rw [bndX] at h2
  omega
/-- What the sum so far is at most, while no exponent is above 12. -/
theorem bndX_bound {Ls : List (List Tm)} {es : List Int} (he : ∀ x ∈ es, 0 ≤ x) (hd : ∀ i, dgN Ls i ≤ 12) : ∀ k : Nat, (∀ i, i < k → nthX es i ≤ 12) → bndX Ls es k ≤ 144 * (k : Int)
  | 0, _ => by simp [bndX]
  | k + 1, h => by
    have h1 := bndX_bound he hd k fun i hi => h i (by omega)
    have h2 : nthX es k * dgN Ls k ≤ 12 * dgN Ls k := Int.mul_le_mul_of_nonneg_right (h k (by omega)) (dgN_nonneg Ls k)
    have h3 := hd k
    rw [bndX]
    omega
/-- The program's room at the polynomial k. -/
theorem room_step {Ls : List (List Tm)} {es : List Int} {k : Nat} (h : bndX Ls es (k + 1) ≤ 12) : 12 - bndX Ls es k - nthX es k * dgN Ls k = 12 - bndX Ls es (k + 1) ∧ 0 ≤ 12 - bndX Ls es (k + 1) := by
  rw [bndX] at *
  omega
/-- The code of a list of at least some polynomials. -/
def listC (least : Nat) (G : List Pm) : Int :=
  if G.all isPm = true then
    (if (decide (least ≤ G.length) && decide (G.length ≤ 8) && G.all (fun g => evenB g.2.2 && decide (1 ≤ degI g.2.2) && decide (g.1 = (hdP G).1) && decide (g.2.1 = (hdP G).2.1))) = true then 0 else 2) else 1
/-- The code of a product with exponents. -/
def prodC (G : List Pm) (es : List Int) : Int :=
  if listC 1 G = 0 then
    (if (decide (es.length = G.length) && es.all (fun x => decide (0 ≤ x))) = true then
      (if bndX (tmsL G) es G.length ≤ 12 then 0 else 3) else 2) else listC 1 G
/-- The outcome of a product with exponents. -/
def ProdX (G : List Pm) (es : List Int) (o : OutP) : Prop :=
  (prodC G es ≠ 0 ∧ o = noP (prodC G es)) ∨ (prodC G es = 0 ∧ ∃ L, PrR (hdP G).1 (facX (tmsL G) es G.length) L ∧ o = ⟨(hdP G).1, (hdP G).2.1, L, 0⟩)
theorem listC_zero {G : List Pm} (hok : ∀ g ∈ G, PmOk g) (h : listC 1 G = 0) : 1 ≤ G.length ∧ G.length ≤ 8 ∧ ∀ g ∈ G, g.1 = (hdP G).1 ∧ g.2.1 = (hdP G).2.1 ∧ Valid (hdP G).1 (hdP G).2.1 g.2.2 ∧ 1 ≤ degI g.2.2 := by
  unfold listC at h
  split at h
  · rename_i h1
    split at h
    · rename_i h2
      simp only [Bool.and_eq_true, decide_eq_true_eq] at h2
      refine ⟨h2.1.1, h2.1.2, fun g hg => ?_⟩
      have hl := List.all_eq_true.1 h2.2 g hg
      simp only [Bool.and_eq_true, decide_eq_true_eq] at hl
      have hv := isPm_valid (hok g hg) (List.all_eq_true.1 h1 g hg)
      rw [hl.1.2, hl.2] at hv
      exact ⟨hl.1.2, hl.2, hv, hl.1.1.2⟩
    · exact absurd h (by decide)
  · exact absurd h (by decide)
theorem prodX_ex {G : List Pm} {es : List Int} (hok : ∀ g ∈ G, PmOk g) : ∃ o, ProdX G es o := by
  by_cases h : prodC G es = 0
  · have h0 := h
    unfold prodC at h0
    split at h0
    · rename_i h1
      split at h0
      · rename_i h2
        split at h0
        · rename_i h3
          obtain ⟨hl1, _, hG⟩ := listC_zero hok h1
          have he : ∀ x ∈ es, 0 ≤ x := by
            simp only [Bool.and_eq_true, decide_eq_true_eq] at h2
            exact fun x hx => by simpa using List.all_eq_true.1 h2.2 x hx
          have hx := (hG G[0] (List.getElem_mem (by omega))).2.2.1
          have hL : ∀ g ∈ tmsL G, Valid (hdP G).1 (hdP G).2.1 g := fun g hg => by
            obtain ⟨q, hq, rfl⟩ := List.mem_map.1 hg
            exact (hG q hq).2.2.1
          obtain ⟨L, hPL⟩ := pr_ex hx (facX_valid hx hL es G.length) (by rw [sumD_facX he]; exact h3)
          exact ⟨_, .inr ⟨h, L, hPL, rfl⟩⟩
        · exact absurd h0 (by decide)
      · exact absurd h0 (by decide)
    · exact absurd h0 ‹_›
  · exact ⟨_, .inl ⟨h, rfl⟩⟩
theorem prodX_len {G : List Pm} {es : List Int} {o : OutP} (h : ProdX G es o) : o.S.length ≤ 1048576 := by
  rcases h with ⟨_, rfl⟩ | ⟨_, L, hL, rfl⟩
  · simp [noP]
  · obtain ⟨f, hf⟩ := hL.isP
    exact Nat.le_trans hf.len (by omega)
end Go.Proofs.Ytphgpadpffigjaa
namespace Go.Proofs.Ytphgpadpffigjaa
open Go.RowKit Go.Sort Go.Maps

theorem listC_fit (G : List Pm) : (G.all fun g => evenB g.2.2 && decide (1 ≤ degI g.2.2) && decide (g.1 = (hdP G).1) && decide (g.2.1 = (hdP G).2.1)) = G.all (fitT (hdP G)) := by
  congr 1
  funext g
  simp [fitT, Bool.and_assoc]
/-- A box of a list. -/
theorem boxL (w : World) (lv : Value) : ∃ W, W = w.alloc (.cells #[lv] 27) ∧ Below w.heap.size w W ∧ (W.heap.size ≤ w.heap.size + 1 ∧ w.heap.size + 1 ≤ W.heap.size) ∧ W.cell? ⟨w.heap.size, 0, none⟩ = some lv := by
  refine ⟨_, rfl, box1 _ _, ⟨by simp, by simp⟩, ?_⟩
  exact (World.rowIs_alloc w #[lv] 27 (fun _ => lv) (fun i hi => by simp at hi; subst hi; rfl)).cell (i := 0) (by simp)

set_option maxRecDepth 8000 in
set_option maxHeartbeats 16000000 in
theorem icl (lv : Value) (G : List Pm) (w : World) (hlG : G.length ≤ 1048576) (hok : ∀ g ∈ G, PmOk g) (hG : SlP w lv G) :
    Calls Try.prog 83 #[lv, .int .i64 1] w fun e w' => e = .returned (.int .i64 (listC 1 G)) ∧ Below w.heap.size w w' := by
  obtain ⟨la, lc, rfl, hc⟩ := id hG
  obtain ⟨W, hW, hbW, ⟨hWs1, hWs2⟩, rl⟩ := boxL w (.slice la G.length lc)
  have hGW := hG.below hbW
  have hq0 : w.heap.size < W.heap.size := by omega
  have HC := Lib.hid (licontains (.slice la G.length lc) G W trivial hlG hok hGW)
  obtain ⟨B, hB1⟩ : ∃ B, G.all isPm = B := ⟨_, rfl⟩
  rw [hB1] at HC
  go_enter Try.func83, Try.ntmps83
  go_wp2_with fail
  rw [← hW]
  clear hW
  ((with_reducible refine HC.out.mono ?_); rintro e w2 ⟨rfl, hb2⟩)
  have hbw2 := hbW.trans (hb2.mono hbW.size)
  have rl2 := (hb2.cell (p := ⟨w.heap.size, 0, none⟩) hq0).trans rl
  have hG2 := hGW.below hb2
  have hs2 := hb2.size
  clear HC hGW rl
  cases B
  · have HO : Hid (listC 1 G = 1) := Lib.hid (by simp [listC, hB1])
    clear hB1
    go_wp2_with fail
    go_ret
    exact ⟨retI HO.out.symm, hbw2⟩
  have HP := Lib.hid hB1
  clear hB1
  by_cases h0 : G.length = 0
  · have HO : Hid (listC 1 G = 2) := Lib.hid (by simp [listC, HP.out, h0])
    have h0' : (G.length : Int) < 1 := by omega
    clear h0
    go_wp2_with fail
    go_ret
    exact ⟨retI HO.out.symm, hbw2⟩
  have hn0 : 0 < G.length := by omega
  have hn1 : ¬ (G.length : Int) < 1 := by omega
  by_cases h8 : 8 < G.length
  · have HO : Hid (listC 1 G = 2) := Lib.hid (by
      have : ¬ G.length ≤ 8 := by omega
      simp [listC, HP.out, this])
    have h8' : (8 : Int) < (G.length : Int) := by omega
    clear h8
    go_wp2_with fail
    go_ret
    exact ⟨retI HO.out.symm, hbw2⟩
  have h8' : ¬ (8 : Int) < (G.length : Int) := by omega
  have hJ : CapL w2 w.heap.size (.slice la G.length lc) G := ⟨rl2, by omega, hG2, hn0⟩
  have HC := Lib.hid (lfcontains w.heap.size (.slice la G.length lc) G (.slice la G.length lc) G w2 hJ hlG (fun g hg => ⟨hok g hg, List.all_eq_true.1 HP.out g hg⟩) hG2)
  have HL : Hid (listC 1 G = if G.all (fitT (hdP G)) = true then 0 else 2) := Lib.hid (by
    have a : 1 ≤ G.length := hn0
    have b : G.length ≤ 8 := by omega
    rw [listC, if_pos HP.out, listC_fit, decide_eq_true a, decide_eq_true b, Bool.true_and, Bool.true_and])
  obtain ⟨B, hB1⟩ : ∃ B, G.all (fitT (hdP G)) = B := ⟨_, rfl⟩
  rw [hB1] at HC HL
  clear hB1 hG2 hJ hok hc hG
  go_wp2_with fail
  ((with_reducible refine HC.out.mono ?_); rintro e w3 ⟨rfl, hb3⟩)
  have hbw3 := hbw2.trans (hb3.mono hbw2.size)
  clear HC
  cases B
  · have HO : Hid (listC 1 G = 2) := Lib.hid (by rw [HL.out]; rfl)
    go_wp2_with fail
    go_ret
    exact ⟨retI HO.out.symm, hbw3⟩
  · have HO : Hid (listC 1 G = 0) := Lib.hid (by rw [HL.out]; rfl)
    go_wp2_with fail
    go_ret
    exact ⟨retI HO.out.symm, hbw3⟩
end Go.Proofs.Ytphgpadpffigjaa
namespace Go.Proofs.Ytphgpadpffigjaa
open Go.RowKit Go.Sort Go.Maps

/-- The code of a list, by the model; with a degree. -/
def slistC (G : List Pm) : Int := if G.all isPm = true then (if G.length ≤ 8 then (if G.all (fitT (hdP G)) = true then 0 else 2) else 2) else 1
def someC (G : List Pm) (n : Int) : Int := if listC 1 G = 0 then (if 0 ≤ n ∧ n ≤ 12 then 0 else 2) else listC 1 G
theorem slist_some (G : List Pm) (h : G ≠ []) : slistC G = listC 1 G := by
  have h1 : 1 ≤ G.length := List.length_pos_iff.2 h
  unfold slistC listC
  rw [listC_fit]
  split
  · by_cases h8 : G.length ≤ 8
    · rw [if_pos h8, decide_eq_true h1, decide_eq_true h8, Bool.true_and, Bool.true_and]
    · rw [if_neg h8, decide_eq_false h8]
      simp
  · rfl

set_option maxRecDepth 8000 in
set_option maxHeartbeats 16000000 in
theorem sl05 (lv : Value) (G : List Pm) (w : World) (hlG : G.length ≤ 1048576) (hok : ∀ g ∈ G, PmOk g) (hG : SlP w lv G) :
    Calls Try.prog 82 #[lv] w fun e w' => e = .returned (.int .i64 (slistC G)) ∧ Below w.heap.size w w' := by
  obtain ⟨la, lc, rfl, hc⟩ := id hG
  have HOK := Lib.hid hok
  clear hok
  go_enter Try.func82, Try.ntmps82
  go_wp2_with fail
  go_loopw [3] (fun i wr => ∃ k : Nat, k ≤ G.length ∧ i = .int .i64 k ∧ Hid (∀ (j : Nat) (h : j < G.length), j < k → isPm G[j] = true) ∧ Below w.heap.size w wr) (fun i _ => G.length - (intOf i).toNat)
  case atStart => exact ⟨0, by omega, rfl, Lib.hid (fun j _ h => by omega), Below.refl _ _⟩
  case round =>
    obtain ⟨k, hk, rfl, HU, hbr⟩ := hrel
    by_cases hlt : k < G.length
    · have hlt' : (k : Int) < (G.length : Int) := by omega
      obtain ⟨bl, off, rfl, hbl, hT⟩ : ∃ bl off, la = some ⟨bl, off, none⟩ ∧ bl < w.heap.size ∧ PolysW w bl off G := by
        rcases hc with h | h
        · rw [h] at hlt; simp at hlt
        · exact h
      obtain ⟨u, g0, g1, g2, hu⟩ := (hT.below hbr hbl) k hlt
      obtain ⟨ua, uc, rfl, _⟩ := id hu
      have hokk := HOK.out _ (List.getElem_mem hlt)
      have HIS := Lib.hid (specIs_any G[k].1 G[k].2.1 _ G[k].2.2 wr hokk.2 hu hokk.1)
      cases hp : isPolyB G[k].1 G[k].2.1 G[k].2.2
      · have HO1 : Hid (slistC G = 1) := Lib.hid (by
          have : G.all isPm = false := by
            rw [List.all_eq_false]
            exact ⟨_, List.getElem_mem hlt, by simp [isPm, hp]⟩
          simp [slistC, this])
        rw [hp] at HIS
        clear hp hu hokk
        go_wp2_with fail
        ((with_reducible refine HIS.out.mono ?_); rintro e w2 ⟨rfl, hb2⟩)
        have hbw2 := hbr.trans (hb2.mono hbr.size)
        go_wp2_with fail
        go_ret
        exact ⟨retI HO1.out.symm, hbw2⟩
      · have HU2 : Hid (∀ (j : Nat) (h : j < G.length), j < k + 1 → isPm G[j] = true) := Lib.hid (fun j h hj => by
          by_cases e : j = k
          · subst e; exact hp
          · exact HU.out j h (by omega))
        rw [hp] at HIS
        clear hp hu hokk HU
        go_wp2_with fail
        ((with_reducible refine HIS.out.mono ?_); rintro e w2 ⟨rfl, hb2⟩)
        have hbw2 := hbr.trans (hb2.mono hbr.size)
        go_wp2_with fail
        go_roundw
        case rel => exact ⟨k + 1, by omega, by go_num, HU2, hbw2⟩
        case measure => simp [intOf]; omega
    · obtain rfl : k = G.length := by omega
      have HP : Hid (G.all isPm = true) := Lib.hid (List.all_eq_true.2 fun g hg => by
        obtain ⟨j, hj, rfl⟩ := List.getElem_of_mem hg
        exact HU.out j hj hj)
      clear HU
      by_cases h8 : 8 < G.length
      · have HO : Hid (slistC G = 2) := Lib.hid (by
          have : ¬ G.length ≤ 8 := by omega
          simp [slistC, HP.out, this])
        have h8' : (8 : Int) < (G.length : Int) := by omega
        clear h8
        go_wp2_with fail
        go_ret
        exact ⟨retI HO.out.symm, hbr⟩
      have h8' : ¬ (8 : Int) < (G.length : Int) := by omega
      have HL : Hid (slistC G = if G.all (fitT (hdP G)) = true then 0 else 2) := Lib.hid (by
        have : G.length ≤ 8 := by omega
        simp [slistC, HP.out, this])
      obtain ⟨w0, hw0⟩ : ∃ w0 : World, w0 = wr := ⟨_, rfl⟩
      subst hw0
      go_wp2_with fail
      go_loopw [4] (fun i wr => ∃ k : Nat, k ≤ G.length ∧ i = .int .i64 k ∧ Hid (∀ (j : Nat) (h : j < G.length), j < k → fitT (hdP G) G[j] = true) ∧ Below w.heap.size w wr) (fun i _ => G.length - (intOf i).toNat)
      case atStart => exact ⟨0, by omega, rfl, Lib.hid (fun j _ h => by omega), hbr⟩
      case round =>
        clear hbr
        obtain ⟨k, hk, rfl, HU, hbr⟩ := hrel
        by_cases hlt : k < G.length
        · have hlt' : (k : Int) < (G.length : Int) := by omega
          have hlt0 : (0 : Int) < (G.length : Int) := by omega
          have hn0 : 0 < G.length := by omega
          obtain ⟨bl, off, rfl, hbl, hT⟩ : ∃ bl off, la = some ⟨bl, off, none⟩ ∧ bl < w.heap.size ∧ PolysW w bl off G := by
            rcases hc with h | h
            · rw [h] at hlt; simp at hlt
            · exact h
          obtain ⟨u, g0, g1, g2, hu⟩ := (hT.below hbr hbl) k hlt
          obtain ⟨u0, f0, f1, f2, _⟩ := (hT.below hbr hbl) 0 hn0
          rw [Nat.zero_mul, Nat.add_zero] at f0 f1 f2
          obtain ⟨ua, uc, rfl, _⟩ := id hu
          have hokk := HOK.out _ (List.getElem_mem hlt)
          have HX : Hid (fitT (hdP G) G[k] = (evenB G[k].2.2 && (decide (1 ≤ degI G[k].2.2) && (decide (G[k].1 = G[0].1) && decide (G[k].2.1 = G[0].2.1))))) := Lib.hid (by rw [hdP_at hn0]; rfl)
          have HF : Hid (fitT (hdP G) G[k] = false → slistC G = 2) := Lib.hid (fun h => by
            have : G.all (fitT (hdP G)) = false := by
              rw [List.all_eq_false]
              exact ⟨_, List.getElem_mem hlt, by rw [h]; simp⟩
            rw [HL.out, this]; rfl)
          have HU2 : Hid (fitT (hdP G) G[k] = true → ∀ (j : Nat) (h : j < G.length), j < k + 1 → fitT (hdP G) G[j] = true) := Lib.hid (fun hp j h hj => by
            by_cases e : j = k
            · subst e; exact hp
            · exact HU.out j h (by omega))
          have HDG := Lib.hid (fun p d w' (h : SliceT w' _ _) => specDegree_any p d (.slice ua G[k].2.2.length uc) G[k].2.2 w' hokk.2 h hokk.1)
          have HEV := Lib.hid (fun p d w' (h : SliceT w' _ _) => even_any p d (.slice ua G[k].2.2.length uc) G[k].2.2 w' hokk.2 h hokk.1)
          generalize G[k] = g at *
          obtain ⟨p2, d2, ts⟩ := g
          simp only at g0 g1 g2 hu HX HDG HEV
          clear hokk
          obtain ⟨q, hq⟩ : ∃ q, G[0].1 = q := ⟨_, rfl⟩
          obtain ⟨e, he⟩ : ∃ e, G[0].2.1 = e := ⟨_, rfl⟩
          rw [hq] at f0 HX
          rw [he] at f1 HX
          obtain ⟨dg, hdg⟩ : ∃ dg, degI ts = dg := ⟨_, rfl⟩
          obtain ⟨E, hE⟩ : ∃ E, evenB ts = E := ⟨_, rfl⟩
          have kD : ∀ dd os, Calls Try.prog 43 #[.agg #[.int .i64 p2, .int .i64 d2, .slice ua ts.length uc]] (grow (redrawn wr dd) os) fun e w'' => e = .returned (.int .i64 dg) ∧ ∃ p : Regrown, w'' = grow (redrawn wr p.d) p.os := fun dd os => by
            rw [← hdg]; exact Calls.regrown_of (HDG.out _ _ _ (hu.below (below_regrown wr dd os)))
          have kE : ∀ dd os, Calls Try.prog 118 #[.agg #[.int .i64 p2, .int .i64 d2, .slice ua ts.length uc]] (grow (redrawn wr dd) os) fun e w'' => e = .returned (.bool E) ∧ ∃ p : Regrown, w'' = grow (redrawn wr p.d) p.os := fun dd os => by
            rw [← hE]; exact Calls.regrown_of (HEV.out _ _ _ (hu.below (below_regrown wr dd os)))
          rw [hdg, hE] at HX
          have k0 := cell_regrown g0
          have k1 := cell_regrown g1
          have k2 := cell_regrown g2
          have k3 := cell_regrown f0
          have k4 := cell_regrown f1
          clear hq he f0 f1 f2 g0 g1 g2 HU hdg hE HDG HEV hu hT
          by_cases hp : p2 = q
          case neg =>
            have hpp : (p2 != q) = true := by simpa using hp
            have HO := Lib.hid (HF.out (by rw [HX.out]; simp [hp]))
            clear hp
            go_wp2_with fail
            refine wp_region_quiet_below (by kernel_rfl) (by kernel_rfl) ?_
            repeat (go_big_quiet_step (first | with_reducible exact kD _ _ | with_reducible exact kE _ _))
            refine wpQuiet_nil ?_
            intro _ hw'
            obtain ⟨⟨dq, osq⟩, hw''⟩ := hw'
            subst hw''
            have hend := hbr.trans ((below_regrown wr dq osq).mono hbr.size)
            generalize grow (redrawn wr dq) osq = w3 at *
            clear k0 k1 k2 k3 k4 kD kE
            go_wp2_with fail
            go_ret
            exact ⟨retI HO.out.symm, hend⟩
          subst hp
          have hpp : (p2 != p2) = false := by simp
          by_cases hd : d2 = e
          case neg =>
            have hdd : (d2 != e) = true := by simpa using hd
            have HO := Lib.hid (HF.out (by rw [HX.out]; simp [hd]))
            clear hd
            go_wp2_with fail
            refine wp_region_quiet_below (by kernel_rfl) (by kernel_rfl) ?_
            repeat (go_big_quiet_step (first | with_reducible exact kD _ _ | with_reducible exact kE _ _))
            refine wpQuiet_nil ?_
            intro _ hw'
            obtain ⟨⟨dq, osq⟩, hw''⟩ := hw'
            subst hw''
            have hend := hbr.trans ((below_regrown wr dq osq).mono hbr.size)
            generalize grow (redrawn wr dq) osq = w3 at *
            clear k0 k1 k2 k3 k4 kD kE
            go_wp2_with fail
            go_ret
            exact ⟨retI HO.out.symm, hend⟩
          subst hd
          have hdd : (d2 != d2) = false := by simp
          by_cases hd1 : dg < 1
          · have hdt : decide (dg < 1) = true := by simpa using hd1
            have HO := Lib.hid (HF.out (by
              have h2 : ¬ 1 ≤ dg := by omega
              rw [HX.out]; simp [h2]))
            go_wp2_with fail
            refine wp_region_quiet_below (by kernel_rfl) (by kernel_rfl) ?_
            repeat (go_big_quiet_step (first | with_reducible exact kD _ _ | with_reducible exact kE _ _))
            refine wpQuiet_nil ?_
            intro _ hw'
            obtain ⟨⟨dq, osq⟩, hw''⟩ := hw'
            subst hw''
            have hend := hbr.trans ((below_regrown wr dq osq).mono hbr.size)
            generalize grow (redrawn wr dq) osq = w3 at *
            clear k0 k1 k2 k3 k4 kD kE
            go_wp2_with fail
            go_ret
            exact ⟨retI HO.out.symm, hend⟩
          have hdt : decide (dg < 1) = false := by simpa using hd1
          have HX3 : Hid (fitT (hdP G) (p2, d2, ts) = E) := Lib.hid (by
            have h2 : 1 ≤ dg := by omega
            rw [HX.out]; simp [h2])
          cases E
          · have HO := Lib.hid (HF.out HX3.out)
            go_wp2_with fail
            refine wp_region_quiet_below (by kernel_rfl) (by kernel_rfl) ?_
            repeat (go_big_quiet_step (first | with_reducible exact kD _ _ | with_reducible exact kE _ _))
            refine wpQuiet_nil ?_
            intro _ hw'
            obtain ⟨⟨dq, osq⟩, hw''⟩ := hw'
            subst hw''
            have hend := hbr.trans ((below_regrown wr dq osq).mono hbr.size)
            generalize grow (redrawn wr dq) osq = w3 at *
            clear k0 k1 k2 k3 k4 kD kE
            go_wp2_with fail
            go_ret
            exact ⟨retI HO.out.symm, hend⟩
          · have HN := Lib.hid (HU2.out HX3.out)
            go_wp2_with fail
            refine wp_region_quiet_below (by kernel_rfl) (by kernel_rfl) ?_
            repeat (go_big_quiet_step (first | with_reducible exact kD _ _ | with_reducible exact kE _ _))
            refine wpQuiet_nil ?_
            intro _ hw'
            obtain ⟨⟨dq, osq⟩, hw''⟩ := hw'
            subst hw''
            have hend := hbr.trans ((below_regrown wr dq osq).mono hbr.size)
            generalize grow (redrawn wr dq) osq = w3 at *
            clear k0 k1 k2 k3 k4 kD kE
            go_wp2_with fail
            go_roundw
            case rel => exact ⟨k + 1, by omega, by go_num, HN, hend⟩
            case measure => simp [intOf]; omega
        · obtain rfl : k = G.length := by omega
          have HO : Hid (slistC G = 0) := Lib.hid (by
            have : G.all (fitT (hdP G)) = true := List.all_eq_true.2 fun g hg => by
              obtain ⟨j, hj, rfl⟩ := List.getElem_of_mem hg
              exact HU.out j hj hj
            rw [HL.out, this]; rfl)
          clear HU
          go_wp2_with fail
          go_ret
          exact ⟨retI HO.out.symm, hbr⟩

set_option maxHeartbeats 4000000 in
theorem ssome (lv : Value) (G : List Pm) (n : Int) (w : World) (hlG : G.length ≤ 1048576) (hok : ∀ g ∈ G, PmOk g) (hG : SlP w lv G) :
    Calls Try.prog 33 #[lv, .int .i64 n] w fun e w' => e = .returned (.int .i64 (someC G n)) ∧ Below w.heap.size w w' := by
  obtain ⟨la, lc, rfl, hc⟩ := id hG
  have HS := Lib.hid (sl05 (.slice la G.length lc) G w hlG hok hG)
  have HE : Hid (G = [] → slistC G = 0 ∧ someC G n = 2) := Lib.hid (fun h => by subst h; exact ⟨rfl, rfl⟩)
  have HN : Hid (G ≠ [] → slistC G = listC 1 G) := Lib.hid (slist_some G)
  have HC : Hid (someC G n = if listC 1 G = 0 then (if 0 ≤ n ∧ n ≤ 12 then 0 else 2) else listC 1 G) := Lib.hid rfl
  clear hok hG hc
  go_enter Try.func33, Try.ntmps33
  go_wp2_with fail
  ((with_reducible refine HS.out.mono ?_); rintro e w1 ⟨rfl, hb1⟩)
  by_cases h0 : G.length = 0
  · have HG := Lib.hid (HE.out (List.length_eq_zero_iff.1 h0))
    have h0' : ((G.length : Int) == 0) = true := by simp [h0]
    have hz : (G.length : Int) = 0 := by omega
    rw [HG.out.1]
    clear h0
    go_wp2_with fail
    go_ret
    exact ⟨retI HG.out.2.symm, hb1⟩
  have HG := Lib.hid (HN.out (fun h => h0 (by simp [h])))
  have h0' : ((G.length : Int) == 0) = false := beq_false_of_ne (by omega)
  rw [HG.out]
  obtain ⟨C, hC⟩ : ∃ C, listC 1 G = C := ⟨_, rfl⟩
  rw [hC] at HC ⊢
  clear hC HE HN HG h0
  by_cases hc : C = 0
  · subst hc
    go_wp2_with fail
    ((with_reducible refine (in_any n 0 12 w1).mono ?_); rintro e w2 ⟨rfl, rfl⟩)
    by_cases h : 0 ≤ n ∧ n ≤ 12
    · have HO : Hid (someC G n = 0) := Lib.hid (by rw [HC.out]; simp [h])
      have hd : (decide (0 ≤ n) && decide (n ≤ 12)) = true := by simp [h]
      rw [hd]
      clear h hd
      go_wp2_with fail
      go_ret
      exact ⟨retI HO.out.symm, hb1⟩
    · have HO : Hid (someC G n = 2) := Lib.hid (by rw [HC.out]; simp [h])
      have hd : (decide (0 ≤ n) && decide (n ≤ 12)) = false := by rw [Bool.and_eq_false_iff, decide_eq_false_iff_not, decide_eq_false_iff_not]; omega
      rw [hd]
      clear h hd
      go_wp2_with fail
      go_ret
      exact ⟨retI HO.out.symm, hb1⟩
  · have HO : Hid (someC G n = C) := Lib.hid (by rw [HC.out]; simp [hc])
    have hc' : (C == 0) = false := by simpa using hc
    clear hc
    go_wp2_with fail
    go_ret
    exact ⟨retI HO.out.symm, hb1⟩
end Go.Proofs.Ytphgpadpffigjaa
namespace Go.Proofs.Ytphgpadpffigjaa
open Go.RowKit Go.Sort


/-- Two rows of different types lie in different blocks. -/
theorem own_apart {w : World} {base base' : Nat} {e e' : TypeId} {size size' n n' : Nat} {v v' : Value} {xs xs' : List Value} (h : w.ownsRow base e size v n xs) (h' : w.ownsRow base' e' size' v' n' xs') (hne : e ≠ e') : v.ownBlock = none ∨ v.ownBlock ≠ v'.ownBlock := by
  cases hv : v.ownBlock with
  | none => exact .inl rfl
  | some g =>
    refine .inr fun e2 => ?_
    obtain ⟨c, z, hc⟩ := Lib.ownsRow_kind h g hv
    obtain ⟨c', z', hc'⟩ := Lib.ownsRow_kind h' g e2.symm
    rw [hc] at hc'
    simp at hc'
    exact hne hc'.2.1
/-- A list of rows of the call's own. -/
def OwnR (w : World) (base : Nat) (v : Value) (L : List (List Int)) : Prop :=
  ∃ us : List Value, us.length = L.length ∧ w.ownsRow base 61 1 v L.length us ∧ ∀ (k : Nat) (h : k < L.length) (h' : k < us.length), OwnL w base us[k] L[k]
theorem OwnR.below {w w' : World} {base : Nat} {v : Value} {L : List (List Int)} (h : OwnR w base v L) (hb : Below w.heap.size w w') : OwnR w' base v L := by
  obtain ⟨us, h1, h2, h3⟩ := h
  exact ⟨us, h1, eowns_below h2 hb, fun k hk hk' => (h3 k hk hk').below hb⟩
theorem owns_mono {w : World} {base base' : Nat} {e : TypeId} {size n : Nat} {v : Value} {xs : List Value} (h : w.ownsRow base e size v n xs) (hb : base' ≤ base) : w.ownsRow base' e size v n xs := by
  obtain ⟨h1, h2⟩ := h
  refine ⟨h1, ?_⟩
  rcases h2 with h2 | ⟨g, cap, cur, hv, hg, r⟩
  · exact .inl h2
  · exact .inr ⟨g, cap, cur, hv, Nat.le_trans hb hg, r⟩
theorem OwnR.mono {w : World} {base base' : Nat} {v : Value} {L : List (List Int)} (h : OwnR w base v L) (hb : base' ≤ base) : OwnR w base' v L := by
  obtain ⟨us, h1, h2, h3⟩ := h
  exact ⟨us, h1, owns_mono h2 hb, fun k hk hk' => (h3 k hk hk').mono hb⟩
theorem OwnR.cells {w : World} {base : Nat} {v : Value} {L : List (List Int)} (h : OwnR w base v L) (hl : 0 < L.length) : ∃ g cap, v = .slice (some ⟨g, 0, none⟩) L.length cap ∧ base ≤ g ∧ g < w.heap.size ∧ ∀ (k : Nat) (h : k < L.length), ∃ u, w.cell? ⟨g, k, none⟩ = some u ∧ OwnL w base u L[k] := by
  obtain ⟨us, h1, h2, h3⟩ := h
  obtain ⟨g, cap, hv, hb, hlt⟩ := World.ownsRow.form h2 hl
  refine ⟨g, cap, hv, hb, hlt, fun k hk => ⟨us[k]'(by omega), ?_, h3 k hk (by omega)⟩⟩
  have := World.ownsRow.cells h2 (g := g) (by rw [hv]; rfl) k (us[k]'(by omega)) (by simp)
  rwa [show (⟨g, 0, none⟩ : Addr).add k = ⟨g, k, none⟩ by unfold Addr.add; split <;> simp_all] at this
theorem OwnR.slice {w : World} {base : Nat} {v : Value} {L : List (List Int)} (h : OwnR w base v L) : SlR w v L := by
  by_cases hl : 0 < L.length
  · obtain ⟨g, cap, hv, _, hlt, hc⟩ := h.cells hl
    refine ⟨_, _, hv, .inr ⟨g, 0, rfl, hlt, fun k hk => ?_⟩⟩
    obtain ⟨u, h1, h2⟩ := hc k hk
    exact ⟨u, by rw [Nat.zero_add]; exact h1, h2.slice⟩
  · have : L = [] := List.eq_nil_of_length_eq_zero (by omega)
    subst this
    obtain ⟨us, h1, h2, h3⟩ := h
    rcases h2.2 with ⟨hv, _⟩ | ⟨g, cap, cur, hv, _⟩
    · exact ⟨_, _, hv, .inl rfl⟩
    · exact ⟨_, _, hv, .inl rfl⟩
theorem OwnR.shape {w : World} {base : Nat} {v : Value} {L : List (List Int)} (h : OwnR w base v L) : ∃ a cap, v = .slice a L.length cap := by
  obtain ⟨a, cap, hv, _⟩ := h.slice; exact ⟨a, cap, hv⟩
/-- Behind an append to another list. -/
theorem OwnL.kept {w w' : World} {base base' : Nat} {v v' : Value} {l : List Int} {n : Nat} {us : List Value} (h : OwnL w base v l) (h' : w.ownsRow base' 61 1 v' n us) (hg : w.grownBy w' v'.ownBlock) : OwnL w' base v l :=
  World.ownsRow.kept h hg (own_apart h h' (by decide))
/-- A row put behind a list of rows. -/
theorem OwnR.push {w w' : World} {base : Nat} {v v' u : Value} {L : List (List Int)} {l : List Int} {us : List Value} (h1 : us.length = L.length) (h2 : w.ownsRow base 61 1 v L.length us) (h3 : ∀ (k : Nat) (h : k < L.length) (h' : k < us.length), OwnL w base us[k] L[k])
    (hu : OwnL w base u l) (ho : w'.ownsRow base 61 1 v' (L.length + 1) (us ++ [u])) (hg : w.grownBy w' v.ownBlock) : OwnR w' base v' (L ++ [l]) := by
  refine ⟨us ++ [u], by simp [h1], by simpa using ho, fun k hk hk' => ?_⟩
  by_cases hlt : k < L.length
  · have := (h3 k hlt (by omega)).kept h2 hg
    simpa [List.getElem_append_left, hlt, h1] using this
  · have e : k = L.length := by simp at hk; omega
    subst e
    have := hu.kept h2 hg
    simpa [List.getElem_append_right, h1] using this
theorem OwnR.nil {w : World} {base : Nat} (hb : base ≤ w.heap.size) {t : TypeId} (ht : t = 61) : OwnR (w.alloc (.cells #[] t)) base (.slice (some ⟨w.heap.size, 0, none⟩) 0 0) [] := by
  subst ht
  have := World.ownsRow_made (base := base) (e := 61) (size := 1) w #[] 0 hb (by simp [maxLen]) rfl
  exact ⟨[], rfl, by simpa using this, fun k h => by simp at h⟩
end Go.Proofs.Ytphgpadpffigjaa
