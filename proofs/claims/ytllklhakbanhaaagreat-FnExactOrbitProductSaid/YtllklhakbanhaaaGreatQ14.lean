/-
  LISTS OF POLYNOMIALS in memory. Conditions: as each theorem states.
  LISTS OF POLYNOMIALS: what a substitution asks of them, by the program. Conditions: as each theorem states.
  LISTS OF POLYNOMIALS: what a substitution asks of them, by the program. Conditions: as each theorem states.
  SUBSTITUTIONS: what is asked of a polynomial and a list, in plain mathematics. Conditions: as each theorem states.
-/
import Derived.Test.YtllklhakbanhaaaGreatQ05
import Derived.Test.YtllklhakbanhaaaGreatQ08
import Derived.Test.YtllklhakbanhaaaGreatQ10
import Derived.Test.YtllklhakbanhaaaGreatQ11
namespace Go.Proofs.YtllklhakbanhaaaGreat
open Go.RowKit Go.Sort

/-- A polynomial: its prime, its letters, its terms. -/
abbrev Pm := Int × Int × List Tm
/-- The polynomial k of a list, in memory. -/
def PolyAt (w : World) (b o : Nat) (g : Pm) : Prop :=
  ∃ u, w.cell? ⟨b, o, none⟩ = some (.int .i64 g.1) ∧ w.cell? ⟨b, o + 1, none⟩ = some (.int .i64 g.2.1) ∧ w.cell? ⟨b, o + 2, none⟩ = some u ∧ SliceT w u g.2.2
def PolysW (w : World) (b off : Nat) (G : List Pm) : Prop := ∀ (k : Nat) (h : k < G.length), PolyAt w b (off + k * 3) G[k]
/-- A slice that reads as these polynomials. -/
def SlP (w : World) (v : Value) (G : List Pm) : Prop :=
  ∃ a cap, v = .slice a G.length cap ∧ (G = [] ∨ ∃ b off, a = some ⟨b, off, none⟩ ∧ b < w.heap.size ∧ PolysW w b off G)
theorem PolyAt.below {w w' : World} {b o : Nat} {g : Pm} (h : PolyAt w b o g) (hb : Below w.heap.size w w') (hlt : b < w.heap.size) : PolyAt w' b o g := by
  obtain ⟨u, h0, h1, h2, hS⟩ := h
  exact ⟨u, (hb.cell (p := ⟨b, _, none⟩) hlt).trans h0, (hb.cell (p := ⟨b, _, none⟩) hlt).trans h1, (hb.cell (p := ⟨b, _, none⟩) hlt).trans h2, hS.below hb⟩
theorem PolysW.below {w w' : World} {b off : Nat} {G : List Pm} (h : PolysW w b off G) (hb : Below w.heap.size w w') (hlt : b < w.heap.size) : PolysW w' b off G :=
  fun k hk => (h k hk).below hb hlt
theorem SlP.below {w w' : World} {v : Value} {G : List Pm} (h : SlP w v G) (hb : Below w.heap.size w w') : SlP w' v G := by
  obtain ⟨a, cap, hv, h | ⟨b, off, ha, hlt, hT⟩⟩ := h
  · exact ⟨a, cap, hv, .inl h⟩
  · exact ⟨a, cap, hv, .inr ⟨b, off, ha, Nat.lt_of_lt_of_le hlt hb.size, hT.below hb hlt⟩⟩
theorem SlP.at {w : World} {a : Option Addr} {n cap : Nat} {G : List Pm} (h : SlP w (.slice a n cap) G) (h0 : 0 < G.length) : ∃ b off, a = some ⟨b, off, none⟩ ∧ b < w.heap.size ∧ PolysW w b off G ∧ n = G.length := by
  obtain ⟨a', cap', hv, h | ⟨b, off, ha, hlt, hT⟩⟩ := h
  · rw [h] at h0; simp at h0
  · simp at hv
    obtain ⟨rfl, rfl, rfl⟩ := hv
    exact ⟨b, off, ha, hlt, hT, rfl⟩
/-- Numbers that fit; no list of terms is too long. -/
def PmOk (g : Pm) : Prop := (∀ t ∈ g.2.2, tmByte t) ∧ g.2.2.length ≤ 1048576
/-- A polynomial. -/
def isPm (g : Pm) : Bool := isPolyB g.1 g.2.1 g.2.2
end Go.Proofs.YtllklhakbanhaaaGreat
namespace Go.Proofs.YtllklhakbanhaaaGreat
open Go.RowKit Go.Sort

theorem first_outP {α : Type} (B : α → Bool) : ∀ (l : List α), l.all B = false → ∃ (j : Nat) (h : j < l.length), B l[j] = false ∧ ∀ (i : Nat) (h : i < l.length), i < j → B l[i] = true
  | [], h => by simp at h
  | a :: r, h => by
    cases ha : B a
    · exact ⟨0, by simp, by simpa using ha, fun i _ hij => by omega⟩
    · have hr : r.all B = false := by
        simp only [List.all_cons, ha, Bool.true_and] at h
        exact h
      obtain ⟨j, hj, hn, hp⟩ := first_outP B r hr
      refine ⟨j + 1, by simp; omega, by simpa using hn, fun i hi hij => ?_⟩
      cases i with
      | zero => simpa using ha
      | succ i => simpa using hp i (by simpa using hi) (by omega)

theorem inv_any (g : Pm) (v : Value) (w : World) (_hJ : True) (hok : PmOk g) (hS : SliceT w v g.2.2) :
    Calls Tryz.prog 150 #[.agg #[.int .i64 g.1, .int .i64 g.2.1, v]] w fun e w' => e = .returned (.bool (!isPm g)) ∧ Below w.heap.size w w' := by
  obtain ⟨p, d, ts⟩ := g
  obtain ⟨hby, hl⟩ := hok
  simp only at hby hl hS ⊢
  obtain ⟨a, cap, rfl, _⟩ := id hS
  obtain ⟨V, hV1, hbV, _, rq⟩ := newbox w p d (.slice a ts.length cap)
  obtain ⟨⟨c0, c1, c2⟩, _⟩ := poly3 rq
  have HC := Lib.hid (isPoly_any p d _ ts V hl (hS.below hbV) hby)
  obtain ⟨B, hB⟩ : ∃ B, isPolyB p d ts = B := ⟨_, rfl⟩
  have HB : Hid (isPm (p, d, ts) = B) := Lib.hid hB
  rw [hB] at HC
  clear hby hS hB
  go_enter Tryz.func150, Tryz.ntmps150
  go_wp2_with fail
  rw [← hV1]
  clear hV1
  ((with_reducible refine HC.out.mono ?_); rintro e w1 ⟨rfl, hb1⟩)
  have hend := hbV.trans (hb1.mono hbV.size)
  go_wp2
  go_ret
  exact ⟨by rw [HB.out]; rfl, hend⟩

set_option maxHeartbeats 1000000 in
theorem ividx_some (b off cap : Nat) (G : List Pm) (w : World) (hJ : True) (hbb : b < w.heap.size) (hl : G.length ≤ 1048576) (hok : ∀ g ∈ G, PmOk g) (hT : PolysW w b off G) (j : Nat) (hj : j < G.length) (hn : isPm G[j] = false) (hp : ∀ (i : Nat) (h : i < G.length), i < j → isPm G[i] = true) :
    Calls Tryz.prog 166 #[.slice (some ⟨b, off, none⟩) G.length cap, .func (.func 150) #[] #[]] w fun e w' => e = .returned (.int .i64 j) ∧ Below w.heap.size w w' := by
  have HN := Lib.hid hn
  have HP := Lib.hid hp
  have HOK := Lib.hid hok
  have HT := Lib.hid hT
  have HJ := Lib.hid (fun (w' : World) (hb : Below w.heap.size w w') => (by exact hJ : True))
  clear hn hp hok hT hJ
  go_enter Tryz.func166, Tryz.ntmps166
  go_wp2
  go_loopw [8] (fun i wr => ∃ k : Nat, k ≤ j ∧ i = .int .i64 k ∧ Below w.heap.size w wr) (fun i _ => G.length - (intOf i).toNat)
  case atStart => exact ⟨0, by omega, rfl, Below.refl _ _⟩
  case round =>
    obtain ⟨k, hk, rfl, hbr⟩ := hrel
    have hlt : k < G.length := by omega
    have hlt' : (k : Int) < (G.length : Int) := by omega
    obtain ⟨u, c0, c1, c2, s0⟩ := (HT.out.below hbr hbb) k hlt
    have HC := Lib.hid (inv_any  G[k] u wr (HJ.out wr hbr) (HOK.out _ (List.getElem_mem hlt)) s0)
    clear s0
    by_cases e : k = j
    · subst e
      go_wp2_with fail
      ((with_reducible refine HC.out.mono ?_); rintro e w1 ⟨rfl, hb1⟩)
      have hend := hbr.trans (hb1.mono hbr.size)
      rw [HN.out]
      go_wp2
      go_ret
      exact ⟨rfl, hend⟩
    · have h0 := Lib.hid (HP.out k hlt (by omega))
      go_wp2_with fail
      ((with_reducible refine HC.out.mono ?_); rintro e w1 ⟨rfl, hb1⟩)
      have hend := hbr.trans (hb1.mono hbr.size)
      rw [h0.out]
      go_wp2
      go_roundw
      case rel => exact ⟨k + 1, by omega, by go_num, hend⟩
      case measure => simp [intOf]; omega

set_option maxHeartbeats 1000000 in
theorem ividx_none (a : Option Addr) (cap : Nat) (G : List Pm) (w : World) (hJ : True) (hl : G.length ≤ 1048576) (hok : ∀ g ∈ G, PmOk g) (hS : G = [] ∨ ∃ b off, a = some ⟨b, off, none⟩ ∧ b < w.heap.size ∧ PolysW w b off G) (hp : ∀ (i : Nat) (h : i < G.length), isPm G[i] = true) :
    Calls Tryz.prog 166 #[.slice a G.length cap, .func (.func 150) #[] #[]] w fun e w' => e = .returned (.int .i64 (-1)) ∧ Below w.heap.size w w' := by
  have HP := Lib.hid hp
  have HOK := Lib.hid hok
  have HJ := Lib.hid (fun (w' : World) (hb : Below w.heap.size w w') => (by exact hJ : True))
  clear hp hok hJ
  go_enter Tryz.func166, Tryz.ntmps166
  go_wp2
  go_loopw [8] (fun i wr => ∃ k : Nat, k ≤ G.length ∧ i = .int .i64 k ∧ Below w.heap.size w wr) (fun i _ => G.length - (intOf i).toNat)
  case atStart => exact ⟨0, by omega, rfl, Below.refl _ _⟩
  case round =>
    obtain ⟨k, hk, rfl, hbr⟩ := hrel
    by_cases hlt : k < G.length
    · have hlt' : (k : Int) < (G.length : Int) := by omega
      obtain ⟨b, off, rfl, hbb, hT⟩ : ∃ b off, a = some ⟨b, off, none⟩ ∧ b < w.heap.size ∧ PolysW w b off G := by
        rcases hS with rfl | h
        · simp at hlt
        · exact h
      obtain ⟨u, c0, c1, c2, s0⟩ := (hT.below hbr hbb) k hlt
      have HC := Lib.hid (inv_any  G[k] u wr (HJ.out wr hbr) (HOK.out _ (List.getElem_mem hlt)) s0)
      have h0 := Lib.hid (HP.out k hlt)
      clear s0 hT
      go_wp2_with fail
      ((with_reducible refine HC.out.mono ?_); rintro e w1 ⟨rfl, hb1⟩)
      have hend := hbr.trans (hb1.mono hbr.size)
      rw [h0.out]
      go_wp2
      go_roundw
      case rel => exact ⟨k + 1, by omega, by go_num, hend⟩
      case measure => simp [intOf]; omega
    · obtain rfl : k = G.length := by omega
      go_wp2
      go_ret
      exact ⟨rfl, hbr⟩

theorem ivcontains (v : Value) (G : List Pm) (w : World) (hJ : True) (hl : G.length ≤ 1048576) (hok : ∀ g ∈ G, PmOk g) (hS : SlP w v G) :
    Calls Tryz.prog 151 #[v, .func (.func 150) #[] #[]] w fun e w' => e = .returned (.bool (!G.all isPm)) ∧ Below w.heap.size w w' := by
  obtain ⟨a, cap, rfl, hc⟩ := hS
  cases h : G.all isPm
  · obtain ⟨j, hj, hn, hp⟩ := first_outP isPm G h
    obtain ⟨b, off, rfl, hbb, hT⟩ : ∃ b off, a = some ⟨b, off, none⟩ ∧ b < w.heap.size ∧ PolysW w b off G := by
      rcases hc with rfl | h
      · simp at hj
      · exact h
    have HC := Lib.hid (ividx_some  b off cap G w hJ hbb hl hok hT j hj hn hp)
    clear h hc hn hp hok hT hJ
    go_enter Tryz.func151, Tryz.ntmps151
    go_wp2_with fail
    ((with_reducible refine HC.out.mono ?_); rintro e w1 ⟨rfl, hb1⟩)
    go_wp2
    go_ret
    exact ⟨rfl, hb1⟩
  · have hp : ∀ (i : Nat) (hi : i < G.length), isPm G[i] = true := fun i hi => List.all_eq_true.1 h _ (List.getElem_mem hi)
    have HC := Lib.hid (ividx_none  a cap G w hJ hl hok hc hp)
    clear h hp hok hc hJ
    go_enter Tryz.func151, Tryz.ntmps151
    go_wp2_with fail
    ((with_reducible refine HC.out.mono ?_); rintro e w1 ⟨rfl, hb1⟩)
    go_wp2
    go_ret
    exact ⟨rfl, hb1⟩
end Go.Proofs.YtllklhakbanhaaaGreat
namespace Go.Proofs.YtllklhakbanhaaaGreat
open Go.RowKit Go.Sort

/-- The boxes of what is captured: the polynomial, the list. -/
structure Capt (w : World) (bx bl : Nat) (p d : Int) (xv lv : Value) (G : List Pm) : Prop where
  x : w.rowIs bx 39 3 (polyF p d xv)
  l : w.cell? ⟨bl, 0, none⟩ = some lv
  ltl : bl < w.heap.size
  s : SlP w lv G
  n : 0 < G.length
theorem Capt.below {w w' : World} {bx bl : Nat} {p d : Int} {xv lv : Value} {G : List Pm} (h : Capt w bx bl p d xv lv G) (hb : Below w.heap.size w w') : Capt w' bx bl p d xv lv G :=
  ⟨rowIs_below h.x hb h.x.lt, (hb.cell (p := ⟨bl, 0, none⟩) h.ltl).trans h.l, Nat.lt_of_lt_of_le h.ltl hb.size, h.s.below hb, h.n⟩
/-- The first of a list. -/
def hdP (G : List Pm) : Pm := G.headD (0, 0, [])
theorem hdP_at {G : List Pm} (h : 0 < G.length) : hdP G = G[0] := by
  cases G with
  | nil => simp at h
  | cons a r => rfl
/-- Whether a polynomial has the prime p and is like another one. -/
def likeT (p : Int) (g0 g : Pm) : Bool := decide (g.1 = p) && (decide (g.1 = g0.1) && decide (g.2.1 = g0.2.1))

set_option maxHeartbeats 4000000 in
theorem unl_any (bx bl : Nat) (p d : Int) (xv lv : Value) (G : List Pm) (g : Pm) (v : Value) (w : World) (hJ : Capt w bx bl p d xv lv G) (hok : PmOk g) (hS : SliceT w v g.2.2) :
    Calls Tryz.prog 152 #[.agg #[.int .i64 g.1, .int .i64 g.2.1, v], .pointer (some ⟨bx, 0, none⟩), .pointer (some ⟨bl, 0, none⟩)] w fun e w' => e = .returned (.bool (!likeT p (hdP G) g)) ∧ Below w.heap.size w w' := by
  obtain ⟨p2, d2, ts⟩ := g
  obtain ⟨hby, hl⟩ := hok
  simp only at hby hl hS ⊢
  obtain ⟨a, cap, rfl, _⟩ := id hS
  obtain ⟨V, hV1, hbV, _, rq⟩ := newbox w p2 d2 (.slice a ts.length cap)
  have hJV := hJ.below hbV
  obtain ⟨la, lc, rfl, hc⟩ := hJV.s
  have hn := hJ.n
  have hn' : (0 : Int) < (G.length : Int) := by omega
  obtain ⟨b, off, rfl, hbb, hT⟩ : ∃ b off, la = some ⟨b, off, none⟩ ∧ b < V.heap.size ∧ PolysW V b off G := by
    rcases hc with h | h
    · rw [h] at hn; simp at hn
    · exact h
  obtain ⟨u, g0, g1, g2, hu⟩ := hT 0 hn
  obtain ⟨ua, uc, rfl, _⟩ := id hu
  rw [hdP_at hn]
  obtain ⟨q, hq⟩ : ∃ q, G[0].1 = q := ⟨_, rfl⟩
  obtain ⟨e, he⟩ : ∃ e, G[0].2.1 = e := ⟨_, rfl⟩
  obtain ⟨n0, hn0⟩ : ∃ n0, G[0].2.2.length = n0 := ⟨_, rfl⟩
  have HX : Hid (likeT p G[0] (p2, d2, ts) = (decide (p2 = p) && (decide (p2 = q) && decide (d2 = e)))) := Lib.hid (by unfold likeT; rw [hq, he])
  rw [hq, Nat.zero_mul, Nat.add_zero] at g0
  rw [he, Nat.zero_mul, Nat.add_zero] at g1
  rw [hn0, Nat.zero_mul, Nat.add_zero] at g2
  obtain ⟨⟨c0, c1, c2⟩, _⟩ := poly3 rq
  obtain ⟨⟨x0, _, _⟩, _⟩ := poly3 hJV.x
  have l0 := hJV.l
  have k0 := cell_regrown c0
  have k1 := cell_regrown c1
  have k2 := cell_regrown c2
  have k3 := cell_regrown x0
  have k4 := cell_regrown l0
  have k5 := cell_regrown g0
  have k6 := cell_regrown g1
  have k7 := cell_regrown g2
  obtain ⟨B, hB⟩ : ∃ B, (decide (p2 = q) && decide (d2 = e)) = B := ⟨_, rfl⟩
  have kA : ∀ dd os, Calls Tryz.prog 153 #[.agg #[.int .i64 p2, .int .i64 d2, .slice a ts.length cap], .agg #[.int .i64 q, .int .i64 e, .slice ua n0 uc]] (grow (redrawn V dd) os) fun e w'' => e = .returned (.bool B) ∧ ∃ p : Regrown, w'' = grow (redrawn V p.d) p.os := fun dd os =>
    Calls.regrown_of (alike_is p2 d2 q e _ _ _ B hB)
  have HB := Lib.hid hB
  clear g0 g1 g2 c0 c1 c2 x0 l0 hu hT hc hJV hJ hby hq he hn0 hS rq hB
  by_cases hp : p2 = p
  · subst hp
    have hpp : (p2 != p2) = false := by simp
    go_enter Tryz.func152, Tryz.ntmps152
    go_wp2_with fail
    rw [← hV1]
    clear hV1
    refine wp_region_quiet_below (by kernel_rfl) (by kernel_rfl) ?_
    repeat (go_big_quiet_step (with_reducible exact kA _ _))
    refine wpQuiet_nil ?_
    intro _ hw'
    obtain ⟨⟨dq, osq⟩, hw''⟩ := hw'
    subst hw''
    have hend := hbV.trans ((below_regrown V dq osq).mono hbV.size)
    generalize grow (redrawn V dq) osq = w2 at *
    clear k0 k1 k2 k3 k4 k5 k6 k7 kA
    go_wp2_with fail
    go_ret
    exact ⟨by rw [HX.out, HB.out]; simp, hend⟩
  · have hpp : (p2 != p) = true := by simpa using hp
    have HX2 : Hid (likeT p G[0] (p2, d2, ts) = false) := Lib.hid (by rw [HX.out]; simp [hp])
    clear hp
    go_enter Tryz.func152, Tryz.ntmps152
    go_wp2_with fail
    rw [← hV1]
    clear hV1
    refine wp_region_quiet_below (by kernel_rfl) (by kernel_rfl) ?_
    repeat (go_big_quiet_step (with_reducible exact kA _ _))
    refine wpQuiet_nil ?_
    intro _ hw'
    obtain ⟨⟨dq, osq⟩, hw''⟩ := hw'
    subst hw''
    have hend := hbV.trans ((below_regrown V dq osq).mono hbV.size)
    generalize grow (redrawn V dq) osq = w2 at *
    clear k0 k1 k2 k3 k4 k5 k6 k7 kA
    go_wp2_with fail
    go_ret
    exact ⟨by rw [HX2.out]; rfl, hend⟩

set_option maxHeartbeats 1000000 in
theorem ulidx_some (bx bl : Nat) (p d : Int) (xv lv : Value) (G0 : List Pm) (b off cap : Nat) (G : List Pm) (w : World) (hJ : Capt w bx bl p d xv lv G0) (hbb : b < w.heap.size) (hl : G.length ≤ 1048576) (hok : ∀ g ∈ G, PmOk g) (hT : PolysW w b off G) (j : Nat) (hj : j < G.length) (hn : (likeT p (hdP G0)) G[j] = false) (hp : ∀ (i : Nat) (h : i < G.length), i < j → (likeT p (hdP G0)) G[i] = true) :
    Calls Tryz.prog 166 #[.slice (some ⟨b, off, none⟩) G.length cap, .func (.func 152) #[] #[.pointer (some ⟨bx, 0, none⟩), .pointer (some ⟨bl, 0, none⟩)]] w fun e w' => e = .returned (.int .i64 j) ∧ Below w.heap.size w w' := by
  have HN := Lib.hid hn
  have HP := Lib.hid hp
  have HOK := Lib.hid hok
  have HT := Lib.hid hT
  have HJ := Lib.hid (fun (w' : World) (hb : Below w.heap.size w w') => (by exact hJ.below hb : Capt w' bx bl p d xv lv G0))
  clear hn hp hok hT hJ
  go_enter Tryz.func166, Tryz.ntmps166
  go_wp2
  go_loopw [8] (fun i wr => ∃ k : Nat, k ≤ j ∧ i = .int .i64 k ∧ Below w.heap.size w wr) (fun i _ => G.length - (intOf i).toNat)
  case atStart => exact ⟨0, by omega, rfl, Below.refl _ _⟩
  case round =>
    obtain ⟨k, hk, rfl, hbr⟩ := hrel
    have hlt : k < G.length := by omega
    have hlt' : (k : Int) < (G.length : Int) := by omega
    obtain ⟨u, c0, c1, c2, s0⟩ := (HT.out.below hbr hbb) k hlt
    have HC := Lib.hid (unl_any bx bl p d xv lv G0 G[k] u wr (HJ.out wr hbr) (HOK.out _ (List.getElem_mem hlt)) s0)
    clear s0
    by_cases e : k = j
    · subst e
      go_wp2_with fail
      ((with_reducible refine HC.out.mono ?_); rintro e w1 ⟨rfl, hb1⟩)
      have hend := hbr.trans (hb1.mono hbr.size)
      rw [HN.out]
      go_wp2
      go_ret
      exact ⟨rfl, hend⟩
    · have h0 := Lib.hid (HP.out k hlt (by omega))
      go_wp2_with fail
      ((with_reducible refine HC.out.mono ?_); rintro e w1 ⟨rfl, hb1⟩)
      have hend := hbr.trans (hb1.mono hbr.size)
      rw [h0.out]
      go_wp2
      go_roundw
      case rel => exact ⟨k + 1, by omega, by go_num, hend⟩
      case measure => simp [intOf]; omega

set_option maxHeartbeats 1000000 in
theorem ulidx_none (bx bl : Nat) (p d : Int) (xv lv : Value) (G0 : List Pm) (a : Option Addr) (cap : Nat) (G : List Pm) (w : World) (hJ : Capt w bx bl p d xv lv G0) (hl : G.length ≤ 1048576) (hok : ∀ g ∈ G, PmOk g) (hS : G = [] ∨ ∃ b off, a = some ⟨b, off, none⟩ ∧ b < w.heap.size ∧ PolysW w b off G) (hp : ∀ (i : Nat) (h : i < G.length), (likeT p (hdP G0)) G[i] = true) :
    Calls Tryz.prog 166 #[.slice a G.length cap, .func (.func 152) #[] #[.pointer (some ⟨bx, 0, none⟩), .pointer (some ⟨bl, 0, none⟩)]] w fun e w' => e = .returned (.int .i64 (-1)) ∧ Below w.heap.size w w' := by
  have HP := Lib.hid hp
  have HOK := Lib.hid hok
  have HJ := Lib.hid (fun (w' : World) (hb : Below w.heap.size w w') => (by exact hJ.below hb : Capt w' bx bl p d xv lv G0))
  clear hp hok hJ
  go_enter Tryz.func166, Tryz.ntmps166
  go_wp2
  go_loopw [8] (fun i wr => ∃ k : Nat, k ≤ G.length ∧ i = .int .i64 k ∧ Below w.heap.size w wr) (fun i _ => G.length - (intOf i).toNat)
  case atStart => exact ⟨0, by omega, rfl, Below.refl _ _⟩
  case round =>
    obtain ⟨k, hk, rfl, hbr⟩ := hrel
    by_cases hlt : k < G.length
    · have hlt' : (k : Int) < (G.length : Int) := by omega
      obtain ⟨b, off, rfl, hbb, hT⟩ : ∃ b off, a = some ⟨b, off, none⟩ ∧ b < w.heap.size ∧ PolysW w b off G := by
        rcases hS with rfl | h
        · simp at hlt
        · exact h
      obtain ⟨u, c0, c1, c2, s0⟩ := (hT.below hbr hbb) k hlt
      have HC := Lib.hid (unl_any bx bl p d xv lv G0 G[k] u wr (HJ.out wr hbr) (HOK.out _ (List.getElem_mem hlt)) s0)
      have h0 := Lib.hid (HP.out k hlt)
      clear s0 hT
      go_wp2_with fail
      ((with_reducible refine HC.out.mono ?_); rintro e w1 ⟨rfl, hb1⟩)
      have hend := hbr.trans (hb1.mono hbr.size)
      rw [h0.out]
      go_wp2
      go_roundw
      case rel => exact ⟨k + 1, by omega, by go_num, hend⟩
      case measure => simp [intOf]; omega
    · obtain rfl : k = G.length := by omega
      go_wp2
      go_ret
      exact ⟨rfl, hbr⟩

theorem ulcontains (bx bl : Nat) (p d : Int) (xv lv : Value) (G0 : List Pm) (v : Value) (G : List Pm) (w : World) (hJ : Capt w bx bl p d xv lv G0) (hl : G.length ≤ 1048576) (hok : ∀ g ∈ G, PmOk g) (hS : SlP w v G) :
    Calls Tryz.prog 151 #[v, .func (.func 152) #[] #[.pointer (some ⟨bx, 0, none⟩), .pointer (some ⟨bl, 0, none⟩)]] w fun e w' => e = .returned (.bool (!G.all (likeT p (hdP G0)))) ∧ Below w.heap.size w w' := by
  obtain ⟨a, cap, rfl, hc⟩ := hS
  cases h : G.all (likeT p (hdP G0))
  · obtain ⟨j, hj, hn, hp⟩ := first_outP (likeT p (hdP G0)) G h
    obtain ⟨b, off, rfl, hbb, hT⟩ : ∃ b off, a = some ⟨b, off, none⟩ ∧ b < w.heap.size ∧ PolysW w b off G := by
      rcases hc with rfl | h
      · simp at hj
      · exact h
    have HC := Lib.hid (ulidx_some bx bl p d xv lv G0 b off cap G w hJ hbb hl hok hT j hj hn hp)
    clear h hc hn hp hok hT hJ
    go_enter Tryz.func151, Tryz.ntmps151
    go_wp2_with fail
    ((with_reducible refine HC.out.mono ?_); rintro e w1 ⟨rfl, hb1⟩)
    go_wp2
    go_ret
    exact ⟨rfl, hb1⟩
  · have hp : ∀ (i : Nat) (hi : i < G.length), (likeT p (hdP G0)) G[i] = true := fun i hi => List.all_eq_true.1 h _ (List.getElem_mem hi)
    have HC := Lib.hid (ulidx_none bx bl p d xv lv G0 a cap G w hJ hl hok hc hp)
    clear h hp hok hc hJ
    go_enter Tryz.func151, Tryz.ntmps151
    go_wp2_with fail
    ((with_reducible refine HC.out.mono ?_); rintro e w1 ⟨rfl, hb1⟩)
    go_wp2
    go_ret
    exact ⟨rfl, hb1⟩
end Go.Proofs.YtllklhakbanhaaaGreat
namespace Go.Proofs.YtllklhakbanhaaaGreat
open Go.RowKit Go.Sort Go.Maps

/-- The exponent number k. -/
def nthE (e : Int × Int × Int) (k : Nat) : Int := if k = 0 then e.1 else if k = 1 then e.2.1 else if k = 2 then e.2.2 else 0
theorem nthE_bound {e : Int × Int × Int} (h : mono12 e) (k : Nat) : 0 ≤ nthE e k ∧ nthE e k ≤ 12 := by
  obtain ⟨⟨⟨a1, _⟩, ⟨a2, _⟩, a3, _⟩, a4⟩ := h
  unfold nthE
  repeat' split
  all_goals omega
/-- The degree bound of the first k letters. -/
def bndK (Ls : List (List Tm)) (e : Int × Int × Int) : Nat → Int
  | 0 => 0
  | k + 1 => bndK Ls e k + nthE e k * dgN Ls k
theorem dgN_ge {Ls : List (List Tm)} {i : Nat} (h : Ls.length ≤ i) : dgN Ls i = 0 := by
  unfold dgN
  rw [nthL_ge h]
  rfl
theorem bndK_full {Ls : List (List Tm)} (h1 : 1 ≤ Ls.length) (h3 : Ls.length ≤ 3) (e : Int × Int × Int) : bndK Ls e Ls.length = bndE Ls e := by
  have hx : Ls.length = 1 ∨ Ls.length = 2 ∨ Ls.length = 3 := by omega
  rcases hx with h | h | h
  · have d1 := dgN_ge (Ls := Ls) (i := 1) (by omega)
    have d2 := dgN_ge (Ls := Ls) (i := 2) (by omega)
    rw [h]
    simp [bndK, bndE, nthE, d1, d2]
  · have d2 := dgN_ge (Ls := Ls) (i := 2) (by omega)
    rw [h]
    simp [bndK, bndE, nthE, d2]
  · rw [h]
    simp [bndK, bndE, nthE]
theorem bndK_bound {Ls : List (List Tm)} {e : Int × Int × Int} (he : mono12 e) (hd : ∀ i, dgN Ls i ≤ 12) : ∀ k : Nat, 0 ≤ bndK Ls e k ∧ bndK Ls e k ≤ 144 * (k : Int)
  | 0 => ⟨by simp [bndK], by simp [bndK]⟩
  | k + 1 => by
    obtain ⟨h0, h1⟩ := bndK_bound he hd k
    obtain ⟨a0, a1⟩ := nthE_bound he k
    have d0 := dgN_nonneg Ls k
    have m0 : 0 ≤ nthE e k * dgN Ls k := Int.mul_nonneg a0 d0
    have m1 : nthE e k * dgN Ls k ≤ 12 * 12 := Int.mul_le_mul a1 (hd k) d0 (by omega)
    rw [bndK]
    omega
/-- The terms of a list's polynomials. -/
def tmsL (G : List Pm) : List (List Tm) := G.map fun g => g.2.2
theorem tmsL_len (G : List Pm) : (tmsL G).length = G.length := by simp [tmsL]
theorem tmsL_nth {G : List Pm} {i : Nat} (h : i < G.length) : nthL (tmsL G) i = G[i].2.2 := by
  rw [nthL_lt (by rw [tmsL_len]; exact h)]
  simp [tmsL]
/-- The code of a substitution. -/
def subsC (p d : Int) (xs : List Tm) (G : List Pm) : Int :=
  if (isPolyB p d xs && G.all isPm) = true then
    (if (decide ((G.length : Int) = d) && G.all (likeT p (hdP G))) = true then
      (if xs.all (fun t => decide (bndE (tmsL G) (tmE t) ≤ 12)) = true then 0 else 3) else 2) else 1
theorem isPm_valid {g : Pm} (hok : PmOk g) (h : isPm g = true) : Valid g.1 g.2.1 g.2.2 := valid_of h hok.1
theorem dg_bound {G : List Pm} (hok : ∀ g ∈ G, PmOk g) (hp : G.all isPm = true) (i : Nat) : dgN (tmsL G) i ≤ 12 := by
  by_cases h : i < G.length
  · unfold dgN
    rw [tmsL_nth h]
    have hv := isPm_valid (hok _ (List.getElem_mem h)) (List.all_eq_true.1 hp _ (List.getElem_mem h))
    exact (max_deg hv).2
  · rw [dgN_ge (by rw [tmsL_len]; omega)]
    omega
end Go.Proofs.YtllklhakbanhaaaGreat
