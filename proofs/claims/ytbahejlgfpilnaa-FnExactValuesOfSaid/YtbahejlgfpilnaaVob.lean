/-
  LISTS OF POLYNOMIALS: what 'impl.checkValued' asks of each. Conditions: as each theorem states.
-/
import Derived.Test.YtbahejlgfpilnaaVoa
namespace Go.Proofs.Ytbahejlgfpilnaa
open Go.RowKit Go.Sort

/-- The box of what is captured: the list. -/
structure CapV (w : World) (bl : Nat) (lv : Value) (G : List Pm) : Prop where
  l : w.cell? ⟨bl, 0, none⟩ = some lv
  ltl : bl < w.heap.size
  s : SlP w lv G
  n : 0 < G.length
theorem CapV.below {w w' : World} {bl : Nat} {lv : Value} {G : List Pm} (h : CapV w bl lv G) (hb : Below w.heap.size w w') : CapV w' bl lv G :=
  ⟨(hb.cell (p := ⟨bl, 0, none⟩) h.ltl).trans h.l, Nat.lt_of_lt_of_le h.ltl hb.size, h.s.below hb, h.n⟩
/-- Whether a polynomial is like another one. -/
def likeG (g0 g : Pm) : Bool := decide (g.1 = g0.1) && decide (g.2.1 = g0.2.1)

set_option maxRecDepth 8000 in
set_option maxHeartbeats 8000000 in
theorem vft_any (bl : Nat) (lv : Value) (G : List Pm) (g : Pm) (v : Value) (w : World) (hJ : CapV w bl lv G) (hok : PmOk g) (hS : SliceT w v g.2.2) :
    Calls Try.prog 190 #[.agg #[.int .i64 g.1, .int .i64 g.2.1, v], .pointer (some ⟨bl, 0, none⟩)] w fun e w' => e = .returned (.bool (!likeG (hdP G) g)) ∧ Below w.heap.size w w' := by
  obtain ⟨p2, d2, ts⟩ := g
  have hnG := hJ.n
  rw [hdP_at hnG]
  obtain ⟨a, cap, rfl, _⟩ := id hS
  simp only
  obtain ⟨w1, hV1, hbV, _, rq⟩ := newbox w p2 d2 (.slice a ts.length cap)
  have hJ1 := hJ.below hbV
  have HX : Hid (likeG G[0] (p2, d2, ts) = (decide (p2 = G[0].1) && decide (d2 = G[0].2.1))) := Lib.hid rfl
  obtain ⟨la, lc, rfl, hc⟩ := hJ1.s
  have hn := hJ1.n
  have hn' : (0 : Int) < (G.length : Int) := by omega
  obtain ⟨b, off, rfl, hbb, hT⟩ : ∃ b off, la = some ⟨b, off, none⟩ ∧ b < w1.heap.size ∧ PolysW w1 b off G := by
    rcases hc with h | h
    · rw [h] at hn; simp at hn
    · exact h
  obtain ⟨u, g0, g1, g2, hu⟩ := hT 0 hn
  obtain ⟨ua, uc, rfl, _⟩ := id hu
  obtain ⟨q, hq⟩ : ∃ q, G[0].1 = q := ⟨_, rfl⟩
  obtain ⟨e, he⟩ : ∃ e, G[0].2.1 = e := ⟨_, rfl⟩
  obtain ⟨n0, hn0⟩ : ∃ n0, G[0].2.2.length = n0 := ⟨_, rfl⟩
  rw [hq, he] at HX
  rw [hq, Nat.zero_mul, Nat.add_zero] at g0
  rw [he, Nat.zero_mul, Nat.add_zero] at g1
  rw [hn0, Nat.zero_mul, Nat.add_zero] at g2
  obtain ⟨⟨c0, c1, c2⟩, _⟩ := poly3 rq
  have l0 := hJ1.l
  have k0 := cell_regrown c0
  have k1 := cell_regrown c1
  have k2 := cell_regrown c2
  have k4 := cell_regrown l0
  have k5 := cell_regrown g0
  have k6 := cell_regrown g1
  have k7 := cell_regrown g2
  obtain ⟨B, hB⟩ : ∃ B, (decide (p2 = q) && decide (d2 = e)) = B := ⟨_, rfl⟩
  have kA : ∀ dd os, Calls Try.prog 154 #[.agg #[.int .i64 p2, .int .i64 d2, .slice a ts.length cap], .agg #[.int .i64 q, .int .i64 e, .slice ua n0 uc]] (grow (redrawn w1 dd) os) fun e w'' => e = .returned (.bool B) ∧ ∃ p : Regrown, w'' = grow (redrawn w1 p.d) p.os := fun dd os =>
    Calls.regrown_of (alike_is p2 d2 q e _ _ _ B hB)
  have HY : Hid (likeG G[0] (p2, d2, ts) = B) := Lib.hid (by rw [HX.out, hB])
  clear g0 g1 g2 c0 c1 c2 l0 hu hT hc hJ1 hq he hn0 rq hB HX hJ hS
  go_enter Try.func190, Try.ntmps190
  go_wp2_with fail
  rw [← hV1]
  clear hV1
  refine wp_region_quiet_below (by kernel_rfl) (by kernel_rfl) ?_
  repeat (go_big_quiet_step (first | with_reducible exact kA _ _))
  refine wpQuiet_nil ?_
  intro _ hw'
  obtain ⟨⟨dq, osq⟩, hw''⟩ := hw'
  subst hw''
  have hend := hbV.trans ((below_regrown w1 dq osq).mono hbV.size)
  generalize grow (redrawn w1 dq) osq = w3 at *
  clear k0 k1 k2 k4 k5 k6 k7 kA
  go_wp2_with fail
  go_ret
  exact ⟨by rw [HY.out]; rfl, hend⟩

set_option maxHeartbeats 1000000 in
theorem vfidx_some (bl : Nat) (lv : Value) (G0 : List Pm) (b off cap : Nat) (G : List Pm) (w : World) (hJ : CapV w bl lv G0) (hbb : b < w.heap.size) (hl : G.length ≤ 1048576) (hok : ∀ g ∈ G, PmOk g) (hT : PolysW w b off G) (j : Nat) (hj : j < G.length) (hn : (likeG (hdP G0)) G[j] = false) (hp : ∀ (i : Nat) (h : i < G.length), i < j → (likeG (hdP G0)) G[i] = true) :
    Calls Try.prog 216 #[.slice (some ⟨b, off, none⟩) G.length cap, .func (.func 190) #[] #[.pointer (some ⟨bl, 0, none⟩)]] w fun e w' => e = .returned (.int .i64 j) ∧ Below w.heap.size w w' := by
  have HN := Lib.hid hn
  have HP := Lib.hid hp
  have HOK := Lib.hid hok
  have HT := Lib.hid hT
  have HJ := Lib.hid (fun (w' : World) (hb : Below w.heap.size w w') => (by exact hJ.below hb : CapV w' bl lv G0))
  clear hn hp hok hT hJ
  go_enter Try.func216, Try.ntmps216
  go_wp2
  go_loopw [8] (fun i wr => ∃ k : Nat, k ≤ j ∧ i = .int .i64 k ∧ Below w.heap.size w wr) (fun i _ => G.length - (intOf i).toNat)
  case atStart => exact ⟨0, by omega, rfl, Below.refl _ _⟩
  case round =>
    obtain ⟨k, hk, rfl, hbr⟩ := hrel
    have hlt : k < G.length := by omega
    have hlt' : (k : Int) < (G.length : Int) := by omega
    obtain ⟨u, c0, c1, c2, s0⟩ := (HT.out.below hbr hbb) k hlt
    have HC := Lib.hid (vft_any bl lv G0 G[k] u wr (HJ.out wr hbr) (HOK.out _ (List.getElem_mem hlt)) s0)
    clear s0
    by_cases e : k = j
    · subst e
      go_wp2_with fail
      ((with_reducible refine HC.out.mono ?_); rintro e w1 ⟨rfl, hb1⟩)
      have hend := hbr.trans (hb1.mono hbr.size)
      rw [HN.out]
      go_wp2
      go_ret
      exact ⟨rfl, hend⟩
    · have h0 := Lib.hid (HP.out k hlt (by omega))
      go_wp2_with fail
      ((with_reducible refine HC.out.mono ?_); rintro e w1 ⟨rfl, hb1⟩)
      have hend := hbr.trans (hb1.mono hbr.size)
      rw [h0.out]
      go_wp2
      go_roundw
      case rel => exact ⟨k + 1, by omega, by go_num, hend⟩
      case measure => simp [intOf]; omega

set_option maxHeartbeats 1000000 in
theorem vfidx_none (bl : Nat) (lv : Value) (G0 : List Pm) (a : Option Addr) (cap : Nat) (G : List Pm) (w : World) (hJ : CapV w bl lv G0) (hl : G.length ≤ 1048576) (hok : ∀ g ∈ G, PmOk g) (hS : G = [] ∨ ∃ b off, a = some ⟨b, off, none⟩ ∧ b < w.heap.size ∧ PolysW w b off G) (hp : ∀ (i : Nat) (h : i < G.length), (likeG (hdP G0)) G[i] = true) :
    Calls Try.prog 216 #[.slice a G.length cap, .func (.func 190) #[] #[.pointer (some ⟨bl, 0, none⟩)]] w fun e w' => e = .returned (.int .i64 (-1)) ∧ Below w.heap.size w w' := by
  have HP := Lib.hid hp
  have HOK := Lib.hid hok
  have HJ := Lib.hid (fun (w' : World) (hb : Below w.heap.size w w') => (by exact hJ.below hb : CapV w' bl lv G0))
  clear hp hok hJ
  go_enter Try.func216, Try.ntmps216
  go_wp2
  go_loopw [8] (fun i wr => ∃ k : Nat, k ≤ G.length ∧ i = .int .i64 k ∧ Below w.heap.size w wr) (fun i _ => G.length - (intOf i).toNat)
  case atStart => exact ⟨0, by omega, rfl, Below.refl _ _⟩
  case round =>
    obtain ⟨k, hk, rfl, hbr⟩ := hrel
    by_cases hlt : k < G.length
    · have hlt' : (k : Int) < (G.length : Int) := by omega
      obtain ⟨b, off, rfl, hbb, hT⟩ : ∃ b off, a = some ⟨b, off, none⟩ ∧ b < w.heap.size ∧ PolysW w b off G := by
        rcases hS with rfl | h
        · simp at hlt
        · exact h
      obtain ⟨u, c0, c1, c2, s0⟩ := (hT.below hbr hbb) k hlt
      have HC := Lib.hid (vft_any bl lv G0 G[k] u wr (HJ.out wr hbr) (HOK.out _ (List.getElem_mem hlt)) s0)
      have h0 := Lib.hid (HP.out k hlt)
      clear s0 hT
      go_wp2_with fail
      ((with_reducible refine HC.out.mono ?_); rintro e w1 ⟨rfl, hb1⟩)
      have hend := hbr.trans (hb1.mono hbr.size)
      rw [h0.out]
      go_wp2
      go_roundw
      case rel => exact ⟨k + 1, by omega, by go_num, hend⟩
      case measure => simp [intOf]; omega
    · obtain rfl : k = G.length := by omega
      go_wp2
      go_ret
      exact ⟨rfl, hbr⟩

theorem vfcontains (bl : Nat) (lv : Value) (G0 : List Pm) (v : Value) (G : List Pm) (w : World) (hJ : CapV w bl lv G0) (hl : G.length ≤ 1048576) (hok : ∀ g ∈ G, PmOk g) (hS : SlP w v G) :
    Calls Try.prog 152 #[v, .func (.func 190) #[] #[.pointer (some ⟨bl, 0, none⟩)]] w fun e w' => e = .returned (.bool (!G.all (likeG (hdP G0)))) ∧ Below w.heap.size w w' := by
  obtain ⟨a, cap, rfl, hc⟩ := hS
  cases h : G.all (likeG (hdP G0))
  · obtain ⟨j, hj, hn, hp⟩ := first_outP (likeG (hdP G0)) G h
    obtain ⟨b, off, rfl, hbb, hT⟩ : ∃ b off, a = some ⟨b, off, none⟩ ∧ b < w.heap.size ∧ PolysW w b off G := by
      rcases hc with rfl | h
      · simp at hj
      · exact h
    have HC := Lib.hid (vfidx_some bl lv G0 b off cap G w hJ hbb hl hok hT j hj hn hp)
    clear h hc hn hp hok hT hJ
    go_enter Try.func152, Try.ntmps152
    go_wp2_with fail
    ((with_reducible refine HC.out.mono ?_); rintro e w1 ⟨rfl, hb1⟩)
    go_wp2
    go_ret
    exact ⟨rfl, hb1⟩
  · have hp : ∀ (i : Nat) (hi : i < G.length), (likeG (hdP G0)) G[i] = true := fun i hi => List.all_eq_true.1 h _ (List.getElem_mem hi)
    have HC := Lib.hid (vfidx_none bl lv G0 a cap G w hJ hl hok hc hp)
    clear h hp hok hc hJ
    go_enter Try.func152, Try.ntmps152
    go_wp2_with fail
    ((with_reducible refine HC.out.mono ?_); rintro e w1 ⟨rfl, hb1⟩)
    go_wp2
    go_ret
    exact ⟨rfl, hb1⟩

set_option maxHeartbeats 1000000 in
theorem vcontains_none (bl : Nat) (w : World) (la : Option Addr) (lc : Nat) :
    Calls Try.prog 152 #[.slice la 0 lc, .func (.func 190) #[] #[.pointer (some ⟨bl, 0, none⟩)]] w fun e w' => e = .returned (.bool false) ∧ Below w.heap.size w w' := by
  have HI : Hid (Calls Try.prog 216 #[.slice la 0 lc, .func (.func 190) #[] #[.pointer (some ⟨bl, 0, none⟩)]] w fun e w' => e = .returned (.int .i64 (-1)) ∧ w' = w) := Lib.hid (by
    go_enter Try.func216, Try.ntmps216
    go_wp2
    refine wp_loop_rounds 1 ?_
    rw [rounds_succ]
    go_wp2
    go_ret
    exact ⟨rfl, rfl⟩)
  go_enter Try.func152, Try.ntmps152
  go_wp2_with fail
  ((with_reducible refine HI.out.mono ?_); rintro e w1 ⟨rfl, rfl⟩)
  go_wp2
  go_ret
  exact ⟨rfl, Below.refl _ _⟩
/-- A box of a list. -/
theorem boxV (w : World) (lv : Value) : ∃ W, W = w.alloc (.cells #[lv] 27) ∧ Below w.heap.size w W ∧ (W.heap.size ≤ w.heap.size + 1 ∧ w.heap.size + 1 ≤ W.heap.size) ∧ W.cell? ⟨w.heap.size, 0, none⟩ = some lv := by
  refine ⟨_, rfl, box1 _ _, ⟨by simp, by simp⟩, ?_⟩
  exact (World.rowIs_alloc w #[lv] 27 (fun _ => lv) (fun i hi => by simp at hi; subst hi; rfl)).cell (i := 0) (by simp)


/-- The code of a list of polynomials whose values are asked. -/
def valC (G : List Pm) : Int := if G.all isPm = true then (if G.length ≤ 8 then (if G.all (likeG (hdP G)) = true then 0 else 2) else 2) else 1
set_option maxRecDepth 8000 in
set_option maxHeartbeats 16000000 in
theorem icv (lv : Value) (G : List Pm) (w : World) (hlG : G.length ≤ 1048576) (hok : ∀ g ∈ G, PmOk g) (hG : SlP w lv G) :
    Calls Try.prog 122 #[lv] w fun e w' => e = .returned (.int .i64 (valC G)) ∧ Below w.heap.size w w' := by
  obtain ⟨la, lc, rfl, hc⟩ := id hG
  obtain ⟨W, hW, hbW, ⟨hWs1, hWs2⟩, rl⟩ := boxV w (.slice la G.length lc)
  have hGW := hG.below hbW
  have hq0 : w.heap.size < W.heap.size := by omega
  have HC := Lib.hid (vicontains (.slice la G.length lc) G W trivial hlG hok hGW)
  obtain ⟨B, hB1⟩ : ∃ B, G.all isPm = B := ⟨_, rfl⟩
  rw [hB1] at HC
  go_enter Try.func122, Try.ntmps122
  go_wp2_with fail
  rw [← hW]
  clear hW
  ((with_reducible refine HC.out.mono ?_); rintro e w2 ⟨rfl, hb2⟩)
  have hbw2 := hbW.trans (hb2.mono hbW.size)
  have rl2 := (hb2.cell (p := ⟨w.heap.size, 0, none⟩) hq0).trans rl
  have hG2 := hGW.below hb2
  have hs2 := hb2.size
  clear HC hGW rl
  cases B
  · have HO : Hid (valC G = 1) := Lib.hid (by simp [valC, hB1])
    clear hB1
    go_wp2_with fail
    go_ret
    exact ⟨by rw [HO.out]; rfl, hbw2⟩
  have HP := Lib.hid hB1
  clear hB1
  by_cases h8 : 8 < G.length
  · have HO : Hid (valC G = 2) := Lib.hid (by
      have : ¬ G.length ≤ 8 := by omega
      simp [valC, HP.out, this])
    have h8' : (8 : Int) < (G.length : Int) := by omega
    clear h8
    go_wp2_with fail
    go_ret
    exact ⟨by rw [HO.out]; rfl, hbw2⟩
  have h8' : ¬ (8 : Int) < (G.length : Int) := by omega
  have HL : Hid (valC G = if G.all (likeG (hdP G)) = true then 0 else 2) := Lib.hid (by
    have b : G.length ≤ 8 := by omega
    rw [valC, if_pos HP.out, if_pos b])
  have HC := Lib.hid (show Calls Try.prog 152 #[.slice la G.length lc, .func (.func 190) #[] #[.pointer (some ⟨w.heap.size, 0, none⟩)]] w2 fun e w' => e = .returned (.bool (!G.all (likeG (hdP G)))) ∧ Below w2.heap.size w2 w' from by
    by_cases hn0 : 0 < G.length
    · exact vfcontains w.heap.size (.slice la G.length lc) G (.slice la G.length lc) G w2 ⟨rl2, by omega, hG2, hn0⟩ hlG hok hG2
    · have h0 : G = [] := List.eq_nil_of_length_eq_zero (by omega)
      subst h0
      exact vcontains_none _ w2 la lc)
  obtain ⟨B, hB1⟩ : ∃ B, G.all (likeG (hdP G)) = B := ⟨_, rfl⟩
  rw [hB1] at HC HL
  clear hB1 hG2 hok hc hG
  go_wp2_with fail
  ((with_reducible refine HC.out.mono ?_); rintro e w3 ⟨rfl, hb3⟩)
  have hbw3 := hbw2.trans (hb3.mono hbw2.size)
  clear HC
  cases B
  · have HO : Hid (valC G = 2) := Lib.hid (by rw [HL.out]; rfl)
    go_wp2_with fail
    go_ret
    exact ⟨by rw [HO.out]; rfl, hbw3⟩
  · have HO : Hid (valC G = 0) := Lib.hid (by rw [HL.out]; rfl)
    go_wp2_with fail
    go_ret
    exact ⟨by rw [HO.out]; rfl, hbw3⟩
end Go.Proofs.Ytbahejlgfpilnaa
