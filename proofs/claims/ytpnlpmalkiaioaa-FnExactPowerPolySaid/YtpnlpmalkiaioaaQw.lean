/-
  WALKS: 'spec.PowerPoly', 'impl.PowerPoly'. Conditions: as each theorem states.
-/
import Derived.Test.YtpnlpmalkiaioaaQp
import Derived.Test.YtpnlpmalkiaioaaMx
namespace Go.Proofs.Ytpnlpmalkiaioaa
open Go.RowKit Go.Sort Go.Maps

/-- What 'PowerPoly' gives. -/
def PowO (p d : Int) (ts : List Tm) (k : Int) (o : OutP) : Prop :=
  (isPolyB p d ts = false ∧ o = noP 1) ∨ (isPolyB p d ts = true ∧ (decide (0 ≤ k) && decide (k ≤ 12)) = false ∧ o = noP 2) ∨
    (isPolyB p d ts = true ∧ (decide (0 ≤ k) && decide (k ≤ 12)) = true ∧ 12 < k * max (degI ts) 0 ∧ o = noP 3) ∨
    (isPolyB p d ts = true ∧ (decide (0 ≤ k) && decide (k ≤ 12)) = true ∧ k * max (degI ts) 0 ≤ 12 ∧ ∃ L, PowL p ts k.toNat L ∧ o = ⟨p, d, L, 0⟩)
theorem powO_ex (p d : Int) (ts : List Tm) (k : Int) (hby : ∀ t ∈ ts, tmByte t) : ∃ o, PowO p d ts k o := by
  cases hB : isPolyB p d ts
  · exact ⟨_, .inl ⟨hB, rfl⟩⟩
  · cases hD : (decide (0 ≤ k) && decide (k ≤ 12))
    · exact ⟨_, .inr (.inl ⟨hB, hD, rfl⟩)⟩
    · by_cases hk : k * max (degI ts) 0 ≤ 12
      · have h0 : 0 ≤ k ∧ k ≤ 12 := by simpa using hD
        obtain ⟨L, hL⟩ := pow_ex (valid_of hB hby) hk k.toNat (by omega)
        exact ⟨_, .inr (.inr (.inr ⟨hB, hD, hk, L, hL, rfl⟩))⟩
      · exact ⟨_, .inr (.inr (.inl ⟨hB, hD, by omega, rfl⟩))⟩
theorem powO_len {p d k : Int} {ts : List Tm} {o : OutP} (h : PowO p d ts k o) : o.S.length ≤ 1048576 := by
  rcases h with ⟨_, rfl⟩ | ⟨_, _, rfl⟩ | ⟨_, _, _, rfl⟩ | ⟨_, _, _, L, hL, rfl⟩
  · simp [noP]
  · simp [noP]
  · simp [noP]
  · obtain ⟨f, hf⟩ := hL.isP
    exact Nat.le_trans hf.len (by omega)
theorem deg_k {p d k : Int} {ts : List Tm} (hV : Valid p d ts) (h0 : 0 ≤ k) : 12 < degI ts * k ↔ 12 < k * max (degI ts) 0 := by
  obtain ⟨q1, q2⟩ := deg_bound hV
  by_cases hq : degI ts = -1
  · have h1 : max (degI ts) 0 = 0 := by rw [hq]; rfl
    rw [h1, hq, Int.mul_zero]
    omega
  · have h1 : max (degI ts) 0 = degI ts := Int.max_eq_left (by omega)
    rw [h1, Int.mul_comm]
theorem const_one {p : Int} (hp : 2 ≤ p) : IsP p (constL 1) (fun e => if e = (0, 0, 0) then 1 else 0) := by
  refine ⟨List.pairwise_singleton _ _, fun t ht => ?_, fun e _ => ?_⟩
  · simp [constL] at ht
    subst ht
    refine ⟨⟨by unfold byte3; simp [tmE, mkT], by simp [tmE, mkT]⟩, by simp [mkT], ?_⟩
    simp [mkT]
    omega
  · simp only [constL, mkT]
    rw [if_neg (by decide), atL, atL]
    by_cases hx : e = (0, 0, 0)
    · rw [if_pos hx, if_pos (by rw [hx]; rfl)]
    · rw [if_neg hx, if_neg (fun h => hx (by rw [← h]; rfl))]

set_option maxRecDepth 8000 in
set_option maxHeartbeats 4000000 in
theorem specPow (p d k : Int) (v : Value) (ts : List Tm) (w : World) (hl : ts.length ≤ 1048576) (hS : SliceT w v ts) (hby : ∀ t ∈ ts, tmByte t) (o : OutP) (ho : PowO p d ts k o) :
    Calls Try.prog 23 #[.agg #[.int .i64 p, .int .i64 d, v], .int .i64 k] w (ResO w o) := by
  obtain ⟨a, cap, rfl, _⟩ := id hS
  obtain ⟨W, hW, hbW, ⟨hWs1, hWs2⟩, rx, rr⟩ := boxes2 w p d (.slice a ts.length cap)
  have hSW := hS.below hbW
  obtain ⟨⟨c0, c1, c2⟩, _⟩ := poly3 rx
  go_enter Try.func23, Try.ntmps23
  go_wp2_with fail
  rw [← hW]
  clear hW
  ((with_reducible refine (specIs_any p d _ ts W hl hSW hby).mono ?_); rintro e w1 ⟨rfl, hb1⟩)
  clear c0 c1 c2
  have rx1 := rowIs_below rx hb1 rx.lt
  have rr1 := rowIs_below rr hb1 rr.lt
  have hbw1 := hbW.trans (hb1.mono hbW.size)
  have hS1 := hSW.below hb1
  have s1 := hb1.size
  obtain ⟨⟨c0, c1, c2⟩, _⟩ := poly3 rx1
  obtain ⟨⟨r0, r1, r2⟩, z0, z1, z2⟩ := poly3 rr1
  obtain ⟨a0, a1, a2, a3, a4⟩ := fill_box (base := w.heap.size) rr1 (ownP_nil w1 w.heap.size) (Nat.le_refl _) hbw1 (by omega) 0 0
  have A0 := Lib.hid a0
  have A1 := Lib.hid a1
  have A2 := Lib.hid a2
  have A3 := Lib.hid a3
  have A4 := Lib.hid a4
  clear a0 a1 a2 a3 a4 rx rr
  rcases ho with ⟨hB, rfl⟩ | ⟨hB, hD, rfl⟩ | ⟨hB, hD, hk, rfl⟩ | ⟨hB, hD, hk, L, hL, rfl⟩
  · rw [hB]
    clear hB
    go_wp2_with fail
    exact bodyPost_ret (v := .tuple #[.agg #[.int .i64 0, .int .i64 0, .slice none 0 0], .int .i64 1]) (by simp [results, Try.results23, go_sem, A0.out, A1.out, A2.out]) rfl ⟨_, rfl, A3.out, A4.out⟩
  · rw [hB]
    have hD' := Lib.hid hD
    clear hB hD
    go_wp2_with fail
    ((with_reducible refine (sin_is k 0 12 w1 _ hD'.out).mono ?_); rintro e w2 ⟨rfl, rfl⟩)
    go_wp2_with fail
    exact bodyPost_ret (v := .tuple #[.agg #[.int .i64 0, .int .i64 0, .slice none 0 0], .int .i64 2]) (by simp [results, Try.results23, go_sem, A0.out, A1.out, A2.out]) rfl ⟨_, rfl, A3.out, A4.out⟩
  · have hv := valid_of hB hby
    have hk0 : 0 ≤ k ∧ k ≤ 12 := by simpa using hD
    rw [hB]
    have hD' := Lib.hid hD
    clear hB hD A0 A1 A2 A3 A4
    go_wp2_with fail
    ((with_reducible refine (sin_is k 0 12 w1 _ hD'.out).mono ?_); rintro e w2 ⟨rfl, rfl⟩)
    go_wp2_with fail
    ((with_reducible refine (specPowB p d k _ ts w1 hS1 hv hk0.1 hk0.2 hk).mono ?_); rintro e w2 ⟨v2, L2, rfl, ho2, hb2⟩)
    obtain ⟨sa2, sc2, rfl⟩ := owns_slice ho2
    have rr2 := rowIs_below rr1 hb2 rr1.lt
    obtain ⟨V, hV, hbV, _, _⟩ := newbox w2 p d (.slice sa2 L2.length sc2)
    have rrV := rowIs_below rr2 hbV rr2.lt
    have hbw2 := hbw1.trans (hb2.mono hbw1.size)
    obtain ⟨a0, a1, a2, a3, a4⟩ := fill_box (base := w.heap.size) rrV (ownP_nil V w.heap.size) (Nat.le_refl _) (hbw2.trans (hbV.mono hbw2.size)) (by omega) 0 0
    have A0 := Lib.hid a0
    have A1 := Lib.hid a1
    have A2 := Lib.hid a2
    have A3 := Lib.hid a3
    have A4 := Lib.hid a4
    have ro : ∀ o, ((w2.alloc o).cell? ⟨w.heap.size + 1, 0, none⟩ = some (.int .i64 0) ∧ (w2.alloc o).cell? ⟨w.heap.size + 1, 1, none⟩ = some (.int .i64 0) ∧ (w2.alloc o).cell? ⟨w.heap.size + 1, 2, none⟩ = some (.slice none 0 0)) ∧ (w2.alloc o).frozen? ⟨w.heap.size + 1, 0, none⟩ = false ∧ (w2.alloc o).frozen? ⟨w.heap.size + 1, 1, none⟩ = false ∧ (w2.alloc o).frozen? ⟨w.heap.size + 1, 2, none⟩ = false := fun o => poly3 (rowIs_below rr2 (box1 _ o) rr2.lt)
    clear a0 a1 a2 a3 a4 rr2 rrV ho2 c0 c1 c2 r0 r1 r2 z0 z1 z2 hk hk0
    go_wp2_with fail
    rw [← hV]
    exact bodyPost_ret (v := .tuple #[.agg #[.int .i64 0, .int .i64 0, .slice none 0 0], .int .i64 3]) (by simp [results, Try.results23, go_sem, A0.out, A1.out, A2.out]) rfl ⟨_, rfl, A3.out, A4.out⟩
  · have hv := valid_of hB hby
    have hk0 : 0 ≤ k ∧ k ≤ 12 := by simpa using hD
    rw [hB]
    have hD' := Lib.hid hD
    clear hB hD A0 A1 A2 A3 A4
    go_wp2_with fail
    ((with_reducible refine (sin_is k 0 12 w1 _ hD'.out).mono ?_); rintro e w2 ⟨rfl, rfl⟩)
    go_wp2_with fail
    ((with_reducible refine (specPowL p d k _ ts w1 hS1 hv hk0.1 hk0.2 hk).mono ?_); rintro e w2 ⟨v2, L2, rfl, ho2, hL2, hb2⟩)
    obtain rfl : L2 = L := hL2.unique hL
    obtain ⟨sa2, sc2, rfl⟩ := owns_slice ho2
    have rr2 := rowIs_below rr1 hb2 rr1.lt
    obtain ⟨V, hV, hbV, _, _⟩ := newbox w2 p d (.slice sa2 L2.length sc2)
    have rrV := rowIs_below rr2 hbV rr2.lt
    have hbw2 := hbw1.trans (hb2.mono hbw1.size)
    obtain ⟨a0, a1, a2, a3, a4⟩ := fill_box rrV (owns_belowT ho2 hbV) hbw1.size (hbw2.trans (hbV.mono hbw2.size)) (by omega) p d
    have A0 := Lib.hid a0
    have A1 := Lib.hid a1
    have A2 := Lib.hid a2
    have A3 := Lib.hid a3
    have A4 := Lib.hid a4
    have ro : ∀ o, ((w2.alloc o).cell? ⟨w.heap.size + 1, 0, none⟩ = some (.int .i64 0) ∧ (w2.alloc o).cell? ⟨w.heap.size + 1, 1, none⟩ = some (.int .i64 0) ∧ (w2.alloc o).cell? ⟨w.heap.size + 1, 2, none⟩ = some (.slice none 0 0)) ∧ (w2.alloc o).frozen? ⟨w.heap.size + 1, 0, none⟩ = false ∧ (w2.alloc o).frozen? ⟨w.heap.size + 1, 1, none⟩ = false ∧ (w2.alloc o).frozen? ⟨w.heap.size + 1, 2, none⟩ = false := fun o => poly3 (rowIs_below rr2 (box1 _ o) rr2.lt)
    clear a0 a1 a2 a3 a4 rr2 rrV ho2 c0 c1 c2 r0 r1 r2 z0 z1 z2 hk hk0
    go_wp2_with fail
    rw [← hV]
    exact bodyPost_ret (v := .tuple #[.agg #[.int .i64 p, .int .i64 d, .slice sa2 L2.length sc2], .int .i64 0]) (by simp [results, Try.results23, go_sem, A0.out, A1.out, A2.out]) rfl ⟨_, rfl, A3.out, A4.out⟩

set_option maxRecDepth 8000 in
set_option maxHeartbeats 4000000 in
theorem implPow (p d k : Int) (v : Value) (ts : List Tm) (w : World) (hl : ts.length ≤ 1048576) (hS : SliceT w v ts) (hby : ∀ t ∈ ts, tmByte t) (o : OutP) (ho : PowO p d ts k o) :
    Calls Try.prog 24 #[.agg #[.int .i64 p, .int .i64 d, v], .int .i64 k] w (ResO w o) := by
  obtain ⟨a, cap, rfl, _⟩ := id hS
  obtain ⟨W, hW, hbW, ⟨hWs1, hWs2⟩, rx, rr⟩ := boxes2 w p d (.slice a ts.length cap)
  have hSW := hS.below hbW
  obtain ⟨⟨c0, c1, c2⟩, _⟩ := poly3 rx
  go_enter Try.func24, Try.ntmps24
  go_wp2_with fail
  rw [← hW]
  clear hW
  ((with_reducible refine (isPoly_any p d _ ts W hl hSW hby).mono ?_); rintro e w1 ⟨rfl, hb1⟩)
  clear c0 c1 c2
  have rx1 := rowIs_below rx hb1 rx.lt
  have rr1 := rowIs_below rr hb1 rr.lt
  have hbw1 := hbW.trans (hb1.mono hbW.size)
  have hS1 := hSW.below hb1
  have s1 := hb1.size
  obtain ⟨⟨c0, c1, c2⟩, _⟩ := poly3 rx1
  obtain ⟨⟨r0, r1, r2⟩, z0, z1, z2⟩ := poly3 rr1
  obtain ⟨a0, a1, a2, a3, a4⟩ := fill_box (base := w.heap.size) rr1 (ownP_nil w1 w.heap.size) (Nat.le_refl _) hbw1 (by omega) 0 0
  have A0 := Lib.hid a0
  have A1 := Lib.hid a1
  have A2 := Lib.hid a2
  have A3 := Lib.hid a3
  have A4 := Lib.hid a4
  clear a0 a1 a2 a3 a4 rx rr
  rcases ho with ⟨hB, rfl⟩ | ⟨hB, hD, rfl⟩ | ⟨hB, hD, hk, rfl⟩ | ⟨hB, hD, hk, L, hL, rfl⟩
  · rw [hB]
    clear hB
    go_wp2_with fail
    exact bodyPost_ret (v := .tuple #[.agg #[.int .i64 0, .int .i64 0, .slice none 0 0], .int .i64 1]) (by simp [results, Try.results24, go_sem, A0.out, A1.out, A2.out]) rfl ⟨_, rfl, A3.out, A4.out⟩
  · rw [hB]
    have hD' := Lib.hid hD
    clear hB hD
    go_wp2_with fail
    ((with_reducible refine (isDeg_is k w1 _ hD'.out).mono ?_); rintro e w2 ⟨rfl, rfl⟩)
    go_wp2_with fail
    exact bodyPost_ret (v := .tuple #[.agg #[.int .i64 0, .int .i64 0, .slice none 0 0], .int .i64 2]) (by simp [results, Try.results24, go_sem, A0.out, A1.out, A2.out]) rfl ⟨_, rfl, A3.out, A4.out⟩
  · have hv := valid_of hB hby
    have hk0 : 0 ≤ k ∧ k ≤ 12 := by simpa using hD
    have hw : wrap64 (degI ts * k) = degI ts * k := IntWalk.wrap64_in _ (by
      obtain ⟨q1, q2⟩ := deg_bound hv
      by_cases hq : degI ts = -1
      · rw [hq]; omega
      · have h1 : 0 ≤ degI ts * k := Int.mul_nonneg (by omega) hk0.1
        have h2 : degI ts * k ≤ 12 * 12 := Int.mul_le_mul q2 hk0.2 hk0.1 (by omega)
        omega)
    have hn : decide (12 < degI ts * k) = true := by simpa using (deg_k hv hk0.1).2 hk
    have hbx := hv.byte
    have hs12 : ∀ t ∈ ts, sumT t ≤ 12 := fun t ht => (hv.mem t ht).1.2
    rw [hB]
    have hD' := Lib.hid hD
    clear hB hD A0 A1 A2 A3 A4
    go_wp2_with fail
    ((with_reducible refine (isDeg_is k w1 _ hD'.out).mono ?_); rintro e w2 ⟨rfl, rfl⟩)
    go_wp2_with fail
    ((with_reducible refine (degree_any2 p d _ ts w1 hl hS1 hbx hs12).mono ?_); rintro e w2 ⟨rfl, hb2⟩)
    have rr2 := rowIs_below rr1 hb2 rr1.lt
    have hbw2 := hbw1.trans (hb2.mono hbw1.size)
    obtain ⟨a0, a1, a2, a3, a4⟩ := fill_box (base := w.heap.size) rr2 (ownP_nil w2 w.heap.size) (Nat.le_refl _) hbw2 (by omega) 0 0
    have A0 := Lib.hid a0
    have A1 := Lib.hid a1
    have A2 := Lib.hid a2
    have A3 := Lib.hid a3
    have A4 := Lib.hid a4
    clear a0 a1 a2 a3 a4 c0 c1 c2 r0 r1 r2 z0 z1 z2 hk hk0 hbx hs12 hv
    obtain ⟨⟨r0, r1, r2⟩, z0, z1, z2⟩ := poly3 rr2
    go_wp2_with fail
    exact bodyPost_ret (v := .tuple #[.agg #[.int .i64 0, .int .i64 0, .slice none 0 0], .int .i64 3]) (by simp [results, Try.results24, go_sem, A0.out, A1.out, A2.out]) rfl ⟨_, rfl, A3.out, A4.out⟩
  · have hv := valid_of hB hby
    have hp2 := hv.p2
    have hp13 := hv.p13
    have hk0 : 0 ≤ k ∧ k ≤ 12 := by simpa using hD
    obtain ⟨hk00, hk12⟩ := hk0
    have hw : wrap64 (degI ts * k) = degI ts * k := IntWalk.wrap64_in _ (by
      obtain ⟨q1, q2⟩ := deg_bound hv
      by_cases hq : degI ts = -1
      · rw [hq]; omega
      · have h1 : 0 ≤ degI ts * k := Int.mul_nonneg (by omega) hk00
        have h2 : degI ts * k ≤ 12 * 12 := Int.mul_le_mul q2 hk12 hk00 (by omega)
        omega)
    have hn : decide (12 < degI ts * k) = false := by
      have := fun h => (deg_k hv hk00).1 h
      simp
      omega
    have hbx := hv.byte
    have hs12 : ∀ t ∈ ts, sumT t ≤ 12 := fun t ht => (hv.mem t ht).1.2
    rw [hB]
    have hD' := Lib.hid hD
    clear hB hD A0 A1 A2 A3 A4
    go_wp2_with fail
    ((with_reducible refine (isDeg_is k w1 _ hD'.out).mono ?_); rintro e w2 ⟨rfl, rfl⟩)
    go_wp2_with fail
    ((with_reducible refine (degree_any2 p d _ ts w1 hl hS1 hbx hs12).mono ?_); rintro e w2 ⟨rfl, hb2⟩)
    have rx2 := rowIs_below rx1 hb2 rx1.lt
    have rr2 := rowIs_below rr1 hb2 rr1.lt
    have hbw2 := hbw1.trans (hb2.mono hbw1.size)
    have hS2 := hS1.below hb2
    have s2 := hb2.size
    clear c0 c1 c2 r0 r1 r2 z0 z1 z2
    obtain ⟨⟨c0, c1, c2⟩, _⟩ := poly3 rx2
    go_wp2_with fail
    ((with_reducible refine (constant_any p d 1 w2 (by omega) (by omega)).mono ?_); rintro e w3 ⟨v3, rfl, ho3, hb3⟩)
    have h1p : PowL p ts 0 (constL 1) := const_one hp2
    generalize constL 1 = O1 at h1p ho3
    obtain ⟨sa3, sc3, rfl⟩ := owns_slice ho3
    have s3 := hb3.size
    obtain ⟨V, hV1, hbV, ⟨hVs1, hVs2⟩, rq⟩ := newbox w3 p d (.slice sa3 O1.length sc3)
    have hb23 := hb3.trans (hbV.mono hb3.size)
    have hst : Part w V w2.heap.size w3.heap.size w.heap.size (w.heap.size + 1) p d (.slice a ts.length cap) (.slice sa3 O1.length sc3) O1 :=
      ⟨owns_belowT ho3 hbV, rq, rowIs_below rx2 hb23 rx2.lt, rowIs_below rr2 hb23 rr2.lt, hbw2.trans (hb23.mono hbw2.size), by omega, by omega, by omega, by omega, by omega, by omega⟩
    have HX := Lib.hid hv
    have HK := Lib.hid hk
    have HP1 := Lib.hid h1p
    clear hn hw hk hv h1p hbx hs12 rx2 rr2 rq ho3 c0 c1 c2
    go_wp2_with fail
    rw [← hV1]
    clear hV1
    go_loopw [27] (fun kv wr => ∃ (j : Nat) (sv : Value) (O : List Tm), (j : Int) ≤ k ∧ kv = .int .i64 j ∧ Hid (PowL p ts j O) ∧ Part w wr w2.heap.size w3.heap.size w.heap.size (w.heap.size + 1) p d (.slice a ts.length cap) sv O) (fun kv _ => (k - intOf kv).toNat)
    case atStart => exact ⟨0, _, O1, by omega, by simp, HP1, hst⟩
    case round =>
      clear hst HP1
      obtain ⟨j, sv, O, hj, rfl, HO, hB⟩ := hrel
      obtain ⟨sa, sc, rfl⟩ := owns_slice hB.rows
      obtain ⟨⟨x0, x1, x2⟩, _⟩ := poly3 hB.arg
      obtain ⟨⟨q0, q1, q2⟩, z0, z1, z2⟩ := poly3 hB.out
      by_cases hlt : (j : Int) < k
      · obtain ⟨f, hf⟩ := HO.out.isP
        have hVO := HX.out.of_isP hf
        have hd := HO.out.fits HX.out (k := k) (by omega) HK.out
        have HF := Lib.hid hVO
        have HD := Lib.hid (fits_of hVO HX.out hd)
        clear hf hVO hd z0 z1 z2
        go_wp2_with fail
        ((with_reducible refine (product_any p d _ _ O ts wr (OwnP.slice hB.rows) (hS.below hB.below) HF.out HX.out HD.out).mono ?_); rintro e w4 ⟨v2, L2, rfl, ho2, hL2, hb2⟩)
        have HP2 : Hid (PowL p ts (j + 1) L2) := Lib.hid ⟨O, HO.out, hL2⟩
        obtain ⟨sa2, sc2, rfl⟩ := owns_slice ho2
        have hU2 := hB.later hb2
        have hB3 := hB.put hb2 ho2 hB.b2
        obtain ⟨⟨j0, j1, j2⟩, jz0, jz1, jz2⟩ := poly3 hU2.out
        clear ho2 hB HO hL2 q0 q1 q2 x0 x1 x2 HF HD
        go_wp2_with fail
        go_roundw
        case rel => exact ⟨j + 1, _, _, by omega, by go_num, HP2, hB3⟩
        case measure => simp [intOf]; omega
      · have hkj : k.toNat = j := by omega
        obtain rfl : O = L := HO.out.unique (by rw [← hkj]; exact hL)
        obtain ⟨⟨r0, r1, r2⟩, y0, y1, y2⟩ := poly3 hB.res
        obtain ⟨a0, a1, a2, a3, a4⟩ := hB.finish p d
        have A0 := Lib.hid a0
        have A1 := Lib.hid a1
        have A2 := Lib.hid a2
        have A3 := Lib.hid a3
        have A4 := Lib.hid a4
        clear a0 a1 a2 a3 a4 hB hkj
        go_wp2_with fail
        exact bodyPost_ret (v := .tuple #[.agg #[.int .i64 p, .int .i64 d, .slice sa O.length sc], .int .i64 0]) (by simp [results, Try.results24, go_sem, A0.out, A1.out, A2.out]) rfl ⟨_, rfl, A3.out, A4.out⟩
end Go.Proofs.Ytpnlpmalkiaioaa
