/-
  WALKS: 'impl.ValueAt' where all is fit. Conditions: as each theorem states.
-/
import Derived.Test.YtkmfgljfalgeaaaVd
namespace Go.Proofs.Ytkmfgljfalgeaaa
open Go.RowKit Go.Sort

theorem pow_int (p x E : Int) (w : World) (h2 : 2 ≤ p) (h13 : p ≤ 13) (hx : 0 ≤ x ∧ x < p) (h0 : 0 ≤ E) (h1 : E ≤ 255) :
    Calls Try.prog 49 #[.int .i64 p, .int .i64 x, .int .i64 E] w fun e w' => e = .returned (.int .i64 (powI p x E.toNat)) ∧ w = w' := by
  obtain ⟨n, rfl⟩ := Int.eq_ofNat_of_zero_le h0
  rw [Int.toNat_natCast]
  exact pow_any p x n w h2 h13 hx (by omega)

theorem chain_vals {p d : Int} : ∀ (ts : List Tm) (o : Option Tm), chain p d o ts = true → ∀ t ∈ ts, 0 ≤ t.2.2.2 ∧ t.2.2.2 < p
  | [], _, _, t, ht => by simp at ht
  | a :: r, o, h, t, ht => by
    simp only [chain, Bool.and_eq_true] at h
    rcases List.mem_cons.1 ht with rfl | ht
    · have h1 := h.1
      simp only [termOk, Bool.and_eq_true, decide_eq_true_eq] at h1
      omega
    · exact chain_vals r _ h.2.2 t ht
theorem polyB_vals {p d : Int} {ts : List Tm} (h : isPolyB p d ts = true) : (2 ≤ p ∧ p ≤ 13) ∧ ∀ t ∈ ts, 0 ≤ t.2.2.2 ∧ t.2.2.2 < p := by
  simp only [isPolyB, Bool.and_eq_true] at h
  refine ⟨prime_le h.1, ?_⟩
  have := h.2.2
  unfold tailB at this
  exact chain_vals _ _ (by simpa using this)
theorem ptB_parts {p d : Int} {l : List Int} (h : ptB p d l = true) : (l.length : Int) = d ∧ ∀ (k : Nat) (hk : k < l.length), 0 ≤ l[k] ∧ l[k] < p := by
  simp only [ptB, Bool.and_eq_true, decide_eq_true_eq] at h
  refine ⟨h.1, fun k hk => ?_⟩
  have := List.all_eq_true.1 h.2 _ (List.getElem_mem hk)
  simpa [numB] using this
theorem add_mod (p A T : Int) : (A % p + T) % p = (A + T) % p := by
  rw [Int.add_emod, Int.emod_emod_of_dvd _ (Int.dvd_refl p), ← Int.add_emod]

set_option maxHeartbeats 4000000 in
theorem implVa_ok (p d : Int) (b off cap g o cap' : Nat) (ts : List Tm) (l : List Int) (w : World) (hl : ts.length ≤ 1048576) (hS : SliceT w (.slice (some ⟨b, off, none⟩) ts.length cap) ts) (hblt : b < w.heap.size) (hT : Terms w b off ts) (hby : ∀ t ∈ ts, tmByte t)
    (hm : l.length ≤ 1048576) (hg : g < w.heap.size) (hC : CellsI w g o l) (HB : Hid (isPolyB p d ts = true)) (HE : Hid (ptB p d l = true)) :
    Calls Try.prog 23 #[.agg #[.int .i64 p, .int .i64 d, .slice (some ⟨b, off, none⟩) ts.length cap], .slice (some ⟨g, o, none⟩) l.length cap'] w fun e w' => e = .returned (.tuple #[.int .i64 (sumV p l ts ts.length % p), .int .i64 0]) ∧ Below w.heap.size w w' := by
  have h1 : ∀ o, SliceT (w.alloc o) (.slice (some ⟨b, off, none⟩) ts.length cap) ts := fun o => hS.below (box1 _ _)
  obtain ⟨hd1, hd3⟩ := polyB_vars HB.out
  obtain ⟨⟨h2, h13⟩, hv⟩ := polyB_vals HB.out
  obtain ⟨hlen, hx⟩ := ptB_parts HE.out
  have hl3 : l.length ≤ 3 := by omega
  have HX := Lib.hid hx
  have HV := Lib.hid hv
  have HBY := Lib.hid hby
  have hp0 : (p == 0) = false := by simp; omega
  clear hx hv hlen
  go_enter Try.func23, Try.ntmps23
  go_wp2_with fail
  ((with_reducible refine (isPoly_any p d _ ts _ hl (h1 _) hby).mono ?_); rintro e w1 ⟨rfl, hb⟩)
  rw [HB.out]
  obtain ⟨hc, hf⟩ := old_cells hb
  have hz : w.heap.size < w1.heap.size := by have := hb.size; simp at this; omega
  have hb0 := (box1 _ _).trans (hb.mono (by simp))
  have q0 := (hc w.heap.size 0 (by simp)).trans (by go_simp : _ = some (.int .i64 p))
  have q1 := (hc w.heap.size 1 (by simp)).trans (by go_simp : _ = some (.int .i64 d))
  have q2 := (hc w.heap.size 2 (by simp)).trans (by go_simp : _ = some (.slice (some ⟨b, off, none⟩) ts.length cap))
  have hT1 := hT.below hb0 hblt
  have hC1 := hC.below hb0 hg
  have hb1 := Nat.lt_trans hblt hz
  have hg1 := Nat.lt_trans hg hz
  have hSU1 : SliceI w1 (.slice (some ⟨g, o, none⟩) l.length cap') l := ⟨_, cap', rfl, .inr ⟨g, o, rfl, hg1, hC1⟩⟩
  clear hc hf hb h1 hby
  go_wp2_with fail
  ((with_reducible refine (areNumbers_any p d _ l w1 hd1 hm hSU1).mono ?_); rintro e W ⟨rfl, hb2⟩)
  rw [HE.out]
  have r0 := (hb2.cell (p := ⟨w.heap.size, 0, none⟩) hz).trans q0
  have r2 := (hb2.cell (p := ⟨w.heap.size, 2, none⟩) hz).trans q2
  have hzW : w.heap.size < W.heap.size := Nat.lt_of_lt_of_le hz hb2.size
  have hTW := hT1.below hb2 hb1
  have hCW := hC1.below hb2 hg1
  have hbW' := Nat.lt_of_lt_of_le hb1 hb2.size
  have hgW := Nat.lt_of_lt_of_le hg1 hb2.size
  have hb0W := hb0.trans (hb2.mono (Nat.le_of_lt hz))
  clear q0 q1 q2 hT1 hC1 hb2 hb0 hSU1
  go_wp2
  go_loopw [6, 25] (fun s i wr => ∃ (k : Nat) (S : Int), k ≤ ts.length ∧ i = .int .i64 k ∧ s = .int .i64 S ∧ Hid (S = sumV p l ts k % p) ∧ 0 ≤ S ∧ S < p ∧ Below W.heap.size W wr) (fun _ i _ => ts.length - (intOf i).toNat)
  case atStart => exact ⟨0, 0, by omega, rfl, rfl, Lib.hid (by simp [sumV]), by omega, by omega, Below.refl _ _⟩
  case round =>
    obtain ⟨i, S, hi, rfl, rfl, HS, s0, s1, hbel⟩ := hrel
    have z0 := (hbel.cell (p := ⟨w.heap.size, 0, none⟩) hzW).trans r0
    by_cases hlt : i < ts.length
    · have hlt' : (i : Int) < (ts.length : Int) := by omega
      have hTr := hTW.below hbel hbW'
      obtain ⟨c0, c1, c2, c3⟩ := hTr i hlt
      have hbyt := HBY.out _ (List.getElem_mem hlt)
      have hval := HV.out _ (List.getElem_mem hlt)
      have HSTEP := Lib.hid (sumV_step p l ts i hlt)
      have hzr : w.heap.size < wr.heap.size := Nat.lt_of_lt_of_le hzW hbel.size
      have hgr : g < wr.heap.size := Nat.lt_of_lt_of_le hgW hbel.size
      have hCr := hCW.below hbel hgW
      generalize ts[i] = t at *
      have HTV := Lib.hid (fun k => tvTo_small (l := l) h2 hval k)
      obtain ⟨V, hV, hbV, hVs, t0, t1, t2, t3⟩ : ∃ V, V = wr.alloc (.cells #[.int .u8 t.1, .int .u8 t.2.1, .int .u8 t.2.2.1, .int .i64 t.2.2.2] 54) ∧ Below wr.heap.size wr V ∧ wr.heap.size < V.heap.size ∧
          V.cell? ⟨wr.heap.size, 0, none⟩ = some (.int .u8 t.1) ∧ V.cell? ⟨wr.heap.size, 1, none⟩ = some (.int .u8 t.2.1) ∧ V.cell? ⟨wr.heap.size, 2, none⟩ = some (.int .u8 t.2.2.1) ∧ V.cell? ⟨wr.heap.size, 3, none⟩ = some (.int .i64 t.2.2.2) :=
        ⟨_, rfl, box1 _ _, by simp, by go_simp, by go_simp, by go_simp, by go_simp⟩
      have HEXP : Hid (∀ k, k < 3 → V.cell? ⟨wr.heap.size, k, none⟩ = some (.int .u8 (expK t k))) := Lib.hid (fun k hk => by
        match k, hk with
        | 0, _ => simpa [expK] using t0
        | 1, _ => simpa [expK] using t1
        | 2, _ => simpa [expK] using t2)
      have hCV := hCr.below hbV hgr
      have y0 := (hbV.cell (p := ⟨w.heap.size, 0, none⟩) hzr).trans z0
      have hgV := Nat.lt_trans hgr hVs
      have hzV := Nat.lt_trans hzr hVs
      have hbelV := hbel.trans (hbV.mono hbel.size)
      clear hval t0 t1 t2
      go_wp2
      rw [← hV]
      clear hV
      obtain ⟨wo, rfl⟩ : ∃ wo : World, wo = wr := ⟨_, rfl⟩
      go_loopw [9, 33] (fun s i wq => ∃ (k : Nat) (T : Int), k ≤ l.length ∧ i = .int .i64 k ∧ s = .int .i64 T ∧ Hid (T = tvTo p t l k) ∧ Below V.heap.size V wq) (fun _ i _ => l.length - (intOf i).toNat)
      case atStart => exact ⟨0, _, by omega, rfl, rfl, Lib.hid rfl, Below.refl _ _⟩
      case round =>
        obtain ⟨k, T, hk, rfl, rfl, HT, hbq⟩ := hrel
        by_cases hlk : k < l.length
        · have hlk' : (k : Int) < (l.length : Int) := by omega
          have ce := cell_regrown ((hbq.cell (p := ⟨wo.heap.size, k, none⟩) hVs).trans (HEXP.out k (by omega)))
          have cp := (hbq.cell (p := ⟨g, o + k, none⟩) hgV).trans (hCV k hlk)
          have cy := cell_regrown ((hbq.cell (p := ⟨w.heap.size, 0, none⟩) hzV).trans y0)
          obtain ⟨e0, e1⟩ := expK_byte hbyt k
          have hxk := HX.out k hlk
          have HG : Hid (l.getD k 0 = l[k]) := Lib.hid (by simp [List.getD, hlk])
          have hT0 := HTV.out k
          rw [← HT.out] at hT0
          generalize l[k] = x at *
          generalize hE : expK t k = E at *
          have HEq := Lib.hid hE
          clear hE
          have hP := powI_small (x := x) h2 E.toNat
          obtain ⟨u1, u2, u3⟩ := prod_walk h2 h13 hT0 hP
          have HI : Hid (tvTo p t l (k + 1) = T * powI p x E.toNat % p) := Lib.hid (by
            show itI p (l.getD k 0) (tvTo p t l k) (expK t k).toNat = _
            rw [HG.out, HEq.out, ← HT.out, itI_pow hT0])
          have cP : ∀ dd os, Calls Try.prog 49 #[.int .i64 p, .int .i64 x, .int .i64 E] (grow (redrawn wr dd) os) fun e w'' => e = .returned (.int .i64 (powI p x E.toNat)) ∧ ∃ q : Regrown, w'' = grow (redrawn wr q.d) q.os :=
            fun dd os => regrown_same (pow_int p x E _ h2 h13 hxk e0 e1)
          generalize powI p x E.toNat = P at *
          go_wp2
          refine wp_region_quiet_below (by kernel_rfl) (by kernel_rfl) ?_
          repeat (go_big_quiet_step (with_reducible exact cP _ _))
          refine wpQuiet_nil ?_
          intro _ hw'
          obtain ⟨⟨dq, osq⟩, hw''⟩ := hw'
          subst hw''
          go_wp2
          go_roundw
          case rel => exact ⟨k + 1, T * P % p, by omega, by go_num, rfl, Lib.hid HI.out.symm, hbq.trans ((below_regrown wr dq osq).mono hbq.size)⟩
          case measure => simp [intOf]; omega
        · obtain rfl : k = l.length := by omega
          have hT1 := HTV.out l.length
          rw [← HT.out] at hT1
          obtain ⟨u0, u1⟩ := hT1
          have y1 := (hbq.cell (p := ⟨w.heap.size, 0, none⟩) hzV).trans y0
          obtain ⟨g0, g1⟩ := mod_small (p := p) (a := S + T) h2
          have HQ : Hid ((S + T) % p = sumV p l ts (i + 1) % p) := Lib.hid (by rw [HSTEP.out, HS.out, add_mod, HT.out]; rfl)
          go_wp2
          go_roundw
          case rel => exact ⟨i + 1, (S + T) % p, by omega, by go_num, rfl, HQ, g0, g1, hbelV.trans (hbq.mono hbelV.size)⟩
          case measure => simp [intOf]; omega
    · obtain rfl : i = ts.length := by omega
      go_wp2
      go_ret2
      exact ⟨by rw [← HS.out]; rfl, hb0W.trans (hbel.mono hb0W.size)⟩

end Go.Proofs.Ytkmfgljfalgeaaa
