/-
  WALKS: 'spec.l01Derive'. Conditions: as each theorem states.
-/
import Derived.Test.YtpnlpmalkiaioaaIsp
import Derived.IntWalk
namespace Go.Proofs.Ytpnlpmalkiaioaa
open Go.RowKit Go.Sort

def eAt (i : Int) (e : Int × Int × Int) : Int := if i = 0 then e.1 else if i = 1 then e.2.1 else e.2.2
def incE (i : Int) (e : Int × Int × Int) : Int × Int × Int := if i = 0 then (e.1 + 1, e.2.1, e.2.2) else if i = 1 then (e.1, e.2.1 + 1, e.2.2) else (e.1, e.2.1, e.2.2 + 1)
def decE (i : Int) (e : Int × Int × Int) : Int × Int × Int := if i = 0 then (e.1 - 1, e.2.1, e.2.2) else if i = 1 then (e.1, e.2.1 - 1, e.2.2) else (e.1, e.2.1, e.2.2 - 1)
/-- The coefficients of the derivative in the letter i. -/
def der (p i : Int) (l : List Tm) (e : Int × Int × Int) : Int := (eAt i e + 1) * atL l (incE i e) % p
theorem incE_decE (i : Int) (e : Int × Int × Int) : incE i (decE i e) = e := by
  unfold incE decE
  by_cases h0 : i = 0
  · simp [h0]
  · by_cases h1 : i = 1
    · simp [h1]
    · simp [h0, h1]
theorem decE_incE (i : Int) (e : Int × Int × Int) : decE i (incE i e) = e := by
  unfold incE decE
  by_cases h0 : i = 0
  · simp [h0]
  · by_cases h1 : i = 1
    · simp [h1]
    · simp [h0, h1]
theorem eAt_incE (i : Int) (e : Int × Int × Int) : eAt i (incE i e) = eAt i e + 1 := by
  unfold incE eAt
  by_cases h0 : i = 0
  · simp [h0]
  · by_cases h1 : i = 1
    · simp [h1]
    · simp [h0, h1]
theorem eAt_nonneg (i : Int) {e : Int × Int × Int} (h : byte3 e) : 0 ≤ eAt i e ∧ eAt i e ≤ 255 := by
  obtain ⟨⟨a, b⟩, ⟨c, d⟩, f, g⟩ := h
  unfold eAt
  split
  · exact ⟨a, b⟩
  · split
    · exact ⟨c, d⟩
    · exact ⟨f, g⟩
theorem decE_mono (i : Int) {e : Int × Int × Int} (h : mono12 e) (h1 : 1 ≤ eAt i e) : mono12 (decE i e) := by
  obtain ⟨⟨⟨a, b⟩, ⟨c, d⟩, f, g⟩, s⟩ := h
  unfold eAt at h1
  unfold decE mono12 byte3
  by_cases h0 : i = 0
  · simp [h0] at h1 ⊢; omega
  · by_cases h2 : i = 1
    · simp [h2] at h1 ⊢; omega
    · simp [h0, h2] at h1 ⊢; omega

/-- What the next term adds. -/
theorem der_step0 {p i : Int} {ts : List Tm} (h : Asc ts) (k : Nat) (hk : k < ts.length) (h0 : eAt i (tmE ts[k]) = 0) (e : Int × Int × Int) (he : byte3 e) : der p i (ts.take (k + 1)) e = der p i (ts.take k) e := by
  unfold der
  rw [atL_take h k hk, if_neg]
  intro hx
  have h1 := eAt_incE i e
  rw [← hx, h0] at h1
  have := (eAt_nonneg i he).1
  omega
theorem der_step1 {p i : Int} {ts : List Tm} (h : Asc ts) (k : Nat) (hk : k < ts.length) (e : Int × Int × Int) :
    der p i (ts.take (k + 1)) e = if e = decE i (tmE ts[k]) then (eAt i (tmE ts[k]) * ts[k].2.2.2 + der p i (ts.take k) (decE i (tmE ts[k]))) % p else der p i (ts.take k) e := by
  unfold der
  rw [atL_take h k hk]
  by_cases hx : e = decE i (tmE ts[k])
  · subst hx
    rw [if_pos rfl, incE_decE, if_pos rfl, atL_take_new h k hk]
    have h1 := eAt_incE i (decE i (tmE ts[k]))
    rw [incE_decE] at h1
    rw [← h1]
    simp
  · rw [if_neg hx, if_neg]
    intro hy
    exact hx (by rw [hy, decE_incE])

set_option maxRecDepth 8000 in
set_option maxHeartbeats 8000000 in
theorem specDerL (p d i : Int) (v : Value) (ts : List Tm) (w : World) (hl : ts.length ≤ 1048576) (hS : SliceT w v ts) (hV : Valid p d ts) (hi : i = 0 ∨ i = 1 ∨ i = 2) :
    Calls Try.prog 59 #[.agg #[.int .i64 p, .int .i64 d, v], .int .i64 i] w fun e w' =>
      ∃ v' L, e = .returned (.agg #[.int .i64 p, .int .i64 d, v']) ∧ OwnP w' w.heap.size v' L ∧ IsP p L (der p i ts) ∧ Below w.heap.size w w' := by
  have hp2 := hV.p2
  have hp13 := hV.p13
  obtain ⟨a, cap, rfl, _⟩ := id hS
  obtain ⟨W, hW, hbW, ⟨hWs1, hWs2⟩, rx, rr⟩ := boxes2 w p d (.slice a ts.length cap)
  obtain ⟨⟨c0, c1, c2⟩, _⟩ := poly3 rx
  go_enter Try.func59, Try.ntmps59
  go_wp2_with fail
  rw [← hW]
  clear hW c0 c1 c2
  ((with_reducible refine (empty_any p d W).mono ?_); rintro e w1 ⟨rfl, hown, hb1⟩)
  obtain ⟨V, hV1, hbV, ⟨hVs1, hVs2⟩, rq⟩ : ∃ V, V = w1.alloc (.cells #[.int .i64 p, .int .i64 d, .slice (some ⟨W.heap.size + 1, 0, none⟩) 0 0] 25) ∧ Below w1.heap.size w1 V ∧ (V.heap.size ≤ w1.heap.size + 1 ∧ w1.heap.size + 1 ≤ V.heap.size) ∧
      V.rowIs w1.heap.size 25 3 (polyF p d (.slice (some ⟨W.heap.size + 1, 0, none⟩) 0 0)) := by
    refine ⟨_, rfl, box1 _ _, ⟨by simp, by simp⟩, ?_⟩
    exact World.rowIs_alloc w1 #[Value.int .i64 p, .int .i64 d, .slice (some ⟨W.heap.size + 1, 0, none⟩) 0 0] _ _ (fun i hi => by simp at hi; match i, hi with | 0, _ => rfl | 1, _ => rfl | 2, _ => rfl)
  have s1 := hb1.size
  have hst : Part w V W.heap.size w1.heap.size w.heap.size (w.heap.size + 1) p d (.slice a ts.length cap) (.slice (some ⟨W.heap.size + 1, 0, none⟩) 0 0) [] := by
    have hbWV := hb1.trans (hbV.mono hb1.size)
    exact ⟨owns_belowT hown hbV, rq, rowIs_below rx hbWV rx.lt, rowIs_below rr hbWV rr.lt, hbW.trans (hbWV.mono hbW.size), by omega, by omega, by omega, by omega, by omega, by omega⟩
  go_wp2_with fail
  rw [← hV1]
  clear hV1 rx rr rq hown
  go_loopw [6] (fun j wr => ∃ (k : Nat) (sv : Value) (O : List Tm), k ≤ ts.length ∧ j = .int .i64 k ∧ Hid (IsP p O (der p i (ts.take k))) ∧ Part w wr W.heap.size w1.heap.size w.heap.size (w.heap.size + 1) p d (.slice a ts.length cap) sv O) (fun j _ => ts.length - (intOf j).toNat)
  case atStart => exact ⟨0, _, [], by omega, rfl, Lib.hid ((IsP.nil p).congr fun e _ => by simp [der, atL]), hst⟩
  case round =>
    obtain ⟨k, sv, O, hk, rfl, HO, hB⟩ := hrel
    have hSr := hS.below hB.below
    obtain ⟨sa, sc, rfl⟩ := owns_slice hB.rows
    obtain ⟨⟨m0, m1, m2⟩, _⟩ := poly3 hB.arg
    by_cases hlt1 : k < ts.length
    · have hlt' : (k : Int) < (ts.length : Int) := by omega
      obtain ⟨a', cap', hv', hcase⟩ := hSr
      simp at hv'
      obtain ⟨rfl, rfl⟩ := hv'
      rcases hcase with h0 | ⟨b, off, rfl, hltb, hTr⟩
      · rw [h0] at hlt1; exact absurd hlt1 (by simp)
      obtain ⟨c0, c1, c2, c3⟩ := hTr k hlt1
      obtain ⟨⟨⟨bx, by1, bz⟩, hs12⟩, bv1, bv2⟩ := hV.mem ts[k] (List.getElem_mem _)
      have hd1 := Lib.hid (fun e => der_step1 (p := p) (i := i) hV.asc k hlt1 e)
      have hd0 := Lib.hid (der_step0 (p := p) (i := i) hV.asc k hlt1)
      have hm0 := Lib.hid (decE_mono i (e := tmE ts[k]) ⟨⟨bx, by1, bz⟩, hs12⟩)
      simp only [tmE] at bx by1 bz
      generalize hx : ts[k].1 = x at *
      generalize hy : ts[k].2.1 = y at *
      generalize hz : ts[k].2.2.1 = z at *
      generalize hv : ts[k].2.2.2 = v at *
      have htm : tmE ts[k] = (x, y, z) := by simp [tmE, hx, hy, hz]
      have mo : ∀ o, (wr.alloc o).cell? ⟨w.heap.size, 2, none⟩ = some (.slice (some ⟨b, off, none⟩) ts.length cap) := fun o => ((box1 wr o).cell hB.arg.lt).trans m2
      rcases hi with rfl | rfl | rfl
      · by_cases hz0 : x = 0
        · subst hz0
          have HO2 : Hid (IsP p O (der p 0 (ts.take (k + 1)))) := Lib.hid (HO.out.congr fun e he => (hd0.out (by rw [htm]; rfl) e he).symm)
          clear htm hd0 hd1 hm0 hV hS hst hTr
          go_wp2_with fail
          go_roundw
          case rel => exact ⟨k + 1, _, _, by omega, by go_num, HO2, hB.later (box1 _ _)⟩
          case measure => simp [intOf]; omega
        · have hne : (x == 0) = false := by simpa using hz0
          have hx1 : 1 ≤ x := by omega
          have g1 : 0 ≤ x * v := Int.mul_nonneg (by omega) (by omega)
          have g2 : x * v ≤ 12 * 13 := Int.mul_le_mul (by omega) (by omega) (by omega) (by omega)
          have hw : IntKind.i64.wrap (x * v) = x * v := IntWalk.i64_in _ (by omega)
          have hE : mono12 (x - 1, y, z) := by
            have := hm0.out (by rw [htm]; exact hx1)
            rw [htm] at this
            exact this
          have hE1 : byte3 (x - 1, y, z) := hE.1
          have HP : Hid (IsP p (putL p O (x - 1, y, z) (x * v)) (der p 0 (ts.take (k + 1)))) := Lib.hid ((HO.out.put hp2 hE (x * v)).congr fun e he => by
            rw [hd1.out e, htm]; rfl)
          obtain ⟨⟨j0, j1, j2⟩, jz0, jz1, jz2⟩ := poly3 hB.out
          have qo0 : ∀ o, (wr.alloc o).cell? ⟨w1.heap.size, 0, none⟩ = some (.int .i64 p) := fun o => ((box1 wr o).cell hB.out.lt).trans j0
          have qo1 : ∀ o, (wr.alloc o).cell? ⟨w1.heap.size, 1, none⟩ = some (.int .i64 d) := fun o => ((box1 wr o).cell hB.out.lt).trans j1
          have qo2 : ∀ o, (wr.alloc o).cell? ⟨w1.heap.size, 2, none⟩ = some (.slice sa O.length sc) := fun o => ((box1 wr o).cell hB.out.lt).trans j2
          have to3 : ∀ o, (wr.alloc o).cell? ⟨b, off + k * 4 + 3, none⟩ = some (.int .i64 v) := fun o => ((box1 wr o).cell hltb).trans c3
          clear j0 j1 j2 jz0 jz1 jz2 htm hd0 hd1 hm0 hV hS hst hTr
          go_wp2_with fail
          refine region_tail 10 (by kernel_rfl) (by kernel_rfl) ?_
          simp only [List.take_succ_cons, List.take_zero, List.drop_succ_cons, List.drop_zero]
          repeat still_step
          refine wpStill_nil ?_
          go_wp2_with fail
          have hBU := hB.later ((box1 wr (.cells #[.int .u8 (x - 1), .int .u8 (y), .int .u8 (z)] 48)).drew)
          ((with_reducible refine (specPut p d _ O _ _ _ _ _ _ (OwnP.slice hBU.rows) HO.out hp2 hp13 hE1 g1 (by omega)).mono ?_); rintro e w2 ⟨v2, rfl, ho2, hb2⟩)
          obtain ⟨sa2, sc2, rfl⟩ := owns_slice ho2
          have hU2 := hBU.later hb2
          have hB3 := hBU.put hb2 ho2 hBU.b2
          obtain ⟨⟨j0, j1, j2⟩, jz0, jz1, jz2⟩ := poly3 hU2.out
          clear ho2 hBU hB qo0 qo1 qo2 to3 HO
          go_wp2_with fail
          go_roundw
          case rel => exact ⟨k + 1, _, _, by omega, by go_num, HP, hB3⟩
          case measure => simp [intOf]; omega
      · by_cases hz0 : y = 0
        · subst hz0
          have HO2 : Hid (IsP p O (der p 1 (ts.take (k + 1)))) := Lib.hid (HO.out.congr fun e he => (hd0.out (by rw [htm]; rfl) e he).symm)
          clear htm hd0 hd1 hm0 hV hS hst hTr
          go_wp2_with fail
          go_roundw
          case rel => exact ⟨k + 1, _, _, by omega, by go_num, HO2, hB.later (box1 _ _)⟩
          case measure => simp [intOf]; omega
        · have hne : (y == 0) = false := by simpa using hz0
          have hx1 : 1 ≤ y := by omega
          have g1 : 0 ≤ y * v := Int.mul_nonneg (by omega) (by omega)
          have g2 : y * v ≤ 12 * 13 := Int.mul_le_mul (by omega) (by omega) (by omega) (by omega)
          have hw : IntKind.i64.wrap (y * v) = y * v := IntWalk.i64_in _ (by omega)
          have hE : mono12 (x, y - 1, z) := by
            have := hm0.out (by rw [htm]; exact hx1)
            rw [htm] at this
            exact this
          have hE1 : byte3 (x, y - 1, z) := hE.1
          have HP : Hid (IsP p (putL p O (x, y - 1, z) (y * v)) (der p 1 (ts.take (k + 1)))) := Lib.hid ((HO.out.put hp2 hE (y * v)).congr fun e he => by
            rw [hd1.out e, htm]; rfl)
          obtain ⟨⟨j0, j1, j2⟩, jz0, jz1, jz2⟩ := poly3 hB.out
          have qo0 : ∀ o, (wr.alloc o).cell? ⟨w1.heap.size, 0, none⟩ = some (.int .i64 p) := fun o => ((box1 wr o).cell hB.out.lt).trans j0
          have qo1 : ∀ o, (wr.alloc o).cell? ⟨w1.heap.size, 1, none⟩ = some (.int .i64 d) := fun o => ((box1 wr o).cell hB.out.lt).trans j1
          have qo2 : ∀ o, (wr.alloc o).cell? ⟨w1.heap.size, 2, none⟩ = some (.slice sa O.length sc) := fun o => ((box1 wr o).cell hB.out.lt).trans j2
          have to3 : ∀ o, (wr.alloc o).cell? ⟨b, off + k * 4 + 3, none⟩ = some (.int .i64 v) := fun o => ((box1 wr o).cell hltb).trans c3
          clear j0 j1 j2 jz0 jz1 jz2 htm hd0 hd1 hm0 hV hS hst hTr
          go_wp2_with fail
          refine region_tail 10 (by kernel_rfl) (by kernel_rfl) ?_
          simp only [List.take_succ_cons, List.take_zero, List.drop_succ_cons, List.drop_zero]
          repeat still_step
          refine wpStill_nil ?_
          go_wp2_with fail
          have hBU := hB.later ((box1 wr (.cells #[.int .u8 (x), .int .u8 (y - 1), .int .u8 (z)] 48)).drew)
          ((with_reducible refine (specPut p d _ O _ _ _ _ _ _ (OwnP.slice hBU.rows) HO.out hp2 hp13 hE1 g1 (by omega)).mono ?_); rintro e w2 ⟨v2, rfl, ho2, hb2⟩)
          obtain ⟨sa2, sc2, rfl⟩ := owns_slice ho2
          have hU2 := hBU.later hb2
          have hB3 := hBU.put hb2 ho2 hBU.b2
          obtain ⟨⟨j0, j1, j2⟩, jz0, jz1, jz2⟩ := poly3 hU2.out
          clear ho2 hBU hB qo0 qo1 qo2 to3 HO
          go_wp2_with fail
          go_roundw
          case rel => exact ⟨k + 1, _, _, by omega, by go_num, HP, hB3⟩
          case measure => simp [intOf]; omega
      · by_cases hz0 : z = 0
        · subst hz0
          have HO2 : Hid (IsP p O (der p 2 (ts.take (k + 1)))) := Lib.hid (HO.out.congr fun e he => (hd0.out (by rw [htm]; rfl) e he).symm)
          clear htm hd0 hd1 hm0 hV hS hst hTr
          go_wp2_with fail
          go_roundw
          case rel => exact ⟨k + 1, _, _, by omega, by go_num, HO2, hB.later (box1 _ _)⟩
          case measure => simp [intOf]; omega
        · have hne : (z == 0) = false := by simpa using hz0
          have hx1 : 1 ≤ z := by omega
          have g1 : 0 ≤ z * v := Int.mul_nonneg (by omega) (by omega)
          have g2 : z * v ≤ 12 * 13 := Int.mul_le_mul (by omega) (by omega) (by omega) (by omega)
          have hw : IntKind.i64.wrap (z * v) = z * v := IntWalk.i64_in _ (by omega)
          have hE : mono12 (x, y, z - 1) := by
            have := hm0.out (by rw [htm]; exact hx1)
            rw [htm] at this
            exact this
          have hE1 : byte3 (x, y, z - 1) := hE.1
          have HP : Hid (IsP p (putL p O (x, y, z - 1) (z * v)) (der p 2 (ts.take (k + 1)))) := Lib.hid ((HO.out.put hp2 hE (z * v)).congr fun e he => by
            rw [hd1.out e, htm]; rfl)
          obtain ⟨⟨j0, j1, j2⟩, jz0, jz1, jz2⟩ := poly3 hB.out
          have qo0 : ∀ o, (wr.alloc o).cell? ⟨w1.heap.size, 0, none⟩ = some (.int .i64 p) := fun o => ((box1 wr o).cell hB.out.lt).trans j0
          have qo1 : ∀ o, (wr.alloc o).cell? ⟨w1.heap.size, 1, none⟩ = some (.int .i64 d) := fun o => ((box1 wr o).cell hB.out.lt).trans j1
          have qo2 : ∀ o, (wr.alloc o).cell? ⟨w1.heap.size, 2, none⟩ = some (.slice sa O.length sc) := fun o => ((box1 wr o).cell hB.out.lt).trans j2
          have to3 : ∀ o, (wr.alloc o).cell? ⟨b, off + k * 4 + 3, none⟩ = some (.int .i64 v) := fun o => ((box1 wr o).cell hltb).trans c3
          clear j0 j1 j2 jz0 jz1 jz2 htm hd0 hd1 hm0 hV hS hst hTr
          go_wp2_with fail
          refine region_tail 10 (by kernel_rfl) (by kernel_rfl) ?_
          simp only [List.take_succ_cons, List.take_zero, List.drop_succ_cons, List.drop_zero]
          repeat still_step
          refine wpStill_nil ?_
          go_wp2_with fail
          have hBU := hB.later ((box1 wr (.cells #[.int .u8 (x), .int .u8 (y), .int .u8 (z - 1)] 48)).drew)
          ((with_reducible refine (specPut p d _ O _ _ _ _ _ _ (OwnP.slice hBU.rows) HO.out hp2 hp13 hE1 g1 (by omega)).mono ?_); rintro e w2 ⟨v2, rfl, ho2, hb2⟩)
          obtain ⟨sa2, sc2, rfl⟩ := owns_slice ho2
          have hU2 := hBU.later hb2
          have hB3 := hBU.put hb2 ho2 hBU.b2
          obtain ⟨⟨j0, j1, j2⟩, jz0, jz1, jz2⟩ := poly3 hU2.out
          clear ho2 hBU hB qo0 qo1 qo2 to3 HO
          go_wp2_with fail
          go_roundw
          case rel => exact ⟨k + 1, _, _, by omega, by go_num, HP, hB3⟩
          case measure => simp [intOf]; omega
    · obtain rfl : k = ts.length := by omega
      obtain ⟨⟨j0, j1, j2⟩, _⟩ := poly3 hB.out
      obtain ⟨⟨r0, r1, r2⟩, z0, z1, z2⟩ := poly3 hB.res
      have HL : Hid (IsP p O (der p i ts)) := Lib.hid (by have := HO.out; rwa [List.take_length] at this)
      clear hSr hst HO
      go_wp2_with fail
      obtain ⟨v0, v1, v2, v3, v4⟩ := hB.finish p d
      exact bodyPost_ret (v := .agg #[.int .i64 p, .int .i64 d, .slice sa O.length sc]) (by simp [results, Try.results59, go_sem, v0, v1, v2]) rfl ⟨_, O, rfl, v3, HL.out, v4⟩
end Go.Proofs.Ytpnlpmalkiaioaa
