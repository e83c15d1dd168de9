/-
  WALKS: 'impl.PartOfDegree', 'spec.PartOfDegree'. Conditions: as each theorem states.
-/
import Derived.Test.YtpnlpmalkiaioaaIns
import Derived.Test.YtpnlpmalkiaioaaPp
namespace Go.Proofs.Ytpnlpmalkiaioaa
open Go.RowKit Go.Sort

/-- What a function that gives a polynomial and a code gives. -/
structure OutP where
  P : Int
  D : Int
  S : List Tm
  c : Int
def ResO (w : World) (o : OutP) (e : Ending) (w' : World) : Prop :=
  ∃ v', e = .returned (.tuple #[.agg #[.int .i64 o.P, .int .i64 o.D, v'], .int .i64 o.c]) ∧ OwnP w' w.heap.size v' o.S ∧ Below w.heap.size w w'
def noP (c : Int) : OutP := ⟨0, 0, [], c⟩
theorem ownP_nil (w : World) (base : Nat) : OwnP w base (.slice none 0 0) [] := ⟨rfl, .inl ⟨rfl, rfl⟩⟩

def partO (p d : Int) (ts : List Tm) (n : Int) : OutP := if isPolyB p d ts = true then (if 0 ≤ n ∧ n ≤ 12 then ⟨p, d, ts.filter (sumIs n), 0⟩ else noP 2) else noP 1

theorem isDeg_all (n : Int) (w : World) : Calls Try.prog 55 #[.int .i64 n] w fun e w' => e = .returned (.bool (decide (0 ≤ n) && decide (n ≤ 12))) ∧ w = w' := by
  by_cases h : 0 ≤ n
  all_goals
    go_enter Try.func55, Try.ntmps55
    go_wp2
    go_ret
    exact ⟨by simp; omega, rfl⟩
theorem isDeg_is (n : Int) (w : World) (B : Bool) (h : (decide (0 ≤ n) && decide (n ≤ 12)) = B) : Calls Try.prog 55 #[.int .i64 n] w fun e w' => e = .returned (.bool B) ∧ w = w' :=
  (isDeg_all n w).mono fun _ _ ⟨he, hw⟩ => ⟨by rw [he, h], hw⟩

theorem poly3 {w : World} {b : Nat} {t : TypeId} {p d : Int} {v : Value} (h : w.rowIs b t 3 (polyF p d v)) : (w.cell? ⟨b, 0, none⟩ = some (.int .i64 p) ∧ w.cell? ⟨b, 1, none⟩ = some (.int .i64 d) ∧ w.cell? ⟨b, 2, none⟩ = some v) ∧ w.frozen? ⟨b, 0, none⟩ = false ∧ w.frozen? ⟨b, 1, none⟩ = false ∧ w.frozen? ⟨b, 2, none⟩ = false :=
  ⟨⟨h.cell (i := 0) (by omega), h.cell (i := 1) (by omega), h.cell (i := 2) (by omega)⟩, h.frozen 0, h.frozen 1, h.frozen 2⟩

/-- The two boxes at the head of a function of a polynomial with a polynomial as its result. -/
theorem boxes2 (w : World) (p d : Int) (v : Value) : ∃ W, W = (w.alloc (.cells #[.int .i64 p, .int .i64 d, v] 25)).alloc (.cells #[.int .i64 0, .int .i64 0, .slice none 0 0] 25) ∧ Below w.heap.size w W ∧ (W.heap.size ≤ w.heap.size + 2 ∧ w.heap.size + 2 ≤ W.heap.size) ∧
      W.rowIs w.heap.size 25 3 (polyF p d v) ∧ W.rowIs (w.heap.size + 1) 25 3 (polyF 0 0 (.slice none 0 0)) := by
  refine ⟨_, rfl, box2 _ _ _, ⟨by simp, by simp⟩, ?_, ?_⟩
  · refine World.rowIs.alloc (World.rowIs_alloc w #[Value.int .i64 p, .int .i64 d, v] _ _ (fun i hi => ?_)) _
    simp at hi; match i, hi with | 0, _ => rfl | 1, _ => rfl | 2, _ => rfl
  · have := World.rowIs_alloc (w.alloc (.cells #[.int .i64 p, .int .i64 d, v] 25)) #[Value.int .i64 0, .int .i64 0, .slice none 0 0] 25 (polyF 0 0 (.slice none 0 0)) (fun i hi => by simp at hi; match i, hi with | 0, _ => rfl | 1, _ => rfl | 2, _ => rfl)
    simpa using this

theorem capd_eq (s n : Int) (h : n ≤ 12) : (capd s == n) = (s == n) := by
  unfold capd
  split
  · rfl
  · rw [Bool.eq_iff_iff]; simp; omega

set_option maxRecDepth 8000 in
set_option maxHeartbeats 4000000 in
theorem implPart (p d n : Int) (v : Value) (ts : List Tm) (w : World) (hl : ts.length ≤ 1048576) (hS : SliceT w v ts) (hby : ∀ t ∈ ts, tmByte t) :
    Calls Try.prog 26 #[.agg #[.int .i64 p, .int .i64 d, v], .int .i64 n] w (ResO w (partO p d ts n)) := by
  obtain ⟨i0, hi, hz0, hz1, hz2⟩ := info_parts infoTerm
  obtain ⟨a, cap, rfl, _⟩ := id hS
  obtain ⟨W, hW, hbW, ⟨hWs1, hWs2⟩, rx, rr⟩ := boxes2 w p d (.slice a ts.length cap)
  have hSW := hS.below hbW
  obtain ⟨⟨c0, c1, c2⟩, _⟩ := poly3 rx
  go_enter Try.func26, Try.ntmps26
  go_wp2_with fail
  rw [← hW]
  clear hW
  ((with_reducible refine (isPoly_any p d _ ts W hl hSW hby).mono ?_); rintro e w1 ⟨rfl, hb1⟩)
  clear c0 c1 c2
  have rx1 := rowIs_below rx hb1 rx.lt
  have rr1 := rowIs_below rr hb1 rr.lt
  have hbw1 := hbW.trans (hb1.mono hbW.size)
  have hS1 := hSW.below hb1
  have s1 := hb1.size
  obtain ⟨⟨c0, c1, c2⟩, _⟩ := poly3 rx1
  obtain ⟨⟨r0, r1, r2⟩, z0, z1, z2⟩ := poly3 rr1
  obtain ⟨a0, a1, a2, a3, a4⟩ := fill_box (base := w.heap.size) rr1 (ownP_nil w1 w.heap.size) (Nat.le_refl _) hbw1 (by omega) 0 0
  have A0 := Lib.hid a0
  have A1 := Lib.hid a1
  have A2 := Lib.hid a2
  have A3 := Lib.hid a3
  have A4 := Lib.hid a4
  clear a0 a1 a2 a3 a4 rx rr
  cases hB : isPolyB p d ts
  · have HO : Hid (partO p d ts n = noP 1) := Lib.hid (by unfold partO; rw [if_neg (by rw [hB]; simp)])
    clear hB
    go_wp2_with fail
    rw [HO.out]
    exact bodyPost_ret (v := .tuple #[.agg #[.int .i64 0, .int .i64 0, .slice none 0 0], .int .i64 1]) (by simp [results, Try.results26, go_sem, A0.out, A1.out, A2.out]) rfl ⟨_, rfl, A3.out, A4.out⟩
  · cases hD : (decide (0 ≤ n) && decide (n ≤ 12))
    · have HO : Hid (partO p d ts n = noP 2) := Lib.hid (by unfold partO; rw [if_pos hB, if_neg (by simpa using hD)])
      have hD' := Lib.hid hD
      clear hB hD
      go_wp2_with fail
      ((with_reducible refine (isDeg_is n w1 _ hD'.out).mono ?_); rintro e w2 ⟨rfl, rfl⟩)
      go_wp2_with fail
      rw [HO.out]
      exact bodyPost_ret (v := .tuple #[.agg #[.int .i64 0, .int .i64 0, .slice none 0 0], .int .i64 2]) (by simp [results, Try.results26, go_sem, A0.out, A1.out, A2.out]) rfl ⟨_, rfl, A3.out, A4.out⟩
    · have HO : Hid (partO p d ts n = ⟨p, d, ts.filter (sumIs n), 0⟩) := Lib.hid (by unfold partO; rw [if_pos hB, if_pos (by simpa using hD)])
      have hn1 : n ≤ 12 := by simp at hD; exact hD.2
      have hD' := Lib.hid hD
      clear hB hD A0 A1 A2 A3 A4
      go_wp2_with fail
      ((with_reducible refine (isDeg_is n w1 _ hD'.out).mono ?_); rintro e w2 ⟨rfl, rfl⟩)
      go_wp2_with fail
      ((with_reducible refine (constant_any p d 0 w1 (by omega) (by omega)).mono ?_); rintro e w2 ⟨v2, rfl, ho2, hb2⟩)
      obtain ⟨sa2, sc2, rfl⟩ := owns_slice ho2
      have ho2' : OwnP w2 w1.heap.size (.slice sa2 0 sc2) [] := ho2
      obtain ⟨V, hV, hbV, ⟨hVs1, hVs2⟩, rq⟩ : ∃ V, V = w2.alloc (.cells #[.int .i64 p, .int .i64 d, .slice sa2 0 sc2] 25) ∧ Below w2.heap.size w2 V ∧ (V.heap.size ≤ w2.heap.size + 1 ∧ w2.heap.size + 1 ≤ V.heap.size) ∧
          V.rowIs w2.heap.size 25 3 (polyF p d (.slice sa2 0 sc2)) := by
        refine ⟨_, rfl, box1 _ _, ⟨by simp, by simp⟩, ?_⟩
        exact World.rowIs_alloc w2 #[Value.int .i64 p, .int .i64 d, .slice sa2 0 sc2] _ _ (fun i hi => by simp at hi; match i, hi with | 0, _ => rfl | 1, _ => rfl | 2, _ => rfl)
      have s2 := hb2.size
      have hb1V := hb2.trans (hbV.mono hb2.size)
      have hst : Part w V w1.heap.size w2.heap.size w.heap.size (w.heap.size + 1) p d (.slice a ts.length cap) (.slice sa2 0 sc2) [] := by
        exact ⟨owns_belowT ho2' hbV, rq, rowIs_below rx1 hb1V rx1.lt, rowIs_below rr1 hb1V rr1.lt, hbw1.trans (hb1V.mono hbw1.size), by omega, by omega, by omega, by omega, by omega, by omega⟩
      have hSV := hS1.below hb1V
      have rx2 := rowIs_below rx1 hb2 rx1.lt
      have xo : ∀ o, (w2.alloc o).cell? ⟨w.heap.size, 2, none⟩ = some (.slice a ts.length cap) := fun o => ((box1 w2 o).cell rx2.lt).trans (poly3 rx2).1.2.2
      have hc0 : (constL 0).length = 0 := rfl
      clear c0 c1 c2 r0 r1 r2 z0 z1 z2 ho2 hbV hb1V rq rx2 ho2'
      go_wp2_with fail
      rw [← hV]
      clear hV xo hc0
      go_loopw [25] (fun i wr => ∃ (k : Nat) (sv : Value) (O : List Tm), k ≤ ts.length ∧ i = .int .i64 k ∧ Hid (O = (ts.take k).filter (sumIs n)) ∧ O.length ≤ k ∧ Part w wr w1.heap.size w2.heap.size w.heap.size (w.heap.size + 1) p d (.slice a ts.length cap) sv O) (fun i _ => ts.length - (intOf i).toNat)
      case atStart => exact ⟨0, _, [], by omega, rfl, Lib.hid (by simp), by simp, hst⟩
      case round =>
        obtain ⟨k, sv, O, hk, rfl, HO', hO, hB⟩ := hrel
        have hSr := hS.below hB.below
        obtain ⟨sa, sc, rfl⟩ := owns_slice hB.rows
        by_cases hlt1 : k < ts.length
        · have hlt' : (k : Int) < (ts.length : Int) := by omega
          obtain ⟨a', cap', hv', hcase⟩ := hSr
          simp at hv'
          obtain ⟨rfl, rfl⟩ := hv'
          rcases hcase with h0 | ⟨b, off, rfl, hltb, hTr⟩
          · rw [h0] at hlt1; exact absurd hlt1 (by simp)
          obtain ⟨c0, c1, c2, c3⟩ := hTr k hlt1
          obtain ⟨⟨bx, by1, bz⟩, _, _⟩ := hby ts[k] (List.getElem_mem _)
          have HS := Lib.hid (part_step n ts k hlt1)
          have q2 : wr.cell? ⟨w2.heap.size, 2, none⟩ = some (.slice sa O.length sc) := hB.out.cell (i := 2) (by omega)
          go_wp2_with fail
          ((with_reducible refine (capped_any wr.heap.size 0 3 _ _ _ _ bx by1 bz (by go_simp) (by go_simp) (by go_simp)).mono ?_); rintro e w3 ⟨rfl, rfl⟩)
          have HE := Lib.hid (capd_eq (ts[k].1 + ts[k].2.1 + ts[k].2.2.1) n hn1)
          generalize hE : (ts[k].1 + ts[k].2.1 + ts[k].2.2.1 == n) = E at *
          have hE2 := HE.out
          clear HE hE hTr hS hSW hS1 hSV hst
          cases E
          · have HO2 : Hid (O = (ts.take (k + 1)).filter (sumIs n)) := Lib.hid (by rw [HS.out, HO'.out]; simp)
            go_wp2_with fail
            go_roundw
            case rel => exact ⟨k + 1, _, _, by omega, by go_num, HO2, by omega, hB.later (box1 _ _)⟩
            case measure => simp [intOf]; omega
          · have HO2 : Hid (O ++ [ts[k]] = (ts.take (k + 1)).filter (sumIs n)) := Lib.hid (by rw [HS.out, ← HO'.out]; simp)
            have hmx : O.length + 1 ≤ maxLen := by unfold maxLen; omega
            have hbs := hB.b2
            have qo : ∀ o, (wr.alloc o).cell? ⟨w2.heap.size, 2, none⟩ = some (.slice sa O.length sc) := fun o => ((box1 wr o).cell hB.out.lt).trans q2
            go_wp2_with (at_builtin; refine wpList_append_own _ rfl _ _ 23 rfl w1.heap.size 74 i0 _ 4 16 Try.underlying23 hi hz0 hz1 hz2 rfl (by decide) _ _ _ rfl ((hB.later (box1 _ _)).later (box1 _ _)).rows ⟨wr.heap.size + 1, 0, none⟩ 1 1 (cell4 ts[k]) rfl rfl ?d1 ?d2 ?d3 ?d4 ?d5 ?_)
            case d1 =>
              intro j u hj
              match j, hj with
              | 0, hj => simp [cell4] at hj; subst hj; simp [World.cell?_alloc_at, Addr.add]
              | 1, hj => simp [cell4] at hj; subst hj; simp [World.cell?_alloc_at, Addr.add]
              | 2, hj => simp [cell4] at hj; subst hj; simp [World.cell?_alloc_at, Addr.add]
              | 3, hj => simp [cell4] at hj; subst hj; simp [World.cell?_alloc_at, Addr.add]
            case d2 => intro u hu; simp [cell4] at hu; rcases hu with rfl | rfl | rfl | rfl <;> rfl
            case d3 => exact hmx
            case d4 => omega
            case d5 => simp only [World.size_alloc] at *; omega
            intro sv3 w3 hown3 hgrow3 _
            obtain ⟨sa3, sc3, rfl⟩ := owns_slice hown3
            obtain ⟨hB3, r3⟩ := hB.more (box2 _ _ _) hgrow3 (t := ts[k]) (by simpa using hown3)
            have hfz3 := r3.frozen 2
            have hcl3 : w3.cell? ⟨w2.heap.size, 2, none⟩ = some (.slice sa O.length sc) := r3.cell (i := 2) (by omega)
            clear hown3 hgrow3 r3 qo q2 hbs hmx hE2
            go_wp2_with fail
            go_roundw
            case rel => exact ⟨k + 1, _, _, by omega, by go_num, HO2, by simp; omega, hB3⟩
            case measure => simp [intOf]; omega
        · obtain rfl : k = ts.length := by omega
          obtain ⟨⟨j0, j1, j2⟩, _⟩ := poly3 hB.out
          obtain ⟨⟨r0, r1, r2⟩, z0, z1, z2⟩ := poly3 hB.res
          have HL : Hid (ts.filter (sumIs n) = O) := Lib.hid (by rw [HO'.out, List.take_length])
          clear hSr hst hSV
          go_wp2_with fail
          obtain ⟨v0, v1, v2, v3, v4⟩ := hB.finish p d
          rw [HO.out]
          exact bodyPost_ret (v := .tuple #[.agg #[.int .i64 p, .int .i64 d, .slice sa O.length sc], .int .i64 0]) (by simp [results, Try.results26, go_sem, v0, v1, v2]) rfl ⟨_, rfl, by rw [HL.out]; exact v3, v4⟩
end Go.Proofs.Ytpnlpmalkiaioaa
