/-
  WALKS: 'spec.l01Part'. Conditions: as each theorem states.
-/
import Derived.Test.YtpnlpmalkiaioaaPw
import Derived.Deep.RegionLaw
import Derived.Deep.AppendLies
namespace Go.Proofs.Ytpnlpmalkiaioaa
open Go.RowKit Go.Sort

def sumIs (n : Int) (t : Tm) : Bool := t.1 + t.2.1 + t.2.2.1 == n
theorem part_step (n : Int) (ts : List Tm) (k : Nat) (h : k < ts.length) : (ts.take (k + 1)).filter (sumIs n) = (ts.take k).filter (sumIs n) ++ (if ts[k].1 + ts[k].2.1 + ts[k].2.2.1 == n then [ts[k]] else []) := by
  rw [List.take_succ_eq_append_getElem h, List.filter_append]
  congr 1
  by_cases hx : (ts[k].1 + ts[k].2.1 + ts[k].2.2.1 == n) = true <;> simp [sumIs, hx]
theorem part_le (n : Int) (ts : List Tm) (k : Nat) : ((ts.take k).filter (sumIs n)).length ≤ k := Nat.le_trans (List.length_filter_le _ _) (List.length_take_le _ _)

/-- What stands in memory while a polynomial's terms are chosen: its own three cells (block q), the rows of its terms, the argument's box, the result's (blocks a and r). -/
structure Part (w wr : World) (base q a r : Nat) (p d : Int) (xv sv : Value) (O : List Tm) : Prop where
  rows : wr.ownsRow base 74 4 sv O.length (cells4 O)
  out : wr.rowIs q 25 3 (polyF p d sv)
  arg : wr.rowIs a 25 3 (polyF p d xv)
  res : wr.rowIs r 25 3 (polyF 0 0 (.slice none 0 0))
  below : Below w.heap.size w wr
  b1 : w.heap.size ≤ base
  b2 : base ≤ wr.heap.size
  b3 : w.heap.size ≤ q
  b4 : w.heap.size ≤ r
  qa : a ≠ q
  qr : r ≠ q
theorem Part.later {w wr w1 : World} {base q a r : Nat} {p d : Int} {xv sv : Value} {O : List Tm} (h : Part w wr base q a r p d xv sv O) (hb : Below wr.heap.size wr w1) : Part w w1 base q a r p d xv sv O :=
  ⟨owns_belowT h.rows hb, rowIs_below h.out hb h.out.lt, rowIs_below h.arg hb h.arg.lt, rowIs_below h.res hb h.res.lt, h.below.trans (hb.mono h.below.size), h.b1, Nat.le_trans h.b2 hb.size, h.b3, h.b4, h.qa, h.qr⟩
theorem Part.more {w wr wx w2 : World} {base q a r : Nat} {p d : Int} {xv sv sv' : Value} {O : List Tm} {t : Tm} (h : Part w wr base q a r p d xv sv O) (hb : Below wr.heap.size wr wx)
    (hg : wx.grownBy w2 sv.ownBlock) (ho : w2.ownsRow base 74 4 sv' (O.length + 1) (cells4 O ++ cell4 t)) : Part w (w2.setCell ⟨q, 2, none⟩ sv') base q a r p d xv sv' (O ++ [t]) ∧ w2.rowIs q 25 3 (polyF p d sv) := by
  have h1 := h.later hb
  have hn1 : 25 ≠ 74 := by decide
  have r1 := rowIs_grown h1.out hg h1.rows hn1
  have r2 := rowIs_grown h1.arg hg h1.rows hn1
  have r4 := rowIs_grown h1.res hg h1.rows hn1
  refine ⟨⟨?_, ?_, r2.setOther (by simpa using fun e => h.qa e) _, r4.setOther (by simpa using fun e => h.qr e) _, ?_, h.b1, ?_, h.b3, h.b4, h.qa, h.qr⟩, r1⟩
  · rw [cells4_snoc, show (O ++ [t]).length = O.length + 1 by simp]
    exact ho.kept (row := some q) ⟨rfl, rfl, rfl, by rw [World.size_setCell]; exact Nat.le_refl _, fun k hk hne => Below.heap_setCell w2 ⟨q, 2, none⟩ sv' k (fun e => hne (by rw [e]))⟩ (own_ne r1 ho hn1)
  · refine (r1.set 2 sv').congr fun i hi => ?_
    rw [congrFun (polyF_set p d sv sv') i, if_pos hi]
  · have hb1 := h.b1
    have hb3 := h.b3
    exact (h1.below.grown hg (Nat.le_trans hb1 h1.b2) (fun k hk => Nat.le_trans hb1 (h1.rows.lt k hk).1)).setCell (by simpa using hb3) _
  · rw [World.size_setCell]; exact Nat.le_trans h1.b2 hg.size
theorem Part.finish {w wr : World} {base q a r : Nat} {p d : Int} {xv sv : Value} {O : List Tm} (h : Part w wr base q a r p d xv sv O) (p' d' : Int) :
    (((wr.setCell ⟨r, 0, none⟩ (.int .i64 p')).setCell ⟨r, 1, none⟩ (.int .i64 d')).setCell ⟨r, 2, none⟩ sv).cell? ⟨r, 0, none⟩ = some (.int .i64 p') ∧
    (((wr.setCell ⟨r, 0, none⟩ (.int .i64 p')).setCell ⟨r, 1, none⟩ (.int .i64 d')).setCell ⟨r, 2, none⟩ sv).cell? ⟨r, 1, none⟩ = some (.int .i64 d') ∧
    (((wr.setCell ⟨r, 0, none⟩ (.int .i64 p')).setCell ⟨r, 1, none⟩ (.int .i64 d')).setCell ⟨r, 2, none⟩ sv).cell? ⟨r, 2, none⟩ = some sv ∧
    (((wr.setCell ⟨r, 0, none⟩ (.int .i64 p')).setCell ⟨r, 1, none⟩ (.int .i64 d')).setCell ⟨r, 2, none⟩ sv).ownsRow w.heap.size 74 4 sv O.length (cells4 O) ∧
    Below w.heap.size w (((wr.setCell ⟨r, 0, none⟩ (.int .i64 p')).setCell ⟨r, 1, none⟩ (.int .i64 d')).setCell ⟨r, 2, none⟩ sv) := by
  have R := ((h.res.set 0 (.int .i64 p')).set 1 (.int .i64 d')).set 2 sv
  have hb1 := h.b1
  have hb4 := h.b4
  refine ⟨R.cell (i := 0) (by omega), R.cell (i := 1) (by omega), R.cell (i := 2) (by omega), ?_, ((h.below.setCell (by simpa using hb4) _).setCell (by simpa using hb4) _).setCell (by simpa using hb4) _⟩
  refine owns_low (h.rows.kept (row := some r) ⟨rfl, rfl, rfl, by simp only [World.size_setCell]; exact Nat.le_refl _, fun k hk hne => ?_⟩ (own_ne h.res h.rows (by decide))) hb1
  have hk : k ≠ r := fun e => hne (by rw [e])
  exact (Below.heap_setCell _ ⟨r, 2, none⟩ sv k hk).trans ((Below.heap_setCell _ ⟨r, 1, none⟩ _ k hk).trans (Below.heap_setCell _ ⟨r, 0, none⟩ _ k hk))

set_option maxRecDepth 8000 in
set_option maxHeartbeats 4000000 in
theorem specPart_some (p d n : Int) (b off cap : Nat) (ts : List Tm) (w : World) (hl : ts.length ≤ 1048576) (hlt : b < w.heap.size) (hT : Terms w b off ts) (hby : ∀ t ∈ ts, tmByte t) :
    Calls Try.prog 57 #[.agg #[.int .i64 p, .int .i64 d, .slice (some ⟨b, off, none⟩) ts.length cap], .int .i64 n] w fun e w' =>
      ∃ v', e = .returned (.agg #[.int .i64 p, .int .i64 d, v']) ∧ w'.ownsRow w.heap.size 74 4 v' (ts.filter (sumIs n)).length (cells4 (ts.filter (sumIs n))) ∧ Below w.heap.size w w' := by
  obtain ⟨i0, hi, hz0, hz1, hz2⟩ := info_parts infoTerm
  obtain ⟨W, hW, hbW, ⟨hWs1, hWs2⟩, rx, rr⟩ : ∃ W, W = (w.alloc (.cells #[.int .i64 p, .int .i64 d, .slice (some ⟨b, off, none⟩) ts.length cap] 25)).alloc (.cells #[.int .i64 0, .int .i64 0, .slice none 0 0] 25) ∧ Below w.heap.size w W ∧ (W.heap.size ≤ w.heap.size + 2 ∧ w.heap.size + 2 ≤ W.heap.size) ∧
      W.rowIs w.heap.size 25 3 (polyF p d (.slice (some ⟨b, off, none⟩) ts.length cap)) ∧
      W.rowIs (w.heap.size + 1) 25 3 (polyF 0 0 (.slice none 0 0)) := by
    refine ⟨_, rfl, box2 _ _ _, ⟨by simp, by simp⟩, ?_, ?_⟩
    · refine World.rowIs.alloc (World.rowIs_alloc w #[Value.int .i64 p, .int .i64 d, .slice (some ⟨b, off, none⟩) ts.length cap] _ _ (fun i hi => ?_)) _
      simp at hi; match i, hi with | 0, _ => rfl | 1, _ => rfl | 2, _ => rfl
    · have := World.rowIs_alloc (w.alloc (.cells #[.int .i64 p, .int .i64 d, .slice (some ⟨b, off, none⟩) ts.length cap] 25)) #[Value.int .i64 0, .int .i64 0, .slice none 0 0] 25 (polyF 0 0 (.slice none 0 0)) (fun i hi => by simp at hi; match i, hi with | 0, _ => rfl | 1, _ => rfl | 2, _ => rfl)
      simpa using this
  go_enter Try.func57, Try.ntmps57
  go_wp2_with fail
  rw [← hW]
  ((with_reducible refine (empty_any p d W).mono ?_); rintro e w1 ⟨rfl, hown, hb1⟩)
  clear hW
  obtain ⟨V, hV, hbV, ⟨hVs1, hVs2⟩, rq⟩ : ∃ V, V = w1.alloc (.cells #[.int .i64 p, .int .i64 d, .slice (some ⟨W.heap.size + 1, 0, none⟩) 0 0] 25) ∧ Below w1.heap.size w1 V ∧ (V.heap.size ≤ w1.heap.size + 1 ∧ w1.heap.size + 1 ≤ V.heap.size) ∧
      V.rowIs w1.heap.size 25 3 (polyF p d (.slice (some ⟨W.heap.size + 1, 0, none⟩) 0 0)) := by
    refine ⟨_, rfl, box1 _ _, ⟨by simp, by simp⟩, ?_⟩
    exact World.rowIs_alloc w1 #[Value.int .i64 p, .int .i64 d, .slice (some ⟨W.heap.size + 1, 0, none⟩) 0 0] _ _ (fun i hi => by simp at hi; match i, hi with | 0, _ => rfl | 1, _ => rfl | 2, _ => rfl)
  have s1 := hb1.size
  have hst : Part w V W.heap.size w1.heap.size w.heap.size (w.heap.size + 1) p d (.slice (some ⟨b, off, none⟩) ts.length cap) (.slice (some ⟨W.heap.size + 1, 0, none⟩) 0 0) [] := by
    have hbWV := hb1.trans (hbV.mono hb1.size)
    exact ⟨owns_belowT hown hbV, rq, rowIs_below rx hbWV rx.lt, rowIs_below rr hbWV rr.lt, hbW.trans (hbWV.mono hbW.size), by omega, by omega, by omega, by omega, by omega, by omega⟩
  go_wp2_with fail
  rw [← hV]
  clear hV rx rr rq hown
  go_loopw [6] (fun i wr => ∃ (k : Nat) (sv : Value) (O : List Tm), k ≤ ts.length ∧ i = .int .i64 k ∧ Hid (O = (ts.take k).filter (sumIs n)) ∧ O.length ≤ k ∧ Part w wr W.heap.size w1.heap.size w.heap.size (w.heap.size + 1) p d (.slice (some ⟨b, off, none⟩) ts.length cap) sv O) (fun i _ => ts.length - (intOf i).toNat)
  case atStart => exact ⟨0, _, [], by omega, rfl, Lib.hid (by simp), by simp, hst⟩
  case round =>
    obtain ⟨k, sv, O, hk, rfl, HO, hO, hB⟩ := hrel
    have hTr := hT.below hB.below hlt
    obtain ⟨sa, sc, rfl⟩ := owns_slice hB.rows
    have m2 : wr.cell? ⟨w.heap.size, 2, none⟩ = some (.slice (some ⟨b, off, none⟩) ts.length cap) := hB.arg.cell (i := 2) (by omega)
    by_cases hlt1 : k < ts.length
    · have hlt' : (k : Int) < (ts.length : Int) := by omega
      obtain ⟨c0, c1, c2, c3⟩ := hTr k hlt1
      obtain ⟨⟨bx, by1, bz⟩, _, _⟩ := hby ts[k] (List.getElem_mem _)
      have HS := Lib.hid (part_step n ts k hlt1)
      go_wp2_with fail
      ((with_reducible refine (sum_any _ _ _ _ bx by1 bz).mono ?_); rintro e w2 ⟨rfl, hbw⟩)
      have hb2 := hB.later hbw
      have hT2 := hT.below hb2.below hlt
      obtain ⟨e0, e1, e2, e3⟩ := hT2 k hlt1
      have m2' : w2.cell? ⟨w.heap.size, 2, none⟩ = some (.slice (some ⟨b, off, none⟩) ts.length cap) := hb2.arg.cell (i := 2) (by omega)
      have q2 : w2.cell? ⟨w1.heap.size, 2, none⟩ = some (.slice sa O.length sc) := hb2.out.cell (i := 2) (by omega)
      have hss := hbw.size
      generalize hE : (ts[k].1 + ts[k].2.1 + ts[k].2.2.1 == n) = E at *
      clear m2 c0 c1 c2 c3 hTr hT2
      cases E
      · have HO' : Hid (O = (ts.take (k + 1)).filter (sumIs n)) := Lib.hid (by rw [HS.out, HO.out]; simp)
        go_wp2_with fail
        go_roundw
        case rel => exact ⟨k + 1, _, _, by omega, by go_num, HO', by omega, hb2⟩
        case measure => simp [intOf]; omega
      · have HO' : Hid (O ++ [ts[k]] = (ts.take (k + 1)).filter (sumIs n)) := Lib.hid (by rw [HS.out, ← HO.out]; simp)
        go_wp2_with fail
        have hone : ∀ u ∈ cell4 ts[k], u.oneCell' = true := by intro u hu; simp [cell4] at hu; rcases hu with rfl | rfl | rfl | rfl <;> rfl
        have hmx : O.length + 1 ≤ maxLen := by unfold maxLen; omega
        have hmb : (O.length + 1) * 16 ≤ 140737488355328 := by omega
        have hbs := hb2.b2
        have qo : ∀ o, (w2.alloc o).cell? ⟨w1.heap.size, 2, none⟩ = some (.slice sa O.length sc) := fun o => ((box1 w2 o).cell hb2.out.lt).trans q2
        go_region_law (first
          | ((refine step_append_lies _ (by rfl) _ _ _ (by rfl) W.heap.size 74 i0 _ 4 16 Try.underlying23 hi hz0 hz1 hz2 rfl (by omega) (.slice sa O.length sc) O.length (cells4 O) (by rfl) ((hb2.rows.alloc _).drew) ⟨w2.heap.size, 0, none⟩ 1 1 (cell4 ts[k]) (by rfl) (by rfl) (World.news_of_block (cs := #[.int .u8 ts[k].1, .int .u8 ts[k].2.1, .int .u8 ts[k].2.2.1, .int .i64 ts[k].2.2.2]) (t := 74) (fr := (0, 0)) (heap_alloc_new w2 _)) hone (by omega) hmx hmb (by simp; omega) (w2.heap.size + 1) (by simp) ?_
              intro gg cap3 w3 hown3 hgrow3 hat hlt3
              obtain ⟨hB3, r3⟩ := hb2.more ((box1 _ _).drew) hgrow3 (t := ts[k]) hown3
              have hfz3 := r3.frozen 2
              have hcl3 : w3.cell? ⟨w1.heap.size, 2, none⟩ = some (.slice sa O.length sc) := r3.cell (i := 2) (by omega)
              clear hown3 hgrow3 hat r3)))
        all_goals
          go_wp2_with fail
          go_roundw
          case rel => exact ⟨k + 1, _, _, by omega, by go_num, HO', by simp; omega, hB3⟩
          case measure => simp [intOf]; omega
    · obtain rfl : k = ts.length := by omega
      have j0 : wr.cell? ⟨w1.heap.size, 0, none⟩ = some (.int .i64 p) := hB.out.cell (i := 0) (by omega)
      have j1 : wr.cell? ⟨w1.heap.size, 1, none⟩ = some (.int .i64 d) := hB.out.cell (i := 1) (by omega)
      have j2 : wr.cell? ⟨w1.heap.size, 2, none⟩ = some (.slice sa O.length sc) := hB.out.cell (i := 2) (by omega)
      have r0 : wr.cell? ⟨w.heap.size + 1, 0, none⟩ = some (.int .i64 0) := hB.res.cell (i := 0) (by omega)
      have r1 : wr.cell? ⟨w.heap.size + 1, 1, none⟩ = some (.int .i64 0) := hB.res.cell (i := 1) (by omega)
      have r2 : wr.cell? ⟨w.heap.size + 1, 2, none⟩ = some (.slice none 0 0) := hB.res.cell (i := 2) (by omega)
      have z0 := hB.res.frozen 0
      have z1 := hB.res.frozen 1
      have z2 := hB.res.frozen 2
      have HL : Hid (ts.filter (sumIs n) = O) := Lib.hid (by rw [HO.out, List.take_length])
      go_wp2_with fail
      obtain ⟨v0, v1, v2, v3, v4⟩ := hB.finish p d
      exact bodyPost_ret (v := .agg #[.int .i64 p, .int .i64 d, .slice sa O.length sc]) (by simp [results, Try.results57, go_sem, v0, v1, v2]) rfl ⟨_, rfl, by rw [HL.out]; exact v3, v4⟩

end Go.Proofs.Ytpnlpmalkiaioaa
