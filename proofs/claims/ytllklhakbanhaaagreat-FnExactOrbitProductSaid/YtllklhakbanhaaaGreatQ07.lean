/-
  WALKS: 'spec.l01Plus'. Conditions: as each theorem states.
-/
import Derived.Test.YtllklhakbanhaaaGreatQ05
import Derived.Test.YtllklhakbanhaaaGreatQ06
namespace Go.Proofs.YtllklhakbanhaaaGreat
open Go.RowKit Go.Sort

theorem cells4_terms {w : World} {b off : Nat} {ts : List Tm} (hT : Terms w b off ts) : ∀ j u, (cells4 ts)[j]? = some u → w.cell? ((⟨b, off, none⟩ : Addr).add j) = some u := by
  intro j u hu
  have hadd : (⟨b, off, none⟩ : Addr).add j = ⟨b, off + j, none⟩ := by unfold Addr.add; split <;> simp_all
  rw [hadd]
  have key : ∀ (l : List Tm) (o : Nat), Terms w b o l → ∀ j u, (cells4 l)[j]? = some u → w.cell? ⟨b, o + j, none⟩ = some u := fun l => by
    induction l with
    | nil => intro o _ j u h; simp [cells4] at h
    | cons t r ih =>
      intro o h j u hu
      have h0 := h 0 (by simp)
      simp only [Nat.zero_mul, Nat.add_zero, List.getElem_cons_zero] at h0
      have hr : Terms w b (o + 4) r := fun k hk => by
        have := h (k + 1) (by simp; omega)
        simp only [List.getElem_cons_succ] at this
        rwa [show o + (k + 1) * 4 = o + 4 + k * 4 by omega] at this
      match j, hu with
      | 0, hu => simp [cells4, cell4] at hu; subst hu; exact h0.1
      | 1, hu => simp [cells4, cell4] at hu; subst hu; exact h0.2.1
      | 2, hu => simp [cells4, cell4] at hu; subst hu; exact h0.2.2.1
      | 3, hu => simp [cells4, cell4] at hu; subst hu; exact h0.2.2.2
      | j + 4, hu =>
        have hu' : (cells4 r)[j]? = some u := by simpa [cells4, cell4] using hu
        have := ih (o + 4) hr j u hu'
        rwa [show o + 4 + j = o + (j + 4) by omega] at this
  exact key ts off hT j u hu
theorem cells4_one (ts : List Tm) : ∀ u ∈ cells4 ts, u.oneCell' = true := by
  intro u hu
  simp only [cells4, List.mem_flatMap] at hu
  obtain ⟨t, _, h⟩ := hu
  simp [cell4] at h
  rcases h with rfl | rfl | rfl | rfl <;> rfl

/-- All terms of a slice put behind those of a list of the call's own. -/
theorem wpList_append_terms (w : World) {ops : Array Oper} {rest : List Oper} {o : Oper} {a : Act} {Q : Exit → Act → World → Prop} (hgd : o.guard = none) (s x : Operand)
    (ho : o.op = .call { callee := .builtin .append, args := #[s, x], argTypes := #[37, 37] })
    (base : Nat) (v : Value) (n : Nat) (xs : List Value) (hs : a.eval s = v) (hown : w.ownsRow base 90 4 v n xs)
    (v2 : Value) (ts : List Tm) (hx : a.eval x = v2) (hS : SliceT w v2 ts) (h63 : n + ts.length ≤ 8388608) (hbase : base ≤ w.heap.size)
    (h : ∀ v' w', w'.ownsRow base 90 4 v' (n + ts.length) (xs ++ cells4 ts) → w.grownBy w' v.ownBlock → wpList Tryz.prog ops Q rest (a.put o.dst v') w') : wpList Tryz.prog ops Q (o :: rest) a w := by
  obtain ⟨i0, hi, hz0, hz1, hz2⟩ := info_parts infoTerm
  obtain ⟨A, cap, rfl, hcase⟩ := hS
  rcases A with _ | ad
  · have hn : ts = [] := by
      rcases hcase with h | ⟨b, off, h, _⟩
      · exact h
      · cases h
    subst hn
    refine wpList_plain hgd fun K hK => ?_
    have hrun : ∀ ty, (Builtin.append_ #[37, 37] ty #[v, .slice none 0 cap]).run Tryz.prog w = .ok v w := fun ty => by
      rcases hown.2 with ⟨rfl, rfl⟩ | ⟨g, c, cur, rfl, _, _, hnc, _⟩
      · simp [Builtin.append_, run_underlying Tryz.underlying37, sizeOf, typeInfo, hi, Builtin.lenOf, Builtin.firstCells]
      · simp [Builtin.append_, run_underlying Tryz.underlying37, sizeOf, typeInfo, hi, Builtin.lenOf, Builtin.firstCells, hnc, storeCells]
    unfold Oper.wp execOp
    simp only [ho, resolve, invoke, builtin, Sem.run_bind, Sem.run_pure, Result.andThen_ok, List.map_toArray, List.map_cons, List.map_nil, hs, hx]
    rw [show (List.length ([] : List Tm)) = 0 from rfl, hrun]
    exact hK _ _ (h v w (by simpa [cells4] using hown) (World.grownBy.refl w _))
  · refine wpList_append_own w hgd s x 37 ho base 90 i0 _ 4 16 Tryz.underlying37 hi hz0 hz1 hz2 rfl (by decide) v n xs hs hown ad ts.length cap (cells4 ts) hx (cells4_len ts) ?_ (cells4_one ts) (by unfold maxLen; omega) (by omega) hbase fun v' w' h1 h2 _ => h v' w' h1 h2
    intro j u hu
    rcases hcase with rfl | ⟨b, off, hA, hlt, hT⟩
    · simp [cells4] at hu
    · simp at hA
      subst hA
      exact cells4_terms hT j u hu

/-- A polynomial in the making, beside the boxes of two arguments. -/
structure Part2 (w wr : World) (base q a a2 r : Nat) (p d p' d' : Int) (xv yv sv : Value) (O : List Tm) : Prop where
  part : Part w wr base q a r p d xv sv O
  arg2 : wr.rowIs a2 39 3 (polyF p' d' yv)
  qa2 : a2 ≠ q
theorem Part2.later {w wr w1 : World} {base q a a2 r : Nat} {p d p' d' : Int} {xv yv sv : Value} {O : List Tm} (h : Part2 w wr base q a a2 r p d p' d' xv yv sv O) (hb : Below wr.heap.size wr w1) : Part2 w w1 base q a a2 r p d p' d' xv yv sv O :=
  ⟨h.part.later hb, rowIs_below h.arg2 hb h.arg2.lt, h.qa2⟩
theorem Part2.put {w wr w2 : World} {base base2 q a a2 r : Nat} {p d p' d' : Int} {xv yv sv v2 : Value} {O O2 : List Tm} (h : Part2 w wr base q a a2 r p d p' d' xv yv sv O) (hb : Below wr.heap.size wr w2) (ho : OwnP w2 base2 v2 O2) (hb2 : base ≤ base2) :
    Part2 w (((w2.setCell ⟨q, 0, none⟩ (.int .i64 p)).setCell ⟨q, 1, none⟩ (.int .i64 d)).setCell ⟨q, 2, none⟩ v2) base q a a2 r p d p' d' xv yv v2 O2 :=
  ⟨h.part.put hb ho hb2, (((rowIs_below h.arg2 hb h.arg2.lt).setOther (by simpa using fun e => h.qa2 e) _).setOther (by simpa using fun e => h.qa2 e) _).setOther (by simpa using fun e => h.qa2 e) _, h.qa2⟩
theorem Part2.moreL {w wr w2 : World} {base q a a2 r : Nat} {p d p' d' : Int} {xv yv sv sv' : Value} {O ts : List Tm} (h : Part2 w wr base q a a2 r p d p' d' xv yv sv O)
    (hg : wr.grownBy w2 sv.ownBlock) (ho : w2.ownsRow base 90 4 sv' (O.length + ts.length) (cells4 O ++ cells4 ts)) : Part2 w (w2.setCell ⟨q, 2, none⟩ sv') base q a a2 r p d p' d' xv yv sv' (O ++ ts) ∧ w2.rowIs q 39 3 (polyF p d sv) := by
  have h1 := h.part
  have hn1 : 39 ≠ 90 := by decide
  have r1 := rowIs_grown h1.out hg h1.rows hn1
  have r2 := rowIs_grown h1.arg hg h1.rows hn1
  have r3 := rowIs_grown h.arg2 hg h1.rows hn1
  have r4 := rowIs_grown h1.res hg h1.rows hn1
  refine ⟨⟨⟨?_, ?_, r2.setOther (by simpa using fun e => h1.qa e) _, r4.setOther (by simpa using fun e => h1.qr e) _, ?_, h1.b1, ?_, h1.b3, h1.b4, h1.qa, h1.qr⟩, r3.setOther (by simpa using fun e => h.qa2 e) _, h.qa2⟩, r1⟩
  · rw [show cells4 (O ++ ts) = cells4 O ++ cells4 ts by simp [cells4], show (O ++ ts).length = O.length + ts.length by simp]
    exact ho.kept (row := some q) ⟨rfl, rfl, rfl, by rw [World.size_setCell]; exact Nat.le_refl _, fun k hk hne => Below.heap_setCell w2 ⟨q, 2, none⟩ sv' k (fun e => hne (by rw [e]))⟩ (own_ne r1 ho hn1)
  · refine (r1.set 2 sv').congr fun i hi => ?_
    rw [congrFun (polyF_set p d sv sv') i, if_pos hi]
  · have hb1 := h1.b1
    have hb3 := h1.b3
    exact (h1.below.grown hg (Nat.le_trans hb1 h1.b2) (fun k hk => Nat.le_trans hb1 (h1.rows.lt k hk).1)).setCell (by simpa using hb3) _
  · rw [World.size_setCell]; exact Nat.le_trans h1.b2 hg.size

set_option maxRecDepth 8000 in
set_option maxHeartbeats 8000000 in
theorem specPlus (p d k : Int) (v v' : Value) (xs ys : List Tm) (f : Int × Int × Int → Int) (w : World) (hS : SliceT w v xs) (hS' : SliceT w v' ys) (hP : IsP p xs f) (hV : Valid p d ys) (hk0 : 0 ≤ k) (hk1 : k < p) :
    Calls Tryz.prog 93 #[.agg #[.int .i64 p, .int .i64 d, v], .agg #[.int .i64 p, .int .i64 d, v'], .int .i64 k] w fun e w' =>
      ∃ v' L, e = .returned (.agg #[.int .i64 p, .int .i64 d, v']) ∧ OwnP w' w.heap.size v' L ∧ IsP p L (fun e => (f e + k * atL ys e) % p) ∧ Below w.heap.size w w' := by
  have hp2 := hV.p2
  have hp13 := hV.p13
  have hlx := hP.len
  have hly := hV.isP.len
  obtain ⟨a, cap, rfl, _⟩ := id hS
  obtain ⟨a', cap', rfl, _⟩ := id hS'
  obtain ⟨W, hW, hbW, ⟨hWs1, hWs2⟩, rx, ry, rr⟩ := pair3 w p d (.slice a xs.length cap) p d (.slice a' ys.length cap')
  obtain ⟨⟨c0, c1, c2⟩, _⟩ := poly3 rx
  go_enter Tryz.func93, Tryz.ntmps93
  go_wp2_with fail
  rw [← hW]
  clear hW c0 c1 c2
  ((with_reducible refine (empty_any p d W).mono ?_); rintro e w1 ⟨rfl, hown, hb1⟩)
  obtain ⟨V, hV1, hbV, ⟨hVs1, hVs2⟩, rq⟩ : ∃ V, V = w1.alloc (.cells #[.int .i64 p, .int .i64 d, .slice (some ⟨W.heap.size + 1, 0, none⟩) 0 0] 39) ∧ Below w1.heap.size w1 V ∧ (V.heap.size ≤ w1.heap.size + 1 ∧ w1.heap.size + 1 ≤ V.heap.size) ∧
      V.rowIs w1.heap.size 39 3 (polyF p d (.slice (some ⟨W.heap.size + 1, 0, none⟩) 0 0)) := by
    refine ⟨_, rfl, box1 _ _, ⟨by simp, by simp⟩, ?_⟩
    exact World.rowIs_alloc w1 #[Value.int .i64 p, .int .i64 d, .slice (some ⟨W.heap.size + 1, 0, none⟩) 0 0] _ _ (fun i hi => by simp at hi; match i, hi with | 0, _ => rfl | 1, _ => rfl | 2, _ => rfl)
  have s1 := hb1.size
  have hbWV := hb1.trans (hbV.mono hb1.size)
  have hst : Part2 w V W.heap.size w1.heap.size w.heap.size (w.heap.size + 1) (w.heap.size + 2) p d p d (.slice a xs.length cap) (.slice a' ys.length cap') (.slice (some ⟨W.heap.size + 1, 0, none⟩) 0 0) [] :=
    ⟨⟨owns_belowT hown hbV, rq, rowIs_below rx hbWV rx.lt, rowIs_below rr hbWV rr.lt, hbW.trans (hbWV.mono hbW.size), by omega, by omega, by omega, by omega, by omega, by omega⟩, rowIs_below ry hbWV ry.lt, by omega⟩
  have rx1 := rowIs_below rx hb1 rx.lt
  have xo : ∀ o, (w1.alloc o).cell? ⟨w.heap.size, 2, none⟩ = some (.slice a xs.length cap) := fun o => ((box1 w1 o).cell rx1.lt).trans (poly3 rx1).1.2.2
  have hSV := (hS.below hbW).below hbWV
  have hbV2 := hst.part.b2
  clear rx ry rr rq hown rx1
  go_wp2_with (at_builtin; rw [← hV1]; refine wpList_append_terms _ rfl _ _ rfl W.heap.size (.slice (some ⟨W.heap.size + 1, 0, none⟩) 0 0) 0 [] rfl hst.part.rows (.slice a xs.length cap) xs rfl hSV (by omega) hbV2 ?_)
  intro v3 w3 hown3 hgrow3
  rw [← hV1] at hgrow3
  obtain ⟨hst3, r3⟩ := hst.moreL (ts := xs) hgrow3 (by simpa [cells4] using hown3)
  rw [List.nil_append] at hst3
  obtain ⟨sa3, sc3, rfl⟩ := owns_slice hown3
  have hfz3 := r3.frozen 2
  have hcl3 : w3.cell? ⟨w1.heap.size, 2, none⟩ = some (.slice (some ⟨W.heap.size + 1, 0, none⟩) 0 0) := r3.cell (i := 2) (by omega)
  have hbV3 := hst3.part.below
  clear hV1 xo hown3 hgrow3 r3 hst hSV hbV2
  go_wp2_with fail
  go_loopw [8] (fun j wr => ∃ (i : Nat) (sv : Value) (O : List Tm), i ≤ ys.length ∧ j = .int .i64 i ∧ Hid (IsP p O (fun e => (f e + k * atL (ys.take i) e) % p)) ∧ Part2 w wr W.heap.size w1.heap.size w.heap.size (w.heap.size + 1) (w.heap.size + 2) p d p d (.slice a xs.length cap) (.slice a' ys.length cap') sv O) (fun j _ => ys.length - (intOf j).toNat)
  case atStart => exact ⟨0, _, _, by omega, rfl, Lib.hid (hP.congr fun e he => by simp [atL]; exact (Int.emod_eq_of_lt (hP.bound (by omega) he).1 (hP.bound (by omega) he).2).symm), hst3⟩
  case round =>
    clear hst3 hfz3 hcl3
    obtain ⟨i, sv, O, hi, rfl, HO, hB⟩ := hrel
    have hSr := hS'.below hB.part.below
    obtain ⟨sa, sc, rfl⟩ := owns_slice hB.part.rows
    obtain ⟨⟨m0, m1, m2⟩, _⟩ := poly3 hB.arg2
    obtain ⟨⟨q0, q1, q2⟩, z0, z1, z2⟩ := poly3 hB.part.out
    by_cases hlt1 : i < ys.length
    · have hlt' : (i : Int) < (ys.length : Int) := by omega
      obtain ⟨A', cap2, hv', hcase⟩ := hSr
      simp at hv'
      obtain ⟨rfl, rfl⟩ := hv'
      rcases hcase with h0 | ⟨b, off, rfl, hltb, hTr⟩
      · rw [h0] at hlt1; exact absurd hlt1 (by simp)
      obtain ⟨c0, c1, c2, c3⟩ := hTr i hlt1
      obtain ⟨⟨⟨bx, by1, bz⟩, hs12⟩, bv1, bv2⟩ := hV.mem ys[i] (List.getElem_mem _)
      have hd1 := Lib.hid (fun e => plus_step (p := p) (k := k) (f := f) hV.asc i hlt1 e)
      have hE : mono12 (tmE ys[i]) := ⟨⟨bx, by1, bz⟩, hs12⟩
      have HP : Hid (IsP p (putL p O (tmE ys[i]) (k * ys[i].2.2.2)) (fun e => (f e + k * atL (ys.take (i + 1)) e) % p)) := Lib.hid ((HO.out.put hp2 hE (k * ys[i].2.2.2)).congr fun e he => by
        rw [hd1.out e]
        by_cases hx : e = tmE ys[i]
        · rw [if_pos hx, if_pos hx, atL_take_new hV.asc i hlt1]
          simp [Int.add_comm]
        · rw [if_neg hx, if_neg hx])
      simp only [tmE] at bx by1 bz HP
      generalize hx : ys[i].1 = x at *
      generalize hy : ys[i].2.1 = y at *
      generalize hz : ys[i].2.2.1 = z at *
      generalize hvv : ys[i].2.2.2 = u at *
      have hE1 : byte3 (x, y, z) := ⟨bx, by1, bz⟩
      have g1 : 0 ≤ k * u := Int.mul_nonneg (by omega) (by omega)
      have g2 : k * u ≤ 13 * 13 := Int.mul_le_mul (by omega) (by omega) (by omega) (by omega)
      have hw : IntKind.i64.wrap (k * u) = k * u := IntWalk.i64_in _ (by omega)
      clear hd1 hE hV hS hS' hTr hP z0 z1 z2
      go_wp2_with fail
      refine region_tail 15 (by kernel_rfl) (by kernel_rfl) ?_
      simp only [List.take_succ_cons, List.take_zero, List.drop_succ_cons, List.drop_zero]
      repeat still_step
      refine wpStill_nil ?_
      go_wp2_with fail
      have hBU := hB.later (Below.same wr).drew
      ((with_reducible refine (specPut p d _ O _ _ _ _ _ _ (OwnP.slice hBU.part.rows) HO.out hp2 hp13 hE1 g1 (by omega)).mono ?_); rintro e w2 ⟨v2, rfl, ho2, hb2⟩)
      obtain ⟨sa2, sc2, rfl⟩ := owns_slice ho2
      have hU2 := hBU.later hb2
      have hB3 := hBU.put hb2 ho2 hBU.part.b2
      obtain ⟨⟨j0, j1, j2⟩, jz0, jz1, jz2⟩ := poly3 hU2.part.out
      clear ho2 hBU hB HO q0 q1 q2
      go_wp2_with fail
      go_roundw
      case rel => exact ⟨i + 1, _, _, by omega, by go_num, HP, hB3⟩
      case measure => simp [intOf]; omega
    · obtain rfl : i = ys.length := by omega
      obtain ⟨⟨r0, r1, r2⟩, y0, y1, y2⟩ := poly3 hB.part.res
      have hD := HO.out
      rw [List.take_length] at hD
      obtain ⟨a0, a1, a2, a3, a4⟩ := hB.part.finish p d
      clear hSr HO hV hP z0 z1 z2
      go_wp2_with fail
      exact bodyPost_ret (v := .agg #[.int .i64 p, .int .i64 d, .slice sa O.length sc]) (by simp [results, Tryz.results93, go_sem, a0, a1, a2]) rfl ⟨_, O, rfl, a3, hD, a4⟩
end Go.Proofs.YtllklhakbanhaaaGreat
