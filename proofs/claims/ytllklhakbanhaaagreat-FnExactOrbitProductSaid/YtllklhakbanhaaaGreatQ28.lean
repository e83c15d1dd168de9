/-
  WALKS: 'impl.actionOf' and the action that it gives. Conditions: as each theorem states.
-/
import Derived.Test.YtllklhakbanhaaaGreatQ27
namespace Go.Proofs.YtllklhakbanhaaaGreat
open Go.RowKit Go.Sort Go.Maps EchM

/-- What an action has captured. -/
structure ActW (w : World) (B : Nat) (p : Int) (n : Nat) (g : Nat → Nat → Int) : Prop where
  ex : ∃ v, w.cell? ⟨B, 0, none⟩ = some v ∧ SlP w v (formsP p n g)
  lt : B < w.heap.size
theorem ActW.below {w w' : World} {B : Nat} {p : Int} {n : Nat} {g : Nat → Nat → Int} (h : ActW w B p n g) (hb : Below w.heap.size w w') : ActW w' B p n g := by
  obtain ⟨⟨v, h1, h2⟩, h3⟩ := h
  exact ⟨⟨v, (hb.cell (p := ⟨B, 0, none⟩) h3).trans h1, h2.below hb⟩, Nat.lt_of_lt_of_le h3 hb.size⟩
/-- An action of the call's own. -/
structure ActO (w : World) (base B : Nat) (p : Int) (n : Nat) (g : Nat → Nat → Int) : Prop where
  ex : ∃ gb b' F, w.cell? ⟨B, 0, none⟩ = some (.slice (some ⟨gb, 0, none⟩) n n) ∧ FormsW w b' gb n p g n F ∧ base ≤ gb ∧ base ≤ b'
  lt : B < w.heap.size
  ge : base ≤ B
theorem ActO.act {w : World} {base B : Nat} {p : Int} {n : Nat} {g : Nat → Nat → Int} (h : ActO w base B p n g) : ActW w B p n g := by
  obtain ⟨gb, b', F, h1, h2, _, _⟩ := h.ex
  exact ⟨⟨_, h1, h2.done⟩, h.lt⟩
theorem ActO.below {w w' : World} {base B : Nat} {p : Int} {n : Nat} {g : Nat → Nat → Int} (h : ActO w base B p n g) (hb : Below w.heap.size w w') : ActO w' base B p n g := by
  obtain ⟨gb, b', F, h1, h2, h3, h4⟩ := h.ex
  exact ⟨⟨gb, b', F, (hb.cell (p := ⟨B, 0, none⟩) h.lt).trans h1, h2.later hb, h3, h4⟩, Nat.lt_of_lt_of_le h.lt hb.size, h.ge⟩
theorem ActO.low {w : World} {base base' B : Nat} {p : Int} {n : Nat} {g : Nat → Nat → Int} (h : ActO w base B p n g) (hb : base' ≤ base) : ActO w base' B p n g := by
  obtain ⟨gb, b', F, h1, h2, h3, h4⟩ := h.ex
  exact ⟨⟨gb, b', F, h1, h2, Nat.le_trans hb h3, Nat.le_trans hb h4⟩, h.lt, Nat.le_trans hb h.ge⟩
theorem ActO.kept {w w' : World} {base B b : Nat} {p : Int} {n : Nat} {g : Nat → Nat → Int} (h : ActO w base B p n g) (hg : w.grownBy w' (some b)) (hb : b < base) : ActO w' base B p n g := by
  obtain ⟨gb, b', F, h1, h2, h3, h4⟩ := h.ex
  have hge := h.ge
  refine ⟨⟨gb, b', F, hg.cell h1 (by simp; omega), ⟨rowG h2.row hg (by omega), fun i hi => ?_⟩, h3, h4⟩, Nat.lt_of_lt_of_le h.lt hg.size, hge⟩
  obtain ⟨u, a, b1, c, d⟩ := h2.at' i hi
  refine ⟨u, a, b1, c, d.kept hg ?_⟩
  cases hub : u.ownBlock with
  | none => exact .inl rfl
  | some k => exact .inr (fun e => by injection e with e; have := (d.lt k hub).1; omega)
/-- An action. -/
abbrev actV (B : Nat) : Value := .func (.func 120) #[] #[.pointer (some ⟨B, 0, none⟩)]
theorem gSame {w w' : World} {b : Nat} (h : w.grownBy w' (some b)) (o : Nat) (v : Value) : w.grownBy (w'.setCell ⟨b, o, none⟩ v) (some b) :=
  ⟨h.os, h.tape, h.output, by rw [World.size_setCell]; exact h.size, fun k hk hne => (Below.heap_setCell w' ⟨b, o, none⟩ v k (fun e => hne (by rw [e]))).trans (h.block k hk hne)⟩
theorem formK_part {p : Int} {g : Nat → Nat → Int} {n j : Nat} (hp : 0 < p) (hg : ∀ i, i < 3 → 0 ≤ g i j ∧ g i j < p) {D : DataW Unit} {S : List Tm} (h : Good D S) (hf : ∀ e, byte3 e → cf D e = formK g j n e) : IsP p S (formK g j n) :=
  h.isP hf (fun e _ => formK_bound hp hg n e) (fun e _ hc => by have := formK_deg hc; omega)

set_option maxRecDepth 8000 in
set_option maxHeartbeats 32000000 in
theorem iactO (p : Int) (n : Nat) (g : Nat → Nat → Int) (w : World) (hM : MatP p n g) :
    Calls Tryz.prog 86 #[.int .i64 p, .int .i64 (n : Int), (.agg #[.int .u8 (g 0 0), .int .u8 (g 0 1), .int .u8 (g 0 2), .int .u8 (g 1 0), .int .u8 (g 1 1), .int .u8 (g 1 2), .int .u8 (g 2 0), .int .u8 (g 2 1), .int .u8 (g 2 2)])] w fun e w' =>
      ∃ B, e = .returned (actV B) ∧ ActO w' w.heap.size B p n g ∧ Below w.heap.size w w' := by
  obtain ⟨i0, hi, hz0, hz1, hz2⟩ := info_parts infoPoly
  have hn1 := hM.n1
  have hn3 := hM.n3
  have hp2 : 2 ≤ p ∧ p ≤ 13 := prime_le hM.prime
  have hn1' : (1 : Int) ≤ (n : Int) := by omega
  have hmk : ∀ w, (Instr.makeSlice 30 (.int .i64 (n : Int)) (.int .i64 (n : Int))).run Tryz.prog w = .ok (.slice (some ⟨w.heap.size, 0, none⟩) n n) (w.alloc (.cells (madeP n) 39)) := fun w => by
    have h := run_make (P := Tryz.prog) w 30 39 i0 _ Tryz.underlying30 hi hz0 .i64 .i64 (n : Int) (n : Int) (by omega) (by omega) (by rw [hz2]; omega) (by omega)
    rw [hz1] at h
    simpa [madeP] using h
  clear hi hz0 hz1 hz2
  obtain ⟨W, hW, hbW, rg⟩ : ∃ W, W = w.alloc (.cells #[.int .u8 (g 0 0), .int .u8 (g 0 1), .int .u8 (g 0 2), .int .u8 (g 1 0), .int .u8 (g 1 1), .int .u8 (g 1 2), .int .u8 (g 2 0), .int .u8 (g 2 1), .int .u8 (g 2 2)] 98) ∧ Below w.heap.size w W ∧ W.rowIs w.heap.size 98 9 (mF g) := ⟨_, rfl, ebox1 _ _, mbox w g _⟩
  have hmkW := hmk W
  obtain ⟨X, hX, hbX, hXs, rX⟩ : ∃ X, X = W.alloc (.cells (madeP n) 39) ∧ Below W.heap.size W X ∧ X.heap.size = W.heap.size + 1 ∧ X.rowIs W.heap.size 39 (n * 3) (fun i => (madeP n).getD i undef) := ⟨_, rfl, box1 _ _, by simp, madeP_row W n _⟩
  rw [← hX] at hmkW
  obtain ⟨Y, hY, hbY, hYs, cY⟩ : ∃ Y, Y = X.alloc (.cells #[.slice (some ⟨W.heap.size, 0, none⟩) n n] 30) ∧ Below X.heap.size X Y ∧ Y.heap.size = X.heap.size + 1 ∧ Y.cell? ⟨X.heap.size, 0, none⟩ = some (.slice (some ⟨W.heap.size, 0, none⟩) n n) := ⟨_, rfl, box1 _ _, by simp, (World.rowIs_alloc X #[Value.slice (some ⟨W.heap.size, 0, none⟩) n n] 30 (fun _ => .slice (some ⟨W.heap.size, 0, none⟩) n n) (fun i hi => by simp at hi; subst hi; rfl)).cell (i := 0) (by simp)⟩
  have hbWY := hbX.trans (hbY.mono hbX.size)
  have hbwY := hbW.trans (hbWY.mono hbW.size)
  have hf0 : FormsW Y Y.heap.size W.heap.size n p g 0 (fun i => (madeP n).getD i undef) := ⟨rowIs_below rX hbY rX.lt, fun i hi => by omega⟩
  have rgY := rowIs_below rg hbWY rg.lt
  have hWw : w.heap.size < W.heap.size := rg.lt
  go_enter Tryz.func86, Tryz.ntmps86
  go_upto_region 1 with fail
  rw [← hW]
  clear hW
  go_upto_region 2 with fail
  try rw [← hX]
  rw [← hY]
  clear hY hX hmkW
  have HMK := Lib.hid hM
  rw [hXs] at cY
  have hY2 : W.heap.size + 2 ≤ Y.heap.size := by omega
  clear hmk hbX hbY hbWY rX rg hM hbW hYs hXs
  go_wp2_with fail
  go_loopw [15] (fun jv wr => ∃ (j : Nat) (F : Nat → Value), j ≤ n ∧ jv = .int .i64 j ∧ FormsW wr Y.heap.size W.heap.size n p g j F ∧ Y.grownBy wr (some W.heap.size)) (fun jv _ => n - (intOf jv).toNat)
  case atStart => exact ⟨0, _, by omega, rfl, hf0, World.grownBy.refl _ _⟩
  case round =>
    clear hf0
    obtain ⟨j, F, hj, rfl, hF, hgr⟩ := hrel
    obtain ⟨wo, rfl⟩ : ∃ wo : World, wo = wr := ⟨_, rfl⟩
    by_cases hlj : j < n
    · have hlj' : (j : Int) < (n : Int) := by omega
      have hj3 : j < 3 := by omega
      have hj3' : (j : Int) < 3 := by omega
      have HG := Lib.hid (fun (i : Nat) (hi : i < 3) => HMK.out.num i hi j hj3)
      have HFL := Lib.hid (HMK.out.form hlj)
      have hmm := @run_makeMap Tryz.prog
      have hm := World.ownsMap_made (H := Unit) wo Tryz.prog 88 (plainElem Tryz.prog 2)
      obtain ⟨V, hV1, hbV, hVs1⟩ : ∃ V, V = wo.alloc (.map #[] 0) ∧ Below wo.heap.size wo V ∧ wo.heap.size + 1 ≤ V.heap.size := ⟨_, rfl, box1 _ _, by simp⟩
      rw [← hV1] at hm
      go_wp2_with fail
      rw [← hV1]
      clear hV1 hmm
      have rgo := rowG rgY hgr (by omega)
      go_loopw [20] (fun iv wr => ∃ (i n2 : Nat) (E : DataW Unit), i ≤ n ∧ iv = .int .i64 i ∧ n2 ≤ i ∧ Hid (∀ e, byte3 e → cf E e = formK g j i e) ∧ MapE wr wo.heap.size n2 E ∧ Below wo.heap.size wo wr) (fun iv _ => n - (intOf iv).toNat)
      case atStart => exact ⟨0, 0, _, by omega, rfl, by omega, Lib.hid (fun e _ => by rw [cf_empty, formK_zero]), hm, hbV⟩
      case round =>
        clear hm hbV
        obtain ⟨i, n2, E, hi, rfl, hn2, HE, hME, hbr⟩ := hrel
        by_cases hli : i < n
        · have hli' : (i : Int) < (n : Int) := by omega
          have hi3 : i < 3 := by omega
          have hi3' : (i : Int) < 3 := by omega
          obtain ⟨g0, g1⟩ := HG.out i hi3
          have ra := World.rowIs_alloc wr #[Value.int .u8 0, .int .u8 0, .int .u8 0] 88 (expsF 0 0 0) (fun i hi => by simp at hi; match i, hi with | 0, _ => rfl | 1, _ => rfl | 2, _ => rfl)
          obtain ⟨A2, hA2⟩ : ∃ A2, A2 = wr.alloc (.cells #[.int .u8 0, .int .u8 0, .int .u8 0] 88) := ⟨_, rfl⟩
          obtain ⟨V2, hV2, hbV2, ru⟩ : ∃ V2, V2 = A2.setCell ⟨wr.heap.size, i, none⟩ (.int .u8 1) ∧ Below wr.heap.size wr V2 ∧ V2.rowIs wr.heap.size 88 3 (expsF (unE i).1 (unE i).2.1 (unE i).2.2) := ⟨_, rfl, by rw [hA2]; exact (box1 wr _).setCell (by simp) _, by rw [hA2]; exact unE_row hi3⟩
          replace ra : A2.rowIs wr.heap.size 88 3 (expsF 0 0 0) := by rw [hA2]; exact ra
          have z0 := nthX_cell ra hi3
          have z1 := ra.frozen i
          have rg2 := rowIs_below (rowIs_below rgo hbr rgo.lt) hbV2 (Nat.lt_of_lt_of_le rgo.lt hbr.size)
          have hmu := unE_mono hi3
          obtain ⟨ux, hux⟩ : ∃ ux, (unE i).1 = ux := ⟨_, rfl⟩
          obtain ⟨uy, huy⟩ : ∃ uy, (unE i).2.1 = uy := ⟨_, rfl⟩
          obtain ⟨uz, huz⟩ : ∃ uz, (unE i).2.2 = uz := ⟨_, rfl⟩
          have hun : unE i = (ux, uy, uz) := by rw [← hux, ← huy, ← huz]
          have HD2 : Hid (∀ e, byte3 e → cf (E.put (kE (ux, uy, uz)) (.lit (.int .i64 (g i j)))) e = formK g j (i + 1) e) := Lib.hid (fun e he => by
            rw [cf_put hME.isMap (by rw [← hun]; exact hmu.1) he, formK_step g j i hi3, hun, HE.out e he])
          rw [hux, huy, huz] at ru
          have hkey : keyOf Tryz.prog 88 (.agg #[.int .u8 ux, .int .u8 uy, .int .u8 uz]) = some (kE (ux, uy, uz)) := keyOf_vE (ux, uy, uz) (by rw [← hun]; exact hmu.1)
          have hMm : MapE V2.drew wo.heap.size n2 E := (hME.later hbV2).later (Below.same _).drew
          have u0 : V2.drew.cell? ⟨wr.heap.size, 0, none⟩ = some (.int .u8 ux) := ru.cell (i := 0) (by omega)
          have u1 : V2.drew.cell? ⟨wr.heap.size, 1, none⟩ = some (.int .u8 uy) := ru.cell (i := 1) (by omega)
          have u2 : V2.drew.cell? ⟨wr.heap.size, 2, none⟩ = some (.int .u8 uz) := ru.cell (i := 2) (by omega)
          have c0 : V2.drew.cell? ⟨w.heap.size, i * 3 + j, none⟩ = some (.int .u8 (g i j)) := mcell rg2 hi3 hj3
          have hbr2 := (hbr.trans (hbV2.mono hbr.size)).drew
          have hml : n2 < maxLen := by unfold maxLen; omega
          have hwg : IntKind.i64.wrap (g i j) = g i j := IntWalk.i64_in _ (by omega)
          clear hun hux huy huz hmu ru rg2 hME hbV2 HE
          go_upto_region 10 with fail
          rw [← hA2]
          clear hA2
          go_upto_region 11 with fail
          rw [← hV2]
          clear hV2 z0 z1 ra
          refine region_tail 8 (by kernel_rfl) (by kernel_rfl) ?_
          simp only [List.take_succ_cons, List.take_zero, List.drop_succ_cons, List.drop_zero]
          repeat still_step
          refine wpStill_nil ?_
          try simp only [hwg]
          go_wp2_with (at_mapUpdate; refine wpList_mapUpdate_own _ rfl _ _ _ 110 rfl 88 2 lawK Tryz.underlying110 (plainElem Tryz.prog 2) wo.heap.size n2 E rfl hMm hml (.agg #[.int .u8 ux, .int .u8 uy, .int .u8 uz]) _ _ rfl rfl hkey _ [] (plainElem_int Tryz.underlying2 (wf64 g0 (by omega))) ?_; intro w2 hown2 hgrow2)
          have hb4 : Below wo.heap.size wo w2 := hbr2.grown hgrow2 hbr2.size (fun g e => by simp at e; omega)
          go_roundw
          case rel => exact ⟨i + 1, _, _, by omega, by go_num, by omega, HD2, hown2, hb4⟩
          case measure => simp [intOf]; omega
        · obtain rfl : i = n := by omega
          have hgo := (hgr.trans (gBelow hbr))
          have hFr := hF.later hbr
          have cYr : wr.cell? ⟨W.heap.size + 1, 0, none⟩ = some (.slice (some ⟨W.heap.size, 0, none⟩) i i) := (hgo.cell_far ⟨W.heap.size + 1, 0, none⟩ (by show W.heap.size + 1 < Y.heap.size; omega) (by first | (simp; done) | (simp; omega))).trans cY
          have HPO := Lib.hid (fun w (hME : MapE w wo.heap.size n2 E) => polyOf_any sort_says p (i : Int) wo.heap.size n2 E w hME (by omega) (fun e he hc => by
            rw [HE.out e he] at hc
            have := formK_deg hc
            omega))
          have HGD := Lib.hid (fun (S : List Tm) (h : Good E S) => show S = formL g j from (formK_part (by omega) HG.out h HE.out).unique HFL.out)
          have hMd : MapE wr.drew wo.heap.size n2 E := hME.later (Below.same _).drew
          have hXw : (W.heap.size + 1) < wr.heap.size := by have := hgo.size; omega
          have KK := Lib.hid (fun w' (h : Below wr.heap.size wr w') => show (w'.cell? ⟨W.heap.size + 1, 0, none⟩ = some (.slice (some ⟨W.heap.size, 0, none⟩) i i)) from (h.cell (p := ⟨W.heap.size + 1, 0, none⟩) hXw).trans cYr)
          have hXW : (W.heap.size + 1) ≠ W.heap.size := by omega
          have KS := Lib.hid (fun w' (h : Below wr.heap.size wr w') (u0 u1 u2 : Value) => show ((((w'.setCell ⟨W.heap.size, j * 3, none⟩ u0).setCell ⟨W.heap.size, j * 3 + 1, none⟩ u1).setCell ⟨W.heap.size, j * 3 + 2, none⟩ u2).cell? ⟨W.heap.size + 1, 0, none⟩ = some (.slice (some ⟨W.heap.size, 0, none⟩) i i)) from by
            have q : (((w'.setCell ⟨W.heap.size, j * 3, none⟩ u0).setCell ⟨W.heap.size, j * 3 + 1, none⟩ u1).setCell ⟨W.heap.size, j * 3 + 2, none⟩ u2).cell? ⟨W.heap.size + 1, 0, none⟩ = w'.cell? ⟨W.heap.size + 1, 0, none⟩ := by
              unfold World.cell?
              rw [Below.heap_setCell _ ⟨W.heap.size, j * 3 + 2, none⟩ u2 (W.heap.size + 1) hXW, Below.heap_setCell _ ⟨W.heap.size, j * 3 + 1, none⟩ u1 (W.heap.size + 1) hXW, Below.heap_setCell _ ⟨W.heap.size, j * 3, none⟩ u0 (W.heap.size + 1) hXW]
            exact q.trans (KK.out w' h))
          have hYo : Y.heap.size ≤ wr.heap.size := hgo.size
          clear HE hME hbr
          go_upto_region 13 with fail
          clear cYr
          go_region_held3 (fun w' => (w'.cell? ⟨W.heap.size + 1, 0, none⟩ = some (.slice (some ⟨W.heap.size, 0, none⟩) i i)))
            (first | with_reducible exact KS.out _ HB13 _ _ _ | with_reducible exact KK.out _ (Below.same _).drew | with_reducible exact KK.out _ HB13)
            ((go_at_call 95; (with_reducible refine (HPO.out _ hMd).mono ?_); rintro e w13 ⟨v13, S13, rfl, ho13, hg13, hb13⟩; have HB13 : Below wr.heap.size wr w13 := (Below.same _).drew.trans hb13; (obtain rfl := HGD.out S13 hg13); (obtain ⟨sa13, sc13, rfl⟩ := owns_slice ho13); have hF13 := hFr.later HB13; (obtain ⟨f130, f131, f132⟩ : w13.frozen? ⟨W.heap.size, j * 3, none⟩ = false ∧ w13.frozen? ⟨W.heap.size, j * 3 + 1, none⟩ = false ∧ w13.frozen? ⟨W.heap.size, j * 3 + 2, none⟩ = false := ⟨hF13.row.frozen _, hF13.row.frozen _, hF13.row.frozen _⟩); (have e130 := hF13.row.cell (i := j * 3) (by omega)); (have e131 := hF13.row.cell (i := j * 3 + 1) (by omega)); (have e132 := hF13.row.cell (i := j * 3 + 2) (by omega))))
          all_goals
            have hFN := hF13.put ho13 hYo
            have hGN := gSame (gSame (gSame (hgo.trans (gBelow HB13)) (j * 3) (.int .i64 p)) (j * 3 + 1) (.int .i64 (i : Int))) (j * 3 + 2) (.slice sa13 (formL g j).length sc13)
            clear hF13 ho13 hFr hF KK KS f130 f131 f132 e130 e131 e132
            go_wp2_with fail
            go_roundw
            case rel => exact ⟨j + 1, _, by omega, by go_num, hFN, hGN⟩
            case measure => simp [intOf]; omega
    · obtain rfl : j = n := by omega
      have cYo : wo.cell? ⟨W.heap.size + 1, 0, none⟩ = some (.slice (some ⟨W.heap.size, 0, none⟩) j j) := (hgr.cell_far ⟨W.heap.size + 1, 0, none⟩ (by show W.heap.size + 1 < Y.heap.size; omega) (by first | (simp; done) | (simp; omega))).trans cY
      have hlt : W.heap.size + 1 < wo.heap.size := by have := hgr.size; omega
      have hend : Below w.heap.size w wo := hbwY.grown hgr hbwY.size (fun g e => by simp at e; omega)
      have HA : Hid (ActO wo w.heap.size (W.heap.size + 1) p j g) := Lib.hid ⟨⟨_, _, _, cYo, hF, by omega, by omega⟩, hlt, by omega⟩
      clear hF
      go_wp2_with fail
      go_ret
      exact ⟨_, rfl, HA.out, hend⟩
theorem iact (p : Int) (n : Nat) (g : Nat → Nat → Int) (w : World) (hM : MatP p n g) :
    Calls Tryz.prog 86 #[.int .i64 p, .int .i64 (n : Int), (.agg #[.int .u8 (g 0 0), .int .u8 (g 0 1), .int .u8 (g 0 2), .int .u8 (g 1 0), .int .u8 (g 1 1), .int .u8 (g 1 2), .int .u8 (g 2 0), .int .u8 (g 2 1), .int .u8 (g 2 2)])] w fun e w' =>
      ∃ B, e = .returned (actV B) ∧ ActW w' B p n g ∧ Below w.heap.size w w' ∧ w.heap.size ≤ B :=
  (iactO p n g w hM).mono fun _ _ ⟨B, h1, h2, h3⟩ => ⟨B, h1, h2.act, h3, h2.ge⟩
end Go.Proofs.YtllklhakbanhaaaGreat
