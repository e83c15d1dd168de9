/-
  ACTIONS: what a matrix makes of the letters, in memory. Conditions: as each theorem states.
  WALKS: 'impl.actionOf' and the action that it gives. Conditions: as each theorem states.
  WALKS: an action at a polynomial. Conditions: as each theorem states.
  SUBSTITUTIONS, the model: what stands in memory. Conditions: as each theorem states.
  WALKS: 'spec.l03Letters'. Conditions: as the theorem states.
  WALKS: 'spec.l03Letters'. Conditions: as the theorem states.
-/
import Derived.Test.YtadcbfngmgclaaaP13
import Derived.Test.YtadcbfngmgclaaaP19
import Derived.Test.YtadcbfngmgclaaaP26
import Derived.Test.YtadcbfngmgclaaaP15
import Derived.Test.YtadcbfngmgclaaaP17
import Derived.Test.YtadcbfngmgclaaaP10
import Derived.Test.YtadcbfngmgclaaaP07
import Derived.Deep.DeepCutAuto
import Derived.Deep.RegionHeld3
namespace Go.Proofs.Ytadcbfngmgclaaa
open Go.RowKit Go.Sort Go.Maps EchM

theorem infoPoly : (Try.prog.info? 30).map (fun i => (i.zero, i.size, i.bytes)) = some (some (.agg #[.int .i64 0, .int .i64 0, .slice none 0 0]), 3, 40) := by kernel_rfl
def madeP (n : Nat) : Array Value := madeCells (Value.agg #[.int .i64 0, .int .i64 0, .slice none 0 0]).cells (n * 3)
theorem madeP_row (w : World) (n : Nat) (t : TypeId) : (w.alloc (.cells (madeP n) t)).rowIs w.heap.size t (n * 3) (fun i => (madeP n).getD i undef) := by
  have hs : (madeP n).size = n * 3 := by simp [madeP, madeCells]
  refine ⟨madeP n, heap_alloc_new w _, hs, fun i hi => ?_⟩
  simp [Array.getD, hs, hi]
/-- The polynomials that the letters become. -/
def formsP (p : Int) (n : Nat) (g : Nat → Nat → Int) : List Pm := (List.range n).map fun j => (p, (n : Int), formL g j)
theorem formsP_len (p : Int) (n : Nat) (g : Nat → Nat → Int) : (formsP p n g).length = n := by simp [formsP]
theorem formsP_at {p : Int} {n : Nat} {g : Nat → Nat → Int} {j : Nat} (h : j < (formsP p n g).length) : (formsP p n g)[j] = (p, (n : Int), formL g j) := by simp [formsP]
theorem formsP_tms (p : Int) (n : Nat) (g : Nat → Nat → Int) : tmsL (formsP p n g) = formsL g n := by
  simp [tmsL, formsP, formsL]
/-- The first j polynomials of a row are there. -/
structure FormsW (w : World) (base gb n : Nat) (p : Int) (g : Nat → Nat → Int) (j : Nat) (F : Nat → Value) : Prop where
  row : w.rowIs gb 30 (n * 3) F
  at' : ∀ i, i < j → ∃ u, F (i * 3) = .int .i64 p ∧ F (i * 3 + 1) = .int .i64 n ∧ F (i * 3 + 2) = u ∧ OwnP w base u (formL g i)
theorem FormsW.later {w w' : World} {base gb n : Nat} {p : Int} {g : Nat → Nat → Int} {j : Nat} {F : Nat → Value} (h : FormsW w base gb n p g j F) (hb : Below w.heap.size w w') : FormsW w' base gb n p g j F :=
  ⟨rowIs_below h.row hb h.row.lt, fun i hi => by
    obtain ⟨u, a, b, c, d⟩ := h.at' i hi
    exact ⟨u, a, b, c, owns_belowT d hb⟩⟩
theorem own_set {w : World} {base b i N : Nat} {f : Nat → Value} {v x : Value} {S : List Tm} (h : OwnP w base v S) (hr : w.rowIs b 30 N f) : OwnP (w.setCell ⟨b, i, none⟩ x) base v S :=
  h.kept (row := some b) ⟨rfl, rfl, rfl, by rw [World.size_setCell]; exact Nat.le_refl _, fun k hk hne => Below.heap_setCell w ⟨b, i, none⟩ x k (fun e => hne (by rw [e]))⟩ (own_ne hr h (by decide))
theorem own_set3 {w : World} {base b i0 i1 i2 N : Nat} {f : Nat → Value} {v x0 x1 x2 : Value} {S : List Tm} (h : OwnP w base v S) (hr : w.rowIs b 30 N f) : OwnP (((w.setCell ⟨b, i0, none⟩ x0).setCell ⟨b, i1, none⟩ x1).setCell ⟨b, i2, none⟩ x2) base v S :=
  own_set (own_set (own_set h hr) (hr.set i0 x0)) ((hr.set i0 x0).set i1 x1)
theorem FormsW.put {w : World} {base base' gb n : Nat} {p : Int} {g : Nat → Nat → Int} {j : Nat} {F : Nat → Value} {u : Value} (h : FormsW w base gb n p g j F) (ho : OwnP w base' u (formL g j)) (hb : base ≤ base') :
    FormsW (((w.setCell ⟨gb, j * 3, none⟩ (.int .i64 p)).setCell ⟨gb, j * 3 + 1, none⟩ (.int .i64 n)).setCell ⟨gb, j * 3 + 2, none⟩ u) base gb n p g (j + 1) (fun i => if i = j * 3 + 2 then u else if i = j * 3 + 1 then .int .i64 n else if i = j * 3 then .int .i64 p else F i) := by
  refine ⟨((h.row.set (j * 3) (.int .i64 p)).set (j * 3 + 1) (.int .i64 n)).set (j * 3 + 2) u, fun i hi => ?_⟩
  by_cases e : i = j
  · subst e
    refine ⟨u, ?_, ?_, ?_, owns_low (own_set3 ho h.row) hb⟩
    · rw [if_neg (by omega), if_neg (by omega), if_pos rfl]
    · rw [if_neg (by omega), if_pos rfl]
    · rw [if_pos rfl]
  · obtain ⟨v, a, b, c, d⟩ := h.at' i (by omega)
    refine ⟨v, ?_, ?_, ?_, own_set3 d h.row⟩
    · rw [if_neg (by omega), if_neg (by omega), if_neg (by omega), a]
    · rw [if_neg (by omega), if_neg (by omega), if_neg (by omega), b]
    · rw [if_neg (by omega), if_neg (by omega), if_neg (by omega), c]
theorem FormsW.done {w : World} {base gb n : Nat} {p : Int} {g : Nat → Nat → Int} {F : Nat → Value} (h : FormsW w base gb n p g n F) : SlP w (.slice (some ⟨gb, 0, none⟩) n n) (formsP p n g) := by
  refine ⟨some ⟨gb, 0, none⟩, n, by rw [formsP_len], .inr ⟨gb, 0, rfl, h.row.lt, fun k hk => ?_⟩⟩
  rw [formsP_len] at hk
  rw [formsP_at]
  obtain ⟨u, a, b, c, d⟩ := h.at' k hk
  refine ⟨u, ?_, ?_, ?_, OwnP.slice d⟩
  · rw [Nat.zero_add, h.row.cell (by omega), a]
  · rw [Nat.zero_add, h.row.cell (by omega), b]
  · rw [Nat.zero_add, h.row.cell (by omega), c]
theorem unE_row {w : World} {i : Nat} (hi : i < 3) : ((w.alloc (.cells #[.int .u8 0, .int .u8 0, .int .u8 0] 53)).setCell ⟨w.heap.size, i, none⟩ (.int .u8 1)).rowIs w.heap.size 53 3 (expsF (unE i).1 (unE i).2.1 (unE i).2.2) := by
  have h := World.rowIs_alloc w #[Value.int .u8 0, .int .u8 0, .int .u8 0] 53 (expsF 0 0 0) (fun i hi => by simp at hi; match i, hi with | 0, _ => rfl | 1, _ => rfl | 2, _ => rfl)
  refine (h.set i (.int .u8 1)).congr fun k hk => ?_
  match i, k, hi, hk with
  | 0, 0, _, _ => rfl
  | 0, 1, _, _ => rfl
  | 0, 2, _, _ => rfl
  | 1, 0, _, _ => rfl
  | 1, 1, _, _ => rfl
  | 1, 2, _, _ => rfl
  | 2, 0, _, _ => rfl
  | 2, 1, _, _ => rfl
  | 2, 2, _, _ => rfl
end Go.Proofs.Ytadcbfngmgclaaa
namespace Go.Proofs.Ytadcbfngmgclaaa
open Go.RowKit Go.Sort Go.Maps EchM

/-- What an action has captured. -/
structure ActW (w : World) (B : Nat) (p : Int) (n : Nat) (g : Nat → Nat → Int) : Prop where
  ex : ∃ v, w.cell? ⟨B, 0, none⟩ = some v ∧ SlP w v (formsP p n g)
  lt : B < w.heap.size
theorem ActW.below {w w' : World} {B : Nat} {p : Int} {n : Nat} {g : Nat → Nat → Int} (h : ActW w B p n g) (hb : Below w.heap.size w w') : ActW w' B p n g := by
  obtain ⟨⟨v, h1, h2⟩, h3⟩ := h
  exact ⟨⟨v, (hb.cell (p := ⟨B, 0, none⟩) h3).trans h1, h2.below hb⟩, Nat.lt_of_lt_of_le h3 hb.size⟩
/-- An action. -/
abbrev actV (B : Nat) : Value := .func (.func 64) #[] #[.pointer (some ⟨B, 0, none⟩)]
theorem gSame {w w' : World} {b : Nat} (h : w.grownBy w' (some b)) (o : Nat) (v : Value) : w.grownBy (w'.setCell ⟨b, o, none⟩ v) (some b) :=
  ⟨h.os, h.tape, h.output, by rw [World.size_setCell]; exact h.size, fun k hk hne => (Below.heap_setCell w' ⟨b, o, none⟩ v k (fun e => hne (by rw [e]))).trans (h.block k hk hne)⟩
theorem formK_part {p : Int} {g : Nat → Nat → Int} {n j : Nat} (hp : 0 < p) (hg : ∀ i, i < 3 → 0 ≤ g i j ∧ g i j < p) {D : DataW Unit} {S : List Tm} (h : Good D S) (hf : ∀ e, byte3 e → cf D e = formK g j n e) : IsP p S (formK g j n) :=
  h.isP hf (fun e _ => formK_bound hp hg n e) (fun e _ hc => by have := formK_deg hc; omega)

set_option maxRecDepth 8000 in
set_option maxHeartbeats 32000000 in
theorem iact (p : Int) (n : Nat) (g : Nat → Nat → Int) (w : World) (hM : MatP p n g) :
    Calls Try.prog 36 #[.int .i64 p, .int .i64 (n : Int), (.agg #[.int .u8 (g 0 0), .int .u8 (g 0 1), .int .u8 (g 0 2), .int .u8 (g 1 0), .int .u8 (g 1 1), .int .u8 (g 1 2), .int .u8 (g 2 0), .int .u8 (g 2 1), .int .u8 (g 2 2)])] w fun e w' =>
      ∃ B, e = .returned (actV B) ∧ ActW w' B p n g ∧ Below w.heap.size w w' ∧ w.heap.size ≤ B := by
  obtain ⟨i0, hi, hz0, hz1, hz2⟩ := info_parts infoPoly
  have hn1 := hM.n1
  have hn3 := hM.n3
  have hp2 : 2 ≤ p ∧ p ≤ 13 := prime_le hM.prime
  have hn1' : (1 : Int) ≤ (n : Int) := by omega
  have hmk : ∀ w, (Instr.makeSlice 34 (.int .i64 (n : Int)) (.int .i64 (n : Int))).run Try.prog w = .ok (.slice (some ⟨w.heap.size, 0, none⟩) n n) (w.alloc (.cells (madeP n) 30)) := fun w => by
    have h := run_make (P := Try.prog) w 34 30 i0 _ Try.underlying34 hi hz0 .i64 .i64 (n : Int) (n : Int) (by omega) (by omega) (by rw [hz2]; omega) (by omega)
    rw [hz1] at h
    simpa [madeP] using h
  clear hi hz0 hz1 hz2
  obtain ⟨W, hW, hbW, rg⟩ : ∃ W, W = w.alloc (.cells #[.int .u8 (g 0 0), .int .u8 (g 0 1), .int .u8 (g 0 2), .int .u8 (g 1 0), .int .u8 (g 1 1), .int .u8 (g 1 2), .int .u8 (g 2 0), .int .u8 (g 2 1), .int .u8 (g 2 2)] 44) ∧ Below w.heap.size w W ∧ W.rowIs w.heap.size 44 9 (mF g) := ⟨_, rfl, ebox1 _ _, mbox w g _⟩
  have hmkW := hmk W
  obtain ⟨X, hX, hbX, hXs, rX⟩ : ∃ X, X = W.alloc (.cells (madeP n) 30) ∧ Below W.heap.size W X ∧ X.heap.size = W.heap.size + 1 ∧ X.rowIs W.heap.size 30 (n * 3) (fun i => (madeP n).getD i undef) := ⟨_, rfl, box1 _ _, by simp, madeP_row W n _⟩
  rw [← hX] at hmkW
  obtain ⟨Y, hY, hbY, hYs, cY⟩ : ∃ Y, Y = X.alloc (.cells #[.slice (some ⟨W.heap.size, 0, none⟩) n n] 34) ∧ Below X.heap.size X Y ∧ Y.heap.size = X.heap.size + 1 ∧ Y.cell? ⟨X.heap.size, 0, none⟩ = some (.slice (some ⟨W.heap.size, 0, none⟩) n n) := ⟨_, rfl, box1 _ _, by simp, (World.rowIs_alloc X #[Value.slice (some ⟨W.heap.size, 0, none⟩) n n] 34 (fun _ => .slice (some ⟨W.heap.size, 0, none⟩) n n) (fun i hi => by simp at hi; subst hi; rfl)).cell (i := 0) (by simp)⟩
  have hbWY := hbX.trans (hbY.mono hbX.size)
  have hbwY := hbW.trans (hbWY.mono hbW.size)
  have hf0 : FormsW Y Y.heap.size W.heap.size n p g 0 (fun i => (madeP n).getD i undef) := ⟨rowIs_below rX hbY rX.lt, fun i hi => by omega⟩
  have rgY := rowIs_below rg hbWY rg.lt
  have hWw : w.heap.size < W.heap.size := rg.lt
  go_enter Try.func36, Try.ntmps36
  go_upto_region 1 with fail
  rw [← hW]
  clear hW
  go_upto_region 2 with fail
  try rw [← hX]
  rw [← hY]
  clear hY hX hmkW
  have HMK := Lib.hid hM
  rw [hXs] at cY
  have hY2 : W.heap.size + 2 ≤ Y.heap.size := by omega
  clear hmk hbX hbY hbWY rX rg hM hbW hYs hXs
  go_wp2_with fail
  go_loopw [15] (fun jv wr => ∃ (j : Nat) (F : Nat → Value), j ≤ n ∧ jv = .int .i64 j ∧ FormsW wr Y.heap.size W.heap.size n p g j F ∧ Y.grownBy wr (some W.heap.size)) (fun jv _ => n - (intOf jv).toNat)
  case atStart => exact ⟨0, _, by omega, rfl, hf0, World.grownBy.refl _ _⟩
  case round =>
    clear hf0
    obtain ⟨j, F, hj, rfl, hF, hgr⟩ := hrel
    obtain ⟨wo, rfl⟩ : ∃ wo : World, wo = wr := ⟨_, rfl⟩
    by_cases hlj : j < n
    · have hlj' : (j : Int) < (n : Int) := by omega
      have hj3 : j < 3 := by omega
      have hj3' : (j : Int) < 3 := by omega
      have HG := Lib.hid (fun (i : Nat) (hi : i < 3) => HMK.out.num i hi j hj3)
      have HFL := Lib.hid (HMK.out.form hlj)
      have hmm := @run_makeMap Try.prog
      have hm := World.ownsMap_made (H := Unit) wo Try.prog 53 (plainElem Try.prog 2)
      obtain ⟨V, hV1, hbV, hVs1⟩ : ∃ V, V = wo.alloc (.map #[] 0) ∧ Below wo.heap.size wo V ∧ wo.heap.size + 1 ≤ V.heap.size := ⟨_, rfl, box1 _ _, by simp⟩
      rw [← hV1] at hm
      go_wp2_with fail
      rw [← hV1]
      clear hV1 hmm
      have rgo := rowG rgY hgr (by omega)
      go_loopw [20] (fun iv wr => ∃ (i n2 : Nat) (E : DataW Unit), i ≤ n ∧ iv = .int .i64 i ∧ n2 ≤ i ∧ Hid (∀ e, byte3 e → cf E e = formK g j i e) ∧ MapE wr wo.heap.size n2 E ∧ Below wo.heap.size wo wr) (fun iv _ => n - (intOf iv).toNat)
      case atStart => exact ⟨0, 0, _, by omega, rfl, by omega, Lib.hid (fun e _ => by rw [cf_empty, formK_zero]), hm, hbV⟩
      case round =>
        clear hm hbV
        obtain ⟨i, n2, E, hi, rfl, hn2, HE, hME, hbr⟩ := hrel
        by_cases hli : i < n
        · have hli' : (i : Int) < (n : Int) := by omega
          have hi3 : i < 3 := by omega
          have hi3' : (i : Int) < 3 := by omega
          obtain ⟨g0, g1⟩ := HG.out i hi3
          have ra := World.rowIs_alloc wr #[Value.int .u8 0, .int .u8 0, .int .u8 0] 53 (expsF 0 0 0) (fun i hi => by simp at hi; match i, hi with | 0, _ => rfl | 1, _ => rfl | 2, _ => rfl)
          obtain ⟨A2, hA2⟩ : ∃ A2, A2 = wr.alloc (.cells #[.int .u8 0, .int .u8 0, .int .u8 0] 53) := ⟨_, rfl⟩
          obtain ⟨V2, hV2, hbV2, ru⟩ : ∃ V2, V2 = A2.setCell ⟨wr.heap.size, i, none⟩ (.int .u8 1) ∧ Below wr.heap.size wr V2 ∧ V2.rowIs wr.heap.size 53 3 (expsF (unE i).1 (unE i).2.1 (unE i).2.2) := ⟨_, rfl, by rw [hA2]; exact (box1 wr _).setCell (by simp) _, by rw [hA2]; exact unE_row hi3⟩
          replace ra : A2.rowIs wr.heap.size 53 3 (expsF 0 0 0) := by rw [hA2]; exact ra
          have z0 := nthX_cell ra hi3
          have z1 := ra.frozen i
          have rg2 := rowIs_below (rowIs_below rgo hbr rgo.lt) hbV2 (Nat.lt_of_lt_of_le rgo.lt hbr.size)
          have hmu := unE_mono hi3
          obtain ⟨ux, hux⟩ : ∃ ux, (unE i).1 = ux := ⟨_, rfl⟩
          obtain ⟨uy, huy⟩ : ∃ uy, (unE i).2.1 = uy := ⟨_, rfl⟩
          obtain ⟨uz, huz⟩ : ∃ uz, (unE i).2.2 = uz := ⟨_, rfl⟩
          have hun : unE i = (ux, uy, uz) := by rw [← hux, ← huy, ← huz]
          have HD2 : Hid (∀ e, byte3 e → cf (E.put (kE (ux, uy, uz)) (.lit (.int .i64 (g i j)))) e = formK g j (i + 1) e) := Lib.hid (fun e he => by
            rw [cf_put hME.isMap (by rw [← hun]; exact hmu.1) he, formK_step g j i hi3, hun, HE.out e he])
          rw [hux, huy, huz] at ru
          have hkey : keyOf Try.prog 53 (.agg #[.int .u8 ux, .int .u8 uy, .int .u8 uz]) = some (kE (ux, uy, uz)) := keyOf_vE (ux, uy, uz) (by rw [← hun]; exact hmu.1)
          have hMm : MapE V2.drew wo.heap.size n2 E := (hME.later hbV2).later (Below.same _).drew
          have u0 : V2.drew.cell? ⟨wr.heap.size, 0, none⟩ = some (.int .u8 ux) := ru.cell (i := 0) (by omega)
          have u1 : V2.drew.cell? ⟨wr.heap.size, 1, none⟩ = some (.int .u8 uy) := ru.cell (i := 1) (by omega)
          have u2 : V2.drew.cell? ⟨wr.heap.size, 2, none⟩ = some (.int .u8 uz) := ru.cell (i := 2) (by omega)
          have c0 : V2.drew.cell? ⟨w.heap.size, i * 3 + j, none⟩ = some (.int .u8 (g i j)) := mcell rg2 hi3 hj3
          have hbr2 := (hbr.trans (hbV2.mono hbr.size)).drew
          have hml : n2 < maxLen := by unfold maxLen; omega
          have hwg : IntKind.i64.wrap (g i j) = g i j := IntWalk.i64_in _ (by omega)
          clear hun hux huy huz hmu ru rg2 hME hbV2 HE
          go_upto_region 10 with fail
          rw [← hA2]
          clear hA2
          go_upto_region 11 with fail
          rw [← hV2]
          clear hV2 z0 z1 ra
          refine region_tail 8 (by kernel_rfl) (by kernel_rfl) ?_
          simp only [List.take_succ_cons, List.take_zero, List.drop_succ_cons, List.drop_zero]
          repeat still_step
          refine wpStill_nil ?_
          try simp only [hwg]
          go_wp2_with (at_mapUpdate; refine wpList_mapUpdate_own _ rfl _ _ _ 56 rfl 53 2 lawK Try.underlying56 (plainElem Try.prog 2) wo.heap.size n2 E rfl hMm hml (.agg #[.int .u8 ux, .int .u8 uy, .int .u8 uz]) _ _ rfl rfl hkey _ [] (plainElem_int Try.underlying2 (wf64 g0 (by omega))) ?_; intro w2 hown2 hgrow2)
          have hb4 : Below wo.heap.size wo w2 := hbr2.grown hgrow2 hbr2.size (fun g e => by simp at e; omega)
          go_roundw
          case rel => exact ⟨i + 1, _, _, by omega, by go_num, by omega, HD2, hown2, hb4⟩
          case measure => simp [intOf]; omega
        · obtain rfl : i = n := by omega
          have hgo := (hgr.trans (gBelow hbr))
          have hFr := hF.later hbr
          have cYr : wr.cell? ⟨W.heap.size + 1, 0, none⟩ = some (.slice (some ⟨W.heap.size, 0, none⟩) i i) := (hgo.cell_far ⟨W.heap.size + 1, 0, none⟩ (by show W.heap.size + 1 < Y.heap.size; omega) (by first | (simp; done) | (simp; omega))).trans cY
          have HPO := Lib.hid (fun w (hME : MapE w wo.heap.size n2 E) => polyOf_any sort_says p (i : Int) wo.heap.size n2 E w hME (by omega) (fun e he hc => by
            rw [HE.out e he] at hc
            have := formK_deg hc
            omega))
          have HGD := Lib.hid (fun (S : List Tm) (h : Good E S) => show S = formL g j from (formK_part (by omega) HG.out h HE.out).unique HFL.out)
          have hMd : MapE wr.drew wo.heap.size n2 E := hME.later (Below.same _).drew
          have hXw : (W.heap.size + 1) < wr.heap.size := by have := hgo.size; omega
          have KK := Lib.hid (fun w' (h : Below wr.heap.size wr w') => show (w'.cell? ⟨W.heap.size + 1, 0, none⟩ = some (.slice (some ⟨W.heap.size, 0, none⟩) i i)) from (h.cell (p := ⟨W.heap.size + 1, 0, none⟩) hXw).trans cYr)
          have hXW : (W.heap.size + 1) ≠ W.heap.size := by omega
          have KS := Lib.hid (fun w' (h : Below wr.heap.size wr w') (u0 u1 u2 : Value) => show ((((w'.setCell ⟨W.heap.size, j * 3, none⟩ u0).setCell ⟨W.heap.size, j * 3 + 1, none⟩ u1).setCell ⟨W.heap.size, j * 3 + 2, none⟩ u2).cell? ⟨W.heap.size + 1, 0, none⟩ = some (.slice (some ⟨W.heap.size, 0, none⟩) i i)) from by
            have q : (((w'.setCell ⟨W.heap.size, j * 3, none⟩ u0).setCell ⟨W.heap.size, j * 3 + 1, none⟩ u1).setCell ⟨W.heap.size, j * 3 + 2, none⟩ u2).cell? ⟨W.heap.size + 1, 0, none⟩ = w'.cell? ⟨W.heap.size + 1, 0, none⟩ := by
              unfold World.cell?
              rw [Below.heap_setCell _ ⟨W.heap.size, j * 3 + 2, none⟩ u2 (W.heap.size + 1) hXW, Below.heap_setCell _ ⟨W.heap.size, j * 3 + 1, none⟩ u1 (W.heap.size + 1) hXW, Below.heap_setCell _ ⟨W.heap.size, j * 3, none⟩ u0 (W.heap.size + 1) hXW]
            exact q.trans (KK.out w' h))
          have hYo : Y.heap.size ≤ wr.heap.size := hgo.size
          clear HE hME hbr
          go_upto_region 13 with fail
          clear cYr
          go_region_held3 (fun w' => (w'.cell? ⟨W.heap.size + 1, 0, none⟩ = some (.slice (some ⟨W.heap.size, 0, none⟩) i i)))
            (first | with_reducible exact KS.out _ HB13 _ _ _ | with_reducible exact KK.out _ (Below.same _).drew | with_reducible exact KK.out _ HB13)
            ((go_at_call 27; (with_reducible refine (HPO.out _ hMd).mono ?_); rintro e w13 ⟨v13, S13, rfl, ho13, hg13, hb13⟩; have HB13 : Below wr.heap.size wr w13 := (Below.same _).drew.trans hb13; (obtain rfl := HGD.out S13 hg13); (obtain ⟨sa13, sc13, rfl⟩ := owns_slice ho13); have hF13 := hFr.later HB13; (obtain ⟨f130, f131, f132⟩ : w13.frozen? ⟨W.heap.size, j * 3, none⟩ = false ∧ w13.frozen? ⟨W.heap.size, j * 3 + 1, none⟩ = false ∧ w13.frozen? ⟨W.heap.size, j * 3 + 2, none⟩ = false := ⟨hF13.row.frozen _, hF13.row.frozen _, hF13.row.frozen _⟩); (have e130 := hF13.row.cell (i := j * 3) (by omega)); (have e131 := hF13.row.cell (i := j * 3 + 1) (by omega)); (have e132 := hF13.row.cell (i := j * 3 + 2) (by omega))))
          all_goals
            have hFN := hF13.put ho13 hYo
            have hGN := gSame (gSame (gSame (hgo.trans (gBelow HB13)) (j * 3) (.int .i64 p)) (j * 3 + 1) (.int .i64 (i : Int))) (j * 3 + 2) (.slice sa13 (formL g j).length sc13)
            clear hF13 ho13 hFr hF KK KS f130 f131 f132 e130 e131 e132
            go_wp2_with fail
            go_roundw
            case rel => exact ⟨j + 1, _, by omega, by go_num, hFN, hGN⟩
            case measure => simp [intOf]; omega
    · obtain rfl : j = n := by omega
      have cYo : wo.cell? ⟨W.heap.size + 1, 0, none⟩ = some (.slice (some ⟨W.heap.size, 0, none⟩) j j) := (hgr.cell_far ⟨W.heap.size + 1, 0, none⟩ (by show W.heap.size + 1 < Y.heap.size; omega) (by first | (simp; done) | (simp; omega))).trans cY
      have hlt : W.heap.size + 1 < wo.heap.size := by have := hgr.size; omega
      have hend : Below w.heap.size w wo := hbwY.grown hgr hbwY.size (fun g e => by simp at e; omega)
      have HA : Hid (ActW wo (W.heap.size + 1) p j g) := Lib.hid ⟨⟨_, cYo, hF.done⟩, hlt⟩
      have HLE := Lib.hid (show w.heap.size ≤ W.heap.size + 1 by omega)
      clear hF
      go_wp2_with fail
      go_ret
      exact ⟨_, rfl, HA.out, hend, HLE.out⟩
end Go.Proofs.Ytadcbfngmgclaaa
namespace Go.Proofs.Ytadcbfngmgclaaa
open Go.RowKit Go.Sort Go.Maps EchM

theorem formsP_ok {p : Int} {n : Nat} {g : Nat → Nat → Int} (hM : MatP p n g) : ∀ x ∈ formsP p n g, PmOk x := fun x hx => by
  simp only [formsP, List.mem_map, List.mem_range] at hx
  obtain ⟨j, hj, rfl⟩ := hx
  have hf := hM.form hj
  exact ⟨hf.byte (prime_le hM.prime).2, Nat.le_trans hf.len (by omega)⟩
theorem formsP_hd {p : Int} {n : Nat} {g : Nat → Nat → Int} (hn : 1 ≤ n) : hdP (formsP p n g) = (p, (n : Int), formL g 0) := by
  rw [hdP_at (by rw [formsP_len]; omega), formsP_at]
theorem formsP_list {p : Int} {n : Nat} {g : Nat → Nat → Int} (hM : MatP p n g) : ListP p n (formsP p n g) :=
  ⟨by rw [formsP_len]; exact hM.n1, by rw [formsP_len]; exact hM.n3, fun x hx => by
    simp only [formsP, List.mem_map, List.mem_range] at hx
    obtain ⟨j, hj, rfl⟩ := hx
    exact ⟨rfl, rfl, hM.valid _ (by simp only [formsL, List.mem_map, List.mem_range]; exact ⟨j, hj, rfl⟩)⟩⟩
/-- Nothing is wrong with a substitution of the letters' images. -/
theorem subs_forms {p : Int} {n : Nat} {g : Nat → Nat → Int} (hM : MatP p n g) {xs : List Tm} (hx : isPolyB p n xs = true) (hby : ∀ t ∈ xs, tmByte t) : subsC p n xs (formsP p n g) = 0 := by
  have h1 : (formsP p n g).all isPm = true := by
    rw [List.all_eq_true]
    intro x hx
    simp only [formsP, List.mem_map, List.mem_range] at hx
    obtain ⟨j, hj, rfl⟩ := hx
    exact hM.poly hj
  have h2 : (formsP p n g).all (likeT p (hdP (formsP p n g))) = true := by
    rw [List.all_eq_true, formsP_hd hM.n1]
    intro x hx
    simp only [formsP, List.mem_map, List.mem_range] at hx
    obtain ⟨j, hj, rfl⟩ := hx
    simp [likeT]
  have h3 : xs.all (fun t => decide (bndE (tmsL (formsP p n g)) (tmE t) ≤ 12)) = true := by
    rw [List.all_eq_true]
    intro t ht
    rw [formsP_tms]
    simpa using hM.bnd (valid_of hx hby) t ht
  unfold subsC
  rw [hx, h1, h2, h3, formsP_len]
  simp
theorem led_ex {p : Int} {n : Nat} {g : Nat → Nat → Int} (hM : MatP p n g) {xs : List Tm} (hx : isPolyB p n xs = true) (hby : ∀ t ∈ xs, tmByte t) : ∃ L, Led p n g xs L := by
  obtain ⟨o, ho⟩ := subO_ex (p := p) (d := n) (xs := xs) (formsP_ok hM) hby
  rcases ho with ⟨h, _⟩ | ⟨_, P, L, hP, hL, _⟩
  · exact absurd (subs_forms hM hx hby) h
  · rw [formsP_tms] at hP
    exact ⟨L, P, hP, hL⟩
theorem Led.subO {p : Int} {n : Nat} {g : Nat → Nat → Int} (hM : MatP p n g) {xs L : List Tm} (hx : isPolyB p n xs = true) (hby : ∀ t ∈ xs, tmByte t) (h : Led p n g xs L) : SubO p n xs (formsP p n g) ⟨p, n, L, 0⟩ := by
  obtain ⟨P, hP, hL⟩ := h
  exact .inr ⟨subs_forms hM hx hby, P, L, by rw [formsP_tms]; exact hP, hL, by rw [formsP_hd hM.n1]⟩

set_option maxHeartbeats 4000000 in
theorem iactC (p : Int) (n : Nat) (g : Nat → Nat → Int) (B : Nat) (v : Value) (xs L : List Tm) (w : World) (hM : MatP p n g) (hA : ActW w B p n g) (hl : xs.length ≤ 1048576) (hS : SliceT w v xs) (hby : ∀ t ∈ xs, tmByte t) (hx : isPolyB p n xs = true) (hL : Led p n g xs L) :
    Calls Try.prog 64 #[.agg #[.int .i64 p, .int .i64 (n : Int), v], .pointer (some ⟨B, 0, none⟩)] w fun e w' =>
      ∃ v', e = .returned (.agg #[.int .i64 p, .int .i64 (n : Int), v']) ∧ OwnP w' w.heap.size v' L ∧ Below w.heap.size w w' := by
  obtain ⟨a, cap, rfl, _⟩ := id hS
  obtain ⟨W, hW, hbW, ⟨hWs1, hWs2⟩, rx, rr⟩ := boxes2 w p (n : Int) (.slice a xs.length cap)
  obtain ⟨⟨c0, c1, c2⟩, _⟩ := poly3 rx
  obtain ⟨⟨lv, cl, hlv⟩, hBl⟩ := hA.below hbW
  have hLen : (formsP p n g).length ≤ 1048576 := by rw [formsP_len]; have := hM.n3; omega
  have HC := Lib.hid (iSub p n _ lv xs (formsP p n g) W hl (hS.below hbW) hby hLen (formsP_ok hM) hlv _ (hL.subO hM hx hby))
  obtain ⟨la, lc, rfl, _⟩ := id hlv
  clear hM hA hS hby hx hL hlv
  go_enter Try.func64, Try.ntmps64
  go_upto_region 1 with fail
  rw [← hW]
  clear hW
  go_wp2_with fail
  ((with_reducible refine HC.out.mono ?_); rintro e w1 ⟨v1, rfl, ho1, hb1⟩)
  simp only at ho1
  obtain ⟨sa1, sc1, rfl⟩ := owns_slice ho1
  have hbw1 := hbW.trans (hb1.mono hbW.size)
  have rr1 := rowIs_below rr hb1 rr.lt
  obtain ⟨V, hV1, hbV, _, rV⟩ := newbox w1 p (n : Int) (.slice sa1 L.length sc1)
  have rrV := rowIs_below rr1 hbV rr1.lt
  obtain ⟨⟨q0, q1, q2⟩, _⟩ := poly3 rV
  obtain ⟨⟨r0, r1, r2⟩, z0, z1, z2⟩ := poly3 rrV
  have hbwV := hbw1.trans (hbV.mono hbw1.size)
  have hoV : OwnP V W.heap.size (.slice sa1 L.length sc1) L := owns_belowT ho1 hbV
  obtain ⟨a0, a1, a2, a3, a4⟩ := fill_box (w := w) rrV hoV hbW.size hbwV (by omega) p (n : Int)
  have A0 := Lib.hid a0
  have A1 := Lib.hid a1
  have A2 := Lib.hid a2
  have A3 := Lib.hid a3
  have A4 := Lib.hid a4
  clear a0 a1 a2 a3 a4 c0 c1 c2 cl ho1 hoV rr rr1 rrV rV rx
  go_upto_region 2 with fail
  try rw [← hV1]
  clear hV1
  go_wp2_with fail
  exact bodyPost_ret (v := .agg #[.int .i64 p, .int .i64 (n : Int), .slice sa1 L.length sc1]) (by simp [results, Try.results64, go_sem, A0.out, A1.out, A2.out]) rfl ⟨_, rfl, A3.out, A4.out⟩
end Go.Proofs.Ytadcbfngmgclaaa
namespace Go.Proofs.Ytadcbfngmgclaaa
open Go.RowKit Go.Sort Go.Maps

/-- What stands in memory: the sum so far (block q), the boxes of the argument and the result. -/
structure RepS (w wr : World) (q : Nat) (p d d' : Int) (xv sv : Value) (O : List Tm) : Prop where
  out : wr.rowIs q 30 3 (polyF p d sv)
  rows : SliceT wr sv O
  arg : wr.rowIs w.heap.size 30 3 (polyF p d' xv)
  res : wr.rowIs (w.heap.size + 1) 30 3 (polyF 0 0 (.slice none 0 0))
  below : Below w.heap.size w wr
  q2 : w.heap.size + 2 ≤ q
theorem RepS.later {w wr w1 : World} {q : Nat} {p d d' : Int} {xv sv : Value} {O : List Tm} (h : RepS w wr q p d d' xv sv O) (hb : Below wr.heap.size wr w1) : RepS w w1 q p d d' xv sv O :=
  ⟨rowIs_below h.out hb h.out.lt, h.rows.below hb, rowIs_below h.arg hb h.arg.lt, rowIs_below h.res hb h.res.lt, h.below.trans (hb.mono h.below.size), h.q2⟩
theorem setB3 {w : World} {B0 : Nat} {F : Nat → Value} {v : Value} {S : List Tm} (hR : w.rowIs B0 30 3 F) (hs : SliceT w v S) (P Q : Int) :
    (((w.setCell ⟨B0, 0, none⟩ (.int .i64 P)).setCell ⟨B0, 1, none⟩ (.int .i64 Q)).setCell ⟨B0, 2, none⟩ v).rowIs B0 30 3 (polyF P Q v) ∧
    SliceT (((w.setCell ⟨B0, 0, none⟩ (.int .i64 P)).setCell ⟨B0, 1, none⟩ (.int .i64 Q)).setCell ⟨B0, 2, none⟩ v) v S := by
  have R1 := hR.set 0 (.int .i64 P)
  have R2 := R1.set 1 (.int .i64 Q)
  refine ⟨(R2.set 2 v).congr fun i hi => ?_, ((hs.setBox hR).setBox R1).setBox R2⟩
  match i, hi with
  | 0, _ => rfl
  | 1, _ => rfl
  | 2, _ => rfl
theorem setO3 {w : World} {B0 B1 n : Nat} {t : TypeId} {F : Nat → Value} (hR : w.rowIs B1 t n F) (hne : B1 ≠ B0) (u0 u1 u2 : Value) :
    (((w.setCell ⟨B0, 0, none⟩ u0).setCell ⟨B0, 1, none⟩ u1).setCell ⟨B0, 2, none⟩ u2).rowIs B1 t n F :=
  ((hR.setOther (by simpa using hne) _).setOther (by simpa using hne) _).setOther (by simpa using hne) _
theorem setL3 {w wr : World} {B0 : Nat} (h : Below w.heap.size w wr) (hB : w.heap.size ≤ B0) (u0 u1 u2 : Value) :
    Below w.heap.size w (((wr.setCell ⟨B0, 0, none⟩ u0).setCell ⟨B0, 1, none⟩ u1).setCell ⟨B0, 2, none⟩ u2) :=
  ((h.setCell (by simpa using hB) _).setCell (by simpa using hB) _).setCell (by simpa using hB) _
theorem RepS.put {w wr w2 : World} {q : Nat} {p d d' : Int} {xv sv v2 : Value} {O O2 : List Tm} (h : RepS w wr q p d d' xv sv O) (hb : Below wr.heap.size wr w2) (ho : SliceT w2 v2 O2) :
    RepS w (((w2.setCell ⟨q, 0, none⟩ (.int .i64 p)).setCell ⟨q, 1, none⟩ (.int .i64 d)).setCell ⟨q, 2, none⟩ v2) q p d d' xv v2 O2 := by
  have h1 := h.later hb
  have hq := h.q2
  exact ⟨(setB3 h1.out ho p d).1, (setB3 h1.out ho p d).2, setO3 h1.arg (by omega) _ _ _, setO3 h1.res (by omega) _ _ _, setL3 h1.below (by omega) _ _ _, hq⟩

theorem RepS.set3 {w wr : World} {q bo : Nat} {p d d' : Int} {xv sv : Value} {O : List Tm} {F : Nat → Value} (h : RepS w wr q p d d' xv sv O) (hr : wr.rowIs bo 30 3 F) (hne : bo ≠ q) (hb : w.heap.size + 2 ≤ bo) (u0 u1 u2 : Value) :
    RepS w (((wr.setCell ⟨bo, 0, none⟩ u0).setCell ⟨bo, 1, none⟩ u1).setCell ⟨bo, 2, none⟩ u2) q p d d' xv sv O :=
  ⟨setO3 h.out (fun e => hne e.symm) _ _ _, ((h.rows.setBox hr).setBox (hr.set 0 u0)).setBox ((hr.set 0 u0).set 1 u1), setO3 h.arg (by omega) _ _ _, setO3 h.res (by omega) _ _ _, setL3 h.below (by omega) _ _ _, h.q2⟩
theorem nthT_cell {w : World} {b off : Nat} {ts : List Tm} (hT : Terms w b off ts) {k m : Nat} (hk : k < ts.length) (hm : m < 3) : w.cell? ⟨b, off + k * 4 + m, none⟩ = some (.int .u8 (nthE (tmE ts[k]) m)) := by
  obtain ⟨c0, c1, c2, _⟩ := hT k hk
  match m, hm with
  | 0, _ => exact c0
  | 1, _ => exact c1
  | 2, _ => exact c2
end Go.Proofs.Ytadcbfngmgclaaa
namespace Go.Proofs.Ytadcbfngmgclaaa
open Go.RowKit Go.Sort Go.Maps EchM

theorem own_own {w : World} {base base' n n' size size' : Nat} {t e : TypeId} {v v' : Value} {xs xs' : List Value} (h : w.ownsRow base t size v n xs) (h' : w.ownsRow base' e size' v' n' xs') (hne : t ≠ e) : v.ownBlock = none ∨ v.ownBlock ≠ v'.ownBlock := by
  obtain ⟨_, ⟨rfl, _⟩ | ⟨g, cap, cur, rfl, _, hgc, _⟩⟩ := h
  · exact .inl rfl
  · obtain ⟨_, ⟨rfl, _⟩ | ⟨g', cap', cur', rfl, _, hgc', _⟩⟩ := h'
    · exact .inr (by simp [Value.ownBlock])
    · refine .inr fun hb => ?_
      simp [Value.ownBlock] at hb
      subst hb
      rw [hgc] at hgc'
      simp at hgc'
      exact hne hgc'.2
/-- The cells of polynomials of a prime and letters. -/
def cellsQ (p : Int) (n : Nat) (us : List Value) : List Value := us.flatMap fun u => [.int .i64 p, .int .i64 (n : Int), u]
theorem cellsQ_snoc (p : Int) (n : Nat) (us : List Value) (u : Value) : cellsQ p n (us ++ [u]) = cellsQ p n us ++ [.int .i64 p, .int .i64 (n : Int), u] := by simp [cellsQ]
theorem cellsQ_get (p : Int) (n : Nat) : ∀ (us : List Value) (k j : Nat) (h : k < us.length), j < 3 → (cellsQ p n us)[k * 3 + j]? = ([Value.int .i64 p, .int .i64 (n : Int), us[k]] : List Value)[j]?
  | [], k, _, h, _ => by simp at h
  | u :: r, 0, j, _, hj => by
    match j, hj with
    | 0, _ => simp [cellsQ]
    | 1, _ => simp [cellsQ]
    | 2, _ => simp [cellsQ]
  | u :: r, k + 1, j, h, hj => by
    have := cellsQ_get p n r k j (by simpa using h) hj
    rw [show (k + 1) * 3 + j = (k * 3 + j) + 3 by omega]
    simpa [cellsQ] using this
/-- The list of the letters' images in the making. -/
structure LetW (w wr : World) (base : Nat) (p : Int) (n : Nat) (g : Nat → Nat → Int) (v : Value) (us : List Value) : Prop where
  rows : wr.ownsRow base 30 3 v us.length (cellsQ p n us)
  own : ∀ (i : Nat) (h : i < us.length), OwnP wr w.heap.size us[i] (formL g i)
  mat : wr.rowIs w.heap.size 44 9 (mF g)
  below : Below w.heap.size w wr
  bas : w.heap.size < base ∧ base ≤ wr.heap.size
theorem LetW.later {w wr w1 : World} {base : Nat} {p : Int} {n : Nat} {g : Nat → Nat → Int} {v : Value} {us : List Value} (h : LetW w wr base p n g v us) (hb : Below wr.heap.size wr w1) : LetW w w1 base p n g v us :=
  ⟨owns_belowT h.rows hb, fun i hi => owns_belowT (h.own i hi) hb, rowIs_below h.mat hb h.mat.lt, h.below.trans (hb.mono h.below.size), h.bas.1, Nat.le_trans h.bas.2 hb.size⟩
theorem LetW.more {w wr w2 : World} {base base' : Nat} {p : Int} {n : Nat} {g : Nat → Nat → Int} {v v2 u : Value} {us : List Value} (h : LetW w wr base p n g v us) (ho : OwnP wr base' u (formL g us.length)) (hb : w.heap.size ≤ base')
    (hg : wr.grownBy w2 v.ownBlock) (hr : w2.ownsRow base 30 3 v2 (us.length + 1) (cellsQ p n us ++ [.int .i64 p, .int .i64 (n : Int), u])) : LetW w w2 base p n g v2 (us ++ [u]) := by
  refine ⟨by rw [cellsQ_snoc]; simpa using hr, fun i hi => ?_, rowIs_grown h.mat hg h.rows (by decide), h.below.grown hg h.below.size (fun k hk => by have := (h.rows.lt k hk).1; have := h.bas; omega), h.bas.1, Nat.le_trans h.bas.2 hg.size⟩
  simp at hi
  by_cases e : i = us.length
  · subst e
    rw [List.getElem_append_right (by omega)]
    simp only [Nat.sub_self, List.getElem_cons_zero]
    exact owns_low (ho.kept hg (own_own ho h.rows (by decide))) hb
  · rw [List.getElem_append_left (by omega)]
    exact (h.own i (by omega)).kept hg (own_own (h.own i (by omega)) h.rows (by decide))
theorem LetW.set3 {w wr : World} {base bo : Nat} {p : Int} {n : Nat} {g : Nat → Nat → Int} {v : Value} {us : List Value} {F : Nat → Value} (h : LetW w wr base p n g v us) (hr : wr.rowIs bo 30 3 F) (hv : v.ownBlock = none ∨ v.ownBlock ≠ some bo) (hb : w.heap.size < bo) (u0 u1 u2 : Value) :
    LetW w (((wr.setCell ⟨bo, 0, none⟩ u0).setCell ⟨bo, 1, none⟩ u1).setCell ⟨bo, 2, none⟩ u2) base p n g v us :=
  have k : ∀ (x : World) (i : Nat) (u : Value), x.ownsRow base 30 3 v us.length (cellsQ p n us) → (x.setCell ⟨bo, i, none⟩ u).ownsRow base 30 3 v us.length (cellsQ p n us) := fun x i u hx =>
    hx.kept (row := some bo) ⟨rfl, rfl, rfl, by rw [World.size_setCell]; exact Nat.le_refl _, fun k hk hne => Below.heap_setCell x ⟨bo, i, none⟩ u k (fun e => hne (by rw [e]))⟩ hv
  ⟨k _ _ _ (k _ _ _ (k _ _ _ h.rows)), fun i hi => own_set3 (h.own i hi) hr, setO3 h.mat (by omega) _ _ _, setL3 h.below (by omega) _ _ _, h.bas.1, by simp only [World.size_setCell]; exact h.bas.2⟩
theorem LetW.done {w wr : World} {base : Nat} {p : Int} {n : Nat} {g : Nat → Nat → Int} {v : Value} {us : List Value} (h : LetW w wr base p n g v us) (hl : us.length = n) : SlP wr v (formsP p n g) := by
  obtain ⟨_, ⟨rfl, h0⟩ | ⟨b, cap, cur, rfl, hb, hg, hc1, hc2, hsz, htk⟩⟩ := id h.rows
  · refine ⟨none, 0, by rw [formsP_len, ← hl, h0], .inl ?_⟩
    apply List.eq_nil_of_length_eq_zero
    rw [formsP_len, ← hl, h0]
  · refine ⟨_, cap, by rw [formsP_len, hl], .inr ⟨b, 0, rfl, (Array.getElem?_eq_some_iff.1 hg).1, fun k hk => ?_⟩⟩
    rw [formsP_len, ← hl] at hk
    rw [formsP_at]
    have key : ∀ j, j < 3 → ∀ u, ([Value.int .i64 p, .int .i64 (n : Int), us[k]] : List Value)[j]? = some u → wr.cell? ⟨b, 0 + k * 3 + j, none⟩ = some u := fun j hj u hu => by
      have e2 : (cellsQ p n us)[k * 3 + j]? = some u := (cellsQ_get p n us k j hk hj).trans hu
      have hlt : k * 3 + j < us.length * 3 := by omega
      rw [← htk, List.getElem?_take_of_lt hlt, Array.getElem?_toList] at e2
      simp [World.cell?, hg, e2]
    exact ⟨us[k], key 0 (by omega) _ rfl, key 1 (by omega) _ rfl, key 2 (by omega) _ rfl, OwnP.slice (h.own k hk)⟩
end Go.Proofs.Ytadcbfngmgclaaa
namespace Go.Proofs.Ytadcbfngmgclaaa
open Go.RowKit Go.Sort Go.Maps EchM

set_option maxRecDepth 8000 in
set_option maxHeartbeats 32000000 in
theorem slet (p : Int) (n : Nat) (g : Nat → Nat → Int) (w : World) (hM : MatP p n g) :
    Calls Try.prog 58 #[.int .i64 p, .int .i64 (n : Int), (.agg #[.int .u8 (g 0 0), .int .u8 (g 0 1), .int .u8 (g 0 2), .int .u8 (g 1 0), .int .u8 (g 1 1), .int .u8 (g 1 2), .int .u8 (g 2 0), .int .u8 (g 2 1), .int .u8 (g 2 2)])] w fun e w' =>
      ∃ v', e = .returned v' ∧ SlP w' v' (formsP p n g) ∧ Below w.heap.size w w' := by
  obtain ⟨i0, hi0, hz0, hz1, hz2⟩ := info_parts infoPoly
  have hn1 := hM.n1
  have hn3 := hM.n3
  obtain ⟨hp2, hp13⟩ := prime_le hM.prime
  obtain ⟨W, hW, hbW, ⟨hWs1, hWs2⟩, rg⟩ : ∃ W, W = w.alloc (.cells #[.int .u8 (g 0 0), .int .u8 (g 0 1), .int .u8 (g 0 2), .int .u8 (g 1 0), .int .u8 (g 1 1), .int .u8 (g 1 2), .int .u8 (g 2 0), .int .u8 (g 2 1), .int .u8 (g 2 2)] 44) ∧ Below w.heap.size w W ∧ (W.heap.size ≤ w.heap.size + 1 ∧ w.heap.size + 1 ≤ W.heap.size) ∧ W.rowIs w.heap.size 44 9 (mF g) := ⟨_, rfl, ebox1 _ _, ⟨by simp, by simp⟩, mbox w g _⟩
  obtain ⟨X, hX, hbX, hXs, hown⟩ : ∃ X, X = W.alloc (.cells #[] 30) ∧ Below W.heap.size W X ∧ W.heap.size + 1 ≤ X.heap.size ∧ X.ownsRow W.heap.size 30 3 (.slice (some ⟨W.heap.size, 0, none⟩) 0 0) 0 [] :=
    ⟨_, rfl, box1 _ _, by simp, by simpa using World.ownsRow_made (base := W.heap.size) (e := 30) (size := 3) W #[] 0 (by simp) (by simp [maxLen]) rfl⟩
  have st0 : LetW w X W.heap.size p n g (.slice (some ⟨W.heap.size, 0, none⟩) 0 0) [] := ⟨hown, fun i h => by simp at h, rowIs_below rg hbX rg.lt, hbW.trans (hbX.mono hbW.size), by omega, by omega⟩
  have HMK := Lib.hid hM
  clear hM hown hbX hbW rg
  go_enter Try.func58, Try.ntmps58
  go_upto_region 1 with fail
  rw [← hW]
  clear hW
  go_upto_region 2 with fail
  rw [← hX]
  clear hX
  go_wp2_with fail
  go_loopw [8, 7] (fun jv vv wr => ∃ (us : List Value) (v : Value), us.length ≤ n ∧ jv = .int .i64 (us.length : Int) ∧ vv = v ∧ LetW w wr W.heap.size p n g v us) (fun jv _ _ => n - (intOf jv).toNat)
  case atStart => exact ⟨[], _, by simp, by simp, rfl, st0⟩
  case round =>
    clear st0
    obtain ⟨us, v, hj, rfl, hvv, st⟩ := hrel
    subst u7
    obtain ⟨j, hjl⟩ : ∃ j, us.length = j := ⟨_, rfl⟩
    obtain ⟨wo, rfl⟩ : ∃ wo : World, wo = wr := ⟨_, rfl⟩
    by_cases hlj : j < n
    · have hlj' : (j : Int) < (n : Int) := by omega
      have hj3 : j < 3 := by omega
      have hj3' : (j : Int) < 3 := by omega
      have HG := Lib.hid (fun (i : Nat) (hi : i < 3) => HMK.out.num i hi j hj3)
      have HFL := Lib.hid (HMK.out.form hlj)
      have HJ := Lib.hid hjl
      rw [hjl]
      clear hjl
      go_wp2_with fail
      ((with_reducible refine (empty_any p (n : Int) _).mono ?_); rintro e w1 ⟨rfl, hown1, hb1⟩)
      obtain ⟨V, hV1, hbV, ⟨hVs1, hVs2⟩, rq⟩ := newbox w1 p (n : Int) (.slice (some ⟨wo.heap.size + 1, 0, none⟩) 0 0)
      have hoV : OwnP V wo.heap.size (.slice (some ⟨wo.heap.size + 1, 0, none⟩) 0 0) [] := owns_belowT hown1 hbV
      have stV := (st.later hb1).later hbV
      have hboV := hb1.trans (hbV.mono hb1.size)
      have hs1 := hb1.size
      obtain ⟨bq, hbq⟩ : ∃ bq, w1.heap.size = bq := ⟨_, rfl⟩
      have st_le : w.heap.size ≤ wo.heap.size := st.below.size
      have hbqW : w.heap.size < bq := by have := st.bas; omega
      have hvq : v.ownBlock = none ∨ v.ownBlock ≠ some bq := .inr (fun e => by have := (st.rows.lt bq e).2; omega)
      have hbq2 : wo.heap.size ≤ bq := by omega
      go_upto_region 6 with fail
      rw [← hV1]
      rw [hbq] at rq
      clear hV1 hown1 st hbV hb1 hbq
      obtain ⟨svA, hsvA⟩ : ∃ svA : Value, (.slice (some ⟨wo.heap.size + 1, 0, none⟩) 0 0 : Value) = svA := ⟨_, rfl⟩
      rw [hsvA] at hoV rq
      clear hsvA
      go_wp2_with fail
      go_loopw [10] (fun iv wr => ∃ (i : Nat) (sv : Value) (O : List Tm), i ≤ n ∧ iv = .int .i64 i ∧ Hid (IsP p O (formK g j i)) ∧ wr.rowIs bq 30 3 (polyF p (n : Int) sv) ∧ (∃ b', w.heap.size ≤ b' ∧ OwnP wr b' sv O) ∧ LetW w wr W.heap.size p n g v us) (fun iv _ => n - (intOf iv).toNat)
      case atStart => exact ⟨0, _, [], by omega, rfl, Lib.hid ((IsP.nil p).congr fun e _ => (formK_zero g j e).symm), rq, ⟨_, st_le, hoV⟩, stV⟩
      case round =>
        clear stV rq hoV
        obtain ⟨i, sv, O, hi, rfl, HO, rq, ⟨b', hb', ho⟩, st⟩ := hrel
        obtain ⟨sa, sc, rfl⟩ := owns_slice ho
        obtain ⟨⟨q0, q1, q2⟩, y0, y1, y2⟩ := poly3 rq
        by_cases hli : i < n
        · have hli' : (i : Int) < (n : Int) := by omega
          have hi3 : i < 3 := by omega
          have hi3' : (i : Int) < 3 := by omega
          obtain ⟨g0, g1⟩ := HG.out i hi3
          have ra := World.rowIs_alloc wr #[Value.int .u8 0, .int .u8 0, .int .u8 0] 53 (expsF 0 0 0) (fun i hi => by simp at hi; match i, hi with | 0, _ => rfl | 1, _ => rfl | 2, _ => rfl)
          obtain ⟨A2, hA2⟩ : ∃ A2, A2 = wr.alloc (.cells #[.int .u8 0, .int .u8 0, .int .u8 0] 53) := ⟨_, rfl⟩
          obtain ⟨V2, hV2, hbV2, ru⟩ : ∃ V2, V2 = A2.setCell ⟨wr.heap.size, i, none⟩ (.int .u8 1) ∧ Below wr.heap.size wr V2 ∧ V2.rowIs wr.heap.size 53 3 (expsF (unE i).1 (unE i).2.1 (unE i).2.2) := ⟨_, rfl, by rw [hA2]; exact (box1 wr _).setCell (by simp) _, by rw [hA2]; exact unE_row hi3⟩
          replace ra : A2.rowIs wr.heap.size 53 3 (expsF 0 0 0) := by rw [hA2]; exact ra
          have z0 := nthX_cell ra hi3
          have z1 := ra.frozen i
          have hmu := unE_mono hi3
          have hPut := HO.out.put hp2 hmu (g i j)
          have HN : Hid (IsP p (putL p O (unE i) (g i j)) (formK g j (i + 1))) := Lib.hid (hPut.congr fun e _ => by
            rw [formK_at g j i hi3, Int.add_zero, Int.emod_eq_of_lt g0 g1, formK_step g j i hi3])
          obtain ⟨ux, hux⟩ : ∃ ux, (unE i).1 = ux := ⟨_, rfl⟩
          obtain ⟨uy, huy⟩ : ∃ uy, (unE i).2.1 = uy := ⟨_, rfl⟩
          obtain ⟨uz, huz⟩ : ∃ uz, (unE i).2.2 = uz := ⟨_, rfl⟩
          have hun : unE i = (ux, uy, uz) := by rw [← hux, ← huy, ← huz]
          rw [hux, huy, huz] at ru
          rw [hun] at HN hmu
          have hmu1 : byte3 (ux, uy, uz) := by
            obtain ⟨h1, _⟩ := hmu
            exact h1
          have hbd := hbV2.trans ((Below.same V2).drew.mono hbV2.size)
          have u0 : V2.drew.cell? ⟨wr.heap.size, 0, none⟩ = some (.int .u8 ux) := ru.cell (i := 0) (by omega)
          have u1 : V2.drew.cell? ⟨wr.heap.size, 1, none⟩ = some (.int .u8 uy) := ru.cell (i := 1) (by omega)
          have u2 : V2.drew.cell? ⟨wr.heap.size, 2, none⟩ = some (.int .u8 uz) := ru.cell (i := 2) (by omega)
          have rq2 : V2.drew.rowIs bq 30 3 (polyF p (n : Int) (.slice sa O.length sc)) := rowIs_below rq hbd rq.lt
          have st2 := st.later hbd
          have c0 : V2.drew.cell? ⟨w.heap.size, i * 3 + j, none⟩ = some (.int .u8 (g i j)) := mcell st2.mat hi3 hj3
          have ho2 : OwnP V2.drew b' (.slice sa O.length sc) O := owns_belowT ho hbd
          have hwg : IntKind.i64.wrap (g i j) = g i j := IntWalk.i64_in _ (by omega)
          clear hPut hun hux huy huz ru hbV2 rq st ho q0 q1 q2 y0 y1 y2
          obtain ⟨⟨q0, q1, q2⟩, y0, y1, y2⟩ := poly3 rq2
          go_upto_region 10 with fail
          rw [← hA2]
          clear hA2
          go_upto_region 11 with fail
          rw [← hV2]
          clear hV2 z0 z1 ra
          refine region_tail 8 (by kernel_rfl) (by kernel_rfl) ?_
          simp only [List.take_succ_cons, List.take_zero, List.drop_succ_cons, List.drop_zero]
          repeat still_step
          refine wpStill_nil ?_
          try simp only [hwg]
          go_wp2_with fail
          ((with_reducible refine (specPut p (n : Int) _ O _ ux uy uz (g i j) V2.drew (OwnP.slice ho2) HO.out hp2 hp13 hmu1 g0 (by omega)).mono ?_); rintro e w3 ⟨v3, rfl, ho3, hb3⟩)
          obtain ⟨sa3, sc3, rfl⟩ := owns_slice ho3
          have rq3 := rowIs_below rq2 hb3 rq2.lt
          have st3 := st2.later hb3
          obtain ⟨⟨e0, e1, e2⟩, f0, f1, f2⟩ := poly3 rq3
          have rq4 := (setB3 rq3 (OwnP.slice ho3) p (n : Int)).1
          have ho4 : OwnP _ _ _ _ := own_set3 ho3 rq3 (i0 := 0) (i1 := 1) (i2 := 2) (x0 := .int .i64 p) (x1 := .int .i64 (n : Int)) (x2 := .slice sa3 (putL p O (ux, uy, uz) (g i j)).length sc3)
          have st4 := st3.set3 rq3 hvq hbqW (.int .i64 p) (.int .i64 (n : Int)) (.slice sa3 (putL p O (ux, uy, uz) (g i j)).length sc3)
          have hle4 : w.heap.size ≤ V2.drew.heap.size := st2.below.size
          clear q0 q1 q2 y0 y1 y2 u0 u1 u2 c0 rq2 rq3 st2 st3 ho2 ho3
          go_wp2_with fail
          go_roundw
          case rel => exact ⟨i + 1, _, _, by omega, by go_num, HN, rq4, ⟨_, hle4, ho4⟩, st4⟩
          case measure => simp [intOf]; omega
        · obtain rfl : i = n := by omega
          have hO : O = formL g j := HO.out.unique HFL.out
          subst hO
          have hst := st
          have ho1 := ho
          obtain ⟨V5, hV5, hbV5, hc5⟩ : ∃ V5, V5 = wr.alloc (.cells #[.int .i64 p, .int .i64 (i : Int), .slice sa (formL g j).length sc] 30) ∧ Below wr.heap.size wr V5 ∧ ∀ k u, ([Value.int .i64 p, .int .i64 (i : Int), .slice sa (formL g j).length sc] : List Value)[k]? = some u → V5.cell? ((⟨wr.heap.size, 0, none⟩ : Addr).add k) = some u := by
            refine ⟨_, rfl, box1 _ _, fun k u hk => ?_⟩
            match k, hk with
            | 0, hk => simp at hk; subst hk; simp [World.cell?_alloc_at, Addr.add]
            | 1, hk => simp at hk; subst hk; simp [World.cell?_alloc_at, Addr.add]
            | 2, hk => simp at hk; subst hk; simp [World.cell?_alloc_at, Addr.add]
          have st5 := st.later hbV5
          have ho5 : OwnP V5 b' (.slice sa (formL g j).length sc) (formL g j) := owns_belowT ho hbV5
          have hrows := st5.rows
          rw [HJ.out] at hrows
          have hbas := st5.bas.2
          have hmx : j + 1 ≤ maxLen := by unfold maxLen; omega
          go_wp2_with (at_builtin; rw [← hV5]; refine wpList_append_own _ rfl _ _ 34 rfl W.heap.size 30 i0 _ 3 40 Try.underlying34 hi0 hz0 hz1 hz2 rfl (by decide) v j (cellsQ p i us) rfl hrows ⟨wr.heap.size, 0, none⟩ 1 1 [.int .i64 p, .int .i64 (i : Int), .slice sa (formL g j).length sc] rfl rfl hc5 ?d2 hmx ?d4 hbas ?_)
          case d2 =>
            intro u hu
            simp at hu
            rcases hu with rfl | rfl | rfl <;> rfl
          case d4 => omega
          intro v' w5 hown5 hg5 _
          rw [← hV5] at hg5
          have stN := st5.more (u := .slice sa (formL g j).length sc) (by rw [HJ.out]; exact ho5) hb' hg5 (by rw [HJ.out]; exact hown5)
          have HLJ : Hid ((us ++ [(.slice sa (formL g j).length sc : Value)]).length = j + 1) := Lib.hid (by simp [HJ.out])
          clear hown5 hg5 st st5 hst hrows ho ho1 ho5 hc5 hV5 hbV5 q0 q1 q2 y0 y1 y2 rq
          go_wp2_with fail
          go_roundw
          case rel => exact ⟨us ++ [.slice sa (formL g j).length sc], _, by rw [HLJ.out]; omega, by rw [HLJ.out]; go_num, rfl, stN⟩
          case measure => simp [intOf]; omega
    · have hjn : us.length = n := by omega
      have HD := Lib.hid (st.done hjn)
      have hend := st.below
      have hj' : ¬ ((us.length : Int) < (n : Int)) := by omega
      clear st hjn hjl
      go_wp2_with fail
      go_ret
      exact ⟨_, rfl, HD.out, hend⟩
end Go.Proofs.Ytadcbfngmgclaaa
