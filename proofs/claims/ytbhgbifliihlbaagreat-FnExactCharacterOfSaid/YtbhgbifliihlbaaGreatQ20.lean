/-
  WALKS: 'spec.l03Letters'. Conditions: as the theorem states.
  WALKS: 'spec.l03Letters'. Conditions: as the theorem states.
  The boxes of a matrix, of a polynomial and of a result. Conditions: as each theorem states.
  WALKS: 'spec.l01Replace'. Conditions: as the theorem states.
  WALKS: 'spec.l03Lead'. Conditions: as each theorem states.
  What a group's matrix makes of a polynomial, by the model. Conditions: as the theorem states.. Conditions: as each theorem states.
-/
import Derived.Test.YtbhgbifliihlbaaGreatQ17
import Derived.Test.YtbhgbifliihlbaaGreatQ19
import Derived.Test.YtbhgbifliihlbaaGreatQ18
namespace Go.Proofs.YtbhgbifliihlbaaGreat
open Go.RowKit Go.Sort Go.Maps EchM

theorem own_own {w : World} {base base' n n' size size' : Nat} {t e : TypeId} {v v' : Value} {xs xs' : List Value} (h : w.ownsRow base t size v n xs) (h' : w.ownsRow base' e size' v' n' xs') (hne : t ≠ e) : v.ownBlock = none ∨ v.ownBlock ≠ v'.ownBlock := by
  obtain ⟨_, ⟨rfl, _⟩ | ⟨g, cap, cur, rfl, _, hgc, _⟩⟩ := h
  · exact .inl rfl
  · obtain ⟨_, ⟨rfl, _⟩ | ⟨g', cap', cur', rfl, _, hgc', _⟩⟩ := h'
    · exact .inr (by simp [Value.ownBlock])
    · refine .inr fun hb => ?_
      simp [Value.ownBlock] at hb
      subst hb
      rw [hgc] at hgc'
      simp at hgc'
      exact hne hgc'.2
/-- The cells of polynomials of a prime and letters. -/
def cellsQ (p : Int) (n : Nat) (us : List Value) : List Value := us.flatMap fun u => [.int .i64 p, .int .i64 (n : Int), u]
theorem cellsQ_snoc (p : Int) (n : Nat) (us : List Value) (u : Value) : cellsQ p n (us ++ [u]) = cellsQ p n us ++ [.int .i64 p, .int .i64 (n : Int), u] := by simp [cellsQ]
theorem cellsQ_get (p : Int) (n : Nat) : ∀ (us : List Value) (k j : Nat) (h : k < us.length), j < 3 → (cellsQ p n us)[k * 3 + j]? = ([Value.int .i64 p, .int .i64 (n : Int), us[k]] : List Value)[j]?
  | [], k, _, h, _ => by simp at h
  | u :: r, 0, j, _, hj => by
    match j, hj with
    | 0, _ => simp [cellsQ]
    | 1, _ => simp [cellsQ]
    | 2, _ => simp [cellsQ]
  | u :: r, k + 1, j, h, hj => by
    have := cellsQ_get p n r k j (by simpa using h) hj
    rw [show (k + 1) * 3 + j = (k * 3 + j) + 3 by omega]
    simpa [cellsQ] using this
/-- The list of the letters' images in the making. -/
structure LetW (w wr : World) (base : Nat) (p : Int) (n : Nat) (g : Nat → Nat → Int) (v : Value) (us : List Value) : Prop where
  rows : wr.ownsRow base 39 3 v us.length (cellsQ p n us)
  own : ∀ (i : Nat) (h : i < us.length), OwnP wr w.heap.size us[i] (formL g i)
  mat : wr.rowIs w.heap.size 76 9 (mF g)
  below : Below w.heap.size w wr
  bas : w.heap.size < base ∧ base ≤ wr.heap.size
theorem LetW.later {w wr w1 : World} {base : Nat} {p : Int} {n : Nat} {g : Nat → Nat → Int} {v : Value} {us : List Value} (h : LetW w wr base p n g v us) (hb : Below wr.heap.size wr w1) : LetW w w1 base p n g v us :=
  ⟨owns_belowT h.rows hb, fun i hi => owns_belowT (h.own i hi) hb, rowIs_below h.mat hb h.mat.lt, h.below.trans (hb.mono h.below.size), h.bas.1, Nat.le_trans h.bas.2 hb.size⟩
theorem LetW.more {w wr w2 : World} {base base' : Nat} {p : Int} {n : Nat} {g : Nat → Nat → Int} {v v2 u : Value} {us : List Value} (h : LetW w wr base p n g v us) (ho : OwnP wr base' u (formL g us.length)) (hb : w.heap.size ≤ base')
    (hg : wr.grownBy w2 v.ownBlock) (hr : w2.ownsRow base 39 3 v2 (us.length + 1) (cellsQ p n us ++ [.int .i64 p, .int .i64 (n : Int), u])) : LetW w w2 base p n g v2 (us ++ [u]) := by
  refine ⟨by rw [cellsQ_snoc]; simpa using hr, fun i hi => ?_, rowIs_grown h.mat hg h.rows (by decide), h.below.grown hg h.below.size (fun k hk => by have := (h.rows.lt k hk).1; have := h.bas; omega), h.bas.1, Nat.le_trans h.bas.2 hg.size⟩
  simp at hi
  by_cases e : i = us.length
  · subst e
    rw [List.getElem_append_right (by omega)]
    simp only [Nat.sub_self, List.getElem_cons_zero]
    exact owns_low (ho.kept hg (own_own ho h.rows (by decide))) hb
  · rw [List.getElem_append_left (by omega)]
    exact (h.own i (by omega)).kept hg (own_own (h.own i (by omega)) h.rows (by decide))
theorem LetW.set3 {w wr : World} {base bo : Nat} {p : Int} {n : Nat} {g : Nat → Nat → Int} {v : Value} {us : List Value} {F : Nat → Value} (h : LetW w wr base p n g v us) (hr : wr.rowIs bo 39 3 F) (hv : v.ownBlock = none ∨ v.ownBlock ≠ some bo) (hb : w.heap.size < bo) (u0 u1 u2 : Value) :
    LetW w (((wr.setCell ⟨bo, 0, none⟩ u0).setCell ⟨bo, 1, none⟩ u1).setCell ⟨bo, 2, none⟩ u2) base p n g v us :=
  have k : ∀ (x : World) (i : Nat) (u : Value), x.ownsRow base 39 3 v us.length (cellsQ p n us) → (x.setCell ⟨bo, i, none⟩ u).ownsRow base 39 3 v us.length (cellsQ p n us) := fun x i u hx =>
    hx.kept (row := some bo) ⟨rfl, rfl, rfl, by rw [World.size_setCell]; exact Nat.le_refl _, fun k hk hne => Below.heap_setCell x ⟨bo, i, none⟩ u k (fun e => hne (by rw [e]))⟩ hv
  ⟨k _ _ _ (k _ _ _ (k _ _ _ h.rows)), fun i hi => own_set3 (h.own i hi) hr, setO3 h.mat (by omega) _ _ _, setL3 h.below (by omega) _ _ _, h.bas.1, by simp only [World.size_setCell]; exact h.bas.2⟩
theorem LetW.done {w wr : World} {base : Nat} {p : Int} {n : Nat} {g : Nat → Nat → Int} {v : Value} {us : List Value} (h : LetW w wr base p n g v us) (hl : us.length = n) : SlP wr v (formsP p n g) := by
  obtain ⟨_, ⟨rfl, h0⟩ | ⟨b, cap, cur, rfl, hb, hg, hc1, hc2, hsz, htk⟩⟩ := id h.rows
  · refine ⟨none, 0, by rw [formsP_len, ← hl, h0], .inl ?_⟩
    apply List.eq_nil_of_length_eq_zero
    rw [formsP_len, ← hl, h0]
  · refine ⟨_, cap, by rw [formsP_len, hl], .inr ⟨b, 0, rfl, (Array.getElem?_eq_some_iff.1 hg).1, fun k hk => ?_⟩⟩
    rw [formsP_len, ← hl] at hk
    rw [formsP_at]
    have key : ∀ j, j < 3 → ∀ u, ([Value.int .i64 p, .int .i64 (n : Int), us[k]] : List Value)[j]? = some u → wr.cell? ⟨b, 0 + k * 3 + j, none⟩ = some u := fun j hj u hu => by
      have e2 : (cellsQ p n us)[k * 3 + j]? = some u := (cellsQ_get p n us k j hk hj).trans hu
      have hlt : k * 3 + j < us.length * 3 := by omega
      rw [← htk, List.getElem?_take_of_lt hlt, Array.getElem?_toList] at e2
      simp [World.cell?, hg, e2]
    exact ⟨us[k], key 0 (by omega) _ rfl, key 1 (by omega) _ rfl, key 2 (by omega) _ rfl, OwnP.slice (h.own k hk)⟩
end Go.Proofs.YtbhgbifliihlbaaGreat
namespace Go.Proofs.YtbhgbifliihlbaaGreat
open Go.RowKit Go.Sort Go.Maps EchM

set_option maxRecDepth 8000 in
set_option maxHeartbeats 32000000 in
theorem slet (p : Int) (n : Nat) (g : Nat → Nat → Int) (w : World) (hM : MatP p n g) :
    Calls Tryz.prog 60 #[.int .i64 p, .int .i64 (n : Int), (.agg #[.int .u8 (g 0 0), .int .u8 (g 0 1), .int .u8 (g 0 2), .int .u8 (g 1 0), .int .u8 (g 1 1), .int .u8 (g 1 2), .int .u8 (g 2 0), .int .u8 (g 2 1), .int .u8 (g 2 2)])] w fun e w' =>
      ∃ v', e = .returned v' ∧ SlP w' v' (formsP p n g) ∧ Below w.heap.size w w' := by
  obtain ⟨i0, hi0, hz0, hz1, hz2⟩ := info_parts infoPoly
  have hn1 := hM.n1
  have hn3 := hM.n3
  obtain ⟨hp2, hp13⟩ := prime_le hM.prime
  obtain ⟨W, hW, hbW, ⟨hWs1, hWs2⟩, rg⟩ : ∃ W, W = w.alloc (.cells #[.int .u8 (g 0 0), .int .u8 (g 0 1), .int .u8 (g 0 2), .int .u8 (g 1 0), .int .u8 (g 1 1), .int .u8 (g 1 2), .int .u8 (g 2 0), .int .u8 (g 2 1), .int .u8 (g 2 2)] 76) ∧ Below w.heap.size w W ∧ (W.heap.size ≤ w.heap.size + 1 ∧ w.heap.size + 1 ≤ W.heap.size) ∧ W.rowIs w.heap.size 76 9 (mF g) := ⟨_, rfl, ebox1 _ _, ⟨by simp, by simp⟩, mbox w g _⟩
  obtain ⟨X, hX, hbX, hXs, hown⟩ : ∃ X, X = W.alloc (.cells #[] 39) ∧ Below W.heap.size W X ∧ W.heap.size + 1 ≤ X.heap.size ∧ X.ownsRow W.heap.size 39 3 (.slice (some ⟨W.heap.size, 0, none⟩) 0 0) 0 [] :=
    ⟨_, rfl, box1 _ _, by simp, by simpa using World.ownsRow_made (base := W.heap.size) (e := 39) (size := 3) W #[] 0 (by simp) (by simp [maxLen]) rfl⟩
  have st0 : LetW w X W.heap.size p n g (.slice (some ⟨W.heap.size, 0, none⟩) 0 0) [] := ⟨hown, fun i h => by simp at h, rowIs_below rg hbX rg.lt, hbW.trans (hbX.mono hbW.size), by omega, by omega⟩
  have HMK := Lib.hid hM
  clear hM hown hbX hbW rg
  go_enter Tryz.func60, Tryz.ntmps60
  go_upto_region 1 with fail
  rw [← hW]
  clear hW
  go_upto_region 2 with fail
  rw [← hX]
  clear hX
  go_wp2_with fail
  go_loopw [8, 7] (fun jv vv wr => ∃ (us : List Value) (v : Value), us.length ≤ n ∧ jv = .int .i64 (us.length : Int) ∧ vv = v ∧ LetW w wr W.heap.size p n g v us) (fun jv _ _ => n - (intOf jv).toNat)
  case atStart => exact ⟨[], _, by simp, by simp, rfl, st0⟩
  case round =>
    clear st0
    obtain ⟨us, v, hj, rfl, hvv, st⟩ := hrel
    subst u7
    obtain ⟨j, hjl⟩ : ∃ j, us.length = j := ⟨_, rfl⟩
    obtain ⟨wo, rfl⟩ : ∃ wo : World, wo = wr := ⟨_, rfl⟩
    by_cases hlj : j < n
    · have hlj' : (j : Int) < (n : Int) := by omega
      have hj3 : j < 3 := by omega
      have hj3' : (j : Int) < 3 := by omega
      have HG := Lib.hid (fun (i : Nat) (hi : i < 3) => HMK.out.num i hi j hj3)
      have HFL := Lib.hid (HMK.out.form hlj)
      have HJ := Lib.hid hjl
      rw [hjl]
      clear hjl
      go_wp2_with fail
      ((with_reducible refine (empty_any p (n : Int) _).mono ?_); rintro e w1 ⟨rfl, hown1, hb1⟩)
      obtain ⟨V, hV1, hbV, ⟨hVs1, hVs2⟩, rq⟩ := newbox w1 p (n : Int) (.slice (some ⟨wo.heap.size + 1, 0, none⟩) 0 0)
      have hoV : OwnP V wo.heap.size (.slice (some ⟨wo.heap.size + 1, 0, none⟩) 0 0) [] := owns_belowT hown1 hbV
      have stV := (st.later hb1).later hbV
      have hboV := hb1.trans (hbV.mono hb1.size)
      have hs1 := hb1.size
      obtain ⟨bq, hbq⟩ : ∃ bq, w1.heap.size = bq := ⟨_, rfl⟩
      have st_le : w.heap.size ≤ wo.heap.size := st.below.size
      have hbqW : w.heap.size < bq := by have := st.bas; omega
      have hvq : v.ownBlock = none ∨ v.ownBlock ≠ some bq := .inr (fun e => by have := (st.rows.lt bq e).2; omega)
      have hbq2 : wo.heap.size ≤ bq := by omega
      go_upto_region 6 with fail
      rw [← hV1]
      rw [hbq] at rq
      clear hV1 hown1 st hbV hb1 hbq
      obtain ⟨svA, hsvA⟩ : ∃ svA : Value, (.slice (some ⟨wo.heap.size + 1, 0, none⟩) 0 0 : Value) = svA := ⟨_, rfl⟩
      rw [hsvA] at hoV rq
      clear hsvA
      go_wp2_with fail
      go_loopw [10] (fun iv wr => ∃ (i : Nat) (sv : Value) (O : List Tm), i ≤ n ∧ iv = .int .i64 i ∧ Hid (IsP p O (formK g j i)) ∧ wr.rowIs bq 39 3 (polyF p (n : Int) sv) ∧ (∃ b', w.heap.size ≤ b' ∧ OwnP wr b' sv O) ∧ LetW w wr W.heap.size p n g v us) (fun iv _ => n - (intOf iv).toNat)
      case atStart => exact ⟨0, _, [], by omega, rfl, Lib.hid ((IsP.nil p).congr fun e _ => (formK_zero g j e).symm), rq, ⟨_, st_le, hoV⟩, stV⟩
      case round =>
        clear stV rq hoV
        obtain ⟨i, sv, O, hi, rfl, HO, rq, ⟨b', hb', ho⟩, st⟩ := hrel
        obtain ⟨sa, sc, rfl⟩ := owns_slice ho
        obtain ⟨⟨q0, q1, q2⟩, y0, y1, y2⟩ := poly3 rq
        by_cases hli : i < n
        · have hli' : (i : Int) < (n : Int) := by omega
          have hi3 : i < 3 := by omega
          have hi3' : (i : Int) < 3 := by omega
          obtain ⟨g0, g1⟩ := HG.out i hi3
          have ra := World.rowIs_alloc wr #[Value.int .u8 0, .int .u8 0, .int .u8 0] 55 (expsF 0 0 0) (fun i hi => by simp at hi; match i, hi with | 0, _ => rfl | 1, _ => rfl | 2, _ => rfl)
          obtain ⟨A2, hA2⟩ : ∃ A2, A2 = wr.alloc (.cells #[.int .u8 0, .int .u8 0, .int .u8 0] 55) := ⟨_, rfl⟩
          obtain ⟨V2, hV2, hbV2, ru⟩ : ∃ V2, V2 = A2.setCell ⟨wr.heap.size, i, none⟩ (.int .u8 1) ∧ Below wr.heap.size wr V2 ∧ V2.rowIs wr.heap.size 55 3 (expsF (unE i).1 (unE i).2.1 (unE i).2.2) := ⟨_, rfl, by rw [hA2]; exact (box1 wr _).setCell (by simp) _, by rw [hA2]; exact unE_row hi3⟩
          replace ra : A2.rowIs wr.heap.size 55 3 (expsF 0 0 0) := by rw [hA2]; exact ra
          have z0 := nthX_cell ra hi3
          have z1 := ra.frozen i
          have hmu := unE_mono hi3
          have hPut := HO.out.put hp2 hmu (g i j)
          have HN : Hid (IsP p (putL p O (unE i) (g i j)) (formK g j (i + 1))) := Lib.hid (hPut.congr fun e _ => by
            rw [formK_at g j i hi3, Int.add_zero, Int.emod_eq_of_lt g0 g1, formK_step g j i hi3])
          obtain ⟨ux, hux⟩ : ∃ ux, (unE i).1 = ux := ⟨_, rfl⟩
          obtain ⟨uy, huy⟩ : ∃ uy, (unE i).2.1 = uy := ⟨_, rfl⟩
          obtain ⟨uz, huz⟩ : ∃ uz, (unE i).2.2 = uz := ⟨_, rfl⟩
          have hun : unE i = (ux, uy, uz) := by rw [← hux, ← huy, ← huz]
          rw [hux, huy, huz] at ru
          rw [hun] at HN hmu
          have hmu1 : byte3 (ux, uy, uz) := by
            obtain ⟨h1, _⟩ := hmu
            exact h1
          have hbd := hbV2.trans ((Below.same V2).drew.mono hbV2.size)
          have u0 : V2.drew.cell? ⟨wr.heap.size, 0, none⟩ = some (.int .u8 ux) := ru.cell (i := 0) (by omega)
          have u1 : V2.drew.cell? ⟨wr.heap.size, 1, none⟩ = some (.int .u8 uy) := ru.cell (i := 1) (by omega)
          have u2 : V2.drew.cell? ⟨wr.heap.size, 2, none⟩ = some (.int .u8 uz) := ru.cell (i := 2) (by omega)
          have rq2 : V2.drew.rowIs bq 39 3 (polyF p (n : Int) (.slice sa O.length sc)) := rowIs_below rq hbd rq.lt
          have st2 := st.later hbd
          have c0 : V2.drew.cell? ⟨w.heap.size, i * 3 + j, none⟩ = some (.int .u8 (g i j)) := mcell st2.mat hi3 hj3
          have ho2 : OwnP V2.drew b' (.slice sa O.length sc) O := owns_belowT ho hbd
          have hwg : IntKind.i64.wrap (g i j) = g i j := IntWalk.i64_in _ (by omega)
          clear hPut hun hux huy huz ru hbV2 rq st ho q0 q1 q2 y0 y1 y2
          obtain ⟨⟨q0, q1, q2⟩, y0, y1, y2⟩ := poly3 rq2
          go_upto_region 10 with fail
          rw [← hA2]
          clear hA2
          go_upto_region 11 with fail
          rw [← hV2]
          clear hV2 z0 z1 ra
          refine region_tail 8 (by kernel_rfl) (by kernel_rfl) ?_
          simp only [List.take_succ_cons, List.take_zero, List.drop_succ_cons, List.drop_zero]
          repeat still_step
          refine wpStill_nil ?_
          try simp only [hwg]
          go_wp2_with fail
          ((with_reducible refine (specPut p (n : Int) _ O _ ux uy uz (g i j) V2.drew (OwnP.slice ho2) HO.out hp2 hp13 hmu1 g0 (by omega)).mono ?_); rintro e w3 ⟨v3, rfl, ho3, hb3⟩)
          obtain ⟨sa3, sc3, rfl⟩ := owns_slice ho3
          have rq3 := rowIs_below rq2 hb3 rq2.lt
          have st3 := st2.later hb3
          obtain ⟨⟨e0, e1, e2⟩, f0, f1, f2⟩ := poly3 rq3
          have rq4 := (setB3 rq3 (OwnP.slice ho3) p (n : Int)).1
          have ho4 : OwnP _ _ _ _ := own_set3 ho3 rq3 (i0 := 0) (i1 := 1) (i2 := 2) (x0 := .int .i64 p) (x1 := .int .i64 (n : Int)) (x2 := .slice sa3 (putL p O (ux, uy, uz) (g i j)).length sc3)
          have st4 := st3.set3 rq3 hvq hbqW (.int .i64 p) (.int .i64 (n : Int)) (.slice sa3 (putL p O (ux, uy, uz) (g i j)).length sc3)
          have hle4 : w.heap.size ≤ V2.drew.heap.size := st2.below.size
          clear q0 q1 q2 y0 y1 y2 u0 u1 u2 c0 rq2 rq3 st2 st3 ho2 ho3
          go_wp2_with fail
          go_roundw
          case rel => exact ⟨i + 1, _, _, by omega, by go_num, HN, rq4, ⟨_, hle4, ho4⟩, st4⟩
          case measure => simp [intOf]; omega
        · obtain rfl : i = n := by omega
          have hO : O = formL g j := HO.out.unique HFL.out
          subst hO
          have hst := st
          have ho1 := ho
          obtain ⟨V5, hV5, hbV5, hc5⟩ : ∃ V5, V5 = wr.alloc (.cells #[.int .i64 p, .int .i64 (i : Int), .slice sa (formL g j).length sc] 39) ∧ Below wr.heap.size wr V5 ∧ ∀ k u, ([Value.int .i64 p, .int .i64 (i : Int), .slice sa (formL g j).length sc] : List Value)[k]? = some u → V5.cell? ((⟨wr.heap.size, 0, none⟩ : Addr).add k) = some u := by
            refine ⟨_, rfl, box1 _ _, fun k u hk => ?_⟩
            match k, hk with
            | 0, hk => simp at hk; subst hk; simp [World.cell?_alloc_at, Addr.add]
            | 1, hk => simp at hk; subst hk; simp [World.cell?_alloc_at, Addr.add]
            | 2, hk => simp at hk; subst hk; simp [World.cell?_alloc_at, Addr.add]
          have st5 := st.later hbV5
          have ho5 : OwnP V5 b' (.slice sa (formL g j).length sc) (formL g j) := owns_belowT ho hbV5
          have hrows := st5.rows
          rw [HJ.out] at hrows
          have hbas := st5.bas.2
          have hmx : j + 1 ≤ maxLen := by unfold maxLen; omega
          go_wp2_with (at_builtin; rw [← hV5]; refine wpList_append_own _ rfl _ _ 51 rfl W.heap.size 39 i0 _ 3 40 Tryz.underlying51 hi0 hz0 hz1 hz2 rfl (by decide) v j (cellsQ p i us) rfl hrows ⟨wr.heap.size, 0, none⟩ 1 1 [.int .i64 p, .int .i64 (i : Int), .slice sa (formL g j).length sc] rfl rfl hc5 ?d2 hmx ?d4 hbas ?_)
          case d2 =>
            intro u hu
            simp at hu
            rcases hu with rfl | rfl | rfl <;> rfl
          case d4 => omega
          intro v' w5 hown5 hg5 _
          rw [← hV5] at hg5
          have stN := st5.more (u := .slice sa (formL g j).length sc) (by rw [HJ.out]; exact ho5) hb' hg5 (by rw [HJ.out]; exact hown5)
          have HLJ : Hid ((us ++ [(.slice sa (formL g j).length sc : Value)]).length = j + 1) := Lib.hid (by simp [HJ.out])
          clear hown5 hg5 st st5 hst hrows ho ho1 ho5 hc5 hV5 hbV5 q0 q1 q2 y0 y1 y2 rq
          go_wp2_with fail
          go_roundw
          case rel => exact ⟨us ++ [.slice sa (formL g j).length sc], _, by rw [HLJ.out]; omega, by rw [HLJ.out]; go_num, rfl, stN⟩
          case measure => simp [intOf]; omega
    · have hjn : us.length = n := by omega
      have HD := Lib.hid (st.done hjn)
      have hend := st.below
      have hj' : ¬ ((us.length : Int) < (n : Int)) := by omega
      clear st hjn hjl
      go_wp2_with fail
      go_ret
      exact ⟨_, rfl, HD.out, hend⟩
end Go.Proofs.YtbhgbifliihlbaaGreat
namespace Go.Proofs.YtbhgbifliihlbaaGreat
open Go.RowKit Go.Sort Go.Maps EchM

/-- The boxes of a matrix, of a polynomial and of the result. -/
theorem boxMPR (w : World) (g : Nat → Nat → Int) (p d : Int) (v : Value) : ∃ W, W = ((w.alloc (.cells #[.int .u8 (g 0 0), .int .u8 (g 0 1), .int .u8 (g 0 2), .int .u8 (g 1 0), .int .u8 (g 1 1), .int .u8 (g 1 2), .int .u8 (g 2 0), .int .u8 (g 2 1), .int .u8 (g 2 2)] 76)).alloc (.cells #[.int .i64 p, .int .i64 d, v] 39)).alloc (.cells #[.int .i64 0, .int .i64 0, .slice none 0 0] 39) ∧ Below w.heap.size w W ∧ (W.heap.size ≤ w.heap.size + 3 ∧ w.heap.size + 3 ≤ W.heap.size) ∧
      W.rowIs w.heap.size 76 9 (mF g) ∧ W.rowIs (w.heap.size + 1) 39 3 (polyF p d v) ∧ W.rowIs (w.heap.size + 2) 39 3 (polyF 0 0 (.slice none 0 0)) := by
  obtain ⟨U, hU, hbU, rm⟩ : ∃ U, U = w.alloc (.cells #[.int .u8 (g 0 0), .int .u8 (g 0 1), .int .u8 (g 0 2), .int .u8 (g 1 0), .int .u8 (g 1 1), .int .u8 (g 1 2), .int .u8 (g 2 0), .int .u8 (g 2 1), .int .u8 (g 2 2)] 76) ∧ Below w.heap.size w U ∧ U.rowIs w.heap.size 76 9 (mF g) := ⟨_, rfl, ebox1 _ _, mbox w g _⟩
  have hs : U.heap.size = w.heap.size + 1 := by rw [hU]; simp
  obtain ⟨W, hW, hbW, ⟨s1, s2⟩, rx, rr⟩ := boxes2 U p d v
  rw [hs] at rx rr s1 s2
  exact ⟨W, by rw [hW, hU], hbU.trans (hbW.mono hbU.size), ⟨by omega, by omega⟩, rowIs_below rm hbW rm.lt, rx, rr⟩
end Go.Proofs.YtbhgbifliihlbaaGreat
namespace Go.Proofs.YtbhgbifliihlbaaGreat
open Go.RowKit Go.Sort Go.Maps

set_option maxRecDepth 8000 in
set_option maxHeartbeats 32000000 in
theorem sRep (p d d' : Int) (v lv : Value) (xs : List Tm) (G : List Pm) (P : Int × Int × Int → List Tm) (w : World) (hLP : ListP p d G) (hX : Valid p d' xs) (hz : ∀ t ∈ xs, ∀ i, G.length ≤ i → nthE (tmE t) i = 0) (hP : Bnd (tmsL G) xs → Subs p (tmsL G) xs P) (hS : SliceT w v xs) (hG : SlP w lv G) :
    Calls Tryz.prog 59 #[.agg #[.int .i64 p, .int .i64 d', v], lv] w fun e w' =>
      ((Bnd (tmsL G) xs ∧ ∃ v' L, e = .returned (.tuple #[.agg #[.int .i64 p, .int .i64 d, v'], .bool true]) ∧ OwnP w' w.heap.size v' L ∧ IsP p L (subF p P xs)) ∨
        (¬ Bnd (tmsL G) xs ∧ ∃ v', e = .returned (.tuple #[.agg #[.int .i64 p, .int .i64 d, v'], .bool false]) ∧ SliceT w' v' [])) ∧ Below w.heap.size w w' := by
  have hl1 := hLP.l1
  have hl3 := hLP.l3
  have hlx := hX.isP.len
  obtain ⟨a, cap, rfl, _⟩ := id hS
  obtain ⟨la, lc, rfl, hc⟩ := id hG
  obtain ⟨bl, off, rfl, hbl, hT⟩ : ∃ bl off, la = some ⟨bl, off, none⟩ ∧ bl < w.heap.size ∧ PolysW w bl off G := by
    rcases hc with h | h
    · rw [h] at hl1; simp at hl1
    · exact h
  have hl0' : (0 : Int) < (G.length : Int) := by omega
  have hl0 : 0 < G.length := by omega
  obtain ⟨W, hW, hbW, ⟨hWs1, hWs2⟩, rx, rr⟩ : ∃ W, W = (w.alloc (.cells #[.int .i64 p, .int .i64 d', .slice a xs.length cap] 39)).alloc (.cells #[.int .i64 0, .int .i64 0, .slice none 0 0] 39) ∧ Below w.heap.size w W ∧ (W.heap.size ≤ w.heap.size + 2 ∧ w.heap.size + 2 ≤ W.heap.size) ∧
      W.rowIs w.heap.size 39 3 (polyF p d' (.slice a xs.length cap)) ∧ W.rowIs (w.heap.size + 1) 39 3 (polyF 0 0 (.slice none 0 0)) := boxes2 w p d' (.slice a xs.length cap)
  have HT := Lib.hid hT
  have hok0 := hLP.ok G[0] (List.getElem_mem (by omega))
  obtain ⟨u0, t0, t1, t2, t3⟩ := (hT.below hbW hbl) 0 (by omega)
  rw [hok0.1, Nat.zero_mul, Nat.add_zero] at t0
  rw [hok0.2.1, Nat.zero_mul, Nat.add_zero] at t1
  have hblW : bl < W.heap.size := Nat.lt_of_lt_of_le hbl hbW.size
  have KK := Lib.hid (fun w' (h : Below W.heap.size W w') => show (w'.cell? ⟨bl, off, none⟩ = some (.int .i64 p) ∧ w'.cell? ⟨bl, off + 1, none⟩ = some (.int .i64 d)) from
    ⟨(h.cell (p := ⟨bl, _, none⟩) hblW).trans t0, (h.cell (p := ⟨bl, _, none⟩) hblW).trans t1⟩)
  clear hT hc t2 t3
  go_enter Tryz.func59, Tryz.ntmps59
  go_upto_region 1 with fail
  rw [← hW]
  clear hW t0 t1
  go_cut [6] (fun s6 wx => ∃ (bq : Nat) (A : Option Addr) (c : Nat), s6 = .pointer (some ⟨bq, 0, none⟩) ∧ wx.rowIs bq 39 3 (polyF p d (.slice A 0 c)) ∧ Below W.heap.size W wx ∧ W.heap.size ≤ bq ∧ OwnP wx W.heap.size (.slice A 0 c) [])
  case first =>
    go_region_held3 (fun w' => (w'.cell? ⟨bl, off, none⟩ = some (.int .i64 p) ∧ w'.cell? ⟨bl, off + 1, none⟩ = some (.int .i64 d)))
      (first | with_reducible exact KK.out _ (setL3 HB13 (Nat.le_refl _) _ _ _) | with_reducible exact KK.out _ (Below.same _).drew | with_reducible exact KK.out _ (box1 _ _).drew | with_reducible exact KK.out _ HB13 | with_reducible exact KK.out _ (HB13.trans ((box1 _ _).mono HB13.size)) | with_reducible exact KK.out _ (setL3 (HB13.trans ((box1 _ _).mono HB13.size)) HB13.size _ _ _))
      ((go_at_call 39; (with_reducible refine (empty_any p d _).mono ?_); rintro e w13 ⟨rfl, hown13, hb13⟩; have HB13 : Below W.heap.size W w13 := (by first | exact (Below.same _).drew.trans hb13 | with_reducible exact (box1 _ _).drew.trans (hb13.mono (by simp))); (first | (have ZR13 : w13.rowIs W.heap.size 39 3 (polyF 0 0 (.slice none 0 0)) := rowIs_below (zboxD W) hb13 (by simp); obtain ⟨⟨e130, e131, e132⟩, f130, f131, f132⟩ := poly3 ZR13) | skip)))
    all_goals
      go_wp2_with fail
      go_meet
      first
        | exact ⟨w13.heap.size, _, _, rfl, World.rowIs_alloc w13 #[Value.int .i64 p, .int .i64 d, _] _ _ (fun i hi => by simp at hi; match i, hi with | 0, _ => rfl | 1, _ => rfl | 2, _ => rfl), HB13.trans ((box1 _ _).mono HB13.size), HB13.size, owns_low (owns_belowT hown13 (box1 _ _)) (by first | exact Nat.le_refl _ | simp)⟩
        | exact ⟨W.heap.size, _, _, rfl, (setB3 (S := []) ZR13 ⟨_, _, rfl, .inl rfl⟩ p d).1, setL3 HB13 (Nat.le_refl _) _ _ _, Nat.le_refl _, (by have q := owns_low (base' := W.heap.size) hown13 (by simp); simp at q; exact rep_own3 (show OwnP w13 W.heap.size (.slice (some ⟨W.heap.size + 1 + 1, 0, none⟩) 0 0) [] from q) ZR13)⟩
  case rest =>
    obtain ⟨bq, A0, c0, rfl, rq, hbq, hqW, hq0⟩ := hcut
    have st0 : RepS w wc bq p d d' (.slice a xs.length cap) (.slice A0 0 c0) [] := ⟨rq, owns_low hq0 hbW.size, rowIs_below rx hbq rx.lt, rowIs_below rr hbq rr.lt, hbW.trans (hbq.mono hbW.size), by omega⟩
    obtain ⟨sv0, hsv0⟩ : ∃ sv0, (.slice A0 0 c0 : Value) = sv0 := ⟨_, rfl⟩
    have HA0 := Lib.hid hsv0
    have hSW := hS
    have HV := Lib.hid hX
    have HD := Lib.hid (fun i => show dgN (tmsL G) i ≤ 12 from by
      by_cases h : i < G.length
      · unfold dgN
        rw [tmsL_nth h]
        exact (max_deg (hLP.ok _ (List.getElem_mem h)).2.2).2
      · rw [dgN_ge (by rw [tmsL_len]; omega)]
        omega)
    have HPV : Hid (∀ (m : Nat) (h : m < G.length), G[m].1 = p ∧ G[m].2.1 = d ∧ Valid p d G[m].2.2) := Lib.hid (fun m hm => hLP.ok _ (List.getElem_mem hm))
    have HF := Lib.hid (fun e => bndK_full (Ls := tmsL G) (by rw [tmsL_len]; omega) (by rw [tmsL_len]; omega) e)
    have HLN := Lib.hid (tmsL_len G)
    have HLT := Lib.hid hLP.tms
    have HXZ := Lib.hid hz
    have HSB := Lib.hid hP
    clear hok0 KK rq rx rr hbq hsv0 hbW hX hz hP hLP hG
    go_wp2_with fail
    go_loopw [7] (fun i wr => ∃ k : Nat, k ≤ xs.length ∧ i = .int .i64 k ∧ Hid (∀ (j : Nat) (h : j < xs.length), j < k → bndE (tmsL G) (tmE xs[j]) ≤ 12) ∧ RepS w wr bq p d d' (.slice a xs.length cap) (.slice A0 0 c0) []) (fun i _ => xs.length - (intOf i).toNat)
    case atStart => exact ⟨0, by omega, rfl, Lib.hid (fun j _ h => by omega), st0⟩
    case round =>
      clear st0
      obtain ⟨k, hk, rfl, HU, st⟩ := hrel
      obtain ⟨wo, rfl⟩ : ∃ wo : World, wo = wr := ⟨_, rfl⟩
      obtain ⟨⟨c0', c1', c2'⟩, _⟩ := poly3 st.arg
      by_cases hlt : k < xs.length
      · have hlt' : (k : Int) < (xs.length : Int) := by omega
        obtain ⟨A1, cap1, hv1, hcase1⟩ := hS
        simp at hv1
        obtain ⟨rfl, rfl⟩ := hv1
        rcases hcase1 with h0 | ⟨b1, off1, rfl, hltb1, hTx⟩
        · rw [h0] at hlt; exact absurd hlt (by simp)
        have HTX := Lib.hid hTx
        have hm12 := (HV.out.mem xs[k] (List.getElem_mem _)).1
        have HE := Lib.hid (nthE_bound hm12)
        have HBK := Lib.hid (bndK_bound (Ls := tmsL G) hm12 HD.out)
        have HNT := Lib.hid (fun (w' : World) (hb : Below w.heap.size w w') (m : Nat) (hm : m < 3) => nthT_cell (hTx.below hb hltb1) hlt hm)
        generalize hex : tmE xs[k] = e at HE HBK HNT
        clear hTx hm12 hSW
        go_wp2_with fail
        clear c0' c1' c2'
        go_loopw [9, 8] (fun i bd wr => ∃ m : Nat, m ≤ G.length ∧ i = .int .i64 m ∧ bd = .int .i64 (bndK (tmsL G) e m) ∧ RepS w wr bq p d d' (.slice (some ⟨b1, off1, none⟩) xs.length cap) (.slice A0 0 c0) []) (fun i _ _ => G.length - (intOf i).toNat)
        case atStart => exact ⟨0, by omega, rfl, rfl, st⟩
        case round =>
          clear st
          obtain ⟨m, hm, rfl, rfl, st⟩ := hrel
          by_cases hlm : m < G.length
          · have hlm' : (m : Int) < (G.length : Int) := by omega
            have hm3 : m < 3 := by omega
            have hm3' : (m : Int) < 3 := by omega
            obtain ⟨uv, g0, g1, g2, hu⟩ := (HT.out.below st.below hbl) m hlm
            obtain ⟨ua, uc, rfl, _⟩ := id hu
            have hv := (HPV.out m hlm).2.2
            have hDG : dgN (tmsL G) m = max (degI G[m].2.2) 0 := by unfold dgN; rw [tmsL_nth hlm]
            obtain ⟨dg1, dg2⟩ := deg_bound hv
            have hlg := hv.isP.len
            have kD : ∀ dd os, Calls Tryz.prog 81 #[.agg #[.int .i64 G[m].1, .int .i64 G[m].2.1, .slice ua G[m].2.2.length uc]] (grow (redrawn wr dd) os) fun e w'' => e = .returned (.int .i64 (degI G[m].2.2)) ∧ ∃ p : Regrown, w'' = grow (redrawn wr p.d) p.os := fun dd os =>
              Calls.regrown_of (specDegree_any _ _ _ _ _ (by omega) (hu.below (below_regrown wr dd os)) (hv.isP.byte hv.p13))
            obtain ⟨⟨x0, x1, x2⟩, _⟩ := poly3 st.arg
            have k0 := cell_regrown x2
            have k1 := cell_regrown (HNT.out wr st.below m hm3)
            have k2 := cell_regrown g0
            have k3 := cell_regrown g1
            have k4 := cell_regrown g2
            obtain ⟨e0, e1⟩ := HE.out m
            obtain ⟨bk0, bk1⟩ := HBK.out m
            obtain ⟨mx, hmx⟩ : ∃ mx, max (degI G[m].2.2) 0 = mx := ⟨_, rfl⟩
            have hmx1 : 0 ≤ mx ∧ mx ≤ 12 := by omega
            rw [hmx] at hDG
            have HNX : Hid (bndK (tmsL G) e (m + 1) = bndK (tmsL G) e m + nthE e m * mx) := Lib.hid (by rw [bndK, hDG])
            have m0 : 0 ≤ nthE e m * mx := Int.mul_nonneg e0 hmx1.1
            have m1 : nthE e m * mx ≤ 12 * 12 := Int.mul_le_mul e1 hmx1.2 hmx1.1 (by omega)
            have hw1 : IntKind.i64.wrap (nthE e m * mx) = nthE e m * mx := IntWalk.i64_in _ (by omega)
            have hw2 : IntKind.i64.wrap (bndK (tmsL G) e m + nthE e m * mx) = bndK (tmsL G) e m + nthE e m * mx := IntWalk.i64_in _ (by omega)
            obtain ⟨E, hE⟩ : ∃ E, nthE e m = E := ⟨_, rfl⟩
            obtain ⟨S, hS2⟩ : ∃ S, bndK (tmsL G) e m = S := ⟨_, rfl⟩
            rw [hE] at k1 HNX m0 m1 hw1 hw2 e0 e1
            rw [hS2] at HNX hw2 bk0 bk1 ⊢
            clear x0 x1 x2 g0 g1 g2 hu hv hDG hE hS2 hlg
            go_wp2_with fail
            refine wp_region_quiet_below (by kernel_rfl) (by kernel_rfl) ?_
            repeat (go_big_quiet_step (with_reducible exact kD _ _))
            refine wpQuiet_nil ?_
            intro _ hw'
            obtain ⟨⟨dq, osq⟩, hw''⟩ := hw'
            subst hw''
            have hst := st.later (below_regrown wr dq osq)
            generalize grow (redrawn wr dq) osq = w7 at *
            clear k0 k1 k2 k3 k4 kD
            go_wp2_with fail
            go_roundw
            case rel => exact ⟨m + 1, by omega, by go_num, by rw [HNX.out], hst⟩
            case measure => simp [intOf]; omega
          · obtain rfl : m = G.length := by omega
            have hF := HF.out e
            rw [HLN.out] at hF
            rw [hF]
            obtain ⟨bk0, bk1⟩ := HBK.out G.length
            rw [hF] at bk0 bk1
            by_cases hb12 : bndE (tmsL G) e ≤ 12
            · have hN : Hid (∀ (j : Nat) (h : j < xs.length), j < k + 1 → bndE (tmsL G) (tmE xs[j]) ≤ 12) := Lib.hid (fun j hj hjk => by
                by_cases e : j = k
                · subst e; rw [hex]; exact hb12
                · exact HU.out j hj (by omega))
              have hgt : decide (12 < bndE (tmsL G) e) = false := by simpa using hb12
              clear hb12 hF
              go_wp2_with fail
              go_roundw
              case rel => exact ⟨k + 1, by omega, by go_num, hN, st⟩
              case measure => simp [intOf]; omega
            · have HO : Hid (¬ Bnd (tmsL G) xs) := Lib.hid (fun h => hb12 (by rw [← hex]; exact h _ (List.getElem_mem hlt)))
              have hgt : decide (12 < bndE (tmsL G) e) = true := by simpa using hb12
              clear hb12 hF
              obtain ⟨⟨q0, q1, q2⟩, _⟩ := poly3 st.out
              obtain ⟨⟨r0, r1, r2⟩, z0, z1, z2⟩ := poly3 st.res
              have hA := (setB3 st.res (OwnP.slice st.rows) p d)
              have hL := setL3 st.below (B0 := w.heap.size + 1) (by omega) (.int .i64 p) (.int .i64 d) (.slice A0 0 c0)
              obtain ⟨⟨m0, m1, m2⟩, _⟩ := poly3 hA.1
              go_wp2_with fail
              exact bodyPost_ret (v := .tuple #[.agg #[.int .i64 p, .int .i64 d, .slice A0 0 c0], .bool false]) (by simp [results, Tryz.results59, go_sem, m0, m1, m2]) rfl ⟨.inr ⟨HO.out, _, rfl, hA.2⟩, hL⟩
      · obtain rfl : k = xs.length := by omega
        have hBnd : Bnd (tmsL G) xs := fun t ht => by
          obtain ⟨j, hj, rfl⟩ := List.mem_iff_getElem.1 ht
          exact HU.out j hj hj
        have HS2 := Lib.hid (HSB.out hBnd)
        have HBN := Lib.hid hBnd
        clear hBnd HU
        go_wp2_with fail
        clear c0' c1' c2'
        have HO0 : Hid (IsP p [] (subF p P (xs.take 0))) := Lib.hid ((IsP.nil p).congr fun e _ => (subF_zero p P xs e).symm)
        have st1 : ∃ sv, RepS w wo bq p d d' (.slice a xs.length cap) sv [] := ⟨_, st⟩
        clear st
        obtain ⟨svS, st1⟩ := st1
        go_loopw [10] (fun i wr => ∃ (k : Nat) (sv : Value) (O : List Tm), k ≤ xs.length ∧ i = .int .i64 k ∧ Hid (IsP p O (subF p P (xs.take k))) ∧ RepS w wr bq p d d' (.slice a xs.length cap) sv O) (fun i _ => xs.length - (intOf i).toNat)
        case atStart => exact ⟨0, _, _, by omega, rfl, HO0, st1⟩
        case round =>
          clear st1 HO0
          obtain ⟨k, sv, O, hk, rfl, HO, st⟩ := hrel
          obtain ⟨wo, rfl⟩ : ∃ wo : World, wo = wr := ⟨_, rfl⟩
          obtain ⟨sa, sc, rfl⟩ := owns_slice st.rows
          obtain ⟨⟨c0', c1', c2'⟩, _⟩ := poly3 st.arg
          obtain ⟨⟨q0, q1, q2⟩, y0, y1, y2⟩ := poly3 st.out
          by_cases hlt : k < xs.length
          · have hlt' : (k : Int) < (xs.length : Int) := by omega
            obtain ⟨A1, cap1, hv1, hcase1⟩ := hS
            simp at hv1
            obtain ⟨rfl, rfl⟩ := hv1
            rcases hcase1 with h0 | ⟨b1, off1, rfl, hltb1, hTx⟩
            · rw [h0] at hlt; exact absurd hlt (by simp)
            obtain ⟨⟨hm12, hs12⟩, bu1, bu2⟩ := HV.out.mem xs[k] (List.getElem_mem _)
            have hm : mono12 (tmE xs[k]) := ⟨hm12, hs12⟩
            have HNT := Lib.hid (fun (w' : World) (hb : Below w.heap.size w w') (m : Nat) (hm : m < 3) => nthT_cell (hTx.below hb hltb1) hlt hm)
            have HE := Lib.hid (nthE_bound hm)
            have hpr := HS2.out xs[k] (List.getElem_mem _)
            have HSTEP := Lib.hid (fun (L : List Tm) (hL : ∀ e, byte3 e → atL L e = xs[k].2.2.2 * atL (P (tmE xs[k])) e % p) e he => sub_step (P := P) hlt hL e he)
            obtain ⟨_, _, _, cu⟩ := hTx.below st.below hltb1 k hlt
            have hbnd := HBN.out xs[k] (List.getElem_mem _)
            rw [← HF.out, HLN.out] at hbnd
            have HSUM := Lib.hid (fun (m j : Nat) (hj : (j : Int) ≤ nthE (tmE xs[k]) m) (hmn : m < G.length) => sumD_facP (Ls := tmsL G) hm hj hmn hbnd)
            have HFV := Lib.hid (fun (m j : Nat) => facP_valid (HPV.out 0 (by omega)).2.2 HLT.out (tmE xs[k]) m j)
            have HFK := Lib.hid (facK_full (Ls := tmsL G) hl1 hl3 (HXZ.out xs[k] (List.getElem_mem _)))
            generalize hu : xs[k].2.2.2 = u at cu bu1 bu2 HSTEP
            generalize hex : tmE xs[k] = e at HNT HE hpr HSUM HFV HFK HSTEP
            have HPR := Lib.hid hpr
            have hpp := HV.out.p2
            have hpp13 := HV.out.p13
            obtain ⟨O1, hO1⟩ : ∃ O1, putL p [] (0, 0, 0) u = O1 := ⟨_, rfl⟩
            have HO1 : Hid (PrV p u (facP (tmsL G) e 0 0) O1) := Lib.hid (by rw [← hO1]; exact PrV.one (HPV.out 0 (by omega)).2.2)
            have hblo : b1 < wo.heap.size := Nat.lt_of_lt_of_le hltb1 st.below.size
            have KK := Lib.hid (fun w' (h : Below wo.heap.size wo w') => show ((w'.cell? ⟨bq, 0, none⟩ = some (.int .i64 p) ∧ w'.cell? ⟨bq, 1, none⟩ = some (.int .i64 d)) ∧ (w'.cell? ⟨w.heap.size, 2, none⟩ = some (.slice (some ⟨b1, off1, none⟩) xs.length cap) ∧ w'.cell? ⟨b1, off1 + k * 4 + 3, none⟩ = some (.int .i64 u))) from
              ⟨⟨(h.cell (p := ⟨bq, _, none⟩) st.out.lt).trans q0, (h.cell (p := ⟨bq, _, none⟩) st.out.lt).trans q1⟩, (h.cell (p := ⟨w.heap.size, _, none⟩) st.arg.lt).trans c2', (h.cell (p := ⟨b1, _, none⟩) hblo).trans cu⟩)
            have H1A := Lib.hid (fun w => one_any p d 0 0 0 u w hpp hpp13 (by unfold byte3; simp) (by omega) (by omega))
            rw [hO1] at H1A
            clear hTx hm hm12 hs12 hpr hbnd hO1 hu hex
            go_upto_region 15 with fail
            clear c0' c1' c2' q0 q1 q2 y0 y1 y2 cu
            go_cut [11] (fun s11 wx => ∃ (bo : Nat) (A : Option Addr) (c : Nat), s11 = .pointer (some ⟨bo, 0, none⟩) ∧ wx.rowIs bo 39 3 (polyF p d (.slice A O1.length c)) ∧ SliceT wx (.slice A O1.length c) O1 ∧ Below wo.heap.size wo wx ∧ wo.heap.size ≤ bo)
            case first =>
              go_region_held3 (fun w' => ((w'.cell? ⟨bq, 0, none⟩ = some (.int .i64 p) ∧ w'.cell? ⟨bq, 1, none⟩ = some (.int .i64 d)) ∧ (w'.cell? ⟨w.heap.size, 2, none⟩ = some (.slice (some ⟨b1, off1, none⟩) xs.length cap) ∧ w'.cell? ⟨b1, off1 + k * 4 + 3, none⟩ = some (.int .i64 u))))
                (first | with_reducible exact KK.out _ (setL3 HB13 (Nat.le_refl _) _ _ _) | with_reducible exact KK.out _ (Below.same _).drew | with_reducible exact KK.out _ (box1 _ _).drew | with_reducible exact KK.out _ HB13 | with_reducible exact KK.out _ (HB13.trans ((box1 _ _).mono HB13.size)))
                ((go_at_call 82; (with_reducible refine (H1A.out _).mono ?_); rintro e w13 ⟨v13, rfl, ho13, hb13⟩; have HB13 : Below wo.heap.size wo w13 := (by first | exact (Below.same _).drew.trans hb13 | with_reducible exact (box1 _ _).drew.trans (hb13.mono (by simp))); (first | (have ZR13 : w13.rowIs wo.heap.size 39 3 (polyF 0 0 (.slice none 0 0)) := rowIs_below (zboxD wo) hb13 (by simp); obtain ⟨⟨e130, e131, e132⟩, f130, f131, f132⟩ := poly3 ZR13) | skip); (obtain ⟨sa13, sc13, rfl⟩ := owns_slice ho13)))
              all_goals
                go_wp2_with fail
                go_meet
                first
                  | exact ⟨w13.heap.size, sa13, sc13, rfl, World.rowIs_alloc w13 #[Value.int .i64 p, .int .i64 d, .slice sa13 O1.length sc13] _ _ (fun i hi => by simp at hi; match i, hi with | 0, _ => rfl | 1, _ => rfl | 2, _ => rfl), (OwnP.slice ho13).below (box1 _ _), HB13.trans ((box1 _ _).mono HB13.size), HB13.size⟩
                  | exact ⟨wo.heap.size, sa13, sc13, rfl, (setB3 ZR13 (OwnP.slice ho13) p d).1, (setB3 ZR13 (OwnP.slice ho13) p d).2, setL3 HB13 (Nat.le_refl _) _ _ _, Nat.le_refl _⟩
            case rest =>
              obtain ⟨bo, A2, c2, rfl, ro, ho, hbo, hbo2⟩ := hcut
              have hqo : bo ≠ bq := by have := st.out.lt; omega
              have hbo3 : w.heap.size + 2 ≤ bo := by have := st.out.lt; have := st.q2; omega
              have st2 := st.later hbo
              clear st KK H1A hbo hbo2
              go_wp2_with fail
              go_loopw [12] (fun i wr => ∃ (m : Nat) (sv2 : Value) (O2 : List Tm), m ≤ G.length ∧ i = .int .i64 m ∧ Hid (PrV p u (facP (tmsL G) e m 0) O2) ∧ wr.rowIs bo 39 3 (polyF p d sv2) ∧ SliceT wr sv2 O2 ∧ RepS w wr bq p d d' (.slice (some ⟨b1, off1, none⟩) xs.length cap) (.slice sa O.length sc) O) (fun i _ => G.length - (intOf i).toNat)
              case atStart => exact ⟨0, _, O1, by omega, rfl, HO1, ro, ho, st2⟩
              case round =>
                clear st2 ro ho HO1
                obtain ⟨m, sv2, O2, hm, rfl, HO2, ro, ho, st⟩ := hrel
                obtain ⟨wm, rfl⟩ : ∃ wm : World, wm = wr := ⟨_, rfl⟩
                by_cases hlm : m < G.length
                · have hlm' : (m : Int) < (G.length : Int) := by omega
                  have hm3 : m < 3 := by omega
                  have hm3' : (m : Int) < 3 := by omega
                  obtain ⟨⟨x0, x1, x2⟩, _⟩ := poly3 st.arg
                  have cE := HNT.out wm st.below m hm3
                  obtain ⟨e0, e1⟩ := HE.out m
                  obtain ⟨E, hE⟩ : ∃ E : Nat, nthE e m = (E : Int) := ⟨(nthE e m).toNat, by omega⟩
                  have HFU : Hid (facP (tmsL G) e m E = facP (tmsL G) e (m + 1) 0) := Lib.hid (by
                    rw [facP_zero, ← facP_full, hE]; rfl)
                  have HSM := Lib.hid (fun (j : Nat) (hj : j ≤ E) => HSUM.out m j (by rw [hE]; omega) hlm)
                  have hv := (HPV.out m hlm)
                  have HTM := Lib.hid (tmsL_nth hlm)
                  rw [hE] at cE e1
                  have HVM := Lib.hid hv
                  clear hE e0 hv
                  go_wp2_with fail
                  clear x0 x1 x2 cE
                  go_loopw [13] (fun i wr => ∃ (j : Nat) (sv3 : Value) (O3 : List Tm), j ≤ E ∧ i = .int .u8 ((E : Int) - j) ∧ Hid (PrV p u (facP (tmsL G) e m j) O3) ∧ wr.rowIs bo 39 3 (polyF p d sv3) ∧ SliceT wr sv3 O3 ∧ RepS w wr bq p d d' (.slice (some ⟨b1, off1, none⟩) xs.length cap) (.slice sa O.length sc) O) (fun i _ => (intOf i).toNat)
                  case atStart => exact ⟨0, _, O2, by omega, by simp, HO2, ro, ho, st⟩
                  case round =>
                    clear st ro ho HO2
                    obtain ⟨j, sv3, O3, hj, rfl, HO3, ro, ho, st⟩ := hrel
                    by_cases hlj : j < E
                    · have hpos : (0 : Int) < (E : Int) - j := by omega
                      obtain ⟨sa3, sc3, rfl, _⟩ := id ho
                      obtain ⟨⟨o0, o1, o2⟩, z0, z1, z2⟩ := poly3 ro
                      obtain ⟨uv, g0, g1, g2, hu⟩ := (HT.out.below st.below hbl) m hlm
                      obtain ⟨ua, uc, rfl, _⟩ := id hu
                      rw [HVM.out.1] at g0
                      rw [HVM.out.2.1] at g1
                      obtain ⟨f3, hf3⟩ := HO3.out.isP
                      have hV3 := HVM.out.2.2.of_isP hf3
                      have hsd : sumD (G[m].2.2 :: facP (tmsL G) e m j) ≤ 12 := by rw [← HTM.out, ← facP_succ]; exact HSM.out (j + 1) (by omega)
                      have HRM := Lib.hid (And.intro hV3 (PrV.room (HFV.out m j) hsd HO3.out))
                      have HNXT := Lib.hid (fun (L' : List Tm) (hL' : IsP p L' (mulF p O3 G[m].2.2)) => show PrV p u (facP (tmsL G) e m (j + 1)) L' from by
                        rw [facP_succ, HTM.out]
                        exact PrV.step (HFV.out m j) HVM.out.2.2 hsd HO3.out hL')
                      have hwd : IntKind.u8.wrap ((E : Int) - j - 1) = (E : Int) - j - 1 := IntWalk.u8_in _ (by omega)
                      clear hf3 hV3 hsd
                      go_upto_region 22 with fail
                      go_region_with
                        ((go_at_call 83; (with_reducible refine (specTimes_any p d _ _ O3 G[m].2.2 _ (ho.below (Below.same _).drew) (hu.below (Below.same _).drew) HRM.out.1 HVM.out.2.2 HRM.out.2).mono ?_); rintro e w13 ⟨v13, L13, rfl, ho13, hL13, hb13⟩; have HB13 : Below wr.heap.size wr w13 := (Below.same _).drew.trans hb13; have ZR13 := rowIs_below ro HB13 ro.lt; (obtain ⟨⟨e130, e131, e132⟩, f130, f131, f132⟩ := poly3 ZR13); (obtain ⟨sa13, sc13, rfl⟩ := owns_slice ho13)))
                      all_goals
                        have st13 := (st.later HB13).set3 ZR13 hqo hbo3 (.int .i64 p) (.int .i64 d) (.slice sa13 L13.length sc13)
                        have hset := setB3 ZR13 (OwnP.slice ho13) p d
                        have HN1 := Lib.hid (HNXT.out L13 hL13)
                        have hsub : (E : Int) - j - 1 = (E : Int) - ((j + 1 : Nat) : Int) := by omega
                        have HSUB := Lib.hid hsub
                        clear ho13 o0 o1 o2 z0 z1 z2 g0 g1 g2 ro ho st hu hsub
                        go_wp2_with fail
                        go_roundw
                        case rel => exact ⟨j + 1, _, L13, by omega, by rw [← HSUB.out], HN1, hset.1, hset.2, st13⟩
                        case measure => simp [intOf]; omega
                    · obtain rfl : j = E := by omega
                      have hpos : ¬ (0 : Int) < (j : Int) - j := by omega
                      have HO4 : Hid (PrV p u (facP (tmsL G) e (m + 1) 0) O3) := Lib.hid (by rw [← HFU.out]; exact HO3.out)
                      go_wp2_with fail
                      go_roundw
                      case rel => exact ⟨m + 1, _, O3, by omega, by go_num, HO4, ro, ho, st⟩
                      case measure => simp [intOf]; omega
                · obtain rfl : m = G.length := by omega
                  obtain ⟨sa3, sc3, rfl, _⟩ := id ho
                  obtain ⟨⟨o0, o1, o2⟩, _⟩ := poly3 ro
                  obtain ⟨⟨q0, q1, q2⟩, y0, y1, y2⟩ := poly3 st.out
                  have hO2 := HO2.out
                  rw [facP_zero, HFK.out] at hO2
                  obtain ⟨f2, hf2⟩ := hO2.isP
                  have HV2 := Lib.hid ((HPV.out 0 hl0).2.2.of_isP hf2)
                  have HSTP := Lib.hid (HSTEP.out O2 (fun e' he' => PrV.at hO2 HPR.out e' he'))
                  clear hO2 hf2
                  go_wp2_with fail
                  ((with_reducible refine (specPlus p d 1 _ _ O O2 (subF p P (xs.take k)) _ (OwnP.slice st.rows) ho HO.out HV2.out (by omega) (by omega)).mono ?_); rintro e w13 ⟨v13, L13, rfl, ho13, hL13, hb13⟩)
                  have HN1 : Hid (IsP p L13 (subF p P (xs.take (k + 1)))) := Lib.hid (hL13.congr fun e' he' => HSTP.out e' he')
                  obtain ⟨sa13, sc13, rfl⟩ := owns_slice ho13
                  have st13 := st.later hb13
                  have st14 := st.put hb13 ho13 st.below.size
                  obtain ⟨⟨e130, e131, e132⟩, f130, f131, f132⟩ := poly3 st13.out
                  clear ho13 o0 o1 o2 q0 q1 q2 y0 y1 y2 ro ho st st13 hL13 hb13
                  go_wp2_with fail
                  go_roundw
                  case rel => exact ⟨k + 1, _, L13, by omega, by go_num, HN1, st14⟩
                  case measure => simp [intOf]; omega
          · obtain rfl : k = xs.length := by omega
            have hO := HO.out
            rw [List.take_length] at hO
            have HOF := Lib.hid hO
            obtain ⟨⟨r0, r1, r2⟩, z0, z1, z2⟩ := poly3 st.res
            have hA := (setB3 st.res (OwnP.slice st.rows) p d)
            have hL := setL3 st.below (B0 := w.heap.size + 1) (by omega) (.int .i64 p) (.int .i64 d) (.slice sa O.length sc)
            obtain ⟨⟨m0, m1, m2⟩, _⟩ := poly3 hA.1
            have HOW : OwnP _ w.heap.size (.slice sa O.length sc) O := rep_own3 (i0 := 0) (i1 := 1) (i2 := 2) (x0 := .int .i64 p) (x1 := .int .i64 d) (x2 := .slice sa O.length sc) st.rows st.res
            have HOWN := Lib.hid HOW
            clear hO HO HOW
            go_wp2_with fail
            exact bodyPost_ret (v := .tuple #[.agg #[.int .i64 p, .int .i64 d, .slice sa O.length sc], .bool true]) (by simp [results, Tryz.results59, go_sem, m0, m1, m2]) rfl ⟨.inl ⟨HBN.out, _, O, rfl, HOWN.out, HOF.out⟩, hL⟩
end Go.Proofs.YtbhgbifliihlbaaGreat
namespace Go.Proofs.YtbhgbifliihlbaaGreat
open Go.RowKit Go.Sort Go.Maps EchM

theorem sRepL (p : Int) (n : Nat) (g : Nat → Nat → Int) (v lv : Value) (xs L : List Tm) (w : World) (hM : MatP p n g) (hS : SliceT w v xs) (hby : ∀ t ∈ xs, tmByte t) (hx : isPolyB p n xs = true) (hG : SlP w lv (formsP p n g)) (hL : Led p n g xs L) :
    Calls Tryz.prog 59 #[.agg #[.int .i64 p, .int .i64 (n : Int), v], lv] w fun e w' =>
      ∃ v', e = .returned (.tuple #[.agg #[.int .i64 p, .int .i64 (n : Int), v'], .bool true]) ∧ OwnP w' w.heap.size v' L ∧ Below w.heap.size w w' := by
  obtain ⟨P, hP, hL⟩ := hL
  have hX := valid_of hx hby
  have hB := hM.bnd hX
  rw [← formsP_tms p n g] at hP hB
  obtain ⟨_, _, _, _, hz⟩ := subs_zero (formsP_ok hM) (subs_forms hM hx hby)
  refine (sRep p n n v lv xs (formsP p n g) P w (formsP_list hM) hX hz (fun _ => hP) hS hG).mono ?_
  rintro e w' ⟨⟨_, v', L', rfl, hS', hL'⟩ | ⟨hn, _⟩, hb⟩
  · obtain rfl := hL'.unique hL
    exact ⟨v', rfl, hS', hb⟩
  · exact absurd hB hn

set_option maxRecDepth 8000 in
set_option maxHeartbeats 16000000 in
theorem slead3 (p : Int) (n : Nat) (g : Nat → Nat → Int) (v : Value) (xs L : List Tm) (w : World) (hM : MatP p n g) (hS : SliceT w v xs) (hby : ∀ t ∈ xs, tmByte t) (hx : isPolyB p n xs = true) (hL : Led p n g xs L) :
    Calls Tryz.prog 36 #[(.agg #[.int .u8 (g 0 0), .int .u8 (g 0 1), .int .u8 (g 0 2), .int .u8 (g 1 0), .int .u8 (g 1 1), .int .u8 (g 1 2), .int .u8 (g 2 0), .int .u8 (g 2 1), .int .u8 (g 2 2)]), .agg #[.int .i64 p, .int .i64 (n : Int), v]] w fun e w' =>
      ∃ v', e = .returned (.agg #[.int .i64 p, .int .i64 (n : Int), v']) ∧ OwnP w' w.heap.size v' L ∧ Below w.heap.size w w' := by
  obtain ⟨a, cap, rfl, _⟩ := id hS
  obtain ⟨W, hW, hbW, ⟨hWs1, hWs2⟩, rm, rx, rr⟩ := boxMPR w g p (n : Int) (.slice a xs.length cap)
  have hSW := hS.below hbW
  have HI := Lib.hid (fun w => slet p n g w hM)
  have HC := Lib.hid (fun w lv h1 h2 => sRepL p n g (.slice a xs.length cap) lv xs L w hM h1 hby hx h2 hL)
  have KK := Lib.hid (fun w' (h : Below W.heap.size W w') => show ((w'.cell? ⟨w.heap.size + 1, 0, none⟩ = some (.int .i64 p) ∧ w'.cell? ⟨w.heap.size + 1, 1, none⟩ = some (.int .i64 (n : Int)) ∧ w'.cell? ⟨w.heap.size + 1, 2, none⟩ = some (.slice a xs.length cap)) ∧ ((w'.cell? ⟨w.heap.size, 0, none⟩ = some (.int .u8 (g 0 0)) ∧ w'.cell? ⟨w.heap.size, 1, none⟩ = some (.int .u8 (g 0 1)) ∧ w'.cell? ⟨w.heap.size, 2, none⟩ = some (.int .u8 (g 0 2))) ∧ (w'.cell? ⟨w.heap.size, 3, none⟩ = some (.int .u8 (g 1 0)) ∧ w'.cell? ⟨w.heap.size, 4, none⟩ = some (.int .u8 (g 1 1)) ∧ w'.cell? ⟨w.heap.size, 5, none⟩ = some (.int .u8 (g 1 2))) ∧ (w'.cell? ⟨w.heap.size, 6, none⟩ = some (.int .u8 (g 2 0)) ∧ w'.cell? ⟨w.heap.size, 7, none⟩ = some (.int .u8 (g 2 1)) ∧ w'.cell? ⟨w.heap.size, 8, none⟩ = some (.int .u8 (g 2 2))))) from
    ⟨(poly3 (rowIs_below rx h rx.lt)).1, mcells (rowIs_below rm h rm.lt)⟩)
  clear hM hL
  go_enter Tryz.func36, Tryz.ntmps36
  go_upto_region 1 with fail
  rw [← hW]
  clear hW
  go_cut [5] (fun s5 wx => ∃ (bx : Nat) (A : Option Addr) (c : Nat), s5 = .pointer (some ⟨bx, 0, none⟩) ∧ wx.rowIs bx 39 3 (polyF p (n : Int) (.slice A L.length c)) ∧ OwnP wx W.heap.size (.slice A L.length c) L ∧ Below W.heap.size W wx ∧ W.heap.size ≤ bx)
  case first =>
    go_region_held3 (fun w' => ((w'.cell? ⟨w.heap.size + 1, 0, none⟩ = some (.int .i64 p) ∧ w'.cell? ⟨w.heap.size + 1, 1, none⟩ = some (.int .i64 (n : Int)) ∧ w'.cell? ⟨w.heap.size + 1, 2, none⟩ = some (.slice a xs.length cap)) ∧ ((w'.cell? ⟨w.heap.size, 0, none⟩ = some (.int .u8 (g 0 0)) ∧ w'.cell? ⟨w.heap.size, 1, none⟩ = some (.int .u8 (g 0 1)) ∧ w'.cell? ⟨w.heap.size, 2, none⟩ = some (.int .u8 (g 0 2))) ∧ (w'.cell? ⟨w.heap.size, 3, none⟩ = some (.int .u8 (g 1 0)) ∧ w'.cell? ⟨w.heap.size, 4, none⟩ = some (.int .u8 (g 1 1)) ∧ w'.cell? ⟨w.heap.size, 5, none⟩ = some (.int .u8 (g 1 2))) ∧ (w'.cell? ⟨w.heap.size, 6, none⟩ = some (.int .u8 (g 2 0)) ∧ w'.cell? ⟨w.heap.size, 7, none⟩ = some (.int .u8 (g 2 1)) ∧ w'.cell? ⟨w.heap.size, 8, none⟩ = some (.int .u8 (g 2 2))))))
      (first | with_reducible exact KK.out _ (setL3 HB14 (Nat.le_refl _) _ _ _) | with_reducible exact KK.out _ (setL3 HB14 HB13.size _ _ _) | with_reducible exact KK.out _ (Below.same _).drew | with_reducible exact KK.out _ (box1 _ _).drew | with_reducible exact KK.out _ HB13 | with_reducible exact KK.out _ (HB13.trans ((box1 _ _).mono HB13.size)) | with_reducible exact KK.out _ HB14 | with_reducible exact KK.out _ (HB14.trans ((box1 _ _).mono HB14.size)))
      (first
      | (go_at_call 60; (with_reducible refine (HI.out _).mono ?_); rintro e w13 ⟨v13, rfl, hS13, hb13⟩; have HB13 : Below W.heap.size W w13 := (by first | exact (Below.same _).drew.trans hb13 | with_reducible exact (box1 _ _).drew.trans (hb13.mono (by simp))); (first | (have ZR13 : w13.rowIs W.heap.size 39 3 (polyF 0 0 (.slice none 0 0)) := rowIs_below (zboxD W) hb13 (by simp); obtain ⟨⟨e130, e131, e132⟩, f130, f131, f132⟩ := poly3 ZR13) | skip); (obtain ⟨a13, c13, rfl, _⟩ := id hS13))
      | (go_at_call 59; (with_reducible refine (HC.out _ _ (by first | with_reducible exact hSW.below HB13 | with_reducible exact (hSW.below HB13).below (box1 _ _)) (by first | with_reducible exact hS13 | with_reducible exact hS13.below (box1 _ _))).mono ?_); rintro e w14 ⟨v14, rfl, ho14, hb14⟩; have hS14 := OwnP.slice ho14; have H14 : Below w13.heap.size w13 w14 := (by first | with_reducible exact hb14 | with_reducible exact (box1 _ _).trans (hb14.mono (by simp))); have HB14 : Below W.heap.size W w14 := HB13.trans (H14.mono HB13.size); (first | (have ZR14 : w14.rowIs w13.heap.size 39 3 (polyF 0 0 (.slice none 0 0)) := rowIs_below (zbox w13) hb14 (by simp); obtain ⟨⟨e140, e141, e142⟩, f140, f141, f142⟩ := poly3 ZR14) | (have ZR14 := rowIs_below ZR13 H14 ZR13.lt; obtain ⟨⟨e140, e141, e142⟩, f140, f141, f142⟩ := poly3 ZR14) | skip); (obtain ⟨sa, sc, rfl, _⟩ := id hS14)))
    all_goals
      go_wp2_with fail
      go_meet
      first
        | exact ⟨w14.heap.size, sa, sc, rfl, World.rowIs_alloc w14 #[Value.int .i64 p, .int .i64 (n : Int), .slice sa L.length sc] _ _ (fun i hi => by simp at hi; match i, hi with | 0, _ => rfl | 1, _ => rfl | 2, _ => rfl), owns_low (owns_belowT ho14 (box1 _ _)) HB13.size, HB14.trans ((box1 _ _).mono HB14.size), HB14.size⟩
        | exact ⟨w13.heap.size, sa, sc, rfl, (setB3 ZR14 hS14 p (n : Int)).1, owns_low (rep_own3 (i0 := 0) (i1 := 1) (i2 := 2) ho14 ZR14) (Nat.le_trans HB13.size (by simp)), setL3 HB14 HB13.size _ _ _, HB13.size⟩
        | exact ⟨W.heap.size, sa, sc, rfl, (setB3 ZR14 hS14 p (n : Int)).1, owns_low (rep_own3 (i0 := 0) (i1 := 1) (i2 := 2) ho14 ZR14) HB13.size, setL3 HB14 (Nat.le_refl _) _ _ _, Nat.le_refl _⟩
  case rest =>
    obtain ⟨bx, A, c, rfl, rbx, hSx, hbx, hbx2⟩ := hcut
    have rrx := rowIs_below rr hbx rr.lt
    obtain ⟨⟨q0, q1, q2⟩, _⟩ := poly3 rbx
    obtain ⟨⟨r0, r1, r2⟩, z0, z1, z2⟩ := poly3 rrx
    obtain ⟨a0, _⟩ := setB3 rrx (OwnP.slice hSx) p (n : Int)
    have a1 : OwnP _ w.heap.size (.slice A L.length c) L := owns_low (rep_own3 (i0 := 0) (i1 := 1) (i2 := 2) (x0 := .int .i64 p) (x1 := .int .i64 (n : Int)) (x2 := .slice A L.length c) hSx rrx) hbW.size
    obtain ⟨⟨m0, m1, m2⟩, _⟩ := poly3 a0
    have hend := setL3 (hbW.trans (hbx.mono hbW.size)) (B0 := w.heap.size + 2) (by omega) (.int .i64 p) (.int .i64 (n : Int)) (.slice A L.length c)
    have A0 := Lib.hid m0
    have A1 := Lib.hid m1
    have A2 := Lib.hid m2
    have A3 := Lib.hid a1
    have A4 := Lib.hid hend
    clear m0 m1 m2 a0 a1 hend KK HI HC rbx rrx hSx hbx
    go_wp2_with fail
    exact bodyPost_ret (v := .agg #[.int .i64 p, .int .i64 (n : Int), .slice A L.length c]) (by simp [results, Tryz.results36, go_sem, A0.out, A1.out, A2.out]) rfl ⟨_, rfl, A3.out, A4.out⟩
end Go.Proofs.YtbhgbifliihlbaaGreat
namespace Go.Proofs.YtbhgbifliihlbaaGreat
open Go.RowKit Go.Sort Go.Maps EchM

/-- What a matrix makes of a polynomial, by the model. -/
theorem GrpP.slead {p : Int} {m : Nat} {L : List (Nat → Nat → Int)} {xs : List Tm} (h : GrpP p m L xs) {x : Nat → Nat → Int} (hx : x ∈ L) (v : Value) (w : World) (hS : SliceT w v xs) :
    Calls Tryz.prog 36 #[(.agg #[.int .u8 (x 0 0), .int .u8 (x 0 1), .int .u8 (x 0 2), .int .u8 (x 1 0), .int .u8 (x 1 1), .int .u8 (x 1 2), .int .u8 (x 2 0), .int .u8 (x 2 1), .int .u8 (x 2 2)]), .agg #[.int .i64 p, .int .i64 (m : Int), v]] w fun e w' =>
      ∃ v', e = .returned (.agg #[.int .i64 p, .int .i64 (m : Int), v']) ∧ OwnP w' w.heap.size v' (ledF p m xs x) ∧ Below w.heap.size w w' :=
  slead3 p m x v xs (ledF p m xs x) w (h.mat x hx) hS h.byte h.poly (h.led hx)
end Go.Proofs.YtbhgbifliihlbaaGreat
