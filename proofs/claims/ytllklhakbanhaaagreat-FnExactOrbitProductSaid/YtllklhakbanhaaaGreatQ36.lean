/-
  SUBSTITUTIONS, the model: what stands in memory. Conditions: as each theorem states.
  WALKS: 'spec.l03Letters'. Conditions: as the theorem states.
  WALKS: 'spec.l03Letters'. Conditions: as the theorem states.
  The boxes of a matrix, of a polynomial and of a result. Conditions: as each theorem states.
-/
import Derived.Test.YtllklhakbanhaaaGreatQ15
import Derived.Test.YtllklhakbanhaaaGreatQ17
import Derived.Test.YtllklhakbanhaaaGreatQ10
import Derived.Test.YtllklhakbanhaaaGreatQ07
import Derived.Deep.DeepCutAuto
import Derived.Deep.RegionHeld3
import Derived.Test.YtllklhakbanhaaaGreatQ29
namespace Go.Proofs.YtllklhakbanhaaaGreat
open Go.RowKit Go.Sort Go.Maps

theorem rep_own1 {w : World} {base b i N : Nat} {f : Nat → Value} {v x : Value} {S : List Tm} (h : OwnP w base v S) (hr : w.rowIs b 39 N f) : OwnP (w.setCell ⟨b, i, none⟩ x) base v S :=
  h.kept (row := some b) ⟨rfl, rfl, rfl, by rw [World.size_setCell]; exact Nat.le_refl _, fun k hk hne => Below.heap_setCell w ⟨b, i, none⟩ x k (fun e => hne (by rw [e]))⟩ (own_ne hr h (by decide))
theorem rep_own3 {w : World} {base b i0 i1 i2 N : Nat} {f : Nat → Value} {v x0 x1 x2 : Value} {S : List Tm} (h : OwnP w base v S) (hr : w.rowIs b 39 N f) : OwnP (((w.setCell ⟨b, i0, none⟩ x0).setCell ⟨b, i1, none⟩ x1).setCell ⟨b, i2, none⟩ x2) base v S :=
  rep_own1 (rep_own1 (rep_own1 h hr) (hr.set i0 x0)) ((hr.set i0 x0).set i1 x1)
/-- What stands in memory: the sum so far (block q), the boxes of the argument and the result. -/
structure RepS (w wr : World) (q : Nat) (p d d' : Int) (xv sv : Value) (O : List Tm) : Prop where
  out : wr.rowIs q 39 3 (polyF p d sv)
  rows : OwnP wr w.heap.size sv O
  arg : wr.rowIs w.heap.size 39 3 (polyF p d' xv)
  res : wr.rowIs (w.heap.size + 1) 39 3 (polyF 0 0 (.slice none 0 0))
  below : Below w.heap.size w wr
  q2 : w.heap.size + 2 ≤ q
theorem RepS.later {w wr w1 : World} {q : Nat} {p d d' : Int} {xv sv : Value} {O : List Tm} (h : RepS w wr q p d d' xv sv O) (hb : Below wr.heap.size wr w1) : RepS w w1 q p d d' xv sv O :=
  ⟨rowIs_below h.out hb h.out.lt, owns_belowT h.rows hb, rowIs_below h.arg hb h.arg.lt, rowIs_below h.res hb h.res.lt, h.below.trans (hb.mono h.below.size), h.q2⟩
theorem setB3 {w : World} {B0 : Nat} {F : Nat → Value} {v : Value} {S : List Tm} (hR : w.rowIs B0 39 3 F) (hs : SliceT w v S) (P Q : Int) :
    (((w.setCell ⟨B0, 0, none⟩ (.int .i64 P)).setCell ⟨B0, 1, none⟩ (.int .i64 Q)).setCell ⟨B0, 2, none⟩ v).rowIs B0 39 3 (polyF P Q v) ∧
    SliceT (((w.setCell ⟨B0, 0, none⟩ (.int .i64 P)).setCell ⟨B0, 1, none⟩ (.int .i64 Q)).setCell ⟨B0, 2, none⟩ v) v S := by
  have R1 := hR.set 0 (.int .i64 P)
  have R2 := R1.set 1 (.int .i64 Q)
  refine ⟨(R2.set 2 v).congr fun i hi => ?_, ((hs.setBox hR).setBox R1).setBox R2⟩
  match i, hi with
  | 0, _ => rfl
  | 1, _ => rfl
  | 2, _ => rfl
theorem setO3 {w : World} {B0 B1 n : Nat} {t : TypeId} {F : Nat → Value} (hR : w.rowIs B1 t n F) (hne : B1 ≠ B0) (u0 u1 u2 : Value) :
    (((w.setCell ⟨B0, 0, none⟩ u0).setCell ⟨B0, 1, none⟩ u1).setCell ⟨B0, 2, none⟩ u2).rowIs B1 t n F :=
  ((hR.setOther (by simpa using hne) _).setOther (by simpa using hne) _).setOther (by simpa using hne) _
theorem setL3 {w wr : World} {B0 : Nat} (h : Below w.heap.size w wr) (hB : w.heap.size ≤ B0) (u0 u1 u2 : Value) :
    Below w.heap.size w (((wr.setCell ⟨B0, 0, none⟩ u0).setCell ⟨B0, 1, none⟩ u1).setCell ⟨B0, 2, none⟩ u2) :=
  ((h.setCell (by simpa using hB) _).setCell (by simpa using hB) _).setCell (by simpa using hB) _
theorem RepS.put {w wr w2 : World} {q : Nat} {p d d' : Int} {xv sv v2 : Value} {O O2 : List Tm} {b2 : Nat} (h : RepS w wr q p d d' xv sv O) (hb : Below wr.heap.size wr w2) (ho : OwnP w2 b2 v2 O2) (hb2 : w.heap.size ≤ b2) :
    RepS w (((w2.setCell ⟨q, 0, none⟩ (.int .i64 p)).setCell ⟨q, 1, none⟩ (.int .i64 d)).setCell ⟨q, 2, none⟩ v2) q p d d' xv v2 O2 := by
  have h1 := h.later hb
  have hq := h.q2
  exact ⟨(setB3 h1.out (OwnP.slice ho) p d).1, owns_low (rep_own3 ho h1.out) hb2, setO3 h1.arg (by omega) _ _ _, setO3 h1.res (by omega) _ _ _, setL3 h1.below (by omega) _ _ _, hq⟩

theorem RepS.set3 {w wr : World} {q bo : Nat} {p d d' : Int} {xv sv : Value} {O : List Tm} {F : Nat → Value} (h : RepS w wr q p d d' xv sv O) (hr : wr.rowIs bo 39 3 F) (hne : bo ≠ q) (hb : w.heap.size + 2 ≤ bo) (u0 u1 u2 : Value) :
    RepS w (((wr.setCell ⟨bo, 0, none⟩ u0).setCell ⟨bo, 1, none⟩ u1).setCell ⟨bo, 2, none⟩ u2) q p d d' xv sv O :=
  ⟨setO3 h.out (fun e => hne e.symm) _ _ _, rep_own3 h.rows hr, setO3 h.arg (by omega) _ _ _, setO3 h.res (by omega) _ _ _, setL3 h.below (by omega) _ _ _, h.q2⟩
theorem nthT_cell {w : World} {b off : Nat} {ts : List Tm} (hT : Terms w b off ts) {k m : Nat} (hk : k < ts.length) (hm : m < 3) : w.cell? ⟨b, off + k * 4 + m, none⟩ = some (.int .u8 (nthE (tmE ts[k]) m)) := by
  obtain ⟨c0, c1, c2, _⟩ := hT k hk
  match m, hm with
  | 0, _ => exact c0
  | 1, _ => exact c1
  | 2, _ => exact c2
end Go.Proofs.YtllklhakbanhaaaGreat
namespace Go.Proofs.YtllklhakbanhaaaGreat
open Go.RowKit Go.Sort Go.Maps EchM

theorem own_own {w : World} {base base' n n' size size' : Nat} {t e : TypeId} {v v' : Value} {xs xs' : List Value} (h : w.ownsRow base t size v n xs) (h' : w.ownsRow base' e size' v' n' xs') (hne : t ≠ e) : v.ownBlock = none ∨ v.ownBlock ≠ v'.ownBlock := by
  obtain ⟨_, ⟨rfl, _⟩ | ⟨g, cap, cur, rfl, _, hgc, _⟩⟩ := h
  · exact .inl rfl
  · obtain ⟨_, ⟨rfl, _⟩ | ⟨g', cap', cur', rfl, _, hgc', _⟩⟩ := h'
    · exact .inr (by simp [Value.ownBlock])
    · refine .inr fun hb => ?_
      simp [Value.ownBlock] at hb
      subst hb
      rw [hgc] at hgc'
      simp at hgc'
      exact hne hgc'.2
/-- The cells of polynomials of a prime and letters. -/
def cellsQ (p : Int) (n : Nat) (us : List Value) : List Value := us.flatMap fun u => [.int .i64 p, .int .i64 (n : Int), u]
theorem cellsQ_snoc (p : Int) (n : Nat) (us : List Value) (u : Value) : cellsQ p n (us ++ [u]) = cellsQ p n us ++ [.int .i64 p, .int .i64 (n : Int), u] := by simp [cellsQ]
theorem cellsQ_get (p : Int) (n : Nat) : ∀ (us : List Value) (k j : Nat) (h : k < us.length), j < 3 → (cellsQ p n us)[k * 3 + j]? = ([Value.int .i64 p, .int .i64 (n : Int), us[k]] : List Value)[j]?
  | [], k, _, h, _ => by simp at h
  | u :: r, 0, j, _, hj => by
    match j, hj with
    | 0, _ => simp [cellsQ]
    | 1, _ => simp [cellsQ]
    | 2, _ => simp [cellsQ]
  | u :: r, k + 1, j, h, hj => by
    have := cellsQ_get p n r k j (by simpa using h) hj
    rw [show (k + 1) * 3 + j = (k * 3 + j) + 3 by omega]
    simpa [cellsQ] using this
/-- The list of the letters' images in the making. -/
structure LetW (w wr : World) (base : Nat) (p : Int) (n : Nat) (g : Nat → Nat → Int) (v : Value) (us : List Value) : Prop where
  rows : wr.ownsRow base 39 3 v us.length (cellsQ p n us)
  own : ∀ (i : Nat) (h : i < us.length), OwnP wr w.heap.size us[i] (formL g i)
  mat : wr.rowIs w.heap.size 98 9 (mF g)
  below : Below w.heap.size w wr
  bas : w.heap.size < base ∧ base ≤ wr.heap.size
theorem LetW.later {w wr w1 : World} {base : Nat} {p : Int} {n : Nat} {g : Nat → Nat → Int} {v : Value} {us : List Value} (h : LetW w wr base p n g v us) (hb : Below wr.heap.size wr w1) : LetW w w1 base p n g v us :=
  ⟨owns_belowT h.rows hb, fun i hi => owns_belowT (h.own i hi) hb, rowIs_below h.mat hb h.mat.lt, h.below.trans (hb.mono h.below.size), h.bas.1, Nat.le_trans h.bas.2 hb.size⟩
theorem LetW.more {w wr w2 : World} {base base' : Nat} {p : Int} {n : Nat} {g : Nat → Nat → Int} {v v2 u : Value} {us : List Value} (h : LetW w wr base p n g v us) (ho : OwnP wr base' u (formL g us.length)) (hb : w.heap.size ≤ base')
    (hg : wr.grownBy w2 v.ownBlock) (hr : w2.ownsRow base 39 3 v2 (us.length + 1) (cellsQ p n us ++ [.int .i64 p, .int .i64 (n : Int), u])) : LetW w w2 base p n g v2 (us ++ [u]) := by
  refine ⟨by rw [cellsQ_snoc]; simpa using hr, fun i hi => ?_, rowIs_grown h.mat hg h.rows (by decide), h.below.grown hg h.below.size (fun k hk => by have := (h.rows.lt k hk).1; have := h.bas; omega), h.bas.1, Nat.le_trans h.bas.2 hg.size⟩
  simp at hi
  by_cases e : i = us.length
  · subst e
    rw [List.getElem_append_right (by omega)]
    simp only [Nat.sub_self, List.getElem_cons_zero]
    exact owns_low (ho.kept hg (own_own ho h.rows (by decide))) hb
  · rw [List.getElem_append_left (by omega)]
    exact (h.own i (by omega)).kept hg (own_own (h.own i (by omega)) h.rows (by decide))
theorem LetW.set3 {w wr : World} {base bo : Nat} {p : Int} {n : Nat} {g : Nat → Nat → Int} {v : Value} {us : List Value} {F : Nat → Value} (h : LetW w wr base p n g v us) (hr : wr.rowIs bo 39 3 F) (hv : v.ownBlock = none ∨ v.ownBlock ≠ some bo) (hb : w.heap.size < bo) (u0 u1 u2 : Value) :
    LetW w (((wr.setCell ⟨bo, 0, none⟩ u0).setCell ⟨bo, 1, none⟩ u1).setCell ⟨bo, 2, none⟩ u2) base p n g v us :=
  have k : ∀ (x : World) (i : Nat) (u : Value), x.ownsRow base 39 3 v us.length (cellsQ p n us) → (x.setCell ⟨bo, i, none⟩ u).ownsRow base 39 3 v us.length (cellsQ p n us) := fun x i u hx =>
    hx.kept (row := some bo) ⟨rfl, rfl, rfl, by rw [World.size_setCell]; exact Nat.le_refl _, fun k hk hne => Below.heap_setCell x ⟨bo, i, none⟩ u k (fun e => hne (by rw [e]))⟩ hv
  ⟨k _ _ _ (k _ _ _ (k _ _ _ h.rows)), fun i hi => own_set3 (h.own i hi) hr, setO3 h.mat (by omega) _ _ _, setL3 h.below (by omega) _ _ _, h.bas.1, by simp only [World.size_setCell]; exact h.bas.2⟩
theorem LetW.done {w wr : World} {base : Nat} {p : Int} {n : Nat} {g : Nat → Nat → Int} {v : Value} {us : List Value} (h : LetW w wr base p n g v us) (hl : us.length = n) : SlP wr v (formsP p n g) := by
  obtain ⟨_, ⟨rfl, h0⟩ | ⟨b, cap, cur, rfl, hb, hg, hc1, hc2, hsz, htk⟩⟩ := id h.rows
  · refine ⟨none, 0, by rw [formsP_len, ← hl, h0], .inl ?_⟩
    apply List.eq_nil_of_length_eq_zero
    rw [formsP_len, ← hl, h0]
  · refine ⟨_, cap, by rw [formsP_len, hl], .inr ⟨b, 0, rfl, (Array.getElem?_eq_some_iff.1 hg).1, fun k hk => ?_⟩⟩
    rw [formsP_len, ← hl] at hk
    rw [formsP_at]
    have key : ∀ j, j < 3 → ∀ u, ([Value.int .i64 p, .int .i64 (n : Int), us[k]] : List Value)[j]? = some u → wr.cell? ⟨b, 0 + k * 3 + j, none⟩ = some u := fun j hj u hu => by
      have e2 : (cellsQ p n us)[k * 3 + j]? = some u := (cellsQ_get p n us k j hk hj).trans hu
      have hlt : k * 3 + j < us.length * 3 := by omega
      rw [← htk, List.getElem?_take_of_lt hlt, Array.getElem?_toList] at e2
      simp [World.cell?, hg, e2]
    exact ⟨us[k], key 0 (by omega) _ rfl, key 1 (by omega) _ rfl, key 2 (by omega) _ rfl, OwnP.slice (h.own k hk)⟩
end Go.Proofs.YtllklhakbanhaaaGreat
namespace Go.Proofs.YtllklhakbanhaaaGreat
open Go.RowKit Go.Sort Go.Maps EchM

set_option maxRecDepth 8000 in
set_option maxHeartbeats 32000000 in
theorem slet (p : Int) (n : Nat) (g : Nat → Nat → Int) (w : World) (hM : MatP p n g) :
    Calls Tryz.prog 125 #[.int .i64 p, .int .i64 (n : Int), (.agg #[.int .u8 (g 0 0), .int .u8 (g 0 1), .int .u8 (g 0 2), .int .u8 (g 1 0), .int .u8 (g 1 1), .int .u8 (g 1 2), .int .u8 (g 2 0), .int .u8 (g 2 1), .int .u8 (g 2 2)])] w fun e w' =>
      ∃ v', e = .returned v' ∧ SlP w' v' (formsP p n g) ∧ Below w.heap.size w w' := by
  obtain ⟨i0, hi0, hz0, hz1, hz2⟩ := info_parts infoPoly
  have hn1 := hM.n1
  have hn3 := hM.n3
  obtain ⟨hp2, hp13⟩ := prime_le hM.prime
  obtain ⟨W, hW, hbW, ⟨hWs1, hWs2⟩, rg⟩ : ∃ W, W = w.alloc (.cells #[.int .u8 (g 0 0), .int .u8 (g 0 1), .int .u8 (g 0 2), .int .u8 (g 1 0), .int .u8 (g 1 1), .int .u8 (g 1 2), .int .u8 (g 2 0), .int .u8 (g 2 1), .int .u8 (g 2 2)] 98) ∧ Below w.heap.size w W ∧ (W.heap.size ≤ w.heap.size + 1 ∧ w.heap.size + 1 ≤ W.heap.size) ∧ W.rowIs w.heap.size 98 9 (mF g) := ⟨_, rfl, ebox1 _ _, ⟨by simp, by simp⟩, mbox w g _⟩
  obtain ⟨X, hX, hbX, hXs, hown⟩ : ∃ X, X = W.alloc (.cells #[] 39) ∧ Below W.heap.size W X ∧ W.heap.size + 1 ≤ X.heap.size ∧ X.ownsRow W.heap.size 39 3 (.slice (some ⟨W.heap.size, 0, none⟩) 0 0) 0 [] :=
    ⟨_, rfl, box1 _ _, by simp, by simpa using World.ownsRow_made (base := W.heap.size) (e := 39) (size := 3) W #[] 0 (by simp) (by simp [maxLen]) rfl⟩
  have st0 : LetW w X W.heap.size p n g (.slice (some ⟨W.heap.size, 0, none⟩) 0 0) [] := ⟨hown, fun i h => by simp at h, rowIs_below rg hbX rg.lt, hbW.trans (hbX.mono hbW.size), by omega, by omega⟩
  have HMK := Lib.hid hM
  clear hM hown hbX hbW rg
  go_enter Tryz.func125, Tryz.ntmps125
  go_upto_region 1 with fail
  rw [← hW]
  clear hW
  go_upto_region 2 with fail
  rw [← hX]
  clear hX
  go_wp2_with fail
  go_loopw [8, 7] (fun jv vv wr => ∃ (us : List Value) (v : Value), us.length ≤ n ∧ jv = .int .i64 (us.length : Int) ∧ vv = v ∧ LetW w wr W.heap.size p n g v us) (fun jv _ _ => n - (intOf jv).toNat)
  case atStart => exact ⟨[], _, by simp, by simp, rfl, st0⟩
  case round =>
    clear st0
    obtain ⟨us, v, hj, rfl, hvv, st⟩ := hrel
    subst u7
    obtain ⟨j, hjl⟩ : ∃ j, us.length = j := ⟨_, rfl⟩
    obtain ⟨wo, rfl⟩ : ∃ wo : World, wo = wr := ⟨_, rfl⟩
    by_cases hlj : j < n
    · have hlj' : (j : Int) < (n : Int) := by omega
      have hj3 : j < 3 := by omega
      have hj3' : (j : Int) < 3 := by omega
      have HG := Lib.hid (fun (i : Nat) (hi : i < 3) => HMK.out.num i hi j hj3)
      have HFL := Lib.hid (HMK.out.form hlj)
      have HJ := Lib.hid hjl
      rw [hjl]
      clear hjl
      go_wp2_with fail
      ((with_reducible refine (empty_any p (n : Int) _).mono ?_); rintro e w1 ⟨rfl, hown1, hb1⟩)
      obtain ⟨V, hV1, hbV, ⟨hVs1, hVs2⟩, rq⟩ := newbox w1 p (n : Int) (.slice (some ⟨wo.heap.size + 1, 0, none⟩) 0 0)
      have hoV : OwnP V wo.heap.size (.slice (some ⟨wo.heap.size + 1, 0, none⟩) 0 0) [] := owns_belowT hown1 hbV
      have stV := (st.later hb1).later hbV
      have hboV := hb1.trans (hbV.mono hb1.size)
      have hs1 := hb1.size
      obtain ⟨bq, hbq⟩ : ∃ bq, w1.heap.size = bq := ⟨_, rfl⟩
      have st_le : w.heap.size ≤ wo.heap.size := st.below.size
      have hbqW : w.heap.size < bq := by have := st.bas; omega
      have hvq : v.ownBlock = none ∨ v.ownBlock ≠ some bq := .inr (fun e => by have := (st.rows.lt bq e).2; omega)
      have hbq2 : wo.heap.size ≤ bq := by omega
      go_upto_region 6 with fail
      rw [← hV1]
      rw [hbq] at rq
      clear hV1 hown1 st hbV hb1 hbq
      obtain ⟨svA, hsvA⟩ : ∃ svA : Value, (.slice (some ⟨wo.heap.size + 1, 0, none⟩) 0 0 : Value) = svA := ⟨_, rfl⟩
      rw [hsvA] at hoV rq
      clear hsvA
      go_wp2_with fail
      go_loopw [10] (fun iv wr => ∃ (i : Nat) (sv : Value) (O : List Tm), i ≤ n ∧ iv = .int .i64 i ∧ Hid (IsP p O (formK g j i)) ∧ wr.rowIs bq 39 3 (polyF p (n : Int) sv) ∧ (∃ b', w.heap.size ≤ b' ∧ OwnP wr b' sv O) ∧ LetW w wr W.heap.size p n g v us) (fun iv _ => n - (intOf iv).toNat)
      case atStart => exact ⟨0, _, [], by omega, rfl, Lib.hid ((IsP.nil p).congr fun e _ => (formK_zero g j e).symm), rq, ⟨_, st_le, hoV⟩, stV⟩
      case round =>
        clear stV rq hoV
        obtain ⟨i, sv, O, hi, rfl, HO, rq, ⟨b', hb', ho⟩, st⟩ := hrel
        obtain ⟨sa, sc, rfl⟩ := owns_slice ho
        obtain ⟨⟨q0, q1, q2⟩, y0, y1, y2⟩ := poly3 rq
        by_cases hli : i < n
        · have hli' : (i : Int) < (n : Int) := by omega
          have hi3 : i < 3 := by omega
          have hi3' : (i : Int) < 3 := by omega
          obtain ⟨g0, g1⟩ := HG.out i hi3
          have ra := World.rowIs_alloc wr #[Value.int .u8 0, .int .u8 0, .int .u8 0] 88 (expsF 0 0 0) (fun i hi => by simp at hi; match i, hi with | 0, _ => rfl | 1, _ => rfl | 2, _ => rfl)
          obtain ⟨A2, hA2⟩ : ∃ A2, A2 = wr.alloc (.cells #[.int .u8 0, .int .u8 0, .int .u8 0] 88) := ⟨_, rfl⟩
          obtain ⟨V2, hV2, hbV2, ru⟩ : ∃ V2, V2 = A2.setCell ⟨wr.heap.size, i, none⟩ (.int .u8 1) ∧ Below wr.heap.size wr V2 ∧ V2.rowIs wr.heap.size 88 3 (expsF (unE i).1 (unE i).2.1 (unE i).2.2) := ⟨_, rfl, by rw [hA2]; exact (box1 wr _).setCell (by simp) _, by rw [hA2]; exact unE_row hi3⟩
          replace ra : A2.rowIs wr.heap.size 88 3 (expsF 0 0 0) := by rw [hA2]; exact ra
          have z0 := nthX_cell ra hi3
          have z1 := ra.frozen i
          have hmu := unE_mono hi3
          have hPut := HO.out.put hp2 hmu (g i j)
          have HN : Hid (IsP p (putL p O (unE i) (g i j)) (formK g j (i + 1))) := Lib.hid (hPut.congr fun e _ => by
            rw [formK_at g j i hi3, Int.add_zero, Int.emod_eq_of_lt g0 g1, formK_step g j i hi3])
          obtain ⟨ux, hux⟩ : ∃ ux, (unE i).1 = ux := ⟨_, rfl⟩
          obtain ⟨uy, huy⟩ : ∃ uy, (unE i).2.1 = uy := ⟨_, rfl⟩
          obtain ⟨uz, huz⟩ : ∃ uz, (unE i).2.2 = uz := ⟨_, rfl⟩
          have hun : unE i = (ux, uy, uz) := by rw [← hux, ← huy, ← huz]
          rw [hux, huy, huz] at ru
          rw [hun] at HN hmu
          have hmu1 : byte3 (ux, uy, uz) := by
            obtain ⟨h1, _⟩ := hmu
            exact h1
          have hbd := hbV2.trans ((Below.same V2).drew.mono hbV2.size)
          have u0 : V2.drew.cell? ⟨wr.heap.size, 0, none⟩ = some (.int .u8 ux) := ru.cell (i := 0) (by omega)
          have u1 : V2.drew.cell? ⟨wr.heap.size, 1, none⟩ = some (.int .u8 uy) := ru.cell (i := 1) (by omega)
          have u2 : V2.drew.cell? ⟨wr.heap.size, 2, none⟩ = some (.int .u8 uz) := ru.cell (i := 2) (by omega)
          have rq2 : V2.drew.rowIs bq 39 3 (polyF p (n : Int) (.slice sa O.length sc)) := rowIs_below rq hbd rq.lt
          have st2 := st.later hbd
          have c0 : V2.drew.cell? ⟨w.heap.size, i * 3 + j, none⟩ = some (.int .u8 (g i j)) := mcell st2.mat hi3 hj3
          have ho2 : OwnP V2.drew b' (.slice sa O.length sc) O := owns_belowT ho hbd
          have hwg : IntKind.i64.wrap (g i j) = g i j := IntWalk.i64_in _ (by omega)
          clear hPut hun hux huy huz ru hbV2 rq st ho q0 q1 q2 y0 y1 y2
          obtain ⟨⟨q0, q1, q2⟩, y0, y1, y2⟩ := poly3 rq2
          go_upto_region 10 with fail
          rw [← hA2]
          clear hA2
          go_upto_region 11 with fail
          rw [← hV2]
          clear hV2 z0 z1 ra
          refine region_tail 8 (by kernel_rfl) (by kernel_rfl) ?_
          simp only [List.take_succ_cons, List.take_zero, List.drop_succ_cons, List.drop_zero]
          repeat still_step
          refine wpStill_nil ?_
          try simp only [hwg]
          go_wp2_with fail
          ((with_reducible refine (specPut p (n : Int) _ O _ ux uy uz (g i j) V2.drew (OwnP.slice ho2) HO.out hp2 hp13 hmu1 g0 (by omega)).mono ?_); rintro e w3 ⟨v3, rfl, ho3, hb3⟩)
          obtain ⟨sa3, sc3, rfl⟩ := owns_slice ho3
          have rq3 := rowIs_below rq2 hb3 rq2.lt
          have st3 := st2.later hb3
          obtain ⟨⟨e0, e1, e2⟩, f0, f1, f2⟩ := poly3 rq3
          have rq4 := (setB3 rq3 (OwnP.slice ho3) p (n : Int)).1
          have ho4 : OwnP _ _ _ _ := own_set3 ho3 rq3 (i0 := 0) (i1 := 1) (i2 := 2) (x0 := .int .i64 p) (x1 := .int .i64 (n : Int)) (x2 := .slice sa3 (putL p O (ux, uy, uz) (g i j)).length sc3)
          have st4 := st3.set3 rq3 hvq hbqW (.int .i64 p) (.int .i64 (n : Int)) (.slice sa3 (putL p O (ux, uy, uz) (g i j)).length sc3)
          have hle4 : w.heap.size ≤ V2.drew.heap.size := st2.below.size
          clear q0 q1 q2 y0 y1 y2 u0 u1 u2 c0 rq2 rq3 st2 st3 ho2 ho3
          go_wp2_with fail
          go_roundw
          case rel => exact ⟨i + 1, _, _, by omega, by go_num, HN, rq4, ⟨_, hle4, ho4⟩, st4⟩
          case measure => simp [intOf]; omega
        · obtain rfl : i = n := by omega
          have hO : O = formL g j := HO.out.unique HFL.out
          subst hO
          have hst := st
          have ho1 := ho
          obtain ⟨V5, hV5, hbV5, hc5⟩ : ∃ V5, V5 = wr.alloc (.cells #[.int .i64 p, .int .i64 (i : Int), .slice sa (formL g j).length sc] 39) ∧ Below wr.heap.size wr V5 ∧ ∀ k u, ([Value.int .i64 p, .int .i64 (i : Int), .slice sa (formL g j).length sc] : List Value)[k]? = some u → V5.cell? ((⟨wr.heap.size, 0, none⟩ : Addr).add k) = some u := by
            refine ⟨_, rfl, box1 _ _, fun k u hk => ?_⟩
            match k, hk with
            | 0, hk => simp at hk; subst hk; simp [World.cell?_alloc_at, Addr.add]
            | 1, hk => simp at hk; subst hk; simp [World.cell?_alloc_at, Addr.add]
            | 2, hk => simp at hk; subst hk; simp [World.cell?_alloc_at, Addr.add]
          have st5 := st.later hbV5
          have ho5 : OwnP V5 b' (.slice sa (formL g j).length sc) (formL g j) := owns_belowT ho hbV5
          have hrows := st5.rows
          rw [HJ.out] at hrows
          have hbas := st5.bas.2
          have hmx : j + 1 ≤ maxLen := by unfold maxLen; omega
          go_wp2_with (at_builtin; rw [← hV5]; refine wpList_append_own _ rfl _ _ 30 rfl W.heap.size 39 i0 _ 3 40 Tryz.underlying30 hi0 hz0 hz1 hz2 rfl (by decide) v j (cellsQ p i us) rfl hrows ⟨wr.heap.size, 0, none⟩ 1 1 [.int .i64 p, .int .i64 (i : Int), .slice sa (formL g j).length sc] rfl rfl hc5 ?d2 hmx ?d4 hbas ?_)
          case d2 =>
            intro u hu
            simp at hu
            rcases hu with rfl | rfl | rfl <;> rfl
          case d4 => omega
          intro v' w5 hown5 hg5 _
          rw [← hV5] at hg5
          have stN := st5.more (u := .slice sa (formL g j).length sc) (by rw [HJ.out]; exact ho5) hb' hg5 (by rw [HJ.out]; exact hown5)
          have HLJ : Hid ((us ++ [(.slice sa (formL g j).length sc : Value)]).length = j + 1) := Lib.hid (by simp [HJ.out])
          clear hown5 hg5 st st5 hst hrows ho ho1 ho5 hc5 hV5 hbV5 q0 q1 q2 y0 y1 y2 rq
          go_wp2_with fail
          go_roundw
          case rel => exact ⟨us ++ [.slice sa (formL g j).length sc], _, by rw [HLJ.out]; omega, by rw [HLJ.out]; go_num, rfl, stN⟩
          case measure => simp [intOf]; omega
    · have hjn : us.length = n := by omega
      have HD := Lib.hid (st.done hjn)
      have hend := st.below
      have hj' : ¬ ((us.length : Int) < (n : Int)) := by omega
      clear st hjn hjl
      go_wp2_with fail
      go_ret
      exact ⟨_, rfl, HD.out, hend⟩
end Go.Proofs.YtllklhakbanhaaaGreat
namespace Go.Proofs.YtllklhakbanhaaaGreat
open Go.RowKit Go.Sort Go.Maps EchM

/-- The boxes of a matrix, of a polynomial and of the result. -/
theorem boxMPR (w : World) (g : Nat → Nat → Int) (p d : Int) (v : Value) : ∃ W, W = ((w.alloc (.cells #[.int .u8 (g 0 0), .int .u8 (g 0 1), .int .u8 (g 0 2), .int .u8 (g 1 0), .int .u8 (g 1 1), .int .u8 (g 1 2), .int .u8 (g 2 0), .int .u8 (g 2 1), .int .u8 (g 2 2)] 98)).alloc (.cells #[.int .i64 p, .int .i64 d, v] 39)).alloc (.cells #[.int .i64 0, .int .i64 0, .slice none 0 0] 39) ∧ Below w.heap.size w W ∧ (W.heap.size ≤ w.heap.size + 3 ∧ w.heap.size + 3 ≤ W.heap.size) ∧
      W.rowIs w.heap.size 98 9 (mF g) ∧ W.rowIs (w.heap.size + 1) 39 3 (polyF p d v) ∧ W.rowIs (w.heap.size + 2) 39 3 (polyF 0 0 (.slice none 0 0)) := by
  obtain ⟨U, hU, hbU, rm⟩ : ∃ U, U = w.alloc (.cells #[.int .u8 (g 0 0), .int .u8 (g 0 1), .int .u8 (g 0 2), .int .u8 (g 1 0), .int .u8 (g 1 1), .int .u8 (g 1 2), .int .u8 (g 2 0), .int .u8 (g 2 1), .int .u8 (g 2 2)] 98) ∧ Below w.heap.size w U ∧ U.rowIs w.heap.size 98 9 (mF g) := ⟨_, rfl, ebox1 _ _, mbox w g _⟩
  have hs : U.heap.size = w.heap.size + 1 := by rw [hU]; simp
  obtain ⟨W, hW, hbW, ⟨s1, s2⟩, rx, rr⟩ := boxes2 U p d v
  rw [hs] at rx rr s1 s2
  exact ⟨W, by rw [hW, hU], hbU.trans (hbW.mono hbU.size), ⟨by omega, by omega⟩, rowIs_below rm hbW rm.lt, rx, rr⟩
end Go.Proofs.YtllklhakbanhaaaGreat
