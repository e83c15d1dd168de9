/-
  ROWS as polynomials: plain mathematics. Conditions: as each theorem states.
  WALKS: 'spec.l01OfRow'. Conditions: as each theorem states.
  WALKS: 'impl.polyOfRow'. Conditions: as each theorem states.
  LISTS OF 64-BIT NUMBERS: judged. Conditions: as each theorem states.
-/
import Derived.Test.YtbhgbifliihlbaaS01
import Derived.Test.YtbhgbifliihlbaaR05
import Derived.Test.YtbhgbifliihlbaaR04
import Derived.Test.YtbhgbifliihlbaaR10
import Derived.Test.YtbhgbifliihlbaaR07
import Derived.Deep.AppendLies
import Derived.Deep.RegionLaw
import Derived.Test.YtbhgbifliihlbaaR20
import Derived.Test.YtbhgbifliihlbaaR13
import Derived.Test.YtbhgbifliihlbaaR11
namespace Go.Proofs.Ytbhgbifliihlbaa

/-- The terms of a row: the monomials with the coefficients that are not 0. -/
def rT : List (Int × Int × Int) → List Int → List Tm
  | e :: M, x :: xs => if x = 0 then rT M xs else mkT e x :: rT M xs
  | [], _ => []
  | _ :: _, [] => []
theorem rT_mem : ∀ {M : List (Int × Int × Int)} {xs : List Int} {t : Tm}, t ∈ rT M xs → ∃ e ∈ M, ∃ x ∈ xs, x ≠ 0 ∧ t = mkT e x
  | [], _, _, h => by simp [rT] at h
  | _ :: _, [], _, h => by simp [rT] at h
  | e :: M, x :: xs, t, h => by
    unfold rT at h
    split at h
    · obtain ⟨e', h1, x', h2, h3⟩ := rT_mem h
      exact ⟨e', by simp [h1], x', by simp [h2], h3⟩
    · rename_i hx
      rcases List.mem_cons.1 h with rfl | h
      · exact ⟨e, by simp, x, by simp, hx, rfl⟩
      · obtain ⟨e', h1, x', h2, h3⟩ := rT_mem h
        exact ⟨e', by simp [h1], x', by simp [h2], h3⟩
theorem rT_snoc : ∀ (M : List (Int × Int × Int)) (xs : List Int) (e : Int × Int × Int) (x : Int), M.length = xs.length → rT (M ++ [e]) (xs ++ [x]) = rT M xs ++ (if x = 0 then [] else [mkT e x])
  | [], [], e, x, _ => by simp [rT]
  | [], _ :: _, _, _, h => by simp at h
  | _ :: _, [], _, _, h => by simp at h
  | a :: M, y :: xs, e, x, h => by
    have ih := rT_snoc M xs e x (by simpa using h)
    simp only [List.cons_append, rT]
    split
    · exact ih
    · rw [ih]; rfl
theorem rT_len : ∀ (M : List (Int × Int × Int)) (xs : List Int), (rT M xs).length ≤ M.length
  | [], _ => by simp [rT]
  | _ :: _, [] => by simp [rT]
  | e :: M, x :: xs => by
    have ih := rT_len M xs
    unfold rT
    split
    · simp; omega
    · simp; omega
theorem rT_take {M : List (Int × Int × Int)} {xs : List Int} {k : Nat} (h : M.length = xs.length) (hk : k < M.length) : rT (M.take (k + 1)) (xs.take (k + 1)) = rT (M.take k) (xs.take k) ++ (if xs[k]'(by omega) = 0 then [] else [mkT M[k] (xs[k]'(by omega))]) := by
  rw [List.take_succ_eq_append_getElem hk, List.take_succ_eq_append_getElem (l := xs) (by omega), rT_snoc _ _ _ _ (by simp [h])]
theorem rT_asc : ∀ {M : List (Int × Int × Int)} (xs : List Int), (M.Pairwise fun a b => beforeB a b = true) → Asc (rT M xs)
  | [], _, _ => by simp [rT, Asc]
  | _ :: _, [], _ => by simp [rT, Asc]
  | e :: M, x :: xs, h => by
    have ih := rT_asc xs (List.pairwise_cons.1 h).2
    unfold rT
    split
    · exact ih
    · refine List.pairwise_cons.2 ⟨fun t ht => ?_, ih⟩
      obtain ⟨e', h1, x', _, _, rfl⟩ := rT_mem ht
      exact (List.pairwise_cons.1 h).1 e' h1

theorem inner_mem {d : Int} {n s t : Nat} {e : Int × Int × Int} (h : e ∈ innerL d n s t) : ∃ k : Nat, k < t ∧ e = ((n : Int) - s, (s : Int) - k, (k : Int)) := by
  simp only [innerL, pick, List.mem_flatMap, List.mem_range] at h
  obtain ⟨k, hk, hp⟩ := h
  split at hp
  · exact ⟨k, hk, by simpa using hp⟩
  · simp at hp
theorem pick_mem {d x y z : Int} {e : Int × Int × Int} (h : e ∈ pick d x y z) : e = (x, y, z) := by
  unfold pick at h
  split at h
  · simpa using h
  · simp at h
theorem monL_asc (d n : Int) : (monL d n).Pairwise fun a b => beforeB a b = true := by
  unfold monL
  split
  · unfold outerL
    refine List.pairwise_flatMap.2 ⟨fun s hs => ?_, (List.pairwise_lt_range).imp fun {s s'} hlt e he e' he' => ?_⟩
    · unfold innerL
      refine List.pairwise_flatMap.2 ⟨fun k hk => ?_, (List.pairwise_lt_range).imp fun {k k'} hlt e he e' he' => ?_⟩
      · unfold pick
        split <;> simp
      · obtain rfl := pick_mem he
        obtain rfl := pick_mem he'
        unfold beforeB
        rw [if_pos (by dsimp only; omega), if_pos rfl]
        simp
        omega
    · obtain ⟨k, _, rfl⟩ := inner_mem he
      obtain ⟨k', _, rfl⟩ := inner_mem he'
      unfold beforeB
      rw [if_pos (by dsimp only; omega), if_neg (by dsimp only; omega)]
      simp
      omega
  · exact List.Pairwise.nil
theorem monL_one {d n : Int} (h : monB d n = true) : 1 ≤ (monL d n).length := by
  have h' := h
  simp [monB] at h'
  unfold monL
  rw [if_pos h]
  refine List.length_pos_of_mem (a := (n, 0, 0)) ?_
  simp only [outerL, innerL, pick, List.mem_flatMap, List.mem_range]
  refine ⟨0, by omega, 0, by omega, ?_⟩
  rw [if_pos (by simp [expsOk, tailOk]; omega)]
  simp
  omega
theorem monL_12 (d n : Int) : ∀ e ∈ monL d n, mono12 e := by
  unfold monL
  split
  · rename_i h
    simp [monB] at h
    intro e he
    simp only [outerL, List.mem_flatMap, List.mem_range] at he
    obtain ⟨s, hs, he⟩ := he
    obtain ⟨k, hk, rfl⟩ := inner_mem he
    refine ⟨⟨⟨?_, ?_⟩, ⟨?_, ?_⟩, ?_, ?_⟩, ?_⟩ <;> simp <;> omega
  · intro e he
    simp at he
theorem rT_is {p d n : Int} {xs : List Int} (h : ∀ x ∈ xs, 0 ≤ x ∧ x < p) : IsP p (rT (monL d n) xs) (atL (rT (monL d n) xs)) :=
  ⟨rT_asc xs (monL_asc d n), fun t ht => by
    obtain ⟨e, h1, x, h2, h3, rfl⟩ := rT_mem ht
    have := h x h2
    exact ⟨monL_12 d n e h1, by show 1 ≤ x; omega, by show x < p; omega⟩, fun _ _ => rfl⟩

/-- What a map says after numbers were put under monomials, one after another. -/
def gF (M : List (Int × Int × Int)) (xs : List Int) (pre : List (Fin M.length)) (e : Int × Int × Int) : Int := pre.foldl (fun c x => if e = M[x.1] then xs.getD x.1 0 else c) 0
theorem gF_nil (M : List (Int × Int × Int)) (xs : List Int) (e : Int × Int × Int) : gF M xs [] e = 0 := rfl
theorem gF_snoc (M : List (Int × Int × Int)) (xs : List Int) (pre : List (Fin M.length)) (x : Fin M.length) (e : Int × Int × Int) : gF M xs (pre ++ [x]) e = if e = M[x.1] then xs.getD x.1 0 else gF M xs pre e := by
  unfold gF; rw [List.foldl_append]; rfl
theorem gF_take {d n : Int} {xs : List Int} (hl : (monL d n).length = xs.length) (e : Int × Int × Int) : ∀ k, k ≤ (monL d n).length → gF (monL d n) xs ((List.finRange (monL d n).length).take k) e = atL (rT ((monL d n).take k) (xs.take k)) e
  | 0, _ => by simp [gF_nil, rT, atL]
  | k + 1, hk => by
    have ih := gF_take hl e k (by omega)
    have hlf : k < (List.finRange (monL d n).length).length := by simp; omega
    rw [List.take_succ_eq_append_getElem hlf, gF_snoc, rT_take hl (by omega), ih]
    have hx : xs.getD k 0 = xs[k]'(by omega) := by simp [List.getD, show k < xs.length by omega]
    have hnot : ∀ t ∈ rT ((monL d n).take k) (xs.take k), tmE t ≠ (monL d n)[k]'(by omega) := fun t ht => by
      obtain ⟨e', h1, x', _, _, rfl⟩ := rT_mem ht
      rw [tmE_mkT]
      obtain ⟨i, hi, rfl⟩ := List.mem_iff_getElem.1 h1
      rw [List.length_take] at hi
      rw [List.getElem_take]
      intro e
      have := List.pairwise_iff_getElem.1 (monL_asc d n) i k (by omega) (by omega) (by omega)
      rw [e] at this
      unfold beforeB at this
      simp at this
    simp only [List.getElem_finRange, Fin.val_cast]
    rw [hx]
    by_cases h0 : xs[k]'(by omega) = 0
    · rw [if_pos h0, h0, List.append_nil]
      split
      · rename_i he
        rw [he]
        exact (atL_none hnot).symm
      · rfl
    · rw [if_neg h0, atL_snoc (by rw [tmE_mkT]; exact hnot), tmE_mkT]
      by_cases he : e = (monL d n)[k]'(by omega)
      · rw [if_pos he, if_pos he.symm]; rfl
      · rw [if_neg he, if_neg (fun h => he h.symm)]
theorem gF_all {d n : Int} {xs : List Int} (hl : (monL d n).length = xs.length) (e : Int × Int × Int) : gF (monL d n) xs (List.finRange (monL d n).length) e = atL (rT (monL d n) xs) e := by
  have h := gF_take hl e (monL d n).length (Nat.le_refl _)
  rw [List.take_of_length_le (by simp), List.take_of_length_le (Nat.le_refl _), List.take_of_length_le (by omega)] at h
  exact h
end Go.Proofs.Ytbhgbifliihlbaa
namespace Go.Proofs.Ytbhgbifliihlbaa
open Go.RowKit Go.Sort

/-- What stands in memory while a row's polynomial is gathered: its own three cells (block q), the rows of its terms, the result's cells (block r). -/
structure RwS (w wr : World) (base q r : Nat) (p d : Int) (sv : Value) (O : List Tm) : Prop where
  rows : wr.ownsRow base 115 4 sv O.length (cells4 O)
  out : wr.rowIs q 40 3 (polyF p d sv)
  res : wr.rowIs r 40 3 (polyF 0 0 (.slice none 0 0))
  below : Below w.heap.size w wr
  b1 : w.heap.size ≤ base
  b2 : base ≤ wr.heap.size
  b3 : w.heap.size ≤ q
  b4 : w.heap.size ≤ r
  qr : r ≠ q
theorem RwS.later {w wr w1 : World} {base q r : Nat} {p d : Int} {sv : Value} {O : List Tm} (h : RwS w wr base q r p d sv O) (hb : Below wr.heap.size wr w1) : RwS w w1 base q r p d sv O :=
  ⟨owns_belowT h.rows hb, rowIs_below h.out hb h.out.lt, rowIs_below h.res hb h.res.lt, h.below.trans (hb.mono h.below.size), h.b1, Nat.le_trans h.b2 hb.size, h.b3, h.b4, h.qr⟩
theorem RwS.more {w wr wx w2 : World} {base q r : Nat} {p d : Int} {sv sv' : Value} {O : List Tm} {t : Tm} (h : RwS w wr base q r p d sv O) (hb : Below wr.heap.size wr wx)
    (hg : wx.grownBy w2 sv.ownBlock) (ho : w2.ownsRow base 115 4 sv' (O.length + 1) (cells4 O ++ cell4 t)) : RwS w (w2.setCell ⟨q, 2, none⟩ sv') base q r p d sv' (O ++ [t]) ∧ w2.rowIs q 40 3 (polyF p d sv) := by
  have h1 := h.later hb
  have hn1 : 40 ≠ 115 := by decide
  have r1 := rowIs_grown h1.out hg h1.rows hn1
  have r4 := rowIs_grown h1.res hg h1.rows hn1
  refine ⟨⟨?_, ?_, r4.setOther (by simpa using fun e => h.qr e) _, ?_, h.b1, ?_, h.b3, h.b4, h.qr⟩, r1⟩
  · rw [cells4_snoc, show (O ++ [t]).length = O.length + 1 by simp]
    exact ho.kept (row := some q) ⟨rfl, rfl, rfl, by rw [World.size_setCell]; exact Nat.le_refl _, fun k hk hne => Below.heap_setCell w2 ⟨q, 2, none⟩ sv' k (fun e => hne (by rw [e]))⟩ (own_ne r1 ho hn1)
  · refine (r1.set 2 sv').congr fun i hi => ?_
    rw [congrFun (polyF_set p d sv sv') i, if_pos hi]
  · have hb1 := h.b1
    have hb3 := h.b3
    exact (h1.below.grown hg (Nat.le_trans hb1 h1.b2) (fun k hk => Nat.le_trans hb1 (h1.rows.lt k hk).1)).setCell (by simpa using hb3) _
  · rw [World.size_setCell]; exact Nat.le_trans h1.b2 hg.size
theorem RwS.finish {w wr : World} {base q r : Nat} {p d : Int} {sv : Value} {O : List Tm} (h : RwS w wr base q r p d sv O) (p' d' : Int) :
    (((wr.setCell ⟨r, 0, none⟩ (.int .i64 p')).setCell ⟨r, 1, none⟩ (.int .i64 d')).setCell ⟨r, 2, none⟩ sv).cell? ⟨r, 0, none⟩ = some (.int .i64 p') ∧
    (((wr.setCell ⟨r, 0, none⟩ (.int .i64 p')).setCell ⟨r, 1, none⟩ (.int .i64 d')).setCell ⟨r, 2, none⟩ sv).cell? ⟨r, 1, none⟩ = some (.int .i64 d') ∧
    (((wr.setCell ⟨r, 0, none⟩ (.int .i64 p')).setCell ⟨r, 1, none⟩ (.int .i64 d')).setCell ⟨r, 2, none⟩ sv).cell? ⟨r, 2, none⟩ = some sv ∧
    (((wr.setCell ⟨r, 0, none⟩ (.int .i64 p')).setCell ⟨r, 1, none⟩ (.int .i64 d')).setCell ⟨r, 2, none⟩ sv).ownsRow w.heap.size 115 4 sv O.length (cells4 O) ∧
    Below w.heap.size w (((wr.setCell ⟨r, 0, none⟩ (.int .i64 p')).setCell ⟨r, 1, none⟩ (.int .i64 d')).setCell ⟨r, 2, none⟩ sv) := by
  have R := ((h.res.set 0 (.int .i64 p')).set 1 (.int .i64 d')).set 2 sv
  have hb1 := h.b1
  have hb4 := h.b4
  refine ⟨R.cell (i := 0) (by omega), R.cell (i := 1) (by omega), R.cell (i := 2) (by omega), ?_, ((h.below.setCell (by simpa using hb4) _).setCell (by simpa using hb4) _).setCell (by simpa using hb4) _⟩
  refine owns_low (h.rows.kept (row := some r) ⟨rfl, rfl, rfl, by simp only [World.size_setCell]; exact Nat.le_refl _, fun k hk hne => ?_⟩ (own_ne h.res h.rows (by decide))) hb1
  have hk : k ≠ r := fun e => hne (by rw [e])
  exact (Below.heap_setCell _ ⟨r, 2, none⟩ sv k hk).trans ((Below.heap_setCell _ ⟨r, 1, none⟩ _ k hk).trans (Below.heap_setCell _ ⟨r, 0, none⟩ _ k hk))

set_option maxRecDepth 8000 in
set_option maxHeartbeats 4000000 in
theorem sofr (p d : Int) (n : Nat) (v : Value) (xs : List Int) (w : World) (hd : 1 ≤ d ∧ d ≤ 3) (hn : n ≤ 12) (M : List EX3) (hM : outerL d n (n + 1) = M) (hl : M.length ≤ 169) (hx : M.length = xs.length) (hS : Sl w v xs) :
    Calls Try.prog 73 #[.int .i64 p, .int .i64 d, .int .i64 n, v] w fun e w' => ∃ v', e = .returned (.agg #[.int .i64 p, .int .i64 d, v']) ∧ OwnP w' w.heap.size v' (rT M xs) ∧ Below w.heap.size w w' := by
  obtain ⟨i0, hi, hz0, hz1, hz2⟩ := info_parts infoTerm
  obtain ⟨W, hW, hbW, ⟨hWs1, hWs2⟩, rr⟩ := newbox w 0 0 (.slice none 0 0)
  obtain ⟨xa, xc, rfl, hxs⟩ := id hS
  go_enter Try.func73, Try.ntmps73
  go_wp2_with fail
  rw [← hW]
  clear hW
  ((with_reducible refine (specMonomials_any d n W hd hn).mono ?_); rintro e w1 ⟨v1, rfl, ho1, hb1⟩)
  rw [hM] at ho1
  have hS1 := slE_of ho1
  obtain ⟨ma, mc, rfl, hmc⟩ := id hS1
  clear ho1 hM
  go_wp2_with fail
  ((with_reducible refine (empty_any p d w1).mono ?_); rintro e w2 ⟨rfl, hown, hb2⟩)
  obtain ⟨V, hV, hbV, ⟨hVs1, hVs2⟩, rq⟩ := newbox w2 p d (.slice (some ⟨w1.heap.size + 1, 0, none⟩) 0 0)
  have s1 := hb1.size
  have s2 := hb2.size
  have hbWV := hb1.trans ((hb2.trans (hbV.mono s2)).mono s1)
  have hst : RwS w V w1.heap.size w2.heap.size w.heap.size p d (.slice (some ⟨w1.heap.size + 1, 0, none⟩) 0 0) [] :=
    ⟨owns_belowT hown hbV, rq, rowIs_below rr hbWV rr.lt, hbW.trans (hbWV.mono hbW.size), by omega, by omega, by omega, by omega, by omega⟩
  have hm2 : Below w1.heap.size w1 V := hb2.trans (hbV.mono s2)
  go_upto_region 2 with fail
  rw [← hV]
  clear hV rr rq hown hbV hb1 hbW hbWV
  go_wp2_with fail
  go_loopw [11] (fun i wr => ∃ (k : Nat) (sv : Value) (O : List Tm), k ≤ M.length ∧ i = .int .i64 k ∧ Hid (O = rT (M.take k) (xs.take k)) ∧ O.length ≤ k ∧ RwS w wr w1.heap.size w2.heap.size w.heap.size p d sv O ∧ Below w1.heap.size w1 wr) (fun i _ => M.length - (intOf i).toNat)
  case atStart => exact ⟨0, _, [], by omega, rfl, Lib.hid (by simp [rT]), by simp, hst, hm2⟩
  case round =>
    clear hst
    obtain ⟨k, sv, O, hk, rfl, HO, hO, hB, hb⟩ := hrel
    obtain ⟨sa, sc, rfl⟩ := owns_slice hB.rows
    by_cases hlt : k < M.length
    · have hlt' : (k : Int) < (M.length : Int) := by omega
      have hltx : k < xs.length := by omega
      have hltx' : (k : Int) < (xs.length : Int) := by omega
      obtain ⟨b, off, rfl, hbb, hT⟩ : ∃ b off, ma = some ⟨b, off, none⟩ ∧ (W.heap.size ≤ b ∧ b < w1.heap.size) ∧ ExW w1 b off M := by
        rcases hmc with rfl | h
        · simp at hlt
        · exact h
      obtain ⟨bx, ox, rfl, hbx, hC⟩ : ∃ b off, xa = some ⟨b, off, none⟩ ∧ b < w.heap.size ∧ Cs w b off xs := by
        rcases hxs with rfl | h
        · simp at hltx
        · exact h
      obtain ⟨c0, c1, c2⟩ := hT k hlt
      have d0 := hC k hltx
      have HT := Lib.hid (rT_take hx hlt)
      obtain ⟨ex, hex⟩ : ∃ e, M[k].1 = e := ⟨_, rfl⟩
      obtain ⟨ey, hey⟩ : ∃ e, M[k].2.1 = e := ⟨_, rfl⟩
      obtain ⟨ez, hez⟩ : ∃ e, M[k].2.2 = e := ⟨_, rfl⟩
      have hexe : M[k] = (ex, ey, ez) := by rw [← hex, ← hey, ← hez]
      rw [hex] at c0
      rw [hey] at c1
      rw [hez] at c2
      rw [hexe] at HT
      obtain ⟨X, hX⟩ : ∃ X, xs[k] = X := ⟨_, rfl⟩
      rw [hX] at HT d0
      have q2 : wr.cell? ⟨w2.heap.size, 2, none⟩ = some (.slice sa O.length sc) := hB.out.cell (i := 2) (by omega)
      have e0 := (hb.cell (p := ⟨_, _, none⟩) hbb.2).trans c0
      have e1 := (hb.cell (p := ⟨_, _, none⟩) hbb.2).trans c1
      have e2 := (hb.cell (p := ⟨_, _, none⟩) hbb.2).trans c2
      have e3 := (hB.below.cell (p := ⟨_, _, none⟩) hbx).trans d0
      clear hT hC hmc hxs hex hey hez hexe hX c0 c1 c2 d0
      by_cases hX0 : X = 0
      · have HN : Hid (O = rT (M.take (k + 1)) (xs.take (k + 1))) := Lib.hid (by rw [HT.out, if_pos hX0, List.append_nil, HO.out])
        subst hX0
        clear HO HT
        go_wp2_with fail
        go_roundw
        case rel => exact ⟨k + 1, _, _, by omega, by go_num, HN, by omega, hB, hb⟩
        case measure => simp [intOf]; omega
      · have HN : Hid (O ++ [mkT (ex, ey, ez) X] = rT (M.take (k + 1)) (xs.take (k + 1))) := Lib.hid (by rw [HT.out, if_neg hX0, HO.out])
        have hX1 : (X != 0) = true := by simpa using hX0
        have hone : ∀ u ∈ cell4 (mkT (ex, ey, ez) X), u.oneCell' = true := by intro u hu; simp [cell4, mkT] at hu; rcases hu with rfl | rfl | rfl | rfl <;> rfl
        have hmx : O.length + 1 ≤ maxLen := by unfold maxLen; omega
        have hmb : (O.length + 1) * 16 ≤ 140737488355328 := by omega
        have hbs := hB.b2
        have hws : w1.heap.size ≤ wr.heap.size := hb.size
        have hlow : w.heap.size ≤ w1.heap.size := by omega
        have qo : ∀ o, (wr.alloc o).cell? ⟨w2.heap.size, 2, none⟩ = some (.slice sa O.length sc) := fun o => ((box1 wr o).cell hB.out.lt).trans q2
        clear HO HT hX0
        go_wp2_with fail
        go_region_law (first
            | ((refine step_append_lies _ (by rfl) _ _ _ (by rfl) w1.heap.size 115 i0 _ 4 16 Try.underlying38 hi hz0 hz1 hz2 rfl (by omega) (.slice sa O.length sc) O.length (cells4 O) (by rfl) ((hB.rows.alloc _).drew) ⟨wr.heap.size, 0, none⟩ 1 1 (cell4 (mkT (ex, ey, ez) X)) (by rfl) (by rfl) (World.news_of_block (cs := #[.int .u8 ex, .int .u8 ey, .int .u8 ez, .int .i64 X]) (t := 115) (fr := (0, 0)) (heap_alloc_new wr _)) hone (by omega) hmx hmb (by simp; omega) (wr.heap.size + 1) (by simp) ?_
                intro gg cap3 w3 hown3 hgrow3 hat hlt3
                obtain ⟨hB3, r3⟩ := hB.more ((box1 _ _).drew) hgrow3 (t := mkT (ex, ey, ez) X) hown3
                have hfz3 := r3.frozen 2
                have hcl3 : w3.cell? ⟨w2.heap.size, 2, none⟩ = some (.slice sa O.length sc) := r3.cell (i := 2) (by omega)
                have hb7 : Below w1.heap.size wr w3 := (((box1 wr (.cells #[.int .u8 ex, .int .u8 ey, .int .u8 ez, .int .i64 X] 115)).mono hws).drew).grown hgrow3 (by simp; omega) (fun q hq => (World.ownsRow.lt hB.rows q hq).1)
                clear hown3 hgrow3 hat r3)))
        all_goals
          go_wp2_with fail
          go_roundw
          case rel => exact ⟨k + 1, _, _, by omega, by go_num, HN, by simp; omega, hB3, (hb.trans hb7).setCell (p := ⟨w2.heap.size, 2, none⟩) s2 _⟩
          case measure => simp [intOf]; omega
    · obtain rfl : k = M.length := by omega
      have HL : Hid (rT M xs = O) := Lib.hid (by rw [HO.out, List.take_length, List.take_of_length_le (by omega)])
      have j0 : wr.cell? ⟨w2.heap.size, 0, none⟩ = some (.int .i64 p) := hB.out.cell (i := 0) (by omega)
      have j1 : wr.cell? ⟨w2.heap.size, 1, none⟩ = some (.int .i64 d) := hB.out.cell (i := 1) (by omega)
      have j2 : wr.cell? ⟨w2.heap.size, 2, none⟩ = some (.slice sa O.length sc) := hB.out.cell (i := 2) (by omega)
      have r0 : wr.cell? ⟨w.heap.size, 0, none⟩ = some (.int .i64 0) := hB.res.cell (i := 0) (by omega)
      have r1 : wr.cell? ⟨w.heap.size, 1, none⟩ = some (.int .i64 0) := hB.res.cell (i := 1) (by omega)
      have r2 : wr.cell? ⟨w.heap.size, 2, none⟩ = some (.slice none 0 0) := hB.res.cell (i := 2) (by omega)
      have z0 := hB.res.frozen 0
      have z1 := hB.res.frozen 1
      have z2 := hB.res.frozen 2
      clear HO
      go_wp2_with fail
      obtain ⟨v0, v1, v2, v3, v4⟩ := hB.finish p d
      exact bodyPost_ret (v := .agg #[.int .i64 p, .int .i64 d, .slice sa O.length sc]) (by simp [results, Try.results73, go_sem, v0, v1, v2]) rfl ⟨_, rfl, by rw [HL.out]; exact v3, v4⟩
end Go.Proofs.Ytbhgbifliihlbaa
namespace Go.Proofs.Ytbhgbifliihlbaa
open Go.RowKit Go.Sort Go.Maps Go.Shelf

attribute [local go_sem] Oper.semAt_some

theorem atL_ne_memY {L : List Tm} {e : Int × Int × Int} (h : atL L e ≠ 0) : ∃ t ∈ L, tmE t = e :=
  Classical.byContradiction fun hn => h (atL_none fun t ht he => hn ⟨t, ht, he⟩)

set_option maxRecDepth 100000 in
set_option maxHeartbeats 8000000 in
theorem ipor (p d n : Int) (v : Value) (xs : List Int) (w : World) (hp2 : 2 ≤ p) (hp13 : p ≤ 13) (hx : (monL d n).length = xs.length) (hxs : ∀ x ∈ xs, 0 ≤ x ∧ x < p) (hS : Sl w v xs) :
    Calls Try.prog 75 #[.int .i64 p, .int .i64 d, .int .i64 n, v] w fun e w' => ∃ v', e = .returned (.agg #[.int .i64 p, .int .i64 d, v']) ∧ OwnP w' w.heap.size v' (rT (monL d n) xs) ∧ Below w.heap.size w w' := by
  have hmm := @run_makeMap Try.prog
  obtain ⟨xa, xc, rfl, hxc⟩ := hS
  obtain ⟨W0, hW0, hb0, ⟨h01, h02⟩, rowb, rr⟩ : ∃ W0, W0 = (w.alloc (.cells #[.slice xa xs.length xc] 37)).alloc (.cells #[.int .i64 0, .int .i64 0, .slice none 0 0] 40) ∧ Below w.heap.size w W0 ∧ (W0.heap.size ≤ w.heap.size + 2 ∧ w.heap.size + 2 ≤ W0.heap.size) ∧
      W0.rowIs w.heap.size 37 1 (fun _ => .slice xa xs.length xc) ∧ W0.rowIs (w.heap.size + 1) 40 3 (polyF 0 0 (.slice none 0 0)) := by
    obtain ⟨U, hU0, hbU, hUs, hrU⟩ : ∃ U, U = w.alloc (.cells #[.slice xa xs.length xc] 37) ∧ Below w.heap.size w U ∧ U.heap.size = w.heap.size + 1 ∧ U.rowIs w.heap.size 37 1 (fun _ => .slice xa xs.length xc) := ⟨_, rfl, box1 _ _, by simp, World.rowIs_alloc w #[_] _ _ (fun i hi => by simp at hi; subst hi; rfl)⟩
    obtain ⟨V, hV1, hbV, ⟨s1, s2⟩, rV⟩ := newbox U 0 0 (.slice none 0 0)
    rw [hUs] at rV s1 s2
    exact ⟨V, by rw [hV1, hU0], hbU.trans (hbV.mono hbU.size), ⟨by omega, by omega⟩, rowIs_below hrU hbV hrU.lt, rV⟩
  obtain ⟨W1, hW1, hb1, hs1, hm1, hbx1⟩ : ∃ W1, W1 = (W0.alloc (.map #[] 0)).alloc (.cells #[.map (some W0.heap.size)] 126) ∧ Below W0.heap.size W0 W1 ∧ W1.heap.size = W0.heap.size + 2 ∧ MapE W1 W0.heap.size 0 (.map []) ∧ W1.rowIs (W0.heap.size + 1) 126 1 (fun _ => .map (some W0.heap.size)) := by
    have h1 := World.ownsMap_made (H := Unit) W0 Try.prog 113 (plainElem Try.prog 2)
    refine ⟨_, rfl, (box1 W0 _).trans ((box1 (W0.alloc (.map #[] 0)) _).mono (by simp)), by simp, h1.alloc _, ?_⟩
    have := World.rowIs_alloc (W0.alloc (.map #[] 0)) #[.map (some W0.heap.size)] 126 (fun _ => .map (some W0.heap.size)) (fun i hi => by simp at hi; subst hi; rfl)
    rwa [World.size_alloc] at this
  have rb1 := rowIs_below rowb hb1 rowb.lt
  have rr1 := rowIs_below rr hb1 rr.lt
  refine (callsIn_wide (n := 9)).1 ?_
  refine callsIn_of_wp_marks Try.func75 rfl trivial ?_ rfl
  simp only [Try.ntmps75, List.size_toArray, List.length_cons, List.length_nil, Nat.reduceAdd, Nat.reduceSub, Array.replicate_succ, Array.replicate_zero, List.push_toArray, List.append_toArray, List.nil_append, List.cons_append]
  gi_wp2
  have hs0 : w.heap.size + 1 + 1 = W0.heap.size := by omega
  rw [hs0, ← hW0, ← hW1]
  refine ⟨trivial, (callsIn_wide.2 (iplaces d n W1)).mono ?_⟩
  rintro e w4 ⟨Bs, sv, rfl, ⟨hBs1, hBs2⟩, hcB, hSE, hb4⟩
  have hl169 := monL_le d n
  have hs4 := hb4.size
  have rb4 := rowIs_below rb1 hb4 rb1.lt
  have rr4 := rowIs_below rr1 hb4 rr1.lt
  have hbx4 := rowIs_below hbx1 hb4 hbx1.lt
  have hM4 : MapE w4 W0.heap.size 0 (.map []) := hm1.kept (row := none) ⟨hb4.os, hb4.tape, hb4.output, hb4.size, fun k hk _ => hb4.block k hk⟩ (by simp)
  have hg04 : Below w.heap.size w w4 := (hb0.trans (hb1.mono hb0.size)).trans (hb4.mono (by omega))
  dsimp only
  gi_wp2
  have hwb : w.heap.size < w4.heap.size := rb4.lt
  have hW01 : W0.heap.size < W1.heap.size := hm1.lt
  have hW04 : W0.heap.size < w4.heap.size := hM4.lt
  refine wpIn_rangeFunc_ownH rfl (by omega) (gf := 138) (lb := #[.pointer (some ⟨Bs, 0, none⟩)]) rfl trivial (enters_of Try.func138 (by kernel_rfl) rfl)
    (gall_stops Fence.wide 8 trivial rfl (by omega) Bs W1.heap.size w4.heap.size sv (monL d n) (by omega) w4 hBs2 (Nat.le_refl _) hcB hSE) (fun h k => KpI.trans h k) (fun W l o o' hl h h1 h2 => KpI.putObj (Nat.le_refl _) W l o o' hl h h1 h2) (Below.refl _ _) (fun _ => rfl)
    (fun (pre : List (Fin (monL d n).length)) W => (∃ D, MapE W W0.heap.size pre.length D ∧ Hid (∀ e, byte3 e → cf D e = gF (monL d n) xs pre e)) ∧ w4.grownBy W (some W0.heap.size))
    (fun _ _ _ => False)
    (fun pre X Y row hs hg hq => ⟨by
      obtain ⟨⟨D, h1, h2⟩, _⟩ := hs
      exact ⟨D, h1.kept hg (fun e => by have := (hq W0.heap.size e.symm).1; omega), h2⟩, ygrown hs.2 hg (fun r e => (hq r e).1)⟩)
    (fun _ _ _ _ _ hs _ _ => hs)
    ⟨⟨_, hM4, Lib.hid (fun e _ => by rw [gF_nil]; exact cf_empty e)⟩, ⟨rfl, rfl, rfl, Nat.le_refl _, fun _ _ _ => rfl⟩⟩
    (fun x a' W => ∃ Bx, w4.heap.size ≤ Bx ∧ W.rowIs Bx 113 3 (expsF ((monL d n)[x.1]'x.2).1 ((monL d n)[x.1]'x.2).2.1 ((monL d n)[x.1]'x.2).2.2) ∧ a' = { tmps := #[.int .i64 p, .int .i64 d, .int .i64 n, .slice xa xs.length xc, undef, undef, undef, .pointer (some ⟨w.heap.size, 0, none⟩), .pointer (some ⟨w.heap.size + 1, 0, none⟩), .pointer (some ⟨W0.heap.size + 1, 0, none⟩), .int .i64 (x.1 : Int), .pointer (some ⟨Bx, 0, none⟩), .map (some W0.heap.size), .int .i64 d, .int .i64 n, allF Bs, .int .i64 (x.1 : Int), .agg #[.int .u8 ((monL d n)[x.1]'x.2).1, .int .u8 ((monL d n)[x.1]'x.2).2.1, .int .u8 ((monL d n)[x.1]'x.2).2.2], undef, undef, undef, undef, undef, undef, undef, undef, undef, undef], defers := [] })
    (fun x a' _ X Y row hs hg hq => by obtain ⟨Bx, h1, h2, h3⟩ := hs; exact ⟨Bx, h1, h2.of_block (hg.block Bx h2.lt (fun e => by obtain ⟨o, ho, hc⟩ := (hq Bx e.symm).2; obtain ⟨c, hb, _⟩ := h2; rw [hb] at ho; cases ho; cases hc)), h3⟩)
    ?assign ?body ?done ?stop
  case assign =>
    rintro l pre x W K ⟨⟨D, hMW, hcf⟩, hgW⟩ hK
    have hz : ∀ a b : Value, (#[16, 17] : Array Tmp).zip #[a, b] = #[(16, a), (17, b)] := fun a b => by simp
    rw [hz]
    change Code.wpIn _ _ _ _ _ { tmps := #[.int .i64 p, .int .i64 d, .int .i64 n, .slice xa xs.length xc, undef, undef, undef, .pointer (some ⟨w.heap.size, 0, none⟩), .pointer (some ⟨w.heap.size + 1, 0, none⟩), .pointer (some ⟨W0.heap.size + 1, 0, none⟩), undef, undef, .map (some W0.heap.size), .int .i64 d, .int .i64 n, allF Bs, .int .i64 (x.1 : Int), .agg #[.int .u8 ((monL d n)[x.1]'x.2).1, .int .u8 ((monL d n)[x.1]'x.2).2.1, .int .u8 ((monL d n)[x.1]'x.2).2.2], undef, undef, undef, undef, undef, undef, undef, undef, undef, undef], defers := [] } W
    gi_wp2
    exact hK _ _ ((KeepsOthers.alloc _ _).from _) (KpI.of_below ((Below.refl w4.heap.size W).alloc hgW.size _)) ⟨⟨D, hMW.alloc _, hcf⟩, ygrown hgW (World.grownBy_alloc W _ none) (fun r e => by cases e)⟩ ⟨W.heap.size, hgW.size, World.rowIs_alloc W #[_, _, _] 113 _ (fun i hi => by simp at hi; match i, hi with | 0, _ => rfl | 1, _ => rfl | 2, _ => rfl), rfl⟩
  case body =>
    rintro l pre ⟨k, hk⟩ a' W hl1 ⟨r, hrec⟩ ⟨⟨D, hMW, hcf⟩, hgW⟩ ⟨Bx, hBx, bX, rfl⟩ hlt
    have rbW := yrow rb4 hgW (by omega)
    have hbxW := yrow hbx4 hgW (by omega)
    have hkx : k < xs.length := by omega
    obtain ⟨bb, off, rfl, hbb, hC⟩ : ∃ b off, xa = some ⟨b, off, none⟩ ∧ b < w.heap.size ∧ Cs w b off xs := by
      rcases hxc with rfl | h
      · simp at hkx
      · exact h
    have d0 : W.cell? ⟨bb, off + k, none⟩ = some (.int .i64 xs[k]) := (World.cell?_of_block (a := ⟨bb, off + k, none⟩) (hgW.block bb (by omega) (fun e => by cases e; omega))).trans ((hg04.cell (p := ⟨bb, off + k, none⟩) hbb).trans (hC k hkx))
    have hMd : MapE W.drew W0.heap.size pre.length D := hMW.kept (row := none) ⟨rfl, rfl, rfl, Nat.le_refl _, fun _ _ _ => rfl⟩ (by simp)
    have hby := monL_byte d n _ (List.getElem_mem hk)
    have hxk := hxs _ (List.getElem_mem hkx)
    have hgd : xs.getD k 0 = xs[k] := by simp [List.getD, hkx]
    obtain ⟨ex, hex⟩ : ∃ e, (monL d n)[k].1 = e := ⟨_, rfl⟩
    obtain ⟨ey, hey⟩ : ∃ e, (monL d n)[k].2.1 = e := ⟨_, rfl⟩
    obtain ⟨ez, hez⟩ : ∃ e, (monL d n)[k].2.2 = e := ⟨_, rfl⟩
    have hexe : (monL d n)[k] = (ex, ey, ez) := by rw [← hex, ← hey, ← hez]
    rw [hexe] at hby
    simp only [hex, hey, hez] at bX ⊢
    have hkey : keyOf Try.prog 113 (.agg #[.int .u8 ex, .int .u8 ey, .int .u8 ez]) = some (kE (ex, ey, ez)) := keyOf_vE (ex, ey, ez) hby
    obtain ⟨X, hX⟩ : ∃ X, xs[k] = X := ⟨_, rfl⟩
    rw [hX] at d0 hxk hgd
    have HCF : Hid (∀ e, byte3 e → cf (D.put (kE (ex, ey, ez)) (.lit (.int .i64 X))) e = gF (monL d n) xs (pre ++ [(⟨k, hk⟩ : Fin (monL d n).length)]) e) := Lib.hid (fun e he => by
      rw [cf_put hMW.isMap hby he, gF_snoc]
      show _ = if e = (monL d n)[k] then xs.getD k 0 else _
      rw [hgd, hexe, hcf.out e he])
    have k0 := rbW.cell (i := 0) (by omega)
    have k1 := hbxW.cell (i := 0) (by omega)
    have e0 : W.cell? ⟨Bx, 0, none⟩ = some (.int .u8 ex) := bX.cell (i := 0) (by omega)
    have e1 : W.cell? ⟨Bx, 1, none⟩ = some (.int .u8 ey) := bX.cell (i := 1) (by omega)
    have e2 : W.cell? ⟨Bx, 2, none⟩ = some (.int .u8 ez) := bX.cell (i := 2) (by omega)
    have hk2 : (k : Int) < (xs.length : Int) := by omega
    have hk3 : k ≤ 168 := by omega
    have hpl : pre.length < 169 := by omega
    have hwf := wf64 hxk.1 (by omega)
    clear hby hexe hex hey hez hSE hgd hs0 hs1 hmm hW0 hW1 hrec hm1 hM4 hcB hcf hxs hx hC hxc hX
    gi_wp2
    refine region_tailIn 6 (fun _ => trivial) (fun h => (by cases h)) (fun f args w R h => CallsIn.inRound l (callsIn_wide.2 h)) (by kernel_rfl) (by kernel_rfl) (by kernel_rfl) ?_
    simp only [List.take_succ_cons, List.take_zero, List.drop_succ_cons, List.drop_zero]
    repeat still_step
    refine wpStill_nil ?_
    gi_wp2_with (gi_at_mapUpdate; refine wpListIn_mapUpdate_own _ rfl _ _ _ 126 rfl 113 2 lawK Try.underlying126 (plainElem Try.prog 2) W0.heap.size pre.length D rfl hMd (by unfold maxLen; omega) (.agg #[.int .u8 ex, .int .u8 ey, .int .u8 ez]) _ _ rfl rfl hkey _ [] (plainElem_int Try.underlying2 hwf) ?_; intro w2 hown2 hgrow2)
    have hg2 : W.grownBy w2 (some W0.heap.size) := ⟨hgrow2.os, hgrow2.tape, hgrow2.output, hgrow2.size, hgrow2.block⟩
    refine ⟨KeepsFrom.of_grownBy hg2 (fun j e => by cases e; omega), KpI.of_grown hg2 (by have := hgW.size; omega) (fun g e => by cases e; omega), ⟨_, by simpa using hown2, HCF⟩, ?_⟩
    exact ⟨hg2.os.trans hgW.os, hg2.tape.trans hgW.tape, hg2.output.trans hgW.output, Nat.le_trans hgW.size hg2.size, fun b hb hne => (hg2.block b (Nat.lt_of_lt_of_le hb hgW.size) hne).trans (hgW.block b hb hne)⟩
  case done =>
    rintro D ys W hD rfl ⟨⟨Dm, hMW, hcf⟩, hgW⟩ hK
    have hDlt : D < W.heap.size := (Array.getElem?_eq_some_iff.1 hK).1
    have hbxW := yrow hbx4 hgW (by omega)
    have rrW := yrow rr4 hgW (by omega)
    have k1 := hbxW.cell (i := 0) (by omega)
    have hgT : Below w.heap.size w W := ⟨hgW.os.trans hg04.os, hgW.tape.trans hg04.tape, hgW.output.trans hg04.output, Nat.le_trans hg04.size hgW.size, fun b hb => (hgW.block b (Nat.lt_of_lt_of_le hb hg04.size) (fun e => by cases e; omega)).trans (hg04.block b hb)⟩
    have hISP := rT_is (p := p) (d := d) (n := n) hxs
    have hcf2 : ∀ e, byte3 e → cf Dm e = atL (rT (monL d n) xs) e := fun e he => by rw [hcf.out e he, gF_all hx]
    have HU : Hid (∀ S, Good Dm S → S = rT (monL d n) xs) := Lib.hid (fun S hg => hg.unique hISP.1 (fun t ht => ⟨(hISP.2.1 t ht).1.1, by have := (hISP.2.1 t ht).2.1; omega⟩) (fun e he => (hcf2 e he).symm))
    have HPO := Lib.hid (polyOf_any sort_says p d W0.heap.size _ Dm W hMW (by simp; omega) (fun e he hc => by
      rw [hcf2 e he] at hc
      obtain ⟨t, ht, rfl⟩ := atL_ne_memY hc
      exact (hISP.2.1 t ht).1.2))
    clear hISP hcf2 hcf hxs hs0 hs1 hmm hW0 hW1 hm1 hM4 hcB hSE hx hxc
    gi_wp2
    refine ⟨trivial, (callsIn_wide.2 HPO.out).mono ?_⟩
    rintro e w5 ⟨v5, S, rfl, ho5, hgood, hb5⟩
    obtain rfl := HU.out S hgood
    obtain ⟨sa, sc, rfl⟩ := owns_slice ho5
    have rr5 := rowIs_below rrW hb5 rrW.lt
    have hK5 : w5.heap[D]? = some (.deferred (some [])) := (hb5.block D hDlt).trans hK
    obtain ⟨⟨r0, r1, r2⟩, z0, z1, z2⟩ := poly3 rr5
    obtain ⟨a0, a1, a2, a3, a4⟩ := fill_box rr5 ho5 hgT.size (hgT.trans (hb5.mono hgT.size)) (by omega) p d
    obtain ⟨S, hSS⟩ : ∃ S, rT (monL d n) xs = S := ⟨_, rfl⟩
    rw [hSS] at a0 a1 a2 a3 a4 ⊢
    dsimp only
    clear hgood HPO HU ho5
    gi_wp2
    have hDw : D ≠ w.heap.size + 1 := by omega
    have hKF := ((Deep.blk_setCell_other ((w5.setCell ⟨w.heap.size + 1, 0, none⟩ (.int .i64 p)).setCell ⟨w.heap.size + 1, 1, none⟩ (.int .i64 d)) ⟨w.heap.size + 1, 2, none⟩ (.slice sa S.length sc) D hDw).trans ((Deep.blk_setCell_other (w5.setCell ⟨w.heap.size + 1, 0, none⟩ (.int .i64 p)) ⟨w.heap.size + 1, 1, none⟩ (.int .i64 d) D hDw).trans (Deep.blk_setCell_other w5 ⟨w.heap.size + 1, 0, none⟩ (.int .i64 p) D hDw))).trans hK5
    obtain ⟨F, hF⟩ : ∃ F, ((w5.setCell ⟨w.heap.size + 1, 0, none⟩ (.int .i64 p)).setCell ⟨w.heap.size + 1, 1, none⟩ (.int .i64 d)).setCell ⟨w.heap.size + 1, 2, none⟩ (.slice sa S.length sc) = F := ⟨_, rfl⟩
    rw [hF] at a0 a1 a2 a3 a4 hKF ⊢
    have hne : ∀ o, (⟨w.heap.size + 1, o, none⟩ : Addr).block ≠ D := fun o => by show w.heap.size + 1 ≠ D; omega
    have b0 := (World.cell?_of_block (w := F) (w' := F.putObj D (.deferred none)) (a := ⟨w.heap.size + 1, 0, none⟩) (World.putObj_heap_other (hne 0))).trans a0
    have b1 := (World.cell?_of_block (w := F) (w' := F.putObj D (.deferred none)) (a := ⟨w.heap.size + 1, 1, none⟩) (World.putObj_heap_other (hne 1))).trans a1
    have b2 := (World.cell?_of_block (w := F) (w' := F.putObj D (.deferred none)) (a := ⟨w.heap.size + 1, 2, none⟩) (World.putObj_heap_other (hne 2))).trans a2
    have hO : OwnP (F.putObj D (.deferred none)) w.heap.size (.slice sa S.length sc) S := ownsRow_putObj a3 _ hKF rfl
    have hend := a4.trans (belowK_b (w := w) (Nat.le_refl _) F D _ (.deferred none) (by omega) hKF rfl rfl)
    refine ⟨by simp, .inl ⟨_, _, rfl, run_takeDeferred hKF, ?_⟩⟩
    refine ⟨.agg #[.int .i64 p, .int .i64 d, .slice sa S.length sc], by simp [results, Try.results75, go_sem, b0, b1, b2], _, rfl, ?_, hend⟩
    rw [hSS]
    exact hO
  case stop =>
    rintro D c pre W _ _ h _
    exact h.elim
end Go.Proofs.Ytbhgbifliihlbaa
namespace Go.Proofs.Ytbhgbifliihlbaa
open Go.RowKit Go.Sort EchM

/-- In 0..p - 1. -/
def nnumB (p x : Int) : Bool := decide (0 ≤ x) && decide (x < p)
def nptB (p d : Int) (l : List Int) : Bool := decide ((l.length : Int) = d) && l.all (nnumB p)

theorem nisNumber_any (p x : Int) (w : World) : Calls Try.prog 86 #[.int .i64 p, .int .i64 x] w fun e w' => e = .returned (.bool (nnumB p x)) ∧ w = w' := by
  by_cases h : 0 ≤ x
  all_goals
    go_enter Try.func86, Try.ntmps86
    go_wp2
    go_ret
    exact ⟨by simp [nnumB]; omega, rfl⟩

theorem nout_any (g : Nat) (p x : Int) (w : World) (hg : w.cell? ⟨g, 0, none⟩ = some (.int .i64 p)) : Calls Try.prog 85 #[.int .i64 x, .pointer (some ⟨g, 0, none⟩)] w fun e w' => e = .returned (.bool (!nnumB p x)) ∧ w = w' := by
  go_enter Try.func85, Try.ntmps85
  go_wp2_with fail
  ((with_reducible refine (nisNumber_any p x w).mono ?_); rintro e w1 ⟨rfl, rfl⟩)
  go_wp2
  go_ret
  exact ⟨rfl, rfl⟩

/-- The value of the closure that asks for a number that is none modulo p. -/
abbrev noutF (g : Nat) : Value := .func (.func 85) #[] #[.pointer (some ⟨g, 0, none⟩)]

set_option maxHeartbeats 1000000 in
theorem noidx_some (g : Nat) (p : Int) (b off cap : Nat) (l : List Int) (w : World) (hg : w.cell? ⟨g, 0, none⟩ = some (.int .i64 p)) (hl : l.length ≤ 1048576) (hT : Cs w b off l) (j : Nat) (hj : j < l.length) (hn : nnumB p l[j] = false) (hp : ∀ (i : Nat) (h : i < l.length), i < j → nnumB p l[i] = true) :
    Calls Try.prog 120 #[.slice (some ⟨b, off, none⟩) l.length cap, noutF g] w fun e w' => e = .returned (.int .i64 j) ∧ w = w' := by
  have HN := Lib.hid hn
  have HP := Lib.hid hp
  clear hn hp
  go_enter Try.func120, Try.ntmps120
  go_wp2
  go_loop [8] (fun i => ∃ k : Nat, k ≤ j ∧ i = .int .i64 k) (fun i => l.length - (intOf i).toNat)
  case atStart => exact ⟨0, by omega, rfl⟩
  case round =>
    obtain ⟨k, hk, rfl⟩ := hrel
    have hlt : k < l.length := by omega
    have hlt' : (k : Int) < (l.length : Int) := by omega
    have c0 := hT k hlt
    by_cases e : k = j
    · subst e
      go_wp2_with fail
      ((with_reducible refine (nout_any g p _ w hg).mono ?_); rintro e w1 ⟨rfl, rfl⟩)
      rw [HN.out]
      go_wp2
      go_ret
      exact ⟨rfl, rfl⟩
    · have h0 := Lib.hid (HP.out k hlt (by omega))
      go_wp2_with fail
      ((with_reducible refine (nout_any g p _ w hg).mono ?_); rintro e w1 ⟨rfl, rfl⟩)
      rw [h0.out]
      go_wp2
      go_round
      case rel => exact ⟨k + 1, by omega, by go_num⟩
      case measure => simp [intOf]; omega

set_option maxHeartbeats 1000000 in
theorem noidx_none (g : Nat) (p : Int) (b off cap : Nat) (l : List Int) (w : World) (hg : w.cell? ⟨g, 0, none⟩ = some (.int .i64 p)) (hl : l.length ≤ 1048576) (hT : Cs w b off l) (hp : ∀ (i : Nat) (h : i < l.length), nnumB p l[i] = true) :
    Calls Try.prog 120 #[.slice (some ⟨b, off, none⟩) l.length cap, noutF g] w fun e w' => e = .returned (.int .i64 (-1)) ∧ w = w' := by
  have HP := Lib.hid hp
  clear hp
  go_enter Try.func120, Try.ntmps120
  go_wp2
  go_loop [8] (fun i => ∃ k : Nat, k ≤ l.length ∧ i = .int .i64 k) (fun i => l.length - (intOf i).toNat)
  case atStart => exact ⟨0, by omega, rfl⟩
  case round =>
    obtain ⟨k, hk, rfl⟩ := hrel
    by_cases hlt : k < l.length
    · have hlt' : (k : Int) < (l.length : Int) := by omega
      have c0 := hT k hlt
      have h0 := Lib.hid (HP.out k hlt)
      go_wp2_with fail
      ((with_reducible refine (nout_any g p _ w hg).mono ?_); rintro e w1 ⟨rfl, rfl⟩)
      rw [h0.out]
      go_wp2
      go_round
      case rel => exact ⟨k + 1, by omega, by go_num⟩
      case measure => simp [intOf]; omega
    · obtain rfl : k = l.length := by omega
      go_wp2
      go_ret
      exact ⟨rfl, rfl⟩

theorem nfirst_out (p : Int) : ∀ (l : List Int), l.all (nnumB p) = false → ∃ (j : Nat) (h : j < l.length), nnumB p l[j] = false ∧ ∀ (i : Nat) (hi : i < l.length), i < j → nnumB p l[i] = true
  | [], h => by simp at h
  | a :: r, h => by
    cases ha : nnumB p a
    · exact ⟨0, by simp, by simpa using ha, fun i _ hij => by omega⟩
    · have hr : r.all (nnumB p) = false := by
        simp only [List.all_cons, ha, Bool.true_and] at h
        exact h
      obtain ⟨j, hj, hn, hp⟩ := nfirst_out p r hr
      refine ⟨j + 1, by simp; omega, by simpa using hn, fun i hi hij => ?_⟩
      cases i with
      | zero => simpa using ha
      | succ i => simpa using hp i (by simpa using hi) (by omega)

theorem nocontains_is (g : Nat) (p : Int) (b off cap : Nat) (l : List Int) (w : World) (hg : w.cell? ⟨g, 0, none⟩ = some (.int .i64 p)) (hl : l.length ≤ 1048576) (hT : Cs w b off l) :
    Calls Try.prog 87 #[.slice (some ⟨b, off, none⟩) l.length cap, noutF g] w fun e w' => e = .returned (.bool (!l.all (nnumB p))) ∧ w = w' := by
  cases h : l.all (nnumB p)
  · obtain ⟨j, hj, hn, hp⟩ := nfirst_out p l h
    clear h
    go_enter Try.func87, Try.ntmps87
    go_wp2_with fail
    ((with_reducible refine (noidx_some g p b off cap l w hg hl hT j hj hn hp).mono ?_); rintro e w1 ⟨rfl, rfl⟩)
    go_wp2
    go_ret
    exact ⟨rfl, rfl⟩
  · have hp : ∀ (i : Nat) (hi : i < l.length), nnumB p l[i] = true := fun i hi => List.all_eq_true.1 h _ (List.getElem_mem hi)
    clear h
    have HP := Lib.hid hp
    clear hp
    go_enter Try.func87, Try.ntmps87
    go_wp2_with fail
    ((with_reducible refine (noidx_none g p b off cap l w hg hl hT HP.out).mono ?_); rintro e w1 ⟨rfl, rfl⟩)
    go_wp2
    go_ret
    exact ⟨rfl, rfl⟩

theorem nareNumbers_any (p d : Int) (v : Value) (l : List Int) (w : World) (hd : 1 ≤ d) (hl : l.length ≤ 1048576) (hS : Sl w v l) :
    Calls Try.prog 45 #[.int .i64 p, .int .i64 d, v] w fun e w' => e = .returned (.bool (nptB p d l)) ∧ Below w.heap.size w w' := by
  have hmf : ∀ (fn : Fn) (first cap : Array Value) (w : World), (Instr.makeFunc fn first cap).run Try.prog w = .ok (.func fn first cap) w := fun _ _ _ _ => rfl
  obtain ⟨a, cap, rfl, h⟩ := hS
  by_cases he : (l.length : Int) = d
  · have he1 : ((l.length : Int) == d) = true := by simp [he]
    rcases h with rfl | ⟨b, off, rfl, hlt, hT⟩
    · simp at he; omega
    · have HD : Hid (nptB p d l = l.all (nnumB p)) := Lib.hid (by simp [nptB, he])
      have hT1 : ∀ o, Cs (w.alloc o) b off l := fun o => hT.below (ebox1 _ _) hlt
      clear he
      go_enter Try.func45, Try.ntmps45
      go_wp2_with fail
      ((with_reducible refine (nocontains_is w.heap.size p b off cap l _ (by go_simp) hl (hT1 _)).mono ?_); rintro e w1 ⟨rfl, rfl⟩)
      go_wp2
      go_ret
      exact ⟨by rw [HD.out]; simp, ebox1 _ _⟩
  · have he1 : ((l.length : Int) == d) = false := by simp [he]
    have HD : Hid (nptB p d l = false) := Lib.hid (by simp [nptB, he])
    clear he h
    go_enter Try.func45, Try.ntmps45
    go_wp2
    go_ret
    exact ⟨by rw [HD.out]; rfl, ebox1 _ _⟩



theorem ninNum (x p : Int) (w : World) (B : Bool) (h : nnumB p x = B) : Calls Try.prog 41 #[.int .i64 x, .int .i64 0, .int .i64 (p - 1)] w fun e w' => e = .returned (.bool B) ∧ w = w' :=
  (rin_is x 0 (p - 1) w B (by rw [← h]; unfold nnumB; congr 1; simp; omega)).mono fun _ _ ⟨h1, h2⟩ => ⟨h1, h2.symm⟩
theorem nall_upto (p : Int) (l : List Int) (h : ∀ (j : Nat) (hj : j < l.length), j < l.length → nnumB p l[j] = true) : l.all (nnumB p) = true := by
  rw [List.all_eq_true]
  intro x hx
  obtain ⟨i, hi, rfl⟩ := List.mem_iff_getElem.1 hx
  exact h i hi hi

set_option maxHeartbeats 1000000 in
theorem npoint_some (p d : Int) (b off cap : Nat) (l : List Int) (w : World) (h2 : 2 ≤ p) (h13 : p ≤ 13) (hl : l.length ≤ 1048576) (hT : Cs w b off l) :
    Calls Try.prog 42 #[.int .i64 p, .int .i64 d, .slice (some ⟨b, off, none⟩) l.length cap] w fun e w' => e = .returned (.bool (nptB p d l)) ∧ w = w' := by
  go_enter Try.func42, Try.ntmps42
  go_wp2
  go_loop [7] (fun i => ∃ k : Nat, k ≤ l.length ∧ i = .int .i64 k ∧ Hid (∀ (j : Nat) (hj : j < l.length), j < k → nnumB p l[j] = true)) (fun i => l.length - (intOf i).toNat)
  case atStart => exact ⟨0, by omega, rfl, Lib.hid (fun j _ h => by omega)⟩
  case round =>
    obtain ⟨k, hk, rfl, HU⟩ := hrel
    by_cases hlt : k < l.length
    · have hlt' : (k : Int) < (l.length : Int) := by omega
      have c0 := hT k hlt
      cases hB : nnumB p l[k]
      · have HX : Hid (nptB p d l = false) := Lib.hid (by
          unfold nptB
          have : l.all (nnumB p) = false := by
            rw [List.all_eq_false]
            exact ⟨_, List.getElem_mem hlt, by simp [hB]⟩
          rw [this]; simp)
        have HB := Lib.hid hB
        clear hB
        go_wp2_with fail
        ((with_reducible refine (ninNum _ _ _ false HB.out).mono ?_); rintro e w1 ⟨rfl, rfl⟩)
        go_wp2
        go_ret
        exact ⟨by rw [HX.out]; rfl, rfl⟩
      · have HN : Hid (∀ (j : Nat) (hj : j < l.length), j < k + 1 → nnumB p l[j] = true) := Lib.hid (fun j hj hjk => by
          by_cases e : j = k
          · subst e; exact hB
          · exact HU.out j hj (by omega))
        have HB := Lib.hid hB
        clear hB
        go_wp2_with fail
        ((with_reducible refine (ninNum _ _ _ true HB.out).mono ?_); rintro e w1 ⟨rfl, rfl⟩)
        go_wp2
        go_round
        case rel => exact ⟨k + 1, by omega, by go_num, HN⟩
        case measure => simp [intOf]; omega
    · obtain rfl : k = l.length := by omega
      have HX : Hid (nptB p d l = ((l.length : Int) == d)) := Lib.hid (by
        unfold nptB
        rw [nall_upto p l HU.out, Bool.and_true, Bool.eq_iff_iff]; simp)
      go_wp2
      go_ret
      exact ⟨by rw [HX.out]; rfl, rfl⟩

theorem npoint_nil (p d : Int) (a : Option Addr) (cap : Nat) (w : World) (hd : 1 ≤ d) :
    Calls Try.prog 42 #[.int .i64 p, .int .i64 d, .slice a 0 cap] w fun e w' => e = .returned (.bool (nptB p d [])) ∧ w = w' := by
  have HX : Hid (nptB p d [] = false) := Lib.hid (by simp [nptB]; omega)
  have h0 : ((0 : Int) == d) = false := by simp; omega
  go_enter Try.func42, Try.ntmps42
  go_wp2
  refine wp_loop_rounds 1 ?_
  rw [rounds_succ]
  go_wp2
  go_ret
  exact ⟨by rw [HX.out]; rfl, rfl⟩
theorem npoint_any (p d : Int) (v : Value) (l : List Int) (w : World) (h2 : 2 ≤ p) (h13 : p ≤ 13) (hd : 1 ≤ d) (hl : l.length ≤ 1048576) (hS : Sl w v l) :
    Calls Try.prog 42 #[.int .i64 p, .int .i64 d, v] w fun e w' => e = .returned (.bool (nptB p d l)) ∧ w = w' := by
  obtain ⟨a, cap, rfl, rfl | ⟨b, off, rfl, hlt, hT⟩⟩ := hS
  · exact npoint_nil p d a cap w hd
  · exact npoint_some p d b off cap l w h2 h13 hl hT


end Go.Proofs.Ytbhgbifliihlbaa
