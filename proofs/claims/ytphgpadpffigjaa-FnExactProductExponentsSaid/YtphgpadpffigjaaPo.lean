/-
  WALKS: 'impl.polyOf'. Conditions: as each theorem states.
-/
import Derived.Test.YtphgpadpffigjaaCf
import Derived.Test.YtphgpadpffigjaaCmp
namespace Go.Proofs.Ytphgpadpffigjaa
open Go.RowKit Go.Sort Go.Maps

/-- What the sort does to a list of terms that the call owns (proved apart). -/
def SortSays : Prop := ∀ (v : Value) (O : List Tm) (base : Nat) (w : World), w.ownsRow base 92 4 v O.length (cells4 O) → (∀ t ∈ O, byte3 (tmE t)) → (∀ t ∈ O, t.1 + t.2.1 + t.2.2.1 ≤ 12) → (O.Pairwise fun a b => tmE a ≠ tmE b) → O.length < 4611686018427387904 →
    Calls Try.prog 124 #[v, .func (.func 125) #[] #[]] w fun e w' => e = .returned (.tuple #[]) ∧ ∃ S, S.Perm O ∧ Asc S ∧ w'.ownsRow base 92 4 v S.length (cells4 S) ∧ w.grownBy w' v.ownBlock

/-- What stands in memory while a polynomial is gathered: its own three cells (block q), the rows of its terms, the result's cells (block r). -/
structure Gath (w wr : World) (base q r : Nat) (p d : Int) (sv : Value) (O : List Tm) : Prop where
  rows : wr.ownsRow base 92 4 sv O.length (cells4 O)
  out : wr.rowIs q 36 3 (polyF p d sv)
  res : wr.rowIs r 36 3 (polyF 0 0 (.slice none 0 0))
  below : Below w.heap.size w wr
  b1 : w.heap.size ≤ base
  b2 : base ≤ wr.heap.size
  b3 : w.heap.size ≤ q ∧ q < base
  b4 : w.heap.size ≤ r ∧ r < base
  qr : r ≠ q
theorem Gath.later {w wr w1 : World} {base q r : Nat} {p d : Int} {sv : Value} {O : List Tm} (h : Gath w wr base q r p d sv O) (hb : Below wr.heap.size wr w1) : Gath w w1 base q r p d sv O :=
  ⟨owns_belowT h.rows hb, rowIs_below h.out hb h.out.lt, rowIs_below h.res hb h.res.lt, h.below.trans (hb.mono h.below.size), h.b1, Nat.le_trans h.b2 hb.size, h.b3, h.b4, h.qr⟩
/-- Another block of the call's own is turned (a map's iterator). -/
theorem Gath.turned {w wr w1 : World} {base q r i : Nat} {p d : Int} {sv : Value} {O : List Tm} (h : Gath w wr base q r p d sv O) (hg : wr.grownBy w1 (some i)) (hi : w.heap.size ≤ i ∧ i < base) (hq : i ≠ q) (hr : i ≠ r) : Gath w w1 base q r p d sv O := by
  refine ⟨h.rows.kept hg ?_, h.out.of_block (hg.block q h.out.lt (by simpa using fun e => hq e.symm)), h.res.of_block (hg.block r h.res.lt (by simpa using fun e => hr e.symm)), ?_, h.b1, Nat.le_trans h.b2 hg.size, h.b3, h.b4, h.qr⟩
  · have := h.rows.lt
    cases hs : sv.ownBlock with
    | none => exact .inl rfl
    | some g => exact .inr (by have h2 := (this g hs).1; simp; omega)
  · exact h.below.grown hg h.below.size (fun k hk => by simp at hk; omega)
theorem Gath.more {w wr wx w2 : World} {base q r : Nat} {p d : Int} {sv sv' : Value} {O : List Tm} {t : Tm} (h : Gath w wr base q r p d sv O) (hb : Below wr.heap.size wr wx)
    (hg : wx.grownBy w2 sv.ownBlock) (ho : w2.ownsRow base 92 4 sv' (O.length + 1) (cells4 O ++ cell4 t)) : Gath w (w2.setCell ⟨q, 2, none⟩ sv') base q r p d sv' (O ++ [t]) ∧ w2.rowIs q 36 3 (polyF p d sv) := by
  have h1 := h.later hb
  have hn1 : 36 ≠ 92 := by decide
  have r1 := rowIs_grown h1.out hg h1.rows hn1
  have r4 := rowIs_grown h1.res hg h1.rows hn1
  refine ⟨⟨?_, ?_, r4.setOther (by simpa using fun e => h.qr e) _, ?_, h.b1, ?_, h.b3, h.b4, h.qr⟩, r1⟩
  · rw [cells4_snoc, show (O ++ [t]).length = O.length + 1 by simp]
    exact ho.kept (row := some q) ⟨rfl, rfl, rfl, by rw [World.size_setCell]; exact Nat.le_refl _, fun k hk hne => Below.heap_setCell w2 ⟨q, 2, none⟩ sv' k (fun e => hne (by rw [e]))⟩ (own_ne r1 ho hn1)
  · refine (r1.set 2 sv').congr fun i hi => ?_
    rw [congrFun (polyF_set p d sv sv') i, if_pos hi]
  · have hb1 := h.b1
    have hb3 := h.b3.1
    exact (h1.below.grown hg (Nat.le_trans hb1 h1.b2) (fun k hk => Nat.le_trans hb1 (h1.rows.lt k hk).1)).setCell (by simpa using hb3) _
  · rw [World.size_setCell]; exact Nat.le_trans h1.b2 hg.size
theorem Gath.sorted {w wr w2 : World} {base q r : Nat} {p d : Int} {sv : Value} {O S : List Tm} (h : Gath w wr base q r p d sv O) (hg : wr.grownBy w2 sv.ownBlock) (ho : w2.ownsRow base 92 4 sv S.length (cells4 S)) : Gath w w2 base q r p d sv S := by
  have hn1 : 36 ≠ 92 := by decide
  have hb1 := h.b1
  exact ⟨ho, rowIs_grown h.out hg h.rows hn1, rowIs_grown h.res hg h.rows hn1, h.below.grown hg (Nat.le_trans hb1 h.b2) (fun k hk => Nat.le_trans hb1 (h.rows.lt k hk).1), h.b1, Nat.le_trans h.b2 hg.size, h.b3, h.b4, h.qr⟩
theorem Gath.finish {w wr : World} {base q r : Nat} {p d : Int} {sv : Value} {O : List Tm} (h : Gath w wr base q r p d sv O) (p' d' : Int) :
    (((wr.setCell ⟨r, 0, none⟩ (.int .i64 p')).setCell ⟨r, 1, none⟩ (.int .i64 d')).setCell ⟨r, 2, none⟩ sv).cell? ⟨r, 0, none⟩ = some (.int .i64 p') ∧
    (((wr.setCell ⟨r, 0, none⟩ (.int .i64 p')).setCell ⟨r, 1, none⟩ (.int .i64 d')).setCell ⟨r, 2, none⟩ sv).cell? ⟨r, 1, none⟩ = some (.int .i64 d') ∧
    (((wr.setCell ⟨r, 0, none⟩ (.int .i64 p')).setCell ⟨r, 1, none⟩ (.int .i64 d')).setCell ⟨r, 2, none⟩ sv).cell? ⟨r, 2, none⟩ = some sv ∧
    (((wr.setCell ⟨r, 0, none⟩ (.int .i64 p')).setCell ⟨r, 1, none⟩ (.int .i64 d')).setCell ⟨r, 2, none⟩ sv).ownsRow w.heap.size 92 4 sv O.length (cells4 O) ∧
    Below w.heap.size w (((wr.setCell ⟨r, 0, none⟩ (.int .i64 p')).setCell ⟨r, 1, none⟩ (.int .i64 d')).setCell ⟨r, 2, none⟩ sv) := by
  have R := ((h.res.set 0 (.int .i64 p')).set 1 (.int .i64 d')).set 2 sv
  have hb1 := h.b1
  have hb4 := h.b4.1
  refine ⟨R.cell (i := 0) (by omega), R.cell (i := 1) (by omega), R.cell (i := 2) (by omega), ?_, ((h.below.setCell (by simpa using hb4) _).setCell (by simpa using hb4) _).setCell (by simpa using hb4) _⟩
  refine owns_low (h.rows.kept (row := some r) ⟨rfl, rfl, rfl, by simp only [World.size_setCell]; exact Nat.le_refl _, fun k hk hne => ?_⟩ (own_ne h.res h.rows (by decide))) hb1
  have hk : k ≠ r := fun e => hne (by rw [e])
  exact (Below.heap_setCell _ ⟨r, 2, none⟩ sv k hk).trans ((Below.heap_setCell _ ⟨r, 1, none⟩ _ k hk).trans (Below.heap_setCell _ ⟨r, 0, none⟩ _ k hk))

/-- Three bytes. -/
structure E3 where
  x : Int
  y : Int
  z : Int
  h : byte3 (x, y, z)
theorem invK3 (key : Value) (kl : Lit) (h : keyOf Try.prog 75 key = some kl) : ∃ e : E3, key = .agg #[.int .u8 e.x, .int .u8 e.y, .int .u8 e.z] := by
  obtain ⟨⟨⟨x, y, z⟩, hx⟩, rfl⟩ := invK key kl h
  exact ⟨⟨x, y, z, hx⟩, rfl⟩

/-- The map that is ranged over, and what has been gathered. -/
def Rg (wr : World) (b it n : Nat) (D : DataW Unit) (left : Lit → Bool) (cnt : Nat) (O : List Tm) : Prop :=
  wr.ranges Try.prog 75 (plainElem Try.prog 2) b it n D left cnt ∧ Got D left O ∧ O.length + cnt ≤ n

/-- A step of the loop over the map, in the words of coefficients. -/
theorem next_terms (w : World) {ops : Array Oper} {rest : List Oper} {o : Oper} {a : Act} {Q : Exit → Act → World → Prop}
    (hg : o.guard = none) (it : Operand) (hop : o.op = Op.next it false) (b r n : Nat) (D : DataW Unit) (left : Lit → Bool) (cnt : Nat) (O : List Tm) (adr : Addr) (v0 : Value) (F : World → Prop) (hF : ∀ w', w.grownBy w' (some r) → w'.heap.size = w.heap.size → F w')
    (hit : a.eval it = .pointer (some ⟨r, 0, none⟩)) (h : Rg w b r n D left cnt O) (hq : w.cell? adr = some v0) (hne : adr.block ≠ r)
    (hDone : (∀ kl, left kl = false) → wpList Try.prog ops Q rest (a.put o.dst (.tuple #[.bool false])) w)
    (hMore : ∀ (ex ey ez c : Int) (w' : World), Hid (byte3 (ex, ey, ez) ∧ w'.rangeLeft b r < w.rangeLeft b r ∧ F w' ∧ w'.heap.size = w.heap.size ∧
        (c = 0 → ∃ left' cnt', Rg w' b r n D left' cnt' O) ∧ (c ≠ 0 → (∃ left' cnt', Rg w' b r n D left' cnt' (O ++ [mkT (ex, ey, ez) c]) ∧ O.length + 1 ≤ n))) → w'.cell? adr = some v0 → (∀ o, (w'.alloc o).cell? adr = some v0) →
      (Instr.entry (.pointer (some ⟨r, 0, none⟩))).run Try.prog w' = .ok (.tuple #[.agg #[.int .u8 ex, .int .u8 ey, .int .u8 ez], .int .i64 c]) w' →
      wpList Try.prog ops Q rest (a.put o.dst (.tuple #[.bool true, .agg #[.int .u8 ex, .int .u8 ey, .int .u8 ez], .int .i64 c])) w') :
    wpList Try.prog ops Q (o :: rest) a w := by
  obtain ⟨hrg, hGot, hcnt⟩ := h
  refine wpList_next_ranges w hg it hop 75 lawK (plainElem Try.prog 2) (fun e : E3 => .agg #[.int .u8 e.x, .int .u8 e.y, .int .u8 e.z]) (fun c : Int => .int .i64 c) invK3 (fun v y h => let ⟨a, h1, _⟩ := plainElem_int_inv Try.underlying2 h; ⟨a, h1⟩) b r n D left cnt hit hrg (fun _ hl => hDone hl) ?_
  rintro ⟨ex, ey, ez, hx⟩ c kl y w1 cnt1 hkey hlk hRv hat hrg1 hlt1 hg1 hs1 hen
  have hkl : kl = kE (ex, ey, ez) := by
    have := keyOf_vE (ex, ey, ez) hx
    unfold vE at this
    rw [hkey] at this
    exact Option.some.inj this
  subst hkl
  obtain ⟨c', hc', rfl, _⟩ := plainElem_int_inv Try.underlying2 hRv
  simp only [Value.int.injEq, true_and] at hc'
  subst hc'
  have hcf := cf_of_at (hat (.lit (.int .i64 0)))
  refine hMore ex ey ez c w1 (Lib.hid ⟨hx, by rw [hrg1.left_eq, hrg.left_eq]; exact hlt1, hF _ hg1 hs1, hs1, fun hc => ⟨_, _, hrg1, hGot.skip hx (by rw [hcf]; exact hc), by omega⟩, fun hc => ⟨_, _, ⟨hrg1, ?_, by simp; omega⟩, by omega⟩⟩) ?_ (fun o => ?_) hen
  · have := hGot.take hx hlk (by rw [hcf]; exact hc)
    rwa [hcf] at this
  · exact (World.cell?_of_block (w := w) (a := adr) (hg1.block adr.block (block_lt_of_cell hq) (by simpa using hne))).trans hq
  · have h1 := (World.cell?_of_block (w := w) (a := adr) (hg1.block adr.block (block_lt_of_cell hq) (by simpa using hne))).trans hq
    exact ((box1 w1 o).cell (block_lt_of_cell h1)).trans h1

set_option maxRecDepth 8000 in
set_option maxHeartbeats 4000000 in
theorem polyOf_any (hsort : SortSays) (p d : Int) (b n : Nat) (D : DataW Unit) (w : World) (hown : MapE w b n D) (hn : n ≤ 1099511627776) (h12 : ∀ e, byte3 e → cf D e ≠ 0 → e.1 + e.2.1 + e.2.2 ≤ 12) :
    Calls Try.prog 94 #[.int .i64 p, .int .i64 d, .map (some b)] w fun e w' =>
      ∃ v' S, e = .returned (.agg #[.int .i64 p, .int .i64 d, v']) ∧ w'.ownsRow w.heap.size 92 4 v' S.length (cells4 S) ∧ Good D S ∧ Below w.heap.size w w' := by
  obtain ⟨i0, hi, hz0, hz1, hz2⟩ := info_parts infoTerm
  have hbl := hown.lt
  obtain ⟨W, hW, hbW, ⟨hWs1, hWs2⟩, rr, rq⟩ : ∃ W, W = (w.alloc (.cells #[.int .i64 0, .int .i64 0, .slice none 0 0] 36)).alloc (.cells #[.int .i64 p, .int .i64 d, .slice none 0 0] 36) ∧ Below w.heap.size w W ∧ (W.heap.size ≤ w.heap.size + 2 ∧ w.heap.size + 2 ≤ W.heap.size) ∧
      W.rowIs w.heap.size 36 3 (polyF 0 0 (.slice none 0 0)) ∧
      W.rowIs (w.heap.size + 1) 36 3 (polyF p d (.slice none 0 0)) := by
    refine ⟨_, rfl, box2 _ _ _, ⟨by simp, by simp⟩, ?_, ?_⟩
    · refine World.rowIs.alloc (World.rowIs_alloc w #[Value.int .i64 0, .int .i64 0, .slice none 0 0] _ _ (fun i hi => ?_)) _
      simp at hi; match i, hi with | 0, _ => rfl | 1, _ => rfl | 2, _ => rfl
    · have := World.rowIs_alloc (w.alloc (.cells #[.int .i64 0, .int .i64 0, .slice none 0 0] 36)) #[Value.int .i64 p, .int .i64 d, .slice none 0 0] 36 (polyF p d (.slice none 0 0)) (fun i hi => by simp at hi; match i, hi with | 0, _ => rfl | 1, _ => rfl | 2, _ => rfl)
      simpa using this
  have hownW : MapE W b n D := hown.kept (row := none) ⟨hbW.os, hbW.tape, hbW.output, hbW.size, fun k hk _ => hbW.block k hk⟩ (by simp)
  go_enter Try.func94, Try.ntmps94
  go_wp2_with (first | (at_range; rw [← hW]; refine wpList_range_own _ rfl _ 106 rfl 75 2 lawK Try.underlying106 _ b n D rfl hownW ?_; intro w0 hrg0 hg0 hs0) | fail)
  go_frame
  have hst : Gath w w0 (W.heap.size + 1) (w.heap.size + 1) w.heap.size p d (.slice none 0 0) [] := by
    refine ⟨⟨rfl, .inl ⟨rfl, rfl⟩⟩, rq.of_block (hg0.block _ rq.lt (by simp)), rr.of_block (hg0.block _ rr.lt (by simp)), hbW.grown hg0 hbW.size (fun k hk => by simp at hk), by omega, by omega, ⟨by omega, by omega⟩, ⟨by omega, by omega⟩, by omega⟩
  have hsz := hownW.size_le
  clear hW rr rq hg0 hs0
  go_loopw [9] (fun _ wr => ∃ left cnt sv O, Rg wr b W.heap.size n D left cnt O ∧ Gath w wr (W.heap.size + 1) (w.heap.size + 1) w.heap.size p d sv O) (fun _ wr => wr.rangeLeft b W.heap.size)
  case atStart => exact ⟨_, _, _, [], ⟨hrg0, Got.start D, by simpa using hsz⟩, hst⟩
  case round =>
    clear hrg0 hst
    obtain ⟨left, cnt, sv, O, hRg, hB⟩ := hrel
    obtain ⟨sa, sc, rfl⟩ := owns_slice hB.rows
    have q2 : wr.cell? ⟨w.heap.size + 1, 2, none⟩ = some (.slice sa O.length sc) := hB.out.cell (i := 2) (by omega)
    have hF : ∀ w', wr.grownBy w' (some W.heap.size) → w'.heap.size = wr.heap.size → Gath w w' (W.heap.size + 1) (w.heap.size + 1) w.heap.size p d (.slice sa O.length sc) O := fun w' hg _ => hB.turned hg ⟨by omega, by omega⟩ (by omega) (by omega)
    go_wp2_with (first | (at_next; refine next_terms _ rfl _ rfl b W.heap.size n D left cnt O ⟨w.heap.size + 1, 2, none⟩ (.slice sa O.length sc) _ hF rfl hRg q2 (by simp; omega) (fun hl0 => ?_) (fun ex ey ez c w1 hh q3 q4 hen => ?_)) | (at_builtin; refine wpList_append_own _ rfl _ _ 34 rfl (W.heap.size + 1) 92 i0 _ 4 16 Try.underlying34 hi hz0 hz1 hz2 rfl (by decide) _ _ _ rfl (Gath.later (Gath.later hh.out.2.2.1 (box1 _ _)) (box1 _ _)).rows ⟨w1.heap.size + 1, 0, none⟩ 1 1 (cell4 (mkT (ex, ey, ez) c)) rfl rfl ?d1 ?d2 ?d3 ?d4 ?d5 ?_) | fail)
    · obtain ⟨_, hGot, hcnt⟩ := hRg
      have h12' : ∀ t ∈ O, t.1 + t.2.1 + t.2.2.1 ≤ 12 := fun t ht => by
        obtain ⟨a1, a2, a3, _⟩ := hGot.1 t ht
        exact h12 (tmE t) a1 (by rw [← a2]; exact a3)
      refine (hsort _ O (W.heap.size + 1) wr hB.rows (fun t ht => (hGot.1 t ht).1) h12' hGot.2.1 (by omega)).mono ?_
      rintro e w2 ⟨rfl, S, hp, ha, ho, hg⟩
      have hgood := hGot.good hl0 hp ha
      have hl : S.length = O.length := hp.length_eq
      rw [← hl] at ho hg hB
      have hS := hB.sorted hg (by rw [hl] at ho ⊢; exact ho)
      clear hB q2 hGot hg ho hl
      have j0 := hS.out.cell (i := 0) (by omega)
      have j1 := hS.out.cell (i := 1) (by omega)
      have j2 := hS.out.cell (i := 2) (by omega)
      have r0 := hS.res.cell (i := 0) (by omega)
      have r1 := hS.res.cell (i := 1) (by omega)
      have r2 := hS.res.cell (i := 2) (by omega)
      have z0 := hS.res.frozen 0
      have z1 := hS.res.frozen 1
      have z2 := hS.res.frozen 2
      simp [polyF] at j0 j1 j2 r0 r1 r2
      go_wp2_with fail
      obtain ⟨v0, v1, v2, v3, v4⟩ := hS.finish p d
      exact bodyPost_ret (v := .agg #[.int .i64 p, .int .i64 d, .slice sa S.length sc]) (by simp [results, Try.results94, go_sem, v0, v1, v2]) rfl ⟨_, S, rfl, v3, hgood, v4⟩
    case d1 =>
      intro j u hj
      match j, hj with
      | 0, hj => simp [cell4, mkT] at hj; subst hj; simp [World.cell?_alloc_at, Addr.add]
      | 1, hj => simp [cell4, mkT] at hj; subst hj; simp [World.cell?_alloc_at, Addr.add]
      | 2, hj => simp [cell4, mkT] at hj; subst hj; simp [World.cell?_alloc_at, Addr.add]
      | 3, hj => simp [cell4, mkT] at hj; subst hj; simp [World.cell?_alloc_at, Addr.add]
    case d2 => intro u hu; simp [cell4] at hu; rcases hu with rfl | rfl | rfl | rfl <;> rfl
    case d3 => obtain ⟨_, _, _, _, _, h⟩ := hh.out; obtain ⟨_, _, _, h⟩ := h (by simpa using ‹(c != 0) = true›); unfold maxLen; omega
    case d4 => obtain ⟨_, _, _, _, _, h⟩ := hh.out; obtain ⟨_, _, _, h⟩ := h (by simpa using ‹(c != 0) = true›); omega
    case d5 => have := hB.b2; have := hh.out.2.2.2.1; simp only [World.size_alloc] at *; omega
    · intro sv3 w3 hown3 hgrow3 _
      obtain ⟨hx, hlt, hB1, hs1, _, hmore⟩ := hh.out
      obtain ⟨left', cnt', hR', hOn⟩ := hmore (by simpa using ‹(c != 0) = true›)
      have hBb := hB1.later (box1 w1 (.cells #[.int .u8 ex, .int .u8 ey, .int .u8 ez] 75))
      have hs1' : wr.heap.size ≤ w1.heap.size := by omega
      obtain ⟨sa3, sc3, rfl⟩ := owns_slice hown3
      obtain ⟨hB3, r3⟩ := hBb.more (box1 _ _) hgrow3 (t := mkT (ex, ey, ez) c) (by simpa using hown3)
      have hfz3 := r3.frozen 2
      have hcl3 : w3.cell? ⟨w.heap.size + 1, 2, none⟩ = some (.slice sa O.length sc) := r3.cell (i := 2) (by omega)
      clear hown3 r3 hmore hh hs1 hF hi hz0 hz1 hz2
      have hrow := hB1.rows.lt
      have hR3 : (w3.setCell ⟨w.heap.size + 1, 2, none⟩ (.slice sa3 (O.length + 1) sc3)).ranges Try.prog 75 (plainElem Try.prog 2) b W.heap.size n D left' cnt' := by
        refine World.ranges.kept (((hR'.1.alloc _).alloc _).kept hgrow3 ?_ ?_) (row := some (w.heap.size + 1)) ⟨rfl, rfl, rfl, by rw [World.size_setCell]; exact Nat.le_refl _, fun k hk hne => Below.heap_setCell w3 ⟨w.heap.size + 1, 2, none⟩ _ k (fun e => hne (by rw [e]))⟩ (by simp; omega) (by simp; omega)
        · intro e; have := (hrow _ e.symm).1; omega
        · intro e; have := (hrow _ e.symm).1; omega
      have hfin : (∃ left cnt sv O_1, Rg (w3.setCell ⟨w.heap.size + 1, 2, none⟩ (.slice sa3 (O.length + 1) sc3)) b W.heap.size n D left cnt O_1 ∧ Gath w (w3.setCell ⟨w.heap.size + 1, 2, none⟩ (.slice sa3 (O.length + 1) sc3)) (W.heap.size + 1) (w.heap.size + 1) w.heap.size p d sv O_1) ∧
          (w3.setCell ⟨w.heap.size + 1, 2, none⟩ (.slice sa3 (O.length + 1) sc3)).rangeLeft b W.heap.size < wr.rangeLeft b W.heap.size :=
        ⟨⟨left', cnt', _, _, ⟨hR3, hR'.2⟩, hB3⟩, by rw [hR3.left_eq, ← hR'.1.left_eq]; exact hlt⟩
      have HF := Lib.hid hfin
      clear hfin hR3 hrow hR' hB3 hB1 hBb hB hRg hgrow3 hOn hlt hx
      go_wp2_with fail
      exact HF.out
    · obtain ⟨hx, hlt, hB1, hs1, hzero, _⟩ := hh.out
      obtain ⟨left', cnt', hR'⟩ := hzero (by simpa using ‹(c != 0) = false›)
      refine ⟨⟨left', cnt', _, O, ⟨hR'.1.alloc _, hR'.2⟩, hB1.later (box1 _ _)⟩, ?_⟩
      rw [(hR'.1.alloc _).left_eq, ← hR'.1.left_eq]
      exact hlt
end Go.Proofs.Ytphgpadpffigjaa
