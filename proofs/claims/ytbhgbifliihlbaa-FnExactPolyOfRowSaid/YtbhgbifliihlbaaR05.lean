/-
  WALKS: 'slices.SortFunc' at a list of terms that the call owns. Conditions: as each theorem states.
  WALKS: 'impl.constant'. Conditions: as each theorem states.
  A polynomial in the making, beside boxes. Conditions: as each theorem states.
  POLYNOMIALS as results, and their boxes. Conditions: as each theorem states.
  POLYNOMIALS BY THEIR COEFFICIENTS, in plain mathematics. Conditions: as each theorem states.
  PAIRS of polynomials in boxes; whether they are alike. Conditions: as each theorem states.
-/
import Derived.Test.YtbhgbifliihlbaaR04
import Derived.Test.YtbhgbifliihlbaaLay
import Derived.Test.YtbhgbifliihlbaaR03
import Derived.Deep.RegionLaw
import Derived.Deep.AppendLies
namespace Go.Proofs.Ytbhgbifliihlbaa
open Go.RowKit Go.Sort Go.Shelf Go.Lib

set_option maxHeartbeats 1000000 in
theorem insert_nil (cap : Nat) (a : Option Addr) (f : Value) (w : World) :
    Calls Try.prog 139 #[.slice a 0 cap, .int .i64 0, .int .i64 0, f] w fun e w' => e = .returned (.tuple #[]) ∧ w = w' := by
  go_enter Try.func139, Try.ntmps139
  go_wp2
  refine wp_loop_rounds 1 ?_
  rw [rounds_succ]
  go_wp2
  go_end0
  exact ⟨rfl, rfl⟩
set_option maxHeartbeats 1000000 in
set_option maxRecDepth 100000 in
theorem pdq_nil (cap : Nat) (a : Option Addr) (f : Value) (l : Int) (w : World) :
    Calls Try.prog 134 #[.slice a 0 cap, .int .i64 0, .int .i64 0, .int .i64 l, f] w fun e w' => e = .returned (.tuple #[]) ∧ w = w' := by
  go_enter Try.func134, Try.ntmps134
  go_wp2
  refine wp_loop_rounds 1 ?_
  rw [rounds_succ]
  go_wp2_with fail
  ((with_reducible refine (insert_nil _ _ _ _).mono ?_); rintro e w1 ⟨rfl, rfl⟩)
  go_wp2
  exact bodyPost_ret (v := .tuple #[]) (by simp [results, Try.results134, go_sem]) rfl ⟨rfl, rfl⟩
set_option maxHeartbeats 1000000 in
theorem sort_nil (cap : Nat) (a : Option Addr) (f : Value) (w : World) :
    Calls Try.prog 125 #[.slice a 0 cap, f] w fun e w' => e = .returned (.tuple #[]) ∧ w = w' := by
  have hl : Calls Try.prog 135 #[.int .u64 (0 : Int)] w fun e w' => e = .returned (.int .i64 (Lib.bitLen (0 : Int).toNat : Nat)) ∧ w' = w :=
    Any.bits_Len (SlLaysF0.n15.bits (P := Try.prog) (ρ := Try.sortTm_ren) { Try.sortTm with }) (0 : Int) w (by omega) (by omega)
  generalize ((Lib.bitLen (0 : Int).toNat : Nat) : Int) = l at hl
  go_enter Try.func125, Try.ntmps125
  go_wp2_with fail
  ((with_reducible refine hl.mono ?_); rintro e w1 ⟨rfl, rfl⟩)
  go_wp2_with fail
  ((with_reducible refine (pdq_nil _ _ _ _ _).mono ?_); rintro e w1 ⟨rfl, rfl⟩)
  go_wp2
  go_end0
  exact ⟨rfl, rfl⟩

theorem ofTerms (O : List Tm) (hb : ∀ t ∈ O, byte3 (tmE t)) : ∃ d : Array TB, d.toList.map (·.1) = O ∧ d.size = O.length := by
  induction O with
  | nil => exact ⟨#[], rfl, rfl⟩
  | cons t r ih =>
    obtain ⟨d, h1, h2⟩ := ih fun x hx => hb x (by simp [hx])
    exact ⟨(⟨t, hb t (by simp)⟩ :: d.toList).toArray, by simp [h1], by simp [h2]⟩

theorem sort_says : SortSays := by
  intro v O base w h hb h12 hn hl
  obtain ⟨hx, ⟨rfl, h0⟩ | ⟨g, cap, cur, rfl, r⟩⟩ := id h
  · have hO : O = [] := List.eq_nil_of_length_eq_zero h0
    subst hO
    refine (sort_nil 0 none _ w).mono ?_
    rintro e w' ⟨rfl, rfl⟩
    exact ⟨rfl, [], List.Perm.refl _, List.Pairwise.nil, h, ⟨rfl, rfl, rfl, Nat.le_refl _, fun _ _ _ => rfl⟩⟩
  · obtain ⟨d, hd, hs⟩ := ofTerms O hb
    obtain ⟨hH, hlt⟩ := owns_holds h d hd
    have eg : ∀ args w, (callFunc 126 args).run Try.prog w = .ok (.enter 126 args) w := enters_of Try.func126 (by kernel_rfl) rfl
    have hcon := AnyQ.slices_SortFunc Try.sortTm 4 Try.isAgg115 Try.sizeOf115 encT (fun _ => rfl) (fun x v hv => by simp [encT, cell4] at hv; rcases hv with rfl | rfl | rfl | rfl <;> rfl) cfT swoT 126 #[] g 0 cap d w eg (cmpLaysT g 0 d.size w) hH hlt (by omega)
    change Calls Try.prog 125 _ _ _ at hcon
    rw [hs] at hcon
    refine hcon.mono ?_
    rintro e w' ⟨rfl, d', n, os, ⟨hp1, _, hp2⟩, hso, rfl⟩
    have hds : d'.size = O.length := by rw [hp1, hs]
    have hperm : d'.toList.Perm d.toList := by
      have e1 : d'.extract 0 O.length = d' := by rw [← hds]; simp
      have e2 : d.extract 0 O.length = d := by rw [← hs]; simp
      rwa [e1, e2] at hp2
    obtain ⟨ho, hg⟩ := sorted_owns h n d' os hds
    have hpm : (d'.toList.map (·.1)).Perm O := by
      have := hperm.map (fun x : TB => x.1)
      rwa [hd] at this
    have hl' : (d'.toList.map (·.1)).length = O.length := by simp [hds]
    refine ⟨rfl, d'.toList.map (·.1), hpm, ?_, by rw [hl'] at ho ⊢; exact ho, hg⟩
    refine asc_sorted d' (by rw [hds]; exact hso) ?_ ?_
    · have h2 : (d'.toList.map (·.1)).Pairwise fun a b => tmE a ≠ tmE b := (hpm.pairwise_iff (fun h e => h e.symm)).2 hn
      rwa [List.pairwise_map] at h2
    · intro x hx
      exact h12 x.1 (hpm.mem_iff.1 (List.mem_map_of_mem hx))
end Go.Proofs.Ytbhgbifliihlbaa
namespace Go.Proofs.Ytbhgbifliihlbaa
open Go.RowKit Go.Sort Go.Maps

abbrev OwnP (w : World) (base : Nat) (v : Value) (S : List Tm) : Prop := w.ownsRow base 115 4 v S.length (cells4 S)
theorem OwnP.slice {w : World} {base : Nat} {v : Value} {S : List Tm} (h : OwnP w base v S) : SliceT w v S := by
  obtain ⟨_, ⟨rfl, h0⟩ | ⟨g, cap, cur, rfl, hb, hg, hc1, hc2, hsz, htk⟩⟩ := id h
  · have := List.eq_nil_of_length_eq_zero h0
    subst this
    exact ⟨none, 0, rfl, .inl rfl⟩
  · refine ⟨_, cap, rfl, .inr ⟨g, 0, rfl, (Array.getElem?_eq_some_iff.1 hg).1, fun k hk => ?_⟩⟩
    have key : ∀ j, j < 4 → ∀ u, (cell4 S[k])[j]? = some u → w.cell? ⟨g, 0 + k * 4 + j, none⟩ = some u := fun j hj u hu => by
      have e := cells4_get S (k * 4 + j)
      rw [show (k * 4 + j) / 4 = k by omega, show (k * 4 + j) % 4 = j by omega, List.getElem?_eq_getElem hk] at e
      have e2 : (cells4 S)[k * 4 + j]? = some u := e.trans hu
      have hlt : k * 4 + j < S.length * 4 := by omega
      rw [← htk, List.getElem?_take_of_lt hlt, Array.getElem?_toList] at e2
      have hcs : k * 4 + j < cur.size := (Array.getElem?_eq_some_iff.1 e2).1
      simp [World.cell?, hg, e2]
    exact ⟨key 0 (by omega) _ rfl, key 1 (by omega) _ rfl, key 2 (by omega) _ rfl, key 3 (by omega) _ rfl⟩

/-- 'map[K]V{k: v}': an entry of a literal. -/
theorem wpList_insert_own {H : Type} {P : Program} (w : World) {ops : Array Oper} {rest : List Oper} {o : Oper} {a : Act} {Q : Exit → Act → World → Prop}
    (hg : o.guard = none) (m x v : Operand) (t : TypeId) (hop : o.op = Op.insert t m x v)
    (k e : TypeId) (K : Keyed P k) (ht : P.underlying t = some (.map k e)) (R : Value → Option (DataW H × List MemPlace)) (b n : Nat) (D : DataW H)
    (hm : a.eval m = .map (some b)) (hown : w.ownsMap P k R b n D) (hn : n < maxLen) (key val : Value) (kl : Lit) (hx : a.eval x = key) (hv : a.eval v = val) (hkey : keyOf P k key = some kl)
    (d : DataW H) (ps : List MemPlace) (hval : R val = some (d, ps))
    (hK : ∀ w', w'.ownsMap P k R b (n + 1) (D.put kl d) → w.grownBy w' (some b) → wpList P ops Q rest (a.put o.dst undef) w') :
    wpList P ops Q (o :: rest) a w := by
  refine wpList_plain hg fun K' hK' => ?_
  obtain ⟨w', hrun, r1, r2⟩ := hown.update K ht hn hkey hval
  unfold Oper.wp
  simp [execOp, hop, hm, hx, hv, hrun, Result.andThen]
  exact hK' _ _ (hK w' r1 r2)

theorem Good.one {D : DataW Unit} {S : List Tm} {e : Int × Int × Int} {v : Int} (he : byte3 e) (hv : ∀ a, byte3 a → cf D a = if a = e then v else 0) (h : Good D S) : S = if v = 0 then [] else [mkT e v] := by
  refine h.unique ?_ ?_ ?_
  · split
    · exact List.Pairwise.nil
    · exact List.pairwise_singleton _ _
  · intro t ht
    split at ht
    · simp at ht
    · simp at ht
      subst ht
      exact ⟨he, ‹¬ v = 0›⟩
  · intro a ha
    rw [hv a ha]
    split
    · rename_i h0
      subst h0
      simp [atL]
    · rw [atL]
      by_cases hx : tmE (mkT e v) = a
      · rw [if_pos hx, if_pos (by rw [← hx]; rfl)]; rfl
      · rw [if_neg hx, if_neg (fun y => hx (by rw [y]; rfl))]; rfl

/-- A polynomial stored into the result's box. -/
theorem fill_box {w w2 : World} {base r : Nat} {v : Value} {S : List Tm} {F : Nat → Value} (hres : w2.rowIs r 40 3 F) (ho : OwnP w2 base v S) (hbase : w.heap.size ≤ base) (hb : Below w.heap.size w w2) (hr : w.heap.size ≤ r) (p d : Int) :
    (((w2.setCell ⟨r, 0, none⟩ (.int .i64 p)).setCell ⟨r, 1, none⟩ (.int .i64 d)).setCell ⟨r, 2, none⟩ v).cell? ⟨r, 0, none⟩ = some (.int .i64 p) ∧
    (((w2.setCell ⟨r, 0, none⟩ (.int .i64 p)).setCell ⟨r, 1, none⟩ (.int .i64 d)).setCell ⟨r, 2, none⟩ v).cell? ⟨r, 1, none⟩ = some (.int .i64 d) ∧
    (((w2.setCell ⟨r, 0, none⟩ (.int .i64 p)).setCell ⟨r, 1, none⟩ (.int .i64 d)).setCell ⟨r, 2, none⟩ v).cell? ⟨r, 2, none⟩ = some v ∧
    OwnP (((w2.setCell ⟨r, 0, none⟩ (.int .i64 p)).setCell ⟨r, 1, none⟩ (.int .i64 d)).setCell ⟨r, 2, none⟩ v) w.heap.size v S ∧
    Below w.heap.size w (((w2.setCell ⟨r, 0, none⟩ (.int .i64 p)).setCell ⟨r, 1, none⟩ (.int .i64 d)).setCell ⟨r, 2, none⟩ v) := by
  have R := ((hres.set 0 (.int .i64 p)).set 1 (.int .i64 d)).set 2 v
  refine ⟨R.cell (i := 0) (by omega), R.cell (i := 1) (by omega), R.cell (i := 2) (by omega), ?_, ((hb.setCell (by simpa using hr) _).setCell (by simpa using hr) _).setCell (by simpa using hr) _⟩
  refine owns_low (World.ownsRow.kept ho (row := some r) ⟨rfl, rfl, rfl, by simp only [World.size_setCell]; exact Nat.le_refl _, fun k hk hne => ?_⟩ (own_ne hres ho (by decide))) hbase
  have hk : k ≠ r := fun e => hne (by rw [e])
  exact (Below.heap_setCell _ ⟨r, 2, none⟩ v k hk).trans ((Below.heap_setCell _ ⟨r, 1, none⟩ _ k hk).trans (Below.heap_setCell _ ⟨r, 0, none⟩ _ k hk))

theorem wf64 {n : Int} (h : 0 ≤ n) (h2 : n ≤ 9223372036854775807) : (Lit.int .i64 n).wf = true := by
  simp [Lit.wf, IntKind.min, IntKind.max, IntKind.bits, IntKind.signed]; omega

/-- The terms of a constant. -/
def constL (v : Int) : List Tm := if v = 0 then [] else [mkT (0, 0, 0) v]
set_option maxHeartbeats 1000000 in
theorem constant_any (p d v : Int) (w : World) (h0 : 0 ≤ v) (h1 : v ≤ 1000000) :
    Calls Try.prog 60 #[.int .i64 p, .int .i64 d, .int .i64 v] w fun e w' =>
      ∃ v', e = .returned (.agg #[.int .i64 p, .int .i64 d, v']) ∧ OwnP w' w.heap.size v' (constL v) ∧ Below w.heap.size w w' := by
  have hmm := @run_makeMap Try.prog
  have hb0 : byte3 (0, 0, 0) := by simp [byte3]
  have hk0 : keyOf Try.prog 113 (.agg #[.int .u8 0, .int .u8 0, .int .u8 0]) = some (kE (0, 0, 0)) := keyOf_vE (0, 0, 0) hb0
  have rr : (w.alloc (.cells #[.int .i64 0, .int .i64 0, .slice none 0 0] 40)).rowIs w.heap.size 40 3 (polyF 0 0 (.slice none 0 0)) := World.rowIs_alloc w #[Value.int .i64 0, .int .i64 0, .slice none 0 0] 40 (polyF 0 0 (.slice none 0 0)) (fun i hi => by simp at hi; match i, hi with | 0, _ => rfl | 1, _ => rfl | 2, _ => rfl)
  have hmade := World.ownsMap_made (H := Unit) (w.alloc (.cells #[.int .i64 0, .int .i64 0, .slice none 0 0] 40)) Try.prog 113 (plainElem Try.prog 2)
  obtain ⟨W, hrun, hown, hgr⟩ := hmade.update lawK Try.underlying126 (by unfold maxLen; omega) hk0 (plainElem_int Try.underlying2 (wf64 h0 (by omega)))
  have rrW := (rr.alloc (.map #[] 0)).of_block (hgr.block _ (by simp; omega) (by simp))
  have hbW : Below w.heap.size w W := (box2 w _ _).grown hgr (by simp; omega) (fun k hk => by simp at hk; omega)
  have hsW : w.heap.size + 2 ≤ W.heap.size := by have := hgr.size; simp at this; omega
  have hb' : (w.alloc (.cells #[.int .i64 0, .int .i64 0, .slice none 0 0] 40)).heap.size = w.heap.size + 1 := by simp
  rw [hb'] at hrun hown
  clear rr hmade hgr hb'
  go_enter Try.func60, Try.ntmps60
  go_wp2_with fail
  have hcf : ∀ a, byte3 a → cf (DataW.put (H := Unit) (.map []) (kE (0, 0, 0)) (.lit (.int .i64 v))) a = if a = (0, 0, 0) then v else 0 := fun a ha => by
    rw [cf_put isMap_empty hb0 ha, cf_empty]
  refine (polyOf_any sort_says p d (w.heap.size + 1) (0 + 1) _ W hown (by omega) (fun e he hc => ?_)).mono ?_
  · rw [hcf e he] at hc
    by_cases h : e = (0, 0, 0)
    · subst h; simp
    · rw [if_neg h] at hc; exact absurd rfl hc
  rintro e w2 ⟨v', S, rfl, ho, hgood, hb2⟩
  obtain ⟨sa, sc, rfl⟩ := owns_slice ho
  have hS : S = constL v := hgood.one hb0 hcf
  clear hmm hk0 hrun hown hgood hcf
  have rr2 := rowIs_below rrW hb2 rrW.lt
  have hbw2 := hbW.trans (hb2.mono hbW.size)
  have r0 := rr2.cell (i := 0) (by omega)
  have r1 := rr2.cell (i := 1) (by omega)
  have r2 := rr2.cell (i := 2) (by omega)
  have z0 := rr2.frozen 0
  have z1 := rr2.frozen 1
  have z2 := rr2.frozen 2
  simp [polyF] at r0 r1 r2
  obtain ⟨a0, a1, a2, a3, a4⟩ := fill_box rr2 ho hbW.size hbw2 (Nat.le_refl _) p d
  have HF := Lib.hid (And.intro a3 a4)
  have HS := Lib.hid hS
  have A0 := Lib.hid a0
  have A1 := Lib.hid a1
  have A2 := Lib.hid a2
  clear a0 a1 a2 a3 a4 hS ho
  go_wp2_with fail
  rw [← HS.out]
  exact bodyPost_ret (v := .agg #[.int .i64 p, .int .i64 d, .slice sa S.length sc]) (by simp [results, Try.results60, go_sem, A0.out, A1.out, A2.out]) rfl ⟨_, rfl, HF.out.1, HF.out.2⟩
end Go.Proofs.Ytbhgbifliihlbaa
namespace Go.Proofs.Ytbhgbifliihlbaa
open Go.RowKit Go.Sort

/-- What stands in memory while a polynomial's terms are chosen: its own three cells (block q), the rows of its terms, the argument's box, the result's (blocks a and r). -/
structure Part (w wr : World) (base q a r : Nat) (p d : Int) (xv sv : Value) (O : List Tm) : Prop where
  rows : wr.ownsRow base 115 4 sv O.length (cells4 O)
  out : wr.rowIs q 40 3 (polyF p d sv)
  arg : wr.rowIs a 40 3 (polyF p d xv)
  res : wr.rowIs r 40 3 (polyF 0 0 (.slice none 0 0))
  below : Below w.heap.size w wr
  b1 : w.heap.size ≤ base
  b2 : base ≤ wr.heap.size
  b3 : w.heap.size ≤ q
  b4 : w.heap.size ≤ r
  qa : a ≠ q
  qr : r ≠ q
theorem Part.later {w wr w1 : World} {base q a r : Nat} {p d : Int} {xv sv : Value} {O : List Tm} (h : Part w wr base q a r p d xv sv O) (hb : Below wr.heap.size wr w1) : Part w w1 base q a r p d xv sv O :=
  ⟨owns_belowT h.rows hb, rowIs_below h.out hb h.out.lt, rowIs_below h.arg hb h.arg.lt, rowIs_below h.res hb h.res.lt, h.below.trans (hb.mono h.below.size), h.b1, Nat.le_trans h.b2 hb.size, h.b3, h.b4, h.qa, h.qr⟩
theorem Part.more {w wr wx w2 : World} {base q a r : Nat} {p d : Int} {xv sv sv' : Value} {O : List Tm} {t : Tm} (h : Part w wr base q a r p d xv sv O) (hb : Below wr.heap.size wr wx)
    (hg : wx.grownBy w2 sv.ownBlock) (ho : w2.ownsRow base 115 4 sv' (O.length + 1) (cells4 O ++ cell4 t)) : Part w (w2.setCell ⟨q, 2, none⟩ sv') base q a r p d xv sv' (O ++ [t]) ∧ w2.rowIs q 40 3 (polyF p d sv) := by
  have h1 := h.later hb
  have hn1 : 40 ≠ 115 := by decide
  have r1 := rowIs_grown h1.out hg h1.rows hn1
  have r2 := rowIs_grown h1.arg hg h1.rows hn1
  have r4 := rowIs_grown h1.res hg h1.rows hn1
  refine ⟨⟨?_, ?_, r2.setOther (by simpa using fun e => h.qa e) _, r4.setOther (by simpa using fun e => h.qr e) _, ?_, h.b1, ?_, h.b3, h.b4, h.qa, h.qr⟩, r1⟩
  · rw [cells4_snoc, show (O ++ [t]).length = O.length + 1 by simp]
    exact ho.kept (row := some q) ⟨rfl, rfl, rfl, by rw [World.size_setCell]; exact Nat.le_refl _, fun k hk hne => Below.heap_setCell w2 ⟨q, 2, none⟩ sv' k (fun e => hne (by rw [e]))⟩ (own_ne r1 ho hn1)
  · refine (r1.set 2 sv').congr fun i hi => ?_
    rw [congrFun (polyF_set p d sv sv') i, if_pos hi]
  · have hb1 := h.b1
    have hb3 := h.b3
    exact (h1.below.grown hg (Nat.le_trans hb1 h1.b2) (fun k hk => Nat.le_trans hb1 (h1.rows.lt k hk).1)).setCell (by simpa using hb3) _
  · rw [World.size_setCell]; exact Nat.le_trans h1.b2 hg.size
theorem Part.finish {w wr : World} {base q a r : Nat} {p d : Int} {xv sv : Value} {O : List Tm} (h : Part w wr base q a r p d xv sv O) (p' d' : Int) :
    (((wr.setCell ⟨r, 0, none⟩ (.int .i64 p')).setCell ⟨r, 1, none⟩ (.int .i64 d')).setCell ⟨r, 2, none⟩ sv).cell? ⟨r, 0, none⟩ = some (.int .i64 p') ∧
    (((wr.setCell ⟨r, 0, none⟩ (.int .i64 p')).setCell ⟨r, 1, none⟩ (.int .i64 d')).setCell ⟨r, 2, none⟩ sv).cell? ⟨r, 1, none⟩ = some (.int .i64 d') ∧
    (((wr.setCell ⟨r, 0, none⟩ (.int .i64 p')).setCell ⟨r, 1, none⟩ (.int .i64 d')).setCell ⟨r, 2, none⟩ sv).cell? ⟨r, 2, none⟩ = some sv ∧
    (((wr.setCell ⟨r, 0, none⟩ (.int .i64 p')).setCell ⟨r, 1, none⟩ (.int .i64 d')).setCell ⟨r, 2, none⟩ sv).ownsRow w.heap.size 115 4 sv O.length (cells4 O) ∧
    Below w.heap.size w (((wr.setCell ⟨r, 0, none⟩ (.int .i64 p')).setCell ⟨r, 1, none⟩ (.int .i64 d')).setCell ⟨r, 2, none⟩ sv) := by
  have R := ((h.res.set 0 (.int .i64 p')).set 1 (.int .i64 d')).set 2 sv
  have hb1 := h.b1
  have hb4 := h.b4
  refine ⟨R.cell (i := 0) (by omega), R.cell (i := 1) (by omega), R.cell (i := 2) (by omega), ?_, ((h.below.setCell (by simpa using hb4) _).setCell (by simpa using hb4) _).setCell (by simpa using hb4) _⟩
  refine owns_low (h.rows.kept (row := some r) ⟨rfl, rfl, rfl, by simp only [World.size_setCell]; exact Nat.le_refl _, fun k hk hne => ?_⟩ (own_ne h.res h.rows (by decide))) hb1
  have hk : k ≠ r := fun e => hne (by rw [e])
  exact (Below.heap_setCell _ ⟨r, 2, none⟩ sv k hk).trans ((Below.heap_setCell _ ⟨r, 1, none⟩ _ k hk).trans (Below.heap_setCell _ ⟨r, 0, none⟩ _ k hk))
end Go.Proofs.Ytbhgbifliihlbaa
namespace Go.Proofs.Ytbhgbifliihlbaa
open Go.RowKit Go.Sort

/-- What a function that gives a polynomial and a code gives. -/
structure OutP where
  P : Int
  D : Int
  S : List Tm
  c : Int
def ResO (w : World) (o : OutP) (e : Ending) (w' : World) : Prop :=
  ∃ v', e = .returned (.tuple #[.agg #[.int .i64 o.P, .int .i64 o.D, v'], .int .i64 o.c]) ∧ OwnP w' w.heap.size v' o.S ∧ Below w.heap.size w w'
def noP (c : Int) : OutP := ⟨0, 0, [], c⟩
theorem ownP_nil (w : World) (base : Nat) : OwnP w base (.slice none 0 0) [] := ⟨rfl, .inl ⟨rfl, rfl⟩⟩

theorem poly3 {w : World} {b : Nat} {t : TypeId} {p d : Int} {v : Value} (h : w.rowIs b t 3 (polyF p d v)) : (w.cell? ⟨b, 0, none⟩ = some (.int .i64 p) ∧ w.cell? ⟨b, 1, none⟩ = some (.int .i64 d) ∧ w.cell? ⟨b, 2, none⟩ = some v) ∧ w.frozen? ⟨b, 0, none⟩ = false ∧ w.frozen? ⟨b, 1, none⟩ = false ∧ w.frozen? ⟨b, 2, none⟩ = false :=
  ⟨⟨h.cell (i := 0) (by omega), h.cell (i := 1) (by omega), h.cell (i := 2) (by omega)⟩, h.frozen 0, h.frozen 1, h.frozen 2⟩

/-- The two boxes at the head of a function of a polynomial with a polynomial as its result. -/
theorem boxes2 (w : World) (p d : Int) (v : Value) : ∃ W, W = (w.alloc (.cells #[.int .i64 p, .int .i64 d, v] 40)).alloc (.cells #[.int .i64 0, .int .i64 0, .slice none 0 0] 40) ∧ Below w.heap.size w W ∧ (W.heap.size ≤ w.heap.size + 2 ∧ w.heap.size + 2 ≤ W.heap.size) ∧
      W.rowIs w.heap.size 40 3 (polyF p d v) ∧ W.rowIs (w.heap.size + 1) 40 3 (polyF 0 0 (.slice none 0 0)) := by
  refine ⟨_, rfl, box2 _ _ _, ⟨by simp, by simp⟩, ?_, ?_⟩
  · refine World.rowIs.alloc (World.rowIs_alloc w #[Value.int .i64 p, .int .i64 d, v] _ _ (fun i hi => ?_)) _
    simp at hi; match i, hi with | 0, _ => rfl | 1, _ => rfl | 2, _ => rfl
  · have := World.rowIs_alloc (w.alloc (.cells #[.int .i64 p, .int .i64 d, v] 40)) #[Value.int .i64 0, .int .i64 0, .slice none 0 0] 40 (polyF 0 0 (.slice none 0 0)) (fun i hi => by simp at hi; match i, hi with | 0, _ => rfl | 1, _ => rfl | 2, _ => rfl)
    simpa using this

theorem capd_eq (s n : Int) (h : n ≤ 12) : (capd s == n) = (s == n) := by
  unfold capd
  split
  · rfl
  · rw [Bool.eq_iff_iff]; simp; omega
end Go.Proofs.Ytbhgbifliihlbaa
namespace Go.Proofs.Ytbhgbifliihlbaa
open Go.RowKit Go.Sort Go.Maps

def mono12 (e : Int × Int × Int) : Prop := byte3 e ∧ e.1 + e.2.1 + e.2.2 ≤ 12
/-- L has the terms of the polynomial modulo p with the coefficients f. -/
def IsP (p : Int) (L : List Tm) (f : Int × Int × Int → Int) : Prop :=
  Asc L ∧ (∀ t ∈ L, mono12 (tmE t) ∧ 1 ≤ t.2.2.2 ∧ t.2.2.2 < p) ∧ ∀ e, byte3 e → atL L e = f e
theorem IsP.unique {p : Int} {L L' : List Tm} {f : Int × Int × Int → Int} (h : IsP p L f) (h' : IsP p L' f) : L = L' := by
  refine asc_unique L L' h.1 h'.1 (fun t ht => by have := (h.2.1 t ht).2.1; omega) (fun t ht => by have := (h'.2.1 t ht).2.1; omega) fun e => ?_
  by_cases he : byte3 e
  · rw [h.2.2 e he, h'.2.2 e he]
  · rw [atL_none (ts := L) (fun t ht hx => he (by rw [← hx]; exact (h.2.1 t ht).1.1)), atL_none (ts := L') (fun t ht hx => he (by rw [← hx]; exact (h'.2.1 t ht).1.1))]
theorem IsP.congr {p : Int} {L : List Tm} {f g : Int × Int × Int → Int} (h : IsP p L f) (hfg : ∀ e, byte3 e → f e = g e) : IsP p L g :=
  ⟨h.1, h.2.1, fun e he => (h.2.2 e he).trans (hfg e he)⟩
theorem IsP.len {p : Int} {L : List Tm} {f : Int × Int × Int → Int} (h : IsP p L f) : L.length ≤ 2197 :=
  asc_len h.1 fun t ht => (h.2.1 t ht).1
theorem IsP.byte {p : Int} {L : List Tm} {f : Int × Int × Int → Int} (h : IsP p L f) (hp : p ≤ 13) : ∀ t ∈ L, tmByte t := fun t ht => by
  obtain ⟨⟨h1, _⟩, h2, h3⟩ := h.2.1 t ht
  exact ⟨h1, by omega, by omega⟩
theorem IsP.bound {p : Int} {L : List Tm} {f : Int × Int × Int → Int} (h : IsP p L f) (hp : 0 < p) {e : Int × Int × Int} (he : byte3 e) : 0 ≤ f e ∧ f e < p := by
  rw [← h.2.2 e he]
  exact chain_at L e (fun t ht => by have := (h.2.1 t ht).2; omega) hp
theorem IsP.nil (p : Int) : IsP p [] (fun _ => 0) := ⟨List.Pairwise.nil, fun t ht => by simp at ht, fun e _ => rfl⟩
theorem Valid.isP {p d : Int} {ts : List Tm} (h : Valid p d ts) : IsP p ts (atL ts) := ⟨h.asc, fun t ht => h.mem t ht, fun _ _ => rfl⟩
theorem IsP.put {p : Int} {L : List Tm} {f : Int × Int × Int → Int} (h : IsP p L f) (hp : 2 ≤ p) {e : Int × Int × Int} (he : mono12 e) (v : Int) : IsP p (putL p L e v) (fun a => if a = e then (v + f e) % p else f a) := by
  refine ⟨putL_asc h.1, fun t ht => ?_, fun a ha => ?_⟩
  · rcases putL_mem ht with ⟨rfl, hne⟩ | ⟨hm, _⟩
    · have g0 : 0 ≤ (v + atL L e) % p := Int.emod_nonneg _ (by omega)
      have g1 : (v + atL L e) % p < p := Int.emod_lt_of_pos _ (by omega)
      refine ⟨he, ?_, g1⟩
      show 1 ≤ (v + atL L e) % p
      omega
    · exact h.2.1 t hm
  · rw [putL_at, h.2.2 e he.1, h.2.2 a ha]
theorem Good.isP {D : DataW Unit} {S : List Tm} {p : Int} {f : Int × Int × Int → Int} (h : Good D S) (hf : ∀ e, byte3 e → cf D e = f e) (hb : ∀ e, byte3 e → 0 ≤ f e ∧ f e < p) (h12 : ∀ e, byte3 e → f e ≠ 0 → e.1 + e.2.1 + e.2.2 ≤ 12) : IsP p S f := by
  refine ⟨h.1, fun t ht => ?_, fun e he => (h.2.2 e he).trans (hf e he)⟩
  obtain ⟨h1, h2, h3⟩ := h.2.1 t ht
  have h4 := hf _ h1
  have h5 := hb _ h1
  rw [h4] at h2
  exact ⟨⟨h1, h12 _ h1 (by rw [← h2]; exact h3)⟩, by omega, by omega⟩

/-- A new list put into the box of a polynomial in the making. -/
theorem Part.put {w wr w2 : World} {base base2 q a r : Nat} {p d : Int} {xv sv v2 : Value} {O O2 : List Tm} (h : Part w wr base q a r p d xv sv O) (hb : Below wr.heap.size wr w2) (ho : OwnP w2 base2 v2 O2) (hb2 : base ≤ base2) :
    Part w (((w2.setCell ⟨q, 0, none⟩ (.int .i64 p)).setCell ⟨q, 1, none⟩ (.int .i64 d)).setCell ⟨q, 2, none⟩ v2) base q a r p d xv v2 O2 := by
  have h1 := h.later hb
  have R := ((h1.out.set 0 (.int .i64 p)).set 1 (.int .i64 d)).set 2 v2
  have hq := h.b3
  refine ⟨?_, R.congr fun i hi => ?_, ((h1.arg.setOther (by simpa using fun e => h.qa e) _).setOther (by simpa using fun e => h.qa e) _).setOther (by simpa using fun e => h.qa e) _, ((h1.res.setOther (by simpa using fun e => h.qr e) _).setOther (by simpa using fun e => h.qr e) _).setOther (by simpa using fun e => h.qr e) _, ((h1.below.setCell (by simpa using hq) _).setCell (by simpa using hq) _).setCell (by simpa using hq) _, h.b1, ?_, h.b3, h.b4, h.qa, h.qr⟩
  · refine owns_low (World.ownsRow.kept ho (row := some q) ⟨rfl, rfl, rfl, by simp only [World.size_setCell]; exact Nat.le_refl _, fun k hk hne => ?_⟩ (own_ne h1.out ho (by decide))) hb2
    have hk : k ≠ q := fun e => hne (by rw [e])
    exact (Below.heap_setCell _ ⟨q, 2, none⟩ v2 k hk).trans ((Below.heap_setCell _ ⟨q, 1, none⟩ _ k hk).trans (Below.heap_setCell _ ⟨q, 0, none⟩ _ k hk))
  · match i, hi with
    | 0, _ => rfl
    | 1, _ => rfl
    | 2, _ => rfl
  · simp only [World.size_setCell]; exact h1.b2

theorem specPut (p d : Int) (v : Value) (ts : List Tm) (f : Int × Int × Int → Int) (x y z val : Int) (w : World) (hS : SliceT w v ts) (hP : IsP p ts f) (h2 : 2 ≤ p) (h13 : p ≤ 13) (he : byte3 (x, y, z)) (v0 : 0 ≤ val) (v1 : val ≤ 100000000) :
    Calls Try.prog 123 #[.agg #[.int .i64 p, .int .i64 d, v], .agg #[.int .u8 x, .int .u8 y, .int .u8 z], .int .i64 val] w fun e w' =>
      ∃ v', e = .returned (.agg #[.int .i64 p, .int .i64 d, v']) ∧ OwnP w' w.heap.size v' (putL p ts (x, y, z) val) ∧ Below w.heap.size w w' := by
  obtain ⟨a, cap, rfl, _⟩ := id hS
  exact specPut_sl p d a cap ts x y z val w (Nat.le_trans hP.len (by omega)) hS (hP.byte h13) h2 h13 (fun t ht => by have := (hP.2.1 t ht).2; omega) he.1 he.2.1 he.2.2 v0 v1
end Go.Proofs.Ytbhgbifliihlbaa
namespace Go.Proofs.Ytbhgbifliihlbaa
open Go.RowKit Go.Sort

/-- The boxes of two polynomials at the head of a function. -/
theorem pair2 (w : World) (p d : Int) (v : Value) (p' d' : Int) (v' : Value) : ∃ W, W = (w.alloc (.cells #[.int .i64 p, .int .i64 d, v] 40)).alloc (.cells #[.int .i64 p', .int .i64 d', v'] 40) ∧ Below w.heap.size w W ∧ (W.heap.size ≤ w.heap.size + 2 ∧ w.heap.size + 2 ≤ W.heap.size) ∧
      W.rowIs w.heap.size 40 3 (polyF p d v) ∧ W.rowIs (w.heap.size + 1) 40 3 (polyF p' d' v') := by
  refine ⟨_, rfl, box2 _ _ _, ⟨by simp, by simp⟩, ?_, ?_⟩
  · refine World.rowIs.alloc (World.rowIs_alloc w #[Value.int .i64 p, .int .i64 d, v] _ _ (fun i hi => ?_)) _
    simp at hi; match i, hi with | 0, _ => rfl | 1, _ => rfl | 2, _ => rfl
  · have := World.rowIs_alloc (w.alloc (.cells #[.int .i64 p, .int .i64 d, v] 40)) #[Value.int .i64 p', .int .i64 d', v'] 40 (polyF p' d' v') (fun i hi => by simp at hi; match i, hi with | 0, _ => rfl | 1, _ => rfl | 2, _ => rfl)
    simpa using this
/-- .. and of a polynomial as the result. -/
theorem pair3 (w : World) (p d : Int) (v : Value) (p' d' : Int) (v' : Value) : ∃ W, W = ((w.alloc (.cells #[.int .i64 p, .int .i64 d, v] 40)).alloc (.cells #[.int .i64 p', .int .i64 d', v'] 40)).alloc (.cells #[.int .i64 0, .int .i64 0, .slice none 0 0] 40) ∧ Below w.heap.size w W ∧ (W.heap.size ≤ w.heap.size + 3 ∧ w.heap.size + 3 ≤ W.heap.size) ∧
      W.rowIs w.heap.size 40 3 (polyF p d v) ∧ W.rowIs (w.heap.size + 1) 40 3 (polyF p' d' v') ∧ W.rowIs (w.heap.size + 2) 40 3 (polyF 0 0 (.slice none 0 0)) := by
  obtain ⟨V, hV, hb, ⟨s1, s2⟩, r1, r2⟩ := pair2 w p d v p' d' v'
  refine ⟨_, by rw [← hV], hb.trans ((box1 V _).mono hb.size), ⟨by simp; omega, by simp; omega⟩, r1.alloc _, r2.alloc _, ?_⟩
  have := World.rowIs_alloc V #[Value.int .i64 0, .int .i64 0, .slice none 0 0] 40 (polyF 0 0 (.slice none 0 0)) (fun i hi => by simp at hi; match i, hi with | 0, _ => rfl | 1, _ => rfl | 2, _ => rfl)
  rwa [show V.heap.size = w.heap.size + 2 by omega] at this

theorem retI {k : IntKind} {a b : Int} (h : a = b) : Ending.returned (.int k a) = .returned (.int k b) := by rw [h]
theorem alike_is (p d p' d' : Int) (v v' : Value) (w : World) (B : Bool) (h : (decide (p = p') && decide (d = d')) = B) :
    Calls Try.prog 101 #[.agg #[.int .i64 p, .int .i64 d, v], .agg #[.int .i64 p', .int .i64 d', v']] w fun e w' => e = .returned (.bool B) ∧ Below w.heap.size w w' := by
  subst h
  by_cases h1 : p = p'
  · subst h1
    by_cases h2 : d = d'
    · subst h2
      go_enter Try.func101, Try.ntmps101
      go_wp2
      go_ret
      exact ⟨by simp, box2 _ _ _⟩
    · have h2' : (d == d') = false := by simpa using h2
      go_enter Try.func101, Try.ntmps101
      go_wp2
      go_ret
      exact ⟨by simp [h2], box2 _ _ _⟩
  · have h1' : (p == p') = false := by simpa using h1
    go_enter Try.func101, Try.ntmps101
    go_wp2
    go_ret
    exact ⟨by simp [h1], box2 _ _ _⟩
end Go.Proofs.Ytbhgbifliihlbaa
