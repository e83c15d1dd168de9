/-
  POLYNOMIALS in the making beside two others; appends of terms. Conditions: as each theorem states.. Conditions: as each theorem states.
  WALKS: comparing terms and polynomials that are equal. Conditions: as each theorem states.
  WALKS: degrees. Conditions: as each theorem states.
  WALKS: 'spec.l01Times'. Conditions: as each theorem states.
  WALKS: 'spec.l01Times' of polynomials other than 0. Conditions: as each theorem states.
  What a law of a function that gives a polynomial keeps in memory. Conditions: as each theorem states.
-/
import Derived.Test.YtbhgbifliihlbaaGreatQ06
import Derived.Test.YtbhgbifliihlbaaGreatQ02
import Derived.Test.YtbhgbifliihlbaaGreatQ05
import Derived.Deep.DeepCutAuto
import Derived.Deep.RegionHeld3
namespace Go.Proofs.YtbhgbifliihlbaaGreat
open Go.RowKit Go.Sort

theorem cells4_terms {w : World} {b off : Nat} {ts : List Tm} (hT : Terms w b off ts) : ∀ j u, (cells4 ts)[j]? = some u → w.cell? ((⟨b, off, none⟩ : Addr).add j) = some u := by
  intro j u hu
  have hadd : (⟨b, off, none⟩ : Addr).add j = ⟨b, off + j, none⟩ := by unfold Addr.add; split <;> simp_all
  rw [hadd]
  have key : ∀ (l : List Tm) (o : Nat), Terms w b o l → ∀ j u, (cells4 l)[j]? = some u → w.cell? ⟨b, o + j, none⟩ = some u := fun l => by
    induction l with
    | nil => intro o _ j u h; simp [cells4] at h
    | cons t r ih =>
      intro o h j u hu
      have h0 := h 0 (by simp)
      simp only [Nat.zero_mul, Nat.add_zero, List.getElem_cons_zero] at h0
      have hr : Terms w b (o + 4) r := fun k hk => by
        have := h (k + 1) (by simp; omega)
        simp only [List.getElem_cons_succ] at this
        rwa [show o + (k + 1) * 4 = o + 4 + k * 4 by omega] at this
      match j, hu with
      | 0, hu => simp [cells4, cell4] at hu; subst hu; exact h0.1
      | 1, hu => simp [cells4, cell4] at hu; subst hu; exact h0.2.1
      | 2, hu => simp [cells4, cell4] at hu; subst hu; exact h0.2.2.1
      | 3, hu => simp [cells4, cell4] at hu; subst hu; exact h0.2.2.2
      | j + 4, hu =>
        have hu' : (cells4 r)[j]? = some u := by simpa [cells4, cell4] using hu
        have := ih (o + 4) hr j u hu'
        rwa [show o + 4 + j = o + (j + 4) by omega] at this
  exact key ts off hT j u hu
theorem cells4_one (ts : List Tm) : ∀ u ∈ cells4 ts, u.oneCell' = true := by
  intro u hu
  simp only [cells4, List.mem_flatMap] at hu
  obtain ⟨t, _, h⟩ := hu
  simp [cell4] at h
  rcases h with rfl | rfl | rfl | rfl <;> rfl

/-- All terms of a slice put behind those of a list of the call's own. -/
theorem wpList_append_terms (w : World) {ops : Array Oper} {rest : List Oper} {o : Oper} {a : Act} {Q : Exit → Act → World → Prop} (hgd : o.guard = none) (s x : Operand)
    (ho : o.op = .call { callee := .builtin .append, args := #[s, x], argTypes := #[37, 37] })
    (base : Nat) (v : Value) (n : Nat) (xs : List Value) (hs : a.eval s = v) (hown : w.ownsRow base 57 4 v n xs)
    (v2 : Value) (ts : List Tm) (hx : a.eval x = v2) (hS : SliceT w v2 ts) (h63 : n + ts.length ≤ 8388608) (hbase : base ≤ w.heap.size)
    (h : ∀ v' w', w'.ownsRow base 57 4 v' (n + ts.length) (xs ++ cells4 ts) → w.grownBy w' v.ownBlock → wpList Tryz.prog ops Q rest (a.put o.dst v') w') : wpList Tryz.prog ops Q (o :: rest) a w := by
  obtain ⟨i0, hi, hz0, hz1, hz2⟩ := info_parts infoTerm
  obtain ⟨A, cap, rfl, hcase⟩ := hS
  rcases A with _ | ad
  · have hn : ts = [] := by
      rcases hcase with h | ⟨b, off, h, _⟩
      · exact h
      · cases h
    subst hn
    refine wpList_plain hgd fun K hK => ?_
    have hrun : ∀ ty, (Builtin.append_ #[37, 37] ty #[v, .slice none 0 cap]).run Tryz.prog w = .ok v w := fun ty => by
      rcases hown.2 with ⟨rfl, rfl⟩ | ⟨g, c, cur, rfl, _, _, hnc, _⟩
      · simp [Builtin.append_, run_underlying Tryz.underlying37, sizeOf, typeInfo, hi, Builtin.lenOf, Builtin.firstCells]
      · simp [Builtin.append_, run_underlying Tryz.underlying37, sizeOf, typeInfo, hi, Builtin.lenOf, Builtin.firstCells, hnc, storeCells]
    unfold Oper.wp execOp
    simp only [ho, resolve, invoke, builtin, Sem.run_bind, Sem.run_pure, Result.andThen_ok, List.map_toArray, List.map_cons, List.map_nil, hs, hx]
    rw [show (List.length ([] : List Tm)) = 0 from rfl, hrun]
    exact hK _ _ (h v w (by simpa [cells4] using hown) (World.grownBy.refl w _))
  · refine wpList_append_own w hgd s x 37 ho base 57 i0 _ 4 16 Tryz.underlying37 hi hz0 hz1 hz2 rfl (by decide) v n xs hs hown ad ts.length cap (cells4 ts) hx (cells4_len ts) ?_ (cells4_one ts) (by unfold maxLen; omega) (by omega) hbase fun v' w' h1 h2 _ => h v' w' h1 h2
    intro j u hu
    rcases hcase with rfl | ⟨b, off, hA, hlt, hT⟩
    · simp [cells4] at hu
    · simp at hA
      subst hA
      exact cells4_terms hT j u hu

/-- A polynomial in the making, beside the boxes of two arguments. -/
structure Part2 (w wr : World) (base q a a2 r : Nat) (p d p' d' : Int) (xv yv sv : Value) (O : List Tm) : Prop where
  part : Part w wr base q a r p d xv sv O
  arg2 : wr.rowIs a2 39 3 (polyF p' d' yv)
  qa2 : a2 ≠ q
theorem Part2.later {w wr w1 : World} {base q a a2 r : Nat} {p d p' d' : Int} {xv yv sv : Value} {O : List Tm} (h : Part2 w wr base q a a2 r p d p' d' xv yv sv O) (hb : Below wr.heap.size wr w1) : Part2 w w1 base q a a2 r p d p' d' xv yv sv O :=
  ⟨h.part.later hb, rowIs_below h.arg2 hb h.arg2.lt, h.qa2⟩
theorem Part2.put {w wr w2 : World} {base base2 q a a2 r : Nat} {p d p' d' : Int} {xv yv sv v2 : Value} {O O2 : List Tm} (h : Part2 w wr base q a a2 r p d p' d' xv yv sv O) (hb : Below wr.heap.size wr w2) (ho : OwnP w2 base2 v2 O2) (hb2 : base ≤ base2) :
    Part2 w (((w2.setCell ⟨q, 0, none⟩ (.int .i64 p)).setCell ⟨q, 1, none⟩ (.int .i64 d)).setCell ⟨q, 2, none⟩ v2) base q a a2 r p d p' d' xv yv v2 O2 :=
  ⟨h.part.put hb ho hb2, (((rowIs_below h.arg2 hb h.arg2.lt).setOther (by simpa using fun e => h.qa2 e) _).setOther (by simpa using fun e => h.qa2 e) _).setOther (by simpa using fun e => h.qa2 e) _, h.qa2⟩
theorem Part2.moreL {w wr w2 : World} {base q a a2 r : Nat} {p d p' d' : Int} {xv yv sv sv' : Value} {O ts : List Tm} (h : Part2 w wr base q a a2 r p d p' d' xv yv sv O)
    (hg : wr.grownBy w2 sv.ownBlock) (ho : w2.ownsRow base 57 4 sv' (O.length + ts.length) (cells4 O ++ cells4 ts)) : Part2 w (w2.setCell ⟨q, 2, none⟩ sv') base q a a2 r p d p' d' xv yv sv' (O ++ ts) ∧ w2.rowIs q 39 3 (polyF p d sv) := by
  have h1 := h.part
  have hn1 : 39 ≠ 57 := by decide
  have r1 := rowIs_grown h1.out hg h1.rows hn1
  have r2 := rowIs_grown h1.arg hg h1.rows hn1
  have r3 := rowIs_grown h.arg2 hg h1.rows hn1
  have r4 := rowIs_grown h1.res hg h1.rows hn1
  refine ⟨⟨⟨?_, ?_, r2.setOther (by simpa using fun e => h1.qa e) _, r4.setOther (by simpa using fun e => h1.qr e) _, ?_, h1.b1, ?_, h1.b3, h1.b4, h1.qa, h1.qr⟩, r3.setOther (by simpa using fun e => h.qa2 e) _, h.qa2⟩, r1⟩
  · rw [show cells4 (O ++ ts) = cells4 O ++ cells4 ts by simp [cells4], show (O ++ ts).length = O.length + ts.length by simp]
    exact ho.kept (row := some q) ⟨rfl, rfl, rfl, by rw [World.size_setCell]; exact Nat.le_refl _, fun k hk hne => Below.heap_setCell w2 ⟨q, 2, none⟩ sv' k (fun e => hne (by rw [e]))⟩ (own_ne r1 ho hn1)
  · refine (r1.set 2 sv').congr fun i hi => ?_
    rw [congrFun (polyF_set p d sv sv') i, if_pos hi]
  · have hb1 := h1.b1
    have hb3 := h1.b3
    exact (h1.below.grown hg (Nat.le_trans hb1 h1.b2) (fun k hk => Nat.le_trans hb1 (h1.rows.lt k hk).1)).setCell (by simpa using hb3) _
  · rw [World.size_setCell]; exact Nat.le_trans h1.b2 hg.size
end Go.Proofs.YtbhgbifliihlbaaGreat
namespace Go.Proofs.YtbhgbifliihlbaaGreat
open Go.RowKit Go.Sort

set_option maxHeartbeats 1000000 in
theorem eqTerm_refl (x y z v : Int) (w : World) :
    Calls Tryz.prog 49 #[.agg #[.int .u8 x, .int .u8 y, .int .u8 z, .int .i64 v], .agg #[.int .u8 x, .int .u8 y, .int .u8 z, .int .i64 v]] w fun e w' => e = .returned (.bool true) ∧ Below w.heap.size w w' := by
  have hv : (v != v) = false := by simp
  go_enter Tryz.func49, Tryz.ntmps49
  go_wp2_with fail
  ((with_reducible refine (eqExps_refl _ _ _ _).mono ?_); rintro e w1 ⟨rfl, hb⟩)
  obtain ⟨hc, hf⟩ := old_cells hb
  have hb0 := (box2 _ _ _).trans (hb.mono (by simp; omega))
  clear hb
  go_wp2
  go_ret
  exact ⟨rfl, hb0⟩

set_option maxHeartbeats 1000000 in
theorem eqTermS_some (g o cap g' o' cap' : Nat) (ts : List Tm) (w : World) (hl : ts.length ≤ 1048576) (hg : g < w.heap.size) (hg' : g' < w.heap.size) (hT : Terms w g o ts) (hT' : Terms w g' o' ts) :
    Calls Tryz.prog 31 #[.slice (some ⟨g, o, none⟩) ts.length cap, .slice (some ⟨g', o', none⟩) ts.length cap'] w fun e w' => e = .returned (.bool true) ∧ Below w.heap.size w w' := by
  have hnn : ((ts.length : Int) != (ts.length : Int)) = false := by simp
  go_enter Tryz.func31, Tryz.ntmps31
  go_wp2
  go_loopw [5] (fun i wr => ∃ k : Nat, k ≤ ts.length ∧ i = .int .i64 k ∧ Below w.heap.size w wr) (fun i _ => ts.length - (intOf i).toNat)
  case atStart => exact ⟨0, by omega, rfl, Below.refl _ _⟩
  case round =>
    obtain ⟨k, hk, rfl, hbel⟩ := hrel
    by_cases hlt : k < ts.length
    · have hlt' : (k : Int) < (ts.length : Int) := by omega
      obtain ⟨a0, a1, a2, a3⟩ := (hT.below hbel hg) k hlt
      obtain ⟨b0, b1, b2, b3⟩ := (hT'.below hbel hg') k hlt
      have e0 := cell_regrown a0
      have e1 := cell_regrown a1
      have e2 := cell_regrown a2
      have e3 := cell_regrown a3
      have f0 := cell_regrown b0
      have f1 := cell_regrown b1
      have f2 := cell_regrown b2
      have f3 := cell_regrown b3
      clear a0 a1 a2 a3 b0 b1 b2 b3
      have cE : ∀ d os, Calls Tryz.prog 49 #[.agg #[.int .u8 ts[k].1, .int .u8 ts[k].2.1, .int .u8 ts[k].2.2.1, .int .i64 ts[k].2.2.2], .agg #[.int .u8 ts[k].1, .int .u8 ts[k].2.1, .int .u8 ts[k].2.2.1, .int .i64 ts[k].2.2.2]] (grow (redrawn wr d) os) fun e w'' => e = .returned (.bool true) ∧ ∃ p : Regrown, w'' = grow (redrawn wr p.d) p.os := fun d os => Calls.regrown_of (eqTerm_refl _ _ _ _ _)
      go_wp2
      refine wp_region_quiet_below (by kernel_rfl) (by kernel_rfl) ?_
      repeat (go_big_quiet_step (with_reducible exact cE _ _))
      refine wpQuiet_nil ?_
      intro _ hw'
      obtain ⟨⟨dq, osq⟩, hw''⟩ := hw'
      subst hw''
      go_wp2
      go_roundw
      case rel => exact ⟨k + 1, by omega, by go_num, hbel.trans ((below_regrown wr dq osq).mono hbel.size)⟩
      case measure => simp [intOf]; omega
    · obtain rfl : k = ts.length := by omega
      go_wp2
      go_ret
      exact ⟨rfl, hbel⟩

theorem eqTermS_zero (a a' : Option Addr) (c c' : Nat) (w : World) :
    Calls Tryz.prog 31 #[.slice a 0 c, .slice a' 0 c'] w fun e w' => e = .returned (.bool true) ∧ Below w.heap.size w w' := by
  go_enter Tryz.func31, Tryz.ntmps31
  go_wp2
  refine wp_loop_rounds 1 ?_
  rw [rounds_succ]
  go_wp2
  go_ret
  exact ⟨rfl, Below.refl _ _⟩

theorem eqTermS_same (v v' : Value) (ts : List Tm) (w : World) (hl : ts.length ≤ 1048576) (hS : SliceT w v ts) (hS' : SliceT w v' ts) :
    Calls Tryz.prog 31 #[v, v'] w fun e w' => e = .returned (.bool true) ∧ Below w.heap.size w w' := by
  obtain ⟨a, cap, rfl, h⟩ := hS
  obtain ⟨a', cap', rfl, h'⟩ := hS'
  cases ts with
  | nil => exact eqTermS_zero _ _ _ _ _
  | cons t r =>
    rcases h with h | ⟨b, off, rfl, hlt, hT⟩
    · cases h
    · rcases h' with h' | ⟨b', off', rfl, hlt', hT'⟩
      · cases h'
      · exact eqTermS_some b off cap b' off' cap' _ w hl hlt hlt' hT hT'

set_option maxHeartbeats 1000000 in
theorem eqPoly_same (p d : Int) (v v' : Value) (ts : List Tm) (w : World) (hl : ts.length ≤ 1048576) (hS : SliceT w v ts) (hS' : SliceT w v' ts) :
    Calls Tryz.prog 12 #[.agg #[.int .i64 p, .int .i64 d, v], .agg #[.int .i64 p, .int .i64 d, v']] w fun e w' => e = .returned (.bool true) ∧ Below w.heap.size w w' := by
  have hp : (p != p) = false := by simp
  have hd : (d != d) = false := by simp
  have h2 : ∀ o1 o2, SliceT ((w.alloc o1).alloc o2) v ts := fun o1 o2 => hS.below (box2 _ _ _)
  have h2' : ∀ o1 o2, SliceT ((w.alloc o1).alloc o2) v' ts := fun o1 o2 => hS'.below (box2 _ _ _)
  obtain ⟨a, cap, hv, _⟩ := id hS
  obtain ⟨a', cap', hv', _⟩ := id hS'
  subst hv hv'
  go_enter Tryz.func12, Tryz.ntmps12
  go_wp2_with fail
  ((with_reducible refine (eqTermS_same _ _ ts _ hl (h2 _ _) (h2' _ _)).mono ?_); rintro e w1 ⟨rfl, hb⟩)
  go_wp2
  go_ret
  exact ⟨rfl, (box2 _ _ _).trans (hb.mono (by simp; omega))⟩

end Go.Proofs.YtbhgbifliihlbaaGreat
namespace Go.Proofs.YtbhgbifliihlbaaGreat
open Go.RowKit Go.Sort

def sumT (t : Tm) : Int := t.1 + t.2.1 + t.2.2.1
def degI (ts : List Tm) : Int := match ts.getLast? with | none => -1 | some t => sumT t
def evenB (ts : List Tm) : Bool := match ts with | [] => true | t :: r => sumT t == degI (t :: r)

theorem chain_sum {p d : Int} : ∀ (ts : List Tm) (o : Option Tm), chain p d o ts = true → ∀ t ∈ ts, sumT t ≤ 12
  | [], _, _, t, ht => by simp at ht
  | a :: r, o, h, t, ht => by
    simp only [chain, Bool.and_eq_true] at h
    rcases List.mem_cons.1 ht with rfl | ht
    · exact termOk_sum h.1
    · exact chain_sum r _ h.2.2 t ht
theorem polyB_sum {p d : Int} {ts : List Tm} (h : isPolyB p d ts = true) : ∀ t ∈ ts, sumT t ≤ 12 := by
  simp only [isPolyB, Bool.and_eq_true] at h
  have := h.2.2
  unfold tailB at this
  exact chain_sum _ _ (by simpa using this)

set_option maxHeartbeats 1000000 in
theorem specDegree_some (p d : Int) (b off cap n : Nat) (x y z : Int) (w : World) (hn : n ≤ 1048576) (hb : b < w.heap.size) (hx : 0 ≤ x ∧ x ≤ 255) (hy : 0 ≤ y ∧ y ≤ 255) (hz : 0 ≤ z ∧ z ≤ 255)
    (c0 : w.cell? ⟨b, off + n * 4, none⟩ = some (.int .u8 x)) (c1 : w.cell? ⟨b, off + n * 4 + 1, none⟩ = some (.int .u8 y)) (c2 : w.cell? ⟨b, off + n * 4 + 2, none⟩ = some (.int .u8 z)) :
    Calls Tryz.prog 81 #[.agg #[.int .i64 p, .int .i64 d, .slice (some ⟨b, off, none⟩) (n + 1) cap]] w fun e w' => e = .returned (.int .i64 (x + y + z)) ∧ Below w.heap.size w w' := by
  have h0 : ((n : Int) + 1 == 0) = false := by simp; omega
  go_enter Tryz.func81, Tryz.ntmps81
  go_wp2_with fail
  ((with_reducible refine (sum_any x y z _ hx hy hz).mono ?_); rintro e w1 ⟨rfl, hb1⟩)
  go_wp2
  go_ret
  exact ⟨rfl, (box1 _ _).trans (hb1.mono (by simp))⟩

set_option maxHeartbeats 1000000 in
theorem degree_some (p d : Int) (b off cap n : Nat) (x y z : Int) (w : World) (hn : n ≤ 1048576) (hb : b < w.heap.size) (hx : 0 ≤ x ∧ x ≤ 255) (hy : 0 ≤ y ∧ y ≤ 255) (hz : 0 ≤ z ∧ z ≤ 255)
    (c0 : w.cell? ⟨b, off + n * 4, none⟩ = some (.int .u8 x)) (c1 : w.cell? ⟨b, off + n * 4 + 1, none⟩ = some (.int .u8 y)) (c2 : w.cell? ⟨b, off + n * 4 + 2, none⟩ = some (.int .u8 z)) :
    Calls Tryz.prog 111 #[.agg #[.int .i64 p, .int .i64 d, .slice (some ⟨b, off, none⟩) (n + 1) cap]] w fun e w' => e = .returned (.int .i64 (capd (x + y + z))) ∧ Below w.heap.size w w' := by
  have h0 : ((n : Int) + 1 == 0) = false := by simp; omega
  have k : ∀ o, (w.alloc o).cell? ⟨b, off + n * 4, none⟩ = some (.int .u8 x) ∧ (w.alloc o).cell? ⟨b, off + n * 4 + 1, none⟩ = some (.int .u8 y) ∧ (w.alloc o).cell? ⟨b, off + n * 4 + 2, none⟩ = some (.int .u8 z) := fun o =>
    ⟨((box1 w o).cell (p := ⟨b, _, none⟩) hb).trans c0, ((box1 w o).cell (p := ⟨b, _, none⟩) hb).trans c1, ((box1 w o).cell (p := ⟨b, _, none⟩) hb).trans c2⟩
  have K := Lib.hid k
  clear k
  go_enter Tryz.func111, Tryz.ntmps111
  go_wp2_with fail
  ((with_reducible refine (capped_any _ _ _ x y z _ hx hy hz (K.out _).1 (K.out _).2.1 (K.out _).2.2).mono ?_); rintro e w1 ⟨rfl, rfl⟩)
  go_wp2
  go_ret
  exact ⟨rfl, box1 _ _⟩

theorem specDegree_nil (p d : Int) (a : Option Addr) (cap : Nat) (w : World) :
    Calls Tryz.prog 81 #[.agg #[.int .i64 p, .int .i64 d, .slice a 0 cap]] w fun e w' => e = .returned (.int .i64 (-1)) ∧ Below w.heap.size w w' := by
  go_enter Tryz.func81, Tryz.ntmps81
  go_wp2
  go_ret
  exact ⟨rfl, box1 _ _⟩
theorem degree_nil (p d : Int) (a : Option Addr) (cap : Nat) (w : World) :
    Calls Tryz.prog 111 #[.agg #[.int .i64 p, .int .i64 d, .slice a 0 cap]] w fun e w' => e = .returned (.int .i64 (-1)) ∧ Below w.heap.size w w' := by
  go_enter Tryz.func111, Tryz.ntmps111
  go_wp2
  go_ret
  exact ⟨rfl, box1 _ _⟩

theorem degI_at (ts : List Tm) (n : Nat) (t : Tm) (h : ts.length = n + 1) (ht : ts[n]? = some t) : degI ts = sumT t := by
  unfold degI
  have : ts.getLast? = some t := by
    rw [List.getLast?_eq_getElem?, h]; simpa using ht
  rw [this]

theorem specDegree_any (p d : Int) (v : Value) (ts : List Tm) (w : World) (hl : ts.length ≤ 1048576) (hS : SliceT w v ts) (hby : ∀ t ∈ ts, tmByte t) :
    Calls Tryz.prog 81 #[.agg #[.int .i64 p, .int .i64 d, v]] w fun e w' => e = .returned (.int .i64 (degI ts)) ∧ Below w.heap.size w w' := by
  obtain ⟨a, cap, rfl, h⟩ := hS
  by_cases h0 : ts = []
  · subst h0; exact specDegree_nil p d a cap w
  · rcases h with h | ⟨b, off, rfl, hlt, hT⟩
    · exact absurd h h0
    · obtain ⟨n, hn⟩ : ∃ n, ts.length = n + 1 := ⟨ts.length - 1, by have := List.length_pos_iff.2 h0; omega⟩
      have hnl : n < ts.length := by omega
      obtain ⟨c0, c1, c2, _⟩ := hT n hnl
      obtain ⟨⟨bx, by1, bz⟩, _⟩ := hby _ (List.getElem_mem hnl)
      have hd := degI_at ts n _ hn (List.getElem?_eq_getElem hnl)
      generalize ts[n] = t at *
      rw [hd, hn]
      exact specDegree_some p d b off cap n _ _ _ w (by omega) hlt bx by1 bz c0 c1 c2
theorem degree_any2 (p d : Int) (v : Value) (ts : List Tm) (w : World) (hl : ts.length ≤ 1048576) (hS : SliceT w v ts) (hby : ∀ t ∈ ts, tmByte t) (hs : ∀ t ∈ ts, sumT t ≤ 12) :
    Calls Tryz.prog 111 #[.agg #[.int .i64 p, .int .i64 d, v]] w fun e w' => e = .returned (.int .i64 (degI ts)) ∧ Below w.heap.size w w' := by
  obtain ⟨a, cap, rfl, h⟩ := hS
  by_cases h0 : ts = []
  · subst h0; exact degree_nil p d a cap w
  · rcases h with h | ⟨b, off, rfl, hlt, hT⟩
    · exact absurd h h0
    · obtain ⟨n, hn⟩ : ∃ n, ts.length = n + 1 := ⟨ts.length - 1, by have := List.length_pos_iff.2 h0; omega⟩
      have hnl : n < ts.length := by omega
      obtain ⟨c0, c1, c2, _⟩ := hT n hnl
      obtain ⟨⟨bx, by1, bz⟩, _⟩ := hby _ (List.getElem_mem hnl)
      have hd := degI_at ts n _ hn (List.getElem?_eq_getElem hnl)
      have hc := hs _ (List.getElem_mem hnl)
      generalize ts[n] = t at *
      have hc' : capd (sumT t) = sumT t := by unfold capd; rw [if_pos hc]
      rw [hd, ← hc', hn]
      exact degree_some p d b off cap n _ _ _ w (by omega) hlt bx by1 bz c0 c1 c2

end Go.Proofs.YtbhgbifliihlbaaGreat
namespace Go.Proofs.YtbhgbifliihlbaaGreat
open Go.RowKit Go.Sort Go.Maps

theorem before_sum {a b : Int × Int × Int} (h : beforeB a b = true) : a.1 + a.2.1 + a.2.2 ≤ b.1 + b.2.1 + b.2.2 := by
  obtain ⟨x, y, z⟩ := a
  obtain ⟨x', y', z'⟩ := b
  unfold beforeB at h
  simp at h
  split at h
  · simp only []; omega
  · simp only []; omega
/-- The degrees of all terms are at most that of the last one. -/
theorem deg_le {p d : Int} {ts : List Tm} (h : Valid p d ts) : ∀ t ∈ ts, t.1 + t.2.1 + t.2.2.1 ≤ degI ts := by
  intro t ht
  unfold degI
  cases hl : ts.getLast? with
  | none => rw [List.getLast?_eq_none_iff] at hl; subst hl; simp at ht
  | some u =>
    obtain ⟨pre, rfl⟩ := List.getLast?_eq_some_iff.1 hl
    have hp := List.pairwise_append.1 h.asc
    rcases List.mem_append.1 ht with ht | ht
    · exact before_sum (hp.2.2 t ht u (by simp))
    · simp at ht
      subst ht
      exact Int.le_refl _
theorem fits_of {p d : Int} {xs ys : List Tm} (h : Valid p d xs) (h' : Valid p d ys) (hd : xs = [] ∨ ys = [] ∨ degI xs + degI ys ≤ 12) : Fits xs ys := by
  intro s hs t ht
  rcases hd with rfl | rfl | hd
  · simp at hs
  · simp at ht
  · have h1 := deg_le h s hs
    have h2 := deg_le h' t ht
    omega
theorem deg_bound {p d : Int} {ts : List Tm} (h : Valid p d ts) : -1 ≤ degI ts ∧ degI ts ≤ 12 := by
  unfold degI
  cases hl : ts.getLast? with
  | none => simp
  | some u =>
    simp only [sumT]
    obtain ⟨⟨⟨a, b, c⟩, e⟩, _⟩ := h.mem u (List.mem_of_getLast? hl)
    simp only [tmE] at a b c
    omega
theorem Valid.byte {p d : Int} {ts : List Tm} (h : Valid p d ts) : ∀ t ∈ ts, tmByte t := by
  have := h.p13
  exact h.isP.byte this

set_option maxRecDepth 8000 in
set_option maxHeartbeats 8000000 in
theorem specTimes_nil (p d : Int) (v v' : Value) (xs ys : List Tm) (w : World) (hS : SliceT w v xs) (hS' : SliceT w v' ys) (hl : xs.length ≤ 1048576) (hl' : ys.length ≤ 1048576) (h0 : xs = [] ∨ ys = []) :
    Calls Tryz.prog 83 #[.agg #[.int .i64 p, .int .i64 d, v], .agg #[.int .i64 p, .int .i64 d, v']] w fun e w' =>
      ∃ v', e = .returned (.tuple #[.agg #[.int .i64 p, .int .i64 d, v'], .bool true]) ∧ OwnP w' w.heap.size v' [] ∧ Below w.heap.size w w' := by
  obtain ⟨a, cap, rfl, _⟩ := id hS
  obtain ⟨a', cap', rfl, _⟩ := id hS'
  obtain ⟨W, hW, hbW, ⟨hWs1, hWs2⟩, rx, ry, rr⟩ := pair3 w p d (.slice a xs.length cap) p d (.slice a' ys.length cap')
  obtain ⟨⟨c0, c1, c2⟩, _⟩ := poly3 rx
  go_enter Tryz.func83, Tryz.ntmps83
  go_wp2_with fail
  rw [← hW]
  clear hW c0 c1 c2
  ((with_reducible refine (empty_any p d W).mono ?_); rintro e w1 ⟨rfl, hown, hb1⟩)
  obtain ⟨V, hV1, hbV, ⟨hVs1, hVs2⟩, rq⟩ : ∃ V, V = w1.alloc (.cells #[.int .i64 p, .int .i64 d, .slice (some ⟨W.heap.size + 1, 0, none⟩) 0 0] 39) ∧ Below w1.heap.size w1 V ∧ (V.heap.size ≤ w1.heap.size + 1 ∧ w1.heap.size + 1 ≤ V.heap.size) ∧
      V.rowIs w1.heap.size 39 3 (polyF p d (.slice (some ⟨W.heap.size + 1, 0, none⟩) 0 0)) := by
    refine ⟨_, rfl, box1 _ _, ⟨by simp, by simp⟩, ?_⟩
    exact World.rowIs_alloc w1 #[Value.int .i64 p, .int .i64 d, .slice (some ⟨W.heap.size + 1, 0, none⟩) 0 0] _ _ (fun i hi => by simp at hi; match i, hi with | 0, _ => rfl | 1, _ => rfl | 2, _ => rfl)
  have s1 := hb1.size
  have hbWV := hb1.trans (hbV.mono hb1.size)
  have hst : Part2 w V W.heap.size w1.heap.size w.heap.size (w.heap.size + 1) (w.heap.size + 2) p d p d (.slice a xs.length cap) (.slice a' ys.length cap') (.slice (some ⟨W.heap.size + 1, 0, none⟩) 0 0) [] :=
    ⟨⟨owns_belowT hown hbV, rq, rowIs_below rx hbWV rx.lt, rowIs_below rr hbWV rr.lt, hbW.trans (hbWV.mono hbW.size), by omega, by omega, by omega, by omega, by omega, by omega⟩, rowIs_below ry hbWV ry.lt, by omega⟩
  have rx1 := rowIs_below rx hb1 rx.lt
  have ry1 := rowIs_below ry hb1 ry.lt
  have rr1 := rowIs_below rr hb1 rr.lt
  have xo : ∀ o, (w1.alloc o).cell? ⟨w.heap.size, 2, none⟩ = some (.slice a xs.length cap) := fun o => ((box1 w1 o).cell rx1.lt).trans (poly3 rx1).1.2.2
  have yo : ∀ o, (w1.alloc o).cell? ⟨w.heap.size + 1, 2, none⟩ = some (.slice a' ys.length cap') := fun o => ((box1 w1 o).cell ry1.lt).trans (poly3 ry1).1.2.2
  obtain ⟨⟨r0, r1, r2⟩, y0, y1, y2⟩ := poly3 hst.part.res
  obtain ⟨⟨q0, q1, q2⟩, _⟩ := poly3 hst.part.out
  obtain ⟨a0, a1, a2, a3, a4⟩ := hst.part.finish p d
  have A0 := Lib.hid a0
  have A1 := Lib.hid a1
  have A2 := Lib.hid a2
  have A3 := Lib.hid a3
  have A4 := Lib.hid a4
  have ro : ∀ o, ((w1.alloc o).cell? ⟨w.heap.size + 2, 0, none⟩ = some (.int .i64 0) ∧ (w1.alloc o).cell? ⟨w.heap.size + 2, 1, none⟩ = some (.int .i64 0) ∧ (w1.alloc o).cell? ⟨w.heap.size + 2, 2, none⟩ = some (.slice none 0 0)) ∧ (w1.alloc o).frozen? ⟨w.heap.size + 2, 0, none⟩ = false ∧ (w1.alloc o).frozen? ⟨w.heap.size + 2, 1, none⟩ = false ∧ (w1.alloc o).frozen? ⟨w.heap.size + 2, 2, none⟩ = false := fun o => poly3 (rowIs_below rr1 (box1 _ o) rr1.lt)
  clear a0 a1 a2 a3 a4 rx ry rr rq hown hst rx1 ry1 rr1
  by_cases hx : xs = []
  · subst hx
    have hz : (([] : List Tm).length : Int) = 0 := rfl
    go_wp2_with fail
    rw [← hV1]
    exact bodyPost_ret (v := .tuple #[.agg #[.int .i64 p, .int .i64 d, .slice (some ⟨W.heap.size + 1, 0, none⟩) 0 0], .bool true]) (by simp [results, Tryz.results83, go_sem, A0.out, A1.out, A2.out]) rfl ⟨_, rfl, A3.out, A4.out⟩
  · have hy : ys = [] := by rcases h0 with h | h; exact absurd h hx; exact h
    subst hy
    have hz : ((xs.length : Int) == 0) = false := by simpa using hx
    have hz' : (([] : List Tm).length : Int) = 0 := rfl
    go_wp2_with fail
    rw [← hV1]
    exact bodyPost_ret (v := .tuple #[.agg #[.int .i64 p, .int .i64 d, .slice (some ⟨W.heap.size + 1, 0, none⟩) 0 0], .bool true]) (by simp [results, Tryz.results83, go_sem, A0.out, A1.out, A2.out]) rfl ⟨_, rfl, A3.out, A4.out⟩
end Go.Proofs.YtbhgbifliihlbaaGreat
namespace Go.Proofs.YtbhgbifliihlbaaGreat
open Go.RowKit Go.Sort Go.Maps

def tmF (x y z u : Int) (i : Nat) : Value := #[Value.int .u8 x, .int .u8 y, .int .u8 z, .int .i64 u].getD i undef

theorem trow (w : World) (x y z u : Int) : (w.alloc (.cells #[.int .u8 x, .int .u8 y, .int .u8 z, .int .i64 u] 57)).rowIs w.heap.size 57 4 (tmF x y z u) :=
  World.rowIs_alloc w #[Value.int .u8 x, .int .u8 y, .int .u8 z, .int .i64 u] _ _ (fun i hi => by simp at hi; match i, hi with | 0, _ => rfl | 1, _ => rfl | 2, _ => rfl | 3, _ => rfl)
theorem trow1 (w : World) (o : Obj) (x y z u : Int) : ((w.alloc o).alloc (.cells #[.int .u8 x, .int .u8 y, .int .u8 z, .int .i64 u] 57)).rowIs (w.heap.size + 1) 57 4 (tmF x y z u) := by
  have := trow (w.alloc o) x y z u
  rwa [World.size_alloc] at this

set_option maxRecDepth 8000 in
set_option maxHeartbeats 16000000 in
theorem specTimes_some (p d : Int) (v v' : Value) (xs ys : List Tm) (w : World) (hS : SliceT w v xs) (hS' : SliceT w v' ys) (hV : Valid p d xs) (hV' : Valid p d ys) (hx0 : xs ≠ []) (hy0 : ys ≠ []) (hd : degI xs + degI ys ≤ 12) :
    Calls Tryz.prog 83 #[.agg #[.int .i64 p, .int .i64 d, v], .agg #[.int .i64 p, .int .i64 d, v']] w fun e w' =>
      ∃ v' L, e = .returned (.tuple #[.agg #[.int .i64 p, .int .i64 d, v'], .bool true]) ∧ OwnP w' w.heap.size v' L ∧ IsP p L (mulF p xs ys) ∧ Below w.heap.size w w' := by
  have hfit : Fits xs ys := fits_of hV hV' (.inr (.inr hd))
  have hp2 := hV.p2
  have hp13 := hV.p13
  have hlx := hV.isP.len
  have hly := hV'.isP.len
  have hbx := hV.byte
  have hby := hV'.byte
  obtain ⟨dx1, dx2⟩ := deg_bound hV
  obtain ⟨dy1, dy2⟩ := deg_bound hV'
  obtain ⟨a, cap, rfl, _⟩ := id hS
  obtain ⟨a', cap', rfl, _⟩ := id hS'
  obtain ⟨W, hW, hbW, ⟨hWs1, hWs2⟩, rx, ry, rr⟩ := pair3 w p d (.slice a xs.length cap) p d (.slice a' ys.length cap')
  obtain ⟨⟨c0, c1, c2⟩, _⟩ := poly3 rx
  go_enter Tryz.func83, Tryz.ntmps83
  go_wp2_with fail
  rw [← hW]
  clear hW c0 c1 c2
  ((with_reducible refine (empty_any p d W).mono ?_); rintro e w1 ⟨rfl, hown, hb1⟩)
  obtain ⟨V, hV1, hbV, ⟨hVs1, hVs2⟩, rq⟩ : ∃ V, V = w1.alloc (.cells #[.int .i64 p, .int .i64 d, .slice (some ⟨W.heap.size + 1, 0, none⟩) 0 0] 39) ∧ Below w1.heap.size w1 V ∧ (V.heap.size ≤ w1.heap.size + 1 ∧ w1.heap.size + 1 ≤ V.heap.size) ∧
      V.rowIs w1.heap.size 39 3 (polyF p d (.slice (some ⟨W.heap.size + 1, 0, none⟩) 0 0)) := by
    refine ⟨_, rfl, box1 _ _, ⟨by simp, by simp⟩, ?_⟩
    exact World.rowIs_alloc w1 #[Value.int .i64 p, .int .i64 d, .slice (some ⟨W.heap.size + 1, 0, none⟩) 0 0] _ _ (fun i hi => by simp at hi; match i, hi with | 0, _ => rfl | 1, _ => rfl | 2, _ => rfl)
  have s1 := hb1.size
  have hbWV := hb1.trans (hbV.mono hb1.size)
  have hst : Part2 w V W.heap.size w1.heap.size w.heap.size (w.heap.size + 1) (w.heap.size + 2) p d p d (.slice a xs.length cap) (.slice a' ys.length cap') (.slice (some ⟨W.heap.size + 1, 0, none⟩) 0 0) [] :=
    ⟨⟨owns_belowT hown hbV, rq, rowIs_below rx hbWV rx.lt, rowIs_below rr hbWV rr.lt, hbW.trans (hbWV.mono hbW.size), by omega, by omega, by omega, by omega, by omega, by omega⟩, rowIs_below ry hbWV ry.lt, by omega⟩
  have rx1 := rowIs_below rx hb1 rx.lt
  have ry1 := rowIs_below ry hb1 ry.lt
  have xo : ∀ o, (w1.alloc o).cell? ⟨w.heap.size, 2, none⟩ = some (.slice a xs.length cap) := fun o => ((box1 w1 o).cell rx1.lt).trans (poly3 rx1).1.2.2
  have yo : ∀ o, (w1.alloc o).cell? ⟨w.heap.size + 1, 2, none⟩ = some (.slice a' ys.length cap') := fun o => ((box1 w1 o).cell ry1.lt).trans (poly3 ry1).1.2.2
  have hz : ((xs.length : Int) == 0) = false := by simpa using hx0
  have hz' : ((ys.length : Int) == 0) = false := by simpa using hy0
  have hSV := hS.below hst.part.below
  have hSV' := hS'.below hst.part.below
  obtain ⟨⟨c0, c1, c2⟩, _⟩ := poly3 hst.part.arg
  obtain ⟨⟨d0, d1, d2⟩, _⟩ := poly3 hst.arg2
  have u0 := cell_regrown c0
  have u1 := cell_regrown c1
  have u2 := cell_regrown c2
  have t0 := cell_regrown d0
  have t1 := cell_regrown d1
  have t2 := cell_regrown d2
  have hw : IntKind.i64.wrap (degI xs + degI ys) = degI xs + degI ys := IntWalk.i64_in _ (by omega)
  have kx : ∀ dd os, Calls Tryz.prog 81 #[.agg #[.int .i64 p, .int .i64 d, .slice a xs.length cap]] (grow (redrawn V dd) os) fun e w'' => e = .returned (.int .i64 (degI xs)) ∧ ∃ p : Regrown, w'' = grow (redrawn V p.d) p.os := fun dd os =>
    Calls.regrown_of (specDegree_any p d _ xs _ (by omega) (hSV.below (below_regrown V dd os)) hbx)
  have ky : ∀ dd os, Calls Tryz.prog 81 #[.agg #[.int .i64 p, .int .i64 d, .slice a' ys.length cap']] (grow (redrawn V dd) os) fun e w'' => e = .returned (.int .i64 (degI ys)) ∧ ∃ p : Regrown, w'' = grow (redrawn V p.d) p.os := fun dd os =>
    Calls.regrown_of (specDegree_any p d _ ys _ (by omega) (hSV'.below (below_regrown V dd os)) hby)
  generalize degI xs = gx at *
  generalize degI ys = gy at *
  have hle : ¬ 12 < gx + gy := by omega
  have hle2 : decide (12 < gx + gy) = false := by simpa using hle
  clear rx ry rr rq hown rx1 ry1 hbx hby hSV hSV'
  go_wp2_with fail
  rw [← hV1]
  clear hV1 xo yo
  refine wp_region_quiet_below (by kernel_rfl) (by kernel_rfl) ?_
  repeat (go_big_quiet_step (first | with_reducible exact kx _ _ | with_reducible exact ky _ _))
  refine wpQuiet_nil ?_
  intro _ hw'
  obtain ⟨⟨dq, osq⟩, hw''⟩ := hw'
  subst hw''
  have hst2 := hst.later (below_regrown V dq osq)
  clear hst kx ky u0 u1 u2 t0 t1 t2 c0 c1 c2 d0 d1 d2
  generalize grow (redrawn V dq) osq = V2 at *
  try simp only [hw]
  go_wp2_with fail
  go_loopw [7] (fun j wr => ∃ (i : Nat) (sv : Value) (O : List Tm), i ≤ xs.length ∧ j = .int .i64 i ∧ Hid (IsP p O (mulF p (xs.take i) ys)) ∧ Part2 w wr W.heap.size w1.heap.size w.heap.size (w.heap.size + 1) (w.heap.size + 2) p d p d (.slice a xs.length cap) (.slice a' ys.length cap') sv O) (fun j _ => xs.length - (intOf j).toNat)
  case atStart => exact ⟨0, _, [], by omega, rfl, Lib.hid ((IsP.nil p).congr fun e _ => by simp [mulF_nil]), hst2⟩
  case round =>
    clear hst2
    obtain ⟨i, sv, O, hi, rfl, HO, hB⟩ := hrel
    obtain ⟨wo, rfl⟩ : ∃ wo : World, wo = wr := ⟨_, rfl⟩
    obtain ⟨⟨x0, x1, x2⟩, _⟩ := poly3 hB.part.arg
    by_cases hlt1 : i < xs.length
    · have hlt' : (i : Int) < (xs.length : Int) := by omega
      go_wp2_with fail
      go_loopw [8] (fun j wr => ∃ (k : Nat) (sv : Value) (O : List Tm), k ≤ ys.length ∧ j = .int .i64 k ∧ Hid (IsP p O (prt p xs ys i xs[i] k)) ∧ Part2 w wr W.heap.size w1.heap.size w.heap.size (w.heap.size + 1) (w.heap.size + 2) p d p d (.slice a xs.length cap) (.slice a' ys.length cap') sv O) (fun j _ => ys.length - (intOf j).toNat)
      case atStart => exact ⟨0, _, _, by omega, rfl, Lib.hid (HO.out.congr fun e _ => (prt_zero p xs ys i xs[i] e).symm), hB⟩
      case round =>
        clear hB HO x0 x1 x2
        obtain ⟨k, sv, O, hk, rfl, HO, hB⟩ := hrel
        have hSr := hS.below hB.part.below
        have hSr' := hS'.below hB.part.below
        obtain ⟨sa, sc, rfl⟩ := owns_slice hB.part.rows
        obtain ⟨⟨x0, x1, x2⟩, _⟩ := poly3 hB.part.arg
        obtain ⟨⟨y0, y1, y2⟩, _⟩ := poly3 hB.arg2
        obtain ⟨⟨q0, q1, q2⟩, z0, z1, z2⟩ := poly3 hB.part.out
        by_cases hlt2 : k < ys.length
        · have hlt2' : (k : Int) < (ys.length : Int) := by omega
          obtain ⟨A1, cap1, hv1, hcase1⟩ := hSr
          simp at hv1
          obtain ⟨rfl, rfl⟩ := hv1
          rcases hcase1 with h0 | ⟨b1, off1, rfl, hltb1, hTx⟩
          · rw [h0] at hlt1; exact absurd hlt1 (by simp)
          obtain ⟨A2, cap2, hv2, hcase2⟩ := hSr'
          simp at hv2
          obtain ⟨rfl, rfl⟩ := hv2
          rcases hcase2 with h0 | ⟨b2, off2, rfl, hltb2, hTy⟩
          · rw [h0] at hlt2; exact absurd hlt2 (by simp)
          obtain ⟨c0, c1, c2, c3⟩ := hTx i hlt1
          obtain ⟨d0, d1, d2, d3⟩ := hTy k hlt2
          obtain ⟨⟨⟨bx, by1, bz⟩, hs12⟩, bv1, bv2⟩ := hV.mem xs[i] (List.getElem_mem _)
          obtain ⟨⟨⟨bx', by1', bz'⟩, hs12'⟩, bv1', bv2'⟩ := hV'.mem ys[k] (List.getElem_mem _)
          have hft := hfit xs[i] (List.getElem_mem _) ys[k] (List.getElem_mem _)
          have hE : mono12 (addE (tmE xs[i]) (tmE ys[k])) := addE_mono ⟨bx, by1, bz⟩ ⟨bx', by1', bz'⟩ hft
          have HP : Hid (IsP p (putL p O (addE (tmE xs[i]) (tmE ys[k])) (xs[i].2.2.2 * ys[k].2.2.2)) (prt p xs ys i xs[i] (k + 1))) := Lib.hid ((HO.out.put hp2 hE (xs[i].2.2.2 * ys[k].2.2.2)).congr fun e _ => (prt_step p xs ys i xs[i] k hlt2 e).symm)
          have HO' := Lib.hid HO.out
          clear HO
          generalize hF : prt p xs ys i xs[i] k = F at HO'
          generalize hF' : prt p xs ys i xs[i] (k + 1) = F' at HP ⊢
          simp only [tmE] at bx by1 bz bx' by1' bz'
          simp only [addE, tmE] at HP hE
          clear hF
          generalize hx : xs[i].1 = x at bx by1 bz c0 hft HP hE
          generalize hy : xs[i].2.1 = y at bx by1 bz c1 hft HP hE
          generalize hz2 : xs[i].2.2.1 = z at bx by1 bz c2 hft HP hE
          generalize hv : xs[i].2.2.2 = u at bv1 bv2 c3 HP
          generalize hx' : ys[k].1 = x' at bx' by1' bz' d0 hft HP hE
          generalize hy' : ys[k].2.1 = y' at bx' by1' bz' d1 hft HP hE
          generalize hz' : ys[k].2.2.1 = z' at bx' by1' bz' d2 hft HP hE
          generalize hv' : ys[k].2.2.2 = u' at bv1' bv2' d3 HP
          have hE1 : byte3 (x + x', y + y', z + z') := (show mono12 (x + x', y + y', z + z') from hE).1
          clear hE hx hy hz2 hv hx' hy' hz' hv' hTx hTy hs12 hs12'
          have g1 : 0 ≤ u * u' := Int.mul_nonneg (by omega) (by omega)
          have g2 : u * u' ≤ 13 * 13 := Int.mul_le_mul (by omega) (by omega) (by omega) (by omega)
          have w0 : IntKind.i64.wrap (u * u') = u * u' := IntWalk.i64_in _ (by omega)
          have w1' : IntKind.u8.wrap (x + x') = x + x' := IntWalk.u8_in _ (by omega)
          have w2' : IntKind.u8.wrap (y + y') = y + y' := IntWalk.u8_in _ (by omega)
          have w3' : IntKind.u8.wrap (z + z') = z + z' := IntWalk.u8_in _ (by omega)
          have hla := hB.part.arg.lt
          have hla' := hB.arg2.lt
          have KK := Lib.hid (fun w' (h : Below wr.heap.size wr w') => show ((w'.cell? ⟨w.heap.size, 2, none⟩ = some (.slice (some ⟨b1, off1, none⟩) xs.length cap) ∧ w'.cell? ⟨w.heap.size + 1, 2, none⟩ = some (.slice (some ⟨b2, off2, none⟩) ys.length cap')) ∧ (w'.cell? ⟨b1, off1 + i * 4, none⟩ = some (.int .u8 x) ∧ w'.cell? ⟨b1, off1 + i * 4 + 1, none⟩ = some (.int .u8 y) ∧ w'.cell? ⟨b1, off1 + i * 4 + 2, none⟩ = some (.int .u8 z) ∧ w'.cell? ⟨b1, off1 + i * 4 + 3, none⟩ = some (.int .i64 u)) ∧ (w'.cell? ⟨b2, off2 + k * 4, none⟩ = some (.int .u8 x') ∧ w'.cell? ⟨b2, off2 + k * 4 + 1, none⟩ = some (.int .u8 y') ∧ w'.cell? ⟨b2, off2 + k * 4 + 2, none⟩ = some (.int .u8 z') ∧ w'.cell? ⟨b2, off2 + k * 4 + 3, none⟩ = some (.int .i64 u'))) from
            ⟨⟨(h.cell (p := ⟨_, _, none⟩) hla).trans x2, (h.cell (p := ⟨_, _, none⟩) hla').trans y2⟩,
              ⟨(h.cell (p := ⟨_, _, none⟩) hltb1).trans c0, (h.cell (p := ⟨_, _, none⟩) hltb1).trans c1, (h.cell (p := ⟨_, _, none⟩) hltb1).trans c2, (h.cell (p := ⟨_, _, none⟩) hltb1).trans c3⟩,
              ⟨(h.cell (p := ⟨_, _, none⟩) hltb2).trans d0, (h.cell (p := ⟨_, _, none⟩) hltb2).trans d1, (h.cell (p := ⟨_, _, none⟩) hltb2).trans d2, (h.cell (p := ⟨_, _, none⟩) hltb2).trans d3⟩⟩)
          go_upto_region 12 with fail
          go_cut [9, 10] (fun s9 s10 wx => ∃ ba bb, s9 = .pointer (some ⟨ba, 0, none⟩) ∧ s10 = .pointer (some ⟨bb, 0, none⟩) ∧ wx.rowIs ba 57 4 (tmF x y z u) ∧ wx.rowIs bb 57 4 (tmF x' y' z' u') ∧ Below wr.heap.size wr wx)
          case first =>
            go_region_held3 (fun w' => ((w'.cell? ⟨w.heap.size, 2, none⟩ = some (.slice (some ⟨b1, off1, none⟩) xs.length cap) ∧ w'.cell? ⟨w.heap.size + 1, 2, none⟩ = some (.slice (some ⟨b2, off2, none⟩) ys.length cap')) ∧ (w'.cell? ⟨b1, off1 + i * 4, none⟩ = some (.int .u8 x) ∧ w'.cell? ⟨b1, off1 + i * 4 + 1, none⟩ = some (.int .u8 y) ∧ w'.cell? ⟨b1, off1 + i * 4 + 2, none⟩ = some (.int .u8 z) ∧ w'.cell? ⟨b1, off1 + i * 4 + 3, none⟩ = some (.int .i64 u)) ∧ (w'.cell? ⟨b2, off2 + k * 4, none⟩ = some (.int .u8 x') ∧ w'.cell? ⟨b2, off2 + k * 4 + 1, none⟩ = some (.int .u8 y') ∧ w'.cell? ⟨b2, off2 + k * 4 + 2, none⟩ = some (.int .u8 z') ∧ w'.cell? ⟨b2, off2 + k * 4 + 3, none⟩ = some (.int .i64 u'))))
              (first | with_reducible exact KK.out _ (Below.same _).drew | with_reducible exact KK.out _ (box1 _ _) | with_reducible exact KK.out _ (box1 _ _).drew | with_reducible exact KK.out _ (box2 _ _ _) | with_reducible exact KK.out _ (box2 _ _ _).drew)
              (fail)
            all_goals
              go_wp2_with fail
              go_meet
              first
                | exact ⟨wr.heap.size, wr.heap.size + 1, rfl, rfl, (trow wr x y z u).alloc _, trow1 wr _ x' y' z' u', (box2 _ _ _).drew⟩
                | exact ⟨wr.heap.size + 1, wr.heap.size, rfl, rfl, trow1 wr _ x y z u, (trow wr x' y' z' u').alloc _, (box2 _ _ _).drew⟩
          case rest =>
            obtain ⟨ba, bb, rfl, rfl, ra, rb, hbx⟩ := hcut
            have hBU := hB.later hbx
            obtain ⟨⟨q0, q1, q2⟩, _⟩ := poly3 hBU.part.out
            have m0 := ra.cell (i := 0) (by omega)
            have m1 := ra.cell (i := 1) (by omega)
            have m2 := ra.cell (i := 2) (by omega)
            have m3 := ra.cell (i := 3) (by omega)
            have n0 := rb.cell (i := 0) (by omega)
            have n1 := rb.cell (i := 1) (by omega)
            have n2 := rb.cell (i := 2) (by omega)
            have n3 := rb.cell (i := 3) (by omega)
            simp [tmF] at m0 m1 m2 m3 n0 n1 n2 n3
            go_wp2_with fail
            ((with_reducible refine (specPut p d _ O F _ _ _ _ _ (OwnP.slice hBU.part.rows) HO'.out hp2 hp13 hE1 g1 (by omega)).mono ?_); rintro e w2 ⟨v2, rfl, ho2, hb2⟩)
            obtain ⟨sa2, sc2, rfl⟩ := owns_slice ho2
            have hU2 := hBU.later hb2
            have hB3 := hBU.put hb2 ho2 hBU.part.b2
            obtain ⟨⟨j0, j1, j2⟩, jz0, jz1, jz2⟩ := poly3 hU2.part.out
            clear ho2 hBU hB HO' KK q0 q1 q2 z0 z1 z2 c0 c1 c2 c3 d0 d1 d2 d3 x0 x1 x2 y0 y1 y2 m0 m1 m2 m3 n0 n1 n2 n3 ra rb
            go_wp2_with fail
            go_roundw
            case rel => exact ⟨k + 1, _, _, by omega, by go_num, by rw [hF']; exact HP, hB3⟩
            case measure => simp [intOf]; omega
        · obtain rfl : k = ys.length := by omega
          have HO2 : Hid (IsP p O (mulF p (xs.take (i + 1)) ys)) := Lib.hid (HO.out.congr fun e _ => prt_full p xs ys i hlt1 e)
          clear hSr hSr' HO
          go_wp2_with fail
          go_roundw
          case rel => exact ⟨i + 1, _, _, by omega, by go_num, HO2, hB⟩
          case measure => simp [intOf]; omega
    · obtain rfl : i = xs.length := by omega
      obtain ⟨sa, sc, rfl⟩ := owns_slice hB.part.rows
      obtain ⟨⟨r0, r1, r2⟩, y0, y1, y2⟩ := poly3 hB.part.res
      obtain ⟨⟨q0, q1, q2⟩, _⟩ := poly3 hB.part.out
      have hD := HO.out
      rw [List.take_length] at hD
      have HD := Lib.hid hD
      obtain ⟨a0, a1, a2, a3, a4⟩ := hB.part.finish p d
      have A0 := Lib.hid a0
      have A1 := Lib.hid a1
      have A2 := Lib.hid a2
      have A3 := Lib.hid a3
      have A4 := Lib.hid a4
      clear HO hD a0 a1 a2 a3 a4 hB
      go_wp2_with fail
      exact bodyPost_ret (v := .tuple #[.agg #[.int .i64 p, .int .i64 d, .slice sa O.length sc], .bool true]) (by simp [results, Tryz.results83, go_sem, A0.out, A1.out, A2.out]) rfl ⟨_, O, rfl, A3.out, HD.out, A4.out⟩
end Go.Proofs.YtbhgbifliihlbaaGreat
namespace Go.Proofs.YtbhgbifliihlbaaGreat
open Go.RowKit Go.Sort

/-- A slice of terms in a block below B. -/
def SliceB (w : World) (B : Nat) (v : Value) (ts : List Tm) : Prop :=
  ∃ a cap, v = .slice a ts.length cap ∧ (ts = [] ∨ ∃ b off, a = some ⟨b, off, none⟩ ∧ b < B ∧ Terms w b off ts)
theorem SliceT.bound {w : World} {v : Value} {ts : List Tm} (h : SliceT w v ts) : SliceB w w.heap.size v ts := h
theorem SliceB.slice {w : World} {B : Nat} {v : Value} {ts : List Tm} (h : SliceB w B v ts) (hB : B ≤ w.heap.size) : SliceT w v ts := by
  obtain ⟨a, cap, hv, h | ⟨b, off, ha, hlt, hT⟩⟩ := h
  · exact ⟨a, cap, hv, .inl h⟩
  · exact ⟨a, cap, hv, .inr ⟨b, off, ha, Nat.lt_of_lt_of_le hlt hB, hT⟩⟩
theorem SliceB.kept {w w' : World} {B : Nat} {v : Value} {ts : List Tm} {row : Option Nat} (h : SliceB w B v ts) (hg : w.grownBy w' row) (hB : B ≤ w.heap.size) (hr : ∀ g, row = some g → B ≤ g) : SliceB w' B v ts := by
  obtain ⟨a, cap, hv, h | ⟨b, off, ha, hlt, hT⟩⟩ := h
  · exact ⟨a, cap, hv, .inl h⟩
  · refine ⟨a, cap, hv, .inr ⟨b, off, ha, hlt, fun k hk => ?_⟩⟩
    have hb := hg.block b (Nat.lt_of_lt_of_le hlt hB) (fun e => by have := hr b e.symm; omega)
    obtain ⟨h0, h1, h2, h3⟩ := hT k hk
    exact ⟨(World.cell?_of_block (w := w) (a := ⟨b, _, none⟩) hb).trans h0, (World.cell?_of_block (w := w) (a := ⟨b, _, none⟩) hb).trans h1, (World.cell?_of_block (w := w) (a := ⟨b, _, none⟩) hb).trans h2, (World.cell?_of_block (w := w) (a := ⟨b, _, none⟩) hb).trans h3⟩
theorem below_grown {w w' : World} (h : Below w.heap.size w w') : w.grownBy w' none := ⟨h.os, h.tape, h.output, h.size, fun k hk _ => h.block k hk⟩
theorem rowIs_ne {w : World} {b b' n n' : Nat} {t t' : TypeId} {f f' : Nat → Value} (h : w.rowIs b t n f) (h' : w.rowIs b' t' n' f') (ht : t ≠ t') : b ≠ b' := by
  intro e
  subst e
  obtain ⟨c, hc, _⟩ := h
  obtain ⟨c', hc', _⟩ := h'
  rw [hc] at hc'
  simp at hc'
  exact ht hc'.2
theorem OwnG.row {w : World} {base : Nat} {v : Value} {n : Nat} (h : OwnG w base v n) : ∀ g, v.ownBlock = some g → base ≤ g ∧ ∃ N f, w.rowIs g 57 N f := by
  rcases h with ⟨rfl, _⟩ | ⟨g, cap, N, f, rfl, hg, _, hr⟩
  · intro c hc; simp [Value.ownBlock] at hc
  · intro c hc; simp [Value.ownBlock] at hc; subst hc; exact ⟨hg, N, f, hr⟩

/-- The boxes of a law: the argument's (A), the model's result's (B0), the copy's (B1), the program's result's (B2). -/
structure LawSt (w wr : World) (A B0 B1 B2 N0 : Nat) (p d P D : Int) (va s0 v1 s2 : Value) (ts S : List Tm) : Prop where
  ax : wr.rowIs A 27 3 (polyF p d va)
  b0 : wr.rowIs B0 39 3 (polyF P D s0)
  b1 : wr.rowIs B1 39 3 (polyF p d v1)
  b2 : wr.rowIs B2 39 3 (polyF P D s2)
  sa : SliceB wr w.heap.size va ts
  sm : SliceB wr N0 s0 S
  below : Below w.heap.size w wr
  n0 : w.heap.size ≤ N0 ∧ N0 ≤ wr.heap.size
theorem LawSt.step {w wr w' : World} {A B0 B1 B2 N0 : Nat} {p d P D : Int} {va s0 v1 s2 : Value} {ts S : List Tm} {row : Option Nat} (h : LawSt w wr A B0 B1 B2 N0 p d P D va s0 v1 s2 ts S) (hg : wr.grownBy w' row) (hr : ∀ g, row = some g → N0 ≤ g ∧ ∃ N f, wr.rowIs g 57 N f) :
    LawSt w w' A B0 B1 B2 N0 p d P D va s0 v1 s2 ts S := by
  have hsz := hg.size
  obtain ⟨n1, n2⟩ := h.n0
  have key : ∀ b t f, wr.rowIs b t 3 f → t ≠ 57 → w'.rowIs b t 3 f := fun b t f hb ht => hb.of_block (hg.block b hb.lt fun e => by
    obtain ⟨_, N, f', hrow⟩ := hr b e.symm
    exact rowIs_ne hb hrow ht rfl)
  refine ⟨key _ _ _ h.ax (by decide), key _ _ _ h.b0 (by decide), key _ _ _ h.b1 (by decide), key _ _ _ h.b2 (by decide), h.sa.kept hg h.below.size fun g e => Nat.le_trans n1 (hr g e).1, h.sm.kept hg n2 fun g e => (hr g e).1, ?_, n1, by omega⟩
  exact h.below.grown hg h.below.size fun g e => Nat.le_trans n1 (hr g e).1
theorem LawSt.on {w wr w' : World} {A B0 B1 B2 N0 : Nat} {p d P D : Int} {va s0 v1 s2 : Value} {ts S : List Tm} (h : LawSt w wr A B0 B1 B2 N0 p d P D va s0 v1 s2 ts S) (hb : Below wr.heap.size wr w') : LawSt w w' A B0 B1 B2 N0 p d P D va s0 v1 s2 ts S :=
  h.step (below_grown hb) (fun g e => by simp at e)
theorem OwnP.keep {w w' : World} {base : Nat} {v : Value} {S : List Tm} {row : Option Nat} (h : OwnP w base v S) (hg : w.grownBy w' row) (hne : ∀ g, row = some g → g < base) : OwnP w' base v S := by
  refine World.ownsRow.kept h hg ?_
  cases hv : v.ownBlock with
  | none => exact .inl rfl
  | some c =>
    refine .inr fun e => ?_
    have h1 := (h.lt c hv).1
    have h2 := hne c e.symm
    omega
end Go.Proofs.YtbhgbifliihlbaaGreat
