/-
  MARKS: == on them; 'impl.markOf'. Conditions: as each theorem states.
-/
import Derived.Test.YtabfdohmgmdgeaaOsa
import Derived.Test.YtabfdohmgmdgeaaLna
import Derived.Deep.Upon
import Derived.Laws.StructEq
import Derived.Lib.SlBuf
namespace Go.Proofs.Ytabfdohmgmdgeaa
open Go.RowKit Go.Sort EchM

/-- The mark of a list of at most three numbers. -/
def mkV (l : List Int) : Value := .agg #[.int .i64 (l.length : Int), .int .i64 (nth l 0), .int .i64 (nth l 1), .int .i64 (nth l 2), .int .i64 0, .int .i64 0, .int .i64 0, .int .i64 0, .int .i64 0]
theorem mark_eq (c x y z c' x' y' z' : Int) (w : World) :
    (Op.equalIn 10000 48 (.agg #[.int .i64 c, .int .i64 x, .int .i64 y, .int .i64 z, .int .i64 0, .int .i64 0, .int .i64 0, .int .i64 0, .int .i64 0]) (.agg #[.int .i64 c', .int .i64 x', .int .i64 y', .int .i64 z', .int .i64 0, .int .i64 0, .int .i64 0, .int .i64 0, .int .i64 0])).run Try.prog w = .ok (c == c' && (x == x' && (y == y' && z == z'))) w := by
  have hf : ∃ f0 f1 : Field, (Try.prog.fieldsOf 48).toList = [f0, f1] ∧ f0.name ≠ "_" ∧ f1.name ≠ "_" ∧ f0.type = 3 ∧ f0.offset = 0 ∧ f1.type = 46 ∧ f1.offset = 1 :=
    ⟨(Try.prog.fieldsOf 48).toList.getD 0 default, (Try.prog.fieldsOf 48).toList.getD 1 default, by kernel_rfl, of_decide_eq_true (by kernel_rfl), of_decide_eq_true (by kernel_rfl), by kernel_rfl, by kernel_rfl, by kernel_rfl, by kernel_rfl⟩
  obtain ⟨f0, f1, hl, n0, n1, t0, o0, t1, o1⟩ := hf
  have hA : ∀ w, (Op.equalIn 9999 46 (.agg #[.int .i64 x, .int .i64 y, .int .i64 z, .int .i64 0, .int .i64 0, .int .i64 0, .int .i64 0, .int .i64 0]) (.agg #[.int .i64 x', .int .i64 y', .int .i64 z', .int .i64 0, .int .i64 0, .int .i64 0, .int .i64 0, .int .i64 0])).run Try.prog w = .ok (x == x' && (y == y' && z == z')) w := fun w => by
    have hs : ∀ w, (sizeOf 2).run Try.prog w = .ok 1 w := fun w => by kernel_rfl
    have hi : ∀ (a b : Int) (w : World), (Op.equalIn 9998 2 (.int .i64 a) (.int .i64 b)).run Try.prog w = .ok (a == b) w := fun a b w => run_equalIn_int w 9997 2 .i64 .i64 a b Try.underlying2
    have h0 : ∀ (a b c : Int) (w : World), (Go.part 2 #[.int .i64 a, .int .i64 b, .int .i64 c, .int .i64 0, .int .i64 0, .int .i64 0, .int .i64 0, .int .i64 0] 0).run Try.prog w = .ok (.int .i64 a) w := fun a b c w => by kernel_rfl
    have h1 : ∀ (a b c : Int) (w : World), (Go.part 2 #[.int .i64 a, .int .i64 b, .int .i64 c, .int .i64 0, .int .i64 0, .int .i64 0, .int .i64 0, .int .i64 0] 1).run Try.prog w = .ok (.int .i64 b) w := fun a b c w => by kernel_rfl
    have h2 : ∀ (a b c : Int) (w : World), (Go.part 2 #[.int .i64 a, .int .i64 b, .int .i64 c, .int .i64 0, .int .i64 0, .int .i64 0, .int .i64 0, .int .i64 0] 2).run Try.prog w = .ok (.int .i64 c) w := fun a b c w => by kernel_rfl
    have h3 : ∀ (a b c : Int) (w : World), (Go.part 2 #[.int .i64 a, .int .i64 b, .int .i64 c, .int .i64 0, .int .i64 0, .int .i64 0, .int .i64 0, .int .i64 0] 3).run Try.prog w = .ok (.int .i64 0) w := fun a b c w => by kernel_rfl
    have h4 : ∀ (a b c : Int) (w : World), (Go.part 2 #[.int .i64 a, .int .i64 b, .int .i64 c, .int .i64 0, .int .i64 0, .int .i64 0, .int .i64 0, .int .i64 0] 4).run Try.prog w = .ok (.int .i64 0) w := fun a b c w => by kernel_rfl
    have h5 : ∀ (a b c : Int) (w : World), (Go.part 2 #[.int .i64 a, .int .i64 b, .int .i64 c, .int .i64 0, .int .i64 0, .int .i64 0, .int .i64 0, .int .i64 0] 5).run Try.prog w = .ok (.int .i64 0) w := fun a b c w => by kernel_rfl
    have h6 : ∀ (a b c : Int) (w : World), (Go.part 2 #[.int .i64 a, .int .i64 b, .int .i64 c, .int .i64 0, .int .i64 0, .int .i64 0, .int .i64 0, .int .i64 0] 6).run Try.prog w = .ok (.int .i64 0) w := fun a b c w => by kernel_rfl
    have h7 : ∀ (a b c : Int) (w : World), (Go.part 2 #[.int .i64 a, .int .i64 b, .int .i64 c, .int .i64 0, .int .i64 0, .int .i64 0, .int .i64 0, .int .i64 0] 7).run Try.prog w = .ok (.int .i64 0) w := fun a b c w => by kernel_rfl
    unfold Op.equalIn
    simp only [Sem.run_bind, run_underlying Try.underlying46, Result.andThen_ok, hs, Std.Legacy.Range.forIn_eq_forIn_range', Std.Legacy.Range.size, List.range'_succ, List.forIn_cons]
    cases hx : (x == x') <;> cases hy : (y == y') <;> cases hz : (z == z') <;> simp [Sem.run_bind, hi, h0, h1, h2, h3, h4, h5, h6, h7, hx, hy, hz]
  have hB : ∀ w, (Op.equalIn 9999 3 (.int .i64 c) (.int .i64 c')).run Try.prog w = .ok (c == c') w := fun w => run_equalIn_int w 9998 3 .i64 .i64 c c' Try.underlying3
  have q0 : ∀ (c a b d : Int) (w : World), (Go.part 3 #[.int .i64 c, .int .i64 a, .int .i64 b, .int .i64 d, .int .i64 0, .int .i64 0, .int .i64 0, .int .i64 0, .int .i64 0] 0).run Try.prog w = .ok (.int .i64 c) w := fun c a b d w => by kernel_rfl
  have q1 : ∀ (c a b d : Int) (w : World), (Go.part 46 #[.int .i64 c, .int .i64 a, .int .i64 b, .int .i64 d, .int .i64 0, .int .i64 0, .int .i64 0, .int .i64 0, .int .i64 0] 1).run Try.prog w = .ok (.agg #[.int .i64 a, .int .i64 b, .int .i64 d, .int .i64 0, .int .i64 0, .int .i64 0, .int .i64 0, .int .i64 0]) w := fun c a b d w => by kernel_rfl
  rw [run_equalIn_struct w 9999 48 _ _ (by kernel_rfl) (by kernel_rfl), hl]
  simp only [Op.eqFields, n0, n1, t0, o0, t1, o1, ne_eq, not_false_eq_true, if_true, Sem.run_bind, q0, q1, hA, hB, Result.andThen_ok, Sem.run_ite]
  cases hx : (x == x' && (y == y' && z == z')) <;> cases hv : c == c' <;> simp [Sem.run_pure]

/-- A mark's cells. -/
def mkF (c x y z : Int) (i : Nat) : Value := #[Value.int .i64 c, .int .i64 x, .int .i64 y, .int .i64 z, .int .i64 0, .int .i64 0, .int .i64 0, .int .i64 0, .int .i64 0].getD i undef
theorem mkFill {w Z : World} {B B1 : Nat} {t : TypeId} {F : Nat → Value} (hZ : Z.rowIs B1 t 9 F) (hb : Below B w Z) (hB : B ≤ B1) (c x y z : Int) :
    (((((((((Z.setCell ⟨B1, 0, none⟩ (.int .i64 c)).setCell ⟨B1, 1, none⟩ (.int .i64 x)).setCell ⟨B1, 2, none⟩ (.int .i64 y)).setCell ⟨B1, 3, none⟩ (.int .i64 z)).setCell ⟨B1, 4, none⟩ (.int .i64 0)).setCell ⟨B1, 5, none⟩ (.int .i64 0)).setCell ⟨B1, 6, none⟩ (.int .i64 0)).setCell ⟨B1, 7, none⟩ (.int .i64 0)).setCell ⟨B1, 8, none⟩ (.int .i64 0)).rowIs B1 t 9 (mkF c x y z) ∧ Below B w (((((((((Z.setCell ⟨B1, 0, none⟩ (.int .i64 c)).setCell ⟨B1, 1, none⟩ (.int .i64 x)).setCell ⟨B1, 2, none⟩ (.int .i64 y)).setCell ⟨B1, 3, none⟩ (.int .i64 z)).setCell ⟨B1, 4, none⟩ (.int .i64 0)).setCell ⟨B1, 5, none⟩ (.int .i64 0)).setCell ⟨B1, 6, none⟩ (.int .i64 0)).setCell ⟨B1, 7, none⟩ (.int .i64 0)).setCell ⟨B1, 8, none⟩ (.int .i64 0)) := by
  refine ⟨(((((((((hZ.set 0 (.int .i64 c)).set 1 (.int .i64 x)).set 2 (.int .i64 y)).set 3 (.int .i64 z)).set 4 (.int .i64 0)).set 5 (.int .i64 0)).set 6 (.int .i64 0)).set 7 (.int .i64 0)).set 8 (.int .i64 0)).congr fun q hq => ?_, (((((((((hb.setCell (by simpa using hB) _).setCell (by simpa using hB) _).setCell (by simpa using hB) _).setCell (by simpa using hB) _).setCell (by simpa using hB) _).setCell (by simpa using hB) _).setCell (by simpa using hB) _).setCell (by simpa using hB) _).setCell (by simpa using hB) _)⟩
  match q, hq with
  | 0, _ => rfl
  | 1, _ => rfl
  | 2, _ => rfl
  | 3, _ => rfl
  | 4, _ => rfl
  | 5, _ => rfl
  | 6, _ => rfl
  | 7, _ => rfl
  | 8, _ => rfl
theorem mkCells {w : World} {B : Nat} {t : TypeId} {c x y z : Int} (h : w.rowIs B t 9 (mkF c x y z)) : (w.cell? ⟨B, 0, none⟩ = some (.int .i64 c) ∧ w.cell? ⟨B, 1, none⟩ = some (.int .i64 x) ∧ w.cell? ⟨B, 2, none⟩ = some (.int .i64 y)) ∧ (w.cell? ⟨B, 3, none⟩ = some (.int .i64 z) ∧ w.cell? ⟨B, 4, none⟩ = some (.int .i64 0) ∧ w.cell? ⟨B, 5, none⟩ = some (.int .i64 0)) ∧ w.cell? ⟨B, 6, none⟩ = some (.int .i64 0) ∧ w.cell? ⟨B, 7, none⟩ = some (.int .i64 0) ∧ w.cell? ⟨B, 8, none⟩ = some (.int .i64 0) :=
  ⟨⟨h.cell (i := 0) (by omega), h.cell (i := 1) (by omega), h.cell (i := 2) (by omega)⟩, ⟨h.cell (i := 3) (by omega), h.cell (i := 4) (by omega), h.cell (i := 5) (by omega)⟩, h.cell (i := 6) (by omega), h.cell (i := 7) (by omega), h.cell (i := 8) (by omega)⟩
theorem copy_partT (w : World) (g o M N : Nat) (l : List Int) (u : Value) (f : Nat → Value) {t : TypeId} (hr : w.rowIs g t N f) (hl : l.length ≤ M) (hN : o + M ≤ N) (hS : Sl w u l) (ty : TypeId) :
    (Builtin.copy_ #[25, 25] ty #[.slice (some ⟨g, o, none⟩) M M, u]).run Try.prog w = .ok (.int .i64 (l.length : Int)) (w.setCells g o (valsI l)) := by
  obtain ⟨a, cap, rfl, h⟩ := hS
  rcases h with rfl | ⟨b, off, rfl, _, hT⟩
  · exact run_copy_none (P := Try.prog) w 25 25 ty 2 _ _ M M 0 cap Try.underlying25 (by kernel_rfl) (by simp)
  · have hn : (valsI l).length = l.length := by simp [valsI]
    have h := run_copy_cells (P := Try.prog) w 25 25 ty 2 g o M M ⟨b, off, none⟩ l.length cap (valsI l) Try.underlying25 (by kernel_rfl)
      (by rw [hn]; exact (Nat.min_eq_left (by omega)).symm) (vals_cells hT) (fun j hj => by rw [hr.cell (by omega)]; rfl) (fun j _ => hr.frozen _) (vals_one l)
    rw [hn] at h
    exact h
theorem set_rowT {t : TypeId} {N g : Nat} : ∀ (l : List Int) (o : Nat) (w : World) (f : Nat → Value), w.rowIs g t N f → (w.setCells g o (valsI l)).rowIs g t N (fun i => if o ≤ i ∧ i < o + l.length then .int .i64 (nth l (i - o)) else f i)
  | [], o, w, f, h => h.congr fun i _ => by rw [if_neg (by simp only [List.length_nil]; omega)]
  | v :: r, o, w, f, h => by
    have h2 := set_rowT r (o + 1) _ _ (h.set o (.int .i64 v))
    refine h2.congr fun i _ => ?_
    by_cases e : i = o
    · subst e
      rw [if_neg (by omega), if_pos rfl, if_pos (by simp)]
      simp [nth]
    · by_cases e2 : o + 1 ≤ i ∧ i < o + 1 + r.length
      · rw [if_pos e2, if_pos (by simp; omega)]
        obtain ⟨k, rfl⟩ : ∃ k, i = o + 1 + k := ⟨i - (o + 1), by omega⟩
        rw [show o + 1 + k - (o + 1) = k by omega, show o + 1 + k - o = k + 1 by omega]
        simp [nth]
      · rw [if_neg e2, if_neg e, if_neg (by simp; omega)]

set_option maxRecDepth 8000 in
set_option maxHeartbeats 4000000 in
theorem imark (u : Value) (l : List Int) (w : World) (h1 : 1 ≤ l.length) (hl : l.length ≤ 3) (hS : Sl w u l) :
    Calls Try.prog 36 #[u] w fun e w' => e = .returned (mkV l) ∧ Below w.heap.size w w' := by
  obtain ⟨V, hV, hbV, r1⟩ : ∃ V, V = w.alloc (.cells #[.int .i64 0, .int .i64 0, .int .i64 0, .int .i64 0, .int .i64 0, .int .i64 0, .int .i64 0, .int .i64 0, .int .i64 0] 48) ∧ Below w.heap.size w V ∧ V.rowIs w.heap.size 48 9 (mkF 0 0 0 0) := ⟨_, rfl, ebox1 _ _, World.rowIs_alloc w #[.int .i64 0, .int .i64 0, .int .i64 0, .int .i64 0, .int .i64 0, .int .i64 0, .int .i64 0, .int .i64 0, .int .i64 0] _ _ (fun i hi => by simp at hi; match i, hi with | 0, _ => rfl | 1, _ => rfl | 2, _ => rfl | 3, _ => rfl | 4, _ => rfl | 5, _ => rfl | 6, _ => rfl | 7, _ => rfl | 8, _ => rfl)⟩
  obtain ⟨V2, hV2, hb2, r2⟩ : ∃ V2, V2 = V.alloc (.cells #[.int .i64 (l.length : Int), .int .i64 0, .int .i64 0, .int .i64 0, .int .i64 0, .int .i64 0, .int .i64 0, .int .i64 0, .int .i64 0] 48) ∧ Below V.heap.size V V2 ∧ V2.rowIs V.heap.size 48 9 (mkF (l.length : Int) 0 0 0) := ⟨_, rfl, ebox1 _ _, World.rowIs_alloc V #[.int .i64 (l.length : Int), .int .i64 0, .int .i64 0, .int .i64 0, .int .i64 0, .int .i64 0, .int .i64 0, .int .i64 0, .int .i64 0] _ _ (fun i hi => by simp at hi; match i, hi with | 0, _ => rfl | 1, _ => rfl | 2, _ => rfl | 3, _ => rfl | 4, _ => rfl | 5, _ => rfl | 6, _ => rfl | 7, _ => rfl | 8, _ => rfl)⟩
  have hS2 : Sl V2 u l := (hS.below hbV).below hb2
  obtain ⟨g, hg⟩ : ∃ g, V.heap.size = g := ⟨_, rfl⟩
  have hgw : w.heap.size < g := by rw [← hg]; exact r1.lt
  rw [hg] at r2
  have hcp := fun ty => copy_partT V2 g 1 8 9 l u _ r2 (by omega) (by omega) hS2 ty
  have r3 := (set_rowT l 1 V2 _ r2).congr (g := mkF (l.length : Int) (nth l 0) (nth l 1) (nth l 2)) (fun q hq => by
    have hn : ∀ k, l.length ≤ k → nth l k = 0 := fun k hk => by simp [nth, hk]
    match q, hq with
    | 0, _ => rfl
    | 1, _ => rw [if_pos (by omega)]; rfl
    | 2, _ =>
      by_cases e : 2 < 1 + l.length
      · rw [if_pos (by omega)]; rfl
      · rw [if_neg (by omega)]; show Value.int .i64 0 = .int .i64 (nth l 1); rw [hn 1 (by omega)]
    | 3, _ =>
      by_cases e : 3 < 1 + l.length
      · rw [if_pos (by omega)]; rfl
      · rw [if_neg (by omega)]; show Value.int .i64 0 = .int .i64 (nth l 2); rw [hn 2 (by omega)]
    | 4, _ => rw [if_neg (by omega)]; rfl
    | 5, _ => rw [if_neg (by omega)]; rfl
    | 6, _ => rw [if_neg (by omega)]; rfl
    | 7, _ => rw [if_neg (by omega)]; rfl
    | 8, _ => rw [if_neg (by omega)]; rfl)
  have r12 := erow_below r1 hb2 r1.lt
  obtain ⟨V3, hV3⟩ : ∃ V3, V2.setCells g 1 (valsI l) = V3 := ⟨_, rfl⟩
  have hb3 : Below w.heap.size w V3 := by
    rw [← hV3]
    exact Go.Lib.below_setCells g (by omega) (valsI l) 1 (hbV.trans (hb2.mono hbV.size))
  have r13 : V3.rowIs w.heap.size 48 9 (mkF 0 0 0 0) := by
    rw [← hV3]
    exact r12.of_block (World.heap_setCells_other V2 g 1 (valsI l) r12.lt (by omega))
  rw [hV3] at r3
  obtain ⟨⟨d0, d1, d2⟩, ⟨d3, d4, d5⟩, d6, d7, d8⟩ := mkCells r3
  obtain ⟨f1, f2⟩ := mkFill r13 hb3 (Nat.le_refl _) (l.length : Int) (nth l 0) (nth l 1) (nth l 2)
  obtain ⟨⟨e0, e1, e2⟩, ⟨e3, e4, e5⟩, e6, e7, e8⟩ := mkCells f1
  obtain ⟨⟨k0, k1, k2⟩, ⟨k3, k4, k5⟩, k6, k7, k8⟩ := mkCells r13
  have z := fun i => r13.frozen i
  obtain ⟨a, cap, rfl, _⟩ := id hS
  unfold mkV
  generalize nth l 0 = x0 at *
  generalize nth l 1 = x1 at *
  generalize nth l 2 = x2 at *
  have HF := Lib.hid f2
  clear hS hS2 r1 r2 r3 r12 r13 hb2 hbV hb3 f1 f2 h1 hl
  subst hg
  go_enter Try.func36, Try.ntmps36
  go_upto_region 1 with fail
  rw [← hV]
  clear hV
  go_upto_region 2 with fail
  rw [← hV2]
  clear hV2
  go_wp2_with fail
  exact bodyPost_ret (v := .agg #[.int .i64 (l.length : Int), .int .i64 x0, .int .i64 x1, .int .i64 x2, .int .i64 0, .int .i64 0, .int .i64 0, .int .i64 0, .int .i64 0]) (by simp [results, Try.results36, go_sem, e0, e1, e2, e3, e4, e5, e6, e7, e8]) rfl ⟨rfl, HF.out⟩
end Go.Proofs.Ytabfdohmgmdgeaa
