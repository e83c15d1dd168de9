/-
  COMPARING lists of terms: '==' at terms, 'spec.l01Same', 'slices.Equal', 'impl.isSame'. Conditions: as each theorem states.
-/
import Derived.Test.YtphgpadpffigjaaLs2
import Derived.Test.YtphgpadpffigjaaArr
namespace Go.Proofs.Ytphgpadpffigjaa
open Go.RowKit Go.Sort

def eqT (s t : Tm) : Bool := (s.1 == t.1 && (s.2.1 == t.2.1 && s.2.2.1 == t.2.2.1)) && s.2.2.2 == t.2.2.2
theorem eqT_iff (s t : Tm) : eqT s t = true ↔ s = t := by
  obtain ⟨a, b, c, d⟩ := s
  obtain ⟨a', b', c', d'⟩ := t
  simp [eqT, and_assoc]
def sameT (xs ys : List Tm) : Bool := decide (xs = ys)
theorem sameT_step {xs ys : List Tm} {k : Nat} (h : k < xs.length) (h' : k < ys.length) : sameT (xs.drop k) (ys.drop k) = (eqT xs[k] ys[k] && sameT (xs.drop (k + 1)) (ys.drop (k + 1))) := by
  unfold sameT
  rw [List.drop_eq_getElem_cons h, List.drop_eq_getElem_cons h']
  by_cases e : xs[k] = ys[k]
  · rw [(eqT_iff _ _).2 e, Bool.true_and, decide_eq_decide, List.cons.injEq]
    exact ⟨fun q => q.2, fun q => ⟨e, q⟩⟩
  · have : eqT xs[k] ys[k] = false := by
      cases hq : eqT xs[k] ys[k]
      · rfl
      · exact absurd ((eqT_iff _ _).1 hq) e
    rw [this, Bool.false_and]
    exact decide_eq_false fun q => e (List.cons.inj q).1
theorem sameT_end {xs ys : List Tm} {k : Nat} (h : xs.length = k) (h' : ys.length = k) : sameT (xs.drop k) (ys.drop k) = true := by
  rw [List.drop_of_length_le (by omega), List.drop_of_length_le (by omega)]; rfl
theorem sameT_len {xs ys : List Tm} (h : xs.length ≠ ys.length) : sameT xs ys = false := by
  unfold sameT
  exact decide_eq_false fun e => h (by rw [e])

theorem tm_eq (x y z v x' y' z' v' : Int) (w : World) :
    (Op.equalIn 10000 92 (.agg #[.int .u8 x, .int .u8 y, .int .u8 z, .int .i64 v]) (.agg #[.int .u8 x', .int .u8 y', .int .u8 z', .int .i64 v'])).run Try.prog w = .ok ((x == x' && (y == y' && z == z')) && v == v') w := by
  have hf : ∃ f0 f1 : Field, (Try.prog.fieldsOf 92).toList = [f0, f1] ∧ f0.name ≠ "_" ∧ f1.name ≠ "_" ∧ f0.type = 75 ∧ f0.offset = 0 ∧ f1.type = 2 ∧ f1.offset = 3 :=
    ⟨(Try.prog.fieldsOf 92).toList.getD 0 default, (Try.prog.fieldsOf 92).toList.getD 1 default, by kernel_rfl, of_decide_eq_true (by kernel_rfl), of_decide_eq_true (by kernel_rfl), by kernel_rfl, by kernel_rfl, by kernel_rfl, by kernel_rfl⟩
  obtain ⟨f0, f1, hl, n0, n1, t0, o0, t1, o1⟩ := hf
  have hA : ∀ w, (Op.equalIn 9999 75 (.agg #[.int .u8 x, .int .u8 y, .int .u8 z]) (.agg #[.int .u8 x', .int .u8 y', .int .u8 z'])).run Try.prog w = .ok (x == x' && (y == y' && z == z')) w := fun w => by
    have hs : ∀ w, (sizeOf 5).run Try.prog w = .ok 1 w := fun w => by kernel_rfl
    have hi : ∀ (a b : Int) (w : World), (Op.equalIn 9998 5 (.int .u8 a) (.int .u8 b)).run Try.prog w = .ok (a == b) w := fun a b w => run_equalIn_int w 9997 5 .u8 .u8 a b Try.underlying5
    have hp : ∀ (a b c : Int) (w : World), (Go.part 5 #[.int .u8 a, .int .u8 b, .int .u8 c] 0).run Try.prog w = .ok (.int .u8 a) w ∧ (Go.part 5 #[.int .u8 a, .int .u8 b, .int .u8 c] 1).run Try.prog w = .ok (.int .u8 b) w ∧ (Go.part 5 #[.int .u8 a, .int .u8 b, .int .u8 c] 2).run Try.prog w = .ok (.int .u8 c) w := fun a b c w => ⟨by kernel_rfl, by kernel_rfl, by kernel_rfl⟩
    have h0 := fun a b c w => (hp a b c w).1
    have h1 := fun a b c w => (hp a b c w).2.1
    have h2 := fun a b c w => (hp a b c w).2.2
    unfold Op.equalIn
    simp only [Sem.run_bind, run_underlying Try.underlying75, Result.andThen_ok, hs, Std.Legacy.Range.forIn_eq_forIn_range', Std.Legacy.Range.size, List.range'_succ, List.forIn_cons]
    cases hx : (x == x') <;> cases hy : (y == y') <;> cases hz : (z == z') <;> simp [Sem.run_bind, hi, h0, h1, h2, hx, hy, hz]
  have hB : ∀ w, (Op.equalIn 9999 2 (.int .i64 v) (.int .i64 v')).run Try.prog w = .ok (v == v') w := fun w => run_equalIn_int w 9998 2 .i64 .i64 v v' Try.underlying2
  have q0 : ∀ (a b c d : Int) (w : World), (Go.part 75 #[.int .u8 a, .int .u8 b, .int .u8 c, .int .i64 d] 0).run Try.prog w = .ok (.agg #[.int .u8 a, .int .u8 b, .int .u8 c]) w := fun a b c d w => by kernel_rfl
  have q1 : ∀ (a b c d : Int) (w : World), (Go.part 2 #[.int .u8 a, .int .u8 b, .int .u8 c, .int .i64 d] 3).run Try.prog w = .ok (.int .i64 d) w := fun a b c d w => by kernel_rfl
  rw [run_equalIn_struct w 9999 92 _ _ (by kernel_rfl) (by kernel_rfl), hl]
  simp only [Op.eqFields, n0, n1, t0, o0, t1, o1, ne_eq, not_false_eq_true, if_true, Sem.run_bind, q0, q1, hA, hB, Result.andThen_ok, Sem.run_ite]
  cases hx : (x == x' && (y == y' && z == z')) <;> cases hv : v == v' <;> simp [Sem.run_pure]

set_option maxRecDepth 8000 in
set_option maxHeartbeats 4000000 in
theorem sequal (v v' : Value) (xs ys : List Tm) (w : World) (hl : xs.length ≤ 1048576) (hl' : ys.length ≤ 1048576) (hS : SliceT w v xs) (hS' : SliceT w v' ys) :
    Calls Try.prog 109 #[v, v'] w fun e w' => e = .returned (.bool (sameT xs ys)) ∧ Below w.heap.size w w' := by
  obtain ⟨a, cap, rfl, hc⟩ := hS
  obtain ⟨a', cap', rfl, hc'⟩ := hS'
  by_cases hlo : xs.length = ys.length
  case neg =>
    have HN := Lib.hid (sameT_len hlo)
    have hnn : ((xs.length : Int) != (ys.length : Int)) = true := by simpa using fun h => hlo (by exact_mod_cast h)
    clear hlo
    go_enter Try.func109, Try.ntmps109
    go_wp2_with fail
    go_ret
    exact ⟨by rw [HN.out]; rfl, Below.refl _ _⟩
  case pos =>
    have hnn : ((xs.length : Int) != (xs.length : Int)) = false := by simp
    have HLO := Lib.hid hlo
    rw [← hlo]
    clear hlo
    go_enter Try.func109, Try.ntmps109
    go_wp2_with fail
    go_loopw [13] (fun i wr => ∃ k : Nat, k ≤ xs.length ∧ i = .int .i64 k ∧ Hid (sameT xs ys = sameT (xs.drop k) (ys.drop k)) ∧ ∃ nd, wr = w.drewN nd) (fun i _ => xs.length - (intOf i).toNat)
    case atStart => exact ⟨0, by omega, rfl, Lib.hid rfl, 0, rfl⟩
    case round =>
      obtain ⟨k, hk, rfl, HU, nd, rfl⟩ := hrel
      by_cases hlt : k < xs.length
      · have hlt' : (k : Int) < (xs.length : Int) := by omega
        have hlo : k < ys.length := by have := HLO.out; omega
        obtain ⟨b, off, rfl, hbb, hT⟩ : ∃ b off, a = some ⟨b, off, none⟩ ∧ b < w.heap.size ∧ Terms w b off xs := by
          rcases hc with rfl | h
          · simp at hlt
          · exact h
        obtain ⟨b', off', rfl, hbb', hT'⟩ : ∃ b off, a' = some ⟨b, off, none⟩ ∧ b < w.heap.size ∧ Terms w b off ys := by
          rcases hc' with rfl | h
          · simp at hlo
          · exact h
        obtain ⟨c0, c1, c2, c3⟩ := hT k hlt
        obtain ⟨d0, d1, d2, d3⟩ := hT' k hlo
        have HS := Lib.hid (HU.out.trans (sameT_step hlt hlo))
        have hE := fun w => tm_eq xs[k].1 xs[k].2.1 xs[k].2.2.1 xs[k].2.2.2 ys[k].1 ys[k].2.1 ys[k].2.2.1 ys[k].2.2.2 w
        have hG : Try.prog.eqGuardType Try.prog.depth 92 = false := by kernel_rfl
        have HQ : Hid (eqT xs[k] ys[k] = ((xs[k].1 == ys[k].1 && (xs[k].2.1 == ys[k].2.1 && xs[k].2.2.1 == ys[k].2.2.1)) && xs[k].2.2.2 == ys[k].2.2.2)) := Lib.hid rfl
        obtain ⟨E, hEq⟩ : ∃ E, ((xs[k].1 == ys[k].1 && (xs[k].2.1 == ys[k].2.1 && xs[k].2.2.1 == ys[k].2.2.1)) && xs[k].2.2.2 == ys[k].2.2.2) = E := ⟨_, rfl⟩
        simp only [hEq] at hE
        rw [hEq] at HQ
        rw [HQ.out] at HS
        clear hEq HQ
        cases E
        · have HN : Hid (sameT xs ys = false) := Lib.hid (by rw [HS.out]; rfl)
          go_wp2_with fail
          go_quiet (fail)
          go_wp2_with fail
          go_ret
          exact ⟨by rw [HN.out]; rfl, by repeat (first | with_reducible exact Below.refl _ _ | refine below_drewN ?_ _)⟩
        · have HN : Hid (sameT xs ys = sameT (xs.drop (k + 1)) (ys.drop (k + 1))) := Lib.hid (by rw [HS.out]; rfl)
          go_wp2_with fail
          go_quiet (fail)
          go_wp2_with fail
          go_roundw
          case rel => exact ⟨k + 1, by omega, by go_num, HN, _, rfl⟩
          case measure => simp [intOf]; omega
      · obtain rfl : k = xs.length := by omega
        have HN := Lib.hid (HU.out.trans (sameT_end rfl HLO.out.symm))
        go_wp2_with fail
        go_ret
        exact ⟨by rw [HN.out]; rfl, below_drewN (Below.refl _ _) _⟩

set_option maxRecDepth 8000 in
set_option maxHeartbeats 4000000 in
theorem isame (p d q f : Int) (v v' : Value) (xs ys : List Tm) (w : World) (hl : xs.length ≤ 1048576) (hl' : ys.length ≤ 1048576) (hS : SliceT w v xs) (hS' : SliceT w v' ys) :
    Calls Try.prog 68 #[.agg #[.int .i64 p, .int .i64 d, v], .agg #[.int .i64 q, .int .i64 f, v']] w fun e w' => e = .returned (.bool (sameT xs ys)) ∧ Below w.heap.size w w' := by
  have h2 : ∀ o1 o2, SliceT ((w.alloc o1).alloc o2) v xs := fun o1 o2 => hS.below (box2 _ _ _)
  have h2' : ∀ o1 o2, SliceT ((w.alloc o1).alloc o2) v' ys := fun o1 o2 => hS'.below (box2 _ _ _)
  obtain ⟨a, cap, hv, _⟩ := id hS
  obtain ⟨a', cap', hv', _⟩ := id hS'
  subst hv hv'
  go_enter Try.func68, Try.ntmps68
  go_wp2_with fail
  ((with_reducible refine (sequal _ _ xs ys _ hl hl' (h2 _ _) (h2' _ _)).mono ?_); rintro e w1 ⟨rfl, hb⟩)
  go_wp2
  go_ret
  exact ⟨rfl, (box2 _ _ _).trans (hb.mono (by simp; omega))⟩

set_option maxRecDepth 8000 in
set_option maxHeartbeats 4000000 in
theorem ssame (p d q f : Int) (v v' : Value) (xs ys : List Tm) (w : World) (hl : xs.length ≤ 1048576) (hl' : ys.length ≤ 1048576) (hS : SliceT w v xs) (hS' : SliceT w v' ys) :
    Calls Try.prog 103 #[.agg #[.int .i64 p, .int .i64 d, v], .agg #[.int .i64 q, .int .i64 f, v']] w fun e w' => e = .returned (.bool (sameT xs ys)) ∧ Below w.heap.size w w' := by
  obtain ⟨a, cap, rfl, hc⟩ := hS
  obtain ⟨a', cap', rfl, hc'⟩ := hS'
  obtain ⟨W, hW, hbW, ⟨hWs1, hWs2⟩, rx, ry⟩ : ∃ W, W = (w.alloc (.cells #[.int .i64 p, .int .i64 d, .slice a xs.length cap] 36)).alloc (.cells #[.int .i64 q, .int .i64 f, .slice a' ys.length cap'] 36) ∧ Below w.heap.size w W ∧ (W.heap.size ≤ w.heap.size + 2 ∧ w.heap.size + 2 ≤ W.heap.size) ∧
      W.rowIs w.heap.size 36 3 (polyF p d (.slice a xs.length cap)) ∧ W.rowIs (w.heap.size + 1) 36 3 (polyF q f (.slice a' ys.length cap')) := by
    obtain ⟨U, hU, hbU, ⟨u1, u2⟩, ru⟩ := newbox w p d (.slice a xs.length cap)
    obtain ⟨W, hW, hbW, ⟨s1, s2⟩, rw'⟩ := newbox U q f (.slice a' ys.length cap')
    have hs : U.heap.size = w.heap.size + 1 := by omega
    rw [hs] at rw'
    exact ⟨W, by rw [hW, hU], hbU.trans (hbW.mono hbU.size), ⟨by omega, by omega⟩, rowIs_below ru hbW ru.lt, rw'⟩
  obtain ⟨⟨x0, x1, x2⟩, _⟩ := poly3 rx
  obtain ⟨⟨y0, y1, y2⟩, _⟩ := poly3 ry
  by_cases hlo : xs.length = ys.length
  case neg =>
    have HN := Lib.hid (sameT_len hlo)
    have hnn : ((xs.length : Int) != (ys.length : Int)) = true := by simpa using fun h => hlo (by exact_mod_cast h)
    clear hlo
    go_enter Try.func103, Try.ntmps103
    go_upto_region 1 with fail
    rw [← hW]
    clear hW
    go_wp2_with fail
    go_ret
    exact ⟨by rw [HN.out]; rfl, hbW⟩
  case pos =>
    have hnn : ((xs.length : Int) != (xs.length : Int)) = false := by simp
    have HLO := Lib.hid hlo
    rw [← hlo] at y2 hW
    clear hlo
    rw [← HLO.out]
    go_enter Try.func103, Try.ntmps103
    go_upto_region 1 with fail
    rw [← hW]
    clear hW
    go_wp2_with fail
    go_loopw [5] (fun i wr => ∃ k : Nat, k ≤ xs.length ∧ i = .int .i64 k ∧ Hid (sameT xs ys = sameT (xs.drop k) (ys.drop k)) ∧ ∃ nd, wr = W.drewN nd) (fun i _ => xs.length - (intOf i).toNat)
    case atStart => exact ⟨0, by omega, rfl, Lib.hid rfl, 0, rfl⟩
    case round =>
      obtain ⟨k, hk, rfl, HU, nd, rfl⟩ := hrel
      by_cases hlt : k < xs.length
      · have hlt' : (k : Int) < (xs.length : Int) := by omega
        have hlo : k < ys.length := by have := HLO.out; omega
        obtain ⟨b, off, rfl, hbb, hT⟩ : ∃ b off, a = some ⟨b, off, none⟩ ∧ b < w.heap.size ∧ Terms w b off xs := by
          rcases hc with rfl | h
          · simp at hlt
          · exact h
        obtain ⟨b', off', rfl, hbb', hT'⟩ : ∃ b off, a' = some ⟨b, off, none⟩ ∧ b < w.heap.size ∧ Terms w b off ys := by
          rcases hc' with rfl | h
          · simp at hlo
          · exact h
        obtain ⟨c0, c1, c2, c3⟩ := (hT.below hbW hbb) k hlt
        obtain ⟨d0, d1, d2, d3⟩ := (hT'.below hbW hbb') k hlo
        have HS := Lib.hid (HU.out.trans (sameT_step hlt hlo))
        have hE := fun w => tm_eq xs[k].1 xs[k].2.1 xs[k].2.2.1 xs[k].2.2.2 ys[k].1 ys[k].2.1 ys[k].2.2.1 ys[k].2.2.2 w
        have hG : Try.prog.eqGuardType Try.prog.depth 92 = false := by kernel_rfl
        have HQ : Hid (eqT xs[k] ys[k] = ((xs[k].1 == ys[k].1 && (xs[k].2.1 == ys[k].2.1 && xs[k].2.2.1 == ys[k].2.2.1)) && xs[k].2.2.2 == ys[k].2.2.2)) := Lib.hid rfl
        obtain ⟨E, hEq⟩ : ∃ E, ((xs[k].1 == ys[k].1 && (xs[k].2.1 == ys[k].2.1 && xs[k].2.2.1 == ys[k].2.2.1)) && xs[k].2.2.2 == ys[k].2.2.2) = E := ⟨_, rfl⟩
        simp only [hEq] at hE
        rw [hEq] at HQ
        rw [HQ.out] at HS
        clear hEq HQ
        cases E
        · have HN : Hid (sameT xs ys = false) := Lib.hid (by rw [HS.out]; rfl)
          go_wp2_with fail
          go_quiet (fail)
          go_wp2_with fail
          go_ret
          exact ⟨by rw [HN.out]; rfl, below_drewN (below_drewN hbW _) _⟩
        · have HN : Hid (sameT xs ys = sameT (xs.drop (k + 1)) (ys.drop (k + 1))) := Lib.hid (by rw [HS.out]; rfl)
          go_wp2_with fail
          go_quiet (fail)
          go_wp2_with fail
          go_roundw
          case rel => exact ⟨k + 1, by omega, by go_num, HN, _, rfl⟩
          case measure => simp [intOf]; omega
      · obtain rfl : k = xs.length := by omega
        have HN := Lib.hid (HU.out.trans (sameT_end rfl HLO.out.symm))
        go_wp2_with fail
        go_ret
        exact ⟨by rw [HN.out]; rfl, below_drewN hbW _⟩
end Go.Proofs.Ytphgpadpffigjaa
