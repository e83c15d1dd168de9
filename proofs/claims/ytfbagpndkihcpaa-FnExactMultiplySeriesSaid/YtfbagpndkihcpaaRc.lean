/-
  PRODUCTS of series: the program's walk. Conditions: as each theorem states.
-/
import Derived.Test.YtfbagpndkihcpaaRb
namespace Go.Proofs.Ytfbagpndkihcpaa
open Go.RowKit Go.Sort EchM

/-- The product as it arises: the places before k are done, the place k has i products. -/
def mulF (a b : List Int) (k i q : Nat) : Value := .int .i64 (if q < k then msum a b q (q + 1) else if q = k then msum a b k i else 0)
theorem mulF_next (a b : List Int) (k q : Nat) : mulF a b k (k + 1) q = mulF a b (k + 1) 0 q := by
  unfold mulF
  by_cases e : q = k
  · subst e; rw [if_neg (Nat.lt_irrefl _), if_pos rfl, if_pos (Nat.lt_succ_self _)]
  · by_cases e2 : q < k
    · simp [e2, show q < k + 1 by omega]
    · by_cases e3 : q = k + 1
      · subst e3; simp [msum, show ¬ k + 1 < k by omega]
      · simp [e, e2, e3, show ¬ q < k + 1 by omega]

set_option maxRecDepth 8000 in
set_option maxHeartbeats 8000000 in
theorem iMul (va : Value) (a : List Int) (vb : Value) (b : List Int) (w : World) (hla : a.length ≤ 1048576) (hSa : Sl w va a) (hlb : b.length ≤ 1048576) (hSb : Sl w vb b) :
    Calls Try.prog 11 #[va, vb] w fun e w' => ∃ v', e = .returned (.tuple #[v', .int .i64 (rMul a b).2]) ∧ OwnV w' w.heap.size v' (rMul a b).1 ∧ Below w.heap.size w w' := by
  obtain ⟨i0, hi, hz0, hz1, hz2⟩ := info_parts einfoI
  obtain ⟨aa, ac, rfl, hca⟩ := id hSa
  obtain ⟨ab, bc, rfl, hcb⟩ := id hSb
  cases h1 : serB a
  · have HX : Hid (rMul a b = ([], 2)) := Lib.hid (by simp [rMul, h1])
    have H1 := Lib.hid h1
    clear h1
    go_enter Try.func11, Try.ntmps11
    go_wp2_with fail
    ((with_reducible refine (iser _ a _ hla hSa).mono ?_); rintro e w1 ⟨rfl, rfl⟩)
    rw [H1.out]
    go_wp2_with fail
    go_ret2
    rw [HX.out]
    exact ⟨_, rfl, OwnV.none _ _, Below.refl _ _⟩
  cases h2 : serB b
  · have HX : Hid (rMul a b = ([], 2)) := Lib.hid (by simp [rMul, h2])
    have H1 := Lib.hid h1
    have H2 := Lib.hid h2
    clear h1 h2
    go_enter Try.func11, Try.ntmps11
    go_wp2_with fail
    ((with_reducible refine (iser _ a _ hla hSa).mono ?_); rintro e w1 ⟨rfl, rfl⟩)
    rw [H1.out]
    go_wp2_with fail
    ((with_reducible refine (iser _ b _ hlb hSb).mono ?_); rintro e w1 ⟨rfl, rfl⟩)
    rw [H2.out]
    go_wp2_with fail
    go_ret2
    rw [HX.out]
    exact ⟨_, rfl, OwnV.none _ _, Below.refl _ _⟩
  have HR : Hid (rMul a b = if mulB a b then (mulL a b (min a.length b.length), 0) else ([], 3)) := Lib.hid (by simp [rMul, h1, h2])
  have HA := Lib.hid (serB_in h1)
  have HB := Lib.hid (serB_in h2)
  have la := serB_len h1
  have lb := serB_len h2
  have H1 := Lib.hid h1
  have H2 := Lib.hid h2
  clear h1 h2
  obtain ⟨g1, o1, rfl, hb1, hT1⟩ : ∃ b off, aa = some ⟨b, off, none⟩ ∧ b < w.heap.size ∧ Cs w b off a := by
    rcases hca with rfl | h
    · simp at la
    · exact h
  obtain ⟨g2, o2, rfl, hb2, hT2⟩ : ∃ b' off, ab = some ⟨b', off, none⟩ ∧ b' < w.heap.size ∧ Cs w b' off b := by
    rcases hcb with rfl | h
    · simp at lb
    · exact h
  clear hca hcb
  obtain ⟨m, hm⟩ : ∃ m, min a.length b.length = m := ⟨_, rfl⟩
  have hma : m ≤ a.length := by omega
  have hmb : m ≤ b.length := by omega
  have HM := Lib.hid hm
  have hmk : ∀ w, (Instr.makeSlice 22 (.int .i64 (m : Int)) (.int .i64 (m : Int))).run Try.prog w = .ok (.slice (some ⟨w.heap.size, 0, none⟩) m m) (w.alloc (.cells (nmadeI m) 2)) := fun w => by
    have h := run_make (P := Try.prog) w 22 2 i0 _ Try.underlying22 hi hz0 .i64 .i64 (m : Int) (m : Int) (by omega) (by omega) (by rw [hz2]; omega) (by omega)
    rw [hz1] at h
    simpa [nmadeI, Value.cells] using h
  clear hi hz0 hz1 hz2
  have hsp : (¬ (b.length : Int) < (a.length : Int) ∧ (a.length : Int) = (m : Int)) ∨ ((b.length : Int) < (a.length : Int) ∧ (b.length : Int) = (m : Int)) := by omega
  clear hm
  rcases hsp with ⟨hc, hq⟩ | ⟨hc, hq⟩
  all_goals
    go_enter Try.func11, Try.ntmps11
    go_wp2_with fail
    ((with_reducible refine (iser _ a _ hla hSa).mono ?_); rintro e w1 ⟨rfl, rfl⟩)
    rw [H1.out]
    go_wp2_with fail
    ((with_reducible refine (iser _ b _ hlb hSb).mono ?_); rintro e w1 ⟨rfl, rfl⟩)
    rw [H2.out]
    go_wp2_with fail
    clear hc hq
    go_loopw [25] (fun i wr => ∃ (k : Nat), k ≤ m ∧ i = .int .i64 k ∧ Hid (mulOk a b k) ∧ wr.rowIs w1.heap.size 2 m (mulF a b k 0) ∧ Below w1.heap.size w1 wr) (fun i _ => m - (intOf i).toNat)
    case atStart => exact ⟨0, by omega, rfl, Lib.hid (fun k hk => by omega), (nmadeI_row w1 m _).congr (fun q hq => by unfold mulF; by_cases e : q = 0 <;> simp [e, msum]), ebox1 _ _⟩
    case round =>
      obtain ⟨k, hk, rfl, HU, hO, hbel⟩ := hrel
      by_cases hlt : k < m
      · have hlt' : (k : Int) < (m : Int) := by omega
        go_wp2_with fail
        go_loopw [30] (fun u wr => ∃ (i : Nat), i ≤ k + 1 ∧ u = .int .i64 i ∧ Hid (∀ j, j < i → cntB (msum a b k (j + 1)) = true) ∧ wr.rowIs w1.heap.size 2 m (mulF a b k i) ∧ Below w1.heap.size w1 wr) (fun u _ => k + 1 - (intOf u).toNat)
        case atStart => exact ⟨0, by omega, rfl, Lib.hid (fun j hj => by omega), hO, hbel⟩
        case round =>
          clear hO hbel
          obtain ⟨i, hi', rfl, HV, hO, hbel⟩ := hrel
          obtain ⟨s0, s1⟩ := msum_in i HV.out
          by_cases hik : i ≤ k
          · have hik' : (i : Int) < (k : Int) + 1 := by omega
            have hia : (i : Int) < (a.length : Int) := by omega
            have hkib : (k : Int) - (i : Int) < (b.length : Int) := by omega
            have hki0 : ¬ (k : Int) - (i : Int) < 0 := by omega
            have hkn : ((k : Int) - (i : Int)).toNat = k - i := by omega
            have c0 := (hT1.below hbel hb1) i (by omega)
            have c1 := (hT2.below hbel hb2) (k - i) (by omega)
            have e0 := nth_lt (r := a) (show i < a.length by omega)
            have e1 := nth_lt (r := b) (show k - i < b.length by omega)
            rw [← e0] at c0
            rw [← e1] at c1
            clear e0 e1
            have d0 : wr.cell? ⟨w1.heap.size, k, none⟩ = some (.int .i64 (msum a b k i)) := by
              rw [hO.cell hlt, mulF, if_neg (by omega), if_pos rfl]
            have f0 := hO.frozen k
            obtain ⟨m0, m1⟩ := mul_18 (HA.out i) (HB.out (k - i))
            have HS := Lib.hid (show msum a b k i + nth a i * nth b (k - i) = msum a b k (i + 1) from rfl)
            have rows : (wr.drew.setCell ⟨w1.heap.size, k, none⟩ (.int .i64 (msum a b k i + nth a i * nth b (k - i)))).rowIs w1.heap.size 2 m (mulF a b k (i + 1)) := (hO.set k (.int .i64 (msum a b k i + nth a i * nth b (k - i)))).congr (g := mulF a b k (i + 1)) (fun q hq => by
              unfold mulF
              by_cases e : q = k
              · subst e; simp [msum]
              · simp [e])
            have hb2' : Below w1.heap.size w1 (wr.drew.setCell ⟨w1.heap.size, k, none⟩ (.int .i64 (msum a b k i + nth a i * nth b (k - i)))) := hbel.drew.setCell (by simp) _
            clear hO hbel
            generalize nth a i = X at *
            generalize nth b (k - i) = Y at *
            generalize hS : msum a b k i = S at *
            have w1' : IntKind.i64.wrap (X * Y) = X * Y := IntWalk.i64_in _ (by omega)
            have w2' : IntKind.i64.wrap (S + X * Y) = S + X * Y := IntWalk.i64_in _ (by omega)
            cases hC : cntB (S + X * Y)
            · have HX : Hid (rMul a b = ([], 3)) := Lib.hid (by
                rw [HR.out, if_neg]
                intro h
                have := mulB_iff.1 h k (by rw [HM.out]; omega) i (by omega)
                rw [← HS.out, hC] at this
                cases this)
              have HC := Lib.hid hC
              clear hC hS
              go_wp2_with fail
              go_region
              all_goals
                have c9 := rows.cell hlt
                rw [show mulF a b k (i + 1) k = .int .i64 (S + X * Y) by unfold mulF; rw [if_neg (by omega), if_pos rfl, HS.out]] at c9
                go_wp2_with fail
                ((with_reducible refine (icnt _ _).mono ?_); rintro e w3 ⟨rfl, rfl⟩)
                rw [HC.out]
                go_wp2_with fail
                go_ret2
                rw [HX.out]
                exact ⟨_, rfl, OwnV.none _ _, hb2'⟩
            · have HN : Hid (∀ j, j < i + 1 → cntB (msum a b k (j + 1)) = true) := Lib.hid (fun j hj => by
                by_cases e : j = i
                · subst e; rw [← HS.out]; exact hC
                · exact HV.out j (by omega))
              have HC := Lib.hid hC
              clear hC hS
              go_wp2_with fail
              go_region
              all_goals
                have c9 := rows.cell hlt
                rw [show mulF a b k (i + 1) k = .int .i64 (S + X * Y) by unfold mulF; rw [if_neg (by omega), if_pos rfl, HS.out]] at c9
                go_wp2_with fail
                ((with_reducible refine (icnt _ _).mono ?_); rintro e w3 ⟨rfl, rfl⟩)
                rw [HC.out]
                go_wp2_with fail
                go_roundw
                case rel => exact ⟨i + 1, by omega, by go_num, HN, rows, hb2'⟩
                case measure => simp [intOf]; omega
          · obtain rfl : i = k + 1 := by omega
            have hnk : ¬ ((k : Int) + 1) < (k : Int) + 1 := by omega
            have HN : Hid (mulOk a b (k + 1)) := Lib.hid (fun k' hk' i hi => by
              by_cases e : k' = k
              · subst e; exact HV.out i (by omega)
              · exact HU.out k' (by omega) i hi)
            have rows := hO.congr (g := mulF a b (k + 1) 0) (fun q _ => mulF_next a b k q)
            clear hO
            go_wp2_with fail
            go_roundw
            case rel => exact ⟨k + 1, by omega, by go_num, HN, rows, hbel⟩
            case measure => simp [intOf]; omega
      · obtain rfl : k = m := by omega
        have HX : Hid (rMul a b = (mulL a b k, 0)) := Lib.hid (by
          rw [HR.out, if_pos (mulB_iff.2 (by rw [HM.out]; exact HU.out)), HM.out])
        go_wp2_with fail
        go_ret2
        rw [HX.out]
        refine ⟨_, rfl, .inr ⟨w1.heap.size, k, k, mulF a b k 0, by simp only [mulL_len]; rfl, Nat.le_refl _, by simp only [mulL_len]; exact Nat.le_refl _, hO, fun q hq => ?_⟩, hbel⟩
        have hq' : q < k := by simpa [mulL] using hq
        simp [mulF, hq', mulL]
end Go.Proofs.Ytfbagpndkihcpaa
