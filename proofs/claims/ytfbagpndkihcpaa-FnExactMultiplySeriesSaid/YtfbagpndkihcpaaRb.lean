/-
  PRODUCTS of series: plain mathematics, and the model's walk. Conditions: as each theorem states.
-/
import Derived.Test.YtfbagpndkihcpaaRa
namespace Go.Proofs.Ytfbagpndkihcpaa
open Go.RowKit Go.Sort EchM

/-- The sum of the products at i and k - i, for the first places i. -/
def msum (a b : List Int) (k : Nat) : Nat → Int
  | 0 => 0
  | i + 1 => msum a b k i + nth a i * nth b (k - i)
/-- All sums on the way are numbers of a series. -/
def mulOk (a b : List Int) (m : Nat) : Prop := ∀ k, k < m → ∀ i, i ≤ k → cntB (msum a b k (i + 1)) = true
def mulB (a b : List Int) : Bool := (List.range (min a.length b.length)).all fun k => (List.range (k + 1)).all fun i => cntB (msum a b k (i + 1))
theorem mulB_iff {a b : List Int} : mulB a b = true ↔ mulOk a b (min a.length b.length) := by
  unfold mulB mulOk
  simp only [List.all_eq_true, List.mem_range]
  exact ⟨fun h k hk i hi => h k hk i (by omega), fun h k hk i hi => h k hk i (by omega)⟩
def mulL (a b : List Int) (m : Nat) : List Int := (List.range m).map fun k => msum a b k (k + 1)
def rMul (a b : List Int) : List Int × Int := if serB a && serB b then (if mulB a b then (mulL a b (min a.length b.length), 0) else ([], 3)) else ([], 2)
theorem mulL_len (a b : List Int) (m : Nat) : (mulL a b m).length = m := by simp [mulL]
theorem rMul_len (a b : List Int) (ha : a.length ≤ 1048576) (_hb : b.length ≤ 1048576) : (rMul a b).1.length ≤ 1048576 := by
  unfold rMul
  split
  · split
    · simp only [mulL_len]; omega
    · simp
  · simp
theorem mul_18 {x y : Int} (hx : -1000000000 ≤ x ∧ x ≤ 1000000000) (hy : -1000000000 ≤ y ∧ y ≤ 1000000000) : -1000000000000000000 ≤ x * y ∧ x * y ≤ 1000000000000000000 := by
  have h : (x * y).natAbs ≤ 1000000000 * 1000000000 := by
    rw [Int.natAbs_mul]; exact Nat.mul_le_mul (by omega) (by omega)
  omega
theorem msum_in {a b : List Int} {k : Nat} : ∀ i, (∀ j, j < i → cntB (msum a b k (j + 1)) = true) → -1000000000 ≤ msum a b k i ∧ msum a b k i ≤ 1000000000
  | 0, _ => by simp [msum]
  | i + 1, h => cntB_iff.1 (h i (by omega))

set_option maxRecDepth 8000 in
set_option maxHeartbeats 8000000 in
theorem sMul (va : Value) (a : List Int) (vb : Value) (b : List Int) (w : World) (hla : a.length ≤ 1048576) (hSa : Sl w va a) (hlb : b.length ≤ 1048576) (hSb : Sl w vb b) :
    Calls Try.prog 9 #[va, vb] w fun e w' => ∃ v', e = .returned (.tuple #[v', .int .i64 (rMul a b).2]) ∧ Sl w' v' (rMul a b).1 ∧ Below w.heap.size w w' := by
  obtain ⟨i0, hi, hz0, hz1, hz2⟩ := info_parts einfoI
  obtain ⟨aa, ac, rfl, hca⟩ := id hSa
  obtain ⟨ab, bc, rfl, hcb⟩ := id hSb
  have hnil : Sl w (.slice none 0 0) [] := ⟨none, 0, rfl, .inl rfl⟩
  cases h1 : serB a
  · have HX : Hid (rMul a b = ([], 2)) := Lib.hid (by simp [rMul, h1])
    rw [HX.out]
    have H1 := Lib.hid h1
    clear h1 HX
    go_enter Try.func9, Try.ntmps9
    go_wp2_with fail
    ((with_reducible refine (sser _ a _ hla hSa).mono ?_); rintro e w1 ⟨rfl, rfl⟩)
    rw [H1.out]
    go_wp2_with fail
    go_ret2
    exact ⟨_, rfl, hnil, Below.refl _ _⟩
  cases h2 : serB b
  · have HX : Hid (rMul a b = ([], 2)) := Lib.hid (by simp [rMul, h2])
    rw [HX.out]
    have H1 := Lib.hid h1
    have H2 := Lib.hid h2
    clear h1 h2 HX
    go_enter Try.func9, Try.ntmps9
    go_wp2_with fail
    ((with_reducible refine (sser _ a _ hla hSa).mono ?_); rintro e w1 ⟨rfl, rfl⟩)
    rw [H1.out]
    go_wp2_with fail
    ((with_reducible refine (sser _ b _ hlb hSb).mono ?_); rintro e w1 ⟨rfl, rfl⟩)
    rw [H2.out]
    go_wp2_with fail
    go_ret2
    exact ⟨_, rfl, hnil, Below.refl _ _⟩
  have HR : Hid (rMul a b = if mulB a b then (mulL a b (min a.length b.length), 0) else ([], 3)) := Lib.hid (by simp [rMul, h1, h2])
  have HA := Lib.hid (serB_in h1)
  have HB := Lib.hid (serB_in h2)
  have la := serB_len h1
  have lb := serB_len h2
  have H1 := Lib.hid h1
  have H2 := Lib.hid h2
  clear h1 h2 hnil
  obtain ⟨g1, o1, rfl, hb1, hT1⟩ : ∃ b off, aa = some ⟨b, off, none⟩ ∧ b < w.heap.size ∧ Cs w b off a := by
    rcases hca with rfl | h
    · simp at la
    · exact h
  obtain ⟨g2, o2, rfl, hb2, hT2⟩ : ∃ b' off, ab = some ⟨b', off, none⟩ ∧ b' < w.heap.size ∧ Cs w b' off b := by
    rcases hcb with rfl | h
    · simp at lb
    · exact h
  clear hca hcb
  have hz : ∀ t, t = 2 → OwnL (w.alloc (.cells #[] t)) w.heap.size (.slice (some ⟨w.heap.size, 0, none⟩) 0 0) [] := fun t ht => by
    subst ht
    have := World.ownsRow_made (base := w.heap.size) (e := 2) (size := 1) w #[] 0 (by omega) (by simp [maxLen]) rfl
    simpa [OwnL, valsI] using this
  go_enter Try.func9, Try.ntmps9
  go_wp2_with fail
  ((with_reducible refine (sser _ a _ hla hSa).mono ?_); rintro e w1 ⟨rfl, rfl⟩)
  rw [H1.out]
  go_wp2_with fail
  ((with_reducible refine (sser _ b _ hlb hSb).mono ?_); rintro e w1 ⟨rfl, rfl⟩)
  rw [H2.out]
  go_wp2_with fail
  go_loopw [6, 7] (fun s i wr => ∃ (k : Nat), k ≤ a.length ∧ k ≤ b.length ∧ i = .int .i64 k ∧ Hid (mulOk a b k) ∧ OwnL wr w1.heap.size s (mulL a b k) ∧ Below w1.heap.size w1 wr) (fun _ i _ => a.length - (intOf i).toNat)
  case atStart => exact ⟨0, by omega, by omega, rfl, Lib.hid (fun k hk => by omega), hz _ rfl, ebox1 _ _⟩
  case round =>
    obtain ⟨k, hka, hkb, rfl, HU, hO, hbel⟩ := hrel
    by_cases hlt : k < a.length ∧ k < b.length
    · obtain ⟨hlta, hltb⟩ := hlt
      have hlta' : (k : Int) < (a.length : Int) := by omega
      have hltb' : (k : Int) < (b.length : Int) := by omega
      obtain ⟨sa, sc, rfl⟩ := hO.shape
      obtain ⟨wo, rfl⟩ : ∃ wo : World, wo = wr := ⟨_, rfl⟩
      go_wp2_with fail
      go_loopw [8, 9] (fun s u wr => ∃ (i : Nat), i ≤ k + 1 ∧ s = .int .i64 (msum a b k i) ∧ u = .int .i64 i ∧ Hid (∀ j, j < i → cntB (msum a b k (j + 1)) = true) ∧ ∃ n, wr = wo.drewN n) (fun _ u _ => k + 1 - (intOf u).toNat)
      case atStart => exact ⟨0, by omega, rfl, rfl, Lib.hid (fun j hj => by omega), 0, rfl⟩
      case round =>
        obtain ⟨i, hi', rfl, rfl, HV, nd, rfl⟩ := hrel
        obtain ⟨s0, s1⟩ := msum_in i HV.out
        by_cases hik : i ≤ k
        · have hik' : (i : Int) ≤ (k : Int) := by omega
          have hia : (i : Int) < (a.length : Int) := by omega
          have hkib : (k : Int) - (i : Int) < (b.length : Int) := by omega
          have hki0 : ¬ (k : Int) - (i : Int) < 0 := by omega
          have hkn : ((k : Int) - (i : Int)).toNat = k - i := by omega
          have c0 := (hT1.below hbel hb1) i (by omega)
          have c1 := (hT2.below hbel hb2) (k - i) (by omega)
          have e0 := nth_lt (r := a) (show i < a.length by omega)
          have e1 := nth_lt (r := b) (show k - i < b.length by omega)
          rw [← e0] at c0
          rw [← e1] at c1
          clear e0 e1
          obtain ⟨m0, m1⟩ := mul_18 (HA.out i) (HB.out (k - i))
          have HS := Lib.hid (show msum a b k i + nth a i * nth b (k - i) = msum a b k (i + 1) from rfl)
          generalize nth a i = X at c0 m0 m1 HS
          generalize nth b (k - i) = Y at c1 m0 m1 HS
          generalize hS : msum a b k i = S at s0 s1 HS
          have w1' : IntKind.i64.wrap (X * Y) = X * Y := IntWalk.i64_in _ (by omega)
          have w2' : IntKind.i64.wrap (S + X * Y) = S + X * Y := IntWalk.i64_in _ (by omega)
          cases hC : cntB (S + X * Y)
          · have HX : Hid (rMul a b = ([], 3)) := Lib.hid (by
              rw [HR.out, if_neg]
              intro h
              have := mulB_iff.1 h k (by omega) i (by omega)
              rw [← HS.out, hC] at this
              cases this)
            have HC := Lib.hid hC
            clear hC hS
            go_wp2_with fail
            go_quiet (fail)
            go_wp2_with fail
            ((with_reducible refine (scnt _ _).mono ?_); rintro e w3 ⟨rfl, rfl⟩)
            rw [HC.out]
            go_wp2_with fail
            go_ret2
            rw [HX.out]
            exact ⟨_, rfl, ⟨none, 0, rfl, .inl rfl⟩, below_drewN hbel _⟩
          · have HN : Hid (∀ j, j < i + 1 → cntB (msum a b k (j + 1)) = true) := Lib.hid (fun j hj => by
              by_cases e : j = i
              · subst e; rw [← HS.out]; exact hC
              · exact HV.out j (by omega))
            have HC := Lib.hid hC
            clear hC hS
            go_wp2_with fail
            go_quiet (fail)
            go_wp2_with fail
            ((with_reducible refine (scnt _ _).mono ?_); rintro e w3 ⟨rfl, rfl⟩)
            rw [HC.out]
            go_wp2_with fail
            go_roundw
            case rel => exact ⟨i + 1, by omega, by rw [← HS.out], by go_num, HN, _, rfl⟩
            case measure => simp [intOf]; omega
        · obtain rfl : i = k + 1 := by omega
          have hnk : ¬ ((k : Int) + 1) ≤ (k : Int) := by omega
          have HN : Hid (mulOk a b (k + 1)) := Lib.hid (fun k' hk' i hi => by
            by_cases e : k' = k
            · subst e; exact HV.out i (by omega)
            · exact HU.out k' (by omega) i hi)
          have hOd := hO.below (below_drewN (Below.refl _ _) nd)
          have HM := Lib.hid (show mulL a b k ++ [msum a b k (k + 1)] = mulL a b (k + 1) by simp [mulL, List.range_succ])
          have hlen := mulL_len a b k
          have hbel2 := below_drewN hbel nd
          clear hO hbel
          generalize mulL a b k = O at *
          generalize msum a b k (k + 1) = R at *
          have hOd2 : (wo.drewN nd).ownsRow w1.heap.size 2 1 (.slice sa k sc) k (valsI O) := by
            have h := hOd
            unfold OwnL at h
            rwa [hlen] at h
          have HLEN := Lib.hid hlen
          clear hlen hOd
          rw [HLEN.out]
          go_wp2_with (at_builtin; refine wpList_append_lies _ rfl _ _ 22 rfl w1.heap.size 2 i0 _ 1 8 Try.underlying22 hi hz0 hz1 hz2 rfl (by decide) (.slice sa k sc) k (valsI O) rfl (World.ownsRow.alloc hOd2 _) ⟨(wo.drewN nd).heap.size, 0, none⟩ 1 1 [.int .i64 R] rfl rfl (World.news_of_block (cs := #[.int .i64 R]) (t := 2) (fr := (0, 0)) (heap_alloc_new _ _)) (by simp [Value.oneCell']) (by omega) (by unfold maxLen; omega) (by omega) (by simp; have := hbel2.size; simp at this; omega) _ rfl ?_)
          intro gg cap3 w3 hown3 hgrow3 hat3 hlt3
          have hb3 : Below w1.heap.size w1 w3 := (hbel2.alloc hbel2.size (.cells #[.int .i64 R] 2)).grown hgrow3 (by have := hbel2.size; simp at this ⊢; omega) (fun q hq => (World.ownsRow.lt hOd2 q hq).1)
          have hO3 : OwnL w3 w1.heap.size (.slice (some ⟨gg, 0, none⟩) (k + 1) cap3) (O ++ [R]) := by
            have h := hown3
            rw [valsI_snoc] at h
            simpa [OwnL, HLEN.out] using h
          clear hown3 hgrow3 hat3 hOd2 hbel2
          rw [HM.out] at hO3
          go_wp2_with fail
          go_roundw
          case rel => exact ⟨k + 1, by omega, by omega, by go_num, HN, hO3, hb3⟩
          case measure => simp [intOf]; omega
    · have HX : Hid (rMul a b = (mulL a b k, 0)) := Lib.hid (by
        have hm : min a.length b.length = k := by omega
        rw [HR.out, if_pos (mulB_iff.2 (by rw [hm]; exact HU.out)), hm])
      by_cases h1 : k < a.length
      · have h1' : (k : Int) < (a.length : Int) := by omega
        have h2' : ¬ (k : Int) < (b.length : Int) := by omega
        clear hlt h1
        go_wp2_with fail
        go_ret2
        rw [HX.out]
        exact ⟨_, rfl, hO.slice, hbel⟩
      · have h1' : ¬ (k : Int) < (a.length : Int) := by omega
        clear hlt h1
        go_wp2_with fail
        go_ret2
        rw [HX.out]
        exact ⟨_, rfl, hO.slice, hbel⟩
end Go.Proofs.Ytfbagpndkihcpaa
