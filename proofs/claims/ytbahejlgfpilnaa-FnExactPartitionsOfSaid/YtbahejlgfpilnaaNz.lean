/-
  MONOMIALS of a degree: the program's walk; lists of exponents in memory. Conditions: as each theorem states.. Conditions: as each theorem states.
-/
import Derived.Test.YtbahejlgfpilnaaMza
namespace Go.Proofs.Ytbahejlgfpilnaa
open Go.RowKit Go.Sort

theorem vars_yes (d : Int) (w : World) (h1 : 1 ≤ d) (h2 : d ≤ 3) : Calls Try.prog 91 #[.int .i64 d] w fun e w' => e = .returned (.bool true) ∧ w = w' :=
  (vars_any d w).mono fun _ _ ⟨he, hw⟩ => ⟨by rw [he]; simp [h1, h2], hw⟩
theorem vars_no (d : Int) (w : World) (h : d < 1 ∨ 3 < d) : Calls Try.prog 91 #[.int .i64 d] w fun e w' => e = .returned (.bool false) ∧ w = w' :=
  (vars_any d w).mono fun _ _ ⟨he, hw⟩ => ⟨by rw [he]; congr 2; simp; omega, hw⟩
theorem degree_yes (n : Int) (w : World) (h1 : 0 ≤ n) (h2 : n ≤ 12) : Calls Try.prog 96 #[.int .i64 n] w fun e w' => e = .returned (.bool true) ∧ w = w' :=
  (degree_any n w).mono fun _ _ ⟨he, hw⟩ => ⟨by rw [he]; simp [h1, h2], hw⟩
theorem degree_no (n : Int) (w : World) (h : n < 0 ∨ 12 < n) : Calls Try.prog 96 #[.int .i64 n] w fun e w' => e = .returned (.bool false) ∧ w = w' :=
  (degree_any n w).mono fun _ _ ⟨he, hw⟩ => ⟨by rw [he]; congr 2; simp; omega, hw⟩

set_option maxRecDepth 8000 in
set_option maxHeartbeats 2000000 in
theorem implMon_in (d : Int) (n : Nat) (w : World) (hd1 : 1 ≤ d) (hd2 : d ≤ 3) (hn : n ≤ 12) (HB : Hid (monB d n = true)) : Calls Try.prog 164 #[.int .i64 d, .int .i64 n] w (MonPost d n w) := by
  obtain ⟨i0, hi, hz0, hz1, hz2⟩ := info_parts info52
  have hn0 : (0 : Int) ≤ n := by omega
  have hn12 : (n : Int) ≤ 12 := by omega
  go_enter Try.func164, Try.ntmps164
  go_wp2_with fail
  ((with_reducible refine (vars_yes _ _ hd1 hd2).mono ?_); rintro e w1 ⟨rfl, rfl⟩)
  go_wp2_with fail
  ((with_reducible refine (degree_yes _ _ hn0 hn12).mono ?_); rintro e w1 ⟨rfl, rfl⟩)
  go_wp2
  go_loopw [6, 7] (fun v i wr => ∃ s : Nat, s ≤ n + 1 ∧ i = .int .i64 (n - s) ∧ wr.ownsRow w.heap.size 107 3 v (outerL d n s).length (cells3 (outerL d n s)) ∧ Below w.heap.size w wr)
    (fun _ i _ => (intOf i + 1).toNat)
  case atStart => exact ⟨0, by omega, by simp, World.ownsRow_nil _ _ _ _, Below.refl _ _⟩
  case round =>
    obtain ⟨s, hs, rfl, hown, hbel⟩ := hrel
    by_cases hlt : s < n + 1
    · have hle : s ≤ n := by omega
      go_wp2
      obtain ⟨wo, rfl⟩ : ∃ wo : World, wo = wr := ⟨_, rfl⟩
      go_loopw [6, 8] (fun v i wr => ∃ t : Nat, t ≤ s + 1 ∧ i = .int .i64 (s - t) ∧ wr.ownsRow w.heap.size 107 3 v (outerL d n s ++ innerL d n s t).length (cells3 (outerL d n s ++ innerL d n s t)) ∧ Below w.heap.size w wr)
        (fun _ i _ => (intOf i + 1).toNat)
      case atStart => exact ⟨0, by omega, by simp; omega, by simpa [innerL_zero] using hown, hbel⟩
      case round =>
        obtain ⟨t, ht, rfl, hown1, hbel1⟩ := hrel
        by_cases hlt2 : t < s + 1
        · have hle2 : t ≤ s := by omega
          go_wp2_with fail
          have b1 : 0 ≤ (n : Int) - s ∧ (n : Int) - s ≤ 255 := by omega
          have b2 : 0 ≤ (s : Int) - t ∧ (s : Int) - t ≤ 255 := by omega
          have b3 : 0 ≤ (n : Int) - (n - s) - (s - t) ∧ (n : Int) - (n - s) - (s - t) ≤ 255 := by omega
          ((with_reducible refine (monomial_any _ _ _ _ _ ⟨hd1, hd2⟩ b1 b2 b3).mono ?_); rintro e w1 ⟨rfl, hb⟩)
          have hlen := outerL_le d n s
          have hlen2 := innerL_le d n s t
          have hlen3 : s * s ≤ 13 * 13 := Nat.mul_le_mul (by omega) (by omega)
          have hsum : ((n : Int) - (↑n - ↑s) - (↑s - ↑t)) = t := by omega
          generalize hE : expsOk d (↑n - ↑s) (↑s - ↑t) (↑n - (↑n - ↑s) - (↑s - ↑t)) = E
          have HE := Lib.hid hE
          have HS := Lib.hid hsum
          clear hE hsum
          cases E
          · go_wp2
            go_roundw
            case rel => exact ⟨t + 1, by omega, by go_num, by rw [innerL_miss d n s t _ HS.out HE.out]; exact (round_skip hbel1 hown1 hb).1, (round_skip hbel1 hown1 hb).2⟩
            case measure => simp [intOf]; omega
          · have c0 : w1.cell? ⟨wr.heap.size, 0, none⟩ = some (.int .u8 (↑n - ↑s)) := (hb.cell (by simp)).trans (by simp [World.cell?_alloc_at])
            have c1 : w1.cell? ⟨wr.heap.size, 1, none⟩ = some (.int .u8 (↑s - ↑t)) := (hb.cell (by simp)).trans (by simp [World.cell?_alloc_at])
            have c2 : w1.cell? ⟨wr.heap.size, 2, none⟩ = some (.int .u8 (↑n - (↑n - ↑s) - (↑s - ↑t))) := (hb.cell (by simp)).trans (by simp [World.cell?_alloc_at])
            go_wp2_with (at_builtin; refine wpList_append_own _ rfl _ _ 176 rfl w.heap.size 107 i0 _ 3 3 Try.underlying176 hi hz0 hz1 hz2 rfl (by decide) _ _ _ rfl ((owns_below (hown1.alloc _) hb).alloc _) ⟨w1.heap.size, 0, none⟩ 1 1 [.int .u8 (↑n - ↑s), .int .u8 (↑s - ↑t), .int .u8 (↑n - (↑n - ↑s) - (↑s - ↑t))] rfl rfl ?c1 ?c2 ?c3 ?c4 ?c5 ?_)
            case c1 =>
              intro j u hj
              match j, hj with
              | 0, hj => simp at hj; subst hj; simp [World.cell?_alloc_at, Addr.add]
              | 1, hj => simp at hj; subst hj; simp [World.cell?_alloc_at, Addr.add]
              | 2, hj => simp at hj; subst hj; simp [World.cell?_alloc_at, Addr.add]
            case c2 => intro u hu; simp at hu; rcases hu with rfl | rfl | rfl <;> rfl
            case c3 => simp only [List.length_append]; unfold maxLen; omega
            case c4 => simp only [List.length_append]; omega
            case c5 => have := hbel1.size; have h2 := hb.size; simp only [World.size_alloc] at h2 ⊢; omega
            intro v' w2 hown2 hgrow _
            have R := round_keep hbel1 hown1 hb (by simpa using hown2) hgrow
            clear hown2 hgrow hown1
            go_wp2
            go_roundw
            case rel => exact ⟨t + 1, by omega, by go_num, by rw [innerL_hit d n s t _ HS.out HE.out, ← List.append_assoc]; exact R.1, R.2⟩
            case measure => simp [intOf]; omega
        · obtain rfl : t = s + 1 := by omega
          rw [← outerL_succ] at hown1
          go_wp2
          go_roundw
          case rel => exact ⟨s + 1, by omega, by go_num, hown1, hbel1⟩
          case measure => simp [intOf]; omega
    · obtain rfl : s = n + 1 := by omega
      go_wp2
      go_ret2
      have hm : monL d n = outerL d n (n + 1) := by simp [monL, HB.out]
      rw [← hm] at hown
      exact ⟨_, by simp [monC, HB.out], hown, hbel⟩

set_option maxRecDepth 8000 in
set_option maxHeartbeats 1000000 in
theorem implMon (d n : Int) (w : World) : Calls Try.prog 164 #[.int .i64 d, .int .i64 n] w (MonPost d n w) := by
  by_cases h1 : 1 ≤ d ∧ d ≤ 3
  · obtain ⟨h1a, h1b⟩ := h1
    by_cases h2 : 0 ≤ n ∧ n ≤ 12
    · obtain ⟨h2a, h2b⟩ := h2
      obtain ⟨m, rfl⟩ := Int.eq_ofNat_of_zero_le h2a
      exact implMon_in d m w h1a h1b (by omega) (Lib.hid (by simp [monB]; omega))
    · have h2' : n < 0 ∨ 12 < n := by omega
      have HB : Hid (monB d n = false) := Lib.hid (by simp [monB]; omega)
      clear h2
      go_enter Try.func164, Try.ntmps164
      go_wp2_with fail
      ((with_reducible refine (vars_yes _ _ h1a h1b).mono ?_); rintro e w1 ⟨rfl, rfl⟩)
      go_wp2_with fail
      ((with_reducible refine (degree_no _ _ h2').mono ?_); rintro e w1 ⟨rfl, rfl⟩)
      go_wp2
      go_ret2
      exact ⟨_, by simp [monC, HB.out]; rfl, by simpa [monL, HB.out, cells3] using World.ownsRow_nil _ _ _ _, Below.refl _ _⟩
  · have h1' : d < 1 ∨ 3 < d := by omega
    have HB : Hid (monB d n = false) := Lib.hid (by simp [monB]; omega)
    clear h1
    go_enter Try.func164, Try.ntmps164
    go_wp2_with fail
    ((with_reducible refine (vars_no _ _ h1').mono ?_); rintro e w1 ⟨rfl, rfl⟩)
    go_wp2
    go_ret2
    exact ⟨_, by simp [monC, HB.out]; rfl, by simpa [monL, HB.out, cells3] using World.ownsRow_nil _ _ _ _, Below.refl _ _⟩

/-- A list of exponents that lies in memory. -/
def LaysE (w : World) (v : Value) (l : List (Int × Int × Int)) : Prop :=
  (v = .slice none 0 0 ∧ l = []) ∨ ∃ g cap, v = .slice (some ⟨g, 0, none⟩) l.length cap ∧ g < w.heap.size ∧ ∀ j u, (cells3 l)[j]? = some u → w.cell? ⟨g, j, none⟩ = some u
theorem LaysE.of_owns {w : World} {base : Nat} {e : TypeId} {v : Value} {l : List (Int × Int × Int)} (h : w.ownsRow base e 3 v l.length (cells3 l)) : LaysE w v l := by
  have hc := @World.ownsRow.cells _ _ _ _ _ _ _ h
  have hl := h.lt
  obtain ⟨_, ⟨hv, hn⟩ | ⟨g, cap, cur, hv, _⟩⟩ := h
  · exact .inl ⟨hv, List.eq_nil_of_length_eq_zero hn⟩
  · subst hv
    refine .inr ⟨g, cap, rfl, (hl g rfl).2, fun j u hj => ?_⟩
    have := hc rfl j u hj
    rw [Addr.add_lit] at this
    simpa using this
theorem LaysE.below {w w' : World} {v : Value} {l : List (Int × Int × Int)} (h : LaysE w v l) (hb : Below w.heap.size w w') : LaysE w' v l := by
  rcases h with h | ⟨g, cap, hv, hg, hc⟩
  · exact .inl h
  · exact .inr ⟨g, cap, hv, Nat.lt_of_lt_of_le hg hb.size, fun j u hj => (hb.cell (p := ⟨g, j, none⟩) hg).trans (hc j u hj)⟩

theorem cells3_at (l : List (Int × Int × Int)) : ∀ (k : Nat) (h : k < l.length), (cells3 l)[k * 3]? = some (.int .u8 l[k].1) ∧ (cells3 l)[k * 3 + 1]? = some (.int .u8 l[k].2.1) ∧ (cells3 l)[k * 3 + 2]? = some (.int .u8 l[k].2.2) := by
  induction l with
  | nil => intro k h; simp at h
  | cons a l ih =>
    intro k h
    cases k with
    | zero => exact ⟨rfl, rfl, rfl⟩
    | succ k =>
      have := ih k (by simpa using h)
      have e : cells3 (a :: l) = cell3 a ++ cells3 l := by simp [cells3]
      have hl : (cell3 a).length = 3 := rfl
      rw [e]
      refine ⟨?_, ?_, ?_⟩
      · rw [List.getElem?_append_right (by omega), show (k + 1) * 3 - (cell3 a).length = k * 3 from by omega]; exact this.1
      · rw [List.getElem?_append_right (by omega), show (k + 1) * 3 + 1 - (cell3 a).length = k * 3 + 1 from by omega]; exact this.2.1
      · rw [List.getElem?_append_right (by omega), show (k + 1) * 3 + 2 - (cell3 a).length = k * 3 + 2 from by omega]; exact this.2.2
end Go.Proofs.Ytbahejlgfpilnaa
