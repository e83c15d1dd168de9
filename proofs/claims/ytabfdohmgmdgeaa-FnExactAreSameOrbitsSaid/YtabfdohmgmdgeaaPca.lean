/-
  POINTS compared; the judge of a group with a point. Conditions: as each theorem states.
-/
import Derived.Test.YtabfdohmgmdgeaaPb
import Derived.Test.YtabfdohmgmdgeaaGw
namespace Go.Proofs.Ytabfdohmgmdgeaa
open Go.RowKit Go.Sort EchM

def cmpI : List Int → List Int → Int
  | a :: r, b :: s => if a < b then -1 else if b < a then 1 else cmpI r s
  | _, _ => 0
theorem cmpI_step {l o : List Int} {k : Nat} (h : k < l.length) (h' : k < o.length) : cmpI (l.drop k) (o.drop k) = if l[k] < o[k] then -1 else if o[k] < l[k] then 1 else cmpI (l.drop (k + 1)) (o.drop (k + 1)) := by
  rw [List.drop_eq_getElem_cons h, List.drop_eq_getElem_cons h']; rfl
theorem cmpI_end {l o : List Int} {k : Nat} (h : l.length = k) : cmpI (l.drop k) (o.drop k) = 0 := by
  rw [List.drop_of_length_le (by omega)]; rfl
theorem cmpI_zero : ∀ {l o : List Int}, l.length = o.length → (cmpI l o = 0 ↔ l = o)
  | [], [], _ => by simp [cmpI]
  | a :: r, b :: s, h => by
    rw [cmpI]
    by_cases h1 : a < b
    · rw [if_pos h1]; constructor
      · intro h; omega
      · intro h; injection h with h2 _; omega
    · rw [if_neg h1]
      by_cases h2 : b < a
      · rw [if_pos h2]; constructor
        · intro h; omega
        · intro h; injection h with h3 _; omega
      · rw [if_neg h2, cmpI_zero (by simpa using h), show a = b by omega]; simp

set_option maxRecDepth 8000 in
set_option maxHeartbeats 4000000 in
theorem scmpI (v v' : Value) (l o : List Int) (w : World) (hl : l.length ≤ 1048576) (hlo : l.length = o.length) (hS : Sl w v l) (hS' : Sl w v' o) :
    Calls Try.prog 40 #[v, v'] w fun e w' => e = .returned (.int .i64 (cmpI l o)) ∧ Below w.heap.size w w' := by
  obtain ⟨a, cap, rfl, hc⟩ := hS
  obtain ⟨a', cap', rfl, hc'⟩ := hS'
  have HLO := Lib.hid hlo
  rw [← hlo]
  clear hlo
  go_enter Try.func40, Try.ntmps40
  go_wp2_with fail
  go_loopw [5] (fun i wr => ∃ k : Nat, k ≤ l.length ∧ i = .int .i64 k ∧ Hid (cmpI l o = cmpI (l.drop k) (o.drop k)) ∧ ∃ nd, wr = w.drewN nd) (fun i _ => l.length - (intOf i).toNat)
  case atStart => exact ⟨0, by omega, rfl, Lib.hid rfl, 0, rfl⟩
  case round =>
    obtain ⟨k, hk, rfl, HU, nd, rfl⟩ := hrel
    by_cases hlt : k < l.length
    · have hlt' : (k : Int) < (l.length : Int) := by omega
      have hlo : k < o.length := by have := HLO.out; omega
      obtain ⟨b, off, rfl, hbb, hT⟩ : ∃ b off, a = some ⟨b, off, none⟩ ∧ b < w.heap.size ∧ Cs w b off l := by
        rcases hc with rfl | h
        · simp at hlt
        · exact h
      obtain ⟨b', off', rfl, hbb', hT'⟩ : ∃ b off, a' = some ⟨b, off, none⟩ ∧ b < w.heap.size ∧ Cs w b off o := by
        rcases hc' with rfl | h
        · simp at hlo
        · exact h
      have c0 := hT k hlt
      have c1 := hT' k hlo
      have HS := Lib.hid (HU.out.trans (cmpI_step hlt hlo))
      generalize l[k] = x at *
      generalize o[k] = y at *
      by_cases h1 : x < y
      · have HN := Lib.hid (HS.out.trans (if_pos h1))
        go_wp2_with fail
        go_quiet (fail)
        go_wp2_with fail
        go_ret
        exact ⟨by rw [HN.out]; rfl, by repeat (first | with_reducible exact Below.refl _ _ | refine below_drewN ?_ _)⟩
      · by_cases h2 : y < x
        · have HN := Lib.hid (HS.out.trans (by rw [if_neg h1, if_pos h2] : _ = (1 : Int)))
          go_wp2_with fail
          go_quiet (fail)
          go_wp2_with fail
          go_quiet (fail)
          go_wp2_with fail
          go_ret
          exact ⟨by rw [HN.out]; rfl, by repeat (first | with_reducible exact Below.refl _ _ | refine below_drewN ?_ _)⟩
        · have HN := Lib.hid (HS.out.trans (by rw [if_neg h1, if_neg h2] : _ = cmpI (l.drop (k + 1)) (o.drop (k + 1))))
          go_wp2_with fail
          go_quiet (fail)
          go_wp2_with fail
          go_quiet (fail)
          go_wp2_with fail
          go_roundw
          case rel => exact ⟨k + 1, by omega, by go_num, HN, _, rfl⟩
          case measure => simp [intOf]; omega
    · obtain rfl : k = l.length := by omega
      have HN := Lib.hid (HU.out.trans (cmpI_end (o := o) rfl))
      go_wp2_with fail
      go_ret
      exact ⟨by rw [HN.out]; rfl, below_drewN (Below.refl _ _) _⟩

/-- The code of a group with a point. -/
def ptC (p n : Int) (L : List (Nat → Nat → Int)) (pt : List Int) : Int := if isGrp p n L then (if nptB p n pt then 0 else 2) else 1
theorem ptC_no {p n : Int} {L : List (Nat → Nat → Int)} {pt : List Int} (h : isGrp p n L = false) : ptC p n L pt = 1 := by unfold ptC; rw [h]; rfl
theorem ptC_bad {p n : Int} {L : List (Nat → Nat → Int)} {pt : List Int} (h : isGrp p n L = true) (h' : nptB p n pt = false) : ptC p n L pt = 2 := by unfold ptC; rw [h, h']; rfl
theorem ptC_ok {p n : Int} {L : List (Nat → Nat → Int)} {pt : List Int} (h : isGrp p n L = true) (h' : nptB p n pt = true) : ptC p n L pt = 0 := by unfold ptC; rw [h, h']; rfl
theorem isGrp_pn {p n : Int} {L : List (Nat → Nat → Int)} (h : isGrp p n L = true) : (2 ≤ p ∧ p ≤ 13) ∧ 1 ≤ n := by
  unfold isGrp at h
  simp only [Bool.and_eq_true, decide_eq_true_eq] at h
  exact ⟨pB_le h.1, h.2.1.1⟩

set_option maxRecDepth 8000 in
set_option maxHeartbeats 4000000 in
theorem icode (p n : Int) (v u : Value) (L : List (Nat → Nat → Int)) (pt : List Int) (w : World) (hl : L.length ≤ 1048576) (hS : SlM w v L) (hby : ∀ x ∈ L, Byt x) (hpl : pt.length ≤ 1048576) (hU : Sl w u pt) :
    Calls Try.prog 17 #[.agg #[.int .i64 p, .int .i64 n, v], u] w fun e w' => e = .returned (.int .i64 (ptC p n L pt)) ∧ Below w.heap.size w w' := by
  obtain ⟨W, hW, rW, hbW⟩ : ∃ W, W = w.alloc (.cells #[.int .i64 p, .int .i64 n, v] 31) ∧ W.rowIs w.heap.size 31 3 (grpF p n v) ∧ Below w.heap.size w W := ⟨_, rfl, gbox w p n v _, ebox1 _ _⟩
  have hSW := hS.below hbW
  have hUW := hU.below hbW
  obtain ⟨a, cap, rfl, hSc⟩ := id hS
  obtain ⟨g0, g1, g2⟩ := gcells rW
  have HBY := Lib.hid hby
  clear hby
  go_enter Try.func17, Try.ntmps17
  go_wp2_with fail
  rw [← hW]
  clear hW
  ((with_reducible refine (igroup p n _ L _ hl hSW HBY.out).mono ?_); rintro e w1 ⟨rfl, hb1⟩)
  have hbw1 := hbW.trans (hb1.mono hbW.size)
  have rx1 := erow_below rW hb1 rW.lt
  have hU1 := hUW.below hb1
  clear g0 g1 g2
  obtain ⟨g0, g1, g2⟩ := gcells rx1
  cases hg : isGrp p n L
  · have HC := Lib.hid (ptC_no (pt := pt) hg)
    go_wp2_with fail
    go_ret
    exact ⟨by rw [HC.out]; rfl, hbw1⟩
  · obtain ⟨⟨h2, h13⟩, hn1⟩ := isGrp_pn hg
    cases hp : nptB p n pt
    · have HC := Lib.hid (ptC_bad hg hp)
      have HP := Lib.hid hp
      clear hp hg
      go_wp2_with fail
      ((with_reducible refine (nareNumbers_any p n u pt _ hn1 hpl hU1).mono ?_); rintro e w2 ⟨rfl, hb2⟩)
      rw [HP.out]
      go_wp2_with fail
      go_ret
      exact ⟨by rw [HC.out]; rfl, hbw1.trans (hb2.mono hbw1.size)⟩
    · have HC := Lib.hid (ptC_ok hg hp)
      have HP := Lib.hid hp
      clear hp hg
      go_wp2_with fail
      ((with_reducible refine (nareNumbers_any p n u pt _ hn1 hpl hU1).mono ?_); rintro e w2 ⟨rfl, hb2⟩)
      rw [HP.out]
      go_wp2_with fail
      go_ret
      exact ⟨by rw [HC.out]; rfl, hbw1.trans (hb2.mono hbw1.size)⟩
end Go.Proofs.Ytabfdohmgmdgeaa
