/-
  The search of SubgroupOf for what is no number of an Element. Conditions: as each theorem states.
-/
import Derived.Test.YtpbdbgajohacoaaTd
namespace Go.Proofs.Ytpbdbgajohacoaa
open Go.RowKit Go.Sort EchM

def firstZ (f : Int → Bool) : List Int → Nat → Int
  | [], _ => -1
  | x :: L, k => if f x then (k : Int) else firstZ f L (k + 1)
def firstI (f : Int → Bool) (L : List Int) : Int := firstZ f L 0
theorem firstZ_step {f : Int → Bool} {L : List Int} {k : Nat} (h : k < L.length) : firstZ f (L.drop k) k = if f L[k] then (k : Int) else firstZ f (L.drop (k + 1)) (k + 1) := by
  rw [List.drop_eq_getElem_cons h]; rfl
theorem firstZ_any (f : Int → Bool) : ∀ (L : List Int) (k : Nat), decide (0 ≤ firstZ f L k) = L.any f
  | [], k => by simp [firstZ]
  | x :: L, k => by
    rw [firstZ, List.any_cons]
    cases h : f x
    · simpa using firstZ_any f L (k + 1)
    · simp
/-- What the function value owes, in every world that has kept what lay there. -/
def sxJ (w : World) (c1 : Value) (f : Int → Bool) : Prop :=
  ∀ w', Below w.heap.size w w' → ∀ (x : Int), Calls Try.prog 69 #[.int .i64 x, c1] w' fun e w'' => e = .returned (.bool (f x)) ∧ Below w'.heap.size w' w''

set_option maxRecDepth 8000 in
set_option maxHeartbeats 4000000 in
theorem sxindex (c1 : Value) (f : Int → Bool) (v : Value) (L : List Int) (w : World) (hl : L.length ≤ 1048576) (hS : Sl w v L) (hJ : sxJ w c1 f) :
    Calls Try.prog 93 #[v, .func (.func 69) #[] #[c1]] w fun e w' => e = .returned (.int .i64 (firstI f L)) ∧ Below w.heap.size w w' := by
  obtain ⟨a, cap, rfl, hSc⟩ := id hS
  have HJ := Lib.hid hJ
  clear hJ
  go_enter Try.func93, Try.ntmps93
  go_wp2_with fail
  go_loopw [8] (fun i wr => ∃ k : Nat, k ≤ L.length ∧ i = .int .i64 k ∧ Hid (firstI f L = firstZ f (L.drop k) k) ∧ Below w.heap.size w wr) (fun i _ => L.length - (intOf i).toNat)
  case atStart => exact ⟨0, by omega, rfl, Lib.hid rfl, Below.refl _ _⟩
  case round =>
    obtain ⟨k, hk, rfl, HU, hb⟩ := hrel
    by_cases hlt : k < L.length
    · have hlt' : (k : Int) < (L.length : Int) := by omega
      obtain ⟨b, off, rfl, hbb, hT⟩ : ∃ b off, a = some ⟨b, off, none⟩ ∧ b < w.heap.size ∧ Cs w b off L := by
        rcases hSc with rfl | h
        · simp at hlt
        · exact h
      have c0 := (hT.below hb hbb) k hlt
      have HC := Lib.hid (HJ.out wr hb L[k])
      have HS := Lib.hid (HU.out.trans (firstZ_step hlt))
      generalize L[k] = x at *
      go_wp2_with fail
      ((with_reducible refine HC.out.mono ?_); rintro e w1 ⟨rfl, hb1⟩)
      have hb2 := hb.trans (hb1.mono hb.size)
      generalize f x = E at *
      clear c0 HC
      cases E
      · have HN : Hid (firstI f L = firstZ f (L.drop (k + 1)) (k + 1)) := Lib.hid (by rw [HS.out]; rfl)
        go_wp2_with fail
        go_roundw
        case rel => exact ⟨k + 1, by omega, by go_num, HN, hb2⟩
        case measure => simp [intOf]; omega
      · have HN : Hid (firstI f L = (k : Int)) := Lib.hid (by rw [HS.out]; rfl)
        go_wp2_with fail
        go_ret
        exact ⟨by rw [HN.out]; rfl, hb2⟩
    · obtain rfl : k = L.length := by omega
      have HN : Hid (firstI f L = -1) := Lib.hid (by rw [HU.out, List.drop_length]; rfl)
      go_wp2_with fail
      go_ret
      exact ⟨by rw [HN.out]; rfl, hb⟩
theorem sxcontains (c1 : Value) (f : Int → Bool) (v : Value) (L : List Int) (w : World) (hl : L.length ≤ 1048576) (hS : Sl w v L) (hJ : sxJ w c1 f) :
    Calls Try.prog 70 #[v, .func (.func 69) #[] #[c1]] w fun e w' => e = .returned (.bool (L.any f)) ∧ Below w.heap.size w w' := by
  have h0 := firstZ_any f L 0
  have HF := Lib.hid (show decide (0 ≤ firstI f L) = L.any f from h0)
  clear h0
  have hc := sxindex c1 f v L w hl hS hJ
  generalize firstI f L = i at *
  obtain ⟨a, cap, rfl, _⟩ := id hS
  go_enter Try.func70, Try.ntmps70
  go_wp2_with fail
  ((with_reducible refine hc.mono ?_); rintro e w1 ⟨rfl, hb1⟩)
  go_wp2_with fail
  go_ret
  exact ⟨by rw [← HF.out]; rfl, hb1⟩

set_option maxRecDepth 8000 in
set_option maxHeartbeats 4000000 in
theorem soutside (p n : Int) (a : Option Addr) (cap : Nat) (L : List (Nat → Nat → Int)) (g : Nat) (x : Int) (w : World) (rG : w.rowIs g 26 3 (grpF p n (.slice a L.length cap))) :
    Calls Try.prog 69 #[.int .i64 x, .pointer (some ⟨g, 0, none⟩)] w fun e w' => e = .returned (.bool (!inR L x)) ∧ Below w.heap.size w w' := by
  obtain ⟨_, _, g2⟩ := gcells rG
  by_cases h0 : x < 0
  · have HN := Lib.hid (show (!inR L x) = true by unfold inR; rw [decide_eq_false (by omega)]; rfl)
    go_enter Try.func69, Try.ntmps69
    go_wp2_with fail
    go_ret
    exact ⟨by rw [HN.out]; rfl, Below.refl _ _⟩
  · by_cases h1 : (L.length : Int) ≤ x
    · have HN := Lib.hid (show (!inR L x) = true by unfold inR; rw [decide_eq_true (show (0 : Int) ≤ x by omega), decide_eq_false (by omega)]; rfl)
      go_enter Try.func69, Try.ntmps69
      go_wp2_with fail
      go_ret
      exact ⟨by rw [HN.out]; rfl, Below.refl _ _⟩
    · have HN := Lib.hid (show (!inR L x) = false by unfold inR; rw [decide_eq_true (show (0 : Int) ≤ x by omega), decide_eq_true (by omega)]; rfl)
      go_enter Try.func69, Try.ntmps69
      go_wp2_with fail
      go_ret
      exact ⟨by rw [HN.out]; rfl, Below.refl _ _⟩
end Go.Proofs.Ytpbdbgajohacoaa
