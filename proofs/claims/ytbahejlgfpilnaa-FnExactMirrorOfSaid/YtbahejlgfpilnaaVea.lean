/-
  WALKS: rows judged, also without numbers. Conditions: as each theorem states.
-/
import Derived.Test.YtbahejlgfpilnaaPz
import Derived.Test.YtbahejlgfpilnaaEf
namespace Go.Proofs.Ytbahejlgfpilnaa
open Go.RowKit Go.Sort EchM

theorem npoint_zero (p : Int) (a : Option Addr) (cap : Nat) (w : World) :
    Calls Try.prog 120 #[.int .i64 p, .int .i64 0, .slice a 0 cap] w fun e w' => e = .returned (.bool (nptB p 0 [])) ∧ w = w' := by
  go_enter Try.func120, Try.ntmps120
  go_wp2
  refine wp_loop_rounds 1 ?_
  rw [rounds_succ]
  go_wp2
  go_ret
  exact ⟨rfl, rfl⟩
theorem npoint_all (p d : Int) (v : Value) (l : List Int) (w : World) (h2 : 2 ≤ p) (h13 : p ≤ 13) (hd : 0 ≤ d) (hl : l.length ≤ 1048576) (hS : Sl w v l) :
    Calls Try.prog 120 #[.int .i64 p, .int .i64 d, v] w fun e w' => e = .returned (.bool (nptB p d l)) ∧ w = w' := by
  by_cases h0 : d = 0
  · subst h0
    obtain ⟨a, cap, rfl, rfl | ⟨b, off, rfl, hlt, hT⟩⟩ := hS
    · exact npoint_zero p a cap w
    · exact npoint_some p 0 b off cap l w h2 h13 hl hT
  · exact npoint_any p d v l w h2 h13 (by omega) hl hS
theorem nocont_zero (g : Nat) (a : Option Addr) (cap : Nat) (w : World) :
    Calls Try.prog 72 #[.slice a 0 cap, noutF g] w fun e w' => e = .returned (.bool false) ∧ w = w' := by
  have h1 : Calls Try.prog 147 #[.slice a 0 cap, noutF g] w fun e w' => e = .returned (.int .i64 (-1)) ∧ w = w' := by
    go_enter Try.func147, Try.ntmps147
    go_wp2
    refine wp_loop_rounds 1 ?_
    rw [rounds_succ]
    go_wp2
    go_ret
    exact ⟨rfl, rfl⟩
  have HH := Lib.hid h1
  clear h1
  go_enter Try.func72, Try.ntmps72
  go_wp2_with fail
  ((with_reducible refine HH.out.mono ?_); rintro e w1 ⟨rfl, rfl⟩)
  go_wp2
  go_ret
  exact ⟨rfl, rfl⟩
set_option maxHeartbeats 1000000 in
theorem nareNumbers_zero (p : Int) (a : Option Addr) (cap : Nat) (w : World) :
    Calls Try.prog 123 #[.int .i64 p, .int .i64 0, .slice a 0 cap] w fun e w' => e = .returned (.bool (nptB p 0 [])) ∧ Below w.heap.size w w' := by
  have hmf : ∀ (fn : Fn) (first cap : Array Value) (w : World), (Instr.makeFunc fn first cap).run Try.prog w = .ok (.func fn first cap) w := fun _ _ _ _ => rfl
  go_enter Try.func123, Try.ntmps123
  go_wp2_with fail
  ((with_reducible refine (nocont_zero w.heap.size a cap _).mono ?_); rintro e w1 ⟨rfl, rfl⟩)
  go_wp2
  go_ret
  exact ⟨rfl, ebox1 _ _⟩
theorem nareNumbers_all (p d : Int) (v : Value) (l : List Int) (w : World) (hd : 0 ≤ d) (hl : l.length ≤ 1048576) (hS : Sl w v l) :
    Calls Try.prog 123 #[.int .i64 p, .int .i64 d, v] w fun e w' => e = .returned (.bool (nptB p d l)) ∧ Below w.heap.size w w' := by
  by_cases h0 : d = 0
  · subst h0
    obtain ⟨a, cap, rfl, h⟩ := id hS
    by_cases hl0 : l = []
    · subst hl0
      exact nareNumbers_zero p a cap w
    · have hpos : 0 < l.length := by
        cases l with
        | nil => exact absurd rfl hl0
        | cons => simp
      have he1 : ((l.length : Int) == 0) = false := by simp; omega
      have HD : Hid (nptB p 0 l = false) := Lib.hid (by simp [nptB, hl0])
      clear h hS hl0 hpos
      go_enter Try.func123, Try.ntmps123
      go_wp2
      go_ret
      exact ⟨by rw [HD.out]; rfl, ebox1 _ _⟩
  · exact nareNumbers_any p d v l w (by omega) hl hS

/-- What ReduceRows asks. -/
def rrB (p n : Int) (L : List (List Int)) : Bool := pB p && ((decide (0 ≤ n) && decide (n ≤ 100)) && (decide (L.length ≤ 100) && L.all (nptB p n)))
def rrS (p n : Int) (L : List (List Int)) : List (List Int) := if rrB p n L then echL p L else []
def rrC (p n : Int) (L : List (List Int)) : Int := if rrB p n L then 0 else 2
theorem rr_no {p n : Int} {L : List (List Int)} (h : rrB p n L = false) : rrS p n L = [] ∧ rrC p n L = 2 := by unfold rrS rrC; simp [h]
theorem rr_yes {p n : Int} {L : List (List Int)} (h : rrB p n L = true) : rrS p n L = echL p L ∧ rrC p n L = 0 := by unfold rrS rrC; simp [h]
theorem rr_inP {p : Int} {n : Nat} {l : List Int} (h : nptB p n l = true) : InP p n l := by
  simp only [nptB, Bool.and_eq_true, decide_eq_true_eq] at h
  exact ⟨by omega, fun a ha => by simpa [nnumB] using List.all_eq_true.1 h.2 a ha⟩
theorem eprime_b (p : Int) (B : Bool) (h : pB p = B) (w : World) : Calls Try.prog 83 #[.int .i64 p] w fun e w' => e = .returned (.bool B) ∧ w' = w :=
  (eprime p w).mono fun _ _ ⟨a, b⟩ => ⟨by rw [a, h], b.symm⟩
theorem iprime_b (p : Int) (B : Bool) (h : pB p = B) (w : World) : Calls Try.prog 90 #[.int .i64 p] w fun e w' => e = .returned (.bool B) ∧ w' = w :=
  (iprime p w).mono fun _ _ ⟨a, b⟩ => ⟨by rw [a, h], b.symm⟩
theorem rows_upto {α : Type} (f : α → Bool) (L : List α) (h : ∀ (j : Nat) (hj : j < L.length), j < L.length → f L[j] = true) : L.all f = true := by
  rw [List.all_eq_true]
  intro x hx
  obtain ⟨j, hj, rfl⟩ := List.getElem_of_mem hx
  exact h j hj hj
end Go.Proofs.Ytbahejlgfpilnaa
