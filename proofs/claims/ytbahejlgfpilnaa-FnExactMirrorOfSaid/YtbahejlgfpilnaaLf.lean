/-
  LISTS OF LISTS of numbers in a law: compared, measured, copied. Conditions: as each theorem states.
-/
import Derived.Test.YtbahejlgfpilnaaLe
import Derived.Test.YtbahejlgfpilnaaLb
namespace Go.Proofs.Ytbahejlgfpilnaa
open Go.RowKit Go.Sort

theorem neqI_r (u u' : Value) (l : List Int) (W : World) (hl : l.length ≤ 1048576) (hS : Sl W u l) (hS' : Sl W u' l) : ∀ dd os,
    Calls Try.prog 38 #[u, u'] (grow (redrawn W dd) os) fun e w'' => e = .returned (.bool true) ∧ ∃ q : Regrown, w'' = grow (redrawn W q.d) q.os := fun dd os =>
  Calls.regrown_of (neqI_same u u' l _ hl (hS.below (below_regrown W dd os)) (hS'.below (below_regrown W dd os)))

set_option maxRecDepth 8000 in
set_option maxHeartbeats 4000000 in
theorem eqrows (v v' : Value) (L : List (List Int)) (w : World) (hl : L.length ≤ 1048576) (hlr : ∀ r ∈ L, r.length ≤ 1048576) (hS : SlR w v L) (hS' : SlR w v' L) :
    Calls Try.prog 18 #[v, v'] w fun e w' => e = .returned (.bool true) ∧ Below w.heap.size w w' := by
  have hnn : ((L.length : Int) != (L.length : Int)) = false := by simp
  obtain ⟨a, cap, rfl, hSc⟩ := id hS
  obtain ⟨a', cap', rfl, hSc'⟩ := id hS'
  go_enter Try.func18, Try.ntmps18
  go_wp2_with fail
  go_loopw [5] (fun i wr => ∃ k : Nat, k ≤ L.length ∧ i = .int .i64 k ∧ Below w.heap.size w wr) (fun i _ => L.length - (intOf i).toNat)
  case atStart => exact ⟨0, by omega, rfl, Below.refl _ _⟩
  case round =>
    obtain ⟨k, hk, rfl, hbel⟩ := hrel
    by_cases hlt : k < L.length
    · have hlt' : (k : Int) < (L.length : Int) := by omega
      obtain ⟨b, off, rfl, hbb, hT⟩ : ∃ b off, a = some ⟨b, off, none⟩ ∧ b < w.heap.size ∧ RowsW w b off L := by
        rcases hSc with rfl | h
        · simp at hlt
        · exact h
      obtain ⟨b', off', rfl, hbb', hT'⟩ : ∃ b off, a' = some ⟨b, off, none⟩ ∧ b < w.heap.size ∧ RowsW w b off L := by
        rcases hSc' with rfl | h
        · simp at hlt
        · exact h
      obtain ⟨u, c0, s0⟩ := (hT.below hbel hbb) k hlt
      obtain ⟨u', c1, s1⟩ := (hT'.below hbel hbb') k hlt
      have kE := neqI_r u u' L[k] wr (hlr _ (List.getElem_mem hlt)) s0 s1
      clear s0 s1
      have e0 := cell_regrown c0
      have e1 := cell_regrown c1
      clear c0 c1
      go_wp2_with fail
      refine wp_region_quiet_below (by kernel_rfl) (by kernel_rfl) ?_
      repeat (go_big_quiet_step (with_reducible exact kE _ _))
      refine wpQuiet_nil ?_
      intro _ hw'
      obtain ⟨⟨dq, osq⟩, hw''⟩ := hw'
      subst hw''
      have hb2 := hbel.trans ((below_regrown wr dq osq).mono hbel.size)
      generalize grow (redrawn wr dq) osq = V at *
      clear e0 e1 kE
      go_wp2_with fail
      go_roundw
      case rel => exact ⟨k + 1, by omega, by go_num, hb2⟩
      case measure => simp [intOf]; omega
    · obtain rfl : k = L.length := by omega
      go_wp2_with fail
      go_ret
      exact ⟨rfl, hbel⟩
end Go.Proofs.Ytbahejlgfpilnaa
