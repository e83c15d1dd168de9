/-
  slices.Compact at matrices where no two neighbours are equal; impl.distinct. Conditions: as each theorem states.
-/
import Derived.Test.YtpbdbgajohacoaaSm
namespace Go.Proofs.Ytpbdbgajohacoaa
open Go.RowKit Go.Sort EchM

set_option maxRecDepth 8000 in
set_option maxHeartbeats 4000000 in
theorem gcompactS (v : Value) (S : List (Nat → Nat → Int)) (base : Nat) (w : World) (h : OwnG9 w base v S) (hl : S.length ≤ 1048576) (hne : ∀ (i : Nat) (hi : i + 1 < S.length), eqM S[i + 1] S[i] = false) :
    Calls Try.prog 84 #[v] w fun e w' => e = .returned v ∧ Below w.heap.size w w' := by
  obtain ⟨a, cap, rfl, hSc⟩ := OwnG9.slice h
  have HNE := Lib.hid hne
  clear hne
  by_cases h2 : S.length < 2
  · have h2' : (S.length : Int) < 2 := by omega
    go_enter Try.func84, Try.ntmps84
    go_wp2_with fail
    go_ret
    exact ⟨rfl, Below.refl _ _⟩
  · have h2' : ¬ (S.length : Int) < 2 := by omega
    obtain ⟨b, off, rfl, hbb, hT⟩ : ∃ b off, a = some ⟨b, off, none⟩ ∧ b < w.heap.size ∧ MatsW w b off S := by
      rcases hSc with rfl | h
      · simp at h2
      · exact h
    go_enter Try.func84, Try.ntmps84
    go_wp2_with fail
    go_loopw [3] (fun i wr => ∃ (j : Nat), j + 1 ≤ S.length ∧ i = .int .i64 ((j : Int) + 1) ∧ ∃ nd, wr = w.drewN nd) (fun i _ => S.length - (intOf i).toNat)
    case atStart => exact ⟨0, by omega, rfl, 0, rfl⟩
    case round =>
      obtain ⟨j, hj, rfl, nd, rfl⟩ := hrel
      by_cases hlt : j + 1 < S.length
      · have hlt' : (j : Int) + 1 < (S.length : Int) := by omega
        have hlt0 : (j : Int) < (S.length : Int) := by omega
        have hnn : (0 : Int) ≤ (j : Int) + 1 := by omega
        have htn : ((j : Int) + 1).toNat = j + 1 := by omega
        have hwj : wrap64 (j : Int) = (j : Int) := IntWalk.wrap64_in _ (by omega)
        obtain ⟨⟨a0, a1, a2⟩, ⟨a3, a4, a5⟩, a6, a7, a8⟩ := hT.nine hlt
        obtain ⟨⟨b0, b1, b2⟩, ⟨b3, b4, b5⟩, b6, b7, b8⟩ := hT.nine (k := j) (by omega)
        have HE := HNE.out j hlt
        generalize S[j + 1] = x at *
        generalize S[j] = y at *
        have kE := fun w => mat_eq x y w
        rw [HE] at kE
        clear HE
        go_wp2_with fail
        go_quiet (fail)
        go_wp2_with fail
        go_roundw
        case rel => exact ⟨j + 1, by omega, by go_num, _, rfl⟩
        case measure => simp [intOf]; omega
      · have hlt' : ¬ (j : Int) + 1 < (S.length : Int) := by omega
        go_wp2_with fail
        go_ret
        exact ⟨rfl, below_drewN (Below.refl _ _) _⟩
end Go.Proofs.Ytpbdbgajohacoaa
