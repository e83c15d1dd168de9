/-
  WALKS: slices.Index, slices.Contains at numbers. Conditions: as each theorem states.
-/
import Derived.Test.YtphgpadpffigjaaRza
namespace Go.Proofs.Ytphgpadpffigjaa
open Go.RowKit Go.Sort EchM

set_option maxHeartbeats 1000000 in
theorem gindex (v : Value) (l : List Int) (x : Int) (w : World) (hl : l.length ≤ 1048576) (hS : Sl w v l) :
    Calls Try.prog 133 #[v, .int .i64 x] w fun e w' => (∃ r : Int, e = .returned (.int .i64 r) ∧ Hid (decide (0 ≤ r) = l.contains x)) ∧ w' = w := by
  obtain ⟨a, cap, rfl, hc⟩ := hS
  go_enter Try.func133, Try.ntmps133
  go_wp2
  go_loop [8] (fun i => ∃ k : Nat, k ≤ l.length ∧ i = .int .i64 k ∧ Hid (x ∉ l.take k)) (fun i => l.length - (intOf i).toNat)
  case atStart => exact ⟨0, by omega, rfl, Lib.hid (by simp)⟩
  case round =>
    obtain ⟨k, hk, rfl, HU⟩ := hrel
    by_cases hlt : k < l.length
    · have hlt' : (k : Int) < (l.length : Int) := by omega
      obtain ⟨b, off, rfl, hbb, hT⟩ : ∃ b off, a = some ⟨b, off, none⟩ ∧ b < w.heap.size ∧ Cs w b off l := by
        rcases hc with rfl | h
        · simp at hlt
        · exact h
      have c0 := hT k hlt
      by_cases e : x = l[k]
      · have HX : Hid (l.contains x = true) := Lib.hid (by rw [e]; simp)
        have he : (x == l[k]) = true := by simpa using e
        generalize l[k] = y at *
        clear e
        go_wp2
        go_ret
        exact ⟨⟨_, rfl, Lib.hid (by have := HX.out; simp at this; simp [this])⟩, rfl⟩
      · have HN : Hid (x ∉ l.take (k + 1)) := Lib.hid (by
          rw [List.take_succ_eq_append_getElem hlt]
          simp only [List.mem_append, List.mem_singleton, not_or]
          exact ⟨HU.out, e⟩)
        have he : (x == l[k]) = false := by simpa using e
        generalize l[k] = y at *
        clear e
        go_wp2
        go_round
        case rel => exact ⟨k + 1, by omega, by go_num, HN⟩
        case measure => simp [intOf]; omega
    · obtain rfl : k = l.length := by omega
      have HX : Hid (l.contains x = false) := Lib.hid (by
        have := HU.out
        rw [List.take_length] at this
        simpa using this)
      go_wp2
      go_ret
      exact ⟨⟨_, rfl, Lib.hid (by have := HX.out; simp at this; simp [this])⟩, rfl⟩
theorem gcontains (v : Value) (l : List Int) (x : Int) (w : World) (hl : l.length ≤ 1048576) (hS : Sl w v l) :
    Calls Try.prog 112 #[v, .int .i64 x] w fun e w' => e = .returned (.bool (l.contains x)) ∧ w' = w := by
  go_enter Try.func112, Try.ntmps112
  go_wp2_with fail
  ((with_reducible refine (gindex _ l x _ hl hS).mono ?_); rintro e w1 ⟨⟨r, rfl, HR⟩, rfl⟩)
  go_wp2
  go_ret
  exact ⟨by rw [← HR.out]; rfl, rfl⟩

end Go.Proofs.Ytphgpadpffigjaa
