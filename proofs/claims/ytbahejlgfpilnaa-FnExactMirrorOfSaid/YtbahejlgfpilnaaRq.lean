/-
  WALKS: slices.Clone at numbers. Conditions: as the theorem states.
-/
import Derived.Test.YtbahejlgfpilnaaLa
import Derived.IntWalk
namespace Go.Proofs.Ytbahejlgfpilnaa
open Go.RowKit Go.Sort

/-- A copy of a list that is not nil. -/
theorem gclone (v : Value) (l : List Int) (w : World) (h0 : 0 < l.length) (hl : l.length ≤ 1048576) (hS : Sl w v l) :
    Calls Try.prog 73 #[v] w fun e w' => ∃ v', e = .returned v' ∧ OwnL w' w.heap.size v' l ∧ Below w.heap.size w w' := by
  have hS2 := fun o => hS.below (ebox1 w o)
  have ho : ∀ t, t = 2 → OwnL (w.alloc (.cells #[] t)) w.heap.size (.slice (some ⟨w.heap.size, 0, none⟩) 0 0) [] := fun t ht => by
    subst ht
    have := World.ownsRow_made (base := w.heap.size) (e := 2) (size := 1) w #[] 0 (by omega) (by simp [maxLen]) rfl
    simpa [OwnL, valsI] using this
  obtain ⟨a, cap, rfl, hc⟩ := id hS
  obtain ⟨b, off, rfl, hbb, hT⟩ : ∃ b off, a = some ⟨b, off, none⟩ ∧ b < w.heap.size ∧ Cs w b off l := by
    rcases hc with rfl | h
    · simp at h0
    · exact h
  have hnil : ∀ w : World, (binOp .eql 52 (.slice (some ⟨b, off, none⟩) l.length cap) (.slice none 0 0)).run Try.prog w = .ok (.bool false) w := fun w => by
    have h : ∀ d : Nat, (Op.equalIn (d + 1) 52 (.slice (some ⟨b, off, none⟩) l.length cap) (.slice none 0 0)).run Try.prog w = .ok false w := fun d => by
      simp [Op.equalIn, run_underlying Try.underlying52]
    simp only [binOp]
    simp [Op.equal, Op.maxDepth, h 9999]
  go_enter Try.func73, Try.ntmps73
  go_wp2_with (at_builtin; refine wpList_append_ints _ rfl _ _ rfl w.heap.size (.slice (some ⟨w.heap.size, 0, none⟩) 0 0) [] rfl (ho _ rfl) (.slice (some ⟨b, off, none⟩) l.length cap) l rfl (hS2 _) (by simp; omega) (by simp) ?_)
  intro v' w' h1 h2
  have hb : Below w.heap.size w w' := (ebox1 w _).grown h2 (by simp) (fun k hk => by simp [Value.ownBlock] at hk; omega)
  go_wp2
  go_ret
  exact ⟨_, rfl, h1, hb⟩

end Go.Proofs.Ytbahejlgfpilnaa
