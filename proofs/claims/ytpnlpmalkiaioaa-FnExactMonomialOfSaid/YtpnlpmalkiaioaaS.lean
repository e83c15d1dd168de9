/-
  WALKS: 'spec.l01List' at every list; 'spec.l01At'. Conditions: as each theorem states.
-/
import Derived.Test.YtpnlpmalkiaioaaR
import Derived.Test.YtpnlpmalkiaioaaAt
namespace Go.Proofs.Ytpnlpmalkiaioaa
open Go.RowKit Go.Sort

theorem list_any (d : Int) (v : Value) (l : List Int) (w : World) (h1 : 1 ≤ d) (h3 : d ≤ 3) (hl : l.length ≤ 1048576) (hS : SliceI w v l) :
    Calls Try.prog 31 #[.int .i64 d, v] w (ListPost d l w) := by
  obtain ⟨a, cap, rfl, h⟩ := hS
  by_cases hd : (l.length : Int) = d
  · subst hd
    rcases h with rfl | ⟨g, o, rfl, hg, hT⟩
    · simp at h1
    · match l, hT with
      | [a], hT =>
        have k0 := hT 0 (by simp)
        by_cases ha : 0 ≤ a ∧ a ≤ 12
        · exact list1_ok g o cap a w hg k0 ha.1 ha.2
        · exact list1_bad0 g o cap a w hg k0 (by omega)
      | [a, b], hT =>
        have k0 := hT 0 (by simp)
        have k1 := hT 1 (by simp)
        by_cases ha : 0 ≤ a ∧ a ≤ 12
        · by_cases hb : 0 ≤ b ∧ b ≤ 12
          · exact list2_ok g o cap a b w hg k0 k1 ha.1 ha.2 hb.1 hb.2
          · exact list2_bad1 g o cap a b w hg k0 k1 ha.1 ha.2 (by omega)
        · exact list2_bad0 g o cap a b w hg k0 (by omega)
      | [a, b, c], hT =>
        have k0 := hT 0 (by simp)
        have k1 := hT 1 (by simp)
        have k2 := hT 2 (by simp)
        by_cases ha : 0 ≤ a ∧ a ≤ 12
        · by_cases hb : 0 ≤ b ∧ b ≤ 12
          · by_cases hc : 0 ≤ c ∧ c ≤ 12
            · exact list3_ok g o cap a b c w hg k0 k1 k2 ha.1 ha.2 hb.1 hb.2 hc.1 hc.2
            · exact list3_bad2 g o cap a b c w hg k0 k1 k2 ha.1 ha.2 hb.1 hb.2 (by omega)
          · exact list3_bad1 g o cap a b c w hg k0 k1 ha.1 ha.2 (by omega)
        · exact list3_bad0 g o cap a b c w hg k0 (by omega)
      | _ :: _ :: _ :: _ :: r, _ => simp at h3; omega
  · exact list_len d a l.length cap l w rfl hd

end Go.Proofs.Ytpnlpmalkiaioaa
