/-
  impl.distinct where all matrices are different; sorts of lists whose matrices are told by their numbers alone. Conditions: as each theorem states.
-/
import Derived.Test.YtpbdbgajohacoaaSn
import Derived.Test.YtpbdbgajohacoaaGh
namespace Go.Proofs.Ytpbdbgajohacoaa
open Go.RowKit Go.Sort EchM

theorem befA_cut (a b : Nat → Nat → Int) : ∀ f q, q + f ≤ 9 → befA (cut3 a) (cut3 b) f q = befA a b f q
  | 0, _, _ => rfl
  | f + 1, q, h => by
    rw [befA, befA, befA_cut a b f (q + 1) (by omega), cut3_at a (show q / 3 < 3 by omega) (show q % 3 < 3 by omega), cut3_at b (show q / 3 < 3 by omega) (show q % 3 < 3 by omega)]
theorem befM_cut (a b : Nat → Nat → Int) : befM (cut3 a) (cut3 b) = befM a b := befA_cut a b 9 0 (by omega)
theorem IsSort.cut {L S : List (Nat → Nat → Int)} (h : IsSort L S) : IsSort (L.map cut3) (S.map cut3) :=
  ⟨h.1.map _, by rw [List.pairwise_map]; exact h.2.imp fun {a b} hab => by rw [befM_cut]; exact hab⟩
theorem all_cut (L : List (Nat → Nat → Int)) : ∀ x ∈ L.map cut3, Cut x := fun x hx => by
  obtain ⟨y, _, rfl⟩ := List.mem_map.1 hx
  exact cut_cut y
theorem IsSort.sortM {L S : List (Nat → Nat → Int)} (h : IsSort (L.map cut3) S) : S = sortM (L.map cut3) := h.unique (all_cut L) (sortM_is _)
theorem sortM_len (L : List (Nat → Nat → Int)) : (sortM L).length = L.length := (sortM_is L).1.length_eq
theorem OwnG9.cut {w : World} {base : Nat} {v : Value} {L : List (Nat → Nat → Int)} (h : OwnG9 w base v L) : OwnG9 w base v (L.map cut3) := by
  have h' : w.ownsRow base 55 9 v (L.map cut3).length (cells9 (L.map cut3)) := by
    rw [cells9_cut, List.length_map]; exact h
  exact h'
theorem sort_apart {L : List (Nat → Nat → Int)} (hd : (L.map cut3).Nodup) : ∀ (i : Nat) (hi : i + 1 < (sortM (L.map cut3)).length), eqM (sortM (L.map cut3))[i + 1] (sortM (L.map cut3))[i] = false := fun i hi => by
  cases h : eqM (sortM (L.map cut3))[i + 1] (sortM (L.map cut3))[i]
  · rfl
  · have hp := (sortM_is (L.map cut3)).1
    have hn : (sortM (L.map cut3)).Nodup := hp.nodup_iff.2 hd
    have hc : ∀ x ∈ sortM (L.map cut3), Cut x := fun x hx => all_cut L x (hp.mem_iff.1 hx)
    have e : (sortM (L.map cut3))[i + 1] = (sortM (L.map cut3))[i] := by
      funext a b
      by_cases hab : a < 3 ∧ b < 3
      · exact eqM_iff.1 h a b hab.1 hab.2
      · rw [hc _ (List.getElem_mem hi) a b hab, hc _ (List.getElem_mem (by omega)) a b hab]
    have := (List.getElem_inj hn).1 e
    omega

theorem gdistinctS (v : Value) (L : List (Nat → Nat → Int)) (w : World) (hl : L.length ≤ 1048576) (hS : SlM w v L) (hd : (L.map cut3).Nodup) :
    Calls Try.prog 47 #[v] w fun e w' => ∃ v', e = .returned v' ∧ OwnG9 w' w.heap.size v' (sortM (L.map cut3)) ∧ Below w.heap.size w w' := by
  have HD := Lib.hid (sort_apart hd)
  have hls : (sortM (L.map cut3)).length ≤ 1048576 := by rw [sortM_len]; simpa using hl
  clear hd
  obtain ⟨a, cap, rfl, _⟩ := id hS
  have hbV := ebox1 w (.cells #[.slice a L.length cap] 24)
  have hSV := hS.below hbV
  have hc : (w.alloc (.cells #[.slice a L.length cap] 24)).cell? ⟨w.heap.size, 0, none⟩ = some (.slice a L.length cap) := by go_simp
  have hlt : w.heap.size < (w.alloc (.cells #[.slice a L.length cap] 24)).heap.size := by simp
  go_enter Try.func47, Try.ntmps47
  go_wp2_with fail
  ((with_reducible refine (gvals a L.length cap _).mono ?_); rintro e w1 ⟨rfl, rfl⟩)
  go_wp2_with fail
  ((with_reducible refine (gsorted _ _ L _ hl hlt hc hSV).mono ?_); rintro e w2 ⟨v2, S, rfl, hs, ho, hb2⟩)
  have hs' := hs.sortM
  subst hs'
  have hb02 := hbV.trans (hb2.mono hbV.size)
  obtain ⟨a2, c2, rfl⟩ := OwnG9.shape ho
  go_wp2_with fail
  ((with_reducible refine (gcompactS _ _ _ _ ho hls HD.out).mono ?_); rintro e w3 ⟨rfl, hb3⟩)
  go_wp2_with fail
  go_ret
  exact ⟨_, rfl, (OwnG9.mono ho hbV.size).below hb3, hb02.trans (hb3.mono hb02.size)⟩
end Go.Proofs.Ytpbdbgajohacoaa
