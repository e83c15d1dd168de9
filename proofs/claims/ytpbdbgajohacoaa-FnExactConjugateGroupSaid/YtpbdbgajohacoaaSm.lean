/-
  SORTS of lists of matrices: the program's: slices.SortFunc, slices.SortedFunc. Conditions: as each theorem states.
-/
import Derived.Test.YtpbdbgajohacoaaSg
import Derived.Test.YtpbdbgajohacoaaSi
import Derived.Test.YtpbdbgajohacoaaSk
import Derived.Test.YtpbdbgajohacoaaLayM
import Derived.Shelf.SlSortCmp.NoneTotal
namespace Go.Proofs.Ytpbdbgajohacoaa
open Go.RowKit Go.Sort Go.Shelf Go.Lib EchM

theorem cmpLaysM (blk off size : Nat) (w : World) : CmpLays Try.prog 83 #[] encM 9 cfM blk off size w :=
  fun _ _ _ _ x y => by
    rw [Array.append_empty]
    exact icompareG x.1 y.1 _

theorem gsort (v : Value) (L : List (Nat → Nat → Int)) (base : Nat) (w : World) (h : OwnG9 w base v L) (hc : ∀ x ∈ L, Cut x) (hl : L.length ≤ 1048576) :
    Calls Try.prog 100 #[v, .func (.func 83) #[] #[]] w fun e w' => e = .returned (.tuple #[]) ∧ ∃ S, IsSort L S ∧ OwnG9 w' base v S ∧ w.grownBy w' v.ownBlock := by
  obtain ⟨hx, ⟨rfl, h0⟩ | ⟨g, cap, cur, rfl, r⟩⟩ := id h
  · have hO : L = [] := List.eq_nil_of_length_eq_zero h0
    subst hO
    have hcon := AnyF.slices_SortFunc_none (P := Try.prog) { Try.sortMt with } none 0 (.func (.func 83) #[] #[]) w
    change Calls Try.prog 100 _ _ _ at hcon
    refine hcon.mono ?_
    rintro e w' ⟨rfl, rfl⟩
    exact ⟨rfl, [], ⟨List.Perm.refl _, List.Pairwise.nil⟩, h, World.grownBy.refl _ _⟩
  · obtain ⟨d, hd, hs⟩ := ofMats L hc
    obtain ⟨hH, hlt⟩ := owns_holds9 h d hd
    have eg : ∀ args w, (callFunc 83 args).run Try.prog w = .ok (.enter 83 args) w := enters_of Try.func83 (by kernel_rfl) rfl
    have hcon := AnyQ.slices_SortFunc Try.sortMt 9 Try.isAgg55 Try.sizeOf55 encM (fun _ => rfl) (fun x v hv => cell9_one x.1 v hv) cfM swoM 83 #[] g 0 cap d w eg (cmpLaysM g 0 d.size w) hH hlt (by omega)
    change Calls Try.prog 100 _ _ _ at hcon
    rw [hs] at hcon
    refine hcon.mono ?_
    rintro e w' ⟨rfl, d', n, os, ⟨hp1, _, hp2⟩, hso, rfl⟩
    have hds : d'.size = L.length := by rw [hp1, hs]
    have hperm : d'.toList.Perm d.toList := by
      have e1 : d'.extract 0 L.length = d' := by rw [← hds]; simp
      have e2 : d.extract 0 L.length = d := by rw [← hs]; simp
      rwa [e1, e2] at hp2
    obtain ⟨ho, hg⟩ := sorted_owns9 h n d' os hds
    have hl' : (d'.toList.map (·.1)).length = L.length := by simp [hds]
    refine ⟨rfl, d'.toList.map (·.1), sorted_is L d d' hd hperm (by rw [hds]; exact hso), ?_, hg⟩
    unfold OwnG9
    rw [hl'] at ho ⊢
    exact ho

/-- slices.SortedFunc(slices.Values(s), compareMatrices). -/
theorem gsorted (Bv : Nat) (sv : Value) (L : List (Nat → Nat → Int)) (w : World) (hl : L.length ≤ 1048576) (hBv : Bv < w.heap.size) (hc : w.cell? ⟨Bv, 0, none⟩ = some sv) (hS : SlM w sv L) :
    Calls Try.prog 81 #[.func (.func 101) #[] #[.pointer (some ⟨Bv, 0, none⟩)], .func (.func 83) #[] #[]] w fun e W' => ∃ v S, e = .returned v ∧ IsSort (L.map cut3) S ∧ OwnG9 W' w.heap.size v S ∧ Below w.heap.size w W' := by
  have hlm : (L.map cut3).length ≤ 1048576 := by simpa using hl
  go_enter Try.func81, Try.ntmps81
  go_wp2_with fail
  ((with_reducible refine (gcollect Bv sv L _ hl hBv hc hS).mono ?_); rintro e w1 ⟨v1, rfl, ho, hb1⟩)
  obtain ⟨a1, c1, rfl⟩ := OwnG9.shape ho
  have ho' : OwnG9 w1 w.heap.size (.slice a1 L.length c1) (L.map cut3) := by
    have h : w1.ownsRow w.heap.size 55 9 (.slice a1 L.length c1) (L.map cut3).length (cells9 (L.map cut3)) := by
      rw [cells9_cut, List.length_map]; exact ho
    exact h
  go_wp2_with fail
  ((with_reducible refine (gsort _ (L.map cut3) w.heap.size _ ho' (fun x hx => by obtain ⟨y, _, rfl⟩ := List.mem_map.1 hx; exact cut_cut y) hlm).mono ?_); rintro e w2 ⟨rfl, S, hs, ho2, hg2⟩)
  go_wp2_with fail
  go_ret
  exact ⟨_, S, rfl, hs, ho2, grown_below hb1 ho' hg2 hb1.size⟩
end Go.Proofs.Ytpbdbgajohacoaa
