/-
  SORTS of lists of matrices: the program's: slices.SortFunc, slices.SortedFunc. Conditions: as each theorem states.
  slices.Compact at matrices where no two neighbours are equal; impl.distinct. Conditions: as each theorem states.
  impl.distinct where all matrices are different; sorts of lists whose matrices are told by their numbers alone. Conditions: as each theorem states.
-/
import Derived.Test.YtpbdbgajohacoaaSg
import Derived.Test.YtpbdbgajohacoaaSy
import Derived.Test.YtpbdbgajohacoaaSk
import Derived.Test.YtpbdbgajohacoaaLayM
import Derived.Shelf.SlSortCmp.NoneTotal
import Derived.Test.YtpbdbgajohacoaaGw
namespace Go.Proofs.Ytpbdbgajohacoaa
open Go.RowKit Go.Sort Go.Shelf Go.Lib EchM

theorem cmpLaysM (blk off size : Nat) (w : World) : CmpLays Try.prog 83 #[] encM 9 cfM blk off size w :=
  fun _ _ _ _ x y => by
    rw [Array.append_empty]
    exact icompareG x.1 y.1 _

theorem gsort (v : Value) (L : List (Nat → Nat → Int)) (base : Nat) (w : World) (h : OwnG9 w base v L) (hc : ∀ x ∈ L, Cut x) (hl : L.length ≤ 1048576) :
    Calls Try.prog 100 #[v, .func (.func 83) #[] #[]] w fun e w' => e = .returned (.tuple #[]) ∧ ∃ S, IsSort L S ∧ OwnG9 w' base v S ∧ w.grownBy w' v.ownBlock := by
  obtain ⟨hx, ⟨rfl, h0⟩ | ⟨g, cap, cur, rfl, r⟩⟩ := id h
  · have hO : L = [] := List.eq_nil_of_length_eq_zero h0
    subst hO
    have hcon := AnyF.slices_SortFunc_none (P := Try.prog) { Try.sortMt with } none 0 (.func (.func 83) #[] #[]) w
    change Calls Try.prog 100 _ _ _ at hcon
    refine hcon.mono ?_
    rintro e w' ⟨rfl, rfl⟩
    exact ⟨rfl, [], ⟨List.Perm.refl _, List.Pairwise.nil⟩, h, World.grownBy.refl _ _⟩
  · obtain ⟨d, hd, hs⟩ := ofMats L hc
    obtain ⟨hH, hlt⟩ := owns_holds9 h d hd
    have eg : ∀ args w, (callFunc 83 args).run Try.prog w = .ok (.enter 83 args) w := enters_of Try.func83 (by kernel_rfl) rfl
    have hcon := AnyQ.slices_SortFunc Try.sortMt 9 Try.isAgg55 Try.sizeOf55 encM (fun _ => rfl) (fun x v hv => cell9_one x.1 v hv) cfM swoM 83 #[] g 0 cap d w eg (cmpLaysM g 0 d.size w) hH hlt (by omega)
    change Calls Try.prog 100 _ _ _ at hcon
    rw [hs] at hcon
    refine hcon.mono ?_
    rintro e w' ⟨rfl, d', n, os, ⟨hp1, _, hp2⟩, hso, rfl⟩
    have hds : d'.size = L.length := by rw [hp1, hs]
    have hperm : d'.toList.Perm d.toList := by
      have e1 : d'.extract 0 L.length = d' := by rw [← hds]; simp
      have e2 : d.extract 0 L.length = d := by rw [← hs]; simp
      rwa [e1, e2] at hp2
    obtain ⟨ho, hg⟩ := sorted_owns9 h n d' os hds
    have hl' : (d'.toList.map (·.1)).length = L.length := by simp [hds]
    refine ⟨rfl, d'.toList.map (·.1), sorted_is L d d' hd hperm (by rw [hds]; exact hso), ?_, hg⟩
    unfold OwnG9
    rw [hl'] at ho ⊢
    exact ho

/-- slices.SortedFunc(slices.Values(s), compareMatrices). -/
theorem gsorted (Bv : Nat) (sv : Value) (L : List (Nat → Nat → Int)) (w : World) (hl : L.length ≤ 1048576) (hBv : Bv < w.heap.size) (hc : w.cell? ⟨Bv, 0, none⟩ = some sv) (hS : SlM w sv L) :
    Calls Try.prog 81 #[.func (.func 101) #[] #[.pointer (some ⟨Bv, 0, none⟩)], .func (.func 83) #[] #[]] w fun e W' => ∃ v S, e = .returned v ∧ IsSort (L.map cut3) S ∧ OwnG9 W' w.heap.size v S ∧ Below w.heap.size w W' := by
  have hlm : (L.map cut3).length ≤ 1048576 := by simpa using hl
  go_enter Try.func81, Try.ntmps81
  go_wp2_with fail
  ((with_reducible refine (gcollect Bv sv L _ hl hBv hc hS).mono ?_); rintro e w1 ⟨v1, rfl, ho, hb1⟩)
  obtain ⟨a1, c1, rfl⟩ := OwnG9.shape ho
  have ho' : OwnG9 w1 w.heap.size (.slice a1 L.length c1) (L.map cut3) := by
    have h : w1.ownsRow w.heap.size 55 9 (.slice a1 L.length c1) (L.map cut3).length (cells9 (L.map cut3)) := by
      rw [cells9_cut, List.length_map]; exact ho
    exact h
  go_wp2_with fail
  ((with_reducible refine (gsort _ (L.map cut3) w.heap.size _ ho' (fun x hx => by obtain ⟨y, _, rfl⟩ := List.mem_map.1 hx; exact cut_cut y) hlm).mono ?_); rintro e w2 ⟨rfl, S, hs, ho2, hg2⟩)
  go_wp2_with fail
  go_ret
  exact ⟨_, S, rfl, hs, ho2, grown_below hb1 ho' hg2 hb1.size⟩
end Go.Proofs.Ytpbdbgajohacoaa
namespace Go.Proofs.Ytpbdbgajohacoaa
open Go.RowKit Go.Sort EchM

set_option maxRecDepth 8000 in
set_option maxHeartbeats 4000000 in
theorem gcompactS (v : Value) (S : List (Nat → Nat → Int)) (base : Nat) (w : World) (h : OwnG9 w base v S) (hl : S.length ≤ 1048576) (hne : ∀ (i : Nat) (hi : i + 1 < S.length), eqM S[i + 1] S[i] = false) :
    Calls Try.prog 84 #[v] w fun e w' => e = .returned v ∧ Below w.heap.size w w' := by
  obtain ⟨a, cap, rfl, hSc⟩ := OwnG9.slice h
  have HNE := Lib.hid hne
  clear hne
  by_cases h2 : S.length < 2
  · have h2' : (S.length : Int) < 2 := by omega
    go_enter Try.func84, Try.ntmps84
    go_wp2_with fail
    go_ret
    exact ⟨rfl, Below.refl _ _⟩
  · have h2' : ¬ (S.length : Int) < 2 := by omega
    obtain ⟨b, off, rfl, hbb, hT⟩ : ∃ b off, a = some ⟨b, off, none⟩ ∧ b < w.heap.size ∧ MatsW w b off S := by
      rcases hSc with rfl | h
      · simp at h2
      · exact h
    go_enter Try.func84, Try.ntmps84
    go_wp2_with fail
    go_loopw [3] (fun i wr => ∃ (j : Nat), j + 1 ≤ S.length ∧ i = .int .i64 ((j : Int) + 1) ∧ ∃ nd, wr = w.drewN nd) (fun i _ => S.length - (intOf i).toNat)
    case atStart => exact ⟨0, by omega, rfl, 0, rfl⟩
    case round =>
      obtain ⟨j, hj, rfl, nd, rfl⟩ := hrel
      by_cases hlt : j + 1 < S.length
      · have hlt' : (j : Int) + 1 < (S.length : Int) := by omega
        have hlt0 : (j : Int) < (S.length : Int) := by omega
        have hnn : (0 : Int) ≤ (j : Int) + 1 := by omega
        have htn : ((j : Int) + 1).toNat = j + 1 := by omega
        have hwj : wrap64 (j : Int) = (j : Int) := IntWalk.wrap64_in _ (by omega)
        obtain ⟨⟨a0, a1, a2⟩, ⟨a3, a4, a5⟩, a6, a7, a8⟩ := hT.nine hlt
        obtain ⟨⟨b0, b1, b2⟩, ⟨b3, b4, b5⟩, b6, b7, b8⟩ := hT.nine (k := j) (by omega)
        have HE := HNE.out j hlt
        generalize S[j + 1] = x at *
        generalize S[j] = y at *
        have kE := fun w => mat_eq x y w
        rw [HE] at kE
        clear HE
        go_wp2_with fail
        go_quiet (fail)
        go_wp2_with fail
        go_roundw
        case rel => exact ⟨j + 1, by omega, by go_num, _, rfl⟩
        case measure => simp [intOf]; omega
      · have hlt' : ¬ (j : Int) + 1 < (S.length : Int) := by omega
        go_wp2_with fail
        go_ret
        exact ⟨rfl, below_drewN (Below.refl _ _) _⟩
end Go.Proofs.Ytpbdbgajohacoaa
namespace Go.Proofs.Ytpbdbgajohacoaa
open Go.RowKit Go.Sort EchM

theorem befA_cut (a b : Nat → Nat → Int) : ∀ f q, q + f ≤ 9 → befA (cut3 a) (cut3 b) f q = befA a b f q
  | 0, _, _ => rfl
  | f + 1, q, h => by
    rw [befA, befA, befA_cut a b f (q + 1) (by omega), cut3_at a (show q / 3 < 3 by omega) (show q % 3 < 3 by omega), cut3_at b (show q / 3 < 3 by omega) (show q % 3 < 3 by omega)]
theorem befM_cut (a b : Nat → Nat → Int) : befM (cut3 a) (cut3 b) = befM a b := befA_cut a b 9 0 (by omega)
theorem IsSort.cut {L S : List (Nat → Nat → Int)} (h : IsSort L S) : IsSort (L.map cut3) (S.map cut3) :=
  ⟨h.1.map _, by rw [List.pairwise_map]; exact h.2.imp fun {a b} hab => by rw [befM_cut]; exact hab⟩
theorem all_cut (L : List (Nat → Nat → Int)) : ∀ x ∈ L.map cut3, Cut x := fun x hx => by
  obtain ⟨y, _, rfl⟩ := List.mem_map.1 hx
  exact cut_cut y
theorem IsSort.sortM {L S : List (Nat → Nat → Int)} (h : IsSort (L.map cut3) S) : S = sortM (L.map cut3) := h.unique (all_cut L) (sortM_is _)
theorem sortM_len (L : List (Nat → Nat → Int)) : (sortM L).length = L.length := (sortM_is L).1.length_eq
theorem OwnG9.cut {w : World} {base : Nat} {v : Value} {L : List (Nat → Nat → Int)} (h : OwnG9 w base v L) : OwnG9 w base v (L.map cut3) := by
  have h' : w.ownsRow base 55 9 v (L.map cut3).length (cells9 (L.map cut3)) := by
    rw [cells9_cut, List.length_map]; exact h
  exact h'
theorem sort_apart {L : List (Nat → Nat → Int)} (hd : (L.map cut3).Nodup) : ∀ (i : Nat) (hi : i + 1 < (sortM (L.map cut3)).length), eqM (sortM (L.map cut3))[i + 1] (sortM (L.map cut3))[i] = false := fun i hi => by
  cases h : eqM (sortM (L.map cut3))[i + 1] (sortM (L.map cut3))[i]
  · rfl
  · have hp := (sortM_is (L.map cut3)).1
    have hn : (sortM (L.map cut3)).Nodup := hp.nodup_iff.2 hd
    have hc : ∀ x ∈ sortM (L.map cut3), Cut x := fun x hx => all_cut L x (hp.mem_iff.1 hx)
    have e : (sortM (L.map cut3))[i + 1] = (sortM (L.map cut3))[i] := by
      funext a b
      by_cases hab : a < 3 ∧ b < 3
      · exact eqM_iff.1 h a b hab.1 hab.2
      · rw [hc _ (List.getElem_mem hi) a b hab, hc _ (List.getElem_mem (by omega)) a b hab]
    have := (List.getElem_inj hn).1 e
    omega

theorem gdistinctS (v : Value) (L : List (Nat → Nat → Int)) (w : World) (hl : L.length ≤ 1048576) (hS : SlM w v L) (hd : (L.map cut3).Nodup) :
    Calls Try.prog 47 #[v] w fun e w' => ∃ v', e = .returned v' ∧ OwnG9 w' w.heap.size v' (sortM (L.map cut3)) ∧ Below w.heap.size w w' := by
  have HD := Lib.hid (sort_apart hd)
  have hls : (sortM (L.map cut3)).length ≤ 1048576 := by rw [sortM_len]; simpa using hl
  clear hd
  obtain ⟨a, cap, rfl, _⟩ := id hS
  have hbV := ebox1 w (.cells #[.slice a L.length cap] 24)
  have hSV := hS.below hbV
  have hc : (w.alloc (.cells #[.slice a L.length cap] 24)).cell? ⟨w.heap.size, 0, none⟩ = some (.slice a L.length cap) := by go_simp
  have hlt : w.heap.size < (w.alloc (.cells #[.slice a L.length cap] 24)).heap.size := by simp
  go_enter Try.func47, Try.ntmps47
  go_wp2_with fail
  ((with_reducible refine (gvals a L.length cap _).mono ?_); rintro e w1 ⟨rfl, rfl⟩)
  go_wp2_with fail
  ((with_reducible refine (gsorted _ _ L _ hl hlt hc hSV).mono ?_); rintro e w2 ⟨v2, S, rfl, hs, ho, hb2⟩)
  have hs' := hs.sortM
  subst hs'
  have hb02 := hbV.trans (hb2.mono hbV.size)
  obtain ⟨a2, c2, rfl⟩ := OwnG9.shape ho
  go_wp2_with fail
  ((with_reducible refine (gcompactS _ _ _ _ ho hls HD.out).mono ?_); rintro e w3 ⟨rfl, hb3⟩)
  go_wp2_with fail
  go_ret
  exact ⟨_, rfl, (OwnG9.mono ho hbV.size).below hb3, hb02.trans (hb3.mono hb02.size)⟩
end Go.Proofs.Ytpbdbgajohacoaa
