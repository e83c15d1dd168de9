/-
  WALKS: 'slices.SortFunc' at a list of terms that the call owns. Conditions: as each theorem states.
-/
import Derived.Test.YtphgpadpffigjaaPo
import Derived.Test.YtphgpadpffigjaaLay
namespace Go.Proofs.Ytphgpadpffigjaa
open Go.RowKit Go.Sort Go.Shelf Go.Lib

set_option maxHeartbeats 1000000 in
theorem insert_nil (cap : Nat) (a : Option Addr) (f : Value) (w : World) :
    Calls Try.prog 147 #[.slice a 0 cap, .int .i64 0, .int .i64 0, f] w fun e w' => e = .returned (.tuple #[]) ∧ w = w' := by
  go_enter Try.func147, Try.ntmps147
  go_wp2
  refine wp_loop_rounds 1 ?_
  rw [rounds_succ]
  go_wp2
  go_end0
  exact ⟨rfl, rfl⟩
set_option maxHeartbeats 1000000 in
set_option maxRecDepth 100000 in
theorem pdq_nil (cap : Nat) (a : Option Addr) (f : Value) (l : Int) (w : World) :
    Calls Try.prog 139 #[.slice a 0 cap, .int .i64 0, .int .i64 0, .int .i64 l, f] w fun e w' => e = .returned (.tuple #[]) ∧ w = w' := by
  go_enter Try.func139, Try.ntmps139
  go_wp2
  refine wp_loop_rounds 1 ?_
  rw [rounds_succ]
  go_wp2_with fail
  ((with_reducible refine (insert_nil _ _ _ _).mono ?_); rintro e w1 ⟨rfl, rfl⟩)
  go_wp2
  exact bodyPost_ret (v := .tuple #[]) (by simp [results, Try.results139, go_sem]) rfl ⟨rfl, rfl⟩
set_option maxHeartbeats 1000000 in
theorem sort_nil (cap : Nat) (a : Option Addr) (f : Value) (w : World) :
    Calls Try.prog 124 #[.slice a 0 cap, f] w fun e w' => e = .returned (.tuple #[]) ∧ w = w' := by
  have hl : Calls Try.prog 140 #[.int .u64 (0 : Int)] w fun e w' => e = .returned (.int .i64 (Lib.bitLen (0 : Int).toNat : Nat)) ∧ w' = w :=
    Any.bits_Len (SlLaysF0.n15.bits (P := Try.prog) (ρ := Try.sortTm_ren) { Try.sortTm with }) (0 : Int) w (by omega) (by omega)
  generalize ((Lib.bitLen (0 : Int).toNat : Nat) : Int) = l at hl
  go_enter Try.func124, Try.ntmps124
  go_wp2_with fail
  ((with_reducible refine hl.mono ?_); rintro e w1 ⟨rfl, rfl⟩)
  go_wp2_with fail
  ((with_reducible refine (pdq_nil _ _ _ _ _).mono ?_); rintro e w1 ⟨rfl, rfl⟩)
  go_wp2
  go_end0
  exact ⟨rfl, rfl⟩

theorem ofTerms (O : List Tm) (hb : ∀ t ∈ O, byte3 (tmE t)) : ∃ d : Array TB, d.toList.map (·.1) = O ∧ d.size = O.length := by
  induction O with
  | nil => exact ⟨#[], rfl, rfl⟩
  | cons t r ih =>
    obtain ⟨d, h1, h2⟩ := ih fun x hx => hb x (by simp [hx])
    exact ⟨(⟨t, hb t (by simp)⟩ :: d.toList).toArray, by simp [h1], by simp [h2]⟩

theorem sort_says : SortSays := by
  intro v O base w h hb h12 hn hl
  obtain ⟨hx, ⟨rfl, h0⟩ | ⟨g, cap, cur, rfl, r⟩⟩ := id h
  · have hO : O = [] := List.eq_nil_of_length_eq_zero h0
    subst hO
    refine (sort_nil 0 none _ w).mono ?_
    rintro e w' ⟨rfl, rfl⟩
    exact ⟨rfl, [], List.Perm.refl _, List.Pairwise.nil, h, ⟨rfl, rfl, rfl, Nat.le_refl _, fun _ _ _ => rfl⟩⟩
  · obtain ⟨d, hd, hs⟩ := ofTerms O hb
    obtain ⟨hH, hlt⟩ := owns_holds h d hd
    have eg : ∀ args w, (callFunc 125 args).run Try.prog w = .ok (.enter 125 args) w := enters_of Try.func125 (by kernel_rfl) rfl
    have hcon := AnyQ.slices_SortFunc Try.sortTm 4 Try.isAgg92 Try.sizeOf92 encT (fun _ => rfl) (fun x v hv => by simp [encT, cell4] at hv; rcases hv with rfl | rfl | rfl | rfl <;> rfl) cfT swoT 125 #[] g 0 cap d w eg (cmpLaysT g 0 d.size w) hH hlt (by omega)
    change Calls Try.prog 124 _ _ _ at hcon
    rw [hs] at hcon
    refine hcon.mono ?_
    rintro e w' ⟨rfl, d', n, os, ⟨hp1, _, hp2⟩, hso, rfl⟩
    have hds : d'.size = O.length := by rw [hp1, hs]
    have hperm : d'.toList.Perm d.toList := by
      have e1 : d'.extract 0 O.length = d' := by rw [← hds]; simp
      have e2 : d.extract 0 O.length = d := by rw [← hs]; simp
      rwa [e1, e2] at hp2
    obtain ⟨ho, hg⟩ := sorted_owns h n d' os hds
    have hpm : (d'.toList.map (·.1)).Perm O := by
      have := hperm.map (fun x : TB => x.1)
      rwa [hd] at this
    have hl' : (d'.toList.map (·.1)).length = O.length := by simp [hds]
    refine ⟨rfl, d'.toList.map (·.1), hpm, ?_, by rw [hl'] at ho ⊢; exact ho, hg⟩
    refine asc_sorted d' (by rw [hds]; exact hso) ?_ ?_
    · have h2 : (d'.toList.map (·.1)).Pairwise fun a b => tmE a ≠ tmE b := (hpm.pairwise_iff (fun h e => h e.symm)).2 hn
      rwa [List.pairwise_map] at h2
    · intro x hx
      exact h12 x.1 (hpm.mem_iff.1 (List.mem_map_of_mem hx))
end Go.Proofs.Ytphgpadpffigjaa
