/-
  WALKS: rows judged, also without numbers; 'spec.ReduceRows'. Conditions: as each theorem states.
-/
import Derived.Test.YtggogmbhlfddlaaPz
import Derived.Test.YtggogmbhlfddlaaEf
namespace Go.Proofs.Ytggogmbhlfddlaa
open Go.RowKit Go.Sort EchM

theorem npoint_zero (p : Int) (a : Option Addr) (cap : Nat) (w : World) :
    Calls Try.prog 50 #[.int .i64 p, .int .i64 0, .slice a 0 cap] w fun e w' => e = .returned (.bool (nptB p 0 [])) ∧ w = w' := by
  go_enter Try.func50, Try.ntmps50
  go_wp2
  refine wp_loop_rounds 1 ?_
  rw [rounds_succ]
  go_wp2
  go_ret
  exact ⟨rfl, rfl⟩
theorem npoint_all (p d : Int) (v : Value) (l : List Int) (w : World) (h2 : 2 ≤ p) (h13 : p ≤ 13) (hd : 0 ≤ d) (hl : l.length ≤ 1048576) (hS : Sl w v l) :
    Calls Try.prog 50 #[.int .i64 p, .int .i64 d, v] w fun e w' => e = .returned (.bool (nptB p d l)) ∧ w = w' := by
  by_cases h0 : d = 0
  · subst h0
    obtain ⟨a, cap, rfl, rfl | ⟨b, off, rfl, hlt, hT⟩⟩ := hS
    · exact npoint_zero p a cap w
    · exact npoint_some p 0 b off cap l w h2 h13 hl hT
  · exact npoint_any p d v l w h2 h13 (by omega) hl hS
theorem nocont_zero (g : Nat) (a : Option Addr) (cap : Nat) (w : World) :
    Calls Try.prog 100 #[.slice a 0 cap, noutF g] w fun e w' => e = .returned (.bool false) ∧ w = w' := by
  have h1 : Calls Try.prog 142 #[.slice a 0 cap, noutF g] w fun e w' => e = .returned (.int .i64 (-1)) ∧ w = w' := by
    go_enter Try.func142, Try.ntmps142
    go_wp2
    refine wp_loop_rounds 1 ?_
    rw [rounds_succ]
    go_wp2
    go_ret
    exact ⟨rfl, rfl⟩
  have HH := Lib.hid h1
  clear h1
  go_enter Try.func100, Try.ntmps100
  go_wp2_with fail
  ((with_reducible refine HH.out.mono ?_); rintro e w1 ⟨rfl, rfl⟩)
  go_wp2
  go_ret
  exact ⟨rfl, rfl⟩
set_option maxHeartbeats 1000000 in
theorem nareNumbers_zero (p : Int) (a : Option Addr) (cap : Nat) (w : World) :
    Calls Try.prog 53 #[.int .i64 p, .int .i64 0, .slice a 0 cap] w fun e w' => e = .returned (.bool (nptB p 0 [])) ∧ Below w.heap.size w w' := by
  have hmf : ∀ (fn : Fn) (first cap : Array Value) (w : World), (Instr.makeFunc fn first cap).run Try.prog w = .ok (.func fn first cap) w := fun _ _ _ _ => rfl
  go_enter Try.func53, Try.ntmps53
  go_wp2_with fail
  ((with_reducible refine (nocont_zero w.heap.size a cap _).mono ?_); rintro e w1 ⟨rfl, rfl⟩)
  go_wp2
  go_ret
  exact ⟨rfl, ebox1 _ _⟩
theorem nareNumbers_all (p d : Int) (v : Value) (l : List Int) (w : World) (hd : 0 ≤ d) (hl : l.length ≤ 1048576) (hS : Sl w v l) :
    Calls Try.prog 53 #[.int .i64 p, .int .i64 d, v] w fun e w' => e = .returned (.bool (nptB p d l)) ∧ Below w.heap.size w w' := by
  by_cases h0 : d = 0
  · subst h0
    obtain ⟨a, cap, rfl, h⟩ := id hS
    by_cases hl0 : l = []
    · subst hl0
      exact nareNumbers_zero p a cap w
    · have hpos : 0 < l.length := by
        cases l with
        | nil => exact absurd rfl hl0
        | cons => simp
      have he1 : ((l.length : Int) == 0) = false := by simp; omega
      have HD : Hid (nptB p 0 l = false) := Lib.hid (by simp [nptB, hl0])
      clear h hS hl0 hpos
      go_enter Try.func53, Try.ntmps53
      go_wp2
      go_ret
      exact ⟨by rw [HD.out]; rfl, ebox1 _ _⟩
  · exact nareNumbers_any p d v l w (by omega) hl hS

/-- What ReduceRows asks. -/
def rrB (p n : Int) (L : List (List Int)) : Bool := pB p && ((decide (0 ≤ n) && decide (n ≤ 100)) && (decide (L.length ≤ 100) && L.all (nptB p n)))
def rrS (p n : Int) (L : List (List Int)) : List (List Int) := if rrB p n L then echL p L else []
def rrC (p n : Int) (L : List (List Int)) : Int := if rrB p n L then 0 else 2
theorem rr_no {p n : Int} {L : List (List Int)} (h : rrB p n L = false) : rrS p n L = [] ∧ rrC p n L = 2 := by unfold rrS rrC; simp [h]
theorem rr_yes {p n : Int} {L : List (List Int)} (h : rrB p n L = true) : rrS p n L = echL p L ∧ rrC p n L = 0 := by unfold rrS rrC; simp [h]
theorem rr_inP {p : Int} {n : Nat} {l : List Int} (h : nptB p n l = true) : InP p n l := by
  simp only [nptB, Bool.and_eq_true, decide_eq_true_eq] at h
  exact ⟨by omega, fun a ha => by simpa [nnumB] using List.all_eq_true.1 h.2 a ha⟩
theorem eprime_b (p : Int) (B : Bool) (h : pB p = B) (w : World) : Calls Try.prog 48 #[.int .i64 p] w fun e w' => e = .returned (.bool B) ∧ w' = w :=
  (eprime p w).mono fun _ _ ⟨a, b⟩ => ⟨by rw [a, h], b.symm⟩
theorem iprime_b (p : Int) (B : Bool) (h : pB p = B) (w : World) : Calls Try.prog 52 #[.int .i64 p] w fun e w' => e = .returned (.bool B) ∧ w' = w :=
  (iprime p w).mono fun _ _ ⟨a, b⟩ => ⟨by rw [a, h], b.symm⟩
theorem rows_upto {α : Type} (f : α → Bool) (L : List α) (h : ∀ (j : Nat) (hj : j < L.length), j < L.length → f L[j] = true) : L.all f = true := by
  rw [List.all_eq_true]
  intro x hx
  obtain ⟨j, hj, rfl⟩ := List.getElem_of_mem hx
  exact h j hj hj

set_option maxRecDepth 8000 in
set_option maxHeartbeats 4000000 in
theorem srr (p n : Int) (v : Value) (L : List (List Int)) (w : World) (hl : L.length ≤ 1048576) (hlr : ∀ r ∈ L, r.length ≤ 1048576) (hS : SlR w v L) :
    Calls Try.prog 13 #[.int .i64 p, .int .i64 n, v] w fun e w' => ∃ v', e = .returned (.tuple #[v', .int .i64 (rrC p n L)]) ∧ SlR w' v' (rrS p n L) ∧ Below w.heap.size w w' := by
  have hnil : ∀ W, SlR W (.slice none 0 0) [] := fun W => ⟨_, _, rfl, .inl rfl⟩
  obtain ⟨a, cap, rfl, hc⟩ := id hS
  cases hp : pB p
  · have HX := Lib.hid (rr_no (p := p) (n := n) (L := L) (by simp [rrB, hp]))
    have HP := Lib.hid (fun W => eprime_b p false hp W)
    clear hp
    go_enter Try.func13, Try.ntmps13
    go_wp2_with fail
    ((with_reducible refine (HP.out _).mono ?_); rintro e w1 ⟨rfl, rfl⟩)
    go_wp2_with fail
    go_ret2
    rw [HX.out.1, HX.out.2]
    exact ⟨_, rfl, hnil _, Below.refl _ _⟩
  have HP := Lib.hid (fun W => eprime_b p true hp W)
  have hp2 := pB_le hp
  have hps := Lib.hid (pB_set hp)
  cases hn : (decide (0 ≤ n) && decide (n ≤ 100))
  · have HX := Lib.hid (rr_no (p := p) (n := n) (L := L) (by simp only [rrB, hn]; simp))
    have HN := Lib.hid (fun W => rin_is n 0 100 W false hn)
    clear hp hn
    go_enter Try.func13, Try.ntmps13
    go_wp2_with fail
    ((with_reducible refine (HP.out _).mono ?_); rintro e w1 ⟨rfl, rfl⟩)
    go_wp2_with fail
    ((with_reducible refine (HN.out _).mono ?_); rintro e w2 ⟨rfl, rfl⟩)
    go_wp2_with fail
    go_ret2
    rw [HX.out.1, HX.out.2]
    exact ⟨_, rfl, hnil _, Below.refl _ _⟩
  have HN := Lib.hid (fun W => rin_is n 0 100 W true hn)
  have hnn : 0 ≤ n ∧ n ≤ 100 := by simpa using hn
  obtain ⟨m, rfl⟩ := Int.eq_ofNat_of_zero_le hnn.1
  by_cases hL : 100 < L.length
  · have hL' : (100 : Int) < (L.length : Int) := by omega
    have HX := Lib.hid (rr_no (p := p) (n := m) (L := L) (by simp [rrB]; intros; omega))
    clear hp hn hL
    go_enter Try.func13, Try.ntmps13
    go_wp2_with fail
    ((with_reducible refine (HP.out _).mono ?_); rintro e w1 ⟨rfl, rfl⟩)
    go_wp2_with fail
    ((with_reducible refine (HN.out _).mono ?_); rintro e w2 ⟨rfl, rfl⟩)
    go_wp2_with fail
    go_ret2
    rw [HX.out.1, HX.out.2]
    exact ⟨_, rfl, hnil _, Below.refl _ _⟩
  have hL1 : L.length ≤ 100 := by omega
  have hL2 : ¬ ((100 : Int) < (L.length : Int)) := by omega
  have HB := Lib.hid (show rrB p m L = L.all (nptB p m) by simp only [rrB, hp, hn]; simp [hL1])
  have HLR := Lib.hid hlr
  clear hp hn hL
  go_enter Try.func13, Try.ntmps13
  go_wp2_with fail
  ((with_reducible refine (HP.out _).mono ?_); rintro e w1 ⟨rfl, rfl⟩)
  go_wp2_with fail
  ((with_reducible refine (HN.out _).mono ?_); rintro e w2 ⟨rfl, rfl⟩)
  go_wp2_with fail
  go_loop [8] (fun i => ∃ k : Nat, k ≤ L.length ∧ i = .int .i64 k ∧ Hid (∀ (j : Nat) (hj : j < L.length), j < k → nptB p m L[j] = true)) (fun i => L.length - (intOf i).toNat)
  case atStart => exact ⟨0, by omega, rfl, Lib.hid (fun j _ h => by omega)⟩
  case round =>
    obtain ⟨k, hk, rfl, HU⟩ := hrel
    by_cases hlt : k < L.length
    · have hlt' : (k : Int) < (L.length : Int) := by omega
      obtain ⟨b, off, rfl, hbb, hT⟩ : ∃ b off, a = some ⟨b, off, none⟩ ∧ b < w2.heap.size ∧ RowsW w2 b off L := by
        rcases hc with rfl | h
        · simp at hlt
        · exact h
      obtain ⟨u, c0, s0⟩ := hT k hlt
      have HC := Lib.hid (npoint_all p m u L[k] w2 hp2.1 hp2.2 (by omega) (HLR.out _ (List.getElem_mem hlt)) s0)
      clear hT hS hlr
      cases hB : nptB p m L[k]
      · have HX := Lib.hid (rr_no (p := p) (n := m) (L := L) (by
          rw [HB.out, List.all_eq_false]
          exact ⟨_, List.getElem_mem hlt, by simp [hB]⟩))
        rw [hB] at HC
        clear hB
        go_wp2_with fail
        ((with_reducible refine HC.out.mono ?_); rintro e w3 ⟨rfl, rfl⟩)
        go_wp2_with fail
        go_ret2
        rw [HX.out.1, HX.out.2]
        exact ⟨_, rfl, hnil _, Below.refl _ _⟩
      · have HN2 : Hid (∀ (j : Nat) (hj : j < L.length), j < k + 1 → nptB p m L[j] = true) := Lib.hid (fun j hj hjk => by
          by_cases e : j = k
          · subst e; exact hB
          · exact HU.out j hj (by omega))
        rw [hB] at HC
        clear hB
        go_wp2_with fail
        ((with_reducible refine HC.out.mono ?_); rintro e w3 ⟨rfl, rfl⟩)
        go_wp2_with fail
        go_round
        case rel => exact ⟨k + 1, by omega, by go_num, HN2⟩
        case measure => simp [intOf]; omega
    · obtain rfl : k = L.length := by omega
      have HA := Lib.hid (rows_upto (nptB p m) L HU.out)
      have HX := Lib.hid (rr_yes (p := p) (n := m) (L := L) (by rw [HB.out, HA.out]))
      have HE := Lib.hid (eech p (.slice a L.length cap) L m w2 hps.out (by omega) (by omega) (fun r hr => rr_inP (List.all_eq_true.1 HA.out r hr)) hS)
      clear hS hc hlr
      go_wp2_with fail
      ((with_reducible refine HE.out.mono ?_); rintro e w3 ⟨v3, rfl, ho, hb3⟩)
      obtain ⟨a3, c3, rfl⟩ := ho.shape
      go_wp2_with fail
      go_ret2
      rw [HX.out.1, HX.out.2]
      exact ⟨_, rfl, ho.slice, hb3⟩
end Go.Proofs.Ytggogmbhlfddlaa
