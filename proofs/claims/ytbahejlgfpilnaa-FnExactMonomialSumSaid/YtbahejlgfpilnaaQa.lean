/-
  MONOMIAL SUMS: the degree of the images; the polynomial told by its coefficients. Conditions: as each theorem states.
  WALKS: 'impl.areExponents'. Conditions: as each theorem states.
  MONOMIAL SUMS: 'impl.cappedSum[int64]', 'impl.MonomialSum', 'spec.MonomialSum'. Conditions: as each theorem states.
  WALKS: comparing terms and polynomials that are equal. Conditions: as each theorem states.
  WALKS: degrees. Conditions: as each theorem states.
  LISTS OF POLYNOMIALS in memory. Conditions: as each theorem states.
  LISTS OF POLYNOMIALS in a law: compared. Conditions: as each theorem states.
  LISTS OF POLYNOMIALS in a law: measured. Conditions: as the theorem states.
  LISTS OF POLYNOMIALS in a law: compared. Conditions: as the theorem states.
  WALKS: marking the terms of a polynomial and reading the marks back. Conditions: as each theorem states.
  WALKS: marking a polynomial whose terms lie in an array of the call's own, and reading the marks back. Conditions: as each theorem states.
  LISTS OF POLYNOMIALS in a law: copied. Conditions: as the theorem states.
  LISTS OF POLYNOMIALS in a law: marked. Conditions: as the theorem states.
  THE STATE OF A LAW of a function of a polynomial and a list of polynomials. Conditions: as each theorem states.
  The boxes of a law whose result is a polynomial, beside lists as arguments. Conditions: as each theorem states.
  The law of 'FnExactMonomialSum', walked. Conditions: as the theorem states.
  A list of 64-bit numbers as an argument of a law, opened; a row's end. Conditions: the argument can be read as data.
-/
import Derived.Test.YtbahejlgfpilnaaSyj
import Derived.Test.YtbahejlgfpilnaaRz
import Derived.Test.YtbahejlgfpilnaaF
import Derived.Test.YtbahejlgfpilnaaCj
import Derived.Deep.RegionWith
import Derived.Test.YtbahejlgfpilnaaMm
import Derived.Test.YtbahejlgfpilnaaMr
import Derived.Test.YtbahejlgfpilnaaLs2
import Derived.Test.YtbahejlgfpilnaaLq
import Derived.Test.YtbahejlgfpilnaaLu
import Derived.Test.YtbahejlgfpilnaaLa
import Derived.ProofKit
import Derived.OpenShut
import Derived.Lib.SmallJoins
import Derived.Deep.Slices
namespace Go.Proofs.Ytbahejlgfpilnaa
open Go.RowKit Go.Sort Go.Maps

theorem sum_key {es os : List Int} (hd : 1 ≤ es.length ∧ es.length ≤ 3) (h : os ∈ sOrd es.length) : (keyO es os).1 + (keyO es os).2.1 + (keyO es os).2.2 = es.sum := by
  have h1 : sOrd 1 = [[0]] := by decide +kernel
  have h2 : sOrd 2 = [[0, 1], [1, 0]] := by decide +kernel
  have h3 : sOrd 3 = [[0, 1, 2], [0, 2, 1], [2, 0, 1], [1, 0, 2], [1, 2, 0], [2, 1, 0]] := by decide +kernel
  match es, hd, h with
  | [a], _, h =>
    rw [show [a].length = 1 from rfl, h1] at h
    simp only [List.mem_cons, List.not_mem_nil, or_false] at h
    subst h
    simp [keyO, plF]
  | [a, b], _, h =>
    rw [show [a, b].length = 2 from rfl, h2] at h
    simp only [List.mem_cons, List.not_mem_nil, or_false] at h
    rcases h with rfl | rfl <;> simp [keyO, plF] <;> omega
  | [a, b, c], _, h =>
    rw [show [a, b, c].length = 3 from rfl, h3] at h
    simp only [List.mem_cons, List.not_mem_nil, or_false] at h
    rcases h with rfl | rfl | rfl | rfl | rfl | rfl <;> simp [keyO, plF] <;> omega
theorem sum_key2 {es os : List Int} (hd : 1 ≤ es.length ∧ es.length ≤ 3) (h : os ∈ ordL es.length (es.length ^ es.length)) : (keyO es os).1 + (keyO es os).2.1 + (keyO es os).2.2 = es.sum := sum_key hd ((ord_same _ hd os).2 h)

open Classical in
/-- The polynomial with some coefficients, if there is one. -/
noncomputable def isS (p : Int) (f : Int × Int × Int → Int) : List Tm := if h : ∃ S, IsP p S f then Classical.choose h else []
theorem isS_of {p : Int} {S : List Tm} {f : Int × Int × Int → Int} (h : IsP p S f) : isS p f = S := by
  unfold isS
  rw [dif_pos ⟨S, h⟩]
  exact (Classical.choose_spec (⟨S, h⟩ : ∃ S, IsP p S f)).unique h
theorem isS_len (p : Int) (f : Int × Int × Int → Int) : (isS p f).length ≤ 2197 := by
  unfold isS
  split
  · rename_i h
    exact (Classical.choose_spec h).len
  · simp
/-- The monomial sum of exponents. -/
noncomputable def msS (p : Int) (es : List Int) : List Tm := isS p (indF (imgL es (sOrd es.length)))
theorem imsumS (p : Int) (ve : Value) (es : List Int) (w : World) (hd : 1 ≤ es.length ∧ es.length ≤ 3) (hp2 : 2 ≤ p) (he : ∀ e ∈ es, 0 ≤ e ∧ e ≤ 255) (hs : es.sum ≤ 12) (hS : Sl w ve es) :
    Calls Try.prog 103 #[.int .i64 p, ve] w fun e w' => ∃ v', e = .returned (.agg #[.int .i64 p, .int .i64 es.length, v']) ∧ OwnP w' w.heap.size v' (msS p es) ∧ Below w.heap.size w w' :=
  (imsum p ve es w hd hp2 he (fun os h => by rw [sum_key2 hd h]; exact hs) hS).mono fun _ _ ⟨v', S, h1, h2, h3, h4⟩ => by
    rw [← img_same es hd] at h3
    exact ⟨v', h1, by unfold msS; rw [isS_of h3]; exact h2, h4⟩
theorem ssumS (p : Int) (ve : Value) (es : List Int) (w : World) (hd : 1 ≤ es.length ∧ es.length ≤ 3) (hp2 : 2 ≤ p) (hp13 : p ≤ 13) (he : ∀ e ∈ es, 0 ≤ e ∧ e ≤ 255) (hs : es.sum ≤ 12) (hS : Sl w ve es) :
    Calls Try.prog 100 #[.int .i64 p, ve] w fun e w' => ∃ v', e = .returned (.agg #[.int .i64 p, .int .i64 es.length, v']) ∧ OwnP w' w.heap.size v' (msS p es) ∧ Below w.heap.size w w' :=
  (ssum p ve es w hd hp2 hp13 he (fun os h => by rw [sum_key hd h]; exact hs) hS).mono fun _ _ ⟨v', S, h1, h2, h3, h4⟩ => ⟨v', h1, by unfold msS; rw [isS_of h3]; exact h2, h4⟩
end Go.Proofs.Ytbahejlgfpilnaa
namespace Go.Proofs.Ytbahejlgfpilnaa
open Go.RowKit Go.Sort EchM

def ngB (x : Int) : Bool := decide (0 ≤ x)
theorem ngout (x : Int) (w : World) : Calls Try.prog 170 #[.int .i64 x] w fun e w' => e = .returned (.bool (!ngB x)) ∧ w' = w := by
  have HB : Hid ((!ngB x) = decide (x < 0)) := Lib.hid (by
    rw [Bool.eq_iff_iff]
    simp [ngB])
  go_enter Try.func170, Try.ntmps170
  go_wp2
  go_ret
  exact ⟨by rw [HB.out]; rfl, rfl⟩
abbrev ngF : Value := .func (.func 170) #[] #[]

set_option maxHeartbeats 1000000 in
theorem ngidx_some (b off cap : Nat) (l : List Int) (w : World) (hl : l.length ≤ 1048576) (hT : Cs w b off l) (j : Nat) (hj : j < l.length) (hn : ngB l[j] = false) (hp : ∀ (i : Nat) (h : i < l.length), i < j → ngB l[i] = true) :
    Calls Try.prog 147 #[.slice (some ⟨b, off, none⟩) l.length cap, ngF] w fun e w' => e = .returned (.int .i64 j) ∧ w' = w := by
  have HN := Lib.hid hn
  have HP := Lib.hid hp
  clear hn hp
  go_enter Try.func147, Try.ntmps147
  go_wp2
  go_loop [8] (fun i => ∃ k : Nat, k ≤ j ∧ i = .int .i64 k) (fun i => l.length - (intOf i).toNat)
  case atStart => exact ⟨0, by omega, rfl⟩
  case round =>
    obtain ⟨k, hk, rfl⟩ := hrel
    have hlt : k < l.length := by omega
    have hlt' : (k : Int) < (l.length : Int) := by omega
    have c0 := hT k hlt
    by_cases e : k = j
    · subst e
      go_wp2_with fail
      ((with_reducible refine (ngout _ _).mono ?_); rintro e w1 ⟨rfl, rfl⟩)
      rw [HN.out]
      go_wp2
      go_ret
      exact ⟨rfl, rfl⟩
    · have h0 := Lib.hid (HP.out k hlt (by omega))
      go_wp2_with fail
      ((with_reducible refine (ngout _ _).mono ?_); rintro e w1 ⟨rfl, rfl⟩)
      rw [h0.out]
      go_wp2
      go_round
      case rel => exact ⟨k + 1, by omega, by go_num⟩
      case measure => simp [intOf]; omega

set_option maxHeartbeats 1000000 in
theorem ngidx_none (a : Option Addr) (cap : Nat) (l : List Int) (w : World) (hl : l.length ≤ 1048576) (hS : l = [] ∨ ∃ b off, a = some ⟨b, off, none⟩ ∧ b < w.heap.size ∧ Cs w b off l) (hp : ∀ (i : Nat) (h : i < l.length), ngB l[i] = true) :
    Calls Try.prog 147 #[.slice a l.length cap, ngF] w fun e w' => e = .returned (.int .i64 (-1)) ∧ w' = w := by
  have HP := Lib.hid hp
  clear hp
  go_enter Try.func147, Try.ntmps147
  go_wp2
  go_loop [8] (fun i => ∃ k : Nat, k ≤ l.length ∧ i = .int .i64 k) (fun i => l.length - (intOf i).toNat)
  case atStart => exact ⟨0, by omega, rfl⟩
  case round =>
    obtain ⟨k, hk, rfl⟩ := hrel
    by_cases hlt : k < l.length
    · have hlt' : (k : Int) < (l.length : Int) := by omega
      obtain ⟨b, off, rfl, hbb, hT⟩ : ∃ b off, a = some ⟨b, off, none⟩ ∧ b < w.heap.size ∧ Cs w b off l := by
        rcases hS with rfl | h
        · simp at hlt
        · exact h
      have c0 := hT k hlt
      have h0 := Lib.hid (HP.out k hlt)
      go_wp2_with fail
      ((with_reducible refine (ngout _ _).mono ?_); rintro e w1 ⟨rfl, rfl⟩)
      rw [h0.out]
      go_wp2
      go_round
      case rel => exact ⟨k + 1, by omega, by go_num⟩
      case measure => simp [intOf]; omega
    · obtain rfl : k = l.length := by omega
      go_wp2
      go_ret
      exact ⟨rfl, rfl⟩

theorem ngcontains (v : Value) (l : List Int) (w : World) (hl : l.length ≤ 1048576) (hS : Sl w v l) :
    Calls Try.prog 72 #[v, ngF] w fun e w' => e = .returned (.bool (!l.all ngB)) ∧ w' = w := by
  obtain ⟨a, cap, rfl, hc⟩ := hS
  cases h : l.all ngB
  · obtain ⟨j, hj, hn, hp⟩ := first_out ngB l h
    obtain ⟨b, off, rfl, hbb, hT⟩ : ∃ b off, a = some ⟨b, off, none⟩ ∧ b < w.heap.size ∧ Cs w b off l := by
      rcases hc with rfl | h
      · simp at hj
      · exact h
    clear h hc
    go_enter Try.func72, Try.ntmps72
    go_wp2_with fail
    ((with_reducible refine (ngidx_some b off cap l _ hl hT j hj hn hp).mono ?_); rintro e w1 ⟨rfl, rfl⟩)
    go_wp2
    go_ret
    exact ⟨rfl, rfl⟩
  · have hp : ∀ (i : Nat) (hi : i < l.length), ngB l[i] = true := fun i hi => List.all_eq_true.1 h _ (List.getElem_mem hi)
    clear h
    have HP := Lib.hid hp
    clear hp
    go_enter Try.func72, Try.ntmps72
    go_wp2_with fail
    ((with_reducible refine (ngidx_none a cap l _ hl hc HP.out).mono ?_); rintro e w1 ⟨rfl, rfl⟩)
    go_wp2
    go_ret
    exact ⟨rfl, rfl⟩

set_option maxHeartbeats 1000000 in
theorem iexps (d : Int) (v : Value) (l : List Int) (w : World) (hl : l.length ≤ 1048576) (hS : Sl w v l) :
    Calls Try.prog 101 #[.int .i64 d, v] w fun e w' => e = .returned (.bool (decide ((l.length : Int) = d) && l.all ngB)) ∧ w' = w := by
  obtain ⟨a, cap, rfl, _⟩ := id hS
  by_cases he : (l.length : Int) = d
  · have he1 : ((l.length : Int) == d) = true := by simp [he]
    have HD : Hid (decide ((l.length : Int) = d) = true) := Lib.hid (by simp [he])
    clear he
    go_enter Try.func101, Try.ntmps101
    go_wp2_with fail
    ((with_reducible refine (ngcontains _ l _ hl hS).mono ?_); rintro e w1 ⟨rfl, rfl⟩)
    go_wp2
    go_ret
    exact ⟨by rw [HD.out]; simp, rfl⟩
  · have he1 : ((l.length : Int) == d) = false := by simp [he]
    have HD : Hid (decide ((l.length : Int) = d) = false) := Lib.hid (by simp [he])
    clear he
    go_enter Try.func101, Try.ntmps101
    go_wp2
    go_ret
    exact ⟨by rw [HD.out]; rfl, rfl⟩
end Go.Proofs.Ytbahejlgfpilnaa
namespace Go.Proofs.Ytbahejlgfpilnaa
open Go.RowKit Go.Sort Go.Maps

/-- Whether the arguments are in their ranges; the outcome. -/
def smB (p : Int) (es : List Int) : Bool := (primeB p && (decide (1 ≤ (es.length : Int)) && decide ((es.length : Int) ≤ 3))) && es.all ngB
noncomputable def smO (p : Int) (es : List Int) : OutP := if smB p es then (if es.sum ≤ 12 then ⟨p, es.length, msS p es, 0⟩ else noP 3) else noP 2
theorem smO_len (p : Int) (es : List Int) : (smO p es).S.length ≤ 2197 := by
  unfold smO
  split
  · split
    · exact isS_len _ _
    · simp [noP]
  · simp [noP]
theorem smO_no {p : Int} {es : List Int} (h : smB p es = false) : smO p es = noP 2 := by unfold smO; rw [if_neg (by simp [h])]
theorem smO_big {p : Int} {es : List Int} (h : smB p es = true) (hs : ¬ es.sum ≤ 12) : smO p es = noP 3 := by unfold smO; rw [if_pos h, if_neg hs]
theorem smO_yes {p : Int} {es : List Int} (h : smB p es = true) (hs : es.sum ≤ 12) : smO p es = ⟨p, es.length, msS p es, 0⟩ := by unfold smO; rw [if_pos h, if_pos hs]
theorem sumS_step (l : List Int) (k : Nat) (h : k < l.length) : (l.take (k + 1)).sum = (l.take k).sum + l[k] := by
  rw [List.take_succ_eq_append_getElem h, List.sum_append]; simp
theorem sumS_pos : ∀ (l : List Int), (∀ x ∈ l, 0 ≤ x) → 0 ≤ l.sum
  | [], _ => by simp
  | a :: r, h => by have := sumS_pos r fun x hx => h x (by simp [hx]); have := h a (by simp); simp; omega
theorem sumS_take (l : List Int) (hp : ∀ x ∈ l, 0 ≤ x) (k : Nat) : (l.take k).sum ≤ l.sum := by
  have h1 : l.sum = (l.take k).sum + (l.drop k).sum := by rw [← List.sum_append, List.take_append_drop]
  have h2 := sumS_pos (l.drop k) fun x hx => hp x (List.mem_of_mem_drop hx)
  omega
theorem sumS_mem : ∀ (l : List Int), (∀ x ∈ l, 0 ≤ x) → ∀ x ∈ l, x ≤ l.sum
  | [], _, x, hx => by simp at hx
  | a :: r, h, x, hx => by
    have h1 := sumS_pos r fun x hx => h x (by simp [hx])
    have h2 := h a (by simp)
    simp only [List.sum_cons]
    rcases List.mem_cons.1 hx with rfl | hx
    · omega
    · have := sumS_mem r (fun x hx => h x (by simp [hx])) x hx
      omega
theorem ng_all {l : List Int} (h : l.all ngB = true) : ∀ x ∈ l, 0 ≤ x := fun x hx => by simpa [ngB] using List.all_eq_true.1 h x hx

set_option maxHeartbeats 1000000 in
theorem capS (v : Value) (l : List Int) (w : World) (hl : l.length ≤ 1048576) (hS : Sl w v l) (hp : ∀ x ∈ l, 0 ≤ x) :
    Calls Try.prog 102 #[v] w fun e w' => e = .returned (.int .i64 (capd l.sum)) ∧ w = w' := by
  obtain ⟨a, cap, rfl, hc⟩ := hS
  have HP := Lib.hid hp
  clear hp
  go_enter Try.func102, Try.ntmps102
  go_wp2
  go_loop [3, 8] (fun s i => ∃ (k : Nat) (S : Int), k ≤ l.length ∧ i = .int .i64 k ∧ s = .int .i64 S ∧ Hid (S = (l.take k).sum) ∧ 0 ≤ S ∧ S ≤ 12) (fun _ i => l.length - (intOf i).toNat)
  case atStart => exact ⟨0, 0, by omega, rfl, rfl, Lib.hid (by simp), by omega, by omega⟩
  case round =>
    obtain ⟨k, S, hk, rfl, rfl, HS, h0, h12⟩ := hrel
    by_cases hlt : k < l.length
    · have hlt' : (k : Int) < (l.length : Int) := by omega
      obtain ⟨b, off, rfl, hbb, hT⟩ : ∃ b off, a = some ⟨b, off, none⟩ ∧ b < w.heap.size ∧ Cs w b off l := by
        rcases hc with rfl | h
        · simp at hlt
        · exact h
      have c0 := hT k hlt
      have hx := HP.out _ (List.getElem_mem hlt)
      have H2 := Lib.hid (sumS_step l k hlt)
      by_cases hbig : 12 - S < l[k]
      · have HC : Hid (capd l.sum = 13) := Lib.hid (by
          have h1 := sumS_take l HP.out (k + 1)
          rw [H2.out, ← HS.out] at h1
          unfold capd; rw [if_neg (by omega)])
        go_wp2
        go_ret
        exact ⟨by rw [HC.out]; rfl, rfl⟩
      · go_wp2
        go_round
        case rel => exact ⟨k + 1, S + l[k], by omega, by go_num, by go_num, Lib.hid (by rw [H2.out, ← HS.out]), by omega, by omega⟩
        case measure => simp [intOf]; omega
    · obtain rfl : k = l.length := by omega
      have HC : Hid (capd l.sum = S) := Lib.hid (by
        have := HS.out
        rw [List.take_length] at this
        unfold capd; rw [← this, if_pos h12])
      go_wp2
      go_ret
      exact ⟨by rw [HC.out]; rfl, rfl⟩
theorem exps_isc (v : Value) (l : List Int) (B : Bool) (h : l.all ngB = B) (w : World) (hl : l.length ≤ 1048576) (hS : Sl w v l) :
    Calls Try.prog 101 #[.int .i64 l.length, v] w fun e w' => e = .returned (.bool B) ∧ w = w' :=
  (iexps l.length v l w hl hS).mono fun _ _ ⟨h1, h2⟩ => ⟨by rw [h1, h]; simp, h2.symm⟩

set_option maxRecDepth 8000 in
set_option maxHeartbeats 8000000 in
theorem ims (p : Int) (ve : Value) (es : List Int) (w : World) (hle : es.length ≤ 1048576) (hE : Sl w ve es) :
    Calls Try.prog 37 #[.int .i64 p, ve] w (ResO w (smO p es)) := by
  obtain ⟨ea, ec, rfl, _⟩ := id hE
  obtain ⟨W, hW, hbW, ⟨hWs1, hWs2⟩, rr⟩ := newbox w 0 0 (.slice none 0 0)
  have hEW := hE.below hbW
  cases hp : primeB p
  · have HO : Hid (smO p es = noP 2) := Lib.hid (smO_no (by simp [smB, hp]))
    have H0 := Lib.hid (fun w' => iprime_isc p false hp w')
    clear hp hE hEW
    obtain ⟨⟨r0, r1, r2⟩, z0, z1, z2⟩ := poly3 rr
    obtain ⟨a0, a1, a2, a3, a4⟩ := fill_box (w := w) rr (ownP_nil _ w.heap.size) (Nat.le_refl _) hbW (by omega) 0 0
    have A0 := Lib.hid a0
    have A1 := Lib.hid a1
    have A2 := Lib.hid a2
    have A3 := Lib.hid a3
    have A4 := Lib.hid a4
    clear a0 a1 a2 a3 a4
    go_enter Try.func37, Try.ntmps37
    go_wp2_with fail
    rw [← hW]
    clear hW
    ((with_reducible refine (H0.out _).mono ?_); rintro e w0 ⟨rfl, hw0⟩; subst hw0)
    go_wp2_with fail
    exact bodyPost_ret (v := .tuple #[.agg #[.int .i64 0, .int .i64 0, .slice none 0 0], .int .i64 2]) (by simp [results, Try.results37, go_sem, A0.out, A1.out, A2.out]) rfl (by rw [HO.out]; exact ⟨_, rfl, A3.out, A4.out⟩)
  have H0 := Lib.hid (fun w' => iprime_isc p true hp w')
  cases hd : (decide (1 ≤ (es.length : Int)) && decide ((es.length : Int) ≤ 3))
  · have HO : Hid (smO p es = noP 2) := Lib.hid (smO_no (by unfold smB; rw [hd]; simp))
    have H1 := Lib.hid (fun w' => vars_isc (es.length : Int) false hd w')
    clear hp hd hE hEW
    obtain ⟨⟨r0, r1, r2⟩, z0, z1, z2⟩ := poly3 rr
    obtain ⟨a0, a1, a2, a3, a4⟩ := fill_box (w := w) rr (ownP_nil _ w.heap.size) (Nat.le_refl _) hbW (by omega) 0 0
    have A0 := Lib.hid a0
    have A1 := Lib.hid a1
    have A2 := Lib.hid a2
    have A3 := Lib.hid a3
    have A4 := Lib.hid a4
    clear a0 a1 a2 a3 a4
    go_enter Try.func37, Try.ntmps37
    go_wp2_with fail
    rw [← hW]
    clear hW
    ((with_reducible refine (H0.out _).mono ?_); rintro e w0 ⟨rfl, hw0⟩; subst hw0)
    go_wp2_with fail
    ((with_reducible refine (H1.out _).mono ?_); rintro e w0 ⟨rfl, hw0⟩; subst hw0)
    go_wp2_with fail
    exact bodyPost_ret (v := .tuple #[.agg #[.int .i64 0, .int .i64 0, .slice none 0 0], .int .i64 2]) (by simp [results, Try.results37, go_sem, A0.out, A1.out, A2.out]) rfl (by rw [HO.out]; exact ⟨_, rfl, A3.out, A4.out⟩)
  have H1 := Lib.hid (fun w' => vars_isc (es.length : Int) true hd w')
  cases ha : es.all ngB
  · have HO : Hid (smO p es = noP 2) := Lib.hid (smO_no (by unfold smB; rw [ha]; simp))
    have H2 := Lib.hid (fun (_ : Unit) => exps_isc _ es false ha W hle hEW)
    clear hp hd ha hE hEW
    obtain ⟨⟨r0, r1, r2⟩, z0, z1, z2⟩ := poly3 rr
    obtain ⟨a0, a1, a2, a3, a4⟩ := fill_box (w := w) rr (ownP_nil _ w.heap.size) (Nat.le_refl _) hbW (by omega) 0 0
    have A0 := Lib.hid a0
    have A1 := Lib.hid a1
    have A2 := Lib.hid a2
    have A3 := Lib.hid a3
    have A4 := Lib.hid a4
    clear a0 a1 a2 a3 a4
    go_enter Try.func37, Try.ntmps37
    go_wp2_with fail
    rw [← hW]
    clear hW
    ((with_reducible refine (H0.out _).mono ?_); rintro e w0 ⟨rfl, hw0⟩; subst hw0)
    go_wp2_with fail
    ((with_reducible refine (H1.out _).mono ?_); rintro e w0 ⟨rfl, hw0⟩; subst hw0)
    go_wp2_with fail
    ((with_reducible refine (H2.out ()).mono ?_); rintro e w0 ⟨rfl, hw0⟩; subst hw0)
    go_wp2_with fail
    exact bodyPost_ret (v := .tuple #[.agg #[.int .i64 0, .int .i64 0, .slice none 0 0], .int .i64 2]) (by simp [results, Try.results37, go_sem, A0.out, A1.out, A2.out]) rfl (by rw [HO.out]; exact ⟨_, rfl, A3.out, A4.out⟩)
  have H2 := Lib.hid (fun (_ : Unit) => exps_isc _ es true ha W hle hEW)
  have hB : smB p es = true := by unfold smB; rw [hp, hd, ha]; rfl
  have hnn := ng_all ha
  have H3 := Lib.hid (fun (_ : Unit) => capS _ es W hle hEW hnn)
  have hdd : 1 ≤ es.length ∧ es.length ≤ 3 := by
    simp only [Bool.and_eq_true, decide_eq_true_eq] at hd
    omega
  obtain ⟨hp2, hp13⟩ := prime_bc hp
  by_cases hs : es.sum ≤ 12
  · have HO := Lib.hid (smO_yes hB hs)
    have HC := Lib.hid (imsumS p _ es W hdd hp2 (fun e he => ⟨hnn e he, by have := sumS_mem es hnn e he; omega⟩) hs hEW)
    have hc12 : ¬ (12 < capd es.sum) := by unfold capd; rw [if_pos hs]; omega
    obtain ⟨C, hC⟩ : ∃ C, capd es.sum = C := ⟨_, rfl⟩
    rw [hC] at hc12 H3
    clear hp hd ha hE hEW hB hnn hs hdd hC
    go_enter Try.func37, Try.ntmps37
    go_wp2_with fail
    rw [← hW]
    clear hW
    ((with_reducible refine (H0.out _).mono ?_); rintro e w0 ⟨rfl, hw0⟩; subst hw0)
    go_wp2_with fail
    ((with_reducible refine (H1.out _).mono ?_); rintro e w0 ⟨rfl, hw0⟩; subst hw0)
    go_wp2_with fail
    ((with_reducible refine (H2.out ()).mono ?_); rintro e w0 ⟨rfl, hw0⟩; subst hw0)
    go_wp2_with fail
    ((with_reducible refine (H3.out ()).mono ?_); rintro e w0 ⟨rfl, hw0⟩; subst hw0)
    go_wp2_with fail
    ((with_reducible refine HC.out.mono ?_); rintro e w5 ⟨v5, rfl, ho5, hb5⟩)
    obtain ⟨sa, sc, rfl⟩ := owns_slice ho5
    obtain ⟨S, hS⟩ : ∃ S, msS p es = S := ⟨_, rfl⟩
    rw [hS] at ho5 HO
    simp only [hS]
    have rr5 := rowIs_below rr hb5 rr.lt
    obtain ⟨⟨r0, r1, r2⟩, z0, z1, z2⟩ := poly3 rr5
    obtain ⟨a0, a1, a2, a3, a4⟩ := fill_box rr5 ho5 hbW.size (hbW.trans (hb5.mono hbW.size)) (Nat.le_refl _) p es.length
    have A0 := Lib.hid a0
    have A1 := Lib.hid a1
    have A2 := Lib.hid a2
    have A3 := Lib.hid a3
    have A4 := Lib.hid a4
    clear a0 a1 a2 a3 a4 ho5 rr5 rr hb5 HC hS
    go_wp2_with fail
    exact bodyPost_ret (v := .tuple #[.agg #[.int .i64 p, .int .i64 es.length, .slice sa S.length sc], .int .i64 0]) (by simp [results, Try.results37, go_sem, A0.out, A1.out, A2.out]) rfl (by rw [HO.out]; exact ⟨_, rfl, A3.out, A4.out⟩)
  · have HO := Lib.hid (smO_big hB hs)
    have hc12 : 12 < capd es.sum := by unfold capd; rw [if_neg hs]; omega
    obtain ⟨C, hC⟩ : ∃ C, capd es.sum = C := ⟨_, rfl⟩
    rw [hC] at hc12 H3
    clear hp hd ha hE hEW hB hnn hs hdd hC
    obtain ⟨⟨r0, r1, r2⟩, z0, z1, z2⟩ := poly3 rr
    obtain ⟨a0, a1, a2, a3, a4⟩ := fill_box (w := w) rr (ownP_nil _ w.heap.size) (Nat.le_refl _) hbW (by omega) 0 0
    have A0 := Lib.hid a0
    have A1 := Lib.hid a1
    have A2 := Lib.hid a2
    have A3 := Lib.hid a3
    have A4 := Lib.hid a4
    clear a0 a1 a2 a3 a4
    go_enter Try.func37, Try.ntmps37
    go_wp2_with fail
    rw [← hW]
    clear hW
    ((with_reducible refine (H0.out _).mono ?_); rintro e w0 ⟨rfl, hw0⟩; subst hw0)
    go_wp2_with fail
    ((with_reducible refine (H1.out _).mono ?_); rintro e w0 ⟨rfl, hw0⟩; subst hw0)
    go_wp2_with fail
    ((with_reducible refine (H2.out ()).mono ?_); rintro e w0 ⟨rfl, hw0⟩; subst hw0)
    go_wp2_with fail
    ((with_reducible refine (H3.out ()).mono ?_); rintro e w0 ⟨rfl, hw0⟩; subst hw0)
    go_wp2_with fail
    exact bodyPost_ret (v := .tuple #[.agg #[.int .i64 0, .int .i64 0, .slice none 0 0], .int .i64 3]) (by simp [results, Try.results37, go_sem, A0.out, A1.out, A2.out]) rfl (by rw [HO.out]; exact ⟨_, rfl, A3.out, A4.out⟩)

theorem cap_step {l : List Int} (hp : ∀ x ∈ l, 0 ≤ x) {k : Nat} (hk : k < l.length) {T : Int} (h : T = min (l.take k).sum 100) : min (T + min l[k] 100) 100 = min (l.take (k + 1)).sum 100 := by
  rw [sumS_step l k hk, h]
  have h1 := sumS_pos (l.take k) fun x hx => hp x (List.mem_of_mem_take hx)
  have h2 := hp _ (List.getElem_mem hk)
  omega
theorem ng_before {l : List Int} {k : Nat} (hk : k < l.length) (h : l[k] < 0) : l.all ngB = false := by
  rw [List.all_eq_false]
  exact ⟨_, List.getElem_mem hk, by simp [ngB]; omega⟩
theorem ng_upto {l : List Int} (h : ∀ (j : Nat) (hj : j < l.length), 0 ≤ l[j]) : l.all ngB = true := by
  rw [List.all_eq_true]
  intro x hx
  obtain ⟨j, hj, rfl⟩ := List.getElem_of_mem hx
  simpa [ngB] using h j hj
/-- The sums so far are of numbers of at least 0. -/
structure MsI (l : List Int) (k : Nat) (T : Int) : Prop where
  pos : ∀ (j : Nat) (hj : j < l.length), j < k → 0 ≤ l[j]
  sum : T = min (l.take k).sum 100
theorem MsI.step {l : List Int} {k : Nat} {T : Int} (h : MsI l k T) (hk : k < l.length) (h0 : 0 ≤ l[k]) : MsI l (k + 1) (min (T + min l[k] 100) 100) := by
  refine ⟨fun j hj hjk => ?_, ?_⟩
  · by_cases e : j = k
    · subst e; exact h0
    · exact h.pos j hj (by omega)
  · rw [sumS_step l k hk, h.sum]
    have h1 := sumS_pos (l.take k) fun x hx => by
      obtain ⟨j, hj, rfl⟩ := List.getElem_of_mem hx
      rw [List.length_take] at hj
      rw [List.getElem_take]
      exact h.pos j (by omega) (by omega)
    omega
set_option maxRecDepth 8000 in
set_option maxHeartbeats 8000000 in
theorem sms (p : Int) (ve : Value) (es : List Int) (w : World) (hle : es.length ≤ 1048576) (hE : Sl w ve es) :
    Calls Try.prog 35 #[.int .i64 p, ve] w (ResO w (smO p es)) := by
  obtain ⟨ea, ec, rfl, hcs⟩ := id hE
  obtain ⟨W, hW, hbW, ⟨hWs1, hWs2⟩, rr⟩ := newbox w 0 0 (.slice none 0 0)
  have hEW := hE.below hbW
  cases hs : (primeB p && (decide (1 ≤ (es.length : Int)) && decide ((es.length : Int) ≤ 3)))
  · have HO : Hid (smO p es = noP 2) := Lib.hid (smO_no (by unfold smB; rw [hs]; rfl))
    have H0 := Lib.hid (fun w' => sshape p es.length false hs w')
    clear hs hE hEW hcs
    obtain ⟨⟨r0, r1, r2⟩, z0, z1, z2⟩ := poly3 rr
    obtain ⟨a0, a1, a2, a3, a4⟩ := fill_box (w := w) rr (ownP_nil _ w.heap.size) (Nat.le_refl _) hbW (by omega) 0 0
    have A0 := Lib.hid a0
    have A1 := Lib.hid a1
    have A2 := Lib.hid a2
    have A3 := Lib.hid a3
    have A4 := Lib.hid a4
    clear a0 a1 a2 a3 a4
    go_enter Try.func35, Try.ntmps35
    go_wp2_with fail
    rw [← hW]
    clear hW
    ((with_reducible refine (H0.out _).mono ?_); rintro e w0 ⟨rfl, rfl⟩)
    go_wp2_with fail
    exact bodyPost_ret (v := .tuple #[.agg #[.int .i64 0, .int .i64 0, .slice none 0 0], .int .i64 2]) (by simp [results, Try.results35, go_sem, A0.out, A1.out, A2.out]) rfl (by rw [HO.out]; exact ⟨_, rfl, A3.out, A4.out⟩)
  have H0 := Lib.hid (fun w' => sshape p es.length true hs w')
  have hdd : 1 ≤ es.length ∧ es.length ≤ 3 := by
    simp only [Bool.and_eq_true, decide_eq_true_eq] at hs
    omega
  have hp : primeB p = true := by simp only [Bool.and_eq_true] at hs; exact hs.1
  obtain ⟨hp2, hp13⟩ := prime_bc hp
  have HS := Lib.hid hs
  obtain ⟨b, off, rfl, hbb, hT⟩ : ∃ b off, ea = some ⟨b, off, none⟩ ∧ b < w.heap.size ∧ Cs w b off es := by
    rcases hcs with rfl | h
    · simp at hdd
    · exact h
  have hTW : Cs W b off es := fun k hk => (hbW.cell (p := ⟨b, off + k, none⟩) hbb).trans (hT k hk)
  clear hs hp hcs hT
  go_enter Try.func35, Try.ntmps35
  go_wp2_with fail
  rw [← hW]
  clear hW
  ((with_reducible refine (H0.out _).mono ?_); rintro e w0 ⟨rfl, rfl⟩)
  go_wp2_with fail
  go_loop [6, 7] (fun s i => ∃ (k : Nat) (T : Int), k ≤ es.length ∧ i = .int .i64 k ∧ s = .int .i64 T ∧ Hid (MsI es k T) ∧ 0 ≤ T ∧ T ≤ 100) (fun _ i => es.length - (intOf i).toNat)
  case atStart => exact ⟨0, 0, by omega, rfl, rfl, Lib.hid ⟨fun j _ h => by omega, by simp only [List.take_zero, List.sum_nil]; omega⟩, by omega, by omega⟩
  case round =>
    obtain ⟨k, T, hk, rfl, rfl, HI, hT0, hT1⟩ := hrel
    by_cases hlt : k < es.length
    · have hlt' : (k : Int) < (es.length : Int) := by omega
      have c0 := hTW k hlt
      by_cases hneg : es[k] < 0
      · have HO : Hid (smO p es = noP 2) := Lib.hid (smO_no (by unfold smB; rw [ng_before hlt hneg]; simp))
        clear hE hEW hTW
        obtain ⟨⟨r0, r1, r2⟩, z0, z1, z2⟩ := poly3 rr
        obtain ⟨a0, a1, a2, a3, a4⟩ := fill_box (w := w) rr (ownP_nil _ w.heap.size) (Nat.le_refl _) hbW (by omega) 0 0
        have A0 := Lib.hid a0
        have A1 := Lib.hid a1
        have A2 := Lib.hid a2
        have A3 := Lib.hid a3
        have A4 := Lib.hid a4
        clear a0 a1 a2 a3 a4
        go_wp2_with fail
        exact bodyPost_ret (v := .tuple #[.agg #[.int .i64 0, .int .i64 0, .slice none 0 0], .int .i64 2]) (by simp [results, Try.results35, go_sem, A0.out, A1.out, A2.out]) rfl (by rw [HO.out]; exact ⟨_, rfl, A3.out, A4.out⟩)
      · have HN := Lib.hid (HI.out.step hlt (by omega))
        obtain ⟨x, hx⟩ : ∃ x, es[k] = x := ⟨_, rfl⟩
        rw [hx] at c0 HN hneg
        obtain ⟨y, hy⟩ : ∃ y, min x 100 = y := ⟨_, rfl⟩
        obtain ⟨z, hz⟩ : ∃ z, min (T + y) 100 = z := ⟨_, rfl⟩
        have hy1 : 0 ≤ y ∧ y ≤ 100 := by omega
        have hz1 : 0 ≤ z ∧ z ≤ 100 := by omega
        rw [hy, hz] at HN
        clear hx
        go_wp2
        go_round
        case rel => exact ⟨k + 1, z, by omega, by go_num, by first | rfl | go_num, HN, hz1.1, hz1.2⟩
        case measure => simp [intOf]; omega
    · obtain rfl : k = es.length := by omega
      have hall := ng_upto (l := es) (fun j hj => HI.out.pos j hj hj)
      have hB : smB p es = true := by unfold smB; rw [HS.out, hall]; rfl
      have hnn := ng_all hall
      have hsum := HI.out.sum
      rw [List.take_length] at hsum
      by_cases hs : es.sum ≤ 12
      · have HO := Lib.hid (smO_yes hB hs)
        have HC := Lib.hid (ssumS p _ es _ hdd hp2 hp13 (fun e he => ⟨hnn e he, by have := sumS_mem es hnn e he; omega⟩) hs hEW)
        have hc12 : ¬ (12 < T) := by omega
        clear hE hEW hTW hB hnn hs hdd hall hsum HI HS
        go_wp2_with fail
        ((with_reducible refine HC.out.mono ?_); rintro e w5 ⟨v5, rfl, ho5, hb5⟩)
        obtain ⟨sa, sc, rfl⟩ := owns_slice ho5
        obtain ⟨S, hS⟩ : ∃ S, msS p es = S := ⟨_, rfl⟩
        rw [hS] at ho5 HO
        simp only [hS]
        have rr5 := rowIs_below rr hb5 rr.lt
        obtain ⟨⟨r0, r1, r2⟩, z0, z1, z2⟩ := poly3 rr5
        obtain ⟨a0, a1, a2, a3, a4⟩ := fill_box rr5 ho5 hbW.size (hbW.trans (hb5.mono hbW.size)) (Nat.le_refl _) p es.length
        have A0 := Lib.hid a0
        have A1 := Lib.hid a1
        have A2 := Lib.hid a2
        have A3 := Lib.hid a3
        have A4 := Lib.hid a4
        clear a0 a1 a2 a3 a4 ho5 rr5 rr hb5 HC hS
        go_wp2_with fail
        exact bodyPost_ret (v := .tuple #[.agg #[.int .i64 p, .int .i64 es.length, .slice sa S.length sc], .int .i64 0]) (by simp [results, Try.results35, go_sem, A0.out, A1.out, A2.out]) rfl (by rw [HO.out]; exact ⟨_, rfl, A3.out, A4.out⟩)
      · have HO := Lib.hid (smO_big hB hs)
        have hc12 : 12 < T := by omega
        clear hE hEW hTW hB hnn hs hdd hall hsum HI HS
        obtain ⟨⟨r0, r1, r2⟩, z0, z1, z2⟩ := poly3 rr
        obtain ⟨a0, a1, a2, a3, a4⟩ := fill_box (w := w) rr (ownP_nil _ w.heap.size) (Nat.le_refl _) hbW (by omega) 0 0
        have A0 := Lib.hid a0
        have A1 := Lib.hid a1
        have A2 := Lib.hid a2
        have A3 := Lib.hid a3
        have A4 := Lib.hid a4
        clear a0 a1 a2 a3 a4
        go_wp2_with fail
        exact bodyPost_ret (v := .tuple #[.agg #[.int .i64 0, .int .i64 0, .slice none 0 0], .int .i64 3]) (by simp [results, Try.results35, go_sem, A0.out, A1.out, A2.out]) rfl (by rw [HO.out]; exact ⟨_, rfl, A3.out, A4.out⟩)
end Go.Proofs.Ytbahejlgfpilnaa
namespace Go.Proofs.Ytbahejlgfpilnaa
open Go.RowKit Go.Sort

set_option maxHeartbeats 1000000 in
theorem eqTerm_refl (x y z v : Int) (w : World) :
    Calls Try.prog 159 #[.agg #[.int .u8 x, .int .u8 y, .int .u8 z, .int .i64 v], .agg #[.int .u8 x, .int .u8 y, .int .u8 z, .int .i64 v]] w fun e w' => e = .returned (.bool true) ∧ Below w.heap.size w w' := by
  have hv : (v != v) = false := by simp
  go_enter Try.func159, Try.ntmps159
  go_wp2_with fail
  ((with_reducible refine (eqExps_refl _ _ _ _).mono ?_); rintro e w1 ⟨rfl, hb⟩)
  obtain ⟨hc, hf⟩ := old_cells hb
  have hb0 := (box2 _ _ _).trans (hb.mono (by simp; omega))
  clear hb
  go_wp2
  go_ret
  exact ⟨rfl, hb0⟩

set_option maxHeartbeats 1000000 in
theorem eqTermS_some (g o cap g' o' cap' : Nat) (ts : List Tm) (w : World) (hl : ts.length ≤ 1048576) (hg : g < w.heap.size) (hg' : g' < w.heap.size) (hT : Terms w g o ts) (hT' : Terms w g' o' ts) :
    Calls Try.prog 81 #[.slice (some ⟨g, o, none⟩) ts.length cap, .slice (some ⟨g', o', none⟩) ts.length cap'] w fun e w' => e = .returned (.bool true) ∧ Below w.heap.size w w' := by
  have hnn : ((ts.length : Int) != (ts.length : Int)) = false := by simp
  go_enter Try.func81, Try.ntmps81
  go_wp2
  go_loopw [5] (fun i wr => ∃ k : Nat, k ≤ ts.length ∧ i = .int .i64 k ∧ Below w.heap.size w wr) (fun i _ => ts.length - (intOf i).toNat)
  case atStart => exact ⟨0, by omega, rfl, Below.refl _ _⟩
  case round =>
    obtain ⟨k, hk, rfl, hbel⟩ := hrel
    by_cases hlt : k < ts.length
    · have hlt' : (k : Int) < (ts.length : Int) := by omega
      obtain ⟨a0, a1, a2, a3⟩ := (hT.below hbel hg) k hlt
      obtain ⟨b0, b1, b2, b3⟩ := (hT'.below hbel hg') k hlt
      have e0 := cell_regrown a0
      have e1 := cell_regrown a1
      have e2 := cell_regrown a2
      have e3 := cell_regrown a3
      have f0 := cell_regrown b0
      have f1 := cell_regrown b1
      have f2 := cell_regrown b2
      have f3 := cell_regrown b3
      clear a0 a1 a2 a3 b0 b1 b2 b3
      have cE : ∀ d os, Calls Try.prog 159 #[.agg #[.int .u8 ts[k].1, .int .u8 ts[k].2.1, .int .u8 ts[k].2.2.1, .int .i64 ts[k].2.2.2], .agg #[.int .u8 ts[k].1, .int .u8 ts[k].2.1, .int .u8 ts[k].2.2.1, .int .i64 ts[k].2.2.2]] (grow (redrawn wr d) os) fun e w'' => e = .returned (.bool true) ∧ ∃ p : Regrown, w'' = grow (redrawn wr p.d) p.os := fun d os => Calls.regrown_of (eqTerm_refl _ _ _ _ _)
      go_wp2
      refine wp_region_quiet_below (by kernel_rfl) (by kernel_rfl) ?_
      repeat (go_big_quiet_step (with_reducible exact cE _ _))
      refine wpQuiet_nil ?_
      intro _ hw'
      obtain ⟨⟨dq, osq⟩, hw''⟩ := hw'
      subst hw''
      go_wp2
      go_roundw
      case rel => exact ⟨k + 1, by omega, by go_num, hbel.trans ((below_regrown wr dq osq).mono hbel.size)⟩
      case measure => simp [intOf]; omega
    · obtain rfl : k = ts.length := by omega
      go_wp2
      go_ret
      exact ⟨rfl, hbel⟩

theorem eqTermS_zero (a a' : Option Addr) (c c' : Nat) (w : World) :
    Calls Try.prog 81 #[.slice a 0 c, .slice a' 0 c'] w fun e w' => e = .returned (.bool true) ∧ Below w.heap.size w w' := by
  go_enter Try.func81, Try.ntmps81
  go_wp2
  refine wp_loop_rounds 1 ?_
  rw [rounds_succ]
  go_wp2
  go_ret
  exact ⟨rfl, Below.refl _ _⟩

theorem eqTermS_same (v v' : Value) (ts : List Tm) (w : World) (hl : ts.length ≤ 1048576) (hS : SliceT w v ts) (hS' : SliceT w v' ts) :
    Calls Try.prog 81 #[v, v'] w fun e w' => e = .returned (.bool true) ∧ Below w.heap.size w w' := by
  obtain ⟨a, cap, rfl, h⟩ := hS
  obtain ⟨a', cap', rfl, h'⟩ := hS'
  cases ts with
  | nil => exact eqTermS_zero _ _ _ _ _
  | cons t r =>
    rcases h with h | ⟨b, off, rfl, hlt, hT⟩
    · cases h
    · rcases h' with h' | ⟨b', off', rfl, hlt', hT'⟩
      · cases h'
      · exact eqTermS_some b off cap b' off' cap' _ w hl hlt hlt' hT hT'

set_option maxHeartbeats 1000000 in
theorem eqPoly_same (p d : Int) (v v' : Value) (ts : List Tm) (w : World) (hl : ts.length ≤ 1048576) (hS : SliceT w v ts) (hS' : SliceT w v' ts) :
    Calls Try.prog 28 #[.agg #[.int .i64 p, .int .i64 d, v], .agg #[.int .i64 p, .int .i64 d, v']] w fun e w' => e = .returned (.bool true) ∧ Below w.heap.size w w' := by
  have hp : (p != p) = false := by simp
  have hd : (d != d) = false := by simp
  have h2 : ∀ o1 o2, SliceT ((w.alloc o1).alloc o2) v ts := fun o1 o2 => hS.below (box2 _ _ _)
  have h2' : ∀ o1 o2, SliceT ((w.alloc o1).alloc o2) v' ts := fun o1 o2 => hS'.below (box2 _ _ _)
  obtain ⟨a, cap, hv, _⟩ := id hS
  obtain ⟨a', cap', hv', _⟩ := id hS'
  subst hv hv'
  go_enter Try.func28, Try.ntmps28
  go_wp2_with fail
  ((with_reducible refine (eqTermS_same _ _ ts _ hl (h2 _ _) (h2' _ _)).mono ?_); rintro e w1 ⟨rfl, hb⟩)
  go_wp2
  go_ret
  exact ⟨rfl, (box2 _ _ _).trans (hb.mono (by simp; omega))⟩

end Go.Proofs.Ytbahejlgfpilnaa
namespace Go.Proofs.Ytbahejlgfpilnaa
open Go.RowKit Go.Sort

def sumT (t : Tm) : Int := t.1 + t.2.1 + t.2.2.1
def degI (ts : List Tm) : Int := match ts.getLast? with | none => -1 | some t => sumT t
def evenB (ts : List Tm) : Bool := match ts with | [] => true | t :: r => sumT t == degI (t :: r)

theorem chain_sum {p d : Int} : ∀ (ts : List Tm) (o : Option Tm), chain p d o ts = true → ∀ t ∈ ts, sumT t ≤ 12
  | [], _, _, t, ht => by simp at ht
  | a :: r, o, h, t, ht => by
    simp only [chain, Bool.and_eq_true] at h
    rcases List.mem_cons.1 ht with rfl | ht
    · exact termOk_sum h.1
    · exact chain_sum r _ h.2.2 t ht
theorem polyB_sum {p d : Int} {ts : List Tm} (h : isPolyB p d ts = true) : ∀ t ∈ ts, sumT t ≤ 12 := by
  simp only [isPolyB, Bool.and_eq_true] at h
  have := h.2.2
  unfold tailB at this
  exact chain_sum _ _ (by simpa using this)

set_option maxHeartbeats 1000000 in
theorem specDegree_some (p d : Int) (b off cap n : Nat) (x y z : Int) (w : World) (hn : n ≤ 1048576) (hb : b < w.heap.size) (hx : 0 ≤ x ∧ x ≤ 255) (hy : 0 ≤ y ∧ y ≤ 255) (hz : 0 ≤ z ∧ z ≤ 255)
    (c0 : w.cell? ⟨b, off + n * 4, none⟩ = some (.int .u8 x)) (c1 : w.cell? ⟨b, off + n * 4 + 1, none⟩ = some (.int .u8 y)) (c2 : w.cell? ⟨b, off + n * 4 + 2, none⟩ = some (.int .u8 z)) :
    Calls Try.prog 75 #[.agg #[.int .i64 p, .int .i64 d, .slice (some ⟨b, off, none⟩) (n + 1) cap]] w fun e w' => e = .returned (.int .i64 (x + y + z)) ∧ Below w.heap.size w w' := by
  have h0 : ((n : Int) + 1 == 0) = false := by simp; omega
  go_enter Try.func75, Try.ntmps75
  go_wp2_with fail
  ((with_reducible refine (sum_any x y z _ hx hy hz).mono ?_); rintro e w1 ⟨rfl, hb1⟩)
  go_wp2
  go_ret
  exact ⟨rfl, (box1 _ _).trans (hb1.mono (by simp))⟩

set_option maxHeartbeats 1000000 in
theorem degree_some (p d : Int) (b off cap n : Nat) (x y z : Int) (w : World) (hn : n ≤ 1048576) (hb : b < w.heap.size) (hx : 0 ≤ x ∧ x ≤ 255) (hy : 0 ≤ y ∧ y ≤ 255) (hz : 0 ≤ z ∧ z ≤ 255)
    (c0 : w.cell? ⟨b, off + n * 4, none⟩ = some (.int .u8 x)) (c1 : w.cell? ⟨b, off + n * 4 + 1, none⟩ = some (.int .u8 y)) (c2 : w.cell? ⟨b, off + n * 4 + 2, none⟩ = some (.int .u8 z)) :
    Calls Try.prog 135 #[.agg #[.int .i64 p, .int .i64 d, .slice (some ⟨b, off, none⟩) (n + 1) cap]] w fun e w' => e = .returned (.int .i64 (capd (x + y + z))) ∧ Below w.heap.size w w' := by
  have h0 : ((n : Int) + 1 == 0) = false := by simp; omega
  have k : ∀ o, (w.alloc o).cell? ⟨b, off + n * 4, none⟩ = some (.int .u8 x) ∧ (w.alloc o).cell? ⟨b, off + n * 4 + 1, none⟩ = some (.int .u8 y) ∧ (w.alloc o).cell? ⟨b, off + n * 4 + 2, none⟩ = some (.int .u8 z) := fun o =>
    ⟨((box1 w o).cell (p := ⟨b, _, none⟩) hb).trans c0, ((box1 w o).cell (p := ⟨b, _, none⟩) hb).trans c1, ((box1 w o).cell (p := ⟨b, _, none⟩) hb).trans c2⟩
  have K := Lib.hid k
  clear k
  go_enter Try.func135, Try.ntmps135
  go_wp2_with fail
  ((with_reducible refine (capped_any _ _ _ x y z _ hx hy hz (K.out _).1 (K.out _).2.1 (K.out _).2.2).mono ?_); rintro e w1 ⟨rfl, rfl⟩)
  go_wp2
  go_ret
  exact ⟨rfl, box1 _ _⟩

theorem specDegree_nil (p d : Int) (a : Option Addr) (cap : Nat) (w : World) :
    Calls Try.prog 75 #[.agg #[.int .i64 p, .int .i64 d, .slice a 0 cap]] w fun e w' => e = .returned (.int .i64 (-1)) ∧ Below w.heap.size w w' := by
  go_enter Try.func75, Try.ntmps75
  go_wp2
  go_ret
  exact ⟨rfl, box1 _ _⟩
theorem degree_nil (p d : Int) (a : Option Addr) (cap : Nat) (w : World) :
    Calls Try.prog 135 #[.agg #[.int .i64 p, .int .i64 d, .slice a 0 cap]] w fun e w' => e = .returned (.int .i64 (-1)) ∧ Below w.heap.size w w' := by
  go_enter Try.func135, Try.ntmps135
  go_wp2
  go_ret
  exact ⟨rfl, box1 _ _⟩

theorem degI_at (ts : List Tm) (n : Nat) (t : Tm) (h : ts.length = n + 1) (ht : ts[n]? = some t) : degI ts = sumT t := by
  unfold degI
  have : ts.getLast? = some t := by
    rw [List.getLast?_eq_getElem?, h]; simpa using ht
  rw [this]

theorem specDegree_any (p d : Int) (v : Value) (ts : List Tm) (w : World) (hl : ts.length ≤ 1048576) (hS : SliceT w v ts) (hby : ∀ t ∈ ts, tmByte t) :
    Calls Try.prog 75 #[.agg #[.int .i64 p, .int .i64 d, v]] w fun e w' => e = .returned (.int .i64 (degI ts)) ∧ Below w.heap.size w w' := by
  obtain ⟨a, cap, rfl, h⟩ := hS
  by_cases h0 : ts = []
  · subst h0; exact specDegree_nil p d a cap w
  · rcases h with h | ⟨b, off, rfl, hlt, hT⟩
    · exact absurd h h0
    · obtain ⟨n, hn⟩ : ∃ n, ts.length = n + 1 := ⟨ts.length - 1, by have := List.length_pos_iff.2 h0; omega⟩
      have hnl : n < ts.length := by omega
      obtain ⟨c0, c1, c2, _⟩ := hT n hnl
      obtain ⟨⟨bx, by1, bz⟩, _⟩ := hby _ (List.getElem_mem hnl)
      have hd := degI_at ts n _ hn (List.getElem?_eq_getElem hnl)
      generalize ts[n] = t at *
      rw [hd, hn]
      exact specDegree_some p d b off cap n _ _ _ w (by omega) hlt bx by1 bz c0 c1 c2
theorem degree_any2 (p d : Int) (v : Value) (ts : List Tm) (w : World) (hl : ts.length ≤ 1048576) (hS : SliceT w v ts) (hby : ∀ t ∈ ts, tmByte t) (hs : ∀ t ∈ ts, sumT t ≤ 12) :
    Calls Try.prog 135 #[.agg #[.int .i64 p, .int .i64 d, v]] w fun e w' => e = .returned (.int .i64 (degI ts)) ∧ Below w.heap.size w w' := by
  obtain ⟨a, cap, rfl, h⟩ := hS
  by_cases h0 : ts = []
  · subst h0; exact degree_nil p d a cap w
  · rcases h with h | ⟨b, off, rfl, hlt, hT⟩
    · exact absurd h h0
    · obtain ⟨n, hn⟩ : ∃ n, ts.length = n + 1 := ⟨ts.length - 1, by have := List.length_pos_iff.2 h0; omega⟩
      have hnl : n < ts.length := by omega
      obtain ⟨c0, c1, c2, _⟩ := hT n hnl
      obtain ⟨⟨bx, by1, bz⟩, _⟩ := hby _ (List.getElem_mem hnl)
      have hd := degI_at ts n _ hn (List.getElem?_eq_getElem hnl)
      have hc := hs _ (List.getElem_mem hnl)
      generalize ts[n] = t at *
      have hc' : capd (sumT t) = sumT t := by unfold capd; rw [if_pos hc]
      rw [hd, ← hc', hn]
      exact degree_some p d b off cap n _ _ _ w (by omega) hlt bx by1 bz c0 c1 c2

end Go.Proofs.Ytbahejlgfpilnaa
namespace Go.Proofs.Ytbahejlgfpilnaa
open Go.RowKit Go.Sort

/-- A polynomial: its prime, its letters, its terms. -/
abbrev Pm := Int × Int × List Tm
/-- The polynomial k of a list, in memory. -/
def PolyAt (w : World) (b o : Nat) (g : Pm) : Prop :=
  ∃ u, w.cell? ⟨b, o, none⟩ = some (.int .i64 g.1) ∧ w.cell? ⟨b, o + 1, none⟩ = some (.int .i64 g.2.1) ∧ w.cell? ⟨b, o + 2, none⟩ = some u ∧ SliceT w u g.2.2
def PolysW (w : World) (b off : Nat) (G : List Pm) : Prop := ∀ (k : Nat) (h : k < G.length), PolyAt w b (off + k * 3) G[k]
/-- A slice that reads as these polynomials. -/
def SlP (w : World) (v : Value) (G : List Pm) : Prop :=
  ∃ a cap, v = .slice a G.length cap ∧ (G = [] ∨ ∃ b off, a = some ⟨b, off, none⟩ ∧ b < w.heap.size ∧ PolysW w b off G)
theorem PolyAt.below {w w' : World} {b o : Nat} {g : Pm} (h : PolyAt w b o g) (hb : Below w.heap.size w w') (hlt : b < w.heap.size) : PolyAt w' b o g := by
  obtain ⟨u, h0, h1, h2, hS⟩ := h
  exact ⟨u, (hb.cell (p := ⟨b, _, none⟩) hlt).trans h0, (hb.cell (p := ⟨b, _, none⟩) hlt).trans h1, (hb.cell (p := ⟨b, _, none⟩) hlt).trans h2, hS.below hb⟩
theorem PolysW.below {w w' : World} {b off : Nat} {G : List Pm} (h : PolysW w b off G) (hb : Below w.heap.size w w') (hlt : b < w.heap.size) : PolysW w' b off G :=
  fun k hk => (h k hk).below hb hlt
theorem SlP.below {w w' : World} {v : Value} {G : List Pm} (h : SlP w v G) (hb : Below w.heap.size w w') : SlP w' v G := by
  obtain ⟨a, cap, hv, h | ⟨b, off, ha, hlt, hT⟩⟩ := h
  · exact ⟨a, cap, hv, .inl h⟩
  · exact ⟨a, cap, hv, .inr ⟨b, off, ha, Nat.lt_of_lt_of_le hlt hb.size, hT.below hb hlt⟩⟩
theorem SlP.at {w : World} {a : Option Addr} {n cap : Nat} {G : List Pm} (h : SlP w (.slice a n cap) G) (h0 : 0 < G.length) : ∃ b off, a = some ⟨b, off, none⟩ ∧ b < w.heap.size ∧ PolysW w b off G ∧ n = G.length := by
  obtain ⟨a', cap', hv, h | ⟨b, off, ha, hlt, hT⟩⟩ := h
  · rw [h] at h0; simp at h0
  · simp at hv
    obtain ⟨rfl, rfl, rfl⟩ := hv
    exact ⟨b, off, ha, hlt, hT, rfl⟩
/-- Numbers that fit; no list of terms is too long. -/
def PmOk (g : Pm) : Prop := (∀ t ∈ g.2.2, tmByte t) ∧ g.2.2.length ≤ 1048576
/-- A polynomial. -/
def isPm (g : Pm) : Bool := isPolyB g.1 g.2.1 g.2.2
end Go.Proofs.Ytbahejlgfpilnaa
namespace Go.Proofs.Ytbahejlgfpilnaa
open Go.RowKit Go.Sort

theorem eqPoly_r (p d : Int) (u u' : Value) (l : List Tm) (W : World) (hl : l.length ≤ 1048576) (hS : SliceT W u l) (hS' : SliceT W u' l) : ∀ dd os,
    Calls Try.prog 28 #[.agg #[.int .i64 p, .int .i64 d, u], .agg #[.int .i64 p, .int .i64 d, u']] (grow (redrawn W dd) os) fun e w'' => e = .returned (.bool true) ∧ ∃ q : Regrown, w'' = grow (redrawn W q.d) q.os := fun dd os =>
  Calls.regrown_of (eqPoly_same p d u u' l _ hl (hS.below (below_regrown W dd os)) (hS'.below (below_regrown W dd os)))

set_option maxRecDepth 8000 in
set_option maxHeartbeats 4000000 in
theorem eqpolys (v v' : Value) (G : List Pm) (w : World) (hl : G.length ≤ 1048576) (hlr : ∀ g ∈ G, g.2.2.length ≤ 1048576) (hS : SlP w v G) (hS' : SlP w v' G) :
    Calls Try.prog 19 #[v, v'] w fun e w' => e = .returned (.bool true) ∧ Below w.heap.size w w' := by
  have hnn : ((G.length : Int) != (G.length : Int)) = false := by simp
  obtain ⟨a, cap, rfl, hSc⟩ := id hS
  obtain ⟨a', cap', rfl, hSc'⟩ := id hS'
  go_enter Try.func19, Try.ntmps19
  go_wp2_with fail
  go_loopw [5] (fun i wr => ∃ k : Nat, k ≤ G.length ∧ i = .int .i64 k ∧ Below w.heap.size w wr) (fun i _ => G.length - (intOf i).toNat)
  case atStart => exact ⟨0, by omega, rfl, Below.refl _ _⟩
  case round =>
    obtain ⟨k, hk, rfl, hbel⟩ := hrel
    by_cases hlt : k < G.length
    · have hlt' : (k : Int) < (G.length : Int) := by omega
      obtain ⟨b, off, rfl, hbb, hT⟩ : ∃ b off, a = some ⟨b, off, none⟩ ∧ b < w.heap.size ∧ PolysW w b off G := by
        rcases hSc with rfl | h
        · simp at hlt
        · exact h
      obtain ⟨b', off', rfl, hbb', hT'⟩ : ∃ b off, a' = some ⟨b, off, none⟩ ∧ b < w.heap.size ∧ PolysW w b off G := by
        rcases hSc' with rfl | h
        · simp at hlt
        · exact h
      obtain ⟨u, c0, c1, c2, s0⟩ := (hT.below hbel hbb) k hlt
      obtain ⟨u', c3, c4, c5, s1⟩ := (hT'.below hbel hbb') k hlt
      have kE := eqPoly_r G[k].1 G[k].2.1 u u' G[k].2.2 wr (hlr _ (List.getElem_mem hlt)) s0 s1
      clear s0 s1
      have e0 := cell_regrown c0
      have e1 := cell_regrown c1
      have e2 := cell_regrown c2
      have e3 := cell_regrown c3
      have e4 := cell_regrown c4
      have e5 := cell_regrown c5
      clear c0 c1 c2 c3 c4 c5
      go_wp2_with fail
      refine wp_region_quiet_below (by kernel_rfl) (by kernel_rfl) ?_
      repeat (go_big_quiet_step (with_reducible exact kE _ _))
      refine wpQuiet_nil ?_
      intro _ hw'
      obtain ⟨⟨dq, osq⟩, hw''⟩ := hw'
      subst hw''
      have hb2 := hbel.trans ((below_regrown wr dq osq).mono hbel.size)
      generalize grow (redrawn wr dq) osq = V at *
      clear e0 e1 e2 e3 e4 e5 kE
      go_wp2_with fail
      go_roundw
      case rel => exact ⟨k + 1, by omega, by go_num, hb2⟩
      case measure => simp [intOf]; omega
    · obtain rfl : k = G.length := by omega
      go_wp2_with fail
      go_ret
      exact ⟨rfl, hbel⟩
end Go.Proofs.Ytbahejlgfpilnaa
namespace Go.Proofs.Ytbahejlgfpilnaa
open Go.RowKit Go.Sort

/-- All terms of a list of polynomials. -/
def totP (G : List Pm) : Nat := (G.map (·.2.2.length)).sum
theorem totP_take {G : List Pm} {k : Nat} (h : k < G.length) : totP (G.take (k + 1)) = totP (G.take k) + G[k].2.2.length := by
  unfold totP
  rw [List.take_succ_eq_append_getElem h, List.map_append, List.sum_append]
  simp
theorem totP_le (G : List Pm) (k : Nat) : totP (G.take k) ≤ totP G := by
  have h : totP G = totP (G.take k) + totP (G.drop k) := by
    unfold totP
    rw [← List.sum_append, ← List.map_append, List.take_append_drop]
  omega
theorem totP_of {G : List Pm} {g : Pm} (h : g ∈ G) : g.2.2.length ≤ totP G := by
  obtain ⟨k, hk, rfl⟩ := List.mem_iff_getElem.1 h
  have h1 := totP_take hk
  have h2 := totP_le G (k + 1)
  omega
theorem leftOf_lt {left : Int} {n : Nat} (h : left - n < 0) : leftOf left n = -1 := if_pos h
theorem leftOf_ge {left : Int} {n : Nat} (h : ¬ left - n < 0) : leftOf left n = left - n := if_neg h

set_option maxHeartbeats 2000000 in
theorem szpolys (v : Value) (G : List Pm) (left : Int) (w : World) (h0 : 0 ≤ left) (h1 : left ≤ 1048576) (hl : G.length ≤ 9223372036854775807) (hlr : ∀ g ∈ G, g.2.2.length ≤ 9223372036854775807) (hS : SlP w v G) :
    Calls Try.prog 14 #[v, .int .i64 left] w fun e w' => e = .returned (.int .i64 (leftOf left (G.length + totP G))) ∧ Below w.heap.size w w' := by
  obtain ⟨a, cap, rfl, hc⟩ := hS
  by_cases h : left < G.length
  · have h' : left - (G.length : Int) < 0 := by omega
    go_enter Try.func14, Try.ntmps14
    go_wp2
    go_ret
    exact ⟨by rw [leftOf_lt (by omega)]; rfl, .refl _ _⟩
  · have h' : ¬ left - (G.length : Int) < 0 := by omega
    go_enter Try.func14, Try.ntmps14
    go_wp2
    go_loopw [1, 5] (fun m i wr => ∃ k : Nat, k ≤ G.length ∧ i = .int .i64 k ∧ Below w.heap.size w wr ∧ ∃ q : Int, m = .int .i64 q ∧ q = left - G.length - totP (G.take k) ∧ 0 ≤ q ∧ q ≤ 1048576) (fun _ i _ => G.length - (intOf i).toNat)
    case atStart => exact ⟨0, by omega, rfl, .refl _ _, _, rfl, by simp [totP], by omega, by omega⟩
    case round =>
      obtain ⟨k, hk, rfl, hbel, q, rfl, hq, hq0, hq1⟩ := hrel
      by_cases hlt : k < G.length
      · have hlt' : (k : Int) < (G.length : Int) := by omega
        obtain ⟨b, off, rfl, hbb, hT⟩ : ∃ b off, a = some ⟨b, off, none⟩ ∧ b < w.heap.size ∧ PolysW w b off G := by
          rcases hc with rfl | h
          · simp at hlt
          · exact h
        obtain ⟨u, c0, c1, c2, s0⟩ := (hT.below hbel hbb) k hlt
        have hrl := hlr _ (List.getElem_mem hlt)
        have HT := Lib.hid (totP_take hlt)
        have HL := Lib.hid (totP_le G (k + 1))
        have HQ := Lib.hid hq
        clear hq
        go_wp2_with fail
        ((with_reducible refine (szPoly_any _ _ q u G[k].2.2 _ hrl hq0 hq1 s0).mono ?_); rintro e w1 ⟨rfl, hb1⟩)
        have hbel1 := hbel.trans (hb1.mono hbel.size)
        by_cases hneg : q - G[k].2.2.length < 0
        · rw [leftOf_lt hneg]
          have HN : Hid (left - ((G.length + totP G : Nat) : Int) < 0) := Lib.hid (by
            have h1 := HT.out
            have h2 := HL.out
            have h3 := HQ.out
            omega)
          clear hneg
          go_wp2_with fail
          go_ret
          exact ⟨by rw [leftOf_lt HN.out]; rfl, hbel1⟩
        · rw [leftOf_ge hneg]
          obtain ⟨q2, hq2⟩ : ∃ q2, q - (G[k].2.2.length : Int) = q2 := ⟨_, rfl⟩
          have hq20 : 0 ≤ q2 := by omega
          have hq21 : q2 ≤ 1048576 := by omega
          have hq22 : ¬ q2 < 0 := by omega
          have HN : Hid (q2 = left - G.length - totP (G.take (k + 1))) := Lib.hid (by
            have h1 := HT.out
            have h3 := HQ.out
            omega)
          rw [hq2]
          clear hneg hq2
          go_wp2_with fail
          go_roundw
          case rel => exact ⟨k + 1, by omega, by go_num, hbel1, q2, rfl, HN.out, hq20, hq21⟩
          case measure => simp [intOf]; omega
      · obtain rfl : k = G.length := by omega
        rw [List.take_length] at hq
        have HQ := Lib.hid hq
        clear hq
        go_wp2_with fail
        go_ret
        have h3 := HQ.out
        exact ⟨by rw [leftOf_ge (by omega)]; simp only [Int.natCast_add]; rw [← Int.sub_sub, ← h3]; rfl, hbel⟩
end Go.Proofs.Ytbahejlgfpilnaa
namespace Go.Proofs.Ytbahejlgfpilnaa
open Go.RowKit Go.Sort


end Go.Proofs.Ytbahejlgfpilnaa
namespace Go.Proofs.Ytbahejlgfpilnaa
open Go.RowKit Go.Sort

set_option maxHeartbeats 1000000 in
theorem heldT_any (g n cap : Nat) (k0 : Int) (w : World) (hc : ∀ j, j < n * 4 → w.cell? ⟨g, j, none⟩ = some (markT k0 j)) (hn : n ≤ 1048576) (h0 : 0 ≤ k0) (h1 : k0 ≤ 1000000000) :
    Calls Try.prog 82 #[.slice (some ⟨g, 0, none⟩) n cap, .int .i64 k0] w fun e w' => e = .returned (.int .i64 (k0 + 4 * n)) ∧ w = w' := by
  go_enter Try.func82, Try.ntmps82
  go_wp2
  go_loop [1, 5] (fun m i => ∃ k : Nat, k ≤ n ∧ i = .int .i64 k ∧ m = .int .i64 (k0 + 4 * k)) (fun _ i => n - (intOf i).toNat)
  case atStart => exact ⟨0, by omega, rfl, by simp⟩
  case round =>
    obtain ⟨k, hk, rfl, rfl⟩ := hrel
    by_cases hlt : k < n
    · have hlt' : (k : Int) < (n : Int) := by omega
      go_wp2
      go_loop [1, 6] (fun m i => ∃ t : Nat, t ≤ 3 ∧ i = .int .i64 t ∧ m = .int .i64 (k0 + 4 * k + t)) (fun _ i => 3 - (intOf i).toNat)
      case atStart => exact ⟨0, by omega, rfl, by simp⟩
      case round =>
        obtain ⟨t, ht, rfl, rfl⟩ := hrel
        by_cases hlt2 : t < 3
        · have hlt2' : (t : Int) < 3 := by omega
          have hcell : w.cell? ⟨g, k * 4 + t, none⟩ = some (.int .u8 ((k0 + 4 * ↑k + ↑t) % 256)) := by
            rw [hc _ (by omega)]; unfold markT; rw [if_neg (by omega)]; congr 2; omega
          have hne : ((k0 + 4 * (k : Int) + t) % 256 != (k0 + 4 * (k : Int) + t) % 256) = false := by simp
          go_wp2
          go_round
          case rel => exact ⟨t + 1, by omega, by go_num, by go_num⟩
          case measure => simp [intOf]; omega
        · obtain rfl : t = 3 := by omega
          have hcell : w.cell? ⟨g, k * 4 + 3, none⟩ = some (.int .i64 (k0 + 4 * ↑k + 3)) := by
            rw [hc _ (by omega)]; unfold markT; rw [if_pos (by omega)]; congr 2; omega
          have hne : ((k0 + 4 * (k : Int) + 3) != (k0 + 4 * (k : Int) + 3)) = false := by simp
          go_wp2
          go_round
          case rel => exact ⟨k + 1, by omega, by go_num, by go_num⟩
          case measure => simp [intOf]; omega
    · obtain rfl : k = n := by omega
      go_wp2
      go_ret
      exact ⟨rfl, rfl⟩
end Go.Proofs.Ytbahejlgfpilnaa
namespace Go.Proofs.Ytbahejlgfpilnaa
open Go.RowKit Go.Sort

theorem heldT_zero (a : Option Addr) (c : Nat) (k0 : Int) (w : World) :
    Calls Try.prog 82 #[.slice a 0 c, .int .i64 k0] w fun e w' => e = .returned (.int .i64 k0) ∧ w = w' := by
  go_enter Try.func82, Try.ntmps82
  go_wp2
  refine wp_loop_rounds 1 ?_
  rw [rounds_succ]
  go_wp2
  go_ret
  exact ⟨rfl, rfl⟩

theorem heldS_marks {v : Value} {n : Nat} {k0 : Int} (w : World) (h : MarksT w v n k0) (hn : n ≤ 1048576) (h0 : 0 ≤ k0) (h1 : k0 ≤ 1000000000) :
    Calls Try.prog 82 #[v, .int .i64 k0] w fun e w' => e = .returned (.int .i64 (k0 + 4 * n)) ∧ w = w' := by
  rcases h with ⟨rfl, rfl⟩ | ⟨g, cap, rfl, _, hc⟩
  · exact (heldT_zero none 0 k0 w).mono fun e w' ⟨he, hw⟩ => ⟨by rw [he]; simp, hw⟩
  · exact heldT_any g n cap k0 w hc hn h0 h1

set_option maxHeartbeats 1000000 in
theorem heldPoly_marks {v : Value} {n : Nat} (p d k0 : Int) (w : World) (h : MarksT w v n k0) (hn : n ≤ 1048576) (h0 : 0 ≤ k0) (h1 : k0 ≤ 1000000000) :
    Calls Try.prog 30 #[.agg #[.int .i64 p, .int .i64 d, v], .int .i64 k0] w fun e w' => e = .returned (.int .i64 (k0 + 4 * n)) ∧ Below w.heap.size w w' := by
  have hO : ∀ o, MarksT (w.alloc o) v n k0 := fun o => h.below (box1 _ _)
  obtain ⟨a, m, c, hv⟩ : ∃ a m c, v = .slice a m c := by
    rcases h with ⟨rfl, _⟩ | ⟨g, cap, rfl, _⟩
    · exact ⟨_, _, _, rfl⟩
    · exact ⟨_, _, _, rfl⟩
  subst hv
  have hq : ¬ k0 + 4 * (n : Int) < 0 := by omega
  go_enter Try.func30, Try.ntmps30
  go_wp2_with fail
  ((with_reducible refine (heldS_marks _ (hO _) hn h0 h1).mono ?_); rintro e w1 ⟨rfl, rfl⟩)
  go_wp2
  go_ret
  exact ⟨rfl, box1 _ _⟩
end Go.Proofs.Ytbahejlgfpilnaa
namespace Go.Proofs.Ytbahejlgfpilnaa
open Go.RowKit Go.Sort

theorem infoPolyQ : (Try.prog.info? 42).map (fun i => (i.zero, i.size, i.bytes)) = some (some (.agg #[.int .i64 0, .int .i64 0, .slice none 0 0]), 3, 40) := by kernel_rfl
def madeQ (n : Nat) : Array Value := madeCells (Value.agg #[.int .i64 0, .int .i64 0, .slice none 0 0]).cells (n * 3)
theorem madeQ_row (w : World) (n : Nat) (t : TypeId) : (w.alloc (.cells (madeQ n) t)).rowIs w.heap.size t (n * 3) (fun i => (madeQ n).getD i undef) := by
  have hs : (madeQ n).size = n * 3 := by simp [madeQ, madeCells]
  refine ⟨madeQ n, heap_alloc_new w _, hs, fun i hi => ?_⟩
  simp [Array.getD, hs, hi]
/-- A block that holds these terms. -/
def TermB (w : World) (b : Nat) (ts : List Tm) : Prop := ∃ f, w.rowIs b 151 (ts.length * 4) f ∧ rowT ts ts.length f
/-- A slice header of terms. -/
abbrev tv (b : Nat) (ts : List Tm) : Value := .slice (some ⟨b, 0, none⟩) ts.length ts.length
theorem TermB.below {w w' : World} {b : Nat} {ts : List Tm} (h : TermB w b ts) (hb : Below w.heap.size w w') : TermB w' b ts := by
  obtain ⟨f, hr, ht⟩ := h
  exact ⟨f, rowIs_below hr hb hr.lt, ht⟩
theorem TermB.lt {w : World} {b : Nat} {ts : List Tm} (h : TermB w b ts) : b < w.heap.size := by
  obtain ⟨f, hr, _⟩ := h
  exact hr.lt
theorem TermB.block {w w' : World} {b : Nat} {ts : List Tm} (h : TermB w b ts) (hb : w'.heap[b]? = w.heap[b]?) : TermB w' b ts := by
  obtain ⟨f, hr, ht⟩ := h
  exact ⟨f, hr.of_block hb, ht⟩
theorem TermB.slice {w : World} {b : Nat} {ts : List Tm} (h : TermB w b ts) : SliceT w (tv b ts) ts := by
  obtain ⟨f, hr, ht⟩ := h
  exact OwnT.slice (base := 0) ⟨b, f, rfl, Nat.zero_le _, hr, ht⟩
/-- The first k polynomials of a list of the call's own: their terms in blocks B 0 < B 1 < .. behind the list's own block. -/
structure PolsW (w : World) (gb : Nat) (G : List Pm) (k : Nat) (F : Nat → Value) (B : Nat → Nat) : Prop where
  row : w.rowIs gb 42 (G.length * 3) F
  at' : ∀ (q : Nat) (h : q < G.length), q < k → F (q * 3) = .int .i64 G[q].1 ∧ F (q * 3 + 1) = .int .i64 G[q].2.1 ∧ F (q * 3 + 2) = tv (B q) G[q].2.2 ∧ gb < B q ∧ TermB w (B q) G[q].2.2
  asc : ∀ q r, q < r → r < k → B q < B r
theorem PolsW.below {w w' : World} {gb : Nat} {G : List Pm} {k : Nat} {F : Nat → Value} {B : Nat → Nat} (h : PolsW w gb G k F B) (hb : Below w.heap.size w w') : PolsW w' gb G k F B :=
  ⟨rowIs_below h.row hb h.row.lt, fun q hq hk => by
    obtain ⟨a, b, c, d, e⟩ := h.at' q hq hk
    exact ⟨a, b, c, d, e.below hb⟩, h.asc⟩
theorem PolsW.put {w : World} {gb : Nat} {G : List Pm} {k : Nat} {F : Nat → Value} {B : Nat → Nat} (h : PolsW w gb G k F B) (hk : k < G.length) {b : Nat} (hT : TermB w b G[k].2.2) (hg : gb < b) (hB : ∀ q, q < k → B q < b) :
    ∃ F' B', PolsW (((w.setCell ⟨gb, k * 3, none⟩ (.int .i64 G[k].1)).setCell ⟨gb, k * 3 + 1, none⟩ (.int .i64 G[k].2.1)).setCell ⟨gb, k * 3 + 2, none⟩ (tv b G[k].2.2)) gb G (k + 1) F' B' := by
  have hT' : ∀ (b' : Nat) (ts : List Tm), gb < b' → TermB w b' ts → TermB (((w.setCell ⟨gb, k * 3, none⟩ (.int .i64 G[k].1)).setCell ⟨gb, k * 3 + 1, none⟩ (.int .i64 G[k].2.1)).setCell ⟨gb, k * 3 + 2, none⟩ (tv b G[k].2.2)) b' ts := fun b' ts hb' hh => hh.block (by
    rw [Below.heap_setCell _ ⟨gb, k * 3 + 2, none⟩ _ b' (by simp; omega), Below.heap_setCell _ ⟨gb, k * 3 + 1, none⟩ _ b' (by simp; omega), Below.heap_setCell _ ⟨gb, k * 3, none⟩ _ b' (by simp; omega)])
  refine ⟨_, fun q => if q = k then b else B q, ((h.row.set (k * 3) (.int .i64 G[k].1)).set (k * 3 + 1) (.int .i64 G[k].2.1)).set (k * 3 + 2) (tv b G[k].2.2), fun q hq hqk => ?_, fun q r hqr hr => ?_⟩
  · by_cases e : q = k
    · subst e
      refine ⟨?_, ?_, ?_, ?_, ?_⟩
      · simp only [if_neg (show ¬ q * 3 = q * 3 + 2 by omega), if_neg (show ¬ q * 3 = q * 3 + 1 by omega), if_true]
      · simp only [if_neg (show ¬ q * 3 + 1 = q * 3 + 2 by omega), if_true]
      · simp only [if_true]
      · simp only [if_true]; exact hg
      · simp only [if_true]; exact hT' _ _ hg hT
    · obtain ⟨a1, a2, a3, a4, a5⟩ := h.at' q hq (by omega)
      refine ⟨?_, ?_, ?_, ?_, ?_⟩
      · simp only [if_neg (show ¬ q * 3 = k * 3 + 2 by omega), if_neg (show ¬ q * 3 = k * 3 + 1 by omega), if_neg (show ¬ q * 3 = k * 3 by omega)]; exact a1
      · simp only [if_neg (show ¬ q * 3 + 1 = k * 3 + 2 by omega), if_neg (show ¬ q * 3 + 1 = k * 3 + 1 by omega), if_neg (show ¬ q * 3 + 1 = k * 3 by omega)]; exact a2
      · simp only [if_neg (show ¬ q * 3 + 2 = k * 3 + 2 by omega), if_neg (show ¬ q * 3 + 2 = k * 3 + 1 by omega), if_neg (show ¬ q * 3 + 2 = k * 3 by omega), if_neg e]; exact a3
      · simp only [if_neg e]; exact a4
      · simp only [if_neg e]; exact hT' _ _ a4 a5
  · by_cases e : r = k
    · subst e
      simp only [if_true, if_neg (show ¬ q = r by omega)]
      exact hB q hqr
    · simp only [if_neg e, if_neg (show ¬ q = k by omega)]
      exact h.asc q r hqr (by omega)
/-- A list of polynomials of the call's own. -/
def OwnPs (w : World) (base : Nat) (v : Value) (G : List Pm) : Prop :=
  ∃ gb F B, v = .slice (some ⟨gb, 0, none⟩) G.length G.length ∧ base ≤ gb ∧ PolsW w gb G G.length F B
theorem OwnPs.below {w w' : World} {base : Nat} {v : Value} {G : List Pm} (h : OwnPs w base v G) (hb : Below w.heap.size w w') : OwnPs w' base v G := by
  obtain ⟨gb, F, B, hv, hg, hW⟩ := h
  exact ⟨gb, F, B, hv, hg, hW.below hb⟩
theorem OwnPs.slP {w : World} {base : Nat} {v : Value} {G : List Pm} (h : OwnPs w base v G) : SlP w v G := by
  obtain ⟨gb, F, B, hv, hg, hW⟩ := h
  refine ⟨_, _, hv, .inr ⟨gb, 0, rfl, hW.row.lt, fun k hk => ?_⟩⟩
  obtain ⟨a, b, c, d, e⟩ := hW.at' k hk hk
  refine ⟨tv (B k) G[k].2.2, ?_, ?_, ?_, e.slice⟩
  · rw [Nat.zero_add, hW.row.cell (by omega), a]
  · rw [Nat.zero_add, hW.row.cell (by omega), b]
  · rw [Nat.zero_add, hW.row.cell (by omega), c]

set_option maxRecDepth 8000 in
set_option maxHeartbeats 4000000 in
theorem topolys (v : Value) (G : List Pm) (w : World) (hl : G.length ≤ 1048576) (hlr : ∀ g ∈ G, g.2.2.length ≤ 1048576) (hS : SlP w v G) :
    Calls Try.prog 16 #[v] w fun e w' => ∃ v', e = .returned v' ∧ OwnPs w' w.heap.size v' G ∧ Below w.heap.size w w' := by
  obtain ⟨i0, hi, hz0, hz1, hz2⟩ := info_parts infoPolyQ
  obtain ⟨a, cap, rfl, hc⟩ := hS
  have hmk : ∀ w, (Instr.makeSlice 27 (.int .i64 (G.length : Int)) (.int .i64 (G.length : Int))).run Try.prog w = .ok (.slice (some ⟨w.heap.size, 0, none⟩) G.length G.length) (w.alloc (.cells (madeQ G.length) 42)) := fun w => by
    have h := run_make (P := Try.prog) w 27 42 i0 _ Try.underlying27 hi hz0 .i64 .i64 (G.length : Int) (G.length : Int) (by omega) (by omega) (by rw [hz2]; omega) (by omega)
    rw [hz1] at h
    simpa [madeQ, Value.cells] using h
  clear hi hz0 hz1 hz2
  have hr0 := madeQ_row w G.length 42
  have HR0 : Hid (PolsW (w.alloc (.cells (madeQ G.length) 42)) w.heap.size G 0 (fun i => (madeQ G.length).getD i undef) (fun _ => 0)) := Lib.hid ⟨hr0, fun q _ h => by omega, fun q r _ h => by omega⟩
  clear hr0
  go_enter Try.func16, Try.ntmps16
  go_wp2
  go_loopw [4] (fun i wr => ∃ k : Nat, k ≤ G.length ∧ i = .int .i64 k ∧ Below w.heap.size w wr ∧ ∃ F B, PolsW wr w.heap.size G k F B) (fun i _ => G.length - (intOf i).toNat)
  case atStart => exact ⟨0, by omega, rfl, box1 _ _, _, _, HR0.out⟩
  case round =>
    clear HR0 hmk
    obtain ⟨k, hk, rfl, hbel, F, B, hP⟩ := hrel
    by_cases hlt : k < G.length
    · have hlt' : (k : Int) < (G.length : Int) := by omega
      obtain ⟨b, off, rfl, hbb, hT⟩ : ∃ b off, a = some ⟨b, off, none⟩ ∧ b < w.heap.size ∧ PolysW w b off G := by
        rcases hc with rfl | h
        · simp at hlt
        · exact h
      obtain ⟨u, c0, c1, c2, s0⟩ := (hT.below hbel hbb) k hlt
      have HL := Lib.hid (hlr _ (List.getElem_mem hlt))
      go_wp2_with fail
      ((with_reducible refine (toPoly_any _ _ u G[k].2.2 _ HL.out s0).mono ?_); rintro e w3 ⟨v3, rfl, ho, hb3⟩)
      obtain ⟨g, f3, rfl, hg, hr3, hf3⟩ := ho
      have hP3 := hP.below hb3
      have f0 := hP3.row.frozen (k * 3)
      have f1 := hP3.row.frozen (k * 3 + 1)
      have f2 := hP3.row.frozen (k * 3 + 2)
      have d0 := hP3.row.cell (i := k * 3) (by omega)
      have d1 := hP3.row.cell (i := k * 3 + 1) (by omega)
      have d2 := hP3.row.cell (i := k * 3 + 2) (by omega)
      have hbel3 := hbel.trans (hb3.mono hbel.size)
      have hgw := hP.row.lt
      have HPN := Lib.hid (hP3.put hlt ⟨f3, hr3, hf3⟩ (by omega) (fun q hq => Nat.lt_of_lt_of_le (hP.at' q (by omega) hq).2.2.2.2.lt hg))
      have hb4 := ((hbel3.setCell (p := ⟨w.heap.size, k * 3, none⟩) (Nat.le_refl _) (.int .i64 G[k].1)).setCell (p := ⟨w.heap.size, k * 3 + 1, none⟩) (Nat.le_refl _) (.int .i64 G[k].2.1)).setCell (p := ⟨w.heap.size, k * 3 + 2, none⟩) (Nat.le_refl _) (tv g G[k].2.2)
      clear hP hP3 hb3 hr3 hf3 hbel c0 c1 c2 s0
      go_wp2_with fail
      go_roundw
      case rel => exact ⟨k + 1, by omega, by go_num, hb4, HPN.out⟩
      case measure => simp [intOf]; omega
    · obtain rfl : k = G.length := by omega
      go_wp2_with fail
      go_ret
      exact ⟨_, rfl, ⟨w.heap.size, F, B, rfl, Nat.le_refl _, hP⟩, hbel⟩
end Go.Proofs.Ytbahejlgfpilnaa
namespace Go.Proofs.Ytbahejlgfpilnaa
open Go.RowKit Go.Sort

/-- Blocks from lo on and below hi may have changed, and new ones come; no other. -/
structure GrewI (lo hi : Nat) (w w' : World) : Prop where
  os : w'.os = w.os
  tape : w'.tape = w.tape
  output : w'.output = w.output
  size : w.heap.size ≤ w'.heap.size
  block : ∀ k, k < w.heap.size → (k < lo ∨ hi ≤ k) → w'.heap[k]? = w.heap[k]?
theorem GrewI.refl (lo hi : Nat) (w : World) : GrewI lo hi w w := ⟨rfl, rfl, rfl, Nat.le_refl _, fun _ _ _ => rfl⟩
theorem GrewI.step {lo hi : Nat} {w w' w'' : World} {b : Nat} (h : GrewI lo hi w w') (h1 : lo ≤ b) (h2 : b < hi) (hg : w'.grownBy w'' (some b)) : GrewI lo hi w w'' :=
  ⟨hg.os.trans h.os, hg.tape.trans h.tape, hg.output.trans h.output, Nat.le_trans h.size hg.size, fun k hk hn => (hg.block k (Nat.lt_of_lt_of_le hk h.size) (fun e => by
    simp at e; omega)).trans (h.block k hk hn)⟩
theorem GrewI.set {lo hi : Nat} {w w' : World} {b i : Nat} {x : Value} (h : GrewI lo hi w w') (h1 : lo ≤ b) (h2 : b < hi) : GrewI lo hi w (w'.setCell ⟨b, i, none⟩ x) :=
  ⟨h.os, h.tape, h.output, by rw [World.size_setCell]; exact h.size, fun k hk hn => (Below.heap_setCell w' ⟨b, i, none⟩ x k (by show k ≠ b; omega)).trans (h.block k hk hn)⟩
theorem GrewI.below {lo hi : Nat} {w w' : World} {base : Nat} (h : GrewI lo hi w w') (hb : base ≤ lo) (hw : base ≤ w.heap.size) : Below base w w' :=
  ⟨h.os, h.tape, h.output, h.size, fun k hk => h.block k (by omega) (.inl (by omega))⟩
/-- What of a list in the marking still stands, from k on. -/
structure MkP (w : World) (gb : Nat) (G : List Pm) (B : Nat → Nat) (k : Nat) (F : Nat → Value) : Prop where
  row : w.rowIs gb 42 (G.length * 3) F
  at' : ∀ (q : Nat) (h : q < G.length), k ≤ q → F (q * 3 + 2) = tv (B q) G[q].2.2 ∧ TermB w (B q) G[q].2.2
theorem MkP.next {w w' : World} {gb : Nat} {G : List Pm} {B : Nat → Nat} {k : Nat} {F : Nat → Value} (h : MkP w gb G B k F) (hk : k < G.length) (x y : Value) (hgb : ∀ q, q < G.length → gb < B q) (hasc : ∀ q r, q < r → r < G.length → B q < B r)
    (hg : ((w.setCell ⟨gb, k * 3, none⟩ x).setCell ⟨gb, k * 3 + 1, none⟩ y).grownBy w' (some (B k))) : ∃ F', MkP w' gb G B (k + 1) F' := by
  have hrow := (h.row.set (k * 3) x).set (k * 3 + 1) y
  refine ⟨_, hrow.of_block (hg.block gb hrow.lt (fun e => by have := hgb k hk; simp at e; omega)), fun q hq hkq => ?_⟩
  obtain ⟨a, b⟩ := h.at' q hq (by omega)
  have hgq := hgb q hq
  have hkk := hasc k q (by omega) hq
  refine ⟨?_, ?_⟩
  · simp only [if_neg (show ¬ q * 3 + 2 = k * 3 + 1 by omega), if_neg (show ¬ q * 3 + 2 = k * 3 by omega)]; exact a
  · have h2 : TermB ((w.setCell ⟨gb, k * 3, none⟩ x).setCell ⟨gb, k * 3 + 1, none⟩ y) (B q) G[q].2.2 := b.block (by
      rw [Below.heap_setCell _ ⟨gb, k * 3 + 1, none⟩ _ (B q) (by show B q ≠ gb; omega), Below.heap_setCell _ ⟨gb, k * 3, none⟩ _ (B q) (by show B q ≠ gb; omega)])
    exact h2.block (hg.block _ h2.lt (fun e => by simp at e; omega))

set_option maxRecDepth 8000 in
set_option maxHeartbeats 4000000 in
theorem markpolys (gb top : Nat) (G : List Pm) (F : Nat → Value) (B : Nat → Nat) (k0 : Int) (w : World) (hl : G.length ≤ 1048576) (hlr : ∀ g ∈ G, g.2.2.length ≤ 1048576) (ht : totP G ≤ 1048576) (h0 : 0 ≤ k0) (h1 : k0 ≤ 67108864)
    (hP : PolsW w gb G G.length F B) (htop : ∀ q, q < G.length → B q < top) (hgt : gb < top) :
    Calls Try.prog 20 #[.slice (some ⟨gb, 0, none⟩) G.length G.length, .int .i64 k0] w fun e w' => e = .returned (.int .i64 (k0 + 2 * G.length + 4 * totP G)) ∧ GrewI gb top w w' := by
  have HGB : Hid (∀ q, q < G.length → gb < B q) := Lib.hid (fun q hq => (hP.at' q hq hq).2.2.2.1)
  have HAS : Hid (∀ q r, q < r → r < G.length → B q < B r) := Lib.hid hP.asc
  have HTOP := Lib.hid htop
  have HM0 : Hid (MkP w gb G B 0 F) := Lib.hid ⟨hP.row, fun q hq _ => ⟨(hP.at' q hq hq).2.2.1, (hP.at' q hq hq).2.2.2.2⟩⟩
  clear hP htop
  go_enter Try.func20, Try.ntmps20
  go_wp2_with fail
  go_loopw [1, 5] (fun m i wr => ∃ k : Nat, k ≤ G.length ∧ i = .int .i64 k ∧ (∃ q : Int, m = .int .i64 q ∧ q = k0 + 2 * k + 4 * totP (G.take k)) ∧ (∃ F', MkP wr gb G B k F') ∧ GrewI gb top w wr) (fun _ i _ => G.length - (intOf i).toNat)
  case atStart => exact ⟨0, by omega, rfl, ⟨_, rfl, by simp [totP]⟩, ⟨_, HM0.out⟩, GrewI.refl _ _ _⟩
  case round =>
    clear HM0
    obtain ⟨k, hk, rfl, ⟨q, rfl, hq⟩, ⟨F', hM⟩, hG⟩ := hrel
    by_cases hlt : k < G.length
    · have hlt' : (k : Int) < (G.length : Int) := by omega
      have ht1 := totP_take hlt
      have ht2 := totP_le G (k + 1)
      have hq0 : 0 ≤ q := by omega
      have hq1 : q ≤ 900000000 := by omega
      have HQ : Hid (q + 1 + 1 + 4 * (G[k].2.2.length : Int) = k0 + 2 * ((k + 1 : Nat) : Int) + 4 * totP (G.take (k + 1))) := Lib.hid (by omega)
      clear ht1 ht2 hq
      obtain ⟨ct, hT⟩ := hM.at' k hlt (Nat.le_refl _)
      have f0 := hM.row.frozen (k * 3)
      have f1 := hM.row.frozen (k * 3 + 1)
      have d0 := hM.row.cell (i := k * 3) (by omega)
      have d1 := hM.row.cell (i := k * 3 + 1) (by omega)
      have d2 := hM.row.cell (i := k * 3 + 2) (by omega)
      rw [ct] at d2
      have hlk := hlr _ (List.getElem_mem hlt)
      have HGK := Lib.hid (HGB.out k hlt)
      have HTK := Lib.hid (HTOP.out k hlt)
      have HTT : ∀ x y, OwnG ((wr.setCell ⟨gb, k * 3, none⟩ x).setCell ⟨gb, k * 3 + 1, none⟩ y) 0 (tv (B k) G[k].2.2) G[k].2.2.length := fun x y => by
        have hgk := HGK.out
        obtain ⟨f, hr, _⟩ := hT.block (w' := (wr.setCell ⟨gb, k * 3, none⟩ x).setCell ⟨gb, k * 3 + 1, none⟩ y) (by
          rw [Below.heap_setCell _ ⟨gb, k * 3 + 1, none⟩ _ (B k) (by show B k ≠ gb; omega), Below.heap_setCell _ ⟨gb, k * 3, none⟩ _ (B k) (by show B k ≠ gb; omega)])
        exact .inr ⟨B k, _, _, f, rfl, Nat.zero_le _, Nat.le_refl _, hr⟩
      have HN := Lib.hid (fun w' x y hg => hM.next (w' := w') hlt x y HGB.out HAS.out hg)
      have HG2 := Lib.hid (fun w' x y (hg : ((wr.setCell ⟨gb, k * 3, none⟩ x).setCell ⟨gb, k * 3 + 1, none⟩ y).grownBy w' (some (B k))) => ((hG.set (i := k * 3) (x := x) (Nat.le_refl _) hgt).set (i := k * 3 + 1) (x := y) (Nat.le_refl _) hgt).step (Nat.le_of_lt HGK.out) HTK.out hg)
      clear hM hT hG ct
      go_wp2_with fail
      ((with_reducible refine (markS_own _ _ (HTT _ _) hlk (by omega) (by omega)).mono ?_); rintro e w2 ⟨rfl, _, hg⟩)
      have HF := Lib.hid (HN.out w2 _ _ hg)
      have HI := Lib.hid (HG2.out w2 _ _ hg)
      clear HN HG2 hg d0 d1 d2 f0 f1 HTT
      go_wp2_with fail
      go_roundw
      case rel => exact ⟨k + 1, by omega, by go_num, ⟨_, rfl, HQ.out⟩, HF.out, HI.out⟩
      case measure => simp [intOf]; omega
    · obtain rfl : k = G.length := by omega
      rw [List.take_length] at hq
      have HQ := Lib.hid hq
      clear hq
      go_wp2_with fail
      go_ret
      exact ⟨by rw [HQ.out]; rfl, hG⟩
end Go.Proofs.Ytbahejlgfpilnaa
namespace Go.Proofs.Ytbahejlgfpilnaa
open Go.RowKit Go.Sort

theorem OwnP.keepI {w w' : World} {lo hi base : Nat} {v : Value} {S : List Tm} (h : OwnP w base v S) (hg : GrewI lo hi w w') (hb : hi ≤ base) : OwnP w' base v S := by
  obtain ⟨h1, h2 | ⟨g, cap, cur, hv, hbg, hc, hrest⟩⟩ := h
  · exact ⟨h1, .inl h2⟩
  · have hlt : g < w.heap.size := by
      rcases Nat.lt_or_ge g w.heap.size with h | h
      · exact h
      · rw [Array.getElem?_eq_none h] at hc
        simp at hc
    exact ⟨h1, .inr ⟨g, cap, cur, hv, hbg, (hg.block g hlt (.inr (by omega))).trans hc, hrest⟩⟩
theorem rowI {w w' : World} {lo hi b t n : Nat} {f : Nat → Value} (h : w.rowIs b t n f) (hg : GrewI lo hi w w') (hb : b < lo ∨ hi ≤ b) : w'.rowIs b t n f := h.of_block (hg.block b h.lt hb)
theorem SliceB.keptI {w w' : World} {lo hi B : Nat} {v : Value} {ts : List Tm} (h : SliceB w B v ts) (hg : GrewI lo hi w w') (hB : B ≤ w.heap.size) (hl : B ≤ lo) : SliceB w' B v ts := by
  obtain ⟨a, cap, hv, h | ⟨b, off, ha, hlt, hT⟩⟩ := h
  · exact ⟨a, cap, hv, .inl h⟩
  · refine ⟨a, cap, hv, .inr ⟨b, off, ha, hlt, fun k hk => ?_⟩⟩
    have hb := hg.block b (Nat.lt_of_lt_of_le hlt hB) (.inl (by omega))
    obtain ⟨h0, h1, h2, h3⟩ := hT k hk
    exact ⟨(World.cell?_of_block (w := w) (a := ⟨b, _, none⟩) hb).trans h0, (World.cell?_of_block (w := w) (a := ⟨b, _, none⟩) hb).trans h1, (World.cell?_of_block (w := w) (a := ⟨b, _, none⟩) hb).trans h2, (World.cell?_of_block (w := w) (a := ⟨b, _, none⟩) hb).trans h3⟩
theorem LawSt.stepI {w wr w' : World} {A B0 B1 B2 N0 lo hi : Nat} {p d P D : Int} {va s0 v1 s2 : Value} {ts S : List Tm} (h : LawSt w wr A B0 B1 B2 N0 p d P D va s0 v1 s2 ts S) (hg : GrewI lo hi wr w') (hA : A < lo) (h0 : B0 < lo) (h1 : B1 < lo) (h2 : hi ≤ B2) (hN : N0 ≤ lo) :
    LawSt w w' A B0 B1 B2 N0 p d P D va s0 v1 s2 ts S := by
  obtain ⟨n1, n2⟩ := h.n0
  exact ⟨rowI h.ax hg (.inl hA), rowI h.b0 hg (.inl h0), rowI h.b1 hg (.inl h1), rowI h.b2 hg (.inr h2), h.sa.keptI hg h.below.size (by omega), h.sm.keptI hg n2 hN, h.below.trans (hg.below (by omega) h.below.size), n1, Nat.le_trans n2 hg.size⟩
theorem OwnPs.blocks {w : World} {base : Nat} {v : Value} {G : List Pm} (h : OwnPs w base v G) : ∃ gb F B, v = .slice (some ⟨gb, 0, none⟩) G.length G.length ∧ base ≤ gb ∧ PolsW w gb G G.length F B ∧ gb < w.heap.size ∧ ∀ q, q < G.length → B q < w.heap.size := by
  obtain ⟨gb, F, B, hv, hg, hW⟩ := h
  exact ⟨gb, F, B, hv, hg, hW, hW.row.lt, fun q hq => (hW.at' q hq hq).2.2.2.2.lt⟩
theorem PolsW.keepRow {w w' : World} {gb : Nat} {G : List Pm} {k : Nat} {F : Nat → Value} {B : Nat → Nat} {row : Option Nat} (h : PolsW w gb G k F B) (hg : w.grownBy w' row) (hr : ∀ g, row = some g → g < gb) : PolsW w' gb G k F B :=
  ⟨h.row.of_block (hg.block gb h.row.lt (fun e => by have := hr gb e.symm; omega)), fun q hq hk => by
    obtain ⟨a, b, c, d, e⟩ := h.at' q hq hk
    exact ⟨a, b, c, d, e.block (hg.block _ e.lt (fun x => by have := hr _ x.symm; omega))⟩, h.asc⟩
/-- The box of a law's polynomial. -/
theorem lbox1 (w : World) (p d : Int) (v : Value) : ∃ W, W = w.alloc (.cells #[.int .i64 p, .int .i64 d, v] 60) ∧ Below w.heap.size w W ∧ (W.heap.size ≤ w.heap.size + 1 ∧ w.heap.size + 1 ≤ W.heap.size) ∧
      W.rowIs w.heap.size 60 3 (polyF p d v) :=
  ⟨_, rfl, box1 _ _, ⟨by simp, by simp⟩, World.rowIs_alloc w #[Value.int .i64 p, .int .i64 d, v] _ _ (fun i hi => by simp at hi; match i, hi with | 0, _ => rfl | 1, _ => rfl | 2, _ => rfl)⟩
end Go.Proofs.Ytbahejlgfpilnaa
namespace Go.Proofs.Ytbahejlgfpilnaa
open Go.RowKit Go.Sort Go.Maps

/-- The boxes of a law: the model's result's (B0), the program's result's (B2). -/
structure LawR (w wr : World) (B0 B2 N0 : Nat) (P D : Int) (s0 s2 : Value) (S : List Tm) : Prop where
  b0 : wr.rowIs B0 42 3 (polyF P D s0)
  b2 : wr.rowIs B2 42 3 (polyF P D s2)
  sm : SliceB wr N0 s0 S
  below : Below w.heap.size w wr
  n0 : w.heap.size ≤ N0 ∧ N0 ≤ wr.heap.size
theorem LawR.step {w wr w' : World} {B0 B2 N0 : Nat} {P D : Int} {s0 s2 : Value} {S : List Tm} {row : Option Nat} (h : LawR w wr B0 B2 N0 P D s0 s2 S) (hg : wr.grownBy w' row) (hr : ∀ g, row = some g → N0 ≤ g ∧ ∃ N f, wr.rowIs g 151 N f) :
    LawR w w' B0 B2 N0 P D s0 s2 S := by
  have hsz := hg.size
  obtain ⟨n1, n2⟩ := h.n0
  have key : ∀ b t f, wr.rowIs b t 3 f → t ≠ 151 → w'.rowIs b t 3 f := fun b t f hb ht => hb.of_block (hg.block b hb.lt fun e => by
    obtain ⟨_, N, f', hrow⟩ := hr b e.symm
    exact rowIs_ne hb hrow ht rfl)
  refine ⟨key _ _ _ h.b0 (by decide), key _ _ _ h.b2 (by decide), h.sm.kept hg n2 fun g e => (hr g e).1, ?_, n1, by omega⟩
  exact h.below.grown hg h.below.size fun g e => Nat.le_trans n1 (hr g e).1
theorem LawR.on {w wr w' : World} {B0 B2 N0 : Nat} {P D : Int} {s0 s2 : Value} {S : List Tm} (h : LawR w wr B0 B2 N0 P D s0 s2 S) (hb : Below wr.heap.size wr w') : LawR w w' B0 B2 N0 P D s0 s2 S :=
  h.step (below_grown hb) (fun g e => by simp at e)
theorem LawR.stepI {w wr w' : World} {B0 B2 N0 lo hi : Nat} {P D : Int} {s0 s2 : Value} {S : List Tm} (h : LawR w wr B0 B2 N0 P D s0 s2 S) (hg : GrewI lo hi wr w') (h0 : B0 < lo) (h2 : hi ≤ B2) (hN : N0 ≤ lo) :
    LawR w w' B0 B2 N0 P D s0 s2 S := by
  obtain ⟨n1, n2⟩ := h.n0
  exact ⟨rowI h.b0 hg (.inl h0), rowI h.b2 hg (.inr h2), h.sm.keptI hg n2 hN, h.below.trans (hg.below (by omega) h.below.size), n1, Nat.le_trans n2 hg.size⟩
theorem GrewI.one {lo hi b : Nat} {w w' : World} (h1 : lo ≤ b) (h2 : b < hi) (hg : w.grownBy w' (some b)) : GrewI lo hi w w' := (GrewI.refl lo hi w).step h1 h2 hg
theorem nOwnI.blk {w : World} {base : Nat} {v : Value} {l : List Int} (h : nOwnI w base v l) : ∃ g, v = .slice (some ⟨g, 0, none⟩) l.length l.length ∧ base ≤ g ∧ g < w.heap.size := by
  obtain ⟨g, f, hv, hb, hr, _⟩ := h
  exact ⟨g, hv, hb, hr.lt⟩
theorem nOwnI.on {w w' : World} {base : Nat} {v : Value} {l : List Int} (h : nOwnI w base v l) (hb : Below w.heap.size w w') : nOwnI w' base v l := by
  obtain ⟨g, f, hv, hg, hr, hf⟩ := h
  exact ⟨g, f, hv, hg, rowIs_below hr hb hr.lt, hf⟩
theorem nOwnI.onI {w w' : World} {base lo hi : Nat} {v : Value} {l : List Int} (h : nOwnI w base v l) (hg : GrewI lo hi w w') (hb : hi ≤ base) : nOwnI w' base v l := by
  obtain ⟨g, f, hv, hbg, hr, hf⟩ := h
  exact ⟨g, f, hv, hbg, rowI hr hg (.inr (by omega)), hf⟩
end Go.Proofs.Ytbahejlgfpilnaa
namespace Go.Proofs.Ytbahejlgfpilnaa
open Go.RowKit Go.Sort Go.Maps

set_option maxRecDepth 8000 in
set_option maxHeartbeats 16000000 in
theorem law_Ms (p : Int) (ev : Value) (es : List Int) (w : World) (hne : es.length ≤ 9223372036854775807) (hE : Sl w ev es) :
    Calls Try.prog 8 #[.int .i64 p, ev] w fun e w' => e = .returned (.bool true) ∧ Below w.heap.size w w' := by
  obtain ⟨ea, ec, rfl, _⟩ := id hE
  by_cases hbe : (1048576 : Int) < (es.length : Int)
  · go_enter Try.func8, Try.ntmps8
    go_wp2_with fail
    go_ret
    exact ⟨rfl, Below.refl _ _⟩
  have hle : es.length ≤ 1048576 := by omega
  obtain ⟨o, ho⟩ : ∃ o, smO p es = o := ⟨_, rfl⟩
  have hso : o.S.length ≤ 1048576 := by rw [← ho]; exact Nat.le_trans (smO_len p es) (by decide)
  have HSP := Lib.hid (fun ev' w' k' => sms p ev' es w' hle k')
  have HIM := Lib.hid (fun ev' w' k' => ims p ev' es w' hle k')
  rw [ho] at HSP HIM
  clear ho
  obtain ⟨P, D, S, c⟩ := o
  simp only at hso
  go_enter Try.func8, Try.ntmps8
  go_wp2_with fail
  ((with_reducible refine (ntoI_own _ es _ hle hE).mono ?_); rintro e wb ⟨vb, rfl, ownb, hb3⟩)
  clear hbe
  have slb := ownb.slice
  obtain ⟨gq, hvb, _, _⟩ := ownb.blk
  subst hvb
  clear ownb
  go_wp2_with fail
  ((with_reducible refine (HSP.out _ _ slb).mono ?_); rintro e w3 ⟨sv3, rfl, hp3, hbs⟩)
  simp only at hp3
  have ho3 := OwnP.slice hp3
  obtain ⟨a3, c3, rfl, _⟩ := id ho3
  obtain ⟨V3, hV3, hbV3, ⟨hV3s1, hV3s2⟩, rb0⟩ := newbox w3 P D (.slice a3 S.length c3)
  have K3 := (hb3.trans (hbs.mono hb3.size)).trans (hbV3.mono (Nat.le_trans hb3.size hbs.size))
  have sm3 := (ho3.below hbV3).bound
  clear slb ho3 hp3 hbs hbV3 hb3
  go_upto_region 4 with fail
  rw [← hV3]
  clear hV3
  obtain ⟨N0, hN0⟩ : ∃ N0, V3.heap.size = N0 := ⟨_, rfl⟩
  have hB0lt : w3.heap.size < N0 := by have := rb0.lt; omega
  have hwN : w.heap.size ≤ N0 := by have := K3.size; omega
  go_wp2_with fail
  ((with_reducible refine (ntoI_own _ es _ hle (hE.below K3)).mono ?_); rintro e w5 ⟨v5, rfl, own5, hb5⟩)
  have K5 := K3.trans (hb5.mono K3.size)
  have s5 := hb5.size
  have slE5 := own5.slice
  obtain ⟨gx, hvx, hgx, hgxlt⟩ := own5.blk
  subst hvx
  go_wp2_with fail
  ((with_reducible refine (HIM.out _ _ slE5).mono ?_); rintro e wk ⟨sv5, rfl, ho5, hbk⟩)
  simp only at ho5
  obtain ⟨a5, c5, rfl⟩ := owns_slice ho5
  have sk := hbk.size
  obtain ⟨V6, hV6, hbV6, ⟨hV6s1, hV6s2⟩, rb2⟩ := newbox wk P D (.slice a5 S.length c5)
  have hbx := hbk.trans (hbV6.mono sk)
  have hg6 : OwnP V6 w5.heap.size (.slice a5 S.length c5) S := owns_belowT ho5 hbV6
  have hb46 := hb5.trans (hbx.mono s5)
  have st : LawR w V6 w3.heap.size wk.heap.size N0 P D (.slice a3 S.length c3) (.slice a5 S.length c5) S :=
    ⟨rowIs_below rb0 hb46 rb0.lt, rb2, by rw [← hN0]; exact sm3.kept (below_grown hb46) (Nat.le_refl _) (fun g e => by simp at e), K5.trans (hbx.mono K5.size), hwN, by have := hb46.size; omega⟩
  have hx6 := own5.on hbx
  rw [hN0] at hgx s5
  have hcc : (c != c) = false := by simp
  have hB2 : w5.heap.size ≤ wk.heap.size := sk
  clear rb0 rb2 sm3 ho5 hbk hbV6 hbx hb46 hb5 own5 slE5 K3 K5 HSP
  go_upto_region 6 with fail
  rw [← hV6]
  clear hV6
  obtain ⟨⟨q0, q1, q2⟩, _⟩ := poly3 st.b2
  obtain ⟨⟨k0, k1, k2⟩, _⟩ := poly3 st.b0
  go_wp2_with fail
  ((with_reducible refine (eqPoly_same P D _ _ S _ hso (OwnP.slice hg6) (st.sm.slice st.n0.2)).mono ?_); rintro e w7 ⟨rfl, hb7⟩)
  clear q0 q1 q2 k0 k1 k2
  have st9 := st.on hb7
  have hx9 := hx6.on hb7
  have hg9 : OwnP w7 w5.heap.size (.slice a5 S.length c5) S := owns_belowT hg6 hb7
  clear st hx6 hg6 hb7
  go_wp2_with fail
  ((with_reducible refine (ntoI_own _ es _ hle (hE.below st9.below)).mono ?_); rintro e wv ⟨vv, rfl, ownv, hbv⟩)
  have st10 := st9.on hbv
  have hx10 := hx9.on hbv
  have hg10 : OwnP wv w5.heap.size (.slice a5 S.length c5) S := owns_belowT hg9 hbv
  obtain ⟨gv, hvv, _, _⟩ := ownv.blk
  subst hvv
  clear st9 hx9 hg9 hbv
  go_wp2_with fail
  ((with_reducible refine (neqI_same _ _ es _ hle hx10.slice ownv.slice).mono ?_); rintro e ww ⟨rfl, hbw⟩)
  have st12 := st10.on hbw
  have hx12 := hx10.on hbw
  have hg12 : OwnP ww w5.heap.size (.slice a5 S.length c5) S := owns_belowT hg10 hbw
  clear st10 hx10 hg10 ownv hbw
  go_wp2_with fail
  ((with_reducible refine (nmarkI_own 1 _ hx12 hle (by decide) (by decide)).mono ?_); rintro e wy ⟨rfl, hgr⟩)
  have hgJ : GrewI N0 w5.heap.size ww wy := GrewI.one (b := gx) (by omega) hgxlt hgr
  have st13 := st12.stepI hgJ (by omega) (by omega) (Nat.le_refl _)
  have hg13 : OwnP wy w5.heap.size (.slice a5 S.length c5) S := hg12.keepI hgJ (Nat.le_refl _)
  have hky : ¬ 1 + (es.length : Int) < 0 := by omega
  obtain ⟨ky, hkyy⟩ : ∃ ky, (1 : Int) + (es.length : Int) = ky := ⟨_, rfl⟩
  rw [hkyy] at hky ⊢
  clear st12 hx12 hg12 hgr hgJ hkyy
  obtain ⟨⟨q0, q1, q2⟩, _⟩ := poly3 st13.b2
  obtain ⟨⟨k0, k1, k2⟩, _⟩ := poly3 st13.b0
  go_wp2_with fail
  ((with_reducible refine (eqPoly_same P D _ _ S _ hso (OwnP.slice hg13) (st13.sm.slice st13.n0.2)).mono ?_); rintro e w14 ⟨rfl, hb14⟩)
  have st14 := st13.on hb14
  have hg14 : OwnP w14 w5.heap.size (.slice a5 S.length c5) S := owns_belowT hg13 hb14
  clear q0 q1 q2 k0 k1 k2 st13 hg13 hb14
  obtain ⟨⟨q0, q1, q2⟩, _⟩ := poly3 st14.b2
  go_wp2_with fail
  ((with_reducible refine (markPoly_own P D 1 _ (OwnG.of_owns hg14) hso (by decide) (by decide)).mono ?_); rintro e w15 ⟨rfl, hM15, hgr15⟩)
  have st15 := st14.step hgr15 (fun g e => by obtain ⟨h1, h2⟩ := (OwnG.of_owns hg14).row g e; exact ⟨by omega, h2⟩)
  clear q0 q1 q2 st14 hg14 hgr15
  obtain ⟨⟨q0, q1, q2⟩, _⟩ := poly3 st15.b2
  go_wp2_with fail
  ((with_reducible refine (heldPoly_marks P D 1 _ hM15 hso (by decide) (by decide)).mono ?_); rintro e w16 ⟨rfl, hb16⟩)
  have st16 := st15.on hb16
  have hM16 := hM15.below hb16
  clear q0 q1 q2 st15 hM15 hb16
  have hq2 : ¬ (1 : Int) + 4 * (S.length : Int) < 0 := by omega
  have hq3 : ((1 : Int) + 4 * (S.length : Int) != 1 + 4 * (S.length : Int)) = false := by simp
  go_wp2_with fail
  ((with_reducible refine (ntoI_own _ es _ hle (hE.below st16.below)).mono ?_); rintro e wd ⟨vd, rfl, ownd, hbd⟩)
  have st18 := st16.on hbd
  have hM18 := hM16.below hbd
  have sld := ownd.slice
  obtain ⟨gd2, hvd, _, _⟩ := ownd.blk
  subst hvd
  clear st16 hM16 ownd hbd
  go_wp2_with fail
  ((with_reducible refine (HIM.out _ _ sld).mono ?_); rintro e w19 ⟨sv19, rfl, ho19, hb19⟩)
  simp only at ho19
  obtain ⟨a19, c19, rfl⟩ := owns_slice ho19
  obtain ⟨V19, hV19, hbV19, ⟨hV19s1, hV19s2⟩, rh⟩ := newbox w19 P D (.slice a19 S.length c19)
  have hbx := hb19.trans (hbV19.mono hb19.size)
  have hS19 := (OwnP.slice ho19).below hbV19
  have st19 := st18.on hbx
  have hM19 := hM18.below hbx
  clear st18 hM18 hbx sld ho19 hb19 hbV19
  go_upto_region 23 with fail
  rw [← hV19]
  clear hV19
  obtain ⟨⟨q0, q1, q2⟩, _⟩ := poly3 rh
  obtain ⟨⟨k0, k1, k2⟩, _⟩ := poly3 st19.b0
  go_wp2_with fail
  ((with_reducible refine (eqPoly_same P D _ _ S _ hso hS19 (st19.sm.slice st19.n0.2)).mono ?_); rintro e w20 ⟨rfl, hb20⟩)
  have st20 := st19.on hb20
  have hM20 := hM19.below hb20
  clear q0 q1 q2 k0 k1 k2 st19 hM19 hS19 rh hb20
  obtain ⟨⟨q0, q1, q2⟩, _⟩ := poly3 st20.b2
  go_wp2_with fail
  ((with_reducible refine (heldPoly_marks P D 1 _ hM20 hso (by decide) (by decide)).mono ?_); rintro e w21 ⟨rfl, hb21⟩)
  have hend := (st20.on hb21).below
  clear q0 q1 q2 st20 hM20 hb21
  go_wp2
  go_ret
  exact ⟨rfl, hend⟩
end Go.Proofs.Ytbahejlgfpilnaa
namespace Go.Proofs.Ytbahejlgfpilnaa
open Go.ChangeShapes Go.WideShapes Go.ChangeAt Go.RowKit Go.Sort Go.Joins Go.Deep

section
variable {H : Type} {enc : TypeId × Value → H} {w : World} {spare : Nat → Bool} {held : Bool}
theorem gi64_of {fuel : Nat} {cs : List Value} {x : DataW H × List MemPlace} (h : DataW.trod enc Try.prog w 0 spare held fuel 2 cs = some x) : ∃ n, cs = [.int .i64 n] ∧ -9223372036854775808 ≤ n ∧ n ≤ 9223372036854775807 := by
  obtain ⟨n, hc, _, hw⟩ := DataW.trod_int Try.underlying2 h
  simp [Lit.wf, IntKind.min, IntKind.max, IntKind.signed, IntKind.bits] at hw
  exact ⟨n, hc, hw.1, by omega⟩

/-- The row's end, where all that was there before the call is as it was. -/
theorem mrow_end {P : Program} {f : Func} {s : ChangeSpec} {apart fresh handsOn : Bool} {W W' : World} {args : Array Value} {v : Value} {ds gs : List (DataW H)} {before pa pv : List MemPlace}
    (hW : DataW.Whole enc P f.params.toList s.vars apart W args.toList ds gs before) (hb : Below W.heap.size W W')
    (hr : ∀ (b : Nat) (sp : Nat → Bool) (hd : Bool), DataW.TrodAll enc P W' b sp hd f.resultTypes.toList (v.resultList f.resultTypes.size) (s.fn H (ds ++ gs)).results [])
    (ha : DataW.TrodAll enc P W' 0 (fun b => decide (b < W.heap.size)) true f.params.toList args.toList (s.fn H (ds ++ gs)).args pa)
    (hv : DataW.TrodVars enc P W' (fun b => decide (b < W.heap.size)) s.vars (s.fn H (ds ++ gs)).vars pv) (hp : ∀ p ∈ before, p ∈ pa ∨ p ∈ pv) :
    s.post enc P f apart fresh handsOn false W args v W' :=
  ⟨ds, gs, before, [], pa, pv, hW, hr _ _ _, ha, hv, World.keptBut_mono (fun p h => ⟨h, .inr (hp p h)⟩) (hb.frame (· ∈ before)), fun h => absurd h (by decide)⟩
end

theorem mlaidOut : laidOutB Try.prog = true := by kernel_rfl
theorem mown : ownKnob Try.prog.godebug = none := by kernel_rfl
theorem readIntsN : Try.prog.readableRec 52 = true ∧ 52 < Try.prog.types.size := ⟨by kernel_rfl, of_decide_eq_true (by kernel_rfl)⟩
theorem ncellsI64 : Try.prog.cellsOf 2 = 1 := by kernel_rfl

set_option maxRecDepth 100000 in
theorem open_listN {H : Type} {enc : TypeId × Value → H} {w : World} {held : Bool} {r : Reach} {b0 : Nat} {v : Value} {d : DataW H} {p : List MemPlace} (hv : Value.okWide Try.prog w r b0 52 v) (h : DataW.Trod enc Try.prog w 0 (fun _ => true) held 52 v d p) :
    ∃ l : List Int, Sl w v l ∧ l.length ≤ 9223372036854775807 := by
  obtain ⟨a0, len0, cap0, rfl⟩ := okWide_slice Try.underlying52 hv
  obtain ⟨fuel, hf⟩ := h
  rcases open_slice Try.underlying52 hf with ⟨hc, _⟩ | ⟨a, len, cap, m, n, D, Pl, hc, _, hl, hm, hmm, _, hi⟩
  · simp [Value.cells] at hc
    obtain ⟨rfl, rfl, rfl⟩ := hc
    exact ⟨[], ⟨none, 0, rfl, .inl rfl⟩, by simp⟩
  · simp [Value.cells] at hc
    obtain ⟨rfl, rfl, rfl⟩ := hc
    unfold maxLen at hm
    simp at hmm
    subst hmm
    rw [ncellsI64] at hi
    have hex : ∀ i, i < len0 → ∃ x : Int, w.cell? (a.add i) = some (.int .i64 x) := fun i hil => by
      obtain ⟨cs, hcs, ht⟩ := hi i (by omega)
      obtain ⟨x, e, hb⟩ := gi64_of ht
      obtain ⟨_, _, hat⟩ := World.cells?_some hcs
      have h0 := hat 0 (by omega)
      rw [e] at h0
      exact ⟨x, by simpa [Addr.add] using h0⟩
    obtain ⟨F, hF⟩ := choose_lt hex
    refine ⟨(List.range len0).map F, ⟨some a, _, by simp; rfl, ?_⟩, by simp; omega⟩
    by_cases h0 : len0 = 0
    · left; simp [h0]
    · right
      have hc0 := hF 0 (by omega)
      obtain ⟨b, off, spot⟩ := a
      have hspot : spot = none := World.cell?_spot (w := w) (a := ⟨b, off, spot⟩) (by simpa [Addr.add] using hc0)
      subst hspot
      refine ⟨b, off, rfl, World.block_lt_of_cell? (w := w) (a := ⟨b, off, none⟩) (by simpa [Addr.add] using hc0), fun k hk => ?_⟩
      have hat := hF k (by simpa using hk)
      by_cases hk0 : k = 0
      · subst hk0
        simpa [Addr.add] using hat
      · simp only [Addr.add, if_neg hk0] at hat
        simpa using hat
end Go.Proofs.Ytbahejlgfpilnaa
