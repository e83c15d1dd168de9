/-
  WHAT ORDERS MAKE: keys. Conditions: as each theorem states.
  EXCHANGES OF LETTERS in plain mathematics: what an order makes of exponents; the neighbours' exchanges make all orders. Conditions: as each theorem states.
-/
import Derived.Test.YtphgpadpffigjaaC
import Derived.Test.YtphgpadpffigjaaSyf
namespace Go.Proofs.Ytphgpadpffigjaa
open Go.RowKit Go.Sort Go.Maps

/-- What orders make of exponents. -/
def keyO (es os : List Int) : Int × Int × Int := (plF es os es.length 0, plF es os es.length 1, plF es os es.length 2)
theorem keyO_byte {es os : List Int} (he : ∀ e ∈ es, 0 ≤ e ∧ e ≤ 255) : byte3 (keyO es os) := ⟨plF_byte he _ _, plF_byte he _ _, plF_byte he _ _⟩
theorem ord_row {d k : Nat} (hd : 1 ≤ d ∧ d ≤ 3) {l : List Int} (h : l ∈ ordL d k) : l.length = d ∧ ∀ x ∈ l, 0 ≤ x ∧ x < 3 := by
  unfold ordL at h
  obtain ⟨h1, _⟩ := List.mem_filter.1 h
  obtain ⟨r, _, rfl⟩ := List.mem_map.1 h1
  refine ⟨dgL_len d r, fun x hx => ?_⟩
  simp only [dgL, List.mem_map, List.mem_range] at hx
  obtain ⟨i, _, rfl⟩ := hx
  unfold dgt
  have := Nat.mod_lt (r / d ^ i) (show d > 0 by omega)
  omega
end Go.Proofs.Ytphgpadpffigjaa
namespace Go.Proofs.Ytphgpadpffigjaa
open Go.RowKit Go.Sort Go.Maps

/-- Exponents of d letters. -/
def inD (d : Nat) (e : Int × Int × Int) : Prop := (d ≤ 1 → e.2.1 = 0) ∧ (d ≤ 2 → e.2.2 = 0)
instance inDdec (d : Nat) (e : Int × Int × Int) : Decidable (inD d e) := inferInstanceAs (Decidable (_ ∧ _))
def exL (d : Nat) (e : Int × Int × Int) : List Int := [e.1, e.2.1, e.2.2].take d
def exAt (e : Int × Int × Int) (i : Int) : Int := if i = 0 then e.1 else if i = 1 then e.2.1 else e.2.2
/-- What an order makes of exponents, and what it makes them of. -/
def fwd (d : Nat) (os : List Int) (e : Int × Int × Int) : Int × Int × Int := keyO (exL d e) os
def bwd (d : Nat) (os : List Int) (e : Int × Int × Int) : Int × Int × Int := (exAt e (os.getD 0 0), if 2 ≤ d then exAt e (os.getD 1 0) else 0, if 3 ≤ d then exAt e (os.getD 2 0) else 0)
theorem ordL1 : ordL 1 (1 ^ 1) = [[0]] := by decide +kernel
theorem ordL2 : ordL 2 (2 ^ 2) = [[1, 0], [0, 1]] := by decide +kernel
theorem ordL3 : ordL 3 (3 ^ 3) = [[2, 1, 0], [1, 2, 0], [2, 0, 1], [0, 2, 1], [1, 0, 2], [0, 1, 2]] := by decide +kernel
theorem ord_all {d : Nat} (hd : 1 ≤ d ∧ d ≤ 3) {os : List Int} (ho : os ∈ ordL d (d ^ d)) : (d = 1 ∧ os = [0]) ∨ (d = 2 ∧ (os = [1, 0] ∨ os = [0, 1])) ∨ (d = 3 ∧ (os = [2, 1, 0] ∨ os = [1, 2, 0] ∨ os = [2, 0, 1] ∨ os = [0, 2, 1] ∨ os = [1, 0, 2] ∨ os = [0, 1, 2])) := by
  have : d = 1 ∨ d = 2 ∨ d = 3 := by omega
  rcases this with rfl | rfl | rfl
  · rw [ordL1] at ho; simp at ho; exact .inl ⟨rfl, ho⟩
  · rw [ordL2] at ho; simp at ho; exact .inr (.inl ⟨rfl, ho⟩)
  · rw [ordL3] at ho; simp at ho; exact .inr (.inr ⟨rfl, ho⟩)
theorem fwd_bwd {d : Nat} (hd : 1 ≤ d ∧ d ≤ 3) {os : List Int} (ho : os ∈ ordL d (d ^ d)) {a b : Int × Int × Int} (ha : inD d a) (hb : inD d b) : fwd d os a = b ↔ bwd d os b = a := by
  obtain ⟨a1, a2, a3⟩ := a
  obtain ⟨b1, b2, b3⟩ := b
  rcases ord_all hd ho with ⟨rfl, rfl⟩ | ⟨rfl, rfl | rfl⟩ | ⟨rfl, rfl | rfl | rfl | rfl | rfl | rfl⟩ <;> simp [inD] at ha hb <;> simp [fwd, bwd, keyO, exL, exAt, plF, ha, hb] <;> omega
theorem fwd_in {d : Nat} (hd : 1 ≤ d ∧ d ≤ 3) {os : List Int} (ho : os ∈ ordL d (d ^ d)) (a : Int × Int × Int) : inD d (fwd d os a) := by
  obtain ⟨a1, a2, a3⟩ := a
  rcases ord_all hd ho with ⟨rfl, rfl⟩ | ⟨rfl, rfl | rfl⟩ | ⟨rfl, rfl | rfl | rfl | rfl | rfl | rfl⟩ <;> simp [inD, fwd, keyO, exL, plF]
theorem fwd_sum {d : Nat} (hd : 1 ≤ d ∧ d ≤ 3) {os : List Int} (ho : os ∈ ordL d (d ^ d)) {a : Int × Int × Int} (ha : inD d a) : (fwd d os a).1 + (fwd d os a).2.1 + (fwd d os a).2.2 = a.1 + a.2.1 + a.2.2 := by
  obtain ⟨a1, a2, a3⟩ := a
  rcases ord_all hd ho with ⟨rfl, rfl⟩ | ⟨rfl, rfl | rfl⟩ | ⟨rfl, rfl | rfl | rfl | rfl | rfl | rfl⟩ <;> simp [inD] at ha <;> simp [fwd, keyO, exL, plF, ha] <;> omega
/-- Neighbours exchanged. -/
def swE (i : Nat) (e : Int × Int × Int) : Int × Int × Int := if i = 0 then (e.2.1, e.1, e.2.2) else (e.1, e.2.2, e.2.1)
theorem swE_swE (i : Nat) (e : Int × Int × Int) : swE i (swE i e) = e := by unfold swE; split <;> rfl
theorem swE_in {d i : Nat} (hi : i + 1 < d) {e : Int × Int × Int} (h : inD d e) : inD d (swE i e) := by
  unfold swE; unfold inD at h ⊢
  split <;> simp <;> omega
theorem swE_iff (i : Nat) (a b : Int × Int × Int) : swE i a = b ↔ swE i b = a := ⟨fun h => by rw [← h, swE_swE], fun h => by rw [← h, swE_swE]⟩
/-- A function of exponents that all orders leave, up to numbers that go with them. -/
def sgL : List Int → Bool
  | [1, 0] => true
  | [2, 1, 0] => true
  | [0, 2, 1] => true
  | [1, 0, 2] => true
  | _ => false
theorem orders_nb {d : Nat} (hd : 1 ≤ d ∧ d ≤ 3) (f : Int × Int × Int → Int) (s : Int → Int) (hs : ∀ e, s (s (f e)) = f e) :
    (∀ os ∈ ordL d (d ^ d), ∀ e, inD d e → f (bwd d os e) = if sgL os then s (f e) else f e) ↔ ∀ i, i + 1 < d → ∀ e, inD d e → f (swE i e) = s (f e) := by
  have : d = 1 ∨ d = 2 ∨ d = 3 := by omega
  rcases this with rfl | rfl | rfl
  · rw [ordL1]
    refine ⟨fun _ i hi => by omega, fun _ os ho e he => ?_⟩
    obtain ⟨e1, e2, e3⟩ := e
    simp [inD] at he
    simp at ho; subst ho
    simp [bwd, exAt, sgL, he]
  · rw [ordL2]
    refine ⟨fun h i hi e he => ?_, fun h os ho e he => ?_⟩
    · obtain rfl : i = 0 := by omega
      have h1 := h [1, 0] (by simp) e he
      obtain ⟨e1, e2, e3⟩ := e
      simp [inD] at he
      simpa [bwd, exAt, sgL, swE, he] using h1
    · have h1 := h 0 (by omega) e he
      obtain ⟨e1, e2, e3⟩ := e
      simp [inD] at he
      simp at ho
      rcases ho with rfl | rfl <;> simp [bwd, exAt, sgL, he]
      simpa [swE, he] using h1
  · rw [ordL3]
    refine ⟨fun h i hi e he => ?_, fun h os ho e he => ?_⟩
    · have hi2 : i = 0 ∨ i = 1 := by omega
      obtain ⟨e1, e2, e3⟩ := e
      rcases hi2 with rfl | rfl
      · have h1 := h [1, 0, 2] (by simp) (e1, e2, e3) he
        simpa [bwd, exAt, sgL, swE] using h1
      · have h1 := h [0, 2, 1] (by simp) (e1, e2, e3) he
        simpa [bwd, exAt, sgL, swE] using h1
    · have h0 : ∀ a b c, f (b, a, c) = s (f (a, b, c)) := fun a b c => by simpa [swE] using h 0 (by omega) (a, b, c) (by simp [inD])
      have h1 : ∀ a b c, f (a, c, b) = s (f (a, b, c)) := fun a b c => by simpa [swE] using h 1 (by omega) (a, b, c) (by simp [inD])
      obtain ⟨a, b, c⟩ := e
      simp at ho
      rcases ho with rfl | rfl | rfl | rfl | rfl | rfl <;> simp [bwd, exAt, sgL]
      · rw [h0 b c a, h1 b a c, h0 a b c, hs]
      · rw [h1 b a c, h0 a b c, hs]
      · rw [h0 a c b, h1 a b c, hs]
      · exact h1 a b c
      · exact h0 a b c
end Go.Proofs.Ytphgpadpffigjaa
