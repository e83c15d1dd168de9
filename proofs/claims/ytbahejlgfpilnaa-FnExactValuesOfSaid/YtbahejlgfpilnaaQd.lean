/-
  ROWS MODULO p, in plain mathematics: reduced lists of rows, and that they are told by what is 0 on them; the reduced rows of a matrix with the unit behind it. Conditions: as each theorem states.
  LISTS of 64-bit numbers in memory: read, of the call's own, grown. Conditions: as each theorem states.
  LISTS OF NUMBERS of the call's own. Conditions: as each theorem states.
  LISTS of numbers in a law: compared, marked, held. Conditions: as each theorem states.
  LISTS of 64-bit numbers in a law: copied, compared, marked, read back. Conditions: as each theorem states.
  SEARCHES in lists, a range of numbers in the model, a list of numbers in a block by a function. Conditions: as each theorem states.
  LISTS OF 64-BIT NUMBERS: judged. Conditions: as each theorem states.
  VALUES of polynomials at points: 'spec.l01Value', 'impl.ValueAt'. Conditions: as each theorem states.
  VALUES: 'spec.l09Like', 'spec.l09Values', 'impl.valuesAt'. Conditions: as each theorem states.
  VALUES: 'spec.ValuesOf', 'impl.ValuesOf'. Conditions: as each theorem states.
  LISTS OF POLYNOMIALS in a law: compared. Conditions: as each theorem states.
  LISTS OF POLYNOMIALS in a law: measured. Conditions: as the theorem states.
  LISTS OF POLYNOMIALS in a law: compared. Conditions: as the theorem states.
  WALKS: marking the terms of a polynomial and reading the marks back. Conditions: as each theorem states.
  WALKS: marking a polynomial whose terms lie in an array of the call's own, and reading the marks back. Conditions: as each theorem states.
  LISTS OF POLYNOMIALS in a law: copied. Conditions: as the theorem states.
  LISTS OF POLYNOMIALS in a law: marked. Conditions: as the theorem states.
  THE STATE OF A LAW of a function of a polynomial and a list of polynomials. Conditions: as each theorem states.
  The boxes of a law whose result is a polynomial, beside lists as arguments. Conditions: as each theorem states.
  The law of 'FnExactValuesOf', walked. Conditions: as the theorem states.
  A list of 64-bit numbers as an argument of a law, opened; a row's end. Conditions: the argument can be read as data.
  A polynomial argument of a law, opened: its cells and its terms. Conditions: the argument can be read as data.
  A list of polynomials as an argument of a law, opened. Conditions: the argument can be read as data.
-/
import Derived.Test.YtbahejlgfpilnaaRows
import Derived.WalkKit
import Derived.WalkSpells
import Derived.WalkLawsBesides
import Derived.Lib.QuietBelow
import Derived.Lib.Hide
import Derived.Lib.OwnKind
import Derived.StillTailTactics
import Derived.Deep.Light
import Derived.Deep.AppendLies
import Derived.BigQuiet
import Derived.IntWalk
import Derived.Deep.OwnRows
import Derived.Deep.RegionHeld3
import Derived.Test.YtbahejlgfpilnaaVob
import Derived.Test.YtbahejlgfpilnaaDg
import Derived.Test.YtbahejlgfpilnaaBa
import Derived.Test.YtbahejlgfpilnaaG
import Derived.Deep.RegionWith
import Derived.Test.YtbahejlgfpilnaaF
import Derived.Test.YtbahejlgfpilnaaMm
import Derived.Test.YtbahejlgfpilnaaMr
import Derived.Test.YtbahejlgfpilnaaLs2
import Derived.ProofKit
import Derived.OpenShut
import Derived.Lib.SmallJoins
import Derived.Deep.Slices
namespace Go.Proofs.Ytbahejlgfpilnaa.EchM


/-- A row less k times another one, modulo p. -/
def lessL (p k : Int) (r o : List Int) : List Int := List.zipWith (fun a b => (a - k * b) % p) r o
/-- A row times k, modulo p. -/
def scaleL (p k : Int) (r : List Int) : List Int := r.map fun a => a * k % p
/-- The place of the first number other than 0; the length if there is none. -/
def leadN (r : List Int) : Nat := r.findIdx (fun a => a != 0)
/-- The number at a place. -/
def nth (r : List Int) (j : Nat) : Int := r.getD j 0
/-- Numbers modulo p. -/
def InP (p : Int) (m : Nat) (r : List Int) : Prop := r.length = m ∧ ∀ a ∈ r, 0 ≤ a ∧ a < p

theorem nth_lt {r : List Int} {j : Nat} (h : j < r.length) : nth r j = r[j] := by simp [nth, h]
theorem nth_ge {r : List Int} {j : Nat} (h : r.length ≤ j) : nth r j = 0 := by
  simp [nth, List.getD, List.getElem?_eq_none h]
theorem InP.nth {p : Int} {m : Nat} {r : List Int} (h : InP p m r) (hp : 0 < p) (j : Nat) : 0 ≤ nth r j ∧ nth r j < p := by
  by_cases hj : j < r.length
  · rw [nth_lt hj]; exact h.2 _ (List.getElem_mem _)
  · rw [nth_ge (by omega)]; omega
theorem ext_nth {r s : List Int} (hl : r.length = s.length) (h : ∀ j, j < r.length → nth r j = nth s j) : r = s := by
  refine List.ext_getElem hl fun j h1 h2 => ?_
  have := h j h1
  rwa [nth_lt h1, nth_lt h2] at this
theorem len_less {p k : Int} {r o : List Int} (h : r.length = o.length) : (lessL p k r o).length = r.length := by simp [lessL, h]
theorem nth_less {p k : Int} {r o : List Int} (h : r.length = o.length) (j : Nat) : nth (lessL p k r o) j = (nth r j - k * nth o j) % p := by
  by_cases hj : j < r.length
  · rw [nth_lt (by rw [len_less h]; exact hj), nth_lt hj, nth_lt (by omega)]
    simp [lessL]
  · rw [nth_ge (by rw [len_less h]; omega), nth_ge (by omega), nth_ge (by omega)]; simp
theorem nth_scale {p k : Int} {r : List Int} (j : Nat) : nth (scaleL p k r) j = nth r j * k % p := by
  by_cases hj : j < r.length
  · rw [nth_lt (by simpa [scaleL] using hj), nth_lt hj]
    simp [scaleL]
  · rw [nth_ge (by simp [scaleL]; omega), nth_ge (by omega)]; simp
theorem inP_less {p k : Int} {m : Nat} {r o : List Int} (hp : 0 < p) (hr : InP p m r) (ho : InP p m o) : InP p m (lessL p k r o) := by
  refine ⟨by rw [len_less (by rw [hr.1, ho.1]), hr.1], fun a ha => ?_⟩
  obtain ⟨j, hj, rfl⟩ := List.getElem_of_mem ha
  simp only [lessL, List.getElem_zipWith]
  exact ⟨Int.emod_nonneg _ (by omega), Int.emod_lt_of_pos _ hp⟩
theorem inP_scale {p k : Int} {m : Nat} {r : List Int} (hp : 0 < p) (hr : InP p m r) : InP p m (scaleL p k r) := by
  refine ⟨by simp [scaleL, hr.1], fun a ha => ?_⟩
  obtain ⟨b, _, rfl⟩ := List.mem_map.1 ha
  exact ⟨Int.emod_nonneg _ (by omega), Int.emod_lt_of_pos _ hp⟩

theorem lead_le (r : List Int) : leadN r ≤ r.length := List.findIdx_le_length
theorem lead_before {r : List Int} {j : Nat} (h : j < leadN r) : nth r j = 0 := by
  have hl : j < r.length := Nat.lt_of_lt_of_le h (lead_le r)
  rw [nth_lt hl]
  have := List.not_of_lt_findIdx h
  simpa using this
theorem lead_at {r : List Int} (h : leadN r < r.length) : nth r (leadN r) ≠ 0 := by
  rw [nth_lt h]
  have := List.findIdx_getElem (p := fun a : Int => a != 0) (xs := r) (w := h)
  exact bne_iff_ne.1 this
theorem lead_eq {r : List Int} {c : Nat} (h0 : ∀ j, j < c → nth r j = 0) (h1 : nth r c ≠ 0) : leadN r = c := by
  rcases Nat.lt_trichotomy (leadN r) c with h | h | h
  · have hl : leadN r < r.length := by
      rcases Nat.lt_or_ge (leadN r) r.length with h' | h'
      · exact h'
      · exact absurd (nth_ge (r := r) (j := c) (by omega)) h1
    exact absurd (h0 _ h) (lead_at hl)
  · exact h
  · exact absurd (lead_before h) h1

/-- What is linear modulo p on rows of m numbers. -/
structure Lin (p : Int) (m : Nat) (f : List Int → Int) : Prop where
  less : ∀ k r o, r.length = m → o.length = m → p ∣ f (lessL p k r o) - (f r - k * f o)
  scale : ∀ k r, r.length = m → p ∣ f (scaleL p k r) - k * f r
theorem dvd_emod (p x : Int) : p ∣ x % p - x := by
  refine ⟨-(x / p), ?_⟩
  have := Int.mul_ediv_add_emod x p
  grind
theorem Lin.coord (p : Int) (m j : Nat) : Lin p m fun r => nth r j := by
  refine ⟨fun k r o hr ho => ?_, fun k r _ => ?_⟩
  · rw [nth_less (by omega)]; exact dvd_emod _ _
  · rw [nth_scale, show k * nth r j = nth r j * k from Int.mul_comm _ _]; exact dvd_emod _ _
theorem Lin.add {p : Int} {m : Nat} {f g : List Int → Int} (hf : Lin p m f) (hg : Lin p m g) : Lin p m fun r => f r + g r := by
  refine ⟨fun k r o hr ho => ?_, fun k r hr => ?_⟩
  · have := Int.dvd_add (hf.less k r o hr ho) (hg.less k r o hr ho); grind
  · have := Int.dvd_add (hf.scale k r hr) (hg.scale k r hr); grind
theorem Lin.mul {p : Int} {m : Nat} {f : List Int → Int} (hf : Lin p m f) (c : Int) : Lin p m fun r => f r * c := by
  refine ⟨fun k r o hr ho => ?_, fun k r hr => ?_⟩
  · obtain ⟨t, ht⟩ := hf.less k r o hr ho; exact ⟨t * c, by grind⟩
  · obtain ⟨t, ht⟩ := hf.scale k r hr; exact ⟨t * c, by grind⟩
theorem Lin.zero (p : Int) (m : Nat) : Lin p m fun _ => 0 := ⟨fun k r o _ _ => ⟨0, by simp⟩, fun k r _ => ⟨0, by simp⟩⟩

/-- The sum over a list. -/
def sumL {α : Type} (L : List α) (f : α → Int) : Int := (L.map f).sum
theorem sumL_cons {α : Type} (a : α) (L : List α) (f : α → Int) : sumL (a :: L) f = f a + sumL L f := by simp [sumL]
theorem sumL_zero {α : Type} {L : List α} {f : α → Int} (h : ∀ a ∈ L, f a = 0) : sumL L f = 0 := by
  induction L with
  | nil => rfl
  | cons a L ih => rw [sumL_cons, h a (by simp), ih fun b hb => h b (by simp [hb])]; rfl
theorem sumL_one {α : Type} {L : List α} {f : α → Int} {a : α} (hn : L.Nodup) (ha : a ∈ L) (h : ∀ b ∈ L, b ≠ a → f b = 0) : sumL L f = f a := by
  induction L with
  | nil => simp at ha
  | cons b L ih =>
    rw [sumL_cons]
    obtain ⟨h1, h2⟩ := List.nodup_cons.1 hn
    rcases List.mem_cons.1 ha with rfl | ha
    · rw [sumL_zero fun c hc => h c (by simp [hc]) fun e => h1 (e ▸ hc)]; omega
    · rw [h b (by simp) fun e => h1 (e ▸ ha), ih h2 ha fun c hc => h c (by simp [hc])]; omega
theorem Lin.sum {α : Type} {p : Int} {m : Nat} (L : List α) (g : α → List Int → Int) (h : ∀ a ∈ L, Lin p m (g a)) : Lin p m fun r => sumL L fun a => g a r := by
  induction L with
  | nil => exact Lin.zero p m
  | cons a L ih =>
    simp only [sumL_cons]
    exact (h a (by simp)).add (ih fun b hb => h b (by simp [hb]))

/-- A reduced list of rows. -/
structure Reduced (p : Int) (m : Nat) (L : List (List Int)) : Prop where
  inP : ∀ r ∈ L, InP p m r
  lt : ∀ r ∈ L, leadN r < m
  one : ∀ r ∈ L, nth r (leadN r) = 1
  asc : L.Pairwise fun a b => leadN a < leadN b
  off : ∀ a ∈ L, ∀ b ∈ L, leadN a ≠ leadN b → nth b (leadN a) = 0
def Ann (p : Int) (f : List Int → Int) (L : List (List Int)) : Prop := ∀ r ∈ L, p ∣ f r

theorem Reduced.nodup {p : Int} {m : Nat} {L : List (List Int)} (h : Reduced p m L) : L.Nodup :=
  h.asc.imp fun hlt e => by subst e; omega
theorem Reduced.inj {p : Int} {m : Nat} {L : List (List Int)} (h : Reduced p m L) {a b : List Int} (ha : a ∈ L) (hb : b ∈ L) (e : leadN a = leadN b) : a = b := by
  have := h.asc
  clear h
  induction L with
  | nil => simp at ha
  | cons c L ih =>
    obtain ⟨h1, h2⟩ := List.pairwise_cons.1 this
    rcases List.mem_cons.1 ha with e1 | m1 <;> rcases List.mem_cons.1 hb with e2 | m2
    · rw [e1, e2]
    · have := h1 b m2; rw [← e1] at this; omega
    · have := h1 a m1; rw [← e2] at this; omega
    · exact ih m1 m2 h2

theorem sorted_unique {α : Type} (key : α → Nat) : ∀ (L M : List α), L.Pairwise (fun a b => key a < key b) → M.Pairwise (fun a b => key a < key b) → (∀ x, x ∈ L ↔ x ∈ M) → L = M
  | [], [], _, _, _ => rfl
  | [], b :: M, _, _, h => by have := (h b).2 (by simp); simp at this
  | a :: L, [], _, _, h => by have := (h a).1 (by simp); simp at this
  | a :: L, b :: M, hL, hM, h => by
    obtain ⟨l1, l2⟩ := List.pairwise_cons.1 hL
    obtain ⟨m1, m2⟩ := List.pairwise_cons.1 hM
    have hab : a = b := by
      rcases List.mem_cons.1 ((h a).1 (by simp)) with e | e
      · exact e
      · rcases List.mem_cons.1 ((h b).2 (by simp)) with e' | e'
        · exact e'.symm
        · have := m1 a e; have := l1 b e'; omega
    subst hab
    congr 1
    refine sorted_unique key L M l2 m2 fun x => ⟨fun hx => ?_, fun hx => ?_⟩
    · rcases List.mem_cons.1 ((h x).1 (by simp [hx])) with e | e
      · have := l1 x hx; rw [e] at this; omega
      · exact e
    · rcases List.mem_cons.1 ((h x).2 (by simp [hx])) with e | e
      · have := m1 x hx; rw [e] at this; omega
      · exact e

theorem comb {p : Int} {m : Nat} {L L' : List (List Int)} (h : Reduced p m L) (hA : ∀ f, Lin p m f → Ann p f L → Ann p f L') {r : List Int} (hr : r ∈ L') (j : Nat) :
    p ∣ nth r j - sumL L fun q => nth r (leadN q) * nth q j := by
  have hl : Lin p m fun r => nth r j + (sumL L fun q => nth r (leadN q) * nth q j) * (-1) :=
    (Lin.coord p m j).add ((Lin.sum L (fun q r => nth r (leadN q) * nth q j) fun q _ => (Lin.coord p m _).mul _).mul _)
  have := hA _ hl (fun q hq => ?_) r hr
  · simp only [] at this
    rwa [show ∀ x y : Int, x + y * (-1) = x - y from fun x y => by omega] at this
  · show p ∣ nth q j + (sumL L fun q' => nth q (leadN q') * nth q' j) * (-1)
    rw [sumL_one h.nodup hq fun b hb hne => by rw [h.off b hb q hq fun e => hne (h.inj hb hq e)]; omega, h.one q hq]
    exact ⟨0, by omega⟩

theorem lead_mem {p : Int} (hp : 2 ≤ p) {m : Nat} {L L' : List (List Int)} (h : Reduced p m L) (h' : Reduced p m L') (hA : ∀ f, Lin p m f → Ann p f L → Ann p f L') {r : List Int} (hr : r ∈ L') :
    ∃ q ∈ L, leadN q = leadN r := by
  refine Classical.byContradiction fun hno => ?_
  have := comb h hA hr (leadN r)
  rw [sumL_zero fun q hq => ?_, h'.one r hr] at this
  · have := Int.le_of_dvd (by omega) this; omega
  · rcases Nat.lt_trichotomy (leadN q) (leadN r) with hlt | e | hgt
    · rw [lead_before hlt]; omega
    · exact absurd ⟨q, hq, e⟩ hno
    · rw [lead_before hgt]; omega

theorem mem_of {p : Int} (hp : 2 ≤ p) {m : Nat} {L L' : List (List Int)} (h : Reduced p m L) (h' : Reduced p m L') (hA : ∀ f, Lin p m f → (Ann p f L ↔ Ann p f L')) {r : List Int} (hr : r ∈ L') : r ∈ L := by
  obtain ⟨q, hq, hlead⟩ := lead_mem hp h h' (fun f hf => (hA f hf).1) hr
  suffices r = q by rw [this]; exact hq
  have i1 := h'.inP r hr
  have i2 := h.inP q hq
  refine ext_nth (by rw [i1.1, i2.1]) fun j _ => ?_
  have := comb h (fun f hf => (hA f hf).1) hr j
  rw [sumL_one h.nodup hq fun b hb hne => ?_, hlead, h'.one r hr] at this
  · have b1 := i1.nth (by omega) j
    have b2 := i2.nth (by omega) j
    obtain ⟨t, ht⟩ := this
    have : t = 0 := by
      rcases Int.lt_trichotomy t 0 with h0 | h0 | h0
      · have : p * t ≤ p * (-1) := Int.mul_le_mul_of_nonneg_left (by omega) (by omega); omega
      · exact h0
      · have : p * 1 ≤ p * t := Int.mul_le_mul_of_nonneg_left (by omega) (by omega); omega
    subst this; omega
  · obtain ⟨b', hb', e⟩ := lead_mem hp h' h (fun f hf => (hA f hf).2) hb
    rw [← e, h'.off b' hb' r hr fun e2 => hne (h.inj hb hq (by omega))]; omega

/-- REDUCED LISTS ARE TOLD BY WHAT IS 0 ON THEM. -/
theorem unique {p : Int} (hp : 2 ≤ p) {m : Nat} {L L' : List (List Int)} (h : Reduced p m L) (h' : Reduced p m L') (hA : ∀ f, Lin p m f → (Ann p f L ↔ Ann p f L')) : L = L' :=
  sorted_unique leadN L L' h.asc h'.asc fun _ => ⟨fun hx => mem_of hp h' h (fun f hf => (hA f hf).symm) hx, fun hx => mem_of hp h h' hA hx⟩

/-- What is left of a row if multiples of the rows of a list are taken away. -/
def restL (p : Int) (L : List (List Int)) (r : List Int) : List Int := L.foldl (fun out q => if nth out (leadN q) = 0 then out else lessL p (nth out (leadN q)) out q) r
/-- The number with which x makes 1. -/
def invA (p x : Int) : Nat → Int → Int
  | 0, _ => 0
  | f + 1, k => if k * (x % p) % p = 1 then k else invA p x f (k + 1)
def invP (p x : Int) : Int := invA p x (p - 1).toNat 1
/-- A row is put into a reduced list. -/
def insL (p : Int) (own : List Int) (c : Nat) : Bool → List (List Int) → List (List Int)
  | true, [] => []
  | false, [] => [own]
  | true, q :: L => lessL p (nth q c) q own :: insL p own c true L
  | false, q :: L => if c < leadN q then own :: lessL p (nth q c) q own :: insL p own c true L else lessL p (nth q c) q own :: insL p own c false L
def stepL (p : Int) (L : List (List Int)) (r : List Int) : List (List Int) :=
  if leadN (restL p L r) < (restL p L r).length then insL p (scaleL p (invP p (nth (restL p L r) (leadN (restL p L r)))) (restL p L r)) (leadN (restL p L r)) false L else L
/-- The reduced list of some rows. -/
def echL (p : Int) (rows : List (List Int)) : List (List Int) := rows.foldl (stepL p) []

def PrimeS (p : Int) : Prop := p = 2 ∨ p = 3 ∨ p = 5 ∨ p = 7 ∨ p = 11 ∨ p = 13
theorem PrimeS.le {p : Int} (h : PrimeS p) : 2 ≤ p ∧ p ≤ 13 := by unfold PrimeS at h; omega
theorem invP_ok {p : Int} (hp : PrimeS p) {x : Int} (h0 : 0 < x) (h1 : x < p) : x * invP p x % p = 1 ∧ 1 ≤ invP p x ∧ invP p x < p := by
  have key : ∀ x : Fin 13, ∀ p ∈ [(2 : Int), 3, 5, 7, 11, 13], (0 < x.val ∧ (x.val : Int) < p) → (x.val : Int) * invP p x.val % p = 1 ∧ 1 ≤ invP p x.val ∧ invP p x.val < p := by decide
  obtain ⟨n, rfl⟩ := Int.eq_ofNat_of_zero_le (Int.le_of_lt h0)
  have := hp.le
  exact key ⟨n, by omega⟩ p (by unfold PrimeS at hp; simp; omega) ⟨by simpa using h0, h1⟩

theorem restL_spec {p : Int} (hp : 2 ≤ p) {m : Nat} : ∀ (L D : List (List Int)) (r : List Int), (∀ q ∈ L, InP p m q ∧ leadN q < m ∧ nth q (leadN q) = 1) → (∀ d ∈ D, ∀ q ∈ L, nth q (leadN d) = 0) → (L.Pairwise fun a b => nth b (leadN a) = 0) → InP p m r → (∀ d ∈ D, nth r (leadN d) = 0) →
    InP p m (restL p L r) ∧ (∀ d ∈ D ++ L, nth (restL p L r) (leadN d) = 0) ∧ ∀ f, Lin p m f → Ann p f L → (p ∣ f (restL p L r) ↔ p ∣ f r)
  | [], D, r, _, _, _, hr, h0 => ⟨hr, by rw [List.append_nil]; exact h0, fun f _ _ => Iff.rfl⟩
  | q :: L, D, r, h1, hD, hA, hr, h0 => by
    obtain ⟨a1, a2⟩ := List.pairwise_cons.1 hA
    obtain ⟨q1, q2, q3⟩ := h1 q (by simp)
    have hlen : r.length = q.length := by rw [hr.1, q1.1]
    obtain ⟨s, hs, s1, s2, s3⟩ : ∃ s, s = (if nth r (leadN q) = 0 then r else lessL p (nth r (leadN q)) r q) ∧ InP p m s ∧ (∀ d ∈ D ++ [q], nth s (leadN d) = 0) ∧ ∀ f, Lin p m f → p ∣ f q → (p ∣ f s ↔ p ∣ f r) := by
      refine ⟨_, rfl, ?_⟩
      split
      · rename_i hz
        refine ⟨hr, fun d hd => ?_, fun f _ _ => Iff.rfl⟩
        rcases List.mem_append.1 hd with hd | hd
        · exact h0 d hd
        · simp at hd; subst hd; exact hz
      · refine ⟨inP_less (by omega) hr q1, fun d hd => ?_, fun f hf hq => ?_⟩
        · rw [nth_less hlen]
          rcases List.mem_append.1 hd with hd | hd
          · rw [h0 d hd, hD d hd q (by simp)]; simp
          · simp at hd; subst hd; rw [q3]; simp
        · obtain ⟨t, ht⟩ := hf.less (nth r (leadN q)) r q hr.1 q1.1
          obtain ⟨u, hu⟩ := hq
          constructor
          · rintro ⟨v, hv⟩; exact ⟨v + nth r (leadN q) * u - t, by grind⟩
          · rintro ⟨v, hv⟩; exact ⟨v - nth r (leadN q) * u + t, by grind⟩
    have ih := restL_spec hp L (D ++ [q]) s (fun q' hq' => h1 q' (by simp [hq'])) (fun d hd q' hq' => by
      rcases List.mem_append.1 hd with hd | hd
      · exact hD d hd q' (by simp [hq'])
      · simp at hd; subst hd; exact a1 q' hq') a2 s1 s2
    have e : restL p (q :: L) r = restL p L s := by rw [hs]; rfl
    rw [e]
    refine ⟨ih.1, fun d hd => ih.2.1 d (by simpa using hd), fun f hf hAn => ?_⟩
    rw [ih.2.2 f hf fun x hx => hAn x (by simp [hx])]
    exact s3 f hf (hAn q (by simp))

theorem insL_true (p : Int) (own : List Int) (c : Nat) (L : List (List Int)) : insL p own c true L = L.map fun q => lessL p (nth q c) q own := by
  induction L with
  | nil => rfl
  | cons q L ih => rw [insL, ih]; rfl
theorem mem_insL {p : Int} {own : List Int} {c : Nat} {x : List Int} : ∀ (L : List (List Int)), x ∈ insL p own c false L ↔ x = own ∨ ∃ q ∈ L, x = lessL p (nth q c) q own
  | [] => by simp [insL]
  | q :: L => by
    rw [insL]
    split
    · rw [insL_true]; simp [eq_comm]
    · rw [List.mem_cons, mem_insL L]; simp
      constructor
      · rintro (h | h | h)
        · exact .inr (.inl h)
        · exact .inl h
        · exact .inr (.inr h)
      · rintro (h | h | h)
        · exact .inr (.inl h)
        · exact .inl h
        · exact .inr (.inr h)

/-- What the row that is put in is like. -/
structure New (p : Int) (m : Nat) (L : List (List Int)) (own : List Int) (c : Nat) : Prop where
  inP : InP p m own
  lt : c < m
  lead : leadN own = c
  one : nth own c = 1
  off : ∀ q ∈ L, nth own (leadN q) = 0

theorem less_lead {p : Int} (hp : 2 ≤ p) {m : Nat} {L : List (List Int)} (h : Reduced p m L) {own : List Int} {c : Nat} (hn : New p m L own c) {q : List Int} (hq : q ∈ L) :
    leadN (lessL p (nth q c) q own) = leadN q ∧ leadN q ≠ c ∧ nth (lessL p (nth q c) q own) (leadN q) = 1 := by
  have hl : q.length = own.length := by rw [(h.inP q hq).1, hn.inP.1]
  have h1 : nth (lessL p (nth q c) q own) (leadN q) = 1 := by
    rw [nth_less hl, hn.off q hq, h.one q hq]; simp; exact Int.emod_eq_of_lt (by omega) (by omega)
  refine ⟨lead_eq (fun j hj => ?_) (by rw [h1]; omega), fun e => ?_, h1⟩
  · rw [nth_less hl, lead_before hj]
    rcases Nat.lt_or_ge j c with hjc | hjc
    · rw [lead_before (r := own) (by rw [hn.lead]; exact hjc)]; simp
    · rw [lead_before (r := q) (j := c) (by omega)]; simp
  · have := hn.off q hq; rw [e, hn.one] at this; omega

theorem asc_insL {p : Int} (hp : 2 ≤ p) {m : Nat} {own : List Int} {c : Nat} : ∀ (L : List (List Int)), Reduced p m L → New p m L own c → (insL p own c false L).Pairwise fun a b => leadN a < leadN b
  | [], _, _ => by simp [insL]
  | q :: L, h, hn => by
    obtain ⟨h1, h2⟩ := List.pairwise_cons.1 h.asc
    have hL : Reduced p m L := ⟨fun r hr => h.inP r (by simp [hr]), fun r hr => h.lt r (by simp [hr]), fun r hr => h.one r (by simp [hr]), h2, fun a ha b hb => h.off a (by simp [ha]) b (by simp [hb])⟩
    have hnL : New p m L own c := ⟨hn.inP, hn.lt, hn.lead, hn.one, fun r hr => hn.off r (by simp [hr])⟩
    obtain ⟨q1, q2, _⟩ := less_lead hp h hn (q := q) (by simp)
    rw [insL]
    split
    · rename_i hc
      rw [insL_true]
      refine List.pairwise_cons.2 ⟨fun x hx => ?_, List.pairwise_cons.2 ⟨fun x hx => ?_, ?_⟩⟩
      · rw [hn.lead]
        rcases List.mem_cons.1 hx with rfl | hx
        · rw [q1]; exact hc
        · obtain ⟨y, hy, rfl⟩ := List.mem_map.1 hx
          rw [(less_lead hp h hn (q := y) (by simp [hy])).1]; have := h1 y hy; omega
      · obtain ⟨y, hy, rfl⟩ := List.mem_map.1 hx
        rw [q1, (less_lead hp h hn (q := y) (by simp [hy])).1]; exact h1 y hy
      · refine List.pairwise_map.2 ((List.Pairwise.and_mem.1 h2).imp fun ⟨ha, hb, hab⟩ => ?_)
        rw [(less_lead hp hL hnL ha).1, (less_lead hp hL hnL hb).1]; exact hab
    · rename_i hc
      refine List.pairwise_cons.2 ⟨fun x hx => ?_, asc_insL hp L hL hnL⟩
      rw [q1]
      rcases (mem_insL L).1 hx with rfl | ⟨y, hy, rfl⟩
      · rw [hn.lead]; omega
      · rw [(less_lead hp hL hnL hy).1]; exact h1 y hy

theorem reduced_insL {p : Int} (hp : 2 ≤ p) {m : Nat} {own : List Int} {c : Nat} {L : List (List Int)} (h : Reduced p m L) (hn : New p m L own c) : Reduced p m (insL p own c false L) := by
  have key : ∀ r ∈ insL p own c false L, InP p m r ∧ leadN r < m ∧ nth r (leadN r) = 1 := fun r hr => by
    rcases (mem_insL L).1 hr with rfl | ⟨q, hq, rfl⟩
    · exact ⟨hn.inP, by rw [hn.lead]; exact hn.lt, by rw [hn.lead]; exact hn.one⟩
    · obtain ⟨a, _, b⟩ := less_lead hp h hn hq
      exact ⟨inP_less (by omega) (h.inP q hq) hn.inP, by rw [a]; exact h.lt q hq, by rw [a]; exact b⟩
  refine ⟨fun r hr => (key r hr).1, fun r hr => (key r hr).2.1, fun r hr => (key r hr).2.2, asc_insL hp L h hn, fun a ha b hb hne => ?_⟩
  have hl : ∀ q ∈ L, q.length = own.length := fun q hq => by rw [(h.inP q hq).1, hn.inP.1]
  rcases (mem_insL L).1 ha with rfl | ⟨x, hx, rfl⟩ <;> rcases (mem_insL L).1 hb with rfl | ⟨y, hy, rfl⟩
  · exact absurd rfl hne
  · rw [hn.lead, nth_less (hl y hy), hn.one]; simp
  · rw [(less_lead hp h hn hx).1]; exact hn.off x hx
  · rw [(less_lead hp h hn hx).1, (less_lead hp h hn hy).1] at hne
    rw [(less_lead hp h hn hx).1, nth_less (hl y hy), hn.off x hx, h.off x hx y hy hne]; simp

theorem zeros {p : Int} {m : Nat} {r : List Int} (hr : InP p m r) (h : ¬ leadN r < r.length) {f : List Int → Int} (hf : Lin p m f) : p ∣ f r := by
  have e : lessL p 1 r r = r := by
    refine ext_nth (by rw [len_less rfl]) fun j hj => ?_
    rw [len_less rfl] at hj
    rw [nth_less rfl, lead_before (r := r) (j := j) (by omega)]; simp
  have := hf.less 1 r r hr.1 hr.1
  rw [e] at this
  obtain ⟨t, ht⟩ := this
  exact ⟨t, by omega⟩

theorem stepL_spec {p : Int} (hp : PrimeS p) {m : Nat} {L : List (List Int)} {r : List Int} (h : Reduced p m L) (hr : InP p m r) :
    Reduced p m (stepL p L r) ∧ ∀ f, Lin p m f → (Ann p f (stepL p L r) ↔ Ann p f L ∧ p ∣ f r) := by
  obtain ⟨p2, _⟩ := hp.le
  obtain ⟨s1, s2, s3⟩ := restL_spec p2 (m := m) L [] r (fun q hq => ⟨h.inP q hq, h.lt q hq, h.one q hq⟩) (fun d hd => by simp at hd) ((List.Pairwise.and_mem.1 h.asc).imp fun ⟨ha, hb, hab⟩ => h.off _ ha _ hb (by omega)) hr (fun d hd => by simp at hd)
  simp only [List.nil_append] at s2
  unfold stepL
  generalize restL p L r = s at *
  split
  · rename_i hlt
    have hne := lead_at hlt
    obtain ⟨b1, b2⟩ := s1.nth (by omega) (leadN s)
    obtain ⟨i1, i2, i3⟩ := invP_ok hp (x := nth s (leadN s)) (by omega) b2
    generalize invP p (nth s (leadN s)) = k at *
    have hn : New p m L (scaleL p k s) (leadN s) := by
      refine ⟨inP_scale (by omega) s1, by rw [← s1.1]; exact hlt, ?_, by rw [nth_scale]; exact i1, fun q hq => by rw [nth_scale, s2 q hq]; simp⟩
      exact lead_eq (fun j hj => by rw [nth_scale, lead_before hj]; simp) (by rw [nth_scale, i1]; omega)
    refine ⟨reduced_insL p2 h hn, fun f hf => ?_⟩
    have hsc := hf.scale k s s1.1
    have hown : p ∣ f (scaleL p k s) ↔ p ∣ f s := by
      obtain ⟨t, ht⟩ := hsc
      constructor
      · rintro ⟨u, hu⟩
        obtain ⟨z, hz⟩ := dvd_emod p (nth s (leadN s) * k)
        rw [i1] at hz
        exact ⟨nth s (leadN s) * u - nth s (leadN s) * t + z * f s, by grind⟩
      · rintro ⟨u, hu⟩; exact ⟨t + k * u, by grind⟩
    constructor
    · intro hA
      have ho : p ∣ f (scaleL p k s) := hA _ ((mem_insL L).2 (.inl rfl))
      have hL : Ann p f L := fun q hq => by
        obtain ⟨u, hu⟩ := hA _ ((mem_insL L).2 (.inr ⟨q, hq, rfl⟩))
        obtain ⟨t, ht⟩ := hf.less (nth q (leadN s)) q (scaleL p k s) (h.inP q hq).1 hn.inP.1
        obtain ⟨v, hv⟩ := ho
        exact ⟨u - t + nth q (leadN s) * v, by grind⟩
      exact ⟨hL, (s3 f hf hL).1 (hown.1 ho)⟩
    · rintro ⟨hL, hfr⟩ x hx
      have ho := hown.2 ((s3 f hf hL).2 hfr)
      rcases (mem_insL L).1 hx with rfl | ⟨q, hq, rfl⟩
      · exact ho
      · obtain ⟨u, hu⟩ := hL q hq
        obtain ⟨t, ht⟩ := hf.less (nth q (leadN s)) q (scaleL p k s) (h.inP q hq).1 hn.inP.1
        obtain ⟨v, hv⟩ := ho
        exact ⟨u + t - nth q (leadN s) * v, by grind⟩
  · rename_i hlt
    refine ⟨h, fun f hf => ⟨fun hA => ⟨hA, (s3 f hf hA).1 (zeros s1 hlt hf)⟩, fun hA => hA.1⟩⟩

theorem echL_spec {p : Int} (hp : PrimeS p) {m : Nat} (rows : List (List Int)) (hr : ∀ r ∈ rows, InP p m r) :
    Reduced p m (echL p rows) ∧ ∀ f, Lin p m f → (Ann p f (echL p rows) ↔ Ann p f rows) := by
  have key : ∀ (rows L : List (List Int)), (∀ r ∈ rows, InP p m r) → Reduced p m L → Reduced p m (rows.foldl (stepL p) L) ∧ ∀ f, Lin p m f → (Ann p f (rows.foldl (stepL p) L) ↔ Ann p f L ∧ Ann p f rows) := by
    intro rows
    induction rows with
    | nil => intro L _ h; exact ⟨h, fun f _ => ⟨fun hA => ⟨hA, fun r hr => by simp at hr⟩, fun hA => hA.1⟩⟩
    | cons r rows ih =>
      intro L hr h
      obtain ⟨a1, a2⟩ := stepL_spec hp h (hr r (by simp))
      obtain ⟨b1, b2⟩ := ih (stepL p L r) (fun x hx => hr x (by simp [hx])) a1
      refine ⟨b1, fun f hf => ?_⟩
      rw [List.foldl_cons, b2 f hf, a2 f hf]
      constructor
      · rintro ⟨⟨x, y⟩, z⟩
        refine ⟨x, fun s hs => ?_⟩
        rcases List.mem_cons.1 hs with rfl | hs
        · exact y
        · exact z s hs
      · rintro ⟨x, y⟩
        exact ⟨⟨x, y r (by simp)⟩, fun s hs => y s (by simp [hs])⟩
  obtain ⟨a, b⟩ := key rows [] hr ⟨fun r hr => by simp at hr, fun r hr => by simp at hr, fun r hr => by simp at hr, List.Pairwise.nil, fun r hr => by simp at hr⟩
  exact ⟨a, fun f hf => (b f hf).trans ⟨fun h => h.2, fun h => ⟨fun r hr => by simp at hr, h⟩⟩⟩


/-- The row of m numbers that f tells. -/
def rowF (m : Nat) (f : Nat → Int) : List Int := (List.range m).map f
theorem len_rowF (m : Nat) (f : Nat → Int) : (rowF m f).length = m := by simp [rowF]
theorem nth_rowF {m j : Nat} (f : Nat → Int) (h : j < m) : nth (rowF m f) j = f j := by
  rw [nth_lt (by rw [len_rowF]; exact h)]; simp [rowF]
/-- A sum of multiples of rows, modulo p. -/
def combL (p : Int) (m : Nat) : List (Int × List Int) → List Int
  | [] => List.replicate m 0
  | x :: L => lessL p (-x.1) (combL p m L) x.2
theorem inP_zero {p : Int} (hp : 0 < p) (m : Nat) : InP p m (List.replicate m 0) := ⟨by simp, fun a ha => by have := (List.mem_replicate.1 ha).2; omega⟩
theorem nth_zero (m j : Nat) : nth (List.replicate m 0) j = 0 := by
  by_cases h : j < m
  · rw [nth_lt (by simpa using h)]; simp
  · rw [nth_ge (by simp; omega)]
theorem combL_spec {p : Int} (hp : 0 < p) {m : Nat} : ∀ (L : List (Int × List Int)), (∀ x ∈ L, InP p m x.2) →
    InP p m (combL p m L) ∧ (∀ j, p ∣ nth (combL p m L) j - sumL L fun x => x.1 * nth x.2 j) ∧ ∀ f, Lin p m f → p ∣ f (combL p m L) - sumL L fun x => x.1 * f x.2
  | [], _ => ⟨inP_zero hp m, fun j => by rw [combL, nth_zero]; exact ⟨0, by simp [sumL]⟩, fun f hf => by
    have := hf.scale 0 (List.replicate m 0) (by simp)
    rw [show scaleL p 0 (List.replicate m 0) = List.replicate m 0 by simp [scaleL]] at this
    simpa [combL, sumL] using this⟩
  | x :: L, h => by
    obtain ⟨i1, i2, i3⟩ := combL_spec hp L fun y hy => h y (by simp [hy])
    have hx := h x (by simp)
    have hl : (combL p m L).length = x.2.length := by rw [i1.1, hx.1]
    refine ⟨inP_less hp i1 hx, fun j => ?_, fun f hf => ?_⟩
    · rw [combL, nth_less hl, sumL_cons]
      obtain ⟨t, ht⟩ := i2 j
      obtain ⟨u, hu⟩ := dvd_emod p (nth (combL p m L) j - -x.1 * nth x.2 j)
      exact ⟨t + u, by grind⟩
    · rw [combL, sumL_cons]
      obtain ⟨t, ht⟩ := i3 f hf
      obtain ⟨u, hu⟩ := hf.less (-x.1) (combL p m L) x.2 i1.1 hx.1
      exact ⟨t + u, by grind⟩
theorem eq_of_dvd {p a b : Int} (ha : 0 ≤ a ∧ a < p) (hb : 0 ≤ b ∧ b < p) (h : p ∣ a - b) : a = b := by
  obtain ⟨t, ht⟩ := h
  have : t = 0 := by
    rcases Int.lt_trichotomy t 0 with h0 | h0 | h0
    · have : p * t ≤ p * (-1) := Int.mul_le_mul_of_nonneg_left (by omega) (by omega); omega
    · exact h0
    · have : p * 1 ≤ p * t := Int.mul_le_mul_of_nonneg_left (by omega) (by omega); omega
  subst this; omega
theorem sumL_dvd {α : Type} {p : Int} {L : List α} {f : α → Int} (h : ∀ a ∈ L, p ∣ f a) : p ∣ sumL L f := by
  induction L with
  | nil => exact ⟨0, by simp [sumL]⟩
  | cons a L ih => rw [sumL_cons]; exact Int.dvd_add (h a (by simp)) (ih fun b hb => h b (by simp [hb]))
/-- A row that is a sum of multiples of others is 0 where these are. -/
theorem ann_comb {p : Int} (hp : 0 < p) {m : Nat} {r : List Int} (hr : InP p m r) (L : List (Int × List Int)) (hL : ∀ x ∈ L, InP p m x.2) (h : ∀ j, j < m → p ∣ nth r j - sumL L fun x => x.1 * nth x.2 j) {f : List Int → Int} (hf : Lin p m f) (hA : ∀ x ∈ L, p ∣ f x.2) : p ∣ f r := by
  obtain ⟨i1, i2, i3⟩ := combL_spec hp L hL
  have e : r = combL p m L := ext_nth (by rw [hr.1, i1.1]) fun j hj => eq_of_dvd (hr.nth hp j) (i1.nth hp j) (by
    obtain ⟨t, ht⟩ := i2 j
    obtain ⟨u, hu⟩ := h j (by rw [← hr.1]; exact hj)
    exact ⟨u - t, by grind⟩)
  obtain ⟨t, ht⟩ := i3 f hf
  obtain ⟨u, hu⟩ := sumL_dvd (p := p) (L := L) (f := fun x => x.1 * f x.2) fun x hx => by
    obtain ⟨v, hv⟩ := hA x hx; exact ⟨x.1 * v, by grind⟩
  rw [e]; exact ⟨t + u, by grind⟩

/-- The rows of a matrix with the unit behind it. -/
def gRow (n : Nat) (g : Nat → Nat → Int) (i : Nat) : List Int := rowF (2 * n) fun j => if j < n then g i j else if j - n = i then 1 else 0
def gRows (n : Nat) (g : Nat → Nat → Int) : List (List Int) := (List.range n).map (gRow n g)
/-- The rows of the unit with a matrix behind it. -/
def uRow (n : Nat) (H : Nat → Nat → Int) (i : Nat) : List Int := rowF (2 * n) fun j => if j < n then (if j = i then 1 else 0) else H i (j - n)
def uRows (n : Nat) (H : Nat → Nat → Int) : List (List Int) := (List.range n).map (uRow n H)
/-- Numbers modulo p inside of a size. -/
def MatP (p : Int) (n : Nat) (g : Nat → Nat → Int) : Prop := ∀ i, i < n → ∀ j, j < n → 0 ≤ g i j ∧ g i j < p
theorem inP_rowF {p : Int} {m : Nat} {f : Nat → Int} (h : ∀ j, j < m → 0 ≤ f j ∧ f j < p) : InP p m (rowF m f) :=
  ⟨len_rowF m f, fun a ha => by obtain ⟨j, hj, rfl⟩ := List.mem_map.1 ha; exact h j (by simpa using hj)⟩
theorem gRow_inP {p : Int} (hp : 2 ≤ p) {n : Nat} {g : Nat → Nat → Int} (hg : MatP p n g) {i : Nat} (hi : i < n) : InP p (2 * n) (gRow n g i) := inP_rowF fun j hj => by
  split
  · exact hg i hi j (by omega)
  · split <;> omega
theorem uRow_inP {p : Int} (hp : 2 ≤ p) {n : Nat} {H : Nat → Nat → Int} (hH : MatP p n H) {i : Nat} (hi : i < n) : InP p (2 * n) (uRow n H i) := inP_rowF fun j hj => by
  split
  · split <;> omega
  · exact hH i hi _ (by omega)
theorem uRow_lead {n : Nat} {H : Nat → Nat → Int} {i : Nat} (hi : i < n) : leadN (uRow n H i) = i :=
  lead_eq (fun j hj => by rw [uRow, nth_rowF _ (by omega), if_pos (by omega), if_neg (by omega)]) (by rw [uRow, nth_rowF _ (by omega), if_pos (by omega), if_pos rfl]; omega)
theorem uRow_at {n : Nat} {H : Nat → Nat → Int} {i j : Nat} (hj : j < n) : nth (uRow n H i) j = if j = i then 1 else 0 := by rw [uRow, nth_rowF _ (by omega), if_pos hj]

theorem uRows_reduced {p : Int} (hp : 2 ≤ p) {n : Nat} {H : Nat → Nat → Int} (hH : MatP p n H) : Reduced p (2 * n) (uRows n H) := by
  have mem : ∀ r ∈ uRows n H, ∃ i, i < n ∧ r = uRow n H i := fun r hr => by
    obtain ⟨i, hi, rfl⟩ := List.mem_map.1 hr; exact ⟨i, by simpa using hi, rfl⟩
  refine ⟨fun r hr => ?_, fun r hr => ?_, fun r hr => ?_, ?_, fun a ha b hb hne => ?_⟩
  · obtain ⟨i, hi, rfl⟩ := mem r hr; exact uRow_inP hp hH hi
  · obtain ⟨i, hi, rfl⟩ := mem r hr; rw [uRow_lead hi]; omega
  · obtain ⟨i, hi, rfl⟩ := mem r hr; rw [uRow_lead hi, uRow_at hi, if_pos rfl]
  · refine List.pairwise_map.2 ((List.Pairwise.and_mem.1 List.pairwise_lt_range).imp fun ⟨ha, hb, hab⟩ => ?_)
    rw [uRow_lead (by simpa using ha), uRow_lead (by simpa using hb)]; exact hab
  · obtain ⟨i, hi, rfl⟩ := mem a ha
    obtain ⟨k, hk, rfl⟩ := mem b hb
    rw [uRow_lead hi, uRow_lead hk] at hne
    rw [uRow_lead hi, uRow_at hi, if_neg hne]

def dl (i j : Nat) : Int := if j = i then 1 else 0
/-- g h is the unit, modulo p. -/
def Inv (p : Int) (n : Nat) (g h : Nat → Nat → Int) : Prop := ∀ i, i < n → ∀ j, j < n → p ∣ (sumL (List.range n) fun k => g i k * h k j) - dl i j

theorem ech_unit {p : Int} (hp : PrimeS p) {n : Nat} {g H : Nat → Nat → Int} (hg : MatP p n g) (hH : MatP p n H) (h1 : Inv p n g H) (h2 : Inv p n H g) : echL p (gRows n g) = uRows n H := by
  obtain ⟨p2, _⟩ := hp.le
  have mg : ∀ r ∈ gRows n g, ∃ i, i < n ∧ r = gRow n g i := fun r hr => by
    obtain ⟨i, hi, rfl⟩ := List.mem_map.1 hr; exact ⟨i, by simpa using hi, rfl⟩
  have mu : ∀ r ∈ uRows n H, ∃ i, i < n ∧ r = uRow n H i := fun r hr => by
    obtain ⟨i, hi, rfl⟩ := List.mem_map.1 hr; exact ⟨i, by simpa using hi, rfl⟩
  obtain ⟨e1, e2⟩ := echL_spec hp (m := 2 * n) (gRows n g) fun r hr => by obtain ⟨i, hi, rfl⟩ := mg r hr; exact gRow_inP p2 hg hi
  have sumMap : ∀ (c : Nat → Int) (R : Nat → List Int) (F : Int × List Int → Int), sumL ((List.range n).map fun k => (c k, R k)) F = sumL (List.range n) fun k => F (c k, R k) := fun c R F => by simp [sumL, List.map_map, Function.comp_def]
  have single : ∀ (F : Nat → Int) (k : Nat), k < n → (∀ i, i < n → i ≠ k → F i = 0) → sumL (List.range n) F = F k := fun F k hk h => sumL_one List.nodup_range (by simpa using hk) fun b hb => h b (by simpa using hb)
  refine unique p2 e1 (uRows_reduced p2 hH) fun f hf => (e2 f hf).trans ⟨fun hA r hr => ?_, fun hA r hr => ?_⟩
  · obtain ⟨i, hi, rfl⟩ := mu r hr
    refine ann_comb (by omega) (uRow_inP p2 hH hi) ((List.range n).map fun k => (H i k, gRow n g k)) (fun x hx => ?_) (fun j hj => ?_) hf fun x hx => ?_
    · obtain ⟨k, hk, rfl⟩ := List.mem_map.1 hx; exact gRow_inP p2 hg (by simpa using hk)
    · rw [sumMap, uRow, nth_rowF _ hj]
      have e : (fun k => H i k * nth (gRow n g k) j) = fun k => H i k * if j < n then g k j else if j - n = k then 1 else 0 := funext fun k => by rw [gRow, nth_rowF _ hj]
      simp only [] at e ⊢
      rw [e]
      by_cases hjn : j < n
      · simp only [if_pos hjn]
        obtain ⟨t, ht⟩ := h2 i hi j hjn
        unfold dl at ht
        exact ⟨-t, by grind⟩
      · simp only [if_neg hjn]
        rw [single _ (j - n) (by omega) fun k _ hk => by rw [if_neg (by omega)]; simp]
        simp
    · obtain ⟨k, hk, rfl⟩ := List.mem_map.1 hx
      exact hA _ (List.mem_map.2 ⟨k, hk, rfl⟩)
  · obtain ⟨i, hi, rfl⟩ := mg r hr
    refine ann_comb (by omega) (gRow_inP p2 hg hi) ((List.range n).map fun k => (g i k, uRow n H k)) (fun x hx => ?_) (fun j hj => ?_) hf fun x hx => ?_
    · obtain ⟨k, hk, rfl⟩ := List.mem_map.1 hx; exact uRow_inP p2 hH (by simpa using hk)
    · rw [sumMap, gRow, nth_rowF _ hj]
      have e : (fun k => g i k * nth (uRow n H k) j) = fun k => g i k * if j < n then (if j = k then 1 else 0) else H k (j - n) := funext fun k => by rw [uRow, nth_rowF _ hj]
      simp only [] at e ⊢
      rw [e]
      by_cases hjn : j < n
      · simp only [if_pos hjn]
        rw [single _ j (by omega) fun k _ hk => by rw [if_neg (by omega)]; simp]
        simp
      · simp only [if_neg hjn]
        obtain ⟨t, ht⟩ := h1 i hi (j - n) (by omega)
        unfold dl at ht
        exact ⟨-t, by grind⟩
    · obtain ⟨k, hk, rfl⟩ := List.mem_map.1 hx
      exact hA _ (List.mem_map.2 ⟨k, hk, rfl⟩)

/-- What the model asks of the reduced rows. -/
def okR (n : Nat) (R : List (List Int)) : Prop := R.length = n ∧ ∀ i, (h : i < R.length) → leadN R[i] = i
theorem ech_inv {p : Int} (hp : PrimeS p) {n : Nat} {g : Nat → Nat → Int} (hg : MatP p n g) (h : okR n (echL p (gRows n g))) :
    Inv p n g fun k j => nth ((echL p (gRows n g)).getD k []) (n + j) := by
  obtain ⟨p2, _⟩ := hp.le
  have mg : ∀ r ∈ gRows n g, ∃ i, i < n ∧ r = gRow n g i := fun r hr => by
    obtain ⟨i, hi, rfl⟩ := List.mem_map.1 hr; exact ⟨i, by simpa using hi, rfl⟩
  obtain ⟨e1, e2⟩ := echL_spec hp (m := 2 * n) (gRows n g) fun r hr => by obtain ⟨i, hi, rfl⟩ := mg r hr; exact gRow_inP p2 hg hi
  generalize echL p (gRows n g) = R at *
  intro i hi j hj
  have := comb e1 (fun f hf => (e2 f hf).1) (r := gRow n g i) (List.mem_map.2 ⟨i, by simpa using hi, rfl⟩) (n + j)
  obtain ⟨o1, o2⟩ := h
  have hR : R = (List.range n).map fun k => R.getD k [] := by
    refine List.ext_getElem (by simp [o1]) fun k h1 h2 => ?_
    simp [h1]
  have hs : (sumL R fun q => nth (gRow n g i) (leadN q) * nth q (n + j)) = sumL (List.range n) fun k => g i k * nth (R.getD k []) (n + j) := by
    have : (sumL R fun q => nth (gRow n g i) (leadN q) * nth q (n + j)) = sumL (List.range n) fun k => nth (gRow n g i) (leadN (R.getD k [])) * nth (R.getD k []) (n + j) := by
      conv => lhs; rw [hR]
      simp [sumL, List.map_map, Function.comp_def]
    rw [this]
    unfold sumL
    congr 1
    refine List.map_congr_left fun k hk => ?_
    have hk' : k < n := by simpa using hk
    have : leadN (R.getD k []) = k := by
      have := o2 k (by omega)
      simpa [List.getD, o1, hk'] using this
    rw [this, gRow, nth_rowF _ (by omega), if_pos hk']
  rw [hs] at this
  rw [gRow, nth_rowF _ (by omega), if_neg (by omega)] at this
  obtain ⟨t, ht⟩ := this
  unfold dl
  refine ⟨-t, ?_⟩
  rw [show n + j - n = j by omega] at ht
  simp only [] at ht ⊢
  grind


/-- A matrix, filled with 1 on the diagonal behind its size. -/
def fullM (n : Nat) (g : Nat → Nat → Int) (i j : Nat) : Int := if j = i ∧ n ≤ i then 1 else g i j
/-- The cofactors modulo p, and the determinant. -/
def cofP (p : Int) (f : Nat → Nat → Int) (i j : Nat) : Int :=
  (f ((i + 1) % 3) ((j + 1) % 3) * f ((i + 2) % 3) ((j + 2) % 3) + (p - 1) * (f ((i + 1) % 3) ((j + 2) % 3) * f ((i + 2) % 3) ((j + 1) % 3))) % p
def detP (p : Int) (f : Nat → Nat → Int) : Int := (f 0 0 * cofP p f 0 0 + f 0 1 * cofP p f 0 1 + f 0 2 * cofP p f 0 2) % p
def detE (f : Nat → Nat → Int) : Int := f 0 0 * (f 1 1 * f 2 2 - f 1 2 * f 2 1) + f 0 1 * (f 1 2 * f 2 0 - f 1 0 * f 2 2) + f 0 2 * (f 1 0 * f 2 1 - f 1 1 * f 2 0)
/-- The inverse, from a number F that makes 1 with the determinant. -/
def hM (p F : Int) (f : Nat → Nat → Int) (a b : Nat) : Int := cofP p f b a * F % p

theorem cof_ex (p a b : Int) : ∃ t, (a + (p - 1) * b) % p = a - b + p * t := by
  obtain ⟨t, ht⟩ := dvd_emod p (a + (p - 1) * b)
  exact ⟨t + b, by grind⟩
theorem emod_ex (p a : Int) : ∃ t, a % p = a + p * t := by
  obtain ⟨t, ht⟩ := dvd_emod p a
  exact ⟨t, by grind⟩
theorem detP_eq (p : Int) (f : Nat → Nat → Int) : detP p f = detE f % p := by
  unfold detP
  obtain ⟨t0, h0⟩ : ∃ t, cofP p f 0 0 = f 1 1 * f 2 2 - f 1 2 * f 2 1 + p * t := cof_ex _ _ _
  obtain ⟨t1, h1⟩ : ∃ t, cofP p f 0 1 = f 1 2 * f 2 0 - f 1 0 * f 2 2 + p * t := cof_ex _ _ _
  obtain ⟨t2, h2⟩ : ∃ t, cofP p f 0 2 = f 1 0 * f 2 1 - f 1 1 * f 2 0 + p * t := cof_ex _ _ _
  rw [show f 0 0 * cofP p f 0 0 + f 0 1 * cofP p f 0 1 + f 0 2 * cofP p f 0 2 = detE f + p * (f 0 0 * t0 + f 0 1 * t1 + f 0 2 * t2) by unfold detE; grind, Int.add_mul_emod_self_left]

theorem inv_core {p F D Det s u dl a0 a1 a2 C0 C1 C2 c0 c1 c2 H0 H1 H2 t0 t1 t2 r0 r1 r2 : Int} (k0 : c0 = C0 + p * t0) (k1 : c1 = C1 + p * t1) (k2 : c2 = C2 + p * t2)
    (e0 : H0 = c0 * F + p * r0) (e1 : H1 = c1 * F + p * r1) (e2 : H2 = c2 * F + p * r2) (hs : 1 = D * F + p * s) (hu : D = Det + p * u) (h : a0 * C0 + a1 * C1 + a2 * C2 = dl * Det) :
    p ∣ (a0 * H0 + a1 * H1 + a2 * H2) - dl := by
  refine ⟨F * (a0 * t0 + a1 * t1 + a2 * t2) + (a0 * r0 + a1 * r1 + a2 * r2) - dl * (s + u * F), ?_⟩
  have h2 : a0 * H0 + a1 * H1 + a2 * H2 = F * (a0 * C0 + a1 * C1 + a2 * C2) + p * (F * (a0 * t0 + a1 * t1 + a2 * t2) + (a0 * r0 + a1 * r1 + a2 * r2)) := by
    rw [e0, e1, e2, k0, k1, k2]; clear e0 e1 e2 k0 k1 k2 hs hu h; grind
  rw [h2, h]
  clear h2 h e0 e1 e2 k0 k1 k2
  have h3 : dl * Det * F = dl * (1 - p * s - p * u * F) := by
    have : Det * F = 1 - p * s - p * u * F := by grind
    grind
  grind

theorem full_inv {p F : Int} (f : Nat → Nat → Int) (hF : detP p f * F % p = 1) : ∀ i, i < 3 → ∀ j, j < 3 →
    p ∣ (f i 0 * hM p F f 0 j + f i 1 * hM p F f 1 j + f i 2 * hM p F f 2 j) - dl i j ∧ p ∣ (f 0 j * hM p F f i 0 + f 1 j * hM p F f i 1 + f 2 j * hM p F f i 2) - dl i j := by
  obtain ⟨s, hs⟩ := emod_ex p (detP p f * F)
  rw [hF] at hs
  obtain ⟨u, hu⟩ := emod_ex p (detE f)
  rw [← detP_eq] at hu
  have hc : ∀ i j, ∃ t, cofP p f i j = (f ((i + 1) % 3) ((j + 1) % 3) * f ((i + 2) % 3) ((j + 2) % 3) - f ((i + 1) % 3) ((j + 2) % 3) * f ((i + 2) % 3) ((j + 1) % 3)) + p * t := fun i j => cof_ex _ _ _
  have hh : ∀ a b, ∃ r, hM p F f a b = cofP p f b a * F + p * r := fun a b => emod_ex _ _
  intro i hi j hj
  have hi3 : i = 0 ∨ i = 1 ∨ i = 2 := by omega
  have hj3 : j = 0 ∨ j = 1 ∨ j = 2 := by omega
  constructor
  · obtain ⟨t0, h0⟩ := hc j 0
    obtain ⟨t1, h1⟩ := hc j 1
    obtain ⟨t2, h2⟩ := hc j 2
    obtain ⟨r0, g0⟩ := hh 0 j
    obtain ⟨r1, g1⟩ := hh 1 j
    obtain ⟨r2, g2⟩ := hh 2 j
    refine inv_core h0 h1 h2 g0 g1 g2 hs hu ?_
    clear hc hh h0 h1 h2 g0 g1 g2 hs hu hF hi hj
    unfold detE dl
    rcases hi3 with rfl | rfl | rfl <;> rcases hj3 with rfl | rfl | rfl <;> simp <;> grind
  · obtain ⟨t0, h0⟩ := hc 0 i
    obtain ⟨t1, h1⟩ := hc 1 i
    obtain ⟨t2, h2⟩ := hc 2 i
    obtain ⟨r0, g0⟩ := hh i 0
    obtain ⟨r1, g1⟩ := hh i 1
    obtain ⟨r2, g2⟩ := hh i 2
    refine inv_core h0 h1 h2 g0 g1 g2 hs hu ?_
    clear hc hh h0 h1 h2 g0 g1 g2 hs hu hF hi hj
    unfold detE dl
    rcases hi3 with rfl | rfl | rfl <;> rcases hj3 with rfl | rfl | rfl <;> simp <;> grind

/-- Two full matrices that make the unit have determinants that are not 0. -/
theorem det_ne {p : Int} (hp : 2 ≤ p) (f K : Nat → Nat → Int) (h : ∀ i, i < 3 → ∀ j, j < 3 → p ∣ (f i 0 * K 0 j + f i 1 * K 1 j + f i 2 * K 2 j) - dl i j) : detP p f ≠ 0 := by
  intro hd
  obtain ⟨u, hu⟩ := emod_ex p (detE f)
  rw [← detP_eq, hd] at hu
  have key : ∀ i j, i < 3 → j < 3 → ∃ t, f i 0 * K 0 j + f i 1 * K 1 j + f i 2 * K 2 j = dl i j + p * t := fun i j hi hj => by
    obtain ⟨t, ht⟩ := h i hi j hj; exact ⟨t, by omega⟩
  obtain ⟨a, ha⟩ := key 0 0 (by omega) (by omega)
  obtain ⟨b, hb⟩ := key 0 1 (by omega) (by omega)
  obtain ⟨c, hc⟩ := key 0 2 (by omega) (by omega)
  obtain ⟨d, hd⟩ := key 1 0 (by omega) (by omega)
  obtain ⟨e, he⟩ := key 1 1 (by omega) (by omega)
  obtain ⟨g, hg⟩ := key 1 2 (by omega) (by omega)
  obtain ⟨x, hx⟩ := key 2 0 (by omega) (by omega)
  obtain ⟨y, hy⟩ := key 2 1 (by omega) (by omega)
  obtain ⟨z, hz⟩ := key 2 2 (by omega) (by omega)
  simp only [dl] at *
  have hm : ∀ a00 a01 a02 a10 a11 a12 a20 a21 a22 b00 b01 b02 b10 b11 b12 b20 b21 b22 : Int,
      (a00 * (a11 * a22 - a12 * a21) + a01 * (a12 * a20 - a10 * a22) + a02 * (a10 * a21 - a11 * a20)) * (b00 * (b11 * b22 - b12 * b21) + b01 * (b12 * b20 - b10 * b22) + b02 * (b10 * b21 - b11 * b20)) =
      (a00 * b00 + a01 * b10 + a02 * b20) * ((a10 * b01 + a11 * b11 + a12 * b21) * (a20 * b02 + a21 * b12 + a22 * b22) - (a10 * b02 + a11 * b12 + a12 * b22) * (a20 * b01 + a21 * b11 + a22 * b21)) +
      (a00 * b01 + a01 * b11 + a02 * b21) * ((a10 * b02 + a11 * b12 + a12 * b22) * (a20 * b00 + a21 * b10 + a22 * b20) - (a10 * b00 + a11 * b10 + a12 * b20) * (a20 * b02 + a21 * b12 + a22 * b22)) +
      (a00 * b02 + a01 * b12 + a02 * b22) * ((a10 * b00 + a11 * b10 + a12 * b20) * (a20 * b01 + a21 * b11 + a22 * b21) - (a10 * b01 + a11 * b11 + a12 * b21) * (a20 * b00 + a21 * b10 + a22 * b20)) := by
    intros; grind
  have := hm (f 0 0) (f 0 1) (f 0 2) (f 1 0) (f 1 1) (f 1 2) (f 2 0) (f 2 1) (f 2 2) (K 0 0) (K 0 1) (K 0 2) (K 1 0) (K 1 1) (K 1 2) (K 2 0) (K 2 1) (K 2 2)
  rw [ha, hb, hc, hd, he, hg, hx, hy, hz] at this
  clear hm ha hb hc hd he hg hx hy hz key h
  unfold detE at hu
  generalize (f 0 0 * (f 1 1 * f 2 2 - f 1 2 * f 2 1) + f 0 1 * (f 1 2 * f 2 0 - f 1 0 * f 2 2) + f 0 2 * (f 1 0 * f 2 1 - f 1 1 * f 2 0)) = A at *
  generalize (K 0 0 * (K 1 1 * K 2 2 - K 1 2 * K 2 1) + K 0 1 * (K 1 2 * K 2 0 - K 1 0 * K 2 2) + K 0 2 * (K 1 0 * K 2 1 - K 1 1 * K 2 0)) = B at *
  have h1 : p ∣ 1 := by
    refine ⟨-(u * B) - ((a + e + z) + p * (a * e - b * d + (a * z - c * x) + (e * z - g * y)) + p * p * (a * (e * z - g * y) + b * (g * x - d * z) + c * (d * y - e * x))), ?_⟩
    have hA : A = -(p * u) := by omega
    rw [hA] at this
    simp at this
    grind
  have := Int.le_of_dvd (by omega) h1
  omega

theorem hM_bound {p F : Int} (hp : 2 ≤ p) (f : Nat → Nat → Int) (a b : Nat) : 0 ≤ hM p F f a b ∧ hM p F f a b < p := ⟨Int.emod_nonneg _ (by omega), Int.emod_lt_of_pos _ (by omega)⟩
theorem detP_bound {p : Int} (hp : 2 ≤ p) (f : Nat → Nat → Int) : 0 ≤ detP p f ∧ detP p f < p := ⟨Int.emod_nonneg _ (by omega), Int.emod_lt_of_pos _ (by omega)⟩
/-- 0 outside of a size. -/
def Out0 (n : Nat) (g : Nat → Nat → Int) : Prop := ∀ i, i < 3 → ∀ j, j < 3 → (n ≤ i ∨ n ≤ j) → g i j = 0
theorem mat_inv {p F : Int} (hp : 2 ≤ p) {n : Nat} (h1 : 1 ≤ n) (h3 : n ≤ 3) {g : Nat → Nat → Int} (ho : Out0 n g) (hF : detP p (fullM n g) * F % p = 1) :
    Inv p n g (hM p F (fullM n g)) ∧ Inv p n (hM p F (fullM n g)) g ∧ MatP p n (hM p F (fullM n g)) := by
  have key := full_inv (fullM n g) hF
  refine ⟨fun i hi j hj => ?_, fun i hi j hj => ?_, fun i _ j _ => hM_bound hp _ _ _⟩
  · obtain ⟨t, ht⟩ := (key i (by omega) j (by omega)).1
    refine ⟨t, ?_⟩
    rw [← ht]
    clear ht key hF
    generalize hM p F (fullM n g) = H
    have z : ∀ k, k < 3 → fullM n g i k = if k < n then g i k else 0 := fun k hk => by
      unfold fullM
      by_cases hkn : k < n
      · rw [if_neg (by omega), if_pos hkn]
      · rw [if_neg (by omega), if_neg hkn, ho i (by omega) k hk (.inr (by omega))]
    rw [z 0 (by omega), z 1 (by omega), z 2 (by omega)]
    have hn : n = 1 ∨ n = 2 ∨ n = 3 := by omega
    rcases hn with rfl | rfl | rfl <;> simp [sumL, List.range_succ] <;> omega
  · obtain ⟨t, ht⟩ := (key i (by omega) j (by omega)).2
    refine ⟨t, ?_⟩
    rw [← ht]
    clear ht key hF
    generalize hM p F (fullM n g) = H
    have z : ∀ k, k < 3 → fullM n g k j = if k < n then g k j else 0 := fun k hk => by
      unfold fullM
      by_cases hkn : k < n
      · rw [if_neg (by omega), if_pos hkn]
      · rw [if_neg (by omega), if_neg hkn, ho k hk j (by omega) (.inl (by omega))]
    rw [z 0 (by omega), z 1 (by omega), z 2 (by omega)]
    have hn : n = 1 ∨ n = 2 ∨ n = 3 := by omega
    rcases hn with rfl | rfl | rfl <;> simp [sumL, List.range_succ, Int.mul_comm] <;> omega
theorem mat_det {p : Int} (hp : 2 ≤ p) {n : Nat} (h1 : 1 ≤ n) (h3 : n ≤ 3) {g K : Nat → Nat → Int} (ho : Out0 n g) (hK : Inv p n g K) : detP p (fullM n g) ≠ 0 := by
  refine det_ne hp (fullM n g) (fullM n fun i j => if i < n ∧ j < n then K i j else 0) fun i hi j hj => ?_
  have hn : n = 1 ∨ n = 2 ∨ n = 3 := by omega
  have hi3 : i = 0 ∨ i = 1 ∨ i = 2 := by omega
  have hj3 : j = 0 ∨ j = 1 ∨ j = 2 := by omega
  by_cases hij : i < n ∧ j < n
  · obtain ⟨t, ht⟩ := hK i hij.1 j hij.2
    refine ⟨t, ?_⟩
    rw [← ht]
    clear ht hK
    have z : ∀ k, k < 3 → fullM n g i k = if k < n then g i k else 0 := fun k hk => by
      unfold fullM
      by_cases hkn : k < n
      · rw [if_neg (by omega), if_pos hkn]
      · rw [if_neg (by omega), if_neg hkn, ho i (by omega) k hk (.inr (by omega))]
    have z2 : ∀ k, k < n → fullM n (fun i j => if i < n ∧ j < n then K i j else 0) k j = K k j := fun k hk => by
      unfold fullM
      rw [if_neg (by omega)]
      show (if k < n ∧ j < n then K k j else 0) = K k j
      rw [if_pos ⟨hk, hij.2⟩]
    generalize fullM n (fun i j => if i < n ∧ j < n then K i j else 0) = KK at *
    rw [z 0 (by omega), z 1 (by omega), z 2 (by omega)]
    rcases hn with rfl | rfl | rfl <;> simp [sumL, List.range_succ, z2] <;> omega
  · clear hK
    refine ⟨0, ?_⟩
    have o := fun a b (ha : a < 3) (hb : b < 3) h => ho a ha b hb h
    rcases hn with rfl | rfl | rfl <;> rcases hi3 with rfl | rfl | rfl <;> rcases hj3 with rfl | rfl | rfl <;> first
      | (exfalso; omega)
      | simp [fullM, dl, o]
/-- WHETHER THE MODEL'S REDUCED ROWS HAVE THE UNIT IN FRONT: exactly if the determinant is not 0; and then they have the inverse behind it. -/
theorem ech_mat {p : Int} (hp : PrimeS p) {n : Nat} (h1 : 1 ≤ n) (h3 : n ≤ 3) {g : Nat → Nat → Int} (hg : MatP p n g) (ho : Out0 n g) :
    (okR n (echL p (gRows n g)) ↔ detP p (fullM n g) ≠ 0) ∧ ∀ F, detP p (fullM n g) * F % p = 1 → echL p (gRows n g) = uRows n (hM p F (fullM n g)) := by
  obtain ⟨p2, p13⟩ := hp.le
  have two : ∀ F, detP p (fullM n g) * F % p = 1 → echL p (gRows n g) = uRows n (hM p F (fullM n g)) := fun F hF => by
    obtain ⟨a, b, c⟩ := mat_inv p2 h1 h3 ho hF
    exact ech_unit hp hg c a b
  refine ⟨⟨fun h => mat_det p2 h1 h3 ho (ech_inv hp hg h), fun h => ?_⟩, two⟩
  obtain ⟨b1, b2⟩ := detP_bound p2 (fullM n g)
  rw [two _ (invP_ok hp (x := detP p (fullM n g)) (by omega) b2).1]
  refine ⟨by simp [uRows], fun i hi => ?_⟩
  simp only [uRows, List.getElem_map, List.getElem_range]
  exact uRow_lead (by simpa [uRows] using hi)
end Go.Proofs.Ytbahejlgfpilnaa.EchM
namespace Go.Proofs.Ytbahejlgfpilnaa
open Go.RowKit Go.Sort

theorem ebox1 (w : World) (o : Obj) : Below w.heap.size w (w.alloc o) := (Below.refl _ _).alloc (Nat.le_refl _) o
theorem ebox2 (w : World) (o p : Obj) : Below w.heap.size w ((w.alloc o).alloc p) := (ebox1 w o).alloc (by simp) p
theorem erow_below {w w' : World} {b n B : Nat} {t : TypeId} {f : Nat → Value} (h : w.rowIs b t n f) (hb : Below B w w') (hB : b < B) : w'.rowIs b t n f := h.of_block (hb.block b hB)
theorem eowns_below {w w' : World} {base : Nat} {e : TypeId} {size : Nat} {v : Value} {n : Nat} {xs : List Value} (h : w.ownsRow base e size v n xs) (hb : Below w.heap.size w w') : w'.ownsRow base e size v n xs :=
  h.kept (row := none) ⟨hb.os, hb.tape, hb.output, hb.size, fun k hk _ => hb.block k hk⟩ (by cases v.ownBlock <;> simp)

/-- A list of numbers in cells; a slice that reads as a list. -/
def Cs (w : World) (b off : Nat) (l : List Int) : Prop := ∀ (k : Nat) (h : k < l.length), w.cell? ⟨b, off + k, none⟩ = some (.int .i64 l[k])
def Sl (w : World) (v : Value) (l : List Int) : Prop :=
  ∃ a cap, v = .slice a l.length cap ∧ (l = [] ∨ ∃ b off, a = some ⟨b, off, none⟩ ∧ b < w.heap.size ∧ Cs w b off l)
theorem Cs.below {w w' : World} {b off B : Nat} {l : List Int} (h : Cs w b off l) (hb : Below B w w') (hB : b < B) : Cs w' b off l := fun k hk => (hb.cell (p := ⟨b, _, none⟩) hB).trans (h k hk)
theorem Sl.below {w w' : World} {v : Value} {l : List Int} (h : Sl w v l) (hb : Below w.heap.size w w') : Sl w' v l := by
  obtain ⟨a, cap, hv, h | ⟨b, off, ha, hlt, hT⟩⟩ := h
  · exact ⟨a, cap, hv, .inl h⟩
  · exact ⟨a, cap, hv, .inr ⟨b, off, ha, Nat.lt_of_lt_of_le hlt hb.size, hT.below hb hlt⟩⟩
/-- A list of numbers of the call's own. -/
def valsI (l : List Int) : List Value := l.map (Value.int .i64)
def OwnL (w : World) (base : Nat) (v : Value) (l : List Int) : Prop := w.ownsRow base 2 1 v l.length (valsI l)
theorem OwnL.below {w w' : World} {base : Nat} {v : Value} {l : List Int} (h : OwnL w base v l) (hb : Below w.heap.size w w') : OwnL w' base v l := eowns_below h hb
theorem OwnL.slice {w : World} {base : Nat} {v : Value} {l : List Int} (h : OwnL w base v l) : Sl w v l := by
  have h' := h
  obtain ⟨_, ⟨hv, hn⟩ | ⟨g, cap, cur, hv, _, hg, _⟩⟩ := h
  · have : l = [] := List.eq_nil_of_length_eq_zero hn
    subst this
    exact ⟨none, 0, hv, .inl rfl⟩
  · refine ⟨_, _, hv, .inr ⟨g, 0, rfl, (h'.lt g (by rw [hv]; rfl)).2, fun k hk => ?_⟩⟩
    have := h'.cells (g := g) (by rw [hv]; rfl) k (.int .i64 l[k]) (by simp [valsI, hk])
    rwa [show (⟨g, 0, none⟩ : Addr).add k = ⟨g, 0 + k, none⟩ by unfold Addr.add; split <;> simp_all] at this
theorem valsI_snoc (l : List Int) (a : Int) : valsI l ++ [.int .i64 a] = valsI (l ++ [a]) := by simp [valsI]
theorem einfoI : (Try.prog.info? 2).map (fun i => (i.zero, i.size, i.bytes)) = some (some (.int .i64 0), 1, 8) := by kernel_rfl

theorem Sl.shape {w : World} {v : Value} {l : List Int} (h : Sl w v l) : ∃ a cap, v = .slice a l.length cap := by
  obtain ⟨a, cap, hv, _⟩ := h; exact ⟨a, cap, hv⟩
theorem OwnL.shape {w : World} {base : Nat} {v : Value} {l : List Int} (h : OwnL w base v l) : ∃ a cap, v = .slice a l.length cap := h.slice.shape
theorem OwnL.form {w : World} {base : Nat} {v : Value} {l : List Int} (h : OwnL w base v l) (hl : 0 < l.length) : ∃ g cap, v = .slice (some ⟨g, 0, none⟩) l.length cap ∧ base ≤ g ∧ g < w.heap.size ∧ ∀ (k : Nat) (hk : k < l.length), w.cell? ⟨g, k, none⟩ = some (.int .i64 l[k]) := by
  obtain ⟨g, cap, hv, h1, h2⟩ := World.ownsRow.form h hl
  refine ⟨g, cap, hv, h1, h2, fun k hk => ?_⟩
  have := World.ownsRow.cells h (g := g) (by rw [hv]; rfl) k (.int .i64 l[k]) (by simp [valsI, hk])
  rwa [show (⟨g, 0, none⟩ : Addr).add k = ⟨g, k, none⟩ by unfold Addr.add; split <;> simp_all] at this
theorem OwnL.mono {w : World} {base base' : Nat} {v : Value} {l : List Int} (h : OwnL w base v l) (hb : base' ≤ base) : OwnL w base' v l := by
  obtain ⟨h1, h2⟩ := h
  refine ⟨h1, ?_⟩
  rcases h2 with h2 | ⟨g, cap, cur, hv, hg, r⟩
  · exact .inl h2
  · exact .inr ⟨g, cap, cur, hv, Nat.le_trans hb hg, r⟩
theorem vals_one (l : List Int) : ∀ u ∈ valsI l, u.oneCell' = true := by
  intro u hu
  obtain ⟨a, _, rfl⟩ := List.mem_map.1 hu
  rfl
theorem vals_cells {w : World} {b off : Nat} {l : List Int} (h : Cs w b off l) : ∀ j u, (valsI l)[j]? = some u → w.cell? ((⟨b, off, none⟩ : Addr).add j) = some u := by
  intro j u hu
  have hadd : (⟨b, off, none⟩ : Addr).add j = ⟨b, off + j, none⟩ := by unfold Addr.add; split <;> simp_all
  rw [hadd]
  have hj : j < l.length := by
    rcases Nat.lt_or_ge j l.length with h' | h'
    · exact h'
    · rw [List.getElem?_eq_none (by simpa [valsI] using h')] at hu; cases hu
  have : u = .int .i64 l[j] := by simpa [valsI, hj] using hu.symm
  rw [this]; exact h j hj

/-- All numbers of a slice put behind those of a list of the call's own. -/
theorem wpList_append_ints (w : World) {ops : Array Oper} {rest : List Oper} {o : Oper} {a : Act} {Q : Exit → Act → World → Prop} (hgd : o.guard = none) (s x : Operand)
    (ho : o.op = .call { callee := .builtin .append, args := #[s, x], argTypes := #[52, 52] })
    (base : Nat) (v : Value) (xs : List Int) (hs : a.eval s = v) (hown : OwnL w base v xs)
    (v2 : Value) (ts : List Int) (hx : a.eval x = v2) (hS : Sl w v2 ts) (h63 : xs.length + ts.length ≤ 8388608) (hbase : base ≤ w.heap.size)
    (h : ∀ v' w', OwnL w' base v' (xs ++ ts) → w.grownBy w' v.ownBlock → wpList Try.prog ops Q rest (a.put o.dst v') w') : wpList Try.prog ops Q (o :: rest) a w := by
  obtain ⟨i0, hi, hz0, hz1, hz2⟩ := info_parts einfoI
  obtain ⟨A, cap, rfl, hcase⟩ := hS
  rcases A with _ | ad
  · have hn : ts = [] := by
      rcases hcase with h | ⟨b, off, h, _⟩
      · exact h
      · cases h
    subst hn
    refine wpList_plain hgd fun K hK => ?_
    have hrun : ∀ ty, (Builtin.append_ #[52, 52] ty #[v, .slice none 0 cap]).run Try.prog w = .ok v w := fun ty => by
      rcases hown.2 with ⟨rfl, hl⟩ | ⟨g, c, cur, rfl, _, _, hnc, _⟩
      · simp [Builtin.append_, run_underlying Try.underlying52, sizeOf, typeInfo, hi, Builtin.lenOf, Builtin.firstCells]
      · simp [Builtin.append_, run_underlying Try.underlying52, sizeOf, typeInfo, hi, Builtin.lenOf, Builtin.firstCells, hnc, storeCells]
    unfold Oper.wp execOp
    simp only [ho, resolve, invoke, builtin, Sem.run_bind, Sem.run_pure, Result.andThen_ok, List.map_toArray, List.map_cons, List.map_nil, hs, hx]
    rw [show (List.length ([] : List Int)) = 0 from rfl, hrun]
    exact hK _ _ (h v w (by simpa using hown) (World.grownBy.refl w _))
  · refine wpList_append_own w hgd s x 52 ho base 2 i0 _ 1 8 Try.underlying52 hi hz0 hz1 hz2 rfl (by decide) v xs.length (valsI xs) hs hown ad ts.length cap (valsI ts) hx (by simp [valsI]) ?_ (vals_one ts) (by unfold maxLen; omega) (by omega) hbase fun v' w' h1 h2 _ => h v' w' (by simpa [OwnL, valsI] using h1) h2
    intro j u hu
    rcases hcase with rfl | ⟨b, off, hA, hlt, hT⟩
    · simp [valsI] at hu
    · simp at hA
      subst hA
      exact vals_cells hT j u hu

set_option maxRecDepth 8000 in
set_option maxHeartbeats 400000 in
theorem ein (n a b : Int) (w : World) :
    Calls Try.prog 84 #[.int .i64 n, .int .i64 a, .int .i64 b] w fun e w' => e = .returned (.bool (decide (a ≤ n) && decide (n ≤ b))) ∧ w = w' := by
  by_cases h : a ≤ n
  · go_enter Try.func84, Try.ntmps84
    go_wp2
    go_ret
    exact ⟨by simp; omega, rfl⟩
  · go_enter Try.func84, Try.ntmps84
    go_wp2
    go_ret
    exact ⟨by simp; omega, rfl⟩
end Go.Proofs.Ytbahejlgfpilnaa
namespace Go.Proofs.Ytbahejlgfpilnaa
open Go.RowKit Go.Sort

theorem ngrown_setT {w wr : World} {g : Nat} (h : w.grownBy wr (some g)) (o : Nat) (v : Value) : w.grownBy (wr.setCell ⟨g, o, none⟩ v) (some g) :=
  ⟨h.os, h.tape, h.output, by rw [World.size_setCell]; exact h.size, fun k hk hne => (Below.heap_setCell wr ⟨g, o, none⟩ v k (fun e => hne (by rw [e]))).trans (h.block k hk hne)⟩

set_option maxHeartbeats 1000000 in
def nmadeI (n : Nat) : Array Value := madeCells #[.int .i64 0] n
theorem nmadeI_row (w : World) (n : Nat) (t : TypeId) : (w.alloc (.cells (nmadeI n) t)).rowIs w.heap.size t n (fun _ => .int .i64 0) := World.rowIs_made w (.int .i64 0) n t

/-- A list of numbers in a block of the call's own. -/
def nOwnI (w : World) (base : Nat) (v : Value) (l : List Int) : Prop :=
  ∃ g f, v = .slice (some ⟨g, 0, none⟩) l.length l.length ∧ base ≤ g ∧ w.rowIs g 2 l.length f ∧ ∀ (j : Nat) (h : j < l.length), f j = .int .i64 l[j]
theorem nOwnI.slice {w : World} {base : Nat} {v : Value} {l : List Int} (h : nOwnI w base v l) : Sl w v l := by
  obtain ⟨g, f, rfl, _, hr, hf⟩ := h
  exact ⟨_, _, rfl, .inr ⟨g, 0, rfl, hr.lt, fun k hk => by rw [Nat.zero_add, hr.cell hk, hf k hk]⟩⟩
theorem nOwnI.below {w w' : World} {base : Nat} {v : Value} {l : List Int} (h : nOwnI w base v l) (hb : Below w.heap.size w w') : nOwnI w' base v l := by
  obtain ⟨g, f, rfl, hg, hr, hf⟩ := h
  exact ⟨g, f, rfl, hg, erow_below hr hb hr.lt, hf⟩
theorem nOwnI.row {w : World} {base : Nat} {v : Value} {l : List Int} (h : nOwnI w base v l) : ∀ g, v.ownBlock = some g → base ≤ g ∧ ∃ N f, w.rowIs g 2 N f := by
  obtain ⟨g, f, rfl, hg, hr, hf⟩ := h
  intro c hc
  simp [Value.ownBlock] at hc
  subst hc
  exact ⟨hg, _, f, hr⟩
/-- A list of numbers that lies below a block. -/
def nSliceIB (w : World) (B : Nat) (v : Value) (l : List Int) : Prop :=
  ∃ a cap, v = .slice a l.length cap ∧ (l = [] ∨ ∃ b off, a = some ⟨b, off, none⟩ ∧ b < B ∧ Cs w b off l)
theorem Sl.bound {w : World} {v : Value} {l : List Int} (h : Sl w v l) : nSliceIB w w.heap.size v l := h
theorem nSliceIB.slice {w : World} {B : Nat} {v : Value} {l : List Int} (h : nSliceIB w B v l) (hB : B ≤ w.heap.size) : Sl w v l := by
  obtain ⟨a, cap, hv, h | ⟨b, off, ha, hlt, hT⟩⟩ := h
  · exact ⟨a, cap, hv, .inl h⟩
  · exact ⟨a, cap, hv, .inr ⟨b, off, ha, by omega, hT⟩⟩
theorem nSliceIB.kept {w w' : World} {B : Nat} {v : Value} {l : List Int} {row : Option Nat} (h : nSliceIB w B v l) (hg : w.grownBy w' row) (hB : B ≤ w.heap.size) (hr : ∀ g, row = some g → B ≤ g) : nSliceIB w' B v l := by
  obtain ⟨a, cap, hv, h | ⟨b, off, ha, hlt, hT⟩⟩ := h
  · exact ⟨a, cap, hv, .inl h⟩
  · refine ⟨a, cap, hv, .inr ⟨b, off, ha, hlt, fun k hk => ?_⟩⟩
    have hne : some b ≠ row := fun e => by have := hr b e.symm; omega
    exact (World.cell?_of_block (w := w) (a := ⟨b, off + k, none⟩) (hg.block b (by omega) hne)).trans (hT k hk)


def AwI (v : Value) (l : List Int) (g : Nat) : Prop := l = [] ∨ v.ownBlock ≠ some g
theorem Sl.away {w : World} {v : Value} {l : List Int} {g : Nat} (h : Sl w v l) (hg : w.heap.size ≤ g) : AwI v l g := by
  obtain ⟨a, cap, rfl, h | ⟨b, off, rfl, hlt, _⟩⟩ := h
  · exact .inl h
  · refine .inr fun e => ?_
    simp [Value.ownBlock] at e
    omega
theorem Sl.kept2 {w w' : World} {v : Value} {l : List Int} {g : Nat} (h : Sl w v l) (hg : w.grownBy w' (some g)) (hn : AwI v l g) : Sl w' v l := by
  obtain ⟨a, cap, rfl, h | ⟨b, off, rfl, hlt, hT⟩⟩ := h
  · exact ⟨a, cap, rfl, .inl h⟩
  · rcases hn with h | hn
    · exact ⟨_, cap, rfl, .inl h⟩
    · have hne : some b ≠ some g := fun e => hn (by simpa [Value.ownBlock] using e)
      exact ⟨_, cap, rfl, .inr ⟨b, off, rfl, Nat.lt_of_lt_of_le hlt hg.size, fun k hk => (World.cell?_of_block (w := w) (a := ⟨b, _, none⟩) (hg.block b hlt hne)).trans (hT k hk)⟩⟩
/-- A row by its header: the value, what it reads as, the block it lies in. -/
abbrev Row3 := Value × (List Int × Nat)
def RowAt (w : World) (base : Nat) (e : Row3) : Prop :=
  ∃ cap N f, e.1 = .slice (some ⟨e.2.2, 0, none⟩) e.2.1.length cap ∧ base ≤ e.2.2 ∧ e.2.1.length ≤ N ∧ w.rowIs e.2.2 2 N f ∧ ∀ (q : Nat) (h : q < e.2.1.length), f q = .int .i64 e.2.1[q]
theorem RowAt.cs {w : World} {base : Nat} {e : Row3} (h : RowAt w base e) : Cs w e.2.2 0 e.2.1 := fun k hk => by
  obtain ⟨cap, N, f, _, _, hN, hr, hf⟩ := h
  rw [Nat.zero_add, hr.cell (by omega), hf k hk]
theorem RowAt.lt {w : World} {base : Nat} {e : Row3} (h : RowAt w base e) : e.2.2 < w.heap.size := by
  obtain ⟨cap, N, f, _, _, hN, hr, hf⟩ := h; exact hr.lt
theorem RowAt.sl {w : World} {base : Nat} {e : Row3} (h : RowAt w base e) : Sl w e.1 e.2.1 := by
  obtain ⟨cap, N, f, hv, _⟩ := id h
  exact ⟨_, cap, hv, .inr ⟨e.2.2, 0, rfl, h.lt, h.cs⟩⟩
theorem RowAt.kept {w w' : World} {base g : Nat} {e : Row3} (h : RowAt w base e) (hg : w.grownBy w' (some g)) (hne : e.2.2 ≠ g) : RowAt w' base e := by
  obtain ⟨cap, N, f, hv, hb, hN, hr, hf⟩ := h
  exact ⟨cap, N, f, hv, hb, hN, hr.of_block (hg.block _ hr.lt fun q => hne (by simpa using q)), hf⟩
theorem RowAt.below {w w' : World} {base : Nat} {e : Row3} (h : RowAt w base e) (hb : Below w.heap.size w w') : RowAt w' base e := by
  obtain ⟨cap, N, f, hv, hb', hN, hr, hf⟩ := h
  exact ⟨cap, N, f, hv, hb', hN, erow_below hr hb hr.lt, hf⟩
theorem RowAt.mono {w : World} {base base' : Nat} {e : Row3} (h : RowAt w base e) (hb : base' ≤ base) : RowAt w base' e := by
  obtain ⟨cap, N, f, hv, hb', r⟩ := h
  exact ⟨cap, N, f, hv, Nat.le_trans hb hb', r⟩
/-- The numbers from k on. -/
def seqL (k : Int) (n : Nat) : List Int := (List.range n).map fun (i : Nat) => k + (i : Int)
theorem seqL_len (k : Int) (n : Nat) : (seqL k n).length = n := by simp [seqL]
theorem seqL_at (k : Int) (n q : Nat) (h : q < (seqL k n).length) : (seqL k n)[q] = k + (q : Int) := by simp [seqL]

/-- A list of numbers as an answer: in a block of its own, or none. -/
def OwnV (w : World) (base : Nat) (v : Value) (S : List Int) : Prop := (S = [] ∧ ∃ a c, v = .slice a 0 c) ∨ ∃ b, RowAt w base (v, S, b)
theorem OwnV.none (w : World) (base : Nat) : OwnV w base (.slice none 0 0) [] := .inl ⟨rfl, _, _, rfl⟩
theorem OwnV.below {w w' : World} {base : Nat} {v : Value} {S : List Int} (h : OwnV w base v S) (hb : Below w.heap.size w w') : OwnV w' base v S :=
  h.imp id fun ⟨b, h⟩ => ⟨b, h.below hb⟩
theorem OwnV.mono {w : World} {base base' : Nat} {v : Value} {S : List Int} (h : OwnV w base v S) (hb : base' ≤ base) : OwnV w base' v S :=
  h.imp id fun ⟨b, h⟩ => ⟨b, h.mono hb⟩
theorem OwnV.kept {w w' : World} {base b0 : Nat} {v : Value} {S : List Int} (h : OwnV w base v S) (hg : w.grownBy w' (some b0)) (hlt : b0 < base) : OwnV w' base v S :=
  h.imp id fun ⟨b, h⟩ => ⟨b, h.kept hg (by obtain ⟨_, _, _, _, hb, _⟩ := h; simp only at hb ⊢; omega)⟩
theorem OwnV.sl {w : World} {base : Nat} {v : Value} {S : List Int} (h : OwnV w base v S) : Sl w v S := by
  rcases h with ⟨rfl, a, c, rfl⟩ | ⟨b, h⟩
  · exact ⟨a, c, rfl, .inl rfl⟩
  · exact h.sl
theorem OwnV.shape {w : World} {base : Nat} {v : Value} {S : List Int} (h : OwnV w base v S) : ∃ a c, v = .slice a S.length c := by
  obtain ⟨a, c, hv, _⟩ := h.sl; exact ⟨a, c, hv⟩
/-- A list of the call's own that may have grown, as an answer. -/
theorem OwnL.toV {w : World} {base : Nat} {v : Value} {l : List Int} (h : OwnL w base v l) : OwnV w base v l := by
  obtain ⟨hx, ⟨hv, hn⟩ | ⟨g, cap, cur, hv, hbg, hg, hnc, hcap, hsz, htk⟩⟩ := h
  · exact .inl ⟨List.eq_nil_of_length_eq_zero hn, none, 0, hv⟩
  · have hsz' : cur.size = cap := by omega
    refine .inr ⟨g, cap, cap, fun j => (cur[j]?).getD (.int .i64 0), hv, hbg, hnc, ⟨cur, hg, hsz', fun i hi => ?_⟩, fun q hq => ?_⟩
    · have hi' : i < cur.size := by omega
      simp [hi']
    · have h1 : (cur.toList.take (l.length * 1))[q]? = some (.int .i64 l[q]) := by rw [htk]; simp [valsI]
      rw [List.getElem?_take_of_lt (by simpa using hq)] at h1
      simp only [Array.getElem?_toList] at h1
      simp [h1]
theorem nOwnI.kept {w w' : World} {base g : Nat} {v : Value} {l : List Int} (h : nOwnI w base v l) (hg : w.grownBy w' (some g)) (hlt : g < base) : nOwnI w' base v l := by
  obtain ⟨b, f, rfl, hb, hr, hf⟩ := h
  exact ⟨b, f, rfl, hb, hr.of_block (hg.block b hr.lt (fun e => by simp at e; omega)), hf⟩
end Go.Proofs.Ytbahejlgfpilnaa
namespace Go.Proofs.Ytbahejlgfpilnaa
open Go.RowKit Go.Sort

set_option maxHeartbeats 1000000 in
theorem neqI_some (g o cap g' o' cap' : Nat) (l : List Int) (w : World) (hl : l.length ≤ 1048576) (hT : Cs w g o l) (hT' : Cs w g' o' l) :
    Calls Try.prog 38 #[.slice (some ⟨g, o, none⟩) l.length cap, .slice (some ⟨g', o', none⟩) l.length cap'] w fun e w' => e = .returned (.bool true) ∧ Below w.heap.size w w' := by
  have hnn : ((l.length : Int) != (l.length : Int)) = false := by simp
  go_enter Try.func38, Try.ntmps38
  go_wp2
  go_loopw [5] (fun i wr => ∃ k : Nat, k ≤ l.length ∧ i = .int .i64 k ∧ ∃ n, wr = w.drewN n) (fun i _ => l.length - (intOf i).toNat)
  case atStart => exact ⟨0, by omega, rfl, 0, rfl⟩
  case round =>
    obtain ⟨k, hk, rfl, n, rfl⟩ := hrel
    by_cases hlt : k < l.length
    · have hlt' : (k : Int) < (l.length : Int) := by omega
      have a0 := hT k hlt
      have b0 := hT' k hlt
      have hq : (l[k] != l[k]) = false := by simp
      go_wp2
      go_quiet (fail)
      go_wp2
      go_roundw
      case rel => exact ⟨k + 1, by omega, by go_num, _, rfl⟩
      case measure => simp [intOf]; omega
    · obtain rfl : k = l.length := by omega
      go_wp2
      go_ret
      exact ⟨rfl, below_drewN (Below.refl _ _) n⟩

theorem neqI_zero (a a' : Option Addr) (c c' : Nat) (w : World) :
    Calls Try.prog 38 #[.slice a 0 c, .slice a' 0 c'] w fun e w' => e = .returned (.bool true) ∧ Below w.heap.size w w' := by
  go_enter Try.func38, Try.ntmps38
  go_wp2
  refine wp_loop_rounds 1 ?_
  rw [rounds_succ]
  go_wp2
  go_ret
  exact ⟨rfl, Below.refl _ _⟩

theorem neqI_same (v v' : Value) (l : List Int) (w : World) (hl : l.length ≤ 1048576) (hS : Sl w v l) (hS' : Sl w v' l) :
    Calls Try.prog 38 #[v, v'] w fun e w' => e = .returned (.bool true) ∧ Below w.heap.size w w' := by
  obtain ⟨a, cap, rfl, h⟩ := hS
  obtain ⟨a', cap', rfl, h'⟩ := hS'
  cases l with
  | nil => exact neqI_zero _ _ _ _ _
  | cons t r =>
    rcases h with h | ⟨b, off, rfl, hlt, hT⟩
    · cases h
    · rcases h' with h' | ⟨b', off', rfl, hlt', hT'⟩
      · cases h'
      · exact neqI_some b off cap b' off' cap' _ w hl hT hT'



set_option maxHeartbeats 1000000 in
theorem nmarkI_own {base : Nat} {v : Value} {l : List Int} (k0 : Int) (w : World) (h : nOwnI w base v l) (hn : l.length ≤ 1048576) (h0 : 0 ≤ k0) (h1 : k0 ≤ 1000000000) :
    Calls Try.prog 39 #[v, .int .i64 k0] w fun e w' => e = .returned (.int .i64 (k0 + l.length)) ∧ w.grownBy w' v.ownBlock := by
  obtain ⟨g, f, rfl, hg, hr, hf⟩ := h
  clear hf
  simp only [Value.ownBlock]
  generalize l.length = n at *
  go_enter Try.func39, Try.ntmps39
  go_wp2
  go_loopw [1, 5] (fun m i wr => ∃ k : Nat, k ≤ n ∧ i = .int .i64 k ∧ m = .int .i64 (k0 + k) ∧ (∃ f', wr.rowIs g 2 n f') ∧ w.grownBy wr (some g)) (fun _ i _ => n - (intOf i).toNat)
  case atStart => exact ⟨0, by omega, rfl, by simp, ⟨f, hr⟩, World.grownBy.refl _ _⟩
  case round =>
    obtain ⟨k, hk, rfl, rfl, ⟨f', hr'⟩, hg'⟩ := hrel
    by_cases hlt : k < n
    · have hlt' : (k : Int) < (n : Int) := by omega
      have c0 := hr'.cell hlt
      have z0 := hr'.frozen k
      have hr2 := hr'.set k (.int .i64 (k0 + k))
      have hg2 := ngrown_setT hg' k (.int .i64 (k0 + k))
      clear hr' hg' hr
      go_wp2
      go_roundw
      case rel => exact ⟨k + 1, by omega, by go_num, by go_num, ⟨_, hr2⟩, hg2⟩
      case measure => simp [intOf]; omega
    · obtain rfl : k = n := by omega
      go_wp2
      go_ret
      exact ⟨rfl, hg'⟩

set_option maxHeartbeats 1000000 in
theorem rmark (base : Nat) (e : Row3) (k0 : Int) (w : World) (h : RowAt w base e) (hn : e.2.1.length ≤ 1048576) (h0 : 0 ≤ k0) (h1 : k0 ≤ 1000000000) :
    Calls Try.prog 39 #[e.1, .int .i64 k0] w fun r w' => r = .returned (.int .i64 (k0 + e.2.1.length)) ∧ RowAt w' base (e.1, seqL k0 e.2.1.length, e.2.2) ∧ w.grownBy w' (some e.2.2) := by
  obtain ⟨u, l, g⟩ := e
  obtain ⟨cap, N, f, hu, hg, hN, hr, hf⟩ := h
  simp only at hu hg hN hr hf hn ⊢
  subst hu
  clear hf
  have hsl := seqL_len k0 l.length
  suffices hh : Calls Try.prog 39 #[.slice (some ⟨g, 0, none⟩) l.length cap, .int .i64 k0] w fun r w' => r = .returned (.int .i64 (k0 + l.length)) ∧ (∃ f', w'.rowIs g 2 N f' ∧ ∀ q, q < l.length → f' q = .int .i64 (k0 + (q : Int))) ∧ w.grownBy w' (some g) by
    refine hh.mono fun r w' ⟨hr', ⟨f', hrow, hf'⟩, hgr⟩ => ⟨hr', ⟨cap, N, f', by simp only [hsl], hg, by simp only [hsl]; exact hN, hrow, fun q hq => ?_⟩, hgr⟩
    rw [hf' q (by simpa [hsl] using hq)]
    simp only [seqL_at]
  clear hsl
  generalize l.length = n at *
  go_enter Try.func39, Try.ntmps39
  go_wp2
  go_loopw [1, 5] (fun m i wr => ∃ k : Nat, k ≤ n ∧ i = .int .i64 k ∧ m = .int .i64 (k0 + k) ∧ (∃ f', wr.rowIs g 2 N f' ∧ Hid (∀ q, q < k → f' q = .int .i64 (k0 + (q : Int)))) ∧ w.grownBy wr (some g)) (fun _ i _ => n - (intOf i).toNat)
  case atStart => exact ⟨0, by omega, rfl, by simp, ⟨f, hr, Lib.hid (fun q h => by omega)⟩, World.grownBy.refl _ _⟩
  case round =>
    obtain ⟨k, hk, rfl, rfl, ⟨f', hr', HF⟩, hg'⟩ := hrel
    by_cases hlt : k < n
    · have hlt' : (k : Int) < (n : Int) := by omega
      have c0 := hr'.cell (i := k) (by omega)
      have z0 := hr'.frozen k
      have hr2 := hr'.set k (.int .i64 (k0 + k))
      have hg2 := ngrown_setT hg' k (.int .i64 (k0 + k))
      have HN : Hid (∀ q, q < k + 1 → (fun j => if j = k then Value.int .i64 (k0 + (k : Int)) else f' j) q = .int .i64 (k0 + (q : Int))) := Lib.hid (fun q hq => by
        by_cases e : q = k
        · subst e; simp
        · simp only [if_neg e]; exact HF.out q (by omega))
      clear hr' hg' hr HF
      go_wp2
      go_roundw
      case rel => exact ⟨k + 1, by omega, by go_num, by go_num, ⟨_, hr2, HN⟩, hg2⟩
      case measure => simp [intOf]; omega
    · obtain rfl : k = n := by omega
      have HN := HF.out
      go_wp2
      go_ret
      exact ⟨rfl, ⟨f', hr', HN⟩, hg'⟩
set_option maxHeartbeats 1000000 in
theorem rheld (u : Value) (n : Nat) (k0 : Int) (w : World) (hS : Sl w u (seqL k0 n)) (hn : n ≤ 1048576) (h0 : 0 ≤ k0) (h1 : k0 ≤ 1000000000) :
    Calls Try.prog 50 #[u, .int .i64 k0] w fun r w' => r = .returned (.int .i64 (k0 + n)) ∧ w' = w := by
  obtain ⟨a, cap, rfl, hc⟩ := hS
  have HSQ := Lib.hid (seqL_at k0 n)
  have hsl := seqL_len k0 n
  have HL := Lib.hid hsl
  rw [hsl]
  clear hsl
  go_enter Try.func50, Try.ntmps50
  go_wp2_with fail
  go_loop [1, 5] (fun m i => ∃ k : Nat, k ≤ n ∧ i = .int .i64 k ∧ m = .int .i64 (k0 + k)) (fun _ i => n - (intOf i).toNat)
  case atStart => exact ⟨0, by omega, rfl, by simp⟩
  case round =>
    obtain ⟨k, hk, rfl, rfl⟩ := hrel
    by_cases hlt : k < n
    · have hlt' : (k : Int) < (n : Int) := by omega
      have hks : k < (seqL k0 n).length := by rw [HL.out]; exact hlt
      obtain ⟨b, off, rfl, hbb, hT⟩ : ∃ b off, a = some ⟨b, off, none⟩ ∧ b < w.heap.size ∧ Cs w b off (seqL k0 n) := by
        rcases hc with h | h
        · rw [h] at hks; simp at hks
        · exact h
      have c0 := hT k hks
      rw [HSQ.out k hks] at c0
      have hne : (k0 + (k : Int) != k0 + (k : Int)) = false := by simp
      clear hks
      go_wp2_with fail
      go_round
      case rel => exact ⟨k + 1, by omega, by go_num, by go_num⟩
      case measure => simp [intOf]; omega
    · obtain rfl : k = n := by omega
      go_wp2_with fail
      go_ret
      exact ⟨rfl, rfl⟩


theorem rmark_none (a : Option Addr) (c : Nat) (k0 : Int) (w : World) :
    Calls Try.prog 39 #[.slice a 0 c, .int .i64 k0] w fun r w' => r = .returned (.int .i64 k0) ∧ w' = w := by
  go_enter Try.func39, Try.ntmps39
  go_wp2
  refine wp_loop_rounds 1 ?_
  rw [rounds_succ]
  go_wp2
  go_ret
  exact ⟨rfl, rfl⟩
theorem OwnV.mark {w : World} {base : Nat} {v : Value} {S : List Int} (h : OwnV w base v S) (hl : S.length ≤ 1048576) (hbw : base ≤ w.heap.size) :
    Calls Try.prog 39 #[v, .int .i64 1] w fun r w' => r = .returned (.int .i64 (1 + (S.length : Int))) ∧ OwnV w' base v (seqL 1 S.length) ∧ Below base w w' := by
  rcases h with ⟨rfl, a, c, rfl⟩ | ⟨b, h⟩
  · exact (rmark_none a c 1 w).mono fun r w' ⟨hr, hw⟩ => ⟨by simpa using hr, .inl ⟨by simp [seqL], a, c, rfl⟩, by rw [hw]; exact ⟨rfl, rfl, rfl, Nat.le_refl _, fun _ _ => rfl⟩⟩
  · refine (rmark base (v, S, b) 1 w h hl (by decide) (by decide)).mono fun r w' ⟨hr, hrow, hg⟩ => ⟨hr, .inr ⟨b, hrow⟩, ?_⟩
    obtain ⟨_, _, _, _, hb, _⟩ := h
    exact ⟨hg.os, hg.tape, hg.output, hg.size, fun k hk => hg.block k (by omega) (fun e => by simp at e hb; omega)⟩
theorem OwnV.held {w : World} {base : Nat} {v : Value} {n : Nat} (h : OwnV w base v (seqL 1 n)) (hl : n ≤ 1048576) :
    Calls Try.prog 50 #[v, .int .i64 1] w fun r w' => r = .returned (.int .i64 (1 + (n : Int))) ∧ w' = w :=
  rheld v n 1 w h.sl hl (by decide) (by decide)
end Go.Proofs.Ytbahejlgfpilnaa
namespace Go.Proofs.Ytbahejlgfpilnaa
open Go.RowKit Go.Sort

set_option maxHeartbeats 1000000 in
theorem ntoI_some (b off cap : Nat) (l : List Int) (w : World) (hl : l.length ≤ 1048576) (hb : b < w.heap.size) (hT : Cs w b off l) :
    Calls Try.prog 36 #[.slice (some ⟨b, off, none⟩) l.length cap] w fun e w' =>
      e = .returned (.slice (some ⟨w.heap.size, 0, none⟩) l.length l.length) ∧ ∃ f, w'.rowIs w.heap.size 2 l.length f ∧ (∀ (j : Nat) (h : j < l.length), f j = .int .i64 l[j]) ∧ Below w.heap.size w w' := by
  obtain ⟨i0, hi, hz0, hz1, hz2⟩ := info_parts einfoI
  have hmk : ∀ w, (Instr.makeSlice 52 (.int .i64 (l.length : Int)) (.int .i64 (l.length : Int))).run Try.prog w = .ok (.slice (some ⟨w.heap.size, 0, none⟩) l.length l.length) (w.alloc (.cells (nmadeI l.length) 2)) := fun w => by
    have h := run_make (P := Try.prog) w 52 2 i0 _ Try.underlying52 hi hz0 .i64 .i64 (l.length : Int) (l.length : Int) (by omega) (by omega) (by rw [hz2]; omega) (by omega)
    rw [hz1] at h
    simpa [nmadeI, Value.cells] using h
  clear hi hz0 hz1 hz2
  go_enter Try.func36, Try.ntmps36
  go_wp2
  go_loopw [4] (fun i wr => ∃ k : Nat, k ≤ l.length ∧ i = .int .i64 k ∧ Below w.heap.size w wr ∧ ∃ f, wr.rowIs w.heap.size 2 l.length f ∧ (∀ (j : Nat) (h : j < l.length), j < k → f j = .int .i64 l[j])) (fun i _ => l.length - (intOf i).toNat)
  case atStart => exact ⟨0, by omega, rfl, ebox1 _ _, _, nmadeI_row w _ _, fun j _ h => by omega⟩
  case round =>
    obtain ⟨k, hk, rfl, hbel, f, hrow, hrt⟩ := hrel
    by_cases hlt : k < l.length
    · have hlt' : (k : Int) < (l.length : Int) := by omega
      have c0 := (hT.below hbel hb) k hlt
      have d0 := hrow.cell hlt
      have f0 := hrow.frozen k
      have rows := hrow.set k (.int .i64 l[k])
      have R : ∀ (j : Nat) (h : j < l.length), j < k + 1 → (fun j => if j = k then Value.int .i64 l[k] else f j) j = .int .i64 l[j] := fun j h hjk => by
        by_cases e : j = k
        · subst e; simp
        · simp only [if_neg e]; exact hrt j h (by omega)
      clear hrow
      go_wp2
      go_roundw
      case rel => exact ⟨k + 1, by omega, by go_num, hbel.setCell (Nat.le_refl _) _, _, rows, R⟩
      case measure => simp [intOf]; omega
    · obtain rfl : k = l.length := by omega
      go_wp2
      go_ret
      exact ⟨rfl, f, hrow, fun j h => hrt j h h, hbel⟩

theorem ntoI_any (v : Value) (l : List Int) (w : World) (hl : l.length ≤ 1048576) (hS : Sl w v l) :
    Calls Try.prog 36 #[v] w fun e w' => ∃ v', e = .returned v' ∧ Sl w' v' l ∧ Below w.heap.size w w' := by
  obtain ⟨a, cap, rfl, h | ⟨b, off, rfl, hlt, hT⟩⟩ := hS
  · subst h
    obtain ⟨i0, hi, hz0, hz1, hz2⟩ := info_parts einfoI
    have hmk : ∀ w, (Instr.makeSlice 52 (.int .i64 0) (.int .i64 0)).run Try.prog w = .ok (.slice (some ⟨w.heap.size, 0, none⟩) 0 0) (w.alloc (.cells (nmadeI 0) 2)) := fun w => by
      have h := run_make (P := Try.prog) w 52 2 i0 _ Try.underlying52 hi hz0 .i64 .i64 0 0 (by omega) (by omega) (by rw [hz2]; omega) (by omega)
      rw [hz1] at h
      simpa [nmadeI, Value.cells] using h
    clear hi hz0 hz1 hz2
    go_enter Try.func36, Try.ntmps36
    go_wp2
    refine wp_loop_rounds 1 ?_
    rw [rounds_succ]
    go_wp2
    go_ret
    exact ⟨_, rfl, ⟨_, 0, rfl, .inl rfl⟩, ebox1 _ _⟩
  · exact (ntoI_some b off cap l w hl hlt hT).mono fun e w' ⟨he, f, hr, ht, hb⟩ => ⟨_, he, ⟨_, _, rfl, .inr ⟨w.heap.size, 0, rfl, hr.lt, fun k hk => by rw [Nat.zero_add, hr.cell hk, ht k hk]⟩⟩, hb⟩

theorem ntoI_own (v : Value) (l : List Int) (w : World) (hl : l.length ≤ 1048576) (hS : Sl w v l) :
    Calls Try.prog 36 #[v] w fun e w' => ∃ v', e = .returned v' ∧ nOwnI w' w.heap.size v' l ∧ Below w.heap.size w w' := by
  obtain ⟨a, cap, rfl, h | ⟨b, off, rfl, hlt, hT⟩⟩ := hS
  · subst h
    obtain ⟨i0, hi, hz0, hz1, hz2⟩ := info_parts einfoI
    have hmk : ∀ w, (Instr.makeSlice 52 (.int .i64 0) (.int .i64 0)).run Try.prog w = .ok (.slice (some ⟨w.heap.size, 0, none⟩) 0 0) (w.alloc (.cells (nmadeI 0) 2)) := fun w => by
      have h := run_make (P := Try.prog) w 52 2 i0 _ Try.underlying52 hi hz0 .i64 .i64 0 0 (by omega) (by omega) (by rw [hz2]; omega) (by omega)
      rw [hz1] at h
      simpa [nmadeI, Value.cells] using h
    clear hi hz0 hz1 hz2
    go_enter Try.func36, Try.ntmps36
    go_wp2
    refine wp_loop_rounds 1 ?_
    rw [rounds_succ]
    go_wp2
    go_ret
    exact ⟨_, rfl, ⟨w.heap.size, _, rfl, Nat.le_refl _, nmadeI_row w 0 _, fun j h => by simp at h⟩, ebox1 _ _⟩
  · refine (ntoI_some b off cap l w hl hlt hT).mono fun e w' ⟨he, f, hr, hf, hb⟩ => ⟨_, he, ⟨w.heap.size, f, rfl, Nat.le_refl _, hr, hf⟩, hb⟩
end Go.Proofs.Ytbahejlgfpilnaa
namespace Go.Proofs.Ytbahejlgfpilnaa
open Go.RowKit Go.Sort EchM

theorem first_out (B : Int → Bool) : ∀ (l : List Int), l.all B = false → ∃ (j : Nat) (h : j < l.length), B l[j] = false ∧ ∀ (i : Nat) (hi : i < l.length), i < j → B l[i] = true
  | [], h => by simp at h
  | a :: r, h => by
    cases ha : B a
    · exact ⟨0, by simp, by simpa using ha, fun i _ hij => by omega⟩
    · have hr : r.all B = false := by
        simp only [List.all_cons, ha, Bool.true_and] at h
        exact h
      obtain ⟨j, hj, hn, hp⟩ := first_out B r hr
      refine ⟨j + 1, by simp; omega, by simpa using hn, fun i hi hij => ?_⟩
      cases i with
      | zero => simpa using ha
      | succ i => simpa using hp i (by simpa using hi) (by omega)
theorem all_upto (B : Int → Bool) (l : List Int) (h : ∀ (j : Nat) (hj : j < l.length), j < l.length → B l[j] = true) : l.all B = true := by
  rw [List.all_eq_true]
  intro x hx
  obtain ⟨i, hi, rfl⟩ := List.mem_iff_getElem.1 hx
  exact h i hi hi
theorem rin_is (n a b : Int) (w : World) (B : Bool) (h : (decide (a ≤ n) && decide (n ≤ b)) = B) : Calls Try.prog 84 #[.int .i64 n, .int .i64 a, .int .i64 b] w fun e w' => e = .returned (.bool B) ∧ w' = w :=
  (ein n a b w).mono fun _ _ ⟨h1, h2⟩ => ⟨by rw [h1, h], h2.symm⟩
/-- The first n cells of a block hold the numbers of a function. -/
def RowF (w : World) (b n : Nat) (F : Nat → Int) : Prop := ∃ N f, n ≤ N ∧ w.rowIs b 2 N f ∧ ∀ q, q < n → f q = .int .i64 (F q)
theorem RowF.cell {w : World} {b n : Nat} {F : Nat → Int} (h : RowF w b n F) {k : Nat} (hk : k < n) : w.cell? ⟨b, k, none⟩ = some (.int .i64 (F k)) := by
  obtain ⟨N, f, hN, hr, hf⟩ := h
  rw [hr.cell (by omega), hf k hk]
theorem RowF.frozen {w : World} {b n : Nat} {F : Nat → Int} (h : RowF w b n F) (k : Nat) : w.frozen? ⟨b, k, none⟩ = false := by
  obtain ⟨N, f, hN, hr, hf⟩ := h
  exact hr.frozen k
theorem RowF.lt {w : World} {b n : Nat} {F : Nat → Int} (h : RowF w b n F) : b < w.heap.size := by
  obtain ⟨N, f, hN, hr, hf⟩ := h
  exact hr.lt
theorem RowF.set {w : World} {b n : Nat} {F G : Nat → Int} (h : RowF w b n F) (k : Nat) (x : Int) (hG : ∀ q, q < n → G q = if q = k then x else F q) : RowF (w.setCell ⟨b, k, none⟩ (.int .i64 x)) b n G := by
  obtain ⟨N, f, hN, hr, hf⟩ := h
  refine ⟨N, _, hN, hr.set k _, fun q hq => ?_⟩
  rw [hG q hq]
  by_cases e : q = k
  · simp [e]
  · simp [e, hf q hq]
theorem RowF.congr {w : World} {b n : Nat} {F G : Nat → Int} (h : RowF w b n F) (hG : ∀ q, q < n → F q = G q) : RowF w b n G := by
  obtain ⟨N, f, hN, hr, hf⟩ := h
  exact ⟨N, f, hN, hr, fun q hq => by rw [hf q hq, hG q hq]⟩
theorem RowF.below {w w' : World} {b n : Nat} {F : Nat → Int} (h : RowF w b n F) (hb : Below w.heap.size w w') : RowF w' b n F := by
  obtain ⟨N, f, hN, hr, hf⟩ := h
  exact ⟨N, f, hN, erow_below hr hb hr.lt, hf⟩
theorem RowF.other {w : World} {b n : Nat} {F : Nat → Int} (h : RowF w b n F) {a : Addr} (ha : b ≠ a.block) (v : Value) : RowF (w.setCell a v) b n F := by
  obtain ⟨N, f, hN, hr, hf⟩ := h
  exact ⟨N, f, hN, hr.setOther ha v, hf⟩
theorem RowF.toV {w : World} {b n base cap : Nat} {F : Nat → Int} {S : List Int} (h : RowF w b n F) (hb : base ≤ b) (hS : S = (List.range n).map F) : OwnV w base (.slice (some ⟨b, 0, none⟩) n cap) S := by
  obtain ⟨N, f, hN, hr, hf⟩ := h
  subst hS
  refine .inr ⟨b, cap, N, f, by simp, hb, by simpa using hN, hr, fun q hq => ?_⟩
  have hq' : q < n := by simpa using hq
  rw [hf q hq']
  simp
theorem RowF.drew {w : World} {b n : Nat} {F : Nat → Int} (h : RowF w b n F) : RowF w.drew b n F := h
theorem nth_map_range {n q : Nat} (F : Nat → Int) (h : q < n) : nth ((List.range n).map F) q = F q := by
  rw [nth_lt (by simpa using h)]; simp
theorem map_nth (O : List Int) : (List.range O.length).map (nth O) = O := by
  refine List.ext_getElem (by simp) fun j h1 h2 => ?_
  simp [nth_lt h2]
/-- What lies in a block of the call's own, by a function. -/
theorem ownV_rowF {w : World} {base : Nat} {v : Value} {S : List Int} (h : OwnV w base v S) (hl : 0 < S.length) : ∃ b cap, v = .slice (some ⟨b, 0, none⟩) S.length cap ∧ base ≤ b ∧ RowF w b S.length (nth S) := by
  rcases h with ⟨rfl, _⟩ | ⟨b, cap, N, f, hv, hb, hN, hr, hf⟩
  · simp at hl
  · simp only at hv hb hN hr hf
    exact ⟨b, cap, hv, hb, N, f, hN, hr, fun q hq => by rw [hf q hq, nth_lt hq]⟩
end Go.Proofs.Ytbahejlgfpilnaa
namespace Go.Proofs.Ytbahejlgfpilnaa
open Go.RowKit Go.Sort EchM

/-- In 0..p - 1. -/
def nnumB (p x : Int) : Bool := decide (0 ≤ x) && decide (x < p)
def nptB (p d : Int) (l : List Int) : Bool := decide ((l.length : Int) = d) && l.all (nnumB p)

theorem nisNumber_any (p x : Int) (w : World) : Calls Try.prog 192 #[.int .i64 p, .int .i64 x] w fun e w' => e = .returned (.bool (nnumB p x)) ∧ w = w' := by
  by_cases h : 0 ≤ x
  all_goals
    go_enter Try.func192, Try.ntmps192
    go_wp2
    go_ret
    exact ⟨by simp [nnumB]; omega, rfl⟩

theorem nout_any (g : Nat) (p x : Int) (w : World) (hg : w.cell? ⟨g, 0, none⟩ = some (.int .i64 p)) : Calls Try.prog 191 #[.int .i64 x, .pointer (some ⟨g, 0, none⟩)] w fun e w' => e = .returned (.bool (!nnumB p x)) ∧ w = w' := by
  go_enter Try.func191, Try.ntmps191
  go_wp2_with fail
  ((with_reducible refine (nisNumber_any p x w).mono ?_); rintro e w1 ⟨rfl, rfl⟩)
  go_wp2
  go_ret
  exact ⟨rfl, rfl⟩

/-- The value of the closure that asks for a number that is none modulo p. -/
abbrev noutF (g : Nat) : Value := .func (.func 191) #[] #[.pointer (some ⟨g, 0, none⟩)]

set_option maxHeartbeats 1000000 in
theorem noidx_some (g : Nat) (p : Int) (b off cap : Nat) (l : List Int) (w : World) (hg : w.cell? ⟨g, 0, none⟩ = some (.int .i64 p)) (hl : l.length ≤ 1048576) (hT : Cs w b off l) (j : Nat) (hj : j < l.length) (hn : nnumB p l[j] = false) (hp : ∀ (i : Nat) (h : i < l.length), i < j → nnumB p l[i] = true) :
    Calls Try.prog 147 #[.slice (some ⟨b, off, none⟩) l.length cap, noutF g] w fun e w' => e = .returned (.int .i64 j) ∧ w = w' := by
  have HN := Lib.hid hn
  have HP := Lib.hid hp
  clear hn hp
  go_enter Try.func147, Try.ntmps147
  go_wp2
  go_loop [8] (fun i => ∃ k : Nat, k ≤ j ∧ i = .int .i64 k) (fun i => l.length - (intOf i).toNat)
  case atStart => exact ⟨0, by omega, rfl⟩
  case round =>
    obtain ⟨k, hk, rfl⟩ := hrel
    have hlt : k < l.length := by omega
    have hlt' : (k : Int) < (l.length : Int) := by omega
    have c0 := hT k hlt
    by_cases e : k = j
    · subst e
      go_wp2_with fail
      ((with_reducible refine (nout_any g p _ w hg).mono ?_); rintro e w1 ⟨rfl, rfl⟩)
      rw [HN.out]
      go_wp2
      go_ret
      exact ⟨rfl, rfl⟩
    · have h0 := Lib.hid (HP.out k hlt (by omega))
      go_wp2_with fail
      ((with_reducible refine (nout_any g p _ w hg).mono ?_); rintro e w1 ⟨rfl, rfl⟩)
      rw [h0.out]
      go_wp2
      go_round
      case rel => exact ⟨k + 1, by omega, by go_num⟩
      case measure => simp [intOf]; omega

set_option maxHeartbeats 1000000 in
theorem noidx_none (g : Nat) (p : Int) (b off cap : Nat) (l : List Int) (w : World) (hg : w.cell? ⟨g, 0, none⟩ = some (.int .i64 p)) (hl : l.length ≤ 1048576) (hT : Cs w b off l) (hp : ∀ (i : Nat) (h : i < l.length), nnumB p l[i] = true) :
    Calls Try.prog 147 #[.slice (some ⟨b, off, none⟩) l.length cap, noutF g] w fun e w' => e = .returned (.int .i64 (-1)) ∧ w = w' := by
  have HP := Lib.hid hp
  clear hp
  go_enter Try.func147, Try.ntmps147
  go_wp2
  go_loop [8] (fun i => ∃ k : Nat, k ≤ l.length ∧ i = .int .i64 k) (fun i => l.length - (intOf i).toNat)
  case atStart => exact ⟨0, by omega, rfl⟩
  case round =>
    obtain ⟨k, hk, rfl⟩ := hrel
    by_cases hlt : k < l.length
    · have hlt' : (k : Int) < (l.length : Int) := by omega
      have c0 := hT k hlt
      have h0 := Lib.hid (HP.out k hlt)
      go_wp2_with fail
      ((with_reducible refine (nout_any g p _ w hg).mono ?_); rintro e w1 ⟨rfl, rfl⟩)
      rw [h0.out]
      go_wp2
      go_round
      case rel => exact ⟨k + 1, by omega, by go_num⟩
      case measure => simp [intOf]; omega
    · obtain rfl : k = l.length := by omega
      go_wp2
      go_ret
      exact ⟨rfl, rfl⟩

theorem nfirst_out (p : Int) : ∀ (l : List Int), l.all (nnumB p) = false → ∃ (j : Nat) (h : j < l.length), nnumB p l[j] = false ∧ ∀ (i : Nat) (hi : i < l.length), i < j → nnumB p l[i] = true
  | [], h => by simp at h
  | a :: r, h => by
    cases ha : nnumB p a
    · exact ⟨0, by simp, by simpa using ha, fun i _ hij => by omega⟩
    · have hr : r.all (nnumB p) = false := by
        simp only [List.all_cons, ha, Bool.true_and] at h
        exact h
      obtain ⟨j, hj, hn, hp⟩ := nfirst_out p r hr
      refine ⟨j + 1, by simp; omega, by simpa using hn, fun i hi hij => ?_⟩
      cases i with
      | zero => simpa using ha
      | succ i => simpa using hp i (by simpa using hi) (by omega)

theorem nocontains_is (g : Nat) (p : Int) (b off cap : Nat) (l : List Int) (w : World) (hg : w.cell? ⟨g, 0, none⟩ = some (.int .i64 p)) (hl : l.length ≤ 1048576) (hT : Cs w b off l) :
    Calls Try.prog 72 #[.slice (some ⟨b, off, none⟩) l.length cap, noutF g] w fun e w' => e = .returned (.bool (!l.all (nnumB p))) ∧ w = w' := by
  cases h : l.all (nnumB p)
  · obtain ⟨j, hj, hn, hp⟩ := nfirst_out p l h
    clear h
    go_enter Try.func72, Try.ntmps72
    go_wp2_with fail
    ((with_reducible refine (noidx_some g p b off cap l w hg hl hT j hj hn hp).mono ?_); rintro e w1 ⟨rfl, rfl⟩)
    go_wp2
    go_ret
    exact ⟨rfl, rfl⟩
  · have hp : ∀ (i : Nat) (hi : i < l.length), nnumB p l[i] = true := fun i hi => List.all_eq_true.1 h _ (List.getElem_mem hi)
    clear h
    have HP := Lib.hid hp
    clear hp
    go_enter Try.func72, Try.ntmps72
    go_wp2_with fail
    ((with_reducible refine (noidx_none g p b off cap l w hg hl hT HP.out).mono ?_); rintro e w1 ⟨rfl, rfl⟩)
    go_wp2
    go_ret
    exact ⟨rfl, rfl⟩

theorem nareNumbers_any (p d : Int) (v : Value) (l : List Int) (w : World) (hd : 1 ≤ d) (hl : l.length ≤ 1048576) (hS : Sl w v l) :
    Calls Try.prog 123 #[.int .i64 p, .int .i64 d, v] w fun e w' => e = .returned (.bool (nptB p d l)) ∧ Below w.heap.size w w' := by
  have hmf : ∀ (fn : Fn) (first cap : Array Value) (w : World), (Instr.makeFunc fn first cap).run Try.prog w = .ok (.func fn first cap) w := fun _ _ _ _ => rfl
  obtain ⟨a, cap, rfl, h⟩ := hS
  by_cases he : (l.length : Int) = d
  · have he1 : ((l.length : Int) == d) = true := by simp [he]
    rcases h with rfl | ⟨b, off, rfl, hlt, hT⟩
    · simp at he; omega
    · have HD : Hid (nptB p d l = l.all (nnumB p)) := Lib.hid (by simp [nptB, he])
      have hT1 : ∀ o, Cs (w.alloc o) b off l := fun o => hT.below (ebox1 _ _) hlt
      clear he
      go_enter Try.func123, Try.ntmps123
      go_wp2_with fail
      ((with_reducible refine (nocontains_is w.heap.size p b off cap l _ (by go_simp) hl (hT1 _)).mono ?_); rintro e w1 ⟨rfl, rfl⟩)
      go_wp2
      go_ret
      exact ⟨by rw [HD.out]; simp, ebox1 _ _⟩
  · have he1 : ((l.length : Int) == d) = false := by simp [he]
    have HD : Hid (nptB p d l = false) := Lib.hid (by simp [nptB, he])
    clear he h
    go_enter Try.func123, Try.ntmps123
    go_wp2
    go_ret
    exact ⟨by rw [HD.out]; rfl, ebox1 _ _⟩



theorem ninNum (x p : Int) (w : World) (B : Bool) (h : nnumB p x = B) : Calls Try.prog 84 #[.int .i64 x, .int .i64 0, .int .i64 (p - 1)] w fun e w' => e = .returned (.bool B) ∧ w = w' :=
  (rin_is x 0 (p - 1) w B (by rw [← h]; unfold nnumB; congr 1; simp; omega)).mono fun _ _ ⟨h1, h2⟩ => ⟨h1, h2.symm⟩
theorem nall_upto (p : Int) (l : List Int) (h : ∀ (j : Nat) (hj : j < l.length), j < l.length → nnumB p l[j] = true) : l.all (nnumB p) = true := by
  rw [List.all_eq_true]
  intro x hx
  obtain ⟨i, hi, rfl⟩ := List.mem_iff_getElem.1 hx
  exact h i hi hi

set_option maxHeartbeats 1000000 in
theorem npoint_some (p d : Int) (b off cap : Nat) (l : List Int) (w : World) (h2 : 2 ≤ p) (h13 : p ≤ 13) (hl : l.length ≤ 1048576) (hT : Cs w b off l) :
    Calls Try.prog 120 #[.int .i64 p, .int .i64 d, .slice (some ⟨b, off, none⟩) l.length cap] w fun e w' => e = .returned (.bool (nptB p d l)) ∧ w = w' := by
  go_enter Try.func120, Try.ntmps120
  go_wp2
  go_loop [7] (fun i => ∃ k : Nat, k ≤ l.length ∧ i = .int .i64 k ∧ Hid (∀ (j : Nat) (hj : j < l.length), j < k → nnumB p l[j] = true)) (fun i => l.length - (intOf i).toNat)
  case atStart => exact ⟨0, by omega, rfl, Lib.hid (fun j _ h => by omega)⟩
  case round =>
    obtain ⟨k, hk, rfl, HU⟩ := hrel
    by_cases hlt : k < l.length
    · have hlt' : (k : Int) < (l.length : Int) := by omega
      have c0 := hT k hlt
      cases hB : nnumB p l[k]
      · have HX : Hid (nptB p d l = false) := Lib.hid (by
          unfold nptB
          have : l.all (nnumB p) = false := by
            rw [List.all_eq_false]
            exact ⟨_, List.getElem_mem hlt, by simp [hB]⟩
          rw [this]; simp)
        have HB := Lib.hid hB
        clear hB
        go_wp2_with fail
        ((with_reducible refine (ninNum _ _ _ false HB.out).mono ?_); rintro e w1 ⟨rfl, rfl⟩)
        go_wp2
        go_ret
        exact ⟨by rw [HX.out]; rfl, rfl⟩
      · have HN : Hid (∀ (j : Nat) (hj : j < l.length), j < k + 1 → nnumB p l[j] = true) := Lib.hid (fun j hj hjk => by
          by_cases e : j = k
          · subst e; exact hB
          · exact HU.out j hj (by omega))
        have HB := Lib.hid hB
        clear hB
        go_wp2_with fail
        ((with_reducible refine (ninNum _ _ _ true HB.out).mono ?_); rintro e w1 ⟨rfl, rfl⟩)
        go_wp2
        go_round
        case rel => exact ⟨k + 1, by omega, by go_num, HN⟩
        case measure => simp [intOf]; omega
    · obtain rfl : k = l.length := by omega
      have HX : Hid (nptB p d l = ((l.length : Int) == d)) := Lib.hid (by
        unfold nptB
        rw [nall_upto p l HU.out, Bool.and_true, Bool.eq_iff_iff]; simp)
      go_wp2
      go_ret
      exact ⟨by rw [HX.out]; rfl, rfl⟩

theorem npoint_nil (p d : Int) (a : Option Addr) (cap : Nat) (w : World) (hd : 1 ≤ d) :
    Calls Try.prog 120 #[.int .i64 p, .int .i64 d, .slice a 0 cap] w fun e w' => e = .returned (.bool (nptB p d [])) ∧ w = w' := by
  have HX : Hid (nptB p d [] = false) := Lib.hid (by simp [nptB]; omega)
  have h0 : ((0 : Int) == d) = false := by simp; omega
  go_enter Try.func120, Try.ntmps120
  go_wp2
  refine wp_loop_rounds 1 ?_
  rw [rounds_succ]
  go_wp2
  go_ret
  exact ⟨by rw [HX.out]; rfl, rfl⟩
theorem npoint_any (p d : Int) (v : Value) (l : List Int) (w : World) (h2 : 2 ≤ p) (h13 : p ≤ 13) (hd : 1 ≤ d) (hl : l.length ≤ 1048576) (hS : Sl w v l) :
    Calls Try.prog 120 #[.int .i64 p, .int .i64 d, v] w fun e w' => e = .returned (.bool (nptB p d l)) ∧ w = w' := by
  obtain ⟨a, cap, rfl, rfl | ⟨b, off, rfl, hlt, hT⟩⟩ := hS
  · exact npoint_nil p d a cap w hd
  · exact npoint_some p d b off cap l w h2 h13 hl hT


end Go.Proofs.Ytbahejlgfpilnaa
namespace Go.Proofs.Ytbahejlgfpilnaa
open Go.RowKit Go.Sort

theorem sum_stepV (l : List Int) (k : Nat) (h : k < l.length) : (l.take (k + 1)).sum = (l.take k).sum + l[k] := by
  rw [List.take_succ_eq_append_getElem h, List.sum_append]; simp
theorem polyB_varsV {p d : Int} {ts : List Tm} (h : isPolyB p d ts = true) : 1 ≤ d ∧ d ≤ 3 := by
  simp only [isPolyB, Bool.and_eq_true, decide_eq_true_eq] at h
  exact ⟨by omega, by omega⟩
def powI (p x : Int) : Nat → Int
  | 0 => 1
  | n + 1 => powI p x n * x % p
def itI (p x v : Int) : Nat → Int
  | 0 => v
  | n + 1 => itI p x v n * x % p
theorem mod_small {p a : Int} (h2 : 2 ≤ p) : 0 ≤ a % p ∧ a % p < p := ⟨Int.emod_nonneg _ (by omega), Int.emod_lt_of_pos _ (by omega)⟩
theorem powI_small {p x : Int} (h2 : 2 ≤ p) : ∀ n, 0 ≤ powI p x n ∧ powI p x n < p
  | 0 => ⟨by simp [powI], by simp [powI]; omega⟩
  | _ + 1 => mod_small h2
theorem itI_small {p x v : Int} (h2 : 2 ≤ p) (hv : 0 ≤ v ∧ v < p) : ∀ n, 0 ≤ itI p x v n ∧ itI p x v n < p
  | 0 => hv
  | _ + 1 => mod_small h2
theorem itI_pow {p x v : Int} (hv : 0 ≤ v ∧ v < p) : ∀ n, itI p x v n = v * powI p x n % p
  | 0 => by simp [itI, powI]; exact (Int.emod_eq_of_lt hv.1 hv.2).symm
  | n + 1 => by
    have e1 : ∀ A : Int, A % p * x % p = A * x % p := fun A => by
      rw [Int.mul_emod, Int.emod_emod_of_dvd _ (Int.dvd_refl p), ← Int.mul_emod]
    have e2 : ∀ A : Int, v * (A % p) % p = v * A % p := fun A => by
      rw [Int.mul_emod, Int.emod_emod_of_dvd _ (Int.dvd_refl p), ← Int.mul_emod]
    rw [itI, powI, itI_pow hv n, e1, e2, Int.mul_assoc]
/-- The product of two numbers modulo a small prime fits. -/
theorem prod_fit {p a b : Int} (h13 : p ≤ 13) (ha : 0 ≤ a ∧ a < p) (hb : 0 ≤ b ∧ b < p) : 0 ≤ a * b ∧ a * b ≤ 169 := by
  refine ⟨Int.mul_nonneg ha.1 hb.1, ?_⟩
  have h1 : a * b ≤ 13 * 13 := Int.mul_le_mul (by omega) (by omega) hb.1 (by omega)
  omega

set_option maxHeartbeats 1000000 in
theorem pow_any (p x : Int) (n : Nat) (w : World) (h2 : 2 ≤ p) (h13 : p ≤ 13) (hx : 0 ≤ x ∧ x < p) (hn : n ≤ 255) :
    Calls Try.prog 232 #[.int .i64 p, .int .i64 x, .int .i64 n] w fun e w' => e = .returned (.int .i64 (powI p x n)) ∧ w = w' := by
  obtain ⟨hx1, hx2⟩ := hx
  go_enter Try.func232, Try.ntmps232
  go_wp2
  go_loop [7, 9] (fun s i => ∃ (k : Nat) (S : Int), k ≤ n ∧ i = .int .i64 k ∧ s = .int .i64 S ∧ Hid (S = powI p x k) ∧ 0 ≤ S ∧ S < p) (fun _ i => n - (intOf i).toNat)
  case atStart => exact ⟨0, 1, by omega, rfl, rfl, Lib.hid rfl, by omega, by omega⟩
  case round =>
    obtain ⟨k, S, hk, rfl, rfl, HS, s0, s1⟩ := hrel
    by_cases hlt : k < n
    · have hlt' : (k : Int) < (n : Int) := by omega
      obtain ⟨f0, f1⟩ := prod_fit h13 ⟨s0, s1⟩ ⟨hx1, hx2⟩
      obtain ⟨g0, g1⟩ := mod_small (p := p) (a := S * x) h2
      go_wp2
      go_round
      case rel => exact ⟨k + 1, S * x % p, by omega, by go_num, rfl, Lib.hid (by rw [powI, ← HS.out]), g0, g1⟩
      case measure => simp [intOf]; omega
    · obtain rfl : k = n := by omega
      go_wp2
      go_ret
      exact ⟨by rw [← HS.out]; rfl, rfl⟩


def expK (t : Tm) (k : Nat) : Int := if k = 0 then t.1 else if k = 1 then t.2.1 else t.2.2.1
/-- The value of a term behind k letters, and at all of them. -/
def tvTo (p : Int) (t : Tm) (l : List Int) : Nat → Int
  | 0 => t.2.2.2
  | k + 1 => itI p (l.getD k 0) (tvTo p t l k) (expK t k).toNat
def tvV (p : Int) (l : List Int) (t : Tm) : Int := tvTo p t l l.length
def sumV (p : Int) (l : List Int) (ts : List Tm) (k : Nat) : Int := ((ts.map (tvV p l)).take k).sum
theorem tvTo_small {p : Int} {t : Tm} {l : List Int} (h2 : 2 ≤ p) (hv : 0 ≤ t.2.2.2 ∧ t.2.2.2 < p) : ∀ k, 0 ≤ tvTo p t l k ∧ tvTo p t l k < p
  | 0 => hv
  | k + 1 => itI_small h2 (tvTo_small h2 hv k) _
theorem sumV_step (p : Int) (l : List Int) (ts : List Tm) (k : Nat) (h : k < ts.length) : sumV p l ts (k + 1) = sumV p l ts k + tvV p l ts[k] := by
  unfold sumV
  rw [sum_stepV _ k (by simpa using h)]
  simp
theorem expK_cell {w : World} {b off : Nat} {ts : List Tm} (hT : Terms w b off ts) (i : Nat) (h : i < ts.length) (k : Nat) (hk : k < 3) : w.cell? ⟨b, off + i * 4 + k, none⟩ = some (.int .u8 (expK ts[i] k)) := by
  obtain ⟨h0, h1, h2, _⟩ := hT i h
  match k, hk with
  | 0, _ => simpa [expK] using h0
  | 1, _ => simpa [expK] using h1
  | 2, _ => simpa [expK] using h2
theorem expK_byte {t : Tm} (h : tmByte t) (k : Nat) : 0 ≤ expK t k ∧ expK t k ≤ 255 := by
  unfold expK
  obtain ⟨⟨hx, hy, hz⟩, _⟩ := h
  split
  · exact hx
  · split
    · exact hy
    · exact hz
/-- What the walk makes of a product modulo p. -/
theorem prod_walk {p a b : Int} (h2 : 2 ≤ p) (h13 : p ≤ 13) (ha : 0 ≤ a ∧ a < p) (hb : 0 ≤ b ∧ b < p) : IntKind.i64.wrap (a * b) = a * b ∧ (a * b).tmod p = a * b % p ∧ IntKind.i64.wrap (a * b % p) = a * b % p := by
  obtain ⟨f0, f1⟩ := prod_fit h13 ha hb
  obtain ⟨g0, g1⟩ := mod_small (p := p) (a := a * b) h2
  exact ⟨IntWalk.i64_in _ (by omega), Int.tmod_eq_emod_of_nonneg f0, IntWalk.i64_in _ (by omega)⟩

set_option maxHeartbeats 4000000 in
theorem specValue_some (p d : Int) (b off cap g o cap' : Nat) (ts : List Tm) (l : List Int) (w : World) (hl : ts.length ≤ 1048576) (hb : b < w.heap.size) (hT : Terms w b off ts) (hby : ∀ t ∈ ts, tmByte t)
    (h2 : 2 ≤ p) (h13 : p ≤ 13) (hv : ∀ t ∈ ts, 0 ≤ t.2.2.2 ∧ t.2.2.2 < p) (hl3 : l.length ≤ 3) (hg : g < w.heap.size) (hC : Cs w g o l) (hx : ∀ (k : Nat) (h : k < l.length), 0 ≤ l[k] ∧ l[k] < p) :
    Calls Try.prog 188 #[.agg #[.int .i64 p, .int .i64 d, .slice (some ⟨b, off, none⟩) ts.length cap], .slice (some ⟨g, o, none⟩) l.length cap'] w fun e w' => e = .returned (.int .i64 (sumV p l ts ts.length % p)) ∧ Below w.heap.size w w' := by
  obtain ⟨W, hW, hbW, x0, x1, x2⟩ : ∃ W, W = w.alloc (.cells #[.int .i64 p, .int .i64 d, .slice (some ⟨b, off, none⟩) ts.length cap] 42) ∧ Below w.heap.size w W ∧
      W.cell? ⟨w.heap.size, 0, none⟩ = some (.int .i64 p) ∧ W.cell? ⟨w.heap.size, 1, none⟩ = some (.int .i64 d) ∧ W.cell? ⟨w.heap.size, 2, none⟩ = some (.slice (some ⟨b, off, none⟩) ts.length cap) :=
    ⟨_, rfl, box1 _ _, by go_simp, by go_simp, by go_simp⟩
  have hTW := hT.below hbW hb
  have hCW := hC.below hbW hg
  have HX := Lib.hid hx
  clear hx
  go_enter Try.func188, Try.ntmps188
  go_wp2
  rw [← hW]
  clear hW
  go_loopw [5, 6] (fun s i wr => ∃ (k : Nat) (S : Int), k ≤ ts.length ∧ i = .int .i64 k ∧ s = .int .i64 S ∧ Hid (S = sumV p l ts k) ∧ 0 ≤ S ∧ S ≤ 13 * k ∧ ∃ n, wr = W.drewN n) (fun _ i _ => ts.length - (intOf i).toNat)
  case atStart => exact ⟨0, 0, by omega, rfl, rfl, Lib.hid (by simp [sumV]), by omega, by omega, 0, rfl⟩
  case round =>
    obtain ⟨i, S, hi, rfl, rfl, HS, s0, s1, n0, rfl⟩ := hrel
    by_cases hlt : i < ts.length
    · have hlt' : (i : Int) < (ts.length : Int) := by omega
      obtain ⟨_, _, _, c3⟩ := hTW i hlt
      have hexp := fun k hk => expK_cell hTW i hlt k hk
      have hbyt := hby _ (List.getElem_mem hlt)
      have hval := hv _ (List.getElem_mem hlt)
      have HSTEP := Lib.hid (sumV_step p l ts i hlt)
      generalize ts[i] = t at *
      have HEXP := Lib.hid hexp
      have HTV := fun k => tvTo_small (l := l) h2 hval k
      have HTV2 := Lib.hid HTV
      clear hexp HTV hval
      go_wp2
      go_loopw [7, 8] (fun s i wr => ∃ (k : Nat) (T : Int), k ≤ l.length ∧ i = .int .i64 k ∧ s = .int .i64 T ∧ Hid (T = tvTo p t l k) ∧ ∃ n, wr = W.drewN n) (fun _ i _ => l.length - (intOf i).toNat)
      case atStart => exact ⟨0, _, by omega, rfl, rfl, Lib.hid rfl, n0, rfl⟩
      case round =>
        obtain ⟨k, T, hk, rfl, rfl, HT, n1, rfl⟩ := hrel
        by_cases hlk : k < l.length
        · have hlk' : (k : Int) < (l.length : Int) := by omega
          have ce := HEXP.out k (by omega)
          have cp := hCW k hlk
          obtain ⟨e0, e1⟩ := expK_byte hbyt k
          have hxk := HX.out k hlk
          have HG : Hid (l.getD k 0 = l[k]) := Lib.hid (by simp [List.getD, hlk])
          generalize l[k] = x at *
          generalize hE : expK t k = E at *
          have HE := Lib.hid hE
          clear hE
          go_wp2
          go_loopw [7, 9] (fun s i wr => ∃ (m : Nat) (R : Int), (m : Int) ≤ E ∧ i = .int .u8 (E - m) ∧ s = .int .i64 R ∧ Hid (R = itI p x T m) ∧ ∃ n, wr = W.drewN n) (fun _ i _ => (intOf i).toNat)
          case atStart => exact ⟨0, T, by omega, by simp, rfl, Lib.hid rfl, n1, rfl⟩
          case round =>
            obtain ⟨m, R, hm, rfl, rfl, HR, n2, rfl⟩ := hrel
            by_cases hlm : (m : Int) < E
            · have hsm := itI_small (x := x) h2 (by rw [HT.out]; exact HTV2.out k : 0 ≤ T ∧ T < p) m
              rw [← HR.out] at hsm
              obtain ⟨q1, q2, q3⟩ := prod_walk h2 h13 hsm hxk
              have hpos : 0 < E - (m : Int) := by omega
              have hp0 : (p == 0) = false := by simp; omega
              have HI := Lib.hid (show itI p x T (m + 1) = itI p x T m * x % p from rfl)
              go_wp2
              go_quiet (fail)
              go_wp2
              go_roundw
              case rel => exact ⟨m + 1, R * x % p, by omega, by go_num, rfl, Lib.hid (by rw [HI.out, ← HR.out]), _, rfl⟩
              case measure => simp [intOf]; omega
            · have HM : Hid (m = E.toNat) := Lib.hid (by omega)
              have hpos : ¬ 0 < E - (m : Int) := by omega
              have HI := Lib.hid (show tvTo p t l (k + 1) = itI p (l.getD k 0) (tvTo p t l k) (expK t k).toNat from rfl)
              go_wp2
              go_roundw
              case rel => exact ⟨k + 1, R, by omega, by go_num, rfl, Lib.hid (by rw [HI.out, HG.out, ← HT.out, HE.out, ← HM.out, ← HR.out]), _, rfl⟩
              case measure => simp [intOf]; omega
        · obtain rfl : k = l.length := by omega
          have hT1 := HTV2.out l.length
          rw [← HT.out] at hT1
          obtain ⟨u0, u1⟩ := hT1
          go_wp2
          go_roundw
          case rel => exact ⟨i + 1, S + T, by omega, by go_num, by go_num, Lib.hid (by rw [HSTEP.out, ← HS.out, HT.out]; rfl), by omega, by omega, _, rfl⟩
          case measure => simp [intOf]; omega
    · obtain rfl : i = ts.length := by omega
      go_wp2
      go_ret
      exact ⟨by rw [← HS.out]; rfl, by repeat (first | with_reducible exact hbW | refine below_drewN ?_ _)⟩


theorem pow_int (p x E : Int) (w : World) (h2 : 2 ≤ p) (h13 : p ≤ 13) (hx : 0 ≤ x ∧ x < p) (h0 : 0 ≤ E) (h1 : E ≤ 255) :
    Calls Try.prog 232 #[.int .i64 p, .int .i64 x, .int .i64 E] w fun e w' => e = .returned (.int .i64 (powI p x E.toNat)) ∧ w = w' := by
  obtain ⟨n, rfl⟩ := Int.eq_ofNat_of_zero_le h0
  rw [Int.toNat_natCast]
  exact pow_any p x n w h2 h13 hx (by omega)

theorem chain_vals {p d : Int} : ∀ (ts : List Tm) (o : Option Tm), chain p d o ts = true → ∀ t ∈ ts, 0 ≤ t.2.2.2 ∧ t.2.2.2 < p
  | [], _, _, t, ht => by simp at ht
  | a :: r, o, h, t, ht => by
    simp only [chain, Bool.and_eq_true] at h
    rcases List.mem_cons.1 ht with rfl | ht
    · have h1 := h.1
      simp only [termOk, Bool.and_eq_true, decide_eq_true_eq] at h1
      omega
    · exact chain_vals r _ h.2.2 t ht
theorem polyB_vals {p d : Int} {ts : List Tm} (h : isPolyB p d ts = true) : (2 ≤ p ∧ p ≤ 13) ∧ ∀ t ∈ ts, 0 ≤ t.2.2.2 ∧ t.2.2.2 < p := by
  simp only [isPolyB, Bool.and_eq_true] at h
  refine ⟨prime_le h.1, ?_⟩
  have := h.2.2
  unfold tailB at this
  exact chain_vals _ _ (by simpa using this)
theorem ptB_parts {p d : Int} {l : List Int} (h : nptB p d l = true) : (l.length : Int) = d ∧ ∀ (k : Nat) (hk : k < l.length), 0 ≤ l[k] ∧ l[k] < p := by
  simp only [nptB, Bool.and_eq_true, decide_eq_true_eq] at h
  refine ⟨h.1, fun k hk => ?_⟩
  have := List.all_eq_true.1 h.2 _ (List.getElem_mem hk)
  simpa [nnumB] using this
theorem add_mod (p A T : Int) : (A % p + T) % p = (A + T) % p := by
  rw [Int.add_emod, Int.emod_emod_of_dvd _ (Int.dvd_refl p), ← Int.add_emod]

set_option maxHeartbeats 4000000 in
theorem implVa_ok (p d : Int) (b off cap g o cap' : Nat) (ts : List Tm) (l : List Int) (w : World) (hl : ts.length ≤ 1048576) (hS : SliceT w (.slice (some ⟨b, off, none⟩) ts.length cap) ts) (hblt : b < w.heap.size) (hT : Terms w b off ts) (hby : ∀ t ∈ ts, tmByte t)
    (hm : l.length ≤ 1048576) (hg : g < w.heap.size) (hC : Cs w g o l) (HB : Hid (isPolyB p d ts = true)) (HE : Hid (nptB p d l = true)) :
    Calls Try.prog 193 #[.agg #[.int .i64 p, .int .i64 d, .slice (some ⟨b, off, none⟩) ts.length cap], .slice (some ⟨g, o, none⟩) l.length cap'] w fun e w' => e = .returned (.tuple #[.int .i64 (sumV p l ts ts.length % p), .int .i64 0]) ∧ Below w.heap.size w w' := by
  have h1 : ∀ o, SliceT (w.alloc o) (.slice (some ⟨b, off, none⟩) ts.length cap) ts := fun o => hS.below (box1 _ _)
  obtain ⟨hd1, hd3⟩ := polyB_varsV HB.out
  obtain ⟨⟨h2, h13⟩, hv⟩ := polyB_vals HB.out
  obtain ⟨hlen, hx⟩ := ptB_parts HE.out
  have hl3 : l.length ≤ 3 := by omega
  have HX := Lib.hid hx
  have HV := Lib.hid hv
  have HBY := Lib.hid hby
  have hp0 : (p == 0) = false := by simp; omega
  clear hx hv hlen
  go_enter Try.func193, Try.ntmps193
  go_wp2_with fail
  ((with_reducible refine (isPoly_any p d _ ts _ hl (h1 _) hby).mono ?_); rintro e w1 ⟨rfl, hb⟩)
  rw [HB.out]
  obtain ⟨hc, hf⟩ := old_cells hb
  have hz : w.heap.size < w1.heap.size := by have := hb.size; simp at this; omega
  have hb0 := (box1 _ _).trans (hb.mono (by simp))
  have q0 := (hc w.heap.size 0 (by simp)).trans (by go_simp : _ = some (.int .i64 p))
  have q1 := (hc w.heap.size 1 (by simp)).trans (by go_simp : _ = some (.int .i64 d))
  have q2 := (hc w.heap.size 2 (by simp)).trans (by go_simp : _ = some (.slice (some ⟨b, off, none⟩) ts.length cap))
  have hT1 := hT.below hb0 hblt
  have hC1 := hC.below hb0 hg
  have hb1 := Nat.lt_trans hblt hz
  have hg1 := Nat.lt_trans hg hz
  have hSU1 : Sl w1 (.slice (some ⟨g, o, none⟩) l.length cap') l := ⟨_, cap', rfl, .inr ⟨g, o, rfl, hg1, hC1⟩⟩
  clear hc hf hb h1 hby
  go_wp2_with fail
  ((with_reducible refine (nareNumbers_any p d _ l w1 hd1 hm hSU1).mono ?_); rintro e W ⟨rfl, hb2⟩)
  rw [HE.out]
  have r0 := (hb2.cell (p := ⟨w.heap.size, 0, none⟩) hz).trans q0
  have r2 := (hb2.cell (p := ⟨w.heap.size, 2, none⟩) hz).trans q2
  have hzW : w.heap.size < W.heap.size := Nat.lt_of_lt_of_le hz hb2.size
  have hTW := hT1.below hb2 hb1
  have hCW := hC1.below hb2 hg1
  have hbW' := Nat.lt_of_lt_of_le hb1 hb2.size
  have hgW := Nat.lt_of_lt_of_le hg1 hb2.size
  have hb0W := hb0.trans (hb2.mono (Nat.le_of_lt hz))
  clear q0 q1 q2 hT1 hC1 hb2 hb0 hSU1
  go_wp2
  go_loopw [6, 25] (fun s i wr => ∃ (k : Nat) (S : Int), k ≤ ts.length ∧ i = .int .i64 k ∧ s = .int .i64 S ∧ Hid (S = sumV p l ts k % p) ∧ 0 ≤ S ∧ S < p ∧ Below W.heap.size W wr) (fun _ i _ => ts.length - (intOf i).toNat)
  case atStart => exact ⟨0, 0, by omega, rfl, rfl, Lib.hid (by simp [sumV]), by omega, by omega, Below.refl _ _⟩
  case round =>
    obtain ⟨i, S, hi, rfl, rfl, HS, s0, s1, hbel⟩ := hrel
    have z0 := (hbel.cell (p := ⟨w.heap.size, 0, none⟩) hzW).trans r0
    by_cases hlt : i < ts.length
    · have hlt' : (i : Int) < (ts.length : Int) := by omega
      have hTr := hTW.below hbel hbW'
      obtain ⟨c0, c1, c2, c3⟩ := hTr i hlt
      have hbyt := HBY.out _ (List.getElem_mem hlt)
      have hval := HV.out _ (List.getElem_mem hlt)
      have HSTEP := Lib.hid (sumV_step p l ts i hlt)
      have hzr : w.heap.size < wr.heap.size := Nat.lt_of_lt_of_le hzW hbel.size
      have hgr : g < wr.heap.size := Nat.lt_of_lt_of_le hgW hbel.size
      have hCr := hCW.below hbel hgW
      generalize ts[i] = t at *
      have HTV := Lib.hid (fun k => tvTo_small (l := l) h2 hval k)
      obtain ⟨V, hV, hbV, hVs, t0, t1, t2, t3⟩ : ∃ V, V = wr.alloc (.cells #[.int .u8 t.1, .int .u8 t.2.1, .int .u8 t.2.2.1, .int .i64 t.2.2.2] 151) ∧ Below wr.heap.size wr V ∧ wr.heap.size < V.heap.size ∧
          V.cell? ⟨wr.heap.size, 0, none⟩ = some (.int .u8 t.1) ∧ V.cell? ⟨wr.heap.size, 1, none⟩ = some (.int .u8 t.2.1) ∧ V.cell? ⟨wr.heap.size, 2, none⟩ = some (.int .u8 t.2.2.1) ∧ V.cell? ⟨wr.heap.size, 3, none⟩ = some (.int .i64 t.2.2.2) :=
        ⟨_, rfl, box1 _ _, by simp, by go_simp, by go_simp, by go_simp, by go_simp⟩
      have HEXP : Hid (∀ k, k < 3 → V.cell? ⟨wr.heap.size, k, none⟩ = some (.int .u8 (expK t k))) := Lib.hid (fun k hk => by
        match k, hk with
        | 0, _ => simpa [expK] using t0
        | 1, _ => simpa [expK] using t1
        | 2, _ => simpa [expK] using t2)
      have hCV := hCr.below hbV hgr
      have y0 := (hbV.cell (p := ⟨w.heap.size, 0, none⟩) hzr).trans z0
      have hgV := Nat.lt_trans hgr hVs
      have hzV := Nat.lt_trans hzr hVs
      have hbelV := hbel.trans (hbV.mono hbel.size)
      clear hval t0 t1 t2
      go_wp2
      rw [← hV]
      clear hV
      obtain ⟨wo, rfl⟩ : ∃ wo : World, wo = wr := ⟨_, rfl⟩
      go_loopw [9, 33] (fun s i wq => ∃ (k : Nat) (T : Int), k ≤ l.length ∧ i = .int .i64 k ∧ s = .int .i64 T ∧ Hid (T = tvTo p t l k) ∧ Below V.heap.size V wq) (fun _ i _ => l.length - (intOf i).toNat)
      case atStart => exact ⟨0, _, by omega, rfl, rfl, Lib.hid rfl, Below.refl _ _⟩
      case round =>
        obtain ⟨k, T, hk, rfl, rfl, HT, hbq⟩ := hrel
        by_cases hlk : k < l.length
        · have hlk' : (k : Int) < (l.length : Int) := by omega
          have ce := cell_regrown ((hbq.cell (p := ⟨wo.heap.size, k, none⟩) hVs).trans (HEXP.out k (by omega)))
          have cp := (hbq.cell (p := ⟨g, o + k, none⟩) hgV).trans (hCV k hlk)
          have cy := cell_regrown ((hbq.cell (p := ⟨w.heap.size, 0, none⟩) hzV).trans y0)
          obtain ⟨e0, e1⟩ := expK_byte hbyt k
          have hxk := HX.out k hlk
          have HG : Hid (l.getD k 0 = l[k]) := Lib.hid (by simp [List.getD, hlk])
          have hT0 := HTV.out k
          rw [← HT.out] at hT0
          generalize l[k] = x at *
          generalize hE : expK t k = E at *
          have HEq := Lib.hid hE
          clear hE
          have hP := powI_small (x := x) h2 E.toNat
          obtain ⟨u1, u2, u3⟩ := prod_walk h2 h13 hT0 hP
          have HI : Hid (tvTo p t l (k + 1) = T * powI p x E.toNat % p) := Lib.hid (by
            show itI p (l.getD k 0) (tvTo p t l k) (expK t k).toNat = _
            rw [HG.out, HEq.out, ← HT.out, itI_pow hT0])
          have cP : ∀ dd os, Calls Try.prog 232 #[.int .i64 p, .int .i64 x, .int .i64 E] (grow (redrawn wr dd) os) fun e w'' => e = .returned (.int .i64 (powI p x E.toNat)) ∧ ∃ q : Regrown, w'' = grow (redrawn wr q.d) q.os :=
            fun dd os => regrown_same (pow_int p x E _ h2 h13 hxk e0 e1)
          generalize powI p x E.toNat = P at *
          go_wp2
          refine wp_region_quiet_below (by kernel_rfl) (by kernel_rfl) ?_
          repeat (go_big_quiet_step (with_reducible exact cP _ _))
          refine wpQuiet_nil ?_
          intro _ hw'
          obtain ⟨⟨dq, osq⟩, hw''⟩ := hw'
          subst hw''
          go_wp2
          go_roundw
          case rel => exact ⟨k + 1, T * P % p, by omega, by go_num, rfl, Lib.hid HI.out.symm, hbq.trans ((below_regrown wr dq osq).mono hbq.size)⟩
          case measure => simp [intOf]; omega
        · obtain rfl : k = l.length := by omega
          have hT1 := HTV.out l.length
          rw [← HT.out] at hT1
          obtain ⟨u0, u1⟩ := hT1
          have y1 := (hbq.cell (p := ⟨w.heap.size, 0, none⟩) hzV).trans y0
          obtain ⟨g0, g1⟩ := mod_small (p := p) (a := S + T) h2
          have HQ : Hid ((S + T) % p = sumV p l ts (i + 1) % p) := Lib.hid (by rw [HSTEP.out, HS.out, add_mod, HT.out]; rfl)
          go_wp2
          go_roundw
          case rel => exact ⟨i + 1, (S + T) % p, by omega, by go_num, rfl, HQ, g0, g1, hbelV.trans (hbq.mono hbelV.size)⟩
          case measure => simp [intOf]; omega
    · obtain rfl : i = ts.length := by omega
      go_wp2
      go_ret2
      exact ⟨by rw [← HS.out]; rfl, hb0W.trans (hbel.mono hb0W.size)⟩

theorem specValue_nil (p d : Int) (a : Option Addr) (cap : Nat) (u : Value) (w : World) (h2 : 2 ≤ p) :
    Calls Try.prog 188 #[.agg #[.int .i64 p, .int .i64 d, .slice a 0 cap], u] w fun e w' => e = .returned (.int .i64 0) ∧ Below w.heap.size w w' := by
  have hp0 : (p == 0) = false := by simp; omega
  go_enter Try.func188, Try.ntmps188
  go_wp2
  refine wp_loop_rounds 1 ?_
  rw [rounds_succ]
  go_wp2
  go_ret
  exact ⟨by simp, box1 _ _⟩

set_option maxHeartbeats 1000000 in
theorem implVa_nil (p d : Int) (a : Option Addr) (cap : Nat) (u : Value) (l : List Int) (w : World) (hm : l.length ≤ 1048576) (hU : Sl w u l) (HB : Hid (isPolyB p d [] = true)) (HE : Hid (nptB p d l = true)) :
    Calls Try.prog 193 #[.agg #[.int .i64 p, .int .i64 d, .slice a 0 cap], u] w fun e w' => e = .returned (.tuple #[.int .i64 0, .int .i64 0]) ∧ Below w.heap.size w w' := by
  have h1 : ∀ o, SliceT (w.alloc o) (.slice a 0 cap) [] := fun o => ⟨a, cap, rfl, .inl rfl⟩
  have h2 : ∀ o, Sl (w.alloc o) u l := fun o => hU.below (box1 _ _)
  have hby : ∀ t ∈ ([] : List Tm), tmByte t := fun t h => by simp at h
  obtain ⟨hd1, hd3⟩ := polyB_varsV HB.out
  go_enter Try.func193, Try.ntmps193
  go_wp2_with fail
  ((with_reducible refine (isPoly_any p d _ [] _ (by simp) (h1 _) hby).mono ?_); rintro e w1 ⟨rfl, hb⟩)
  rw [HB.out]
  obtain ⟨hc, hf⟩ := old_cells hb
  have hz : w.heap.size < w1.heap.size := by have := hb.size; simp at this; omega
  have hU1 := (h2 _).below hb
  have hb0 := (box1 _ _).trans (hb.mono (by simp))
  have q2 := (hc w.heap.size 2 (by simp)).trans (by go_simp : _ = some (.slice a 0 cap))
  clear h1 h2
  go_wp2_with fail
  ((with_reducible refine (nareNumbers_any p d _ l w1 hd1 hm hU1).mono ?_); rintro e w2 ⟨rfl, hb2⟩)
  rw [HE.out]
  have r2 := (hb2.cell (p := ⟨w.heap.size, 2, none⟩) hz).trans q2
  clear hc hf
  go_wp2
  refine wp_loop_rounds 1 ?_
  rw [rounds_succ]
  go_wp2
  go_ret2
  exact ⟨rfl, hb0.trans (hb2.mono (Nat.le_of_lt hz))⟩


/-- The value of a polynomial at a point. -/
def vaP (g : Pm) (l : List Int) : Int := sumV g.1 l g.2.2 g.2.2.length % g.1
theorem sval1 (g : Pm) (v u : Value) (l : List Int) (w : World) (hok : PmOk g) (hp : isPm g = true) (hS : SliceT w v g.2.2) (hE : nptB g.1 g.2.1 l = true) (hU : Sl w u l) :
    Calls Try.prog 188 #[.agg #[.int .i64 g.1, .int .i64 g.2.1, v], u] w fun e w' => e = .returned (.int .i64 (vaP g l)) ∧ Below w.heap.size w w' := by
  obtain ⟨p, d, ts⟩ := g
  obtain ⟨hby, hl⟩ := hok
  have hB : isPolyB p d ts = true := hp
  simp only at hby hl hS hE ⊢
  obtain ⟨hd1, hd3⟩ := polyB_varsV hB
  obtain ⟨⟨h2, h13⟩, hv⟩ := polyB_vals hB
  obtain ⟨hlen, hx⟩ := ptB_parts hE
  obtain ⟨a, cap, rfl, hS⟩ := hS
  rcases hS with rfl | ⟨b, off, rfl, hb, hT⟩
  · have h0 : vaP (p, d, []) l = 0 := by simp [vaP, sumV]
    rw [h0]
    exact specValue_nil p d a cap u w h2
  · obtain ⟨a', cap', rfl, hU⟩ := hU
    rcases hU with rfl | ⟨g, o, rfl, hg, hC⟩
    · simp at hlen; omega
    · exact specValue_some p d b off cap g o cap' ts l w hl hb hT hby h2 h13 hv (by omega) hg hC hx
theorem ival1 (g : Pm) (v u : Value) (l : List Int) (w : World) (hok : PmOk g) (hp : isPm g = true) (hS : SliceT w v g.2.2) (hE : nptB g.1 g.2.1 l = true) (hU : Sl w u l) :
    Calls Try.prog 193 #[.agg #[.int .i64 g.1, .int .i64 g.2.1, v], u] w fun e w' => e = .returned (.tuple #[.int .i64 (vaP g l), .int .i64 0]) ∧ Below w.heap.size w w' := by
  obtain ⟨p, d, ts⟩ := g
  obtain ⟨hby, hl⟩ := hok
  have hB : isPolyB p d ts = true := hp
  simp only at hby hl hS hE ⊢
  obtain ⟨hd1, hd3⟩ := polyB_varsV hB
  obtain ⟨hlen, hx⟩ := ptB_parts hE
  have hS0 := hS
  obtain ⟨a, cap, rfl, hS⟩ := hS
  rcases hS with rfl | ⟨b, off, rfl, hb, hT⟩
  · have h0 : vaP (p, d, []) l = 0 := by simp [vaP, sumV]
    rw [h0]
    exact implVa_nil p d a cap u l w (by omega) hU (Lib.hid hB) (Lib.hid hE)
  · obtain ⟨a', cap', rfl, hU⟩ := hU
    rcases hU with rfl | ⟨g, o, rfl, hg, hC⟩
    · simp at hlen; omega
    · exact implVa_ok p d b off cap g o cap' ts l w hl hS0 hb hT hby (by omega) hg hC (Lib.hid hB) (Lib.hid hE)
end Go.Proofs.Ytbahejlgfpilnaa
namespace Go.Proofs.Ytbahejlgfpilnaa
open Go.RowKit Go.Sort Go.Maps

set_option maxRecDepth 8000 in
set_option maxHeartbeats 16000000 in
theorem slike (lv : Value) (G : List Pm) (w : World) (hlG : G.length ≤ 1048576) (hok : ∀ g ∈ G, PmOk g) (hG : SlP w lv G) :
    Calls Try.prog 119 #[lv] w fun e w' => e = .returned (.int .i64 (valC G)) ∧ Below w.heap.size w w' := by
  obtain ⟨la, lc, rfl, hc⟩ := id hG
  have HOK := Lib.hid hok
  clear hok
  go_enter Try.func119, Try.ntmps119
  go_wp2_with fail
  go_loopw [3] (fun i wr => ∃ k : Nat, k ≤ G.length ∧ i = .int .i64 k ∧ Hid (∀ (j : Nat) (h : j < G.length), j < k → isPm G[j] = true) ∧ Below w.heap.size w wr) (fun i _ => G.length - (intOf i).toNat)
  case atStart => exact ⟨0, by omega, rfl, Lib.hid (fun j _ h => by omega), Below.refl _ _⟩
  case round =>
    obtain ⟨k, hk, rfl, HU, hbr⟩ := hrel
    by_cases hlt : k < G.length
    · have hlt' : (k : Int) < (G.length : Int) := by omega
      obtain ⟨bl, off, rfl, hbl, hT⟩ : ∃ bl off, la = some ⟨bl, off, none⟩ ∧ bl < w.heap.size ∧ PolysW w bl off G := by
        rcases hc with h | h
        · rw [h] at hlt; simp at hlt
        · exact h
      obtain ⟨u, g0, g1, g2, hu⟩ := (hT.below hbr hbl) k hlt
      obtain ⟨ua, uc, rfl, _⟩ := id hu
      have hokk := HOK.out _ (List.getElem_mem hlt)
      have HIS := Lib.hid (specIs_any G[k].1 G[k].2.1 _ G[k].2.2 wr hokk.2 hu hokk.1)
      cases hp : isPolyB G[k].1 G[k].2.1 G[k].2.2
      · have HO1 : Hid (valC G = 1) := Lib.hid (by
          have : G.all isPm = false := by
            rw [List.all_eq_false]
            exact ⟨_, List.getElem_mem hlt, by simp [isPm, hp]⟩
          simp [valC, this])
        rw [hp] at HIS
        clear hp hu hokk
        go_wp2_with fail
        ((with_reducible refine HIS.out.mono ?_); rintro e w2 ⟨rfl, hb2⟩)
        have hbw2 := hbr.trans (hb2.mono hbr.size)
        go_wp2_with fail
        go_ret
        exact ⟨by rw [HO1.out]; rfl, hbw2⟩
      · have HU2 : Hid (∀ (j : Nat) (h : j < G.length), j < k + 1 → isPm G[j] = true) := Lib.hid (fun j h hj => by
          by_cases e : j = k
          · subst e; exact hp
          · exact HU.out j h (by omega))
        rw [hp] at HIS
        clear hp hu hokk HU
        go_wp2_with fail
        ((with_reducible refine HIS.out.mono ?_); rintro e w2 ⟨rfl, hb2⟩)
        have hbw2 := hbr.trans (hb2.mono hbr.size)
        go_wp2_with fail
        go_roundw
        case rel => exact ⟨k + 1, by omega, by go_num, HU2, hbw2⟩
        case measure => simp [intOf]; omega
    · obtain rfl : k = G.length := by omega
      have HP : Hid (G.all isPm = true) := Lib.hid (List.all_eq_true.2 fun g hg => by
        obtain ⟨j, hj, rfl⟩ := List.getElem_of_mem hg
        exact HU.out j hj hj)
      clear HU
      by_cases h8 : 8 < G.length
      · have HO : Hid (valC G = 2) := Lib.hid (by
          have : ¬ G.length ≤ 8 := by omega
          simp [valC, HP.out, this])
        have h8' : (8 : Int) < (G.length : Int) := by omega
        clear h8
        go_wp2_with fail
        go_ret
        exact ⟨by rw [HO.out]; rfl, hbr⟩
      have h8' : ¬ (8 : Int) < (G.length : Int) := by omega
      have HL : Hid (valC G = if G.all (likeG (hdP G)) = true then 0 else 2) := Lib.hid (by
        have : G.length ≤ 8 := by omega
        simp [valC, HP.out, this])
      obtain ⟨w0, hw0⟩ : ∃ w0 : World, w0 = wr := ⟨_, rfl⟩
      subst hw0
      go_wp2_with fail
      go_loopw [4] (fun i wr => ∃ k : Nat, k ≤ G.length ∧ i = .int .i64 k ∧ Hid (∀ (j : Nat) (h : j < G.length), j < k → likeG (hdP G) G[j] = true) ∧ Below w.heap.size w wr) (fun i _ => G.length - (intOf i).toNat)
      case atStart => exact ⟨0, by omega, rfl, Lib.hid (fun j _ h => by omega), hbr⟩
      case round =>
        clear hbr
        obtain ⟨k, hk, rfl, HU, hbr⟩ := hrel
        by_cases hlt : k < G.length
        · have hlt' : (k : Int) < (G.length : Int) := by omega
          have hlt0 : (0 : Int) < (G.length : Int) := by omega
          have hn0 : 0 < G.length := by omega
          obtain ⟨bl, off, rfl, hbl, hT⟩ : ∃ bl off, la = some ⟨bl, off, none⟩ ∧ bl < w.heap.size ∧ PolysW w bl off G := by
            rcases hc with h | h
            · rw [h] at hlt; simp at hlt
            · exact h
          obtain ⟨u, g0, g1, g2, hu⟩ := (hT.below hbr hbl) k hlt
          obtain ⟨u0, f0, f1, f2, _⟩ := (hT.below hbr hbl) 0 hn0
          rw [Nat.zero_mul, Nat.add_zero] at f0 f1 f2
          obtain ⟨ua, uc, rfl, _⟩ := id hu
          have hokk := HOK.out _ (List.getElem_mem hlt)
          have HX : Hid (likeG (hdP G) G[k] = (decide (G[k].1 = G[0].1) && decide (G[k].2.1 = G[0].2.1))) := Lib.hid (by rw [hdP_at hn0]; rfl)
          have HF : Hid (likeG (hdP G) G[k] = false → valC G = 2) := Lib.hid (fun h => by
            have : G.all (likeG (hdP G)) = false := by
              rw [List.all_eq_false]
              exact ⟨_, List.getElem_mem hlt, by rw [h]; simp⟩
            rw [HL.out, this]; rfl)
          have HU2 : Hid (likeG (hdP G) G[k] = true → ∀ (j : Nat) (h : j < G.length), j < k + 1 → likeG (hdP G) G[j] = true) := Lib.hid (fun hp j h hj => by
            by_cases e : j = k
            · subst e; exact hp
            · exact HU.out j h (by omega))
          generalize G[k] = g at *
          obtain ⟨p2, d2, ts⟩ := g
          simp only at g0 g1 g2 HX
          clear hokk hu
          obtain ⟨q, hq⟩ : ∃ q, G[0].1 = q := ⟨_, rfl⟩
          obtain ⟨e, he⟩ : ∃ e, G[0].2.1 = e := ⟨_, rfl⟩
          rw [hq] at f0 HX
          rw [he] at f1 HX
          have k0 := cell_regrown g0
          have k1 := cell_regrown g1
          have k3 := cell_regrown f0
          have k4 := cell_regrown f1
          clear hq he f0 f1 f2 g0 g1 g2 HU hT
          by_cases hp : p2 = q
          case neg =>
            have hpp : (p2 != q) = true := by simpa using hp
            have HO := Lib.hid (HF.out (by rw [HX.out]; simp [hp]))
            clear hp
            go_wp2_with fail
            refine wp_region_quiet_below (by kernel_rfl) (by kernel_rfl) ?_
            repeat (go_big_quiet_step (fail))
            refine wpQuiet_nil ?_
            intro _ hw'
            obtain ⟨⟨dq, osq⟩, hw''⟩ := hw'
            subst hw''
            have hend := hbr.trans ((below_regrown wr dq osq).mono hbr.size)
            generalize grow (redrawn wr dq) osq = w3 at *
            clear k0 k1 k3 k4
            go_wp2_with fail
            go_ret
            exact ⟨by rw [HO.out]; rfl, hend⟩
          subst hp
          have hpp : (p2 != p2) = false := by simp
          by_cases hd : d2 = e
          case neg =>
            have hdd : (d2 != e) = true := by simpa using hd
            have HO := Lib.hid (HF.out (by rw [HX.out]; simp [hd]))
            clear hd
            go_wp2_with fail
            refine wp_region_quiet_below (by kernel_rfl) (by kernel_rfl) ?_
            repeat (go_big_quiet_step (fail))
            refine wpQuiet_nil ?_
            intro _ hw'
            obtain ⟨⟨dq, osq⟩, hw''⟩ := hw'
            subst hw''
            have hend := hbr.trans ((below_regrown wr dq osq).mono hbr.size)
            generalize grow (redrawn wr dq) osq = w3 at *
            clear k0 k1 k3 k4
            go_wp2_with fail
            go_ret
            exact ⟨by rw [HO.out]; rfl, hend⟩
          case pos =>
            subst hd
            have hdd : (d2 != d2) = false := by simp
            have HN := Lib.hid (HU2.out (by rw [HX.out]; simp))
            go_wp2_with fail
            refine wp_region_quiet_below (by kernel_rfl) (by kernel_rfl) ?_
            repeat (go_big_quiet_step (fail))
            refine wpQuiet_nil ?_
            intro _ hw'
            obtain ⟨⟨dq, osq⟩, hw''⟩ := hw'
            subst hw''
            have hend := hbr.trans ((below_regrown wr dq osq).mono hbr.size)
            generalize grow (redrawn wr dq) osq = w3 at *
            clear k0 k1 k3 k4
            go_wp2_with fail
            go_roundw
            case rel => exact ⟨k + 1, by omega, by go_num, HN, hend⟩
            case measure => simp [intOf]; omega
        · obtain rfl : k = G.length := by omega
          have hA : G.all (likeG (hdP G)) = true := List.all_eq_true.2 fun g hg => by
            obtain ⟨j, hj, rfl⟩ := List.getElem_of_mem hg
            exact HU.out j hj hj
          have HO : Hid (valC G = 0) := Lib.hid (by rw [HL.out, hA]; rfl)
          go_wp2_with fail
          go_ret
          exact ⟨by rw [HO.out]; rfl, hbr⟩

/-- What is told of a list whose values may be asked. -/
theorem val_zero {G : List Pm} (h : valC G = 0) : (∀ g ∈ G, isPm g = true) ∧ G.length ≤ 8 ∧ ∀ g ∈ G, g.1 = (hdP G).1 ∧ g.2.1 = (hdP G).2.1 := by
  unfold valC at h
  split at h
  · rename_i h1
    split at h
    · rename_i h2
      split at h
      · rename_i h3
        exact ⟨fun g hg => List.all_eq_true.1 h1 g hg, h2, fun g hg => by simpa [likeG] using List.all_eq_true.1 h3 g hg⟩
      · cases h
    · cases h
  · cases h
def voB (G : List Pm) (l : List Int) : Bool := decide (G.length = 0) || nptB (hdP G).1 (hdP G).2.1 l
def vals (G : List Pm) (l : List Int) : List Int := G.map fun g => vaP g l
def voS (G : List Pm) (l : List Int) : List Int := if valC G = 0 then (if voB G l then vals G l else []) else []
def voC (G : List Pm) (l : List Int) : Int := if valC G = 0 then (if voB G l then 0 else 2) else valC G
theorem voS_len (G : List Pm) (l : List Int) : (voS G l).length ≤ 8 := by
  unfold voS
  split
  · rename_i h
    split
    · rw [vals, List.length_map]; exact (val_zero h).2.1
    · simp
  · simp
theorem vo_pt {G : List Pm} {l : List Int} (h : valC G = 0) (hB : voB G l = true) {g : Pm} (hg : g ∈ G) : nptB g.1 g.2.1 l = true := by
  obtain ⟨h1, h2⟩ := (val_zero h).2.2 g hg
  rw [h1, h2]
  unfold voB at hB
  have h3 : G.length ≠ 0 := fun e => by
    have : G = [] := List.eq_nil_of_length_eq_zero e
    rw [this] at hg
    simp at hg
  simpa [h3] using hB
theorem vals_step (G : List Pm) (l : List Int) {k : Nat} (h : k < G.length) : vals (G.take (k + 1)) l = vals (G.take k) l ++ [vaP G[k] l] := by
  unfold vals
  rw [List.take_succ_eq_append_getElem h, List.map_append]; rfl

set_option maxRecDepth 8000 in
set_option maxHeartbeats 16000000 in
theorem svals (lv u : Value) (G : List Pm) (l : List Int) (w : World) (hok : ∀ g ∈ G, PmOk g) (hG : SlP w lv G) (hU : Sl w u l) (h0 : valC G = 0) (hB : voB G l = true) :
    Calls Try.prog 121 #[lv, u] w fun e w' => ∃ v', e = .returned v' ∧ OwnL w' w.heap.size v' (vals G l) ∧ Below w.heap.size w w' := by
  obtain ⟨la, lc, rfl, hc⟩ := id hG
  have HV := Lib.hid (fun (k : Nat) (hk : k < G.length) (v : Value) (w' : World) (hS : SliceT w' v G[k].2.2) (hU' : Sl w' u l) => sval1 G[k] v u l w' (hok _ (List.getElem_mem hk)) ((val_zero h0).1 _ (List.getElem_mem hk)) hS (vo_pt h0 hB (List.getElem_mem hk)) hU')
  have h8 := (val_zero h0).2.1
  have hnil : OwnL (w.alloc (.cells #[] 2)) w.heap.size (.slice (some ⟨w.heap.size, 0, none⟩) 0 0) (vals (G.take 0) l) :=
    ⟨rfl, .inr ⟨w.heap.size, 0, _, rfl, Nat.le_refl _, heap_alloc_new w _, Nat.le_refl _, by simp [maxLen], rfl, rfl⟩⟩
  clear hok h0 hB
  go_enter Try.func121, Try.ntmps121
  go_wp2_with fail
  go_loopw [5, 6] (fun s i wr => ∃ (k : Nat), k ≤ G.length ∧ i = .int .i64 k ∧ OwnL wr w.heap.size s (vals (G.take k) l) ∧ Below w.heap.size w wr) (fun _ i _ => G.length - (intOf i).toNat)
  case atStart => exact ⟨0, by omega, rfl, hnil, ebox1 _ _⟩
  case round =>
    clear hnil
    obtain ⟨k, hk, rfl, hO, hbr⟩ := hrel
    by_cases hlt : k < G.length
    · have hlt' : (k : Int) < (G.length : Int) := by omega
      obtain ⟨bl, off, rfl, hbl, hT⟩ : ∃ bl off, la = some ⟨bl, off, none⟩ ∧ bl < w.heap.size ∧ PolysW w bl off G := by
        rcases hc with h | h
        · rw [h] at hlt; simp at hlt
        · exact h
      obtain ⟨us, g0, g1, g2, hu⟩ := (hT.below hbr hbl) k hlt
      obtain ⟨ua, uc, rfl, _⟩ := id hu
      have HVK := Lib.hid (HV.out k hlt _ wr hu (hU.below hbr))
      have HST := Lib.hid (vals_step G l hlt)
      obtain ⟨x, hx⟩ : ∃ x, vaP G[k] l = x := ⟨_, rfl⟩
      rw [hx] at HVK HST
      have HLN : Hid ((vals (G.take k) l).length ≤ 8) := Lib.hid (by rw [vals, List.length_map, List.length_take]; omega)
      obtain ⟨O, hOe⟩ : ∃ O, vals (G.take k) l = O := ⟨_, rfl⟩
      rw [hOe] at hO HST HLN
      obtain ⟨oa, oc, rfl⟩ := hO.shape
      have hsr := hbr.size
      clear hx hOe hu hT
      go_wp2_with fail
      ((with_reducible refine HVK.out.mono ?_); rintro e w3 ⟨rfl, hb3⟩)
      have hb4 := (hbr.trans (hb3.mono hsr)).trans ((ebox1 w3 (.cells #[.int .i64 x] 2)).mono (Nat.le_trans hsr hb3.size))
      have hO4 := (hO.below hb3).below (ebox1 w3 (.cells #[.int .i64 x] 2))
      have hnw : Sl (w3.alloc (.cells #[.int .i64 x] 2)) (.slice (some ⟨w3.heap.size, 0, none⟩) 1 1) [x] := OwnL.slice (base := w3.heap.size) ⟨rfl, .inr ⟨w3.heap.size, 1, _, rfl, Nat.le_refl _, heap_alloc_new w3 _, Nat.le_refl _, by simp [maxLen], rfl, rfl⟩⟩
      clear g0 g1 g2 HVK hO
      go_wp2_with (at_builtin; refine wpList_append_ints _ rfl _ _ rfl w.heap.size (.slice oa O.length oc) O rfl hO4 (.slice (some ⟨w3.heap.size, 0, none⟩) 1 1) [x] rfl hnw (by have := HLN.out; simp; omega) hb4.size ?_)
      intro v1 w6 ho1 hg6
      have hb6 : Below w.heap.size w w6 := hb4.grown hg6 hb4.size (fun q hq => (World.ownsRow.lt hO4 q hq).1)
      rw [← HST.out] at ho1
      clear hO4 hg6
      go_wp2_with fail
      go_roundw
      case rel => exact ⟨k + 1, by omega, by go_num, ho1, hb6⟩
      case measure => simp [intOf]; omega
    · obtain rfl : k = G.length := by omega
      rw [List.take_length] at hO
      obtain ⟨oa, oc, rfl⟩ := hO.shape
      go_wp2_with fail
      go_ret
      exact ⟨_, rfl, hO, hbr⟩

def vlF (G : List Pm) (l : List Int) (k q : Nat) : Value := .int .i64 (if q < k then (vals G l).getD q 0 else 0)
set_option maxRecDepth 8000 in
set_option maxHeartbeats 16000000 in
theorem ivals (lv u : Value) (G : List Pm) (l : List Int) (w : World) (hok : ∀ g ∈ G, PmOk g) (hG : SlP w lv G) (hU : Sl w u l) (h0 : valC G = 0) (hB : voB G l = true) :
    Calls Try.prog 124 #[lv, u] w fun e w' => ∃ g, e = .returned (.slice (some ⟨g, 0, none⟩) G.length G.length) ∧ w.heap.size ≤ g ∧ w'.rowIs g 2 G.length (vlF G l G.length) ∧ Below w.heap.size w w' := by
  obtain ⟨la, lc, rfl, hc⟩ := id hG
  have HV := Lib.hid (fun (k : Nat) (hk : k < G.length) (v : Value) (w' : World) (hS : SliceT w' v G[k].2.2) (hU' : Sl w' u l) => ival1 G[k] v u l w' (hok _ (List.getElem_mem hk)) ((val_zero h0).1 _ (List.getElem_mem hk)) hS (vo_pt h0 hB (List.getElem_mem hk)) hU')
  have h8 := (val_zero h0).2.1
  obtain ⟨n, hn⟩ : ∃ n, G.length = n := ⟨_, rfl⟩
  obtain ⟨i0, hi, hz0, hz1, hz2⟩ := info_parts einfoI
  have hmk : ∀ w, (Instr.makeSlice 52 (.int .i64 (n : Int)) (.int .i64 (n : Int))).run Try.prog w = .ok (.slice (some ⟨w.heap.size, 0, none⟩) n n) (w.alloc (.cells (madeCells #[.int .i64 0] n) 2)) := fun w => by
    have h := run_make (P := Try.prog) w 52 2 i0 _ Try.underlying52 hi hz0 .i64 .i64 (n : Int) (n : Int) (by omega) (by omega) (by rw [hz2]; omega) (by omega)
    rw [hz1, show (n : Int).toNat = n by omega] at h
    simpa [Value.cells] using h
  obtain ⟨W, hW, hbW, rW⟩ : ∃ W, W = w.alloc (.cells (madeCells #[.int .i64 0] n) 2) ∧ Below w.heap.size w W ∧ W.rowIs w.heap.size 2 n (vlF G l 0) :=
    ⟨_, rfl, ebox1 _ _, ⟨_, heap_alloc_new w _, by simp [madeCells], fun q hq => by
      simp [madeCells, vlF] at hq ⊢
      exact ⟨q, by simp [hq], by simp [Nat.mod_one]⟩⟩⟩
  have HN := Lib.hid hn
  rw [hn] at h8 ⊢
  clear hok h0 hB hi hz0 hz1 hz2 hn
  go_enter Try.func124, Try.ntmps124
  go_upto_region 2 with fail
  rw [← hW]
  clear hW hmk
  go_wp2_with fail
  go_loopw [13] (fun i wr => ∃ (k : Nat), k ≤ n ∧ i = .int .i64 k ∧ wr.rowIs w.heap.size 2 n (vlF G l k) ∧ Below w.heap.size w wr) (fun i _ => n - (intOf i).toNat)
  case atStart => exact ⟨0, by omega, rfl, rW, hbW⟩
  case round =>
    clear rW hbW
    obtain ⟨k, hk, rfl, hR, hbr⟩ := hrel
    by_cases hlt : k < n
    · have hlt' : (k : Int) < (n : Int) := by omega
      have hkG : k < G.length := by rw [HN.out]; exact hlt
      obtain ⟨bl, off, rfl, hbl, hT⟩ : ∃ bl off, la = some ⟨bl, off, none⟩ ∧ bl < w.heap.size ∧ PolysW w bl off G := by
        rcases hc with h | h
        · rw [h] at hkG; simp at hkG
        · exact h
      obtain ⟨us, g0, g1, g2, hu⟩ := (hT.below hbr hbl) k hkG
      obtain ⟨ua, uc, rfl, _⟩ := id hu
      obtain ⟨x, hx⟩ : ∃ x, vaP G[k] l = x := ⟨_, rfl⟩
      have HST : Hid (∀ q, (if q = k then Value.int .i64 x else vlF G l k q) = vlF G l (k + 1) q) := Lib.hid (fun q => by
        unfold vlF
        by_cases e : q = k
        · subst e; rw [if_pos rfl, if_pos (by omega), ← hx]; simp [vals, hkG]
        · rw [if_neg e]
          by_cases h : q < k
          · rw [if_pos h, if_pos (by omega)]
          · rw [if_neg h, if_neg (by omega)])
      obtain ⟨gp, hgp⟩ : ∃ gp, G[k].1 = gp := ⟨_, rfl⟩
      obtain ⟨gd, hgd⟩ : ∃ gd, G[k].2.1 = gd := ⟨_, rfl⟩
      obtain ⟨gn, hgn⟩ : ∃ gn, G[k].2.2.length = gn := ⟨_, rfl⟩
      obtain ⟨V, hV, hbV, _, rq⟩ := newbox wr gp gd (.slice ua gn uc)
      have HVK := Lib.hid (HV.out k hkG _ V (hu.below hbV) ((hU.below hbr).below hbV))
      rw [hx, hgp, hgd, hgn] at HVK
      rw [hgp] at g0
      rw [hgd] at g1
      rw [hgn] at g2
      have hRV := erow_below hR hbV hR.lt
      obtain ⟨⟨c0, c1, c2⟩, _⟩ := poly3 rq
      have hsr := hbr.size
      clear hx hu hT hgp hgd hgn rq hR
      go_upto_region 5 with fail
      rw [← hV]
      clear hV g0 g1 g2
      go_wp2_with fail
      ((with_reducible refine HVK.out.mono ?_); rintro e w3 ⟨rfl, hb3⟩)
      have hb4 := hbr.trans ((hbV.trans (hb3.mono hbV.size)).mono hsr)
      have hR4 := erow_below hRV hb3 hRV.lt
      have k0 := hR4.cell hlt
      have z0 := hR4.frozen k
      have hR5 := (hR4.set k (.int .i64 x)).congr (g := vlF G l (k + 1)) (fun q _ => HST.out q)
      have hb5 := hb4.setCell (p := ⟨w.heap.size, k, none⟩) (Nat.le_refl _) (.int .i64 x)
      clear c0 c1 c2 HVK hRV hR4 hb3 hbV HST
      go_wp2_with fail
      go_roundw
      case rel => exact ⟨k + 1, by omega, by go_num, hR5, hb5⟩
      case measure => simp [intOf]; omega
    · obtain rfl : k = n := by omega
      go_wp2_with fail
      go_ret
      exact ⟨_, rfl, Nat.le_refl _, hR, hbr⟩
end Go.Proofs.Ytbahejlgfpilnaa
namespace Go.Proofs.Ytbahejlgfpilnaa
open Go.RowKit Go.Sort Go.Maps

theorem vo_bad {G : List Pm} {l : List Int} (h : valC G ≠ 0) : voS G l = [] ∧ voC G l = valC G := by unfold voS voC; simp [h]
theorem vo_out {G : List Pm} {l : List Int} (h : valC G = 0) (hB : voB G l = false) : voS G l = [] ∧ voC G l = 2 := by unfold voS voC; simp [h, hB]
theorem vo_in {G : List Pm} {l : List Int} (h : valC G = 0) (hB : voB G l = true) : voS G l = vals G l ∧ voC G l = 0 := by unfold voS voC; simp [h, hB]
theorem slN (w : World) : Sl w (.slice none 0 0) [] := ⟨none, 0, rfl, .inl rfl⟩

theorem vl_own {w' : World} {base g : Nat} {G : List Pm} {l : List Int} (hg : base ≤ g) (hr : w'.rowIs g 2 G.length (vlF G l G.length)) : OwnV w' base (.slice (some ⟨g, 0, none⟩) G.length G.length) (vals G l) := by
  have hl : (vals G l).length = G.length := by simp [vals]
  refine .inr ⟨g, G.length, G.length, _, by rw [hl], hg, by show (vals G l).length ≤ _; omega, hr, fun q hq => ?_⟩
  have hq0 : q < (vals G l).length := hq
  have hq' : q < G.length := by omega
  unfold vlF
  rw [if_pos hq']
  simp [hq0]

set_option maxRecDepth 8000 in
set_option maxHeartbeats 16000000 in
theorem svo (lv u : Value) (G : List Pm) (l : List Int) (w : World) (hlG : G.length ≤ 1048576) (hok : ∀ g ∈ G, PmOk g) (hG : SlP w lv G) (hl : l.length ≤ 1048576) (hU : Sl w u l) :
    Calls Try.prog 48 #[lv, u] w fun e w' => ∃ v', e = .returned (.tuple #[v', .int .i64 (voC G l)]) ∧ Sl w' v' (voS G l) ∧ Below w.heap.size w w' := by
  obtain ⟨la, lc, rfl, hc⟩ := id hG
  obtain ⟨ua, uc, rfl, _⟩ := id hU
  have HC := Lib.hid (slike _ G w hlG hok hG)
  by_cases h0 : valC G = 0
  case neg =>
    have HX := Lib.hid (vo_bad (l := l) h0)
    obtain ⟨c, hcc⟩ : ∃ c, valC G = c := ⟨_, rfl⟩
    rw [hcc] at HC HX h0
    have hz : (c == 0) = false := by simpa using h0
    have hz2 : (c != 0) = true := by simpa using h0
    clear hcc h0 hc hok hG hU
    go_enter Try.func48, Try.ntmps48
    go_wp2_with fail
    ((with_reducible refine HC.out.mono ?_); rintro e w1 ⟨rfl, hb1⟩)
    clear HC
    go_wp2_with fail
    refine wp_region_quiet_below (by kernel_rfl) (by kernel_rfl) ?_
    repeat (go_big_quiet_step (fail))
    refine wpQuiet_nil ?_
    intro _ hw'
    obtain ⟨⟨dq, osq⟩, hw''⟩ := hw'
    subst hw''
    have hb3 := hb1.trans ((below_regrown w1 dq osq).mono hb1.size)
    generalize grow (redrawn w1 dq) osq = w3 at *
    go_wp2_with fail
    go_ret2
    rw [HX.out.1, HX.out.2]
    exact ⟨_, rfl, slN _, hb3⟩
  rw [h0] at HC
  have hz : ((0 : Int) == 0) = true := by decide
  by_cases hn : G.length = 0
  · have hB : voB G l = true := by simp [voB, hn]
    have HX := Lib.hid (vo_in h0 hB)
    have HV := Lib.hid (fun w (k : SlP w (.slice la G.length lc) G) (k2 : Sl w (.slice ua l.length uc) l) => svals _ _ G l w hok k k2 h0 hB)
    have hn' : ¬ ((0 : Int) < (G.length : Int)) := by omega
    have hnd : decide (0 < G.length) = false := decide_eq_false (by omega)
    clear h0 hB hc hn
    go_enter Try.func48, Try.ntmps48
    go_wp2_with fail
    ((with_reducible refine HC.out.mono ?_); rintro e w1 ⟨rfl, hb1⟩)
    clear HC
    go_wp2_with fail
    refine wp_region_quiet_below (by kernel_rfl) (by kernel_rfl) ?_
    repeat (go_big_quiet_step (fail))
    refine wpQuiet_nil ?_
    intro _ hw'
    obtain ⟨⟨dq, osq⟩, hw''⟩ := hw'
    subst hw''
    have hb3 := hb1.trans ((below_regrown w1 dq osq).mono hb1.size)
    generalize grow (redrawn w1 dq) osq = w3 at *
    go_wp2_with fail
    ((with_reducible refine (HV.out _ (hG.below hb3) (hU.below hb3)).mono ?_); rintro e w4 ⟨v4, rfl, ho4, hb4⟩)
    have hend := hb3.trans (hb4.mono hb3.size)
    have hsl := ho4.slice
    obtain ⟨a4, c4, rfl, _⟩ := id hsl
    go_wp2_with fail
    go_ret2
    rw [HX.out.1, HX.out.2]
    exact ⟨_, rfl, hsl, hend⟩
  have hn0 : 0 < G.length := by omega
  have hn' : (0 : Int) < (G.length : Int) := by omega
  have hnd : decide (0 < G.length) = true := decide_eq_true hn0
  obtain ⟨bl, off, rfl, hbl, hT⟩ : ∃ bl off, la = some ⟨bl, off, none⟩ ∧ bl < w.heap.size ∧ PolysW w bl off G := by
    rcases hc with h | h
    · rw [h] at hn0; simp at hn0
    · exact h
  have hp0 := (val_zero h0).1 _ (List.getElem_mem hn0)
  obtain ⟨⟨h2, h13⟩, hpv⟩ := polyB_vals (show isPolyB G[0].1 G[0].2.1 G[0].2.2 = true from hp0)
  obtain ⟨hd1, hd3⟩ := polyB_varsV (show isPolyB G[0].1 G[0].2.1 G[0].2.2 = true from hp0)
  have hBe : voB G l = nptB G[0].1 G[0].2.1 l := by rw [voB, hdP_at hn0]; simp [hn]
  have HPT := Lib.hid (fun w (k : Sl w (.slice ua l.length uc) l) => npoint_any G[0].1 G[0].2.1 _ l w h2 h13 hd1 hl k)
  rw [← hBe] at HPT
  obtain ⟨q, hq⟩ : ∃ q, G[0].1 = q := ⟨_, rfl⟩
  obtain ⟨e, he⟩ : ∃ e, G[0].2.1 = e := ⟨_, rfl⟩
  rw [hq, he] at HPT
  have HK := Lib.hid (fun w1 (hb : Below w.heap.size w w1) => show w1.cell? ⟨bl, off, none⟩ = some (.int .i64 q) ∧ w1.cell? ⟨bl, off + 1, none⟩ = some (.int .i64 e) from by
    obtain ⟨us, g0, g1, g2, hu⟩ := (hT.below hb hbl) 0 hn0
    rw [Nat.zero_mul, Nat.add_zero, hq] at g0
    rw [Nat.zero_mul, Nat.add_zero, he] at g1
    exact ⟨g0, g1⟩)
  clear hp0 h2 h13 hpv hd1 hd3 hBe hq he hT
  cases hB : voB G l
  · have HX := Lib.hid (vo_out h0 hB)
    rw [hB] at HPT
    clear hB h0 hn hn0 hok
    go_enter Try.func48, Try.ntmps48
    go_wp2_with fail
    ((with_reducible refine HC.out.mono ?_); rintro e w1 ⟨rfl, hb1⟩)
    obtain ⟨g0, g1⟩ := HK.out w1 hb1
    have k0 := cell_regrown g0
    have k1 := cell_regrown g1
    have kP : ∀ dd os, Calls Try.prog 120 #[.int .i64 q, .int .i64 e, .slice ua l.length uc] (grow (redrawn w1 dd) os) fun e w'' => e = .returned (.bool false) ∧ ∃ p : Regrown, w'' = grow (redrawn w1 p.d) p.os := fun dd os =>
      Calls.regrown_of ((HPT.out _ ((hU.below hb1).below (below_regrown w1 dd os))).mono fun _ _ ⟨a, b⟩ => ⟨a, by rw [← b]; exact Below.refl _ _⟩)
    clear HC g0 g1 HK
    go_wp2_with fail
    refine wp_region_quiet_below (by kernel_rfl) (by kernel_rfl) ?_
    repeat (go_big_quiet_step (first | with_reducible exact kP _ _))
    refine wpQuiet_nil ?_
    intro _ hw'
    obtain ⟨⟨dq, osq⟩, hw''⟩ := hw'
    subst hw''
    have hb3 := hb1.trans ((below_regrown w1 dq osq).mono hb1.size)
    generalize grow (redrawn w1 dq) osq = w3 at *
    clear k0 k1 kP
    go_wp2_with fail
    go_ret2
    rw [HX.out.1, HX.out.2]
    exact ⟨_, rfl, slN _, hb3⟩
  · have HX := Lib.hid (vo_in h0 hB)
    have HV := Lib.hid (fun w (k : SlP w (.slice (some ⟨bl, off, none⟩) G.length lc) G) (k2 : Sl w (.slice ua l.length uc) l) => svals _ _ G l w hok k k2 h0 hB)
    rw [hB] at HPT
    clear hB h0 hn hn0 hok
    go_enter Try.func48, Try.ntmps48
    go_wp2_with fail
    ((with_reducible refine HC.out.mono ?_); rintro e w1 ⟨rfl, hb1⟩)
    obtain ⟨g0, g1⟩ := HK.out w1 hb1
    have k0 := cell_regrown g0
    have k1 := cell_regrown g1
    have kP : ∀ dd os, Calls Try.prog 120 #[.int .i64 q, .int .i64 e, .slice ua l.length uc] (grow (redrawn w1 dd) os) fun e w'' => e = .returned (.bool true) ∧ ∃ p : Regrown, w'' = grow (redrawn w1 p.d) p.os := fun dd os =>
      Calls.regrown_of ((HPT.out _ ((hU.below hb1).below (below_regrown w1 dd os))).mono fun _ _ ⟨a, b⟩ => ⟨a, by rw [← b]; exact Below.refl _ _⟩)
    clear HC g0 g1 HK
    go_wp2_with fail
    refine wp_region_quiet_below (by kernel_rfl) (by kernel_rfl) ?_
    repeat (go_big_quiet_step (first | with_reducible exact kP _ _))
    refine wpQuiet_nil ?_
    intro _ hw'
    obtain ⟨⟨dq, osq⟩, hw''⟩ := hw'
    subst hw''
    have hb3 := hb1.trans ((below_regrown w1 dq osq).mono hb1.size)
    generalize grow (redrawn w1 dq) osq = w3 at *
    clear k0 k1 kP
    go_wp2_with fail
    ((with_reducible refine (HV.out _ (hG.below hb3) (hU.below hb3)).mono ?_); rintro e w4 ⟨v4, rfl, ho4, hb4⟩)
    have hend := hb3.trans (hb4.mono hb3.size)
    have hsl := ho4.slice
    obtain ⟨a4, c4, rfl, _⟩ := id hsl
    go_wp2_with fail
    go_ret2
    rw [HX.out.1, HX.out.2]
    exact ⟨_, rfl, hsl, hend⟩

set_option maxRecDepth 8000 in
set_option maxHeartbeats 16000000 in
theorem ivo (lv u : Value) (G : List Pm) (l : List Int) (w : World) (hlG : G.length ≤ 1048576) (hok : ∀ g ∈ G, PmOk g) (hG : SlP w lv G) (hl : l.length ≤ 1048576) (hU : Sl w u l) :
    Calls Try.prog 49 #[lv, u] w fun e w' => ∃ v', e = .returned (.tuple #[v', .int .i64 (voC G l)]) ∧ OwnV w' w.heap.size v' (voS G l) ∧ Below w.heap.size w w' := by
  obtain ⟨la, lc, rfl, hc⟩ := id hG
  obtain ⟨ua, uc, rfl, _⟩ := id hU
  have HC := Lib.hid (icv _ G w hlG hok hG)
  by_cases h0 : valC G = 0
  case neg =>
    have HX := Lib.hid (vo_bad (l := l) h0)
    obtain ⟨c, hcc⟩ : ∃ c, valC G = c := ⟨_, rfl⟩
    rw [hcc] at HC HX h0
    have hz2 : (c != 0) = true := by simpa using h0
    clear hcc h0 hc hok hG hU
    go_enter Try.func49, Try.ntmps49
    go_wp2_with fail
    ((with_reducible refine HC.out.mono ?_); rintro e w1 ⟨rfl, hb1⟩)
    clear HC
    go_wp2_with fail
    go_ret2
    rw [HX.out.1, HX.out.2]
    exact ⟨_, rfl, OwnV.none _ _, hb1⟩
  rw [h0] at HC
  have hz : ((0 : Int) == 0) = true := by decide
  by_cases hn : G.length = 0
  · have hB : voB G l = true := by simp [voB, hn]
    have HX := Lib.hid (vo_in h0 hB)
    have HV := Lib.hid (fun w (k : SlP w (.slice la G.length lc) G) (k2 : Sl w (.slice ua l.length uc) l) => ivals _ _ G l w hok k k2 h0 hB)
    have hn' : ¬ ((0 : Int) < (G.length : Int)) := by omega
    have hnd : decide (0 < G.length) = false := decide_eq_false (by omega)
    have HOV := Lib.hid (fun (w' : World) (g : Nat) (hg : w.heap.size ≤ g) (hr : w'.rowIs g 2 G.length (vlF G l G.length)) => vl_own hg hr)
    clear h0 hB hc hn
    go_enter Try.func49, Try.ntmps49
    go_wp2_with fail
    ((with_reducible refine HC.out.mono ?_); rintro e w1 ⟨rfl, hb1⟩)
    clear HC
    go_wp2_with fail
    refine wp_region_quiet_below (by kernel_rfl) (by kernel_rfl) ?_
    repeat (go_big_quiet_step (fail))
    refine wpQuiet_nil ?_
    intro _ hw'
    obtain ⟨⟨dq, osq⟩, hw''⟩ := hw'
    subst hw''
    have hb3 := hb1.trans ((below_regrown w1 dq osq).mono hb1.size)
    generalize grow (redrawn w1 dq) osq = w3 at *
    go_wp2_with fail
    ((with_reducible refine (HV.out _ (hG.below hb3) (hU.below hb3)).mono ?_); rintro e w4 ⟨g4, rfl, hg4, hr4, hb4⟩)
    have hend := hb3.trans (hb4.mono hb3.size)
    have hsl := HOV.out w4 g4 (Nat.le_trans hb3.size hg4) hr4
    go_wp2_with fail
    go_ret2
    rw [HX.out.1, HX.out.2]
    exact ⟨_, rfl, hsl, hend⟩
  have hn0 : 0 < G.length := by omega
  have hn' : (0 : Int) < (G.length : Int) := by omega
  have hnd : decide (0 < G.length) = true := decide_eq_true hn0
  obtain ⟨bl, off, rfl, hbl, hT⟩ : ∃ bl off, la = some ⟨bl, off, none⟩ ∧ bl < w.heap.size ∧ PolysW w bl off G := by
    rcases hc with h | h
    · rw [h] at hn0; simp at hn0
    · exact h
  have hp0 := (val_zero h0).1 _ (List.getElem_mem hn0)
  obtain ⟨⟨h2, h13⟩, hpv⟩ := polyB_vals (show isPolyB G[0].1 G[0].2.1 G[0].2.2 = true from hp0)
  obtain ⟨hd1, hd3⟩ := polyB_varsV (show isPolyB G[0].1 G[0].2.1 G[0].2.2 = true from hp0)
  have hBe : voB G l = nptB G[0].1 G[0].2.1 l := by rw [voB, hdP_at hn0]; simp [hn]
  have HPT := Lib.hid (fun w (k : Sl w (.slice ua l.length uc) l) => nareNumbers_any G[0].1 G[0].2.1 _ l w hd1 hl k)
  rw [← hBe] at HPT
  obtain ⟨q, hq⟩ : ∃ q, G[0].1 = q := ⟨_, rfl⟩
  obtain ⟨e, he⟩ : ∃ e, G[0].2.1 = e := ⟨_, rfl⟩
  rw [hq, he] at HPT
  have HK := Lib.hid (fun w1 (hb : Below w.heap.size w w1) => show w1.cell? ⟨bl, off, none⟩ = some (.int .i64 q) ∧ w1.cell? ⟨bl, off + 1, none⟩ = some (.int .i64 e) from by
    obtain ⟨us, g0, g1, g2, hu⟩ := (hT.below hb hbl) 0 hn0
    rw [Nat.zero_mul, Nat.add_zero, hq] at g0
    rw [Nat.zero_mul, Nat.add_zero, he] at g1
    exact ⟨g0, g1⟩)
  clear hp0 h2 h13 hpv hd1 hd3 hBe hq he hT
  cases hB : voB G l
  · have HX := Lib.hid (vo_out h0 hB)
    rw [hB] at HPT
    have HOV := Lib.hid (fun (w' : World) (g : Nat) (hg : w.heap.size ≤ g) (hr : w'.rowIs g 2 G.length (vlF G l G.length)) => vl_own hg hr)
    clear hB h0 hn hn0 hok
    go_enter Try.func49, Try.ntmps49
    go_wp2_with fail
    ((with_reducible refine HC.out.mono ?_); rintro e w1 ⟨rfl, hb1⟩)
    obtain ⟨g0, g1⟩ := HK.out w1 hb1
    have k0 := cell_regrown g0
    have k1 := cell_regrown g1
    have kP : ∀ dd os, Calls Try.prog 123 #[.int .i64 q, .int .i64 e, .slice ua l.length uc] (grow (redrawn w1 dd) os) fun e w'' => e = .returned (.bool false) ∧ ∃ p : Regrown, w'' = grow (redrawn w1 p.d) p.os := fun dd os =>
      Calls.regrown_of (HPT.out _ ((hU.below hb1).below (below_regrown w1 dd os)))
    clear HC g0 g1 HK
    go_wp2_with fail
    refine wp_region_quiet_below (by kernel_rfl) (by kernel_rfl) ?_
    repeat (go_big_quiet_step (first | with_reducible exact kP _ _))
    refine wpQuiet_nil ?_
    intro _ hw'
    obtain ⟨⟨dq, osq⟩, hw''⟩ := hw'
    subst hw''
    have hb3 := hb1.trans ((below_regrown w1 dq osq).mono hb1.size)
    generalize grow (redrawn w1 dq) osq = w3 at *
    clear k0 k1 kP
    go_wp2_with fail
    go_ret2
    rw [HX.out.1, HX.out.2]
    exact ⟨_, rfl, OwnV.none _ _, hb3⟩
  · have HX := Lib.hid (vo_in h0 hB)
    have HV := Lib.hid (fun w (k : SlP w (.slice (some ⟨bl, off, none⟩) G.length lc) G) (k2 : Sl w (.slice ua l.length uc) l) => ivals _ _ G l w hok k k2 h0 hB)
    rw [hB] at HPT
    have HOV := Lib.hid (fun (w' : World) (g : Nat) (hg : w.heap.size ≤ g) (hr : w'.rowIs g 2 G.length (vlF G l G.length)) => vl_own hg hr)
    clear hB h0 hn hn0 hok
    go_enter Try.func49, Try.ntmps49
    go_wp2_with fail
    ((with_reducible refine HC.out.mono ?_); rintro e w1 ⟨rfl, hb1⟩)
    obtain ⟨g0, g1⟩ := HK.out w1 hb1
    have k0 := cell_regrown g0
    have k1 := cell_regrown g1
    have kP : ∀ dd os, Calls Try.prog 123 #[.int .i64 q, .int .i64 e, .slice ua l.length uc] (grow (redrawn w1 dd) os) fun e w'' => e = .returned (.bool true) ∧ ∃ p : Regrown, w'' = grow (redrawn w1 p.d) p.os := fun dd os =>
      Calls.regrown_of (HPT.out _ ((hU.below hb1).below (below_regrown w1 dd os)))
    clear HC g0 g1 HK
    go_wp2_with fail
    refine wp_region_quiet_below (by kernel_rfl) (by kernel_rfl) ?_
    repeat (go_big_quiet_step (first | with_reducible exact kP _ _))
    refine wpQuiet_nil ?_
    intro _ hw'
    obtain ⟨⟨dq, osq⟩, hw''⟩ := hw'
    subst hw''
    have hb3 := hb1.trans ((below_regrown w1 dq osq).mono hb1.size)
    generalize grow (redrawn w1 dq) osq = w3 at *
    clear k0 k1 kP
    go_wp2_with fail
    ((with_reducible refine (HV.out _ (hG.below hb3) (hU.below hb3)).mono ?_); rintro e w4 ⟨g4, rfl, hg4, hr4, hb4⟩)
    have hend := hb3.trans (hb4.mono hb3.size)
    have hsl := HOV.out w4 g4 (Nat.le_trans hb3.size hg4) hr4
    go_wp2_with fail
    go_ret2
    rw [HX.out.1, HX.out.2]
    exact ⟨_, rfl, hsl, hend⟩
end Go.Proofs.Ytbahejlgfpilnaa
namespace Go.Proofs.Ytbahejlgfpilnaa
open Go.RowKit Go.Sort

theorem eqPoly_r (p d : Int) (u u' : Value) (l : List Tm) (W : World) (hl : l.length ≤ 1048576) (hS : SliceT W u l) (hS' : SliceT W u' l) : ∀ dd os,
    Calls Try.prog 28 #[.agg #[.int .i64 p, .int .i64 d, u], .agg #[.int .i64 p, .int .i64 d, u']] (grow (redrawn W dd) os) fun e w'' => e = .returned (.bool true) ∧ ∃ q : Regrown, w'' = grow (redrawn W q.d) q.os := fun dd os =>
  Calls.regrown_of (eqPoly_same p d u u' l _ hl (hS.below (below_regrown W dd os)) (hS'.below (below_regrown W dd os)))

set_option maxRecDepth 8000 in
set_option maxHeartbeats 4000000 in
theorem eqpolys (v v' : Value) (G : List Pm) (w : World) (hl : G.length ≤ 1048576) (hlr : ∀ g ∈ G, g.2.2.length ≤ 1048576) (hS : SlP w v G) (hS' : SlP w v' G) :
    Calls Try.prog 19 #[v, v'] w fun e w' => e = .returned (.bool true) ∧ Below w.heap.size w w' := by
  have hnn : ((G.length : Int) != (G.length : Int)) = false := by simp
  obtain ⟨a, cap, rfl, hSc⟩ := id hS
  obtain ⟨a', cap', rfl, hSc'⟩ := id hS'
  go_enter Try.func19, Try.ntmps19
  go_wp2_with fail
  go_loopw [5] (fun i wr => ∃ k : Nat, k ≤ G.length ∧ i = .int .i64 k ∧ Below w.heap.size w wr) (fun i _ => G.length - (intOf i).toNat)
  case atStart => exact ⟨0, by omega, rfl, Below.refl _ _⟩
  case round =>
    obtain ⟨k, hk, rfl, hbel⟩ := hrel
    by_cases hlt : k < G.length
    · have hlt' : (k : Int) < (G.length : Int) := by omega
      obtain ⟨b, off, rfl, hbb, hT⟩ : ∃ b off, a = some ⟨b, off, none⟩ ∧ b < w.heap.size ∧ PolysW w b off G := by
        rcases hSc with rfl | h
        · simp at hlt
        · exact h
      obtain ⟨b', off', rfl, hbb', hT'⟩ : ∃ b off, a' = some ⟨b, off, none⟩ ∧ b < w.heap.size ∧ PolysW w b off G := by
        rcases hSc' with rfl | h
        · simp at hlt
        · exact h
      obtain ⟨u, c0, c1, c2, s0⟩ := (hT.below hbel hbb) k hlt
      obtain ⟨u', c3, c4, c5, s1⟩ := (hT'.below hbel hbb') k hlt
      have kE := eqPoly_r G[k].1 G[k].2.1 u u' G[k].2.2 wr (hlr _ (List.getElem_mem hlt)) s0 s1
      clear s0 s1
      have e0 := cell_regrown c0
      have e1 := cell_regrown c1
      have e2 := cell_regrown c2
      have e3 := cell_regrown c3
      have e4 := cell_regrown c4
      have e5 := cell_regrown c5
      clear c0 c1 c2 c3 c4 c5
      go_wp2_with fail
      refine wp_region_quiet_below (by kernel_rfl) (by kernel_rfl) ?_
      repeat (go_big_quiet_step (with_reducible exact kE _ _))
      refine wpQuiet_nil ?_
      intro _ hw'
      obtain ⟨⟨dq, osq⟩, hw''⟩ := hw'
      subst hw''
      have hb2 := hbel.trans ((below_regrown wr dq osq).mono hbel.size)
      generalize grow (redrawn wr dq) osq = V at *
      clear e0 e1 e2 e3 e4 e5 kE
      go_wp2_with fail
      go_roundw
      case rel => exact ⟨k + 1, by omega, by go_num, hb2⟩
      case measure => simp [intOf]; omega
    · obtain rfl : k = G.length := by omega
      go_wp2_with fail
      go_ret
      exact ⟨rfl, hbel⟩
end Go.Proofs.Ytbahejlgfpilnaa
namespace Go.Proofs.Ytbahejlgfpilnaa
open Go.RowKit Go.Sort

/-- All terms of a list of polynomials. -/
def totP (G : List Pm) : Nat := (G.map (·.2.2.length)).sum
theorem totP_take {G : List Pm} {k : Nat} (h : k < G.length) : totP (G.take (k + 1)) = totP (G.take k) + G[k].2.2.length := by
  unfold totP
  rw [List.take_succ_eq_append_getElem h, List.map_append, List.sum_append]
  simp
theorem totP_le (G : List Pm) (k : Nat) : totP (G.take k) ≤ totP G := by
  have h : totP G = totP (G.take k) + totP (G.drop k) := by
    unfold totP
    rw [← List.sum_append, ← List.map_append, List.take_append_drop]
  omega
theorem totP_of {G : List Pm} {g : Pm} (h : g ∈ G) : g.2.2.length ≤ totP G := by
  obtain ⟨k, hk, rfl⟩ := List.mem_iff_getElem.1 h
  have h1 := totP_take hk
  have h2 := totP_le G (k + 1)
  omega
theorem leftOf_lt {left : Int} {n : Nat} (h : left - n < 0) : leftOf left n = -1 := if_pos h
theorem leftOf_ge {left : Int} {n : Nat} (h : ¬ left - n < 0) : leftOf left n = left - n := if_neg h

set_option maxHeartbeats 2000000 in
theorem szpolys (v : Value) (G : List Pm) (left : Int) (w : World) (h0 : 0 ≤ left) (h1 : left ≤ 1048576) (hl : G.length ≤ 9223372036854775807) (hlr : ∀ g ∈ G, g.2.2.length ≤ 9223372036854775807) (hS : SlP w v G) :
    Calls Try.prog 14 #[v, .int .i64 left] w fun e w' => e = .returned (.int .i64 (leftOf left (G.length + totP G))) ∧ Below w.heap.size w w' := by
  obtain ⟨a, cap, rfl, hc⟩ := hS
  by_cases h : left < G.length
  · have h' : left - (G.length : Int) < 0 := by omega
    go_enter Try.func14, Try.ntmps14
    go_wp2
    go_ret
    exact ⟨by rw [leftOf_lt (by omega)]; rfl, .refl _ _⟩
  · have h' : ¬ left - (G.length : Int) < 0 := by omega
    go_enter Try.func14, Try.ntmps14
    go_wp2
    go_loopw [1, 5] (fun m i wr => ∃ k : Nat, k ≤ G.length ∧ i = .int .i64 k ∧ Below w.heap.size w wr ∧ ∃ q : Int, m = .int .i64 q ∧ q = left - G.length - totP (G.take k) ∧ 0 ≤ q ∧ q ≤ 1048576) (fun _ i _ => G.length - (intOf i).toNat)
    case atStart => exact ⟨0, by omega, rfl, .refl _ _, _, rfl, by simp [totP], by omega, by omega⟩
    case round =>
      obtain ⟨k, hk, rfl, hbel, q, rfl, hq, hq0, hq1⟩ := hrel
      by_cases hlt : k < G.length
      · have hlt' : (k : Int) < (G.length : Int) := by omega
        obtain ⟨b, off, rfl, hbb, hT⟩ : ∃ b off, a = some ⟨b, off, none⟩ ∧ b < w.heap.size ∧ PolysW w b off G := by
          rcases hc with rfl | h
          · simp at hlt
          · exact h
        obtain ⟨u, c0, c1, c2, s0⟩ := (hT.below hbel hbb) k hlt
        have hrl := hlr _ (List.getElem_mem hlt)
        have HT := Lib.hid (totP_take hlt)
        have HL := Lib.hid (totP_le G (k + 1))
        have HQ := Lib.hid hq
        clear hq
        go_wp2_with fail
        ((with_reducible refine (szPoly_any _ _ q u G[k].2.2 _ hrl hq0 hq1 s0).mono ?_); rintro e w1 ⟨rfl, hb1⟩)
        have hbel1 := hbel.trans (hb1.mono hbel.size)
        by_cases hneg : q - G[k].2.2.length < 0
        · rw [leftOf_lt hneg]
          have HN : Hid (left - ((G.length + totP G : Nat) : Int) < 0) := Lib.hid (by
            have h1 := HT.out
            have h2 := HL.out
            have h3 := HQ.out
            omega)
          clear hneg
          go_wp2_with fail
          go_ret
          exact ⟨by rw [leftOf_lt HN.out]; rfl, hbel1⟩
        · rw [leftOf_ge hneg]
          obtain ⟨q2, hq2⟩ : ∃ q2, q - (G[k].2.2.length : Int) = q2 := ⟨_, rfl⟩
          have hq20 : 0 ≤ q2 := by omega
          have hq21 : q2 ≤ 1048576 := by omega
          have hq22 : ¬ q2 < 0 := by omega
          have HN : Hid (q2 = left - G.length - totP (G.take (k + 1))) := Lib.hid (by
            have h1 := HT.out
            have h3 := HQ.out
            omega)
          rw [hq2]
          clear hneg hq2
          go_wp2_with fail
          go_roundw
          case rel => exact ⟨k + 1, by omega, by go_num, hbel1, q2, rfl, HN.out, hq20, hq21⟩
          case measure => simp [intOf]; omega
      · obtain rfl : k = G.length := by omega
        rw [List.take_length] at hq
        have HQ := Lib.hid hq
        clear hq
        go_wp2_with fail
        go_ret
        have h3 := HQ.out
        exact ⟨by rw [leftOf_ge (by omega)]; simp only [Int.natCast_add]; rw [← Int.sub_sub, ← h3]; rfl, hbel⟩
end Go.Proofs.Ytbahejlgfpilnaa
namespace Go.Proofs.Ytbahejlgfpilnaa
open Go.RowKit Go.Sort


end Go.Proofs.Ytbahejlgfpilnaa
namespace Go.Proofs.Ytbahejlgfpilnaa
open Go.RowKit Go.Sort

set_option maxHeartbeats 1000000 in
theorem heldT_any (g n cap : Nat) (k0 : Int) (w : World) (hc : ∀ j, j < n * 4 → w.cell? ⟨g, j, none⟩ = some (markT k0 j)) (hn : n ≤ 1048576) (h0 : 0 ≤ k0) (h1 : k0 ≤ 1000000000) :
    Calls Try.prog 82 #[.slice (some ⟨g, 0, none⟩) n cap, .int .i64 k0] w fun e w' => e = .returned (.int .i64 (k0 + 4 * n)) ∧ w = w' := by
  go_enter Try.func82, Try.ntmps82
  go_wp2
  go_loop [1, 5] (fun m i => ∃ k : Nat, k ≤ n ∧ i = .int .i64 k ∧ m = .int .i64 (k0 + 4 * k)) (fun _ i => n - (intOf i).toNat)
  case atStart => exact ⟨0, by omega, rfl, by simp⟩
  case round =>
    obtain ⟨k, hk, rfl, rfl⟩ := hrel
    by_cases hlt : k < n
    · have hlt' : (k : Int) < (n : Int) := by omega
      go_wp2
      go_loop [1, 6] (fun m i => ∃ t : Nat, t ≤ 3 ∧ i = .int .i64 t ∧ m = .int .i64 (k0 + 4 * k + t)) (fun _ i => 3 - (intOf i).toNat)
      case atStart => exact ⟨0, by omega, rfl, by simp⟩
      case round =>
        obtain ⟨t, ht, rfl, rfl⟩ := hrel
        by_cases hlt2 : t < 3
        · have hlt2' : (t : Int) < 3 := by omega
          have hcell : w.cell? ⟨g, k * 4 + t, none⟩ = some (.int .u8 ((k0 + 4 * ↑k + ↑t) % 256)) := by
            rw [hc _ (by omega)]; unfold markT; rw [if_neg (by omega)]; congr 2; omega
          have hne : ((k0 + 4 * (k : Int) + t) % 256 != (k0 + 4 * (k : Int) + t) % 256) = false := by simp
          go_wp2
          go_round
          case rel => exact ⟨t + 1, by omega, by go_num, by go_num⟩
          case measure => simp [intOf]; omega
        · obtain rfl : t = 3 := by omega
          have hcell : w.cell? ⟨g, k * 4 + 3, none⟩ = some (.int .i64 (k0 + 4 * ↑k + 3)) := by
            rw [hc _ (by omega)]; unfold markT; rw [if_pos (by omega)]; congr 2; omega
          have hne : ((k0 + 4 * (k : Int) + 3) != (k0 + 4 * (k : Int) + 3)) = false := by simp
          go_wp2
          go_round
          case rel => exact ⟨k + 1, by omega, by go_num, by go_num⟩
          case measure => simp [intOf]; omega
    · obtain rfl : k = n := by omega
      go_wp2
      go_ret
      exact ⟨rfl, rfl⟩
end Go.Proofs.Ytbahejlgfpilnaa
namespace Go.Proofs.Ytbahejlgfpilnaa
open Go.RowKit Go.Sort

theorem heldT_zero (a : Option Addr) (c : Nat) (k0 : Int) (w : World) :
    Calls Try.prog 82 #[.slice a 0 c, .int .i64 k0] w fun e w' => e = .returned (.int .i64 k0) ∧ w = w' := by
  go_enter Try.func82, Try.ntmps82
  go_wp2
  refine wp_loop_rounds 1 ?_
  rw [rounds_succ]
  go_wp2
  go_ret
  exact ⟨rfl, rfl⟩

theorem heldS_marks {v : Value} {n : Nat} {k0 : Int} (w : World) (h : MarksT w v n k0) (hn : n ≤ 1048576) (h0 : 0 ≤ k0) (h1 : k0 ≤ 1000000000) :
    Calls Try.prog 82 #[v, .int .i64 k0] w fun e w' => e = .returned (.int .i64 (k0 + 4 * n)) ∧ w = w' := by
  rcases h with ⟨rfl, rfl⟩ | ⟨g, cap, rfl, _, hc⟩
  · exact (heldT_zero none 0 k0 w).mono fun e w' ⟨he, hw⟩ => ⟨by rw [he]; simp, hw⟩
  · exact heldT_any g n cap k0 w hc hn h0 h1

set_option maxHeartbeats 1000000 in
theorem heldPoly_marks {v : Value} {n : Nat} (p d k0 : Int) (w : World) (h : MarksT w v n k0) (hn : n ≤ 1048576) (h0 : 0 ≤ k0) (h1 : k0 ≤ 1000000000) :
    Calls Try.prog 30 #[.agg #[.int .i64 p, .int .i64 d, v], .int .i64 k0] w fun e w' => e = .returned (.int .i64 (k0 + 4 * n)) ∧ Below w.heap.size w w' := by
  have hO : ∀ o, MarksT (w.alloc o) v n k0 := fun o => h.below (box1 _ _)
  obtain ⟨a, m, c, hv⟩ : ∃ a m c, v = .slice a m c := by
    rcases h with ⟨rfl, _⟩ | ⟨g, cap, rfl, _⟩
    · exact ⟨_, _, _, rfl⟩
    · exact ⟨_, _, _, rfl⟩
  subst hv
  have hq : ¬ k0 + 4 * (n : Int) < 0 := by omega
  go_enter Try.func30, Try.ntmps30
  go_wp2_with fail
  ((with_reducible refine (heldS_marks _ (hO _) hn h0 h1).mono ?_); rintro e w1 ⟨rfl, rfl⟩)
  go_wp2
  go_ret
  exact ⟨rfl, box1 _ _⟩
end Go.Proofs.Ytbahejlgfpilnaa
namespace Go.Proofs.Ytbahejlgfpilnaa
open Go.RowKit Go.Sort

theorem infoPolyQ : (Try.prog.info? 42).map (fun i => (i.zero, i.size, i.bytes)) = some (some (.agg #[.int .i64 0, .int .i64 0, .slice none 0 0]), 3, 40) := by kernel_rfl
def madeQ (n : Nat) : Array Value := madeCells (Value.agg #[.int .i64 0, .int .i64 0, .slice none 0 0]).cells (n * 3)
theorem madeQ_row (w : World) (n : Nat) (t : TypeId) : (w.alloc (.cells (madeQ n) t)).rowIs w.heap.size t (n * 3) (fun i => (madeQ n).getD i undef) := by
  have hs : (madeQ n).size = n * 3 := by simp [madeQ, madeCells]
  refine ⟨madeQ n, heap_alloc_new w _, hs, fun i hi => ?_⟩
  simp [Array.getD, hs, hi]
/-- A block that holds these terms. -/
def TermB (w : World) (b : Nat) (ts : List Tm) : Prop := ∃ f, w.rowIs b 151 (ts.length * 4) f ∧ rowT ts ts.length f
/-- A slice header of terms. -/
abbrev tv (b : Nat) (ts : List Tm) : Value := .slice (some ⟨b, 0, none⟩) ts.length ts.length
theorem TermB.below {w w' : World} {b : Nat} {ts : List Tm} (h : TermB w b ts) (hb : Below w.heap.size w w') : TermB w' b ts := by
  obtain ⟨f, hr, ht⟩ := h
  exact ⟨f, rowIs_below hr hb hr.lt, ht⟩
theorem TermB.lt {w : World} {b : Nat} {ts : List Tm} (h : TermB w b ts) : b < w.heap.size := by
  obtain ⟨f, hr, _⟩ := h
  exact hr.lt
theorem TermB.block {w w' : World} {b : Nat} {ts : List Tm} (h : TermB w b ts) (hb : w'.heap[b]? = w.heap[b]?) : TermB w' b ts := by
  obtain ⟨f, hr, ht⟩ := h
  exact ⟨f, hr.of_block hb, ht⟩
theorem TermB.slice {w : World} {b : Nat} {ts : List Tm} (h : TermB w b ts) : SliceT w (tv b ts) ts := by
  obtain ⟨f, hr, ht⟩ := h
  exact OwnT.slice (base := 0) ⟨b, f, rfl, Nat.zero_le _, hr, ht⟩
/-- The first k polynomials of a list of the call's own: their terms in blocks B 0 < B 1 < .. behind the list's own block. -/
structure PolsW (w : World) (gb : Nat) (G : List Pm) (k : Nat) (F : Nat → Value) (B : Nat → Nat) : Prop where
  row : w.rowIs gb 42 (G.length * 3) F
  at' : ∀ (q : Nat) (h : q < G.length), q < k → F (q * 3) = .int .i64 G[q].1 ∧ F (q * 3 + 1) = .int .i64 G[q].2.1 ∧ F (q * 3 + 2) = tv (B q) G[q].2.2 ∧ gb < B q ∧ TermB w (B q) G[q].2.2
  asc : ∀ q r, q < r → r < k → B q < B r
theorem PolsW.below {w w' : World} {gb : Nat} {G : List Pm} {k : Nat} {F : Nat → Value} {B : Nat → Nat} (h : PolsW w gb G k F B) (hb : Below w.heap.size w w') : PolsW w' gb G k F B :=
  ⟨rowIs_below h.row hb h.row.lt, fun q hq hk => by
    obtain ⟨a, b, c, d, e⟩ := h.at' q hq hk
    exact ⟨a, b, c, d, e.below hb⟩, h.asc⟩
theorem PolsW.put {w : World} {gb : Nat} {G : List Pm} {k : Nat} {F : Nat → Value} {B : Nat → Nat} (h : PolsW w gb G k F B) (hk : k < G.length) {b : Nat} (hT : TermB w b G[k].2.2) (hg : gb < b) (hB : ∀ q, q < k → B q < b) :
    ∃ F' B', PolsW (((w.setCell ⟨gb, k * 3, none⟩ (.int .i64 G[k].1)).setCell ⟨gb, k * 3 + 1, none⟩ (.int .i64 G[k].2.1)).setCell ⟨gb, k * 3 + 2, none⟩ (tv b G[k].2.2)) gb G (k + 1) F' B' := by
  have hT' : ∀ (b' : Nat) (ts : List Tm), gb < b' → TermB w b' ts → TermB (((w.setCell ⟨gb, k * 3, none⟩ (.int .i64 G[k].1)).setCell ⟨gb, k * 3 + 1, none⟩ (.int .i64 G[k].2.1)).setCell ⟨gb, k * 3 + 2, none⟩ (tv b G[k].2.2)) b' ts := fun b' ts hb' hh => hh.block (by
    rw [Below.heap_setCell _ ⟨gb, k * 3 + 2, none⟩ _ b' (by simp; omega), Below.heap_setCell _ ⟨gb, k * 3 + 1, none⟩ _ b' (by simp; omega), Below.heap_setCell _ ⟨gb, k * 3, none⟩ _ b' (by simp; omega)])
  refine ⟨_, fun q => if q = k then b else B q, ((h.row.set (k * 3) (.int .i64 G[k].1)).set (k * 3 + 1) (.int .i64 G[k].2.1)).set (k * 3 + 2) (tv b G[k].2.2), fun q hq hqk => ?_, fun q r hqr hr => ?_⟩
  · by_cases e : q = k
    · subst e
      refine ⟨?_, ?_, ?_, ?_, ?_⟩
      · simp only [if_neg (show ¬ q * 3 = q * 3 + 2 by omega), if_neg (show ¬ q * 3 = q * 3 + 1 by omega), if_true]
      · simp only [if_neg (show ¬ q * 3 + 1 = q * 3 + 2 by omega), if_true]
      · simp only [if_true]
      · simp only [if_true]; exact hg
      · simp only [if_true]; exact hT' _ _ hg hT
    · obtain ⟨a1, a2, a3, a4, a5⟩ := h.at' q hq (by omega)
      refine ⟨?_, ?_, ?_, ?_, ?_⟩
      · simp only [if_neg (show ¬ q * 3 = k * 3 + 2 by omega), if_neg (show ¬ q * 3 = k * 3 + 1 by omega), if_neg (show ¬ q * 3 = k * 3 by omega)]; exact a1
      · simp only [if_neg (show ¬ q * 3 + 1 = k * 3 + 2 by omega), if_neg (show ¬ q * 3 + 1 = k * 3 + 1 by omega), if_neg (show ¬ q * 3 + 1 = k * 3 by omega)]; exact a2
      · simp only [if_neg (show ¬ q * 3 + 2 = k * 3 + 2 by omega), if_neg (show ¬ q * 3 + 2 = k * 3 + 1 by omega), if_neg (show ¬ q * 3 + 2 = k * 3 by omega), if_neg e]; exact a3
      · simp only [if_neg e]; exact a4
      · simp only [if_neg e]; exact hT' _ _ a4 a5
  · by_cases e : r = k
    · subst e
      simp only [if_true, if_neg (show ¬ q = r by omega)]
      exact hB q hqr
    · simp only [if_neg e, if_neg (show ¬ q = k by omega)]
      exact h.asc q r hqr (by omega)
/-- A list of polynomials of the call's own. -/
def OwnPs (w : World) (base : Nat) (v : Value) (G : List Pm) : Prop :=
  ∃ gb F B, v = .slice (some ⟨gb, 0, none⟩) G.length G.length ∧ base ≤ gb ∧ PolsW w gb G G.length F B
theorem OwnPs.below {w w' : World} {base : Nat} {v : Value} {G : List Pm} (h : OwnPs w base v G) (hb : Below w.heap.size w w') : OwnPs w' base v G := by
  obtain ⟨gb, F, B, hv, hg, hW⟩ := h
  exact ⟨gb, F, B, hv, hg, hW.below hb⟩
theorem OwnPs.slP {w : World} {base : Nat} {v : Value} {G : List Pm} (h : OwnPs w base v G) : SlP w v G := by
  obtain ⟨gb, F, B, hv, hg, hW⟩ := h
  refine ⟨_, _, hv, .inr ⟨gb, 0, rfl, hW.row.lt, fun k hk => ?_⟩⟩
  obtain ⟨a, b, c, d, e⟩ := hW.at' k hk hk
  refine ⟨tv (B k) G[k].2.2, ?_, ?_, ?_, e.slice⟩
  · rw [Nat.zero_add, hW.row.cell (by omega), a]
  · rw [Nat.zero_add, hW.row.cell (by omega), b]
  · rw [Nat.zero_add, hW.row.cell (by omega), c]

set_option maxRecDepth 8000 in
set_option maxHeartbeats 4000000 in
theorem topolys (v : Value) (G : List Pm) (w : World) (hl : G.length ≤ 1048576) (hlr : ∀ g ∈ G, g.2.2.length ≤ 1048576) (hS : SlP w v G) :
    Calls Try.prog 16 #[v] w fun e w' => ∃ v', e = .returned v' ∧ OwnPs w' w.heap.size v' G ∧ Below w.heap.size w w' := by
  obtain ⟨i0, hi, hz0, hz1, hz2⟩ := info_parts infoPolyQ
  obtain ⟨a, cap, rfl, hc⟩ := hS
  have hmk : ∀ w, (Instr.makeSlice 27 (.int .i64 (G.length : Int)) (.int .i64 (G.length : Int))).run Try.prog w = .ok (.slice (some ⟨w.heap.size, 0, none⟩) G.length G.length) (w.alloc (.cells (madeQ G.length) 42)) := fun w => by
    have h := run_make (P := Try.prog) w 27 42 i0 _ Try.underlying27 hi hz0 .i64 .i64 (G.length : Int) (G.length : Int) (by omega) (by omega) (by rw [hz2]; omega) (by omega)
    rw [hz1] at h
    simpa [madeQ, Value.cells] using h
  clear hi hz0 hz1 hz2
  have hr0 := madeQ_row w G.length 42
  have HR0 : Hid (PolsW (w.alloc (.cells (madeQ G.length) 42)) w.heap.size G 0 (fun i => (madeQ G.length).getD i undef) (fun _ => 0)) := Lib.hid ⟨hr0, fun q _ h => by omega, fun q r _ h => by omega⟩
  clear hr0
  go_enter Try.func16, Try.ntmps16
  go_wp2
  go_loopw [4] (fun i wr => ∃ k : Nat, k ≤ G.length ∧ i = .int .i64 k ∧ Below w.heap.size w wr ∧ ∃ F B, PolsW wr w.heap.size G k F B) (fun i _ => G.length - (intOf i).toNat)
  case atStart => exact ⟨0, by omega, rfl, box1 _ _, _, _, HR0.out⟩
  case round =>
    clear HR0 hmk
    obtain ⟨k, hk, rfl, hbel, F, B, hP⟩ := hrel
    by_cases hlt : k < G.length
    · have hlt' : (k : Int) < (G.length : Int) := by omega
      obtain ⟨b, off, rfl, hbb, hT⟩ : ∃ b off, a = some ⟨b, off, none⟩ ∧ b < w.heap.size ∧ PolysW w b off G := by
        rcases hc with rfl | h
        · simp at hlt
        · exact h
      obtain ⟨u, c0, c1, c2, s0⟩ := (hT.below hbel hbb) k hlt
      have HL := Lib.hid (hlr _ (List.getElem_mem hlt))
      go_wp2_with fail
      ((with_reducible refine (toPoly_any _ _ u G[k].2.2 _ HL.out s0).mono ?_); rintro e w3 ⟨v3, rfl, ho, hb3⟩)
      obtain ⟨g, f3, rfl, hg, hr3, hf3⟩ := ho
      have hP3 := hP.below hb3
      have f0 := hP3.row.frozen (k * 3)
      have f1 := hP3.row.frozen (k * 3 + 1)
      have f2 := hP3.row.frozen (k * 3 + 2)
      have d0 := hP3.row.cell (i := k * 3) (by omega)
      have d1 := hP3.row.cell (i := k * 3 + 1) (by omega)
      have d2 := hP3.row.cell (i := k * 3 + 2) (by omega)
      have hbel3 := hbel.trans (hb3.mono hbel.size)
      have hgw := hP.row.lt
      have HPN := Lib.hid (hP3.put hlt ⟨f3, hr3, hf3⟩ (by omega) (fun q hq => Nat.lt_of_lt_of_le (hP.at' q (by omega) hq).2.2.2.2.lt hg))
      have hb4 := ((hbel3.setCell (p := ⟨w.heap.size, k * 3, none⟩) (Nat.le_refl _) (.int .i64 G[k].1)).setCell (p := ⟨w.heap.size, k * 3 + 1, none⟩) (Nat.le_refl _) (.int .i64 G[k].2.1)).setCell (p := ⟨w.heap.size, k * 3 + 2, none⟩) (Nat.le_refl _) (tv g G[k].2.2)
      clear hP hP3 hb3 hr3 hf3 hbel c0 c1 c2 s0
      go_wp2_with fail
      go_roundw
      case rel => exact ⟨k + 1, by omega, by go_num, hb4, HPN.out⟩
      case measure => simp [intOf]; omega
    · obtain rfl : k = G.length := by omega
      go_wp2_with fail
      go_ret
      exact ⟨_, rfl, ⟨w.heap.size, F, B, rfl, Nat.le_refl _, hP⟩, hbel⟩
end Go.Proofs.Ytbahejlgfpilnaa
namespace Go.Proofs.Ytbahejlgfpilnaa
open Go.RowKit Go.Sort

/-- Blocks from lo on and below hi may have changed, and new ones come; no other. -/
structure GrewI (lo hi : Nat) (w w' : World) : Prop where
  os : w'.os = w.os
  tape : w'.tape = w.tape
  output : w'.output = w.output
  size : w.heap.size ≤ w'.heap.size
  block : ∀ k, k < w.heap.size → (k < lo ∨ hi ≤ k) → w'.heap[k]? = w.heap[k]?
theorem GrewI.refl (lo hi : Nat) (w : World) : GrewI lo hi w w := ⟨rfl, rfl, rfl, Nat.le_refl _, fun _ _ _ => rfl⟩
theorem GrewI.step {lo hi : Nat} {w w' w'' : World} {b : Nat} (h : GrewI lo hi w w') (h1 : lo ≤ b) (h2 : b < hi) (hg : w'.grownBy w'' (some b)) : GrewI lo hi w w'' :=
  ⟨hg.os.trans h.os, hg.tape.trans h.tape, hg.output.trans h.output, Nat.le_trans h.size hg.size, fun k hk hn => (hg.block k (Nat.lt_of_lt_of_le hk h.size) (fun e => by
    simp at e; omega)).trans (h.block k hk hn)⟩
theorem GrewI.set {lo hi : Nat} {w w' : World} {b i : Nat} {x : Value} (h : GrewI lo hi w w') (h1 : lo ≤ b) (h2 : b < hi) : GrewI lo hi w (w'.setCell ⟨b, i, none⟩ x) :=
  ⟨h.os, h.tape, h.output, by rw [World.size_setCell]; exact h.size, fun k hk hn => (Below.heap_setCell w' ⟨b, i, none⟩ x k (by show k ≠ b; omega)).trans (h.block k hk hn)⟩
theorem GrewI.below {lo hi : Nat} {w w' : World} {base : Nat} (h : GrewI lo hi w w') (hb : base ≤ lo) (hw : base ≤ w.heap.size) : Below base w w' :=
  ⟨h.os, h.tape, h.output, h.size, fun k hk => h.block k (by omega) (.inl (by omega))⟩
/-- What of a list in the marking still stands, from k on. -/
structure MkP (w : World) (gb : Nat) (G : List Pm) (B : Nat → Nat) (k : Nat) (F : Nat → Value) : Prop where
  row : w.rowIs gb 42 (G.length * 3) F
  at' : ∀ (q : Nat) (h : q < G.length), k ≤ q → F (q * 3 + 2) = tv (B q) G[q].2.2 ∧ TermB w (B q) G[q].2.2
theorem MkP.next {w w' : World} {gb : Nat} {G : List Pm} {B : Nat → Nat} {k : Nat} {F : Nat → Value} (h : MkP w gb G B k F) (hk : k < G.length) (x y : Value) (hgb : ∀ q, q < G.length → gb < B q) (hasc : ∀ q r, q < r → r < G.length → B q < B r)
    (hg : ((w.setCell ⟨gb, k * 3, none⟩ x).setCell ⟨gb, k * 3 + 1, none⟩ y).grownBy w' (some (B k))) : ∃ F', MkP w' gb G B (k + 1) F' := by
  have hrow := (h.row.set (k * 3) x).set (k * 3 + 1) y
  refine ⟨_, hrow.of_block (hg.block gb hrow.lt (fun e => by have := hgb k hk; simp at e; omega)), fun q hq hkq => ?_⟩
  obtain ⟨a, b⟩ := h.at' q hq (by omega)
  have hgq := hgb q hq
  have hkk := hasc k q (by omega) hq
  refine ⟨?_, ?_⟩
  · simp only [if_neg (show ¬ q * 3 + 2 = k * 3 + 1 by omega), if_neg (show ¬ q * 3 + 2 = k * 3 by omega)]; exact a
  · have h2 : TermB ((w.setCell ⟨gb, k * 3, none⟩ x).setCell ⟨gb, k * 3 + 1, none⟩ y) (B q) G[q].2.2 := b.block (by
      rw [Below.heap_setCell _ ⟨gb, k * 3 + 1, none⟩ _ (B q) (by show B q ≠ gb; omega), Below.heap_setCell _ ⟨gb, k * 3, none⟩ _ (B q) (by show B q ≠ gb; omega)])
    exact h2.block (hg.block _ h2.lt (fun e => by simp at e; omega))

set_option maxRecDepth 8000 in
set_option maxHeartbeats 4000000 in
theorem markpolys (gb top : Nat) (G : List Pm) (F : Nat → Value) (B : Nat → Nat) (k0 : Int) (w : World) (hl : G.length ≤ 1048576) (hlr : ∀ g ∈ G, g.2.2.length ≤ 1048576) (ht : totP G ≤ 1048576) (h0 : 0 ≤ k0) (h1 : k0 ≤ 67108864)
    (hP : PolsW w gb G G.length F B) (htop : ∀ q, q < G.length → B q < top) (hgt : gb < top) :
    Calls Try.prog 20 #[.slice (some ⟨gb, 0, none⟩) G.length G.length, .int .i64 k0] w fun e w' => e = .returned (.int .i64 (k0 + 2 * G.length + 4 * totP G)) ∧ GrewI gb top w w' := by
  have HGB : Hid (∀ q, q < G.length → gb < B q) := Lib.hid (fun q hq => (hP.at' q hq hq).2.2.2.1)
  have HAS : Hid (∀ q r, q < r → r < G.length → B q < B r) := Lib.hid hP.asc
  have HTOP := Lib.hid htop
  have HM0 : Hid (MkP w gb G B 0 F) := Lib.hid ⟨hP.row, fun q hq _ => ⟨(hP.at' q hq hq).2.2.1, (hP.at' q hq hq).2.2.2.2⟩⟩
  clear hP htop
  go_enter Try.func20, Try.ntmps20
  go_wp2_with fail
  go_loopw [1, 5] (fun m i wr => ∃ k : Nat, k ≤ G.length ∧ i = .int .i64 k ∧ (∃ q : Int, m = .int .i64 q ∧ q = k0 + 2 * k + 4 * totP (G.take k)) ∧ (∃ F', MkP wr gb G B k F') ∧ GrewI gb top w wr) (fun _ i _ => G.length - (intOf i).toNat)
  case atStart => exact ⟨0, by omega, rfl, ⟨_, rfl, by simp [totP]⟩, ⟨_, HM0.out⟩, GrewI.refl _ _ _⟩
  case round =>
    clear HM0
    obtain ⟨k, hk, rfl, ⟨q, rfl, hq⟩, ⟨F', hM⟩, hG⟩ := hrel
    by_cases hlt : k < G.length
    · have hlt' : (k : Int) < (G.length : Int) := by omega
      have ht1 := totP_take hlt
      have ht2 := totP_le G (k + 1)
      have hq0 : 0 ≤ q := by omega
      have hq1 : q ≤ 900000000 := by omega
      have HQ : Hid (q + 1 + 1 + 4 * (G[k].2.2.length : Int) = k0 + 2 * ((k + 1 : Nat) : Int) + 4 * totP (G.take (k + 1))) := Lib.hid (by omega)
      clear ht1 ht2 hq
      obtain ⟨ct, hT⟩ := hM.at' k hlt (Nat.le_refl _)
      have f0 := hM.row.frozen (k * 3)
      have f1 := hM.row.frozen (k * 3 + 1)
      have d0 := hM.row.cell (i := k * 3) (by omega)
      have d1 := hM.row.cell (i := k * 3 + 1) (by omega)
      have d2 := hM.row.cell (i := k * 3 + 2) (by omega)
      rw [ct] at d2
      have hlk := hlr _ (List.getElem_mem hlt)
      have HGK := Lib.hid (HGB.out k hlt)
      have HTK := Lib.hid (HTOP.out k hlt)
      have HTT : ∀ x y, OwnG ((wr.setCell ⟨gb, k * 3, none⟩ x).setCell ⟨gb, k * 3 + 1, none⟩ y) 0 (tv (B k) G[k].2.2) G[k].2.2.length := fun x y => by
        have hgk := HGK.out
        obtain ⟨f, hr, _⟩ := hT.block (w' := (wr.setCell ⟨gb, k * 3, none⟩ x).setCell ⟨gb, k * 3 + 1, none⟩ y) (by
          rw [Below.heap_setCell _ ⟨gb, k * 3 + 1, none⟩ _ (B k) (by show B k ≠ gb; omega), Below.heap_setCell _ ⟨gb, k * 3, none⟩ _ (B k) (by show B k ≠ gb; omega)])
        exact .inr ⟨B k, _, _, f, rfl, Nat.zero_le _, Nat.le_refl _, hr⟩
      have HN := Lib.hid (fun w' x y hg => hM.next (w' := w') hlt x y HGB.out HAS.out hg)
      have HG2 := Lib.hid (fun w' x y (hg : ((wr.setCell ⟨gb, k * 3, none⟩ x).setCell ⟨gb, k * 3 + 1, none⟩ y).grownBy w' (some (B k))) => ((hG.set (i := k * 3) (x := x) (Nat.le_refl _) hgt).set (i := k * 3 + 1) (x := y) (Nat.le_refl _) hgt).step (Nat.le_of_lt HGK.out) HTK.out hg)
      clear hM hT hG ct
      go_wp2_with fail
      ((with_reducible refine (markS_own _ _ (HTT _ _) hlk (by omega) (by omega)).mono ?_); rintro e w2 ⟨rfl, _, hg⟩)
      have HF := Lib.hid (HN.out w2 _ _ hg)
      have HI := Lib.hid (HG2.out w2 _ _ hg)
      clear HN HG2 hg d0 d1 d2 f0 f1 HTT
      go_wp2_with fail
      go_roundw
      case rel => exact ⟨k + 1, by omega, by go_num, ⟨_, rfl, HQ.out⟩, HF.out, HI.out⟩
      case measure => simp [intOf]; omega
    · obtain rfl : k = G.length := by omega
      rw [List.take_length] at hq
      have HQ := Lib.hid hq
      clear hq
      go_wp2_with fail
      go_ret
      exact ⟨by rw [HQ.out]; rfl, hG⟩
end Go.Proofs.Ytbahejlgfpilnaa
namespace Go.Proofs.Ytbahejlgfpilnaa
open Go.RowKit Go.Sort

theorem OwnP.keepI {w w' : World} {lo hi base : Nat} {v : Value} {S : List Tm} (h : OwnP w base v S) (hg : GrewI lo hi w w') (hb : hi ≤ base) : OwnP w' base v S := by
  obtain ⟨h1, h2 | ⟨g, cap, cur, hv, hbg, hc, hrest⟩⟩ := h
  · exact ⟨h1, .inl h2⟩
  · have hlt : g < w.heap.size := by
      rcases Nat.lt_or_ge g w.heap.size with h | h
      · exact h
      · rw [Array.getElem?_eq_none h] at hc
        simp at hc
    exact ⟨h1, .inr ⟨g, cap, cur, hv, hbg, (hg.block g hlt (.inr (by omega))).trans hc, hrest⟩⟩
theorem rowI {w w' : World} {lo hi b t n : Nat} {f : Nat → Value} (h : w.rowIs b t n f) (hg : GrewI lo hi w w') (hb : b < lo ∨ hi ≤ b) : w'.rowIs b t n f := h.of_block (hg.block b h.lt hb)
theorem SliceB.keptI {w w' : World} {lo hi B : Nat} {v : Value} {ts : List Tm} (h : SliceB w B v ts) (hg : GrewI lo hi w w') (hB : B ≤ w.heap.size) (hl : B ≤ lo) : SliceB w' B v ts := by
  obtain ⟨a, cap, hv, h | ⟨b, off, ha, hlt, hT⟩⟩ := h
  · exact ⟨a, cap, hv, .inl h⟩
  · refine ⟨a, cap, hv, .inr ⟨b, off, ha, hlt, fun k hk => ?_⟩⟩
    have hb := hg.block b (Nat.lt_of_lt_of_le hlt hB) (.inl (by omega))
    obtain ⟨h0, h1, h2, h3⟩ := hT k hk
    exact ⟨(World.cell?_of_block (w := w) (a := ⟨b, _, none⟩) hb).trans h0, (World.cell?_of_block (w := w) (a := ⟨b, _, none⟩) hb).trans h1, (World.cell?_of_block (w := w) (a := ⟨b, _, none⟩) hb).trans h2, (World.cell?_of_block (w := w) (a := ⟨b, _, none⟩) hb).trans h3⟩
theorem LawSt.stepI {w wr w' : World} {A B0 B1 B2 N0 lo hi : Nat} {p d P D : Int} {va s0 v1 s2 : Value} {ts S : List Tm} (h : LawSt w wr A B0 B1 B2 N0 p d P D va s0 v1 s2 ts S) (hg : GrewI lo hi wr w') (hA : A < lo) (h0 : B0 < lo) (h1 : B1 < lo) (h2 : hi ≤ B2) (hN : N0 ≤ lo) :
    LawSt w w' A B0 B1 B2 N0 p d P D va s0 v1 s2 ts S := by
  obtain ⟨n1, n2⟩ := h.n0
  exact ⟨rowI h.ax hg (.inl hA), rowI h.b0 hg (.inl h0), rowI h.b1 hg (.inl h1), rowI h.b2 hg (.inr h2), h.sa.keptI hg h.below.size (by omega), h.sm.keptI hg n2 hN, h.below.trans (hg.below (by omega) h.below.size), n1, Nat.le_trans n2 hg.size⟩
theorem OwnPs.blocks {w : World} {base : Nat} {v : Value} {G : List Pm} (h : OwnPs w base v G) : ∃ gb F B, v = .slice (some ⟨gb, 0, none⟩) G.length G.length ∧ base ≤ gb ∧ PolsW w gb G G.length F B ∧ gb < w.heap.size ∧ ∀ q, q < G.length → B q < w.heap.size := by
  obtain ⟨gb, F, B, hv, hg, hW⟩ := h
  exact ⟨gb, F, B, hv, hg, hW, hW.row.lt, fun q hq => (hW.at' q hq hq).2.2.2.2.lt⟩
theorem PolsW.keepRow {w w' : World} {gb : Nat} {G : List Pm} {k : Nat} {F : Nat → Value} {B : Nat → Nat} {row : Option Nat} (h : PolsW w gb G k F B) (hg : w.grownBy w' row) (hr : ∀ g, row = some g → g < gb) : PolsW w' gb G k F B :=
  ⟨h.row.of_block (hg.block gb h.row.lt (fun e => by have := hr gb e.symm; omega)), fun q hq hk => by
    obtain ⟨a, b, c, d, e⟩ := h.at' q hq hk
    exact ⟨a, b, c, d, e.block (hg.block _ e.lt (fun x => by have := hr _ x.symm; omega))⟩, h.asc⟩
/-- The box of a law's polynomial. -/
theorem lbox1 (w : World) (p d : Int) (v : Value) : ∃ W, W = w.alloc (.cells #[.int .i64 p, .int .i64 d, v] 60) ∧ Below w.heap.size w W ∧ (W.heap.size ≤ w.heap.size + 1 ∧ w.heap.size + 1 ≤ W.heap.size) ∧
      W.rowIs w.heap.size 60 3 (polyF p d v) :=
  ⟨_, rfl, box1 _ _, ⟨by simp, by simp⟩, World.rowIs_alloc w #[Value.int .i64 p, .int .i64 d, v] _ _ (fun i hi => by simp at hi; match i, hi with | 0, _ => rfl | 1, _ => rfl | 2, _ => rfl)⟩
end Go.Proofs.Ytbahejlgfpilnaa
namespace Go.Proofs.Ytbahejlgfpilnaa
open Go.RowKit Go.Sort Go.Maps

/-- The boxes of a law: the model's result's (B0), the program's result's (B2). -/
structure LawR (w wr : World) (B0 B2 N0 : Nat) (P D : Int) (s0 s2 : Value) (S : List Tm) : Prop where
  b0 : wr.rowIs B0 42 3 (polyF P D s0)
  b2 : wr.rowIs B2 42 3 (polyF P D s2)
  sm : SliceB wr N0 s0 S
  below : Below w.heap.size w wr
  n0 : w.heap.size ≤ N0 ∧ N0 ≤ wr.heap.size
theorem LawR.step {w wr w' : World} {B0 B2 N0 : Nat} {P D : Int} {s0 s2 : Value} {S : List Tm} {row : Option Nat} (h : LawR w wr B0 B2 N0 P D s0 s2 S) (hg : wr.grownBy w' row) (hr : ∀ g, row = some g → N0 ≤ g ∧ ∃ N f, wr.rowIs g 151 N f) :
    LawR w w' B0 B2 N0 P D s0 s2 S := by
  have hsz := hg.size
  obtain ⟨n1, n2⟩ := h.n0
  have key : ∀ b t f, wr.rowIs b t 3 f → t ≠ 151 → w'.rowIs b t 3 f := fun b t f hb ht => hb.of_block (hg.block b hb.lt fun e => by
    obtain ⟨_, N, f', hrow⟩ := hr b e.symm
    exact rowIs_ne hb hrow ht rfl)
  refine ⟨key _ _ _ h.b0 (by decide), key _ _ _ h.b2 (by decide), h.sm.kept hg n2 fun g e => (hr g e).1, ?_, n1, by omega⟩
  exact h.below.grown hg h.below.size fun g e => Nat.le_trans n1 (hr g e).1
theorem LawR.on {w wr w' : World} {B0 B2 N0 : Nat} {P D : Int} {s0 s2 : Value} {S : List Tm} (h : LawR w wr B0 B2 N0 P D s0 s2 S) (hb : Below wr.heap.size wr w') : LawR w w' B0 B2 N0 P D s0 s2 S :=
  h.step (below_grown hb) (fun g e => by simp at e)
theorem LawR.stepI {w wr w' : World} {B0 B2 N0 lo hi : Nat} {P D : Int} {s0 s2 : Value} {S : List Tm} (h : LawR w wr B0 B2 N0 P D s0 s2 S) (hg : GrewI lo hi wr w') (h0 : B0 < lo) (h2 : hi ≤ B2) (hN : N0 ≤ lo) :
    LawR w w' B0 B2 N0 P D s0 s2 S := by
  obtain ⟨n1, n2⟩ := h.n0
  exact ⟨rowI h.b0 hg (.inl h0), rowI h.b2 hg (.inr h2), h.sm.keptI hg n2 hN, h.below.trans (hg.below (by omega) h.below.size), n1, Nat.le_trans n2 hg.size⟩
theorem GrewI.one {lo hi b : Nat} {w w' : World} (h1 : lo ≤ b) (h2 : b < hi) (hg : w.grownBy w' (some b)) : GrewI lo hi w w' := (GrewI.refl lo hi w).step h1 h2 hg
theorem nOwnI.blk {w : World} {base : Nat} {v : Value} {l : List Int} (h : nOwnI w base v l) : ∃ g, v = .slice (some ⟨g, 0, none⟩) l.length l.length ∧ base ≤ g ∧ g < w.heap.size := by
  obtain ⟨g, f, hv, hb, hr, _⟩ := h
  exact ⟨g, hv, hb, hr.lt⟩
theorem nOwnI.on {w w' : World} {base : Nat} {v : Value} {l : List Int} (h : nOwnI w base v l) (hb : Below w.heap.size w w') : nOwnI w' base v l := by
  obtain ⟨g, f, hv, hg, hr, hf⟩ := h
  exact ⟨g, f, hv, hg, rowIs_below hr hb hr.lt, hf⟩
theorem nOwnI.onI {w w' : World} {base lo hi : Nat} {v : Value} {l : List Int} (h : nOwnI w base v l) (hg : GrewI lo hi w w') (hb : hi ≤ base) : nOwnI w' base v l := by
  obtain ⟨g, f, hv, hbg, hr, hf⟩ := h
  exact ⟨g, f, hv, hbg, rowI hr hg (.inr (by omega)), hf⟩
end Go.Proofs.Ytbahejlgfpilnaa
namespace Go.Proofs.Ytbahejlgfpilnaa
open Go.RowKit Go.Sort Go.Maps

theorem OwnV.keepIv {w w' : World} {lo hi base : Nat} {v : Value} {S : List Int} (h : OwnV w base v S) (hg : GrewI lo hi w w') (hb : hi ≤ base) : OwnV w' base v S :=
  h.imp id fun ⟨b, cap, N, f, hv, h1, h2, hr, hf⟩ => ⟨b, cap, N, f, hv, h1, h2, rowI hr hg (.inr (by have h3 : base ≤ b := h1; omega)), hf⟩

set_option maxRecDepth 8000 in
set_option maxHeartbeats 16000000 in
theorem law_Vo (lv : Value) (G : List Pm) (ev : Value) (es : List Int) (w : World) (hnG : G.length ≤ 9223372036854775807) (hnr : ∀ g ∈ G, g.2.2.length ≤ 9223372036854775807) (hbG : ∀ g ∈ G, ∀ t ∈ g.2.2, tmByte t) (hG : SlP w lv G) (hne : es.length ≤ 9223372036854775807) (hE : Sl w ev es) :
    Calls Try.prog 12 #[lv, ev] w fun e w' => e = .returned (.bool true) ∧ Below w.heap.size w w' := by
  obtain ⟨la, lc, rfl, _⟩ := id hG
  obtain ⟨ea, ec, rfl, _⟩ := id hE
  by_cases hbe : (1048576 : Int) < (es.length : Int)
  · go_enter Try.func12, Try.ntmps12
    go_wp2_with fail
    go_ret
    exact ⟨rfl, Below.refl _ _⟩
  have hle : es.length ≤ 1048576 := by omega
  go_enter Try.func12, Try.ntmps12
  go_wp2_with fail
  ((with_reducible refine (szpolys _ G 1048576 w (by decide) (by decide) hnG hnr hG).mono ?_); rintro e w1 ⟨rfl, hb1⟩)
  clear hbe
  by_cases hbig : 1048576 - ((G.length + totP G : Nat) : Int) < 0
  · have HL := Lib.hid (leftOf_lt hbig)
    rw [HL.out]
    go_wp2
    go_ret
    exact ⟨rfl, hb1⟩
  have HL := Lib.hid (leftOf_ge hbig)
  have hlG : G.length ≤ 1048576 := by omega
  have htG : totP G ≤ 1048576 := by omega
  obtain ⟨lf2, hlf3⟩ : ∃ lf2, 1048576 - ((G.length + totP G : Nat) : Int) = lf2 := ⟨_, rfl⟩
  rw [HL.out, hlf3]
  rw [hlf3] at hbig
  have HLR : Hid (∀ g ∈ G, g.2.2.length ≤ 1048576) := Lib.hid (fun g hg => Nat.le_trans (totP_of hg) htG)
  have HOK : Hid (∀ g ∈ G, PmOk g) := Lib.hid (fun g hg => ⟨hbG g hg, HLR.out g hg⟩)
  clear HL hlf3 hnr hbG
  have hs8 := voS_len G es
  have hSP := fun lv' ev' w' h' k' => svo lv' ev' G es w' hlG HOK.out h' hle k'
  have hIM := fun lv' ev' w' h' k' => ivo lv' ev' G es w' hlG HOK.out h' hle k'
  obtain ⟨S, hS⟩ : ∃ S, voS G es = S := ⟨_, rfl⟩
  obtain ⟨c, hc⟩ : ∃ c, voC G es = c := ⟨_, rfl⟩
  rw [hS] at hs8 hSP hIM
  rw [hc] at hSP hIM
  have HSP := Lib.hid hSP
  have HIM := Lib.hid hIM
  have hso : S.length ≤ 1048576 := by omega
  have hcc : (c != c) = false := by simp
  have hn1 : ¬ (1 + (S.length : Int)) < 0 := by omega
  have hn2 : ((1 + (S.length : Int)) != 1 + (S.length : Int)) = false := by simp
  clear hSP hIM hS hc
  go_wp2_with fail
  ((with_reducible refine (topolys _ G _ hlG HLR.out (hG.below hb1)).mono ?_); rintro e wa ⟨va, rfl, owna, hba⟩)
  have hb2 := hb1.trans (hba.mono hb1.size)
  obtain ⟨ga, Fa, Ba, hva, _, _, _, _⟩ := owna.blocks
  subst hva
  go_wp2_with fail
  ((with_reducible refine (ntoI_own _ es _ hle (hE.below hb2)).mono ?_); rintro e wb ⟨vb, rfl, ownb, hbb⟩)
  have hb3 := hb2.trans (hbb.mono hb2.size)
  have sla := owna.slP.below hbb
  have slb := ownb.slice
  obtain ⟨gq, hvb, _, _⟩ := ownb.blk
  subst hvb
  clear owna ownb hba hbb hb1 hb2
  go_wp2_with fail
  ((with_reducible refine (HSP.out _ _ _ sla slb).mono ?_); rintro e w3 ⟨sv3, rfl, hs3, hbs⟩)
  obtain ⟨a3, c3, rfl, _⟩ := id hs3
  have hbw3 := hb3.trans (hbs.mono hb3.size)
  have hG3 := hG.below hbw3
  have hE3 := hE.below hbw3
  have K3 : Below w3.heap.size w3 w3 := Below.refl _ _
  clear sla slb hbs hb3 HSP
  go_wp2_with fail
  ((with_reducible refine (topolys _ G _ hlG HLR.out hG3).mono ?_); rintro e w4 ⟨v4, rfl, own4, hb4⟩)
  obtain ⟨gb, FB, BB, hv4, hgb, hPW, hgblt, hBBlt⟩ := own4.blocks
  subst hv4
  have K4 := K3.trans hb4
  have s4 := hb4.size
  clear own4 K3 hb4
  go_wp2_with fail
  ((with_reducible refine (ntoI_own _ es _ hle (hE3.below K4)).mono ?_); rintro e w5 ⟨v5, rfl, own5, hb5⟩)
  have K5 := K4.trans (hb5.mono K4.size)
  have s5 := hb5.size
  have hP5 := hPW.below hb5
  have slP5 : SlP w5 (.slice (some ⟨gb, 0, none⟩) G.length G.length) G := OwnPs.slP (base := 0) ⟨gb, FB, BB, rfl, Nat.zero_le _, hP5⟩
  have slE5 := own5.slice
  obtain ⟨gx, hvx, hgx, hgxlt⟩ := own5.blk
  subst hvx
  clear hPW K4 hb5
  go_wp2_with fail
  ((with_reducible refine (HIM.out _ _ _ slP5 slE5).mono ?_); rintro e w6 ⟨v6, rfl, ho, hb6⟩)
  obtain ⟨a6, c6, rfl⟩ := ho.shape
  have K6 := K5.trans (hb6.mono K5.size)
  have hP6 := hP5.below hb6
  have hx6 := own5.on hb6
  have hs56 := hb6.size
  clear slP5 slE5 hP5 own5 K5 hb6
  go_wp2_with fail
  ((with_reducible refine (neqI_same _ _ S _ hso ho.sl (hs3.below K6)).mono ?_); rintro e w7 ⟨rfl, hb⟩)
  have K7 := K6.trans (hb.mono K6.size)
  have hP7 := hP6.below hb
  have hx7 := hx6.on hb
  have ho7 := ho.below hb
  clear K6 hP6 hx6 ho hb
  go_wp2_with fail
  ((with_reducible refine (topolys _ G _ hlG HLR.out (hG3.below K7)).mono ?_); rintro e w8 ⟨vt, rfl, ownt, hb⟩)
  have K8 := K7.trans (hb.mono K7.size)
  have hP8 := hP7.below hb
  have hx8 := hx7.on hb
  have ho8 := ho7.below hb
  have hl8 : SlP w8 (.slice (some ⟨gb, 0, none⟩) G.length G.length) G := OwnPs.slP (base := 0) ⟨gb, FB, BB, rfl, Nat.zero_le _, hP8⟩
  clear K7 hP7 hx7 ho7 hb
  obtain ⟨gt, FT, BT, hvt, _, _, _, _⟩ := ownt.blocks
  subst hvt
  go_wp2_with fail
  ((with_reducible refine (eqpolys _ _ G _ hlG HLR.out hl8 ownt.slP).mono ?_); rintro e w9 ⟨rfl, hb⟩)
  have K9 := K8.trans (hb.mono K8.size)
  have hP9 := hP8.below hb
  have hx9 := hx8.on hb
  have ho9 := ho8.below hb
  clear K8 hP8 hx8 ho8 hl8 ownt hb
  go_wp2_with fail
  ((with_reducible refine (ntoI_own _ es _ hle (hE3.below K9)).mono ?_); rintro e w10 ⟨vv, rfl, ownv, hb⟩)
  have K10 := K9.trans (hb.mono K9.size)
  have hP10 := hP9.below hb
  have hx10 := hx9.on hb
  have ho10 := ho9.below hb
  obtain ⟨gv, hvv, _, _⟩ := ownv.blk
  subst hvv
  clear K9 hP9 hx9 ho9 hb
  go_wp2_with fail
  ((with_reducible refine (neqI_same _ _ es _ hle hx10.slice ownv.slice).mono ?_); rintro e w11 ⟨rfl, hb⟩)
  have K11 := K10.trans (hb.mono K10.size)
  have hP11 := hP10.below hb
  have hx11 := hx10.on hb
  have ho11 := ho10.below hb
  clear K10 hP10 hx10 ho10 ownv hb
  go_wp2_with fail
  ((with_reducible refine (markpolys gb w4.heap.size G FB BB 1 _ hlG HLR.out htG (by decide) (by decide) hP11 hBBlt hgblt).mono ?_); rintro e w12 ⟨rfl, hgI⟩)
  have K12 := K11.trans ((hgI.below (base := w3.heap.size) hgb K11.size))
  have hx12 := hx11.onI hgI (Nat.le_refl _)
  have ho12 := ho11.keepIv hgI s5
  clear K11 hP11 hx11 ho11 hgI
  obtain ⟨kx, hkx⟩ : ∃ kx, (1 : Int) + 2 * (G.length : Int) + 4 * (totP G : Int) = kx := ⟨_, rfl⟩
  have hkx0 : 0 ≤ kx := by omega
  have hkx1 : kx ≤ 1000000000 := by omega
  rw [hkx]
  clear hkx
  go_wp2_with fail
  ((with_reducible refine (nmarkI_own kx _ hx12 hle hkx0 hkx1).mono ?_); rintro e w13 ⟨rfl, hgr⟩)
  have hgJ : GrewI w4.heap.size w5.heap.size w12 w13 := GrewI.one (b := gx) (by omega) hgxlt hgr
  have K13 := K12.trans ((hgJ.below (base := w3.heap.size) s4 K12.size))
  have ho13 := ho12.keepIv hgJ (Nat.le_refl _)
  have hky : ¬ kx + (es.length : Int) < 0 := by omega
  obtain ⟨ky, hkyy⟩ : ∃ ky, kx + (es.length : Int) = ky := ⟨_, rfl⟩
  rw [hkyy] at hky ⊢
  clear K12 hx12 ho12 hgr hgJ hkyy hkx0 hkx1
  go_wp2_with fail
  ((with_reducible refine (neqI_same _ _ S _ hso ho13.sl (hs3.below K13)).mono ?_); rintro e w14 ⟨rfl, hb⟩)
  have K14 := K13.trans (hb.mono K13.size)
  have ho14 := (ho13.below hb).mono (Nat.le_trans s4 s5)
  clear K13 ho13 hb
  go_wp2_with fail
  ((with_reducible refine (ho14.mark hso K14.size).mono ?_); rintro e w15 ⟨rfl, hM, hb⟩)
  have K15 := K14.trans hb
  clear ho14 K14 hb
  go_wp2_with fail
  ((with_reducible refine (hM.held hso).mono ?_); rintro e w15' ⟨rfl, hw15⟩; have hw15 := hw15.symm; subst hw15)
  go_wp2_with fail
  ((with_reducible refine (topolys _ G _ hlG HLR.out (hG3.below K15)).mono ?_); rintro e w16 ⟨vc, rfl, ownc, hb⟩)
  have K16 := K15.trans (hb.mono K15.size)
  have hM16 := hM.below hb
  obtain ⟨gc2, Fc2, Bc2, hvc, _, _, _, _⟩ := ownc.blocks
  subst hvc
  clear K15 hM hb
  go_wp2_with fail
  ((with_reducible refine (ntoI_own _ es _ hle (hE3.below K16)).mono ?_); rintro e w17 ⟨vd, rfl, ownd, hb⟩)
  have K17 := K16.trans (hb.mono K16.size)
  have hM17 := hM16.below hb
  have slc := ownc.slP.below hb
  have sld := ownd.slice
  obtain ⟨gd2, hvd, _, _⟩ := ownd.blk
  subst hvd
  clear K16 hM16 ownc ownd hb
  go_wp2_with fail
  ((with_reducible refine (HIM.out _ _ _ slc sld).mono ?_); rintro e w18 ⟨v18, rfl, ho18, hb⟩)
  obtain ⟨a18, c18, rfl⟩ := ho18.shape
  have K18 := K17.trans (hb.mono K17.size)
  have hM18 := hM17.below hb
  clear K17 hM17 slc sld hb
  go_wp2_with fail
  ((with_reducible refine (neqI_same _ _ S _ hso ho18.sl (hs3.below K18)).mono ?_); rintro e w19 ⟨rfl, hb⟩)
  have K19 := K18.trans (hb.mono K18.size)
  have hM19 := hM18.below hb
  clear K18 hM18 ho18 hb
  go_wp2_with fail
  ((with_reducible refine (hM19.held hso).mono ?_); rintro e w20 ⟨rfl, rfl⟩)
  have hend := hbw3.trans (K19.mono hbw3.size)
  go_wp2
  go_ret
  exact ⟨rfl, hend⟩
end Go.Proofs.Ytbahejlgfpilnaa
namespace Go.Proofs.Ytbahejlgfpilnaa
open Go.ChangeShapes Go.WideShapes Go.ChangeAt Go.RowKit Go.Sort Go.Joins Go.Deep

section
variable {H : Type} {enc : TypeId × Value → H} {w : World} {spare : Nat → Bool} {held : Bool}
theorem gi64_of {fuel : Nat} {cs : List Value} {x : DataW H × List MemPlace} (h : DataW.trod enc Try.prog w 0 spare held fuel 2 cs = some x) : ∃ n, cs = [.int .i64 n] ∧ -9223372036854775808 ≤ n ∧ n ≤ 9223372036854775807 := by
  obtain ⟨n, hc, _, hw⟩ := DataW.trod_int Try.underlying2 h
  simp [Lit.wf, IntKind.min, IntKind.max, IntKind.signed, IntKind.bits] at hw
  exact ⟨n, hc, hw.1, by omega⟩

/-- The row's end, where all that was there before the call is as it was. -/
theorem mrow_end {P : Program} {f : Func} {s : ChangeSpec} {apart fresh handsOn : Bool} {W W' : World} {args : Array Value} {v : Value} {ds gs : List (DataW H)} {before pa pv : List MemPlace}
    (hW : DataW.Whole enc P f.params.toList s.vars apart W args.toList ds gs before) (hb : Below W.heap.size W W')
    (hr : ∀ (b : Nat) (sp : Nat → Bool) (hd : Bool), DataW.TrodAll enc P W' b sp hd f.resultTypes.toList (v.resultList f.resultTypes.size) (s.fn H (ds ++ gs)).results [])
    (ha : DataW.TrodAll enc P W' 0 (fun b => decide (b < W.heap.size)) true f.params.toList args.toList (s.fn H (ds ++ gs)).args pa)
    (hv : DataW.TrodVars enc P W' (fun b => decide (b < W.heap.size)) s.vars (s.fn H (ds ++ gs)).vars pv) (hp : ∀ p ∈ before, p ∈ pa ∨ p ∈ pv) :
    s.post enc P f apart fresh handsOn false W args v W' :=
  ⟨ds, gs, before, [], pa, pv, hW, hr _ _ _, ha, hv, World.keptBut_mono (fun p h => ⟨h, .inr (hp p h)⟩) (hb.frame (· ∈ before)), fun h => absurd h (by decide)⟩
end

theorem mlaidOut : laidOutB Try.prog = true := by kernel_rfl
theorem mown : ownKnob Try.prog.godebug = none := by kernel_rfl
theorem readIntsN : Try.prog.readableRec 52 = true ∧ 52 < Try.prog.types.size := ⟨by kernel_rfl, of_decide_eq_true (by kernel_rfl)⟩
theorem ncellsI64 : Try.prog.cellsOf 2 = 1 := by kernel_rfl

set_option maxRecDepth 100000 in
theorem open_listN {H : Type} {enc : TypeId × Value → H} {w : World} {held : Bool} {r : Reach} {b0 : Nat} {v : Value} {d : DataW H} {p : List MemPlace} (hv : Value.okWide Try.prog w r b0 52 v) (h : DataW.Trod enc Try.prog w 0 (fun _ => true) held 52 v d p) :
    ∃ l : List Int, Sl w v l ∧ l.length ≤ 9223372036854775807 := by
  obtain ⟨a0, len0, cap0, rfl⟩ := okWide_slice Try.underlying52 hv
  obtain ⟨fuel, hf⟩ := h
  rcases open_slice Try.underlying52 hf with ⟨hc, _⟩ | ⟨a, len, cap, m, n, D, Pl, hc, _, hl, hm, hmm, _, hi⟩
  · simp [Value.cells] at hc
    obtain ⟨rfl, rfl, rfl⟩ := hc
    exact ⟨[], ⟨none, 0, rfl, .inl rfl⟩, by simp⟩
  · simp [Value.cells] at hc
    obtain ⟨rfl, rfl, rfl⟩ := hc
    unfold maxLen at hm
    simp at hmm
    subst hmm
    rw [ncellsI64] at hi
    have hex : ∀ i, i < len0 → ∃ x : Int, w.cell? (a.add i) = some (.int .i64 x) := fun i hil => by
      obtain ⟨cs, hcs, ht⟩ := hi i (by omega)
      obtain ⟨x, e, hb⟩ := gi64_of ht
      obtain ⟨_, _, hat⟩ := World.cells?_some hcs
      have h0 := hat 0 (by omega)
      rw [e] at h0
      exact ⟨x, by simpa [Addr.add] using h0⟩
    obtain ⟨F, hF⟩ := choose_lt hex
    refine ⟨(List.range len0).map F, ⟨some a, _, by simp; rfl, ?_⟩, by simp; omega⟩
    by_cases h0 : len0 = 0
    · left; simp [h0]
    · right
      have hc0 := hF 0 (by omega)
      obtain ⟨b, off, spot⟩ := a
      have hspot : spot = none := World.cell?_spot (w := w) (a := ⟨b, off, spot⟩) (by simpa [Addr.add] using hc0)
      subst hspot
      refine ⟨b, off, rfl, World.block_lt_of_cell? (w := w) (a := ⟨b, off, none⟩) (by simpa [Addr.add] using hc0), fun k hk => ?_⟩
      have hat := hF k (by simpa using hk)
      by_cases hk0 : k = 0
      · subst hk0
        simpa [Addr.add] using hat
      · simp only [Addr.add, if_neg hk0] at hat
        simpa using hat
end Go.Proofs.Ytbahejlgfpilnaa
namespace Go.Proofs.Ytbahejlgfpilnaa
open Go.ChangeShapes Go.WideShapes Go.ChangeAt Go.RowKit Go.Sort Go.Joins Go.Deep

section
variable {H : Type} {enc : TypeId × Value → H} {w : World} {spare : Nat → Bool} {held : Bool}

theorem cellsLTerm : Try.prog.cellsOf 188 = 4 := by kernel_rfl
theorem cellsB3 : Try.prog.cellsOf 34 = 3 := by kernel_rfl
theorem cellsU8 : Try.prog.cellsOf 5 = 1 := by kernel_rfl
theorem cellsI64 : Try.prog.cellsOf 2 = 1 := by kernel_rfl
theorem cellsLPoly : Try.prog.cellsOf 60 = 3 := by kernel_rfl

theorem u8_of {fuel : Nat} {cs : List Value} {x : DataW H × List MemPlace} (h : DataW.trod enc Try.prog w 0 spare held fuel 5 cs = some x) : ∃ n, cs = [.int .u8 n] ∧ 0 ≤ n ∧ n ≤ 255 := by
  obtain ⟨n, hc, _, hw⟩ := DataW.trod_int Try.underlying5 h
  simp [Lit.wf, IntKind.min, IntKind.max, IntKind.signed, IntKind.bits] at hw
  exact ⟨n, hc, hw.1, by omega⟩
theorem i64_of {fuel : Nat} {cs : List Value} {x : DataW H × List MemPlace} (h : DataW.trod enc Try.prog w 0 spare held fuel 2 cs = some x) : ∃ n, cs = [.int .i64 n] ∧ -9223372036854775808 ≤ n ∧ n ≤ 9223372036854775807 := by
  obtain ⟨n, hc, _, hw⟩ := DataW.trod_int Try.underlying2 h
  simp [Lit.wf, IntKind.min, IntKind.max, IntKind.signed, IntKind.bits] at hw
  exact ⟨n, hc, hw.1, by omega⟩

set_option maxRecDepth 100000 in
theorem bytes3_of {fuel : Nat} {cs : List Value} {x : DataW H × List MemPlace} (h : DataW.trod enc Try.prog w 0 spare held fuel 34 cs = some x) :
    ∃ a b c, cs = [.int .u8 a, .int .u8 b, .int .u8 c] ∧ (0 ≤ a ∧ a ≤ 255) ∧ (0 ≤ b ∧ b ≤ 255) ∧ (0 ≤ c ∧ c ≤ 255) := by
  obtain ⟨xs, m, _, _, hlen, hx, hi⟩ := DataW.trod_array Try.underlying34 h
  rw [cellsB3] at hlen
  match cs, hlen with
  | [c0, c1, c2], _ =>
    match xs, hx with
    | [y0, y1, y2], _ =>
      have h0 := hi 0 (by omega)
      have h1 := hi 1 (by omega)
      have h2 := hi 2 (by omega)
      simp [cellsU8] at h0 h1 h2
      obtain ⟨a, ea, ha⟩ := u8_of h0
      obtain ⟨b, eb, hb⟩ := u8_of h1
      obtain ⟨c, ec, hc⟩ := u8_of h2
      simp at ea eb ec
      exact ⟨a, b, c, by simp [ea, eb, ec], ha, hb, hc⟩

set_option maxRecDepth 100000 in
theorem term_of {fuel : Nat} {cs : List Value} {x : DataW H × List MemPlace} (h : DataW.trod enc Try.prog w 0 spare held fuel 188 cs = some x) :
    ∃ t : Tm, cs = [.int .u8 t.1, .int .u8 t.2.1, .int .u8 t.2.2.1, .int .i64 t.2.2.2] ∧ tmByte t := by
  obtain ⟨xs, m, _, _, hlen, hx, hi⟩ := DataW.trod_struct Try.underlying188 h
  rw [cellsLTerm] at hlen
  match cs, hlen with
  | [c0, c1, c2, c3], _ =>
    match xs, hx with
    | [y0, y1], _ =>
      have h0 := hi 0 _ rfl
      have h1 := hi 1 _ rfl
      simp [cellsB3, cellsI64] at h0 h1
      obtain ⟨a, b, c, e0, ha, hb, hc⟩ := bytes3_of h0
      obtain ⟨v, e1, hv⟩ := i64_of h1
      simp at e0 e1
      exact ⟨(a, b, c, v), by simp [e0, e1], ⟨ha, hb, hc⟩, hv⟩

set_option maxRecDepth 100000 in
theorem slice_of {fuel : Nat} {v : Value} {x : DataW H × List MemPlace} (h : DataW.trod enc Try.prog w 0 (fun _ => true) held fuel 58 [v] = some x) :
    ∃ ts : List Tm, SliceT w v ts ∧ (∀ t ∈ ts, tmByte t) ∧ ts.length ≤ 9223372036854775807 := by
  rcases open_slice Try.underlying58 h with ⟨hc, _⟩ | ⟨a, len, cap, m, n, D, Pl, hc, _, hl, hm, hmm, _, hi⟩
  · simp at hc
    subst hc
    exact ⟨[], ⟨none, 0, rfl, .inl rfl⟩, fun t ht => by simp at ht, by simp⟩
  · simp at hc
    subst hc
    unfold maxLen at hm
    simp at hmm
    subst hmm
    rw [cellsLTerm] at hi
    have hex : ∀ i, i < len → ∃ t : Tm, tmByte t ∧ ∀ j, j < 4 → w.cell? ((a.add (i * 4)).add j) = [Value.int .u8 t.1, .int .u8 t.2.1, .int .u8 t.2.2.1, .int .i64 t.2.2.2][j]? := fun i hil => by
      obtain ⟨cs, hcs, ht⟩ := hi i (by omega)
      obtain ⟨t, e, hb⟩ := term_of ht
      obtain ⟨_, _, hat⟩ := World.cells?_some hcs
      exact ⟨t, hb, fun j hj => by rw [hat j hj, e]⟩
    obtain ⟨F, hF⟩ := choose_lt hex
    refine ⟨(List.range len).map F, ⟨some a, m, by simp, ?_⟩, fun t ht => ?_, by simp; omega⟩
    · by_cases h0 : len = 0
      · left; simp [h0]
      · right
        have hc0 := (hF 0 (by omega)).2 0 (by omega)
        obtain ⟨b, off, spot⟩ := a
        have hspot : spot = none := by
          have := World.cell?_spot (w := w) (a := ⟨b, off, spot⟩) (by simpa [Addr.add] using hc0)
          exact this
        subst hspot
        refine ⟨b, off, rfl, World.block_lt_of_cell? (w := w) (a := ⟨b, off, none⟩) (by simpa [Addr.add] using hc0), fun k hk => ?_⟩
        have hkl : k < len := by simpa using hk
        have hat := (hF k hkl).2
        have g0 := hat 0 (by omega)
        have g1 := hat 1 (by omega)
        have g2 := hat 2 (by omega)
        have g3 := hat 3 (by omega)
        rw [add_plain, add_plain] at g0 g1 g2 g3
        simp only [List.getElem_map, List.getElem_range]
        exact ⟨by simpa using g0, by simpa using g1, by simpa using g2, by simpa using g3⟩
    · obtain ⟨i, hi', rfl⟩ := List.mem_map.1 ht
      exact (hF i (by simpa using hi')).1

set_option maxRecDepth 100000 in
/-- A polynomial of the laws' own type, read as data: its prime, its number of letters, its terms. -/
theorem open_poly {r : Reach} {b0 : Nat} {v : Value} {d : DataW H} {p : List MemPlace} (hv : Value.okWide Try.prog w r b0 60 v) (h : DataW.Trod enc Try.prog w 0 (fun _ => true) held 60 v d p) :
    ∃ (q n : Int) (sv : Value) (ts : List Tm), v = .agg #[.int .i64 q, .int .i64 n, sv] ∧ SliceT w sv ts ∧ (∀ t ∈ ts, tmByte t) ∧ ts.length ≤ 9223372036854775807 := by
  obtain ⟨v0, v1, v2, y0, y1, y2, m, rfl, _, _, h0, h1, h2⟩ := open_agg3 Try.underlying60 (by kernel_rfl) cellsLPoly hv h
  obtain ⟨q, e0, _⟩ := i64_of h0
  obtain ⟨n, e1, _⟩ := i64_of h1
  obtain ⟨ts, hs, hb, hn⟩ := slice_of h2
  simp at e0 e1
  subst e0 e1
  exact ⟨q, n, v2, ts, rfl, hs, hb, hn⟩

/-- The row's end, where all that was there before the call is as it was. -/
theorem row_end {P : Program} {f : Func} {s : ChangeSpec} {apart fresh handsOn : Bool} {W W' : World} {args : Array Value} {v : Value} {ds gs : List (DataW H)} {before pa pv : List MemPlace}
    (hW : DataW.Whole enc P f.params.toList s.vars apart W args.toList ds gs before) (hb : Below W.heap.size W W')
    (hr : ∀ (b : Nat) (sp : Nat → Bool) (hd : Bool), DataW.TrodAll enc P W' b sp hd f.resultTypes.toList (v.resultList f.resultTypes.size) (s.fn H (ds ++ gs)).results [])
    (ha : DataW.TrodAll enc P W' 0 (fun b => decide (b < W.heap.size)) true f.params.toList args.toList (s.fn H (ds ++ gs)).args pa)
    (hv : DataW.TrodVars enc P W' (fun b => decide (b < W.heap.size)) s.vars (s.fn H (ds ++ gs)).vars pv) (hp : ∀ p ∈ before, p ∈ pa ∨ p ∈ pv) :
    s.post enc P f apart fresh handsOn false W args v W' :=
  ⟨ds, gs, before, [], pa, pv, hW, hr _ _ _, ha, hv, World.keptBut_mono (fun p h => ⟨h, .inr (hp p h)⟩) (hb.frame (· ∈ before)), fun h => absurd h (by decide)⟩

end

theorem laidOut : laidOutB Try.prog = true := by kernel_rfl
theorem own : ownKnob Try.prog.godebug = none := by kernel_rfl
theorem readPoly : Try.prog.readableRec 60 = true ∧ 60 < Try.prog.types.size := ⟨by kernel_rfl, of_decide_eq_true (by kernel_rfl)⟩
end Go.Proofs.Ytbahejlgfpilnaa
namespace Go.Proofs.Ytbahejlgfpilnaa
open Go.ChangeShapes Go.WideShapes Go.ChangeAt Go.RowKit Go.Sort Go.Joins Go.Deep

section
variable {H : Type} {enc : TypeId × Value → H} {w : World} {held : Bool}

theorem cellsSTerm : Try.prog.cellsOf 58 = 1 := by kernel_rfl
theorem readPolys : Try.prog.readableRec 22 = true ∧ 22 < Try.prog.types.size := ⟨by kernel_rfl, of_decide_eq_true (by kernel_rfl)⟩

set_option maxRecDepth 100000 in
theorem poly_of {fuel : Nat} {cs : List Value} {x : DataW H × List MemPlace} (h : DataW.trod enc Try.prog w 0 (fun _ => true) held fuel 60 cs = some x) :
    ∃ gu : Pm × Value, cs = [.int .i64 gu.1.1, .int .i64 gu.1.2.1, gu.2] ∧ SliceT w gu.2 gu.1.2.2 ∧ (∀ t ∈ gu.1.2.2, tmByte t) ∧ gu.1.2.2.length ≤ 9223372036854775807 := by
  obtain ⟨xs, m, _, _, hlen, hx, hi⟩ := DataW.trod_struct Try.underlying60 h
  rw [cellsLPoly] at hlen
  match cs, hlen with
  | [c0, c1, c2], _ =>
    match xs, hx with
    | [y0, y1, y2], _ =>
      have h0 := hi 0 _ rfl
      have h1 := hi 1 _ rfl
      have h2 := hi 2 _ rfl
      simp [cellsI64, cellsSTerm] at h0 h1 h2
      obtain ⟨a, e0, _⟩ := i64_of h0
      obtain ⟨b, e1, _⟩ := i64_of h1
      obtain ⟨ts, hs, hb, hn⟩ := slice_of h2
      simp at e0 e1
      exact ⟨((a, b, ts), c2), by simp [e0, e1], hs, hb, hn⟩

set_option maxRecDepth 100000 in
theorem open_polys {r : Reach} {b0 : Nat} {v : Value} {d : DataW H} {p : List MemPlace} (hv : Value.okWide Try.prog w r b0 22 v) (h : DataW.Trod enc Try.prog w 0 (fun _ => true) held 22 v d p) :
    ∃ G : List Pm, SlP w v G ∧ G.length ≤ 9223372036854775807 ∧ (∀ g ∈ G, g.2.2.length ≤ 9223372036854775807) ∧ ∀ g ∈ G, ∀ t ∈ g.2.2, tmByte t := by
  obtain ⟨a0, len0, cap0, rfl⟩ := okWide_slice Try.underlying22 hv
  obtain ⟨fuel, hf⟩ := h
  rcases open_slice Try.underlying22 hf with ⟨hc, _⟩ | ⟨a, len, cap, m, n, D, Pl, hc, _, hl, hm, hmm, _, hi⟩
  · simp [Value.cells] at hc
    obtain ⟨rfl, rfl, rfl⟩ := hc
    exact ⟨[], ⟨none, 0, rfl, .inl rfl⟩, by simp, fun t ht => by simp at ht, fun t ht => by simp at ht⟩
  · simp [Value.cells] at hc
    obtain ⟨rfl, rfl, rfl⟩ := hc
    unfold maxLen at hm
    simp at hmm
    subst hmm
    rw [cellsLPoly] at hi
    have hex : ∀ i, i < len0 → ∃ gu : Pm × Value, (SliceT w gu.2 gu.1.2.2 ∧ (∀ t ∈ gu.1.2.2, tmByte t) ∧ gu.1.2.2.length ≤ 9223372036854775807) ∧ ∀ j, j < 3 → w.cell? ((a.add (i * 3)).add j) = [Value.int .i64 gu.1.1, .int .i64 gu.1.2.1, gu.2][j]? := fun i hil => by
      obtain ⟨cs, hcs, ht⟩ := hi i (by omega)
      obtain ⟨gu, e, hb⟩ := poly_of ht
      obtain ⟨_, _, hat⟩ := World.cells?_some hcs
      exact ⟨gu, hb, fun j hj => by rw [hat j hj, e]⟩
    obtain ⟨F, hF⟩ := choose_lt hex
    refine ⟨(List.range len0).map fun i => (F i).1, ⟨some a, _, by simp; rfl, ?_⟩, by simp; omega, fun g hg => ?_, fun g hg => ?_⟩
    · by_cases h0 : len0 = 0
      · left; simp [h0]
      · right
        have hc0 := (hF 0 (by omega)).2 0 (by omega)
        obtain ⟨b, off, spot⟩ := a
        have hspot : spot = none := by
          have := World.cell?_spot (w := w) (a := ⟨b, off, spot⟩) (by simpa [Addr.add] using hc0)
          exact this
        subst hspot
        refine ⟨b, off, rfl, World.block_lt_of_cell? (w := w) (a := ⟨b, off, none⟩) (by simpa [Addr.add] using hc0), fun k hk => ?_⟩
        have hkl : k < len0 := by simpa using hk
        have hat := (hF k hkl).2
        have g0 := hat 0 (by omega)
        have g1 := hat 1 (by omega)
        have g2 := hat 2 (by omega)
        rw [add_plain, add_plain] at g0 g1 g2
        simp only [List.getElem_map, List.getElem_range]
        exact ⟨(F k).2, by simpa using g0, by simpa using g1, by simpa using g2, (hF k hkl).1.1⟩
    · obtain ⟨i, hi', rfl⟩ := List.mem_map.1 hg
      exact (hF i (by simpa using hi')).1.2.2
    · obtain ⟨i, hi', rfl⟩ := List.mem_map.1 hg
      exact (hF i (by simpa using hi')).1.2.1
end
end Go.Proofs.Ytbahejlgfpilnaa
