/-
  PRODUCTS OF POLYNOMIALS, in plain mathematics. Conditions: as each theorem states.
  CYCLES in plain mathematics. Conditions: as each theorem states.
  SIGNS OF ORDERS, PRODUCTS AS LISTS, ALTERNANTS in plain mathematics. Conditions: as each theorem states.
  MONOMIALS of a degree: what they are. Conditions: as each theorem states.
  ROWS as polynomials: plain mathematics. Conditions: as each theorem states.
  SUMS of polynomials, in plain mathematics. Conditions: as each theorem states.
  SUMS OF POLYNOMIALS in plain mathematics. Conditions: as each theorem states.
  WALKS: degrees. Conditions: as each theorem states.
  WALKS: 'spec.l01Times'. Conditions: as each theorem states.
  THE ALGEBRA OF PRODUCTS, in plain mathematics: they do not depend on the order; a number goes out of a product. Conditions: as each theorem states.
  TERMS OF A PRODUCT. Conditions: as each theorem states.
  SYMMETRIC FUNCTIONS of a list of polynomials, in plain mathematics: as both sides reckon them, one polynomial after the other. Conditions: as each theorem states.
  Marks by a function. Conditions: as each theorem states.
  SORTS of short lists of numbers, and lists turned round: slices.Sort, slices.Reverse. Conditions: as each theorem states.
  CYCLES of permutations: the program's walk; both functions. Conditions: as each theorem states.
  WALKS: slices.Clone at numbers. Conditions: as the theorem states.
  WALKS: alternants by the program: 'impl.signOf', 'impl.sumOfOrders' with signs, 'impl.alternant', 'impl.vandermonde'. Conditions: as each theorem states.
  WALKS: 'impl.alternant', 'impl.vandermonde'. Conditions: as each theorem states.
  WALKS: 'spec.l01Times' of polynomials other than 0. Conditions: as each theorem states.
  WALKS: 'spec.l01One'. Conditions: as each theorem states.
  A polynomial put into a box. Conditions: as each theorem states.
  WALKS: the Vandermonde polynomial by the model. Conditions: as each theorem states.
-/
import Derived.Test.YtphgpadpffigjaaVl
import Derived.Test.YtphgpadpffigjaaIsp
import Derived.Test.YtphgpadpffigjaaRza
import Derived.Test.YtphgpadpffigjaaSzg
import Derived.Test.YtphgpadpffigjaaA
import Derived.Lib.Hide
import Derived.Test.YtphgpadpffigjaaPl
import Derived.Test.YtphgpadpffigjaaE
import Derived.Test.YtphgpadpffigjaaG
import Derived.Test.YtphgpadpffigjaaPn
import Derived.Deep.DeepCutAuto
import Derived.Test.YtphgpadpffigjaaLa
import Derived.IntWalk
import Derived.Test.YtphgpadpffigjaaSye
import Derived.Test.YtphgpadpffigjaaSyf
import Derived.Test.YtphgpadpffigjaaSort
import Derived.Test.YtphgpadpffigjaaIns
import Derived.Test.YtphgpadpffigjaaLs2
import Derived.Test.YtphgpadpffigjaaBgc
import Derived.Test.YtphgpadpffigjaaTm
import Derived.Deep.RegionHeld3
import Derived.Deep.LoopGhost
namespace Go.Proofs.Ytphgpadpffigjaa
open Go.RowKit Go.Sort Go.Maps

def addE (a b : Int × Int × Int) : Int × Int × Int := (a.1 + b.1, a.2.1 + b.2.1, a.2.2 + b.2.2)
/-- The coefficients of a term times a list of terms. -/
def rowS (s : Tm) : List Tm → Int × Int × Int → Int
  | [], _ => 0
  | t :: r, e => (if addE (tmE s) (tmE t) = e then s.2.2.2 * t.2.2.2 else 0) + rowS s r e
def mulS : List Tm → List Tm → Int × Int × Int → Int
  | [], _, _ => 0
  | s :: r, ys, e => rowS s ys e + mulS r ys e
/-- The coefficients of the product. -/
def mulF (p : Int) (xs ys : List Tm) (e : Int × Int × Int) : Int := mulS xs ys e % p
theorem rowS_snoc (s t : Tm) (e : Int × Int × Int) : ∀ l : List Tm, rowS s (l ++ [t]) e = rowS s l e + if addE (tmE s) (tmE t) = e then s.2.2.2 * t.2.2.2 else 0
  | [] => by simp [rowS]
  | u :: r => by rw [List.cons_append, rowS, rowS, rowS_snoc s t e r, Int.add_assoc]
theorem mulS_snoc (s : Tm) (ys : List Tm) (e : Int × Int × Int) : ∀ l : List Tm, mulS (l ++ [s]) ys e = mulS l ys e + rowS s ys e
  | [] => by simp [mulS]
  | u :: r => by rw [List.cons_append, mulS, mulS, mulS_snoc s ys e r, Int.add_assoc]
theorem rowS_take (s : Tm) (ys : List Tm) (k : Nat) (h : k < ys.length) (e : Int × Int × Int) : rowS s (ys.take (k + 1)) e = rowS s (ys.take k) e + if addE (tmE s) (tmE ys[k]) = e then s.2.2.2 * ys[k].2.2.2 else 0 := by
  rw [List.take_succ_eq_append_getElem h, rowS_snoc]
theorem mulS_take (xs ys : List Tm) (k : Nat) (h : k < xs.length) (e : Int × Int × Int) : mulS (xs.take (k + 1)) ys e = mulS (xs.take k) ys e + rowS xs[k] ys e := by
  rw [List.take_succ_eq_append_getElem h, mulS_snoc]
/-- .. when i terms of the first have been taken, and k of the second with the next one. -/
def prt (p : Int) (xs ys : List Tm) (i : Nat) (s : Tm) (k : Nat) (e : Int × Int × Int) : Int := (mulS (xs.take i) ys e + rowS s (ys.take k) e) % p
theorem prt_zero (p : Int) (xs ys : List Tm) (i : Nat) (s : Tm) (e : Int × Int × Int) : prt p xs ys i s 0 e = mulF p (xs.take i) ys e := by
  simp [prt, rowS, mulF]
theorem prt_full (p : Int) (xs ys : List Tm) (i : Nat) (h : i < xs.length) (e : Int × Int × Int) : prt p xs ys i xs[i] ys.length e = mulF p (xs.take (i + 1)) ys e := by
  simp [prt, mulF, mulS_take xs ys i h, List.take_length]
theorem prt_step (p : Int) (xs ys : List Tm) (i : Nat) (s : Tm) (k : Nat) (h : k < ys.length) (e : Int × Int × Int) :
    prt p xs ys i s (k + 1) e = if e = addE (tmE s) (tmE ys[k]) then (s.2.2.2 * ys[k].2.2.2 + prt p xs ys i s k (addE (tmE s) (tmE ys[k]))) % p else prt p xs ys i s k e := by
  unfold prt
  rw [rowS_take s ys k h]
  by_cases hx : e = addE (tmE s) (tmE ys[k])
  · subst hx
    rw [if_pos rfl, if_pos rfl, ← Int.add_assoc, Int.add_comm, Int.add_emod, Int.emod_emod_of_dvd _ (Int.dvd_refl p) |>.symm]
    simp [Int.add_emod]
  · rw [if_neg hx, if_neg (fun hy => hx hy.symm), Int.add_zero]
theorem mulF_nil (p : Int) (ys : List Tm) (e : Int × Int × Int) : mulF p [] ys e = 0 := by simp [mulF, mulS]
theorem rowS_nil (s : Tm) (e : Int × Int × Int) : rowS s [] e = 0 := rfl
theorem mulS_nil (e : Int × Int × Int) : ∀ xs : List Tm, mulS xs [] e = 0
  | [] => rfl
  | s :: r => by rw [mulS, rowS_nil, mulS_nil e r]; rfl
theorem sum_addE (a b : Int × Int × Int) : (addE a b).1 + (addE a b).2.1 + (addE a b).2.2 = (a.1 + a.2.1 + a.2.2) + (b.1 + b.2.1 + b.2.2) := by unfold addE; simp only []; omega
theorem addE_mono {a b : Int × Int × Int} (ha : byte3 a) (hb : byte3 b) (h : (a.1 + a.2.1 + a.2.2) + (b.1 + b.2.1 + b.2.2) ≤ 12) : mono12 (addE a b) := by
  obtain ⟨⟨a1, a2⟩, ⟨a3, a4⟩, a5, a6⟩ := ha
  obtain ⟨⟨b1, b2⟩, ⟨b3, b4⟩, b5, b6⟩ := hb
  refine ⟨⟨⟨?_, ?_⟩, ⟨?_, ?_⟩, ?_, ?_⟩, ?_⟩ <;> simp only [addE] <;> omega

/-- The degrees of the terms allow the product. -/
def Fits (xs ys : List Tm) : Prop := ∀ s ∈ xs, ∀ t ∈ ys, (s.1 + s.2.1 + s.2.2.1) + (t.1 + t.2.1 + t.2.2.1) ≤ 12

theorem mul_ex {p d : Int} {xs ys : List Tm} (hV : Valid p d xs) (hV' : Valid p d ys) (h : Fits xs ys) : ∃ L, IsP p L (mulF p xs ys) := by
  have hp := hV.p2
  have row : ∀ i, (hi : i < xs.length) → (∃ O, IsP p O (mulF p (xs.take i) ys)) → ∀ k, k ≤ ys.length → ∃ O, IsP p O (prt p xs ys i xs[i] k) := fun i hi h0 k => by
    induction k with
    | zero => exact fun _ => h0.imp fun O hO => hO.congr fun e _ => (prt_zero p xs ys i xs[i] e).symm
    | succ k ih =>
      intro hk
      obtain ⟨O, hO⟩ := ih (by omega)
      have hlt : k < ys.length := by omega
      obtain ⟨⟨m1, _⟩, _⟩ := hV.mem xs[i] (List.getElem_mem _)
      obtain ⟨⟨m2, _⟩, _⟩ := hV'.mem ys[k] (List.getElem_mem _)
      exact ⟨_, (hO.put hp (e := addE (tmE xs[i]) (tmE ys[k])) (addE_mono m1 m2 (h _ (List.getElem_mem _) _ (List.getElem_mem _))) (xs[i].2.2.2 * ys[k].2.2.2)).congr fun e _ => (prt_step p xs ys i xs[i] k hlt e).symm⟩
  have key : ∀ i, i ≤ xs.length → ∃ O, IsP p O (mulF p (xs.take i) ys) := fun i => by
    induction i with
    | zero => exact fun _ => ⟨[], (IsP.nil p).congr fun e _ => by simp [mulF_nil]⟩
    | succ i ih =>
      intro hi
      have hlt : i < xs.length := by omega
      exact (row i hlt (ih (by omega)) ys.length (Nat.le_refl _)).imp fun O hO => hO.congr fun e _ => prt_full p xs ys i hlt e
  have := key xs.length (Nat.le_refl _)
  rwa [List.take_length] at this
end Go.Proofs.Ytphgpadpffigjaa
namespace Go.Proofs.Ytphgpadpffigjaa
open Go.RowKit Go.Sort EchM

/-- A mark at a place. -/
def mkS (s : Nat → Bool) (q : Nat) : Nat → Bool := fun j => if j = q then true else s j
/-- What a walk along a permutation marks, and how many steps it takes: at most f. -/
def walkC (l : List Int) : Nat → (Nat → Bool) → Nat → (Nat → Bool) × Nat
  | 0, s, _ => (s, 0)
  | f + 1, s, q => if s q then (s, 0) else ((walkC l f (mkS s q) (nth l q).toNat).1, (walkC l f (mkS s q) (nth l q).toNat).2 + 1)
theorem walkC_le (l : List Int) : ∀ f s q, (walkC l f s q).2 ≤ f
  | 0, _, _ => by simp [walkC]
  | f + 1, s, q => by
    rw [walkC]
    split
    · simp
    · have := walkC_le l f (mkS s q) (nth l q).toNat; simp; omega
/-- How many of the first n places are not marked. -/
def cntU (s : Nat → Bool) : Nat → Nat
  | 0 => 0
  | n + 1 => cntU s n + if s n then 0 else 1
theorem cntU_le (s : Nat → Bool) : ∀ n, cntU s n ≤ n
  | 0 => Nat.le_refl _
  | n + 1 => by have := cntU_le s n; simp only [cntU]; split <;> omega
theorem cntU_same {s : Nat → Bool} {q : Nat} : ∀ n, n ≤ q → cntU (mkS s q) n = cntU s n
  | 0, _ => rfl
  | n + 1, h => by
    simp only [cntU]
    rw [cntU_same n (by omega)]
    have : mkS s q n = s n := by simp [mkS]; omega
    rw [this]
theorem cntU_mk {s : Nat → Bool} {q : Nat} (hs : s q = false) : ∀ n, q < n → cntU (mkS s q) n + 1 = cntU s n
  | 0, h => by omega
  | n + 1, h => by
    simp only [cntU]
    by_cases e : q = n
    · subst e
      rw [cntU_same q (Nat.le_refl _), hs]
      simp [mkS]
    · have := cntU_mk hs n (by omega)
      have e2 : mkS s q n = s n := by simp [mkS]; omega
      rw [e2]
      omega
/-- The marks and the lengths found from the first k places. -/
def cyS (l : List Int) : Nat → (Nat → Bool) × List Int
  | 0 => (fun _ => false, [])
  | k + 1 => ((walkC l l.length (cyS l k).1 k).1, if 0 < (walkC l l.length (cyS l k).1 k).2 then (cyS l k).2 ++ [((walkC l l.length (cyS l k).1 k).2 : Int)] else (cyS l k).2)
theorem cyS_len (l : List Int) : ∀ k, (cyS l k).2.length ≤ k
  | 0 => by simp [cyS]
  | k + 1 => by
    have := cyS_len l k
    simp only [cyS]
    split
    · simp; omega
    · omega
theorem cyS_in (l : List Int) : ∀ k, ∀ x ∈ (cyS l k).2, 0 < x ∧ x ≤ l.length
  | 0 => by simp [cyS]
  | k + 1 => fun x hx => by
    simp only [cyS] at hx
    have hle := walkC_le l l.length (cyS l k).1 k
    split at hx
    · simp only [List.mem_append, List.mem_singleton] at hx
      rcases hx with hx | rfl
      · exact cyS_in l k x hx
      · omega
    · exact cyS_in l k x hx
/-- What a walk still has to do, from a place q with c steps behind it. -/
def WalkTo (l : List Int) (s0 : Nat → Bool) (st : Nat) (s : Nat → Bool) (q c : Nat) : Prop :=
  ∃ f, cntU s l.length ≤ f ∧ f + c ≤ l.length ∧ walkC l l.length s0 st = ((walkC l f s q).1, (walkC l f s q).2 + c)
theorem WalkTo.start (l : List Int) (s0 : Nat → Bool) (st : Nat) : WalkTo l s0 st s0 st 0 := ⟨l.length, cntU_le _ _, by omega, rfl⟩
theorem cntU_pos {s : Nat → Bool} {q : Nat} (hs : s q = false) : ∀ {n}, q < n → 0 < cntU s n
  | 0, h => by omega
  | n + 1, h => by
    simp only [cntU]
    by_cases e : q = n
    · subst e; rw [hs]; simp
    · have := cntU_pos hs (n := n) (by omega); omega
theorem WalkTo.next {l : List Int} {s0 s : Nat → Bool} {st q c : Nat} (h : WalkTo l s0 st s q c) (hs : s q = false) (hq : q < l.length) : WalkTo l s0 st (mkS s q) (nth l q).toNat (c + 1) ∧ c + 1 ≤ l.length := by
  obtain ⟨f, hf, hfc, he⟩ := h
  have h1 := cntU_mk hs l.length hq
  have h2 := cntU_pos hs hq
  obtain ⟨g, rfl⟩ : ∃ g, f = g + 1 := ⟨f - 1, by omega⟩
  refine ⟨⟨g, by omega, by omega, ?_⟩, by omega⟩
  rw [he, walkC, hs]
  simp
  omega
theorem WalkTo.done {l : List Int} {s0 s : Nat → Bool} {st q c : Nat} (h : WalkTo l s0 st s q c) (hs : s q = true) : walkC l l.length s0 st = (s, c) := by
  obtain ⟨f, _, _, he⟩ := h
  rw [he]
  cases f with
  | zero => simp [walkC]
  | succ f => rw [walkC, hs]; simp
theorem cyS_next {l : List Int} {k c : Nat} {s : Nat → Bool} (h : walkC l l.length (cyS l k).1 k = (s, c)) : cyS l (k + 1) = (s, if 0 < c then (cyS l k).2 ++ [(c : Int)] else (cyS l k).2) := by
  rw [cyS, h]

/-- A number put into a descending list, behind those that are not less. -/
def insD (c : Int) : List Int → List Int
  | [] => [c]
  | x :: r => if x < c then c :: x :: r else x :: insD c r
def Desc (l : List Int) : Prop := l.Pairwise fun a b => b ≤ a
theorem insD_perm (c : Int) : ∀ l, (insD c l).Perm (l ++ [c])
  | [] => List.Perm.refl _
  | x :: r => by
    rw [insD]
    split
    · exact (List.perm_append_singleton c (x :: r)).symm
    · exact (insD_perm c r).cons x
theorem insD_desc {c : Int} : ∀ {l}, Desc l → Desc (insD c l)
  | [], _ => by simp [insD, Desc]
  | x :: r, h => by
    rw [Desc, List.pairwise_cons] at h
    rw [insD]
    split
    · rename_i hx
      rw [Desc, List.pairwise_cons, List.pairwise_cons]
      refine ⟨fun y hy => ?_, h⟩
      simp only [List.mem_cons] at hy
      rcases hy with rfl | hy
      · omega
      · have := h.1 y hy; omega
    · rename_i hx
      rw [Desc, List.pairwise_cons]
      refine ⟨fun y hy => ?_, insD_desc h.2⟩
      have := (insD_perm c r).mem_iff.1 hy
      simp only [List.mem_append, List.mem_singleton] at this
      rcases this with hy | rfl
      · exact h.1 y hy
      · omega
theorem desc_unique {a b : List Int} (ha : Desc a) (hb : Desc b) (h : a.Perm b) : a = b :=
  List.Perm.eq_of_pairwise (le := fun a b => b ≤ a) (fun a b _ _ h1 h2 => by omega) ha hb h
theorem nth_c0 (x : Int) (r : List Int) : nth (x :: r) 0 = x := rfl
theorem nth_cs (x : Int) (r : List Int) (q : Nat) : nth (x :: r) (q + 1) = nth r q := by simp [nth]
theorem desc_nth {l : List Int} (h : Desc l) {a b : Nat} (hab : a ≤ b) (hb : b < l.length) : nth l b ≤ nth l a := by
  rw [nth_lt hb, nth_lt (by omega)]
  rcases Nat.lt_or_ge a b with h1 | h1
  · exact (List.pairwise_iff_getElem.1 h) a b (by omega) hb h1
  · have : a = b := by omega
    subst this
    exact Int.le_refl _
/-- The place of the insertion. -/
theorem insD_at (c : Int) : ∀ (l : List Int) (k : Nat), k ≤ l.length → (∀ q, q < l.length → k ≤ q → nth l q < c) → (∀ q, q < k → c ≤ nth l q) → insD c l = l.take k ++ c :: l.drop k
  | [], k, _, _, _ => by simp [insD]
  | x :: r, 0, _, h, _ => by
    have := h 0 (by simp) (by omega)
    rw [nth_c0] at this
    simp [insD, this]
  | x :: r, k + 1, hk, h, h2 => by
    have hx : ¬ x < c := by
      have h3 := h2 0 (by omega)
      rw [nth_c0] at h3
      omega
    rw [insD, if_neg hx, insD_at c r k (by simpa using hk) (fun q hq hkq => by have := h (q + 1) (by simpa using hq) (by omega); rwa [nth_cs] at this) (fun q hq => by
      have := h2 (q + 1) (by omega)
      rwa [nth_cs] at this)]
    simp
/-- The descending list of the lengths found from the first k places. -/
def cyD (l : List Int) : Nat → List Int
  | 0 => []
  | k + 1 => if 0 < (walkC l l.length (cyS l k).1 k).2 then insD ((walkC l l.length (cyS l k).1 k).2 : Int) (cyD l k) else cyD l k
theorem cyD_perm (l : List Int) : ∀ k, (cyD l k).Perm (cyS l k).2
  | 0 => List.Perm.refl _
  | k + 1 => by
    simp only [cyD, cyS]
    split
    · exact (insD_perm _ _).trans ((cyD_perm l k).append_right _)
    · exact cyD_perm l k
theorem cyD_desc (l : List Int) : ∀ k, Desc (cyD l k)
  | 0 => List.Pairwise.nil
  | k + 1 => by
    simp only [cyD]
    split
    · exact insD_desc (cyD_desc l k)
    · exact cyD_desc l k
theorem cyD_len (l : List Int) (k : Nat) : (cyD l k).length ≤ k := by
  rw [(cyD_perm l k).length_eq]; exact cyS_len l k
theorem cyD_in (l : List Int) (k : Nat) : ∀ x ∈ cyD l k, 0 < x ∧ x ≤ l.length := fun x hx => cyS_in l k x ((cyD_perm l k).mem_iff.1 hx)
theorem cyD_next {l : List Int} {k c : Nat} {s : Nat → Bool} (h : walkC l l.length (cyS l k).1 k = (s, c)) : cyD l (k + 1) = if 0 < c then insD (c : Int) (cyD l k) else cyD l k := by
  rw [cyD, h]
/-- The lengths, sorted, from behind. -/
theorem cyc_rev {l S : List Int} (hp : S.Perm (cyS l l.length).2) (hs : S.Pairwise fun a b => a ≤ b) : S.reverse = cyD l l.length :=
  desc_unique (by rw [Desc, List.pairwise_reverse]; exact hs) (cyD_desc l _) ((List.reverse_perm S).trans (hp.trans (cyD_perm l _).symm))
end Go.Proofs.Ytphgpadpffigjaa
namespace Go.Proofs.Ytphgpadpffigjaa
open Go.RowKit Go.Sort Go.Maps

/-- A product as a list, by putting one term after another. -/
def prodR (p : Int) (s : Tm) (ys O : List Tm) : List Tm := ys.foldl (fun O t => putL p O (addE (tmE s) (tmE t)) (s.2.2.2 * t.2.2.2)) O
def prodT (p : Int) (xs ys : List Tm) : List Tm := xs.foldl (fun O s => prodR p s ys O) []
theorem prodR_is {p : Int} (hp : 2 ≤ p) (s : Tm) : ∀ (ys O : List Tm) (g : Int × Int × Int → Int), (∀ t ∈ ys, mono12 (addE (tmE s) (tmE t))) → IsP p O g → IsP p (prodR p s ys O) (fun e => (g e + rowS s ys e) % p)
  | [], O, g, _, h => h.congr fun e he => by
    have := h.bound (by omega) he
    simp only [rowS, Int.add_zero]
    exact (Int.emod_eq_of_lt this.1 this.2).symm
  | t :: r, O, g, hm, h => by
    have h1 := prodR_is hp s r _ _ (fun u hu => hm u (by simp [hu])) (h.put hp (hm t (by simp)) (s.2.2.2 * t.2.2.2))
    refine h1.congr fun e _ => ?_
    simp only [rowS]
    by_cases he : e = addE (tmE s) (tmE t)
    · subst he
      rw [if_pos rfl, if_pos rfl]
      simp only [Int.emod_add_emod]
      congr 1
      omega
    · rw [if_neg he, if_neg (fun h => he h.symm), Int.zero_add]
theorem prodT_is {p : Int} (hp : 2 ≤ p) (ys : List Tm) : ∀ (xs O : List Tm) (g : Int × Int × Int → Int), (∀ s ∈ xs, ∀ t ∈ ys, mono12 (addE (tmE s) (tmE t))) → IsP p O g → IsP p (xs.foldl (fun O s => prodR p s ys O) O) (fun e => (g e + mulS xs ys e) % p)
  | [], O, g, _, h => h.congr fun e he => by
    have := h.bound (by omega) he
    simp only [mulS, Int.add_zero]
    exact (Int.emod_eq_of_lt this.1 this.2).symm
  | s :: r, O, g, hm, h => by
    have h1 := prodT_is hp ys r _ _ (fun u hu => hm u (by simp [hu])) (prodR_is hp s ys O g (hm s (by simp)) h)
    refine h1.congr fun e _ => ?_
    simp only [mulS, Int.emod_add_emod, Int.add_assoc]
theorem prodT_mul {p d d' : Int} {xs ys : List Tm} (hx : Valid p d xs) (hy : Valid p d' ys) (h : Fits xs ys) : IsP p (prodT p xs ys) (mulF p xs ys) :=
  (prodT_is hx.p2 ys xs [] _ (fun s hs t ht => addE_mono (hx.mem s hs).1.1 (hy.mem t ht).1.1 (h s hs t ht)) (IsP.nil p)).congr fun e _ => by simp [mulF]

/-- The last value that is told for a key. -/
def lastV : List ((Int × Int × Int) × Int) → Int × Int × Int → Int
  | [], _ => 0
  | (k, v) :: r, e => if r.any (fun q => decide (q.1 = e)) then lastV r e else if k = e then v else 0
theorem lastV_snoc (M : List ((Int × Int × Int) × Int)) (k : Int × Int × Int) (v : Int) (e : Int × Int × Int) : lastV (M ++ [(k, v)]) e = if e = k then v else lastV M e := by
  induction M with
  | nil =>
    by_cases h : e = k
    · subst h; simp [lastV]
    · simp [lastV, h, show ¬ k = e from fun x => h x.symm]
  | cons q M ih =>
    obtain ⟨k', v'⟩ := q
    rw [List.cons_append, lastV, ih]
    by_cases h : e = k
    · subst h; simp
    · have h' : ¬ k = e := fun x => h x.symm
      have : (M ++ [(k, v)]).any (fun q => decide (q.1 = e)) = M.any (fun q => decide (q.1 = e)) := by simp [h']
      rw [this, lastV, if_neg h, if_neg h]
/-- Puts at keys that are all different. -/
def putAll (p : Int) (M : List ((Int × Int × Int) × Int)) : List Tm := M.foldl (fun O q => putL p O q.1 q.2) []
theorem putAll_snoc (p : Int) (M : List ((Int × Int × Int) × Int)) (q : (Int × Int × Int) × Int) : putAll p (M ++ [q]) = putL p (putAll p M) q.1 q.2 := by simp [putAll]
theorem lastV_none : ∀ {M : List ((Int × Int × Int) × Int)} {e : Int × Int × Int}, e ∉ M.map (·.1) → lastV M e = 0
  | [], _, _ => rfl
  | (k, v) :: r, e, h => by
    simp only [List.map_cons, List.mem_cons, not_or] at h
    rw [lastV, if_neg, if_neg (fun x => h.1 x.symm)]
    simp only [List.any_eq_true, decide_eq_true_eq, not_exists, not_and]
    exact fun q hq he => h.2 (by rw [← he]; exact List.mem_map_of_mem hq)
theorem putAll_take {p : Int} (hp : 2 ≤ p) (M : List ((Int × Int × Int) × Int)) (hm : ∀ q ∈ M, mono12 q.1 ∧ 0 ≤ q.2 ∧ q.2 < p) (hn : (M.map (·.1)).Nodup) : ∀ k, k ≤ M.length → IsP p (putAll p (M.take k)) (lastV (M.take k))
  | 0, _ => by simpa [putAll, lastV] using (IsP.nil p)
  | k + 1, hk => by
    have h1 := putAll_take hp M hm hn k (by omega)
    have hlt : k < M.length := by omega
    have hq := hm _ (List.getElem_mem hlt)
    have hne : M[k].1 ∉ (M.take k).map (·.1) := fun h => by
      rw [List.map_take] at h
      obtain ⟨i, hi, he⟩ := List.mem_take_iff_getElem.1 h
      have hi' : i < k := by omega
      have hp2 := List.pairwise_iff_getElem.1 hn i k (by simp; omega) (by simpa using hlt) hi'
      simp at he hp2
      exact hp2 he
    rw [List.take_succ_eq_append_getElem hlt, putAll_snoc]
    refine (h1.put hp hq.1 M[k].2).congr fun e _ => ?_
    rw [show M[k] = (M[k].1, M[k].2) from rfl, lastV_snoc]
    by_cases he : e = M[k].1
    · rw [if_pos he, if_pos he, lastV_none hne, Int.add_zero]
      exact Int.emod_eq_of_lt hq.2.1 hq.2.2
    · rw [if_neg he, if_neg he]
theorem putAll_is {p : Int} (hp : 2 ≤ p) (M : List ((Int × Int × Int) × Int)) (hm : ∀ q ∈ M, mono12 q.1 ∧ 0 ≤ q.2 ∧ q.2 < p) (hn : (M.map (·.1)).Nodup) : IsP p (putAll p M) (lastV M) := by
  have := putAll_take hp M hm hn M.length (Nat.le_refl _)
  rwa [List.take_length] at this

/-- The sign of an order, by its cycles. -/
def sgnB (os : List Int) : Bool := ((os.length - (cyD os os.length).length) % 2 == 1)
theorem sgnB_is {d : Nat} (hd : 1 ≤ d ∧ d ≤ 3) {os : List Int} (ho : os ∈ ordL d (d ^ d)) : sgnB os = sgL os := by
  rcases ord_all hd ho with ⟨rfl, rfl⟩ | ⟨rfl, rfl | rfl⟩ | ⟨rfl, rfl | rfl | rfl | rfl | rfl | rfl⟩ <;> decide +kernel
def sgnV (p : Int) (os : List Int) : Int := if sgL os then p - 1 else 1
/-- An alternant: the orders' images with their signs. -/
def altM (p : Int) (es : List Int) (L : List (List Int)) : List ((Int × Int × Int) × Int) := L.map fun os => (keyO es os, sgnV p os)
/-- The Vandermonde polynomial, as the model makes it. -/
def ltE (i : Nat) : Int × Int × Int := if i = 0 then (1, 0, 0) else if i = 1 then (0, 1, 0) else (0, 0, 1)
def vdF (p : Int) (i j : Nat) : List Tm := putL p (putL p [] (ltE i) 1) (ltE j) (p - 1)
def vdT (p : Int) (d : Nat) : List Tm :=
  if d = 1 then putL p [] (0, 0, 0) 1 else if d = 2 then prodT p (putL p [] (0, 0, 0) 1) (vdF p 0 1)
  else prodT p (prodT p (prodT p (putL p [] (0, 0, 0) 1) (vdF p 0 1)) (vdF p 0 2)) (vdF p 1 2)
def vdE (d : Nat) : List Int := if d = 1 then [0] else if d = 2 then [1, 0] else [2, 1, 0]
theorem vd_same : ∀ p ∈ ([2, 3, 5, 7, 11, 13] : List Int), ∀ d ∈ ([1, 2, 3] : List Nat), putAll p (altM p (vdE d) (ordL d (d ^ d))) = vdT p d := by decide +kernel
theorem vd_nodup : ∀ p ∈ ([2, 3, 5, 7, 11, 13] : List Int), ∀ d ∈ ([1, 2, 3] : List Nat), ((altM p (vdE d) (ordL d (d ^ d))).map (·.1)).Nodup := by decide +kernel
end Go.Proofs.Ytphgpadpffigjaa
namespace Go.Proofs.Ytphgpadpffigjaa
open Go.RowKit Go.Sort

/-- The three cells of a monomial. -/
def cell3 (e : Int × Int × Int) : List Value := [.int .u8 e.1, .int .u8 e.2.1, .int .u8 e.2.2]
def cells3 (l : List (Int × Int × Int)) : List Value := l.flatMap cell3
theorem cells3_snoc (l : List (Int × Int × Int)) (e : Int × Int × Int) : cells3 (l ++ [e]) = cells3 l ++ cell3 e := by simp [cells3]
theorem cells3_length (l : List (Int × Int × Int)) : (cells3 l).length = 3 * l.length := by
  induction l with
  | nil => rfl
  | cons a l ih => simp only [cells3, List.flatMap_cons, List.length_append, List.length_cons] at ih ⊢; simp only [cell3, List.length_cons, List.length_nil]; omega

def pick (d x y z : Int) : List (Int × Int × Int) := if expsOk d x y z then [(x, y, z)] else []
def innerL (d : Int) (n s t : Nat) : List (Int × Int × Int) := (List.range t).flatMap fun (k : Nat) => pick d (n - s) (s - k) k
def outerL (d : Int) (n s : Nat) : List (Int × Int × Int) := (List.range s).flatMap fun k => innerL d n k (k + 1)
theorem innerL_zero (d : Int) (n s : Nat) : innerL d n s 0 = [] := rfl
theorem innerL_succ (d : Int) (n s t : Nat) : innerL d n s (t + 1) = innerL d n s t ++ pick d (n - s) (s - t) t := by simp [innerL, List.range_succ]
theorem outerL_succ (d : Int) (n s : Nat) : outerL d n (s + 1) = outerL d n s ++ innerL d n s (s + 1) := by simp [outerL, List.range_succ]
theorem pick_le (d x y z : Int) : (pick d x y z).length ≤ 1 := by unfold pick; split <;> simp
theorem innerL_le (d : Int) (n s t : Nat) : (innerL d n s t).length ≤ t := by
  induction t with
  | zero => simp [innerL_zero]
  | succ t ih => rw [innerL_succ, List.length_append]; have := pick_le d (n - s) (s - t) t; omega
theorem outerL_le (d : Int) (n s : Nat) : (outerL d n s).length ≤ s * s := by
  induction s with
  | zero => simp [outerL]
  | succ s ih => rw [outerL_succ, List.length_append]; have := innerL_le d n s (s + 1); simp only [Nat.mul_succ, Nat.succ_mul]; omega

theorem info52 : (Try.prog.info? 75).map (fun i => (i.zero, i.size, i.bytes)) = some (some (.agg #[.int .u8 0, .int .u8 0, .int .u8 0]), 3, 3) := by kernel_rfl

theorem owns_below {w w' : World} {base : Nat} {e : TypeId} {size : Nat} {v : Value} {n : Nat} {xs : List Value} (h : w.ownsRow base e size v n xs) (hb : Below w.heap.size w w') : w'.ownsRow base e size v n xs :=
  h.kept (row := none) ⟨hb.os, hb.tape, hb.output, hb.size, fun k hk _ => hb.block k hk⟩ (by cases v.ownBlock <;> simp)

/-- What a round that keeps the monomial does, away from the walk. -/
theorem round_keep {w wr w1 w2 : World} {o o' : Obj} {e : TypeId} {v v' : Value} {l : List (Int × Int × Int)} {x y z : Int} (hbel : Below w.heap.size w wr)
    (hown : wr.ownsRow w.heap.size e 3 v l.length (cells3 l)) (hb : Below (wr.alloc o).heap.size (wr.alloc o) w1)
    (hown2 : w2.ownsRow w.heap.size e 3 v' (l.length + 1) (cells3 l ++ [.int .u8 x, .int .u8 y, .int .u8 z])) (hg : (w1.alloc o').grownBy w2 v.ownBlock) :
    w2.ownsRow w.heap.size e 3 v' (l ++ [(x, y, z)]).length (cells3 (l ++ [(x, y, z)])) ∧ Below w.heap.size w w2 := by
  have hs := hbel.size
  have hs1 := hb.size
  simp only [World.size_alloc] at hs1
  refine ⟨by rw [cells3_snoc]; simpa [cell3] using hown2, ?_⟩
  exact ((((hbel.alloc hs _).trans (hb.mono (by simp; omega)))).alloc (by omega) _).grown hg (by simp; omega) (fun k hk => (hown.lt k hk).1)

theorem innerL_hit (d : Int) (n s t : Nat) (z : Int) (hz : z = t) (h : expsOk d (n - s) (s - t) z = true) : innerL d n s (t + 1) = innerL d n s t ++ [((n : Int) - s, (s : Int) - t, z)] := by
  subst hz; rw [innerL_succ]; simp [pick, h]
theorem innerL_miss (d : Int) (n s t : Nat) (z : Int) (hz : z = t) (h : expsOk d (n - s) (s - t) z = false) : innerL d n s (t + 1) = innerL d n s t := by
  subst hz; rw [innerL_succ]; simp [pick, h]
theorem round_skip {w wr w1 : World} {o : Obj} {e : TypeId} {v : Value} {l : List (Int × Int × Int)} (hbel : Below w.heap.size w wr)
    (hown : wr.ownsRow w.heap.size e 3 v l.length (cells3 l)) (hb : Below (wr.alloc o).heap.size (wr.alloc o) w1) :
    w1.ownsRow w.heap.size e 3 v l.length (cells3 l) ∧ Below w.heap.size w w1 := by
  have hs := hbel.size
  exact ⟨owns_below (hown.alloc _) hb, (hbel.alloc hs _).trans (hb.mono (by simp; omega))⟩

/-- Whether there is such a list; the list; the code. -/
def monB (d n : Int) : Bool := (decide (1 ≤ d) && decide (d ≤ 3)) && (decide (0 ≤ n) && decide (n ≤ 12))
def monL (d n : Int) : List (Int × Int × Int) := if monB d n then outerL d n.toNat (n.toNat + 1) else []
def monC (d n : Int) : Int := if monB d n then 0 else 2
theorem monL_le (d n : Int) : (monL d n).length ≤ 169 := by
  unfold monL
  split
  · rename_i h
    simp [monB] at h
    have h1 := outerL_le d n.toNat (n.toNat + 1)
    have h2 : (n.toNat + 1) * (n.toNat + 1) ≤ 13 * 13 := Nat.mul_le_mul (by omega) (by omega)
    omega
  · simp

theorem in_yes (n a b : Int) (w : World) (h1 : a ≤ n) (h2 : n ≤ b) : Calls Try.prog 52 #[.int .i64 n, .int .i64 a, .int .i64 b] w fun e w' => e = .returned (.bool true) ∧ w = w' :=
  (in_any n a b w).mono fun _ _ ⟨he, hw⟩ => ⟨by rw [he]; simp [h1, h2], hw⟩
theorem in_no (n a b : Int) (w : World) (h : n < a ∨ b < n) : Calls Try.prog 52 #[.int .i64 n, .int .i64 a, .int .i64 b] w fun e w' => e = .returned (.bool false) ∧ w = w' :=
  (in_any n a b w).mono fun _ _ ⟨he, hw⟩ => ⟨by rw [he]; congr 2; simp; omega, hw⟩

/-- What both functions promise. -/
def MonPost (d n : Int) (w : World) (e : Ending) (w' : World) : Prop :=
  ∃ v, e = .returned (.tuple #[v, .int .i64 (monC d n)]) ∧ w'.ownsRow w.heap.size 75 3 v (monL d n).length (cells3 (monL d n)) ∧ Below w.heap.size w w'

theorem vars_any (d : Int) (w : World) : Calls Try.prog 59 #[.int .i64 d] w fun e w' => e = .returned (.bool (decide (1 ≤ d) && decide (d ≤ 3))) ∧ w = w' := by
  by_cases h : 1 ≤ d
  all_goals
    go_enter Try.func59, Try.ntmps59
    go_wp2
    go_ret
    exact ⟨by simp; omega, rfl⟩
theorem degree_any (n : Int) (w : World) : Calls Try.prog 84 #[.int .i64 n] w fun e w' => e = .returned (.bool (decide (0 ≤ n) && decide (n ≤ 12))) ∧ w = w' := by
  by_cases h : 0 ≤ n
  all_goals
    go_enter Try.func84, Try.ntmps84
    go_wp2
    go_ret
    exact ⟨by simp; omega, rfl⟩
end Go.Proofs.Ytphgpadpffigjaa
namespace Go.Proofs.Ytphgpadpffigjaa

/-- The terms of a row: the monomials with the coefficients that are not 0. -/
def rT : List (Int × Int × Int) → List Int → List Tm
  | e :: M, x :: xs => if x = 0 then rT M xs else mkT e x :: rT M xs
  | [], _ => []
  | _ :: _, [] => []
theorem rT_mem : ∀ {M : List (Int × Int × Int)} {xs : List Int} {t : Tm}, t ∈ rT M xs → ∃ e ∈ M, ∃ x ∈ xs, x ≠ 0 ∧ t = mkT e x
  | [], _, _, h => by simp [rT] at h
  | _ :: _, [], _, h => by simp [rT] at h
  | e :: M, x :: xs, t, h => by
    unfold rT at h
    split at h
    · obtain ⟨e', h1, x', h2, h3⟩ := rT_mem h
      exact ⟨e', by simp [h1], x', by simp [h2], h3⟩
    · rename_i hx
      rcases List.mem_cons.1 h with rfl | h
      · exact ⟨e, by simp, x, by simp, hx, rfl⟩
      · obtain ⟨e', h1, x', h2, h3⟩ := rT_mem h
        exact ⟨e', by simp [h1], x', by simp [h2], h3⟩
theorem rT_snoc : ∀ (M : List (Int × Int × Int)) (xs : List Int) (e : Int × Int × Int) (x : Int), M.length = xs.length → rT (M ++ [e]) (xs ++ [x]) = rT M xs ++ (if x = 0 then [] else [mkT e x])
  | [], [], e, x, _ => by simp [rT]
  | [], _ :: _, _, _, h => by simp at h
  | _ :: _, [], _, _, h => by simp at h
  | a :: M, y :: xs, e, x, h => by
    have ih := rT_snoc M xs e x (by simpa using h)
    simp only [List.cons_append, rT]
    split
    · exact ih
    · rw [ih]; rfl
theorem rT_len : ∀ (M : List (Int × Int × Int)) (xs : List Int), (rT M xs).length ≤ M.length
  | [], _ => by simp [rT]
  | _ :: _, [] => by simp [rT]
  | e :: M, x :: xs => by
    have ih := rT_len M xs
    unfold rT
    split
    · simp; omega
    · simp; omega
theorem rT_take {M : List (Int × Int × Int)} {xs : List Int} {k : Nat} (h : M.length = xs.length) (hk : k < M.length) : rT (M.take (k + 1)) (xs.take (k + 1)) = rT (M.take k) (xs.take k) ++ (if xs[k]'(by omega) = 0 then [] else [mkT M[k] (xs[k]'(by omega))]) := by
  rw [List.take_succ_eq_append_getElem hk, List.take_succ_eq_append_getElem (l := xs) (by omega), rT_snoc _ _ _ _ (by simp [h])]
theorem rT_asc : ∀ {M : List (Int × Int × Int)} (xs : List Int), (M.Pairwise fun a b => beforeB a b = true) → Asc (rT M xs)
  | [], _, _ => by simp [rT, Asc]
  | _ :: _, [], _ => by simp [rT, Asc]
  | e :: M, x :: xs, h => by
    have ih := rT_asc xs (List.pairwise_cons.1 h).2
    unfold rT
    split
    · exact ih
    · refine List.pairwise_cons.2 ⟨fun t ht => ?_, ih⟩
      obtain ⟨e', h1, x', _, _, rfl⟩ := rT_mem ht
      exact (List.pairwise_cons.1 h).1 e' h1

theorem inner_mem {d : Int} {n s t : Nat} {e : Int × Int × Int} (h : e ∈ innerL d n s t) : ∃ k : Nat, k < t ∧ e = ((n : Int) - s, (s : Int) - k, (k : Int)) := by
  simp only [innerL, pick, List.mem_flatMap, List.mem_range] at h
  obtain ⟨k, hk, hp⟩ := h
  split at hp
  · exact ⟨k, hk, by simpa using hp⟩
  · simp at hp
theorem pick_mem {d x y z : Int} {e : Int × Int × Int} (h : e ∈ pick d x y z) : e = (x, y, z) := by
  unfold pick at h
  split at h
  · simpa using h
  · simp at h
theorem monL_asc (d n : Int) : (monL d n).Pairwise fun a b => beforeB a b = true := by
  unfold monL
  split
  · unfold outerL
    refine List.pairwise_flatMap.2 ⟨fun s hs => ?_, (List.pairwise_lt_range).imp fun {s s'} hlt e he e' he' => ?_⟩
    · unfold innerL
      refine List.pairwise_flatMap.2 ⟨fun k hk => ?_, (List.pairwise_lt_range).imp fun {k k'} hlt e he e' he' => ?_⟩
      · unfold pick
        split <;> simp
      · obtain rfl := pick_mem he
        obtain rfl := pick_mem he'
        unfold beforeB
        rw [if_pos (by dsimp only; omega), if_pos rfl]
        simp
        omega
    · obtain ⟨k, _, rfl⟩ := inner_mem he
      obtain ⟨k', _, rfl⟩ := inner_mem he'
      unfold beforeB
      rw [if_pos (by dsimp only; omega), if_neg (by dsimp only; omega)]
      simp
      omega
  · exact List.Pairwise.nil
theorem monL_one {d n : Int} (h : monB d n = true) : 1 ≤ (monL d n).length := by
  have h' := h
  simp [monB] at h'
  unfold monL
  rw [if_pos h]
  refine List.length_pos_of_mem (a := (n, 0, 0)) ?_
  simp only [outerL, innerL, pick, List.mem_flatMap, List.mem_range]
  refine ⟨0, by omega, 0, by omega, ?_⟩
  rw [if_pos (by simp [expsOk, tailOk]; omega)]
  simp
  omega
theorem monL_12 (d n : Int) : ∀ e ∈ monL d n, mono12 e := by
  unfold monL
  split
  · rename_i h
    simp [monB] at h
    intro e he
    simp only [outerL, List.mem_flatMap, List.mem_range] at he
    obtain ⟨s, hs, he⟩ := he
    obtain ⟨k, hk, rfl⟩ := inner_mem he
    refine ⟨⟨⟨?_, ?_⟩, ⟨?_, ?_⟩, ?_, ?_⟩, ?_⟩ <;> simp <;> omega
  · intro e he
    simp at he
theorem rT_is {p d n : Int} {xs : List Int} (h : ∀ x ∈ xs, 0 ≤ x ∧ x < p) : IsP p (rT (monL d n) xs) (atL (rT (monL d n) xs)) :=
  ⟨rT_asc xs (monL_asc d n), fun t ht => by
    obtain ⟨e, h1, x, h2, h3, rfl⟩ := rT_mem ht
    have := h x h2
    exact ⟨monL_12 d n e h1, by show 1 ≤ x; omega, by show x < p; omega⟩, fun _ _ => rfl⟩

/-- What a map says after numbers were put under monomials, one after another. -/
def gF (M : List (Int × Int × Int)) (xs : List Int) (pre : List (Fin M.length)) (e : Int × Int × Int) : Int := pre.foldl (fun c x => if e = M[x.1] then xs.getD x.1 0 else c) 0
theorem gF_nil (M : List (Int × Int × Int)) (xs : List Int) (e : Int × Int × Int) : gF M xs [] e = 0 := rfl
theorem gF_snoc (M : List (Int × Int × Int)) (xs : List Int) (pre : List (Fin M.length)) (x : Fin M.length) (e : Int × Int × Int) : gF M xs (pre ++ [x]) e = if e = M[x.1] then xs.getD x.1 0 else gF M xs pre e := by
  unfold gF; rw [List.foldl_append]; rfl
theorem gF_take {d n : Int} {xs : List Int} (hl : (monL d n).length = xs.length) (e : Int × Int × Int) : ∀ k, k ≤ (monL d n).length → gF (monL d n) xs ((List.finRange (monL d n).length).take k) e = atL (rT ((monL d n).take k) (xs.take k)) e
  | 0, _ => by simp [gF_nil, rT, atL]
  | k + 1, hk => by
    have ih := gF_take hl e k (by omega)
    have hlf : k < (List.finRange (monL d n).length).length := by simp; omega
    rw [List.take_succ_eq_append_getElem hlf, gF_snoc, rT_take hl (by omega), ih]
    have hx : xs.getD k 0 = xs[k]'(by omega) := by simp [List.getD, show k < xs.length by omega]
    have hnot : ∀ t ∈ rT ((monL d n).take k) (xs.take k), tmE t ≠ (monL d n)[k]'(by omega) := fun t ht => by
      obtain ⟨e', h1, x', _, _, rfl⟩ := rT_mem ht
      rw [tmE_mkT]
      obtain ⟨i, hi, rfl⟩ := List.mem_iff_getElem.1 h1
      rw [List.length_take] at hi
      rw [List.getElem_take]
      intro e
      have := List.pairwise_iff_getElem.1 (monL_asc d n) i k (by omega) (by omega) (by omega)
      rw [e] at this
      unfold beforeB at this
      simp at this
    simp only [List.getElem_finRange, Fin.val_cast]
    rw [hx]
    by_cases h0 : xs[k]'(by omega) = 0
    · rw [if_pos h0, h0, List.append_nil]
      split
      · rename_i he
        rw [he]
        exact (atL_none hnot).symm
      · rfl
    · rw [if_neg h0, atL_snoc (by rw [tmE_mkT]; exact hnot), tmE_mkT]
      by_cases he : e = (monL d n)[k]'(by omega)
      · rw [if_pos he, if_pos he.symm]; rfl
      · rw [if_neg he, if_neg (fun h => he h.symm)]
theorem gF_all {d n : Int} {xs : List Int} (hl : (monL d n).length = xs.length) (e : Int × Int × Int) : gF (monL d n) xs (List.finRange (monL d n).length) e = atL (rT (monL d n) xs) e := by
  have h := gF_take hl e (monL d n).length (Nat.le_refl _)
  rw [List.take_of_length_le (by simp), List.take_of_length_le (Nat.le_refl _), List.take_of_length_le (by omega)] at h
  exact h
end Go.Proofs.Ytphgpadpffigjaa
namespace Go.Proofs.Ytphgpadpffigjaa
open Go.RowKit Go.Sort Go.Maps

/-- The coefficients of x and k times y together. -/
def addF (p k : Int) (xs ys : List Tm) (e : Int × Int × Int) : Int := (atL xs e + k * atL ys e) % p
theorem plus_ex {p d k : Int} {xs : List Tm} (hP : ∃ f, IsP p xs f) (ys : List Tm) (hV : Valid p d ys) : ∃ L, IsP p L (addF p k xs ys) := by
  obtain ⟨f, hP⟩ := hP
  have hP0 : IsP p xs (atL xs) := ⟨hP.1, hP.2.1, fun _ _ => rfl⟩
  have key : ∀ i, i ≤ ys.length → ∃ O, IsP p O (addF p k xs (ys.take i)) := fun i => by
    induction i with
    | zero => exact fun _ => ⟨xs, hP0.congr fun e he => by
        have hp := hV.p2
        have := hP0.bound (by omega) he
        simp [addF, atL]; exact (Int.emod_eq_of_lt this.1 this.2).symm⟩
    | succ i ih =>
      intro hi
      obtain ⟨O, hO⟩ := ih (by omega)
      have hlt : i < ys.length := by omega
      obtain ⟨hm, _⟩ := hV.mem ys[i] (List.getElem_mem _)
      refine ⟨_, (hO.put hV.p2 (e := tmE ys[i]) hm (k * ys[i].2.2.2)).congr fun e _ => ?_⟩
      unfold addF
      rw [plus_step (p := p) (k := k) (f := atL xs) hV.asc i hlt e]
      by_cases hx : e = tmE ys[i]
      · rw [if_pos hx, if_pos hx, atL_take_new hV.asc i hlt]
        simp [Int.add_comm]
      · rw [if_neg hx, if_neg hx]
  have := key ys.length (Nat.le_refl _)
  rwa [List.take_length] at this
end Go.Proofs.Ytphgpadpffigjaa
namespace Go.Proofs.Ytphgpadpffigjaa
open Go.RowKit Go.Sort Go.Maps

/-- The coefficients of a sum. -/
def sumA : List (List Tm) → Int × Int × Int → Int
  | [], _ => 0
  | X :: r, e => atL X e + sumA r e
def sumK (p k : Int) (Ls : List (List Tm)) (e : Int × Int × Int) : Int := k * sumA Ls e % p
theorem sumA_snoc (X : List Tm) (e : Int × Int × Int) : ∀ l : List (List Tm), sumA (l ++ [X]) e = sumA l e + atL X e
  | [] => by simp [sumA]
  | Y :: r => by rw [List.cons_append, sumA, sumA, sumA_snoc X e r, Int.add_assoc]
theorem sumK_nil (p k : Int) (e : Int × Int × Int) : sumK p k [] e = 0 := by simp [sumK, sumA]
theorem sumK_snoc (p k : Int) (X : List Tm) (l : List (List Tm)) (e : Int × Int × Int) : (sumK p k l e + k * atL X e) % p = sumK p k (l ++ [X]) e := by
  unfold sumK
  rw [sumA_snoc, Int.mul_add, Int.add_emod (k * sumA l e) (k * atL X e) p, Int.add_emod (k * sumA l e % p) (k * atL X e) p, Int.emod_emod_of_dvd _ (Int.dvd_refl p)]
theorem sumK_bound {p k : Int} (hp : 2 ≤ p) (Ls : List (List Tm)) (e : Int × Int × Int) : 0 ≤ sumK p k Ls e ∧ sumK p k Ls e < p := ⟨Int.emod_nonneg _ (by omega), Int.emod_lt_of_pos _ (by omega)⟩
theorem atL_ne_memF {L : List Tm} {e : Int × Int × Int} (h : atL L e ≠ 0) : ∃ t ∈ L, tmE t = e :=
  Classical.byContradiction fun hn => h (atL_none fun t ht hx => hn ⟨t, ht, hx⟩)
theorem sumA_ne {e : Int × Int × Int} : ∀ {Ls : List (List Tm)}, sumA Ls e ≠ 0 → ∃ X ∈ Ls, atL X e ≠ 0
  | [], h => by simp [sumA] at h
  | X :: r, h => by
    by_cases h0 : atL X e = 0
    · rw [sumA, h0, Int.zero_add] at h
      obtain ⟨Y, hY, h1⟩ := sumA_ne h
      exact ⟨Y, by simp [hY], h1⟩
    · exact ⟨X, by simp, h0⟩
theorem sumK_deg {p d k : Int} {Ls : List (List Tm)} (hV : ∀ X ∈ Ls, Valid p d X) {e : Int × Int × Int} (h : sumK p k Ls e ≠ 0) : e.1 + e.2.1 + e.2.2 ≤ 12 := by
  have h1 : sumA Ls e ≠ 0 := fun h0 => h (by unfold sumK; rw [h0]; simp)
  obtain ⟨X, hX, h2⟩ := sumA_ne h1
  obtain ⟨t, ht, rfl⟩ := atL_ne_memF h2
  exact ((hV X hX).mem t ht).1.2
theorem isP_valid {p d : Int} {L : List Tm} {f : Int × Int × Int → Int} (h : IsP p L f) (p2 : 2 ≤ p) (p13 : p ≤ 13) (d1 : 1 ≤ d) (d3 : d ≤ 3) : Valid p d L := ⟨p2, p13, d1, d3, h.1, fun t ht => h.2.1 t ht⟩
theorem sum_ex {p d k : Int} (hp : 2 ≤ p) : ∀ (n : Nat) (Ls : List (List Tm)), Ls.length = n → (∀ X ∈ Ls, Valid p d X) → ∃ O, IsP p O (sumK p k Ls)
  | 0, Ls, h, _ => by
    have : Ls = [] := List.eq_nil_of_length_eq_zero h
    subst this
    exact ⟨[], (IsP.nil p).congr fun e _ => (sumK_nil p k e).symm⟩
  | n + 1, Ls, h, hV => by
    have hne : Ls ≠ [] := fun e => by rw [e] at h; simp at h
    obtain ⟨l, X, rfl⟩ : ∃ l X, Ls = l ++ [X] := ⟨_, _, (List.dropLast_concat_getLast hne).symm⟩
    obtain ⟨O, hO⟩ := sum_ex hp n l (by simpa using h) (fun Y hY => hV Y (by simp [hY]))
    obtain ⟨O', hO'⟩ := plus_ex (k := k) (xs := O) ⟨_, hO⟩ X (hV X (by simp))
    exact ⟨O', hO'.congr fun e he => by unfold addF; rw [hO.2.2 e he]; exact sumK_snoc p k X l e⟩
end Go.Proofs.Ytphgpadpffigjaa
namespace Go.Proofs.Ytphgpadpffigjaa
open Go.RowKit Go.Sort

def sumT (t : Tm) : Int := t.1 + t.2.1 + t.2.2.1
def degI (ts : List Tm) : Int := match ts.getLast? with | none => -1 | some t => sumT t
def evenB (ts : List Tm) : Bool := match ts with | [] => true | t :: r => sumT t == degI (t :: r)

theorem chain_sum {p d : Int} : ∀ (ts : List Tm) (o : Option Tm), chain p d o ts = true → ∀ t ∈ ts, sumT t ≤ 12
  | [], _, _, t, ht => by simp at ht
  | a :: r, o, h, t, ht => by
    simp only [chain, Bool.and_eq_true] at h
    rcases List.mem_cons.1 ht with rfl | ht
    · exact termOk_sum h.1
    · exact chain_sum r _ h.2.2 t ht
theorem polyB_sum {p d : Int} {ts : List Tm} (h : isPolyB p d ts = true) : ∀ t ∈ ts, sumT t ≤ 12 := by
  simp only [isPolyB, Bool.and_eq_true] at h
  have := h.2.2
  unfold tailB at this
  exact chain_sum _ _ (by simpa using this)

set_option maxHeartbeats 1000000 in
theorem specDegree_some (p d : Int) (b off cap n : Nat) (x y z : Int) (w : World) (hn : n ≤ 1048576) (hb : b < w.heap.size) (hx : 0 ≤ x ∧ x ≤ 255) (hy : 0 ≤ y ∧ y ≤ 255) (hz : 0 ≤ z ∧ z ≤ 255)
    (c0 : w.cell? ⟨b, off + n * 4, none⟩ = some (.int .u8 x)) (c1 : w.cell? ⟨b, off + n * 4 + 1, none⟩ = some (.int .u8 y)) (c2 : w.cell? ⟨b, off + n * 4 + 2, none⟩ = some (.int .u8 z)) :
    Calls Try.prog 43 #[.agg #[.int .i64 p, .int .i64 d, .slice (some ⟨b, off, none⟩) (n + 1) cap]] w fun e w' => e = .returned (.int .i64 (x + y + z)) ∧ Below w.heap.size w w' := by
  have h0 : ((n : Int) + 1 == 0) = false := by simp; omega
  go_enter Try.func43, Try.ntmps43
  go_wp2_with fail
  ((with_reducible refine (sum_any x y z _ hx hy hz).mono ?_); rintro e w1 ⟨rfl, hb1⟩)
  go_wp2
  go_ret
  exact ⟨rfl, (box1 _ _).trans (hb1.mono (by simp))⟩

set_option maxHeartbeats 1000000 in
theorem degree_some (p d : Int) (b off cap n : Nat) (x y z : Int) (w : World) (hn : n ≤ 1048576) (hb : b < w.heap.size) (hx : 0 ≤ x ∧ x ≤ 255) (hy : 0 ≤ y ∧ y ≤ 255) (hz : 0 ≤ z ∧ z ≤ 255)
    (c0 : w.cell? ⟨b, off + n * 4, none⟩ = some (.int .u8 x)) (c1 : w.cell? ⟨b, off + n * 4 + 1, none⟩ = some (.int .u8 y)) (c2 : w.cell? ⟨b, off + n * 4 + 2, none⟩ = some (.int .u8 z)) :
    Calls Try.prog 86 #[.agg #[.int .i64 p, .int .i64 d, .slice (some ⟨b, off, none⟩) (n + 1) cap]] w fun e w' => e = .returned (.int .i64 (capd (x + y + z))) ∧ Below w.heap.size w w' := by
  have h0 : ((n : Int) + 1 == 0) = false := by simp; omega
  have k : ∀ o, (w.alloc o).cell? ⟨b, off + n * 4, none⟩ = some (.int .u8 x) ∧ (w.alloc o).cell? ⟨b, off + n * 4 + 1, none⟩ = some (.int .u8 y) ∧ (w.alloc o).cell? ⟨b, off + n * 4 + 2, none⟩ = some (.int .u8 z) := fun o =>
    ⟨((box1 w o).cell (p := ⟨b, _, none⟩) hb).trans c0, ((box1 w o).cell (p := ⟨b, _, none⟩) hb).trans c1, ((box1 w o).cell (p := ⟨b, _, none⟩) hb).trans c2⟩
  have K := Lib.hid k
  clear k
  go_enter Try.func86, Try.ntmps86
  go_wp2_with fail
  ((with_reducible refine (capped_any _ _ _ x y z _ hx hy hz (K.out _).1 (K.out _).2.1 (K.out _).2.2).mono ?_); rintro e w1 ⟨rfl, rfl⟩)
  go_wp2
  go_ret
  exact ⟨rfl, box1 _ _⟩

theorem specDegree_nil (p d : Int) (a : Option Addr) (cap : Nat) (w : World) :
    Calls Try.prog 43 #[.agg #[.int .i64 p, .int .i64 d, .slice a 0 cap]] w fun e w' => e = .returned (.int .i64 (-1)) ∧ Below w.heap.size w w' := by
  go_enter Try.func43, Try.ntmps43
  go_wp2
  go_ret
  exact ⟨rfl, box1 _ _⟩
theorem degree_nil (p d : Int) (a : Option Addr) (cap : Nat) (w : World) :
    Calls Try.prog 86 #[.agg #[.int .i64 p, .int .i64 d, .slice a 0 cap]] w fun e w' => e = .returned (.int .i64 (-1)) ∧ Below w.heap.size w w' := by
  go_enter Try.func86, Try.ntmps86
  go_wp2
  go_ret
  exact ⟨rfl, box1 _ _⟩

theorem degI_at (ts : List Tm) (n : Nat) (t : Tm) (h : ts.length = n + 1) (ht : ts[n]? = some t) : degI ts = sumT t := by
  unfold degI
  have : ts.getLast? = some t := by
    rw [List.getLast?_eq_getElem?, h]; simpa using ht
  rw [this]

theorem specDegree_any (p d : Int) (v : Value) (ts : List Tm) (w : World) (hl : ts.length ≤ 1048576) (hS : SliceT w v ts) (hby : ∀ t ∈ ts, tmByte t) :
    Calls Try.prog 43 #[.agg #[.int .i64 p, .int .i64 d, v]] w fun e w' => e = .returned (.int .i64 (degI ts)) ∧ Below w.heap.size w w' := by
  obtain ⟨a, cap, rfl, h⟩ := hS
  by_cases h0 : ts = []
  · subst h0; exact specDegree_nil p d a cap w
  · rcases h with h | ⟨b, off, rfl, hlt, hT⟩
    · exact absurd h h0
    · obtain ⟨n, hn⟩ : ∃ n, ts.length = n + 1 := ⟨ts.length - 1, by have := List.length_pos_iff.2 h0; omega⟩
      have hnl : n < ts.length := by omega
      obtain ⟨c0, c1, c2, _⟩ := hT n hnl
      obtain ⟨⟨bx, by1, bz⟩, _⟩ := hby _ (List.getElem_mem hnl)
      have hd := degI_at ts n _ hn (List.getElem?_eq_getElem hnl)
      generalize ts[n] = t at *
      rw [hd, hn]
      exact specDegree_some p d b off cap n _ _ _ w (by omega) hlt bx by1 bz c0 c1 c2
theorem degree_any2 (p d : Int) (v : Value) (ts : List Tm) (w : World) (hl : ts.length ≤ 1048576) (hS : SliceT w v ts) (hby : ∀ t ∈ ts, tmByte t) (hs : ∀ t ∈ ts, sumT t ≤ 12) :
    Calls Try.prog 86 #[.agg #[.int .i64 p, .int .i64 d, v]] w fun e w' => e = .returned (.int .i64 (degI ts)) ∧ Below w.heap.size w w' := by
  obtain ⟨a, cap, rfl, h⟩ := hS
  by_cases h0 : ts = []
  · subst h0; exact degree_nil p d a cap w
  · rcases h with h | ⟨b, off, rfl, hlt, hT⟩
    · exact absurd h h0
    · obtain ⟨n, hn⟩ : ∃ n, ts.length = n + 1 := ⟨ts.length - 1, by have := List.length_pos_iff.2 h0; omega⟩
      have hnl : n < ts.length := by omega
      obtain ⟨c0, c1, c2, _⟩ := hT n hnl
      obtain ⟨⟨bx, by1, bz⟩, _⟩ := hby _ (List.getElem_mem hnl)
      have hd := degI_at ts n _ hn (List.getElem?_eq_getElem hnl)
      have hc := hs _ (List.getElem_mem hnl)
      generalize ts[n] = t at *
      have hc' : capd (sumT t) = sumT t := by unfold capd; rw [if_pos hc]
      rw [hd, ← hc', hn]
      exact degree_some p d b off cap n _ _ _ w (by omega) hlt bx by1 bz c0 c1 c2

end Go.Proofs.Ytphgpadpffigjaa
namespace Go.Proofs.Ytphgpadpffigjaa
open Go.RowKit Go.Sort Go.Maps

theorem before_sum {a b : Int × Int × Int} (h : beforeB a b = true) : a.1 + a.2.1 + a.2.2 ≤ b.1 + b.2.1 + b.2.2 := by
  obtain ⟨x, y, z⟩ := a
  obtain ⟨x', y', z'⟩ := b
  unfold beforeB at h
  simp at h
  split at h
  · simp only []; omega
  · simp only []; omega
/-- The degrees of all terms are at most that of the last one. -/
theorem deg_le {p d : Int} {ts : List Tm} (h : Valid p d ts) : ∀ t ∈ ts, t.1 + t.2.1 + t.2.2.1 ≤ degI ts := by
  intro t ht
  unfold degI
  cases hl : ts.getLast? with
  | none => rw [List.getLast?_eq_none_iff] at hl; subst hl; simp at ht
  | some u =>
    obtain ⟨pre, rfl⟩ := List.getLast?_eq_some_iff.1 hl
    have hp := List.pairwise_append.1 h.asc
    rcases List.mem_append.1 ht with ht | ht
    · exact before_sum (hp.2.2 t ht u (by simp))
    · simp at ht
      subst ht
      exact Int.le_refl _
theorem fits_of {p d : Int} {xs ys : List Tm} (h : Valid p d xs) (h' : Valid p d ys) (hd : xs = [] ∨ ys = [] ∨ degI xs + degI ys ≤ 12) : Fits xs ys := by
  intro s hs t ht
  rcases hd with rfl | rfl | hd
  · simp at hs
  · simp at ht
  · have h1 := deg_le h s hs
    have h2 := deg_le h' t ht
    omega
theorem deg_bound {p d : Int} {ts : List Tm} (h : Valid p d ts) : -1 ≤ degI ts ∧ degI ts ≤ 12 := by
  unfold degI
  cases hl : ts.getLast? with
  | none => simp
  | some u =>
    simp only [sumT]
    obtain ⟨⟨⟨a, b, c⟩, e⟩, _⟩ := h.mem u (List.mem_of_getLast? hl)
    simp only [tmE] at a b c
    omega
theorem Valid.byte {p d : Int} {ts : List Tm} (h : Valid p d ts) : ∀ t ∈ ts, tmByte t := by
  have := h.p13
  exact h.isP.byte this

set_option maxRecDepth 8000 in
set_option maxHeartbeats 8000000 in
theorem specTimes_nil (p d : Int) (v v' : Value) (xs ys : List Tm) (w : World) (hS : SliceT w v xs) (hS' : SliceT w v' ys) (hl : xs.length ≤ 1048576) (hl' : ys.length ≤ 1048576) (h0 : xs = [] ∨ ys = []) :
    Calls Try.prog 56 #[.agg #[.int .i64 p, .int .i64 d, v], .agg #[.int .i64 p, .int .i64 d, v']] w fun e w' =>
      ∃ v', e = .returned (.tuple #[.agg #[.int .i64 p, .int .i64 d, v'], .bool true]) ∧ OwnP w' w.heap.size v' [] ∧ Below w.heap.size w w' := by
  obtain ⟨a, cap, rfl, _⟩ := id hS
  obtain ⟨a', cap', rfl, _⟩ := id hS'
  obtain ⟨W, hW, hbW, ⟨hWs1, hWs2⟩, rx, ry, rr⟩ := pair3 w p d (.slice a xs.length cap) p d (.slice a' ys.length cap')
  obtain ⟨⟨c0, c1, c2⟩, _⟩ := poly3 rx
  go_enter Try.func56, Try.ntmps56
  go_wp2_with fail
  rw [← hW]
  clear hW c0 c1 c2
  ((with_reducible refine (empty_any p d W).mono ?_); rintro e w1 ⟨rfl, hown, hb1⟩)
  obtain ⟨V, hV1, hbV, ⟨hVs1, hVs2⟩, rq⟩ : ∃ V, V = w1.alloc (.cells #[.int .i64 p, .int .i64 d, .slice (some ⟨W.heap.size + 1, 0, none⟩) 0 0] 36) ∧ Below w1.heap.size w1 V ∧ (V.heap.size ≤ w1.heap.size + 1 ∧ w1.heap.size + 1 ≤ V.heap.size) ∧
      V.rowIs w1.heap.size 36 3 (polyF p d (.slice (some ⟨W.heap.size + 1, 0, none⟩) 0 0)) := by
    refine ⟨_, rfl, box1 _ _, ⟨by simp, by simp⟩, ?_⟩
    exact World.rowIs_alloc w1 #[Value.int .i64 p, .int .i64 d, .slice (some ⟨W.heap.size + 1, 0, none⟩) 0 0] _ _ (fun i hi => by simp at hi; match i, hi with | 0, _ => rfl | 1, _ => rfl | 2, _ => rfl)
  have s1 := hb1.size
  have hbWV := hb1.trans (hbV.mono hb1.size)
  have hst : Part2 w V W.heap.size w1.heap.size w.heap.size (w.heap.size + 1) (w.heap.size + 2) p d p d (.slice a xs.length cap) (.slice a' ys.length cap') (.slice (some ⟨W.heap.size + 1, 0, none⟩) 0 0) [] :=
    ⟨⟨owns_belowT hown hbV, rq, rowIs_below rx hbWV rx.lt, rowIs_below rr hbWV rr.lt, hbW.trans (hbWV.mono hbW.size), by omega, by omega, by omega, by omega, by omega, by omega⟩, rowIs_below ry hbWV ry.lt, by omega⟩
  have rx1 := rowIs_below rx hb1 rx.lt
  have ry1 := rowIs_below ry hb1 ry.lt
  have rr1 := rowIs_below rr hb1 rr.lt
  have xo : ∀ o, (w1.alloc o).cell? ⟨w.heap.size, 2, none⟩ = some (.slice a xs.length cap) := fun o => ((box1 w1 o).cell rx1.lt).trans (poly3 rx1).1.2.2
  have yo : ∀ o, (w1.alloc o).cell? ⟨w.heap.size + 1, 2, none⟩ = some (.slice a' ys.length cap') := fun o => ((box1 w1 o).cell ry1.lt).trans (poly3 ry1).1.2.2
  obtain ⟨⟨r0, r1, r2⟩, y0, y1, y2⟩ := poly3 hst.part.res
  obtain ⟨⟨q0, q1, q2⟩, _⟩ := poly3 hst.part.out
  obtain ⟨a0, a1, a2, a3, a4⟩ := hst.part.finish p d
  have A0 := Lib.hid a0
  have A1 := Lib.hid a1
  have A2 := Lib.hid a2
  have A3 := Lib.hid a3
  have A4 := Lib.hid a4
  have ro : ∀ o, ((w1.alloc o).cell? ⟨w.heap.size + 2, 0, none⟩ = some (.int .i64 0) ∧ (w1.alloc o).cell? ⟨w.heap.size + 2, 1, none⟩ = some (.int .i64 0) ∧ (w1.alloc o).cell? ⟨w.heap.size + 2, 2, none⟩ = some (.slice none 0 0)) ∧ (w1.alloc o).frozen? ⟨w.heap.size + 2, 0, none⟩ = false ∧ (w1.alloc o).frozen? ⟨w.heap.size + 2, 1, none⟩ = false ∧ (w1.alloc o).frozen? ⟨w.heap.size + 2, 2, none⟩ = false := fun o => poly3 (rowIs_below rr1 (box1 _ o) rr1.lt)
  clear a0 a1 a2 a3 a4 rx ry rr rq hown hst rx1 ry1 rr1
  by_cases hx : xs = []
  · subst hx
    have hz : (([] : List Tm).length : Int) = 0 := rfl
    go_wp2_with fail
    rw [← hV1]
    exact bodyPost_ret (v := .tuple #[.agg #[.int .i64 p, .int .i64 d, .slice (some ⟨W.heap.size + 1, 0, none⟩) 0 0], .bool true]) (by simp [results, Try.results56, go_sem, A0.out, A1.out, A2.out]) rfl ⟨_, rfl, A3.out, A4.out⟩
  · have hy : ys = [] := by rcases h0 with h | h; exact absurd h hx; exact h
    subst hy
    have hz : ((xs.length : Int) == 0) = false := by simpa using hx
    have hz' : (([] : List Tm).length : Int) = 0 := rfl
    go_wp2_with fail
    rw [← hV1]
    exact bodyPost_ret (v := .tuple #[.agg #[.int .i64 p, .int .i64 d, .slice (some ⟨W.heap.size + 1, 0, none⟩) 0 0], .bool true]) (by simp [results, Try.results56, go_sem, A0.out, A1.out, A2.out]) rfl ⟨_, rfl, A3.out, A4.out⟩
end Go.Proofs.Ytphgpadpffigjaa
namespace Go.Proofs.Ytphgpadpffigjaa
open Go.RowKit Go.Sort Go.Maps

theorem addE_comm (a b : Int × Int × Int) : addE a b = addE b a := by simp [addE, Int.add_comm]
theorem mulS_right (t : Tm) (r : List Tm) (e : Int × Int × Int) : ∀ xs : List Tm, mulS xs (t :: r) e = rowS t xs e + mulS xs r e
  | [] => by simp [mulS, rowS]
  | s :: q => by
    rw [mulS, mulS, mulS_right t r e q, rowS, rowS, addE_comm, Int.mul_comm s.2.2.2]
    omega
/-- Products do not depend on the order. -/
theorem mulS_comm (e : Int × Int × Int) (xs : List Tm) : ∀ ys : List Tm, mulS xs ys e = mulS ys xs e
  | [] => by rw [mulS_nil]; rfl
  | t :: r => by rw [mulS_right, mulS_comm e xs r]; rfl
theorem mulF_comm (p : Int) (xs ys : List Tm) (e : Int × Int × Int) : mulF p xs ys e = mulF p ys xs e := by rw [mulF, mulF, mulS_comm]

def subE (a b : Int × Int × Int) : Int × Int × Int := (a.1 - b.1, a.2.1 - b.2.1, a.2.2 - b.2.2)
theorem addE_sub {a b e : Int × Int × Int} : addE a b = e ↔ a = subE e b := by
  obtain ⟨a1, a2, a3⟩ := a
  obtain ⟨b1, b2, b3⟩ := b
  obtain ⟨e1, e2, e3⟩ := e
  simp [addE, subE]
  omega
/-- The coefficients of a product, told by the coefficients of the first factor. -/
def colS (f : Int × Int × Int → Int) : List Tm → Int × Int × Int → Int
  | [], _ => 0
  | t :: r, e => f (subE e (tmE t)) * t.2.2.2 + colS f r e
theorem colS_add (f g : Int × Int × Int → Int) (e : Int × Int × Int) : ∀ ys : List Tm, colS (fun a => f a + g a) ys e = colS f ys e + colS g ys e
  | [] => by simp [colS]
  | t :: r => by rw [colS, colS, colS, colS_add f g e r, Int.add_mul]; omega
theorem colS_zero (e : Int × Int × Int) : ∀ ys : List Tm, colS (fun _ => 0) ys e = 0
  | [] => rfl
  | t :: r => by rw [colS, colS_zero e r]; simp
theorem colS_congr {f g : Int × Int × Int → Int} (h : ∀ a, f a = g a) (e : Int × Int × Int) : ∀ ys : List Tm, colS f ys e = colS g ys e
  | [] => rfl
  | t :: r => by rw [colS, colS, h, colS_congr h e r]
theorem rowS_col (s : Tm) (e : Int × Int × Int) : ∀ ys : List Tm, rowS s ys e = colS (fun a => if tmE s = a then s.2.2.2 else 0) ys e
  | [] => rfl
  | t :: r => by
    rw [rowS, colS, rowS_col s e r]
    by_cases h : addE (tmE s) (tmE t) = e
    · rw [if_pos h, if_pos (addE_sub.1 h)]
    · rw [if_neg h, if_neg (fun h' => h (addE_sub.2 h'))]; simp
theorem atL_cons {s : Tm} {r : List Tm} (h : Asc (s :: r)) (a : Int × Int × Int) : atL (s :: r) a = (if tmE s = a then s.2.2.2 else 0) + atL r a := by
  rw [atL]
  by_cases hx : tmE s = a
  · subst hx
    rw [if_pos rfl, if_pos rfl, atL_none (ts := r) (fun t ht hx => before_ne ((List.pairwise_cons.1 h).1 t ht) hx.symm)]
    simp
  · rw [if_neg hx, if_neg hx, Int.zero_add]
theorem mulS_col (ys : List Tm) (e : Int × Int × Int) : ∀ {xs : List Tm}, Asc xs → mulS xs ys e = colS (atL xs) ys e
  | [], _ => (colS_zero e ys).symm
  | s :: r, h => by
    rw [mulS, mulS_col ys e (List.pairwise_cons.1 h).2, rowS_col, ← colS_add]
    exact colS_congr (fun a => (atL_cons h a).symm) e ys
theorem colS_mod (p : Int) (f : Int × Int × Int → Int) (e : Int × Int × Int) : ∀ ys : List Tm, colS (fun a => f a % p) ys e % p = colS f ys e % p
  | [] => rfl
  | t :: r => by
    rw [colS, colS, Int.add_emod, colS_mod p f e r, ← Int.add_emod_emod, Int.mul_emod, Int.emod_emod_of_dvd _ (Int.dvd_refl p), ← Int.mul_emod, ← Int.add_emod_emod]
    simp [Int.add_emod]
theorem colS_scale (v : Int) (f : Int × Int × Int → Int) (e : Int × Int × Int) : ∀ ys : List Tm, colS (fun a => v * f a) ys e = v * colS f ys e
  | [] => by simp [colS]
  | t :: r => by rw [colS, colS, colS_scale v f e r, Int.mul_add, Int.mul_assoc]
/-- The coefficient at any exponents, bytes or not. -/
theorem IsP.all {p : Int} {L M : List Tm} {f : Int × Int × Int → Int} {v : Int} (h : IsP p L (fun e => v * atL M e % p)) (hM : IsP p M f) (e : Int × Int × Int) : atL L e = v * atL M e % p := by
  by_cases he : byte3 e
  · exact h.2.2 e he
  · rw [atL_none (ts := L) (fun t ht hx => he (by rw [← hx]; exact (h.2.1 t ht).1.1)), atL_none (ts := M) (fun t ht hx => he (by rw [← hx]; exact (hM.2.1 t ht).1.1))]
    simp
/-- A number goes out of a product. -/
theorem mulF_scale {p : Int} {L M ys : List Tm} {f : Int × Int × Int → Int} {v : Int} (h : IsP p L (fun e => v * atL M e % p)) (hM : IsP p M f) (e : Int × Int × Int) : mulF p L ys e = v * mulF p M ys e % p := by
  rw [mulF, mulF, mulS_col ys e h.1, mulS_col ys e hM.1, colS_congr (fun a => IsP.all h hM a) e ys, colS_mod, colS_scale]
  simp [Int.mul_emod]
end Go.Proofs.Ytphgpadpffigjaa
namespace Go.Proofs.Ytphgpadpffigjaa
open Go.RowKit Go.Sort Go.Maps

theorem rowS_ne {s : Tm} {e : Int × Int × Int} : ∀ {ys : List Tm}, rowS s ys e ≠ 0 → ∃ t ∈ ys, addE (tmE s) (tmE t) = e
  | [], h => absurd rfl h
  | t :: r, h => by
    rw [rowS] at h
    by_cases hx : addE (tmE s) (tmE t) = e
    · exact ⟨t, by simp, hx⟩
    · rw [if_neg hx, Int.zero_add] at h
      obtain ⟨u, hu, hx⟩ := rowS_ne h
      exact ⟨u, by simp [hu], hx⟩
theorem mulS_ne {ys : List Tm} {e : Int × Int × Int} : ∀ {xs : List Tm}, mulS xs ys e ≠ 0 → ∃ s ∈ xs, ∃ t ∈ ys, addE (tmE s) (tmE t) = e
  | [], h => absurd rfl h
  | s :: r, h => by
    rw [mulS] at h
    by_cases hx : rowS s ys e = 0
    · rw [hx, Int.zero_add] at h
      obtain ⟨u, hu, hx⟩ := mulS_ne h
      exact ⟨u, by simp [hu], hx⟩
    · exact ⟨s, by simp, rowS_ne hx⟩
end Go.Proofs.Ytphgpadpffigjaa
namespace Go.Proofs.Ytphgpadpffigjaa
open Go.RowKit Go.Sort Go.Maps

/-- The symmetric function j of a list (its last polynomial first). -/
noncomputable def symE (p : Int) : List (List Tm) → Nat → List Tm
  | _, 0 => [(0, 0, 0, 1)]
  | [], _ + 1 => []
  | X :: r, j + 1 => Classical.epsilon fun L => ∃ M, IsP p M (mulF p (symE p r j) X) ∧ IsP p L (sumK p 1 [symE p r (j + 1), M])
theorem unit_isP {p : Int} (hp : 2 ≤ p) : IsP p [(0, 0, 0, 1)] (fun e => if e = (0, 0, 0) then 1 else 0) := by
  refine ⟨List.pairwise_singleton _ _, fun t ht => ?_, fun e he => ?_⟩
  · simp at ht
    subst ht
    exact ⟨⟨by unfold byte3 tmE; simp, by simp [tmE]⟩, Int.le_refl _, by show (1 : Int) < p; omega⟩
  · by_cases h : e = (0, 0, 0)
    · subst h; rfl
    · show atL [(0, 0, 0, 1)] e = if e = (0, 0, 0) then 1 else 0
      rw [if_neg h, atL, if_neg (fun h' => h h'.symm)]; rfl
def degB (L : List Tm) (B : Int) : Prop := ∀ t ∈ L, t.1 + t.2.1 + t.2.2.1 ≤ B
theorem degB_fits {xs ys : List Tm} {A B : Int} (h : degB xs A) (h' : degB ys B) (hs : A + B ≤ 12) : Fits xs ys := fun s hs' t ht => by
  have := h s hs'
  have := h' t ht
  omega
theorem mul_degB {p A B : Int} {xs ys M : List Tm} (h : degB xs A) (h' : degB ys B) (hM : IsP p M (mulF p xs ys)) : degB M (A + B) := fun t ht => by
  have h1 := hM.2.2 (tmE t) (hM.2.1 t ht).1.1
  rw [atL_mem hM.1 ht] at h1
  have h2 := (hM.2.1 t ht).2.1
  have h3 : mulS xs ys (tmE t) ≠ 0 := fun h0 => by
    rw [mulF, h0] at h1
    simp at h1
    omega
  obtain ⟨s, hs, u, hu, hx⟩ := mulS_ne h3
  have h4 := h s hs
  have h5 := h' u hu
  have h7 : t.1 + t.2.1 + t.2.2.1 = (s.1 + s.2.1 + s.2.2.1) + (u.1 + u.2.1 + u.2.2.1) := by
    have := sum_addE (tmE s) (tmE u)
    rw [hx] at this
    exact this
  omega
theorem sum_degB {p k B : Int} {Ls : List (List Tm)} {L : List Tm} (h : ∀ X ∈ Ls, degB X B) (hL : IsP p L (sumK p k Ls)) : degB L B := fun t ht => by
  have h1 := hL.2.2 (tmE t) (hL.2.1 t ht).1.1
  rw [atL_mem hL.1 ht] at h1
  have h2 := (hL.2.1 t ht).2.1
  have h3 : sumA Ls (tmE t) ≠ 0 := fun h0 => by
    rw [sumK, h0] at h1
    simp at h1
    omega
  obtain ⟨X, hX, h4⟩ := sumA_ne h3
  obtain ⟨u, hu, hx⟩ := atL_ne_memF h4
  have h5 := h X hX u hu
  have hx2 : u.1 = t.1 ∧ u.2.1 = t.2.1 ∧ u.2.2.1 = t.2.2.1 := by simpa [tmE] using hx
  omega
/-- What the symmetric functions are, where the degrees fit. -/
theorem symE_ok {p d g : Int} (hp2 : 2 ≤ p) (hp13 : p ≤ 13) (d1 : 1 ≤ d) (d3 : d ≤ 3) (hg : 0 ≤ g) : ∀ (r : List (List Tm)), (∀ X ∈ r, Valid p d X ∧ degB X g) → ∀ j : Nat, (j : Int) * g ≤ 12 → Valid p d (symE p r j) ∧ degB (symE p r j) (j * g)
  | _, _, 0, _ => by
    rw [symE.eq_def]
    exact ⟨isP_valid (unit_isP hp2) hp2 hp13 d1 d3, fun t ht => by simp at ht; subst ht; simp⟩
  | [], _, j + 1, _ => by
    rw [symE.eq_def]
    exact ⟨⟨hp2, hp13, d1, d3, List.Pairwise.nil, fun t ht => by simp at ht⟩, fun t ht => by simp at ht⟩
  | X :: r, h, j + 1, hj => by
    have e1 : ((j + 1 : Nat) : Int) * g = j * g + g := by rw [Int.natCast_add, Int.add_mul]; simp
    have e0 : 0 ≤ (j : Int) * g := Int.mul_nonneg (by omega) hg
    obtain ⟨hA, hAd⟩ := symE_ok hp2 hp13 d1 d3 hg r (fun Y hY => h Y (by simp [hY])) j (by omega)
    obtain ⟨hB, hBd⟩ := symE_ok hp2 hp13 d1 d3 hg r (fun Y hY => h Y (by simp [hY])) (j + 1) hj
    obtain ⟨hX, hXd⟩ := h X (by simp)
    obtain ⟨M, hM⟩ := mul_ex hA hX (degB_fits hAd hXd (by omega))
    have hMV := isP_valid (d := d) hM hp2 hp13 d1 d3
    obtain ⟨S, hS⟩ := sum_ex (d := d) (k := 1) hp2 2 [symE p r (j + 1), M] rfl (fun Y hY => by simp at hY; rcases hY with h | h <;> subst h <;> assumption)
    have hE : ∃ M, IsP p M (mulF p (symE p r j) X) ∧ IsP p (symE p (X :: r) (j + 1)) (sumK p 1 [symE p r (j + 1), M]) := by
      rw [symE.eq_def p (X :: r)]
      exact Classical.epsilon_spec (p := fun L => ∃ M, IsP p M (mulF p (symE p r j) X) ∧ IsP p L (sumK p 1 [symE p r (j + 1), M])) ⟨S, M, hM, hS⟩
    obtain ⟨M', hM', hS'⟩ := hE
    refine ⟨isP_valid hS' hp2 hp13 d1 d3, sum_degB (fun Y hY => ?_) hS'⟩
    simp at hY
    rcases hY with rfl | rfl
    · exact hBd
    · rw [e1]
      exact mul_degB hAd hXd hM'
theorem symE_step {p d g : Int} (_hp2 : 2 ≤ p) (_hp13 : p ≤ 13) (_d1 : 1 ≤ d) (_d3 : d ≤ 3) (_hg : 0 ≤ g) {X : List Tm} {r : List (List Tm)} (_h : ∀ Y ∈ X :: r, Valid p d Y ∧ degB Y g) {j : Nat} (_hj : ((j + 1 : Nat) : Int) * g ≤ 12) {M S : List Tm}
    (hM : IsP p M (mulF p (symE p r j) X)) (hS : IsP p S (sumK p 1 [symE p r (j + 1), M])) : S = symE p (X :: r) (j + 1) := by
  have hE : ∃ M, IsP p M (mulF p (symE p r j) X) ∧ IsP p (symE p (X :: r) (j + 1)) (sumK p 1 [symE p r (j + 1), M]) := by
    rw [symE.eq_def p (X :: r)]
    exact Classical.epsilon_spec (p := fun L => ∃ M, IsP p M (mulF p (symE p r j) X) ∧ IsP p L (sumK p 1 [symE p r (j + 1), M])) ⟨S, M, hM, hS⟩
  obtain ⟨M', hM', hS'⟩ := hE
  obtain rfl := hM'.unique hM
  exact hS.unique hS'
theorem symE_zero (p : Int) (r : List (List Tm)) : symE p r 0 = [(0, 0, 0, 1)] := by rw [symE.eq_def]
theorem symE_nil (p : Int) (j : Nat) : symE p [] (j + 1) = [] := by rw [symE.eq_def]
theorem take_rev (O : List (List Tm)) (i : Nat) (h : i < O.length) : (O.take (i + 1)).reverse = O[i] :: (O.take i).reverse := by
  rw [List.take_succ_eq_append_getElem h, List.reverse_append]
  rfl
end Go.Proofs.Ytphgpadpffigjaa
namespace Go.Proofs.Ytphgpadpffigjaa
open Go.RowKit Go.Sort EchM

theorem bool_at (f : Nat → Bool) {w : World} {b : Nat} {t : TypeId} {n : Nat} (h : w.rowIs b t n (fun q => .bool (f q))) {q : Nat} (hq : q < n) {x : Bool} (hx : f q = x) : w.cell? ⟨b, q, none⟩ = some (.bool x) := by
  rw [h.cell hq, hx]
end Go.Proofs.Ytphgpadpffigjaa
namespace Go.Proofs.Ytphgpadpffigjaa
open Go.RowKit Go.Sort EchM

theorem nth_set (l : List Int) (k : Nat) (x : Int) (hk : k < l.length) (q : Nat) : nth (l.set k x) q = if q = k then x else nth l q := by
  unfold nth
  by_cases e : q = k
  · subst e; simp [hk]
  · rw [if_neg e]
    simp [Ne.symm e]
def SortTo (O : List Int) (i : Nat) : Prop := ∀ a b, a ≤ b → b < i → nth O a ≤ nth O b
/-- All but the number at j are in order, and that one is not greater than those behind it. -/
def HoleTo (P : List Int) (i j : Nat) : Prop := (∀ a b, a ≤ b → b ≤ i → a ≠ j → b ≠ j → nth P a ≤ nth P b) ∧ ∀ b, j < b → b ≤ i → nth P j ≤ nth P b
def swpL (P : List Int) (j : Nat) : List Int := (P.set (j + 1) (nth P j)).set j (nth P (j + 1))
theorem swp_len (P : List Int) (j : Nat) : (swpL P j).length = P.length := by simp [swpL]
theorem swp_nth {P : List Int} {j : Nat} (hj : j + 1 < P.length) (q : Nat) : nth (swpL P j) q = if q = j then nth P (j + 1) else if q = j + 1 then nth P j else nth P q := by
  unfold swpL
  rw [nth_set _ _ _ (by simp; omega), nth_set _ _ _ hj]
theorem swp_perm {P : List Int} {j : Nat} (hj : j + 1 < P.length) : (swpL P j).Perm P := by
  unfold swpL
  rw [nth_lt hj, nth_lt (show j < P.length by omega)]
  exact List.set_set_perm hj (by omega)
theorem hole_start {O : List Int} {i : Nat} (h : SortTo O i) : HoleTo O i i :=
  ⟨fun a b hab hb ha hb' => h a b hab (by omega), fun b h1 h2 => by omega⟩
theorem hole_next {P : List Int} {i j : Nat} (h : HoleTo P i (j + 1)) (hi : i < P.length) (hj : j + 1 ≤ i) (hlt : nth P (j + 1) < nth P j) : HoleTo (swpL P j) i j := by
  have hl : j + 1 < P.length := by omega
  constructor
  · intro a b hab hb ha hb'
    rw [swp_nth hl, swp_nth hl, if_neg ha, if_neg hb']
    by_cases e1 : a = j + 1
    · rw [if_pos e1]
      by_cases e2 : b = j + 1
      · rw [if_pos e2]; exact Int.le_refl _
      · rw [if_neg e2]; exact h.1 j b (by omega) hb (by omega) e2
    · rw [if_neg e1]
      by_cases e2 : b = j + 1
      · rw [if_pos e2]; exact h.1 a j (by omega) (by omega) e1 (by omega)
      · rw [if_neg e2]; exact h.1 a b hab hb e1 e2
  · intro b h1 h2
    rw [swp_nth hl, swp_nth hl, if_pos rfl, if_neg (by omega)]
    by_cases e2 : b = j + 1
    · rw [if_pos e2]; omega
    · rw [if_neg e2]; exact h.2 b (by omega) h2
theorem hole_done {P : List Int} {i j : Nat} (h : HoleTo P i j) (hge : j = 0 ∨ nth P (j - 1) ≤ nth P j) : SortTo P (i + 1) := by
  intro a b hab hb
  by_cases e1 : a = j
  · by_cases e2 : b = j
    · rw [e1, e2]; exact Int.le_refl _
    · rw [e1]; exact h.2 b (by omega) (by omega)
  · by_cases e2 : b = j
    · rcases hge with hge | hge
      · omega
      · have := h.1 a (j - 1) (by omega) (by omega) e1 (by omega)
        rw [e2]; omega
    · exact h.1 a b hab (by omega) e1 e2
theorem nan64 (a : Int) (w : World) : Calls Try.prog 143 #[.int .i64 a] w fun e w' => e = .returned (.bool false) ∧ w' = w := by
  have h : (a != a) = false := by simp
  go_enter Try.func143, Try.ntmps143
  go_wp2
  go_ret
  exact ⟨rfl, rfl⟩
theorem gless (a b : Int) (w : World) : Calls Try.prog 164 #[.int .i64 a, .int .i64 b] w fun e w' => e = .returned (.bool (decide (a < b))) ∧ w' = w := by
  go_enter Try.func164, Try.ntmps164
  go_wp2_with ((with_reducible refine (nan64 _ _).mono ?_); rintro e w' ⟨rfl, rfl⟩)
  go_ret
  exact ⟨by simp, rfl⟩
set_option maxRecDepth 100000 in
set_option maxHeartbeats 4000000 in
theorem glen64 (z : Int) (hz : 0 ≤ z ∧ z ≤ 8) (w : World) : Calls Try.prog 156 #[.int .u64 z] w fun e w' => (∃ r : Int, e = .returned (.int .i64 r)) ∧ w' = w := by
  rcases (show z = 0 ∨ z = 1 ∨ z = 2 ∨ z = 3 ∨ z = 4 ∨ z = 5 ∨ z = 6 ∨ z = 7 ∨ z = 8 by omega) with rfl | rfl | rfl | rfl | rfl | rfl | rfl | rfl | rfl
  all_goals
    go_enter Try.func156, Try.ntmps156
    go_wp2
    go_ret
    exact ⟨⟨_, rfl⟩, rfl⟩
theorem glen (z : Int) (hz : 0 ≤ z ∧ z ≤ 8) (w : World) : Calls Try.prog 140 #[.int .u64 z] w fun e w' => (∃ r : Int, e = .returned (.int .i64 r)) ∧ w' = w := by
  go_enter Try.func140, Try.ntmps140
  go_wp2_with fail
  ((with_reducible refine (glen64 z hz _).mono ?_); rintro e w' ⟨⟨r, rfl⟩, rfl⟩)
  go_wp2
  go_ret
  exact ⟨⟨_, rfl⟩, rfl⟩

theorem grown_drew {w wr : World} {g : Nat} (h : w.grownBy wr (some g)) (_ : Nat) : w.grownBy wr.drew (some g) := ⟨h.os, h.tape, h.output, h.size, h.block⟩
theorem grown_drewN {w wr : World} {g : Nat} (h : w.grownBy wr (some g)) (n : Nat) : w.grownBy (wr.drewN n) (some g) := ⟨h.os, h.tape, h.output, h.size, h.block⟩

set_option maxRecDepth 8000 in
set_option maxHeartbeats 4000000 in
theorem gins (g n cap : Nat) (O : List Int) (w : World) (hO : O.length = n) (hn : n ≤ 1048576) (hF : RowF w g n (nth O)) :
    Calls Try.prog 158 #[.slice (some ⟨g, 0, none⟩) n cap, .int .i64 0, .int .i64 (n : Int)] w fun e w' => e = .returned (.tuple #[]) ∧ ∃ P, List.Perm P O ∧ SortTo P n ∧ RowF w' g n (nth P) ∧ w.grownBy w' (some g) := by
  have HO := Lib.hid hO
  clear hO
  go_enter Try.func158, Try.ntmps158
  go_wp2_with fail
  go_loopw [6] (fun i wr => ∃ (k : Nat) (P : List Int), 1 ≤ k ∧ (k ≤ n ∨ k = 1) ∧ i = .int .i64 k ∧ Hid (P.Perm O) ∧ Hid (SortTo P k) ∧ RowF wr g n (nth P) ∧ w.grownBy wr (some g)) (fun i _ => n - (intOf i).toNat)
  case atStart => exact ⟨1, O, by omega, .inr rfl, rfl, Lib.hid (List.Perm.refl _), Lib.hid (fun a b h1 h2 => by
    have : a = b := by omega
    subst this; exact Int.le_refl _), hF, World.grownBy.refl _ _⟩
  case round =>
    clear hF
    obtain ⟨k, P, hk1, hk, rfl, HP, HS, hF, hg⟩ := hrel
    by_cases hlt : k < n
    · have hlt' : (k : Int) < (n : Int) := by omega
      have HH := Lib.hid (hole_start HS.out)
      go_wp2_with fail
      go_loopw [7] (fun t wr => ∃ (j : Nat) (P : List Int), j ≤ k ∧ t = .int .i64 j ∧ Hid (P.Perm O) ∧ Hid (HoleTo P k j) ∧ RowF wr g n (nth P) ∧ w.grownBy wr (some g)) (fun t _ => (intOf t).toNat)
      case atStart => exact ⟨k, P, by omega, rfl, HP, HH, hF, hg⟩
      case round =>
        clear hF hg HP HH HS
        obtain ⟨j, P, hj, rfl, HP, HH, hF, hg⟩ := hrel
        by_cases hj0 : 0 < j
        · obtain ⟨i, hji⟩ : ∃ i, j = i + 1 := ⟨j - 1, by omega⟩
          have hj0' : (0 : Int) < (j : Int) := by omega
          have hji' : (j : Int) - 1 = (i : Int) := by omega
          have hjn : (j : Int) < (n : Int) := by omega
          have hin : (i : Int) < (n : Int) := by omega
          have c0 := hF.cell (k := j) (by omega)
          have c1 := hF.cell (k := i) (by omega)
          have f0 := hF.frozen j
          have f1 := hF.frozen i
          have hPl : P.length = n := by rw [HP.out.length_eq, HO.out]
          have HPL := Lib.hid hPl
          by_cases hl : nth P j < nth P i
          · have hd : decide (nth P j < nth P i) = true := by simpa using hl
            have HP2 : Hid ((swpL P i).Perm O) := Lib.hid ((swp_perm (by omega)).trans HP.out)
            have HH2 : Hid (HoleTo (swpL P i) k i) := Lib.hid (by
              have h := HH.out
              rw [hji] at h
              exact hole_next h (by omega) (by omega) (by rw [hji] at hl; exact hl))
            have hX : ∀ wd : World, wd.heap = wr.heap → RowF ((wd.setCell ⟨g, j, none⟩ (.int .i64 (nth P i))).setCell ⟨g, i, none⟩ (.int .i64 (nth P j))) g n (nth (swpL P i)) := fun wd hwd => by
              have hF' : RowF wd g n (nth P) := by
                obtain ⟨N, f, h1, h2, h3⟩ := hF
                exact ⟨N, f, h1, h2.of_block (by rw [hwd]), h3⟩
              refine (hF'.set (G := fun q => if q = j then nth P i else nth P q) j _ (fun q _ => rfl)).set i _ (fun q hq => ?_)
              rw [swp_nth (by omega), hji]
            have hG : ∀ wd : World, (w.grownBy wd (some g)) → w.grownBy ((wd.setCell ⟨g, j, none⟩ (.int .i64 (nth P i))).setCell ⟨g, i, none⟩ (.int .i64 (nth P j))) (some g) := fun wd h => ngrown_setT (ngrown_setT h _ _) _ _
            have HX := Lib.hid hX
            have HG := Lib.hid hG
            have cK : ∀ nn, Calls Try.prog 164 #[.int .i64 (nth P j), .int .i64 (nth P i)] (wr.drewN nn) fun e w'' => e = .returned (.bool true) ∧ w'' = wr.drewN nn := fun nn => by
              have h := gless (nth P j) (nth P i) (wr.drewN nn)
              rw [hd] at h
              exact h
            clear hl hd hF hX hG hji hPl
            generalize nth P j = X at *
            generalize nth P i = Y at *
            go_wp2_with fail
            go_quiet (exact Calls.quiet_of_same (cK _))
            clear cK
            go_wp2_with fail
            go_region
            all_goals
              go_wp2_with fail
              go_roundw
              case rel => exact ⟨i, swpL P i, by omega, by go_num, HP2, HH2, HX.out _ rfl, HG.out _ (grown_drewN hg _)⟩
              case measure => simp [intOf]; omega
          · have hd : decide (nth P j < nth P i) = false := by simpa using hl
            have HS2 : Hid (SortTo P (k + 1)) := Lib.hid (hole_done HH.out (.inr (by rw [show j - 1 = i by omega]; omega)))
            have cK : ∀ nn, Calls Try.prog 164 #[.int .i64 (nth P j), .int .i64 (nth P i)] (wr.drewN nn) fun e w'' => e = .returned (.bool false) ∧ w'' = wr.drewN nn := fun nn => by
              have h := gless (nth P j) (nth P i) (wr.drewN nn)
              rw [hd] at h
              exact h
            have hFd := hF.below (below_drewN (Below.refl _ _) 0)
            have HFD : Hid (∀ nn, RowF (wr.drewN nn) g n (nth P)) := Lib.hid (fun nn => hF.below (below_drewN (Below.refl _ _) nn))
            clear hl hd hF hji hPl hFd
            generalize nth P j = X at *
            generalize nth P i = Y at *
            go_wp2_with fail
            go_quiet (exact Calls.quiet_of_same (cK _))
            clear cK
            go_wp2_with fail
            go_roundw
            case rel => exact ⟨k + 1, P, by omega, by omega, by go_num, HP, HS2, HFD.out _, grown_drewN hg _⟩
            case measure => simp [intOf]; omega
        · obtain rfl : j = 0 := by omega
          have HS2 : Hid (SortTo P (k + 1)) := Lib.hid (hole_done HH.out (.inl rfl))
          have HFD : Hid (∀ nn, RowF (wr.drewN nn) g n (nth P)) := Lib.hid (fun nn => hF.below (below_drewN (Below.refl _ _) nn))
          clear hF hj0
          go_wp2_with fail
          go_quiet (fail)
          go_wp2_with fail
          go_roundw
          case rel => exact ⟨k + 1, P, by omega, by omega, by go_num, HP, HS2, HFD.out _, grown_drewN hg _⟩
          case measure => simp [intOf]; omega
    · have HSN : Hid (SortTo P n) := Lib.hid (by
        intro a b h1 h2
        exact HS.out a b h1 (by omega))
      have hlt' : ¬ (k : Int) < (n : Int) := by omega
      go_wp2_with fail
      go_end0
      exact ⟨rfl, P, HP.out, HSN.out, hF, hg⟩

set_option maxRecDepth 100000 in
set_option maxHeartbeats 4000000 in
theorem gpdq (g n cap : Nat) (O : List Int) (r : Int) (w : World) (hO : O.length = n) (hn : n ≤ 8) (hF : RowF w g n (nth O)) :
    Calls Try.prog 146 #[.slice (some ⟨g, 0, none⟩) n cap, .int .i64 0, .int .i64 (n : Int), .int .i64 r] w fun e w' => e = .returned (.tuple #[]) ∧ ∃ P, List.Perm P O ∧ SortTo P n ∧ RowF w' g n (nth P) ∧ w.grownBy w' (some g) := by
  have hn12 : (n : Int) ≤ 12 := by omega
  go_enter Try.func146, Try.ntmps146
  go_wp2
  refine wp_loop_rounds 1 ?_
  rw [rounds_succ]
  go_wp2_with fail
  ((with_reducible refine (gins g n cap O _ hO (by omega) hF).mono ?_); rintro e w1 ⟨rfl, hP⟩)
  go_wp2
  exact bodyPost_ret (v := .tuple #[]) (by simp [results, Try.results146, go_sem]) rfl ⟨rfl, hP⟩
set_option maxHeartbeats 1000000 in
theorem gsortI (g n cap : Nat) (O : List Int) (w : World) (hO : O.length = n) (hn : n ≤ 8) (hF : RowF w g n (nth O)) :
    Calls Try.prog 137 #[.slice (some ⟨g, 0, none⟩) n cap] w fun e w' => e = .returned (.tuple #[]) ∧ ∃ P, List.Perm P O ∧ SortTo P n ∧ RowF w' g n (nth P) ∧ w.grownBy w' (some g) := by
  go_enter Try.func137, Try.ntmps137
  go_wp2_with fail
  ((with_reducible refine (glen (n : Int) (by omega) _).mono ?_); rintro e w1 ⟨⟨r, rfl⟩, rfl⟩)
  go_wp2_with fail
  ((with_reducible refine (gpdq g n cap O r _ hO hn hF).mono ?_); rintro e w2 ⟨rfl, hP⟩)
  go_wp2
  go_end0
  exact ⟨rfl, hP⟩

/-- A list turned round as far as i. -/
def revF (O : List Int) (n i q : Nat) : Int := if q < i ∨ n - i ≤ q then nth O (n - 1 - q) else nth O q
set_option maxRecDepth 8000 in
set_option maxHeartbeats 4000000 in
theorem grev (g n cap : Nat) (O : List Int) (w : World) (h1 : 1 ≤ n) (hn : n ≤ 1048576) (hF : RowF w g n (nth O)) :
    Calls Try.prog 138 #[.slice (some ⟨g, 0, none⟩) n cap] w fun e w' => e = .returned (.tuple #[]) ∧ RowF w' g n (fun q => nth O (n - 1 - q)) ∧ w.grownBy w' (some g) := by
  go_enter Try.func138, Try.ntmps138
  go_wp2_with fail
  go_loopw [2, 3] (fun i j wr => ∃ (k : Nat), 2 * k ≤ n + 1 ∧ i = .int .i64 k ∧ j = .int .i64 ((n : Int) - 1 - k) ∧ RowF wr g n (revF O n k) ∧ w.grownBy wr (some g)) (fun i _ _ => n - (intOf i).toNat)
  case atStart => exact ⟨0, by omega, rfl, by simp, hF.congr (fun q hq => by unfold revF; rw [if_neg (by omega)]), World.grownBy.refl _ _⟩
  case round =>
    clear hF
    obtain ⟨k, hk, rfl, rfl, hF, hg⟩ := hrel
    by_cases hlt : 2 * k + 1 < n
    · obtain ⟨j, hj⟩ : ∃ j, j = n - 1 - k := ⟨_, rfl⟩
      have hj' : (n : Int) - 1 - (k : Int) = (j : Int) := by omega
      rw [hj']
      have hkj : (k : Int) < (j : Int) := by omega
      have hkn : (k : Int) < (n : Int) := by omega
      have hjn : (j : Int) < (n : Int) := by omega
      have c0 := hF.cell (k := j) (by omega)
      have c1 := hF.cell (k := k) (by omega)
      have e0 : revF O n k j = nth O j := by unfold revF; rw [if_neg (by omega)]
      have e1 : revF O n k k = nth O k := by unfold revF; rw [if_neg (by omega)]
      rw [e0] at c0
      rw [e1] at c1
      have f0 := hF.frozen j
      have f1 := hF.frozen k
      have hX : ∀ wd : World, wd.heap = wr.heap → RowF ((wd.setCell ⟨g, k, none⟩ (.int .i64 (nth O j))).setCell ⟨g, j, none⟩ (.int .i64 (nth O k))) g n (revF O n (k + 1)) := fun wd hwd => by
        have hF' : RowF wd g n (revF O n k) := by
          obtain ⟨N, f, h1, h2, h3⟩ := hF
          exact ⟨N, f, h1, h2.of_block (by rw [hwd]), h3⟩
        refine (hF'.set (G := fun q => if q = k then nth O j else revF O n k q) k _ (fun q _ => rfl)).set j _ (fun q hq => ?_)
        unfold revF
        by_cases e2 : q = j
        · subst e2
          rw [if_pos (by omega), if_pos rfl]
          congr 1; omega
        · rw [if_neg e2]
          by_cases e3 : q = k
          · subst e3
            rw [if_pos (by omega), if_pos rfl]
            congr 1; omega
          · rw [if_neg e3]
            by_cases e4 : q < k ∨ n - k ≤ q
            · rw [if_pos (by omega), if_pos e4]
            · rw [if_neg (by omega), if_neg e4]
      have hG : ∀ wd : World, (w.grownBy wd (some g)) → w.grownBy ((wd.setCell ⟨g, k, none⟩ (.int .i64 (nth O j))).setCell ⟨g, j, none⟩ (.int .i64 (nth O k))) (some g) := fun wd h => ngrown_setT (ngrown_setT h _ _) _ _
      have HX := Lib.hid hX
      have HG := Lib.hid hG
      clear hF hX hG e0 e1 hj
      generalize nth O j = X at *
      generalize nth O k = Y at *
      go_wp2_with fail
      go_region
      all_goals
        go_wp2_with fail
        go_roundw
        case rel => exact ⟨k + 1, by omega, by go_num, by go_num, HX.out _ rfl, HG.out _ (grown_drew hg 0)⟩
        case measure => simp [intOf]; omega
    · have hlt' : ¬ (k : Int) < (n : Int) - 1 - (k : Int) := by omega
      have hF2 := hF.congr (G := fun q => nth O (n - 1 - q)) (fun q hq => by
        unfold revF
        by_cases e : q < k ∨ n - k ≤ q
        · rw [if_pos e]
        · rw [if_neg e]; congr 1; omega)
      clear hF
      go_wp2_with fail
      go_end0
      exact ⟨rfl, hF2, hg⟩
end Go.Proofs.Ytphgpadpffigjaa
namespace Go.Proofs.Ytphgpadpffigjaa
open Go.RowKit Go.Sort EchM

theorem cyS_pos {l : List Int} (hl : 1 ≤ l.length) : ∀ k, 1 ≤ k → 0 < (cyS l k).2.length
  | 0, h => by omega
  | 1, _ => by
    obtain ⟨n, hn⟩ : ∃ n, l.length = n + 1 := ⟨l.length - 1, by omega⟩
    simp [cyS, hn, walkC]
  | k + 2, _ => by
    have := cyS_pos hl (k + 1) (by omega)
    rw [cyS]
    split
    · simp
    · exact this
theorem einfoBl : (Try.prog.info? 4).map (fun i => (i.zero, i.size, i.bytes)) = some (some (.bool false), 1, 1) := by kernel_rfl
theorem sort_rev {l P : List Int} (hp : P.Perm (cyS l l.length).2) (hs : SortTo P P.length) : (List.range P.length).map (fun q => nth P (P.length - 1 - q)) = cyD l l.length := by
  have hs' : P.Pairwise fun a b => a ≤ b := by
    rw [List.pairwise_iff_getElem]
    intro a b ha hb hab
    have := hs a b (by omega) hb
    rwa [nth_lt ha, nth_lt hb] at this
  rw [← cyc_rev hp hs']
  refine List.ext_getElem (by simp) fun q hq1 hq2 => ?_
  simp at hq1
  simp [List.getElem_reverse, nth_lt (show P.length - 1 - q < P.length by omega)]

set_option maxRecDepth 8000 in
set_option maxHeartbeats 8000000 in
theorem icyc (v : Value) (l : List Int) (w : World) (hl1 : 1 ≤ l.length) (hl8 : l.length ≤ 8) (hS : Sl w v l) (hp : ∀ q, q < l.length → 0 ≤ nth l q ∧ nth l q < l.length) :
    Calls Try.prog 117 #[v] w fun e w' => ∃ v', e = .returned v' ∧ OwnV w' w.heap.size v' (cyD l l.length) ∧ Below w.heap.size w w' := by
  obtain ⟨j0, hj, hy0, hy1, hy2⟩ := info_parts einfoBl
  obtain ⟨i0, hi, hz0, hz1, hz2⟩ := info_parts einfoI
  obtain ⟨a, cap, rfl, hc⟩ := id hS
  obtain ⟨b, off, rfl, hbb, hT⟩ : ∃ b off, a = some ⟨b, off, none⟩ ∧ b < w.heap.size ∧ Cs w b off l := by
    rcases hc with rfl | h
    · simp at hl1
    · exact h
  have HP := Lib.hid hp
  have hmk : ∀ w, (Instr.makeSlice 143 (.int .i64 (l.length : Int)) (.int .i64 (l.length : Int))).run Try.prog w = .ok (.slice (some ⟨w.heap.size, 0, none⟩) l.length l.length) (w.alloc (.cells (madeCells #[.bool false] l.length) 4)) := fun w => by
    have h := run_make (P := Try.prog) w 143 4 j0 _ Try.underlying143 hj hy0 .i64 .i64 (l.length : Int) (l.length : Int) (by omega) (by omega) (by rw [hy2]; omega) (by omega)
    rw [hy1] at h
    simpa [Value.cells] using h
  obtain ⟨W, hW, rW, hbW⟩ : ∃ W, W = w.alloc (.cells (madeCells #[.bool false] l.length) 4) ∧ W.rowIs w.heap.size 4 l.length (fun q => .bool ((cyS l 0).1 q)) ∧ Below w.heap.size w W :=
    ⟨_, rfl, World.rowIs_made w (.bool false) l.length 4, ebox1 _ _⟩
  clear hp hc hj hy0 hy1 hy2
  go_enter Try.func117, Try.ntmps117
  go_upto_region 2 with fail
  rw [← hW]
  clear hW hmk
  go_wp2_with fail
  go_loopw [4, 13] (fun s i wr => ∃ (k : Nat), k ≤ l.length ∧ i = .int .i64 k ∧ OwnL wr (w.heap.size + 1) s (cyS l k).2 ∧ wr.rowIs w.heap.size 4 l.length (fun q => .bool ((cyS l k).1 q)) ∧ Below w.heap.size w wr) (fun _ i _ => l.length - (intOf i).toNat)
  case atStart => exact ⟨0, by omega, rfl, World.ownsRow_nil _ _ _ _, rW, hbW⟩
  case round =>
    clear rW hbW
    obtain ⟨k, hk, rfl, hO, rM, hbel⟩ := hrel
    obtain ⟨sa, sc, rfl⟩ := hO.shape
    by_cases hlt : k < l.length
    · have hlt' : (k : Int) < (l.length : Int) := by omega
      have HW0 := Lib.hid (WalkTo.start l (cyS l k).1 k)
      have hlen := cyS_len l k
      go_wp2_with fail
      go_loopw [6, 7] (fun c t wr => ∃ (s : Nat → Bool) (q cn : Nat), q < l.length ∧ cn ≤ l.length ∧ c = .int .i64 cn ∧ t = .int .i64 q ∧ Hid (WalkTo l (cyS l k).1 k s q cn) ∧ OwnL wr (w.heap.size + 1) (.slice sa (cyS l k).2.length sc) (cyS l k).2 ∧ wr.rowIs w.heap.size 4 l.length (fun q => .bool (s q)) ∧ Below w.heap.size w wr) (fun c _ _ => l.length - (intOf c).toNat)
      case atStart => exact ⟨(cyS l k).1, k, 0, hlt, by omega, rfl, rfl, HW0, hO, rM, hbel⟩
      case round =>
        clear hO rM hbel HW0
        obtain ⟨s, q, cn, hq, hcn, rfl, rfl, HWT, hO, rM, hbel⟩ := hrel
        have hq8 : (q : Int) < (l.length : Int) := by omega
        cases hs : s q
        · have c0 := bool_at s rM hq hs
          have f0 := rM.frozen q
          have cl := (hT.below hbel hbb) q hq
          obtain ⟨y, hy⟩ : ∃ y : Nat, nth l q = (y : Int) := ⟨(nth l q).toNat, by have := HP.out q hq; omega⟩
          have hyl : y < l.length := by have := HP.out q hq; omega
          rw [← nth_lt hq, hy] at cl
          obtain ⟨n1, n2⟩ := HWT.out.next hs hq
          rw [hy] at n1
          have HN : Hid (WalkTo l (cyS l k).1 k (mkS s q) y (cn + 1)) := Lib.hid n1
          have rows := (rM.set q (.bool true)).congr (g := fun j => .bool (mkS s q j)) (fun j _ => by
            unfold mkS
            split <;> rfl)
          have hneB : (Value.slice sa (cyS l k).2.length sc).ownBlock ≠ some w.heap.size := by
            intro e
            have := (World.ownsRow.lt hO _ e).1
            omega
          have hO2 : OwnL (wr.setCell ⟨w.heap.size, q, none⟩ (.bool true)) (w.heap.size + 1) (.slice sa (cyS l k).2.length sc) (cyS l k).2 :=
            World.ownsRow.kept hO (row := some w.heap.size) ⟨rfl, rfl, rfl, by rw [World.size_setCell]; exact Nat.le_refl _, fun j hj hne => Below.heap_setCell wr ⟨w.heap.size, q, none⟩ (.bool true) j (fun e => hne (by rw [e]))⟩ (.inr hneB)
          have hb2 := hbel.setCell (p := ⟨w.heap.size, q, none⟩) (by simp) (.bool true)
          clear hO rM hbel hneB n1 hy hs
          go_wp2_with fail
          go_roundw
          case rel => exact ⟨mkS s q, y, cn + 1, hyl, n2, by go_num, rfl, HN, hO2, rows, hb2⟩
          case measure => simp [intOf]; omega
        · have c0 := bool_at s rM hq hs
          have HCS := Lib.hid (cyS_next (HWT.out.done hs))
          clear hs
          by_cases hc0 : cn = 0
          · have hcn0 : ¬ (0 : Int) < (cn : Int) := by omega
            have HD2 : Hid ((cyS l (k + 1)).2 = (cyS l k).2) := Lib.hid (by rw [HCS.out]; simp only; rw [if_neg (by omega)])
            have HS2 : Hid ((cyS l (k + 1)).1 = s) := Lib.hid (by rw [HCS.out])
            clear hc0
            generalize (cyS l k).2 = O at *
            go_wp2_with fail
            go_roundw
            case rel => exact ⟨k + 1, by omega, by go_num, by rw [HD2.out]; exact hO, by rw [HS2.out]; exact rM, hbel⟩
            case measure => simp [intOf]; omega
          · have hcn0 : (0 : Int) < (cn : Int) := by omega
            have HD2 : Hid ((cyS l k).2 ++ [(cn : Int)] = (cyS l (k + 1)).2) := Lib.hid (by rw [HCS.out]; simp only; rw [if_pos (by omega)])
            have HS2 : Hid ((cyS l (k + 1)).1 = s) := Lib.hid (by rw [HCS.out])
            clear hc0
            have hOL : (cyS l k).2.length ≤ 8 := by omega
            have hws := rM.lt
            generalize (cyS l k).2 = O at *
            go_wp2_with (at_builtin; refine wpList_append_lies _ rfl _ _ 61 rfl (w.heap.size + 1) 2 i0 _ 1 8 Try.underlying61 hi hz0 hz1 hz2 rfl (by decide) (.slice sa O.length sc) O.length (valsI O) rfl (World.ownsRow.alloc hO _) ⟨wr.heap.size, 0, none⟩ 1 1 [.int .i64 (cn : Int)] rfl rfl (World.news_of_block (cs := #[.int .i64 (cn : Int)]) (t := 2) (fr := (0, 0)) (heap_alloc_new _ _)) (by simp [Value.oneCell']) (by omega) (by unfold maxLen; omega) (by omega) (by simp; omega) _ rfl ?_)
            intro gg cap3 w3 hown3 hgrow3 hat3 hlt3
            have hb3 : Below (w.heap.size + 1) wr w3 := ((ebox1 wr (.cells #[.int .i64 (cn : Int)] 2)).mono (by omega)).grown hgrow3 (by simp; omega) (fun q hq => (World.ownsRow.lt hO q hq).1)
            have hO3 : OwnL w3 (w.heap.size + 1) (.slice (some ⟨gg, 0, none⟩) (O.length + 1) cap3) (O ++ [(cn : Int)]) := by
              have h := hown3
              rw [valsI_snoc] at h
              simpa [OwnL] using h
            have hrow3 := erow_below rM hb3 (Nat.lt_succ_self _)
            have hfr3 := hbel.trans (hb3.mono (Nat.le_succ _))
            clear hown3 hgrow3 hat3 hb3 hO rM hbel
            rw [HD2.out] at hO3
            go_wp2_with fail
            go_roundw
            case rel => exact ⟨k + 1, by omega, by go_num, hO3, by rw [HS2.out]; exact hrow3, hfr3⟩
            case measure => simp [intOf]; omega
    · obtain rfl : k = l.length := by omega
      obtain ⟨g, cp, hv, hg, hF⟩ := ownV_rowF hO.toV (cyS_pos hl1 _ hl1)
      cases hv
      have hlen := cyS_len l l.length
      have hpos := cyS_pos hl1 _ hl1
      have hle := hbel.size
      have HSR := Lib.hid (fun P hp hs => sort_rev (l := l) (P := P) hp hs)
      clear hO rM
      generalize (cyS l l.length).2 = O at *
      obtain ⟨n, hn⟩ : ∃ n, O.length = n := ⟨_, rfl⟩
      rw [hn] at hF hlen hpos ⊢
      have HNN := Lib.hid hn
      clear hn
      go_wp2_with fail
      ((with_reducible refine (gsortI g n _ O _ HNN.out (by omega) hF).mono ?_); rintro e w4 ⟨rfl, P, hP, hPS, hF4, hg4⟩)
      have hPl : P.length = n := by rw [hP.length_eq, HNN.out]
      have HX := Lib.hid (HSR.out P hP (by rw [hPl]; exact hPS))
      rw [hPl] at HX
      have hb4 := hbel.grown hg4 hle (fun q hq => by simp at hq; omega)
      clear hP hPS hPl hF hg4 hbel
      go_wp2_with fail
      ((with_reducible refine (grev g n _ P _ (by omega) (by omega) hF4).mono ?_); rintro e w5 ⟨rfl, hF5, hg5⟩)
      have hb5 := hb4.grown hg5 hb4.size (fun q hq => by simp at hq; omega)
      go_wp2_with fail
      go_ret
      exact ⟨_, rfl, hF5.toV (by omega) HX.out.symm, hb5⟩
end Go.Proofs.Ytphgpadpffigjaa
namespace Go.Proofs.Ytphgpadpffigjaa
open Go.RowKit Go.Sort

/-- A copy of a list that is not nil. -/
theorem gclone (v : Value) (l : List Int) (w : World) (h0 : 0 < l.length) (hl : l.length ≤ 1048576) (hS : Sl w v l) :
    Calls Try.prog 85 #[v] w fun e w' => ∃ v', e = .returned v' ∧ OwnL w' w.heap.size v' l ∧ Below w.heap.size w w' := by
  have hS2 := fun o => hS.below (ebox1 w o)
  have ho : ∀ t, t = 2 → OwnL (w.alloc (.cells #[] t)) w.heap.size (.slice (some ⟨w.heap.size, 0, none⟩) 0 0) [] := fun t ht => by
    subst ht
    have := World.ownsRow_made (base := w.heap.size) (e := 2) (size := 1) w #[] 0 (by omega) (by simp [maxLen]) rfl
    simpa [OwnL, valsI] using this
  obtain ⟨a, cap, rfl, hc⟩ := id hS
  obtain ⟨b, off, rfl, hbb, hT⟩ : ∃ b off, a = some ⟨b, off, none⟩ ∧ b < w.heap.size ∧ Cs w b off l := by
    rcases hc with rfl | h
    · simp at h0
    · exact h
  have hnil : ∀ w : World, (binOp .eql 61 (.slice (some ⟨b, off, none⟩) l.length cap) (.slice none 0 0)).run Try.prog w = .ok (.bool false) w := fun w => by
    have h : ∀ d : Nat, (Op.equalIn (d + 1) 61 (.slice (some ⟨b, off, none⟩) l.length cap) (.slice none 0 0)).run Try.prog w = .ok false w := fun d => by
      simp [Op.equalIn, run_underlying Try.underlying61]
    simp only [binOp]
    simp [Op.equal, Op.maxDepth, h 9999]
  go_enter Try.func85, Try.ntmps85
  go_wp2_with (at_builtin; refine wpList_append_ints _ rfl _ _ rfl w.heap.size (.slice (some ⟨w.heap.size, 0, none⟩) 0 0) [] rfl (ho _ rfl) (.slice (some ⟨b, off, none⟩) l.length cap) l rfl (hS2 _) (by simp; omega) (by simp) ?_)
  intro v' w' h1 h2
  have hb : Below w.heap.size w w' := (ebox1 w _).grown h2 (by simp) (fun k hk => by simp [Value.ownBlock] at hk; omega)
  go_wp2
  go_ret
  exact ⟨_, rfl, h1, hb⟩

end Go.Proofs.Ytphgpadpffigjaa
namespace Go.Proofs.Ytphgpadpffigjaa
open Go.RowKit Go.Sort Go.Maps EchM

theorem sgnV_in {p : Int} {os : List Int} (hp : 2 ≤ p) : 1 ≤ sgnV p os ∧ sgnV p os < p := by unfold sgnV; split <;> omega
theorem lastV_in {p : Int} {M : List ((Int × Int × Int) × Int)} (hp : 0 < p) (h : ∀ q ∈ M, 0 ≤ q.2 ∧ q.2 < p) (e : Int × Int × Int) : 0 ≤ lastV M e ∧ lastV M e < p := by
  induction M with
  | nil => simp [lastV]; omega
  | cons q M ih =>
    obtain ⟨k, v⟩ := q
    have h1 := h (k, v) (by simp)
    have h2 := ih (fun q hq => h q (by simp [hq]))
    unfold lastV
    split
    · exact h2
    · split
      · exact h1
      · simp; omega
theorem ord_perm {d : Nat} (hd : 1 ≤ d ∧ d ≤ 3) {os : List Int} (ho : os ∈ ordL d (d ^ d)) : ∀ q, q < os.length → 0 ≤ nth os q ∧ nth os q < os.length := by
  rcases ord_all hd ho with ⟨rfl, rfl⟩ | ⟨rfl, rfl | rfl⟩ | ⟨rfl, rfl | rfl | rfl | rfl | rfl | rfl⟩ <;> decide +kernel

set_option maxRecDepth 8000 in
set_option maxHeartbeats 4000000 in
theorem isgn (p : Int) (vo : Value) (os : List Int) (d : Nat) (w : World) (hp2 : 2 ≤ p) (hp13 : p ≤ 13) (hd : 1 ≤ d ∧ d ≤ 3) (ho : os ∈ ordL d (d ^ d)) (hS : Sl w vo os) :
    Calls Try.prog 81 #[.int .i64 p, vo] w fun e w' => e = .returned (.int .i64 (sgnV p os)) ∧ Below w.heap.size w w' := by
  have hl13 : 1 ≤ os.length ∧ os.length ≤ 3 := by have := (ord_row hd ho).1; omega
  have hcl : (cyD os os.length).length ≤ os.length := cyD_len os os.length
  have HC := Lib.hid (icyc vo os w (by omega) (by omega) hS (ord_perm hd ho))
  have hsg : sgnB os = sgL os := sgnB_is hd ho
  obtain ⟨L, hL⟩ : ∃ L, (cyD os os.length).length = L := ⟨_, rfl⟩
  obtain ⟨a, c, rfl⟩ := hS.shape
  unfold sgnB at hsg
  rw [hL] at hsg hcl
  have HL := Lib.hid hL
  have hw1 : IntKind.i64.wrap ((os.length : Int) - (L : Int)) = ((os.length - L : Nat) : Int) := by rw [IntWalk.i64_in _ (by omega)]; omega
  have hwp : IntKind.i64.wrap (p - 1) = p - 1 := IntWalk.i64_in _ (by omega)
  obtain ⟨M, hM⟩ : ∃ M, os.length - L = M := ⟨_, rfl⟩
  rw [hM] at hsg hw1
  have hM3 : M ≤ 3 := by omega
  have HV : Hid (sgnV p os = if M % 2 = 1 then p - 1 else 1) := Lib.hid (by unfold sgnV; rw [← hsg]; simp)
  clear hsg hM hL hS hcl ho hd
  go_enter Try.func81, Try.ntmps81
  go_wp2_with fail
  ((with_reducible refine HC.out.mono ?_); rintro e w1 ⟨v1, rfl, hO1, hb1⟩)
  obtain ⟨b1, c1, hv1⟩ := hO1.sl.shape
  rw [HL.out] at hv1
  subst hv1
  clear hO1
  have h4 : M = 0 ∨ M = 1 ∨ M = 2 ∨ M = 3 := by omega
  rcases h4 with rfl | rfl | rfl | rfl
  all_goals
    go_wp2_with fail
    go_ret
    exact ⟨by rw [HV.out]; rfl, hb1⟩

set_option maxRecDepth 8000 in
set_option maxHeartbeats 4000000 in
theorem iclo (p : Int) (bp : Nat) (vo : Value) (os : List Int) (d : Nat) (w : World) (hp2 : 2 ≤ p) (hp13 : p ≤ 13) (hd : 1 ≤ d ∧ d ≤ 3) (ho : os ∈ ordL d (d ^ d)) (_hb : bp < w.heap.size) (hc : w.cell? ⟨bp, 0, none⟩ = some (.int .i64 p)) (hS : Sl w vo os) :
    Calls Try.prog 135 #[vo, .pointer (some ⟨bp, 0, none⟩)] w fun e w' => e = .returned (.int .i64 (sgnV p os)) ∧ Below w.heap.size w w' := by
  have HC := Lib.hid (isgn p vo os d w hp2 hp13 hd ho hS)
  clear ho hS
  go_enter Try.func135, Try.ntmps135
  go_wp2_with fail
  ((with_reducible refine HC.out.mono ?_); rintro e w1 ⟨rfl, hb1⟩)
  go_wp2_with fail
  go_ret
  exact ⟨rfl, hb1⟩

set_option maxRecDepth 100000 in
set_option maxHeartbeats 8000000 in
theorem isov (p : Int) (bp : Nat) (ve : Value) (es : List Int) (w : World) (hd : 1 ≤ es.length ∧ es.length ≤ 3) (hp2 : 2 ≤ p) (he : ∀ e ∈ es, 0 ≤ e ∧ e ≤ 255)
    (h12 : ∀ os ∈ ordL es.length (es.length ^ es.length), (keyO es os).1 + (keyO es os).2.1 + (keyO es os).2.2 ≤ 12) (hbp : bp < w.heap.size) (hcp : w.cell? ⟨bp, 0, none⟩ = some (.int .i64 p)) (hp13 : p ≤ 13) (hS : Sl w ve es) :
    Calls Try.prog 134 #[.int .i64 p, ve, .func (.func 135) #[] #[.pointer (some ⟨bp, 0, none⟩)]] w fun e w' => ∃ v' S, e = .returned (.agg #[.int .i64 p, .int .i64 es.length, v']) ∧ OwnP w' w.heap.size v' S ∧ IsP p S (lastV (altM p es (ordL es.length (es.length ^ es.length)))) ∧ Below w.heap.size w w' := by
  have hmm := @run_makeMap Try.prog
  obtain ⟨W0, hW0, hb0, ⟨h01, h02⟩, rr⟩ := newbox w 0 0 (.slice none 0 0)
  obtain ⟨W1, hW1, hb1, hs1, hm1⟩ : ∃ W1, W1 = W0.alloc (.map #[] 0) ∧ Below W0.heap.size W0 W1 ∧ (W1.heap.size ≤ W0.heap.size + 1 ∧ W0.heap.size + 1 ≤ W1.heap.size) ∧ MapE W1 W0.heap.size 0 (.map []) :=
    ⟨_, rfl, box1 W0 _, ⟨by simp, by simp⟩, World.ownsMap_made (H := Unit) W0 Try.prog 75 (plainElem Try.prog 2)⟩
  have rr1 := rowIs_below rr hb1 rr.lt
  have hw1 := hb0.trans (hb1.mono hb0.size)
  obtain ⟨ea, ec, rfl, _⟩ := id hS
  obtain ⟨L, hL⟩ : ∃ L, ordL es.length (es.length ^ es.length) = L := ⟨_, rfl⟩
  have HOR := Lib.hid (iorders es.length W1 hd)
  have HRW : Hid (∀ l ∈ L, l.length = es.length ∧ ∀ x ∈ l, 0 ≤ x ∧ x < 3) := Lib.hid (fun l hl => ord_row hd (by rw [hL]; exact hl))
  have HLL : Hid (L.length ≤ 27) := Lib.hid (by rw [← hL]; exact Nat.le_trans (ordL_len _ _) (pow_le27 hd (Nat.le_refl _)))
  rw [hL] at HOR h12
  have H12 := Lib.hid h12
  have HE := Lib.hid he
  have HLE := Lib.hid hL
  have haw := hS.away (g := W0.heap.size) (by omega)
  clear hL h12 he
  go_enter Try.func134, Try.ntmps134
  go_upto_region 1 with fail
  rw [← hW0]
  clear hW0
  go_upto_region 3 with fail
  rw [← hW1]
  clear hW1 hmm
  go_wp2_with fail
  ((with_reducible refine HOR.out.mono ?_); rintro e w4 ⟨v4, rfl, hO4, hb4⟩)
  obtain ⟨a4, c4, rfl⟩ := hO4.shape
  have rr4 := rowIs_below rr1 hb4 rr1.lt
  have hM4 : MapE w4 W0.heap.size 0 (.map []) := hm1.kept (row := none) ⟨hb4.os, hb4.tape, hb4.output, hb4.size, fun k hk _ => hb4.block k hk⟩ (by simp)
  have hw4 := hw1.trans (hb4.mono hw1.size)
  have hS4 := hS.below hw4
  have hm1lt := hm1.lt
  clear HOR rr rr1 hm1 hb4 hb0 hb1 hw1
  go_wp2_with fail
  go_loopg [17] L.length (fun g c wq => ∃ (j : Nat) (D : DataW Unit), j + g = L.length ∧ c = .int .i64 j ∧ MapE wq W0.heap.size j D ∧ Hid (∀ e, byte3 e → cf D e = lastV ((altM p es L).take j) e) ∧ w4.grownBy wq (some W0.heap.size))
  case atStart => exact ⟨0, _, by omega, rfl, hM4, Lib.hid (fun e _ => by rw [cf_empty]; rfl), ⟨rfl, rfl, rfl, Nat.le_refl _, fun _ _ _ => rfl⟩⟩
  case round =>
    clear hM4
    obtain ⟨j, D, hj, rfl, hM, HD, hg⟩ := hrel
    have hOq := hO4.kept hg hm1lt
    by_cases hlt : j < L.length
    · have hlt' : (j : Int) < (L.length : Int) := by omega
      obtain ⟨g2, hg2⟩ : ∃ g2, j + 1 + g2 = L.length := ⟨L.length - (j + 1), by omega⟩
      have HI := Lib.hid (And.intro hg2 (show g2 < gk by omega))
      have hSq := hS4.kept2 hg haw
      obtain ⟨_, _, hv, hcase⟩ := hOq.slR
      obtain ⟨b, off, rfl, hbb, hT⟩ : ∃ b off, a4 = some ⟨b, off, none⟩ ∧ b < wr.heap.size ∧ RowsW wr b off L := by
        rcases hcase with rfl | ⟨b, off, h1, h2, h3⟩
        · simp at hlt
        · exact ⟨b, off, by simp at hv; rw [hv.1, h1], h2, h3⟩
      obtain ⟨u, c0, s0⟩ := hT j hlt
      obtain ⟨r1, r2⟩ := HRW.out _ (List.getElem_mem hlt)
      have HIN := Lib.hid (iino (.slice ea es.length ec) u es L[j] wr (by rw [r1]; exact Nat.le_refl _) hd.2 HE.out r2 hSq s0 (by rw [r1]; omega))
      have hby := keyO_byte (os := L[j]) HE.out
      have hkey : keyOf Try.prog 75 (.agg #[.int .u8 (keyO es L[j]).1, .int .u8 (keyO es L[j]).2.1, .int .u8 (keyO es L[j]).2.2]) = some (kE (keyO es L[j])) := keyOf_vE (keyO es L[j]) hby
      have HCF : Hid (∀ e, byte3 e → cf (D.put (kE (keyO es L[j])) (.lit (.int .i64 (sgnV p L[j])))) e = lastV ((altM p es L).take (j + 1)) e) := Lib.hid (fun e he => by
        rw [cf_put hM.isMap hby he, List.take_succ_eq_append_getElem (by simpa [altM] using hlt), show (altM p es L)[j]'(by simpa [altM] using hlt) = (keyO es L[j], sgnV p L[j]) by simp [altM], lastV_snoc, HD.out e he])
      obtain ⟨sv0, sv1⟩ := sgnV_in (os := L[j]) hp2
      have hwf : (Lit.int .i64 (sgnV p L[j])).wf = true := wf64 (by omega) (by omega)
      have HSG := Lib.hid (fun w' (h : Below wr.heap.size wr w') => iclo p bp u L[j] es.length w' hp2 hp13 hd (by rw [HLE.out]; exact List.getElem_mem hlt) (Nat.lt_of_lt_of_le (Nat.lt_of_lt_of_le hbp (Nat.le_trans hw4.size hg.size)) h.size) ((h.cell (p := ⟨bp, 0, none⟩) (Nat.lt_of_lt_of_le hbp (Nat.le_trans hw4.size hg.size))).trans ((hg.cell_far ⟨bp, 0, none⟩ (Nat.lt_of_lt_of_le hbp hw4.size) (by simp; omega)).trans ((hw4.cell (p := ⟨bp, 0, none⟩) hbp).trans hcp))) (s0.below h))
      obtain ⟨sv, hsv⟩ : ∃ sv, sgnV p L[j] = sv := ⟨_, rfl⟩
      rw [hsv] at hwf HSG HCF
      clear hsv
      change Hid (Calls _ _ _ _ (fun e w' => e = .returned (.agg #[.int .u8 (keyO es L[j]).1, .int .u8 (keyO es L[j]).2.1, .int .u8 (keyO es L[j]).2.2]) ∧ _)) at HIN
      obtain ⟨K, hK⟩ : ∃ K, keyO es L[j] = K := ⟨_, rfl⟩
      rw [hK] at HIN hkey HCF
      have hj28 : j < 28 := by have := HLL.out; omega
      clear hK hby hSq hT hcase hv hj hg2 HD r1 r2 s0 hOq sv0 sv1
      obtain ⟨k0, k1, k2⟩ := K
      simp only at HIN hkey
      go_wp2_with fail
      ((with_reducible refine HIN.out.mono ?_); rintro e w5 ⟨rfl, hb5⟩)
      have hM5 : MapE w5 W0.heap.size j D := hM.kept (row := none) ⟨hb5.os, hb5.tape, hb5.output, hb5.size, fun k hk _ => hb5.block k hk⟩ (by simp)
      have hg5 : w4.grownBy w5 (some W0.heap.size) := ⟨hb5.os.trans hg.os, hb5.tape.trans hg.tape, hb5.output.trans hg.output, Nat.le_trans hg.size hb5.size, fun b hb hne => (hb5.block b (Nat.lt_of_lt_of_le hb hg.size)).trans (hg.block b hb hne)⟩
      clear hM hg HIN
      go_wp2_with fail
      ((with_reducible refine (HSG.out _ hb5).mono ?_); rintro e w6 ⟨rfl, hb6⟩)
      have hM6 := hM5.later hb6
      have hg6 : w4.grownBy w6 (some W0.heap.size) := hg5.trans (gBelow hb6)
      clear hM5 hg5 HSG
      go_wp2_with (at_mapUpdate; refine wpList_mapUpdate_own _ rfl _ _ _ 106 rfl 75 2 lawK Try.underlying106 (plainElem Try.prog 2) W0.heap.size j D rfl hM6 (by unfold maxLen; omega) (.agg #[.int .u8 k0, .int .u8 k1, .int .u8 k2]) _ _ rfl rfl hkey _ [] (plainElem_int Try.underlying2 hwf) ?_; intro w7 hown7 hgrow7)
      have hg7 : w4.grownBy w7 (some W0.heap.size) := hg6.trans hgrow7
      clear hM6 hg6 hgrow7 hb5 hb6
      go_wp2_with fail
      go_roundg g2
      case measure => exact HI.out.2
      case rel => exact ⟨j + 1, _, HI.out.1, by go_num, by simpa using hown7, HCF, hg7⟩
    · obtain rfl : j = L.length := by omega
      have hcf : ∀ e, byte3 e → cf D e = lastV (altM p es L) e := fun e he => by
        rw [HD.out e he, List.take_of_length_le (by simp [altM])]
      have hi12 : ∀ e, byte3 e → lastV (altM p es L) e ≠ 0 → e.1 + e.2.1 + e.2.2 ≤ 12 := fun e _ hne => by
        have hmem : e ∈ (altM p es L).map (·.1) := Classical.byContradiction fun h => hne (lastV_none h)
        simp only [altM, List.map_map, List.mem_map] at hmem
        obtain ⟨os, h1, rfl⟩ := hmem
        exact H12.out os h1
      have hib : ∀ e, byte3 e → 0 ≤ lastV (altM p es L) e ∧ lastV (altM p es L) e < p := fun e _ => lastV_in (by omega) (fun q hq => by
        simp only [altM, List.mem_map] at hq
        obtain ⟨os, _, rfl⟩ := hq
        have := sgnV_in (os := os) hp2
        exact ⟨by omega, this.2⟩) e
      have HG : Hid (∀ S, Good D S → IsP p S (lastV (altM p es L))) := Lib.hid (fun S h => h.isP hcf hib hi12)
      have HPO := Lib.hid (polyOf_any sort_says p es.length W0.heap.size _ D wr hM (by have := HLL.out; omega) (fun e he hc => hi12 e he (by rw [← hcf e he]; exact hc)))
      have hne0 : w.heap.size ≠ W0.heap.size := by omega
      have rrW : wr.rowIs w.heap.size 36 3 (polyF 0 0 (.slice none 0 0)) := rr4.of_block (hg.block _ rr4.lt (by simpa using hne0))
      have hbw : Below w.heap.size w wr := hw4.grown hg hw4.size (fun q hq => by cases hq; omega)
      clear hcf hi12 hib hM hg HD hO4 hS4 hw4 rr4
      go_wp2_with fail
      ((with_reducible refine HPO.out.mono ?_); rintro e w5 ⟨v5, S, rfl, ho5, hgood, hb5⟩)
      have HIS := Lib.hid (HG.out S hgood)
      obtain ⟨sa, sc, rfl⟩ := owns_slice ho5
      have rr5 := rowIs_below rrW hb5 rrW.lt
      obtain ⟨⟨r0, r1, r2⟩, z0, z1, z2⟩ := poly3 rr5
      obtain ⟨a0, a1, a2, a3, a4⟩ := fill_box rr5 ho5 hbw.size (hbw.trans (hb5.mono hbw.size)) (Nat.le_refl _) p es.length
      have A0 := Lib.hid a0
      have A1 := Lib.hid a1
      have A2 := Lib.hid a2
      have A3 := Lib.hid a3
      have A4 := Lib.hid a4
      clear a0 a1 a2 a3 a4 ho5 hgood rr5 rrW hbw hb5
      go_wp2_with fail
      refine bodyPost_ret (v := .agg #[.int .i64 p, .int .i64 es.length, .slice sa S.length sc]) (by simp [results, Try.results134, go_sem, A0.out, A1.out, A2.out]) rfl ⟨_, S, rfl, A3.out, ?_, A4.out⟩
      rw [HLE.out]
      exact HIS.out

end Go.Proofs.Ytphgpadpffigjaa
namespace Go.Proofs.Ytphgpadpffigjaa
open Go.RowKit Go.Sort Go.Maps EchM

def altF (l : List Int) (q : Nat) : Int := nth l q + ((l.length - 1 - q : Nat) : Int)
/-- The exponents of the alternant of a list. -/
def altE (l : List Int) : List Int := (List.range l.length).map (altF l)
theorem altE_len (l : List Int) : (altE l).length = l.length := by simp [altE]
def stepF (l : List Int) (k q : Nat) : Int := if q < k then altF l q else nth l q

set_option maxRecDepth 100000 in
set_option maxHeartbeats 4000000 in
theorem ialt (p : Int) (v : Value) (l : List Int) (w : World) (hd : 1 ≤ l.length ∧ l.length ≤ 3) (hp2 : 2 ≤ p) (hp13 : p ≤ 13) (hl : ∀ x ∈ l, 0 ≤ x ∧ x ≤ 12)
    (h12 : ∀ os ∈ ordL l.length (l.length ^ l.length), (keyO (altE l) os).1 + (keyO (altE l) os).2.1 + (keyO (altE l) os).2.2 ≤ 12) (hS : Sl w v l) :
    Calls Try.prog 114 #[.int .i64 p, v] w fun e w' => ∃ v' S, e = .returned (.agg #[.int .i64 p, .int .i64 l.length, v']) ∧ OwnP w' w.heap.size v' S ∧ IsP p S (lastV (altM p (altE l) (ordL l.length (l.length ^ l.length)))) ∧ Below w.heap.size w w' := by
  obtain ⟨W0, hW0, hb0, ⟨h01, h02⟩, hc0⟩ : ∃ W0, W0 = w.alloc (.cells #[.int .i64 p] 2) ∧ Below w.heap.size w W0 ∧ (W0.heap.size ≤ w.heap.size + 1 ∧ w.heap.size + 1 ≤ W0.heap.size) ∧ W0.rowIs w.heap.size 2 1 (fun _ => .int .i64 p) :=
    ⟨_, rfl, ebox1 _ _, ⟨by simp, by simp⟩, World.rowIs_alloc w #[Value.int .i64 p] _ _ (fun i hi => by simp at hi; subst hi; rfl)⟩
  obtain ⟨W, hW, hb1, ⟨h11, h12'⟩, rr⟩ := newbox W0 0 0 (.slice none 0 0)
  have hs0 : W0.heap.size = w.heap.size + 1 := by omega
  rw [hs0] at rr
  have hwW := hb0.trans (hb1.mono hb0.size)
  have rc := rowIs_below hc0 hb1 hc0.lt
  obtain ⟨a, cap, rfl⟩ := hS.shape
  have HCL := Lib.hid (gclone _ l W (by omega) (by omega) (hS.below hwW))
  have H12 := Lib.hid h12
  have HLB : Hid (∀ q, q < l.length → 0 ≤ nth l q ∧ nth l q ≤ 12) := Lib.hid (fun q hq => by rw [nth_lt hq]; exact hl _ (List.getElem_mem hq))
  have hWs : w.heap.size + 2 ≤ W.heap.size := by omega
  obtain ⟨n, hn⟩ : ∃ n, l.length = n := ⟨_, rfl⟩
  have HN := Lib.hid hn
  have hn13 : 1 ≤ n ∧ n ≤ 3 := by omega
  clear h12 hl hb0 hb1 h01 h02 h11 h12' hc0 hS hs0
  rw [hn] at HCL HLB ⊢
  go_enter Try.func114, Try.ntmps114
  go_upto_region 1 with fail
  rw [← hW0, ← hW]
  clear hW0 hW hn hd
  go_wp2_with fail
  ((with_reducible refine HCL.out.mono ?_); rintro e w1 ⟨v1, rfl, hO1, hb1⟩)
  have rr1 := rowIs_below rr hb1 rr.lt
  have rc1 := rowIs_below rc hb1 rc.lt
  have hw1 := hwW.trans (hb1.mono hwW.size)
  obtain ⟨g, gc, hv1, hgb, hR1⟩ := ownV_rowF hO1.toV (by rw [HN.out]; omega)
  rw [HN.out] at hv1 hR1
  subst hv1
  have hR1' : RowF w1 g n (stepF l 0) := hR1.congr (fun q _ => by simp [stepF])
  clear hO1 hR1 hb1 rr rc HCL
  go_wp2_with fail
  go_loopw [11] (fun i wq => ∃ k : Nat, k ≤ n ∧ i = .int .i64 k ∧ RowF wq g n (stepF l k) ∧ wq.rowIs (w.heap.size + 1) 36 3 (polyF 0 0 (.slice none 0 0)) ∧ wq.rowIs w.heap.size 2 1 (fun _ => .int .i64 p) ∧ Below w.heap.size w wq) (fun i _ => n - (intOf i).toNat)
  case atStart => exact ⟨0, by omega, rfl, hR1', rr1, rc1, hw1⟩
  case round =>
    clear hR1' rr1 rc1 hw1
    obtain ⟨k, hk, rfl, hR, hr, hc, hb⟩ := hrel
    by_cases hlt : k < n
    · have hlt' : (k : Int) < (n : Int) := by omega
      have c0 := hR.cell hlt
      have z0 := hR.frozen k
      obtain ⟨b0, b1⟩ := HLB.out k hlt
      have HX : Hid (stepF l k k = nth l k ∧ altF l k = nth l k + ((n : Int) - 1 - k)) := Lib.hid ⟨by simp [stepF], by unfold altF; rw [HN.out]; omega⟩
      obtain ⟨x, hx⟩ : ∃ x, nth l k = x := ⟨_, rfl⟩
      rw [hx] at b0 b1 HX
      rw [HX.out.1] at c0
      have hw1 : IntKind.i64.wrap ((n : Int) - 1) = (n : Int) - 1 := IntWalk.i64_in _ (by omega)
      have hw2 : IntKind.i64.wrap ((n : Int) - 1 - k) = (n : Int) - 1 - k := IntWalk.i64_in _ (by omega)
      have hw3 : IntKind.i64.wrap (x + ((n : Int) - 1 - k)) = x + ((n : Int) - 1 - k) := IntWalk.i64_in _ (by omega)
      have hR2 : RowF (wr.setCell ⟨g, k, none⟩ (.int .i64 (x + ((n : Int) - 1 - k)))) g n (stepF l (k + 1)) := hR.set k _ (fun q hq => by
        by_cases e : q = k
        · subst e; rw [if_pos rfl, ← HX.out.2]; unfold stepF; rw [if_pos (by omega)]
        · rw [if_neg e]
          unfold stepF
          by_cases e2 : q < k
          · rw [if_pos e2, if_pos (by omega)]
          · rw [if_neg e2, if_neg (by omega)])
      have hr2 := hr.setOther (a := ⟨g, k, none⟩) (by show w.heap.size + 1 ≠ g; omega) (.int .i64 (x + ((n : Int) - 1 - k)))
      have hc2 := hc.setOther (a := ⟨g, k, none⟩) (by show w.heap.size ≠ g; omega) (.int .i64 (x + ((n : Int) - 1 - k)))
      have hb2 := hb.setCell (p := ⟨g, k, none⟩) (by show w.heap.size ≤ g; omega) (.int .i64 (x + ((n : Int) - 1 - k)))
      have HR := Lib.hid (And.intro hR2 (And.intro hr2 (And.intro hc2 hb2)))
      clear hR hr hc hb hR2 hr2 hc2 hb2 hx
      go_wp2_with fail
      go_roundw
      case rel => exact ⟨k + 1, by omega, by go_num, HR.out.1, HR.out.2.1, HR.out.2.2.1, HR.out.2.2.2⟩
      case measure => simp [intOf]; omega
    · obtain rfl : n = k := by omega
      have hEV : OwnV wr W.heap.size (.slice (some ⟨g, 0, none⟩) n gc) (altE l) := hR.toV hgb (by
        unfold altE
        rw [HN.out]
        refine List.map_congr_left fun q hq => ?_
        unfold stepF
        rw [if_pos (List.mem_range.1 hq)])
      have hel : (altE l).length = n := by rw [altE_len, HN.out]
      have hcp : wr.cell? ⟨w.heap.size, 0, none⟩ = some (.int .i64 p) := hc.cell (i := 0) (by omega)
      have hEB : ∀ e ∈ altE l, 0 ≤ e ∧ e ≤ 255 := fun e he => by
        unfold altE at he
        obtain ⟨q, hq, rfl⟩ := List.mem_map.1 he
        have hq' := List.mem_range.1 hq
        rw [HN.out] at hq'
        have := HLB.out q hq'
        have := HN.out
        unfold altF
        omega
      have HSO := Lib.hid (isov p w.heap.size _ (altE l) wr (by rw [hel]; exact hn13) hp2 hEB (by rw [hel]; exact (by have := H12.out; rwa [HN.out] at this)) hc.lt hcp hp13 hEV.sl)
      rw [hel] at HSO
      have HN2 := HN
      clear hEV hel hR hEB
      go_wp2_with fail
      ((with_reducible refine HSO.out.mono ?_); rintro e w5 ⟨v5, S, rfl, ho5, hI, hb5⟩)
      have HIS := Lib.hid hI
      obtain ⟨sa, sc, rfl⟩ := owns_slice ho5
      have rr5 := rowIs_below hr hb5 hr.lt
      obtain ⟨⟨r0, r1, r2⟩, z0, z1, z2⟩ := poly3 rr5
      obtain ⟨a0, a1, a2, a3, a4⟩ := fill_box (w := w) rr5 ho5 hb.size (hb.trans (hb5.mono hb.size)) (Nat.le_succ _) p n
      have A0 := Lib.hid a0
      have A1 := Lib.hid a1
      have A2 := Lib.hid a2
      have A3 := Lib.hid a3
      have A4 := Lib.hid a4
      clear a0 a1 a2 a3 a4 ho5 hI rr5 hr hb5 hb hc hcp HSO
      go_wp2_with fail
      exact bodyPost_ret (v := .agg #[.int .i64 p, .int .i64 n, .slice sa S.length sc]) (by simp [results, Try.results114, go_sem, A0.out, A1.out, A2.out]) rfl ⟨_, S, rfl, A3.out, HIS.out, A4.out⟩

theorem vd_alt {d : Nat} (hd : 1 ≤ d ∧ d ≤ 3) : altE (List.replicate d 0) = vdE d := by
  have : d = 1 ∨ d = 2 ∨ d = 3 := by omega
  rcases this with rfl | rfl | rfl <;> decide +kernel
theorem vd_sum {d : Nat} (hd : 1 ≤ d ∧ d ≤ 3) : ∀ os ∈ ordL d (d ^ d), (keyO (vdE d) os).1 + (keyO (vdE d) os).2.1 + (keyO (vdE d) os).2.2 ≤ 12 := by
  have : d = 1 ∨ d = 2 ∨ d = 3 := by omega
  rcases this with rfl | rfl | rfl <;> decide +kernel
theorem vd_mono {p : Int} {d : Nat} (hp : 2 ≤ p) (hd : 1 ≤ d ∧ d ≤ 3) : ∀ q ∈ altM p (vdE d) (ordL d (d ^ d)), mono12 q.1 ∧ 0 ≤ q.2 ∧ q.2 < p := fun q hq => by
  simp only [altM, List.mem_map] at hq
  obtain ⟨os, ho, rfl⟩ := hq
  have h1 := sgnV_in (os := os) hp
  refine ⟨⟨keyO_byte (fun e he => ?_), vd_sum hd os ho⟩, by omega, h1.2⟩
  have : d = 1 ∨ d = 2 ∨ d = 3 := by omega
  rcases this with rfl | rfl | rfl <;> simp [vdE] at he <;> omega

theorem primes_of {p : Int} (h : primeB p = true) : p ∈ ([2, 3, 5, 7, 11, 13] : List Int) := by
  simp [primeB] at h ⊢; omega
/-- The alternant of zeros is the model's product. -/
theorem vd_is {p : Int} {d : Nat} (hp : primeB p = true) (hd : 1 ≤ d ∧ d ≤ 3) {S : List Tm} (h : IsP p S (lastV (altM p (vdE d) (ordL d (d ^ d))))) : S = vdT p d := by
  have hp2 := (prime_le hp).1
  have hd3 : d ∈ ([1, 2, 3] : List Nat) := by simp; omega
  have h1 := putAll_is hp2 _ (vd_mono hp2 hd) (vd_nodup p (primes_of hp) d hd3)
  rw [vd_same p (primes_of hp) d hd3] at h1
  exact h.unique h1

set_option maxRecDepth 100000 in
set_option maxHeartbeats 4000000 in
theorem ivan (p : Int) (d : Nat) (w : World) (hp : primeB p = true) (hd : 1 ≤ d ∧ d ≤ 3) :
    Calls Try.prog 74 #[.int .i64 p, .int .i64 (d : Int)] w fun e w' => ∃ v', e = .returned (.agg #[.int .i64 p, .int .i64 d, v']) ∧ OwnP w' w.heap.size v' (vdT p d) ∧ Below w.heap.size w w' := by
  obtain ⟨hp2, hp13⟩ := prime_le hp
  obtain ⟨i0, hi, hz0, hz1, hz2⟩ := info_parts einfoI
  have hmk : ∀ w, (Instr.makeSlice 61 (.int .i64 (d : Int)) (.int .i64 (d : Int))).run Try.prog w = .ok (.slice (some ⟨w.heap.size, 0, none⟩) d d) (w.alloc (.cells (madeCells #[.int .i64 0] d) 2)) := fun w => by
    have h := run_make (P := Try.prog) w 61 2 i0 _ Try.underlying61 hi hz0 .i64 .i64 (d : Int) (d : Int) (by omega) (by omega) (by rw [hz2]; omega) (by omega)
    rw [hz1] at h
    simpa [Value.cells] using h
  clear hi hz0 hz1 hz2
  obtain ⟨W, hW, hbW, ⟨hWs1, hWs2⟩, rr⟩ := newbox w 0 0 (.slice none 0 0)
  obtain ⟨V, hV, r2, hb2⟩ : ∃ V, V = W.alloc (.cells (madeCells #[.int .i64 0] d) 2) ∧ V.rowIs W.heap.size 2 d (fun _ => .int .i64 0) ∧ Below W.heap.size W V := ⟨_, rfl, World.rowIs_made W (.int .i64 0) d _, ebox1 _ _⟩
  have hRF : RowF V W.heap.size d (fun _ => 0) := ⟨d, _, Nat.le_refl _, r2, fun q _ => rfl⟩
  have hSV : Sl V (.slice (some ⟨W.heap.size, 0, none⟩) d d) (List.replicate d 0) := (hRF.toV (base := W.heap.size) (S := List.replicate d 0) (Nat.le_refl _) (by simp [List.map_const'])).sl
  have hwV := hbW.trans (hb2.mono hbW.size)
  have rrV := rowIs_below rr hb2 rr.lt
  have HAL := Lib.hid (ialt p _ (List.replicate d 0) V (by simpa using hd) hp2 hp13 (fun x hx => by have := List.eq_of_mem_replicate hx; omega) (by rw [vd_alt hd, List.length_replicate]; exact vd_sum hd) hSV)
  rw [vd_alt hd, List.length_replicate] at HAL
  have HVD := Lib.hid (fun S h => vd_is (S := S) hp hd h)
  clear hp hd r2 hRF hSV rr
  go_enter Try.func74, Try.ntmps74
  go_upto_region 1 with fail
  rw [← hW]
  clear hW
  go_wp2_with fail
  rw [← hV]
  clear hV hmk
  ((with_reducible refine HAL.out.mono ?_); rintro e w5 ⟨v5, S, rfl, ho5, hI, hb5⟩)
  obtain rfl := HVD.out S hI
  obtain ⟨sa, sc, rfl⟩ := owns_slice ho5
  have rr5 := rowIs_below rrV hb5 rrV.lt
  obtain ⟨⟨r0, r1, r2⟩, z0, z1, z2⟩ := poly3 rr5
  obtain ⟨a0, a1, a2, a3, a4⟩ := fill_box (w := w) rr5 ho5 hwV.size (hwV.trans (hb5.mono hwV.size)) (Nat.le_refl _) p d
  have A0 := Lib.hid a0
  have A1 := Lib.hid a1
  have A2 := Lib.hid a2
  have A3 := Lib.hid a3
  have A4 := Lib.hid a4
  clear a0 a1 a2 a3 a4 ho5 hI rr5 rrV hb5 hwV HAL
  go_wp2_with fail
  exact bodyPost_ret (v := .agg #[.int .i64 p, .int .i64 d, .slice sa (vdT p d).length sc]) (by simp [results, Try.results74, go_sem, A0.out, A1.out, A2.out]) rfl ⟨_, rfl, A3.out, A4.out⟩
end Go.Proofs.Ytphgpadpffigjaa
namespace Go.Proofs.Ytphgpadpffigjaa
open Go.RowKit Go.Sort Go.Maps

def tmF (x y z u : Int) (i : Nat) : Value := #[Value.int .u8 x, .int .u8 y, .int .u8 z, .int .i64 u].getD i undef

theorem trow (w : World) (x y z u : Int) : (w.alloc (.cells #[.int .u8 x, .int .u8 y, .int .u8 z, .int .i64 u] 92)).rowIs w.heap.size 92 4 (tmF x y z u) :=
  World.rowIs_alloc w #[Value.int .u8 x, .int .u8 y, .int .u8 z, .int .i64 u] _ _ (fun i hi => by simp at hi; match i, hi with | 0, _ => rfl | 1, _ => rfl | 2, _ => rfl | 3, _ => rfl)
theorem trow1 (w : World) (o : Obj) (x y z u : Int) : ((w.alloc o).alloc (.cells #[.int .u8 x, .int .u8 y, .int .u8 z, .int .i64 u] 92)).rowIs (w.heap.size + 1) 92 4 (tmF x y z u) := by
  have := trow (w.alloc o) x y z u
  rwa [World.size_alloc] at this

set_option maxRecDepth 8000 in
set_option maxHeartbeats 16000000 in
theorem specTimes_some (p d : Int) (v v' : Value) (xs ys : List Tm) (w : World) (hS : SliceT w v xs) (hS' : SliceT w v' ys) (hV : Valid p d xs) (hV' : Valid p d ys) (hx0 : xs ≠ []) (hy0 : ys ≠ []) (hd : degI xs + degI ys ≤ 12) :
    Calls Try.prog 56 #[.agg #[.int .i64 p, .int .i64 d, v], .agg #[.int .i64 p, .int .i64 d, v']] w fun e w' =>
      ∃ v' L, e = .returned (.tuple #[.agg #[.int .i64 p, .int .i64 d, v'], .bool true]) ∧ OwnP w' w.heap.size v' L ∧ IsP p L (mulF p xs ys) ∧ Below w.heap.size w w' := by
  have hfit : Fits xs ys := fits_of hV hV' (.inr (.inr hd))
  have hp2 := hV.p2
  have hp13 := hV.p13
  have hlx := hV.isP.len
  have hly := hV'.isP.len
  have hbx := hV.byte
  have hby := hV'.byte
  obtain ⟨dx1, dx2⟩ := deg_bound hV
  obtain ⟨dy1, dy2⟩ := deg_bound hV'
  obtain ⟨a, cap, rfl, _⟩ := id hS
  obtain ⟨a', cap', rfl, _⟩ := id hS'
  obtain ⟨W, hW, hbW, ⟨hWs1, hWs2⟩, rx, ry, rr⟩ := pair3 w p d (.slice a xs.length cap) p d (.slice a' ys.length cap')
  obtain ⟨⟨c0, c1, c2⟩, _⟩ := poly3 rx
  go_enter Try.func56, Try.ntmps56
  go_wp2_with fail
  rw [← hW]
  clear hW c0 c1 c2
  ((with_reducible refine (empty_any p d W).mono ?_); rintro e w1 ⟨rfl, hown, hb1⟩)
  obtain ⟨V, hV1, hbV, ⟨hVs1, hVs2⟩, rq⟩ : ∃ V, V = w1.alloc (.cells #[.int .i64 p, .int .i64 d, .slice (some ⟨W.heap.size + 1, 0, none⟩) 0 0] 36) ∧ Below w1.heap.size w1 V ∧ (V.heap.size ≤ w1.heap.size + 1 ∧ w1.heap.size + 1 ≤ V.heap.size) ∧
      V.rowIs w1.heap.size 36 3 (polyF p d (.slice (some ⟨W.heap.size + 1, 0, none⟩) 0 0)) := by
    refine ⟨_, rfl, box1 _ _, ⟨by simp, by simp⟩, ?_⟩
    exact World.rowIs_alloc w1 #[Value.int .i64 p, .int .i64 d, .slice (some ⟨W.heap.size + 1, 0, none⟩) 0 0] _ _ (fun i hi => by simp at hi; match i, hi with | 0, _ => rfl | 1, _ => rfl | 2, _ => rfl)
  have s1 := hb1.size
  have hbWV := hb1.trans (hbV.mono hb1.size)
  have hst : Part2 w V W.heap.size w1.heap.size w.heap.size (w.heap.size + 1) (w.heap.size + 2) p d p d (.slice a xs.length cap) (.slice a' ys.length cap') (.slice (some ⟨W.heap.size + 1, 0, none⟩) 0 0) [] :=
    ⟨⟨owns_belowT hown hbV, rq, rowIs_below rx hbWV rx.lt, rowIs_below rr hbWV rr.lt, hbW.trans (hbWV.mono hbW.size), by omega, by omega, by omega, by omega, by omega, by omega⟩, rowIs_below ry hbWV ry.lt, by omega⟩
  have rx1 := rowIs_below rx hb1 rx.lt
  have ry1 := rowIs_below ry hb1 ry.lt
  have xo : ∀ o, (w1.alloc o).cell? ⟨w.heap.size, 2, none⟩ = some (.slice a xs.length cap) := fun o => ((box1 w1 o).cell rx1.lt).trans (poly3 rx1).1.2.2
  have yo : ∀ o, (w1.alloc o).cell? ⟨w.heap.size + 1, 2, none⟩ = some (.slice a' ys.length cap') := fun o => ((box1 w1 o).cell ry1.lt).trans (poly3 ry1).1.2.2
  have hz : ((xs.length : Int) == 0) = false := by simpa using hx0
  have hz' : ((ys.length : Int) == 0) = false := by simpa using hy0
  have hSV := hS.below hst.part.below
  have hSV' := hS'.below hst.part.below
  obtain ⟨⟨c0, c1, c2⟩, _⟩ := poly3 hst.part.arg
  obtain ⟨⟨d0, d1, d2⟩, _⟩ := poly3 hst.arg2
  have u0 := cell_regrown c0
  have u1 := cell_regrown c1
  have u2 := cell_regrown c2
  have t0 := cell_regrown d0
  have t1 := cell_regrown d1
  have t2 := cell_regrown d2
  have hw : IntKind.i64.wrap (degI xs + degI ys) = degI xs + degI ys := IntWalk.i64_in _ (by omega)
  have kx : ∀ dd os, Calls Try.prog 43 #[.agg #[.int .i64 p, .int .i64 d, .slice a xs.length cap]] (grow (redrawn V dd) os) fun e w'' => e = .returned (.int .i64 (degI xs)) ∧ ∃ p : Regrown, w'' = grow (redrawn V p.d) p.os := fun dd os =>
    Calls.regrown_of (specDegree_any p d _ xs _ (by omega) (hSV.below (below_regrown V dd os)) hbx)
  have ky : ∀ dd os, Calls Try.prog 43 #[.agg #[.int .i64 p, .int .i64 d, .slice a' ys.length cap']] (grow (redrawn V dd) os) fun e w'' => e = .returned (.int .i64 (degI ys)) ∧ ∃ p : Regrown, w'' = grow (redrawn V p.d) p.os := fun dd os =>
    Calls.regrown_of (specDegree_any p d _ ys _ (by omega) (hSV'.below (below_regrown V dd os)) hby)
  generalize degI xs = gx at *
  generalize degI ys = gy at *
  have hle : ¬ 12 < gx + gy := by omega
  have hle2 : decide (12 < gx + gy) = false := by simpa using hle
  clear rx ry rr rq hown rx1 ry1 hbx hby hSV hSV'
  go_wp2_with fail
  rw [← hV1]
  clear hV1 xo yo
  refine wp_region_quiet_below (by kernel_rfl) (by kernel_rfl) ?_
  repeat (go_big_quiet_step (first | with_reducible exact kx _ _ | with_reducible exact ky _ _))
  refine wpQuiet_nil ?_
  intro _ hw'
  obtain ⟨⟨dq, osq⟩, hw''⟩ := hw'
  subst hw''
  have hst2 := hst.later (below_regrown V dq osq)
  clear hst kx ky u0 u1 u2 t0 t1 t2 c0 c1 c2 d0 d1 d2
  generalize grow (redrawn V dq) osq = V2 at *
  try simp only [hw]
  go_wp2_with fail
  go_loopw [7] (fun j wr => ∃ (i : Nat) (sv : Value) (O : List Tm), i ≤ xs.length ∧ j = .int .i64 i ∧ Hid (IsP p O (mulF p (xs.take i) ys)) ∧ Part2 w wr W.heap.size w1.heap.size w.heap.size (w.heap.size + 1) (w.heap.size + 2) p d p d (.slice a xs.length cap) (.slice a' ys.length cap') sv O) (fun j _ => xs.length - (intOf j).toNat)
  case atStart => exact ⟨0, _, [], by omega, rfl, Lib.hid ((IsP.nil p).congr fun e _ => by simp [mulF_nil]), hst2⟩
  case round =>
    clear hst2
    obtain ⟨i, sv, O, hi, rfl, HO, hB⟩ := hrel
    obtain ⟨wo, rfl⟩ : ∃ wo : World, wo = wr := ⟨_, rfl⟩
    obtain ⟨⟨x0, x1, x2⟩, _⟩ := poly3 hB.part.arg
    by_cases hlt1 : i < xs.length
    · have hlt' : (i : Int) < (xs.length : Int) := by omega
      go_wp2_with fail
      go_loopw [8] (fun j wr => ∃ (k : Nat) (sv : Value) (O : List Tm), k ≤ ys.length ∧ j = .int .i64 k ∧ Hid (IsP p O (prt p xs ys i xs[i] k)) ∧ Part2 w wr W.heap.size w1.heap.size w.heap.size (w.heap.size + 1) (w.heap.size + 2) p d p d (.slice a xs.length cap) (.slice a' ys.length cap') sv O) (fun j _ => ys.length - (intOf j).toNat)
      case atStart => exact ⟨0, _, _, by omega, rfl, Lib.hid (HO.out.congr fun e _ => (prt_zero p xs ys i xs[i] e).symm), hB⟩
      case round =>
        clear hB HO x0 x1 x2
        obtain ⟨k, sv, O, hk, rfl, HO, hB⟩ := hrel
        have hSr := hS.below hB.part.below
        have hSr' := hS'.below hB.part.below
        obtain ⟨sa, sc, rfl⟩ := owns_slice hB.part.rows
        obtain ⟨⟨x0, x1, x2⟩, _⟩ := poly3 hB.part.arg
        obtain ⟨⟨y0, y1, y2⟩, _⟩ := poly3 hB.arg2
        obtain ⟨⟨q0, q1, q2⟩, z0, z1, z2⟩ := poly3 hB.part.out
        by_cases hlt2 : k < ys.length
        · have hlt2' : (k : Int) < (ys.length : Int) := by omega
          obtain ⟨A1, cap1, hv1, hcase1⟩ := hSr
          simp at hv1
          obtain ⟨rfl, rfl⟩ := hv1
          rcases hcase1 with h0 | ⟨b1, off1, rfl, hltb1, hTx⟩
          · rw [h0] at hlt1; exact absurd hlt1 (by simp)
          obtain ⟨A2, cap2, hv2, hcase2⟩ := hSr'
          simp at hv2
          obtain ⟨rfl, rfl⟩ := hv2
          rcases hcase2 with h0 | ⟨b2, off2, rfl, hltb2, hTy⟩
          · rw [h0] at hlt2; exact absurd hlt2 (by simp)
          obtain ⟨c0, c1, c2, c3⟩ := hTx i hlt1
          obtain ⟨d0, d1, d2, d3⟩ := hTy k hlt2
          obtain ⟨⟨⟨bx, by1, bz⟩, hs12⟩, bv1, bv2⟩ := hV.mem xs[i] (List.getElem_mem _)
          obtain ⟨⟨⟨bx', by1', bz'⟩, hs12'⟩, bv1', bv2'⟩ := hV'.mem ys[k] (List.getElem_mem _)
          have hft := hfit xs[i] (List.getElem_mem _) ys[k] (List.getElem_mem _)
          have hE : mono12 (addE (tmE xs[i]) (tmE ys[k])) := addE_mono ⟨bx, by1, bz⟩ ⟨bx', by1', bz'⟩ hft
          have HP : Hid (IsP p (putL p O (addE (tmE xs[i]) (tmE ys[k])) (xs[i].2.2.2 * ys[k].2.2.2)) (prt p xs ys i xs[i] (k + 1))) := Lib.hid ((HO.out.put hp2 hE (xs[i].2.2.2 * ys[k].2.2.2)).congr fun e _ => (prt_step p xs ys i xs[i] k hlt2 e).symm)
          have HO' := Lib.hid HO.out
          clear HO
          generalize hF : prt p xs ys i xs[i] k = F at HO'
          generalize hF' : prt p xs ys i xs[i] (k + 1) = F' at HP ⊢
          simp only [tmE] at bx by1 bz bx' by1' bz'
          simp only [addE, tmE] at HP hE
          clear hF
          generalize hx : xs[i].1 = x at bx by1 bz c0 hft HP hE
          generalize hy : xs[i].2.1 = y at bx by1 bz c1 hft HP hE
          generalize hz2 : xs[i].2.2.1 = z at bx by1 bz c2 hft HP hE
          generalize hv : xs[i].2.2.2 = u at bv1 bv2 c3 HP
          generalize hx' : ys[k].1 = x' at bx' by1' bz' d0 hft HP hE
          generalize hy' : ys[k].2.1 = y' at bx' by1' bz' d1 hft HP hE
          generalize hz' : ys[k].2.2.1 = z' at bx' by1' bz' d2 hft HP hE
          generalize hv' : ys[k].2.2.2 = u' at bv1' bv2' d3 HP
          have hE1 : byte3 (x + x', y + y', z + z') := (show mono12 (x + x', y + y', z + z') from hE).1
          clear hE hx hy hz2 hv hx' hy' hz' hv' hTx hTy hs12 hs12'
          have g1 : 0 ≤ u * u' := Int.mul_nonneg (by omega) (by omega)
          have g2 : u * u' ≤ 13 * 13 := Int.mul_le_mul (by omega) (by omega) (by omega) (by omega)
          have w0 : IntKind.i64.wrap (u * u') = u * u' := IntWalk.i64_in _ (by omega)
          have w1' : IntKind.u8.wrap (x + x') = x + x' := IntWalk.u8_in _ (by omega)
          have w2' : IntKind.u8.wrap (y + y') = y + y' := IntWalk.u8_in _ (by omega)
          have w3' : IntKind.u8.wrap (z + z') = z + z' := IntWalk.u8_in _ (by omega)
          have hla := hB.part.arg.lt
          have hla' := hB.arg2.lt
          have KK := Lib.hid (fun w' (h : Below wr.heap.size wr w') => show ((w'.cell? ⟨w.heap.size, 2, none⟩ = some (.slice (some ⟨b1, off1, none⟩) xs.length cap) ∧ w'.cell? ⟨w.heap.size + 1, 2, none⟩ = some (.slice (some ⟨b2, off2, none⟩) ys.length cap')) ∧ (w'.cell? ⟨b1, off1 + i * 4, none⟩ = some (.int .u8 x) ∧ w'.cell? ⟨b1, off1 + i * 4 + 1, none⟩ = some (.int .u8 y) ∧ w'.cell? ⟨b1, off1 + i * 4 + 2, none⟩ = some (.int .u8 z) ∧ w'.cell? ⟨b1, off1 + i * 4 + 3, none⟩ = some (.int .i64 u)) ∧ (w'.cell? ⟨b2, off2 + k * 4, none⟩ = some (.int .u8 x') ∧ w'.cell? ⟨b2, off2 + k * 4 + 1, none⟩ = some (.int .u8 y') ∧ w'.cell? ⟨b2, off2 + k * 4 + 2, none⟩ = some (.int .u8 z') ∧ w'.cell? ⟨b2, off2 + k * 4 + 3, none⟩ = some (.int .i64 u'))) from
            ⟨⟨(h.cell (p := ⟨_, _, none⟩) hla).trans x2, (h.cell (p := ⟨_, _, none⟩) hla').trans y2⟩,
              ⟨(h.cell (p := ⟨_, _, none⟩) hltb1).trans c0, (h.cell (p := ⟨_, _, none⟩) hltb1).trans c1, (h.cell (p := ⟨_, _, none⟩) hltb1).trans c2, (h.cell (p := ⟨_, _, none⟩) hltb1).trans c3⟩,
              ⟨(h.cell (p := ⟨_, _, none⟩) hltb2).trans d0, (h.cell (p := ⟨_, _, none⟩) hltb2).trans d1, (h.cell (p := ⟨_, _, none⟩) hltb2).trans d2, (h.cell (p := ⟨_, _, none⟩) hltb2).trans d3⟩⟩)
          go_upto_region 12 with fail
          go_cut [9, 10] (fun s9 s10 wx => ∃ ba bb, s9 = .pointer (some ⟨ba, 0, none⟩) ∧ s10 = .pointer (some ⟨bb, 0, none⟩) ∧ wx.rowIs ba 92 4 (tmF x y z u) ∧ wx.rowIs bb 92 4 (tmF x' y' z' u') ∧ Below wr.heap.size wr wx)
          case first =>
            go_region_held3 (fun w' => ((w'.cell? ⟨w.heap.size, 2, none⟩ = some (.slice (some ⟨b1, off1, none⟩) xs.length cap) ∧ w'.cell? ⟨w.heap.size + 1, 2, none⟩ = some (.slice (some ⟨b2, off2, none⟩) ys.length cap')) ∧ (w'.cell? ⟨b1, off1 + i * 4, none⟩ = some (.int .u8 x) ∧ w'.cell? ⟨b1, off1 + i * 4 + 1, none⟩ = some (.int .u8 y) ∧ w'.cell? ⟨b1, off1 + i * 4 + 2, none⟩ = some (.int .u8 z) ∧ w'.cell? ⟨b1, off1 + i * 4 + 3, none⟩ = some (.int .i64 u)) ∧ (w'.cell? ⟨b2, off2 + k * 4, none⟩ = some (.int .u8 x') ∧ w'.cell? ⟨b2, off2 + k * 4 + 1, none⟩ = some (.int .u8 y') ∧ w'.cell? ⟨b2, off2 + k * 4 + 2, none⟩ = some (.int .u8 z') ∧ w'.cell? ⟨b2, off2 + k * 4 + 3, none⟩ = some (.int .i64 u'))))
              (first | with_reducible exact KK.out _ (Below.same _).drew | with_reducible exact KK.out _ (box1 _ _) | with_reducible exact KK.out _ (box1 _ _).drew | with_reducible exact KK.out _ (box2 _ _ _) | with_reducible exact KK.out _ (box2 _ _ _).drew)
              (fail)
            all_goals
              go_wp2_with fail
              go_meet
              first
                | exact ⟨wr.heap.size, wr.heap.size + 1, rfl, rfl, (trow wr x y z u).alloc _, trow1 wr _ x' y' z' u', (box2 _ _ _).drew⟩
                | exact ⟨wr.heap.size + 1, wr.heap.size, rfl, rfl, trow1 wr _ x y z u, (trow wr x' y' z' u').alloc _, (box2 _ _ _).drew⟩
          case rest =>
            obtain ⟨ba, bb, rfl, rfl, ra, rb, hbx⟩ := hcut
            have hBU := hB.later hbx
            obtain ⟨⟨q0, q1, q2⟩, _⟩ := poly3 hBU.part.out
            have m0 := ra.cell (i := 0) (by omega)
            have m1 := ra.cell (i := 1) (by omega)
            have m2 := ra.cell (i := 2) (by omega)
            have m3 := ra.cell (i := 3) (by omega)
            have n0 := rb.cell (i := 0) (by omega)
            have n1 := rb.cell (i := 1) (by omega)
            have n2 := rb.cell (i := 2) (by omega)
            have n3 := rb.cell (i := 3) (by omega)
            simp [tmF] at m0 m1 m2 m3 n0 n1 n2 n3
            go_wp2_with fail
            ((with_reducible refine (specPut p d _ O F _ _ _ _ _ (OwnP.slice hBU.part.rows) HO'.out hp2 hp13 hE1 g1 (by omega)).mono ?_); rintro e w2 ⟨v2, rfl, ho2, hb2⟩)
            obtain ⟨sa2, sc2, rfl⟩ := owns_slice ho2
            have hU2 := hBU.later hb2
            have hB3 := hBU.put hb2 ho2 hBU.part.b2
            obtain ⟨⟨j0, j1, j2⟩, jz0, jz1, jz2⟩ := poly3 hU2.part.out
            clear ho2 hBU hB HO' KK q0 q1 q2 z0 z1 z2 c0 c1 c2 c3 d0 d1 d2 d3 x0 x1 x2 y0 y1 y2 m0 m1 m2 m3 n0 n1 n2 n3 ra rb
            go_wp2_with fail
            go_roundw
            case rel => exact ⟨k + 1, _, _, by omega, by go_num, by rw [hF']; exact HP, hB3⟩
            case measure => simp [intOf]; omega
        · obtain rfl : k = ys.length := by omega
          have HO2 : Hid (IsP p O (mulF p (xs.take (i + 1)) ys)) := Lib.hid (HO.out.congr fun e _ => prt_full p xs ys i hlt1 e)
          clear hSr hSr' HO
          go_wp2_with fail
          go_roundw
          case rel => exact ⟨i + 1, _, _, by omega, by go_num, HO2, hB⟩
          case measure => simp [intOf]; omega
    · obtain rfl : i = xs.length := by omega
      obtain ⟨sa, sc, rfl⟩ := owns_slice hB.part.rows
      obtain ⟨⟨r0, r1, r2⟩, y0, y1, y2⟩ := poly3 hB.part.res
      obtain ⟨⟨q0, q1, q2⟩, _⟩ := poly3 hB.part.out
      have hD := HO.out
      rw [List.take_length] at hD
      have HD := Lib.hid hD
      obtain ⟨a0, a1, a2, a3, a4⟩ := hB.part.finish p d
      have A0 := Lib.hid a0
      have A1 := Lib.hid a1
      have A2 := Lib.hid a2
      have A3 := Lib.hid a3
      have A4 := Lib.hid a4
      clear HO hD a0 a1 a2 a3 a4 hB
      go_wp2_with fail
      exact bodyPost_ret (v := .tuple #[.agg #[.int .i64 p, .int .i64 d, .slice sa O.length sc], .bool true]) (by simp [results, Try.results56, go_sem, A0.out, A1.out, A2.out]) rfl ⟨_, O, rfl, A3.out, HD.out, A4.out⟩
end Go.Proofs.Ytphgpadpffigjaa
namespace Go.Proofs.Ytphgpadpffigjaa
open Go.RowKit Go.Sort Go.Maps

theorem IsP.one {p : Int} (hp : 2 ≤ p) {e : Int × Int × Int} (he : mono12 e) (v : Int) : IsP p (putL p [] e v) (fun a => if a = e then v % p else 0) :=
  ((IsP.nil p).put hp he v).congr fun a _ => by simp

set_option maxRecDepth 8000 in
set_option maxHeartbeats 4000000 in
theorem one_any (p d x y z val : Int) (w : World) (h2 : 2 ≤ p) (h13 : p ≤ 13) (he : byte3 (x, y, z)) (v0 : 0 ≤ val) (v1 : val ≤ 100000000) :
    Calls Try.prog 53 #[.int .i64 p, .int .i64 d, .agg #[.int .u8 x, .int .u8 y, .int .u8 z], .int .i64 val] w fun e w' =>
      ∃ v', e = .returned (.agg #[.int .i64 p, .int .i64 d, v']) ∧ OwnP w' w.heap.size v' (putL p [] (x, y, z) val) ∧ Below w.heap.size w w' := by
  obtain ⟨W, hW, hbW, ⟨hWs1, hWs2⟩, re, rr⟩ : ∃ W, W = (w.alloc (.cells #[.int .u8 x, .int .u8 y, .int .u8 z] 75)).alloc (.cells #[.int .i64 0, .int .i64 0, .slice none 0 0] 36) ∧ Below w.heap.size w W ∧ (W.heap.size ≤ w.heap.size + 2 ∧ w.heap.size + 2 ≤ W.heap.size) ∧
      W.rowIs w.heap.size 75 3 (expsF x y z) ∧ W.rowIs (w.heap.size + 1) 36 3 (polyF 0 0 (.slice none 0 0)) := by
    refine ⟨_, rfl, box2 _ _ _, ⟨by simp, by simp⟩, ?_, ?_⟩
    · refine World.rowIs.alloc (World.rowIs_alloc w #[Value.int .u8 x, .int .u8 y, .int .u8 z] _ _ (fun i hi => ?_)) _
      simp at hi; match i, hi with | 0, _ => rfl | 1, _ => rfl | 2, _ => rfl
    · have := World.rowIs_alloc (w.alloc (.cells #[.int .u8 x, .int .u8 y, .int .u8 z] 75)) #[Value.int .i64 0, .int .i64 0, .slice none 0 0] 36 (polyF 0 0 (.slice none 0 0)) (fun i hi => by simp at hi; match i, hi with | 0, _ => rfl | 1, _ => rfl | 2, _ => rfl)
      simpa using this
  have KK := Lib.hid (fun w' (h : Below W.heap.size W w') => show (w'.cell? ⟨w.heap.size, 0, none⟩ = some (.int .u8 x) ∧ w'.cell? ⟨w.heap.size, 1, none⟩ = some (.int .u8 y) ∧ w'.cell? ⟨w.heap.size, 2, none⟩ = some (.int .u8 z)) from
    ⟨(rowIs_below re h re.lt).cell (i := 0) (by omega), (rowIs_below re h re.lt).cell (i := 1) (by omega), (rowIs_below re h re.lt).cell (i := 2) (by omega)⟩)
  go_enter Try.func53, Try.ntmps53
  go_upto_region 1 with fail
  rw [← hW]
  clear hW
  obtain ⟨⟨r0, r1, r2⟩, y0, y1, y2⟩ := poly3 rr
  go_region_held3 (fun w' => (w'.cell? ⟨w.heap.size, 0, none⟩ = some (.int .u8 x) ∧ w'.cell? ⟨w.heap.size, 1, none⟩ = some (.int .u8 y) ∧ w'.cell? ⟨w.heap.size, 2, none⟩ = some (.int .u8 z)))
    (first | with_reducible exact KK.out _ (Below.same _).drew | with_reducible exact KK.out _ HB1 | with_reducible exact KK.out _ HB2 | go_keep)
    (first
    | (go_at_call 54; (with_reducible refine (empty_any p d _).mono ?_); rintro e w1 ⟨rfl, hown, hb1⟩; have HB1 : Below W.heap.size W w1 := (Below.same _).drew.trans hb1)
    | (go_at_call 55; (with_reducible refine (specPut p d _ [] (fun _ => 0) x y z val _ (OwnP.slice (S := []) hown) (IsP.nil p) h2 h13 he v0 v1).mono ?_); rintro e w2 ⟨v2, rfl, ho2, hb2⟩; have HB2 : Below W.heap.size W w2 := HB1.trans (hb2.mono HB1.size); have rr2 := rowIs_below rr HB2 rr.lt; obtain ⟨⟨e0, e1, e2⟩, f0, f1, f2⟩ := poly3 rr2; obtain ⟨sa2, sc2, rfl⟩ := owns_slice ho2; obtain ⟨a0, a1, a2, a3, a4⟩ := fill_box (w := w) rr2 (owns_low ho2 (Nat.le_trans hbW.size HB1.size)) (Nat.le_refl _) (hbW.trans (HB2.mono hbW.size)) (by omega) p d; have A0 := Lib.hid a0; have A1 := Lib.hid a1; have A2 := Lib.hid a2; obtain ⟨m0, m1, m2⟩ := KK.out _ HB2; have A3 := Lib.hid a3; have A4 := Lib.hid a4; clear a0 a1 a2 a3 a4))
  go_wp2_with fail
  exact bodyPost_ret (v := .agg #[.int .i64 p, .int .i64 d, .slice sa2 (putL p [] (x, y, z) val).length sc2]) (by simp [results, Try.results53, go_sem, A0.out, A1.out, A2.out]) rfl ⟨_, rfl, A3.out, A4.out⟩
end Go.Proofs.Ytphgpadpffigjaa
namespace Go.Proofs.Ytphgpadpffigjaa
open Go.RowKit Go.Sort Go.Maps

theorem put_box {wr : World} {q : Nat} {v : Value} {F : Nat → Value} (hres : wr.rowIs q 36 3 F) (p d : Int) :
    (((wr.setCell ⟨q, 0, none⟩ (.int .i64 p)).setCell ⟨q, 1, none⟩ (.int .i64 d)).setCell ⟨q, 2, none⟩ v).rowIs q 36 3 (polyF p d v) :=
  (((hres.set 0 (.int .i64 p)).set 1 (.int .i64 d)).set 2 v).congr fun i hi => match i, hi with
    | 0, _ => rfl
    | 1, _ => rfl
    | 2, _ => rfl
end Go.Proofs.Ytphgpadpffigjaa
namespace Go.Proofs.Ytphgpadpffigjaa
open Go.RowKit Go.Sort Go.Maps

/-- The model's product on its way: after k factors. -/
def vdP (p : Int) (k : Nat) : List Tm :=
  if k = 0 then putL p [] (0, 0, 0) 1 else if k = 1 then prodT p (putL p [] (0, 0, 0) 1) (vdF p 0 1)
  else if k = 2 then prodT p (prodT p (putL p [] (0, 0, 0) 1) (vdF p 0 1)) (vdF p 0 2)
  else prodT p (prodT p (prodT p (putL p [] (0, 0, 0) 1) (vdF p 0 1)) (vdF p 0 2)) (vdF p 1 2)
/-- How many factors stand before the letters i and j. -/
def nVd (d i j : Nat) : Nat := if i = 0 then j - 1 else if i = 1 then (d - 1) + (j - 2) else if d = 2 then 1 else 3
theorem vdP_next {p : Int} {d i j : Nat} (hd : d ≤ 3) (hij : i < j) (hj : j < d) : vdP p (nVd d i (j + 1)) = prodT p (vdP p (nVd d i j)) (vdF p i j) := by
  have h : (i = 0 ∧ j = 1 ∧ d = 2) ∨ (i = 0 ∧ j = 1 ∧ d = 3) ∨ (i = 0 ∧ j = 2 ∧ d = 3) ∨ (i = 1 ∧ j = 2 ∧ d = 3) := by omega
  rcases h with ⟨rfl, rfl, rfl⟩ | ⟨rfl, rfl, rfl⟩ | ⟨rfl, rfl, rfl⟩ | ⟨rfl, rfl, rfl⟩ <;> rfl
theorem nVd_out {d i : Nat} (hd : d ≤ 3) (hi : i < d) : nVd d i d = nVd d (i + 1) (i + 2) := by
  have h : (i = 0 ∧ d = 1) ∨ (i = 0 ∧ d = 2) ∨ (i = 1 ∧ d = 2) ∨ (i = 0 ∧ d = 3) ∨ (i = 1 ∧ d = 3) ∨ (i = 2 ∧ d = 3) := by omega
  rcases h with ⟨rfl, rfl⟩ | ⟨rfl, rfl⟩ | ⟨rfl, rfl⟩ | ⟨rfl, rfl⟩ | ⟨rfl, rfl⟩ | ⟨rfl, rfl⟩ <;> rfl
theorem vdP_end {p : Int} {d : Nat} (hd : 1 ≤ d ∧ d ≤ 3) : vdP p (nVd d d (d + 1)) = vdT p d := by
  have h : d = 1 ∨ d = 2 ∨ d = 3 := by omega
  rcases h with rfl | rfl | rfl <;> rfl
/-- What a list of terms must be, as a test. -/
def chkV (p : Int) (ts : List Tm) : Bool := decide (ts.Pairwise fun a b => beforeB (tmE a) (tmE b) = true) && ts.all fun t => (decide (0 ≤ t.1 ∧ t.1 ≤ 4) && decide (0 ≤ t.2.1 ∧ t.2.1 ≤ 4) && decide (0 ≤ t.2.2.1 ∧ t.2.2.1 ≤ 4)) && decide (t.1 + t.2.1 + t.2.2.1 ≤ 6) && decide (1 ≤ t.2.2.2 ∧ t.2.2.2 < p)
theorem chkV_valid {p d : Int} {ts : List Tm} (hp : 2 ≤ p) (hp13 : p ≤ 13) (hd : 1 ≤ d) (hd3 : d ≤ 3) (h : chkV p ts = true) : Valid p d ts ∧ ∀ t ∈ ts, t.1 + t.2.1 + t.2.2.1 ≤ 6 := by
  unfold chkV at h
  simp only [Bool.and_eq_true, decide_eq_true_eq, List.all_eq_true] at h
  refine ⟨⟨hp, hp13, hd, hd3, h.1, fun t ht => ?_⟩, fun t ht => (h.2 t ht).1.2⟩
  obtain ⟨⟨⟨⟨a, b⟩, c⟩, e⟩, f⟩ := h.2 t ht
  exact ⟨⟨⟨by simp only [tmE]; omega, by simp only [tmE]; omega, by simp only [tmE]; omega⟩, by omega⟩, f⟩
theorem vdP_chk : ∀ p ∈ ([2, 3, 5, 7, 11, 13] : List Int), ∀ k ∈ ([0, 1, 2, 3] : List Nat), chkV p (vdP p k) = true ∧ vdP p k ≠ [] := by decide +kernel
theorem vdF_chk : ∀ p ∈ ([2, 3, 5, 7, 11, 13] : List Int), ∀ i ∈ ([0, 1] : List Nat), ∀ j ∈ ([1, 2] : List Nat), i < j → chkV p (vdF p i j) = true ∧ vdF p i j ≠ [] := by decide +kernel

theorem degI_six {L : List Tm} (h0 : L ≠ []) (h : ∀ t ∈ L, t.1 + t.2.1 + t.2.2.1 ≤ 6) : degI L ≤ 6 := by
  unfold degI
  cases hl : L.getLast? with
  | none => exact absurd (List.getLast?_eq_none_iff.1 hl) h0
  | some u => exact h u (List.mem_of_getLast? hl)
theorem ltE_byte (i : Nat) : byte3 (ltE i) ∧ (ltE i).1 + (ltE i).2.1 + (ltE i).2.2 ≤ 12 := by
  unfold ltE byte3
  split
  · simp
  · split <;> simp
set_option maxHeartbeats 1000000 in
theorem sletter (i : Nat) (hi : i ≤ 2) (w : World) : Calls Try.prog 113 #[.int .i64 (i : Int)] w fun e w' => e = .returned (.agg #[.int .u8 (ltE i).1, .int .u8 (ltE i).2.1, .int .u8 (ltE i).2.2]) ∧ Below w.heap.size w w' := by
  have h : i = 0 ∨ i = 1 ∨ i = 2 := by omega
  rcases h with rfl | rfl | rfl
  · go_enter Try.func113, Try.ntmps113
    go_wp2_with fail
    exact bodyPost_ret (v := .agg #[.int .u8 1, .int .u8 0, .int .u8 0]) (by simp [results, Try.results113, go_sem]) rfl ⟨rfl, box2 _ _ _⟩
  · go_enter Try.func113, Try.ntmps113
    go_wp2_with fail
    exact bodyPost_ret (v := .agg #[.int .u8 0, .int .u8 1, .int .u8 0]) (by simp [results, Try.results113, go_sem]) rfl ⟨rfl, box2 _ _ _⟩
  · go_enter Try.func113, Try.ntmps113
    go_wp2_with fail
    exact bodyPost_ret (v := .agg #[.int .u8 0, .int .u8 0, .int .u8 1]) (by simp [results, Try.results113, go_sem]) rfl ⟨rfl, box2 _ _ _⟩

/-- The product on its way, in its box. -/
def RV (w wr : World) (q : Nat) (p : Int) (d k : Nat) : Prop := ∃ sv, OwnP wr w.heap.size sv (vdP p k) ∧ wr.rowIs q 36 3 (polyF p d sv) ∧ wr.rowIs w.heap.size 36 3 (polyF 0 0 (.slice none 0 0)) ∧ Below w.heap.size w wr

set_option maxRecDepth 100000 in
set_option maxHeartbeats 8000000 in
theorem svand (p : Int) (d : Nat) (w : World) (hp : primeB p = true) (hd : 1 ≤ d ∧ d ≤ 3) :
    Calls Try.prog 73 #[.int .i64 p, .int .i64 (d : Int)] w fun e w' => ∃ v', e = .returned (.agg #[.int .i64 p, .int .i64 d, v']) ∧ OwnP w' w.heap.size v' (vdT p d) ∧ Below w.heap.size w w' := by
  obtain ⟨hp2, hp13⟩ := prime_le hp
  have HP := Lib.hid (primes_of hp)
  clear hp
  obtain ⟨W, hW, hbW, ⟨hWs1, hWs2⟩, rr⟩ := newbox w 0 0 (.slice none 0 0)
  have HON := Lib.hid (one_any p d 0 0 0 1 W hp2 hp13 ⟨by simp, by simp, by simp⟩ (by decide) (by decide))
  go_enter Try.func73, Try.ntmps73
  go_upto_region 1 with fail
  rw [← hW]
  clear hW
  go_wp2_with fail
  ((with_reducible refine HON.out.mono ?_); rintro e w1 ⟨v1, rfl, ho1, hb1⟩)
  obtain ⟨sa, sc, rfl⟩ := owns_slice ho1
  obtain ⟨V, hV, hbV, ⟨hVs1, hVs2⟩, rq⟩ := newbox w1 p d (.slice sa (putL p [] (0, 0, 0) 1).length sc)
  have hq : w.heap.size < w1.heap.size := Nat.lt_of_lt_of_le (by omega) hb1.size
  have hst : RV w V w1.heap.size p d (nVd d 0 1) := ⟨_, owns_low (owns_belowT ho1 hbV) hbW.size, rq, rowIs_below rr (hb1.trans (hbV.mono hb1.size)) rr.lt, hbW.trans ((hb1.trans (hbV.mono hb1.size)).mono hbW.size)⟩
  clear ho1 hbV rq rr hb1 hVs1 hVs2 HON
  go_upto_region 2 with fail
  rw [← hV]
  clear hV
  go_wp2_with fail
  go_loopg [6] d (fun g c wq => ∃ i : Nat, i + g = d ∧ c = .int .i64 i ∧ RV w wq w1.heap.size p d (nVd d i (i + 1)))
  case atStart => exact ⟨0, by omega, rfl, hst⟩
  case round =>
    clear hst
    obtain ⟨i, hi, rfl, hR⟩ := hrel
    by_cases hlt : i < d
    · have hlt' : (i : Int) < (d : Int) := by omega
      obtain ⟨g2, hg2⟩ : ∃ g2, i + 1 + g2 = d := ⟨d - (i + 1), by omega⟩
      have HG2 := Lib.hid (And.intro hg2 (show g2 < gk by omega))
      have hwi : IntKind.i64.wrap ((i : Int) + 1) = (i : Int) + 1 := IntWalk.i64_in _ (by omega)
      obtain ⟨wo, hwo⟩ : ∃ wo, wo = wr := ⟨_, rfl⟩
      rw [← hwo] at hR
      clear hi hg2
      go_upto_region 6 with fail
      rw [← hwo]
      clear hwo
      go_wp2_with fail
      go_loopg [7] (d - (i + 1)) (fun g c wq => ∃ j : Nat, j + g = d ∧ i < j ∧ c = .int .i64 j ∧ RV w wq w1.heap.size p d (nVd d i j))
      case atStart => exact ⟨i + 1, by omega, by omega, by go_num, hR⟩
      case round =>
        clear hR
        obtain ⟨j, hj, hij, rfl, hR⟩ := hrel
        obtain ⟨sv, hO, hQ, hZ, hb⟩ := hR
        obtain ⟨pa, pc, rfl⟩ := owns_slice hO
        by_cases hltj : j < d
        · have hltj' : (j : Int) < (d : Int) := by omega
          obtain ⟨g3, hg3⟩ : ∃ g3, j + 1 + g3 = d := ⟨d - (j + 1), by omega⟩
          have HG3 := Lib.hid (And.intro hg3 (show g3 < gk by omega))
          have hwj : IntKind.i64.wrap ((j : Int) + 1) = (j : Int) + 1 := IntWalk.i64_in _ (by omega)
          have hwp : IntKind.i64.wrap (p - 1) = p - 1 := IntWalk.i64_in _ (by omega)
          have HNX := Lib.hid (vdP_next (p := p) hd.2 hij hltj)
          obtain ⟨n, hn⟩ : ∃ n, nVd d i j = n := ⟨_, rfl⟩
          have hn3 : n ∈ ([0, 1, 2, 3] : List Nat) := by
            rw [← hn]
            have h : (i = 0 ∧ j = 1) ∨ (i = 0 ∧ j = 2) ∨ (i = 1 ∧ j = 2) := by omega
            have h3 : d = 2 ∨ d = 3 := by omega
            rcases h with ⟨rfl, rfl⟩ | ⟨rfl, rfl⟩ | ⟨rfl, rfl⟩ <;> rcases h3 with rfl | rfl <;> decide
          rw [hn] at hO hQ HNX
          clear hn
          obtain ⟨hc1, hne1⟩ := vdP_chk p HP.out n hn3
          obtain ⟨hc2, hne2⟩ := vdF_chk p HP.out i (by simp; omega) j (by simp; omega) hij
          obtain ⟨hV1, hs1⟩ := chkV_valid hp2 hp13 (d := (d : Int)) (by omega) (by omega) hc1
          obtain ⟨hV2, hs2⟩ := chkV_valid hp2 hp13 (d := (d : Int)) (by omega) (by omega) hc2
          have hdg : degI (vdP p n) + degI (vdF p i j) ≤ 12 := by
            have := degI_six hne1 hs1
            have := degI_six hne2 hs2
            omega
          have HTM := Lib.hid (fun v v' w' h h' => specTimes_some p d v v' (vdP p n) (vdF p i j) w' h h' hV1 hV2 hne1 hne2 hdg)
          have HPT := Lib.hid (fun L (h : IsP p L (mulF p (vdP p n) (vdF p i j))) => h.unique (prodT_mul hV1 hV2 (fits_of hV1 hV2 (.inr (.inr hdg)))))
          have HL1 := Lib.hid (fun w' => sletter i (by omega) w')
          have HL2 := Lib.hid (fun w' => sletter j (by omega) w')
          obtain ⟨hby1, hsm1⟩ := ltE_byte i
          obtain ⟨hby2, hsm2⟩ := ltE_byte j
          have HFI : Hid (vdF p i j = putL p (putL p [] (ltE i) 1) (ltE j) (p - 1)) := Lib.hid rfl
          obtain ⟨⟨x1, y1, z1⟩, hl1⟩ : ∃ t, ltE i = t := ⟨_, rfl⟩
          obtain ⟨⟨x2, y2, z2⟩, hl2⟩ : ∃ t, ltE j = t := ⟨_, rfl⟩
          rw [hl1] at hby1 hsm1 HL1 HFI
          rw [hl2] at hby2 HL2 HFI
          have HON := Lib.hid (fun w' => one_any p d x1 y1 z1 1 w' hp2 hp13 hby1 (by omega) (by omega))
          have hp1 : (0 : Int) ≤ p - 1 := by omega
          have hp1' : p - 1 ≤ 100000000 := by omega
          have HPU := Lib.hid (fun v w' hS => specPut p d v (putL p [] (x1, y1, z1) 1) _ x2 y2 z2 (p - 1) w' hS (IsP.one hp2 ⟨hby1, hsm1⟩ 1) hp2 hp13 hby2 hp1 hp1')
          rw [← HFI.out] at HPU
          obtain ⟨F, hF⟩ : ∃ F, vdF p i j = F := ⟨_, rfl⟩
          rw [hF] at HTM HPT HPU HNX
          simp only at HL1 HL2
          clear hc1 hne1 hc2 hne2 hV1 hs1 hV2 hs2 hdg hby1 hsm1 hby2 hsm2 hl1 hl2 HFI hF hn3 hj hg3
          go_wp2_with fail
          ((with_reducible refine (HL1.out _).mono ?_); rintro e w2 ⟨rfl, hb2⟩)
          go_wp2_with fail
          ((with_reducible refine (HON.out _).mono ?_); rintro e w3 ⟨v3, rfl, ho3, hb3⟩)
          go_wp2_with fail
          ((with_reducible refine (HL2.out _).mono ?_); rintro e w4 ⟨rfl, hb4⟩)
          have hS4 := (OwnP.slice ho3).below hb4
          go_wp2_with fail
          ((with_reducible refine (HPU.out _ _ hS4).mono ?_); rintro e w5 ⟨v5, rfl, ho5, hb5⟩)
          have B5 : Below wr.heap.size wr w5 := hb2.trans ((hb3.trans ((hb4.trans (hb5.mono hb4.size)).mono hb3.size)).mono hb2.size)
          obtain ⟨fa, fc, rfl⟩ := owns_slice ho5
          obtain ⟨w6, hw6, hb6, ⟨h61, h62⟩, r6⟩ := newbox w5 p d (.slice fa F.length fc)
          have B6 := B5.trans (hb6.mono B5.size)
          have hQ6 := rowIs_below hQ B6 hQ.lt
          have hO6 := owns_belowT hO B6
          have hF6 := (OwnP.slice ho5).below hb6
          go_upto_region 9 with fail
          rw [← hw6]
          clear hw6 hb2 hb3 hb4 hb5 ho3 hS4 ho5 hb6 h61 h62 B5
          obtain ⟨⟨q0, q1, q2⟩, _⟩ := poly3 hQ6
          obtain ⟨⟨f0, f1, f2⟩, _⟩ := poly3 r6
          go_wp2_with fail
          ((with_reducible refine (HTM.out _ _ _ (OwnP.slice hO6) hF6).mono ?_); rintro e w7 ⟨v7, L7, rfl, ho7, hI7, hb7⟩)
          have HE := Lib.hid (HPT.out L7 hI7)
          obtain ⟨na, nc, rfl⟩ := owns_slice ho7
          obtain ⟨w8, hw8, hb8, ⟨h81, h82⟩, r8⟩ := newbox w7 p d (.slice na L7.length nc)
          have B8 := B6.trans ((hb7.trans (hb8.mono hb7.size)).mono B6.size)
          have hQ8 := rowIs_below hQ B8 hQ.lt
          have hZ8 := rowIs_below hZ B8 hZ.lt
          have hO8 := owns_low (base' := w.heap.size) (owns_belowT ho7 hb8) (Nat.le_trans hb.size B6.size)
          have hw8s := hb.trans (B8.mono hb.size)
          go_upto_region 10 with fail
          rw [← hw8]
          clear hw8 hb7 hb8 ho7 hI7 h81 h82 q0 q1 q2 f0 f1 f2 r6 hQ6 hO6 hF6 B6 B8 hO hQ hZ hb
          obtain ⟨⟨q0, q1, q2⟩, z0, z1, z2⟩ := poly3 hQ8
          obtain ⟨⟨n0, n1, n2⟩, _⟩ := poly3 r8
          obtain ⟨_, _, _, a3, a4⟩ := fill_box (w := w) hQ8 hO8 (Nat.le_refl _) hw8s (Nat.le_of_lt hq) p d
          have hq9 := put_box (v := .slice na L7.length nc) hQ8 p d
          have hz9 := ((hZ8.setOther (a := ⟨w1.heap.size, 0, none⟩) (by show w.heap.size ≠ w1.heap.size; omega) (.int .i64 p)).setOther (a := ⟨w1.heap.size, 1, none⟩) (by show w.heap.size ≠ w1.heap.size; omega) (.int .i64 d)).setOther (a := ⟨w1.heap.size, 2, none⟩) (by show w.heap.size ≠ w1.heap.size; omega) (.slice na L7.length nc)
          have HR9 := Lib.hid (And.intro a3 (And.intro hq9 (And.intro hz9 a4)))
          clear a3 a4 hq9 hz9 hQ8 hZ8 hO8 hw8s r8
          go_wp2_with fail
          go_roundg g3
          case measure => exact HG3.out.2
          case rel => exact ⟨j + 1, HG3.out.1, by omega, by go_num, ⟨_, by rw [HNX.out, ← HE.out]; exact HR9.out.1, HR9.out.2.1, HR9.out.2.2.1, HR9.out.2.2.2⟩⟩
        · obtain rfl : d = j := by omega
          have HR9 := Lib.hid (show RV w wr w1.heap.size p d (nVd d (i + 1) (i + 2)) by rw [← nVd_out hd.2 hlt]; exact ⟨_, hO, hQ, hZ, hb⟩)
          clear hO hQ hZ hb
          go_wp2_with fail
          go_roundg g2
          case measure => exact HG2.out.2
          case rel => exact ⟨i + 1, HG2.out.1, by go_num, HR9.out⟩
    · obtain rfl : d = i := by omega
      obtain ⟨sv, hO, hQ, hZ, hb⟩ := hR
      rw [vdP_end hd] at hO
      obtain ⟨pa, pc, rfl⟩ := owns_slice hO
      obtain ⟨⟨q0, q1, q2⟩, _⟩ := poly3 hQ
      obtain ⟨⟨r0, r1, r2⟩, z0, z1, z2⟩ := poly3 hZ
      obtain ⟨a0, a1, a2, a3, a4⟩ := fill_box (w := w) hZ hO (Nat.le_refl _) hb (Nat.le_refl _) p d
      have A0 := Lib.hid a0
      have A1 := Lib.hid a1
      have A2 := Lib.hid a2
      have A3 := Lib.hid a3
      have A4 := Lib.hid a4
      clear a0 a1 a2 a3 a4 hO hQ hZ hb
      go_wp2_with fail
      exact bodyPost_ret (v := .agg #[.int .i64 p, .int .i64 d, .slice pa (vdT p d).length pc]) (by simp [results, Try.results73, go_sem, A0.out, A1.out, A2.out]) rfl ⟨_, rfl, A3.out, A4.out⟩
end Go.Proofs.Ytphgpadpffigjaa
