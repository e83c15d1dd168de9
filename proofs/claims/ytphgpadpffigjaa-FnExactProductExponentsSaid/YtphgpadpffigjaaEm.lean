/-
  ROWS MODULO p, in plain mathematics: reduced lists of rows, and that they are told by what is 0 on them; the reduced rows of a matrix with the unit behind it. Conditions: as each theorem states.
-/
import Derived.Test.YtphgpadpffigjaaRows
namespace Go.Proofs.Ytphgpadpffigjaa.EchM


/-- A row less k times another one, modulo p. -/
def lessL (p k : Int) (r o : List Int) : List Int := List.zipWith (fun a b => (a - k * b) % p) r o
/-- A row times k, modulo p. -/
def scaleL (p k : Int) (r : List Int) : List Int := r.map fun a => a * k % p
/-- The place of the first number other than 0; the length if there is none. -/
def leadN (r : List Int) : Nat := r.findIdx (fun a => a != 0)
/-- The number at a place. -/
def nth (r : List Int) (j : Nat) : Int := r.getD j 0
/-- Numbers modulo p. -/
def InP (p : Int) (m : Nat) (r : List Int) : Prop := r.length = m ∧ ∀ a ∈ r, 0 ≤ a ∧ a < p

theorem nth_lt {r : List Int} {j : Nat} (h : j < r.length) : nth r j = r[j] := by simp [nth, h]
theorem nth_ge {r : List Int} {j : Nat} (h : r.length ≤ j) : nth r j = 0 := by
  simp [nth, List.getD, List.getElem?_eq_none h]
theorem InP.nth {p : Int} {m : Nat} {r : List Int} (h : InP p m r) (hp : 0 < p) (j : Nat) : 0 ≤ nth r j ∧ nth r j < p := by
  by_cases hj : j < r.length
  · rw [nth_lt hj]; exact h.2 _ (List.getElem_mem _)
  · rw [nth_ge (by omega)]; omega
theorem ext_nth {r s : List Int} (hl : r.length = s.length) (h : ∀ j, j < r.length → nth r j = nth s j) : r = s := by
  refine List.ext_getElem hl fun j h1 h2 => ?_
  have := h j h1
  rwa [nth_lt h1, nth_lt h2] at this
theorem len_less {p k : Int} {r o : List Int} (h : r.length = o.length) : (lessL p k r o).length = r.length := by simp [lessL, h]
theorem nth_less {p k : Int} {r o : List Int} (h : r.length = o.length) (j : Nat) : nth (lessL p k r o) j = (nth r j - k * nth o j) % p := by
  by_cases hj : j < r.length
  · rw [nth_lt (by rw [len_less h]; exact hj), nth_lt hj, nth_lt (by omega)]
    simp [lessL]
  · rw [nth_ge (by rw [len_less h]; omega), nth_ge (by omega), nth_ge (by omega)]; simp
theorem nth_scale {p k : Int} {r : List Int} (j : Nat) : nth (scaleL p k r) j = nth r j * k % p := by
  by_cases hj : j < r.length
  · rw [nth_lt (by simpa [scaleL] using hj), nth_lt hj]
    simp [scaleL]
  · rw [nth_ge (by simp [scaleL]; omega), nth_ge (by omega)]; simp
theorem inP_less {p k : Int} {m : Nat} {r o : List Int} (hp : 0 < p) (hr : InP p m r) (ho : InP p m o) : InP p m (lessL p k r o) := by
  refine ⟨by rw [len_less (by rw [hr.1, ho.1]), hr.1], fun a ha => ?_⟩
  obtain ⟨j, hj, rfl⟩ := List.getElem_of_mem ha
  simp only [lessL, List.getElem_zipWith]
  exact ⟨Int.emod_nonneg _ (by omega), Int.emod_lt_of_pos _ hp⟩
theorem inP_scale {p k : Int} {m : Nat} {r : List Int} (hp : 0 < p) (hr : InP p m r) : InP p m (scaleL p k r) := by
  refine ⟨by simp [scaleL, hr.1], fun a ha => ?_⟩
  obtain ⟨b, _, rfl⟩ := List.mem_map.1 ha
  exact ⟨Int.emod_nonneg _ (by omega), Int.emod_lt_of_pos _ hp⟩

theorem lead_le (r : List Int) : leadN r ≤ r.length := List.findIdx_le_length
theorem lead_before {r : List Int} {j : Nat} (h : j < leadN r) : nth r j = 0 := by
  have hl : j < r.length := Nat.lt_of_lt_of_le h (lead_le r)
  rw [nth_lt hl]
  have := List.not_of_lt_findIdx h
  simpa using this
theorem lead_at {r : List Int} (h : leadN r < r.length) : nth r (leadN r) ≠ 0 := by
  rw [nth_lt h]
  have := List.findIdx_getElem (p := fun a : Int => a != 0) (xs := r) (w := h)
  exact bne_iff_ne.1 this
theorem lead_eq {r : List Int} {c : Nat} (h0 : ∀ j, j < c → nth r j = 0) (h1 : nth r c ≠ 0) : leadN r = c := by
  rcases Nat.lt_trichotomy (leadN r) c with h | h | h
  · have hl : leadN r < r.length := by
      rcases Nat.lt_or_ge (leadN r) r.length with h' | h'
      · exact h'
      · exact absurd (nth_ge (r := r) (j := c) (by omega)) h1
    exact absurd (h0 _ h) (lead_at hl)
  · exact h
  · exact absurd (lead_before h) h1

/-- What is linear modulo p on rows of m numbers. -/
structure Lin (p : Int) (m : Nat) (f : List Int → Int) : Prop where
  less : ∀ k r o, r.length = m → o.length = m → p ∣ f (lessL p k r o) - (f r - k * f o)
  scale : ∀ k r, r.length = m → p ∣ f (scaleL p k r) - k * f r
theorem dvd_emod (p x : Int) : p ∣ x % p - x := by
  refine ⟨-(x / p), ?_⟩
  have := Int.mul_ediv_add_emod x p
  grind
theorem Lin.coord (p : Int) (m j : Nat) : Lin p m fun r => nth r j := by
  refine ⟨fun k r o hr ho => ?_, fun k r _ => ?_⟩
  · rw [nth_less (by omega)]; exact dvd_emod _ _
  · rw [nth_scale, show k * nth r j = nth r j * k from Int.mul_comm _ _]; exact dvd_emod _ _
theorem Lin.add {p : Int} {m : Nat} {f g : List Int → Int} (hf : Lin p m f) (hg : Lin p m g) : Lin p m fun r => f r + g r := by
  refine ⟨fun k r o hr ho => ?_, fun k r hr => ?_⟩
  · have := Int.dvd_add (hf.less k r o hr ho) (hg.less k r o hr ho); grind
  · have := Int.dvd_add (hf.scale k r hr) (hg.scale k r hr); grind
theorem Lin.mul {p : Int} {m : Nat} {f : List Int → Int} (hf : Lin p m f) (c : Int) : Lin p m fun r => f r * c := by
  refine ⟨fun k r o hr ho => ?_, fun k r hr => ?_⟩
  · obtain ⟨t, ht⟩ := hf.less k r o hr ho; exact ⟨t * c, by grind⟩
  · obtain ⟨t, ht⟩ := hf.scale k r hr; exact ⟨t * c, by grind⟩
theorem Lin.zero (p : Int) (m : Nat) : Lin p m fun _ => 0 := ⟨fun k r o _ _ => ⟨0, by simp⟩, fun k r _ => ⟨0, by simp⟩⟩

/-- The sum over a list. -/
def sumL {α : Type} (L : List α) (f : α → Int) : Int := (L.map f).sum
theorem sumL_cons {α : Type} (a : α) (L : List α) (f : α → Int) : sumL (a :: L) f = f a + sumL L f := by simp [sumL]
theorem sumL_zero {α : Type} {L : List α} {f : α → Int} (h : ∀ a ∈ L, f a = 0) : sumL L f = 0 := by
  induction L with
  | nil => rfl
  | cons a L ih => rw [sumL_cons, h a (by simp), ih fun b hb => h b (by simp [hb])]; rfl
theorem sumL_one {α : Type} {L : List α} {f : α → Int} {a : α} (hn : L.Nodup) (ha : a ∈ L) (h : ∀ b ∈ L, b ≠ a → f b = 0) : sumL L f = f a := by
  induction L with
  | nil => simp at ha
  | cons b L ih =>
    rw [sumL_cons]
    obtain ⟨h1, h2⟩ := List.nodup_cons.1 hn
    rcases List.mem_cons.1 ha with rfl | ha
    · rw [sumL_zero fun c hc => h c (by simp [hc]) fun e => h1 (e ▸ hc)]; omega
    · rw [h b (by simp) fun e => h1 (e ▸ ha), ih h2 ha fun c hc => h c (by simp [hc])]; omega
theorem Lin.sum {α : Type} {p : Int} {m : Nat} (L : List α) (g : α → List Int → Int) (h : ∀ a ∈ L, Lin p m (g a)) : Lin p m fun r => sumL L fun a => g a r := by
  induction L with
  | nil => exact Lin.zero p m
  | cons a L ih =>
    simp only [sumL_cons]
    exact (h a (by simp)).add (ih fun b hb => h b (by simp [hb]))

/-- A reduced list of rows. -/
structure Reduced (p : Int) (m : Nat) (L : List (List Int)) : Prop where
  inP : ∀ r ∈ L, InP p m r
  lt : ∀ r ∈ L, leadN r < m
  one : ∀ r ∈ L, nth r (leadN r) = 1
  asc : L.Pairwise fun a b => leadN a < leadN b
  off : ∀ a ∈ L, ∀ b ∈ L, leadN a ≠ leadN b → nth b (leadN a) = 0
def Ann (p : Int) (f : List Int → Int) (L : List (List Int)) : Prop := ∀ r ∈ L, p ∣ f r

theorem Reduced.nodup {p : Int} {m : Nat} {L : List (List Int)} (h : Reduced p m L) : L.Nodup :=
  h.asc.imp fun hlt e => by subst e; omega
theorem Reduced.inj {p : Int} {m : Nat} {L : List (List Int)} (h : Reduced p m L) {a b : List Int} (ha : a ∈ L) (hb : b ∈ L) (e : leadN a = leadN b) : a = b := by
  have := h.asc
  clear h
  induction L with
  | nil => simp at ha
  | cons c L ih =>
    obtain ⟨h1, h2⟩ := List.pairwise_cons.1 this
    rcases List.mem_cons.1 ha with e1 | m1 <;> rcases List.mem_cons.1 hb with e2 | m2
    · rw [e1, e2]
    · have := h1 b m2; rw [← e1] at this; omega
    · have := h1 a m1; rw [← e2] at this; omega
    · exact ih m1 m2 h2

theorem sorted_unique {α : Type} (key : α → Nat) : ∀ (L M : List α), L.Pairwise (fun a b => key a < key b) → M.Pairwise (fun a b => key a < key b) → (∀ x, x ∈ L ↔ x ∈ M) → L = M
  | [], [], _, _, _ => rfl
  | [], b :: M, _, _, h => by have := (h b).2 (by simp); simp at this
  | a :: L, [], _, _, h => by have := (h a).1 (by simp); simp at this
  | a :: L, b :: M, hL, hM, h => by
    obtain ⟨l1, l2⟩ := List.pairwise_cons.1 hL
    obtain ⟨m1, m2⟩ := List.pairwise_cons.1 hM
    have hab : a = b := by
      rcases List.mem_cons.1 ((h a).1 (by simp)) with e | e
      · exact e
      · rcases List.mem_cons.1 ((h b).2 (by simp)) with e' | e'
        · exact e'.symm
        · have := m1 a e; have := l1 b e'; omega
    subst hab
    congr 1
    refine sorted_unique key L M l2 m2 fun x => ⟨fun hx => ?_, fun hx => ?_⟩
    · rcases List.mem_cons.1 ((h x).1 (by simp [hx])) with e | e
      · have := l1 x hx; rw [e] at this; omega
      · exact e
    · rcases List.mem_cons.1 ((h x).2 (by simp [hx])) with e | e
      · have := m1 x hx; rw [e] at this; omega
      · exact e

theorem comb {p : Int} {m : Nat} {L L' : List (List Int)} (h : Reduced p m L) (hA : ∀ f, Lin p m f → Ann p f L → Ann p f L') {r : List Int} (hr : r ∈ L') (j : Nat) :
    p ∣ nth r j - sumL L fun q => nth r (leadN q) * nth q j := by
  have hl : Lin p m fun r => nth r j + (sumL L fun q => nth r (leadN q) * nth q j) * (-1) :=
    (Lin.coord p m j).add ((Lin.sum L (fun q r => nth r (leadN q) * nth q j) fun q _ => (Lin.coord p m _).mul _).mul _)
  have := hA _ hl (fun q hq => ?_) r hr
  · simp only [] at this
    rwa [show ∀ x y : Int, x + y * (-1) = x - y from fun x y => by omega] at this
  · show p ∣ nth q j + (sumL L fun q' => nth q (leadN q') * nth q' j) * (-1)
    rw [sumL_one h.nodup hq fun b hb hne => by rw [h.off b hb q hq fun e => hne (h.inj hb hq e)]; omega, h.one q hq]
    exact ⟨0, by omega⟩

theorem lead_mem {p : Int} (hp : 2 ≤ p) {m : Nat} {L L' : List (List Int)} (h : Reduced p m L) (h' : Reduced p m L') (hA : ∀ f, Lin p m f → Ann p f L → Ann p f L') {r : List Int} (hr : r ∈ L') :
    ∃ q ∈ L, leadN q = leadN r := by
  refine Classical.byContradiction fun hno => ?_
  have := comb h hA hr (leadN r)
  rw [sumL_zero fun q hq => ?_, h'.one r hr] at this
  · have := Int.le_of_dvd (by omega) this; omega
  · rcases Nat.lt_trichotomy (leadN q) (leadN r) with hlt | e | hgt
    · rw [lead_before hlt]; omega
    · exact absurd ⟨q, hq, e⟩ hno
    · rw [lead_before hgt]; omega

theorem mem_of {p : Int} (hp : 2 ≤ p) {m : Nat} {L L' : List (List Int)} (h : Reduced p m L) (h' : Reduced p m L') (hA : ∀ f, Lin p m f → (Ann p f L ↔ Ann p f L')) {r : List Int} (hr : r ∈ L') : r ∈ L := by
  obtain ⟨q, hq, hlead⟩ := lead_mem hp h h' (fun f hf => (hA f hf).1) hr
  suffices r = q by rw [this]; exact hq
  have i1 := h'.inP r hr
  have i2 := h.inP q hq
  refine ext_nth (by rw [i1.1, i2.1]) fun j _ => ?_
  have := comb h (fun f hf => (hA f hf).1) hr j
  rw [sumL_one h.nodup hq fun b hb hne => ?_, hlead, h'.one r hr] at this
  · have b1 := i1.nth (by omega) j
    have b2 := i2.nth (by omega) j
    obtain ⟨t, ht⟩ := this
    have : t = 0 := by
      rcases Int.lt_trichotomy t 0 with h0 | h0 | h0
      · have : p * t ≤ p * (-1) := Int.mul_le_mul_of_nonneg_left (by omega) (by omega); omega
      · exact h0
      · have : p * 1 ≤ p * t := Int.mul_le_mul_of_nonneg_left (by omega) (by omega); omega
    subst this; omega
  · obtain ⟨b', hb', e⟩ := lead_mem hp h' h (fun f hf => (hA f hf).2) hb
    rw [← e, h'.off b' hb' r hr fun e2 => hne (h.inj hb hq (by omega))]; omega

/-- REDUCED LISTS ARE TOLD BY WHAT IS 0 ON THEM. -/
theorem unique {p : Int} (hp : 2 ≤ p) {m : Nat} {L L' : List (List Int)} (h : Reduced p m L) (h' : Reduced p m L') (hA : ∀ f, Lin p m f → (Ann p f L ↔ Ann p f L')) : L = L' :=
  sorted_unique leadN L L' h.asc h'.asc fun _ => ⟨fun hx => mem_of hp h' h (fun f hf => (hA f hf).symm) hx, fun hx => mem_of hp h h' hA hx⟩

/-- What is left of a row if multiples of the rows of a list are taken away. -/
def restL (p : Int) (L : List (List Int)) (r : List Int) : List Int := L.foldl (fun out q => if nth out (leadN q) = 0 then out else lessL p (nth out (leadN q)) out q) r
/-- The number with which x makes 1. -/
def invA (p x : Int) : Nat → Int → Int
  | 0, _ => 0
  | f + 1, k => if k * (x % p) % p = 1 then k else invA p x f (k + 1)
def invP (p x : Int) : Int := invA p x (p - 1).toNat 1
/-- A row is put into a reduced list. -/
def insL (p : Int) (own : List Int) (c : Nat) : Bool → List (List Int) → List (List Int)
  | true, [] => []
  | false, [] => [own]
  | true, q :: L => lessL p (nth q c) q own :: insL p own c true L
  | false, q :: L => if c < leadN q then own :: lessL p (nth q c) q own :: insL p own c true L else lessL p (nth q c) q own :: insL p own c false L
def stepL (p : Int) (L : List (List Int)) (r : List Int) : List (List Int) :=
  if leadN (restL p L r) < (restL p L r).length then insL p (scaleL p (invP p (nth (restL p L r) (leadN (restL p L r)))) (restL p L r)) (leadN (restL p L r)) false L else L
/-- The reduced list of some rows. -/
def echL (p : Int) (rows : List (List Int)) : List (List Int) := rows.foldl (stepL p) []

def PrimeS (p : Int) : Prop := p = 2 ∨ p = 3 ∨ p = 5 ∨ p = 7 ∨ p = 11 ∨ p = 13
theorem PrimeS.le {p : Int} (h : PrimeS p) : 2 ≤ p ∧ p ≤ 13 := by unfold PrimeS at h; omega
theorem invP_ok {p : Int} (hp : PrimeS p) {x : Int} (h0 : 0 < x) (h1 : x < p) : x * invP p x % p = 1 ∧ 1 ≤ invP p x ∧ invP p x < p := by
  have key : ∀ x : Fin 13, ∀ p ∈ [(2 : Int), 3, 5, 7, 11, 13], (0 < x.val ∧ (x.val : Int) < p) → (x.val : Int) * invP p x.val % p = 1 ∧ 1 ≤ invP p x.val ∧ invP p x.val < p := by decide
  obtain ⟨n, rfl⟩ := Int.eq_ofNat_of_zero_le (Int.le_of_lt h0)
  have := hp.le
  exact key ⟨n, by omega⟩ p (by unfold PrimeS at hp; simp; omega) ⟨by simpa using h0, h1⟩

theorem restL_spec {p : Int} (hp : 2 ≤ p) {m : Nat} : ∀ (L D : List (List Int)) (r : List Int), (∀ q ∈ L, InP p m q ∧ leadN q < m ∧ nth q (leadN q) = 1) → (∀ d ∈ D, ∀ q ∈ L, nth q (leadN d) = 0) → (L.Pairwise fun a b => nth b (leadN a) = 0) → InP p m r → (∀ d ∈ D, nth r (leadN d) = 0) →
    InP p m (restL p L r) ∧ (∀ d ∈ D ++ L, nth (restL p L r) (leadN d) = 0) ∧ ∀ f, Lin p m f → Ann p f L → (p ∣ f (restL p L r) ↔ p ∣ f r)
  | [], D, r, _, _, _, hr, h0 => ⟨hr, by rw [List.append_nil]; exact h0, fun f _ _ => Iff.rfl⟩
  | q :: L, D, r, h1, hD, hA, hr, h0 => by
    obtain ⟨a1, a2⟩ := List.pairwise_cons.1 hA
    obtain ⟨q1, q2, q3⟩ := h1 q (by simp)
    have hlen : r.length = q.length := by rw [hr.1, q1.1]
    obtain ⟨s, hs, s1, s2, s3⟩ : ∃ s, s = (if nth r (leadN q) = 0 then r else lessL p (nth r (leadN q)) r q) ∧ InP p m s ∧ (∀ d ∈ D ++ [q], nth s (leadN d) = 0) ∧ ∀ f, Lin p m f → p ∣ f q → (p ∣ f s ↔ p ∣ f r) := by
      refine ⟨_, rfl, ?_⟩
      split
      · rename_i hz
        refine ⟨hr, fun d hd => ?_, fun f _ _ => Iff.rfl⟩
        rcases List.mem_append.1 hd with hd | hd
        · exact h0 d hd
        · simp at hd; subst hd; exact hz
      · refine ⟨inP_less (by omega) hr q1, fun d hd => ?_, fun f hf hq => ?_⟩
        · rw [nth_less hlen]
          rcases List.mem_append.1 hd with hd | hd
          · rw [h0 d hd, hD d hd q (by simp)]; simp
          · simp at hd; subst hd; rw [q3]; simp
        · obtain ⟨t, ht⟩ := hf.less (nth r (leadN q)) r q hr.1 q1.1
          obtain ⟨u, hu⟩ := hq
          constructor
          · rintro ⟨v, hv⟩; exact ⟨v + nth r (leadN q) * u - t, by grind⟩
          · rintro ⟨v, hv⟩; exact ⟨v - nth r (leadN q) * u + t, by grind⟩
    have ih := restL_spec hp L (D ++ [q]) s (fun q' hq' => h1 q' (by simp [hq'])) (fun d hd q' hq' => by
      rcases List.mem_append.1 hd with hd | hd
      · exact hD d hd q' (by simp [hq'])
      · simp at hd; subst hd; exact a1 q' hq') a2 s1 s2
    have e : restL p (q :: L) r = restL p L s := by rw [hs]; rfl
    rw [e]
    refine ⟨ih.1, fun d hd => ih.2.1 d (by simpa using hd), fun f hf hAn => ?_⟩
    rw [ih.2.2 f hf fun x hx => hAn x (by simp [hx])]
    exact s3 f hf (hAn q (by simp))

theorem insL_true (p : Int) (own : List Int) (c : Nat) (L : List (List Int)) : insL p own c true L = L.map fun q => lessL p (nth q c) q own := by
  induction L with
  | nil => rfl
  | cons q L ih => rw [insL, ih]; rfl
theorem mem_insL {p : Int} {own : List Int} {c : Nat} {x : List Int} : ∀ (L : List (List Int)), x ∈ insL p own c false L ↔ x = own ∨ ∃ q ∈ L, x = lessL p (nth q c) q own
  | [] => by simp [insL]
  | q :: L => by
    rw [insL]
    split
    · rw [insL_true]; simp [eq_comm]
    · rw [List.mem_cons, mem_insL L]; simp
      constructor
      · rintro (h | h | h)
        · exact .inr (.inl h)
        · exact .inl h
        · exact .inr (.inr h)
      · rintro (h | h | h)
        · exact .inr (.inl h)
        · exact .inl h
        · exact .inr (.inr h)

/-- What the row that is put in is like. -/
structure New (p : Int) (m : Nat) (L : List (List Int)) (own : List Int) (c : Nat) : Prop where
  inP : InP p m own
  lt : c < m
  lead : leadN own = c
  one : nth own c = 1
  off : ∀ q ∈ L, nth own (leadN q) = 0

theorem less_lead {p : Int} (hp : 2 ≤ p) {m : Nat} {L : List (List Int)} (h : Reduced p m L) {own : List Int} {c : Nat} (hn : New p m L own c) {q : List Int} (hq : q ∈ L) :
    leadN (lessL p (nth q c) q own) = leadN q ∧ leadN q ≠ c ∧ nth (lessL p (nth q c) q own) (leadN q) = 1 := by
  have hl : q.length = own.length := by rw [(h.inP q hq).1, hn.inP.1]
  have h1 : nth (lessL p (nth q c) q own) (leadN q) = 1 := by
    rw [nth_less hl, hn.off q hq, h.one q hq]; simp; exact Int.emod_eq_of_lt (by omega) (by omega)
  refine ⟨lead_eq (fun j hj => ?_) (by rw [h1]; omega), fun e => ?_, h1⟩
  · rw [nth_less hl, lead_before hj]
    rcases Nat.lt_or_ge j c with hjc | hjc
    · rw [lead_before (r := own) (by rw [hn.lead]; exact hjc)]; simp
    · rw [lead_before (r := q) (j := c) (by omega)]; simp
  · have := hn.off q hq; rw [e, hn.one] at this; omega

theorem asc_insL {p : Int} (hp : 2 ≤ p) {m : Nat} {own : List Int} {c : Nat} : ∀ (L : List (List Int)), Reduced p m L → New p m L own c → (insL p own c false L).Pairwise fun a b => leadN a < leadN b
  | [], _, _ => by simp [insL]
  | q :: L, h, hn => by
    obtain ⟨h1, h2⟩ := List.pairwise_cons.1 h.asc
    have hL : Reduced p m L := ⟨fun r hr => h.inP r (by simp [hr]), fun r hr => h.lt r (by simp [hr]), fun r hr => h.one r (by simp [hr]), h2, fun a ha b hb => h.off a (by simp [ha]) b (by simp [hb])⟩
    have hnL : New p m L own c := ⟨hn.inP, hn.lt, hn.lead, hn.one, fun r hr => hn.off r (by simp [hr])⟩
    obtain ⟨q1, q2, _⟩ := less_lead hp h hn (q := q) (by simp)
    rw [insL]
    split
    · rename_i hc
      rw [insL_true]
      refine List.pairwise_cons.2 ⟨fun x hx => ?_, List.pairwise_cons.2 ⟨fun x hx => ?_, ?_⟩⟩
      · rw [hn.lead]
        rcases List.mem_cons.1 hx with rfl | hx
        · rw [q1]; exact hc
        · obtain ⟨y, hy, rfl⟩ := List.mem_map.1 hx
          rw [(less_lead hp h hn (q := y) (by simp [hy])).1]; have := h1 y hy; omega
      · obtain ⟨y, hy, rfl⟩ := List.mem_map.1 hx
        rw [q1, (less_lead hp h hn (q := y) (by simp [hy])).1]; exact h1 y hy
      · refine List.pairwise_map.2 ((List.Pairwise.and_mem.1 h2).imp fun ⟨ha, hb, hab⟩ => ?_)
        rw [(less_lead hp hL hnL ha).1, (less_lead hp hL hnL hb).1]; exact hab
    · rename_i hc
      refine List.pairwise_cons.2 ⟨fun x hx => ?_, asc_insL hp L hL hnL⟩
      rw [q1]
      rcases (mem_insL L).1 hx with rfl | ⟨y, hy, rfl⟩
      · rw [hn.lead]; omega
      · rw [(less_lead hp hL hnL hy).1]; exact h1 y hy

theorem reduced_insL {p : Int} (hp : 2 ≤ p) {m : Nat} {own : List Int} {c : Nat} {L : List (List Int)} (h : Reduced p m L) (hn : New p m L own c) : Reduced p m (insL p own c false L) := by
  have key : ∀ r ∈ insL p own c false L, InP p m r ∧ leadN r < m ∧ nth r (leadN r) = 1 := fun r hr => by
    rcases (mem_insL L).1 hr with rfl | ⟨q, hq, rfl⟩
    · exact ⟨hn.inP, by rw [hn.lead]; exact hn.lt, by rw [hn.lead]; exact hn.one⟩
    · obtain ⟨a, _, b⟩ := less_lead hp h hn hq
      exact ⟨inP_less (by omega) (h.inP q hq) hn.inP, by rw [a]; exact h.lt q hq, by rw [a]; exact b⟩
  refine ⟨fun r hr => (key r hr).1, fun r hr => (key r hr).2.1, fun r hr => (key r hr).2.2, asc_insL hp L h hn, fun a ha b hb hne => ?_⟩
  have hl : ∀ q ∈ L, q.length = own.length := fun q hq => by rw [(h.inP q hq).1, hn.inP.1]
  rcases (mem_insL L).1 ha with rfl | ⟨x, hx, rfl⟩ <;> rcases (mem_insL L).1 hb with rfl | ⟨y, hy, rfl⟩
  · exact absurd rfl hne
  · rw [hn.lead, nth_less (hl y hy), hn.one]; simp
  · rw [(less_lead hp h hn hx).1]; exact hn.off x hx
  · rw [(less_lead hp h hn hx).1, (less_lead hp h hn hy).1] at hne
    rw [(less_lead hp h hn hx).1, nth_less (hl y hy), hn.off x hx, h.off x hx y hy hne]; simp

theorem zeros {p : Int} {m : Nat} {r : List Int} (hr : InP p m r) (h : ¬ leadN r < r.length) {f : List Int → Int} (hf : Lin p m f) : p ∣ f r := by
  have e : lessL p 1 r r = r := by
    refine ext_nth (by rw [len_less rfl]) fun j hj => ?_
    rw [len_less rfl] at hj
    rw [nth_less rfl, lead_before (r := r) (j := j) (by omega)]; simp
  have := hf.less 1 r r hr.1 hr.1
  rw [e] at this
  obtain ⟨t, ht⟩ := this
  exact ⟨t, by omega⟩

theorem stepL_spec {p : Int} (hp : PrimeS p) {m : Nat} {L : List (List Int)} {r : List Int} (h : Reduced p m L) (hr : InP p m r) :
    Reduced p m (stepL p L r) ∧ ∀ f, Lin p m f → (Ann p f (stepL p L r) ↔ Ann p f L ∧ p ∣ f r) := by
  obtain ⟨p2, _⟩ := hp.le
  obtain ⟨s1, s2, s3⟩ := restL_spec p2 (m := m) L [] r (fun q hq => ⟨h.inP q hq, h.lt q hq, h.one q hq⟩) (fun d hd => by simp at hd) ((List.Pairwise.and_mem.1 h.asc).imp fun ⟨ha, hb, hab⟩ => h.off _ ha _ hb (by omega)) hr (fun d hd => by simp at hd)
  simp only [List.nil_append] at s2
  unfold stepL
  generalize restL p L r = s at *
  split
  · rename_i hlt
    have hne := lead_at hlt
    obtain ⟨b1, b2⟩ := s1.nth (by omega) (leadN s)
    obtain ⟨i1, i2, i3⟩ := invP_ok hp (x := nth s (leadN s)) (by omega) b2
    generalize invP p (nth s (leadN s)) = k at *
    have hn : New p m L (scaleL p k s) (leadN s) := by
      refine ⟨inP_scale (by omega) s1, by rw [← s1.1]; exact hlt, ?_, by rw [nth_scale]; exact i1, fun q hq => by rw [nth_scale, s2 q hq]; simp⟩
      exact lead_eq (fun j hj => by rw [nth_scale, lead_before hj]; simp) (by rw [nth_scale, i1]; omega)
    refine ⟨reduced_insL p2 h hn, fun f hf => ?_⟩
    have hsc := hf.scale k s s1.1
    have hown : p ∣ f (scaleL p k s) ↔ p ∣ f s := by
      obtain ⟨t, ht⟩ := hsc
      constructor
      · rintro ⟨u, hu⟩
        obtain ⟨z, hz⟩ := dvd_emod p (nth s (leadN s) * k)
        rw [i1] at hz
        exact ⟨nth s (leadN s) * u - nth s (leadN s) * t + z * f s, by grind⟩
      · rintro ⟨u, hu⟩; exact ⟨t + k * u, by grind⟩
    constructor
    · intro hA
      have ho : p ∣ f (scaleL p k s) := hA _ ((mem_insL L).2 (.inl rfl))
      have hL : Ann p f L := fun q hq => by
        obtain ⟨u, hu⟩ := hA _ ((mem_insL L).2 (.inr ⟨q, hq, rfl⟩))
        obtain ⟨t, ht⟩ := hf.less (nth q (leadN s)) q (scaleL p k s) (h.inP q hq).1 hn.inP.1
        obtain ⟨v, hv⟩ := ho
        exact ⟨u - t + nth q (leadN s) * v, by grind⟩
      exact ⟨hL, (s3 f hf hL).1 (hown.1 ho)⟩
    · rintro ⟨hL, hfr⟩ x hx
      have ho := hown.2 ((s3 f hf hL).2 hfr)
      rcases (mem_insL L).1 hx with rfl | ⟨q, hq, rfl⟩
      · exact ho
      · obtain ⟨u, hu⟩ := hL q hq
        obtain ⟨t, ht⟩ := hf.less (nth q (leadN s)) q (scaleL p k s) (h.inP q hq).1 hn.inP.1
        obtain ⟨v, hv⟩ := ho
        exact ⟨u + t - nth q (leadN s) * v, by grind⟩
  · rename_i hlt
    refine ⟨h, fun f hf => ⟨fun hA => ⟨hA, (s3 f hf hA).1 (zeros s1 hlt hf)⟩, fun hA => hA.1⟩⟩

theorem echL_spec {p : Int} (hp : PrimeS p) {m : Nat} (rows : List (List Int)) (hr : ∀ r ∈ rows, InP p m r) :
    Reduced p m (echL p rows) ∧ ∀ f, Lin p m f → (Ann p f (echL p rows) ↔ Ann p f rows) := by
  have key : ∀ (rows L : List (List Int)), (∀ r ∈ rows, InP p m r) → Reduced p m L → Reduced p m (rows.foldl (stepL p) L) ∧ ∀ f, Lin p m f → (Ann p f (rows.foldl (stepL p) L) ↔ Ann p f L ∧ Ann p f rows) := by
    intro rows
    induction rows with
    | nil => intro L _ h; exact ⟨h, fun f _ => ⟨fun hA => ⟨hA, fun r hr => by simp at hr⟩, fun hA => hA.1⟩⟩
    | cons r rows ih =>
      intro L hr h
      obtain ⟨a1, a2⟩ := stepL_spec hp h (hr r (by simp))
      obtain ⟨b1, b2⟩ := ih (stepL p L r) (fun x hx => hr x (by simp [hx])) a1
      refine ⟨b1, fun f hf => ?_⟩
      rw [List.foldl_cons, b2 f hf, a2 f hf]
      constructor
      · rintro ⟨⟨x, y⟩, z⟩
        refine ⟨x, fun s hs => ?_⟩
        rcases List.mem_cons.1 hs with rfl | hs
        · exact y
        · exact z s hs
      · rintro ⟨x, y⟩
        exact ⟨⟨x, y r (by simp)⟩, fun s hs => y s (by simp [hs])⟩
  obtain ⟨a, b⟩ := key rows [] hr ⟨fun r hr => by simp at hr, fun r hr => by simp at hr, fun r hr => by simp at hr, List.Pairwise.nil, fun r hr => by simp at hr⟩
  exact ⟨a, fun f hf => (b f hf).trans ⟨fun h => h.2, fun h => ⟨fun r hr => by simp at hr, h⟩⟩⟩


/-- The row of m numbers that f tells. -/
def rowF (m : Nat) (f : Nat → Int) : List Int := (List.range m).map f
theorem len_rowF (m : Nat) (f : Nat → Int) : (rowF m f).length = m := by simp [rowF]
theorem nth_rowF {m j : Nat} (f : Nat → Int) (h : j < m) : nth (rowF m f) j = f j := by
  rw [nth_lt (by rw [len_rowF]; exact h)]; simp [rowF]
/-- A sum of multiples of rows, modulo p. -/
def combL (p : Int) (m : Nat) : List (Int × List Int) → List Int
  | [] => List.replicate m 0
  | x :: L => lessL p (-x.1) (combL p m L) x.2
theorem inP_zero {p : Int} (hp : 0 < p) (m : Nat) : InP p m (List.replicate m 0) := ⟨by simp, fun a ha => by have := (List.mem_replicate.1 ha).2; omega⟩
theorem nth_zero (m j : Nat) : nth (List.replicate m 0) j = 0 := by
  by_cases h : j < m
  · rw [nth_lt (by simpa using h)]; simp
  · rw [nth_ge (by simp; omega)]
theorem combL_spec {p : Int} (hp : 0 < p) {m : Nat} : ∀ (L : List (Int × List Int)), (∀ x ∈ L, InP p m x.2) →
    InP p m (combL p m L) ∧ (∀ j, p ∣ nth (combL p m L) j - sumL L fun x => x.1 * nth x.2 j) ∧ ∀ f, Lin p m f → p ∣ f (combL p m L) - sumL L fun x => x.1 * f x.2
  | [], _ => ⟨inP_zero hp m, fun j => by rw [combL, nth_zero]; exact ⟨0, by simp [sumL]⟩, fun f hf => by
    have := hf.scale 0 (List.replicate m 0) (by simp)
    rw [show scaleL p 0 (List.replicate m 0) = List.replicate m 0 by simp [scaleL]] at this
    simpa [combL, sumL] using this⟩
  | x :: L, h => by
    obtain ⟨i1, i2, i3⟩ := combL_spec hp L fun y hy => h y (by simp [hy])
    have hx := h x (by simp)
    have hl : (combL p m L).length = x.2.length := by rw [i1.1, hx.1]
    refine ⟨inP_less hp i1 hx, fun j => ?_, fun f hf => ?_⟩
    · rw [combL, nth_less hl, sumL_cons]
      obtain ⟨t, ht⟩ := i2 j
      obtain ⟨u, hu⟩ := dvd_emod p (nth (combL p m L) j - -x.1 * nth x.2 j)
      exact ⟨t + u, by grind⟩
    · rw [combL, sumL_cons]
      obtain ⟨t, ht⟩ := i3 f hf
      obtain ⟨u, hu⟩ := hf.less (-x.1) (combL p m L) x.2 i1.1 hx.1
      exact ⟨t + u, by grind⟩
theorem eq_of_dvd {p a b : Int} (ha : 0 ≤ a ∧ a < p) (hb : 0 ≤ b ∧ b < p) (h : p ∣ a - b) : a = b := by
  obtain ⟨t, ht⟩ := h
  have : t = 0 := by
    rcases Int.lt_trichotomy t 0 with h0 | h0 | h0
    · have : p * t ≤ p * (-1) := Int.mul_le_mul_of_nonneg_left (by omega) (by omega); omega
    · exact h0
    · have : p * 1 ≤ p * t := Int.mul_le_mul_of_nonneg_left (by omega) (by omega); omega
  subst this; omega
theorem sumL_dvd {α : Type} {p : Int} {L : List α} {f : α → Int} (h : ∀ a ∈ L, p ∣ f a) : p ∣ sumL L f := by
  induction L with
  | nil => exact ⟨0, by simp [sumL]⟩
  | cons a L ih => rw [sumL_cons]; exact Int.dvd_add (h a (by simp)) (ih fun b hb => h b (by simp [hb]))
/-- A row that is a sum of multiples of others is 0 where these are. -/
theorem ann_comb {p : Int} (hp : 0 < p) {m : Nat} {r : List Int} (hr : InP p m r) (L : List (Int × List Int)) (hL : ∀ x ∈ L, InP p m x.2) (h : ∀ j, j < m → p ∣ nth r j - sumL L fun x => x.1 * nth x.2 j) {f : List Int → Int} (hf : Lin p m f) (hA : ∀ x ∈ L, p ∣ f x.2) : p ∣ f r := by
  obtain ⟨i1, i2, i3⟩ := combL_spec hp L hL
  have e : r = combL p m L := ext_nth (by rw [hr.1, i1.1]) fun j hj => eq_of_dvd (hr.nth hp j) (i1.nth hp j) (by
    obtain ⟨t, ht⟩ := i2 j
    obtain ⟨u, hu⟩ := h j (by rw [← hr.1]; exact hj)
    exact ⟨u - t, by grind⟩)
  obtain ⟨t, ht⟩ := i3 f hf
  obtain ⟨u, hu⟩ := sumL_dvd (p := p) (L := L) (f := fun x => x.1 * f x.2) fun x hx => by
    obtain ⟨v, hv⟩ := hA x hx; exact ⟨x.1 * v, by grind⟩
  rw [e]; exact ⟨t + u, by grind⟩

/-- The rows of a matrix with the unit behind it. -/
def gRow (n : Nat) (g : Nat → Nat → Int) (i : Nat) : List Int := rowF (2 * n) fun j => if j < n then g i j else if j - n = i then 1 else 0
def gRows (n : Nat) (g : Nat → Nat → Int) : List (List Int) := (List.range n).map (gRow n g)
/-- The rows of the unit with a matrix behind it. -/
def uRow (n : Nat) (H : Nat → Nat → Int) (i : Nat) : List Int := rowF (2 * n) fun j => if j < n then (if j = i then 1 else 0) else H i (j - n)
def uRows (n : Nat) (H : Nat → Nat → Int) : List (List Int) := (List.range n).map (uRow n H)
/-- Numbers modulo p inside of a size. -/
def MatP (p : Int) (n : Nat) (g : Nat → Nat → Int) : Prop := ∀ i, i < n → ∀ j, j < n → 0 ≤ g i j ∧ g i j < p
theorem inP_rowF {p : Int} {m : Nat} {f : Nat → Int} (h : ∀ j, j < m → 0 ≤ f j ∧ f j < p) : InP p m (rowF m f) :=
  ⟨len_rowF m f, fun a ha => by obtain ⟨j, hj, rfl⟩ := List.mem_map.1 ha; exact h j (by simpa using hj)⟩
theorem gRow_inP {p : Int} (hp : 2 ≤ p) {n : Nat} {g : Nat → Nat → Int} (hg : MatP p n g) {i : Nat} (hi : i < n) : InP p (2 * n) (gRow n g i) := inP_rowF fun j hj => by
  split
  · exact hg i hi j (by omega)
  · split <;> omega
theorem uRow_inP {p : Int} (hp : 2 ≤ p) {n : Nat} {H : Nat → Nat → Int} (hH : MatP p n H) {i : Nat} (hi : i < n) : InP p (2 * n) (uRow n H i) := inP_rowF fun j hj => by
  split
  · split <;> omega
  · exact hH i hi _ (by omega)
theorem uRow_lead {n : Nat} {H : Nat → Nat → Int} {i : Nat} (hi : i < n) : leadN (uRow n H i) = i :=
  lead_eq (fun j hj => by rw [uRow, nth_rowF _ (by omega), if_pos (by omega), if_neg (by omega)]) (by rw [uRow, nth_rowF _ (by omega), if_pos (by omega), if_pos rfl]; omega)
theorem uRow_at {n : Nat} {H : Nat → Nat → Int} {i j : Nat} (hj : j < n) : nth (uRow n H i) j = if j = i then 1 else 0 := by rw [uRow, nth_rowF _ (by omega), if_pos hj]

theorem uRows_reduced {p : Int} (hp : 2 ≤ p) {n : Nat} {H : Nat → Nat → Int} (hH : MatP p n H) : Reduced p (2 * n) (uRows n H) := by
  have mem : ∀ r ∈ uRows n H, ∃ i, i < n ∧ r = uRow n H i := fun r hr => by
    obtain ⟨i, hi, rfl⟩ := List.mem_map.1 hr; exact ⟨i, by simpa using hi, rfl⟩
  refine ⟨fun r hr => ?_, fun r hr => ?_, fun r hr => ?_, ?_, fun a ha b hb hne => ?_⟩
  · obtain ⟨i, hi, rfl⟩ := mem r hr; exact uRow_inP hp hH hi
  · obtain ⟨i, hi, rfl⟩ := mem r hr; rw [uRow_lead hi]; omega
  · obtain ⟨i, hi, rfl⟩ := mem r hr; rw [uRow_lead hi, uRow_at hi, if_pos rfl]
  · refine List.pairwise_map.2 ((List.Pairwise.and_mem.1 List.pairwise_lt_range).imp fun ⟨ha, hb, hab⟩ => ?_)
    rw [uRow_lead (by simpa using ha), uRow_lead (by simpa using hb)]; exact hab
  · obtain ⟨i, hi, rfl⟩ := mem a ha
    obtain ⟨k, hk, rfl⟩ := mem b hb
    rw [uRow_lead hi, uRow_lead hk] at hne
    rw [uRow_lead hi, uRow_at hi, if_neg hne]

def dl (i j : Nat) : Int := if j = i then 1 else 0
/-- g h is the unit, modulo p. -/
def Inv (p : Int) (n : Nat) (g h : Nat → Nat → Int) : Prop := ∀ i, i < n → ∀ j, j < n → p ∣ (sumL (List.range n) fun k => g i k * h k j) - dl i j

theorem ech_unit {p : Int} (hp : PrimeS p) {n : Nat} {g H : Nat → Nat → Int} (hg : MatP p n g) (hH : MatP p n H) (h1 : Inv p n g H) (h2 : Inv p n H g) : echL p (gRows n g) = uRows n H := by
  obtain ⟨p2, _⟩ := hp.le
  have mg : ∀ r ∈ gRows n g, ∃ i, i < n ∧ r = gRow n g i := fun r hr => by
    obtain ⟨i, hi, rfl⟩ := List.mem_map.1 hr; exact ⟨i, by simpa using hi, rfl⟩
  have mu : ∀ r ∈ uRows n H, ∃ i, i < n ∧ r = uRow n H i := fun r hr => by
    obtain ⟨i, hi, rfl⟩ := List.mem_map.1 hr; exact ⟨i, by simpa using hi, rfl⟩
  obtain ⟨e1, e2⟩ := echL_spec hp (m := 2 * n) (gRows n g) fun r hr => by obtain ⟨i, hi, rfl⟩ := mg r hr; exact gRow_inP p2 hg hi
  have sumMap : ∀ (c : Nat → Int) (R : Nat → List Int) (F : Int × List Int → Int), sumL ((List.range n).map fun k => (c k, R k)) F = sumL (List.range n) fun k => F (c k, R k) := fun c R F => by simp [sumL, List.map_map, Function.comp_def]
  have single : ∀ (F : Nat → Int) (k : Nat), k < n → (∀ i, i < n → i ≠ k → F i = 0) → sumL (List.range n) F = F k := fun F k hk h => sumL_one List.nodup_range (by simpa using hk) fun b hb => h b (by simpa using hb)
  refine unique p2 e1 (uRows_reduced p2 hH) fun f hf => (e2 f hf).trans ⟨fun hA r hr => ?_, fun hA r hr => ?_⟩
  · obtain ⟨i, hi, rfl⟩ := mu r hr
    refine ann_comb (by omega) (uRow_inP p2 hH hi) ((List.range n).map fun k => (H i k, gRow n g k)) (fun x hx => ?_) (fun j hj => ?_) hf fun x hx => ?_
    · obtain ⟨k, hk, rfl⟩ := List.mem_map.1 hx; exact gRow_inP p2 hg (by simpa using hk)
    · rw [sumMap, uRow, nth_rowF _ hj]
      have e : (fun k => H i k * nth (gRow n g k) j) = fun k => H i k * if j < n then g k j else if j - n = k then 1 else 0 := funext fun k => by rw [gRow, nth_rowF _ hj]
      simp only [] at e ⊢
      rw [e]
      by_cases hjn : j < n
      · simp only [if_pos hjn]
        obtain ⟨t, ht⟩ := h2 i hi j hjn
        unfold dl at ht
        exact ⟨-t, by grind⟩
      · simp only [if_neg hjn]
        rw [single _ (j - n) (by omega) fun k _ hk => by rw [if_neg (by omega)]; simp]
        simp
    · obtain ⟨k, hk, rfl⟩ := List.mem_map.1 hx
      exact hA _ (List.mem_map.2 ⟨k, hk, rfl⟩)
  · obtain ⟨i, hi, rfl⟩ := mg r hr
    refine ann_comb (by omega) (gRow_inP p2 hg hi) ((List.range n).map fun k => (g i k, uRow n H k)) (fun x hx => ?_) (fun j hj => ?_) hf fun x hx => ?_
    · obtain ⟨k, hk, rfl⟩ := List.mem_map.1 hx; exact uRow_inP p2 hH (by simpa using hk)
    · rw [sumMap, gRow, nth_rowF _ hj]
      have e : (fun k => g i k * nth (uRow n H k) j) = fun k => g i k * if j < n then (if j = k then 1 else 0) else H k (j - n) := funext fun k => by rw [uRow, nth_rowF _ hj]
      simp only [] at e ⊢
      rw [e]
      by_cases hjn : j < n
      · simp only [if_pos hjn]
        rw [single _ j (by omega) fun k _ hk => by rw [if_neg (by omega)]; simp]
        simp
      · simp only [if_neg hjn]
        obtain ⟨t, ht⟩ := h1 i hi (j - n) (by omega)
        unfold dl at ht
        exact ⟨-t, by grind⟩
    · obtain ⟨k, hk, rfl⟩ := List.mem_map.1 hx
      exact hA _ (List.mem_map.2 ⟨k, hk, rfl⟩)

/-- What the model asks of the reduced rows. -/
def okR (n : Nat) (R : List (List Int)) : Prop := R.length = n ∧ ∀ i, (h : i < R.length) → leadN R[i] = i
theorem ech_inv {p : Int} (hp : PrimeS p) {n : Nat} {g : Nat → Nat → Int} (hg : MatP p n g) (h : okR n (echL p (gRows n g))) :
    Inv p n g fun k j => nth ((echL p (gRows n g)).getD k []) (n + j) := by
  obtain ⟨p2, _⟩ := hp.le
  have mg : ∀ r ∈ gRows n g, ∃ i, i < n ∧ r = gRow n g i := fun r hr => by
    obtain ⟨i, hi, rfl⟩ := List.mem_map.1 hr; exact ⟨i, by simpa using hi, rfl⟩
  obtain ⟨e1, e2⟩ := echL_spec hp (m := 2 * n) (gRows n g) fun r hr => by obtain ⟨i, hi, rfl⟩ := mg r hr; exact gRow_inP p2 hg hi
  generalize echL p (gRows n g) = R at *
  intro i hi j hj
  have := comb e1 (fun f hf => (e2 f hf).1) (r := gRow n g i) (List.mem_map.2 ⟨i, by simpa using hi, rfl⟩) (n + j)
  obtain ⟨o1, o2⟩ := h
  have hR : R = (List.range n).map fun k => R.getD k [] := by
    refine List.ext_getElem (by simp [o1]) fun k h1 h2 => ?_
    simp [h1]
  have hs : (sumL R fun q => nth (gRow n g i) (leadN q) * nth q (n + j)) = sumL (List.range n) fun k => g i k * nth (R.getD k []) (n + j) := by
    have : (sumL R fun q => nth (gRow n g i) (leadN q) * nth q (n + j)) = sumL (List.range n) fun k => nth (gRow n g i) (leadN (R.getD k [])) * nth (R.getD k []) (n + j) := by
      conv => lhs; rw [hR]
      simp [sumL, List.map_map, Function.comp_def]
    rw [this]
    unfold sumL
    congr 1
    refine List.map_congr_left fun k hk => ?_
    have hk' : k < n := by simpa using hk
    have : leadN (R.getD k []) = k := by
      have := o2 k (by omega)
      simpa [List.getD, o1, hk'] using this
    rw [this, gRow, nth_rowF _ (by omega), if_pos hk']
  rw [hs] at this
  rw [gRow, nth_rowF _ (by omega), if_neg (by omega)] at this
  obtain ⟨t, ht⟩ := this
  unfold dl
  refine ⟨-t, ?_⟩
  rw [show n + j - n = j by omega] at ht
  simp only [] at ht ⊢
  grind


/-- A matrix, filled with 1 on the diagonal behind its size. -/
def fullM (n : Nat) (g : Nat → Nat → Int) (i j : Nat) : Int := if j = i ∧ n ≤ i then 1 else g i j
/-- The cofactors modulo p, and the determinant. -/
def cofP (p : Int) (f : Nat → Nat → Int) (i j : Nat) : Int :=
  (f ((i + 1) % 3) ((j + 1) % 3) * f ((i + 2) % 3) ((j + 2) % 3) + (p - 1) * (f ((i + 1) % 3) ((j + 2) % 3) * f ((i + 2) % 3) ((j + 1) % 3))) % p
def detP (p : Int) (f : Nat → Nat → Int) : Int := (f 0 0 * cofP p f 0 0 + f 0 1 * cofP p f 0 1 + f 0 2 * cofP p f 0 2) % p
def detE (f : Nat → Nat → Int) : Int := f 0 0 * (f 1 1 * f 2 2 - f 1 2 * f 2 1) + f 0 1 * (f 1 2 * f 2 0 - f 1 0 * f 2 2) + f 0 2 * (f 1 0 * f 2 1 - f 1 1 * f 2 0)
/-- The inverse, from a number F that makes 1 with the determinant. -/
def hM (p F : Int) (f : Nat → Nat → Int) (a b : Nat) : Int := cofP p f b a * F % p

theorem cof_ex (p a b : Int) : ∃ t, (a + (p - 1) * b) % p = a - b + p * t := by
  obtain ⟨t, ht⟩ := dvd_emod p (a + (p - 1) * b)
  exact ⟨t + b, by grind⟩
theorem emod_ex (p a : Int) : ∃ t, a % p = a + p * t := by
  obtain ⟨t, ht⟩ := dvd_emod p a
  exact ⟨t, by grind⟩
theorem detP_eq (p : Int) (f : Nat → Nat → Int) : detP p f = detE f % p := by
  unfold detP
  obtain ⟨t0, h0⟩ : ∃ t, cofP p f 0 0 = f 1 1 * f 2 2 - f 1 2 * f 2 1 + p * t := cof_ex _ _ _
  obtain ⟨t1, h1⟩ : ∃ t, cofP p f 0 1 = f 1 2 * f 2 0 - f 1 0 * f 2 2 + p * t := cof_ex _ _ _
  obtain ⟨t2, h2⟩ : ∃ t, cofP p f 0 2 = f 1 0 * f 2 1 - f 1 1 * f 2 0 + p * t := cof_ex _ _ _
  rw [show f 0 0 * cofP p f 0 0 + f 0 1 * cofP p f 0 1 + f 0 2 * cofP p f 0 2 = detE f + p * (f 0 0 * t0 + f 0 1 * t1 + f 0 2 * t2) by unfold detE; grind, Int.add_mul_emod_self_left]

theorem inv_core {p F D Det s u dl a0 a1 a2 C0 C1 C2 c0 c1 c2 H0 H1 H2 t0 t1 t2 r0 r1 r2 : Int} (k0 : c0 = C0 + p * t0) (k1 : c1 = C1 + p * t1) (k2 : c2 = C2 + p * t2)
    (e0 : H0 = c0 * F + p * r0) (e1 : H1 = c1 * F + p * r1) (e2 : H2 = c2 * F + p * r2) (hs : 1 = D * F + p * s) (hu : D = Det + p * u) (h : a0 * C0 + a1 * C1 + a2 * C2 = dl * Det) :
    p ∣ (a0 * H0 + a1 * H1 + a2 * H2) - dl := by
  refine ⟨F * (a0 * t0 + a1 * t1 + a2 * t2) + (a0 * r0 + a1 * r1 + a2 * r2) - dl * (s + u * F), ?_⟩
  have h2 : a0 * H0 + a1 * H1 + a2 * H2 = F * (a0 * C0 + a1 * C1 + a2 * C2) + p * (F * (a0 * t0 + a1 * t1 + a2 * t2) + (a0 * r0 + a1 * r1 + a2 * r2)) := by
    rw [e0, e1, e2, k0, k1, k2]; clear e0 e1 e2 k0 k1 k2 hs hu h; grind
  rw [h2, h]
  clear h2 h e0 e1 e2 k0 k1 k2
  have h3 : dl * Det * F = dl * (1 - p * s - p * u * F) := by
    have : Det * F = 1 - p * s - p * u * F := by grind
    grind
  grind

theorem full_inv {p F : Int} (f : Nat → Nat → Int) (hF : detP p f * F % p = 1) : ∀ i, i < 3 → ∀ j, j < 3 →
    p ∣ (f i 0 * hM p F f 0 j + f i 1 * hM p F f 1 j + f i 2 * hM p F f 2 j) - dl i j ∧ p ∣ (f 0 j * hM p F f i 0 + f 1 j * hM p F f i 1 + f 2 j * hM p F f i 2) - dl i j := by
  obtain ⟨s, hs⟩ := emod_ex p (detP p f * F)
  rw [hF] at hs
  obtain ⟨u, hu⟩ := emod_ex p (detE f)
  rw [← detP_eq] at hu
  have hc : ∀ i j, ∃ t, cofP p f i j = (f ((i + 1) % 3) ((j + 1) % 3) * f ((i + 2) % 3) ((j + 2) % 3) - f ((i + 1) % 3) ((j + 2) % 3) * f ((i + 2) % 3) ((j + 1) % 3)) + p * t := fun i j => cof_ex _ _ _
  have hh : ∀ a b, ∃ r, hM p F f a b = cofP p f b a * F + p * r := fun a b => emod_ex _ _
  intro i hi j hj
  have hi3 : i = 0 ∨ i = 1 ∨ i = 2 := by omega
  have hj3 : j = 0 ∨ j = 1 ∨ j = 2 := by omega
  constructor
  · obtain ⟨t0, h0⟩ := hc j 0
    obtain ⟨t1, h1⟩ := hc j 1
    obtain ⟨t2, h2⟩ := hc j 2
    obtain ⟨r0, g0⟩ := hh 0 j
    obtain ⟨r1, g1⟩ := hh 1 j
    obtain ⟨r2, g2⟩ := hh 2 j
    refine inv_core h0 h1 h2 g0 g1 g2 hs hu ?_
    clear hc hh h0 h1 h2 g0 g1 g2 hs hu hF hi hj
    unfold detE dl
    rcases hi3 with rfl | rfl | rfl <;> rcases hj3 with rfl | rfl | rfl <;> simp <;> grind
  · obtain ⟨t0, h0⟩ := hc 0 i
    obtain ⟨t1, h1⟩ := hc 1 i
    obtain ⟨t2, h2⟩ := hc 2 i
    obtain ⟨r0, g0⟩ := hh i 0
    obtain ⟨r1, g1⟩ := hh i 1
    obtain ⟨r2, g2⟩ := hh i 2
    refine inv_core h0 h1 h2 g0 g1 g2 hs hu ?_
    clear hc hh h0 h1 h2 g0 g1 g2 hs hu hF hi hj
    unfold detE dl
    rcases hi3 with rfl | rfl | rfl <;> rcases hj3 with rfl | rfl | rfl <;> simp <;> grind

/-- Two full matrices that make the unit have determinants that are not 0. -/
theorem det_ne {p : Int} (hp : 2 ≤ p) (f K : Nat → Nat → Int) (h : ∀ i, i < 3 → ∀ j, j < 3 → p ∣ (f i 0 * K 0 j + f i 1 * K 1 j + f i 2 * K 2 j) - dl i j) : detP p f ≠ 0 := by
  intro hd
  obtain ⟨u, hu⟩ := emod_ex p (detE f)
  rw [← detP_eq, hd] at hu
  have key : ∀ i j, i < 3 → j < 3 → ∃ t, f i 0 * K 0 j + f i 1 * K 1 j + f i 2 * K 2 j = dl i j + p * t := fun i j hi hj => by
    obtain ⟨t, ht⟩ := h i hi j hj; exact ⟨t, by omega⟩
  obtain ⟨a, ha⟩ := key 0 0 (by omega) (by omega)
  obtain ⟨b, hb⟩ := key 0 1 (by omega) (by omega)
  obtain ⟨c, hc⟩ := key 0 2 (by omega) (by omega)
  obtain ⟨d, hd⟩ := key 1 0 (by omega) (by omega)
  obtain ⟨e, he⟩ := key 1 1 (by omega) (by omega)
  obtain ⟨g, hg⟩ := key 1 2 (by omega) (by omega)
  obtain ⟨x, hx⟩ := key 2 0 (by omega) (by omega)
  obtain ⟨y, hy⟩ := key 2 1 (by omega) (by omega)
  obtain ⟨z, hz⟩ := key 2 2 (by omega) (by omega)
  simp only [dl] at *
  have hm : ∀ a00 a01 a02 a10 a11 a12 a20 a21 a22 b00 b01 b02 b10 b11 b12 b20 b21 b22 : Int,
      (a00 * (a11 * a22 - a12 * a21) + a01 * (a12 * a20 - a10 * a22) + a02 * (a10 * a21 - a11 * a20)) * (b00 * (b11 * b22 - b12 * b21) + b01 * (b12 * b20 - b10 * b22) + b02 * (b10 * b21 - b11 * b20)) =
      (a00 * b00 + a01 * b10 + a02 * b20) * ((a10 * b01 + a11 * b11 + a12 * b21) * (a20 * b02 + a21 * b12 + a22 * b22) - (a10 * b02 + a11 * b12 + a12 * b22) * (a20 * b01 + a21 * b11 + a22 * b21)) +
      (a00 * b01 + a01 * b11 + a02 * b21) * ((a10 * b02 + a11 * b12 + a12 * b22) * (a20 * b00 + a21 * b10 + a22 * b20) - (a10 * b00 + a11 * b10 + a12 * b20) * (a20 * b02 + a21 * b12 + a22 * b22)) +
      (a00 * b02 + a01 * b12 + a02 * b22) * ((a10 * b00 + a11 * b10 + a12 * b20) * (a20 * b01 + a21 * b11 + a22 * b21) - (a10 * b01 + a11 * b11 + a12 * b21) * (a20 * b00 + a21 * b10 + a22 * b20)) := by
    intros; grind
  have := hm (f 0 0) (f 0 1) (f 0 2) (f 1 0) (f 1 1) (f 1 2) (f 2 0) (f 2 1) (f 2 2) (K 0 0) (K 0 1) (K 0 2) (K 1 0) (K 1 1) (K 1 2) (K 2 0) (K 2 1) (K 2 2)
  rw [ha, hb, hc, hd, he, hg, hx, hy, hz] at this
  clear hm ha hb hc hd he hg hx hy hz key h
  unfold detE at hu
  generalize (f 0 0 * (f 1 1 * f 2 2 - f 1 2 * f 2 1) + f 0 1 * (f 1 2 * f 2 0 - f 1 0 * f 2 2) + f 0 2 * (f 1 0 * f 2 1 - f 1 1 * f 2 0)) = A at *
  generalize (K 0 0 * (K 1 1 * K 2 2 - K 1 2 * K 2 1) + K 0 1 * (K 1 2 * K 2 0 - K 1 0 * K 2 2) + K 0 2 * (K 1 0 * K 2 1 - K 1 1 * K 2 0)) = B at *
  have h1 : p ∣ 1 := by
    refine ⟨-(u * B) - ((a + e + z) + p * (a * e - b * d + (a * z - c * x) + (e * z - g * y)) + p * p * (a * (e * z - g * y) + b * (g * x - d * z) + c * (d * y - e * x))), ?_⟩
    have hA : A = -(p * u) := by omega
    rw [hA] at this
    simp at this
    grind
  have := Int.le_of_dvd (by omega) h1
  omega

theorem hM_bound {p F : Int} (hp : 2 ≤ p) (f : Nat → Nat → Int) (a b : Nat) : 0 ≤ hM p F f a b ∧ hM p F f a b < p := ⟨Int.emod_nonneg _ (by omega), Int.emod_lt_of_pos _ (by omega)⟩
theorem detP_bound {p : Int} (hp : 2 ≤ p) (f : Nat → Nat → Int) : 0 ≤ detP p f ∧ detP p f < p := ⟨Int.emod_nonneg _ (by omega), Int.emod_lt_of_pos _ (by omega)⟩
/-- 0 outside of a size. -/
def Out0 (n : Nat) (g : Nat → Nat → Int) : Prop := ∀ i, i < 3 → ∀ j, j < 3 → (n ≤ i ∨ n ≤ j) → g i j = 0
theorem mat_inv {p F : Int} (hp : 2 ≤ p) {n : Nat} (h1 : 1 ≤ n) (h3 : n ≤ 3) {g : Nat → Nat → Int} (ho : Out0 n g) (hF : detP p (fullM n g) * F % p = 1) :
    Inv p n g (hM p F (fullM n g)) ∧ Inv p n (hM p F (fullM n g)) g ∧ MatP p n (hM p F (fullM n g)) := by
  have key := full_inv (fullM n g) hF
  refine ⟨fun i hi j hj => ?_, fun i hi j hj => ?_, fun i _ j _ => hM_bound hp _ _ _⟩
  · obtain ⟨t, ht⟩ := (key i (by omega) j (by omega)).1
    refine ⟨t, ?_⟩
    rw [← ht]
    clear ht key hF
    generalize hM p F (fullM n g) = H
    have z : ∀ k, k < 3 → fullM n g i k = if k < n then g i k else 0 := fun k hk => by
      unfold fullM
      by_cases hkn : k < n
      · rw [if_neg (by omega), if_pos hkn]
      · rw [if_neg (by omega), if_neg hkn, ho i (by omega) k hk (.inr (by omega))]
    rw [z 0 (by omega), z 1 (by omega), z 2 (by omega)]
    have hn : n = 1 ∨ n = 2 ∨ n = 3 := by omega
    rcases hn with rfl | rfl | rfl <;> simp [sumL, List.range_succ] <;> omega
  · obtain ⟨t, ht⟩ := (key i (by omega) j (by omega)).2
    refine ⟨t, ?_⟩
    rw [← ht]
    clear ht key hF
    generalize hM p F (fullM n g) = H
    have z : ∀ k, k < 3 → fullM n g k j = if k < n then g k j else 0 := fun k hk => by
      unfold fullM
      by_cases hkn : k < n
      · rw [if_neg (by omega), if_pos hkn]
      · rw [if_neg (by omega), if_neg hkn, ho k hk j (by omega) (.inl (by omega))]
    rw [z 0 (by omega), z 1 (by omega), z 2 (by omega)]
    have hn : n = 1 ∨ n = 2 ∨ n = 3 := by omega
    rcases hn with rfl | rfl | rfl <;> simp [sumL, List.range_succ, Int.mul_comm] <;> omega
theorem mat_det {p : Int} (hp : 2 ≤ p) {n : Nat} (h1 : 1 ≤ n) (h3 : n ≤ 3) {g K : Nat → Nat → Int} (ho : Out0 n g) (hK : Inv p n g K) : detP p (fullM n g) ≠ 0 := by
  refine det_ne hp (fullM n g) (fullM n fun i j => if i < n ∧ j < n then K i j else 0) fun i hi j hj => ?_
  have hn : n = 1 ∨ n = 2 ∨ n = 3 := by omega
  have hi3 : i = 0 ∨ i = 1 ∨ i = 2 := by omega
  have hj3 : j = 0 ∨ j = 1 ∨ j = 2 := by omega
  by_cases hij : i < n ∧ j < n
  · obtain ⟨t, ht⟩ := hK i hij.1 j hij.2
    refine ⟨t, ?_⟩
    rw [← ht]
    clear ht hK
    have z : ∀ k, k < 3 → fullM n g i k = if k < n then g i k else 0 := fun k hk => by
      unfold fullM
      by_cases hkn : k < n
      · rw [if_neg (by omega), if_pos hkn]
      · rw [if_neg (by omega), if_neg hkn, ho i (by omega) k hk (.inr (by omega))]
    have z2 : ∀ k, k < n → fullM n (fun i j => if i < n ∧ j < n then K i j else 0) k j = K k j := fun k hk => by
      unfold fullM
      rw [if_neg (by omega)]
      show (if k < n ∧ j < n then K k j else 0) = K k j
      rw [if_pos ⟨hk, hij.2⟩]
    generalize fullM n (fun i j => if i < n ∧ j < n then K i j else 0) = KK at *
    rw [z 0 (by omega), z 1 (by omega), z 2 (by omega)]
    rcases hn with rfl | rfl | rfl <;> simp [sumL, List.range_succ, z2] <;> omega
  · clear hK
    refine ⟨0, ?_⟩
    have o := fun a b (ha : a < 3) (hb : b < 3) h => ho a ha b hb h
    rcases hn with rfl | rfl | rfl <;> rcases hi3 with rfl | rfl | rfl <;> rcases hj3 with rfl | rfl | rfl <;> first
      | (exfalso; omega)
      | simp [fullM, dl, o]
/-- WHETHER THE MODEL'S REDUCED ROWS HAVE THE UNIT IN FRONT: exactly if the determinant is not 0; and then they have the inverse behind it. -/
theorem ech_mat {p : Int} (hp : PrimeS p) {n : Nat} (h1 : 1 ≤ n) (h3 : n ≤ 3) {g : Nat → Nat → Int} (hg : MatP p n g) (ho : Out0 n g) :
    (okR n (echL p (gRows n g)) ↔ detP p (fullM n g) ≠ 0) ∧ ∀ F, detP p (fullM n g) * F % p = 1 → echL p (gRows n g) = uRows n (hM p F (fullM n g)) := by
  obtain ⟨p2, p13⟩ := hp.le
  have two : ∀ F, detP p (fullM n g) * F % p = 1 → echL p (gRows n g) = uRows n (hM p F (fullM n g)) := fun F hF => by
    obtain ⟨a, b, c⟩ := mat_inv p2 h1 h3 ho hF
    exact ech_unit hp hg c a b
  refine ⟨⟨fun h => mat_det p2 h1 h3 ho (ech_inv hp hg h), fun h => ?_⟩, two⟩
  obtain ⟨b1, b2⟩ := detP_bound p2 (fullM n g)
  rw [two _ (invP_ok hp (x := detP p (fullM n g)) (by omega) b2).1]
  refine ⟨by simp [uRows], fun i hi => ?_⟩
  simp only [uRows, List.getElem_map, List.getElem_range]
  exact uRow_lead (by simpa [uRows] using hi)
end Go.Proofs.Ytphgpadpffigjaa.EchM
