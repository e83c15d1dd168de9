/-
  ELIMINATION by columns in a table of rows: plain mathematics. Conditions: as each theorem states.
-/
import Derived.Test.YtbahejlgfpilnaaEm
namespace Go.Proofs.Ytbahejlgfpilnaa
open EchM

/-- A row of the table with the multiple of row R added that makes its number in column c 0. -/
def addT (p : Int) (R c : Nat) (T : Nat → Nat → Int) (i j : Nat) : Int := if i = R then T i j else (T i j + (p - T i c) * T R j) % p
def scaT (p : Int) (R : Nat) (k : Int) (T : Nat → Nat → Int) (i j : Nat) : Int := if i = R then T i j * k % p else T i j
def swaT (R q : Nat) (T : Nat → Nat → Int) (i j : Nat) : Int := if i = R then T q j else if i = q then T R j else T i j

/-- The table after c columns, with R rows that lead: row i leads in column ld i. -/
structure Elim (p : Int) (N n : Nat) (T0 T : Nat → Nat → Int) (R c : Nat) (ld : Nat → Nat) : Prop where
  num : ∀ i, i < N → ∀ j, j < n → 0 ≤ T i j ∧ T i j < p
  le : R ≤ N
  ldc : ∀ i, i < R → ld i < c
  inc : ∀ i k, i < k → k < R → ld i < ld k
  one : ∀ i, i < R → T i (ld i) = 1
  pre : ∀ i, i < R → ∀ j, j < ld i → T i j = 0
  col : ∀ i, i < R → ∀ k, k < N → k ≠ i → T k (ld i) = 0
  rest : ∀ i, R ≤ i → i < N → ∀ j, j < c → T i j = 0
  ann : ∀ f, Lin p n f → ((∀ i, i < N → p ∣ f (rowF n (T0 i))) ↔ ∀ i, i < N → p ∣ f (rowF n (T i)))
theorem Elim.start {p : Int} {N n : Nat} {T : Nat → Nat → Int} (h : ∀ i, i < N → ∀ j, j < n → 0 ≤ T i j ∧ T i j < p) : Elim p N n T T 0 0 (fun _ => 0) :=
  ⟨h, Nat.zero_le _, fun i hi => by omega, fun i k _ hk => by omega, fun i hi => by omega, fun i hi => by omega, fun i hi => by omega, fun i _ _ j hj => by omega, fun _ _ => Iff.rfl⟩
theorem Elim.skip {p : Int} {N n : Nat} {T0 T : Nat → Nat → Int} {R c : Nat} {ld : Nat → Nat} (h : Elim p N n T0 T R c ld) (hz : ∀ i, R ≤ i → i < N → T i c = 0) : Elim p N n T0 T R (c + 1) ld :=
  ⟨h.num, h.le, fun i hi => by have := h.ldc i hi; omega, h.inc, h.one, h.pre, h.col, fun i h1 h2 j hj => by
    by_cases e : j = c
    · subst e; exact hz i h1 h2
    · exact h.rest i h1 h2 j (by omega), h.ann⟩
/-- Two rows that don't lead are exchanged. -/
theorem Elim.swap {p : Int} {N n : Nat} {T0 T : Nat → Nat → Int} {R c : Nat} {ld : Nat → Nat} (h : Elim p N n T0 T R c ld) {q : Nat} (h1 : R ≤ q) (h2 : q < N) : Elim p N n T0 (swaT R q T) R c ld := by
  have hlow : ∀ i, i < R → swaT R q T i = T i := fun i hi => by funext j; unfold swaT; rw [if_neg (by omega), if_neg (by omega)]
  have hR : swaT R q T R = T q := by funext j; unfold swaT; rw [if_pos rfl]
  have hq : swaT R q T q = T R := by
    funext j; unfold swaT
    by_cases e : q = R
    · rw [if_pos e, e]
    · rw [if_neg e, if_pos rfl]
  have hoth : ∀ i, i ≠ R → i ≠ q → swaT R q T i = T i := fun i a b => by funext j; unfold swaT; rw [if_neg a, if_neg b]
  have key : ∀ i, ∃ k, swaT R q T i = T k ∧ (i < N → k < N) ∧ (R ≤ i → R ≤ k) ∧ (i < R → k = i) ∧ (R ≤ i → ∀ m, m < R → k ≠ m) := fun i => by
    by_cases a : i = R
    · exact ⟨q, by rw [a]; exact hR, fun _ => h2, fun _ => h1, fun hi => by omega, fun _ m hm => by omega⟩
    · by_cases b : i = q
      · exact ⟨R, by rw [b]; exact hq, fun _ => by omega, fun _ => Nat.le_refl _, fun hi => by omega, fun _ m hm => by omega⟩
      · exact ⟨i, hoth i a b, id, id, fun _ => rfl, fun _ m hm => by omega⟩
  refine ⟨fun i hi j hj => ?_, h.le, h.ldc, h.inc, fun i hi => by rw [hlow i hi]; exact h.one i hi, fun i hi => by rw [hlow i hi]; exact h.pre i hi, fun i hi k hk hne => ?_, fun i hi hiN j hj => ?_, fun f hf => (h.ann f hf).trans ⟨fun hA i hi => ?_, fun hA i hi => ?_⟩⟩
  · obtain ⟨k, e, a, _⟩ := key i
    rw [e]; exact h.num k (a hi) j hj
  · obtain ⟨k', e, a, _, b, d⟩ := key k
    rw [e]
    refine h.col i hi k' (a hk) ?_
    by_cases hkR : k < R
    · rw [b hkR]; exact hne
    · exact d (by omega) i hi
  · obtain ⟨k, e, a, b, _⟩ := key i
    rw [e]; exact h.rest k (b hi) (a hiN) j hj
  · obtain ⟨k, e, a, _⟩ := key i
    rw [e]; exact hA k (a hi)
  · by_cases a : i = R
    · rw [a, ← hq]; exact hA q h2
    · by_cases b : i = q
      · rw [b, ← hR]; exact hA R (by omega)
      · rw [← hoth i a b]; exact hA i hi
theorem scale_row {p k : Int} {n : Nat} (f : Nat → Int) : rowF n (fun j => f j * k % p) = scaleL p k (rowF n f) :=
  ext_nth (by simp [len_rowF, scaleL]) fun j hj => by
    rw [len_rowF] at hj
    rw [nth_rowF _ hj, nth_scale, nth_rowF _ hj]
theorem less_row {p x : Int} {n : Nat} (f g : Nat → Int) : rowF n (fun j => (f j + (p - x) * g j) % p) = lessL p x (rowF n f) (rowF n g) :=
  ext_nth (by rw [len_less (by simp [len_rowF]), len_rowF, len_rowF]) fun j hj => by
    rw [len_rowF] at hj
    rw [nth_rowF _ hj, nth_less (by simp [len_rowF]), nth_rowF _ hj, nth_rowF _ hj]
    have : f j + (p - x) * g j = f j - x * g j + p * g j := by grind
    rw [this, Int.add_mul_emod_self_left]
/-- Row R, which leads in column c now, is scaled. -/
theorem Elim.scale {p : Int} (hp : 2 ≤ p) {N n : Nat} {T0 T : Nat → Nat → Int} {R c : Nat} {ld : Nat → Nat} (h : Elim p N n T0 T R c ld) {k x : Int} (hR : R < N) (hk : x * k % p = 1) (hx : T R c = x) : Elim p N n T0 (scaT p R k T) R c ld ∧ scaT p R k T R c = 1 := by
  have hrow : ∀ i, i ≠ R → scaT p R k T i = T i := fun i hi => by funext j; unfold scaT; rw [if_neg hi]
  have hRR : scaT p R k T R = fun j => T R j * k % p := by funext j; unfold scaT; rw [if_pos rfl]
  refine ⟨⟨fun i hi j hj => ?_, h.le, h.ldc, h.inc, fun i hi => by rw [hrow i (by omega)]; exact h.one i hi, fun i hi => by rw [hrow i (by omega)]; exact h.pre i hi, fun i hi m hm hne => ?_, fun i hi hiN j hj => ?_, fun f hf => (h.ann f hf).trans ⟨fun hA i hi => ?_, fun hA i hi => ?_⟩⟩, by rw [hRR]; show T R c * k % p = 1; rw [hx, hk]⟩
  · by_cases e : i = R
    · rw [e, hRR]
      exact ⟨Int.emod_nonneg _ (by omega), Int.emod_lt_of_pos _ (by omega)⟩
    · rw [hrow i e]; exact h.num i hi j hj
  · by_cases e : m = R
    · rw [e, hRR]
      show T R (ld i) * k % p = 0
      rw [h.col i hi R hR (by omega), Int.zero_mul, Int.zero_emod]
    · rw [hrow m e]; exact h.col i hi m hm hne
  · by_cases e : i = R
    · rw [e, hRR]
      show T R j * k % p = 0
      rw [h.rest R (Nat.le_refl _) hR j hj, Int.zero_mul, Int.zero_emod]
    · rw [hrow i e]; exact h.rest i hi hiN j hj
  · by_cases e : i = R
    · rw [e, hRR, scale_row]
      obtain ⟨t, ht⟩ := hf.scale k (rowF n (T R)) (len_rowF _ _)
      obtain ⟨s, hs⟩ := hA R hR
      exact ⟨t + k * s, by grind⟩
    · rw [hrow i e]; exact hA i hi
  · by_cases e : i = R
    · rw [e]
      have h1 := hA R hR
      rw [hRR, scale_row] at h1
      obtain ⟨t, ht⟩ := hf.scale k (rowF n (T R)) (len_rowF _ _)
      obtain ⟨s, hs⟩ := h1
      obtain ⟨y, hy⟩ := dvd_emod p (x * k)
      rw [hk] at hy
      exact ⟨x * (s - t) + y * f (rowF n (T R)), by grind⟩
    · rw [← hrow i e]; exact hA i hi
/-- The other rows lose their number in column c. -/
theorem Elim.add {p : Int} (hp : 2 ≤ p) {N n : Nat} {T0 T : Nat → Nat → Int} {R c : Nat} {ld : Nat → Nat} (h : Elim p N n T0 T R c ld) (hR : R < N) (hcn : c < n) (h1 : T R c = 1) : Elim p N n T0 (addT p R c T) (R + 1) (c + 1) (fun i => if i = R then c else ld i) := by
  have hRR : addT p R c T R = T R := by funext j; unfold addT; rw [if_pos rfl]
  have hrow : ∀ i, i ≠ R → addT p R c T i = fun j => (T i j + (p - T i c) * T R j) % p := fun i hi => by funext j; unfold addT; rw [if_neg hi]
  have hz : ∀ i, i ≠ R → i < N → addT p R c T i c = 0 := fun i hi hiN => by
    rw [hrow i hi]
    show (T i c + (p - T i c) * T R c) % p = 0
    rw [h1]
    have : T i c + (p - T i c) * 1 = p := by grind
    rw [this, Int.emod_self]
  have hsame : ∀ i, i < N → ∀ j, j < n → T R j = 0 → addT p R c T i j = T i j := fun i hiN j hj h0 => by
    by_cases e : i = R
    · rw [e, hRR]
    · rw [hrow i e]
      show (T i j + (p - T i c) * T R j) % p = T i j
      rw [h0, Int.mul_zero, Int.add_zero]
      obtain ⟨a, b⟩ := h.num i hiN j hj
      exact Int.emod_eq_of_lt a b
  have hlt : ∀ i, i < R → ld i < n := fun i hi => by have := h.ldc i hi; omega
  refine ⟨fun i hi j hj => ?_, hR, fun i hi => ?_, fun i k hik hk => ?_, fun i hi => ?_, fun i hi j hj => ?_, fun i hi k hk hne => ?_, fun i hi hiN j hj => ?_, fun f hf => (h.ann f hf).trans ⟨fun hA i hi => ?_, fun hA i hi => ?_⟩⟩
  · by_cases e : i = R
    · rw [e, hRR]; exact h.num R hR j hj
    · rw [hrow i e]
      exact ⟨Int.emod_nonneg _ (by omega), Int.emod_lt_of_pos _ (by omega)⟩
  · show (if i = R then c else ld i) < c + 1
    split
    · omega
    · have := h.ldc i (by omega); omega
  · show (if i = R then c else ld i) < (if k = R then c else ld k)
    rw [if_neg (by omega)]
    split
    · exact h.ldc i (by omega)
    · exact h.inc i k hik (by omega)
  · by_cases e : i = R
    · subst e; show addT p i c T i (if i = i then c else ld i) = 1; rw [if_pos rfl, hRR, h1]
    · show addT p R c T i (if i = R then c else ld i) = 1
      have hi' : i < R := by omega
      rw [if_neg e, hsame i (by omega) _ (hlt i hi') (h.col i hi' R hR (by omega)), h.one i hi']
  · have hj' : j < (if i = R then c else ld i) := hj
    by_cases e : i = R
    · rw [if_pos e] at hj'
      rw [e, hRR]; exact h.rest R (Nat.le_refl _) hR j hj'
    · rw [if_neg e] at hj'
      have hi' : i < R := by omega
      have := h.ldc i hi'
      rw [hsame i (by omega) j (by omega) (h.rest R (Nat.le_refl _) hR j (by omega))]
      exact h.pre i hi' j hj'
  · show addT p R c T k (if i = R then c else ld i) = 0
    by_cases e : i = R
    · rw [if_pos e]; exact hz k (by omega) hk
    · have hi' : i < R := by omega
      rw [if_neg e, hsame k hk _ (hlt i hi') (h.col i hi' R hR (by omega))]
      exact h.col i hi' k hk hne
  · by_cases e : j = c
    · subst e; exact hz i (by omega) hiN
    · rw [hsame i hiN j (by omega) (h.rest R (Nat.le_refl _) hR j (by omega))]
      exact h.rest i (by omega) hiN j (by omega)
  · by_cases e : i = R
    · rw [e, hRR]; exact hA R hR
    · rw [hrow i e, less_row]
      obtain ⟨t, ht⟩ := hf.less (T i c) (rowF n (T i)) (rowF n (T R)) (len_rowF _ _) (len_rowF _ _)
      obtain ⟨s, hs⟩ := hA i hi
      obtain ⟨y, hy⟩ := hA R hR
      exact ⟨t + s - T i c * y, by grind⟩
  · have hAR := hA R hR
    rw [hRR] at hAR
    by_cases e : i = R
    · rw [e]; exact hAR
    · have h2 := hA i hi
      rw [hrow i e, less_row] at h2
      obtain ⟨t, ht⟩ := hf.less (T i c) (rowF n (T i)) (rowF n (T R)) (len_rowF _ _) (len_rowF _ _)
      obtain ⟨s, hs⟩ := h2
      obtain ⟨y, hy⟩ := hAR
      exact ⟨s - t + T i c * y, by grind⟩
theorem Elim.lead {p : Int} {N n : Nat} {T0 T : Nat → Nat → Int} {R c : Nat} {ld : Nat → Nat} (h : Elim p N n T0 T R c ld) (hc : c ≤ n) {i : Nat} (hi : i < R) : leadN (rowF n (T i)) = ld i := by
  have hl := h.ldc i hi
  exact lead_eq (fun j hj => by rw [nth_rowF _ (by omega)]; exact h.pre i hi j hj) (by rw [nth_rowF _ (by omega), h.one i hi]; omega)
/-- What the elimination leaves is the reduced list of the rows. -/
theorem Elim.done {p : Int} (hp : PrimeS p) {N n : Nat} {T0 T : Nat → Nat → Int} {R : Nat} {ld : Nat → Nat} (h : Elim p N n T0 T R n ld) (h0 : ∀ i, i < N → ∀ j, j < n → 0 ≤ T0 i j ∧ T0 i j < p) :
    (List.range R).map (fun i => rowF n (T i)) = echL p ((List.range N).map fun i => rowF n (T0 i)) := by
  have hp2 := hp.le.1
  have hle := h.le
  have hin : ∀ i, i < N → InP p n (rowF n (T i)) := fun i hi => ⟨len_rowF _ _, fun a ha => by
    simp only [rowF, List.mem_map, List.mem_range] at ha
    obtain ⟨j, hj, rfl⟩ := ha
    exact h.num i hi j hj⟩
  have hin0 : ∀ r ∈ (List.range N).map (fun i => rowF n (T0 i)), InP p n r := fun r hr => by
    simp only [List.mem_map, List.mem_range] at hr
    obtain ⟨i, hi, rfl⟩ := hr
    exact ⟨len_rowF _ _, fun a ha => by
      simp only [rowF, List.mem_map, List.mem_range] at ha
      obtain ⟨j, hj, rfl⟩ := ha
      exact h0 i hi j hj⟩
  obtain ⟨e1, e2⟩ := echL_spec hp _ hin0
  refine unique hp2 ?_ e1 (fun f hf => ?_)
  · refine ⟨fun r hr => ?_, fun r hr => ?_, fun r hr => ?_, ?_, fun a ha b hb hne => ?_⟩
    · simp only [List.mem_map, List.mem_range] at hr
      obtain ⟨i, hi, rfl⟩ := hr
      exact hin i (by omega)
    · simp only [List.mem_map, List.mem_range] at hr
      obtain ⟨i, hi, rfl⟩ := hr
      rw [h.lead (Nat.le_refl _) hi]; exact h.ldc i hi
    · simp only [List.mem_map, List.mem_range] at hr
      obtain ⟨i, hi, rfl⟩ := hr
      rw [h.lead (Nat.le_refl _) hi, nth_rowF _ (h.ldc i hi)]; exact h.one i hi
    · rw [List.pairwise_map]
      refine List.Pairwise.imp_of_mem (R := fun a b => a < b) (fun {a b} ha hb hab => ?_) List.pairwise_lt_range
      rw [List.mem_range] at ha hb
      rw [h.lead (Nat.le_refl _) ha, h.lead (Nat.le_refl _) hb]
      exact h.inc a b hab hb
    · simp only [List.mem_map, List.mem_range] at ha hb
      obtain ⟨i, hi, rfl⟩ := ha
      obtain ⟨k, hk, rfl⟩ := hb
      rw [h.lead (Nat.le_refl _) hi] at hne ⊢
      rw [nth_rowF _ (h.ldc i hi)]
      refine h.col i hi k (by omega) (fun e => hne ?_)
      subst e
      rw [h.lead (Nat.le_refl _) hk]
  · rw [e2 f hf]
    constructor
    · intro hA r hr
      simp only [List.mem_map, List.mem_range] at hr
      obtain ⟨i, hi, rfl⟩ := hr
      refine (h.ann f hf).2 (fun k hk => ?_) i hi
      by_cases hkR : k < R
      · exact hA _ (by simp only [List.mem_map, List.mem_range]; exact ⟨k, hkR, rfl⟩)
      · refine zeros (hin k hk) (fun hlt => ?_) hf
        have h3 := lead_at hlt
        rw [len_rowF] at hlt
        rw [nth_rowF _ hlt] at h3
        exact h3 (h.rest k (by omega) hk _ hlt)
    · intro hA r hr
      simp only [List.mem_map, List.mem_range] at hr
      obtain ⟨i, hi, rfl⟩ := hr
      exact (h.ann f hf).1 (fun k hk => hA _ (by simp only [List.mem_map, List.mem_range]; exact ⟨k, hk, rfl⟩)) i (by omega)
end Go.Proofs.Ytbahejlgfpilnaa
