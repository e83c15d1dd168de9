/-
  ACTIONS COMPOSED, in plain mathematics: what the inverse makes of what a matrix makes of a monomial. Conditions: as each theorem states.
  A MATRIX MAKES NOTHING BUT 0 TO 0, in plain mathematics. Conditions: as each theorem states.
  COMPARING lists of terms: '==' at terms, 'spec.l01Same', 'slices.Equal', 'impl.isSame'. Conditions: as each theorem states.
  INVERSES of matrices: the program's. Conditions: as each theorem states.
  CHARACTERS, in plain mathematics: by which number a matrix multiplies a polynomial, as the model and as the program find it. Conditions: as each theorem states.
  SUBSTITUTIONS, the model: what stands in memory. Conditions: as each theorem states.
-/
import Derived.Test.YtbhgbifliihlbaaGreatQ18
import Derived.Test.YtbhgbifliihlbaaGreatQ08
import Derived.Test.YtbhgbifliihlbaaGreatQ02
import Derived.Test.YtbhgbifliihlbaaGreatQ15
import Derived.Test.YtbhgbifliihlbaaGreatQ10
import Derived.Test.YtbhgbifliihlbaaGreatQ11
import Derived.Deep.DeepCutAuto
import Derived.Deep.RegionHeld3
namespace Go.Proofs.YtbhgbifliihlbaaGreat
open Go.RowKit Go.Sort Go.Maps EchM

theorem sumW_mod {p : Int} {w w' : Int × Int × Int → Int} : ∀ {xs : List Tm}, (∀ t ∈ xs, w (tmE t) % p = w' (tmE t) % p) → sumW xs w % p = sumW xs w' % p
  | [], _ => rfl
  | t :: r, h => by
    have ih := sumW_mod (xs := r) (fun u hu => h u (by simp [hu]))
    rw [sumW, sumW, Int.add_emod, Int.mul_emod, h t (by simp), ih, ← Int.mul_emod, ← Int.add_emod]
theorem bnd_one {p : Int} {n : Nat} {h : Nat → Nat → Int} (hM : MatP p n h) {a : Int × Int × Int} (ha : mono12 a) : bndE (formsL h n) a ≤ 12 := by
  have hp := prime_le hM.prime
  have n1 := hM.n1
  have n3 := hM.n3
  have hq := hM.bnd (d := (n : Int)) (xs := [(a.1, a.2.1, a.2.2, 1)]) ⟨hp.1, hp.2, by omega, by omega, List.pairwise_singleton _ _, fun t ht => by
    simp at ht
    subst ht
    exact ⟨ha, Int.le_refl _, by show (1 : Int) < p; omega⟩⟩
  exact hq (a.1, a.2.1, a.2.2, 1) (List.mem_singleton.2 rfl)
/-- What a matrix makes of a monomial. -/
noncomputable def monI (p : Int) (n : Nat) (h : Nat → Nat → Int) (a : Int × Int × Int) : List Tm := Classical.epsilon (PrR p (facL (formsL h n) a))
theorem monI_is {p : Int} {n : Nat} {h : Nat → Nat → Int} (hM : MatP p n h) {a : Int × Int × Int} (ha : mono12 a) : PrR p (facL (formsL h n) a) (monI p n h a) :=
  Classical.epsilon_spec (p := PrR p (facL (formsL h n) a)) (pr_ex (form_valid hM (j := 0) (by omega)) (fac_valid (form_valid hM (j := 0) (by omega)) hM.valid _ _ _) (by rw [sumD_facL _ ha.1]; exact bnd_one hM ha))
theorem monI_asc {p : Int} {n : Nat} {h : Nat → Nat → Int} (hM : MatP p n h) {a : Int × Int × Int} (ha : mono12 a) : Asc (monI p n h a) := by
  obtain ⟨f, hf⟩ := (monI_is hM ha).isP
  exact hf.1
theorem monI_next {p : Int} {n : Nat} {h : Nat → Nat → Int} (hM : MatP p n h) {s : Int × Int × Int} (hs : mono12 s) (hd : s.1 + s.2.1 + s.2.2 ≤ 11) {j : Nat} (hj : j < 3) : IsP p (monI p n h (addE s (unE j))) (mulF p (monI p n h s) (formL h j)) := by
  have hp := prime_le hM.prime
  have n1 := hM.n1
  have n3 := hM.n3
  have hP := monI_is hM hs
  obtain ⟨f, hf⟩ := hP.isP
  have hV : Valid p n (monI p n h s) := isP_valid hf hp.1 hp.2 (by omega) (by omega)
  obtain ⟨L, hL⟩ := mul_ex hV (form_valid hM hj) (fun t ht u hu => by
    have a1 : t.1 + t.2.1 + t.2.2.1 ≤ sumD (facL (formsL h n) s) := PrR.deg (fac_valid (form_valid hM (j := 0) (by omega)) hM.valid _ _ _) hP t ht
    rw [sumD_facL _ hs.1] at a1
    have a2 : bndE (formsL h n) s ≤ s.1 + s.2.1 + s.2.2 := by
      have hdg : ∀ i, dgN (formsL h n) i ≤ 1 := fun i => by
        unfold dgN
        by_cases hi : i < n
        · rw [formsL_nth h n i hi]
          have := formL_deg (hM.form hi)
          omega
        · rw [nthL_ge (by rw [formsL_len]; omega)]
          exact Int.le_of_lt (by decide)
      obtain ⟨⟨⟨a1, _⟩, ⟨a2, _⟩, a3, _⟩, _⟩ := hs
      unfold bndE
      have m0 := Int.mul_le_mul_of_nonneg_left (hdg 0) a1
      have m1 := Int.mul_le_mul_of_nonneg_left (hdg 1) a2
      have m2 := Int.mul_le_mul_of_nonneg_left (hdg 2) a3
      omega
    have a3 : u.1 + u.2.1 + u.2.2.1 ≤ 1 := by
      unfold formL at hu
      simp at hu
      rcases hu with ⟨_, rfl⟩ | ⟨_, rfl⟩ | ⟨_, rfl⟩ <;> simp
    omega)
  have h1 := PrR.letter hM hs.1 hd hj hP hL
  have hm : mono12 (addE s (unE j)) := addE_mono hs.1 (unE_mono hj).1 (by
    match j, hj with
    | 0, _ => simp [unE]; omega
    | 1, _ => simp [unE]; omega
    | 2, _ => simp [unE]; omega)
  obtain rfl := PrR.unique h1 (monI_is hM hm)
  exact hL
theorem sumW_scale (k : Int) (w : Int × Int × Int → Int) : ∀ xs : List Tm, sumW (xs.map fun u => (u.1, u.2.1, u.2.2.1, k * u.2.2.2)) w = k * sumW xs w
  | [] => by simp [sumW]
  | t :: r => by
    rw [List.map_cons, sumW, sumW_scale k w r, sumW, Int.mul_add, ← Int.mul_assoc]
    rfl
theorem sumW_flat (Q : Int × Int × Int → List Tm) (w : Int × Int × Int → Int) : ∀ xs : List Tm, sumW (xs.flatMap fun t => (Q (tmE t)).map fun u => (u.1, u.2.1, u.2.2.1, t.2.2.2 * u.2.2.2)) w = sumW xs (fun s => sumW (Q s) w)
  | [] => rfl
  | t :: r => by rw [List.flatMap_cons, sumW_append, sumW_scale, sumW_flat Q w r, sumW]
/-- What has the coefficients of a monomial is one to a linear function. -/
theorem flat_mono {p : Int} {Q : Int × Int × Int → List Tm} {M : List Tm} {a : Int × Int × Int} (h : ∀ c, sumW M (fun s => cfS (Q s) c) % p = (if a = c then 1 else 0) % p) (w : Int × Int × Int → Int) : sumW M (fun s => sumW (Q s) w) % p = w a % p := by
  obtain ⟨x, y, z⟩ := a
  rw [← sumW_flat]
  have h1 := sumW_same (p := p) (xs := M.flatMap fun t => (Q (tmE t)).map fun u => (u.1, u.2.1, u.2.2.1, t.2.2.2 * u.2.2.2)) (ys := [(x, y, z, 1)]) (fun e => by
    unfold cfS
    rw [sumW_flat, sumW, sumW]
    have := h e
    unfold cfS at this
    rw [this]
    by_cases hx : (x, y, z) = e <;> simp [tmE, hx]) w
  rw [h1, sumW, sumW]
  simp [tmE]
theorem top_letter {a : Int × Int × Int} {d : Nat} (ha : mono12 a) (hd : a.1 + a.2.1 + a.2.2 = d + 1) : ∃ (t : Nat) (a' : Int × Int × Int), t < 3 ∧ a = addE a' (unE t) ∧ mono12 a' ∧ a'.1 + a'.2.1 + a'.2.2 = d ∧ (∀ Ls, facL Ls a = nthL Ls t :: facL Ls a') ∧ 0 < nthE a t ∧ ∀ i, nthE a i = 0 → nthE a' i = 0 := by
  obtain ⟨x, y, z⟩ := a
  obtain ⟨⟨⟨a1, b1⟩, ⟨a2, b2⟩, a3, b3⟩, a4⟩ := ha
  simp only at *
  by_cases hz : 0 < z
  · refine ⟨2, (x, y, z - 1), by omega, by simp [addE, unE], ⟨⟨⟨a1, b1⟩, ⟨a2, b2⟩, by simp; omega, by simp; omega⟩, by simp; omega⟩, by simp; omega, fun Ls => ?_, by simpa [nthE] using hz, fun i hi => ?_⟩
    · have e : z.toNat = (z - 1).toNat + 1 := by omega
      simp only [facL]
      rw [e, facN_c]
    · unfold nthE at hi ⊢
      repeat' split at hi
      all_goals (repeat' split) <;> simp_all <;> omega
  · by_cases hy : 0 < y
    · refine ⟨1, (x, y - 1, z), by omega, by simp [addE, unE], ⟨⟨⟨a1, b1⟩, ⟨by simp; omega, by simp; omega⟩, a3, b3⟩, by simp; omega⟩, by simp; omega, fun Ls => ?_, by simpa [nthE] using hy, fun i hi => ?_⟩
      · have e : y.toNat = (y - 1).toNat + 1 := by omega
        have e2 : z.toNat = 0 := by omega
        simp only [facL]
        rw [e, e2, facN_b]
      · unfold nthE at hi ⊢
        repeat' split at hi
        all_goals (repeat' split) <;> simp_all <;> omega
    · refine ⟨0, (x - 1, y, z), by omega, by simp [addE, unE], ⟨⟨⟨by simp; omega, by simp; omega⟩, ⟨a2, b2⟩, a3, b3⟩, by simp; omega⟩, by simp; omega, fun Ls => ?_, by simp [nthE]; omega, fun i hi => ?_⟩
      · have e : x.toNat = (x - 1).toNat + 1 := by omega
        have e2 : z.toNat = 0 := by omega
        have e3 : y.toNat = 0 := by omega
        simp only [facL]
        rw [e, e2, e3, facN_a]
      · unfold nthE at hi ⊢
        repeat' split at hi
        all_goals (repeat' split) <;> simp_all <;> omega
/-- The inverse leads back: what it makes of what the matrix makes of a monomial is the monomial. -/
theorem comp_mono {p : Int} {n : Nat} {g h : Nat → Nat → Int} (hG : MatP p n g) (hH : MatP p n h) (hI : ∀ l, l < 3 → ∀ t, t < n → (h l 0 * g 0 t + (h l 1 * g 1 t + h l 2 * g 2 t)) % p = (if l = t then 1 else 0) % p) {b : Int × Int × Int} (hb : byte3 b) :
    ∀ (d : Nat) (a : Int × Int × Int) (L : List Tm), mono12 a → a.1 + a.2.1 + a.2.2 = d → (∀ i, n ≤ i → nthE a i = 0) → PrR p (facL (formsL g n) a) L → sumW L (fun e => cfS (monI p n h e) b) % p = (if a = b then 1 else 0) % p
  | 0, a, L, ha, hd, _, hP => by
    obtain ⟨x, y, z⟩ := a
    obtain ⟨⟨⟨a1, _⟩, ⟨a2, _⟩, a3, _⟩, _⟩ := id ha
    simp only at hd a1 a2 a3
    obtain ⟨rfl, rfl, rfl⟩ : x = 0 ∧ y = 0 ∧ z = 0 := by omega
    have hp := prime_le hG.prime
    have e : ∀ Ls, facL Ls (0, 0, 0) = [] := fun Ls => by simp [facL, facN]
    rw [e] at hP
    have hQ := monI_is hH ha
    rw [e] at hQ
    have hu : IsP p [(0, 0, 0, 1)] (fun e => if e = (0, 0, 0) then 1 else 0) := by
      refine ⟨List.pairwise_singleton _ _, fun t ht => ?_, fun e he => ?_⟩
      · simp at ht
        subst ht
        exact ⟨⟨by unfold byte3 tmE; simp, by simp [tmE]⟩, Int.le_refl _, by show (1 : Int) < p; omega⟩
      · by_cases h : e = (0, 0, 0)
        · subst h; rfl
        · show atL [(0, 0, 0, 1)] e = if e = (0, 0, 0) then 1 else 0
          rw [if_neg h, atL, if_neg (fun h' => h h'.symm)]; rfl
    obtain rfl := IsP.unique hP hu
    rw [sumW, sumW]
    show (1 * cfS (monI p n h (0, 0, 0)) b + 0) % p = _
    rw [IsP.unique hQ hu]
    by_cases hx : (0, 0, 0) = b <;> simp [cfS, sumW, tmE, hx]
  | d + 1, a, L, ha, hd, hz, hP => by
    obtain ⟨t, a', ht, rfl, ha', hd', hf, hpos, hzz⟩ := top_letter (d := d) ha (by omega)
    rw [hf, nth_form hG ht] at hP
    obtain ⟨M, hM, hL⟩ := hP
    have htn : t < n := Classical.byContradiction fun h => by have := hz t (by omega); omega
    have hp := prime_le hG.prime
    have hMm := hM.mono
    have hFm : ∀ i, i < 3 → ∀ u ∈ formL h i, mono12 (tmE u) := fun i hi u hu => ((form_valid hH hi).mem u hu).1
    have hMd : ∀ s ∈ M, s.1 + s.2.1 + s.2.2.1 ≤ 11 := fun s hs => by
      have a1 : s.1 + s.2.1 + s.2.2.1 ≤ sumD (facL (formsL g n) a') := PrR.deg (fac_valid (form_valid hG (j := 0) (by omega)) hG.valid _ _ _) hM s hs
      rw [sumD_facL _ ha'.1] at a1
      have hdg : ∀ i, dgN (formsL g n) i ≤ 1 := fun i => by
        unfold dgN
        by_cases hi : i < n
        · rw [formsL_nth g n i hi]
          have := formL_deg (hG.form hi)
          omega
        · rw [nthL_ge (by rw [formsL_len]; omega)]
          exact Int.le_of_lt (by decide)
      obtain ⟨⟨⟨c1, _⟩, ⟨c2, _⟩, c3, _⟩, _⟩ := id ha'
      unfold bndE at a1
      have m0 := Int.mul_le_mul_of_nonneg_left (hdg 0) c1
      have m1 := Int.mul_le_mul_of_nonneg_left (hdg 1) c2
      have m2 := Int.mul_le_mul_of_nonneg_left (hdg 2) c3
      have := ha.2
      omega
    have ih : ∀ c, sumW M (fun s => cfS (monI p n h s) c) % p = (if a' = c then 1 else 0) % p := fun c => by
      by_cases hc : byte3 c
      · exact comp_mono hG hH hI hc d a' M ha' hd' (fun i hi => hzz i (hz i hi)) hM
      · rw [if_neg (fun e => hc (by rw [← e]; exact ha'.1))]
        have z : sumW M (fun s => cfS (monI p n h s) c) = sumW M (fun _ => 0 * 0) := sumW_congr fun s hs => by
          rw [cfS_asc (monI_asc hH (hMm s hs))]
          exact atL_none fun u hu e => hc (by rw [← e]; exact (PrR.mono (monI_is hH (hMm s hs)) u hu).1)
        rw [z, sumW_mul]
        simp
    -- what the letters become
    have hX : ∀ i, i < 3 → ∀ s ∈ M, cfS (monI p n h (addE (tmE s) (unE i))) b % p = sumW (monI p n h (tmE s)) (fun c => sumW (formL h i) (fun f => if addE c f = b then 1 else 0)) % p := fun i hi s hs => by
      have hN := monI_next hH (hMm s hs) (hMd s hs) hi
      rw [cfS_asc hN.1, hN.2.2 b hb, mulF, mulS_sumW, Int.emod_emod_of_dvd _ (Int.dvd_refl p)]
    have hY : ∀ i, i < 3 → sumW M (fun s => cfS (monI p n h (addE s (unE i))) b) % p = sumW (formL h i) (fun f => if addE a' f = b then 1 else 0) % p := fun i hi => by
      rw [sumW_mod (w' := fun s => sumW (monI p n h s) (fun c => sumW (formL h i) (fun f => if addE c f = b then 1 else 0))) (hX i hi)]
      exact flat_mono ih (fun c => sumW (formL h i) (fun f => if addE c f = b then 1 else 0))
    rw [sumW_prod hMm (fun u hu => ((form_valid hG ht).mem u hu).1) hL]
    have e1 : sumW M (fun s => sumW (formL g t) (fun u => cfS (monI p n h (addE s u)) b)) = g 0 t * sumW M (fun s => cfS (monI p n h (addE s (unE 0))) b) + (g 1 t * sumW M (fun s => cfS (monI p n h (addE s (unE 1))) b) + g 2 t * sumW M (fun s => cfS (monI p n h (addE s (unE 2))) b)) := by
      rw [← sumW_mul, ← sumW_mul, ← sumW_mul, ← sumW_add, ← sumW_add]
      exact sumW_congr fun s _ => sumW_form g t _
    rw [e1]
    have y0 := hY 0 (by omega)
    have y1 := hY 1 (by omega)
    have y2 := hY 2 (by omega)
    rw [sumW_form] at y0 y1 y2
    have i0 := hI 0 (by omega) t htn
    have i1 := hI 1 (by omega) t htn
    have i2 := hI 2 (by omega) t htn
    have q : ∀ x y : Int, x % p = y % p → ∃ k, x = y + p * k := fun x y h => by
      obtain ⟨k, hk⟩ := Int.dvd_of_emod_eq_zero (Int.emod_eq_emod_iff_emod_sub_eq_zero.1 h)
      exact ⟨k, by omega⟩
    generalize sumW M (fun s => cfS (monI p n h (addE s (unE 0))) b) = Y0 at *
    generalize sumW M (fun s => cfS (monI p n h (addE s (unE 1))) b) = Y1 at *
    generalize sumW M (fun s => cfS (monI p n h (addE s (unE 2))) b) = Y2 at *
    have u0 : unE 0 = (1, 0, 0) := rfl
    have u1 : unE 1 = (0, 1, 0) := rfl
    have u2 : unE 2 = (0, 0, 1) := rfl
    obtain ⟨D0, hD0⟩ : ∃ D : Int, (if addE a' (1, 0, 0) = b then 1 else 0) = D := ⟨_, rfl⟩
    obtain ⟨D1, hD1⟩ : ∃ D : Int, (if addE a' (0, 1, 0) = b then 1 else 0) = D := ⟨_, rfl⟩
    obtain ⟨D2, hD2⟩ : ∃ D : Int, (if addE a' (0, 0, 1) = b then 1 else 0) = D := ⟨_, rfl⟩
    simp only [hD0, hD1, hD2] at y0 y1 y2
    obtain ⟨k0, y0⟩ := q _ _ y0
    obtain ⟨k1, y1⟩ := q _ _ y1
    obtain ⟨k2, y2⟩ := q _ _ y2
    obtain ⟨c0, i0⟩ := q _ _ i0
    obtain ⟨c1, i1⟩ := q _ _ i1
    obtain ⟨c2, i2⟩ := q _ _ i2
    have tot : g 0 t * Y0 + (g 1 t * Y1 + g 2 t * Y2) = D0 * (h 0 0 * g 0 t + (h 0 1 * g 1 t + h 0 2 * g 2 t)) + (D1 * (h 1 0 * g 0 t + (h 1 1 * g 1 t + h 1 2 * g 2 t)) + D2 * (h 2 0 * g 0 t + (h 2 1 * g 1 t + h 2 2 * g 2 t))) + p * (g 0 t * k0 + (g 1 t * k1 + g 2 t * k2)) := by
      rw [y0, y1, y2]
      grind
    rw [i0, i1, i2] at tot
    refine Int.emod_eq_emod_iff_emod_sub_eq_zero.2 (Int.emod_eq_zero_of_dvd ⟨D0 * c0 + (D1 * c1 + D2 * c2) + (g 0 t * k0 + (g 1 t * k1 + g 2 t * k2)), ?_⟩)
    rw [tot]
    match t, ht with
    | 0, _ => rw [u0, hD0]; grind
    | 1, _ => rw [u1, hD1]; grind
    | 2, _ => rw [u2, hD2]; grind
end Go.Proofs.YtbhgbifliihlbaaGreat
namespace Go.Proofs.YtbhgbifliihlbaaGreat
open Go.RowKit Go.Sort Go.Maps EchM

theorem sumF_sumW (P : Int × Int × Int → List Tm) (e : Int × Int × Int) : ∀ xs : List Tm, sumF P xs e = sumW xs (fun a => atL (P a) e)
  | [] => rfl
  | t :: r => by rw [sumF, sumF_sumW P e r, sumW]
theorem led_zero {p : Int} {n : Nat} {g h : Nat → Nat → Int} (hG : MatP p n g) (hH : MatP p n h) (hI : ∀ l, l < 3 → ∀ t, t < n → (h l 0 * g 0 t + (h l 1 * g 1 t + h l 2 * g 2 t)) % p = (if l = t then 1 else 0) % p)
    {xs : List Tm} (hx : isPolyB p n xs = true) (hby : ∀ t ∈ xs, tmByte t) (hL : Led p n g xs []) : xs = [] := by
  obtain ⟨P, hP, hL⟩ := hL
  have hV := valid_of hx hby
  obtain ⟨_, _, _, _, hz⟩ := subs_zero (formsP_ok hG) (subs_forms hG hx hby)
  rw [formsP_len] at hz
  have hc : ∀ e, p ∣ cfS (xs.flatMap fun t => (P (tmE t)).map fun u => (u.1, u.2.1, u.2.2.1, t.2.2.2 * u.2.2.2)) e := fun e => by
    unfold cfS
    rw [sumW_flat]
    have h1 : sumW xs (fun s => sumW (P s) fun a => if a = e then 1 else 0) = sumW xs (fun a => atL (P a) e) := sumW_congr fun t ht => by
      obtain ⟨f, hf⟩ := (hP t ht).isP
      exact cfS_asc hf.1 e
    rw [h1]
    by_cases he : byte3 e
    · have h2 : atL [] e = subF p P xs e := hL.2.2 e he
      rw [subF, sumF_sumW] at h2
      exact Int.dvd_of_emod_eq_zero h2.symm
    · have h2 : sumW xs (fun a => atL (P a) e) = sumW xs (fun _ => 0 * 0) := sumW_congr fun t ht => atL_none fun u hu h => he (by rw [← h]; exact (PrR.mono (hP t ht) u hu).1)
      rw [h2, sumW_mul]
      simp
  have hb : ∀ b, byte3 b → p ∣ atL xs b := fun b hb => by
    have h1 := sumW_dvd p (fun e => cfS (monI p n h e) b) _ _ (Nat.le_refl _) hc
    rw [sumW_flat] at h1
    have h2 : sumW xs (fun s => sumW (P s) (fun e => cfS (monI p n h e) b)) % p = sumW xs (fun a => if a = b then 1 else 0) % p := sumW_mod fun t ht => by
      have hm := (hV.mem t ht).1
      obtain ⟨⟨⟨a1, _⟩, ⟨a2, _⟩, a3, _⟩, _⟩ := id hm
      exact comp_mono hG hH hI hb ((tmE t).1 + (tmE t).2.1 + (tmE t).2.2).toNat (tmE t) (P (tmE t)) hm (by omega) (fun i hi => hz t ht i hi) (hP t ht)
    rw [← cfS_asc hV.asc]
    unfold cfS
    exact Int.dvd_of_emod_eq_zero (h2.symm.trans (Int.emod_eq_zero_of_dvd h1))
  cases xs with
  | nil => rfl
  | cons t r =>
    have hm := hV.mem t (by simp)
    have h1 := hb (tmE t) hm.1.1
    rw [atL_mem hV.asc (by simp)] at h1
    have h2 := Int.le_of_dvd (by omega) h1
    omega
/-- The inverse, in the form in which it leads back. -/
theorem mat_back {p : Int} {m : Nat} {g : Nat → Nat → Int} (hP : MatP p m g) (hV : MatV p m g) : ∃ H, MatP p m H ∧ ∀ l, l < 3 → ∀ t, t < m → (H l 0 * g 0 t + (H l 1 * g 1 t + H l 2 * g 2 t)) % p = (if l = t then 1 else 0) % p := by
  obtain ⟨b0, b1⟩ := detP_bound hV.h2 (fullM m g)
  have hd := hV.det
  obtain ⟨hF, _, _⟩ := invP_ok hV.prime (x := detP p (fullM m g)) (by omega) b1
  obtain ⟨_, h2, _⟩ := EchM.mat_inv hV.h2 hV.m1 hV.m3 hV.out hF
  obtain ⟨K, hK⟩ : ∃ K, hM p (invP p (detP p (fullM m g))) (fullM m g) = K := ⟨_, rfl⟩
  have hKb : ∀ i j, 0 ≤ K i j ∧ K i j < p := fun i j => by rw [← hK]; exact hM_bound hV.h2 _ _ _
  rw [hK] at h2
  have hp2 := hV.h2
  refine ⟨fun i j => if i < m ∧ j < m then K i j else 0, ⟨hP.prime, hV.m1, hV.m3, fun i _ j _ => ?_, fun i _ j _ h => ?_⟩, fun l hl t ht => ?_⟩
  · show 0 ≤ (if i < m ∧ j < m then K i j else 0) ∧ (if i < m ∧ j < m then K i j else 0) < p
    split
    · exact hKb i j
    · omega
  · show (if i < m ∧ j < m then K i j else 0) = 0
    rw [if_neg (by omega)]
  · have m1 := hV.m1
    have m3 := hV.m3
    have hn : m = 1 ∨ m = 2 ∨ m = 3 := by omega
    by_cases hlm : l < m
    · have hI := h2 l hlm t ht
      refine Int.emod_eq_emod_iff_emod_sub_eq_zero.2 (Int.emod_eq_zero_of_dvd ?_)
      have e : (if l < m ∧ 0 < m then K l 0 else 0) * g 0 t + ((if l < m ∧ 1 < m then K l 1 else 0) * g 1 t + (if l < m ∧ 2 < m then K l 2 else 0) * g 2 t) = sumL (List.range m) (fun k => K l k * g k t) := by
        rcases hn with rfl | rfl | rfl <;> simp [sumL, List.range_succ, hlm]
      have e2 : dl l t = if l = t then 1 else 0 := by
        unfold dl
        by_cases h : l = t
        · rw [if_pos h.symm, if_pos h]
        · rw [if_neg (fun h' => h h'.symm), if_neg h]
      rw [e2] at hI
      rw [e]
      exact hI
    · have e2 : ¬ l = t := by omega
      simp [hlm, e2]
/-- What a group's matrix makes of a polynomial that is not 0 is not 0. -/
theorem GrpP.led_ne {p : Int} {m : Nat} {L : List (Nat → Nat → Int)} {xs : List Tm} (h : GrpP p m L xs) {x : Nat → Nat → Int} (hx : x ∈ L) (hV : MatV p m x) (h0 : xs ≠ []) : ledF p m xs x ≠ [] := fun e => by
  obtain ⟨H, hH, hI⟩ := mat_back (h.mat x hx) hV
  have hL := h.led hx
  rw [e] at hL
  exact h0 (led_zero (h.mat x hx) hH hI h.poly h.byte hL)
end Go.Proofs.YtbhgbifliihlbaaGreat
namespace Go.Proofs.YtbhgbifliihlbaaGreat
open Go.RowKit Go.Sort

def eqT (s t : Tm) : Bool := (s.1 == t.1 && (s.2.1 == t.2.1 && s.2.2.1 == t.2.2.1)) && s.2.2.2 == t.2.2.2
theorem eqT_iff (s t : Tm) : eqT s t = true ↔ s = t := by
  obtain ⟨a, b, c, d⟩ := s
  obtain ⟨a', b', c', d'⟩ := t
  simp [eqT, and_assoc]
def sameT (xs ys : List Tm) : Bool := decide (xs = ys)
theorem sameT_step {xs ys : List Tm} {k : Nat} (h : k < xs.length) (h' : k < ys.length) : sameT (xs.drop k) (ys.drop k) = (eqT xs[k] ys[k] && sameT (xs.drop (k + 1)) (ys.drop (k + 1))) := by
  unfold sameT
  rw [List.drop_eq_getElem_cons h, List.drop_eq_getElem_cons h']
  by_cases e : xs[k] = ys[k]
  · rw [(eqT_iff _ _).2 e, Bool.true_and, decide_eq_decide, List.cons.injEq]
    exact ⟨fun q => q.2, fun q => ⟨e, q⟩⟩
  · have : eqT xs[k] ys[k] = false := by
      cases hq : eqT xs[k] ys[k]
      · rfl
      · exact absurd ((eqT_iff _ _).1 hq) e
    rw [this, Bool.false_and]
    exact decide_eq_false fun q => e (List.cons.inj q).1
theorem sameT_end {xs ys : List Tm} {k : Nat} (h : xs.length = k) (h' : ys.length = k) : sameT (xs.drop k) (ys.drop k) = true := by
  rw [List.drop_of_length_le (by omega), List.drop_of_length_le (by omega)]; rfl
theorem sameT_len {xs ys : List Tm} (h : xs.length ≠ ys.length) : sameT xs ys = false := by
  unfold sameT
  exact decide_eq_false fun e => h (by rw [e])

theorem tm_eq (x y z v x' y' z' v' : Int) (w : World) :
    (Op.equalIn 10000 57 (.agg #[.int .u8 x, .int .u8 y, .int .u8 z, .int .i64 v]) (.agg #[.int .u8 x', .int .u8 y', .int .u8 z', .int .i64 v'])).run Tryz.prog w = .ok ((x == x' && (y == y' && z == z')) && v == v') w := by
  have hf : ∃ f0 f1 : Field, (Tryz.prog.fieldsOf 57).toList = [f0, f1] ∧ f0.name ≠ "_" ∧ f1.name ≠ "_" ∧ f0.type = 55 ∧ f0.offset = 0 ∧ f1.type = 2 ∧ f1.offset = 3 :=
    ⟨(Tryz.prog.fieldsOf 57).toList.getD 0 default, (Tryz.prog.fieldsOf 57).toList.getD 1 default, by kernel_rfl, of_decide_eq_true (by kernel_rfl), of_decide_eq_true (by kernel_rfl), by kernel_rfl, by kernel_rfl, by kernel_rfl, by kernel_rfl⟩
  obtain ⟨f0, f1, hl, n0, n1, t0, o0, t1, o1⟩ := hf
  have hA : ∀ w, (Op.equalIn 9999 55 (.agg #[.int .u8 x, .int .u8 y, .int .u8 z]) (.agg #[.int .u8 x', .int .u8 y', .int .u8 z'])).run Tryz.prog w = .ok (x == x' && (y == y' && z == z')) w := fun w => by
    have hs : ∀ w, (sizeOf 5).run Tryz.prog w = .ok 1 w := fun w => by kernel_rfl
    have hi : ∀ (a b : Int) (w : World), (Op.equalIn 9998 5 (.int .u8 a) (.int .u8 b)).run Tryz.prog w = .ok (a == b) w := fun a b w => run_equalIn_int w 9997 5 .u8 .u8 a b Tryz.underlying5
    have hp : ∀ (a b c : Int) (w : World), (Go.part 5 #[.int .u8 a, .int .u8 b, .int .u8 c] 0).run Tryz.prog w = .ok (.int .u8 a) w ∧ (Go.part 5 #[.int .u8 a, .int .u8 b, .int .u8 c] 1).run Tryz.prog w = .ok (.int .u8 b) w ∧ (Go.part 5 #[.int .u8 a, .int .u8 b, .int .u8 c] 2).run Tryz.prog w = .ok (.int .u8 c) w := fun a b c w => ⟨by kernel_rfl, by kernel_rfl, by kernel_rfl⟩
    have h0 := fun a b c w => (hp a b c w).1
    have h1 := fun a b c w => (hp a b c w).2.1
    have h2 := fun a b c w => (hp a b c w).2.2
    unfold Op.equalIn
    simp only [Sem.run_bind, run_underlying Tryz.underlying55, Result.andThen_ok, hs, Std.Legacy.Range.forIn_eq_forIn_range', Std.Legacy.Range.size, List.range'_succ, List.forIn_cons]
    cases hx : (x == x') <;> cases hy : (y == y') <;> cases hz : (z == z') <;> simp [Sem.run_bind, hi, h0, h1, h2, hx, hy, hz]
  have hB : ∀ w, (Op.equalIn 9999 2 (.int .i64 v) (.int .i64 v')).run Tryz.prog w = .ok (v == v') w := fun w => run_equalIn_int w 9998 2 .i64 .i64 v v' Tryz.underlying2
  have q0 : ∀ (a b c d : Int) (w : World), (Go.part 55 #[.int .u8 a, .int .u8 b, .int .u8 c, .int .i64 d] 0).run Tryz.prog w = .ok (.agg #[.int .u8 a, .int .u8 b, .int .u8 c]) w := fun a b c d w => by kernel_rfl
  have q1 : ∀ (a b c d : Int) (w : World), (Go.part 2 #[.int .u8 a, .int .u8 b, .int .u8 c, .int .i64 d] 3).run Tryz.prog w = .ok (.int .i64 d) w := fun a b c d w => by kernel_rfl
  rw [run_equalIn_struct w 9999 57 _ _ (by kernel_rfl) (by kernel_rfl), hl]
  simp only [Op.eqFields, n0, n1, t0, o0, t1, o1, ne_eq, not_false_eq_true, if_true, Sem.run_bind, q0, q1, hA, hB, Result.andThen_ok, Sem.run_ite]
  cases hx : (x == x' && (y == y' && z == z')) <;> cases hv : v == v' <;> simp [Sem.run_pure]

set_option maxRecDepth 8000 in
set_option maxHeartbeats 4000000 in
theorem sequal (v v' : Value) (xs ys : List Tm) (w : World) (hl : xs.length ≤ 1048576) (hl' : ys.length ≤ 1048576) (hS : SliceT w v xs) (hS' : SliceT w v' ys) :
    Calls Tryz.prog 75 #[v, v'] w fun e w' => e = .returned (.bool (sameT xs ys)) ∧ Below w.heap.size w w' := by
  obtain ⟨a, cap, rfl, hc⟩ := hS
  obtain ⟨a', cap', rfl, hc'⟩ := hS'
  by_cases hlo : xs.length = ys.length
  case neg =>
    have HN := Lib.hid (sameT_len hlo)
    have hnn : ((xs.length : Int) != (ys.length : Int)) = true := by simpa using fun h => hlo (by exact_mod_cast h)
    clear hlo
    go_enter Tryz.func75, Tryz.ntmps75
    go_wp2_with fail
    go_ret
    exact ⟨by rw [HN.out]; rfl, Below.refl _ _⟩
  case pos =>
    have hnn : ((xs.length : Int) != (xs.length : Int)) = false := by simp
    have HLO := Lib.hid hlo
    rw [← hlo]
    clear hlo
    go_enter Tryz.func75, Tryz.ntmps75
    go_wp2_with fail
    go_loopw [13] (fun i wr => ∃ k : Nat, k ≤ xs.length ∧ i = .int .i64 k ∧ Hid (sameT xs ys = sameT (xs.drop k) (ys.drop k)) ∧ ∃ nd, wr = w.drewN nd) (fun i _ => xs.length - (intOf i).toNat)
    case atStart => exact ⟨0, by omega, rfl, Lib.hid rfl, 0, rfl⟩
    case round =>
      obtain ⟨k, hk, rfl, HU, nd, rfl⟩ := hrel
      by_cases hlt : k < xs.length
      · have hlt' : (k : Int) < (xs.length : Int) := by omega
        have hlo : k < ys.length := by have := HLO.out; omega
        obtain ⟨b, off, rfl, hbb, hT⟩ : ∃ b off, a = some ⟨b, off, none⟩ ∧ b < w.heap.size ∧ Terms w b off xs := by
          rcases hc with rfl | h
          · simp at hlt
          · exact h
        obtain ⟨b', off', rfl, hbb', hT'⟩ : ∃ b off, a' = some ⟨b, off, none⟩ ∧ b < w.heap.size ∧ Terms w b off ys := by
          rcases hc' with rfl | h
          · simp at hlo
          · exact h
        obtain ⟨c0, c1, c2, c3⟩ := hT k hlt
        obtain ⟨d0, d1, d2, d3⟩ := hT' k hlo
        have HS := Lib.hid (HU.out.trans (sameT_step hlt hlo))
        have hE := fun w => tm_eq xs[k].1 xs[k].2.1 xs[k].2.2.1 xs[k].2.2.2 ys[k].1 ys[k].2.1 ys[k].2.2.1 ys[k].2.2.2 w
        have hG : Tryz.prog.eqGuardType Tryz.prog.depth 57 = false := by kernel_rfl
        have HQ : Hid (eqT xs[k] ys[k] = ((xs[k].1 == ys[k].1 && (xs[k].2.1 == ys[k].2.1 && xs[k].2.2.1 == ys[k].2.2.1)) && xs[k].2.2.2 == ys[k].2.2.2)) := Lib.hid rfl
        obtain ⟨E, hEq⟩ : ∃ E, ((xs[k].1 == ys[k].1 && (xs[k].2.1 == ys[k].2.1 && xs[k].2.2.1 == ys[k].2.2.1)) && xs[k].2.2.2 == ys[k].2.2.2) = E := ⟨_, rfl⟩
        simp only [hEq] at hE
        rw [hEq] at HQ
        rw [HQ.out] at HS
        clear hEq HQ
        cases E
        · have HN : Hid (sameT xs ys = false) := Lib.hid (by rw [HS.out]; rfl)
          go_wp2_with fail
          go_quiet (fail)
          go_wp2_with fail
          go_ret
          exact ⟨by rw [HN.out]; rfl, by repeat (first | with_reducible exact Below.refl _ _ | refine below_drewN ?_ _)⟩
        · have HN : Hid (sameT xs ys = sameT (xs.drop (k + 1)) (ys.drop (k + 1))) := Lib.hid (by rw [HS.out]; rfl)
          go_wp2_with fail
          go_quiet (fail)
          go_wp2_with fail
          go_roundw
          case rel => exact ⟨k + 1, by omega, by go_num, HN, _, rfl⟩
          case measure => simp [intOf]; omega
      · obtain rfl : k = xs.length := by omega
        have HN := Lib.hid (HU.out.trans (sameT_end rfl HLO.out.symm))
        go_wp2_with fail
        go_ret
        exact ⟨by rw [HN.out]; rfl, below_drewN (Below.refl _ _) _⟩

set_option maxRecDepth 8000 in
set_option maxHeartbeats 4000000 in
theorem isame (p d q f : Int) (v v' : Value) (xs ys : List Tm) (w : World) (hl : xs.length ≤ 1048576) (hl' : ys.length ≤ 1048576) (hS : SliceT w v xs) (hS' : SliceT w v' ys) :
    Calls Tryz.prog 46 #[.agg #[.int .i64 p, .int .i64 d, v], .agg #[.int .i64 q, .int .i64 f, v']] w fun e w' => e = .returned (.bool (sameT xs ys)) ∧ Below w.heap.size w w' := by
  have h2 : ∀ o1 o2, SliceT ((w.alloc o1).alloc o2) v xs := fun o1 o2 => hS.below (box2 _ _ _)
  have h2' : ∀ o1 o2, SliceT ((w.alloc o1).alloc o2) v' ys := fun o1 o2 => hS'.below (box2 _ _ _)
  obtain ⟨a, cap, hv, _⟩ := id hS
  obtain ⟨a', cap', hv', _⟩ := id hS'
  subst hv hv'
  go_enter Tryz.func46, Tryz.ntmps46
  go_wp2_with fail
  ((with_reducible refine (sequal _ _ xs ys _ hl hl' (h2 _ _) (h2' _ _)).mono ?_); rintro e w1 ⟨rfl, hb⟩)
  go_wp2
  go_ret
  exact ⟨rfl, (box2 _ _ _).trans (hb.mono (by simp; omega))⟩

set_option maxRecDepth 8000 in
set_option maxHeartbeats 4000000 in
theorem ssame (p d q f : Int) (v v' : Value) (xs ys : List Tm) (w : World) (hl : xs.length ≤ 1048576) (hl' : ys.length ≤ 1048576) (hS : SliceT w v xs) (hS' : SliceT w v' ys) :
    Calls Tryz.prog 23 #[.agg #[.int .i64 p, .int .i64 d, v], .agg #[.int .i64 q, .int .i64 f, v']] w fun e w' => e = .returned (.bool (sameT xs ys)) ∧ Below w.heap.size w w' := by
  obtain ⟨a, cap, rfl, hc⟩ := hS
  obtain ⟨a', cap', rfl, hc'⟩ := hS'
  obtain ⟨W, hW, hbW, ⟨hWs1, hWs2⟩, rx, ry⟩ : ∃ W, W = (w.alloc (.cells #[.int .i64 p, .int .i64 d, .slice a xs.length cap] 39)).alloc (.cells #[.int .i64 q, .int .i64 f, .slice a' ys.length cap'] 39) ∧ Below w.heap.size w W ∧ (W.heap.size ≤ w.heap.size + 2 ∧ w.heap.size + 2 ≤ W.heap.size) ∧
      W.rowIs w.heap.size 39 3 (polyF p d (.slice a xs.length cap)) ∧ W.rowIs (w.heap.size + 1) 39 3 (polyF q f (.slice a' ys.length cap')) := by
    obtain ⟨U, hU, hbU, ⟨u1, u2⟩, ru⟩ := newbox w p d (.slice a xs.length cap)
    obtain ⟨W, hW, hbW, ⟨s1, s2⟩, rw'⟩ := newbox U q f (.slice a' ys.length cap')
    have hs : U.heap.size = w.heap.size + 1 := by omega
    rw [hs] at rw'
    exact ⟨W, by rw [hW, hU], hbU.trans (hbW.mono hbU.size), ⟨by omega, by omega⟩, rowIs_below ru hbW ru.lt, rw'⟩
  obtain ⟨⟨x0, x1, x2⟩, _⟩ := poly3 rx
  obtain ⟨⟨y0, y1, y2⟩, _⟩ := poly3 ry
  by_cases hlo : xs.length = ys.length
  case neg =>
    have HN := Lib.hid (sameT_len hlo)
    have hnn : ((xs.length : Int) != (ys.length : Int)) = true := by simpa using fun h => hlo (by exact_mod_cast h)
    clear hlo
    go_enter Tryz.func23, Tryz.ntmps23
    go_upto_region 1 with fail
    rw [← hW]
    clear hW
    go_wp2_with fail
    go_ret
    exact ⟨by rw [HN.out]; rfl, hbW⟩
  case pos =>
    have hnn : ((xs.length : Int) != (xs.length : Int)) = false := by simp
    have HLO := Lib.hid hlo
    rw [← hlo] at y2 hW
    clear hlo
    rw [← HLO.out]
    go_enter Tryz.func23, Tryz.ntmps23
    go_upto_region 1 with fail
    rw [← hW]
    clear hW
    go_wp2_with fail
    go_loopw [5] (fun i wr => ∃ k : Nat, k ≤ xs.length ∧ i = .int .i64 k ∧ Hid (sameT xs ys = sameT (xs.drop k) (ys.drop k)) ∧ ∃ nd, wr = W.drewN nd) (fun i _ => xs.length - (intOf i).toNat)
    case atStart => exact ⟨0, by omega, rfl, Lib.hid rfl, 0, rfl⟩
    case round =>
      obtain ⟨k, hk, rfl, HU, nd, rfl⟩ := hrel
      by_cases hlt : k < xs.length
      · have hlt' : (k : Int) < (xs.length : Int) := by omega
        have hlo : k < ys.length := by have := HLO.out; omega
        obtain ⟨b, off, rfl, hbb, hT⟩ : ∃ b off, a = some ⟨b, off, none⟩ ∧ b < w.heap.size ∧ Terms w b off xs := by
          rcases hc with rfl | h
          · simp at hlt
          · exact h
        obtain ⟨b', off', rfl, hbb', hT'⟩ : ∃ b off, a' = some ⟨b, off, none⟩ ∧ b < w.heap.size ∧ Terms w b off ys := by
          rcases hc' with rfl | h
          · simp at hlo
          · exact h
        obtain ⟨c0, c1, c2, c3⟩ := (hT.below hbW hbb) k hlt
        obtain ⟨d0, d1, d2, d3⟩ := (hT'.below hbW hbb') k hlo
        have HS := Lib.hid (HU.out.trans (sameT_step hlt hlo))
        have hE := fun w => tm_eq xs[k].1 xs[k].2.1 xs[k].2.2.1 xs[k].2.2.2 ys[k].1 ys[k].2.1 ys[k].2.2.1 ys[k].2.2.2 w
        have hG : Tryz.prog.eqGuardType Tryz.prog.depth 57 = false := by kernel_rfl
        have HQ : Hid (eqT xs[k] ys[k] = ((xs[k].1 == ys[k].1 && (xs[k].2.1 == ys[k].2.1 && xs[k].2.2.1 == ys[k].2.2.1)) && xs[k].2.2.2 == ys[k].2.2.2)) := Lib.hid rfl
        obtain ⟨E, hEq⟩ : ∃ E, ((xs[k].1 == ys[k].1 && (xs[k].2.1 == ys[k].2.1 && xs[k].2.2.1 == ys[k].2.2.1)) && xs[k].2.2.2 == ys[k].2.2.2) = E := ⟨_, rfl⟩
        simp only [hEq] at hE
        rw [hEq] at HQ
        rw [HQ.out] at HS
        clear hEq HQ
        cases E
        · have HN : Hid (sameT xs ys = false) := Lib.hid (by rw [HS.out]; rfl)
          go_wp2_with fail
          go_quiet (fail)
          go_wp2_with fail
          go_ret
          exact ⟨by rw [HN.out]; rfl, below_drewN (below_drewN hbW _) _⟩
        · have HN : Hid (sameT xs ys = sameT (xs.drop (k + 1)) (ys.drop (k + 1))) := Lib.hid (by rw [HS.out]; rfl)
          go_wp2_with fail
          go_quiet (fail)
          go_wp2_with fail
          go_roundw
          case rel => exact ⟨k + 1, by omega, by go_num, HN, _, rfl⟩
          case measure => simp [intOf]; omega
      · obtain rfl : k = xs.length := by omega
        have HN := Lib.hid (HU.out.trans (sameT_end rfl HLO.out.symm))
        go_wp2_with fail
        go_ret
        exact ⟨by rw [HN.out]; rfl, below_drewN hbW _⟩
end Go.Proofs.YtbhgbifliihlbaaGreat
namespace Go.Proofs.YtbhgbifliihlbaaGreat
open Go.RowKit Go.Sort EchM

def epowI (p x : Int) : Nat → Int
  | 0 => 1
  | n + 1 => epowI p x n * x % p
theorem epowI_small {p x : Int} (h2 : 2 ≤ p) : ∀ n, 0 ≤ epowI p x n ∧ epowI p x n < p
  | 0 => ⟨by simp [epowI], by simp [epowI]; omega⟩
  | _ + 1 => emod_small h2

set_option maxHeartbeats 1000000 in
theorem epow_any (p x : Int) (n : Nat) (w : World) (h2 : 2 ≤ p) (h13 : p ≤ 13) (hx : 0 ≤ x ∧ x < p) (hn : n ≤ 255) :
    Calls Tryz.prog 74 #[.int .i64 p, .int .i64 x, .int .i64 n] w fun e w' => e = .returned (.int .i64 (epowI p x n)) ∧ w = w' := by
  obtain ⟨hx1, hx2⟩ := hx
  go_enter Tryz.func74, Tryz.ntmps74
  go_wp2
  go_loop [7, 9] (fun s i => ∃ (k : Nat) (S : Int), k ≤ n ∧ i = .int .i64 k ∧ s = .int .i64 S ∧ Hid (S = epowI p x k) ∧ 0 ≤ S ∧ S < p) (fun _ i => n - (intOf i).toNat)
  case atStart => exact ⟨0, 1, by omega, rfl, rfl, Lib.hid rfl, by omega, by omega⟩
  case round =>
    obtain ⟨k, S, hk, rfl, rfl, HS, s0, s1⟩ := hrel
    by_cases hlt : k < n
    · have hlt' : (k : Int) < (n : Int) := by omega
      obtain ⟨f0, f1⟩ := eprod_fit h13 ⟨s0, s1⟩ ⟨hx1, hx2⟩
      obtain ⟨g0, g1⟩ := emod_small (p := p) (a := S * x) h2
      go_wp2
      go_round
      case rel => exact ⟨k + 1, S * x % p, by omega, by go_num, rfl, Lib.hid (by rw [epowI, ← HS.out]), g0, g1⟩
      case measure => simp [intOf]; omega
    · obtain rfl : k = n := by omega
      go_wp2
      go_ret
      exact ⟨by rw [← HS.out]; rfl, rfl⟩
theorem epow_inv {p : Int} (hp : PrimeS p) {x : Int} (h0 : 0 < x) (h1 : x < p) : x * epowI p x (p - 2).toNat % p = 1 := by
  have key : ∀ x : Fin 13, ∀ p ∈ [(2 : Int), 3, 5, 7, 11, 13], (0 < x.val ∧ (x.val : Int) < p) → (x.val : Int) * epowI p x.val (p - 2).toNat % p = 1 := by decide
  obtain ⟨n, rfl⟩ := Int.eq_ofNat_of_zero_le (Int.le_of_lt h0)
  have := hp.le
  exact key ⟨n, by omega⟩ p (by unfold PrimeS at hp; simp; omega) ⟨by simpa using h0, h1⟩
theorem invmod (p x : Int) (w : World) (h2 : 2 ≤ p) (h13 : p ≤ 13) (hx : 0 ≤ x ∧ x < p) :
    Calls Tryz.prog 45 #[.int .i64 p, .int .i64 x] w fun e w' => e = .returned (.int .i64 (epowI p x (p - 2).toNat)) ∧ w = w' := by
  obtain ⟨E, hE⟩ := Int.eq_ofNat_of_zero_le (show 0 ≤ p - 2 by omega)
  have hEE := Lib.hid (show (p - 2).toNat = E by omega)
  have hw : IntKind.i64.wrap (p - 2) = (E : Int) := by rw [hE]; exact IntWalk.i64_in _ (by omega)
  have hw2 : p - 2 = (E : Int) := hE
  have hE5 : E ≤ 255 := by omega
  clear hE
  go_enter Tryz.func45, Tryz.ntmps45
  go_wp2_with fail
  ((with_reducible refine (epow_any p x E _ h2 h13 hx hE5).mono ?_); rintro e w1 ⟨rfl, rfl⟩)
  go_wp2_with fail
  go_ret
  exact ⟨by rw [hEE.out]; rfl, rfl⟩
end Go.Proofs.YtbhgbifliihlbaaGreat
namespace Go.Proofs.YtbhgbifliihlbaaGreat
open Go.RowKit Go.Sort Go.Maps EchM

/-- k times a polynomial. -/
noncomputable def timesT (p k : Int) (xs : List Tm) : List Tm := @Classical.epsilon (List Tm) ⟨[]⟩ (fun S => IsP p S (sumK p k [xs]))
theorem timesT_is {p d : Int} {xs : List Tm} (h : Valid p d xs) (k : Int) : IsP p (timesT p k xs) (sumK p k [xs]) :=
  Classical.epsilon_spec (p := fun S => IsP p S (sumK p k [xs])) (sum_ex h.p2 1 [xs] rfl (fun X hX => by simp at hX; rw [hX]; exact h))
theorem inv_one {p : Int} (hp : PrimeS p) {x : Int} (h0 : 0 < x) (h1 : x < p) : epowI p x (p - 2).toNat = invP p x := by
  have key : ∀ x : Fin 13, ∀ p ∈ [(2 : Int), 3, 5, 7, 11, 13], (0 < x.val ∧ (x.val : Int) < p) → epowI p x.val (p - 2).toNat = invP p x.val := by decide
  obtain ⟨n, rfl⟩ := Int.eq_ofNat_of_zero_le (Int.le_of_lt h0)
  have := hp.le
  exact key ⟨n, by omega⟩ p (by unfold PrimeS at hp; simp; omega) ⟨by simpa using h0, h1⟩
theorem no_zero {p : Int} (hp : PrimeS p) {x y : Int} (h0 : 0 < x) (h1 : x < p) (h2 : 0 < y) (h3 : y < p) : x * y % p ≠ 0 := by
  have key : ∀ x y : Fin 13, ∀ p ∈ [(2 : Int), 3, 5, 7, 11, 13], (0 < x.val ∧ (x.val : Int) < p) → (0 < y.val ∧ (y.val : Int) < p) → (x.val : Int) * y.val % p ≠ 0 := by decide
  obtain ⟨n, rfl⟩ := Int.eq_ofNat_of_zero_le (Int.le_of_lt h0)
  obtain ⟨m, rfl⟩ := Int.eq_ofNat_of_zero_le (Int.le_of_lt h2)
  have := hp.le
  exact key ⟨n, by omega⟩ ⟨m, by omega⟩ p (by unfold PrimeS at hp; simp; omega) ⟨by simpa using h0, h1⟩ ⟨by simpa using h2, h3⟩
/-- The model's number; the program's. -/
def chK (p : Int) (xs D : List Tm) : Int := match xs with
  | [] => 0
  | t :: _ => atL D (tmE t) * invP p t.2.2.2 % p
def chP (p : Int) (xs D : List Tm) : Int := match xs, D with
  | t :: _, s :: _ => s.2.2.2 * invP p t.2.2.2 % p
  | _, _ => 0
noncomputable def chB (p : Int) (xs D : List Tm) : Bool := sameT D (timesT p (chK p xs D) xs)
theorem sumK_one (p k : Int) (X : List Tm) (e : Int × Int × Int) : sumK p k [X] e = k * atL X e % p := by simp [sumK, sumA]
theorem asc_head {t : Tm} {r : List Tm} (h : Asc (t :: r)) {u : Tm} (hu : u ∈ t :: r) : tmE u = tmE t ∨ beforeB (tmE t) (tmE u) = true := by
  rcases List.mem_cons.1 hu with rfl | hu
  · exact .inl rfl
  · exact .inr ((List.pairwise_cons.1 h).1 u hu)
theorem head_same {p d k : Int} {t s : Tm} {r r' : List Tm} (hX : Valid p d (t :: r)) (hD : Valid p d (s :: r')) (hp : PrimeS p) (hI : IsP p (s :: r') (sumK p k [t :: r])) (k0 : 0 ≤ k) (k1 : k < p) : tmE s = tmE t := by
  have hs := hD.mem s (by simp)
  have ht := hX.mem t (by simp)
  have e1 : s.2.2.2 = k * atL (t :: r) (tmE s) % p := by
    rw [← sumK_one, ← hI.2.2 _ hs.1.1, atL_mem hD.asc (by simp)]
  have hk : 0 < k := by
    rcases Int.lt_or_eq_of_le k0 with h | h
    · exact h
    · rw [← h, Int.zero_mul, Int.zero_emod] at e1; omega
  have ha : atL (t :: r) (tmE s) ≠ 0 := fun h => by rw [h, Int.mul_zero, Int.zero_emod] at e1; omega
  obtain ⟨u, hu, hue⟩ := atL_ne_mem ha
  have e2 : atL (s :: r') (tmE t) = k * t.2.2.2 % p := by
    rw [hI.2.2 _ ht.1.1, sumK_one, atL_mem hX.asc (by simp)]
  have hb : atL (s :: r') (tmE t) ≠ 0 := by rw [e2]; exact no_zero hp hk k1 (by omega) ht.2.2
  obtain ⟨u', hu', hue'⟩ := atL_ne_mem hb
  rcases asc_head hX.asc hu with h | h
  · rw [← hue, h]
  · rcases asc_head hD.asc hu' with h' | h'
    · rw [← hue', h']
    · rw [hue] at h
      rw [hue'] at h'
      exact absurd (before_trans h h') (by rw [before_irrefl]; simp)
theorem sameT_comm (xs ys : List Tm) : sameT xs ys = sameT ys xs := by
  unfold sameT
  rw [decide_eq_decide]
  exact eq_comm
theorem chP_bound {p : Int} (hp : 2 ≤ p) (xs D : List Tm) : 0 ≤ chP p xs D ∧ chP p xs D < p := by
  unfold chP
  split
  · exact ⟨Int.emod_nonneg _ (by omega), Int.emod_lt_of_pos _ (by omega)⟩
  · omega
theorem chK_bound {p : Int} (hp : 2 ≤ p) (xs D : List Tm) : 0 ≤ chK p xs D ∧ chK p xs D < p := by
  unfold chK
  split
  · omega
  · exact ⟨Int.emod_nonneg _ (by omega), Int.emod_lt_of_pos _ (by omega)⟩
/-- The program's number and the model's are one where either says yes, and they say the same. -/
theorem ch_same {p d : Int} {xs D : List Tm} (hX : Valid p d xs) (hD : Valid p d D) (hp : PrimeS p) (h0 : xs ≠ []) (h1 : D ≠ []) : sameT (timesT p (chP p xs D) xs) D = chB p xs D ∧ (chB p xs D = true → chP p xs D = chK p xs D) := by
  cases xs with
  | nil => exact absurd rfl h0
  | cons t r =>
  cases D with
  | nil => exact absurd rfl h1
  | cons s r' =>
  by_cases he : tmE s = tmE t
  · have : chP p (t :: r) (s :: r') = chK p (t :: r) (s :: r') := by simp [chP, chK, atL, he]
    rw [this]
    exact ⟨sameT_comm _ _, fun _ => rfl⟩
  · have hf : ∀ k, 0 ≤ k → k < p → s :: r' ≠ timesT p k (t :: r) := fun k k0 k1 h => he (head_same hX hD hp (k := k) (by have := timesT_is hX k; rwa [← h] at this) k0 k1)
    obtain ⟨a0, a1⟩ := chP_bound hX.p2 (t :: r) (s :: r')
    obtain ⟨b0, b1⟩ := chK_bound hX.p2 (t :: r) (s :: r')
    have hB : chB p (t :: r) (s :: r') = false := by
      unfold chB sameT
      exact decide_eq_false (hf _ b0 b1)
    rw [hB]
    refine ⟨?_, fun h => by simp at h⟩
    rw [sameT_comm]
    unfold sameT
    exact decide_eq_false (hf _ a0 a1)
/-- Whether the matrix x multiplies xs, and by what. -/
noncomputable def chF (p : Int) (m : Nat) (xs : List Tm) (x : Nat → Nat → Int) : Bool := chB p xs (ledF p m xs x)
noncomputable def chV (p : Int) (m : Nat) (xs : List Tm) (x : Nat → Nat → Int) : Int := chK p xs (ledF p m xs x)
/-- The code of a character, and the character. -/
noncomputable def chC (p n : Int) (L : List (Nat → Nat → Int)) (q d : Int) (xs : List Tm) : Int :=
  if actC p n L q d xs = 0 then (if xs = [] then 5 else if L.all (chF p n.toNat xs) = true then 0 else 5) else actC p n L q d xs
noncomputable def chL (p n : Int) (L : List (Nat → Nat → Int)) (q d : Int) (xs : List Tm) : List Int :=
  if chC p n L q d xs = 0 then L.map (chV p n.toNat xs) else []
theorem chL_len {p n : Int} {L : List (Nat → Nat → Int)} {q d : Int} {xs : List Tm} (h : L.length ≤ 1048576) : (chL p n L q d xs).length ≤ 1048576 := by
  unfold chL
  split
  · simpa using h
  · simp
theorem ch_act {p n : Int} {L : List (Nat → Nat → Int)} {q d : Int} {xs : List Tm} (h : actC p n L q d xs ≠ 0) : chC p n L q d xs = actC p n L q d xs ∧ chL p n L q d xs = [] := by
  have e : chC p n L q d xs = actC p n L q d xs := by unfold chC; rw [if_neg h]
  exact ⟨e, by unfold chL; rw [if_neg (by rw [e]; exact h)]⟩
theorem ch_nil {p n : Int} {L : List (Nat → Nat → Int)} {q d : Int} {xs : List Tm} (h : actC p n L q d xs = 0) (hx : xs = []) : chC p n L q d xs = 5 ∧ chL p n L q d xs = [] := by
  have e : chC p n L q d xs = 5 := by unfold chC; rw [if_pos h, if_pos hx]
  exact ⟨e, by unfold chL; rw [if_neg (by rw [e]; decide)]⟩
theorem ch_no {p n : Int} {L : List (Nat → Nat → Int)} {q d : Int} {xs : List Tm} (h : actC p n L q d xs = 0) {x : Nat → Nat → Int} (hx : x ∈ L) (hf : chF p n.toNat xs x = false) : chC p n L q d xs = 5 ∧ chL p n L q d xs = [] := by
  have e : chC p n L q d xs = 5 := by
    unfold chC
    rw [if_pos h]
    split
    · rfl
    · rw [if_neg (fun ha => by have := List.all_eq_true.1 ha x hx; rw [hf] at this; simp at this)]
  exact ⟨e, by unfold chL; rw [if_neg (by rw [e]; decide)]⟩
theorem ch_yes {p n : Int} {L : List (Nat → Nat → Int)} {q d : Int} {xs : List Tm} (h : actC p n L q d xs = 0) (hx : xs ≠ []) (hf : L.all (chF p n.toNat xs) = true) : chC p n L q d xs = 0 ∧ chL p n L q d xs = L.map (chV p n.toNat xs) := by
  have e : chC p n L q d xs = 0 := by unfold chC; rw [if_pos h, if_neg hx, if_pos hf]
  exact ⟨e, by unfold chL; rw [if_pos e]⟩
end Go.Proofs.YtbhgbifliihlbaaGreat
namespace Go.Proofs.YtbhgbifliihlbaaGreat
open Go.RowKit Go.Sort Go.Maps

theorem rep_own1 {w : World} {base b i N : Nat} {f : Nat → Value} {v x : Value} {S : List Tm} (h : OwnP w base v S) (hr : w.rowIs b 39 N f) : OwnP (w.setCell ⟨b, i, none⟩ x) base v S :=
  h.kept (row := some b) ⟨rfl, rfl, rfl, by rw [World.size_setCell]; exact Nat.le_refl _, fun k hk hne => Below.heap_setCell w ⟨b, i, none⟩ x k (fun e => hne (by rw [e]))⟩ (own_ne hr h (by decide))
theorem rep_own3 {w : World} {base b i0 i1 i2 N : Nat} {f : Nat → Value} {v x0 x1 x2 : Value} {S : List Tm} (h : OwnP w base v S) (hr : w.rowIs b 39 N f) : OwnP (((w.setCell ⟨b, i0, none⟩ x0).setCell ⟨b, i1, none⟩ x1).setCell ⟨b, i2, none⟩ x2) base v S :=
  rep_own1 (rep_own1 (rep_own1 h hr) (hr.set i0 x0)) ((hr.set i0 x0).set i1 x1)
/-- What stands in memory: the sum so far (block q), the boxes of the argument and the result. -/
structure RepS (w wr : World) (q : Nat) (p d d' : Int) (xv sv : Value) (O : List Tm) : Prop where
  out : wr.rowIs q 39 3 (polyF p d sv)
  rows : OwnP wr w.heap.size sv O
  arg : wr.rowIs w.heap.size 39 3 (polyF p d' xv)
  res : wr.rowIs (w.heap.size + 1) 39 3 (polyF 0 0 (.slice none 0 0))
  below : Below w.heap.size w wr
  q2 : w.heap.size + 2 ≤ q
theorem RepS.later {w wr w1 : World} {q : Nat} {p d d' : Int} {xv sv : Value} {O : List Tm} (h : RepS w wr q p d d' xv sv O) (hb : Below wr.heap.size wr w1) : RepS w w1 q p d d' xv sv O :=
  ⟨rowIs_below h.out hb h.out.lt, owns_belowT h.rows hb, rowIs_below h.arg hb h.arg.lt, rowIs_below h.res hb h.res.lt, h.below.trans (hb.mono h.below.size), h.q2⟩
theorem setB3 {w : World} {B0 : Nat} {F : Nat → Value} {v : Value} {S : List Tm} (hR : w.rowIs B0 39 3 F) (hs : SliceT w v S) (P Q : Int) :
    (((w.setCell ⟨B0, 0, none⟩ (.int .i64 P)).setCell ⟨B0, 1, none⟩ (.int .i64 Q)).setCell ⟨B0, 2, none⟩ v).rowIs B0 39 3 (polyF P Q v) ∧
    SliceT (((w.setCell ⟨B0, 0, none⟩ (.int .i64 P)).setCell ⟨B0, 1, none⟩ (.int .i64 Q)).setCell ⟨B0, 2, none⟩ v) v S := by
  have R1 := hR.set 0 (.int .i64 P)
  have R2 := R1.set 1 (.int .i64 Q)
  refine ⟨(R2.set 2 v).congr fun i hi => ?_, ((hs.setBox hR).setBox R1).setBox R2⟩
  match i, hi with
  | 0, _ => rfl
  | 1, _ => rfl
  | 2, _ => rfl
theorem setO3 {w : World} {B0 B1 n : Nat} {t : TypeId} {F : Nat → Value} (hR : w.rowIs B1 t n F) (hne : B1 ≠ B0) (u0 u1 u2 : Value) :
    (((w.setCell ⟨B0, 0, none⟩ u0).setCell ⟨B0, 1, none⟩ u1).setCell ⟨B0, 2, none⟩ u2).rowIs B1 t n F :=
  ((hR.setOther (by simpa using hne) _).setOther (by simpa using hne) _).setOther (by simpa using hne) _
theorem setL3 {w wr : World} {B0 : Nat} (h : Below w.heap.size w wr) (hB : w.heap.size ≤ B0) (u0 u1 u2 : Value) :
    Below w.heap.size w (((wr.setCell ⟨B0, 0, none⟩ u0).setCell ⟨B0, 1, none⟩ u1).setCell ⟨B0, 2, none⟩ u2) :=
  ((h.setCell (by simpa using hB) _).setCell (by simpa using hB) _).setCell (by simpa using hB) _
theorem RepS.put {w wr w2 : World} {q : Nat} {p d d' : Int} {xv sv v2 : Value} {O O2 : List Tm} {b2 : Nat} (h : RepS w wr q p d d' xv sv O) (hb : Below wr.heap.size wr w2) (ho : OwnP w2 b2 v2 O2) (hb2 : w.heap.size ≤ b2) :
    RepS w (((w2.setCell ⟨q, 0, none⟩ (.int .i64 p)).setCell ⟨q, 1, none⟩ (.int .i64 d)).setCell ⟨q, 2, none⟩ v2) q p d d' xv v2 O2 := by
  have h1 := h.later hb
  have hq := h.q2
  exact ⟨(setB3 h1.out (OwnP.slice ho) p d).1, owns_low (rep_own3 ho h1.out) hb2, setO3 h1.arg (by omega) _ _ _, setO3 h1.res (by omega) _ _ _, setL3 h1.below (by omega) _ _ _, hq⟩

theorem RepS.set3 {w wr : World} {q bo : Nat} {p d d' : Int} {xv sv : Value} {O : List Tm} {F : Nat → Value} (h : RepS w wr q p d d' xv sv O) (hr : wr.rowIs bo 39 3 F) (hne : bo ≠ q) (hb : w.heap.size + 2 ≤ bo) (u0 u1 u2 : Value) :
    RepS w (((wr.setCell ⟨bo, 0, none⟩ u0).setCell ⟨bo, 1, none⟩ u1).setCell ⟨bo, 2, none⟩ u2) q p d d' xv sv O :=
  ⟨setO3 h.out (fun e => hne e.symm) _ _ _, rep_own3 h.rows hr, setO3 h.arg (by omega) _ _ _, setO3 h.res (by omega) _ _ _, setL3 h.below (by omega) _ _ _, h.q2⟩
theorem nthT_cell {w : World} {b off : Nat} {ts : List Tm} (hT : Terms w b off ts) {k m : Nat} (hk : k < ts.length) (hm : m < 3) : w.cell? ⟨b, off + k * 4 + m, none⟩ = some (.int .u8 (nthE (tmE ts[k]) m)) := by
  obtain ⟨c0, c1, c2, _⟩ := hT k hk
  match m, hm with
  | 0, _ => exact c0
  | 1, _ => exact c1
  | 2, _ => exact c2
end Go.Proofs.YtbhgbifliihlbaaGreat
