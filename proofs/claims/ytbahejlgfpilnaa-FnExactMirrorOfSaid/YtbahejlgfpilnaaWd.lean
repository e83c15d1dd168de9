/-
  TABLES of wide rows: rows exchanged, what counts. Conditions: as each theorem states.
-/
import Derived.Test.YtbahejlgfpilnaaWc
namespace Go.Proofs.Ytbahejlgfpilnaa
open Go.RowKit Go.Sort EchM

/-- The table as rows and columns. -/
def tG (G : Nat → Int) (i j : Nat) : Int := G (i * 100 + j)
/-- A row's cells put in place of another's. -/
def cpG (o o2 : Nat) (G2 G : Nat → Int) (q : Nat) : Int := if o ≤ q ∧ q < o + 100 then G2 (o2 + (q - o)) else G q
theorem set_cells {t : TypeId} {M : Nat} : ∀ (vs : List Int) (o b : Nat) (w : World) (F : Nat → Int), w.rowIs b t M (gV F) → (w.setCells b o (vs.map (Value.int .i64))).rowIs b t M (gV fun q => if o ≤ q ∧ q < o + vs.length then vs.getD (q - o) 0 else F q)
  | [], o, b, w, F, h => h.congr fun q _ => by
    unfold gV
    congr 1
    show F q = if o ≤ q ∧ q < o + 0 then _ else F q
    rw [if_neg (by omega)]
  | v :: r, o, b, w, F, h => by
    have h1 := (h.set o (.int .i64 v)).congr (g := gV fun q => if q = o then v else F q) (fun q _ => by unfold gV; by_cases e : q = o <;> simp [e])
    have h2 := set_cells r (o + 1) b _ _ h1
    refine World.rowIs.congr h2 fun q _ => ?_
    unfold gV
    congr 1
    simp only [List.length_cons]
    by_cases e : q = o
    · subst e
      rw [if_neg (by omega), if_pos rfl, if_pos (by omega)]
      simp
    · by_cases e2 : o + 1 ≤ q ∧ q < o + 1 + r.length
      · rw [if_pos e2, if_pos (by omega), show q - o = (q - (o + 1)) + 1 by omega]
        simp
      · rw [if_neg e2, if_neg e, if_neg (by omega)]
theorem rowV_map (G : Nat → Int) (o : Nat) : rowV G o = ((List.range 100).map fun j => G (o + j)).map (Value.int .i64) := by simp [rowV]
theorem cp_row {t : TypeId} {M b o o2 : Nat} {w : World} {G G2 : Nat → Int} (h : w.rowIs b t M (gV G)) : (w.setCells b o (rowV G2 o2)).rowIs b t M (gV (cpG o o2 G2 G)) := by
  rw [rowV_map]
  refine (set_cells _ o b w G h).congr fun q _ => ?_
  unfold gV cpG
  congr 1
  simp only [List.length_map, List.length_range]
  by_cases e : o ≤ q ∧ q < o + 100
  · rw [if_pos e, if_pos e]
    simp [List.getD, show q - o < 100 by omega]
  · rw [if_neg e, if_neg e]
theorem cp_grown {w0 : World} {b : Nat} : ∀ (vs : List Value) (o : Nat) (w : World), w0.grownBy w (some b) → w0.grownBy (w.setCells b o vs) (some b)
  | [], _, _, h => h
  | v :: r, o, w, h => cp_grown r (o + 1) _ ⟨h.os, h.tape, h.output, by simpa using h.size, fun a ha hne => (Deep.blk_setCell_other w ⟨b, o, none⟩ v a (fun e => hne (by rw [show a = b from e]))).trans (h.block a ha hne)⟩
theorem tab_there {w : World} {b M o : Nat} {t : TypeId} {G : Nat → Int} (h : w.rowIs b t M (gV G)) (ho : o + 100 ≤ M) : w.there b o 100 := fun j hj => ⟨by rw [h.cell (i := o + j) (by omega)]; rfl, h.frozen (o + j)⟩
/-- Rows R and q are exchanged. -/
theorem swap_tab (G : Nat → Int) (R q i j : Nat) (hj : j < 100) : tG (cpG (q * 100) (R * 100) G (cpG (R * 100) (q * 100) G G)) i j = swaT R q (tG G) i j := by
  unfold tG swaT cpG
  by_cases e1 : i = q
  · rw [if_pos (by omega)]
    by_cases e2 : i = R
    · rw [if_pos e2, show R * 100 + (i * 100 + j - q * 100) = q * 100 + j by omega]
    · rw [if_neg e2, if_pos e1, show R * 100 + (i * 100 + j - q * 100) = R * 100 + j by omega]
  · have h1 : ¬ (q * 100 ≤ i * 100 + j ∧ i * 100 + j < q * 100 + 100) := by omega
    rw [if_neg h1]
    by_cases e2 : i = R
    · rw [if_pos (by omega), if_pos e2, show q * 100 + (i * 100 + j - R * 100) = q * 100 + j by omega]
    · have h2 : ¬ (R * 100 ≤ i * 100 + j ∧ i * 100 + j < R * 100 + 100) := by omega
      rw [if_neg h2, if_neg e2, if_neg e1]
theorem scale_tab (p : Int) (n R : Nat) (k : Int) (G : Nat → Int) (i j : Nat) (hj : j < n) (hn : n ≤ 100) : tG (scaG p (R * 100) n k G) i j = scaT p R k (tG G) i j := by
  unfold tG scaT scaG
  by_cases e : i = R
  · subst e; rw [if_pos (by omega), if_pos rfl]
  · rw [if_neg (by omega), if_neg e]
/-- The table after the rows before k have lost their numbers in column c. -/
def paT (p : Int) (R c k : Nat) (T : Nat → Nat → Int) (i j : Nat) : Int := if i < k ∧ i ≠ R then (T i j + (p - T i c) * T R j) % p else T i j
theorem paT_zero (p : Int) (R c : Nat) (T : Nat → Nat → Int) : paT p R c 0 T = T := by
  funext i j; unfold paT; rw [if_neg (by omega)]
theorem paT_all {p : Int} {R c N : Nat} {T : Nat → Nat → Int} {i : Nat} (hi : i < N) (j : Nat) : paT p R c N T i j = addT p R c T i j := by
  unfold paT addT
  by_cases e : i = R
  · rw [if_neg (by omega), if_pos e]
  · rw [if_pos ⟨hi, e⟩, if_neg e]
theorem paT_skip (p : Int) (R c : Nat) (T : Nat → Nat → Int) : paT p R c (R + 1) T = paT p R c R T := by
  funext i j; unfold paT
  by_cases e : i < R
  · rw [if_pos ⟨by omega, by omega⟩, if_pos ⟨e, by omega⟩]
  · rw [if_neg (by omega), if_neg (by omega)]
theorem add_tab {p : Int} {n R c k : Nat} {T : Nat → Nat → Int} {G : Nat → Int} (hn : n ≤ 100) (hc : c < n) (hkR : k ≠ R) (hT : ∀ i, ∀ j, j < n → tG G i j = paT p R c k T i j) : ∀ i, ∀ j, j < n → tG (addG p (k * 100) (R * 100) n (p - tG G k c) G) i j = paT p R c (k + 1) T i j := fun i j hj => by
  have hRj : tG G R j = T R j := by rw [hT R j hj]; unfold paT; rw [if_neg (by omega)]
  have hkc : tG G k c = T k c := by rw [hT k c hc]; unfold paT; rw [if_neg (by omega)]
  by_cases e : i = k
  · subst e
    have hij : tG G i j = T i j := by rw [hT i j hj]; unfold paT; rw [if_neg (by omega)]
    have h1 : tG (addG p (i * 100) (R * 100) n (p - tG G i c) G) i j = (tG G i j + (p - tG G i c) * tG G R j) % p := by
      unfold tG addG
      rw [if_pos (by omega), show R * 100 + (i * 100 + j - i * 100) = R * 100 + j by omega]
    rw [h1, hij, hkc, hRj]
    unfold paT
    rw [if_pos ⟨by omega, hkR⟩]
  · have h1 : tG (addG p (k * 100) (R * 100) n (p - tG G k c) G) i j = tG G i j := by
      unfold tG addG
      rw [if_neg (by omega)]
    rw [h1, hT i j hj]
    unfold paT
    by_cases h2 : i < k ∧ i ≠ R
    · rw [if_pos h2, if_pos (by omega)]
    · rw [if_neg h2, if_neg (by omega)]
/-- Only the numbers of the table count. -/
theorem Elim.congr {p : Int} {N n : Nat} {T0 T T' : Nat → Nat → Int} {R c : Nat} {ld : Nat → Nat} (h : Elim p N n T0 T R c ld) (hc : c ≤ n) (e : ∀ i, i < N → ∀ j, j < n → T' i j = T i j) : Elim p N n T0 T' R c ld := by
  have hle := h.le
  have hl : ∀ i, i < R → ld i < n := fun i hi => by have := h.ldc i hi; omega
  have hr : ∀ i, i < N → rowF n (T' i) = rowF n (T i) := fun i hi => ext_nth (by simp [len_rowF]) fun j hj => by
    rw [len_rowF] at hj
    rw [nth_rowF _ hj, nth_rowF _ hj, e i hi j hj]
  refine ⟨fun i hi j hj => by rw [e i hi j hj]; exact h.num i hi j hj, h.le, h.ldc, h.inc, fun i hi => by rw [e i (by omega) _ (hl i hi)]; exact h.one i hi, fun i hi j hj => by have := hl i hi; rw [e i (by omega) j (by omega)]; exact h.pre i hi j hj, fun i hi k hk hne => by rw [e k hk _ (hl i hi)]; exact h.col i hi k hk hne, fun i h1 h2 j hj => by rw [e i h2 j (by omega)]; exact h.rest i h1 h2 j hj, fun f hf => (h.ann f hf).trans ⟨fun hA i hi => by rw [hr i hi]; exact hA i hi, fun hA i hi => by rw [← hr i hi]; exact hA i hi⟩⟩
theorem first_ne (f : Nat → Int) : ∀ m, (∀ i, i < m → f i = 0) ∨ ∃ j, j < m ∧ f j ≠ 0 ∧ ∀ i, i < j → f i = 0
  | 0 => .inl fun i hi => by omega
  | m + 1 => by
    rcases first_ne f m with h | ⟨j, h1, h2, h3⟩
    · by_cases e : f m = 0
      · exact .inl fun i hi => by
          rcases Nat.lt_or_ge i m with h' | h'
          · exact h i h'
          · rw [show i = m by omega]; exact e
      · exact .inr ⟨m, by omega, e, h⟩
    · exact .inr ⟨j, by omega, h2, h3⟩
theorem wide_drop (b N cap R : Nat) (hR : R ≤ N) (hN : N ≤ 100) (hcap : N ≤ cap) :
    ∃ off, (∀ W, (Instr.slice 158 (.slice (some ⟨b, 0, none⟩) N cap) (some (.int .i64 (R : Int))) none none).run Try.prog W = .ok (.slice (some ⟨b, off, none⟩) (N - R) (cap - R)) W) ∧ (R < N → off = R * 100) := by
  have hsz : (Try.prog.info? 160).map (·.size) = some 100 := by kernel_rfl
  obtain ⟨i0, hi, hz1⟩ : ∃ i, Try.prog.info? 160 = some i ∧ i.size = 100 := by
    cases h : Try.prog.info? 160 with
    | none => rw [h] at hsz; cases hsz
    | some i => rw [h] at hsz; exact ⟨i, rfl, by simpa using hsz⟩
  have ht' : Try.prog.underlying 158 = some (.slice (Try.prog.elem 158)) := by simp [Program.elem, Try.underlying158]
  have he : Try.prog.elem 158 = 160 := by simp [Program.elem, Try.underlying158]
  have hz : ∀ W, (Go.sizeOf 160).run Try.prog W = .ok 100 W := fun W => by simp [sizeOf, typeInfo, hi, hz1]
  by_cases hck : cap = R
  · refine ⟨0, fun W => ?_, fun h => by omega⟩
    obtain rfl : N = R := by omega
    rw [run_slice_l W 158 _ _ _ ht' .i64 _ (by omega) (by omega), he, hz]
    simp [Result.andThen, sliced, hck]
  · refine ⟨R * 100, fun W => ?_, fun _ => rfl⟩
    rw [run_slice_l W 158 _ _ _ ht' .i64 _ (by omega) (by omega), he, hz]
    by_cases hk0 : R = 0
    · subst hk0
      simp [Result.andThen, sliced, Addr.add]
    · simp [Result.andThen, sliced, Addr.add, hck]
      omega
theorem wide_take (b N cap R : Nat) (hR : R ≤ N) (hcap : N ≤ cap) (W : World) :
    (Instr.slice 158 (.slice (some ⟨b, 0, none⟩) N cap) none (some (.int .i64 (R : Int))) none).run Try.prog W = .ok (.slice (some ⟨b, 0, none⟩) R cap) W := by
  have hsz : (Try.prog.info? 160).map (·.size) = some 100 := by kernel_rfl
  obtain ⟨i0, hi, hz1⟩ : ∃ i, Try.prog.info? 160 = some i ∧ i.size = 100 := by
    cases h : Try.prog.info? 160 with
    | none => rw [h] at hsz; cases hsz
    | some i => rw [h] at hsz; exact ⟨i, rfl, by simpa using hsz⟩
  have h1 : (R : Int) ≤ (cap : Int) := by omega
  by_cases hc0 : cap = 0
  · have hk0 : R = 0 := by omega
    subst hc0 hk0
    simp [Instr.slice, run_underlying Try.underlying158, Instr.sliceBounds, run_sliceBound, sizeOf, typeInfo, hi]
  · simp [Instr.slice, run_underlying Try.underlying158, Instr.sliceBounds, run_sliceBound, sizeOf, typeInfo, hi, h1, Addr.add]
theorem step_load_wide {P : Program} {ops : Array Oper} {o : Oper} {a : Act} {w : World} {K : Act → World → Prop} {Q : Exit → Act → World → Prop} {E : Prop} (hgd : o.guard = none) (ty : TypeId) (x : Operand) (ho : o.op = .load ty x)
    (b f : Nat) (hx : a.eval x = .pointer (some ⟨b, f, none⟩)) (cs : List Value) (d : TypeDesc) (hc : w.rangeAt b f cs) (hu : P.underlying ty = some d) (hd : d.isRow = true) (hi : (P.info? ty).map (·.size) = some cs.length)
    (h : K (a.put o.dst (.agg cs.toArray)) w) : if Region.wanted o (yielded ops a.tmps) = true then Oper.wp P o a w K Q else E := by
  have hw : Region.wanted o (yielded ops a.tmps) = true := by simp [Region.wanted, hgd]
  rw [if_pos hw]
  exact wp_load_mid ty x ho b f hx cs d hc hu hd hi h
theorem step_store_wide {P : Program} {ops : Array Oper} {o : Oper} {a : Act} {w : World} {K : Act → World → Prop} {Q : Exit → Act → World → Prop} {E : Prop} (hgd : o.guard = none) (ty : TypeId) (x y : Operand) (ho : o.op = .store ty x y)
    (b f : Nat) (cs : List Value) (hx : a.eval x = .pointer (some ⟨b, f, none⟩)) (hy : a.eval y = .agg cs.toArray) (ht : w.there b f cs.length) (hi : (P.info? ty).map (·.size) = some cs.length) (h1 : ∀ v ∈ cs, v.oneCell' = true)
    (h : K (a.put o.dst undef) (w.setCells b f cs)) : if Region.wanted o (yielded ops a.tmps) = true then Oper.wp P o a w K Q else E := by
  have hw : Region.wanted o (yielded ops a.tmps) = true := by simp [Region.wanted, hgd]
  rw [if_pos hw]
  exact wp_store_mid ty x y ho b f cs.toArray hx hy (by simpa using ht) (by simpa using hi) (all_oneCell_toArray h1) (by simpa using h)
end Go.Proofs.Ytbahejlgfpilnaa
