/-
  WALKS: 'impl.sumOfOrders' with the number 1 for each order. Conditions: as the theorem states.
-/
import Derived.Test.YtbahejlgfpilnaaSyca
import Derived.Test.YtbahejlgfpilnaaSyf
namespace Go.Proofs.Ytbahejlgfpilnaa
open Go.RowKit Go.Sort Go.Maps

/-- What orders make of exponents. -/
def keyO (es os : List Int) : Int × Int × Int := (plF es os es.length 0, plF es os es.length 1, plF es os es.length 2)
def imgL (es : List Int) (L : List (List Int)) : List (Int × Int × Int) := L.map (keyO es)
theorem ind_snoc (M : List (Int × Int × Int)) (k e : Int × Int × Int) : indF (M ++ [k]) e = if e = k then 1 else indF M e := by
  unfold indF
  by_cases h : e = k
  · subst h; rw [if_pos (by simp), if_pos rfl]
  · rw [if_neg h]
    by_cases h2 : e ∈ M
    · rw [if_pos (List.mem_append.2 (.inl h2)), if_pos h2]
    · rw [if_neg (fun h' => (List.mem_append.1 h').elim h2 (fun h3 => h (List.mem_singleton.1 h3))), if_neg h2]
theorem keyO_byte {es os : List Int} (he : ∀ e ∈ es, 0 ≤ e ∧ e ≤ 255) : byte3 (keyO es os) := ⟨plF_byte he _ _, plF_byte he _ _, plF_byte he _ _⟩
theorem ord_row {d k : Nat} (hd : 1 ≤ d ∧ d ≤ 3) {l : List Int} (h : l ∈ ordL d k) : l.length = d ∧ ∀ x ∈ l, 0 ≤ x ∧ x < 3 := by
  unfold ordL at h
  obtain ⟨h1, _⟩ := List.mem_filter.1 h
  obtain ⟨r, _, rfl⟩ := List.mem_map.1 h1
  refine ⟨dgL_len d r, fun x hx => ?_⟩
  simp only [dgL, List.mem_map, List.mem_range] at hx
  obtain ⟨i, _, rfl⟩ := hx
  unfold dgt
  have := Nat.mod_lt (r / d ^ i) (show d > 0 by omega)
  omega
theorem ione (u : Value) (w : World) : Calls Try.prog 172 #[u] w fun e w' => e = .returned (.int .i64 1) ∧ w' = w := by
  go_enter Try.func172, Try.ntmps172
  go_wp2
  go_ret
  exact ⟨rfl, rfl⟩

set_option maxRecDepth 100000 in
set_option maxHeartbeats 8000000 in
theorem isoo (p : Int) (ve : Value) (es : List Int) (w : World) (hd : 1 ≤ es.length ∧ es.length ≤ 3) (hp2 : 2 ≤ p) (he : ∀ e ∈ es, 0 ≤ e ∧ e ≤ 255)
    (h12 : ∀ os ∈ ordL es.length (es.length ^ es.length), (keyO es os).1 + (keyO es os).2.1 + (keyO es os).2.2 ≤ 12) (hS : Sl w ve es) :
    Calls Try.prog 171 #[.int .i64 p, ve, .func (.func 172) #[] #[]] w fun e w' => ∃ v' S, e = .returned (.agg #[.int .i64 p, .int .i64 es.length, v']) ∧ OwnP w' w.heap.size v' S ∧ IsP p S (indF (imgL es (ordL es.length (es.length ^ es.length)))) ∧ Below w.heap.size w w' := by
  have hmm := @run_makeMap Try.prog
  obtain ⟨W0, hW0, hb0, ⟨h01, h02⟩, rr⟩ := newbox w 0 0 (.slice none 0 0)
  obtain ⟨W1, hW1, hb1, hs1, hm1⟩ : ∃ W1, W1 = W0.alloc (.map #[] 0) ∧ Below W0.heap.size W0 W1 ∧ (W1.heap.size ≤ W0.heap.size + 1 ∧ W0.heap.size + 1 ≤ W1.heap.size) ∧ MapE W1 W0.heap.size 0 (.map []) :=
    ⟨_, rfl, box1 W0 _, ⟨by simp, by simp⟩, World.ownsMap_made (H := Unit) W0 Try.prog 107 (plainElem Try.prog 2)⟩
  have rr1 := rowIs_below rr hb1 rr.lt
  have hw1 := hb0.trans (hb1.mono hb0.size)
  obtain ⟨ea, ec, rfl, _⟩ := id hS
  obtain ⟨L, hL⟩ : ∃ L, ordL es.length (es.length ^ es.length) = L := ⟨_, rfl⟩
  have HOR := Lib.hid (iorders es.length W1 hd)
  have HRW : Hid (∀ l ∈ L, l.length = es.length ∧ ∀ x ∈ l, 0 ≤ x ∧ x < 3) := Lib.hid (fun l hl => ord_row hd (by rw [hL]; exact hl))
  have HLL : Hid (L.length ≤ 27) := Lib.hid (by rw [← hL]; exact Nat.le_trans (ordL_len _ _) (pow_le27 hd (Nat.le_refl _)))
  rw [hL] at HOR h12
  have H12 := Lib.hid h12
  have HE := Lib.hid he
  have HLE := Lib.hid hL
  have haw := hS.away (g := W0.heap.size) (by omega)
  clear hL h12 he
  go_enter Try.func171, Try.ntmps171
  go_upto_region 1 with fail
  rw [← hW0]
  clear hW0
  go_upto_region 3 with fail
  rw [← hW1]
  clear hW1 hmm
  go_wp2_with fail
  ((with_reducible refine HOR.out.mono ?_); rintro e w4 ⟨v4, rfl, hO4, hb4⟩)
  obtain ⟨a4, c4, rfl⟩ := hO4.shape
  have rr4 := rowIs_below rr1 hb4 rr1.lt
  have hM4 : MapE w4 W0.heap.size 0 (.map []) := hm1.kept (row := none) ⟨hb4.os, hb4.tape, hb4.output, hb4.size, fun k hk _ => hb4.block k hk⟩ (by simp)
  have hw4 := hw1.trans (hb4.mono hw1.size)
  have hS4 := hS.below hw4
  have hm1lt := hm1.lt
  clear HOR rr rr1 hm1 hb4 hb0 hb1 hw1
  go_wp2_with fail
  go_loopg [17] L.length (fun g c wq => ∃ (j : Nat) (D : DataW Unit), j + g = L.length ∧ c = .int .i64 j ∧ MapE wq W0.heap.size j D ∧ Hid (∀ e, byte3 e → cf D e = indF ((imgL es L).take j) e) ∧ w4.grownBy wq (some W0.heap.size))
  case atStart => exact ⟨0, _, by omega, rfl, hM4, Lib.hid (fun e _ => by rw [cf_empty]; simp [indF]), ⟨rfl, rfl, rfl, Nat.le_refl _, fun _ _ _ => rfl⟩⟩
  case round =>
    clear hM4
    obtain ⟨j, D, hj, rfl, hM, HD, hg⟩ := hrel
    have hOq := hO4.kept hg hm1lt
    by_cases hlt : j < L.length
    · have hlt' : (j : Int) < (L.length : Int) := by omega
      obtain ⟨g2, hg2⟩ : ∃ g2, j + 1 + g2 = L.length := ⟨L.length - (j + 1), by omega⟩
      have HI := Lib.hid (And.intro hg2 (show g2 < gk by omega))
      have hSq := hS4.kept2 hg haw
      obtain ⟨_, _, hv, hcase⟩ := hOq.slR
      obtain ⟨b, off, rfl, hbb, hT⟩ : ∃ b off, a4 = some ⟨b, off, none⟩ ∧ b < wr.heap.size ∧ RowsW wr b off L := by
        rcases hcase with rfl | ⟨b, off, h1, h2, h3⟩
        · simp at hlt
        · exact ⟨b, off, by simp at hv; rw [hv.1, h1], h2, h3⟩
      obtain ⟨u, c0, s0⟩ := hT j hlt
      obtain ⟨r1, r2⟩ := HRW.out _ (List.getElem_mem hlt)
      have HIN := Lib.hid (iino (.slice ea es.length ec) u es L[j] wr (by rw [r1]; exact Nat.le_refl _) hd.2 HE.out r2 hSq s0 (by rw [r1]; omega))
      have hby := keyO_byte (os := L[j]) HE.out
      have hkey : keyOf Try.prog 107 (.agg #[.int .u8 (keyO es L[j]).1, .int .u8 (keyO es L[j]).2.1, .int .u8 (keyO es L[j]).2.2]) = some (kE (keyO es L[j])) := keyOf_vE (keyO es L[j]) hby
      have HCF : Hid (∀ e, byte3 e → cf (D.put (kE (keyO es L[j])) (.lit (.int .i64 1))) e = indF ((imgL es L).take (j + 1)) e) := Lib.hid (fun e he => by
        rw [cf_put hM.isMap hby he, List.take_succ_eq_append_getElem (by simpa [imgL] using hlt), ind_snoc, HD.out e he]
        simp [imgL])
      have hwf : (Lit.int .i64 1).wf = true := wf64 (by omega) (by omega)
      change Hid (Calls _ _ _ _ (fun e w' => e = .returned (.agg #[.int .u8 (keyO es L[j]).1, .int .u8 (keyO es L[j]).2.1, .int .u8 (keyO es L[j]).2.2]) ∧ _)) at HIN
      obtain ⟨K, hK⟩ : ∃ K, keyO es L[j] = K := ⟨_, rfl⟩
      rw [hK] at HIN hkey HCF
      have hj28 : j < 28 := by have := HLL.out; omega
      clear hK hby hSq hT hcase hv hj hg2 HD r1 r2 s0 hOq
      obtain ⟨k0, k1, k2⟩ := K
      simp only at HIN hkey
      go_wp2_with fail
      ((with_reducible refine HIN.out.mono ?_); rintro e w5 ⟨rfl, hb5⟩)
      have hM5 : MapE w5 W0.heap.size j D := hM.kept (row := none) ⟨hb5.os, hb5.tape, hb5.output, hb5.size, fun k hk _ => hb5.block k hk⟩ (by simp)
      have hg5 : w4.grownBy w5 (some W0.heap.size) := ⟨hb5.os.trans hg.os, hb5.tape.trans hg.tape, hb5.output.trans hg.output, Nat.le_trans hg.size hb5.size, fun b hb hne => (hb5.block b (Nat.lt_of_lt_of_le hb hg.size)).trans (hg.block b hb hne)⟩
      clear hM hg hb5 HIN
      go_wp2_with fail
      ((with_reducible refine (ione _ _).mono ?_); rintro e w6 ⟨rfl, rfl⟩)
      go_wp2_with (at_mapUpdate; refine wpList_mapUpdate_own _ rfl _ _ _ 168 rfl 107 2 lawK Try.underlying168 (plainElem Try.prog 2) W0.heap.size j D rfl hM5 (by unfold maxLen; omega) (.agg #[.int .u8 k0, .int .u8 k1, .int .u8 k2]) _ _ rfl rfl hkey _ [] (plainElem_int Try.underlying2 hwf) ?_; intro w7 hown7 hgrow7)
      have hg7 : w4.grownBy w7 (some W0.heap.size) := ⟨hgrow7.os.trans hg5.os, hgrow7.tape.trans hg5.tape, hgrow7.output.trans hg5.output, Nat.le_trans hg5.size hgrow7.size, fun b hb hne => (hgrow7.block b (Nat.lt_of_lt_of_le hb hg5.size) hne).trans (hg5.block b hb hne)⟩
      clear hM5 hg5 hgrow7
      go_wp2_with fail
      go_roundg g2
      case measure => exact HI.out.2
      case rel => exact ⟨j + 1, _, HI.out.1, by go_num, by simpa using hown7, HCF, hg7⟩
    · obtain rfl : j = L.length := by omega
      have hcf : ∀ e, byte3 e → cf D e = indF (imgL es L) e := fun e he => by
        rw [HD.out e he, List.take_of_length_le (by simp [imgL])]
      have hi12 : ∀ e, byte3 e → indF (imgL es L) e ≠ 0 → e.1 + e.2.1 + e.2.2 ≤ 12 := fun e _ hne => by
        have hmem : e ∈ imgL es L := Classical.byContradiction fun h => hne (by unfold indF; rw [if_neg h])
        simp only [imgL, List.mem_map] at hmem
        obtain ⟨os, h1, rfl⟩ := hmem
        exact H12.out os h1
      have hib : ∀ e, byte3 e → 0 ≤ indF (imgL es L) e ∧ indF (imgL es L) e < p := fun e _ => by
        unfold indF
        split <;> omega
      have HG : Hid (∀ S, Good D S → IsP p S (indF (imgL es L))) := Lib.hid (fun S h => h.isP hcf hib hi12)
      have HPO := Lib.hid (polyOf_any sort_says p es.length W0.heap.size _ D wr hM (by have := HLL.out; omega) (fun e he hc => hi12 e he (by rw [← hcf e he]; exact hc)))
      have hne0 : w.heap.size ≠ W0.heap.size := by omega
      have rrW : wr.rowIs w.heap.size 42 3 (polyF 0 0 (.slice none 0 0)) := rr4.of_block (hg.block _ rr4.lt (by simpa using hne0))
      have hbw : Below w.heap.size w wr := hw4.grown hg hw4.size (fun q hq => by cases hq; omega)
      clear hcf hi12 hib hM hg HD hO4 hS4 hw4 rr4
      go_wp2_with fail
      ((with_reducible refine HPO.out.mono ?_); rintro e w5 ⟨v5, S, rfl, ho5, hgood, hb5⟩)
      have HIS := Lib.hid (HG.out S hgood)
      obtain ⟨sa, sc, rfl⟩ := owns_slice ho5
      have rr5 := rowIs_below rrW hb5 rrW.lt
      obtain ⟨⟨r0, r1, r2⟩, z0, z1, z2⟩ := poly3 rr5
      obtain ⟨a0, a1, a2, a3, a4⟩ := fill_box rr5 ho5 hbw.size (hbw.trans (hb5.mono hbw.size)) (Nat.le_refl _) p es.length
      have A0 := Lib.hid a0
      have A1 := Lib.hid a1
      have A2 := Lib.hid a2
      have A3 := Lib.hid a3
      have A4 := Lib.hid a4
      clear a0 a1 a2 a3 a4 ho5 hgood rr5 rrW hbw hb5
      go_wp2_with fail
      refine bodyPost_ret (v := .agg #[.int .i64 p, .int .i64 es.length, .slice sa S.length sc]) (by simp [results, Try.results171, go_sem, A0.out, A1.out, A2.out]) rfl ⟨_, S, rfl, A3.out, ?_, A4.out⟩
      rw [HLE.out]
      exact HIS.out

set_option maxRecDepth 100000 in
set_option maxHeartbeats 4000000 in
theorem imsum (p : Int) (ve : Value) (es : List Int) (w : World) (hd : 1 ≤ es.length ∧ es.length ≤ 3) (hp2 : 2 ≤ p) (he : ∀ e ∈ es, 0 ≤ e ∧ e ≤ 255)
    (h12 : ∀ os ∈ ordL es.length (es.length ^ es.length), (keyO es os).1 + (keyO es os).2.1 + (keyO es os).2.2 ≤ 12) (hS : Sl w ve es) :
    Calls Try.prog 103 #[.int .i64 p, ve] w fun e w' => ∃ v' S, e = .returned (.agg #[.int .i64 p, .int .i64 es.length, v']) ∧ OwnP w' w.heap.size v' S ∧ IsP p S (indF (imgL es (ordL es.length (es.length ^ es.length)))) ∧ Below w.heap.size w w' := by
  obtain ⟨W0, hW0, hb0, ⟨h01, h02⟩, rr⟩ := newbox w 0 0 (.slice none 0 0)
  have HC := Lib.hid (isoo p ve es W0 hd hp2 he h12 (hS.below hb0))
  clear h12 he
  go_enter Try.func103, Try.ntmps103
  go_upto_region 1 with fail
  rw [← hW0]
  clear hW0
  go_wp2_with fail
  ((with_reducible refine HC.out.mono ?_); rintro e w5 ⟨v5, S, rfl, ho5, hI, hb5⟩)
  have HIS := Lib.hid hI
  obtain ⟨sa, sc, rfl⟩ := owns_slice ho5
  have rr5 := rowIs_below rr hb5 rr.lt
  obtain ⟨⟨r0, r1, r2⟩, z0, z1, z2⟩ := poly3 rr5
  obtain ⟨a0, a1, a2, a3, a4⟩ := fill_box rr5 ho5 hb0.size (hb0.trans (hb5.mono hb0.size)) (Nat.le_refl _) p es.length
  have A0 := Lib.hid a0
  have A1 := Lib.hid a1
  have A2 := Lib.hid a2
  have A3 := Lib.hid a3
  have A4 := Lib.hid a4
  clear a0 a1 a2 a3 a4 ho5 hI rr5 rr hb5 HC
  go_wp2_with fail
  exact bodyPost_ret (v := .agg #[.int .i64 p, .int .i64 es.length, .slice sa S.length sc]) (by simp [results, Try.results103, go_sem, A0.out, A1.out, A2.out]) rfl ⟨_, S, rfl, A3.out, HIS.out, A4.out⟩
end Go.Proofs.Ytbahejlgfpilnaa
