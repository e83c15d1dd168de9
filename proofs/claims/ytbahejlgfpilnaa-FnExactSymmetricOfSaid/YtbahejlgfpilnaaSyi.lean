/-
  WALKS: 'spec.l08Orders'. Conditions: as the theorem states.
-/
import Derived.Test.YtbahejlgfpilnaaSyh
import Derived.Test.YtbahejlgfpilnaaSye
import Derived.Deep.LoopGhost
namespace Go.Proofs.Ytbahejlgfpilnaa
open Go.RowKit Go.Sort

theorem int_drop (b cap n k : Nat) (hk : k ≤ n) (hcap : n ≤ cap) :
    ∃ ad, (∀ W, (Instr.slice 52 (.slice (some ⟨b, 0, none⟩) n cap) (some (.int .i64 (k : Int))) none none).run Try.prog W = .ok (.slice ad (n - k) (cap - k)) W) ∧ (k < n → ad = some ⟨b, k, none⟩) := by
  obtain ⟨i0, hi, hz0, hz1, hz2⟩ := info_parts einfoI
  have ht' : Try.prog.underlying 52 = some (.slice (Try.prog.elem 52)) := by simp [Program.elem, Try.underlying52]
  have he : Try.prog.elem 52 = 2 := by simp [Program.elem, Try.underlying52]
  have hz : ∀ W, (Go.sizeOf 2).run Try.prog W = .ok 1 W := fun W => by simp [sizeOf, typeInfo, hi, hz1]
  by_cases hck : cap = k
  · refine ⟨some ⟨b, 0, none⟩, fun W => ?_, fun h => by omega⟩
    rw [run_slice_l W 52 _ _ _ ht' .i64 _ (by omega) (by omega), he, hz]
    simp [Result.andThen, sliced, hck]
  · refine ⟨some ⟨b, k, none⟩, fun W => ?_, fun _ => rfl⟩
    rw [run_slice_l W 52 _ _ _ ht' .i64 _ (by omega) (by omega), he, hz]
    by_cases hk0 : k = 0
    · subst hk0
      simp [Result.andThen, sliced, Addr.add]
    · simp [Result.andThen, sliced, Addr.add, hck]
      exact hk0
theorem own_oneI (w : World) (x : Int) : OwnL (w.alloc (.cells #[.int .i64 x] 2)) w.heap.size (.slice (some ⟨w.heap.size, 0, none⟩) 1 1) [x] :=
  ⟨rfl, .inr ⟨w.heap.size, 1, _, rfl, Nat.le_refl _, heap_alloc_new w _, Nat.le_refl _, by simp [maxLen], rfl, rfl⟩⟩
theorem own_nilI (w : World) : OwnL (w.alloc (.cells #[] 2)) w.heap.size (.slice (some ⟨w.heap.size, 0, none⟩) 0 0) [] :=
  ⟨rfl, .inr ⟨w.heap.size, 0, _, rfl, Nat.le_refl _, heap_alloc_new w _, Nat.le_refl _, by simp [maxLen], rfl, rfl⟩⟩
theorem rows_nil (w : World) : RowsM (w.alloc (.cells #[] 52)) w.heap.size (.slice (some ⟨w.heap.size, 0, none⟩) 0 0) [] :=
  ⟨⟨rfl, .inr ⟨w.heap.size, 0, _, rfl, Nat.le_refl _, heap_alloc_new w _, Nat.le_refl _, by simp [maxLen], rfl, rfl⟩⟩, by simp, by simp⟩
/-- The list of one list without numbers. -/
theorem rows_one (w : World) : RowsM ((w.alloc (.cells #[] 2)).alloc (.cells #[.slice (some ⟨w.heap.size, 0, none⟩) 0 0] 52)) w.heap.size (.slice (some ⟨w.heap.size + 1, 0, none⟩) 1 1) [(.slice (some ⟨w.heap.size, 0, none⟩) 0 0, [], w.heap.size)] := by
  have hs : (w.alloc (.cells #[] 2)).heap.size = w.heap.size + 1 := by simp
  refine ⟨⟨rfl, .inr ⟨w.heap.size + 1, 1, _, rfl, by omega, by rw [← hs]; exact heap_alloc_new _ _, Nat.le_refl _, by simp [maxLen], rfl, rfl⟩⟩, fun e he => ?_, by simp⟩
  obtain rfl := List.mem_singleton.1 he
  have h0 : (w.alloc (.cells #[] 2)).rowIs w.heap.size 2 0 (fun _ => undef) := ⟨_, heap_alloc_new w _, rfl, fun i hi => by omega⟩
  exact ⟨0, 0, _, rfl, Nat.le_refl _, Nat.le_refl _, h0.alloc _, fun q hq => by simp at hq⟩

theorem owns_monoS {w : World} {base base' : Nat} {t : TypeId} {v : Value} {n : Nat} {xs : List Value} (h : w.ownsRow base t 1 v n xs) (hb : base' ≤ base) : w.ownsRow base' t 1 v n xs := by
  obtain ⟨h1, h2⟩ := h
  refine ⟨h1, ?_⟩
  rcases h2 with h2 | ⟨g, cap, cur, hv, hg, r⟩
  · exact .inl h2
  · exact .inr ⟨g, cap, cur, hv, Nat.le_trans hb hg, r⟩
theorem OwnL.keepO {w w' : World} {base : Nat} {v : Value} {l : List Int} {r : Option Nat} (h : OwnL w base v l) (hg : w.grownBy w' r) (hne : v.ownBlock = none ∨ v.ownBlock ≠ r) : OwnL w' base v l := World.ownsRow.kept h hg hne
theorem ints_ne_head {w : World} {base base' n n' : Nat} {v v' : Value} {xs xs' : List Value} (h : w.ownsRow base 2 1 v n xs) (h' : w.ownsRow base' 52 1 v' n' xs') : v.ownBlock = none ∨ v.ownBlock ≠ v'.ownBlock := by
  cases hv : v.ownBlock with
  | none => exact .inl rfl
  | some g =>
    refine .inr fun e2 => ?_
    obtain ⟨c, z, hc⟩ := Lib.ownsRow_kind h g hv
    obtain ⟨c', z', hc'⟩ := Lib.ownsRow_kind h' g e2.symm
    rw [hc] at hc'
    simp at hc'
theorem head_ne_ints {w : World} {base base' n n' : Nat} {v v' : Value} {xs xs' : List Value} (h' : w.ownsRow base' 52 1 v' n' xs') (h : w.ownsRow base 2 1 v n xs) : v'.ownBlock = none ∨ v'.ownBlock ≠ v.ownBlock := by
  cases hv : v'.ownBlock with
  | none => exact .inl rfl
  | some g =>
    refine .inr fun e2 => ?_
    obtain ⟨c, z, hc⟩ := Lib.ownsRow_kind h' g hv
    obtain ⟨c', z', hc'⟩ := Lib.ownsRow_kind h g e2.symm
    rw [hc] at hc'
    simp at hc'
theorem RowsM.keepO {w w' : World} {base : Nat} {v : Value} {O : List Row3} {r : Option Nat} (h : RowsM w base v O) (hg : w.grownBy w' r) (hv : v.ownBlock = none ∨ v.ownBlock ≠ r) (hr : ∀ e ∈ O, some e.2.2 ≠ r) : RowsM w' base v O :=
  ⟨World.ownsRow.kept h.owns hg hv, fun e he => (h.rows e he).kept2 hg (hr e he), h.apart⟩

set_option maxRecDepth 8000 in
set_option maxHeartbeats 8000000 in
theorem sorders (d : Nat) (w : World) (h : 1 ≤ d ∧ d ≤ 3) : Calls Try.prog 169 #[.int .i64 d] w fun e w' => ∃ v vs O, e = .returned (.tuple #[v, vs]) ∧ RowsM w' w.heap.size v O ∧ CapO O ∧ O.map (·.2.1) = sOrd d ∧ OwnL w' w.heap.size vs (sSg d) ∧ Below w.heap.size w w' := by
  obtain ⟨W1, hW1, hM0, hS0, hb0⟩ : ∃ W1, W1 = ((w.alloc (.cells #[] 2)).alloc (.cells #[.slice (some ⟨w.heap.size, 0, none⟩) 0 0] 52)).alloc (.cells #[.int .i64 1] 2) ∧ RowsM W1 w.heap.size (.slice (some ⟨w.heap.size + 1, 0, none⟩) 1 1) [(.slice (some ⟨w.heap.size, 0, none⟩) 0 0, [], w.heap.size)] ∧ OwnL W1 w.heap.size (.slice (some ⟨w.heap.size + 1 + 1, 0, none⟩) 1 1) [1] ∧ Below w.heap.size w W1 := by
    have h1 := own_oneI ((w.alloc (.cells #[] 2)).alloc (.cells #[.slice (some ⟨w.heap.size, 0, none⟩) 0 0] 52)) 1
    have hs : ((w.alloc (.cells #[] 2)).alloc (.cells #[.slice (some ⟨w.heap.size, 0, none⟩) 0 0] 52)).heap.size = w.heap.size + 1 + 1 := by simp
    rw [hs] at h1
    exact ⟨_, rfl, (rows_one w).below (ebox1 _ _), h1.mono (by omega), ((ebox1 w _).trans ((ebox1 _ _).mono (by simp))).trans ((ebox1 _ _).mono (by simp; omega))⟩
  have HC0 : Hid (CapO [((.slice (some ⟨w.heap.size, 0, none⟩) 0 0 : Value), (([] : List Int), w.heap.size))] ∧ [((.slice (some ⟨w.heap.size, 0, none⟩) 0 0 : Value), (([] : List Int), w.heap.size))].map (·.2.1) = sOrd 0) := Lib.hid ⟨fun e he => by
    obtain rfl := List.mem_singleton.1 he
    exact ⟨0, rfl, Nat.le_refl _⟩, rfl⟩
  go_enter Try.func169, Try.ntmps169
  go_upto_region 2 with fail
  rw [← hW1]
  clear hW1
  go_wp2_with fail
  go_loopg [4, 5, 6] d (fun g vl vs c wq => ∃ (k : Nat) (O : List Row3), k + g = d ∧ c = .int .i64 k ∧ RowsM wq w.heap.size vl O ∧ Hid (CapO O ∧ O.map (·.2.1) = sOrd k) ∧ OwnL wq w.heap.size vs (sSg k) ∧ Below w.heap.size w wq)
  case atStart => exact ⟨0, _, by omega, rfl, hM0, HC0, hS0, hb0⟩
  case round =>
    clear hM0 HC0 hS0 hb0
    obtain ⟨k, O, hk, rfl, hM, HO, hS, hb⟩ := hrel
    by_cases hlt : k < d
    · have hlt' : (k : Int) < (d : Int) := by omega
      obtain ⟨g, hg⟩ : ∃ g, k + 1 + g = d := ⟨d - (k + 1), by omega⟩
      have HG := Lib.hid (And.intro hg (show g < gk by omega))
      have hk2 : k ≤ 2 := by omega
      have HOl := Lib.hid (show O.length = (sOrd k).length by rw [← HO.out.2, List.length_map])
      have hpos : 0 < O.length := by rw [HOl.out]; have : k = 0 ∨ k = 1 ∨ k = 2 := by omega
                                     rcases this with rfl | rfl | rfl <;> decide
      have hO6 : O.length ≤ 6 := by rw [HOl.out]; exact (sOrd_len k (by omega)).1
      have HSl := Lib.hid ((sOrd_len k (by omega)).2)
      obtain ⟨gv, cv, rfl, _⟩ := hM.cell hpos
      have hSS := hS.slice
      obtain ⟨wo, hwo⟩ : ∃ wo, wo = wr := ⟨_, rfl⟩
      rw [← hwo] at hM hS hSS hb
      obtain ⟨W2, hW2, hN0, hm0, hb2, hap⟩ : ∃ W2, W2 = (wo.alloc (.cells #[] 52)).alloc (.cells #[] 2) ∧ RowsM W2 wo.heap.size (.slice (some ⟨wo.heap.size, 0, none⟩) 0 0) [] ∧ OwnL W2 wo.heap.size (.slice (some ⟨wo.heap.size + 1, 0, none⟩) 0 0) [] ∧ Below wo.heap.size wo W2 ∧ True := by
        have h1 := own_nilI (wo.alloc (.cells #[] 52))
        have hs : (wo.alloc (.cells #[] 52)).heap.size = wo.heap.size + 1 := by simp
        rw [hs] at h1
        exact ⟨_, rfl, (rows_nil wo).below (ebox1 _ _), h1.mono (by omega), (ebox1 wo _).trans ((ebox1 _ _).mono (by simp)), trivial⟩
      have HK := Lib.hid (And.intro hM (And.intro hS hb))
      obtain ⟨sa, sc, rfl, hscase⟩ := id hSS
      clear hM hS hb hk hg hap
      go_upto_region 6 with fail
      rw [← hwo, ← hW2]
      clear hwo hW2
      go_wp2_with fail
      go_loopg [7, 8, 9] O.length (fun g vn vm c wq => ∃ (i : Nat) (O2 : List Row3), i + g = O.length ∧ c = .int .i64 i ∧ RowsM wq wo.heap.size vn O2 ∧ Hid (CapO O2 ∧ O2.map (·.2.1) = midO k (sOrd k) i 0) ∧ OwnL wq wo.heap.size vm (midS k (sSg k) i 0) ∧ Hid (∀ e ∈ O2, some e.2.2 ≠ vm.ownBlock) ∧ Below wo.heap.size wo wq)
      case atStart => exact ⟨0, [], by omega, rfl, hN0, Lib.hid ⟨fun e he => by simp at he, by simp [midO]⟩, by simpa [midS] using hm0, Lib.hid (fun e he => by simp at he), hb2⟩
      case round =>
        clear hN0 hm0 hb2
        obtain ⟨i, O2, hi, rfl, hN, HO2, hm, HNE, hbo⟩ := hrel
        by_cases hil : i < O.length
        · have hil' : (i : Int) < (O.length : Int) := by omega
          obtain ⟨g2, hg2⟩ : ∃ g2, i + 1 + g2 = O.length := ⟨O.length - (i + 1), by omega⟩
          have HG2 := Lib.hid (And.intro hg2 (show g2 < gk by omega))
          clear hi hg2
          go_wp2_with fail
          go_loopg [7, 8, 10] (k + 1) (fun g vn vm c wq => ∃ (j : Nat) (O2 : List Row3), j + g = k + 1 ∧ c = .int .i64 ((k : Int) - (j : Int)) ∧ RowsM wq wo.heap.size vn O2 ∧ Hid (CapO O2 ∧ O2.map (·.2.1) = midO k (sOrd k) i j) ∧ OwnL wq wo.heap.size vm (midS k (sSg k) i j) ∧ Hid (∀ e ∈ O2, some e.2.2 ≠ vm.ownBlock) ∧ Below wo.heap.size wo wq)
          case atStart => exact ⟨0, O2, by omega, by simp, hN, HO2, hm, HNE, hbo⟩
          case round =>
            clear hN HO2 hm HNE hbo
            obtain ⟨j, O3, hj, rfl, hN, HO3, hm, HNE, hbo⟩ := hrel
            by_cases hjk : j ≤ k
            · obtain ⟨a, ha⟩ : ∃ a, j + a = k := ⟨k - j, by omega⟩
              have hat : (k : Int) - (j : Int) = (a : Int) := by omega
              rw [hat]
              obtain ⟨g3, hg3⟩ : ∃ g3, j + 1 + g3 = k + 1 := ⟨k - j, by omega⟩
              have HG3 := Lib.hid (And.intro hg3 (show g3 < gk by omega))
              have hMr := HK.out.1.below hbo
              obtain ⟨gv', cv', hv', c0⟩ := hMr.cell hil
              obtain ⟨rfl, rfl⟩ : gv = gv' ∧ cv = cv' := by simpa using hv'
              have hRA := hMr.rows _ (List.getElem_mem hil)
              obtain ⟨ce, hce, hcl⟩ := HO.out.1 _ (List.getElem_mem hil)
              have hso : (sOrd k)[i]'(by rw [← HOl.out]; exact hil) = O[i].2.1 := by
                have h1 := HO.out.2
                simp only [← h1, List.getElem_map]
              have hrl : O[i].2.1.length = k := by rw [← hso]; exact sOrd_row k _ (List.getElem_mem _)
              have HMS := Lib.hid (midO_step (k := k) (L := sOrd k) (i := i) (j := j) (by rw [← HOl.out]; exact hil) hjk)
              rw [hso, show k - j = a by omega] at HMS
              obtain ⟨⟨u, l, b⟩, hee⟩ : ∃ e, O[i] = e := ⟨_, rfl⟩
              rw [hee] at c0 hRA hce hcl hrl HMS
              simp only at c0 hRA hce hcl hrl HMS
              rw [hrl] at hce hcl
              subst hce
              have hit := int_take b ce k a (by omega) hcl
              obtain ⟨ad, hidr, had⟩ := int_drop b ce k a (by omega) hcl
              have hgvlt := block_lt_of_cell c0
              have HEO := Lib.hid (eown (.slice (some ⟨b, 0, none⟩) a ce) (l.take a) wr (by rw [List.length_take]; omega) (row_takeS hRA a ce (by show a ≤ l.length; omega)))
              have hSl2 := HSl.out
              have hisl : i < (sSg k).length := by rw [hSl2, ← HOl.out]; exact hil
              have hisl' : (i : Int) < ((sSg k).length : Int) := by omega
              obtain ⟨bs, os, rfl, hbs, hTs⟩ : ∃ b off, sa = some ⟨b, off, none⟩ ∧ b < wo.heap.size ∧ Cs wo b off (sSg k) := by
                rcases hscase with h1 | h1
                · rw [h1] at hisl; simp at hisl
                · exact h1
              have d0 := hTs i hisl
              have HMG := Lib.hid (midS_step (k := k) (S := sSg k) (i := i) (j := j) hisl hjk)
              have hs1 := sSg_one k _ (List.getElem_mem hisl)
              obtain ⟨sg, hsg⟩ : ∃ sg, (sSg k)[i] = sg := ⟨_, rfl⟩
              rw [hsg] at d0 HMG hs1
              have hjj : 0 ≤ (j : Int) % 2 ∧ (j : Int) % 2 ≤ 1 := by omega
              have HD0 := Lib.hid d0
              clear d0
              have HRA := Lib.hid hRA
              have HCT := Lib.hid hbo
              have hwr2 := hbo.size
              have HRL := Lib.hid hrl
              clear hat hg3 hMr hso hee hRA hrl hTs hsg hSl2 hscase hv'
              obtain ⟨na, nc, rfl⟩ := hN.shape
              obtain ⟨ma, mc, rfl⟩ := hm.shape
              have HML := Lib.hid (show O3.length ≤ 12 by have h1 := congrArg List.length HO3.out.2; rw [List.length_map] at h1; rw [h1]; exact midO_le hk2)
              have HMS2 : Hid ((midS k (sSg k) i j).length ≤ 100000) := Lib.hid (by
                have h3 := flat_len (sgAll k) (k + 1) ((sSg k).take i) (fun x _ => by simp [sgAll])
                have h4 : ((sSg k).take i).length ≤ 6 := by rw [List.length_take]; have := (sOrd_len k (by omega)).1; have := HSl.out; omega
                have h5 : (k + 1) * ((sSg k).take i).length ≤ 3 * 6 := Nat.mul_le_mul (by omega) h4
                have h6 : ((sgAll k ((sSg k).getD i 0)).take j).length ≤ k + 1 := by rw [List.length_take]; simp [sgAll]; omega
                unfold midS
                rw [List.length_append, h3]
                omega)
              go_wp2_with fail
              ((with_reducible refine HEO.out.mono ?_); rintro e w4 ⟨v0, rfl, ho0, hb4⟩)
              have s4 := hb4.size
              go_wp2_with (at_builtin; refine wpList_append_ints _ rfl _ _ rfl wr.heap.size v0 (l.take a) rfl (ho0.below (ebox1 w4 (.cells #[.int .i64 (k : Int)] 2))) (.slice (some ⟨w4.heap.size, 0, none⟩) 1 1) [(k : Int)] rfl (own_oneI w4 k).slice (by rw [List.length_take]; simp; omega) (by simp; omega) ?_)
              intro v1 w6 ho1 hg6
              have hb5 := hb4.trans ((ebox1 w4 (.cells #[.int .i64 (k : Int)] 2)).mono hb4.size)
              have hb6 : Below wr.heap.size wr w6 := hb5.grown hg6 hb5.size (fun q hq => (World.ownsRow.lt ho0 q hq).1)
              have c0' := (hb6.cell (p := ⟨gv, i, none⟩) hgvlt).trans c0
              have hSd : Sl w6 (.slice ad (k - a) (ce - a)) (l.drop a) := by
                have h1 := row_dropS ((HRA.out).below hb6) a (ce - a) (show a ≤ l.length by have := HRL.out; omega) ad (fun h1 => had (by have h2 : a < l.length := h1; have := HRL.out; omega))
                simp only [HRL.out] at h1
                exact h1
              have hl0 : (l.take a ++ [(k : Int)]).length = a + 1 := by rw [List.length_append, List.length_take]; have := HRL.out; simp; omega
              obtain ⟨X1, hX1⟩ : ∃ X1, l.take a ++ [(k : Int)] = X1 := ⟨_, rfl⟩
              rw [hX1] at ho1 hl0
              have HX1 := Lib.hid hX1
              have HL0 := Lib.hid hl0
              clear c0 hg6 hb5 hb4 ho0 s4 hl0 hX1
              go_wp2_with (at_builtin; refine wpList_append_ints _ rfl _ _ rfl wr.heap.size v1 X1 rfl ho1 (.slice ad (k - a) (ce - a)) (l.drop a) rfl hSd (by have := HL0.out; have := HRL.out; rw [List.length_drop]; omega) hb6.size ?_)
              intro v2 w7 ho2 hg7
              have hb7 : Below wr.heap.size wr w7 := hb6.grown hg7 hb6.size (fun q hq => (World.ownsRow.lt ho1 q hq).1)
              obtain ⟨X2, hX2⟩ : ∃ X2, X1 ++ l.drop a = X2 := ⟨_, rfl⟩
              have hlK : X2.length = k + 1 := by rw [← hX2, List.length_append, HL0.out, List.length_drop, HRL.out]; omega
              rw [hX2] at ho2
              have HX2 : Hid (insK k l a = X2) := Lib.hid (by unfold insK; rw [HX1.out, hX2])
              clear hX2
              obtain ⟨g8, c8, rfl, hc8, hg8, hr8⟩ := ho2.rowC (by omega)
              rw [hlK] at hc8 hr8
              simp only [hlK]
              have HLK := Lib.hid hlK
              have hb8 := hb7.trans ((ebox1 w7 (.cells #[.slice (some ⟨g8, 0, none⟩) (k + 1) c8] 52)).mono hb7.size)
              have hN8 := hN.below hb8
              have hr9 := (hr8.mono hwr2).below (ebox1 w7 (.cells #[.slice (some ⟨g8, 0, none⟩) (k + 1) c8] 52))
              have HFR := Lib.hid (hN.fresh hg8)
              have hm8 := hm.below hb8
              have hbo8 := hbo.trans (hb8.mono hbo.size)
              have HM8 := Lib.hid (And.intro hm8 hbo8)
              have HG8 := Lib.hid (And.intro hg8 (fun q hq => (World.ownsRow.lt hm q hq).2))
              obtain ⟨i0, hi0, hz0, hz1, hz2⟩ := info_parts einfoR
              clear hb6 ho1 ho2 hg7 hSd hlK hN hm hm8 hbo hr8 hb7 HL0
              go_wp2_with (at_builtin; refine wpList_append_lies _ rfl _ _ 24 rfl wo.heap.size 52 i0 _ 1 24 Try.underlying24 hi0 hz0 hz1 hz2 rfl (by decide) (.slice na O3.length nc) O3.length (O3.map (·.1)) rfl hN8.owns ⟨w7.heap.size, 0, none⟩ 1 1 [.slice (some ⟨g8, 0, none⟩) (k + 1) c8] rfl rfl (World.news_of_block (cs := #[.slice (some ⟨g8, 0, none⟩) (k + 1) c8]) (t := 52) (fr := (0, 0)) (heap_alloc_new w7 _)) (by simp [Value.oneCell']) (by omega) (by have := HML.out; unfold maxLen; omega) (by have := HML.out; omega) hbo8.size _ rfl ?_)
              intro g9 cap9 w9 hown9 hgrow9 hat9 hlt9
              have hM9 := hN8.push hr9 HFR.out hown9 hgrow9
              have hm9 := HM8.out.1.keepO hgrow9 (ints_ne_head HM8.out.1 hN8.owns)
              have hb9 : Below wo.heap.size wo w9 := HM8.out.2.grown hgrow9 HM8.out.2.size (fun q hq => (World.ownsRow.lt hN8.owns q hq).1)
              have d9 := (hb9.cell (p := ⟨bs, os + i, none⟩) hbs).trans HD0.out
              have hw61 : IntKind.i64.wrap ((k : Int) - (a : Int)) = (j : Int) := by rw [show (k : Int) - (a : Int) = (j : Int) by omega]; exact IntWalk.i64_in _ (by omega)
              obtain ⟨jj, hjj2⟩ : ∃ jj, (j : Int) % 2 = jj := ⟨_, rfl⟩
              have hm62 : (j : Int).tmod 2 = jj := by rw [Int.tmod_eq_emod_of_nonneg (by omega), hjj2]
              rw [hjj2] at hjj HMG
              obtain ⟨z, hz⟩ : ∃ z, 2 * jj = z := ⟨_, rfl⟩
              have hw63 : IntKind.i64.wrap (2 * jj) = z := by rw [← hz]; exact IntWalk.i64_in _ (by omega)
              obtain ⟨y, hy⟩ : ∃ y, 1 - z = y := ⟨_, rfl⟩
              have hw64 : IntKind.i64.wrap (1 - z) = y := by rw [← hy]; exact IntWalk.i64_in _ (by omega)
              obtain ⟨x, hx⟩ : ∃ x, sg * y = x := ⟨_, rfl⟩
              have hxb : -1 ≤ x ∧ x ≤ 1 := by
                have hy3 : -1 ≤ y ∧ y ≤ 1 := by omega
                rcases hs1 with rfl | rfl <;> omega
              have hw65 : IntKind.i64.wrap (sg * y) = x := by rw [hx]; exact IntWalk.i64_in _ (by omega)
              obtain ⟨MS, hMS⟩ : ∃ MS, midS k (sSg k) i j = MS := ⟨_, rfl⟩
              rw [hMS] at hm9 HMG HMS2 HNE HG8
              have HMX : Hid (midS k (sSg k) i (j + 1) = MS ++ [x]) := Lib.hid (by rw [HMG.out, hz, hy, hx])
              obtain ⟨na2, hna⟩ : ∃ n2, (k : Int) - ((j + 1 : Nat) : Int) = n2 := ⟨_, rfl⟩
              have hwd : IntKind.i64.wrap ((a : Int) - 1) = na2 := by rw [← hna, show (a : Int) - 1 = (k : Int) - ((j + 1 : Nat) : Int) by omega]; exact IntWalk.i64_in _ (by omega)
              have HNA := Lib.hid hna
              have HO4 : Hid (CapO (O3 ++ [(Value.slice (some ⟨g8, 0, none⟩) (k + 1) c8, X2, g8)]) ∧ (O3 ++ [(Value.slice (some ⟨g8, 0, none⟩) (k + 1) c8, X2, g8)]).map (·.2.1) = midO k (sOrd k) i (j + 1)) := Lib.hid ⟨fun e he => by
                  rcases List.mem_append.1 he with h1 | h1
                  · exact HO3.out.1 e h1
                  · obtain rfl := List.mem_singleton.1 h1
                    exact ⟨c8, by simp only [HLK.out], by show X2.length ≤ c8; rw [HLK.out]; exact hc8⟩,
                by rw [List.map_append, HO3.out.2, HMS.out, HX2.out]; rfl⟩
              have HR8 : Hid (∀ e ∈ O3 ++ [(Value.slice (some ⟨g8, 0, none⟩) (k + 1) c8, X2, g8)], some e.2.2 ≠ (Value.slice ma MS.length mc).ownBlock) := Lib.hid (fun e he => by
                rcases List.mem_append.1 he with h1 | h1
                · exact HNE.out e h1
                · obtain rfl := List.mem_singleton.1 h1
                  exact fun h2 => by have h3 := HG8.out.2 _ h2.symm; have h4 := HG8.out.1; simp only at h3; omega)
              have hm10 := hm9.below (ebox1 w9 (.cells #[.int .i64 x] 2))
              have hM10 := hM9.below (ebox1 w9 (.cells #[.int .i64 x] 2))
              have hb10 := hb9.trans ((ebox1 w9 (.cells #[.int .i64 x] 2)).mono hb9.size)
              obtain ⟨O4, hO4⟩ : ∃ O4, O3 ++ [(Value.slice (some ⟨g8, 0, none⟩) (k + 1) c8, X2, g8)] = O4 := ⟨_, rfl⟩
              rw [hO4] at hM9 hM10 HO4 HR8
              have HLT9 : Hid (∀ e ∈ O4, e.2.2 < w9.heap.size) := Lib.hid (fun e he => (hM9.rows e he).lt)
              obtain ⟨i1, hi1, hy0, hy1, hy2⟩ := info_parts einfoI
              clear hown9 hgrow9 hat9 hlt9 hN8 hr9 hb9 hm9 HM8 hz hy hx hna hjj2 hbo8 hO4 hM9 hi0 hz0 hz1 hz2
              go_upto_region 14 with fail
              rw [hMS]
              clear hMS
              go_wp2_with (at_builtin; refine wpList_append_lies _ rfl _ _ 52 rfl wo.heap.size 2 i1 _ 1 8 Try.underlying52 hi1 hy0 hy1 hy2 rfl (by decide) (.slice ma MS.length mc) MS.length (valsI MS) rfl hm10 ⟨w9.heap.size, 0, none⟩ 1 1 [.int .i64 x] rfl rfl (World.news_of_block (cs := #[.int .i64 x]) (t := 2) (fr := (0, 0)) (heap_alloc_new w9 _)) (by simp [Value.oneCell']) (by omega) (by have := HMS2.out; unfold maxLen; omega) (by have := HMS2.out; omega) hb10.size _ rfl ?_)
              intro g10 cap10 w10 hown10 hgrow10 hat10 hlt10
              have hmf : OwnL w10 wo.heap.size (.slice (some ⟨g10, 0, none⟩) (MS.length + 1) cap10) (MS ++ [x]) := by simpa [OwnL, valsI] using hown10
              have hMf := hM10.keepO hgrow10 (head_ne_ints hM10.owns hm10) HR8.out
              have HNf : Hid (∀ e ∈ O4, some e.2.2 ≠ (Value.slice (some ⟨g10, 0, none⟩) (MS.length + 1) cap10).ownBlock) := Lib.hid (fun e he h2 => by
                have h3 : e.2.2 = g10 := by simpa [Value.ownBlock] using h2
                rcases hat10 with h4 | h4
                · exact HR8.out e he (by rw [h4, h3])
                · have h5 := HLT9.out e he
                  have h6 : (w9.alloc (.cells #[.int .i64 x] 2)).heap.size = w9.heap.size + 1 := by simp
                  omega)
              have hbf := hb10.grown hgrow10 hb10.size (fun q hq => (World.ownsRow.lt hm10 q hq).1)
              rw [← HMX.out] at hmf
              clear hown10 hgrow10 hat10 hlt10 hm10 hM10 hb10 hi1 hy0 hy1 hy2
              go_wp2_with fail
              go_roundg g3
              case measure => exact HG3.out.2
              case rel => exact ⟨j + 1, O4, HG3.out.1, by rw [HNA.out], hMf, HO4, hmf, HNf, hbf⟩
            · obtain rfl : j = k + 1 := by omega
              have hlt3 : ¬ ((0 : Int) ≤ (k : Int) - ((k + 1 : Nat) : Int)) := by omega
              have HE1 : Hid (CapO O3 ∧ O3.map (·.2.1) = midO k (sOrd k) (i + 1) 0) := Lib.hid ⟨HO3.out.1, by rw [HO3.out.2, midO_end (by rw [← HOl.out]; exact hil), midO_zero]⟩
              have hm2 := hm
              rw [midS_end (by rw [HSl.out, ← HOl.out]; exact hil), ← midS_zero] at hm2
              clear hm hj
              go_wp2_with fail
              go_roundg g2
              case measure => exact HG2.out.2
              case rel => exact ⟨i + 1, O3, HG2.out.1, by go_num, hN, HE1, hm2, HNE, hbo⟩
        · obtain rfl : i = O.length := by omega
          have HE1 : Hid (CapO O2 ∧ O2.map (·.2.1) = sOrd (k + 1)) := Lib.hid ⟨HO2.out.1, by rw [HO2.out.2, midO_zero, HOl.out, List.take_length]; rfl⟩
          have hm2 := hm
          rw [midS_zero, HOl.out, ← HSl.out, List.take_length] at hm2
          have hend := HK.out.2.2.trans (hbo.mono HK.out.2.2.size)
          have hNm := RowsM.mk (owns_monoS hN.owns HK.out.2.2.size) (fun e he => (hN.rows e he).mono HK.out.2.2.size) hN.apart
          have hmm := hm2.mono HK.out.2.2.size
          clear hm hm2 hN hbo
          go_wp2_with fail
          go_roundg g
          case measure => exact HG.out.2
          case rel => exact ⟨k + 1, O2, HG.out.1, by go_num, hNm, HE1, hmm, hend⟩
    · obtain rfl : k = d := by omega
      obtain ⟨a1, c1, rfl⟩ := hM.shape
      obtain ⟨a2, c2, rfl, _⟩ := hS.slice
      go_wp2_with fail
      go_ret2
      exact ⟨_, _, O, rfl, hM, HO.out.1, HO.out.2, hS, hb⟩
end Go.Proofs.Ytbahejlgfpilnaa
