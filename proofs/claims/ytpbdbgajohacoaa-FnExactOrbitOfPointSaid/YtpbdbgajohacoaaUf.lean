/-
  slices.CompactFunc at lists of points with slices.Equal. Conditions: as each theorem states.
-/
import Derived.Test.YtpbdbgajohacoaaUe
import Derived.Lib.SliceRun
import Derived.Lib.LazyBuf
namespace Go.Proofs.Ytpbdbgajohacoaa
open Go.RowKit Go.Sort EchM

/-- What the loop of a compaction has done: J rows read, k written. -/
structure CmpR (S M : List Row3) (k J : Nat) : Prop where
  len : M.length = S.length
  lt : k < J
  le : J ≤ S.length
  high : ∀ t, J ≤ t + 1 → M[t]? = S[t]?
  sub : (M.take k).Sublist (S.take J)
  mem : ∀ x, x ∈ (S.take J).map (·.2.1) → x ∈ (M.take k).map (·.2.1)
  strict : (M.take k).Pairwise (fun a b => cmpI a.2.1 b.2.1 = -1)
theorem cmpr_prev {n : Nat} {S : List Row3} (hs : S.Pairwise (fun a b => cmpI a.2.1 b.2.1 ≤ 0)) (hn : ∀ e ∈ S, e.2.1.length = n) {J : Nat} {x y : Row3} (hx : S[J + 1]? = some x) (hy : S[J]? = some y) (hne : cmpI x.2.1 y.2.1 ≠ 0) : ∀ z ∈ S.take (J + 1), cmpI z.2.1 x.2.1 = -1 := fun z hz => by
  obtain ⟨i, hi, rfl⟩ := List.mem_take_iff_getElem.1 hz
  obtain ⟨h1, rfl⟩ := List.getElem?_eq_some_iff.1 hx
  obtain ⟨h2, rfl⟩ := List.getElem?_eq_some_iff.1 hy
  have hyx : cmpI S[J].2.1 S[J + 1].2.1 = -1 := by
    have a := List.pairwise_iff_getElem.1 hs J (J + 1) h2 h1 (by omega)
    have b := cmpI_neg S[J + 1].2.1 S[J].2.1
    have c := cmpI_val S[J].2.1 S[J + 1].2.1
    omega
  by_cases e : i = J
  · subst e; exact hyx
  · have a := List.pairwise_iff_getElem.1 hs i J (by omega) h2 (by omega)
    exact cmpI_le_trans (by rw [hn _ (List.getElem_mem _), hn _ (List.getElem_mem _)]) (by rw [hn _ (List.getElem_mem _), hn _ (List.getElem_mem _)]) a hyx
theorem strict_next {n : Nat} {S : List Row3} (hs : S.Pairwise (fun a b => cmpI a.2.1 b.2.1 ≤ 0)) (hn : ∀ e ∈ S, e.2.1.length = n) {J : Nat} {x y : Row3} (hx : S[J + 1]? = some x) (hy : S[J]? = some y) (hne : cmpI x.2.1 y.2.1 ≠ 0) (h : (S.take (J + 1)).Pairwise (fun a b => cmpI a.2.1 b.2.1 = -1)) : (S.take (J + 2)).Pairwise (fun a b => cmpI a.2.1 b.2.1 = -1) := by
  have hp := cmpr_prev hs hn hx hy hne
  obtain ⟨h1, rfl⟩ := List.getElem?_eq_some_iff.1 hx
  rw [List.take_succ_eq_append_getElem h1, List.pairwise_append]
  exact ⟨h, by simp, fun a ha b hb => by simp at hb; subst hb; exact hp a ha⟩
theorem CmpR.start {S : List Row3} {j : Nat} {x y : Row3} (hx : S[j + 1]? = some x) (hy : S[j]? = some y) (he : x.2.1 = y.2.1) (h : (S.take (j + 1)).Pairwise (fun a b => cmpI a.2.1 b.2.1 = -1)) : CmpR S S (j + 1) (j + 2) := by
  obtain ⟨h1, rfl⟩ := List.getElem?_eq_some_iff.1 hx
  obtain ⟨h2, rfl⟩ := List.getElem?_eq_some_iff.1 hy
  refine ⟨rfl, by omega, by omega, fun _ _ => rfl, ?_, fun z hz => ?_, h⟩
  · rw [List.take_succ_eq_append_getElem h1]; exact List.sublist_append_left _ _
  · rw [List.take_succ_eq_append_getElem h1, List.map_append, List.mem_append] at hz
    rcases hz with hz | hz
    · exact hz
    · simp only [List.map_cons, List.map_nil, List.mem_singleton] at hz
      rw [hz, he]
      exact List.mem_map_of_mem (List.mem_take_iff_getElem.2 ⟨j, by omega, rfl⟩)
theorem CmpR.skip {S M : List Row3} {k J : Nat} {x y : Row3} (h : CmpR S M k (J + 1)) (hx : S[J + 1]? = some x) (hy : S[J]? = some y) (he : x.2.1 = y.2.1) : CmpR S M k (J + 2) := by
  obtain ⟨h1, rfl⟩ := List.getElem?_eq_some_iff.1 hx
  obtain ⟨h2, rfl⟩ := List.getElem?_eq_some_iff.1 hy
  have hl := h.lt
  refine ⟨h.len, by omega, by omega, fun t ht => h.high t (by omega), ?_, fun z hz => ?_, h.strict⟩
  · rw [List.take_succ_eq_append_getElem h1]; exact h.sub.trans (List.sublist_append_left _ _)
  · rw [List.take_succ_eq_append_getElem h1, List.map_append, List.mem_append] at hz
    rcases hz with hz | hz
    · exact h.mem z hz
    · simp only [List.map_cons, List.map_nil, List.mem_singleton] at hz
      rw [hz, he]
      exact h.mem _ (List.mem_map_of_mem (List.mem_take_iff_getElem.2 ⟨J, by omega, rfl⟩))
theorem CmpR.keep {n : Nat} {S M : List Row3} (hs : S.Pairwise (fun a b => cmpI a.2.1 b.2.1 ≤ 0)) (hn : ∀ e ∈ S, e.2.1.length = n) {k J : Nat} {x y : Row3} (h : CmpR S M k (J + 1)) (hx : S[J + 1]? = some x) (hy : S[J]? = some y) (hne : cmpI x.2.1 y.2.1 ≠ 0) : CmpR S (M.set k x) (k + 1) (J + 2) := by
  have hp := cmpr_prev hs hn hx hy hne
  obtain ⟨h1, rfl⟩ := List.getElem?_eq_some_iff.1 hx
  have hl := h.lt
  have hlen := h.len
  have ht : (M.set k S[J + 1]).take (k + 1) = M.take k ++ [S[J + 1]] := by
    rw [List.take_succ_eq_append_getElem (by simp; omega), List.take_set_of_le (Nat.le_refl _), List.getElem_set_self]
  refine ⟨by simpa using hlen, by omega, by omega, fun t ht => ?_, ?_, fun z hz => ?_, ?_⟩
  · rw [List.getElem?_set_ne (by omega)]
    exact h.high t (by omega)
  · rw [ht, List.take_succ_eq_append_getElem h1]
    exact h.sub.append (List.Sublist.refl _)
  · rw [List.take_succ_eq_append_getElem h1, List.map_append, List.mem_append] at hz
    rw [ht, List.map_append, List.mem_append]
    rcases hz with hz | hz
    · exact .inl (h.mem z hz)
    · exact .inr hz
  · rw [ht, List.pairwise_append]
    exact ⟨h.strict, by simp, fun a ha b hb => by simp at hb; subst hb; exact hp a (h.sub.subset ha)⟩

/-- What a compaction has done. -/
structure CmpDone (S O' : List Row3) : Prop where
  sub : O'.Sublist S
  mem : ∀ x, x ∈ S.map (·.2.1) → x ∈ O'.map (·.2.1)
  strict : O'.Pairwise (fun a b => cmpI a.2.1 b.2.1 = -1)
theorem iequal_r (X Y : Value) (xl yl : List Int) (W : World) (hl : xl.length ≤ 1048576) (hlo : xl.length = yl.length) (hX : Sl W X xl) (hY : Sl W Y yl) (E : Bool) (hE : decide (cmpI xl yl = 0) = E) : ∀ dd os,
    Calls Try.prog 64 #[X, Y] (grow (redrawn W dd) os) fun e w'' => e = .returned (.bool E) ∧ ∃ q : Regrown, w'' = grow (redrawn W q.d) q.os := fun dd os => by
  subst hE
  exact Calls.regrown_of (iequal X Y xl yl _ hl hlo (hX.below (below_regrown W dd os)) (hY.below (below_regrown W dd os)))
def zR (n : Nat) : List Value := (Builtin.zeroCells #[Value.slice none 0 0] n).toList
theorem zR_len (n : Nat) : (zR n).length = n := by simp [zR, Builtin.zeroCells]
theorem zR_one (n : Nat) : ∀ v ∈ zR n, v.oneCell' = true := by
  intro v hv
  simp only [zR, Builtin.zeroCells, Array.mem_toList_iff, Array.mem_map] at hv
  obtain ⟨i, _, rfl⟩ := hv
  have : i % (#[Value.slice none 0 0]).size = 0 := Nat.mod_one i
  rw [this]
  rfl
theorem zeroRow (w : World) : (zeroValue 41).run Try.prog w = .ok (.slice none 0 0) w := by kernel_rfl
theorem run_clearR (w : World) (ty : TypeId) (g o n c : Nat) (hn : 0 < n) (hc : ∀ j, j < n → (w.cell? ⟨g, o + j, none⟩).isSome = true) (hf : ∀ j, w.frozen? ⟨g, j, none⟩ = false) :
    (Builtin.clear_ #[42] ty #[.slice (some ⟨g, o, none⟩) n c]).run Try.prog w = .ok (.tuple #[]) (w.setCells g o (zR n)) := by
  have hst := run_storeCells_cells (P := Try.prog) g o (zR n) 0 w (by rw [zR_len]; simpa using hc) (fun j _ => hf _) (zR_one n)
  simp only [Nat.add_zero] at hst
  obtain ⟨m, rfl⟩ : ∃ m, n = m + 1 := ⟨n - 1, by omega⟩
  simp [Builtin.clear_, run_underlying Try.underlying42]
  rw [show (Builtin.zeroCells (Value.slice none 0 0).cells (m + 1)).toList = zR (m + 1) from rfl, hst]
  rfl
theorem ugrown_set1 {w w' : World} {A : Nat} (h : w.grownBy w' (some A)) (o : Nat) (v : Value) : w.grownBy (w'.setCell ⟨A, o, none⟩ v) (some A) :=
  h.trans ⟨rfl, rfl, rfl, by rw [World.size_setCell]; exact Nat.le_refl _, fun k hk hk2 => Below.heap_setCell w' ⟨A, o, none⟩ v k (fun e => hk2 (by rw [e]))⟩
theorem ubelow_grown {w w' : World} {A : Nat} (h : Below w.heap.size w w') : w.grownBy w' (some A) := ⟨h.os, h.tape, h.output, h.size, fun k hk _ => h.block k hk⟩
theorem ugrown_setCells {w : World} {A : Nat} : ∀ (vs : List Value) (o : Nat) {w' : World}, w.grownBy w' (some A) → w.grownBy (w'.setCells A o vs) (some A)
  | [], _, _, h => h
  | v :: r, o, _, h => ugrown_setCells r (o + 1) (ugrown_set1 h o v)
theorem row_setCells {g N : Nat} {t : TypeId} : ∀ (vs : List Value) (o : Nat) {w : World} {f : Nat → Value}, w.rowIs g t N f → ∃ f', (w.setCells g o vs).rowIs g t N f' ∧ ∀ q, q < o → f' q = f q
  | [], _, _, f, h => ⟨f, h, fun _ _ => rfl⟩
  | v :: r, o, _, f, h => by
    obtain ⟨f', h1, h2⟩ := row_setCells r (o + 1) (h.set o v)
    exact ⟨f', h1, fun q hq => by rw [h2 q (by omega), if_neg (by omega)]⟩
/-- A row of headers. -/
def RMr (M : List Row3) (f : Nat → Value) : Prop := ∀ (q : Nat) (h : q < M.length), f q = M[q].1
theorem RMr.set {M : List Row3} {f : Nat → Value} (h : RMr M f) (k : Nat) (x : Row3) : RMr (M.set k x) (fun j => if j = k then x.1 else f j) := fun q hq => by
  rw [List.length_set] at hq
  rw [List.getElem_set]
  by_cases e : q = k
  · subst e; simp
  · simp only [if_neg e, if_neg (show ¬ k = q from fun e2 => e e2.symm)]; exact h q hq
theorem RMr.at {w : World} {g N : Nat} {t : TypeId} {f : Nat → Value} {M : List Row3} {x : Row3} (hr : w.rowIs g t N f) (h : RMr M f) {i : Nat} (hi : M[i]? = some x) (hn : M.length ≤ N) : w.cell? ⟨g, i, none⟩ = some x.1 := by
  obtain ⟨hlt, rfl⟩ := List.getElem?_eq_some_iff.1 hi
  rw [hr.cell (by omega), h i hlt]

set_option maxRecDepth 8000 in
set_option maxHeartbeats 8000000 in
theorem gcompactF (w : World) (g n cap base : Nat) (S : List Row3) (hn : n ≤ 1048576) (hl : S.length ≤ 1048576) (hnc : S.length ≤ cap) (f0 : Nat → Value) (hrow0 : w.rowIs g 41 cap f0) (hRM0 : RMr S f0) (hr : ∀ e ∈ S, RowAt w base e) (hln : ∀ e ∈ S, e.2.1.length = n) (hs : S.Pairwise (fun a b => cmpI a.2.1 b.2.1 ≤ 0)) :
    Calls Try.prog 63 #[.slice (some ⟨g, 0, none⟩) S.length cap, .func (.func 64) #[] #[]] w fun e w' => ∃ kk, e = .returned (.slice (some ⟨g, 0, none⟩) kk cap) ∧ ∃ O', O'.length = kk ∧ CmpDone S O' ∧ (∃ f, w'.rowIs g 41 cap f ∧ RMr O' f) ∧ w.grownBy w' (some g) := by
  have HNG : Hid (∀ e ∈ S, e.2.2 ≠ g) := Lib.hid (fun e he => head_row (O := S) ⟨cap, f0, hnc, hrow0, hRM0⟩ (hr e he))
  by_cases h2 : S.length < 2
  · have h2' : (S.length : Int) < 2 := by omega
    go_enter Try.func63, Try.ntmps63
    go_wp2_with fail
    go_ret
    refine ⟨_, rfl, S, rfl, ⟨List.Sublist.refl _, fun _ h => h, ?_⟩, ⟨f0, hrow0, hRM0⟩, World.grownBy.refl _ _⟩
    match S, h2 with
    | [], _ => exact .nil
    | [a], _ => simp
  · have h2' : ¬ (S.length : Int) < 2 := by omega
    have HS := Lib.hid hs
    have HLN := Lib.hid hln
    have HR := Lib.hid hr
    clear hs hln hr
    have HP1 : Hid ((S.take 1).Pairwise (fun a b => cmpI a.2.1 b.2.1 = -1)) := Lib.hid (by
      match S with
      | [] => simp
      | a :: r => simp)
    go_enter Try.func63, Try.ntmps63
    go_wp2_with fail
    go_loopw [5] (fun i wr => ∃ (j : Nat), j + 1 ≤ S.length ∧ i = .int .i64 ((j : Int) + 1) ∧ Hid ((S.take (j + 1)).Pairwise (fun a b => cmpI a.2.1 b.2.1 = -1)) ∧ Below w.heap.size w wr) (fun i _ => S.length - (intOf i).toNat)
    case atStart => exact ⟨0, by omega, rfl, HP1, Below.refl _ _⟩
    case round =>
      clear HP1
      obtain ⟨j, hj, rfl, HP, hbr⟩ := hrel
      by_cases hlt : j + 1 < S.length
      · obtain ⟨x, hx⟩ : ∃ x, S[j + 1]? = some x := ⟨_, List.getElem?_eq_getElem hlt⟩
        obtain ⟨y, hy⟩ : ∃ y, S[j]? = some y := ⟨_, List.getElem?_eq_getElem (Nat.lt_of_succ_lt hlt)⟩
        have hxm : x ∈ S := List.mem_of_getElem? hx
        have hym : y ∈ S := List.mem_of_getElem? hy
        have hrowr := erow_below hrow0 hbr hrow0.lt
        have hX := (((HR.out x hxm).below hbr).sl)
        have hY := (((HR.out y hym).below hbr).sl)
        have hlx : x.2.1.length ≤ 1048576 := by rw [HLN.out x hxm]; exact hn
        have hly : x.2.1.length = y.2.1.length := by rw [HLN.out x hxm, HLN.out y hym]
        have c0 := cell_regrown (RMr.at hrowr hRM0 hx hnc)
        have c1 := cell_regrown (RMr.at hrowr hRM0 hy hnc)
        have HX := Lib.hid hx
        have HY := Lib.hid hy
        clear hx hy hxm hym
        obtain ⟨X, xl, xb⟩ := x
        obtain ⟨Y, yl, yb⟩ := y
        obtain ⟨E, hE⟩ : ∃ E, decide (cmpI xl yl = 0) = E := ⟨_, rfl⟩
        have kE := iequal_r X Y xl yl wr hlx hly hX hY E hE
        have HE := Lib.hid hE
        have HLY := Lib.hid hly
        simp only at c0 c1
        clear hE hX hY hlx hly hrowr
        obtain ⟨hlt', hlt0, hnn, htn, hwj⟩ : (j : Int) + 1 < (S.length : Int) ∧ (j : Int) < (S.length : Int) ∧ (0 : Int) ≤ (j : Int) + 1 ∧ ((j : Int) + 1).toNat = j + 1 ∧ wrap64 (j : Int) = (j : Int) := ⟨by omega, by omega, by omega, rfl, IntWalk.wrap64_in _ (by omega)⟩
        go_wp2_with fail
        refine wp_region_quiet_below (by kernel_rfl) (by kernel_rfl) ?_
        repeat (go_big_quiet_step (first | with_reducible exact kE _ _))
        refine wpQuiet_nil ?_
        intro _ hw'
        obtain ⟨⟨dq, osq⟩, hw''⟩ := hw'
        subst hw''
        have hbV := hbr.trans ((below_regrown wr dq osq).mono hbr.size)
        generalize grow (redrawn wr dq) osq = V at *
        clear kE c0 c1
        cases E
        · have HN : Hid ((S.take (j + 1 + 1)).Pairwise (fun a b => cmpI a.2.1 b.2.1 = -1)) := Lib.hid (strict_next HS.out HLN.out HX.out HY.out (by have := HE.out; simpa using this) HP.out)
          have HMS : Hid (S.length - (j + 1 + 1) < S.length - (j + 1)) := Lib.hid (by clear hlt' hlt0 hnn htn hwj; omega)
          have hw2 : wrap64 ((j : Int) + 1 + 1) = (j : Int) + 1 + 1 := IntWalk.wrap64_in _ (by clear hlt0 hnn htn hwj; omega)
          go_wp2_with fail
          go_roundw
          case rel => exact ⟨j + 1, hlt, by first | rfl | (rw [hw2]; rfl), HN, hbV⟩
          case measure =>
            first | exact HMS.out | (rw [hw2]; exact HMS.out)
        · have HEQ : Hid (xl = yl) := Lib.hid ((cmpI_zero HLY.out).1 (by have := HE.out; simpa using this))
          have HST : Hid (CmpR S S (j + 1) (j + 1 + 1)) := Lib.hid (CmpR.start HX.out HY.out HEQ.out HP.out)
          have HJC : Hid (¬ cap = j + 1) := Lib.hid (by clear hlt' hlt0 hnn htn hwj; omega)
          obtain ⟨hjl, hjc'⟩ : (j : Int) + 1 ≤ (S.length : Int) ∧ (j : Int) + 1 ≤ (cap : Int) := ⟨by clear hlt0 hnn htn hwj; omega, by clear hlt0 hnn htn hwj; omega⟩
          have hjc := HJC.out
          have hrowV := erow_below hrow0 hbV hrow0.lt
          have hgV : w.grownBy V (some g) := ubelow_grown hbV
          go_wp2_with fail
          clear hjc hjl hjc' HJC hlt' hlt0 hnn htn hwj HX HY HE HLY HEQ HP
          obtain ⟨N2, hN2⟩ : ∃ N2, S.length - (j + 1) = N2 := ⟨_, rfl⟩
          obtain ⟨C2, hC2⟩ : ∃ C2, cap - (j + 1) = C2 := ⟨_, rfl⟩
          obtain ⟨A0, hA0⟩ : ∃ A0, j + 1 = A0 := ⟨_, rfl⟩
          rw [hN2, hC2, hA0]
          rw [hA0] at HST
          have HN2 := Lib.hid hN2
          have HA0 := Lib.hid hA0
          have hAS : A0 + 1 ≤ S.length := by omega
          clear hN2 hC2 hA0
          go_loopw [5, 7] (fun s3 s5 wr => ∃ (kk j2 : Nat) (M : List Row3) (f : Nat → Value), s3 = .int .i64 kk ∧ s5 = .int .i64 ((j2 : Int) + 1) ∧ A0 + (j2 + 1) ≤ S.length ∧ kk < A0 + (j2 + 1) ∧ wr.rowIs g 41 cap f ∧ w.grownBy wr (some g) ∧ Hid (RMr M f) ∧ Hid (CmpR S M kk (A0 + (j2 + 1)))) (fun _ s5 _ => S.length - (intOf s5).toNat)
          case atStart => exact ⟨A0, 0, S, f0, by rw [← HA0.out]; rfl, rfl, hAS, Nat.lt_succ_self _, hrowV, hgV, Lib.hid hRM0, HST⟩
          case round =>
            clear hrowV hgV HST hbV hbr
            obtain ⟨kk, j2, M, f, rfl, rfl, hJ, hkJ, hrow, hgr, HRM, HM⟩ := hrel
            have hlM := HM.out.len
            have hMc : M.length ≤ cap := by omega
            have hkcap : kk < cap := by omega
            have hkS : kk < S.length := by omega
            by_cases hlt2 : A0 + (j2 + 1) < S.length
            · have hlt3 : A0 + j2 < S.length := Nat.lt_of_succ_lt hlt2
              obtain ⟨x, hx⟩ : ∃ x, S[A0 + j2 + 1]? = some x := ⟨_, List.getElem?_eq_getElem hlt2⟩
              obtain ⟨y, hy⟩ : ∃ y, S[A0 + j2]? = some y := ⟨_, List.getElem?_eq_getElem hlt3⟩
              have hMx : M[A0 + j2 + 1]? = some x := by rw [HM.out.high (A0 + j2 + 1) (Nat.le_succ _), hx]
              have hMy : M[A0 + j2]? = some y := by rw [HM.out.high (A0 + j2) (Nat.le_refl _), hy]
              have hxm : x ∈ S := List.mem_of_getElem? hx
              have hym : y ∈ S := List.mem_of_getElem? hy
              have hX := ((HR.out x hxm).kept hgr (HNG.out x hxm)).sl
              have hY := ((HR.out y hym).kept hgr (HNG.out y hym)).sl
              have hlx : x.2.1.length ≤ 1048576 := by rw [HLN.out x hxm]; exact hn
              have hly : x.2.1.length = y.2.1.length := by rw [HLN.out x hxm, HLN.out y hym]
              have e0 := RMr.at hrow HRM.out hMx hMc
              have e1 := RMr.at hrow HRM.out hMy hMc
              have HSX := Lib.hid hx
              have HSY := Lib.hid hy
              obtain ⟨xc, _, _, hxv, _⟩ := HR.out x hxm
              clear hx hy hMx hMy hxm hym
              obtain ⟨X, xl, xb⟩ := x
              obtain ⟨Y, yl, yb⟩ := y
              simp only at e0 e1 hxv
              subst hxv
              obtain ⟨A, hA⟩ : ∃ A, A0 + (j2 + 1) = A := ⟨_, rfl⟩
              obtain ⟨B, hB⟩ : ∃ B, A0 + j2 = B := ⟨_, rfl⟩
              rw [show A0 + j2 + 1 = A from hA] at e0
              rw [hB] at e1
              have c0 := cell_regrown e0
              have c1 := cell_regrown e1
              obtain ⟨E, hE⟩ : ∃ E, decide (cmpI xl yl = 0) = E := ⟨_, rfl⟩
              have kE := iequal_r (.slice (some ⟨xb, 0, none⟩) xl.length xc) Y xl yl wr hlx hly hX hY E hE
              have HE := Lib.hid hE
              have HLY := Lib.hid hly
              clear hE hX hY hlx hly e1
              have HMS : Hid (S.length - (j2 + 1 + 1) < S.length - (j2 + 1)) := Lib.hid (by omega)
              have hN2 := HN2.out
              have hA0 := HA0.out
              obtain ⟨hl2, hl20, hnn2, hwj2, hwj3, htn2, hkl, hwk⟩ : (j2 : Int) + 1 < (N2 : Int) ∧ (j2 : Int) < (N2 : Int) ∧ (0 : Int) ≤ (j2 : Int) + 1 ∧ wrap64 (j2 : Int) = (j2 : Int) ∧ wrap64 ((j2 : Int) + 1 + 1) = (j2 : Int) + 1 + 1 ∧ ((j2 : Int) + 1).toNat = j2 + 1 ∧ (kk : Int) < (S.length : Int) ∧ wrap64 ((kk : Int) + 1) = (kk : Int) + 1 := ⟨by omega, by omega, by omega, IntWalk.wrap64_in _ (by omega), IntWalk.wrap64_in _ (by omega), rfl, by omega, IntWalk.wrap64_in _ (by omega)⟩
              have HJ1 : Hid (A0 + (j2 + 1 + 1) ≤ S.length) := Lib.hid hlt2
              have HJ2 : Hid (kk < A0 + (j2 + 1 + 1) ∧ kk + 1 < A0 + (j2 + 1 + 1)) := Lib.hid ⟨Nat.lt_succ_of_lt hkJ, Nat.succ_lt_succ hkJ⟩
              have HKC := Lib.hid hkcap
              clear hN2 hA0 hJ hkJ hlt hlt2 hlt3 hMc hkcap hkS hj hnc hlM hl h2 h2' hn hAS
              go_wp2_with fail
              refine wp_region_quiet_below (by kernel_rfl) (by kernel_rfl) ?_
              repeat (go_big_quiet_step (first | with_reducible exact kE _ _))
              refine wpQuiet_nil ?_
              intro _ hw'
              obtain ⟨⟨dq, osq⟩, hw''⟩ := hw'
              subst hw''
              have hbQ := below_regrown wr dq osq
              have hrowQ := erow_below hrow hbQ hrow.lt
              have hgQ := hgr.trans (ubelow_grown (A := g) hbQ)
              have e0Q := c0 dq osq
              generalize grow (redrawn wr dq) osq = V2 at *
              clear kE c0 c1 hrow hgr e0 hbQ
              cases E
              · have HN : Hid (CmpR S (M.set kk (Value.slice (some ⟨xb, 0, none⟩) xl.length xc, xl, xb)) (kk + 1) (A0 + (j2 + 1 + 1))) := Lib.hid (CmpR.keep HS.out HLN.out HM.out HSX.out HSY.out (by have := HE.out; simpa using this))
                have HRS := Lib.hid (HRM.out.set kk (Value.slice (some ⟨xb, 0, none⟩) xl.length xc, xl, xb))
                have d0 := hrowQ.cell HKC.out
                have z0 := hrowQ.frozen kk
                have rows := hrowQ.set kk (Value.slice (some ⟨xb, 0, none⟩) xl.length xc)
                have HG2 := Lib.hid (ugrown_set1 hgQ kk (Value.slice (some ⟨xb, 0, none⟩) xl.length xc))
                clear hrowQ hgQ HM HRM
                go_wp2_with fail
                go_roundw
                case rel => exact ⟨kk + 1, j2 + 1, M.set kk (Value.slice (some ⟨xb, 0, none⟩) xl.length xc, xl, xb), _, by first | rfl | (rw [hwk]; rfl), by first | rfl | (rw [hwj3]; rfl), HJ1.out, HJ2.out.2, rows, HG2.out, HRS, HN⟩
                case measure => first | exact HMS.out | (rw [hwj3]; exact HMS.out)
              · have HN : Hid (CmpR S M kk (A0 + (j2 + 1 + 1))) := Lib.hid (HM.out.skip HSX.out HSY.out ((cmpI_zero HLY.out).1 (by have := HE.out; simpa using this)))
                go_wp2_with fail
                go_roundw
                case rel => exact ⟨kk, j2 + 1, M, f, rfl, by first | rfl | (rw [hwj3]; rfl), HJ1.out, HJ2.out.1, hrowQ, hgQ, HRM, HN⟩
                case measure => first | exact HMS.out | (rw [hwj3]; exact HMS.out)
            · have hJe : A0 + (j2 + 1) = S.length := by omega
              have hcl := fun ty => run_clearR wr ty g kk (S.length - kk) (cap - kk) (by omega) (fun q hq => by rw [hrow.cell (by omega)]; rfl) (fun q => hrow.frozen q)
              obtain ⟨f', hr', hf'⟩ := row_setCells (zR (S.length - kk)) kk hrow
              have HHD : Hid (RMr (M.take kk) f') := Lib.hid (fun q hq => by
                have hq' : q < kk := by simp at hq; omega
                rw [hf' q hq', HRM.out q (by omega), List.getElem_take])
              have HGR := Lib.hid (ugrown_setCells (zR (S.length - kk)) kk hgr)
              have HMEM : Hid (∀ x, x ∈ S.map (·.2.1) → x ∈ (M.take kk).map (·.2.1)) := Lib.hid (fun x hx => HM.out.mem x (by rw [hJe, List.take_length]; exact hx))
              have HSUB : Hid ((M.take kk).Sublist S) := Lib.hid (by have := HM.out.sub; rwa [hJe, List.take_length] at this)
              have HSTR := Lib.hid HM.out.strict
              have HLL : Hid ((M.take kk).length = kk) := Lib.hid (by rw [List.length_take]; omega)
              have HN := Lib.hid hr'
              clear HM HRM hrow hgr hr' hf'
              obtain ⟨hl2, hk0, hkl, hkl', hkc', hkc⟩ : ¬ (j2 : Int) + 1 < (N2 : Int) ∧ (0 : Int) ≤ (kk : Int) ∧ (kk : Int) < (S.length : Int) ∧ (kk : Int) ≤ (S.length : Int) ∧ (kk : Int) ≤ (cap : Int) ∧ ¬ cap = kk := ⟨by have := HN2.out; have := HA0.out; omega, by omega, by omega, by omega, by omega, by omega⟩
              go_wp2_with fail
              go_ret
              exact ⟨_, rfl, M.take kk, HLL.out, ⟨HSUB.out, HMEM.out, HSTR.out⟩, ⟨f', HN.out, HHD.out⟩, HGR.out⟩
      · have hlt' : ¬ (j : Int) + 1 < (S.length : Int) := by omega
        have HAL : Hid (S.Pairwise (fun a b => cmpI a.2.1 b.2.1 = -1)) := Lib.hid (by have := HP.out; rwa [show j + 1 = S.length by omega, List.take_length] at this)
        have hrowE := erow_below hrow0 hbr hrow0.lt
        go_wp2_with fail
        go_ret
        exact ⟨_, rfl, S, rfl, ⟨List.Sublist.refl _, fun _ h => h, HAL.out⟩, ⟨f0, hrowE, hRM0⟩, ubelow_grown hbr⟩
end Go.Proofs.Ytpbdbgajohacoaa
