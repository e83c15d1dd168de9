/-
  slices.Compact at matrices, equal neighbours or not: the matrices that come out are those that came in. Conditions: as each theorem states.
  slices.Compact at matrices, equal neighbours or not: the walk. Conditions: as each theorem states.
-/
import Derived.Test.YtpbdbgajohacoaaTy
import Derived.Lib.SliceRun
import Derived.Lib.LazyBuf
namespace Go.Proofs.Ytpbdbgajohacoaa
open Go.RowKit Go.Sort EchM

theorem below_grown {w w' : World} {A : Nat} (h : Below w.heap.size w w') : w.grownBy w' (some A) := ⟨h.os, h.tape, h.output, h.size, fun k hk _ => h.block k hk⟩
theorem grown_below' {w w' : World} {A base : Nat} (h : w.grownBy w' (some A)) (hb : base ≤ A) (hs : base ≤ w.heap.size) : Below base w w' := (Below.refl base w).grown h hs fun k e => by cases e; exact hb
/-- A row of cells that holds a list of matrices. -/
def RM (M : List (Nat → Nat → Int)) (f : Nat → Value) : Prop := ∀ (j : Nat) (_ : j < M.length), ∀ a b, a < 3 → b < 3 → f (j * 9 + (a * 3 + b)) = .int .u8 (M[j] a b)
theorem grown_set9o (w : World) (A o : Nat) (v0 v1 v2 v3 v4 v5 v6 v7 v8 : Value) : w.grownBy (((((((((w.setCell ⟨A, o, none⟩ v0).setCell ⟨A, o + 1, none⟩ v1).setCell ⟨A, o + 2, none⟩ v2).setCell ⟨A, o + 3, none⟩ v3).setCell ⟨A, o + 4, none⟩ v4).setCell ⟨A, o + 5, none⟩ v5).setCell ⟨A, o + 6, none⟩ v6).setCell ⟨A, o + 7, none⟩ v7).setCell ⟨A, o + 8, none⟩ v8) (some A) :=
  grown_set1 (grown_set1 (grown_set1 (grown_set1 (grown_set1 (grown_set1 (grown_set1 (grown_set1 (grown_set1 (World.grownBy.refl w _) _ _) _ _) _ _) _ _) _ _) _ _) _ _) _ _) _ _
theorem RM.set {M : List (Nat → Nat → Int)} {f : Nat → Value} (h : RM M f) (k : Nat) (x : Nat → Nat → Int) : RM (M.set k x) (putM f k x) := by
  intro j hj a b ha hb
  rw [List.length_set] at hj
  rw [List.getElem_set]
  unfold putM
  by_cases e : k = j
  · subst e
    rw [if_pos (by omega), if_pos rfl, show (k * 9 + (a * 3 + b) - k * 9) / 3 = a by omega, show (k * 9 + (a * 3 + b) - k * 9) % 3 = b by omega]
  · rw [if_neg (by omega), if_neg e]
    exact h j hj a b ha hb
theorem RM.nine {w : World} {g n : Nat} {t : TypeId} {f : Nat → Value} {M : List (Nat → Nat → Int)} {x : Nat → Nat → Int} (hr : w.rowIs g t n f) (h : RM M f) {i : Nat} (hi : M[i]? = some x) (hn : M.length * 9 ≤ n) (o : Nat) (ho : o = i * 9) : ((w.cell? ⟨g, o, none⟩ = some (.int .u8 (x 0 0)) ∧ w.cell? ⟨g, o + 1, none⟩ = some (.int .u8 (x 0 1)) ∧ w.cell? ⟨g, o + 2, none⟩ = some (.int .u8 (x 0 2))) ∧ (w.cell? ⟨g, o + 3, none⟩ = some (.int .u8 (x 1 0)) ∧ w.cell? ⟨g, o + 4, none⟩ = some (.int .u8 (x 1 1)) ∧ w.cell? ⟨g, o + 5, none⟩ = some (.int .u8 (x 1 2))) ∧ (w.cell? ⟨g, o + 6, none⟩ = some (.int .u8 (x 2 0)) ∧ w.cell? ⟨g, o + 7, none⟩ = some (.int .u8 (x 2 1)) ∧ w.cell? ⟨g, o + 8, none⟩ = some (.int .u8 (x 2 2)))) := by
  obtain ⟨hlt, rfl⟩ := List.getElem?_eq_some_iff.1 hi
  subst ho
  have c : ∀ a b, a < 3 → b < 3 → w.cell? ⟨g, i * 9 + (a * 3 + b), none⟩ = some (.int .u8 (M[i] a b)) := fun a b ha hb => by rw [hr.cell (by omega), h i hlt a b ha hb]
  exact ⟨⟨c 0 0 (by omega) (by omega), c 0 1 (by omega) (by omega), c 0 2 (by omega) (by omega)⟩, ⟨c 1 0 (by omega) (by omega), c 1 1 (by omega) (by omega), c 1 2 (by omega) (by omega)⟩, c 2 0 (by omega) (by omega), c 2 1 (by omega) (by omega), c 2 2 (by omega) (by omega)⟩
def zcells : List Value := [.int .u8 0, .int .u8 0, .int .u8 0, .int .u8 0, .int .u8 0, .int .u8 0, .int .u8 0, .int .u8 0, .int .u8 0]
def zM (n : Nat) : List Value := (Builtin.zeroCells zcells.toArray n).toList
theorem zM_len (n : Nat) : (zM n).length = n * 9 := by simp [zM, Builtin.zeroCells, zcells]
theorem zM_one (n : Nat) : ∀ v ∈ zM n, v.oneCell' = true := by
  intro v hv
  simp only [zM, Builtin.zeroCells, Array.mem_toList_iff, Array.mem_map] at hv
  obtain ⟨i, _, rfl⟩ := hv
  have : i % 9 < 9 := Nat.mod_lt _ (by omega)
  show (zcells.toArray[i % 9]!).oneCell' = true
  generalize i % 9 = q at *
  match q, this with
  | 0, _ => rfl
  | 1, _ => rfl
  | 2, _ => rfl
  | 3, _ => rfl
  | 4, _ => rfl
  | 5, _ => rfl
  | 6, _ => rfl
  | 7, _ => rfl
  | 8, _ => rfl
theorem zeroMat (w : World) : (zeroValue 55).run Try.prog w = .ok (.agg zcells.toArray) w := by kernel_rfl
theorem run_clearM (w : World) (ty : TypeId) (g o n c : Nat) (hn : 0 < n) (hc : ∀ j, j < n * 9 → (w.cell? ⟨g, o + j, none⟩).isSome = true) (hf : ∀ j, w.frozen? ⟨g, j, none⟩ = false) :
    (Builtin.clear_ #[24] ty #[.slice (some ⟨g, o, none⟩) n c]).run Try.prog w = .ok (.tuple #[]) (w.setCells g o (zM n)) := by
  have hst := run_storeCells_cells (P := Try.prog) g o (zM n) 0 w (by rw [zM_len]; simpa using hc) (fun j _ => hf _) (zM_one n)
  simp only [Nat.add_zero] at hst
  obtain ⟨m, rfl⟩ : ∃ m, n = m + 1 := ⟨n - 1, by omega⟩
  simp [Builtin.clear_, run_underlying Try.underlying24]
  rw [show (Builtin.zeroCells (Value.agg #[.int .u8 0, .int .u8 0, .int .u8 0, .int .u8 0, .int .u8 0, .int .u8 0, .int .u8 0, .int .u8 0, .int .u8 0]).cells (m + 1)).toList = zM (m + 1) from rfl, hst]
  rfl
theorem grown_setCells {w : World} {A : Nat} : ∀ (vs : List Value) (o : Nat) {w' : World}, w.grownBy w' (some A) → w.grownBy (w'.setCells A o vs) (some A)
  | [], _, _, h => h
  | v :: r, o, _, h => grown_setCells r (o + 1) (grown_set1 h o v)
theorem take_set_same {M : List (Nat → Nat → Int)} {k : Nat} {x : Nat → Nat → Int} (hk : k < M.length) : (M.set k x).take (k + 1) = M.take k ++ [x] := by
  rw [List.take_succ_eq_append_getElem (by simpa using hk), List.take_set_of_le (Nat.le_refl _), List.getElem_set_self]
/-- What the loop has done: J matrices read, k written. -/
structure Cmp (S M : List (Nat → Nat → Int)) (k J : Nat) : Prop where
  len : M.length = S.length
  lt : k < J
  le : J ≤ S.length
  high : ∀ t, J ≤ t + 1 → M[t]? = S[t]?
  mem : ∀ x, x ∈ M.take k ↔ x ∈ S.take J
theorem Cmp.start {S : List (Nat → Nat → Int)} {j : Nat} (h : j + 1 < S.length) (he : S[j + 1] = S[j]) : Cmp S S (j + 1) (j + 2) :=
  ⟨rfl, by omega, by omega, fun _ _ => rfl, fun x => by
    rw [List.take_succ_eq_append_getElem h, List.mem_append, List.mem_singleton]
    refine ⟨.inl, fun q => q.elim id fun e => ?_⟩
    rw [e, he]
    exact List.mem_take_iff_getElem.2 ⟨j, by omega, rfl⟩⟩
theorem Cmp.skip {S M : List (Nat → Nat → Int)} {k J : Nat} (h : Cmp S M k J) (hJ : J < S.length) (he : S[J] ∈ S.take J) : Cmp S M k (J + 1) :=
  ⟨h.len, by have := h.lt; omega, by omega, fun t ht => h.high t (by omega), fun x => by
    rw [h.mem, List.take_succ_eq_append_getElem hJ, List.mem_append, List.mem_singleton]
    refine ⟨.inl, fun q => q.elim id fun e => ?_⟩
    rw [e]
    exact he⟩
theorem Cmp.keep {S M : List (Nat → Nat → Int)} {k J : Nat} (h : Cmp S M k J) (hJ : J < S.length) : Cmp S (M.set k S[J]) (k + 1) (J + 1) := by
  have hk := h.lt
  have hl := h.len
  refine ⟨by simpa using hl, by omega, by omega, fun t ht => ?_, fun x => ?_⟩
  · rw [List.getElem?_set_ne (by omega)]
    exact h.high t (by omega)
  · rw [take_set_same (by omega), List.take_succ_eq_append_getElem hJ, List.mem_append, List.mem_append, h.mem]
theorem cut_eq {x y : Nat → Nat → Int} (hx : Cut x) (hy : Cut y) (h : eqM x y = true) : x = y := by
  funext i j
  by_cases hij : i < 3 ∧ j < 3
  · exact eqM_iff.1 h i j hij.1 hij.2
  · rw [hx i j hij, hy i j hij]
theorem Cmp.skip2 {S M : List (Nat → Nat → Int)} {k J J' : Nat} {x y : Nat → Nat → Int} (h : Cmp S M k J) (hJ : J < S.length) (hc : ∀ z ∈ S, Cut z) (hJ' : J = J' + 1) (hx : S[J]? = some x) (hy : S[J']? = some y) (he : eqM x y = true) : Cmp S M k (J + 1) := by
  obtain ⟨h1, rfl⟩ := List.getElem?_eq_some_iff.1 hx
  obtain ⟨h2, rfl⟩ := List.getElem?_eq_some_iff.1 hy
  refine h.skip hJ ?_
  rw [cut_eq (hc _ (List.getElem_mem h1)) (hc _ (List.getElem_mem h2)) he]
  exact List.mem_take_iff_getElem.2 ⟨J', by omega, rfl⟩
theorem Cmp.keep2 {S M : List (Nat → Nat → Int)} {k J : Nat} {x : Nat → Nat → Int} (h : Cmp S M k J) (hJ : J < S.length) (hx : S[J]? = some x) : Cmp S (M.set k x) (k + 1) (J + 1) := by
  obtain ⟨h1, rfl⟩ := List.getElem?_eq_some_iff.1 hx
  exact h.keep hJ
theorem Cmp.start2 {S : List (Nat → Nat → Int)} {j : Nat} {x y : Nat → Nat → Int} (h : j + 1 < S.length) (hc : ∀ z ∈ S, Cut z) (hx : S[j + 1]? = some x) (hy : S[j]? = some y) (he : eqM x y = true) : Cmp S S (j + 1) (j + 2) := by
  obtain ⟨h1, rfl⟩ := List.getElem?_eq_some_iff.1 hx
  obtain ⟨h2, rfl⟩ := List.getElem?_eq_some_iff.1 hy
  exact .start h (cut_eq (hc _ (List.getElem_mem h1)) (hc _ (List.getElem_mem h2)) he)
/-- The row that a list of the call's own lies in. -/
theorem own_rm {w : World} {base g cap : Nat} {S : List (Nat → Nat → Int)} (h : OwnG9 w base (.slice (some ⟨g, 0, none⟩) S.length cap) S) : base ≤ g ∧ S.length ≤ cap ∧ ∃ f, w.rowIs g 55 (cap * 9) f ∧ RM S f := by
  obtain ⟨_, ⟨hv, hn⟩ | ⟨g', c, cur, hv, hb, hg, hnc, _, hcs, hct⟩⟩ := id h
  · cases hv
  · cases hv
    refine ⟨hb, hnc, fun i => cur.getD i undef, ⟨cur, hg, hcs, fun i hi => ?_⟩, fun j hj a b ha hb' => ?_⟩
    · rw [Array.getElem?_eq_getElem (by omega)]
      simp [show i < cur.size by omega]
    · have e := cells9_at S j hj a b ha hb'
      rw [← hct, List.getElem?_take_of_lt (by omega)] at e
      have e2 : cur[j * 9 + (a * 3 + b)]? = some (.int .u8 (S[j] a b)) := by simpa using e
      simp [e2]

end Go.Proofs.Ytpbdbgajohacoaa
namespace Go.Proofs.Ytpbdbgajohacoaa
open Go.RowKit Go.Sort EchM

set_option maxRecDepth 8000 in
set_option maxHeartbeats 4000000 in
theorem gcompact (v : Value) (S : List (Nat → Nat → Int)) (base : Nat) (w : World) (h : OwnG9 w base v S) (hl : S.length ≤ 1048576) (hc : ∀ x ∈ S, Cut x) :
    Calls Try.prog 84 #[v] w fun e w' => ∃ v' L', e = .returned v' ∧ SlM w' v' L' ∧ (∀ x, x ∈ L' ↔ x ∈ S) ∧ L'.length ≤ S.length ∧ w.grownBy w' v.ownBlock := by
  obtain ⟨a, cap, rfl, hSc⟩ := OwnG9.slice h
  by_cases h2 : S.length < 2
  · have h2' : (S.length : Int) < 2 := by omega
    go_enter Try.func84, Try.ntmps84
    go_wp2_with fail
    go_ret
    exact ⟨_, S, rfl, OwnG9.slice h, fun _ => Iff.rfl, Nat.le_refl _, World.grownBy.refl _ _⟩
  · have h2' : ¬ (S.length : Int) < 2 := by omega
    obtain ⟨g, rfl, hgl, hT⟩ : ∃ g, a = some ⟨g, 0, none⟩ ∧ g < w.heap.size ∧ MatsW w g 0 S := by
      obtain h' | ⟨b2, off2, ha2, hl2, hT2⟩ := hSc
      · rw [h'] at h2; simp at h2
      · obtain ⟨g, c, hv, _⟩ := h.form (by omega)
        cases hv
        cases ha2
        exact ⟨_, rfl, hl2, hT2⟩
    obtain ⟨hbg, hnc, f0, hrow0, hRM0⟩ := own_rm h
    have HC := Lib.hid hc
    have HS := OwnG9.slice h
    clear h hSc hc
    go_enter Try.func84, Try.ntmps84
    go_wp2_with fail
    go_loopw [3] (fun i wr => ∃ (j : Nat), j + 1 ≤ S.length ∧ i = .int .i64 ((j : Int) + 1) ∧ ∃ nd, wr = w.drewN nd) (fun i _ => S.length - (intOf i).toNat)
    case atStart => exact ⟨0, by omega, rfl, 0, rfl⟩
    case round =>
      obtain ⟨j, hj, rfl, nd, rfl⟩ := hrel
      by_cases hlt : j + 1 < S.length
      · have hlt' : (j : Int) + 1 < (S.length : Int) := by omega
        have hlt0 : (j : Int) < (S.length : Int) := by omega
        have hnn : (0 : Int) ≤ (j : Int) + 1 := by omega
        have htn : ((j : Int) + 1).toNat = j + 1 := by omega
        have hwj : wrap64 (j : Int) = (j : Int) := IntWalk.wrap64_in _ (by omega)
        obtain ⟨⟨a0, a1, a2⟩, ⟨a3, a4, a5⟩, a6, a7, a8⟩ := hT.nine hlt
        obtain ⟨⟨b0, b1, b2⟩, ⟨b3, b4, b5⟩, b6, b7, b8⟩ := hT.nine (k := j) (by omega)
        simp only [Nat.zero_add] at a0 a1 a2 a3 a4 a5 a6 a7 a8 b0 b1 b2 b3 b4 b5 b6 b7 b8
        obtain ⟨x, hx⟩ : ∃ x, S[j + 1] = x := ⟨_, rfl⟩
        obtain ⟨y, hy⟩ : ∃ y, S[j] = y := ⟨_, rfl⟩
        have HX := Lib.hid hx
        have HY := Lib.hid hy
        rw [hx] at a0 a1 a2 a3 a4 a5 a6 a7 a8
        rw [hy] at b0 b1 b2 b3 b4 b5 b6 b7 b8
        clear hx hy
        have kE := fun w => mat_eq x y w
        by_cases hE : eqM x y = true
        · have HE := Lib.hid hE
          rw [hE] at kE
          clear hE
          have HJC : Hid (¬ cap = j + 1) := Lib.hid (by omega)
          have hjl : (j : Int) + 1 ≤ (S.length : Int) := by omega
          have hjc' : (j : Int) + 1 ≤ (cap : Int) := by omega
          have hjc := HJC.out
          go_wp2_with fail
          go_quiet (fail)
          go_wp2_with fail
          clear hjc hjl hjc' HJC hlt' hlt0 hnn htn hwj
          have HST : Hid (Cmp S S (j + 1) (j + 2)) := Lib.hid (Cmp.start2 hlt HC.out (by rw [List.getElem?_eq_getElem hlt, HX.out]) (by rw [List.getElem?_eq_getElem (Nat.lt_of_succ_lt hlt), HY.out]) HE.out)
          have hrowV := hrow0.of_block (w' := w.drewN (nd + nq)) rfl
          have hgV : w.grownBy (w.drewN (nd + nq)) (some g) := below_grown (below_drewN (Below.refl _ _) _)
          clear a0 a1 a2 a3 a4 a5 a6 a7 a8 b0 b1 b2 b3 b4 b5 b6 b7 b8 kE HX HY HE
          generalize w.drewN (nd + nq) = V at *
          obtain ⟨N2, hN2⟩ : ∃ N2, S.length - (j + 1) = N2 := ⟨_, rfl⟩
          obtain ⟨C2, hC2⟩ : ∃ C2, cap - (j + 1) = C2 := ⟨_, rfl⟩
          obtain ⟨A0, hA0⟩ : ∃ A0, (j + 1) * 9 = A0 := ⟨_, rfl⟩
          rw [hN2, hC2, hA0]
          have HN2 := Lib.hid hN2
          have HA0 := Lib.hid hA0
          clear hN2 hC2 hA0
          go_loopw [3, 5] (fun s3 s5 wr => ∃ (kk j2 : Nat) (M : List (Nat → Nat → Int)) (f : Nat → Value), s3 = .int .i64 kk ∧ s5 = .int .i64 ((j2 : Int) + 1) ∧ j + 1 + (j2 + 1) ≤ S.length ∧ kk < j + 1 + (j2 + 1) ∧ wr.rowIs g 55 (cap * 9) f ∧ w.grownBy wr (some g) ∧ Hid (RM M f) ∧ Hid (Cmp S M kk (j + 1 + (j2 + 1)))) (fun _ s5 _ => S.length - (intOf s5).toNat)
          case atStart => exact ⟨j + 1, 0, S, f0, rfl, rfl, by omega, by omega, hrowV, hgV, Lib.hid hRM0, HST⟩
          case round =>
            clear hrowV hgV HST
            obtain ⟨kk, j2, M, f, rfl, rfl, hJ, hkJ, hrow, hgr, HR, HM⟩ := hrel
            have hlM := HM.out.len
            have hk9 : kk * 9 + 9 ≤ cap * 9 := by omega
            have hkS : kk < S.length := by omega
            have hM9 : M.length * 9 ≤ cap * 9 := by omega
            have hkcap : kk < cap := by omega
            by_cases hlt2 : j + 1 + (j2 + 1) < S.length
            · have hlt3 : j + 1 + j2 < S.length := Nat.lt_of_succ_lt hlt2
              obtain ⟨x, hx⟩ : ∃ x, S[j + 1 + (j2 + 1)]? = some x := ⟨_, List.getElem?_eq_getElem hlt2⟩
              obtain ⟨y, hy⟩ : ∃ y, S[j + 1 + j2]? = some y := ⟨_, List.getElem?_eq_getElem hlt3⟩
              have hMx : M[j + 1 + (j2 + 1)]? = some x := by rw [HM.out.high (j + 1 + (j2 + 1)) (Nat.le_succ _), hx]
              have hMy : M[j + 1 + j2]? = some y := by rw [HM.out.high (j + 1 + j2) (Nat.le_refl _), hy]
              have HSX := Lib.hid hx
              have HSY := Lib.hid hy
              clear hx hy
              obtain ⟨A, hA⟩ : ∃ A, A0 + (j2 + 1) * 9 = A := ⟨_, rfl⟩
              obtain ⟨B, hB⟩ : ∃ B, A0 + j2 * 9 = B := ⟨_, rfl⟩
              have HA9 : Hid (A = (j + 1 + (j2 + 1)) * 9) := Lib.hid (by rw [← hA, ← HA0.out]; exact (Nat.add_mul _ _ _).symm)
              obtain ⟨⟨a0, a1, a2⟩, ⟨a3, a4, a5⟩, a6, a7, a8⟩ := HR.out.nine hrow hMx hM9 A HA9.out
              obtain ⟨⟨b0, b1, b2⟩, ⟨b3, b4, b5⟩, b6, b7, b8⟩ := HR.out.nine hrow hMy hM9 B (by rw [← hB, ← HA0.out]; exact (Nat.add_mul _ _ _).symm)
              have kE := fun w => mat_eq x y w
              by_cases hE : eqM x y = true
              · have HN : Hid (Cmp S M kk (j + 1 + (j2 + 1 + 1))) := Lib.hid (HM.out.skip2 hlt2 HC.out rfl HSX.out HSY.out hE)
                rw [hE] at kE
                clear hE
                have HMS : Hid (S.length - (j2 + 1 + 1) < S.length - (j2 + 1)) := Lib.hid (by omega)
                have hN2 := HN2.out
                obtain ⟨hl2, hl20, hnn2, hwj2, hwj3, htn2⟩ : (j2 : Int) + 1 < (N2 : Int) ∧ (j2 : Int) < (N2 : Int) ∧ (0 : Int) ≤ (j2 : Int) + 1 ∧ wrap64 (j2 : Int) = (j2 : Int) ∧ wrap64 ((j2 : Int) + 1 + 1) = (j2 : Int) + 1 + 1 ∧ ((j2 : Int) + 1).toNat = j2 + 1 := ⟨by omega, by omega, by omega, IntWalk.wrap64_in _ (by omega), IntWalk.wrap64_in _ (by omega), rfl⟩
                have hb1 : j + 1 + (j2 + 1 + 1) ≤ S.length := hlt2
                have hb2 : kk < j + 1 + (j2 + 1 + 1) := Nat.lt_succ_of_lt hkJ
                clear hN2 hJ hkJ hlt hlt2 hlt3 hM9 hkcap hj hnc hlM hl h2 h2' hbg hk9 hkS
                go_wp2_with fail
                go_quiet (fail)
                go_wp2_with fail
                go_roundw
                case rel => exact ⟨kk, j2 + 1, M, f, rfl, by rw [hwj3]; rfl, hb1, hb2, hrow.of_block rfl, hgr.trans (below_grown (below_drewN (Below.refl _ _) _)), HR, HN⟩
                case measure =>
                  rw [hwj3]
                  exact HMS.out
              · have hE' : eqM x y = false := by simpa using hE
                have HN : Hid (Cmp S (M.set kk x) (kk + 1) (j + 1 + (j2 + 1 + 1))) := Lib.hid (HM.out.keep2 hlt2 HSX.out)
                rw [hE'] at kE
                clear hE hE'
                have HMS : Hid (S.length - (j2 + 1 + 1) < S.length - (j2 + 1)) := Lib.hid (by omega)
                have hN2 := HN2.out
                obtain ⟨hl2, hl20, hnn2, hwj2, hwj3, htn2, hkl, hwk⟩ : (j2 : Int) + 1 < (N2 : Int) ∧ (j2 : Int) < (N2 : Int) ∧ (0 : Int) ≤ (j2 : Int) + 1 ∧ wrap64 (j2 : Int) = (j2 : Int) ∧ wrap64 ((j2 : Int) + 1 + 1) = (j2 : Int) + 1 + 1 ∧ ((j2 : Int) + 1).toNat = j2 + 1 ∧ (kk : Int) < (S.length : Int) ∧ wrap64 ((kk : Int) + 1) = (kk : Int) + 1 := ⟨by omega, by omega, by omega, IntWalk.wrap64_in _ (by omega), IntWalk.wrap64_in _ (by omega), rfl, by omega, IntWalk.wrap64_in _ (by omega)⟩
                have hb1 : j + 1 + (j2 + 1 + 1) ≤ S.length := hlt2
                have hb2 : kk + 1 < j + 1 + (j2 + 1 + 1) := Nat.succ_lt_succ hkJ
                have HK9 := Lib.hid hk9
                have HM9 := Lib.hid hM9
                clear hN2 hJ hkJ hlt hlt2 hlt3 hM9 hkcap hj hnc hlM hl h2 h2' hbg hk9 hkS
                go_wp2_with fail
                go_quiet (fail)
                have row1 := hrow.of_block (w' := wr.drewN nq) rfl
                have hgr1 := hgr.trans (below_grown (A := g) (below_drewN (Below.refl wr.heap.size wr) nq))
                have HRS := Lib.hid (HR.out.set kk x)
                clear a0 a1 a2 a3 a4 a5 a6 a7 a8 b0 b1 b2 b3 b4 b5 b6 b7 b8 kE hMy
                obtain ⟨⟨a0, a1, a2⟩, ⟨a3, a4, a5⟩, a6, a7, a8⟩ := HR.out.nine row1 hMx HM9.out A HA9.out
                generalize wr.drewN nq = W2 at *
                have d0 := row1.cell (i := kk * 9) (Nat.lt_of_lt_of_le (Nat.add_lt_add_left (show 0 < 9 by decide) (kk * 9)) HK9.out)
                have f0 := row1.frozen (kk * 9)
                have d1 := row1.cell (i := kk * 9 + 1) (Nat.lt_of_lt_of_le (Nat.add_lt_add_left (show 1 < 9 by decide) (kk * 9)) HK9.out)
                have f1 := row1.frozen (kk * 9 + 1)
                have d2 := row1.cell (i := kk * 9 + 2) (Nat.lt_of_lt_of_le (Nat.add_lt_add_left (show 2 < 9 by decide) (kk * 9)) HK9.out)
                have f2 := row1.frozen (kk * 9 + 2)
                have d3 := row1.cell (i := kk * 9 + 3) (Nat.lt_of_lt_of_le (Nat.add_lt_add_left (show 3 < 9 by decide) (kk * 9)) HK9.out)
                have f3 := row1.frozen (kk * 9 + 3)
                have d4 := row1.cell (i := kk * 9 + 4) (Nat.lt_of_lt_of_le (Nat.add_lt_add_left (show 4 < 9 by decide) (kk * 9)) HK9.out)
                have f4 := row1.frozen (kk * 9 + 4)
                have d5 := row1.cell (i := kk * 9 + 5) (Nat.lt_of_lt_of_le (Nat.add_lt_add_left (show 5 < 9 by decide) (kk * 9)) HK9.out)
                have f5 := row1.frozen (kk * 9 + 5)
                have d6 := row1.cell (i := kk * 9 + 6) (Nat.lt_of_lt_of_le (Nat.add_lt_add_left (show 6 < 9 by decide) (kk * 9)) HK9.out)
                have f6 := row1.frozen (kk * 9 + 6)
                have d7 := row1.cell (i := kk * 9 + 7) (Nat.lt_of_lt_of_le (Nat.add_lt_add_left (show 7 < 9 by decide) (kk * 9)) HK9.out)
                have f7 := row1.frozen (kk * 9 + 7)
                have d8 := row1.cell (i := kk * 9 + 8) (Nat.lt_of_lt_of_le (Nat.add_lt_add_left (show 8 < 9 by decide) (kk * 9)) HK9.out)
                have f8 := row1.frozen (kk * 9 + 8)
                have rows := putM_row row1 kk x
                have HG2 := Lib.hid (hgr1.trans (grown_set9o W2 g (kk * 9) (.int .u8 (x 0 0)) (.int .u8 (x 0 1)) (.int .u8 (x 0 2)) (.int .u8 (x 1 0)) (.int .u8 (x 1 1)) (.int .u8 (x 1 2)) (.int .u8 (x 2 0)) (.int .u8 (x 2 1)) (.int .u8 (x 2 2))))
                clear hrow hgr row1 hgr1 HM HR HSX HSY hMx
                go_wp2_with fail
                go_roundw
                case rel => exact ⟨kk + 1, j2 + 1, M.set kk x, _, by first | rfl | (rw [hwk]; rfl), by rw [hwj3]; rfl, hb1, hb2, rows, HG2.out, HRS, HN⟩
                case measure =>
                  rw [hwj3]
                  exact HMS.out
            · have hJe : j + 1 + (j2 + 1) = S.length := by omega
              have hcl := fun ty => run_clearM wr ty g (kk * 9) (S.length - kk) (cap - kk) (by omega) (fun q hq => by rw [hrow.cell (by omega)]; rfl) (fun q => hrow.frozen q)
              have HFIN : Hid (SlM (wr.setCells g (kk * 9) (zM (S.length - kk))) (.slice (some ⟨g, 0, none⟩) kk cap) (M.take kk)) := Lib.hid ⟨_, _, by rw [List.length_take, hlM, Nat.min_eq_left (by omega)], .inr ⟨g, 0, rfl, Nat.lt_of_lt_of_le hgl (grown_setCells _ _ hgr).size, fun i hi a b ha hb => by
                have hi' : i < kk := by simp at hi; omega
                rw [World.cell?_setCells_out _ _ _ _ _ (fun _ _ => .inl (by show 0 + i * 9 + (a * 3 + b) < kk * 9; omega)), Nat.zero_add, hrow.cell (by omega), HR.out i (by omega) a b ha hb, List.getElem_take]⟩⟩
              have HGR := Lib.hid (grown_setCells (zM (S.length - kk)) (kk * 9) hgr)
              have HMEM := Lib.hid (fun x => (HM.out.mem x).trans (by rw [hJe, List.take_length]))
              have HLL : Hid ((M.take kk).length ≤ S.length) := Lib.hid (by rw [List.length_take]; omega)
              clear HM HR hrow hgr
              have hl2 : ¬ (j2 : Int) + 1 < (N2 : Int) := by have := HN2.out; omega
              have hk0 : (0 : Int) ≤ (kk : Int) := by omega
              have hkl : (kk : Int) < (S.length : Int) := by omega
              have hkl' : (kk : Int) ≤ (S.length : Int) := by omega
              have hkc' : (kk : Int) ≤ (cap : Int) := by omega
              have hkc : ¬ cap = kk := by omega
              go_wp2_with fail
              go_ret
              exact ⟨_, rfl, M.take kk, HFIN.out, HMEM.out, HLL.out, HGR.out⟩
        · have hE' : eqM x y = false := by simpa using hE
          rw [hE'] at kE
          clear hE hE'
          go_wp2_with fail
          go_quiet (fail)
          go_wp2_with fail
          go_roundw
          case rel => exact ⟨j + 1, by omega, by go_num, _, rfl⟩
          case measure => simp [intOf]; omega
      · have hlt' : ¬ (j : Int) + 1 < (S.length : Int) := by omega
        go_wp2_with fail
        go_ret
        exact ⟨_, rfl, S, HS.below (below_drewN (Below.refl _ _) _), fun _ => Iff.rfl, Nat.le_refl _, below_grown (below_drewN (Below.refl _ _) _)⟩
end Go.Proofs.Ytpbdbgajohacoaa
