/-
  GROUPS OF LISTS: what the answer is; 'spec.GroupOf', walked. Conditions: the numbers of the matrices are bytes.
-/
import Derived.Test.YtpbdbgajohacoaaTz
namespace Go.Proofs.Ytpbdbgajohacoaa
open Go.RowKit Go.Sort EchM

/-- A search ends: it has all, or more than 48. -/
theorem reach_ends (p : Int) (n : Nat) (G : List (Nat → Nat → Int)) : ∀ (f : Nat) (O : List (Nat → Nat → Int)), O.Nodup → (∀ x ∈ O, Reach p n G x) → 49 ≤ O.length + f → Over48 p n G ∨ ∃ O', Closed48 p n G O'
  | 0, O, hn, hr, hl => .inl ⟨O, hn, hr, by omega⟩
  | f + 1, O, hn, hr, hl => by
    by_cases h49 : 48 < O.length
    · exact .inl ⟨O, hn, hr, h49⟩
    · by_cases h : ∃ x, Reach p n G x ∧ x ∉ O
      · obtain ⟨x, hx, hxO⟩ := h
        refine reach_ends p n G f (O ++ [x]) ?_ (fun y hy => ?_) (by simp; omega)
        · rw [List.nodup_append]
          exact ⟨hn, by simp, fun a ha b hb e => by simp at hb; subst hb; subst e; exact hxO ha⟩
        · rcases List.mem_append.1 hy with hy | hy
          · exact hr y hy
          · simp at hy; subst hy; exact hx
      · refine .inr ⟨O, hn, fun x => ⟨hr x, fun hx => ?_⟩, by omega⟩
        by_cases hm : x ∈ O
        · exact hm
        · exact absurd ⟨x, hx, hm⟩ h
/-- What a list's group is asked of: a prime, a size, matrices. -/
def okL (p n : Int) (L : List (Nat → Nat → Int)) : Bool := pB p && ((decide (1 ≤ n) && decide (n ≤ 3)) && L.all (isMat p n))
/-- The answer of GroupOf. -/
def GrpRes (p n : Int) (L : List (Nat → Nat → Int)) (o : GO) : Prop :=
  (okL p n L = false ∧ o = noG 2) ∨ (okL p n L = true ∧ Over48 p n.toNat L ∧ o = noG 3) ∨ (okL p n L = true ∧ ∃ O, Closed48 p n.toNat L O ∧ o = ⟨p, n, sortM O, 0⟩)
theorem GrpRes.ex (p n : Int) (L : List (Nat → Nat → Int)) : ∃ o, GrpRes p n L o := by
  cases h : okL p n L
  · exact ⟨_, .inl ⟨h, rfl⟩⟩
  · rcases reach_ends p n.toNat L 49 [] (by simp) (by simp) (by simp) with ho | ⟨O, hO⟩
    · exact ⟨_, .inr (.inl ⟨h, ho, rfl⟩)⟩
    · exact ⟨_, .inr (.inr ⟨h, O, hO, rfl⟩)⟩
theorem GrpRes.unique {p n : Int} {L : List (Nat → Nat → Int)} {o o' : GO} (h : GrpRes p n L o) (h' : GrpRes p n L o') : o = o' := by
  rcases h with ⟨a, rfl⟩ | ⟨a, b, rfl⟩ | ⟨a, O, b, rfl⟩ <;> rcases h' with ⟨a', rfl⟩ | ⟨a', b', rfl⟩ | ⟨a', O', b', rfl⟩
  · rfl
  · rw [a] at a'; cases a'
  · rw [a] at a'; cases a'
  · rw [a] at a'; cases a'
  · rfl
  · exact absurd b b'.not_over
  · rw [a] at a'; cases a'
  · exact absurd b' b.not_over
  · rw [b.sort b']
theorem GrpRes.len {p n : Int} {L : List (Nat → Nat → Int)} {o : GO} (h : GrpRes p n L o) : o.S.length ≤ 48 := by
  rcases h with ⟨_, rfl⟩ | ⟨_, _, rfl⟩ | ⟨_, O, b, rfl⟩
  · simp [noG]
  · simp [noG]
  · simp only [sortM_len]; exact b.2.2

set_option maxRecDepth 8000 in
set_option maxHeartbeats 8000000 in
theorem sgrof (p n : Int) (v : Value) (L : List (Nat → Nat → Int)) (w : World) (hl : L.length ≤ 1048576) (hS : SlM w v L) (hby : ∀ x ∈ L, Byt x) :
    Calls Try.prog 10 #[.int .i64 p, .int .i64 n, v] w fun e w' => ∃ o, GrpRes p n L o ∧ ResG w o e w' := by
  obtain ⟨W, hW, rR, hbW⟩ : ∃ W, W = w.alloc (.cells #[.int .i64 0, .int .i64 0, .slice none 0 0] 26) ∧ W.rowIs w.heap.size 26 3 (grpF 0 0 (.slice none 0 0)) ∧ Below w.heap.size w W := ⟨_, rfl, gbox w 0 0 _ _, ebox1 _ _⟩
  have hSW := hS.below hbW
  obtain ⟨a, cap, rfl, hSc⟩ := id hS
  have HBY := Lib.hid hby
  clear hby
  cases hp : pB p
  · have HX := Lib.hid (show okL p n L = false by simp [okL, hp])
    have HP := Lib.hid hp
    clear hp
    go_enter Try.func10, Try.ntmps10
    go_wp2_with fail
    rw [← hW]
    clear hW
    ((with_reducible refine (eprime_is p _ false HP.out).mono ?_); rintro e w1 ⟨rfl, rfl⟩)
    obtain ⟨r0, r1, r2⟩ := gcells rR
    have z0 := rR.frozen 0
    have z1 := rR.frozen 1
    have z2 := rR.frozen 2
    have R := ((rR.set 0 (.int .i64 0)).set 1 (.int .i64 0)).set 2 (.slice none 0 0)
    have V0 := Lib.hid (R.cell (i := 0) (by omega))
    have V1 := Lib.hid (R.cell (i := 1) (by omega))
    have V2 := Lib.hid (R.cell (i := 2) (by omega))
    have HB := Lib.hid (((hbW.setCell (p := ⟨w.heap.size, 0, none⟩) (by simp) (.int .i64 0)).setCell (p := ⟨w.heap.size, 1, none⟩) (by simp) (.int .i64 0)).setCell (p := ⟨w.heap.size, 2, none⟩) (by simp) (.slice none 0 0))
    clear R
    go_wp2_with fail
    exact bodyPost_ret (v := .tuple #[.agg #[.int .i64 0, .int .i64 0, .slice none 0 0], .int .i64 2]) (by simp [results, Try.results10, go_sem, V0.out, V1.out, V2.out]) rfl ⟨noG 2, .inl ⟨HX.out, rfl⟩, _, rfl, ownG9_none _ _, HB.out⟩
  have HP := Lib.hid hp
  cases hv : (decide (1 ≤ n) && decide (n ≤ 3))
  · have HX := Lib.hid (show okL p n L = false by simp only [okL, hv]; simp)
    have HV := Lib.hid hv
    clear hp hv
    go_enter Try.func10, Try.ntmps10
    go_wp2_with fail
    rw [← hW]
    clear hW
    ((with_reducible refine (eprime_is p _ true HP.out).mono ?_); rintro e w1 ⟨rfl, rfl⟩)
    go_wp2_with fail
    ((with_reducible refine (ein_is n 1 3 _ false HV.out).mono ?_); rintro e w2 ⟨rfl, rfl⟩)
    obtain ⟨r0, r1, r2⟩ := gcells rR
    have z0 := rR.frozen 0
    have z1 := rR.frozen 1
    have z2 := rR.frozen 2
    have R := ((rR.set 0 (.int .i64 0)).set 1 (.int .i64 0)).set 2 (.slice none 0 0)
    have V0 := Lib.hid (R.cell (i := 0) (by omega))
    have V1 := Lib.hid (R.cell (i := 1) (by omega))
    have V2 := Lib.hid (R.cell (i := 2) (by omega))
    have HB := Lib.hid (((hbW.setCell (p := ⟨w.heap.size, 0, none⟩) (by simp) (.int .i64 0)).setCell (p := ⟨w.heap.size, 1, none⟩) (by simp) (.int .i64 0)).setCell (p := ⟨w.heap.size, 2, none⟩) (by simp) (.slice none 0 0))
    clear R
    go_wp2_with fail
    exact bodyPost_ret (v := .tuple #[.agg #[.int .i64 0, .int .i64 0, .slice none 0 0], .int .i64 2]) (by simp [results, Try.results10, go_sem, V0.out, V1.out, V2.out]) rfl ⟨noG 2, .inl ⟨HX.out, rfl⟩, _, rfl, ownG9_none _ _, HB.out⟩
  have HV := Lib.hid hv
  have HOK := Lib.hid (show okL p n L = L.all (isMat p n) by simp only [okL, hp, hv]; simp)
  clear hp hv
  go_enter Try.func10, Try.ntmps10
  go_wp2_with fail
  rw [← hW]
  clear hW
  ((with_reducible refine (eprime_is p _ true HP.out).mono ?_); rintro e w1 ⟨rfl, rfl⟩)
  go_wp2_with fail
  ((with_reducible refine (ein_is n 1 3 _ true HV.out).mono ?_); rintro e w2 ⟨rfl, rfl⟩)
  go_wp2_with fail
  go_loopw [8] (fun i wr => ∃ (k : Nat), k ≤ L.length ∧ i = .int .i64 k ∧ Hid (∀ (j : Nat) (hj : j < L.length), j < k → isMat p n L[j] = true) ∧ Below w.heap.size w wr ∧ wr.rowIs w.heap.size 26 3 (grpF 0 0 (.slice none 0 0))) (fun i _ => L.length - (intOf i).toNat)
  case atStart => exact ⟨0, by omega, rfl, Lib.hid (fun j _ h => by omega), hbW, rR⟩
  case round =>
    obtain ⟨k, hk, rfl, HA, hbel, rRr⟩ := hrel
    by_cases hlt : k < L.length
    · have hlt' : (k : Int) < (L.length : Int) := by omega
      obtain ⟨b, off, rfl, hbb, hT⟩ : ∃ b off, a = some ⟨b, off, none⟩ ∧ b < w.heap.size ∧ MatsW w b off L := by
        rcases hSc with rfl | h
        · simp at hlt
        · exact h
      obtain ⟨⟨a0, a1, a2⟩, ⟨a3, a4, a5⟩, a6, a7, a8⟩ := (hT.below hbel hbb).nine hlt
      obtain ⟨B, hB⟩ : ∃ B, isMat p n L[k] = B := ⟨_, rfl⟩
      have HM := Lib.hid (smat_is p n L[k] wr (HBY.out _ (List.getElem_mem hlt)) B hB)
      have HBB := Lib.hid hB
      have HNO : Hid (B = false → okL p n L = false) := Lib.hid (fun h => by
        rw [HOK.out, List.all_eq_false]
        exact ⟨L[k], List.getElem_mem hlt, by rw [HBB.out, h]; simp⟩)
      have HYES : Hid (B = true → ∀ (j : Nat) (hj : j < L.length), j < k + 1 → isMat p n L[j] = true) := Lib.hid (fun h j hj hjk => by
        by_cases e : j = k
        · subst e; rw [HBB.out, h]
        · exact HA.out j hj (by omega))
      clear hB HBB
      generalize L[k] = x at *
      go_wp2_with fail
      ((with_reducible refine HM.out.mono ?_); rintro e w3 ⟨rfl, hb3⟩)
      have r3 := erow_below rRr hb3 rRr.lt
      have hbel3 := hbel.trans (hb3.mono hbel.size)
      clear a0 a1 a2 a3 a4 a5 a6 a7 a8 HM
      cases B
      · have HX := Lib.hid (HNO.out rfl)
        obtain ⟨r0, r1, r2⟩ := gcells r3
        have z0 := r3.frozen 0
        have z1 := r3.frozen 1
        have z2 := r3.frozen 2
        have R := ((r3.set 0 (.int .i64 0)).set 1 (.int .i64 0)).set 2 (.slice none 0 0)
        have V0 := Lib.hid (R.cell (i := 0) (by omega))
        have V1 := Lib.hid (R.cell (i := 1) (by omega))
        have V2 := Lib.hid (R.cell (i := 2) (by omega))
        have HB := Lib.hid (((hbel3.setCell (p := ⟨w.heap.size, 0, none⟩) (by simp) (.int .i64 0)).setCell (p := ⟨w.heap.size, 1, none⟩) (by simp) (.int .i64 0)).setCell (p := ⟨w.heap.size, 2, none⟩) (by simp) (.slice none 0 0))
        clear R
        go_wp2_with fail
        exact bodyPost_ret (v := .tuple #[.agg #[.int .i64 0, .int .i64 0, .slice none 0 0], .int .i64 2]) (by simp [results, Try.results10, go_sem, V0.out, V1.out, V2.out]) rfl ⟨noG 2, .inl ⟨HX.out, rfl⟩, _, rfl, ownG9_none _ _, HB.out⟩
      · have HN := Lib.hid (HYES.out rfl)
        go_wp2_with fail
        go_roundw
        case rel => exact ⟨k + 1, by omega, by go_num, HN, hbel3, r3⟩
        case measure => simp [intOf]; omega
    · obtain rfl : k = L.length := by omega
      have hall : ∀ x ∈ L, isMat p n x = true := fun x hx => by
        obtain ⟨j, hj, rfl⟩ := List.getElem_of_mem hx
        exact HA.out j hj hj
      have HX := Lib.hid (show okL p n L = true by rw [HOK.out, List.all_eq_true]; exact hall)
      obtain ⟨m, rfl, n1, n3⟩ : ∃ m : Nat, n = (m : Int) ∧ 1 ≤ m ∧ m ≤ 3 := by
        have := HV.out
        simp only [Bool.and_eq_true, decide_eq_true_eq] at this
        obtain ⟨m, rfl⟩ := Int.eq_ofNat_of_zero_le (show 0 ≤ n by omega)
        exact ⟨m, rfl, by omega, by omega⟩
      obtain ⟨p2, p13⟩ := pB_le HP.out
      have HSO := Lib.hid (sof p m _ L wr p2 p13 n1 n3 hl (fun g hg => by
        obtain ⟨m', hm', hv⟩ := matV_of (HBY.out g hg) (hall g hg)
        obtain rfl : m = m' := by omega
        exact ⟨hv.bound, hv.out⟩) (hS.below hbel))
      clear hall HA HOK
      go_wp2_with fail
      ((with_reducible refine HSO.out.mono ?_); rintro e w4 ⟨⟨v4, O, rfl, hC, ho4⟩ | ⟨rfl, hO⟩, hb4⟩)
      · have HC := Lib.hid hC
        clear hC
        have r4 := erow_below rRr hb4 rRr.lt
        have hbel4 := hbel.trans (hb4.mono hbel.size)
        obtain ⟨va, vc, rfl⟩ := OwnG9.shape ho4
        obtain ⟨X, hX, hbX, rX, hXs⟩ : ∃ X, X = w4.alloc (.cells #[.int .i64 p, .int .i64 (m : Int), .slice va (sortM O).length vc] 26) ∧ Below w4.heap.size w4 X ∧ X.rowIs w4.heap.size 26 3 (grpF p m (.slice va (sortM O).length vc)) ∧ w4.heap.size ≤ X.heap.size := ⟨_, rfl, ebox1 _ _, gbox w4 p m _ _, by simp⟩
        have rX4 := erow_below r4 hbX r4.lt
        have hbelX := hbel4.trans (hbX.mono hbel4.size)
        have hoX := ho4.below hbX
        obtain ⟨S, hSo⟩ : ∃ S, sortM O = S := ⟨_, rfl⟩
        have HGR := Lib.hid (show GrpRes p m L ⟨p, m, S, 0⟩ from .inr (.inr ⟨HX.out, O, HC.out, by rw [hSo]⟩))
        rw [hSo] at hX rX hoX
        have HSO' := Lib.hid hSo
        rw [hSo]
        clear hSo
        have qo := fun o => gcells (erow_below r4 (ebox1 w4 o) r4.lt)
        have f0 := fun o => (erow_below r4 (ebox1 w4 o) r4.lt).frozen 0
        have f1 := fun o => (erow_below r4 (ebox1 w4 o) r4.lt).frozen 1
        have f2 := fun o => (erow_below r4 (ebox1 w4 o) r4.lt).frozen 2
        go_wp2_with fail
        rw [← hX]
        have R := ((rX4.set 0 (.int .i64 p)).set 1 (.int .i64 m)).set 2 (.slice va S.length vc)
        have V0 := R.cell (i := 0) (by omega)
        have V1 := R.cell (i := 1) (by omega)
        have V2 := R.cell (i := 2) (by omega)
        have HB := ((hbelX.setCell (p := ⟨w.heap.size, 0, none⟩) (by simp) (.int .i64 p)).setCell (p := ⟨w.heap.size, 1, none⟩) (by simp) (.int .i64 m)).setCell (p := ⟨w.heap.size, 2, none⟩) (by simp) (.slice va S.length vc)
        have hne : (Value.slice va S.length vc).ownBlock ≠ some w.heap.size := fun e => by
          have := (World.ownsRow.lt hoX _ e).1
          have := rRr.lt
          omega
        have HSL := OwnG9.mono (mown_set (mown_set (mown_set hoX w.heap.size 0 (.int .i64 p) hne) w.heap.size 1 (.int .i64 m) hne) w.heap.size 2 (.slice va S.length vc) hne) hbel.size
        exact bodyPost_ret (v := .tuple #[.agg #[.int .i64 p, .int .i64 m, .slice va S.length vc], .int .i64 0]) (by simp [results, Try.results10, go_sem, V0, V1, V2]) rfl ⟨_, HGR.out, _, rfl, HSL, HB⟩
      · have HC := Lib.hid hO
        clear hO
        have r4 := erow_below rRr hb4 rRr.lt
        have hbel4 := hbel.trans (hb4.mono hbel.size)
        obtain ⟨X, hX, hbX⟩ : ∃ X, X = w4.alloc (.cells #[.int .i64 0, .int .i64 0, .slice none 0 0] 26) ∧ Below w4.heap.size w4 X := ⟨_, rfl, ebox1 _ _⟩
        have rX4 := erow_below r4 hbX r4.lt
        have hbelX := hbel4.trans (hbX.mono hbel4.size)
        have HGR := Lib.hid (show GrpRes p m L (noG 3) from .inr (.inl ⟨HX.out, HC.out, rfl⟩))
        have qo := fun o => gcells (erow_below r4 (ebox1 w4 o) r4.lt)
        have f0 := fun o => (erow_below r4 (ebox1 w4 o) r4.lt).frozen 0
        have f1 := fun o => (erow_below r4 (ebox1 w4 o) r4.lt).frozen 1
        have f2 := fun o => (erow_below r4 (ebox1 w4 o) r4.lt).frozen 2
        go_wp2_with fail
        rw [← hX]
        have R := ((rX4.set 0 (.int .i64 0)).set 1 (.int .i64 0)).set 2 (.slice none 0 0)
        have V0 := R.cell (i := 0) (by omega)
        have V1 := R.cell (i := 1) (by omega)
        have V2 := R.cell (i := 2) (by omega)
        have HB := ((hbelX.setCell (p := ⟨w.heap.size, 0, none⟩) (by simp) (.int .i64 0)).setCell (p := ⟨w.heap.size, 1, none⟩) (by simp) (.int .i64 0)).setCell (p := ⟨w.heap.size, 2, none⟩) (by simp) (.slice none 0 0)
        exact bodyPost_ret (v := .tuple #[.agg #[.int .i64 0, .int .i64 0, .slice none 0 0], .int .i64 3]) (by simp [results, Try.results10, go_sem, V0, V1, V2]) rfl ⟨noG 3, HGR.out, _, rfl, ownG9_none _ _, HB⟩
end Go.Proofs.Ytpbdbgajohacoaa
