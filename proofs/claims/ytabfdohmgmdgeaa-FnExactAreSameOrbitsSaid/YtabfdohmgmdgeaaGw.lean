/-
  GROUPS: the numbers of the matrices of a list, in a map, by the program. Conditions: as each theorem states.
  GROUPS: whether a list of matrices holds all products and the unit, by the program. Conditions: as each theorem states.
  GROUPS: whether something is a group, by the program. Conditions: the numbers of the matrices are bytes.
-/
import Derived.Test.YtabfdohmgmdgeaaGx
import Derived.Test.YtabfdohmgmdgeaaGy
import Derived.Test.YtabfdohmgmdgeaaMv
import Derived.Maps.OwnSet
namespace Go.Proofs.Ytabfdohmgmdgeaa
open Go.RowKit Go.Sort Go.Maps EchM

abbrev MapM (w : World) (b n : Nat) (D : DataW Unit) : Prop := w.ownsMap Try.prog 56 (plainElem Try.prog 2) b n D
theorem MapM.isMap {w : World} {b n : Nat} {D : DataW Unit} (h : MapM w b n D) : IsMap D := by
  obtain ⟨es, hD, _⟩ := h.entries lawM
  exact ⟨es, hD⟩
theorem eqM_iff {a b : Nat → Nat → Int} : eqM a b = true ↔ ∀ i j, i < 3 → j < 3 → a i j = b i j := by
  unfold eqM
  simp only [Bool.and_eq_true, beq_iff_eq]
  constructor
  · rintro ⟨⟨a0, a1, a2⟩, ⟨a3, a4, a5⟩, a6, a7, a8⟩ i j hi hj
    have hi' : i = 0 ∨ i = 1 ∨ i = 2 := by omega
    have hj' : j = 0 ∨ j = 1 ∨ j = 2 := by omega
    rcases hi' with rfl | rfl | rfl <;> rcases hj' with rfl | rfl | rfl <;> assumption
  · intro h
    exact ⟨⟨h 0 0 (by omega) (by omega), h 0 1 (by omega) (by omega), h 0 2 (by omega) (by omega)⟩, ⟨h 1 0 (by omega) (by omega), h 1 1 (by omega) (by omega), h 1 2 (by omega) (by omega)⟩, h 2 0 (by omega) (by omega), h 2 1 (by omega) (by omega), h 2 2 (by omega) (by omega)⟩
theorem Byt.byteM {g : Nat → Nat → Int} (h : Byt g) : byteM g := fun i j hi hj => h i hi j hj
/-- The last number of a matrix in a list's first k; -1 if it is not there. -/
def lastA (g : Nat → Nat → Int) (L : List (Nat → Nat → Int)) : Nat → Int
  | 0 => -1
  | k + 1 => match L[k]? with | some x => if eqM x g then (k : Int) else lastA g L k | none => -1
theorem lastA_step {g : Nat → Nat → Int} {L : List (Nat → Nat → Int)} {k : Nat} (h : k < L.length) : lastA g L (k + 1) = if eqM L[k] g then (k : Int) else lastA g L k := by
  rw [lastA, List.getElem?_eq_getElem h]
theorem lastA_bounds {g : Nat → Nat → Int} {L : List (Nat → Nat → Int)} : ∀ k, -1 ≤ lastA g L k ∧ lastA g L k < k := by
  intro k
  induction k with
  | zero => simp [lastA]
  | succ k ih =>
    rw [lastA]
    split
    · split <;> omega
    · omega
/-- What the map says of a list's first k. -/
def NumD (D : DataW Unit) (L : List (Nat → Nat → Int)) (k : Nat) : Prop :=
  ∀ g, byteM g → Maps.has D (kM g) = decide (0 ≤ lastA g L k) ∧ (0 ≤ lastA g L k → ∀ z, D.atKey (kM g) z = .lit (.int .i64 (lastA g L k)))
theorem NumD.start (L : List (Nat → Nat → Int)) : NumD (.map []) L 0 := fun g _ => ⟨by simp [Maps.has, lastA], fun h => by simp [lastA] at h⟩
theorem NumD.step {D : DataW Unit} {L : List (Nat → Nat → Int)} {k : Nat} (hD : IsMap D) (h : NumD D L k) (hk : k < L.length) (hb : byteM L[k]) : NumD (D.put (kM L[k]) (.lit (.int .i64 k))) L (k + 1) := by
  intro g hg
  rw [lastA_step hk]
  by_cases e : eqM L[k] g = true
  · rw [if_pos e, kM_congr (g := g) (h := L[k]) (fun i j hi hj => (eqM_iff.1 e i j hi hj).symm)]
    exact ⟨by rw [has_put_same hD (kM_key _)]; simp, fun _ z => atKey_put_same hD (kM_key _) _ _⟩
  · have hne : kM g ≠ kM L[k] := fun q => e (eqM_iff.2 fun i j hi hj => (kM_inj hg hb q i j hi hj).symm)
    rw [if_neg e, has_put_other hne]
    exact ⟨(h g hg).1, fun h0 z => by rw [atKey_put_other hne]; exact (h g hg).2 h0 z⟩
theorem rowM_not_map {w : World} {a b n m : Nat} {t : TypeId} {f : Nat → Value} {D : DataW Unit} (h : w.rowIs a t n f) (h' : MapM w b m D) : a ≠ b := by
  intro e
  subst e
  obtain ⟨c, hc, _⟩ := h
  obtain ⟨es, clock, hb, _⟩ := h'
  rw [hc] at hb
  simp at hb
theorem wf64M {n : Int} (h : 0 ≤ n) (h2 : n ≤ 9223372036854775807) : (Lit.int .i64 n).wf = true := by
  simp [Lit.wf, IntKind.min, IntKind.max, IntKind.bits, IntKind.signed]; omega

set_option maxRecDepth 8000 in
set_option maxHeartbeats 8000000 in
theorem inumbers (p n : Int) (v : Value) (L : List (Nat → Nat → Int)) (w : World) (hl : L.length ≤ 1048576) (hS : SlM w v L) (hby : ∀ x ∈ L, Byt x) :
    Calls Try.prog 55 #[.agg #[.int .i64 p, .int .i64 n, v]] w fun e w' =>
      ∃ b D, e = .returned (.map (some b)) ∧ w.heap.size ≤ b ∧ MapM w' b L.length D ∧ NumD D L L.length ∧ Below w.heap.size w w' := by
  have hmm := @run_makeMap Try.prog
  obtain ⟨W, hW, rW, hbW, hWs⟩ : ∃ W, W = w.alloc (.cells #[.int .i64 p, .int .i64 n, v] 31) ∧ W.rowIs w.heap.size 31 3 (grpF p n v) ∧ Below w.heap.size w W ∧ w.heap.size < W.heap.size := ⟨_, rfl, gbox w p n v _, ebox1 _ _, by simp⟩
  obtain ⟨V, hV, hMV, rV, hbV⟩ : ∃ V, V = W.alloc (.map #[] 0) ∧ MapM V W.heap.size 0 (.map []) ∧ V.rowIs w.heap.size 31 3 (grpF p n v) ∧ Below w.heap.size w V := ⟨_, rfl, World.ownsMap_made (H := Unit) W Try.prog 56 (plainElem Try.prog 2), rW.alloc _, hbW.alloc (Nat.le_of_lt hWs) _⟩
  have hSV := hS.below hbV
  obtain ⟨a, cap, rfl, hSc⟩ := id hS
  obtain ⟨g0, g1, g2⟩ := gcells rV
  have HBY := Lib.hid hby
  have hW0 := hW
  have hVs : W.heap.size < V.heap.size := by subst hV; simp
  clear hby
  go_enter Try.func55, Try.ntmps55
  go_wp2_with fail
  rw [← hW]
  go_wp2_with fail
  rw [← hV]
  clear hW hmm
  have hWz : W.heap.size = w.heap.size + 1 := by rw [hW0]; simp
  rw [hWz] at hMV hVs
  go_wp2_with fail
  go_loopw [10] (fun i wr => ∃ (k : Nat) (D : DataW Unit), k ≤ L.length ∧ i = .int .i64 k ∧ Hid (NumD D L k) ∧ MapM wr (w.heap.size + 1) k D ∧ V.grownBy wr (some (w.heap.size + 1))) (fun i _ => L.length - (intOf i).toNat)
  case atStart => exact ⟨0, _, by omega, rfl, Lib.hid (NumD.start L), hMV, ⟨rfl, rfl, rfl, Nat.le_refl _, fun _ _ _ => rfl⟩⟩
  case round =>
    obtain ⟨k, D1, hk, rfl, HD, hM1, hgr⟩ := hrel
    by_cases hlt : k < L.length
    · have hlt' : (k : Int) < (L.length : Int) := by omega
      obtain ⟨B, off, rfl, hbb, hT⟩ : ∃ b off, a = some ⟨b, off, none⟩ ∧ b < w.heap.size ∧ MatsW w b off L := by
        rcases hSc with rfl | h
        · simp at hlt
        · exact h
      have hne : B ≠ w.heap.size + 1 := by omega
      have hTr : MatsW wr B off L := fun q hq i j hi hj => (World.cell?_of_block (w := V) (a := ⟨B, _, none⟩) (hgr.block B (by omega) (by simpa using hne))).trans ((hT.below hbV hbb) q hq i j hi hj)
      obtain ⟨⟨a0, a1, a2⟩, ⟨a3, a4, a5⟩, a6, a7, a8⟩ := hTr.nine hlt
      have hbx := (HBY.out L[k] (List.getElem_mem _)).byteM
      have HN := Lib.hid (HD.out.step hM1.isMap hlt hbx)
      have hkey := keyOf_mv L[k] hbx
      unfold mv at hkey
      generalize L[k] = x at *
      have hM2 : MapM (wr.alloc (.cells #[.int .u8 (x 0 0), .int .u8 (x 0 1), .int .u8 (x 0 2), .int .u8 (x 1 0), .int .u8 (x 1 1), .int .u8 (x 1 2), .int .u8 (x 2 0), .int .u8 (x 2 1), .int .u8 (x 2 2)] 56)) (w.heap.size + 1) k D1 := hM1.alloc _
      clear HD hTr hT hSc hS hSV HBY g0 g1 g2 hV hW0
      go_wp2_with (at_mapUpdate; refine wpList_mapUpdate_own _ rfl _ _ _ 82 rfl 56 2 lawM Try.underlying82 (plainElem Try.prog 2) (w.heap.size + 1) k D1 rfl hM2 (by unfold maxLen; omega) (.agg #[.int .u8 (x 0 0), .int .u8 (x 0 1), .int .u8 (x 0 2), .int .u8 (x 1 0), .int .u8 (x 1 1), .int .u8 (x 1 2), .int .u8 (x 2 0), .int .u8 (x 2 1), .int .u8 (x 2 2)]) _ _ rfl rfl hkey _ [] (plainElem_int Try.underlying2 (wf64M (by omega) (by omega))) ?_; intro w2 hown2 hgrow2)
      go_roundw
      case rel =>
        exact ⟨k + 1, _, by omega, by go_num, HN, hown2, ⟨hgrow2.os.trans hgr.os, hgrow2.tape.trans hgr.tape, hgrow2.output.trans hgr.output, Nat.le_trans hgr.size (Nat.le_trans (by simp) hgrow2.size), fun q hq hn => (hgrow2.block q (Nat.lt_of_lt_of_le hq (Nat.le_trans hgr.size (by simp))) hn).trans (((World.grownBy_alloc wr _ (some (w.heap.size + 1))).block q (Nat.lt_of_lt_of_le hq hgr.size) hn).trans (hgr.block q hq hn))⟩⟩
      case measure => simp [intOf]; omega
    · obtain rfl : k = L.length := by omega
      have hD := HD.out
      have hBB : Below w.heap.size w wr := hbV.grown hgr (by omega) (fun q hq => by simp at hq; omega)
      clear HD
      go_wp2_with fail
      go_ret
      exact ⟨_, _, rfl, by omega, hM1, hD, hBB⟩
end Go.Proofs.Ytabfdohmgmdgeaa
namespace Go.Proofs.Ytabfdohmgmdgeaa
open Go.RowKit Go.Sort Go.Maps EchM

theorem zero64M (w : World) : (zeroValue 2).run Try.prog w = .ok (.int .i64 0) w := by kernel_rfl
theorem findA_in (g : Nat → Nat → Int) : ∀ (L : List (Nat → Nat → Int)) (k : Nat), 0 ≤ findA g L k ↔ ∃ x ∈ L, eqM x g = true := by
  intro L
  induction L with
  | nil => intro k; simp [findA]
  | cons y L ih =>
    intro k
    rw [findA]
    by_cases e : eqM y g = true
    · rw [if_pos e]; simp [e]
    · rw [if_neg e, ih]; simp [e]
theorem lastA_in (g : Nat → Nat → Int) (L : List (Nat → Nat → Int)) : ∀ k, k ≤ L.length → (0 ≤ lastA g L k ↔ ∃ x ∈ L.take k, eqM x g = true) := by
  intro k
  induction k with
  | zero => intro _; simp [lastA]
  | succ k ih =>
    intro hk
    rw [lastA_step (by omega), ← List.take_append_getElem (by omega : k < L.length)]
    by_cases e : eqM L[k] g = true
    · rw [if_pos e]; exact ⟨fun _ => ⟨L[k], List.mem_append_right _ (List.mem_singleton.2 rfl), e⟩, fun _ => by omega⟩
    · rw [if_neg e, ih (by omega)]
      exact ⟨fun ⟨x, hx, q⟩ => ⟨x, List.mem_append_left _ hx, q⟩, fun ⟨x, hx, q⟩ => (List.mem_append.1 hx).elim (fun h => ⟨x, h, q⟩) (fun h => by rw [List.mem_singleton.1 h] at q; exact absurd q e)⟩
theorem last_find (g : Nat → Nat → Int) (L : List (Nat → Nat → Int)) : decide (0 ≤ lastA g L L.length) = decide (0 ≤ findM L g) := by
  apply decide_eq_decide.2
  unfold findM
  rw [lastA_in g L _ (Nat.le_refl _), findA_in, List.take_length]
theorem mapM_look {w : World} {b n : Nat} {D : DataW Unit} {L : List (Nat → Nat → Int)} (h : MapM w b n D) (hn : NumD D L L.length) {g : Nat → Nat → Int} (hg : byteM g) {B : Bool} (hB : decide (0 ≤ findM L g) = B) :
    ∃ c, (Instr.lookup 82 (.map (some b)) (.agg #[.int .u8 (g 0 0), .int .u8 (g 0 1), .int .u8 (g 0 2), .int .u8 (g 1 0), .int .u8 (g 1 1), .int .u8 (g 1 2), .int .u8 (g 2 0), .int .u8 (g 2 1), .int .u8 (g 2 2)]) true).run Try.prog w = .ok (.tuple #[.int .i64 c, .bool B]) w := by
  obtain ⟨v, ps, hrun, hv⟩ := h.look_ok lawM Try.underlying82 (zero64M w) (plainElem_int Try.underlying2 (wf64M (n := 0) (by omega) (by omega))) (keyOf_mv g hg)
  obtain ⟨c, rfl, _, _⟩ := plainElem_int_inv Try.underlying2 hv
  rw [(hn g hg).1, last_find, hB] at hrun
  exact ⟨c, hrun⟩
theorem MatV.byteM {p : Int} {m : Nat} {g : Nat → Nat → Int} (h : MatV p m g) : byteM g := fun i j hi hj => by
  have := h.bound i hi j hj
  have := h.h13
  omega
theorem uM_byte (m : Nat) : byteM (uM m) := fun i j _ _ => by unfold uM; split <;> omega
theorem prodM_byte {p : Int} (h2 : 2 ≤ p) (h13 : p ≤ 13) (g h : Nat → Nat → Int) : byteM (prodM p g h) := fun i j _ _ => by
  have h0 := Int.emod_nonneg (psum g h i j 3) (show p ≠ 0 by omega)
  have h1 := Int.emod_lt_of_pos (psum g h i j 3) (show 0 < p by omega)
  have e : prodM p g h i j = (psum g h i j 3) % p := rfl
  omega
theorem MapM.later {w w' : World} {b n : Nat} {D : DataW Unit} (h : MapM w b n D) (hb : Below w.heap.size w w') : MapM w' b n D :=
  h.kept (row := none) ⟨hb.os, hb.tape, hb.output, hb.size, fun k hk _ => hb.block k hk⟩ (by simp)

set_option maxRecDepth 8000 in
set_option maxHeartbeats 16000000 in
theorem iclosed (p : Int) (m : Nat) (v : Value) (L : List (Nat → Nat → Int)) (w : World) (hl : L.length ≤ 1048576) (hS : SlM w v L) (hV : ∀ x ∈ L, MatV p m x) (m1 : 1 ≤ m) (m3 : m ≤ 3) :
    Calls Try.prog 46 #[.agg #[.int .i64 p, .int .i64 (m : Int), v]] w fun e w' => e = .returned (.bool (decide (0 ≤ findM L (uM m)) && closedG p L)) ∧ Below w.heap.size w w' := by
  obtain ⟨W, hW, rW, hbW, hWs⟩ : ∃ W, W = w.alloc (.cells #[.int .i64 p, .int .i64 (m : Int), v] 31) ∧ W.rowIs w.heap.size 31 3 (grpF p m v) ∧ Below w.heap.size w W ∧ w.heap.size < W.heap.size := ⟨_, rfl, gbox w p m v _, ebox1 _ _, by simp⟩
  have hSW := hS.below hbW
  obtain ⟨a, cap, rfl, hSc⟩ := id hS
  obtain ⟨g0, g1, g2⟩ := gcells rW
  have HV := Lib.hid hV
  have HBY := Lib.hid (fun x hx => (show Byt x from fun i hi j hj => (hV x hx).byteM i j hi hj))
  obtain ⟨u, hu⟩ : ∃ u, uM m = u := ⟨_, rfl⟩
  have hub : byteM u := hu ▸ uM_byte m
  have HU := Lib.hid hu
  rw [hu]
  clear hV hu
  obtain ⟨B, hB⟩ : ∃ B, decide (0 ≤ findM L u) = B := ⟨_, rfl⟩
  rw [hB]
  cases B
  · have HB := Lib.hid hB
    clear hB
    go_enter Try.func46, Try.ntmps46
    go_wp2_with fail
    rw [← hW]
    clear hW
    go_wp2_with fail
    ((with_reducible refine (inumbers p m _ L _ hl hSW HBY.out).mono ?_); rintro e w1 ⟨b, D, rfl, hbb, hM1, hN, hb1⟩)
    have HN := Lib.hid hN
    have rW1 := erow_below rW hb1 rW.lt
    obtain ⟨g0', g1', g2'⟩ := gcells rW1
    clear hN g0 g1 g2
    go_wp2_with fail
    ((with_reducible refine (iunit m u _ m1 m3 HU.out).mono ?_); rintro e w2 ⟨rfl, hb2⟩)
    have hM2 := hM1.later hb2
    have rW2 := erow_below rW1 hb2 rW1.lt
    obtain ⟨k0, k1, k2⟩ := gcells rW2
    have hbW2 := (hbW.trans (hb1.mono hbW.size)).trans (hb2.mono (hbW.trans (hb1.mono hbW.size)).size)
    obtain ⟨c, hrun⟩ := mapM_look hM2 HN.out hub HB.out
    clear g0' g1' g2'
    go_wp2_with fail
    go_ret
    exact ⟨rfl, hbW2⟩
  · have HB := Lib.hid hB
    clear hB
    go_enter Try.func46, Try.ntmps46
    go_wp2_with fail
    rw [← hW]
    clear hW
    go_wp2_with fail
    ((with_reducible refine (inumbers p m _ L _ hl hSW HBY.out).mono ?_); rintro e w1 ⟨b, D, rfl, hbb, hM1, hN, hb1⟩)
    have HN := Lib.hid hN
    have rW1 := erow_below rW hb1 rW.lt
    obtain ⟨g0', g1', g2'⟩ := gcells rW1
    clear hN g0 g1 g2
    go_wp2_with fail
    ((with_reducible refine (iunit m u _ m1 m3 HU.out).mono ?_); rintro e w2 ⟨rfl, hb2⟩)
    have hM2 := hM1.later hb2
    have rW2 := erow_below rW1 hb2 rW1.lt
    obtain ⟨k0, k1, k2⟩ := gcells rW2
    have hbW2 := (hbW.trans (hb1.mono hbW.size)).trans (hb2.mono (hbW.trans (hb1.mono hbW.size)).size)
    obtain ⟨c, hrun⟩ := mapM_look hM2 HN.out hub HB.out
    clear g0' g1' g2'
    go_wp2_with fail
    clear hrun
    go_loopw [27] (fun i wr => ∃ (k : Nat), k ≤ L.length ∧ i = .int .i64 k ∧ Hid (∀ (i : Nat) (hi : i < L.length), i < k → ∀ (j : Nat) (hj : j < L.length), 0 ≤ findM L (prodM p L[i] L[j])) ∧ Below w2.heap.size w2 wr) (fun i _ => L.length - (intOf i).toNat)
    case atStart => exact ⟨0, by omega, rfl, Lib.hid (fun i hi h => absurd h (by omega)), Below.refl _ _⟩
    case round =>
      obtain ⟨k, hk, rfl, HK, hb⟩ := hrel
      obtain ⟨wo, hwo⟩ : ∃ wo, wo = wr := ⟨_, rfl⟩
      subst hwo
      by_cases hlt : k < L.length
      · have hlt' : (k : Int) < (L.length : Int) := by omega
        obtain ⟨b0, off, rfl, hbb0, hT⟩ : ∃ b off, a = some ⟨b, off, none⟩ ∧ b < w.heap.size ∧ MatsW w b off L := by
          rcases hSc with rfl | h
          · simp at hlt
          · exact h
        have hT2 := hT.below hbW2 hbb0
        have hb02 : b0 < w2.heap.size := Nat.lt_of_lt_of_le hbb0 hbW2.size
        have hTo := hT2.below hb hb02
        have rG := erow_below rW2 hb rW2.lt
        have hMo := hM2.later hb
        obtain ⟨⟨a0, a1, a2⟩, ⟨a3, a4, a5⟩, a6, a7, a8⟩ := hTo.nine hlt
        obtain ⟨q0, q1, q2⟩ := gcells rG
        have HVx := Lib.hid (HV.out L[k] (List.getElem_mem _))
        have HKx := Lib.hid (⟨hlt, rfl⟩ : ∃ h : k < L.length, L[k] = L[k])
        obtain ⟨x, hx⟩ : ∃ x, L[k] = x := ⟨_, rfl⟩
        rw [hx] at HVx a0 a1 a2 a3 a4 a5 a6 a7 a8
        have HX := Lib.hid hx
        clear hx HKx k0 k1 k2
        obtain ⟨wx, hwx, rX, rGx, hbx⟩ : ∃ wx, wx = wo.alloc (.cells #[.int .u8 (x 0 0), .int .u8 (x 0 1), .int .u8 (x 0 2), .int .u8 (x 1 0), .int .u8 (x 1 1), .int .u8 (x 1 2), .int .u8 (x 2 0), .int .u8 (x 2 1), .int .u8 (x 2 2)] 56) ∧ wx.rowIs wo.heap.size 56 9 (mF x) ∧ wx.rowIs w.heap.size 31 3 (grpF p m (.slice (some ⟨b0, off, none⟩) L.length cap)) ∧ Below wo.heap.size wo wx := ⟨_, rfl, mbox wo x _, rG.alloc _, ebox1 _ _⟩
        have hMx := hMo.later hbx
        have hTx := hTo.below hbx (Nat.lt_of_lt_of_le hb02 hb.size)
        obtain ⟨p0, p1, p2⟩ := gcells rGx
        have p2' := p2
        rw [hwx] at p2'
        go_wp2_with fail
        rw [← hwx]
        clear hwx p2'
        have hbxx := hb.trans (hbx.mono hb.size)
        have hb0x : b0 < wx.heap.size := Nat.lt_of_lt_of_le hb02 hbxx.size
        go_loopw [34] (fun i wr => ∃ (j : Nat), j ≤ L.length ∧ i = .int .i64 j ∧ Hid (∀ (j' : Nat) (hj : j' < L.length), j' < j → 0 ≤ findM L (prodM p x L[j'])) ∧ Below wx.heap.size wx wr) (fun i _ => L.length - (intOf i).toNat)
        case atStart => exact ⟨0, by omega, rfl, Lib.hid (fun j' hj h => absurd h (by omega)), Below.refl _ _⟩
        case round =>
          obtain ⟨j, hj, rfl, HJ, hbj⟩ := hrel
          by_cases hjt : j < L.length
          · have hjt' : (j : Int) < (L.length : Int) := by omega
            have hTr := hTx.below hbj hb0x
            have rGr := erow_below rGx hbj rGx.lt
            have rXr := erow_below rX hbj rX.lt
            have hMr := hMx.later hbj
            clear a0 a1 a2 a3 a4 a5 a6 a7 a8 q0 q1 q2 p0 p1 p2
            obtain ⟨⟨a0, a1, a2⟩, ⟨a3, a4, a5⟩, a6, a7, a8⟩ := hTr.nine hjt
            have HVy := Lib.hid (HV.out L[j] (List.getElem_mem _))
            obtain ⟨y, hy⟩ : ∃ y, L[j] = y := ⟨_, rfl⟩
            rw [hy] at HVy a0 a1 a2 a3 a4 a5 a6 a7 a8
            have HYy := Lib.hid hy
            clear hy
            obtain ⟨⟨x0, x1, x2⟩, ⟨x3, x4, x5⟩, x6, x7, x8⟩ := mcells (rXr.alloc (.cells #[.int .u8 (y 0 0), .int .u8 (y 0 1), .int .u8 (y 0 2), .int .u8 (y 1 0), .int .u8 (y 1 1), .int .u8 (y 1 2), .int .u8 (y 2 0), .int .u8 (y 2 1), .int .u8 (y 2 2)] 56))
            obtain ⟨p0, p1, p2⟩ := gcells (rGr.alloc (.cells #[.int .u8 (y 0 0), .int .u8 (y 0 1), .int .u8 (y 0 2), .int .u8 (y 1 0), .int .u8 (y 1 1), .int .u8 (y 1 2), .int .u8 (y 2 0), .int .u8 (y 2 1), .int .u8 (y 2 2)] 56))
            have hMy := hMr.alloc (.cells #[.int .u8 (y 0 0), .int .u8 (y 0 1), .int .u8 (y 0 2), .int .u8 (y 1 0), .int .u8 (y 1 1), .int .u8 (y 1 2), .int .u8 (y 2 0), .int .u8 (y 2 1), .int .u8 (y 2 2)] 56)
            have hby := ebox1 wr (.cells #[.int .u8 (y 0 0), .int .u8 (y 0 1), .int .u8 (y 0 2), .int .u8 (y 1 0), .int .u8 (y 1 1), .int .u8 (y 1 2), .int .u8 (y 2 0), .int .u8 (y 2 1), .int .u8 (y 2 2)] 56)
            obtain ⟨r, hr⟩ : ∃ r, prodM p x y = r := ⟨_, rfl⟩
            have hrb : byteM r := hr ▸ prodM_byte HVx.out.h2 HVx.out.h13 x y
            have HR := Lib.hid hr
            clear hr
            go_wp2_with fail
            ((with_reducible refine (iprod_agg p m x y r _ HVx.out HVy.out HR.out).mono ?_); rintro e w3 ⟨rfl, hb3⟩)
            have hM3 := MapM.later hMy hb3
            have hb3' := hby.trans (hb3.mono hby.size)
            have hbj3 := hbj.trans (hb3'.mono hbj.size)
            clear x0 x1 x2 x3 x4 x5 x6 x7 x8 p0 p1 p2 a0 a1 a2 a3 a4 a5 a6 a7 a8
            cases hB2 : decide (0 ≤ findM L r)
            · have HB2 := Lib.hid hB2
              obtain ⟨c2, hrun2⟩ := mapM_look hM3 HN.out hrb HB2.out
              have HC := Lib.hid (show closedG p L = false from closed_no hlt hjt (by
                rw [HX.out, HYy.out, HR.out]
                have := of_decide_eq_false hB2
                omega))
              clear hB2
              go_wp2_with fail
              go_ret
              exact ⟨by rw [HC.out]; rfl, hbW2.trans ((hbxx.trans (hbj3.mono hbxx.size)).mono hbW2.size)⟩
            · have HB2 := Lib.hid hB2
              obtain ⟨c2, hrun2⟩ := mapM_look hM3 HN.out hrb HB2.out
              have HJ2 : Hid (∀ (j' : Nat) (hj : j' < L.length), j' < j + 1 → 0 ≤ findM L (prodM p x L[j'])) := Lib.hid (fun j' hj' h => by
                by_cases e : j' = j
                · subst e
                  rw [HYy.out, HR.out]
                  exact of_decide_eq_true hB2
                · exact HJ.out j' hj' (by omega))
              clear hB2
              go_wp2_with fail
              go_roundw
              case rel => exact ⟨j + 1, by omega, by go_num, HJ2, hbj3⟩
              case measure => simp [intOf]; omega
          · obtain rfl : j = L.length := by omega
            have HK2 : Hid (∀ (i : Nat) (hi : i < L.length), i < k + 1 → ∀ (j : Nat) (hj : j < L.length), 0 ≤ findM L (prodM p L[i] L[j])) := Lib.hid (fun i hi h j' hj' => by
              by_cases e : i = k
              · subst e
                rw [HX.out]
                exact HJ.out j' hj' hj'
              · exact HK.out i hi (by omega) j' hj')
            clear a0 a1 a2 a3 a4 a5 a6 a7 a8 q0 q1 q2 p0 p1 p2
            go_wp2_with fail
            go_roundw
            case rel => exact ⟨k + 1, by omega, by go_num, HK2, hbxx.trans (hbj.mono hbxx.size)⟩
            case measure => simp [intOf]; omega
      · obtain rfl : k = L.length := by omega
        have HX := Lib.hid (closed_yes (p := p) (L := L) (fun i hi j hj => HK.out i hi hi j hj))
        clear k0 k1 k2
        go_wp2_with fail
        go_ret
        exact ⟨by rw [HX.out]; rfl, hbW2.trans (hb.mono hbW2.size)⟩
end Go.Proofs.Ytabfdohmgmdgeaa
namespace Go.Proofs.Ytabfdohmgmdgeaa
open Go.RowKit Go.Sort Go.Maps EchM

theorem ismat_r (p n : Int) (g : Nat → Nat → Int) (W : World) (hg : Byt g) (B : Bool) (h : isMat p n g = B) : ∀ dd os,
    Calls Try.prog 44 #[.int .i64 p, .int .i64 n, (.agg #[.int .u8 (g 0 0), .int .u8 (g 0 1), .int .u8 (g 0 2), .int .u8 (g 1 0), .int .u8 (g 1 1), .int .u8 (g 1 2), .int .u8 (g 2 0), .int .u8 (g 2 1), .int .u8 (g 2 2)])] (grow (redrawn W dd) os) fun e w'' => e = .returned (.bool B) ∧ ∃ q : Regrown, w'' = grow (redrawn W q.d) q.os := fun _ _ => Calls.regrown_of (ismat_is p n g _ hg B h)
theorem icmp_r (g h : Nat → Nat → Int) (W : World) (R : Int) (hR : cmpM g h = R) : ∀ dd os,
    Calls Try.prog 45 #[(.agg #[.int .u8 (g 0 0), .int .u8 (g 0 1), .int .u8 (g 0 2), .int .u8 (g 1 0), .int .u8 (g 1 1), .int .u8 (g 1 2), .int .u8 (g 2 0), .int .u8 (g 2 1), .int .u8 (g 2 2)]), (.agg #[.int .u8 (h 0 0), .int .u8 (h 0 1), .int .u8 (h 0 2), .int .u8 (h 1 0), .int .u8 (h 1 1), .int .u8 (h 1 2), .int .u8 (h 2 0), .int .u8 (h 2 1), .int .u8 (h 2 2)])] (grow (redrawn W dd) os) fun e w'' => e = .returned (.int .i64 R) ∧ ∃ q : Regrown, w'' = grow (redrawn W q.d) q.os := fun _ _ => Calls.regrown_of (by subst hR; exact icompare g h _)
theorem isGrp_prog {p : Int} {m : Nat} {L : List (Nat → Nat → Int)} (hp : pB p = true) (hv : (decide (1 ≤ (m : Int)) && decide ((m : Int) ≤ 3)) = true) (hl : L.length ≤ 48) : isGrp p m L = (tailG p m L 0 && (decide (0 ≤ findM L (uM m)) && closedG p L)) := by
  unfold isGrp
  rw [hp, hv, show decide (L.length ≤ 48) = true from decide_eq_true hl]
  by_cases h : 1 ≤ L.length
  · rw [show decide (1 ≤ L.length) = true from decide_eq_true h, Bool.and_comm (closedG p L)]
    simp
  · have : L = [] := List.eq_nil_of_length_eq_zero (by omega)
    subst this
    simp [findM, findA]

set_option maxRecDepth 8000 in
set_option maxHeartbeats 16000000 in
theorem igroup (p n : Int) (v : Value) (L : List (Nat → Nat → Int)) (w : World) (hl : L.length ≤ 1048576) (hS : SlM w v L) (hby : ∀ x ∈ L, Byt x) :
    Calls Try.prog 30 #[.agg #[.int .i64 p, .int .i64 n, v]] w fun e w' => e = .returned (.bool (isGrp p n L)) ∧ Below w.heap.size w w' := by
  obtain ⟨W, hW, rW, hbW, hWs⟩ : ∃ W, W = w.alloc (.cells #[.int .i64 p, .int .i64 n, v] 31) ∧ W.rowIs w.heap.size 31 3 (grpF p n v) ∧ Below w.heap.size w W ∧ w.heap.size < W.heap.size := ⟨_, rfl, gbox w p n v _, ebox1 _ _, by simp⟩
  have hSW := hS.below hbW
  obtain ⟨a, cap, rfl, hSc⟩ := id hS
  obtain ⟨g0, g1, g2⟩ := gcells rW
  have HBY := Lib.hid hby
  clear hby
  cases hp : pB p
  · have HX := Lib.hid (show isGrp p n L = false by simp [isGrp, hp])
    have HP := Lib.hid hp
    clear hp
    go_enter Try.func30, Try.ntmps30
    go_wp2_with fail
    rw [← hW]
    clear hW
    ((with_reducible refine (iprime_is p _ false HP.out).mono ?_); rintro e w1 ⟨rfl, rfl⟩)
    go_wp2_with fail
    go_ret
    exact ⟨by rw [HX.out]; rfl, hbW⟩
  have HP := Lib.hid hp
  cases hv : (decide (1 ≤ n) && decide (n ≤ 3))
  · have HX := Lib.hid (show isGrp p n L = false by rw [isGrp, hv]; simp)
    have HV := Lib.hid hv
    clear hp hv
    go_enter Try.func30, Try.ntmps30
    go_wp2_with fail
    rw [← hW]
    clear hW
    ((with_reducible refine (iprime_is p _ true HP.out).mono ?_); rintro e w1 ⟨rfl, rfl⟩)
    go_wp2_with fail
    ((with_reducible refine (ivars_is n _ false HV.out).mono ?_); rintro e w2 ⟨rfl, rfl⟩)
    go_wp2_with fail
    go_ret
    exact ⟨by rw [HX.out]; rfl, hbW⟩
  have HV := Lib.hid hv
  by_cases hsz : ¬ L.length ≤ 48
  · have HX := Lib.hid (show isGrp p n L = false by
      unfold isGrp
      rw [show decide (L.length ≤ 48) = false from decide_eq_false hsz]; simp)
    have h2 : (48 : Int) < (L.length : Int) := by omega
    clear hp hv hsz
    go_enter Try.func30, Try.ntmps30
    go_wp2_with fail
    rw [← hW]
    clear hW
    ((with_reducible refine (iprime_is p _ true HP.out).mono ?_); rintro e w1 ⟨rfl, rfl⟩)
    go_wp2_with fail
    ((with_reducible refine (ivars_is n _ true HV.out).mono ?_); rintro e w2 ⟨rfl, rfl⟩)
    go_wp2_with fail
    go_ret
    exact ⟨by rw [HX.out]; rfl, hbW⟩
  have hsz2 : L.length ≤ 48 := by omega
  have hsz2' : ¬ (48 : Int) < (L.length : Int) := by omega
  obtain ⟨m, rfl, m1, m3⟩ : ∃ m : Nat, n = (m : Int) ∧ 1 ≤ m ∧ m ≤ 3 := by
    simp only [Bool.and_eq_true, decide_eq_true_eq] at hv
    obtain ⟨m, rfl⟩ := Int.eq_ofNat_of_zero_le (show 0 ≤ n by omega)
    exact ⟨m, rfl, by omega, by omega⟩
  have HY := Lib.hid (isGrp_prog hp hv hsz2)
  clear hp hv hsz
  go_enter Try.func30, Try.ntmps30
  go_wp2_with fail
  rw [← hW]
  clear hW
  ((with_reducible refine (iprime_is p _ true HP.out).mono ?_); rintro e w1 ⟨rfl, rfl⟩)
  go_wp2_with fail
  ((with_reducible refine (ivars_is m _ true HV.out).mono ?_); rintro e w2 ⟨rfl, rfl⟩)
  go_wp2_with fail
  clear g0 g1 g2
  go_loopw [24] (fun i wr => ∃ (k : Nat), k ≤ L.length ∧ i = .int .i64 k ∧ Hid (tailG p m L 0 = tailG p m L k) ∧ Below W.heap.size W wr) (fun i _ => L.length - (intOf i).toNat)
  case atStart => exact ⟨0, by omega, rfl, Lib.hid rfl, Below.refl _ _⟩
  case round =>
    obtain ⟨k, hk, rfl, HU, hb⟩ := hrel
    by_cases hlt : k < L.length
    · have hlt' : (k : Int) < (L.length : Int) := by omega
      obtain ⟨b, off, rfl, hbb, hT⟩ : ∃ b off, a = some ⟨b, off, none⟩ ∧ b < w.heap.size ∧ MatsW w b off L := by
        rcases hSc with rfl | h
        · simp at hlt
        · exact h
      have hbbW : b < W.heap.size := by omega
      have hTr := (hT.below hbW hbb).below hb hbbW
      obtain ⟨⟨a0, a1, a2⟩, ⟨a3, a4, a5⟩, a6, a7, a8⟩ := hTr.nine hlt
      have hbx := HBY.out _ (List.getElem_mem hlt)
      have HXk := Lib.hid (show L[k] = L[k] from rfl)
      obtain ⟨x, hx⟩ : ∃ x, L[k] = x := ⟨_, rfl⟩
      rw [hx] at hbx a0 a1 a2 a3 a4 a5 a6 a7 a8
      clear HXk
      obtain ⟨wx, hwx, rX, rGx, hbx1⟩ : ∃ wx, wx = wr.alloc (.cells #[.int .u8 (x 0 0), .int .u8 (x 0 1), .int .u8 (x 0 2), .int .u8 (x 1 0), .int .u8 (x 1 1), .int .u8 (x 1 2), .int .u8 (x 2 0), .int .u8 (x 2 1), .int .u8 (x 2 2)] 56) ∧ wx.rowIs wr.heap.size 56 9 (mF x) ∧ wx.rowIs w.heap.size 31 3 (grpF p m (.slice (some ⟨b, off, none⟩) L.length cap)) ∧ Below wr.heap.size wr wx := ⟨_, rfl, mbox wr x _, (erow_below rW hb rW.lt).alloc _, ebox1 _ _⟩
      have hbxx := hb.trans (hbx1.mono hb.size)
      have hTx := hTr.below hbx1 (Nat.lt_of_lt_of_le hbbW hb.size)
      obtain ⟨g0, g1, g2⟩ := gcells rGx
      have k0 := cell_regrown g0
      have k1 := cell_regrown g1
      have k2 := cell_regrown g2
      obtain ⟨⟨x0, x1, x2⟩, ⟨x3, x4, x5⟩, x6, x7, x8⟩ := mcells rX
      have l0 := cell_regrown x0
      have l1 := cell_regrown x1
      have l2 := cell_regrown x2
      have l3 := cell_regrown x3
      have l4 := cell_regrown x4
      have l5 := cell_regrown x5
      have l6 := cell_regrown x6
      have l7 := cell_regrown x7
      have l8 := cell_regrown x8
      clear x0 x1 x2 x3 x4 x5 x6 x7 x8 g0 g1 g2
      have cM := fun B h => ismat_r p m x wx hbx B h
      cases k with
      | zero =>
        simp only [Nat.zero_mul, Nat.add_zero] at a0 a1 a2 a3 a4 a5 a6 a7 a8
        have HT := Lib.hid (HU.out.trans (tailG_zero (p := p) (n := m) hlt))
        rw [hx] at HT
        clear hx
        cases hm : isMat p m x
        · have kM := cM false hm
          have HX := Lib.hid (show isGrp p m L = false by rw [HY.out, HT.out, hm]; rfl)
          clear cM hm
          go_wp2_with fail
          rw [← hwx]
          clear hwx
          refine wp_region_quiet_below (by kernel_rfl) (by kernel_rfl) ?_
          repeat (go_big_quiet_step (first | with_reducible exact kM _ _))
          refine wpQuiet_nil ?_
          intro _ hw'
          obtain ⟨⟨dq, osq⟩, hw''⟩ := hw'
          subst hw''
          have hb2 := hbxx.trans ((below_regrown wx dq osq).mono hbxx.size)
          generalize grow (redrawn wx dq) osq = V at *
          clear k0 k1 k2 l0 l1 l2 l3 l4 l5 l6 l7 l8 kM
          go_wp2_with fail
          go_ret
          exact ⟨by rw [HX.out]; rfl, hbW.trans (hb2.mono hbW.size)⟩
        · have kM := cM true hm
          have HN := Lib.hid (show tailG p m L 0 = tailG p m L 1 by rw [HT.out, hm]; rfl)
          clear cM hm
          go_wp2_with fail
          rw [← hwx]
          clear hwx
          refine wp_region_quiet_below (by kernel_rfl) (by kernel_rfl) ?_
          repeat (go_big_quiet_step (first | with_reducible exact kM _ _))
          refine wpQuiet_nil ?_
          intro _ hw'
          obtain ⟨⟨dq, osq⟩, hw''⟩ := hw'
          subst hw''
          have hb2 := hbxx.trans ((below_regrown wx dq osq).mono hbxx.size)
          generalize grow (redrawn wx dq) osq = V at *
          clear k0 k1 k2 l0 l1 l2 l3 l4 l5 l6 l7 l8 kM
          go_wp2_with fail
          go_roundw
          case rel => exact ⟨1, by omega, by go_num, HN, hb2⟩
          case measure => simp [intOf]; omega
      | succ j =>
        have hj : j < L.length := by omega
        have HT := Lib.hid (HU.out.trans (tailG_succ (p := p) (n := m) hlt))
        obtain ⟨⟨b0, b1, b2⟩, ⟨b3, b4, b5⟩, b6, b7, b8⟩ := hTx.nine hj
        have m0 := cell_regrown b0
        have mm1 := cell_regrown b1
        have m2 := cell_regrown b2
        have mm3 := cell_regrown b3
        have m4 := cell_regrown b4
        have m5 := cell_regrown b5
        have m6 := cell_regrown b6
        have m7 := cell_regrown b7
        have m8 := cell_regrown b8
        clear b0 b1 b2 b3 b4 b5 b6 b7 b8
        rw [hx] at HT
        clear hx
        generalize L[j] = y at *
        cases hm : isMat p m x
        · have kM := cM false hm
          have HX := Lib.hid (show isGrp p m L = false by rw [HY.out, HT.out, hm]; rfl)
          clear cM hm
          go_wp2_with fail
          rw [← hwx]
          clear hwx
          refine wp_region_quiet_below (by kernel_rfl) (by kernel_rfl) ?_
          repeat (go_big_quiet_step (first | with_reducible exact kM _ _))
          refine wpQuiet_nil ?_
          intro _ hw'
          obtain ⟨⟨dq, osq⟩, hw''⟩ := hw'
          subst hw''
          have hb2 := hbxx.trans ((below_regrown wx dq osq).mono hbxx.size)
          generalize grow (redrawn wx dq) osq = V at *
          clear k0 k1 k2 l0 l1 l2 l3 l4 l5 l6 l7 l8 m0 mm1 m2 mm3 m4 m5 m6 m7 m8 kM
          go_wp2_with fail
          go_ret
          exact ⟨by rw [HX.out]; rfl, hbW.trans (hb2.mono hbW.size)⟩
        · have kM := cM true hm
          have hs := bef_sign y x
          obtain ⟨R, hR⟩ : ∃ R, cmpM y x = R := ⟨_, rfl⟩
          have kB := icmp_r y x wx R hR
          rw [hR] at hs
          clear hR
          by_cases hc : R < 0
          · have hc' : ¬ (0 ≤ R) := by omega
            have HN := Lib.hid (show tailG p m L 0 = tailG p m L (j + 2) by rw [HT.out, hm, ← hs, decide_eq_true hc]; rfl)
            clear cM hm hs
            go_wp2_with fail
            rw [← hwx]
            clear hwx
            refine wp_region_quiet_below (by kernel_rfl) (by kernel_rfl) ?_
            repeat (go_big_quiet_step (first | with_reducible exact kM _ _ | with_reducible exact kB _ _))
            refine wpQuiet_nil ?_
            intro _ hw'
            obtain ⟨⟨dq, osq⟩, hw''⟩ := hw'
            subst hw''
            have hb2 := hbxx.trans ((below_regrown wx dq osq).mono hbxx.size)
            generalize grow (redrawn wx dq) osq = V at *
            clear k0 k1 k2 l0 l1 l2 l3 l4 l5 l6 l7 l8 m0 mm1 m2 mm3 m4 m5 m6 m7 m8 kM kB
            go_wp2_with fail
            go_roundw
            case rel => exact ⟨j + 2, by omega, by go_num, HN, hb2⟩
            case measure => simp [intOf]; omega
          · have hc' : 0 ≤ R := by omega
            have HX := Lib.hid (show isGrp p m L = false by rw [HY.out, HT.out, hm, ← hs, decide_eq_false hc]; rfl)
            clear cM hm hs
            go_wp2_with fail
            rw [← hwx]
            clear hwx
            refine wp_region_quiet_below (by kernel_rfl) (by kernel_rfl) ?_
            repeat (go_big_quiet_step (first | with_reducible exact kM _ _ | with_reducible exact kB _ _))
            refine wpQuiet_nil ?_
            intro _ hw'
            obtain ⟨⟨dq, osq⟩, hw''⟩ := hw'
            subst hw''
            have hb2 := hbxx.trans ((below_regrown wx dq osq).mono hbxx.size)
            generalize grow (redrawn wx dq) osq = V at *
            clear k0 k1 k2 l0 l1 l2 l3 l4 l5 l6 l7 l8 m0 mm1 m2 mm3 m4 m5 m6 m7 m8 kM kB
            go_wp2_with fail
            go_ret
            exact ⟨by rw [HX.out]; rfl, hbW.trans (hb2.mono hbW.size)⟩
    · obtain rfl : k = L.length := by omega
      have htl : tailG p m L 0 = true := by rw [HU.out]; exact tailG_end p m L
      have HALL := Lib.hid (tailG_all htl)
      have HZ := Lib.hid (show isGrp p m L = (decide (0 ≤ findM L (uM m)) && closedG p L) by rw [HY.out, htl]; rfl)
      clear htl
      have HMV := Lib.hid (fun x (hx : x ∈ L) => show MatV p m x from by
        obtain ⟨m', hm', hmv⟩ := matV_of (HBY.out x hx) (HALL.out x hx)
        obtain rfl : m = m' := by omega
        exact hmv)
      obtain ⟨g0, g1, g2⟩ := gcells (erow_below rW hb rW.lt)
      have hSr := hSW.below (hb.mono (Nat.le_refl _))
      go_wp2_with fail
      ((with_reducible refine (iclosed p m _ L _ hl hSr HMV.out m1 m3).mono ?_); rintro e w3 ⟨rfl, hb3⟩)
      have hb4 := hbW.trans ((hb.trans (hb3.mono hb.size)).mono hbW.size)
      go_wp2_with fail
      go_ret
      exact ⟨by rw [HZ.out]; rfl, hb4⟩
end Go.Proofs.Ytabfdohmgmdgeaa
