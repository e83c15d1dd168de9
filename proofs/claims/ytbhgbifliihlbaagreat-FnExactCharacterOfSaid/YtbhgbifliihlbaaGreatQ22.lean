/-
  GROUPS: the numbers of the matrices of a list, in a map, by the program. Conditions: as each theorem states.
  GROUPS: whether a list of matrices holds all products and the unit, by the program. Conditions: as each theorem states.
  GROUPS: whether something is a group, by the program. Conditions: the numbers of the matrices are bytes.
  WALKS: a group with a polynomial judged: 'spec.l03Code', 'impl.checkAction'. Conditions: the numbers fit their kinds.
  WALKS: 'impl.actionsOf'. Conditions: as each theorem states.
  ACTIONS at a polynomial, the program's. Conditions: as each theorem states.. Conditions: as each theorem states.
  LISTS OF POLYNOMIALS of the call's own, in the making. Conditions: as each theorem states.
-/
import Derived.Test.YtbhgbifliihlbaaGreatQ21
import Derived.Test.YtbhgbifliihlbaaGreatQ18
import Derived.Test.YtbhgbifliihlbaaGreatQ17
import Derived.Maps.OwnSet
import Derived.Test.YtbhgbifliihlbaaGreatQ16
import Derived.Laws.EntriesVeiled
import Derived.Test.YtbhgbifliihlbaaGreatQ19
import Derived.Test.YtbhgbifliihlbaaGreatQ08
import Derived.Test.YtbhgbifliihlbaaGreatQ20
import Derived.Test.YtbhgbifliihlbaaGreatQ10
namespace Go.Proofs.YtbhgbifliihlbaaGreat
open Go.RowKit Go.Sort Go.Maps EchM

abbrev MapM (w : World) (b n : Nat) (D : DataW Unit) : Prop := w.ownsMap Tryz.prog 76 (plainElem Tryz.prog 2) b n D
theorem MapM.isMap {w : World} {b n : Nat} {D : DataW Unit} (h : MapM w b n D) : IsMap D := by
  obtain ⟨es, hD, _⟩ := h.entries lawM
  exact ⟨es, hD⟩
theorem eqM_iff {a b : Nat → Nat → Int} : eqM a b = true ↔ ∀ i j, i < 3 → j < 3 → a i j = b i j := by
  unfold eqM
  simp only [Bool.and_eq_true, beq_iff_eq]
  constructor
  · rintro ⟨⟨a0, a1, a2⟩, ⟨a3, a4, a5⟩, a6, a7, a8⟩ i j hi hj
    have hi' : i = 0 ∨ i = 1 ∨ i = 2 := by omega
    have hj' : j = 0 ∨ j = 1 ∨ j = 2 := by omega
    rcases hi' with rfl | rfl | rfl <;> rcases hj' with rfl | rfl | rfl <;> assumption
  · intro h
    exact ⟨⟨h 0 0 (by omega) (by omega), h 0 1 (by omega) (by omega), h 0 2 (by omega) (by omega)⟩, ⟨h 1 0 (by omega) (by omega), h 1 1 (by omega) (by omega), h 1 2 (by omega) (by omega)⟩, h 2 0 (by omega) (by omega), h 2 1 (by omega) (by omega), h 2 2 (by omega) (by omega)⟩
theorem Byt.byteM {g : Nat → Nat → Int} (h : Byt g) : byteM g := fun i j hi hj => h i hi j hj
/-- The last number of a matrix in a list's first k; -1 if it is not there. -/
def lastA (g : Nat → Nat → Int) (L : List (Nat → Nat → Int)) : Nat → Int
  | 0 => -1
  | k + 1 => match L[k]? with | some x => if eqM x g then (k : Int) else lastA g L k | none => -1
theorem lastA_step {g : Nat → Nat → Int} {L : List (Nat → Nat → Int)} {k : Nat} (h : k < L.length) : lastA g L (k + 1) = if eqM L[k] g then (k : Int) else lastA g L k := by
  rw [lastA, List.getElem?_eq_getElem h]
theorem lastA_bounds {g : Nat → Nat → Int} {L : List (Nat → Nat → Int)} : ∀ k, -1 ≤ lastA g L k ∧ lastA g L k < k := by
  intro k
  induction k with
  | zero => simp [lastA]
  | succ k ih =>
    rw [lastA]
    split
    · split <;> omega
    · omega
/-- What the map says of a list's first k. -/
def NumD (D : DataW Unit) (L : List (Nat → Nat → Int)) (k : Nat) : Prop :=
  ∀ g, byteM g → Maps.has D (kM g) = decide (0 ≤ lastA g L k) ∧ (0 ≤ lastA g L k → ∀ z, D.atKey (kM g) z = .lit (.int .i64 (lastA g L k)))
theorem NumD.start (L : List (Nat → Nat → Int)) : NumD (.map []) L 0 := fun g _ => ⟨by simp [Maps.has, lastA], fun h => by simp [lastA] at h⟩
theorem NumD.step {D : DataW Unit} {L : List (Nat → Nat → Int)} {k : Nat} (hD : IsMap D) (h : NumD D L k) (hk : k < L.length) (hb : byteM L[k]) : NumD (D.put (kM L[k]) (.lit (.int .i64 k))) L (k + 1) := by
  intro g hg
  rw [lastA_step hk]
  by_cases e : eqM L[k] g = true
  · rw [if_pos e, kM_congr (g := g) (h := L[k]) (fun i j hi hj => (eqM_iff.1 e i j hi hj).symm)]
    exact ⟨by rw [has_put_same hD (kM_key _)]; simp, fun _ z => atKey_put_same hD (kM_key _) _ _⟩
  · have hne : kM g ≠ kM L[k] := fun q => e (eqM_iff.2 fun i j hi hj => (kM_inj hg hb q i j hi hj).symm)
    rw [if_neg e, has_put_other hne]
    exact ⟨(h g hg).1, fun h0 z => by rw [atKey_put_other hne]; exact (h g hg).2 h0 z⟩
theorem rowM_not_map {w : World} {a b n m : Nat} {t : TypeId} {f : Nat → Value} {D : DataW Unit} (h : w.rowIs a t n f) (h' : MapM w b m D) : a ≠ b := by
  intro e
  subst e
  obtain ⟨c, hc, _⟩ := h
  obtain ⟨es, clock, hb, _⟩ := h'
  rw [hc] at hb
  simp at hb
theorem wf64M {n : Int} (h : 0 ≤ n) (h2 : n ≤ 9223372036854775807) : (Lit.int .i64 n).wf = true := by
  simp [Lit.wf, IntKind.min, IntKind.max, IntKind.bits, IntKind.signed]; omega

set_option maxRecDepth 8000 in
set_option maxHeartbeats 8000000 in
theorem inumbers (p n : Int) (v : Value) (L : List (Nat → Nat → Int)) (w : World) (hl : L.length ≤ 1048576) (hS : SlM w v L) (hby : ∀ x ∈ L, Byt x) :
    Calls Tryz.prog 87 #[.agg #[.int .i64 p, .int .i64 n, v]] w fun e w' =>
      ∃ b D, e = .returned (.map (some b)) ∧ w.heap.size ≤ b ∧ MapM w' b L.length D ∧ NumD D L L.length ∧ Below w.heap.size w w' := by
  have hmm := @run_makeMap Tryz.prog
  obtain ⟨W, hW, rW, hbW, hWs⟩ : ∃ W, W = w.alloc (.cells #[.int .i64 p, .int .i64 n, v] 35) ∧ W.rowIs w.heap.size 35 3 (grpF p n v) ∧ Below w.heap.size w W ∧ w.heap.size < W.heap.size := ⟨_, rfl, gbox w p n v _, ebox1 _ _, by simp⟩
  obtain ⟨V, hV, hMV, rV, hbV⟩ : ∃ V, V = W.alloc (.map #[] 0) ∧ MapM V W.heap.size 0 (.map []) ∧ V.rowIs w.heap.size 35 3 (grpF p n v) ∧ Below w.heap.size w V := ⟨_, rfl, World.ownsMap_made (H := Unit) W Tryz.prog 76 (plainElem Tryz.prog 2), rW.alloc _, hbW.alloc (Nat.le_of_lt hWs) _⟩
  have hSV := hS.below hbV
  obtain ⟨a, cap, rfl, hSc⟩ := id hS
  obtain ⟨g0, g1, g2⟩ := gcells rV
  have HBY := Lib.hid hby
  have hW0 := hW
  have hVs : W.heap.size < V.heap.size := by subst hV; simp
  clear hby
  go_enter Tryz.func87, Tryz.ntmps87
  go_wp2_with fail
  rw [← hW]
  go_wp2_with fail
  rw [← hV]
  clear hW hmm
  have hWz : W.heap.size = w.heap.size + 1 := by rw [hW0]; simp
  rw [hWz] at hMV hVs
  go_wp2_with fail
  go_loopw [10] (fun i wr => ∃ (k : Nat) (D : DataW Unit), k ≤ L.length ∧ i = .int .i64 k ∧ Hid (NumD D L k) ∧ MapM wr (w.heap.size + 1) k D ∧ V.grownBy wr (some (w.heap.size + 1))) (fun i _ => L.length - (intOf i).toNat)
  case atStart => exact ⟨0, _, by omega, rfl, Lib.hid (NumD.start L), hMV, ⟨rfl, rfl, rfl, Nat.le_refl _, fun _ _ _ => rfl⟩⟩
  case round =>
    obtain ⟨k, D1, hk, rfl, HD, hM1, hgr⟩ := hrel
    by_cases hlt : k < L.length
    · have hlt' : (k : Int) < (L.length : Int) := by omega
      obtain ⟨B, off, rfl, hbb, hT⟩ : ∃ b off, a = some ⟨b, off, none⟩ ∧ b < w.heap.size ∧ MatsW w b off L := by
        rcases hSc with rfl | h
        · simp at hlt
        · exact h
      have hne : B ≠ w.heap.size + 1 := by omega
      have hTr : MatsW wr B off L := fun q hq i j hi hj => (World.cell?_of_block (w := V) (a := ⟨B, _, none⟩) (hgr.block B (by omega) (by simpa using hne))).trans ((hT.below hbV hbb) q hq i j hi hj)
      obtain ⟨⟨a0, a1, a2⟩, ⟨a3, a4, a5⟩, a6, a7, a8⟩ := hTr.nine hlt
      have hbx := (HBY.out L[k] (List.getElem_mem _)).byteM
      have HN := Lib.hid (HD.out.step hM1.isMap hlt hbx)
      have hkey := keyOf_mv L[k] hbx
      unfold mv at hkey
      generalize L[k] = x at *
      have hM2 : MapM (wr.alloc (.cells #[.int .u8 (x 0 0), .int .u8 (x 0 1), .int .u8 (x 0 2), .int .u8 (x 1 0), .int .u8 (x 1 1), .int .u8 (x 1 2), .int .u8 (x 2 0), .int .u8 (x 2 1), .int .u8 (x 2 2)] 76)) (w.heap.size + 1) k D1 := hM1.alloc _
      clear HD hTr hT hSc hS hSV HBY g0 g1 g2 hV hW0
      go_wp2_with (at_mapUpdate; refine wpList_mapUpdate_own _ rfl _ _ _ 119 rfl 76 2 lawM Tryz.underlying119 (plainElem Tryz.prog 2) (w.heap.size + 1) k D1 rfl hM2 (by unfold maxLen; omega) (.agg #[.int .u8 (x 0 0), .int .u8 (x 0 1), .int .u8 (x 0 2), .int .u8 (x 1 0), .int .u8 (x 1 1), .int .u8 (x 1 2), .int .u8 (x 2 0), .int .u8 (x 2 1), .int .u8 (x 2 2)]) _ _ rfl rfl hkey _ [] (plainElem_int Tryz.underlying2 (wf64M (by omega) (by omega))) ?_; intro w2 hown2 hgrow2)
      go_roundw
      case rel =>
        exact ⟨k + 1, _, by omega, by go_num, HN, hown2, ⟨hgrow2.os.trans hgr.os, hgrow2.tape.trans hgr.tape, hgrow2.output.trans hgr.output, Nat.le_trans hgr.size (Nat.le_trans (by simp) hgrow2.size), fun q hq hn => (hgrow2.block q (Nat.lt_of_lt_of_le hq (Nat.le_trans hgr.size (by simp))) hn).trans (((World.grownBy_alloc wr _ (some (w.heap.size + 1))).block q (Nat.lt_of_lt_of_le hq hgr.size) hn).trans (hgr.block q hq hn))⟩⟩
      case measure => simp [intOf]; omega
    · obtain rfl : k = L.length := by omega
      have hD := HD.out
      have hBB : Below w.heap.size w wr := hbV.grown hgr (by omega) (fun q hq => by simp at hq; omega)
      clear HD
      go_wp2_with fail
      go_ret
      exact ⟨_, _, rfl, by omega, hM1, hD, hBB⟩
end Go.Proofs.YtbhgbifliihlbaaGreat
namespace Go.Proofs.YtbhgbifliihlbaaGreat
open Go.RowKit Go.Sort Go.Maps EchM

theorem zero64M (w : World) : (zeroValue 2).run Tryz.prog w = .ok (.int .i64 0) w := by kernel_rfl
theorem findA_in (g : Nat → Nat → Int) : ∀ (L : List (Nat → Nat → Int)) (k : Nat), 0 ≤ findA g L k ↔ ∃ x ∈ L, eqM x g = true := by
  intro L
  induction L with
  | nil => intro k; simp [findA]
  | cons y L ih =>
    intro k
    rw [findA]
    by_cases e : eqM y g = true
    · rw [if_pos e]; simp [e]
    · rw [if_neg e, ih]; simp [e]
theorem lastA_in (g : Nat → Nat → Int) (L : List (Nat → Nat → Int)) : ∀ k, k ≤ L.length → (0 ≤ lastA g L k ↔ ∃ x ∈ L.take k, eqM x g = true) := by
  intro k
  induction k with
  | zero => intro _; simp [lastA]
  | succ k ih =>
    intro hk
    rw [lastA_step (by omega), ← List.take_append_getElem (by omega : k < L.length)]
    by_cases e : eqM L[k] g = true
    · rw [if_pos e]; exact ⟨fun _ => ⟨L[k], List.mem_append_right _ (List.mem_singleton.2 rfl), e⟩, fun _ => by omega⟩
    · rw [if_neg e, ih (by omega)]
      exact ⟨fun ⟨x, hx, q⟩ => ⟨x, List.mem_append_left _ hx, q⟩, fun ⟨x, hx, q⟩ => (List.mem_append.1 hx).elim (fun h => ⟨x, h, q⟩) (fun h => by rw [List.mem_singleton.1 h] at q; exact absurd q e)⟩
theorem last_find (g : Nat → Nat → Int) (L : List (Nat → Nat → Int)) : decide (0 ≤ lastA g L L.length) = decide (0 ≤ findM L g) := by
  apply decide_eq_decide.2
  unfold findM
  rw [lastA_in g L _ (Nat.le_refl _), findA_in, List.take_length]
theorem mapM_look {w : World} {b n : Nat} {D : DataW Unit} {L : List (Nat → Nat → Int)} (h : MapM w b n D) (hn : NumD D L L.length) {g : Nat → Nat → Int} (hg : byteM g) {B : Bool} (hB : decide (0 ≤ findM L g) = B) :
    ∃ c, (Instr.lookup 119 (.map (some b)) (.agg #[.int .u8 (g 0 0), .int .u8 (g 0 1), .int .u8 (g 0 2), .int .u8 (g 1 0), .int .u8 (g 1 1), .int .u8 (g 1 2), .int .u8 (g 2 0), .int .u8 (g 2 1), .int .u8 (g 2 2)]) true).run Tryz.prog w = .ok (.tuple #[.int .i64 c, .bool B]) w := by
  obtain ⟨v, ps, hrun, hv⟩ := h.look_ok lawM Tryz.underlying119 (zero64M w) (plainElem_int Tryz.underlying2 (wf64M (n := 0) (by omega) (by omega))) (keyOf_mv g hg)
  obtain ⟨c, rfl, _, _⟩ := plainElem_int_inv Tryz.underlying2 hv
  rw [(hn g hg).1, last_find, hB] at hrun
  exact ⟨c, hrun⟩
theorem MatV.byteM {p : Int} {m : Nat} {g : Nat → Nat → Int} (h : MatV p m g) : byteM g := fun i j hi hj => by
  have := h.bound i hi j hj
  have := h.h13
  omega
theorem uM_byte (m : Nat) : byteM (uM m) := fun i j _ _ => by unfold uM; split <;> omega
theorem prodM_byte {p : Int} (h2 : 2 ≤ p) (h13 : p ≤ 13) (g h : Nat → Nat → Int) : byteM (prodM p g h) := fun i j _ _ => by
  have h0 := Int.emod_nonneg (psum g h i j 3) (show p ≠ 0 by omega)
  have h1 := Int.emod_lt_of_pos (psum g h i j 3) (show 0 < p by omega)
  have e : prodM p g h i j = (psum g h i j 3) % p := rfl
  omega
theorem MapM.later {w w' : World} {b n : Nat} {D : DataW Unit} (h : MapM w b n D) (hb : Below w.heap.size w w') : MapM w' b n D :=
  h.kept (row := none) ⟨hb.os, hb.tape, hb.output, hb.size, fun k hk _ => hb.block k hk⟩ (by simp)

set_option maxRecDepth 8000 in
set_option maxHeartbeats 16000000 in
theorem iclosed (p : Int) (m : Nat) (v : Value) (L : List (Nat → Nat → Int)) (w : World) (hl : L.length ≤ 1048576) (hS : SlM w v L) (hV : ∀ x ∈ L, MatV p m x) (m1 : 1 ≤ m) (m3 : m ≤ 3) :
    Calls Tryz.prog 68 #[.agg #[.int .i64 p, .int .i64 (m : Int), v]] w fun e w' => e = .returned (.bool (decide (0 ≤ findM L (uM m)) && closedG p L)) ∧ Below w.heap.size w w' := by
  obtain ⟨W, hW, rW, hbW, hWs⟩ : ∃ W, W = w.alloc (.cells #[.int .i64 p, .int .i64 (m : Int), v] 35) ∧ W.rowIs w.heap.size 35 3 (grpF p m v) ∧ Below w.heap.size w W ∧ w.heap.size < W.heap.size := ⟨_, rfl, gbox w p m v _, ebox1 _ _, by simp⟩
  have hSW := hS.below hbW
  obtain ⟨a, cap, rfl, hSc⟩ := id hS
  obtain ⟨g0, g1, g2⟩ := gcells rW
  have HV := Lib.hid hV
  have HBY := Lib.hid (fun x hx => (show Byt x from fun i hi j hj => (hV x hx).byteM i j hi hj))
  obtain ⟨u, hu⟩ : ∃ u, uM m = u := ⟨_, rfl⟩
  have hub : byteM u := hu ▸ uM_byte m
  have HU := Lib.hid hu
  rw [hu]
  clear hV hu
  obtain ⟨B, hB⟩ : ∃ B, decide (0 ≤ findM L u) = B := ⟨_, rfl⟩
  rw [hB]
  cases B
  · have HB := Lib.hid hB
    clear hB
    go_enter Tryz.func68, Tryz.ntmps68
    go_wp2_with fail
    rw [← hW]
    clear hW
    go_wp2_with fail
    ((with_reducible refine (inumbers p m _ L _ hl hSW HBY.out).mono ?_); rintro e w1 ⟨b, D, rfl, hbb, hM1, hN, hb1⟩)
    have HN := Lib.hid hN
    have rW1 := erow_below rW hb1 rW.lt
    obtain ⟨g0', g1', g2'⟩ := gcells rW1
    clear hN g0 g1 g2
    go_wp2_with fail
    ((with_reducible refine (iunit m u _ m1 m3 HU.out).mono ?_); rintro e w2 ⟨rfl, hb2⟩)
    have hM2 := hM1.later hb2
    have rW2 := erow_below rW1 hb2 rW1.lt
    obtain ⟨k0, k1, k2⟩ := gcells rW2
    have hbW2 := (hbW.trans (hb1.mono hbW.size)).trans (hb2.mono (hbW.trans (hb1.mono hbW.size)).size)
    obtain ⟨c, hrun⟩ := mapM_look hM2 HN.out hub HB.out
    clear g0' g1' g2'
    go_wp2_with fail
    go_ret
    exact ⟨rfl, hbW2⟩
  · have HB := Lib.hid hB
    clear hB
    go_enter Tryz.func68, Tryz.ntmps68
    go_wp2_with fail
    rw [← hW]
    clear hW
    go_wp2_with fail
    ((with_reducible refine (inumbers p m _ L _ hl hSW HBY.out).mono ?_); rintro e w1 ⟨b, D, rfl, hbb, hM1, hN, hb1⟩)
    have HN := Lib.hid hN
    have rW1 := erow_below rW hb1 rW.lt
    obtain ⟨g0', g1', g2'⟩ := gcells rW1
    clear hN g0 g1 g2
    go_wp2_with fail
    ((with_reducible refine (iunit m u _ m1 m3 HU.out).mono ?_); rintro e w2 ⟨rfl, hb2⟩)
    have hM2 := hM1.later hb2
    have rW2 := erow_below rW1 hb2 rW1.lt
    obtain ⟨k0, k1, k2⟩ := gcells rW2
    have hbW2 := (hbW.trans (hb1.mono hbW.size)).trans (hb2.mono (hbW.trans (hb1.mono hbW.size)).size)
    obtain ⟨c, hrun⟩ := mapM_look hM2 HN.out hub HB.out
    clear g0' g1' g2'
    go_wp2_with fail
    clear hrun
    go_loopw [27] (fun i wr => ∃ (k : Nat), k ≤ L.length ∧ i = .int .i64 k ∧ Hid (∀ (i : Nat) (hi : i < L.length), i < k → ∀ (j : Nat) (hj : j < L.length), 0 ≤ findM L (prodM p L[i] L[j])) ∧ Below w2.heap.size w2 wr) (fun i _ => L.length - (intOf i).toNat)
    case atStart => exact ⟨0, by omega, rfl, Lib.hid (fun i hi h => absurd h (by omega)), Below.refl _ _⟩
    case round =>
      obtain ⟨k, hk, rfl, HK, hb⟩ := hrel
      obtain ⟨wo, hwo⟩ : ∃ wo, wo = wr := ⟨_, rfl⟩
      subst hwo
      by_cases hlt : k < L.length
      · have hlt' : (k : Int) < (L.length : Int) := by omega
        obtain ⟨b0, off, rfl, hbb0, hT⟩ : ∃ b off, a = some ⟨b, off, none⟩ ∧ b < w.heap.size ∧ MatsW w b off L := by
          rcases hSc with rfl | h
          · simp at hlt
          · exact h
        have hT2 := hT.below hbW2 hbb0
        have hb02 : b0 < w2.heap.size := Nat.lt_of_lt_of_le hbb0 hbW2.size
        have hTo := hT2.below hb hb02
        have rG := erow_below rW2 hb rW2.lt
        have hMo := hM2.later hb
        obtain ⟨⟨a0, a1, a2⟩, ⟨a3, a4, a5⟩, a6, a7, a8⟩ := hTo.nine hlt
        obtain ⟨q0, q1, q2⟩ := gcells rG
        have HVx := Lib.hid (HV.out L[k] (List.getElem_mem _))
        have HKx := Lib.hid (⟨hlt, rfl⟩ : ∃ h : k < L.length, L[k] = L[k])
        obtain ⟨x, hx⟩ : ∃ x, L[k] = x := ⟨_, rfl⟩
        rw [hx] at HVx a0 a1 a2 a3 a4 a5 a6 a7 a8
        have HX := Lib.hid hx
        clear hx HKx k0 k1 k2
        obtain ⟨wx, hwx, rX, rGx, hbx⟩ : ∃ wx, wx = wo.alloc (.cells #[.int .u8 (x 0 0), .int .u8 (x 0 1), .int .u8 (x 0 2), .int .u8 (x 1 0), .int .u8 (x 1 1), .int .u8 (x 1 2), .int .u8 (x 2 0), .int .u8 (x 2 1), .int .u8 (x 2 2)] 76) ∧ wx.rowIs wo.heap.size 76 9 (mF x) ∧ wx.rowIs w.heap.size 35 3 (grpF p m (.slice (some ⟨b0, off, none⟩) L.length cap)) ∧ Below wo.heap.size wo wx := ⟨_, rfl, mbox wo x _, rG.alloc _, ebox1 _ _⟩
        have hMx := hMo.later hbx
        have hTx := hTo.below hbx (Nat.lt_of_lt_of_le hb02 hb.size)
        obtain ⟨p0, p1, p2⟩ := gcells rGx
        have p2' := p2
        rw [hwx] at p2'
        go_wp2_with fail
        rw [← hwx]
        clear hwx p2'
        have hbxx := hb.trans (hbx.mono hb.size)
        have hb0x : b0 < wx.heap.size := Nat.lt_of_lt_of_le hb02 hbxx.size
        go_loopw [34] (fun i wr => ∃ (j : Nat), j ≤ L.length ∧ i = .int .i64 j ∧ Hid (∀ (j' : Nat) (hj : j' < L.length), j' < j → 0 ≤ findM L (prodM p x L[j'])) ∧ Below wx.heap.size wx wr) (fun i _ => L.length - (intOf i).toNat)
        case atStart => exact ⟨0, by omega, rfl, Lib.hid (fun j' hj h => absurd h (by omega)), Below.refl _ _⟩
        case round =>
          obtain ⟨j, hj, rfl, HJ, hbj⟩ := hrel
          by_cases hjt : j < L.length
          · have hjt' : (j : Int) < (L.length : Int) := by omega
            have hTr := hTx.below hbj hb0x
            have rGr := erow_below rGx hbj rGx.lt
            have rXr := erow_below rX hbj rX.lt
            have hMr := hMx.later hbj
            clear a0 a1 a2 a3 a4 a5 a6 a7 a8 q0 q1 q2 p0 p1 p2
            obtain ⟨⟨a0, a1, a2⟩, ⟨a3, a4, a5⟩, a6, a7, a8⟩ := hTr.nine hjt
            have HVy := Lib.hid (HV.out L[j] (List.getElem_mem _))
            obtain ⟨y, hy⟩ : ∃ y, L[j] = y := ⟨_, rfl⟩
            rw [hy] at HVy a0 a1 a2 a3 a4 a5 a6 a7 a8
            have HYy := Lib.hid hy
            clear hy
            obtain ⟨⟨x0, x1, x2⟩, ⟨x3, x4, x5⟩, x6, x7, x8⟩ := mcells (rXr.alloc (.cells #[.int .u8 (y 0 0), .int .u8 (y 0 1), .int .u8 (y 0 2), .int .u8 (y 1 0), .int .u8 (y 1 1), .int .u8 (y 1 2), .int .u8 (y 2 0), .int .u8 (y 2 1), .int .u8 (y 2 2)] 76))
            obtain ⟨p0, p1, p2⟩ := gcells (rGr.alloc (.cells #[.int .u8 (y 0 0), .int .u8 (y 0 1), .int .u8 (y 0 2), .int .u8 (y 1 0), .int .u8 (y 1 1), .int .u8 (y 1 2), .int .u8 (y 2 0), .int .u8 (y 2 1), .int .u8 (y 2 2)] 76))
            have hMy := hMr.alloc (.cells #[.int .u8 (y 0 0), .int .u8 (y 0 1), .int .u8 (y 0 2), .int .u8 (y 1 0), .int .u8 (y 1 1), .int .u8 (y 1 2), .int .u8 (y 2 0), .int .u8 (y 2 1), .int .u8 (y 2 2)] 76)
            have hby := ebox1 wr (.cells #[.int .u8 (y 0 0), .int .u8 (y 0 1), .int .u8 (y 0 2), .int .u8 (y 1 0), .int .u8 (y 1 1), .int .u8 (y 1 2), .int .u8 (y 2 0), .int .u8 (y 2 1), .int .u8 (y 2 2)] 76)
            obtain ⟨r, hr⟩ : ∃ r, prodM p x y = r := ⟨_, rfl⟩
            have hrb : byteM r := hr ▸ prodM_byte HVx.out.h2 HVx.out.h13 x y
            have HR := Lib.hid hr
            clear hr
            go_wp2_with fail
            ((with_reducible refine (iprod_agg p m x y r _ HVx.out HVy.out HR.out).mono ?_); rintro e w3 ⟨rfl, hb3⟩)
            have hM3 := MapM.later hMy hb3
            have hb3' := hby.trans (hb3.mono hby.size)
            have hbj3 := hbj.trans (hb3'.mono hbj.size)
            clear x0 x1 x2 x3 x4 x5 x6 x7 x8 p0 p1 p2 a0 a1 a2 a3 a4 a5 a6 a7 a8
            cases hB2 : decide (0 ≤ findM L r)
            · have HB2 := Lib.hid hB2
              obtain ⟨c2, hrun2⟩ := mapM_look hM3 HN.out hrb HB2.out
              have HC := Lib.hid (show closedG p L = false from closed_no hlt hjt (by
                rw [HX.out, HYy.out, HR.out]
                have := of_decide_eq_false hB2
                omega))
              clear hB2
              go_wp2_with fail
              go_ret
              exact ⟨by rw [HC.out]; rfl, hbW2.trans ((hbxx.trans (hbj3.mono hbxx.size)).mono hbW2.size)⟩
            · have HB2 := Lib.hid hB2
              obtain ⟨c2, hrun2⟩ := mapM_look hM3 HN.out hrb HB2.out
              have HJ2 : Hid (∀ (j' : Nat) (hj : j' < L.length), j' < j + 1 → 0 ≤ findM L (prodM p x L[j'])) := Lib.hid (fun j' hj' h => by
                by_cases e : j' = j
                · subst e
                  rw [HYy.out, HR.out]
                  exact of_decide_eq_true hB2
                · exact HJ.out j' hj' (by omega))
              clear hB2
              go_wp2_with fail
              go_roundw
              case rel => exact ⟨j + 1, by omega, by go_num, HJ2, hbj3⟩
              case measure => simp [intOf]; omega
          · obtain rfl : j = L.length := by omega
            have HK2 : Hid (∀ (i : Nat) (hi : i < L.length), i < k + 1 → ∀ (j : Nat) (hj : j < L.length), 0 ≤ findM L (prodM p L[i] L[j])) := Lib.hid (fun i hi h j' hj' => by
              by_cases e : i = k
              · subst e
                rw [HX.out]
                exact HJ.out j' hj' hj'
              · exact HK.out i hi (by omega) j' hj')
            clear a0 a1 a2 a3 a4 a5 a6 a7 a8 q0 q1 q2 p0 p1 p2
            go_wp2_with fail
            go_roundw
            case rel => exact ⟨k + 1, by omega, by go_num, HK2, hbxx.trans (hbj.mono hbxx.size)⟩
            case measure => simp [intOf]; omega
      · obtain rfl : k = L.length := by omega
        have HX := Lib.hid (closed_yes (p := p) (L := L) (fun i hi j hj => HK.out i hi hi j hj))
        clear k0 k1 k2
        go_wp2_with fail
        go_ret
        exact ⟨by rw [HX.out]; rfl, hbW2.trans (hb.mono hbW2.size)⟩
end Go.Proofs.YtbhgbifliihlbaaGreat
namespace Go.Proofs.YtbhgbifliihlbaaGreat
open Go.RowKit Go.Sort Go.Maps EchM

theorem ismat_r (p n : Int) (g : Nat → Nat → Int) (W : World) (hg : Byt g) (B : Bool) (h : isMat p n g = B) : ∀ dd os,
    Calls Tryz.prog 66 #[.int .i64 p, .int .i64 n, (.agg #[.int .u8 (g 0 0), .int .u8 (g 0 1), .int .u8 (g 0 2), .int .u8 (g 1 0), .int .u8 (g 1 1), .int .u8 (g 1 2), .int .u8 (g 2 0), .int .u8 (g 2 1), .int .u8 (g 2 2)])] (grow (redrawn W dd) os) fun e w'' => e = .returned (.bool B) ∧ ∃ q : Regrown, w'' = grow (redrawn W q.d) q.os := fun _ _ => Calls.regrown_of (ismat_is p n g _ hg B h)
theorem icmp_r (g h : Nat → Nat → Int) (W : World) (R : Int) (hR : cmpM g h = R) : ∀ dd os,
    Calls Tryz.prog 67 #[(.agg #[.int .u8 (g 0 0), .int .u8 (g 0 1), .int .u8 (g 0 2), .int .u8 (g 1 0), .int .u8 (g 1 1), .int .u8 (g 1 2), .int .u8 (g 2 0), .int .u8 (g 2 1), .int .u8 (g 2 2)]), (.agg #[.int .u8 (h 0 0), .int .u8 (h 0 1), .int .u8 (h 0 2), .int .u8 (h 1 0), .int .u8 (h 1 1), .int .u8 (h 1 2), .int .u8 (h 2 0), .int .u8 (h 2 1), .int .u8 (h 2 2)])] (grow (redrawn W dd) os) fun e w'' => e = .returned (.int .i64 R) ∧ ∃ q : Regrown, w'' = grow (redrawn W q.d) q.os := fun _ _ => Calls.regrown_of (by subst hR; exact icompare g h _)
theorem isGrp_prog {p : Int} {m : Nat} {L : List (Nat → Nat → Int)} (hp : pB p = true) (hv : (decide (1 ≤ (m : Int)) && decide ((m : Int) ≤ 3)) = true) (hl : L.length ≤ 48) : isGrp p m L = (tailG p m L 0 && (decide (0 ≤ findM L (uM m)) && closedG p L)) := by
  unfold isGrp
  rw [hp, hv, show decide (L.length ≤ 48) = true from decide_eq_true hl]
  by_cases h : 1 ≤ L.length
  · rw [show decide (1 ≤ L.length) = true from decide_eq_true h, Bool.and_comm (closedG p L)]
    simp
  · have : L = [] := List.eq_nil_of_length_eq_zero (by omega)
    subst this
    simp [findM, findA]

set_option maxRecDepth 8000 in
set_option maxHeartbeats 16000000 in
theorem igroup (p n : Int) (v : Value) (L : List (Nat → Nat → Int)) (w : World) (hl : L.length ≤ 1048576) (hS : SlM w v L) (hby : ∀ x ∈ L, Byt x) :
    Calls Tryz.prog 42 #[.agg #[.int .i64 p, .int .i64 n, v]] w fun e w' => e = .returned (.bool (isGrp p n L)) ∧ Below w.heap.size w w' := by
  obtain ⟨W, hW, rW, hbW, hWs⟩ : ∃ W, W = w.alloc (.cells #[.int .i64 p, .int .i64 n, v] 35) ∧ W.rowIs w.heap.size 35 3 (grpF p n v) ∧ Below w.heap.size w W ∧ w.heap.size < W.heap.size := ⟨_, rfl, gbox w p n v _, ebox1 _ _, by simp⟩
  have hSW := hS.below hbW
  obtain ⟨a, cap, rfl, hSc⟩ := id hS
  obtain ⟨g0, g1, g2⟩ := gcells rW
  have HBY := Lib.hid hby
  clear hby
  cases hp : pB p
  · have HX := Lib.hid (show isGrp p n L = false by simp [isGrp, hp])
    have HP := Lib.hid hp
    clear hp
    go_enter Tryz.func42, Tryz.ntmps42
    go_wp2_with fail
    rw [← hW]
    clear hW
    ((with_reducible refine (iprime_is p _ false HP.out).mono ?_); rintro e w1 ⟨rfl, rfl⟩)
    go_wp2_with fail
    go_ret
    exact ⟨by rw [HX.out]; rfl, hbW⟩
  have HP := Lib.hid hp
  cases hv : (decide (1 ≤ n) && decide (n ≤ 3))
  · have HX := Lib.hid (show isGrp p n L = false by rw [isGrp, hv]; simp)
    have HV := Lib.hid hv
    clear hp hv
    go_enter Tryz.func42, Tryz.ntmps42
    go_wp2_with fail
    rw [← hW]
    clear hW
    ((with_reducible refine (iprime_is p _ true HP.out).mono ?_); rintro e w1 ⟨rfl, rfl⟩)
    go_wp2_with fail
    ((with_reducible refine (ivars_is n _ false HV.out).mono ?_); rintro e w2 ⟨rfl, rfl⟩)
    go_wp2_with fail
    go_ret
    exact ⟨by rw [HX.out]; rfl, hbW⟩
  have HV := Lib.hid hv
  by_cases hsz : ¬ L.length ≤ 48
  · have HX := Lib.hid (show isGrp p n L = false by
      unfold isGrp
      rw [show decide (L.length ≤ 48) = false from decide_eq_false hsz]; simp)
    have h2 : (48 : Int) < (L.length : Int) := by omega
    clear hp hv hsz
    go_enter Tryz.func42, Tryz.ntmps42
    go_wp2_with fail
    rw [← hW]
    clear hW
    ((with_reducible refine (iprime_is p _ true HP.out).mono ?_); rintro e w1 ⟨rfl, rfl⟩)
    go_wp2_with fail
    ((with_reducible refine (ivars_is n _ true HV.out).mono ?_); rintro e w2 ⟨rfl, rfl⟩)
    go_wp2_with fail
    go_ret
    exact ⟨by rw [HX.out]; rfl, hbW⟩
  have hsz2 : L.length ≤ 48 := by omega
  have hsz2' : ¬ (48 : Int) < (L.length : Int) := by omega
  obtain ⟨m, rfl, m1, m3⟩ : ∃ m : Nat, n = (m : Int) ∧ 1 ≤ m ∧ m ≤ 3 := by
    simp only [Bool.and_eq_true, decide_eq_true_eq] at hv
    obtain ⟨m, rfl⟩ := Int.eq_ofNat_of_zero_le (show 0 ≤ n by omega)
    exact ⟨m, rfl, by omega, by omega⟩
  have HY := Lib.hid (isGrp_prog hp hv hsz2)
  clear hp hv hsz
  go_enter Tryz.func42, Tryz.ntmps42
  go_wp2_with fail
  rw [← hW]
  clear hW
  ((with_reducible refine (iprime_is p _ true HP.out).mono ?_); rintro e w1 ⟨rfl, rfl⟩)
  go_wp2_with fail
  ((with_reducible refine (ivars_is m _ true HV.out).mono ?_); rintro e w2 ⟨rfl, rfl⟩)
  go_wp2_with fail
  clear g0 g1 g2
  go_loopw [24] (fun i wr => ∃ (k : Nat), k ≤ L.length ∧ i = .int .i64 k ∧ Hid (tailG p m L 0 = tailG p m L k) ∧ Below W.heap.size W wr) (fun i _ => L.length - (intOf i).toNat)
  case atStart => exact ⟨0, by omega, rfl, Lib.hid rfl, Below.refl _ _⟩
  case round =>
    obtain ⟨k, hk, rfl, HU, hb⟩ := hrel
    by_cases hlt : k < L.length
    · have hlt' : (k : Int) < (L.length : Int) := by omega
      obtain ⟨b, off, rfl, hbb, hT⟩ : ∃ b off, a = some ⟨b, off, none⟩ ∧ b < w.heap.size ∧ MatsW w b off L := by
        rcases hSc with rfl | h
        · simp at hlt
        · exact h
      have hbbW : b < W.heap.size := by omega
      have hTr := (hT.below hbW hbb).below hb hbbW
      obtain ⟨⟨a0, a1, a2⟩, ⟨a3, a4, a5⟩, a6, a7, a8⟩ := hTr.nine hlt
      have hbx := HBY.out _ (List.getElem_mem hlt)
      have HXk := Lib.hid (show L[k] = L[k] from rfl)
      obtain ⟨x, hx⟩ : ∃ x, L[k] = x := ⟨_, rfl⟩
      rw [hx] at hbx a0 a1 a2 a3 a4 a5 a6 a7 a8
      clear HXk
      obtain ⟨wx, hwx, rX, rGx, hbx1⟩ : ∃ wx, wx = wr.alloc (.cells #[.int .u8 (x 0 0), .int .u8 (x 0 1), .int .u8 (x 0 2), .int .u8 (x 1 0), .int .u8 (x 1 1), .int .u8 (x 1 2), .int .u8 (x 2 0), .int .u8 (x 2 1), .int .u8 (x 2 2)] 76) ∧ wx.rowIs wr.heap.size 76 9 (mF x) ∧ wx.rowIs w.heap.size 35 3 (grpF p m (.slice (some ⟨b, off, none⟩) L.length cap)) ∧ Below wr.heap.size wr wx := ⟨_, rfl, mbox wr x _, (erow_below rW hb rW.lt).alloc _, ebox1 _ _⟩
      have hbxx := hb.trans (hbx1.mono hb.size)
      have hTx := hTr.below hbx1 (Nat.lt_of_lt_of_le hbbW hb.size)
      obtain ⟨g0, g1, g2⟩ := gcells rGx
      have k0 := cell_regrown g0
      have k1 := cell_regrown g1
      have k2 := cell_regrown g2
      obtain ⟨⟨x0, x1, x2⟩, ⟨x3, x4, x5⟩, x6, x7, x8⟩ := mcells rX
      have l0 := cell_regrown x0
      have l1 := cell_regrown x1
      have l2 := cell_regrown x2
      have l3 := cell_regrown x3
      have l4 := cell_regrown x4
      have l5 := cell_regrown x5
      have l6 := cell_regrown x6
      have l7 := cell_regrown x7
      have l8 := cell_regrown x8
      clear x0 x1 x2 x3 x4 x5 x6 x7 x8 g0 g1 g2
      have cM := fun B h => ismat_r p m x wx hbx B h
      cases k with
      | zero =>
        simp only [Nat.zero_mul, Nat.add_zero] at a0 a1 a2 a3 a4 a5 a6 a7 a8
        have HT := Lib.hid (HU.out.trans (tailG_zero (p := p) (n := m) hlt))
        rw [hx] at HT
        clear hx
        cases hm : isMat p m x
        · have kM := cM false hm
          have HX := Lib.hid (show isGrp p m L = false by rw [HY.out, HT.out, hm]; rfl)
          clear cM hm
          go_wp2_with fail
          rw [← hwx]
          clear hwx
          refine wp_region_quiet_below (by kernel_rfl) (by kernel_rfl) ?_
          repeat (go_big_quiet_step (first | with_reducible exact kM _ _))
          refine wpQuiet_nil ?_
          intro _ hw'
          obtain ⟨⟨dq, osq⟩, hw''⟩ := hw'
          subst hw''
          have hb2 := hbxx.trans ((below_regrown wx dq osq).mono hbxx.size)
          generalize grow (redrawn wx dq) osq = V at *
          clear k0 k1 k2 l0 l1 l2 l3 l4 l5 l6 l7 l8 kM
          go_wp2_with fail
          go_ret
          exact ⟨by rw [HX.out]; rfl, hbW.trans (hb2.mono hbW.size)⟩
        · have kM := cM true hm
          have HN := Lib.hid (show tailG p m L 0 = tailG p m L 1 by rw [HT.out, hm]; rfl)
          clear cM hm
          go_wp2_with fail
          rw [← hwx]
          clear hwx
          refine wp_region_quiet_below (by kernel_rfl) (by kernel_rfl) ?_
          repeat (go_big_quiet_step (first | with_reducible exact kM _ _))
          refine wpQuiet_nil ?_
          intro _ hw'
          obtain ⟨⟨dq, osq⟩, hw''⟩ := hw'
          subst hw''
          have hb2 := hbxx.trans ((below_regrown wx dq osq).mono hbxx.size)
          generalize grow (redrawn wx dq) osq = V at *
          clear k0 k1 k2 l0 l1 l2 l3 l4 l5 l6 l7 l8 kM
          go_wp2_with fail
          go_roundw
          case rel => exact ⟨1, by omega, by go_num, HN, hb2⟩
          case measure => simp [intOf]; omega
      | succ j =>
        have hj : j < L.length := by omega
        have HT := Lib.hid (HU.out.trans (tailG_succ (p := p) (n := m) hlt))
        obtain ⟨⟨b0, b1, b2⟩, ⟨b3, b4, b5⟩, b6, b7, b8⟩ := hTx.nine hj
        have m0 := cell_regrown b0
        have mm1 := cell_regrown b1
        have m2 := cell_regrown b2
        have mm3 := cell_regrown b3
        have m4 := cell_regrown b4
        have m5 := cell_regrown b5
        have m6 := cell_regrown b6
        have m7 := cell_regrown b7
        have m8 := cell_regrown b8
        clear b0 b1 b2 b3 b4 b5 b6 b7 b8
        rw [hx] at HT
        clear hx
        generalize L[j] = y at *
        cases hm : isMat p m x
        · have kM := cM false hm
          have HX := Lib.hid (show isGrp p m L = false by rw [HY.out, HT.out, hm]; rfl)
          clear cM hm
          go_wp2_with fail
          rw [← hwx]
          clear hwx
          refine wp_region_quiet_below (by kernel_rfl) (by kernel_rfl) ?_
          repeat (go_big_quiet_step (first | with_reducible exact kM _ _))
          refine wpQuiet_nil ?_
          intro _ hw'
          obtain ⟨⟨dq, osq⟩, hw''⟩ := hw'
          subst hw''
          have hb2 := hbxx.trans ((below_regrown wx dq osq).mono hbxx.size)
          generalize grow (redrawn wx dq) osq = V at *
          clear k0 k1 k2 l0 l1 l2 l3 l4 l5 l6 l7 l8 m0 mm1 m2 mm3 m4 m5 m6 m7 m8 kM
          go_wp2_with fail
          go_ret
          exact ⟨by rw [HX.out]; rfl, hbW.trans (hb2.mono hbW.size)⟩
        · have kM := cM true hm
          have hs := bef_sign y x
          obtain ⟨R, hR⟩ : ∃ R, cmpM y x = R := ⟨_, rfl⟩
          have kB := icmp_r y x wx R hR
          rw [hR] at hs
          clear hR
          by_cases hc : R < 0
          · have hc' : ¬ (0 ≤ R) := by omega
            have HN := Lib.hid (show tailG p m L 0 = tailG p m L (j + 2) by rw [HT.out, hm, ← hs, decide_eq_true hc]; rfl)
            clear cM hm hs
            go_wp2_with fail
            rw [← hwx]
            clear hwx
            refine wp_region_quiet_below (by kernel_rfl) (by kernel_rfl) ?_
            repeat (go_big_quiet_step (first | with_reducible exact kM _ _ | with_reducible exact kB _ _))
            refine wpQuiet_nil ?_
            intro _ hw'
            obtain ⟨⟨dq, osq⟩, hw''⟩ := hw'
            subst hw''
            have hb2 := hbxx.trans ((below_regrown wx dq osq).mono hbxx.size)
            generalize grow (redrawn wx dq) osq = V at *
            clear k0 k1 k2 l0 l1 l2 l3 l4 l5 l6 l7 l8 m0 mm1 m2 mm3 m4 m5 m6 m7 m8 kM kB
            go_wp2_with fail
            go_roundw
            case rel => exact ⟨j + 2, by omega, by go_num, HN, hb2⟩
            case measure => simp [intOf]; omega
          · have hc' : 0 ≤ R := by omega
            have HX := Lib.hid (show isGrp p m L = false by rw [HY.out, HT.out, hm, ← hs, decide_eq_false hc]; rfl)
            clear cM hm hs
            go_wp2_with fail
            rw [← hwx]
            clear hwx
            refine wp_region_quiet_below (by kernel_rfl) (by kernel_rfl) ?_
            repeat (go_big_quiet_step (first | with_reducible exact kM _ _ | with_reducible exact kB _ _))
            refine wpQuiet_nil ?_
            intro _ hw'
            obtain ⟨⟨dq, osq⟩, hw''⟩ := hw'
            subst hw''
            have hb2 := hbxx.trans ((below_regrown wx dq osq).mono hbxx.size)
            generalize grow (redrawn wx dq) osq = V at *
            clear k0 k1 k2 l0 l1 l2 l3 l4 l5 l6 l7 l8 m0 mm1 m2 mm3 m4 m5 m6 m7 m8 kM kB
            go_wp2_with fail
            go_ret
            exact ⟨by rw [HX.out]; rfl, hbW.trans (hb2.mono hbW.size)⟩
    · obtain rfl : k = L.length := by omega
      have htl : tailG p m L 0 = true := by rw [HU.out]; exact tailG_end p m L
      have HALL := Lib.hid (tailG_all htl)
      have HZ := Lib.hid (show isGrp p m L = (decide (0 ≤ findM L (uM m)) && closedG p L) by rw [HY.out, htl]; rfl)
      clear htl
      have HMV := Lib.hid (fun x (hx : x ∈ L) => show MatV p m x from by
        obtain ⟨m', hm', hmv⟩ := matV_of (HBY.out x hx) (HALL.out x hx)
        obtain rfl : m = m' := by omega
        exact hmv)
      obtain ⟨g0, g1, g2⟩ := gcells (erow_below rW hb rW.lt)
      have hSr := hSW.below (hb.mono (Nat.le_refl _))
      go_wp2_with fail
      ((with_reducible refine (iclosed p m _ L _ hl hSr HMV.out m1 m3).mono ?_); rintro e w3 ⟨rfl, hb3⟩)
      have hb4 := hbW.trans ((hb.trans (hb3.mono hb.size)).mono hbW.size)
      go_wp2_with fail
      go_ret
      exact ⟨by rw [HZ.out]; rfl, hb4⟩
end Go.Proofs.YtbhgbifliihlbaaGreat
namespace Go.Proofs.YtbhgbifliihlbaaGreat
open Go.RowKit Go.Sort EchM

/-- The boxes of a group and of a polynomial. -/
theorem boxGP (w : World) (p n : Int) (v : Value) (q d : Int) (u : Value) : ∃ W, W = (w.alloc (.cells #[.int .i64 p, .int .i64 n, v] 35)).alloc (.cells #[.int .i64 q, .int .i64 d, u] 39) ∧ Below w.heap.size w W ∧ (W.heap.size ≤ w.heap.size + 2 ∧ w.heap.size + 2 ≤ W.heap.size) ∧
      W.rowIs w.heap.size 35 3 (grpF p n v) ∧ W.rowIs (w.heap.size + 1) 39 3 (polyF q d u) := by
  obtain ⟨U, hU, hbU, rg⟩ : ∃ U, U = w.alloc (.cells #[.int .i64 p, .int .i64 n, v] 35) ∧ Below w.heap.size w U ∧ U.rowIs w.heap.size 35 3 (grpF p n v) := ⟨_, rfl, ebox1 _ _, gbox w p n v _⟩
  have hs : U.heap.size = w.heap.size + 1 := by rw [hU]; simp
  obtain ⟨W, hW, hbW, ⟨s1, s2⟩, rx⟩ := newbox U q d u
  rw [hs] at rx s1 s2
  exact ⟨W, by rw [hW, hU], hbU.trans (hbW.mono hbU.size), ⟨by omega, by omega⟩, erow_below rg hbW rg.lt, rx⟩

set_option maxRecDepth 8000 in
set_option maxHeartbeats 4000000 in
theorem scode3 (p n : Int) (v : Value) (L : List (Nat → Nat → Int)) (q d : Int) (u : Value) (xs : List Tm) (w : World) (hl : L.length ≤ 1048576) (hS : SlM w v L) (hby : ∀ x ∈ L, Byt x) (hxl : xs.length ≤ 1048576) (hU : SliceT w u xs) (hxb : ∀ t ∈ xs, tmByte t) :
    Calls Tryz.prog 19 #[.agg #[.int .i64 p, .int .i64 n, v], .agg #[.int .i64 q, .int .i64 d, u]] w fun e w' => e = .returned (.int .i64 (actC p n L q d xs)) ∧ Below w.heap.size w w' := by
  obtain ⟨W, hW, hbW, ⟨hWs1, hWs2⟩, rg, rx⟩ := boxGP w p n v q d u
  have hSW := hS.below hbW
  have hUW := hU.below hbW
  obtain ⟨a, cap, rfl, _⟩ := id hS
  obtain ⟨ua, uc, rfl, _⟩ := id hU
  obtain ⟨g0, g1, g2⟩ := gcells rg
  have HBY := Lib.hid hby
  have HXB := Lib.hid hxb
  clear hby hxb
  go_enter Tryz.func19, Tryz.ntmps19
  go_wp2_with fail
  rw [← hW]
  clear hW
  ((with_reducible refine (sgroup p n _ L _ hl hSW HBY.out).mono ?_); rintro e w1 ⟨rfl, hb1⟩)
  have hbw1 := hbW.trans (hb1.mono hbW.size)
  have rg1 := erow_below rg hb1 rg.lt
  have rx1 := erow_below rx hb1 rx.lt
  have hU1 := hUW.below hb1
  clear g0 g1 g2
  cases hg : isGrp p n L
  · have HC := Lib.hid (actC_noG (q := q) (d := d) (xs := xs) hg)
    go_wp2_with fail
    go_ret
    exact ⟨by rw [HC.out]; rfl, hbw1⟩
  · obtain ⟨⟨x0, x1, x2⟩, _⟩ := poly3 rx1
    have HG := Lib.hid hg
    clear hg
    go_wp2_with fail
    ((with_reducible refine (specIs_any q d _ xs w1 hxl hU1 HXB.out).mono ?_); rintro e w2 ⟨rfl, hb2⟩)
    have hbw2 := hbw1.trans (hb2.mono hbw1.size)
    have rg2 := erow_below rg1 hb2 rg1.lt
    have rx2 := erow_below rx1 hb2 rx1.lt
    clear x0 x1 x2
    cases hx : isPolyB q d xs
    · have HC := Lib.hid (actC_noP HG.out hx)
      go_wp2_with fail
      go_ret
      exact ⟨by rw [HC.out]; rfl, hbw2⟩
    · obtain ⟨⟨x0, x1, x2⟩, _⟩ := poly3 rx2
      obtain ⟨g0, g1, g2⟩ := gcells rg2
      by_cases hpq : p = q
      · subst hpq
        have hpp : (p != p) = false := by simp
        by_cases hnd : n = d
        · subst hnd
          have hnn : (n != n) = false := by simp
          have HC := Lib.hid (actC_ok HG.out hx ⟨rfl, rfl⟩)
          go_wp2_with fail
          go_ret
          exact ⟨by rw [HC.out]; rfl, hbw2⟩
        · have hnn : (n != d) = true := by simpa using hnd
          have HC := Lib.hid (actC_out HG.out hx (fun h => hnd h.2))
          go_wp2_with fail
          go_ret
          exact ⟨by rw [HC.out]; rfl, hbw2⟩
      · have hpp : (p != q) = true := by simpa using hpq
        have HC := Lib.hid (actC_out (n := n) (d := d) HG.out hx (fun h => hpq h.1))
        go_wp2_with fail
        go_ret
        exact ⟨by rw [HC.out]; rfl, hbw2⟩

set_option maxRecDepth 8000 in
set_option maxHeartbeats 4000000 in
theorem icode3 (p n : Int) (v : Value) (L : List (Nat → Nat → Int)) (q d : Int) (u : Value) (xs : List Tm) (w : World) (hl : L.length ≤ 1048576) (hS : SlM w v L) (hby : ∀ x ∈ L, Byt x) (hxl : xs.length ≤ 1048576) (hU : SliceT w u xs) (hxb : ∀ t ∈ xs, tmByte t) :
    Calls Tryz.prog 27 #[.agg #[.int .i64 p, .int .i64 n, v], .agg #[.int .i64 q, .int .i64 d, u]] w fun e w' => e = .returned (.int .i64 (actC p n L q d xs)) ∧ Below w.heap.size w w' := by
  obtain ⟨W, hW, hbW, ⟨hWs1, hWs2⟩, rg, rx⟩ := boxGP w p n v q d u
  have hSW := hS.below hbW
  have hUW := hU.below hbW
  obtain ⟨a, cap, rfl, _⟩ := id hS
  obtain ⟨ua, uc, rfl, _⟩ := id hU
  obtain ⟨g0, g1, g2⟩ := gcells rg
  have HBY := Lib.hid hby
  have HXB := Lib.hid hxb
  clear hby hxb
  go_enter Tryz.func27, Tryz.ntmps27
  go_wp2_with fail
  rw [← hW]
  clear hW
  ((with_reducible refine (igroup p n _ L _ hl hSW HBY.out).mono ?_); rintro e w1 ⟨rfl, hb1⟩)
  have hbw1 := hbW.trans (hb1.mono hbW.size)
  have rg1 := erow_below rg hb1 rg.lt
  have rx1 := erow_below rx hb1 rx.lt
  have hU1 := hUW.below hb1
  clear g0 g1 g2
  cases hg : isGrp p n L
  · have HC := Lib.hid (actC_noG (q := q) (d := d) (xs := xs) hg)
    go_wp2_with fail
    go_ret
    exact ⟨by rw [HC.out]; rfl, hbw1⟩
  · obtain ⟨⟨x0, x1, x2⟩, _⟩ := poly3 rx1
    have HG := Lib.hid hg
    clear hg
    go_wp2_with fail
    ((with_reducible refine (isPoly_any q d _ xs w1 hxl hU1 HXB.out).mono ?_); rintro e w2 ⟨rfl, hb2⟩)
    have hbw2 := hbw1.trans (hb2.mono hbw1.size)
    have rg2 := erow_below rg1 hb2 rg1.lt
    have rx2 := erow_below rx1 hb2 rx1.lt
    clear x0 x1 x2
    cases hx : isPolyB q d xs
    · have HC := Lib.hid (actC_noP HG.out hx)
      go_wp2_with fail
      go_ret
      exact ⟨by rw [HC.out]; rfl, hbw2⟩
    · obtain ⟨⟨x0, x1, x2⟩, _⟩ := poly3 rx2
      obtain ⟨g0, g1, g2⟩ := gcells rg2
      by_cases hpq : p = q
      · subst hpq
        have hpp : (p != p) = false := by simp
        by_cases hnd : n = d
        · subst hnd
          have hnn : (n != n) = false := by simp
          have HC := Lib.hid (actC_ok HG.out hx ⟨rfl, rfl⟩)
          go_wp2_with fail
          go_ret
          exact ⟨by rw [HC.out]; rfl, hbw2⟩
        · have hnn : (n != d) = true := by simpa using hnd
          have HC := Lib.hid (actC_out HG.out hx (fun h => hnd h.2))
          go_wp2_with fail
          go_ret
          exact ⟨by rw [HC.out]; rfl, hbw2⟩
      · have hpp : (p != q) = true := by simpa using hpq
        have HC := Lib.hid (actC_out (n := n) (d := d) HG.out hx (fun h => hpq h.1))
        go_wp2_with fail
        go_ret
        exact ⟨by rw [HC.out]; rfl, hbw2⟩
end Go.Proofs.YtbhgbifliihlbaaGreat
namespace Go.Proofs.YtbhgbifliihlbaaGreat
open Go.RowKit Go.Sort Go.Maps EchM

theorem infoAct : (Tryz.prog.info? 65).map (fun i => (i.zero, i.size, i.bytes)) = some (some .nilFunc, 1, 8) := by kernel_rfl
def madeA (n : Nat) : Array Value := madeCells (Value.nilFunc).cells n
theorem madeA_row (w : World) (n : Nat) (t : TypeId) : (w.alloc (.cells (madeA n) t)).rowIs w.heap.size t n (fun i => (madeA n).getD i undef) := by
  have hs : (madeA n).size = n := by simp [madeA, madeCells]
  refine ⟨madeA n, heap_alloc_new w _, hs, fun i hi => ?_⟩
  simp [Array.getD, hs, hi]
/-- A list of actions that reads so. -/
def SlA (w : World) (v : Value) (p : Int) (n : Nat) (L : List (Nat → Nat → Int)) : Prop :=
  ∃ gb cap, v = .slice (some ⟨gb, 0, none⟩) L.length cap ∧ gb < w.heap.size ∧ ∀ (k : Nat) (h : k < L.length), ∃ B, w.cell? ⟨gb, k, none⟩ = some (actV B) ∧ ActW w B p n L[k]
theorem SlA.below {w w' : World} {v : Value} {p : Int} {n : Nat} {L : List (Nat → Nat → Int)} (h : SlA w v p n L) (hb : Below w.heap.size w w') : SlA w' v p n L := by
  obtain ⟨gb, cap, hv, hlt, hA⟩ := h
  refine ⟨gb, cap, hv, Nat.lt_of_lt_of_le hlt hb.size, fun k hk => ?_⟩
  obtain ⟨B, hc, hB⟩ := hA k hk
  exact ⟨B, (hb.cell (p := ⟨gb, k, none⟩) hlt).trans hc, hB.below hb⟩
/-- The first j actions of a row are there. -/
structure ActsW (w : World) (base gb : Nat) (p : Int) (n : Nat) (L : List (Nat → Nat → Int)) (j : Nat) (F : Nat → Value) : Prop where
  row : w.rowIs gb 65 L.length F
  at' : ∀ (i : Nat) (h : i < L.length), i < j → ∃ B, F i = actV B ∧ ActO w base B p n L[i]
  gt : gb < base
theorem ActsW.later {w w' : World} {base gb : Nat} {p : Int} {n : Nat} {L : List (Nat → Nat → Int)} {j : Nat} {F : Nat → Value} (h : ActsW w base gb p n L j F) (hb : Below w.heap.size w w') : ActsW w' base gb p n L j F :=
  ⟨rowIs_below h.row hb h.row.lt, fun i hi hij => by
    obtain ⟨B, a, b⟩ := h.at' i hi hij
    exact ⟨B, a, b.below hb⟩, h.gt⟩
theorem ActsW.put {w : World} {base b1 gb B : Nat} {p : Int} {n : Nat} {L : List (Nat → Nat → Int)} {j : Nat} {F : Nat → Value} (h : ActsW w base gb p n L j F) (hj : j < L.length) (ho : ActO w b1 B p n L[j]) (hb : base ≤ b1) :
    ActsW (w.setCell ⟨gb, j, none⟩ (actV B)) base gb p n L (j + 1) (fun i => if i = j then actV B else F i) := by
  have hg := gSame (World.grownBy.refl w (some gb)) j (actV B)
  refine ⟨h.row.set j _, fun i hi hij => ?_, h.gt⟩
  by_cases e : i = j
  · subst e
    exact ⟨B, if_pos rfl, (ho.kept hg (Nat.lt_of_lt_of_le h.gt hb)).low hb⟩
  · obtain ⟨B', a, b⟩ := h.at' i hi (by omega)
    exact ⟨B', (if_neg e).trans a, b.kept hg h.gt⟩
theorem ActsW.done {w : World} {base gb : Nat} {p : Int} {n : Nat} {L : List (Nat → Nat → Int)} {F : Nat → Value} (h : ActsW w base gb p n L L.length F) (cap : Nat) : SlA w (.slice (some ⟨gb, 0, none⟩) L.length cap) p n L :=
  ⟨gb, cap, rfl, h.row.lt, fun k hk => by
    obtain ⟨B, a, b⟩ := h.at' k hk hk
    exact ⟨B, by rw [h.row.cell hk, a], b.act⟩⟩

set_option maxRecDepth 8000 in
set_option maxHeartbeats 8000000 in
theorem iactions (p : Int) (n : Nat) (v : Value) (L : List (Nat → Nat → Int)) (w : World) (hl : L.length ≤ 1048576) (hS : SlM w v L) (hM : ∀ x ∈ L, MatP p n x) :
    Calls Tryz.prog 28 #[.agg #[.int .i64 p, .int .i64 (n : Int), v]] w fun e w' => ∃ v', e = .returned v' ∧ SlA w' v' p n L ∧ Below w.heap.size w w' := by
  obtain ⟨i0, hi, hz0, hz1, hz2⟩ := info_parts infoAct
  obtain ⟨a, cap, rfl, hc⟩ := id hS
  have hmk : ∀ w, (Instr.makeSlice 62 (.int .i64 (L.length : Int)) (.int .i64 (L.length : Int))).run Tryz.prog w = .ok (.slice (some ⟨w.heap.size, 0, none⟩) L.length L.length) (w.alloc (.cells (madeA L.length) 65)) := fun w => by
    have h := run_make (P := Tryz.prog) w 62 65 i0 _ Tryz.underlying62 hi hz0 .i64 .i64 (L.length : Int) (L.length : Int) (by omega) (by omega) (by rw [hz2]; omega) (by omega)
    rw [hz1] at h
    simpa [madeA, Value.cells] using h
  clear hi hz0 hz1 hz2
  obtain ⟨W, hW, rW, hbW⟩ : ∃ W, W = w.alloc (.cells #[.int .i64 p, .int .i64 (n : Int), .slice a L.length cap] 35) ∧ W.rowIs w.heap.size 35 3 (grpF p (n : Int) (.slice a L.length cap)) ∧ Below w.heap.size w W := ⟨_, rfl, gbox w p (n : Int) _ _, ebox1 _ _⟩
  have hmkW := hmk W
  obtain ⟨X, hX, hbX, hXs, rX⟩ : ∃ X, X = W.alloc (.cells (madeA L.length) 65) ∧ Below W.heap.size W X ∧ X.heap.size = W.heap.size + 1 ∧ X.rowIs W.heap.size 65 L.length (fun i => (madeA L.length).getD i undef) := ⟨_, rfl, box1 _ _, by simp, madeA_row W L.length _⟩
  rw [← hX] at hmkW
  have hst : ActsW X X.heap.size W.heap.size p n L 0 (fun i => (madeA L.length).getD i undef) := ⟨rX, fun i h h0 => by omega, by omega⟩
  have rWX := rowIs_below rW hbX rW.lt
  have hbwX := hbW.trans (hbX.mono hbW.size)
  have HM := Lib.hid hM
  obtain ⟨g0, g1, g2⟩ := gcells rW
  obtain ⟨k0, k1, k2⟩ := gcells rWX
  have hsW : w.heap.size < W.heap.size := rW.lt
  clear hmk hM rX
  go_enter Tryz.func28, Tryz.ntmps28
  go_upto_region 1 with fail
  rw [← hW]
  clear hW
  go_upto_region 2 with fail
  try rw [← hX]
  clear hX hmkW g0 g1 g2
  go_wp2_with fail
  clear k0 k1 k2
  go_loopw [13] (fun i wr => ∃ (k : Nat) (F : Nat → Value), k ≤ L.length ∧ i = .int .i64 k ∧ ActsW wr X.heap.size W.heap.size p n L k F ∧ X.grownBy wr (some W.heap.size)) (fun i _ => L.length - (intOf i).toNat)
  case atStart => exact ⟨0, _, by omega, rfl, hst, World.grownBy.refl _ _⟩
  case round =>
    clear hst
    obtain ⟨k, F, hk, rfl, hA, hgr⟩ := hrel
    by_cases hlt : k < L.length
    · have hlt' : (k : Int) < (L.length : Int) := by omega
      have hend := hbwX.grown hgr hbwX.size (fun g e => by simp at e; omega)
      obtain ⟨b, off, rfl, hbb, hT⟩ : ∃ b off, a = some ⟨b, off, none⟩ ∧ b < w.heap.size ∧ MatsW w b off L := by
        rcases hc with rfl | h
        · simp at hlt
        · exact h
      obtain ⟨⟨a0, a1, a2⟩, ⟨a3, a4, a5⟩, a6, a7, a8⟩ := (hT.below hend hbb).nine hlt
      have HMX := Lib.hid (HM.out L[k] (List.getElem_mem hlt))
      have HPUT := Lib.hid (fun (wx : World) (b1 B : Nat) (hx : ActsW wx X.heap.size W.heap.size p n L k F) (ho : ActO wx b1 B p n L[k]) (hb : X.heap.size ≤ b1) => hx.put hlt ho hb)
      generalize L[k] = x at *
      obtain ⟨V, hV, rV, hbV⟩ : ∃ V, V = wr.alloc (.cells #[.int .u8 (x 0 0), .int .u8 (x 0 1), .int .u8 (x 0 2), .int .u8 (x 1 0), .int .u8 (x 1 1), .int .u8 (x 1 2), .int .u8 (x 2 0), .int .u8 (x 2 1), .int .u8 (x 2 2)] 76) ∧ V.rowIs wr.heap.size 76 9 (mF x) ∧ Below wr.heap.size wr V := ⟨_, rfl, mbox wr x _, ebox1 _ _⟩
      have hAV := hA.later hbV
      have hgV := hgr.trans (gBelow hbV)
      have rWV := rowG rWX hgV (by omega)
      have hXs2 := hgV.size
      go_upto_region 5 with fail
      rw [← hV]
      clear hV a0 a1 a2 a3 a4 a5 a6 a7 a8 hA hgr hend
      obtain ⟨⟨a0, a1, a2⟩, ⟨a3, a4, a5⟩, a6, a7, a8⟩ := mcells rV
      obtain ⟨k0, k1, k2⟩ := gcells rWV
      go_wp2_with fail
      ((with_reducible refine (iactO p n x V HMX.out).mono ?_); rintro e w2 ⟨B, rfl, hO, hb2⟩)
      have hA2 := hAV.later hb2
      have hg2 := hgV.trans (gBelow hb2)
      have z0 := hA2.row.frozen k
      have c0 := hA2.row.cell (i := k) hlt
      have hP := HPUT.out w2 _ B hA2 hO hXs2
      have hG := gSame hg2 k (actV B)
      clear a0 a1 a2 a3 a4 a5 a6 a7 a8 k0 k1 k2 hAV hgV rV rWV hO hA2 hb2 hbV
      go_wp2_with fail
      go_roundw
      case rel => exact ⟨k + 1, _, by omega, by go_num, hP, hG⟩
      case measure => simp [intOf]; omega
    · obtain rfl : k = L.length := by omega
      have HD := Lib.hid (hA.done L.length)
      have hend := hbwX.grown hgr hbwX.size (fun g e => by simp at e; omega)
      clear hA
      go_wp2_with fail
      go_ret
      exact ⟨_, rfl, HD.out, hend⟩
end Go.Proofs.YtbhgbifliihlbaaGreat
namespace Go.Proofs.YtbhgbifliihlbaaGreat
open Go.RowKit Go.Sort Go.Maps EchM

/-- Whether a matrix leaves a polynomial. -/
noncomputable def fixB (p : Int) (m : Nat) (xs : List Tm) (x : Nat → Nat → Int) : Bool := sameT (ledF p m xs x) xs
theorem GrpP.act {p : Int} {m : Nat} {L : List (Nat → Nat → Int)} {xs : List Tm} (h : GrpP p m L xs) {x : Nat → Nat → Int} (hx : x ∈ L) (B : Nat) (v : Value) (w : World) (hA : ActW w B p m x) (hS : SliceT w v xs) :
    Calls Tryz.prog 72 #[.agg #[.int .i64 p, .int .i64 (m : Int), v], .pointer (some ⟨B, 0, none⟩)] w fun e w' =>
      ∃ v', e = .returned (.agg #[.int .i64 p, .int .i64 (m : Int), v']) ∧ OwnP w' w.heap.size v' (ledF p m xs x) ∧ Below w.heap.size w w' :=
  iactC p m x B v xs (ledF p m xs x) w (h.mat x hx) hA (Nat.le_trans h.xlen (by omega)) hS h.byte h.poly (h.led hx)
end Go.Proofs.YtbhgbifliihlbaaGreat
namespace Go.Proofs.YtbhgbifliihlbaaGreat
open Go.RowKit Go.Sort Go.Maps EchM

/-- A list of polynomials of a prime and letters, of the call's own; the blocks of the terms ascend and lie below hi. -/
structure PMk (w : World) (base hi : Nat) (p : Int) (n : Nat) (v : Value) (us : List Value) (Ls : List (List Tm)) : Prop where
  len : us.length = Ls.length
  rows : w.ownsRow base 39 3 v Ls.length (cellsQ p n us)
  own : ∀ (i : Nat) (h : i < us.length) (h' : i < Ls.length), OwnP w base us[i] Ls[i]
  top : ∀ (i : Nat) (h : i < us.length) (b : Nat), us[i].ownBlock = some b → b < hi
  asc : ∀ (i j : Nat) (hi' : i < us.length) (hj : j < us.length), i < j → ∀ b b', us[i].ownBlock = some b → us[j].ownBlock = some b' → b < b'
theorem PMk.nil (w : World) (base : Nat) (p : Int) (n : Nat) : PMk w base base p n (.slice none 0 0) [] [] :=
  ⟨rfl, World.ownsRow_nil _ _ _ _, fun i h => by simp at h, fun i h => by simp at h, fun i j h => by simp at h⟩
theorem PMk.nilB {w : World} {base b : Nat} {p : Int} {n : Nat} (h : w.ownsRow base 39 3 (.slice (some ⟨b, 0, none⟩) 0 0) 0 []) : PMk w base base p n (.slice (some ⟨b, 0, none⟩) 0 0) [] [] :=
  ⟨rfl, h, fun i h => by simp at h, fun i h => by simp at h, fun i j h => by simp at h⟩
theorem PMk.below {w w' : World} {base hi : Nat} {p : Int} {n : Nat} {v : Value} {us : List Value} {Ls : List (List Tm)} (h : PMk w base hi p n v us Ls) (hb : Below w.heap.size w w') : PMk w' base hi p n v us Ls :=
  ⟨h.len, owns_belowT h.rows hb, fun i hi hi' => owns_belowT (h.own i hi hi') hb, h.top, h.asc⟩
theorem PMk.low {w : World} {base base' hi : Nat} {p : Int} {n : Nat} {v : Value} {us : List Value} {Ls : List (List Tm)} (h : PMk w base hi p n v us Ls) (hb : base' ≤ base) : PMk w base' hi p n v us Ls :=
  ⟨h.len, owns_low h.rows hb, fun i hi hi' => owns_low (h.own i hi hi') hb, h.top, h.asc⟩
theorem PMk.kept {w w' : World} {base hi : Nat} {p : Int} {n : Nat} {v : Value} {us : List Value} {Ls : List (List Tm)} (h : PMk w base hi p n v us Ls) {b : Nat} (hg : w.grownBy w' (some b)) (hb : b < base) : PMk w' base hi p n v us Ls := by
  have q : ∀ (k : Nat) (x : Value), x.ownBlock = some k → base ≤ k → x.ownBlock = none ∨ x.ownBlock ≠ some b := fun k x hx hk => .inr (fun e => by rw [e] at hx; injection hx with hx; omega)
  have q' : ∀ {e : TypeId} {size m : Nat} {x : Value} {xs : List Value}, w.ownsRow base e size x m xs → x.ownBlock = none ∨ x.ownBlock ≠ some b := fun {_ _ _ x _} hx => by
    cases hxb : x.ownBlock with
    | none => exact .inl rfl
    | some k => exact .inr (fun e => by injection e with e; have := (hx.lt k hxb).1; omega)
  exact ⟨h.len, h.rows.kept hg (q' h.rows), fun i hi hi' => (h.own i hi hi').kept hg (q' (h.own i hi hi')), h.top, h.asc⟩
theorem PMk.more {w w2 : World} {base hi b1 hi2 : Nat} {p : Int} {n : Nat} {v v2 u : Value} {us : List Value} {Ls : List (List Tm)} {X : List Tm} (h : PMk w base hi p n v us Ls) (ho : OwnP w b1 u X) (h1 : hi ≤ b1) (hb : base ≤ b1) (h2 : w.heap.size ≤ hi2)
    (hg : w.grownBy w2 v.ownBlock) (hr : w2.ownsRow base 39 3 v2 (Ls.length + 1) (cellsQ p n us ++ [.int .i64 p, .int .i64 (n : Int), u])) : PMk w2 base hi2 p n v2 (us ++ [u]) (Ls ++ [X]) := by
  have hl := h.len
  have hu : ∀ b, u.ownBlock = some b → b1 ≤ b ∧ b < hi2 := fun b e => ⟨(ho.lt b e).1, Nat.lt_of_lt_of_le (ho.lt b e).2 h2⟩
  refine ⟨by simp [hl], by rw [cellsQ_snoc]; simpa using hr, fun i hi hi' => ?_, fun i hi b e => ?_, fun i j hi' hj hij b b' e e' => ?_⟩
  · simp at hi
    by_cases e : i = us.length
    · subst e
      rw [List.getElem_append_right (by omega), List.getElem_append_right (by omega)]
      simp only [Nat.sub_self, hl, List.getElem_cons_zero]
      exact owns_low (ho.kept hg (own_own ho h.rows (by decide))) hb
    · rw [List.getElem_append_left (by omega), List.getElem_append_left (by omega)]
      exact (h.own i (by omega) (by omega)).kept hg (own_own (h.own i (by omega) (by omega)) h.rows (by decide))
  · simp at hi
    by_cases e1 : i = us.length
    · subst e1
      rw [List.getElem_append_right (by omega)] at e
      simp only [Nat.sub_self, List.getElem_cons_zero] at e
      exact (hu b e).2
    · rw [List.getElem_append_left (by omega)] at e
      exact Nat.lt_of_lt_of_le ((h.own i (by omega) (by omega)).lt b e).2 h2
  · simp at hi' hj
    rw [List.getElem_append_left (by omega)] at e
    by_cases e1 : j = us.length
    · subst e1
      rw [List.getElem_append_right (by omega)] at e'
      simp only [Nat.sub_self, List.getElem_cons_zero] at e'
      have := h.top i (by omega) b e
      have := (hu b' e').1
      omega
    · rw [List.getElem_append_left (by omega)] at e'
      exact h.asc i j (by omega) (by omega) hij b b' e e'
theorem PMk.slP {w : World} {base hi : Nat} {p : Int} {n : Nat} {v : Value} {us : List Value} {Ls : List (List Tm)} (h : PMk w base hi p n v us Ls) : SlP w v (Ls.map fun X => (p, (n : Int), X)) := by
  have hl := h.len
  obtain ⟨_, ⟨rfl, h0⟩ | ⟨b, cap, cur, rfl, hb, hg, hc1, hc2, hsz, htk⟩⟩ := id h.rows
  · refine ⟨none, 0, by rw [List.length_map, h0], .inl ?_⟩
    apply List.eq_nil_of_length_eq_zero
    rw [List.length_map, h0]
  · refine ⟨_, cap, by rw [List.length_map], .inr ⟨b, 0, rfl, (Array.getElem?_eq_some_iff.1 hg).1, fun k hk => ?_⟩⟩
    rw [List.length_map] at hk
    have hk' : k < us.length := by omega
    rw [List.getElem_map]
    have key : ∀ j, j < 3 → ∀ u, ([Value.int .i64 p, .int .i64 (n : Int), us[k]] : List Value)[j]? = some u → w.cell? ⟨b, 0 + k * 3 + j, none⟩ = some u := fun j hj u hu => by
      have e2 : (cellsQ p n us)[k * 3 + j]? = some u := (cellsQ_get p n us k j hk' hj).trans hu
      have hlt : k * 3 + j < Ls.length * 3 := by omega
      rw [← htk, List.getElem?_take_of_lt hlt, Array.getElem?_toList] at e2
      simp [World.cell?, hg, e2]
    exact ⟨us[k], key 0 (by omega) _ rfl, key 1 (by omega) _ rfl, key 2 (by omega) _ rfl, OwnP.slice (h.own k hk' hk)⟩
theorem PMk.shape {w : World} {base hi : Nat} {p : Int} {n : Nat} {v : Value} {us : List Value} {Ls : List (List Tm)} (h : PMk w base hi p n v us Ls) : ∃ a c, v = .slice a Ls.length c := owns_slice h.rows
/-- A list of polynomials that reads so. -/
abbrev SlPn (w : World) (p : Int) (n : Nat) (v : Value) (Ls : List (List Tm)) : Prop := SlP w v (Ls.map fun X => (p, (n : Int), X))
/-- The polynomial k of such a list. -/
theorem SlP.nth {w : World} {p : Int} {n : Nat} {a : Option Addr} {m c : Nat} {Ls : List (List Tm)} (h : SlPn w p n (.slice a m c) Ls) {k : Nat} (hk : k < Ls.length) : ∃ b off u, a = some ⟨b, off, none⟩ ∧ b < w.heap.size ∧ m = Ls.length ∧ w.cell? ⟨b, off + k * 3, none⟩ = some (.int .i64 p) ∧ w.cell? ⟨b, off + k * 3 + 1, none⟩ = some (.int .i64 (n : Int)) ∧ w.cell? ⟨b, off + k * 3 + 2, none⟩ = some u ∧ SliceT w u Ls[k] := by
  obtain ⟨b, off, ha, hlt, hP, hm⟩ := SlP.at h (by rw [List.length_map]; omega)
  obtain ⟨u, h0, h1, h2, h3⟩ := hP k (by rw [List.length_map]; exact hk)
  rw [List.getElem_map] at h0 h1 h3
  exact ⟨b, off, u, ha, hlt, by rw [hm, List.length_map], h0, h1, h2, h3⟩
end Go.Proofs.YtbhgbifliihlbaaGreat
