/-
  GROUPS: the numbers of the matrices of a list, in a map, by the program. Conditions: as each theorem states.
-/
import Derived.Test.YtpbdbgajohacoaaGg
import Derived.Test.YtpbdbgajohacoaaGc
namespace Go.Proofs.Ytpbdbgajohacoaa
open Go.RowKit Go.Sort Go.Maps EchM

abbrev MapM (w : World) (b n : Nat) (D : DataW Unit) : Prop := w.ownsMap Try.prog 55 (plainElem Try.prog 2) b n D
theorem MapM.isMap {w : World} {b n : Nat} {D : DataW Unit} (h : MapM w b n D) : IsMap D := by
  obtain ⟨es, hD, _⟩ := h.entries lawM
  exact ⟨es, hD⟩
theorem eqM_iff {a b : Nat → Nat → Int} : eqM a b = true ↔ ∀ i j, i < 3 → j < 3 → a i j = b i j := by
  unfold eqM
  simp only [Bool.and_eq_true, beq_iff_eq]
  constructor
  · rintro ⟨⟨a0, a1, a2⟩, ⟨a3, a4, a5⟩, a6, a7, a8⟩ i j hi hj
    have hi' : i = 0 ∨ i = 1 ∨ i = 2 := by omega
    have hj' : j = 0 ∨ j = 1 ∨ j = 2 := by omega
    rcases hi' with rfl | rfl | rfl <;> rcases hj' with rfl | rfl | rfl <;> assumption
  · intro h
    exact ⟨⟨h 0 0 (by omega) (by omega), h 0 1 (by omega) (by omega), h 0 2 (by omega) (by omega)⟩, ⟨h 1 0 (by omega) (by omega), h 1 1 (by omega) (by omega), h 1 2 (by omega) (by omega)⟩, h 2 0 (by omega) (by omega), h 2 1 (by omega) (by omega), h 2 2 (by omega) (by omega)⟩
theorem Byt.byteM {g : Nat → Nat → Int} (h : Byt g) : byteM g := fun i j hi hj => h i hi j hj
/-- The last number of a matrix in a list's first k; -1 if it is not there. -/
def lastA (g : Nat → Nat → Int) (L : List (Nat → Nat → Int)) : Nat → Int
  | 0 => -1
  | k + 1 => match L[k]? with | some x => if eqM x g then (k : Int) else lastA g L k | none => -1
theorem lastA_step {g : Nat → Nat → Int} {L : List (Nat → Nat → Int)} {k : Nat} (h : k < L.length) : lastA g L (k + 1) = if eqM L[k] g then (k : Int) else lastA g L k := by
  rw [lastA, List.getElem?_eq_getElem h]
theorem lastA_bounds {g : Nat → Nat → Int} {L : List (Nat → Nat → Int)} : ∀ k, -1 ≤ lastA g L k ∧ lastA g L k < k := by
  intro k
  induction k with
  | zero => simp [lastA]
  | succ k ih =>
    rw [lastA]
    split
    · split <;> omega
    · omega
/-- What the map says of a list's first k. -/
def NumD (D : DataW Unit) (L : List (Nat → Nat → Int)) (k : Nat) : Prop :=
  ∀ g, byteM g → Maps.has D (kM g) = decide (0 ≤ lastA g L k) ∧ (0 ≤ lastA g L k → ∀ z, D.atKey (kM g) z = .lit (.int .i64 (lastA g L k)))
theorem NumD.start (L : List (Nat → Nat → Int)) : NumD (.map []) L 0 := fun g _ => ⟨by simp [Maps.has, lastA], fun h => by simp [lastA] at h⟩
theorem NumD.step {D : DataW Unit} {L : List (Nat → Nat → Int)} {k : Nat} (hD : IsMap D) (h : NumD D L k) (hk : k < L.length) (hb : byteM L[k]) : NumD (D.put (kM L[k]) (.lit (.int .i64 k))) L (k + 1) := by
  intro g hg
  rw [lastA_step hk]
  by_cases e : eqM L[k] g = true
  · rw [if_pos e, kM_congr (g := g) (h := L[k]) (fun i j hi hj => (eqM_iff.1 e i j hi hj).symm)]
    exact ⟨by rw [has_put_same hD (kM_key _)]; simp, fun _ z => atKey_put_same hD (kM_key _) _ _⟩
  · have hne : kM g ≠ kM L[k] := fun q => e (eqM_iff.2 fun i j hi hj => (kM_inj hg hb q i j hi hj).symm)
    rw [if_neg e, has_put_other hne]
    exact ⟨(h g hg).1, fun h0 z => by rw [atKey_put_other hne]; exact (h g hg).2 h0 z⟩
theorem rowM_not_map {w : World} {a b n m : Nat} {t : TypeId} {f : Nat → Value} {D : DataW Unit} (h : w.rowIs a t n f) (h' : MapM w b m D) : a ≠ b := by
  intro e
  subst e
  obtain ⟨c, hc, _⟩ := h
  obtain ⟨es, clock, hb, _⟩ := h'
  rw [hc] at hb
  simp at hb
theorem wf64M {n : Int} (h : 0 ≤ n) (h2 : n ≤ 9223372036854775807) : (Lit.int .i64 n).wf = true := by
  simp [Lit.wf, IntKind.min, IntKind.max, IntKind.bits, IntKind.signed]; omega

set_option maxRecDepth 8000 in
set_option maxHeartbeats 8000000 in
theorem inumbers (p n : Int) (v : Value) (L : List (Nat → Nat → Int)) (w : World) (hl : L.length ≤ 1048576) (hS : SlM w v L) (hby : ∀ x ∈ L, Byt x) :
    Calls Try.prog 103 #[.agg #[.int .i64 p, .int .i64 n, v]] w fun e w' =>
      ∃ b D, e = .returned (.map (some b)) ∧ w.heap.size ≤ b ∧ MapM w' b L.length D ∧ NumD D L L.length ∧ Below w.heap.size w w' := by
  have hmm := @run_makeMap Try.prog
  obtain ⟨W, hW, rW, hbW, hWs⟩ : ∃ W, W = w.alloc (.cells #[.int .i64 p, .int .i64 n, v] 26) ∧ W.rowIs w.heap.size 26 3 (grpF p n v) ∧ Below w.heap.size w W ∧ w.heap.size < W.heap.size := ⟨_, rfl, gbox w p n v _, ebox1 _ _, by simp⟩
  obtain ⟨V, hV, hMV, rV, hbV⟩ : ∃ V, V = W.alloc (.map #[] 0) ∧ MapM V W.heap.size 0 (.map []) ∧ V.rowIs w.heap.size 26 3 (grpF p n v) ∧ Below w.heap.size w V := ⟨_, rfl, World.ownsMap_made (H := Unit) W Try.prog 55 (plainElem Try.prog 2), rW.alloc _, hbW.alloc (Nat.le_of_lt hWs) _⟩
  have hSV := hS.below hbV
  obtain ⟨a, cap, rfl, hSc⟩ := id hS
  obtain ⟨g0, g1, g2⟩ := gcells rV
  have HBY := Lib.hid hby
  have hW0 := hW
  have hVs : W.heap.size < V.heap.size := by subst hV; simp
  clear hby
  go_enter Try.func103, Try.ntmps103
  go_wp2_with fail
  rw [← hW]
  go_wp2_with fail
  rw [← hV]
  clear hW hmm
  have hWz : W.heap.size = w.heap.size + 1 := by rw [hW0]; simp
  rw [hWz] at hMV hVs
  go_wp2_with fail
  go_loopw [10] (fun i wr => ∃ (k : Nat) (D : DataW Unit), k ≤ L.length ∧ i = .int .i64 k ∧ Hid (NumD D L k) ∧ MapM wr (w.heap.size + 1) k D ∧ V.grownBy wr (some (w.heap.size + 1))) (fun i _ => L.length - (intOf i).toNat)
  case atStart => exact ⟨0, _, by omega, rfl, Lib.hid (NumD.start L), hMV, ⟨rfl, rfl, rfl, Nat.le_refl _, fun _ _ _ => rfl⟩⟩
  case round =>
    obtain ⟨k, D1, hk, rfl, HD, hM1, hgr⟩ := hrel
    by_cases hlt : k < L.length
    · have hlt' : (k : Int) < (L.length : Int) := by omega
      obtain ⟨B, off, rfl, hbb, hT⟩ : ∃ b off, a = some ⟨b, off, none⟩ ∧ b < w.heap.size ∧ MatsW w b off L := by
        rcases hSc with rfl | h
        · simp at hlt
        · exact h
      have hne : B ≠ w.heap.size + 1 := by omega
      have hTr : MatsW wr B off L := fun q hq i j hi hj => (World.cell?_of_block (w := V) (a := ⟨B, _, none⟩) (hgr.block B (by omega) (by simpa using hne))).trans ((hT.below hbV hbb) q hq i j hi hj)
      obtain ⟨⟨a0, a1, a2⟩, ⟨a3, a4, a5⟩, a6, a7, a8⟩ := hTr.nine hlt
      have hbx := (HBY.out L[k] (List.getElem_mem _)).byteM
      have HN := Lib.hid (HD.out.step hM1.isMap hlt hbx)
      have hkey := keyOf_mv L[k] hbx
      unfold mv at hkey
      generalize L[k] = x at *
      have hM2 : MapM (wr.alloc (.cells #[.int .u8 (x 0 0), .int .u8 (x 0 1), .int .u8 (x 0 2), .int .u8 (x 1 0), .int .u8 (x 1 1), .int .u8 (x 1 2), .int .u8 (x 2 0), .int .u8 (x 2 1), .int .u8 (x 2 2)] 55)) (w.heap.size + 1) k D1 := hM1.alloc _
      clear HD hTr hT hSc hS hSV HBY g0 g1 g2 hV hW0
      go_wp2_with (at_mapUpdate; refine wpList_mapUpdate_own _ rfl _ _ _ 112 rfl 55 2 lawM Try.underlying112 (plainElem Try.prog 2) (w.heap.size + 1) k D1 rfl hM2 (by unfold maxLen; omega) (.agg #[.int .u8 (x 0 0), .int .u8 (x 0 1), .int .u8 (x 0 2), .int .u8 (x 1 0), .int .u8 (x 1 1), .int .u8 (x 1 2), .int .u8 (x 2 0), .int .u8 (x 2 1), .int .u8 (x 2 2)]) _ _ rfl rfl hkey _ [] (plainElem_int Try.underlying2 (wf64M (by omega) (by omega))) ?_; intro w2 hown2 hgrow2)
      go_roundw
      case rel =>
        exact ⟨k + 1, _, by omega, by go_num, HN, hown2, ⟨hgrow2.os.trans hgr.os, hgrow2.tape.trans hgr.tape, hgrow2.output.trans hgr.output, Nat.le_trans hgr.size (Nat.le_trans (by simp) hgrow2.size), fun q hq hn => (hgrow2.block q (Nat.lt_of_lt_of_le hq (Nat.le_trans hgr.size (by simp))) hn).trans (((World.grownBy_alloc wr _ (some (w.heap.size + 1))).block q (Nat.lt_of_lt_of_le hq hgr.size) hn).trans (hgr.block q hq hn))⟩⟩
      case measure => simp [intOf]; omega
    · obtain rfl : k = L.length := by omega
      have hD := HD.out
      have hBB : Below w.heap.size w wr := hbV.grown hgr (by omega) (fun q hq => by simp at hq; omega)
      clear HD
      go_wp2_with fail
      go_ret
      exact ⟨_, _, rfl, by omega, hM1, hD, hBB⟩
end Go.Proofs.Ytpbdbgajohacoaa
