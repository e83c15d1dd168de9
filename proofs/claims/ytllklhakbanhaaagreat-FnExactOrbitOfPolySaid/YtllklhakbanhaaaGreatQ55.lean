/-
  LISTS OF POLYNOMIALS of the call's own: marked, held. Conditions: as each theorem states.
  LISTS OF POLYNOMIALS in a law: compared. Conditions: as each theorem states.
  WALKS: 'impl.OrbitOfPoly', 'spec.OrbitOfPoly'. Conditions: the numbers fit their kinds.
-/
import Derived.Test.YtllklhakbanhaaaGreatQ40
import Derived.Test.YtllklhakbanhaaaGreatQ06
import Derived.Test.YtllklhakbanhaaaGreatQ14
import Derived.Test.YtllklhakbanhaaaGreatQ08
import Derived.Test.YtllklhakbanhaaaGreatQ42
import Derived.Deep.RegionWith
import Derived.Test.YtllklhakbanhaaaGreatQ52
namespace Go.Proofs.YtllklhakbanhaaaGreat
open Go.RowKit Go.Sort Go.Maps EchM

/-- The number of all terms. -/
def totT : List (List Tm) → Nat
  | [] => 0
  | X :: r => X.length + totT r
theorem totT_snoc (X : List Tm) : ∀ l : List (List Tm), totT (l ++ [X]) = totT l + X.length
  | [] => by simp [totT]
  | Y :: r => by rw [List.cons_append, totT, totT, totT_snoc X r, Nat.add_assoc]
theorem totT_take {Ls : List (List Tm)} {k : Nat} (h : k < Ls.length) : totT (Ls.take (k + 1)) = totT (Ls.take k) + Ls[k].length := by
  rw [List.take_succ_eq_append_getElem h, totT_snoc]
theorem totT_le {c : Nat} : ∀ {Ls : List (List Tm)}, (∀ X ∈ Ls, X.length ≤ c) → totT Ls ≤ Ls.length * c
  | [], _ => by simp [totT]
  | X :: r, h => by
    have h1 := h X (by simp)
    have h2 := totT_le (Ls := r) (fun Y hY => h Y (by simp [hY]))
    simp only [totT, List.length_cons, Nat.succ_mul]
    omega
/-- The mark with which the polynomial q begins. -/
def kap (Ls : List (List Tm)) (q : Nat) : Int := 1 + 2 * (q : Int) + 4 * (totT (Ls.take q) : Int)
theorem kap_succ {Ls : List (List Tm)} {k : Nat} (h : k < Ls.length) : kap Ls k + 1 + 1 + 4 * (Ls[k].length : Int) = kap Ls (k + 1) := by
  unfold kap; rw [totT_take h]; push_cast; omega
theorem MarksT.keepF {w w' : World} {v : Value} {n : Nat} {k0 : Int} {row : Option Nat} (h : MarksT w v n k0) (hg : w.grownBy w' row) (hne : v.ownBlock = none ∨ v.ownBlock ≠ row) : MarksT w' v n k0 := by
  rcases h with h | ⟨g, cap, rfl, hl, hc⟩
  · exact .inl h
  · refine .inr ⟨g, cap, rfl, Nat.lt_of_lt_of_le hl hg.size, fun j hj => ?_⟩
    have hb := hg.block g hl (by
      rcases hne with h | h
      · simp [Value.ownBlock] at h
      · simpa [Value.ownBlock] using h)
    exact (World.cell?_of_block (w := w) (a := ⟨g, j, none⟩) hb).trans (hc j hj)
/-- A list of polynomials in the marking: the first k are marked, the others still the call's own. -/
structure MrkP (w : World) (base g N : Nat) (us : List Value) (Ls : List (List Tm)) (k : Nat) (F : Nat → Value) : Prop where
  row : w.rowIs g 39 N F
  big : Ls.length * 3 ≤ N
  len : us.length = Ls.length
  hd : ∀ (q : Nat) (h : q < us.length), F (q * 3 + 2) = us[q]
  fin : ∀ (q : Nat) (h : q < us.length) (h' : q < Ls.length), q < k → F (q * 3) = .int .i64 (kap Ls q) ∧ F (q * 3 + 1) = .int .i64 (kap Ls q + 1) ∧ MarksT w us[q] Ls[q].length (kap Ls q + 1 + 1)
  todo : ∀ (q : Nat) (h : q < us.length) (h' : q < Ls.length), k ≤ q → OwnG w base us[q] Ls[q].length
  gb : base ≤ g
  ne : ∀ (q : Nat) (h : q < us.length), us[q].ownBlock ≠ some g
  dis : ∀ (q r : Nat) (hq : q < us.length) (hr : r < us.length), q ≠ r → ∀ b, us[q].ownBlock = some b → us[r].ownBlock ≠ some b
theorem MrkP.below {w w' : World} {base g N : Nat} {us : List Value} {Ls : List (List Tm)} {k : Nat} {F : Nat → Value} (h : MrkP w base g N us Ls k F) (hb : Below w.heap.size w w') : MrkP w' base g N us Ls k F :=
  ⟨rowIs_below h.row hb h.row.lt, h.big, h.len, h.hd, fun q hq hq' hk => ⟨(h.fin q hq hq' hk).1, (h.fin q hq hq' hk).2.1, (h.fin q hq hq' hk).2.2.below hb⟩, fun q hq hq' hk => (h.todo q hq hq' hk).below hb, h.gb, h.ne, h.dis⟩
theorem set2G (w : World) (g i j : Nat) (x y : Value) : w.grownBy ((w.setCell ⟨g, i, none⟩ x).setCell ⟨g, j, none⟩ y) (some g) :=
  ⟨rfl, rfl, rfl, by simp only [World.size_setCell]; exact Nat.le_refl _, fun k hk hne => (Below.heap_setCell _ ⟨g, j, none⟩ y k (fun e => hne (by rw [e]))).trans (Below.heap_setCell w ⟨g, i, none⟩ x k (fun e => hne (by rw [e])))⟩
theorem MrkP.next {w w' : World} {base g N : Nat} {us : List Value} {Ls : List (List Tm)} {k : Nat} {F : Nat → Value} (h : MrkP w base g N us Ls k F) (hk : k < us.length) (hk' : k < Ls.length)
    (hm : MarksT w' us[k] Ls[k].length (kap Ls k + 1 + 1)) (hg : ((w.setCell ⟨g, k * 3, none⟩ (.int .i64 (kap Ls k))).setCell ⟨g, k * 3 + 1, none⟩ (.int .i64 (kap Ls k + 1))).grownBy w' us[k].ownBlock) : ∃ F', MrkP w' base g N us Ls (k + 1) F' := by
  have hg0 := set2G w g (k * 3) (k * 3 + 1) (.int .i64 (kap Ls k)) (.int .i64 (kap Ls k + 1))
  have hrow := (h.row.set (k * 3) (.int .i64 (kap Ls k))).set (k * 3 + 1) (.int .i64 (kap Ls k + 1))
  have nk : ∀ (q : Nat) (hq : q < us.length), q ≠ k → us[q].ownBlock = none ∨ us[q].ownBlock ≠ us[k].ownBlock := fun q hq hqk => by
    cases hb : us[q].ownBlock with
    | none => exact .inl rfl
    | some b => exact .inr (fun e => h.dis q k hq hk hqk b hb e.symm)
  refine ⟨_, hrow.of_block (hg.block g hrow.lt (fun e => h.ne k hk e.symm)), h.big, h.len, fun q hq => ?_, fun q hq hq' hqk => ?_, fun q hq hq' hqk => ?_, h.gb, h.ne, h.dis⟩
  · simp only [if_neg (show ¬ q * 3 + 2 = k * 3 + 1 by omega), if_neg (show ¬ q * 3 + 2 = k * 3 by omega)]
    exact h.hd q hq
  · by_cases e : q = k
    · subst e
      refine ⟨?_, ?_, hm⟩
      · simp only [if_neg (show ¬ q * 3 = q * 3 + 1 by omega), if_true]
      · simp only [if_true]
    · obtain ⟨a, b, c⟩ := h.fin q hq hq' (by omega)
      refine ⟨?_, ?_, (c.keepF hg0 (.inr (h.ne q hq))).keepF hg (nk q hq e)⟩
      · simp only [if_neg (show ¬ q * 3 = k * 3 + 1 by omega), if_neg (show ¬ q * 3 = k * 3 by omega)]; exact a
      · simp only [if_neg (show ¬ q * 3 + 1 = k * 3 + 1 by omega), if_neg (show ¬ q * 3 + 1 = k * 3 by omega)]; exact b
  · exact ((h.todo q hq hq' (by omega)).keep hg0 (.inr (h.ne q hq))).keep hg (nk q hq (by omega))
theorem PMk.mrk {w : World} {base hi : Nat} {p : Int} {n : Nat} {v : Value} {us : List Value} {Ls : List (List Tm)} (h : PMk w base hi p n v us Ls) (h0 : 0 < Ls.length) : ∃ g cap N F, v = .slice (some ⟨g, 0, none⟩) Ls.length cap ∧ MrkP w base g N us Ls 0 F := by
  have hl := h.len
  obtain ⟨_, ⟨_, hz⟩ | ⟨b, cap, cur, hv, hb, hg, hc1, hc2, hsz, htk⟩⟩ := id h.rows
  · omega
  · have hlt : b < w.heap.size := (Array.getElem?_eq_some_iff.1 hg).1
    have hrow : w.rowIs b 39 (cap * 3) (fun i => cur.getD i undef) := ⟨cur, hg, hsz, fun i hi => by simp [Array.getD, hsz, hi]⟩
    refine ⟨b, cap, cap * 3, _, hv, hrow, by omega, hl, fun q hq => ?_, fun q hq hq' hk => by omega, fun q hq hq' _ => OwnG.of_owns (h.own q hq hq'), hb, fun q hq e => ?_, fun q r hq hr hqr x e1 e2 => ?_⟩
    · have e2 : (cellsQ p n us)[q * 3 + 2]? = some us[q] := (cellsQ_get p n us q 2 hq (by omega)).trans rfl
      have hlt2 : q * 3 + 2 < Ls.length * 3 := by omega
      rw [← htk, List.getElem?_take_of_lt hlt2, Array.getElem?_toList] at e2
      simp [Array.getD_eq_getD_getElem?, e2]
    · have := own_own (h.own q hq (by omega)) h.rows (by decide)
      rw [hv] at this
      rcases this with h1 | h1
      · rw [h1] at e; simp at e
      · exact h1 (by rw [e]; rfl)
    · rcases Nat.lt_or_gt_of_ne hqr with hlt' | hlt'
      · exact absurd (h.asc q r hq hr hlt' x x e1 e2) (by omega)
      · exact absurd (h.asc r q hr hq hlt' x x e2 e1) (by omega)
/-- A list of marked polynomials. -/
def MkdQ (w : World) (v : Value) (Ls : List (List Tm)) : Prop :=
  (Ls = [] ∧ ∃ a c, v = .slice a 0 c) ∨ ∃ base g cap N us F, v = .slice (some ⟨g, 0, none⟩) Ls.length cap ∧ MrkP w base g N us Ls Ls.length F
theorem MkdQ.below {w w' : World} {v : Value} {Ls : List (List Tm)} (h : MkdQ w v Ls) (hb : Below w.heap.size w w') : MkdQ w' v Ls := by
  rcases h with h | ⟨base, g, cap, N, us, F, hv, hM⟩
  · exact .inl h
  · exact .inr ⟨base, g, cap, N, us, F, hv, hM.below hb⟩

set_option maxRecDepth 8000 in
set_option maxHeartbeats 4000000 in
theorem mark_rows (base g cap N : Nat) (us : List Value) (Ls : List (List Tm)) (F : Nat → Value) (w : World) (hl : Ls.length ≤ 1000) (hX : ∀ X ∈ Ls, X.length ≤ 100000) (hb : base ≤ w.heap.size) (hM : MrkP w base g N us Ls 0 F) :
    Calls Tryz.prog 23 #[.slice (some ⟨g, 0, none⟩) Ls.length cap, .int .i64 1] w fun e w' => e = .returned (.int .i64 (kap Ls Ls.length)) ∧ (∃ F', MrkP w' base g N us Ls Ls.length F') ∧ Below base w w' := by
  have HX := Lib.hid hX
  have HK := Lib.hid (fun k (hk : k ≤ Ls.length) => show 0 ≤ kap Ls k ∧ kap Ls k ≤ 500000000 from by
    have h1 := totT_le (Ls := Ls.take k) (c := 100000) (fun X h => hX X (List.mem_of_mem_take h))
    rw [List.length_take] at h1
    have h2 : min k Ls.length * 100000 ≤ 1000 * 100000 := Nat.mul_le_mul_right _ (by omega)
    unfold kap
    omega)
  have h00 : kap Ls 0 = 1 := by simp [kap, totT]
  have HM0 := Lib.hid hM
  clear hM hX
  go_enter Tryz.func23, Tryz.ntmps23
  go_wp2_with fail
  go_loopw [1, 5] (fun m i wr => ∃ k : Nat, k ≤ Ls.length ∧ i = .int .i64 k ∧ m = .int .i64 (kap Ls k) ∧ (∃ F', MrkP wr base g N us Ls k F') ∧ Below base w wr) (fun _ i _ => Ls.length - (intOf i).toNat)
  case atStart => exact ⟨0, by omega, rfl, by rw [h00], ⟨_, HM0.out⟩, Below.refl _ _⟩
  case round =>
    clear HM0 h00
    obtain ⟨k, hk, rfl, hm, ⟨F', hM⟩, hbr⟩ := hrel
    obtain ⟨K0, hK0⟩ : ∃ K0, kap Ls k = K0 := ⟨_, rfl⟩
    rw [hK0] at hm
    subst u1
    obtain ⟨b0, b1⟩ := HK.out k hk
    rw [hK0] at b0 b1
    by_cases hlt : k < Ls.length
    · have hlt' : (k : Int) < (Ls.length : Int) := by omega
      have hku : k < us.length := by have := hM.len; omega
      have HS := Lib.hid (kap_succ hlt)
      have HHD := hM.hd k hku
      have f0 := hM.row.frozen (k * 3)
      have f1 := hM.row.frozen (k * 3 + 1)
      have hbig := hM.big
      have d0 := hM.row.cell (i := k * 3) (by omega)
      have d1 := hM.row.cell (i := k * 3 + 1) (by omega)
      have d2 := hM.row.cell (i := k * 3 + 2) (by omega)
      rw [HHD] at d2
      have hT := hM.todo k hku hlt (Nat.le_refl _)
      have hlk := HX.out _ (List.getElem_mem hlt)
      have HNX := Lib.hid (fun w' h1 h2 => hM.next (w' := w') hku hlt h1 h2)
      have hgb := hM.gb
      have HTT : ∀ x y, OwnG ((wr.setCell ⟨g, k * 3, none⟩ x).setCell ⟨g, k * 3 + 1, none⟩ y) base us[k] Ls[k].length := fun x y => hT.keep (set2G wr g (k * 3) (k * 3 + 1) x y) (.inr (hM.ne k hku))
      have HBL := Lib.hid (fun w' x y (hg : ((wr.setCell ⟨g, k * 3, none⟩ x).setCell ⟨g, k * 3 + 1, none⟩ y).grownBy w' us[k].ownBlock) => show Below base w w' from
        ((hbr.grown (set2G wr g (k * 3) (k * 3 + 1) x y) (Nat.le_trans hb hbr.size) (fun q e => by simp at e; omega)).grown hg (by simp only [World.size_setCell]; exact Nat.le_trans hb hbr.size) (fun q e => (hT.lt q e).1)))
      rw [hK0] at HS HNX
      obtain ⟨U, hU⟩ : ∃ U, us[k] = U := ⟨_, rfl⟩
      rw [hU] at d2 HTT HBL HNX
      obtain ⟨n, hn⟩ : ∃ n, Ls[k].length = n := ⟨_, rfl⟩
      rw [hn] at hlk HTT HNX HS
      obtain ⟨ua, ul, uc, rfl⟩ : ∃ a l c, U = .slice a l c := by
        rcases HTT undef undef with ⟨h, _⟩ | ⟨_, _, _, _, h, _⟩
        · exact ⟨_, _, _, h⟩
        · exact ⟨_, _, _, h⟩
      clear hM hT HHD hU hn hK0
      go_wp2_with fail
      ((with_reducible refine (markS_own _ _ (HTT _ _) (by omega) (by omega) (by omega)).mono ?_); rintro e w2 ⟨rfl, hm2, hg⟩)
      have HF := Lib.hid (HNX.out w2 hm2 hg)
      have HI := Lib.hid (HBL.out w2 _ _ hg)
      clear HNX HBL hg hm2 d0 d1 d2 f0 f1 HTT
      go_wp2_with fail
      go_roundw
      case rel => exact ⟨k + 1, by omega, by go_num, by rw [← HS.out], HF.out, HI.out⟩
      case measure => simp [intOf]; omega
    · obtain rfl : k = Ls.length := by omega
      have HK1 := Lib.hid hK0
      go_wp2_with fail
      go_ret
      exact ⟨by rw [HK1.out]; rfl, ⟨_, hM⟩, hbr⟩

set_option maxRecDepth 8000 in
set_option maxHeartbeats 4000000 in
theorem held_rows (base g cap N : Nat) (us : List Value) (Ls : List (List Tm)) (F : Nat → Value) (w : World) (hl : Ls.length ≤ 1000) (hX : ∀ X ∈ Ls, X.length ≤ 100000) (hM : MrkP w base g N us Ls Ls.length F) :
    Calls Tryz.prog 24 #[.slice (some ⟨g, 0, none⟩) Ls.length cap, .int .i64 1] w fun e w' => e = .returned (.int .i64 (kap Ls Ls.length)) ∧ w' = w := by
  have HX := Lib.hid hX
  have HK := Lib.hid (fun k (hk : k ≤ Ls.length) => show 0 ≤ kap Ls k ∧ kap Ls k ≤ 500000000 from by
    have h1 := totT_le (Ls := Ls.take k) (c := 100000) (fun X h => hX X (List.mem_of_mem_take h))
    rw [List.length_take] at h1
    have h2 : min k Ls.length * 100000 ≤ 1000 * 100000 := Nat.mul_le_mul_right _ (by omega)
    unfold kap
    omega)
  have h00 : kap Ls 0 = 1 := by simp [kap, totT]
  clear hX
  go_enter Tryz.func24, Tryz.ntmps24
  go_wp2_with fail
  go_loopw [1, 5] (fun m i wr => ∃ k : Nat, k ≤ Ls.length ∧ i = .int .i64 k ∧ m = .int .i64 (kap Ls k) ∧ wr = w) (fun _ i _ => Ls.length - (intOf i).toNat)
  case atStart => exact ⟨0, by omega, rfl, by rw [h00], rfl⟩
  case round =>
    clear h00
    obtain ⟨k, hk, rfl, hm, hwr⟩ := hrel
    subst hwr
    obtain ⟨K0, hK0⟩ : ∃ K0, kap Ls k = K0 := ⟨_, rfl⟩
    rw [hK0] at hm
    subst u1
    obtain ⟨b0, b1⟩ := HK.out k hk
    rw [hK0] at b0 b1
    by_cases hlt : k < Ls.length
    · have hlt' : (k : Int) < (Ls.length : Int) := by omega
      have hku : k < us.length := by have := hM.len; omega
      have HS := Lib.hid (kap_succ hlt)
      have HHD := hM.hd k hku
      have hbig := hM.big
      have d0 := hM.row.cell (i := k * 3) (by omega)
      have d1 := hM.row.cell (i := k * 3 + 1) (by omega)
      have d2 := hM.row.cell (i := k * 3 + 2) (by omega)
      obtain ⟨e0, e1, hT⟩ := hM.fin k hku hlt hlt
      rw [e0, hK0] at d0
      rw [e1, hK0] at d1
      rw [HHD] at d2
      rw [hK0] at hT HS
      have hlk := HX.out _ (List.getElem_mem hlt)
      have n0 : (K0 != K0) = false := by simp
      have n1 : (K0 + 1 != K0 + 1) = false := by simp
      obtain ⟨U, hU⟩ : ∃ U, us[k] = U := ⟨_, rfl⟩
      rw [hU] at d2 hT
      obtain ⟨n, hn⟩ : ∃ n, Ls[k].length = n := ⟨_, rfl⟩
      rw [hn] at hlk hT HS
      obtain ⟨ua, ul, uc, rfl⟩ : ∃ a l c, U = .slice a l c := by
        rcases hT with ⟨h, _⟩ | ⟨_, _, h, _⟩
        · exact ⟨_, _, _, h⟩
        · exact ⟨_, _, _, h⟩
      have hnn : ¬ K0 + 1 + 1 + 4 * (n : Int) < 0 := by omega
      clear HHD hU hn hK0 e0 e1
      go_wp2_with fail
      ((with_reducible refine (heldS_marks _ hT (by omega) (by omega) (by omega)).mono ?_); rintro e w2 ⟨rfl, hw2⟩)
      subst hw2
      go_wp2_with fail
      go_roundw
      case rel => exact ⟨k + 1, by omega, by go_num, by rw [← HS.out], trivial⟩
      case measure => simp [intOf]; omega
    · obtain rfl : k = Ls.length := by omega
      have HK1 := Lib.hid hK0
      go_wp2_with fail
      go_ret
      exact ⟨by rw [HK1.out]; rfl, rfl⟩
theorem mark_none (a : Option Addr) (c : Nat) (w : World) : Calls Tryz.prog 23 #[.slice a 0 c, .int .i64 1] w fun e w' => e = .returned (.int .i64 1) ∧ w' = w := by
  go_enter Tryz.func23, Tryz.ntmps23
  go_wp2
  refine wp_loop_rounds 1 ?_
  rw [rounds_succ]
  go_wp2
  go_ret
  exact ⟨rfl, rfl⟩
theorem held_none (a : Option Addr) (c : Nat) (w : World) : Calls Tryz.prog 24 #[.slice a 0 c, .int .i64 1] w fun e w' => e = .returned (.int .i64 1) ∧ w' = w := by
  go_enter Tryz.func24, Tryz.ntmps24
  go_wp2
  refine wp_loop_rounds 1 ?_
  rw [rounds_succ]
  go_wp2
  go_ret
  exact ⟨rfl, rfl⟩
theorem PMk.mark {w : World} {base hi : Nat} {p : Int} {n : Nat} {v : Value} {us : List Value} {Ls : List (List Tm)} (h : PMk w base hi p n v us Ls) (hl : Ls.length ≤ 1000) (hX : ∀ X ∈ Ls, X.length ≤ 100000) (hb : base ≤ w.heap.size) :
    Calls Tryz.prog 23 #[v, .int .i64 1] w fun e w' => e = .returned (.int .i64 (kap Ls Ls.length)) ∧ MkdQ w' v Ls ∧ Below base w w' := by
  by_cases h0 : 0 < Ls.length
  · obtain ⟨g, cap, N, F, rfl, hM⟩ := h.mrk h0
    exact (mark_rows base g cap N us Ls F w hl hX hb hM).mono fun e w' ⟨he, ⟨F', hM'⟩, hbl⟩ => ⟨he, .inr ⟨base, g, cap, N, us, F', rfl, hM'⟩, hbl⟩
  · have hnil : Ls = [] := List.eq_nil_of_length_eq_zero (by omega)
    subst hnil
    obtain ⟨a, c, rfl⟩ := h.shape
    exact (mark_none a c w).mono fun e w' ⟨he, hw⟩ => ⟨by rw [he]; simp [kap, totT], .inl ⟨rfl, a, c, rfl⟩, by rw [hw]; exact Below.refl _ _⟩
theorem MkdQ.held {w : World} {v : Value} {Ls : List (List Tm)} (h : MkdQ w v Ls) (hl : Ls.length ≤ 1000) (hX : ∀ X ∈ Ls, X.length ≤ 100000) :
    Calls Tryz.prog 24 #[v, .int .i64 1] w fun e w' => e = .returned (.int .i64 (kap Ls Ls.length)) ∧ w' = w := by
  rcases h with ⟨rfl, a, c, rfl⟩ | ⟨base, g, cap, N, us, F, rfl, hM⟩
  · exact (held_none a c w).mono fun e w' ⟨he, hw⟩ => ⟨by rw [he]; simp [kap, totT], hw⟩
  · exact held_rows base g cap N us Ls F w hl hX hM
theorem kap_pos (Ls : List (List Tm)) (k : Nat) : 0 ≤ kap Ls k := by unfold kap; omega
end Go.Proofs.YtllklhakbanhaaaGreat
namespace Go.Proofs.YtllklhakbanhaaaGreat
open Go.RowKit Go.Sort

theorem eqPoly_r (p d : Int) (u u' : Value) (l : List Tm) (W : World) (hl : l.length ≤ 1048576) (hS : SliceT W u l) (hS' : SliceT W u' l) : ∀ dd os,
    Calls Tryz.prog 20 #[.agg #[.int .i64 p, .int .i64 d, u], .agg #[.int .i64 p, .int .i64 d, u']] (grow (redrawn W dd) os) fun e w'' => e = .returned (.bool true) ∧ ∃ q : Regrown, w'' = grow (redrawn W q.d) q.os := fun dd os =>
  Calls.regrown_of (eqPoly_same p d u u' l _ hl (hS.below (below_regrown W dd os)) (hS'.below (below_regrown W dd os)))

set_option maxRecDepth 8000 in
set_option maxHeartbeats 4000000 in
theorem eqpolys (v v' : Value) (G : List Pm) (w : World) (hl : G.length ≤ 1048576) (hlr : ∀ g ∈ G, g.2.2.length ≤ 1048576) (hS : SlP w v G) (hS' : SlP w v' G) :
    Calls Tryz.prog 18 #[v, v'] w fun e w' => e = .returned (.bool true) ∧ Below w.heap.size w w' := by
  have hnn : ((G.length : Int) != (G.length : Int)) = false := by simp
  obtain ⟨a, cap, rfl, hSc⟩ := id hS
  obtain ⟨a', cap', rfl, hSc'⟩ := id hS'
  go_enter Tryz.func18, Tryz.ntmps18
  go_wp2_with fail
  go_loopw [5] (fun i wr => ∃ k : Nat, k ≤ G.length ∧ i = .int .i64 k ∧ Below w.heap.size w wr) (fun i _ => G.length - (intOf i).toNat)
  case atStart => exact ⟨0, by omega, rfl, Below.refl _ _⟩
  case round =>
    obtain ⟨k, hk, rfl, hbel⟩ := hrel
    by_cases hlt : k < G.length
    · have hlt' : (k : Int) < (G.length : Int) := by omega
      obtain ⟨b, off, rfl, hbb, hT⟩ : ∃ b off, a = some ⟨b, off, none⟩ ∧ b < w.heap.size ∧ PolysW w b off G := by
        rcases hSc with rfl | h
        · simp at hlt
        · exact h
      obtain ⟨b', off', rfl, hbb', hT'⟩ : ∃ b off, a' = some ⟨b, off, none⟩ ∧ b < w.heap.size ∧ PolysW w b off G := by
        rcases hSc' with rfl | h
        · simp at hlt
        · exact h
      obtain ⟨u, c0, c1, c2, s0⟩ := (hT.below hbel hbb) k hlt
      obtain ⟨u', c3, c4, c5, s1⟩ := (hT'.below hbel hbb') k hlt
      have kE := eqPoly_r G[k].1 G[k].2.1 u u' G[k].2.2 wr (hlr _ (List.getElem_mem hlt)) s0 s1
      clear s0 s1
      have e0 := cell_regrown c0
      have e1 := cell_regrown c1
      have e2 := cell_regrown c2
      have e3 := cell_regrown c3
      have e4 := cell_regrown c4
      have e5 := cell_regrown c5
      clear c0 c1 c2 c3 c4 c5
      go_wp2_with fail
      refine wp_region_quiet_below (by kernel_rfl) (by kernel_rfl) ?_
      repeat (go_big_quiet_step (with_reducible exact kE _ _))
      refine wpQuiet_nil ?_
      intro _ hw'
      obtain ⟨⟨dq, osq⟩, hw''⟩ := hw'
      subst hw''
      have hb2 := hbel.trans ((below_regrown wr dq osq).mono hbel.size)
      generalize grow (redrawn wr dq) osq = V at *
      clear e0 e1 e2 e3 e4 e5 kE
      go_wp2_with fail
      go_roundw
      case rel => exact ⟨k + 1, by omega, by go_num, hb2⟩
      case measure => simp [intOf]; omega
    · obtain rfl : k = G.length := by omega
      go_wp2_with fail
      go_ret
      exact ⟨rfl, hbel⟩
end Go.Proofs.YtllklhakbanhaaaGreat
namespace Go.Proofs.YtllklhakbanhaaaGreat
open Go.RowKit Go.Sort Go.Maps EchM

/-- The orbit, or nothing. -/
noncomputable def orbO (p n : Int) (L : List (Nat → Nat → Int)) (q d : Int) (xs : List Tm) : List (List Tm) := if actC p n L q d xs = 0 then orbL (allL p n.toNat L xs) else []
theorem orbO_len {p n : Int} {L : List (Nat → Nat → Int)} {q d : Int} {xs : List Tm} (hby : ∀ x ∈ L, Byt x) (hxb : ∀ t ∈ xs, tmByte t) : (orbO p n L q d xs).length ≤ 48 ∧ ∀ X ∈ orbO p n L q d xs, X.length ≤ 2197 := by
  unfold orbO
  by_cases hc : actC p n L q d xs = 0
  · rw [if_pos hc]
    obtain ⟨m, rfl, rfl, rfl, hG⟩ := grpP_of hby hxb hc
    exact ⟨hG.orb48, fun X hX => (hG.orbV X hX).isP.len⟩
  · rw [if_neg hc]; simp
/-- A list of polynomials of the call's own. -/
def OwnQ (w : World) (base : Nat) (p : Int) (m : Nat) (v : Value) (S : List (List Tm)) : Prop := ∃ us hi, PMk w base hi p m v us S
theorem OwnQ.below {w w' : World} {base : Nat} {p : Int} {m : Nat} {v : Value} {S : List (List Tm)} (h : OwnQ w base p m v S) (hb : Below w.heap.size w w') : OwnQ w' base p m v S := by
  obtain ⟨us, hi, h⟩ := h
  exact ⟨us, hi, h.below hb⟩
theorem OwnQ.mono {w : World} {base base' : Nat} {p : Int} {m : Nat} {v : Value} {S : List (List Tm)} (h : OwnQ w base p m v S) (hb : base' ≤ base) : OwnQ w base' p m v S := by
  obtain ⟨us, hi, h⟩ := h
  exact ⟨us, hi, h.low hb⟩
theorem OwnQ.kept {w w' : World} {base b : Nat} {p : Int} {m : Nat} {v : Value} {S : List (List Tm)} (h : OwnQ w base p m v S) (hg : w.grownBy w' (some b)) (hb : b < base) : OwnQ w' base p m v S := by
  obtain ⟨us, hi, h⟩ := h
  exact ⟨us, hi, h.kept hg hb⟩
theorem OwnQ.sl {w : World} {base : Nat} {p : Int} {m : Nat} {v : Value} {S : List (List Tm)} (h : OwnQ w base p m v S) : SlPn w p m v S := by
  obtain ⟨us, hi, h⟩ := h
  exact h.slP
theorem OwnQ.shape {w : World} {base : Nat} {p : Int} {m : Nat} {v : Value} {S : List (List Tm)} (h : OwnQ w base p m v S) : ∃ a c, v = .slice a S.length c := by
  obtain ⟨us, hi, h⟩ := h
  exact h.shape
theorem eqQ {p : Int} {m : Nat} {v v' : Value} {S : List (List Tm)} (w : World) (hl : S.length ≤ 48) (hX : ∀ X ∈ S, X.length ≤ 2197) (h : SlPn w p m v S) (h' : SlPn w p m v' S) :
    Calls Tryz.prog 18 #[v, v'] w fun e w' => e = .returned (.bool true) ∧ Below w.heap.size w w' :=
  eqpolys v v' (S.map fun X => (p, (m : Int), X)) w (by rw [List.length_map]; omega) (fun g hg => by
    obtain ⟨X, hXm, rfl⟩ := List.mem_map.1 hg
    exact Nat.le_trans (hX X hXm) (by decide)) h h'
theorem OwnQ.mark {w : World} {base : Nat} {p : Int} {m : Nat} {v : Value} {S : List (List Tm)} (h : OwnQ w base p m v S) (hl : S.length ≤ 48) (hX : ∀ X ∈ S, X.length ≤ 2197) (hb : base ≤ w.heap.size) :
    Calls Tryz.prog 23 #[v, .int .i64 1] w fun e w' => e = .returned (.int .i64 (kap S S.length)) ∧ MkdQ w' v S ∧ Below base w w' := by
  obtain ⟨us, hi, h⟩ := h
  exact h.mark (by omega) (fun X hXm => Nat.le_trans (hX X hXm) (by decide)) hb

set_option maxRecDepth 8000 in
set_option maxHeartbeats 4000000 in
theorem iorp (p n : Int) (v : Value) (L : List (Nat → Nat → Int)) (q d : Int) (u : Value) (xs : List Tm) (w : World) (hl : L.length ≤ 1048576) (hS : SlM w v L) (hby : ∀ x ∈ L, Byt x) (hxl : xs.length ≤ 1048576) (hU : SliceT w u xs) (hxb : ∀ t ∈ xs, tmByte t) :
    Calls Tryz.prog 17 #[.agg #[.int .i64 p, .int .i64 n, v], .agg #[.int .i64 q, .int .i64 d, u]] w fun e w' => ∃ v', e = .returned (.tuple #[v', .int .i64 (actC p n L q d xs)]) ∧ OwnQ w' w.heap.size p n.toNat v' (orbO p n L q d xs) ∧ Below w.heap.size w w' := by
  obtain ⟨W, hW, hbW, ⟨hWs1, hWs2⟩, rg, rx⟩ := boxGP w p n v q d u
  have hSW := hS.below hbW
  have hUW := hU.below hbW
  obtain ⟨a, cap, rfl, _⟩ := id hS
  obtain ⟨ua, uc, rfl, _⟩ := id hU
  obtain ⟨g0, g1, g2⟩ := gcells rg
  obtain ⟨⟨x0, x1, x2⟩, _⟩ := poly3 rx
  have HBY := Lib.hid hby
  have HXB := Lib.hid hxb
  clear hby hxb
  go_enter Tryz.func17, Tryz.ntmps17
  go_wp2_with fail
  rw [← hW]
  clear hW
  ((with_reducible refine (icode3 p n _ L q d _ xs W hl hSW HBY.out hxl hUW HXB.out).mono ?_); rintro e w1 ⟨rfl, hb1⟩)
  have hbw1 := hbW.trans (hb1.mono hbW.size)
  have rg1 := erow_below rg hb1 rg.lt
  have rx1 := erow_below rx hb1 rx.lt
  have hS1 := hSW.below hb1
  have hU1 := hUW.below hb1
  clear g0 g1 g2 x0 x1 x2 rg rx
  by_cases hc : actC p n L q d xs = 0
  case neg =>
    have HO := Lib.hid (show orbO p n L q d xs = [] by unfold orbO; rw [if_neg hc])
    obtain ⟨C, hC⟩ : ∃ C, actC p n L q d xs = C := ⟨_, rfl⟩
    have HC := Lib.hid hC
    rw [hC] at hc ⊢
    have hc' : (C != 0) = true := by simpa using hc
    clear hc hC
    go_wp2_with fail
    go_ret2
    exact ⟨_, by rw [HC.out]; rfl, by rw [HO.out]; exact ⟨[], _, PMk.nil _ _ _ _⟩, hbw1⟩
  case pos =>
    obtain ⟨m, rfl, rfl, rfl, hG⟩ := grpP_of HBY.out HXB.out hc
    have HO := Lib.hid (show orbO q m L q m xs = orbL (allL q m L xs) by unfold orbO; rw [if_pos hc]; rfl)
    have HC := Lib.hid hc
    rw [hc]
    clear hc
    obtain ⟨g0, g1, g2⟩ := gcells rg1
    obtain ⟨⟨x0, x1, x2⟩, _⟩ := poly3 rx1
    have hbd : Below w1.heap.size w1 w1.drew := (Below.refl _ _).drew
    have X0 : w1.drew.cell? ⟨w.heap.size + 1, 0, none⟩ = some (.int .i64 q) := x0
    have X1 : w1.drew.cell? ⟨w.heap.size + 1, 1, none⟩ = some (.int .i64 (m : Int)) := x1
    have X2 : w1.drew.cell? ⟨w.heap.size + 1, 2, none⟩ = some (.slice ua xs.length uc) := x2
    have hzx : w.heap.size + 1 < w1.drew.heap.size := rx1.lt
    have hUd := hU1.below hbd
    have HAC := Lib.hid (iactions q m (.slice a L.length cap) L w1.drew hl (hS1.below hbd) hG.mat)
    have HPO := Lib.hid (fun v w h1 h2 => ipor hG v (.slice ua xs.length uc) w h1 h2)
    clear hG
    go_wp2_with fail
    go_region_with (first
      | (go_at_call 53; (with_reducible refine HAC.out.mono ?_); rintro e w2 ⟨v2, rfl, hA2, hb2⟩; (obtain ⟨gb, gc, rfl, _⟩ := id hA2); have Q0 := (hb2.cell (p := ⟨w.heap.size + 1, 0, none⟩) hzx).trans X0; have Q1 := (hb2.cell (p := ⟨w.heap.size + 1, 1, none⟩) hzx).trans X1; have Q2 := (hb2.cell (p := ⟨w.heap.size + 1, 2, none⟩) hzx).trans X2; have HB2 := hbd.trans hb2)
      | (go_at_call 52; (with_reducible refine (HPO.out _ _ hA2 (hUd.below hb2)).mono ?_); rintro e w4 ⟨v4, us4, hi4, rfl, hP4, hb4⟩; (obtain ⟨pa, pc, rfl⟩ := hP4.shape); have HB4 := HB2.trans (hb4.mono HB2.size)))
    all_goals
      have hend := hbw1.trans (HB4.mono hbw1.size)
      have HE := Lib.hid (show OwnQ w4 w.heap.size q ((m : Int).toNat) (.slice pa (orbL (allL q m L xs)).length pc) (orbO q m L q m xs) from by rw [HO.out]; exact ⟨_, _, hP4.low (Nat.le_trans hbw1.size HB2.size)⟩)
      obtain ⟨lo, hlo⟩ : ∃ lo, (orbL (allL q m L xs)).length = lo := ⟨_, rfl⟩
      rw [hlo] at HE ⊢
      clear hlo hP4
      go_wp2_with fail
      go_ret2
      exact ⟨.slice pa lo pc, by rw [HC.out]; rfl, HE.out, hend⟩

set_option maxRecDepth 8000 in
set_option maxHeartbeats 4000000 in
theorem sorp (p n : Int) (v : Value) (L : List (Nat → Nat → Int)) (q d : Int) (u : Value) (xs : List Tm) (w : World) (hl : L.length ≤ 1048576) (hS : SlM w v L) (hby : ∀ x ∈ L, Byt x) (hxl : xs.length ≤ 1048576) (hU : SliceT w u xs) (hxb : ∀ t ∈ xs, tmByte t) :
    Calls Tryz.prog 14 #[.agg #[.int .i64 p, .int .i64 n, v], .agg #[.int .i64 q, .int .i64 d, u]] w fun e w' => ∃ v', e = .returned (.tuple #[v', .int .i64 (actC p n L q d xs)]) ∧ SlPn w' p n.toNat v' (orbO p n L q d xs) ∧ Below w.heap.size w w' := by
  obtain ⟨W, hW, hbW, ⟨hWs1, hWs2⟩, rg, rx⟩ := boxGP w p n v q d u
  have hSW := hS.below hbW
  have hUW := hU.below hbW
  obtain ⟨a, cap, rfl, _⟩ := id hS
  obtain ⟨ua, uc, rfl, _⟩ := id hU
  obtain ⟨g0, g1, g2⟩ := gcells rg
  obtain ⟨⟨x0, x1, x2⟩, _⟩ := poly3 rx
  have HBY := Lib.hid hby
  have HXB := Lib.hid hxb
  clear hby hxb
  go_enter Tryz.func14, Tryz.ntmps14
  go_wp2_with fail
  rw [← hW]
  clear hW
  ((with_reducible refine (scode3 p n _ L q d _ xs W hl hSW HBY.out hxl hUW HXB.out).mono ?_); rintro e w1 ⟨rfl, hb1⟩)
  have hbw1 := hbW.trans (hb1.mono hbW.size)
  have rg1 := erow_below rg hb1 rg.lt
  have rx1 := erow_below rx hb1 rx.lt
  have hS1 := hSW.below hb1
  have hU1 := hUW.below hb1
  clear g0 g1 g2 x0 x1 x2 rg rx
  by_cases hc : actC p n L q d xs = 0
  case neg =>
    have HO := Lib.hid (show orbO p n L q d xs = [] by unfold orbO; rw [if_neg hc])
    obtain ⟨C, hC⟩ : ∃ C, actC p n L q d xs = C := ⟨_, rfl⟩
    have HC := Lib.hid hC
    rw [hC] at hc ⊢
    have hc' : (C != 0) = true := by simpa using hc
    clear hc hC
    go_wp2_with fail
    go_ret2
    exact ⟨_, by rw [HC.out]; rfl, by rw [HO.out]; exact ⟨none, 0, rfl, .inl rfl⟩, hbw1⟩
  case pos =>
    obtain ⟨m, rfl, rfl, rfl, hG⟩ := grpP_of HBY.out HXB.out hc
    have HO := Lib.hid (show orbO q m L q m xs = orbL (allL q m L xs) by unfold orbO; rw [if_pos hc]; rfl)
    have HC := Lib.hid hc
    rw [hc]
    clear hc
    obtain ⟨g0, g1, g2⟩ := gcells rg1
    obtain ⟨⟨x0, x1, x2⟩, _⟩ := poly3 rx1
    have HAC := Lib.hid (spor hG (.slice a L.length cap) (.slice ua xs.length uc) w1 hS1 hU1)
    clear hG
    go_wp2_with fail
    ((with_reducible refine HAC.out.mono ?_); rintro e w2 ⟨v2, us2, rfl, hP2, hb2⟩)
    obtain ⟨pa, pc, rfl⟩ := hP2.shape
    have hend := hbw1.trans (hb2.mono hbw1.size)
    have HE := Lib.hid (show SlPn w2 q ((m : Int).toNat) (.slice pa (orbL (allL q m L xs)).length pc) (orbO q m L q m xs) from by rw [HO.out]; exact hP2.slP)
    obtain ⟨lo, hlo⟩ : ∃ lo, (orbL (allL q m L xs)).length = lo := ⟨_, rfl⟩
    rw [hlo] at HE ⊢
    clear hlo hP2
    go_wp2_with fail
    go_ret2
    exact ⟨.slice pa lo pc, by rw [HC.out]; rfl, HE.out, hend⟩
end Go.Proofs.YtllklhakbanhaaaGreat
