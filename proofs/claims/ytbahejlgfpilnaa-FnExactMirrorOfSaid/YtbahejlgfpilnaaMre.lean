/-
  MATRICES LESS THE UNIT, the program: 'impl.changesOf'; rows copied into a table. Conditions: as each theorem states.
-/
import Derived.Test.YtbahejlgfpilnaaMrb
import Derived.Test.YtbahejlgfpilnaaMrd
import Derived.Test.YtbahejlgfpilnaaVa
import Derived.Test.YtbahejlgfpilnaaWd
import Derived.Deep.Upon
namespace Go.Proofs.Ytbahejlgfpilnaa
open Go.RowKit Go.Sort EchM

theorem copy_part (w : World) (g o M N : Nat) (l : List Int) (u : Value) (f : Nat → Value) (hr : w.rowIs g 2 N f) (hl : l.length ≤ M) (hN : o + M ≤ N) (hS : Sl w u l) (ty : TypeId) :
    (Builtin.copy_ #[52, 52] ty #[.slice (some ⟨g, o, none⟩) M M, u]).run Try.prog w = .ok (.int .i64 (l.length : Int)) (w.setCells g o (valsI l)) := by
  obtain ⟨a, cap, rfl, h⟩ := hS
  rcases h with rfl | ⟨b, off, rfl, _, hT⟩
  · exact run_copy_none (P := Try.prog) w 52 52 ty 2 _ _ M M 0 cap Try.underlying52 (by kernel_rfl) (by simp)
  · have hn : (valsI l).length = l.length := by simp [valsI]
    have h := run_copy_cells (P := Try.prog) w 52 52 ty 2 g o M M ⟨b, off, none⟩ l.length cap (valsI l) Try.underlying52 (by kernel_rfl)
      (by rw [hn]; exact (Nat.min_eq_left (by omega)).symm) (vals_cells hT) (fun j hj => by rw [hr.cell (by omega)]; rfl) (fun j _ => hr.frozen _) (vals_one l)
    rw [hn] at h
    exact h
/-- A row put into a table. -/
def putF (F : Nat → Nat → Int) (i : Nat) (l : List Int) (a b : Nat) : Int := if a = i ∧ b < l.length then l.getD b 0 else F a b
theorem TabW.put {w : World} {tb hb c s : Nat} {F : Nat → Nat → Int} (h : TabW w tb hb c s F) {i : Nat} (l : List Int) (hl : l.length ≤ s) (hs : 0 < s) : TabW (w.setCells tb (i * s) (valsI l)) tb hb c s (putF F i l) := by
  refine ⟨?_, h.hdr.of_block (World.heap_setCells_other w tb (i * s) (valsI l) h.hdr.lt (fun e => h.ne e.symm))⟩
  have h2 := set_cells l (i * s) tb w _ h.tab
  have e : valsI l = l.map (Value.int .i64) := rfl
  rw [e]
  refine h2.congr fun q _ => ?_
  unfold gV
  congr 1
  unfold cF putF
  simp only []
  by_cases hq : i * s ≤ q ∧ q < i * s + l.length
  · rw [if_pos hq]
    obtain ⟨d, rfl⟩ : ∃ d, q = i * s + d := ⟨q - i * s, by omega⟩
    have hd : d < s := by omega
    have e2 : (i * s + d) / s = i := by rw [Nat.mul_comm, Nat.mul_add_div hs, Nat.div_eq_of_lt hd, Nat.add_zero]
    have e3 : (i * s + d) % s = d := by rw [Nat.mul_comm, Nat.mul_add_mod, Nat.mod_eq_of_lt hd]
    rw [e2, e3, if_pos ⟨rfl, by omega⟩, Nat.add_sub_cancel_left]
  · rw [if_neg hq, if_neg]
    rintro ⟨h1, h2⟩
    have h3 := Nat.div_add_mod q s
    rw [h1, Nat.mul_comm] at h3
    exact hq (by omega)

set_option maxRecDepth 8000 in
set_option maxHeartbeats 8000000 in
theorem ichg (p : Int) (n : Nat) (g : Nat → Nat → Int) (w : World) (h2 : 2 ≤ p) (h13 : p ≤ 13) (h1 : 1 ≤ n) (hn : n ≤ 3) (hg : ∀ i, i < 3 → ∀ j, j < 3 → 0 ≤ g i j ∧ g i j < p) :
    Calls Try.prog 69 #[.int .i64 p, .int .i64 (n : Int), mv g] w fun e w' => ∃ hb tb F, e = .returned (.slice (some ⟨hb, 0, none⟩) n n) ∧ w.heap.size ≤ tb ∧ w.heap.size ≤ hb ∧ TabW w' tb hb n n F ∧ (∀ i j, i < n → j < n → F i j = chgF p g i j) ∧ Below w.heap.size w w' := by
  obtain ⟨W, hW, rW, hbW⟩ : ∃ W, W = w.alloc (.cells #[.int .u8 (g 0 0), .int .u8 (g 0 1), .int .u8 (g 0 2), .int .u8 (g 1 0), .int .u8 (g 1 1), .int .u8 (g 1 2), .int .u8 (g 2 0), .int .u8 (g 2 1), .int .u8 (g 2 2)] 37) ∧ W.rowIs w.heap.size 37 9 (mF g) ∧ Below w.heap.size w W := ⟨_, rfl, mbox w g _, ebox1 _ _⟩
  have HG := Lib.hid hg
  have HT := Lib.hid (itab n n W (by omega) h1 (by omega))
  have hWl := rW.lt
  clear hg
  unfold mv
  go_enter Try.func69, Try.ntmps69
  go_wp2_with fail
  rw [← hW]
  clear hW
  ((with_reducible refine HT.out.mono ?_); rintro e w1 ⟨hb, tb, rfl, ht1, ht2, hT, hb1⟩)
  have hbw1 := hbW.trans (hb1.mono hbW.size)
  have rW1 := erow_below rW hb1 rW.lt
  have hsW := hbW.size
  clear HT
  go_wp2_with fail
  go_loopw [16] (fun i wr => ∃ (k : Nat) (F : Nat → Nat → Int), k ≤ n ∧ i = .int .i64 k ∧ TabW wr tb hb n n F ∧ Hid (∀ a b, a < n → b < n → F a b = if a < k then chgF p g a b else 0) ∧ wr.rowIs w.heap.size 37 9 (mF g) ∧ Below w.heap.size w wr) (fun i _ => n - (intOf i).toNat)
  case atStart => exact ⟨0, _, by omega, rfl, hT, Lib.hid (fun a b _ _ => by rw [if_neg (by omega)]), rW1, hbw1⟩
  case round =>
    clear hT rW1 hbw1
    obtain ⟨k, F, hk, rfl, hT, HF, hR, hbr⟩ := hrel
    by_cases hlt : k < n
    · have hlt' : (k : Int) < (n : Int) := by omega
      have c0 := hT.head hlt
      obtain ⟨o, ho⟩ : ∃ o, k * n = o := ⟨_, rfl⟩
      rw [ho] at c0
      have HO := Lib.hid ho
      have HF0 : Hid (∀ a b, a < n → b < n → F a b = if a < k then chgF p g a b else if a = k ∧ b < 0 then g k b else 0) := Lib.hid (fun a b ha hb' => by rw [HF.out a b ha hb', if_neg (show ¬ (a = k ∧ b < 0) by omega)])
      clear ho HF
      go_wp2_with fail
      go_loopw [23] (fun i wr => ∃ (j : Nat) (F : Nat → Nat → Int), j ≤ n ∧ i = .int .i64 j ∧ TabW wr tb hb n n F ∧ Hid (∀ a b, a < n → b < n → F a b = if a < k then chgF p g a b else if a = k ∧ b < j then g k b else 0) ∧ wr.rowIs w.heap.size 37 9 (mF g) ∧ Below w.heap.size w wr) (fun i _ => n - (intOf i).toNat)
      case atStart => exact ⟨0, F, by omega, rfl, hT, HF0, hR, hbr⟩
      case round =>
        clear hT HF0 hR hbr
        obtain ⟨j, F, hj, rfl, hT, HF, hR, hbr⟩ := hrel
        by_cases hjt : j < n
        · have hjt' : (j : Int) < (n : Int) := by omega
          have l0 := mcell hR (i := k) (j := j) (by omega) (by omega)
          obtain ⟨x0, x1⟩ := HG.out k (by omega) j (by omega)
          have k0 := hT.cell hlt hjt
          rw [HO.out] at k0
          have z0 := hT.tab.frozen (o + j)
          have hT2 := hT.set (i := k) hjt (g k j)
          rw [HO.out] at hT2
          have hR2 := hR.of_block (Below.heap_setCell wr ⟨tb, o + j, none⟩ (.int .i64 (g k j)) w.heap.size (fun e => by have e' : w.heap.size = tb := e; omega))
          have hb2 := hbr.setCell (p := ⟨tb, o + j, none⟩) (by show w.heap.size ≤ tb; omega) (.int .i64 (g k j))
          have HF2 : Hid (∀ a b, a < n → b < n → updF F k j (g k j) a b = if a < k then chgF p g a b else if a = k ∧ b < j + 1 then g k b else 0) := Lib.hid (fun a b ha hb' => by
            unfold updF
            by_cases e : a = k ∧ b = j
            · obtain ⟨rfl, rfl⟩ := e
              rw [if_pos ⟨rfl, rfl⟩, if_neg (by omega), if_pos ⟨rfl, by omega⟩]
            · rw [if_neg e, HF.out a b ha hb']
              by_cases h3 : a < k
              · rw [if_pos h3, if_pos h3]
              · rw [if_neg h3, if_neg h3]
                by_cases h4 : a = k ∧ b < j
                · rw [if_pos h4, if_pos (by omega)]
                · rw [if_neg h4, if_neg (by omega)])
          generalize g k j = X at *
          clear hT hR hbr HF
          go_wp2_with fail
          go_roundw
          case rel => exact ⟨j + 1, _, by omega, by go_num, hT2, HF2, hR2, hb2⟩
          case measure => simp [intOf]; omega
        · obtain rfl : j = n := by omega
          have k0 := hT.cell hlt hlt
          have hFk : F k k = g k k := by rw [HF.out k k hlt hlt, if_neg (by omega), if_pos ⟨rfl, hlt⟩]
          rw [HO.out, hFk] at k0
          obtain ⟨x0, x1⟩ := HG.out k (by omega) k (by omega)
          have z0 := hT.tab.frozen (o + k)
          obtain ⟨Y, hY⟩ : ∃ Y, (g k k - 1) % p = Y := ⟨_, rfl⟩
          have hT2 := hT.set (i := k) hlt Y
          rw [HO.out] at hT2
          have hR2 := hR.of_block (Below.heap_setCell wr ⟨tb, o + k, none⟩ (.int .i64 Y) w.heap.size (fun e => by have e' : w.heap.size = tb := e; omega))
          have hb2 := hbr.setCell (p := ⟨tb, o + k, none⟩) (by show w.heap.size ≤ tb; omega) (.int .i64 Y)
          have HF2 : Hid (∀ a b, a < j → b < j → updF F k k Y a b = if a < k + 1 then chgF p g a b else 0) := Lib.hid (fun a b ha hb' => by
            unfold updF
            by_cases e : a = k ∧ b = k
            · obtain ⟨rfl, rfl⟩ := e
              rw [if_pos ⟨rfl, rfl⟩, if_pos (by omega), ← hY]
              unfold chgF
              rw [if_pos rfl]
            · rw [if_neg e, HF.out a b ha hb']
              by_cases h3 : a < k
              · rw [if_pos h3, if_pos (by omega)]
              · rw [if_neg h3]
                by_cases h4 : a = k
                · subst h4
                  rw [if_pos ⟨rfl, hb'⟩, if_pos (by omega)]
                  unfold chgF
                  rw [if_neg (fun h => e ⟨rfl, h.symm⟩)]
                · rw [if_neg (fun h => h4 h.1), if_neg (by omega)])
          have hrm : (g k k + p - 1).tmod p = Y := by
            rw [Int.tmod_eq_emod_of_nonneg (by omega), show g k k + p - 1 = g k k - 1 + p by omega, Int.add_emod_right, hY]
          have hp0 : ¬ p = 0 := by omega
          have hwr1 : IntKind.i64.wrap (g k k + p) = g k k + p := IntWalk.i64_in _ (by omega)
          have hwr2 : IntKind.i64.wrap (g k k + p - 1) = g k k + p - 1 := IntWalk.i64_in _ (by omega)
          generalize g k k = X at *
          clear hT hR hbr HF hY hFk
          go_wp2_with fail
          go_roundw
          case rel => exact ⟨k + 1, _, by omega, by go_num, hT2, HF2, hR2, hb2⟩
          case measure => simp [intOf]; omega
    · obtain rfl : k = n := by omega
      have hFF : ∀ a b, a < k → b < k → F a b = chgF p g a b := fun a b ha hb' => by rw [HF.out a b ha hb', if_pos ha]
      go_wp2_with fail
      go_ret
      exact ⟨hb, tb, F, rfl, by omega, by omega, hT, hFF, hbr⟩
end Go.Proofs.Ytbahejlgfpilnaa
