/-
  TABLES as rows of one block: 'impl.tableRows'. Conditions: as each theorem states.
-/
import Derived.Test.YtbahejlgfpilnaaVda
import Derived.Test.YtbahejlgfpilnaaWb
import Derived.Test.YtbahejlgfpilnaaEm
namespace Go.Proofs.Ytbahejlgfpilnaa
open Go.RowKit Go.Sort EchM

/-- A table told by its rows, flat. -/
def cF (n : Nat) (F : Nat → Nat → Int) (q : Nat) : Int := F (q / n) (q % n)
def updF (F : Nat → Nat → Int) (i j : Nat) (x : Int) (a b : Nat) : Int := if a = i ∧ b = j then x else F a b
theorem cF_at {n i j : Nat} (F : Nat → Nat → Int) (h : j < n) : cF n F (i * n + j) = F i j := by
  unfold cF
  rw [Nat.mul_comm, Nat.mul_add_div (by omega), Nat.mul_add_mod, Nat.div_eq_of_lt h, Nat.mod_eq_of_lt h, Nat.add_zero]
theorem cF_set {n i j : Nat} (F : Nat → Nat → Int) (h : j < n) (x : Int) (q : Nat) : (if q = i * n + j then Value.int .i64 x else gV (cF n F) q) = gV (cF n (updF F i j x)) q := by
  by_cases e : q = i * n + j
  · subst e
    rw [if_pos rfl]
    unfold gV
    rw [cF_at _ h]
    unfold updF
    rw [if_pos ⟨rfl, rfl⟩]
  · rw [if_neg e]
    unfold gV cF updF
    rw [if_neg]
    rintro ⟨h1, h2⟩
    have h3 := Nat.div_add_mod q n
    rw [h1, h2, Nat.mul_comm] at h3
    exact e h3.symm
/-- The headers of the first rows. -/
def hdF (tb s i q : Nat) : Value := if q < i then .slice (some ⟨tb, q * s, none⟩) s s else .slice none 0 0
/-- A table of c rows of s numbers in the block tb, the rows' headers in the block hb. -/
structure TabW (w : World) (tb hb c s : Nat) (F : Nat → Nat → Int) : Prop where
  tab : w.rowIs tb 2 (c * s) (gV (cF s F))
  hdr : w.rowIs hb 52 c (hdF tb s c)
theorem TabW.later {w w' : World} {tb hb c s : Nat} {F : Nat → Nat → Int} (h : TabW w tb hb c s F) (hb' : Below w.heap.size w w') : TabW w' tb hb c s F :=
  ⟨erow_below h.tab hb' h.tab.lt, erow_below h.hdr hb' h.hdr.lt⟩
theorem TabW.head {w : World} {tb hb c s : Nat} {F : Nat → Nat → Int} (h : TabW w tb hb c s F) {i : Nat} (hi : i < c) : w.cell? ⟨hb, i, none⟩ = some (.slice (some ⟨tb, i * s, none⟩) s s) := by
  rw [h.hdr.cell hi, hdF, if_pos hi]
theorem tab_in {c s i j : Nat} (hi : i < c) (hj : j < s) : i * s + j < c * s := by
  have h1 : (i + 1) * s ≤ c * s := Nat.mul_le_mul_right s hi
  rw [Nat.add_mul, Nat.one_mul] at h1
  omega
theorem TabW.cell {w : World} {tb hb c s : Nat} {F : Nat → Nat → Int} (h : TabW w tb hb c s F) {i j : Nat} (hi : i < c) (hj : j < s) : w.cell? ⟨tb, i * s + j, none⟩ = some (.int .i64 (F i j)) := by
  rw [h.tab.cell (tab_in hi hj)]
  unfold gV
  rw [cF_at _ hj]
theorem TabW.ne {w : World} {tb hb c s : Nat} {F : Nat → Nat → Int} (h : TabW w tb hb c s F) : tb ≠ hb := fun e => by
  subst e
  obtain ⟨a, ha, _⟩ := h.tab
  obtain ⟨b, hb, _⟩ := h.hdr
  rw [ha] at hb
  simp at hb
theorem TabW.set {w : World} {tb hb c s : Nat} {F : Nat → Nat → Int} (h : TabW w tb hb c s F) {i j : Nat} (hj : j < s) (x : Int) : TabW (w.setCell ⟨tb, i * s + j, none⟩ (.int .i64 x)) tb hb c s (updF F i j x) :=
  ⟨(h.tab.set (i * s + j) (.int .i64 x)).congr fun q _ => cF_set F hj x q, h.hdr.of_block (Below.heap_setCell w ⟨tb, i * s + j, none⟩ (.int .i64 x) hb (fun e => h.ne e.symm))⟩
theorem TabW.row {w : World} {tb hb c s : Nat} {F : Nat → Nat → Int} (h : TabW w tb hb c s F) {i : Nat} (hi : i < c) : Sl w (.slice (some ⟨tb, i * s, none⟩) s s) (rowF s (F i)) := by
  refine ⟨_, s, by rw [len_rowF], .inr ⟨tb, i * s, rfl, h.tab.lt, fun j hj => ?_⟩⟩
  have hj' : j < s := by rw [len_rowF] at hj; exact hj
  rw [h.cell hi hj']
  simp [rowF]
theorem TabW.rows {w : World} {tb hb c s : Nat} {F : Nat → Nat → Int} (h : TabW w tb hb c s F) : SlR w (.slice (some ⟨hb, 0, none⟩) c c) ((List.range c).map fun i => rowF s (F i)) := by
  refine ⟨_, c, by simp, .inr ⟨hb, 0, rfl, h.hdr.lt, fun k hk => ?_⟩⟩
  have hk' : k < c := by simpa using hk
  refine ⟨_, by rw [Nat.zero_add]; exact h.head hk', ?_⟩
  have := h.row hk'
  simpa using this

theorem infoI8 : (Try.prog.info? 52).map (fun i => (i.zero, i.size, i.bytes)) = some (some (.slice none 0 0), 1, 24) := by kernel_rfl

set_option maxRecDepth 8000 in
set_option maxHeartbeats 8000000 in
theorem itab (c s : Nat) (w : World) (hc : c ≤ 100) (hs1 : 1 ≤ s) (hs : s ≤ 100) :
    Calls Try.prog 68 #[.int .i64 (c : Int), .int .i64 (s : Int)] w fun e w' => ∃ hb tb, e = .returned (.slice (some ⟨hb, 0, none⟩) c c) ∧ w.heap.size ≤ tb ∧ w.heap.size ≤ hb ∧ TabW w' tb hb c s (fun _ _ => 0) ∧ Below w.heap.size w w' := by
  obtain ⟨i0, hi, hz0, hz1, hz2⟩ := info_parts einfoI
  obtain ⟨i1, hi', hz0', hz1', hz2'⟩ := info_parts infoI8
  obtain ⟨N, hN⟩ : ∃ N, c * s = N := ⟨_, rfl⟩
  have hN1 : N ≤ 10000 := by rw [← hN]; exact Nat.mul_le_mul hc hs
  have hwN : IntKind.i64.wrap ((c : Int) * (s : Int)) = (N : Int) := by rw [show (c : Int) * (s : Int) = (N : Int) by rw [← hN]; simp]; exact IntWalk.i64_in _ (by omega)
  have hmk : ∀ w, (Instr.makeSlice 52 (.int .i64 (N : Int)) (.int .i64 (N : Int))).run Try.prog w = .ok (.slice (some ⟨w.heap.size, 0, none⟩) N N) (w.alloc (.cells (madeCells #[.int .i64 0] N) 2)) := fun w => by
    have h := run_make (P := Try.prog) w 52 2 i0 _ Try.underlying52 hi hz0 .i64 .i64 (N : Int) (N : Int) (by omega) (by omega) (by rw [hz2]; omega) (by omega)
    rw [hz1, show (N : Int).toNat = N by omega] at h
    simpa [Value.cells] using h
  have hmk2 : ∀ w, (Instr.makeSlice 24 (.int .i64 (c : Int)) (.int .i64 (c : Int))).run Try.prog w = .ok (.slice (some ⟨w.heap.size, 0, none⟩) c c) (w.alloc (.cells (madeCells #[.slice none 0 0] c) 52)) := fun w => by
    have h := run_make (P := Try.prog) w 24 52 i1 _ Try.underlying24 hi' hz0' .i64 .i64 (c : Int) (c : Int) (by omega) (by omega) (by rw [hz2']; omega) (by omega)
    rw [hz1', show (c : Int).toNat = c by omega] at h
    simpa [Value.cells] using h
  obtain ⟨W, hW, hbW, hWs, rT⟩ : ∃ W, W = w.alloc (.cells (madeCells #[.int .i64 0] N) 2) ∧ Below w.heap.size w W ∧ W.heap.size = w.heap.size + 1 ∧ W.rowIs w.heap.size 2 N (gV (cF s fun _ _ => 0)) :=
    ⟨_, rfl, ebox1 _ _, by simp, ⟨_, heap_alloc_new w _, by simp [madeCells], fun q hq => by
      simp [madeCells, gV, cF] at hq ⊢
      exact ⟨q, by simp [hq], by simp [Nat.mod_one]⟩⟩⟩
  obtain ⟨V, hV, hbV, rH⟩ : ∃ V, V = W.alloc (.cells (madeCells #[.slice none 0 0] c) 52) ∧ Below W.heap.size W V ∧ V.rowIs W.heap.size 52 c (hdF w.heap.size s 0) :=
    ⟨_, rfl, ebox1 _ _, ⟨_, heap_alloc_new W _, by simp [madeCells], fun q hq => by
      simp [madeCells, hdF] at hq ⊢
      exact ⟨q, by simp [hq], by simp [Nat.mod_one]⟩⟩⟩
  have rTV := erow_below rT hbV rT.lt
  have hbw := hbW.trans (hbV.mono hbW.size)
  obtain ⟨hb, hhb⟩ : ∃ hb, W.heap.size = hb := ⟨_, rfl⟩
  rw [hhb] at rH hWs
  have hhw : w.heap.size ≤ hb := by omega
  have hht : w.heap.size ≠ hb := by omega
  clear hi hz0 hz1 hz2 hi' hz0' hz1' hz2' hbW hbV rT hWs
  go_enter Try.func68, Try.ntmps68
  go_upto_region 2 with fail
  rw [← hW]
  clear hW hmk
  go_upto_region 3 with fail
  rw [← hV]
  clear hV hmk2 hhb
  go_wp2_with fail
  go_loopw [16] (fun i wr => ∃ k : Nat, k ≤ c ∧ i = .int .i64 k ∧ wr.rowIs hb 52 c (hdF w.heap.size s k) ∧ wr.rowIs w.heap.size 2 N (gV (cF s fun _ _ => 0)) ∧ Below w.heap.size w wr) (fun i _ => c - (intOf i).toNat)
  case atStart => exact ⟨0, by omega, rfl, rH, rTV, hbw⟩
  case round =>
    clear rH rTV hbw
    obtain ⟨k, hk, rfl, hR, hT, hb2⟩ := hrel
    by_cases hlt : k < c
    · have hlt' : (k : Int) < (c : Int) := by omega
      obtain ⟨a, ha⟩ : ∃ a, k * s = a := ⟨_, rfl⟩
      obtain ⟨z, hz⟩ : ∃ z, (k + 1) * s = z := ⟨_, rfl⟩
      have hza : z = a + s := by rw [← hz, ← ha, Nat.add_mul, Nat.one_mul]
      have hzN : z ≤ N := by rw [← hz, ← hN]; exact Nat.mul_le_mul_right s hlt
      have hwa : IntKind.i64.wrap ((k : Int) * (s : Int)) = (a : Int) := by rw [show (k : Int) * (s : Int) = (a : Int) by rw [← ha]; simp]; exact IntWalk.i64_in _ (by omega)
      have hwz0 : ((k : Int) + 1) * (s : Int) = (z : Int) := by rw [← hz]; simp
      have hwz : IntKind.i64.wrap (((k : Int) + 1) * (s : Int)) = (z : Int) := by rw [hwz0]; exact IntWalk.i64_in _ (by omega)
      have hsl := int_part w.heap.size N a z (by omega) hzN
      have hzs : z - a = s := by omega
      rw [hzs] at hsl
      have c0 := hR.cell hlt
      have z0 := hR.frozen k
      have hR2 := (hR.set k (.slice (some ⟨w.heap.size, a, none⟩) s s)).congr (g := hdF w.heap.size s (k + 1)) (fun q _ => by
        unfold hdF
        by_cases e : q = k
        · subst e; rw [if_pos rfl, if_pos (by omega), ha]
        · rw [if_neg e]
          by_cases h : q < k
          · rw [if_pos h, if_pos (by omega)]
          · rw [if_neg h, if_neg (by omega)])
      have hT2 := hT.of_block (Below.heap_setCell wr ⟨hb, k, none⟩ (.slice (some ⟨w.heap.size, a, none⟩) s s) w.heap.size hht)
      have hb3 := hb2.setCell (p := ⟨hb, k, none⟩) hhw (.slice (some ⟨w.heap.size, a, none⟩) s s)
      clear hR hT hb2 ha hz hza hzs hwz0
      go_wp2_with fail
      go_roundw
      case rel => exact ⟨k + 1, by omega, by go_num, hR2, hT2, hb3⟩
      case measure => simp [intOf]; omega
    · obtain rfl : k = c := by omega
      rw [← hN] at hT
      go_wp2_with fail
      go_ret
      exact ⟨hb, w.heap.size, rfl, Nat.le_refl _, hhw, ⟨hT, hR⟩, hb2⟩
end Go.Proofs.Ytbahejlgfpilnaa
