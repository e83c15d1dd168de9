/-
  WALKS: degrees. Conditions: as each theorem states.
-/
import Derived.Test.YtbahejlgfpilnaaG
namespace Go.Proofs.Ytbahejlgfpilnaa
open Go.RowKit Go.Sort

def sumT (t : Tm) : Int := t.1 + t.2.1 + t.2.2.1
def degI (ts : List Tm) : Int := match ts.getLast? with | none => -1 | some t => sumT t
def evenB (ts : List Tm) : Bool := match ts with | [] => true | t :: r => sumT t == degI (t :: r)

theorem chain_sum {p d : Int} : ∀ (ts : List Tm) (o : Option Tm), chain p d o ts = true → ∀ t ∈ ts, sumT t ≤ 12
  | [], _, _, t, ht => by simp at ht
  | a :: r, o, h, t, ht => by
    simp only [chain, Bool.and_eq_true] at h
    rcases List.mem_cons.1 ht with rfl | ht
    · exact termOk_sum h.1
    · exact chain_sum r _ h.2.2 t ht
theorem polyB_sum {p d : Int} {ts : List Tm} (h : isPolyB p d ts = true) : ∀ t ∈ ts, sumT t ≤ 12 := by
  simp only [isPolyB, Bool.and_eq_true] at h
  have := h.2.2
  unfold tailB at this
  exact chain_sum _ _ (by simpa using this)

set_option maxHeartbeats 1000000 in
theorem specDegree_some (p d : Int) (b off cap n : Nat) (x y z : Int) (w : World) (hn : n ≤ 1048576) (hb : b < w.heap.size) (hx : 0 ≤ x ∧ x ≤ 255) (hy : 0 ≤ y ∧ y ≤ 255) (hz : 0 ≤ z ∧ z ≤ 255)
    (c0 : w.cell? ⟨b, off + n * 4, none⟩ = some (.int .u8 x)) (c1 : w.cell? ⟨b, off + n * 4 + 1, none⟩ = some (.int .u8 y)) (c2 : w.cell? ⟨b, off + n * 4 + 2, none⟩ = some (.int .u8 z)) :
    Calls Try.prog 75 #[.agg #[.int .i64 p, .int .i64 d, .slice (some ⟨b, off, none⟩) (n + 1) cap]] w fun e w' => e = .returned (.int .i64 (x + y + z)) ∧ Below w.heap.size w w' := by
  have h0 : ((n : Int) + 1 == 0) = false := by simp; omega
  go_enter Try.func75, Try.ntmps75
  go_wp2_with fail
  ((with_reducible refine (sum_any x y z _ hx hy hz).mono ?_); rintro e w1 ⟨rfl, hb1⟩)
  go_wp2
  go_ret
  exact ⟨rfl, (box1 _ _).trans (hb1.mono (by simp))⟩

set_option maxHeartbeats 1000000 in
theorem degree_some (p d : Int) (b off cap n : Nat) (x y z : Int) (w : World) (hn : n ≤ 1048576) (hb : b < w.heap.size) (hx : 0 ≤ x ∧ x ≤ 255) (hy : 0 ≤ y ∧ y ≤ 255) (hz : 0 ≤ z ∧ z ≤ 255)
    (c0 : w.cell? ⟨b, off + n * 4, none⟩ = some (.int .u8 x)) (c1 : w.cell? ⟨b, off + n * 4 + 1, none⟩ = some (.int .u8 y)) (c2 : w.cell? ⟨b, off + n * 4 + 2, none⟩ = some (.int .u8 z)) :
    Calls Try.prog 135 #[.agg #[.int .i64 p, .int .i64 d, .slice (some ⟨b, off, none⟩) (n + 1) cap]] w fun e w' => e = .returned (.int .i64 (capd (x + y + z))) ∧ Below w.heap.size w w' := by
  have h0 : ((n : Int) + 1 == 0) = false := by simp; omega
  have k : ∀ o, (w.alloc o).cell? ⟨b, off + n * 4, none⟩ = some (.int .u8 x) ∧ (w.alloc o).cell? ⟨b, off + n * 4 + 1, none⟩ = some (.int .u8 y) ∧ (w.alloc o).cell? ⟨b, off + n * 4 + 2, none⟩ = some (.int .u8 z) := fun o =>
    ⟨((box1 w o).cell (p := ⟨b, _, none⟩) hb).trans c0, ((box1 w o).cell (p := ⟨b, _, none⟩) hb).trans c1, ((box1 w o).cell (p := ⟨b, _, none⟩) hb).trans c2⟩
  have K := Lib.hid k
  clear k
  go_enter Try.func135, Try.ntmps135
  go_wp2_with fail
  ((with_reducible refine (capped_any _ _ _ x y z _ hx hy hz (K.out _).1 (K.out _).2.1 (K.out _).2.2).mono ?_); rintro e w1 ⟨rfl, rfl⟩)
  go_wp2
  go_ret
  exact ⟨rfl, box1 _ _⟩

theorem specDegree_nil (p d : Int) (a : Option Addr) (cap : Nat) (w : World) :
    Calls Try.prog 75 #[.agg #[.int .i64 p, .int .i64 d, .slice a 0 cap]] w fun e w' => e = .returned (.int .i64 (-1)) ∧ Below w.heap.size w w' := by
  go_enter Try.func75, Try.ntmps75
  go_wp2
  go_ret
  exact ⟨rfl, box1 _ _⟩
theorem degree_nil (p d : Int) (a : Option Addr) (cap : Nat) (w : World) :
    Calls Try.prog 135 #[.agg #[.int .i64 p, .int .i64 d, .slice a 0 cap]] w fun e w' => e = .returned (.int .i64 (-1)) ∧ Below w.heap.size w w' := by
  go_enter Try.func135, Try.ntmps135
  go_wp2
  go_ret
  exact ⟨rfl, box1 _ _⟩

theorem degI_at (ts : List Tm) (n : Nat) (t : Tm) (h : ts.length = n + 1) (ht : ts[n]? = some t) : degI ts = sumT t := by
  unfold degI
  have : ts.getLast? = some t := by
    rw [List.getLast?_eq_getElem?, h]; simpa using ht
  rw [this]

theorem specDegree_any (p d : Int) (v : Value) (ts : List Tm) (w : World) (hl : ts.length ≤ 1048576) (hS : SliceT w v ts) (hby : ∀ t ∈ ts, tmByte t) :
    Calls Try.prog 75 #[.agg #[.int .i64 p, .int .i64 d, v]] w fun e w' => e = .returned (.int .i64 (degI ts)) ∧ Below w.heap.size w w' := by
  obtain ⟨a, cap, rfl, h⟩ := hS
  by_cases h0 : ts = []
  · subst h0; exact specDegree_nil p d a cap w
  · rcases h with h | ⟨b, off, rfl, hlt, hT⟩
    · exact absurd h h0
    · obtain ⟨n, hn⟩ : ∃ n, ts.length = n + 1 := ⟨ts.length - 1, by have := List.length_pos_iff.2 h0; omega⟩
      have hnl : n < ts.length := by omega
      obtain ⟨c0, c1, c2, _⟩ := hT n hnl
      obtain ⟨⟨bx, by1, bz⟩, _⟩ := hby _ (List.getElem_mem hnl)
      have hd := degI_at ts n _ hn (List.getElem?_eq_getElem hnl)
      generalize ts[n] = t at *
      rw [hd, hn]
      exact specDegree_some p d b off cap n _ _ _ w (by omega) hlt bx by1 bz c0 c1 c2
theorem degree_any2 (p d : Int) (v : Value) (ts : List Tm) (w : World) (hl : ts.length ≤ 1048576) (hS : SliceT w v ts) (hby : ∀ t ∈ ts, tmByte t) (hs : ∀ t ∈ ts, sumT t ≤ 12) :
    Calls Try.prog 135 #[.agg #[.int .i64 p, .int .i64 d, v]] w fun e w' => e = .returned (.int .i64 (degI ts)) ∧ Below w.heap.size w w' := by
  obtain ⟨a, cap, rfl, h⟩ := hS
  by_cases h0 : ts = []
  · subst h0; exact degree_nil p d a cap w
  · rcases h with h | ⟨b, off, rfl, hlt, hT⟩
    · exact absurd h h0
    · obtain ⟨n, hn⟩ : ∃ n, ts.length = n + 1 := ⟨ts.length - 1, by have := List.length_pos_iff.2 h0; omega⟩
      have hnl : n < ts.length := by omega
      obtain ⟨c0, c1, c2, _⟩ := hT n hnl
      obtain ⟨⟨bx, by1, bz⟩, _⟩ := hby _ (List.getElem_mem hnl)
      have hd := degI_at ts n _ hn (List.getElem?_eq_getElem hnl)
      have hc := hs _ (List.getElem_mem hnl)
      generalize ts[n] = t at *
      have hc' : capd (sumT t) = sumT t := by unfold capd; rw [if_pos hc]
      rw [hd, ← hc', hn]
      exact degree_some p d b off cap n _ _ _ w (by omega) hlt bx by1 bz c0 c1 c2

end Go.Proofs.Ytbahejlgfpilnaa
