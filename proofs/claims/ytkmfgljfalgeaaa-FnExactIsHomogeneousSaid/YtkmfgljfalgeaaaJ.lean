/-
  WALKS: 'IsHomogeneous' of model and program. Conditions: as each theorem states.
-/
import Derived.Test.YtkmfgljfalgeaaaI
namespace Go.Proofs.Ytkmfgljfalgeaaa
open Go.RowKit Go.Sort

theorem first_cells {w : World} {b off : Nat} {ts : List Tm} (hT : Terms w b off ts) (t : Tm) (h : ts[0]? = some t) :
    w.cell? ⟨b, off, none⟩ = some (.int .u8 t.1) ∧ w.cell? ⟨b, off + 1, none⟩ = some (.int .u8 t.2.1) ∧ w.cell? ⟨b, off + 2, none⟩ = some (.int .u8 t.2.2.1) := by
  obtain ⟨hl, rfl⟩ := List.getElem?_eq_some_iff.1 h
  obtain ⟨h0, h1, h2, _⟩ := hT 0 hl
  simp only [Nat.zero_mul, Nat.add_zero] at h0 h1 h2
  exact ⟨h0, h1, h2⟩

theorem even_nil (p d : Int) (a : Option Addr) (cap : Nat) (w : World) :
    Calls Try.prog 39 #[.agg #[.int .i64 p, .int .i64 d, .slice a 0 cap]] w fun e w' => e = .returned (.bool true) ∧ Below w.heap.size w w' := by
  obtain ⟨W, hW, hbW, x0, x1, x2⟩ : ∃ W, W = w.alloc (.cells #[.int .i64 p, .int .i64 d, .slice a 0 cap] 29) ∧ Below w.heap.size w W ∧
      W.cell? ⟨w.heap.size, 0, none⟩ = some (.int .i64 p) ∧ W.cell? ⟨w.heap.size, 1, none⟩ = some (.int .i64 d) ∧ W.cell? ⟨w.heap.size, 2, none⟩ = some (.slice a 0 cap) :=
    ⟨_, rfl, box1 _ _, by go_simp, by go_simp, by go_simp⟩
  have y0 := cell_regrown x0
  have y1 := cell_regrown x1
  have y2 := cell_regrown x2
  go_enter Try.func39, Try.ntmps39
  go_wp2
  rw [← hW]
  clear hW
  refine wp_region_quiet_below (by kernel_rfl) (by kernel_rfl) ?_
  repeat (go_big_quiet_step (fail))
  refine wpQuiet_nil ?_
  intro _ hw'
  obtain ⟨⟨dq, osq⟩, hw''⟩ := hw'
  subst hw''
  go_wp2
  go_ret
  exact ⟨rfl, hbW.trans ((below_regrown W dq osq).mono hbW.size)⟩

set_option maxHeartbeats 1000000 in
theorem even_some (p d : Int) (b off cap n : Nat) (ts : List Tm) (t : Tm) (w : World) (hn : ts.length = n + 1) (hl : n ≤ 1048575) (hlt : b < w.heap.size) (hT : Terms w b off ts) (hby : ∀ t ∈ ts, tmByte t) (ht : ts[0]? = some t) :
    Calls Try.prog 39 #[.agg #[.int .i64 p, .int .i64 d, .slice (some ⟨b, off, none⟩) (n + 1) cap]] w fun e w' => e = .returned (.bool (sumT t == degI ts)) ∧ Below w.heap.size w w' := by
  have h0 : ((n : Int) + 1 == 0) = false := by simp; omega
  obtain ⟨⟨bx, by1, bz⟩, _⟩ := hby t (List.mem_of_getElem? ht)
  obtain ⟨W, hW, hbW, x0, x1, x2⟩ : ∃ W, W = w.alloc (.cells #[.int .i64 p, .int .i64 d, .slice (some ⟨b, off, none⟩) (n + 1) cap] 29) ∧ Below w.heap.size w W ∧
      W.cell? ⟨w.heap.size, 0, none⟩ = some (.int .i64 p) ∧ W.cell? ⟨w.heap.size, 1, none⟩ = some (.int .i64 d) ∧ W.cell? ⟨w.heap.size, 2, none⟩ = some (.slice (some ⟨b, off, none⟩) (n + 1) cap) :=
    ⟨_, rfl, box1 _ _, by go_simp, by go_simp, by go_simp⟩
  have y0 := cell_regrown x0
  have y1 := cell_regrown x1
  have y2 := cell_regrown x2
  obtain ⟨c0, c1, c2⟩ := first_cells (hT.below hbW hlt) t ht
  have e0 := cell_regrown c0
  have e1 := cell_regrown c1
  have e2 := cell_regrown c2
  have hS : SliceT W (.slice (some ⟨b, off, none⟩) (n + 1) cap) ts := SliceT.below (by rw [← hn]; exact ⟨_, cap, rfl, .inr ⟨b, off, rfl, hlt, hT⟩⟩) hbW
  have hl2 : ts.length ≤ 1048576 := by omega
  have cS := sum_regrown t.1 t.2.1 t.2.2.1 W bx by1 bz
  have cD : ∀ dd os, Calls Try.prog 37 #[.agg #[.int .i64 p, .int .i64 d, .slice (some ⟨b, off, none⟩) (n + 1) cap]] (grow (redrawn W dd) os) fun e w'' => e = .returned (.int .i64 (degI ts)) ∧ ∃ p : Regrown, w'' = grow (redrawn W p.d) p.os :=
    fun dd os => Calls.regrown_of (specDegree_any p d _ ts _ hl2 (hS.below (below_regrown W dd os)) hby)
  have HN := Lib.hid hn
  clear hn c0 c1 c2
  go_enter Try.func39, Try.ntmps39
  go_wp2
  rw [← hW]
  clear hW
  refine wp_region_quiet_below (by kernel_rfl) (by kernel_rfl) ?_
  repeat (go_big_quiet_step (first | with_reducible exact cS _ _ | with_reducible exact cD _ _))
  refine wpQuiet_nil ?_
  intro _ hw'
  obtain ⟨⟨dq, osq⟩, hw''⟩ := hw'
  subst hw''
  go_wp2
  go_ret
  exact ⟨rfl, hbW.trans ((below_regrown W dq osq).mono hbW.size)⟩

theorem even_any (p d : Int) (v : Value) (ts : List Tm) (w : World) (hl : ts.length ≤ 1048576) (hS : SliceT w v ts) (hby : ∀ t ∈ ts, tmByte t) :
    Calls Try.prog 39 #[.agg #[.int .i64 p, .int .i64 d, v]] w fun e w' => e = .returned (.bool (evenB ts)) ∧ Below w.heap.size w w' := by
  obtain ⟨a, cap, rfl, h⟩ := hS
  cases ts with
  | nil => exact even_nil p d a cap w
  | cons t r =>
    rcases h with h | ⟨b, off, rfl, hlt, hT⟩
    · cases h
    · exact even_some p d b off cap r.length (t :: r) t w rfl (by simp at hl; omega) hlt hT hby rfl

/-- What 'IsHomogeneous' gives. -/
def homB (p d : Int) (ts : List Tm) : Bool := isPolyB p d ts && evenB ts

set_option maxHeartbeats 1000000 in
theorem specHom (p d : Int) (v : Value) (ts : List Tm) (w : World) (hl : ts.length ≤ 1048576) (hS : SliceT w v ts) (hby : ∀ t ∈ ts, tmByte t) :
    Calls Try.prog 16 #[.agg #[.int .i64 p, .int .i64 d, v]] w fun e w' => e = .returned (.tuple #[.bool (homB p d ts), .int .i64 (polyC p d ts)]) ∧ Below w.heap.size w w' := by
  have h1 : ∀ o, SliceT (w.alloc o) v ts := fun o => hS.below (box1 _ _)
  obtain ⟨a, cap, hv, _⟩ := id hS
  subst hv
  go_enter Try.func16, Try.ntmps16
  go_wp2_with fail
  ((with_reducible refine (specIs_any p d _ ts _ hl (h1 _) hby).mono ?_); rintro e w1 ⟨rfl, hb⟩)
  obtain ⟨hc, hf⟩ := old_cells hb
  have hz : w.heap.size < w1.heap.size := by have := hb.size; simp at this; omega
  have hS1 := (h1 _).below hb
  have hb0 := (box1 _ _).trans (hb.mono (by simp))
  clear hb h1
  generalize hB : isPolyB p d ts = B
  have HB := Lib.hid hB
  clear hB
  cases B
  · go_wp2
    go_ret2
    exact ⟨by simp [homB, polyC, HB.out], hb0⟩
  · go_wp2_with fail
    ((with_reducible refine (even_any p d _ ts _ hl hS1 hby).mono ?_); rintro e w2 ⟨rfl, hb2⟩)
    go_wp2
    go_ret2
    exact ⟨by simp [homB, polyC, HB.out], hb0.trans (hb2.mono (Nat.le_of_lt hz))⟩

set_option maxHeartbeats 1000000 in
theorem implHom_nil (p d : Int) (a : Option Addr) (cap : Nat) (w : World) :
    Calls Try.prog 17 #[.agg #[.int .i64 p, .int .i64 d, .slice a 0 cap]] w fun e w' => e = .returned (.tuple #[.bool (homB p d []), .int .i64 (polyC p d [])]) ∧ Below w.heap.size w w' := by
  have h1 : ∀ o, SliceT (w.alloc o) (.slice a 0 cap) [] := fun o => ⟨a, cap, rfl, .inl rfl⟩
  have hby : ∀ t ∈ ([] : List Tm), tmByte t := fun t h => by simp at h
  go_enter Try.func17, Try.ntmps17
  go_wp2_with fail
  ((with_reducible refine (isPoly_any p d _ [] _ (by simp) (h1 _) hby).mono ?_); rintro e w1 ⟨rfl, hb⟩)
  obtain ⟨hc, hf⟩ := old_cells hb
  have hz : w.heap.size < w1.heap.size := by have := hb.size; simp at this; omega
  have hb0 := (box1 _ _).trans (hb.mono (by simp))
  clear hb h1
  generalize hB : isPolyB p d [] = B
  have HB := Lib.hid hB
  clear hB
  cases B
  · go_wp2
    go_ret2
    exact ⟨by simp [homB, polyC, HB.out], hb0⟩
  · have y0 := cell_regrown ((hc w.heap.size 0 (by simp)).trans (by go_simp : _ = some (.int .i64 p)))
    have y1 := cell_regrown ((hc w.heap.size 1 (by simp)).trans (by go_simp : _ = some (.int .i64 d)))
    have y2 := cell_regrown ((hc w.heap.size 2 (by simp)).trans (by go_simp : _ = some (.slice a 0 cap)))
    go_wp2
    refine wp_region_quiet_below (by kernel_rfl) (by kernel_rfl) ?_
    repeat (go_big_quiet_step (fail))
    refine wpQuiet_nil ?_
    intro _ hw'
    obtain ⟨⟨dq, osq⟩, hw''⟩ := hw'
    subst hw''
    go_wp2
    go_ret2
    exact ⟨by simp [homB, polyC, HB.out, evenB], hb0.trans ((below_regrown w1 dq osq).mono hb0.size)⟩

set_option maxHeartbeats 1000000 in
theorem implHom_some (p d : Int) (b off cap n : Nat) (ts : List Tm) (t : Tm) (w : World) (hn : ts.length = n + 1) (hl : n ≤ 1048575) (hlt : b < w.heap.size) (hT : Terms w b off ts) (hby : ∀ t ∈ ts, tmByte t) (ht : ts[0]? = some t) :
    Calls Try.prog 17 #[.agg #[.int .i64 p, .int .i64 d, .slice (some ⟨b, off, none⟩) (n + 1) cap]] w fun e w' => e = .returned (.tuple #[.bool (isPolyB p d ts && (sumT t == degI ts)), .int .i64 (polyC p d ts)]) ∧ Below w.heap.size w w' := by
  have h0 : ((n : Int) + 1 == 0) = false := by simp; omega
  obtain ⟨⟨bx, by1, bz⟩, _⟩ := hby t (List.mem_of_getElem? ht)
  have hS : ∀ o, SliceT (w.alloc o) (.slice (some ⟨b, off, none⟩) (n + 1) cap) ts := fun o => SliceT.below (by rw [← hn]; exact ⟨_, cap, rfl, .inr ⟨b, off, rfl, hlt, hT⟩⟩) (box1 _ _)
  have hl2 : ts.length ≤ 1048576 := by omega
  have HN := Lib.hid hn
  clear hn
  go_enter Try.func17, Try.ntmps17
  go_wp2_with fail
  ((with_reducible refine (isPoly_any p d _ ts _ hl2 (hS _) hby).mono ?_); rintro e w1 ⟨rfl, hb⟩)
  obtain ⟨hc, hf⟩ := old_cells hb
  have hz : w.heap.size < w1.heap.size := by have := hb.size; simp at this; omega
  have hS1 := (hS _).below hb
  have hb0 := (box1 _ _).trans (hb.mono (by simp))
  obtain ⟨c0, c1, c2⟩ := first_cells (hT.below hb0 hlt) t ht
  clear hb hS
  generalize hB : isPolyB p d ts = B
  have HB := Lib.hid hB
  clear hB
  cases B
  · go_wp2
    go_ret2
    exact ⟨by simp [polyC, HB.out], hb0⟩
  · have hcs : capd (sumT t) = sumT t := by unfold capd; rw [if_pos (polyB_sum HB.out t (List.mem_of_getElem? ht))]
    have HC : Hid (capd (t.1 + t.2.1 + t.2.2.1) = sumT t) := Lib.hid hcs
    clear hcs
    have y0 := cell_regrown ((hc w.heap.size 0 (by simp)).trans (by go_simp : _ = some (.int .i64 p)))
    have y1 := cell_regrown ((hc w.heap.size 1 (by simp)).trans (by go_simp : _ = some (.int .i64 d)))
    have y2 := cell_regrown ((hc w.heap.size 2 (by simp)).trans (by go_simp : _ = some (.slice (some ⟨b, off, none⟩) (n + 1) cap)))
    have e0 := cell_regrown c0
    have e1 := cell_regrown c1
    have e2 := cell_regrown c2
    have cS : ∀ dd os, Calls Try.prog 40 #[.slice (some ⟨b, off, none⟩) 3 3] (grow (redrawn w1 dd) os) fun e w'' => e = .returned (.int .i64 (sumT t)) ∧ ∃ p : Regrown, w'' = grow (redrawn w1 p.d) p.os := fun dd os => by
      rw [← HC.out]; exact regrown_same (capped_any _ _ _ t.1 t.2.1 t.2.2.1 _ bx by1 bz (e0 dd os) (e1 dd os) (e2 dd os))
    have cD : ∀ dd os, Calls Try.prog 38 #[.agg #[.int .i64 p, .int .i64 d, .slice (some ⟨b, off, none⟩) (n + 1) cap]] (grow (redrawn w1 dd) os) fun e w'' => e = .returned (.int .i64 (degI ts)) ∧ ∃ p : Regrown, w'' = grow (redrawn w1 p.d) p.os :=
      fun dd os => Calls.regrown_of (degree_any2 p d _ ts _ hl2 (hS1.below (below_regrown w1 dd os)) hby (polyB_sum HB.out))
    clear c0 c1 c2
    go_wp2
    refine wp_region_quiet_below (by kernel_rfl) (by kernel_rfl) ?_
    repeat (go_big_quiet_step (first | with_reducible exact cS _ _ | with_reducible exact cD _ _))
    refine wpQuiet_nil ?_
    intro _ hw'
    obtain ⟨⟨dq, osq⟩, hw''⟩ := hw'
    subst hw''
    go_wp2
    go_ret2
    exact ⟨by simp [polyC, HB.out], hb0.trans ((below_regrown w1 dq osq).mono hb0.size)⟩

theorem implHom (p d : Int) (v : Value) (ts : List Tm) (w : World) (hl : ts.length ≤ 1048576) (hS : SliceT w v ts) (hby : ∀ t ∈ ts, tmByte t) :
    Calls Try.prog 17 #[.agg #[.int .i64 p, .int .i64 d, v]] w fun e w' => e = .returned (.tuple #[.bool (homB p d ts), .int .i64 (polyC p d ts)]) ∧ Below w.heap.size w w' := by
  obtain ⟨a, cap, rfl, h⟩ := hS
  cases ts with
  | nil => exact implHom_nil p d a cap w
  | cons t r =>
    rcases h with h | ⟨b, off, rfl, hlt, hT⟩
    · cases h
    · exact implHom_some p d b off cap r.length (t :: r) t w rfl (by simp at hl; omega) hlt hT hby rfl

end Go.Proofs.Ytkmfgljfalgeaaa
