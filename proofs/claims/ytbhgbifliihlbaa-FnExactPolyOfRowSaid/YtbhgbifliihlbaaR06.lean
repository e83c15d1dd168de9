/-
  WALKS: comparing terms and polynomials that are equal. Conditions: as each theorem states.
  WALKS: degrees. Conditions: as each theorem states.
  LISTS OF POLYNOMIALS in memory. Conditions: as each theorem states.
  MARKS in lists of terms. Conditions: as each theorem states.. Conditions: as each theorem states.
  LISTS OF TERMS of the call's own, marked. Conditions: as each theorem states.. Conditions: as each theorem states.
  What a law of a function that gives a polynomial keeps in memory. Conditions: as each theorem states.
-/
import Derived.Test.YtbhgbifliihlbaaR02
import Derived.Test.YtbhgbifliihlbaaR05
namespace Go.Proofs.Ytbhgbifliihlbaa
open Go.RowKit Go.Sort

set_option maxHeartbeats 1000000 in
theorem eqTerm_refl (x y z v : Int) (w : World) :
    Calls Try.prog 105 #[.agg #[.int .u8 x, .int .u8 y, .int .u8 z, .int .i64 v], .agg #[.int .u8 x, .int .u8 y, .int .u8 z, .int .i64 v]] w fun e w' => e = .returned (.bool true) ∧ Below w.heap.size w w' := by
  have hv : (v != v) = false := by simp
  go_enter Try.func105, Try.ntmps105
  go_wp2_with fail
  ((with_reducible refine (eqExps_refl _ _ _ _).mono ?_); rintro e w1 ⟨rfl, hb⟩)
  obtain ⟨hc, hf⟩ := old_cells hb
  have hb0 := (box2 _ _ _).trans (hb.mono (by simp; omega))
  clear hb
  go_wp2
  go_ret
  exact ⟨rfl, hb0⟩

set_option maxHeartbeats 1000000 in
theorem eqTermS_some (g o cap g' o' cap' : Nat) (ts : List Tm) (w : World) (hl : ts.length ≤ 1048576) (hg : g < w.heap.size) (hg' : g' < w.heap.size) (hT : Terms w g o ts) (hT' : Terms w g' o' ts) :
    Calls Try.prog 62 #[.slice (some ⟨g, o, none⟩) ts.length cap, .slice (some ⟨g', o', none⟩) ts.length cap'] w fun e w' => e = .returned (.bool true) ∧ Below w.heap.size w w' := by
  have hnn : ((ts.length : Int) != (ts.length : Int)) = false := by simp
  go_enter Try.func62, Try.ntmps62
  go_wp2
  go_loopw [5] (fun i wr => ∃ k : Nat, k ≤ ts.length ∧ i = .int .i64 k ∧ Below w.heap.size w wr) (fun i _ => ts.length - (intOf i).toNat)
  case atStart => exact ⟨0, by omega, rfl, Below.refl _ _⟩
  case round =>
    obtain ⟨k, hk, rfl, hbel⟩ := hrel
    by_cases hlt : k < ts.length
    · have hlt' : (k : Int) < (ts.length : Int) := by omega
      obtain ⟨a0, a1, a2, a3⟩ := (hT.below hbel hg) k hlt
      obtain ⟨b0, b1, b2, b3⟩ := (hT'.below hbel hg') k hlt
      have e0 := cell_regrown a0
      have e1 := cell_regrown a1
      have e2 := cell_regrown a2
      have e3 := cell_regrown a3
      have f0 := cell_regrown b0
      have f1 := cell_regrown b1
      have f2 := cell_regrown b2
      have f3 := cell_regrown b3
      clear a0 a1 a2 a3 b0 b1 b2 b3
      have cE : ∀ d os, Calls Try.prog 105 #[.agg #[.int .u8 ts[k].1, .int .u8 ts[k].2.1, .int .u8 ts[k].2.2.1, .int .i64 ts[k].2.2.2], .agg #[.int .u8 ts[k].1, .int .u8 ts[k].2.1, .int .u8 ts[k].2.2.1, .int .i64 ts[k].2.2.2]] (grow (redrawn wr d) os) fun e w'' => e = .returned (.bool true) ∧ ∃ p : Regrown, w'' = grow (redrawn wr p.d) p.os := fun d os => Calls.regrown_of (eqTerm_refl _ _ _ _ _)
      go_wp2
      refine wp_region_quiet_below (by kernel_rfl) (by kernel_rfl) ?_
      repeat (go_big_quiet_step (with_reducible exact cE _ _))
      refine wpQuiet_nil ?_
      intro _ hw'
      obtain ⟨⟨dq, osq⟩, hw''⟩ := hw'
      subst hw''
      go_wp2
      go_roundw
      case rel => exact ⟨k + 1, by omega, by go_num, hbel.trans ((below_regrown wr dq osq).mono hbel.size)⟩
      case measure => simp [intOf]; omega
    · obtain rfl : k = ts.length := by omega
      go_wp2
      go_ret
      exact ⟨rfl, hbel⟩

theorem eqTermS_zero (a a' : Option Addr) (c c' : Nat) (w : World) :
    Calls Try.prog 62 #[.slice a 0 c, .slice a' 0 c'] w fun e w' => e = .returned (.bool true) ∧ Below w.heap.size w w' := by
  go_enter Try.func62, Try.ntmps62
  go_wp2
  refine wp_loop_rounds 1 ?_
  rw [rounds_succ]
  go_wp2
  go_ret
  exact ⟨rfl, Below.refl _ _⟩

theorem eqTermS_same (v v' : Value) (ts : List Tm) (w : World) (hl : ts.length ≤ 1048576) (hS : SliceT w v ts) (hS' : SliceT w v' ts) :
    Calls Try.prog 62 #[v, v'] w fun e w' => e = .returned (.bool true) ∧ Below w.heap.size w w' := by
  obtain ⟨a, cap, rfl, h⟩ := hS
  obtain ⟨a', cap', rfl, h'⟩ := hS'
  cases ts with
  | nil => exact eqTermS_zero _ _ _ _ _
  | cons t r =>
    rcases h with h | ⟨b, off, rfl, hlt, hT⟩
    · cases h
    · rcases h' with h' | ⟨b', off', rfl, hlt', hT'⟩
      · cases h'
      · exact eqTermS_some b off cap b' off' cap' _ w hl hlt hlt' hT hT'

set_option maxHeartbeats 1000000 in
theorem eqPoly_same (p d : Int) (v v' : Value) (ts : List Tm) (w : World) (hl : ts.length ≤ 1048576) (hS : SliceT w v ts) (hS' : SliceT w v' ts) :
    Calls Try.prog 25 #[.agg #[.int .i64 p, .int .i64 d, v], .agg #[.int .i64 p, .int .i64 d, v']] w fun e w' => e = .returned (.bool true) ∧ Below w.heap.size w w' := by
  have hp : (p != p) = false := by simp
  have hd : (d != d) = false := by simp
  have h2 : ∀ o1 o2, SliceT ((w.alloc o1).alloc o2) v ts := fun o1 o2 => hS.below (box2 _ _ _)
  have h2' : ∀ o1 o2, SliceT ((w.alloc o1).alloc o2) v' ts := fun o1 o2 => hS'.below (box2 _ _ _)
  obtain ⟨a, cap, hv, _⟩ := id hS
  obtain ⟨a', cap', hv', _⟩ := id hS'
  subst hv hv'
  go_enter Try.func25, Try.ntmps25
  go_wp2_with fail
  ((with_reducible refine (eqTermS_same _ _ ts _ hl (h2 _ _) (h2' _ _)).mono ?_); rintro e w1 ⟨rfl, hb⟩)
  go_wp2
  go_ret
  exact ⟨rfl, (box2 _ _ _).trans (hb.mono (by simp; omega))⟩

end Go.Proofs.Ytbhgbifliihlbaa
namespace Go.Proofs.Ytbhgbifliihlbaa
open Go.RowKit Go.Sort

def sumT (t : Tm) : Int := t.1 + t.2.1 + t.2.2.1
def degI (ts : List Tm) : Int := match ts.getLast? with | none => -1 | some t => sumT t
def evenB (ts : List Tm) : Bool := match ts with | [] => true | t :: r => sumT t == degI (t :: r)

theorem chain_sum {p d : Int} : ∀ (ts : List Tm) (o : Option Tm), chain p d o ts = true → ∀ t ∈ ts, sumT t ≤ 12
  | [], _, _, t, ht => by simp at ht
  | a :: r, o, h, t, ht => by
    simp only [chain, Bool.and_eq_true] at h
    rcases List.mem_cons.1 ht with rfl | ht
    · exact termOk_sum h.1
    · exact chain_sum r _ h.2.2 t ht
theorem polyB_sum {p d : Int} {ts : List Tm} (h : isPolyB p d ts = true) : ∀ t ∈ ts, sumT t ≤ 12 := by
  simp only [isPolyB, Bool.and_eq_true] at h
  have := h.2.2
  unfold tailB at this
  exact chain_sum _ _ (by simpa using this)

set_option maxHeartbeats 1000000 in
theorem specDegree_some (p d : Int) (b off cap n : Nat) (x y z : Int) (w : World) (hn : n ≤ 1048576) (hb : b < w.heap.size) (hx : 0 ≤ x ∧ x ≤ 255) (hy : 0 ≤ y ∧ y ≤ 255) (hz : 0 ≤ z ∧ z ≤ 255)
    (c0 : w.cell? ⟨b, off + n * 4, none⟩ = some (.int .u8 x)) (c1 : w.cell? ⟨b, off + n * 4 + 1, none⟩ = some (.int .u8 y)) (c2 : w.cell? ⟨b, off + n * 4 + 2, none⟩ = some (.int .u8 z)) :
    Calls Try.prog 55 #[.agg #[.int .i64 p, .int .i64 d, .slice (some ⟨b, off, none⟩) (n + 1) cap]] w fun e w' => e = .returned (.int .i64 (x + y + z)) ∧ Below w.heap.size w w' := by
  have h0 : ((n : Int) + 1 == 0) = false := by simp; omega
  go_enter Try.func55, Try.ntmps55
  go_wp2_with fail
  ((with_reducible refine (sum_any x y z _ hx hy hz).mono ?_); rintro e w1 ⟨rfl, hb1⟩)
  go_wp2
  go_ret
  exact ⟨rfl, (box1 _ _).trans (hb1.mono (by simp))⟩

set_option maxHeartbeats 1000000 in
theorem degree_some (p d : Int) (b off cap n : Nat) (x y z : Int) (w : World) (hn : n ≤ 1048576) (hb : b < w.heap.size) (hx : 0 ≤ x ∧ x ≤ 255) (hy : 0 ≤ y ∧ y ≤ 255) (hz : 0 ≤ z ∧ z ≤ 255)
    (c0 : w.cell? ⟨b, off + n * 4, none⟩ = some (.int .u8 x)) (c1 : w.cell? ⟨b, off + n * 4 + 1, none⟩ = some (.int .u8 y)) (c2 : w.cell? ⟨b, off + n * 4 + 2, none⟩ = some (.int .u8 z)) :
    Calls Try.prog 59 #[.agg #[.int .i64 p, .int .i64 d, .slice (some ⟨b, off, none⟩) (n + 1) cap]] w fun e w' => e = .returned (.int .i64 (capd (x + y + z))) ∧ Below w.heap.size w w' := by
  have h0 : ((n : Int) + 1 == 0) = false := by simp; omega
  have k : ∀ o, (w.alloc o).cell? ⟨b, off + n * 4, none⟩ = some (.int .u8 x) ∧ (w.alloc o).cell? ⟨b, off + n * 4 + 1, none⟩ = some (.int .u8 y) ∧ (w.alloc o).cell? ⟨b, off + n * 4 + 2, none⟩ = some (.int .u8 z) := fun o =>
    ⟨((box1 w o).cell (p := ⟨b, _, none⟩) hb).trans c0, ((box1 w o).cell (p := ⟨b, _, none⟩) hb).trans c1, ((box1 w o).cell (p := ⟨b, _, none⟩) hb).trans c2⟩
  have K := Lib.hid k
  clear k
  go_enter Try.func59, Try.ntmps59
  go_wp2_with fail
  ((with_reducible refine (capped_any _ _ _ x y z _ hx hy hz (K.out _).1 (K.out _).2.1 (K.out _).2.2).mono ?_); rintro e w1 ⟨rfl, rfl⟩)
  go_wp2
  go_ret
  exact ⟨rfl, box1 _ _⟩

theorem specDegree_nil (p d : Int) (a : Option Addr) (cap : Nat) (w : World) :
    Calls Try.prog 55 #[.agg #[.int .i64 p, .int .i64 d, .slice a 0 cap]] w fun e w' => e = .returned (.int .i64 (-1)) ∧ Below w.heap.size w w' := by
  go_enter Try.func55, Try.ntmps55
  go_wp2
  go_ret
  exact ⟨rfl, box1 _ _⟩
theorem degree_nil (p d : Int) (a : Option Addr) (cap : Nat) (w : World) :
    Calls Try.prog 59 #[.agg #[.int .i64 p, .int .i64 d, .slice a 0 cap]] w fun e w' => e = .returned (.int .i64 (-1)) ∧ Below w.heap.size w w' := by
  go_enter Try.func59, Try.ntmps59
  go_wp2
  go_ret
  exact ⟨rfl, box1 _ _⟩

theorem degI_at (ts : List Tm) (n : Nat) (t : Tm) (h : ts.length = n + 1) (ht : ts[n]? = some t) : degI ts = sumT t := by
  unfold degI
  have : ts.getLast? = some t := by
    rw [List.getLast?_eq_getElem?, h]; simpa using ht
  rw [this]

theorem specDegree_any (p d : Int) (v : Value) (ts : List Tm) (w : World) (hl : ts.length ≤ 1048576) (hS : SliceT w v ts) (hby : ∀ t ∈ ts, tmByte t) :
    Calls Try.prog 55 #[.agg #[.int .i64 p, .int .i64 d, v]] w fun e w' => e = .returned (.int .i64 (degI ts)) ∧ Below w.heap.size w w' := by
  obtain ⟨a, cap, rfl, h⟩ := hS
  by_cases h0 : ts = []
  · subst h0; exact specDegree_nil p d a cap w
  · rcases h with h | ⟨b, off, rfl, hlt, hT⟩
    · exact absurd h h0
    · obtain ⟨n, hn⟩ : ∃ n, ts.length = n + 1 := ⟨ts.length - 1, by have := List.length_pos_iff.2 h0; omega⟩
      have hnl : n < ts.length := by omega
      obtain ⟨c0, c1, c2, _⟩ := hT n hnl
      obtain ⟨⟨bx, by1, bz⟩, _⟩ := hby _ (List.getElem_mem hnl)
      have hd := degI_at ts n _ hn (List.getElem?_eq_getElem hnl)
      generalize ts[n] = t at *
      rw [hd, hn]
      exact specDegree_some p d b off cap n _ _ _ w (by omega) hlt bx by1 bz c0 c1 c2
theorem degree_any2 (p d : Int) (v : Value) (ts : List Tm) (w : World) (hl : ts.length ≤ 1048576) (hS : SliceT w v ts) (hby : ∀ t ∈ ts, tmByte t) (hs : ∀ t ∈ ts, sumT t ≤ 12) :
    Calls Try.prog 59 #[.agg #[.int .i64 p, .int .i64 d, v]] w fun e w' => e = .returned (.int .i64 (degI ts)) ∧ Below w.heap.size w w' := by
  obtain ⟨a, cap, rfl, h⟩ := hS
  by_cases h0 : ts = []
  · subst h0; exact degree_nil p d a cap w
  · rcases h with h | ⟨b, off, rfl, hlt, hT⟩
    · exact absurd h h0
    · obtain ⟨n, hn⟩ : ∃ n, ts.length = n + 1 := ⟨ts.length - 1, by have := List.length_pos_iff.2 h0; omega⟩
      have hnl : n < ts.length := by omega
      obtain ⟨c0, c1, c2, _⟩ := hT n hnl
      obtain ⟨⟨bx, by1, bz⟩, _⟩ := hby _ (List.getElem_mem hnl)
      have hd := degI_at ts n _ hn (List.getElem?_eq_getElem hnl)
      have hc := hs _ (List.getElem_mem hnl)
      generalize ts[n] = t at *
      have hc' : capd (sumT t) = sumT t := by unfold capd; rw [if_pos hc]
      rw [hd, ← hc', hn]
      exact degree_some p d b off cap n _ _ _ w (by omega) hlt bx by1 bz c0 c1 c2

end Go.Proofs.Ytbhgbifliihlbaa
namespace Go.Proofs.Ytbhgbifliihlbaa
open Go.RowKit Go.Sort

/-- A polynomial: its prime, its letters, its terms. -/
abbrev Pm := Int × Int × List Tm
/-- The polynomial k of a list, in memory. -/
def PolyAt (w : World) (b o : Nat) (g : Pm) : Prop :=
  ∃ u, w.cell? ⟨b, o, none⟩ = some (.int .i64 g.1) ∧ w.cell? ⟨b, o + 1, none⟩ = some (.int .i64 g.2.1) ∧ w.cell? ⟨b, o + 2, none⟩ = some u ∧ SliceT w u g.2.2
def PolysW (w : World) (b off : Nat) (G : List Pm) : Prop := ∀ (k : Nat) (h : k < G.length), PolyAt w b (off + k * 3) G[k]
/-- A slice that reads as these polynomials. -/
def SlP (w : World) (v : Value) (G : List Pm) : Prop :=
  ∃ a cap, v = .slice a G.length cap ∧ (G = [] ∨ ∃ b off, a = some ⟨b, off, none⟩ ∧ b < w.heap.size ∧ PolysW w b off G)
theorem PolyAt.below {w w' : World} {b o : Nat} {g : Pm} (h : PolyAt w b o g) (hb : Below w.heap.size w w') (hlt : b < w.heap.size) : PolyAt w' b o g := by
  obtain ⟨u, h0, h1, h2, hS⟩ := h
  exact ⟨u, (hb.cell (p := ⟨b, _, none⟩) hlt).trans h0, (hb.cell (p := ⟨b, _, none⟩) hlt).trans h1, (hb.cell (p := ⟨b, _, none⟩) hlt).trans h2, hS.below hb⟩
theorem PolysW.below {w w' : World} {b off : Nat} {G : List Pm} (h : PolysW w b off G) (hb : Below w.heap.size w w') (hlt : b < w.heap.size) : PolysW w' b off G :=
  fun k hk => (h k hk).below hb hlt
theorem SlP.below {w w' : World} {v : Value} {G : List Pm} (h : SlP w v G) (hb : Below w.heap.size w w') : SlP w' v G := by
  obtain ⟨a, cap, hv, h | ⟨b, off, ha, hlt, hT⟩⟩ := h
  · exact ⟨a, cap, hv, .inl h⟩
  · exact ⟨a, cap, hv, .inr ⟨b, off, ha, Nat.lt_of_lt_of_le hlt hb.size, hT.below hb hlt⟩⟩
theorem SlP.at {w : World} {a : Option Addr} {n cap : Nat} {G : List Pm} (h : SlP w (.slice a n cap) G) (h0 : 0 < G.length) : ∃ b off, a = some ⟨b, off, none⟩ ∧ b < w.heap.size ∧ PolysW w b off G ∧ n = G.length := by
  obtain ⟨a', cap', hv, h | ⟨b, off, ha, hlt, hT⟩⟩ := h
  · rw [h] at h0; simp at h0
  · simp at hv
    obtain ⟨rfl, rfl, rfl⟩ := hv
    exact ⟨b, off, ha, hlt, hT, rfl⟩
/-- Numbers that fit; no list of terms is too long. -/
def PmOk (g : Pm) : Prop := (∀ t ∈ g.2.2, tmByte t) ∧ g.2.2.length ≤ 1048576
/-- A polynomial. -/
def isPm (g : Pm) : Bool := isPolyB g.1 g.2.1 g.2.2
end Go.Proofs.Ytbhgbifliihlbaa
namespace Go.Proofs.Ytbhgbifliihlbaa
open Go.RowKit Go.Sort

/-- The mark of cell c, the first being k0. -/
def markT (k0 : Int) (c : Nat) : Value := if c % 4 = 3 then .int .i64 (k0 + c) else .int .u8 ((k0 + c) % 256)
theorem grown_setT {w wr : World} {g : Nat} (h : w.grownBy wr (some g)) (o : Nat) (v : Value) : w.grownBy (wr.setCell ⟨g, o, none⟩ v) (some g) :=
  ⟨h.os, h.tape, h.output, by rw [World.size_setCell]; exact h.size, fun k hk hne => (Below.heap_setCell wr ⟨g, o, none⟩ v k (fun e => hne (by rw [e]))).trans (h.block k hk hne)⟩

set_option maxHeartbeats 1000000 in
theorem markT_any (g n cap N : Nat) (k0 : Int) (f : Nat → Value) (w : World) (hr : w.rowIs g 115 N f) (hN : n * 4 ≤ N) (hn : n ≤ 1048576) (h0 : 0 ≤ k0) (h1 : k0 ≤ 1000000000) :
    Calls Try.prog 54 #[.slice (some ⟨g, 0, none⟩) n cap, .int .i64 k0] w fun e w' =>
      e = .returned (.int .i64 (k0 + 4 * n)) ∧ ∃ f', w'.rowIs g 115 N f' ∧ (∀ j, j < n * 4 → f' j = markT k0 j) ∧ w.grownBy w' (some g) := by
  go_enter Try.func54, Try.ntmps54
  go_wp2
  go_loopw [1, 5] (fun m i wr => ∃ k : Nat, k ≤ n ∧ i = .int .i64 k ∧ m = .int .i64 (k0 + 4 * k) ∧ ∃ f', wr.rowIs g 115 N f' ∧ (∀ j, j < k * 4 → f' j = markT k0 j) ∧ w.grownBy wr (some g)) (fun _ i _ => n - (intOf i).toNat)
  case atStart => exact ⟨0, by omega, rfl, by simp, f, hr, fun j h => by omega, ⟨rfl, rfl, rfl, Nat.le_refl _, fun _ _ _ => rfl⟩⟩
  case round =>
    obtain ⟨k, hk, rfl, rfl, f1, hr1, hf1, hg1⟩ := hrel
    by_cases hlt : k < n
    · have hlt' : (k : Int) < (n : Int) := by omega
      go_wp2
      obtain ⟨wo, rfl⟩ : ∃ wo : World, wo = wr := ⟨_, rfl⟩
      go_loopw [1, 6] (fun m i wr => ∃ t : Nat, t ≤ 3 ∧ i = .int .i64 t ∧ m = .int .i64 (k0 + 4 * k + t) ∧ ∃ f', wr.rowIs g 115 N f' ∧ (∀ j, j < k * 4 + t → f' j = markT k0 j) ∧ w.grownBy wr (some g)) (fun _ i _ => 3 - (intOf i).toNat)
      case atStart => exact ⟨0, by omega, rfl, by simp, f1, hr1, fun j h => hf1 j (by omega), hg1⟩
      case round =>
        obtain ⟨t, ht, rfl, rfl, f2, hr2, hf2, hg2⟩ := hrel
        by_cases hlt2 : t < 3
        · have hlt2' : (t : Int) < 3 := by omega
          have hcell := hr2.cell (i := k * 4 + t) (by omega)
          have hfz := hr2.frozen (k * 4 + t)
          go_wp2
          go_roundw
          case rel =>
            refine ⟨t + 1, by omega, by go_num, by go_num, _, hr2.set (k * 4 + t) _, fun j h => ?_, grown_setT hg2 _ _⟩
            by_cases hj : j = k * 4 + t
            · rw [if_pos hj, hj]; unfold markT; rw [if_neg (by omega)]; congr 1; omega
            · rw [if_neg hj]; exact hf2 j (by omega)
          case measure => simp [intOf]; omega
        · obtain rfl : t = 3 := by omega
          have hcell := hr2.cell (i := k * 4 + 3) (by omega)
          have hfz := hr2.frozen (k * 4 + 3)
          go_wp2
          go_roundw
          case rel =>
            refine ⟨k + 1, by omega, by go_num, by go_num, _, hr2.set (k * 4 + 3) _, fun j h => ?_, grown_setT hg2 _ _⟩
            by_cases hj : j = k * 4 + 3
            · rw [if_pos hj, hj]; unfold markT; rw [if_pos (by omega)]; congr 1; omega
            · rw [if_neg hj]; exact hf2 j (by omega)
          case measure => simp [intOf]; omega
    · obtain rfl : k = n := by omega
      go_wp2
      go_ret
      exact ⟨rfl, f1, hr1, hf1, hg1⟩
end Go.Proofs.Ytbhgbifliihlbaa
namespace Go.Proofs.Ytbhgbifliihlbaa
open Go.RowKit Go.Sort

/-- A slice of n terms in an array of the call's own (from block base on), or nil. -/
def OwnG (w : World) (base : Nat) (v : Value) (n : Nat) : Prop :=
  (v = .slice none 0 0 ∧ n = 0) ∨ ∃ g cap N f, v = .slice (some ⟨g, 0, none⟩) n cap ∧ base ≤ g ∧ n * 4 ≤ N ∧ w.rowIs g 115 N f
theorem OwnT.own {w : World} {base : Nat} {v : Value} {ts : List Tm} (h : OwnT w base v ts) : OwnG w base v ts.length := by
  obtain ⟨g, f, hv, hb, hr, _⟩ := h
  exact .inr ⟨g, _, _, f, hv, hb, Nat.le_refl _, hr⟩
theorem OwnG.of_owns {w : World} {base : Nat} {v : Value} {n : Nat} {xs : List Value} (h : w.ownsRow base 115 4 v n xs) : OwnG w base v n := by
  obtain ⟨_, ⟨hv, hn⟩ | ⟨g, cap, cur, hv, hb, hg, hcap, _, hsz, _⟩⟩ := h
  · exact .inl ⟨hv, hn⟩
  · refine .inr ⟨g, cap, cap * 4, fun i => cur.getD i undef, hv, hb, by omega, cur, hg, hsz, fun i hi => ?_⟩
    simp [Array.getD, hsz, hi]
theorem OwnG.below {w w' : World} {base : Nat} {v : Value} {n : Nat} (h : OwnG w base v n) (hb : Below w.heap.size w w') : OwnG w' base v n := by
  rcases h with h | ⟨g, cap, N, f, hv, hg, hN, hr⟩
  · exact .inl h
  · exact .inr ⟨g, cap, N, f, hv, hg, hN, rowIs_below hr hb hr.lt⟩
theorem OwnG.lt {w : World} {base : Nat} {v : Value} {n : Nat} (h : OwnG w base v n) : ∀ c, v.ownBlock = some c → base ≤ c ∧ c < w.heap.size := by
  rcases h with ⟨rfl, _⟩ | ⟨g, cap, N, f, rfl, hg, _, hr⟩
  · intro c hc; simp [Value.ownBlock] at hc
  · intro c hc; simp [Value.ownBlock] at hc; subst hc; exact ⟨hg, hr.lt⟩
/-- Another array than the one that is written stays. -/
theorem OwnG.keep {w w' : World} {base : Nat} {v : Value} {n : Nat} {row : Option Nat} (h : OwnG w base v n) (hg : w.grownBy w' row) (hne : v.ownBlock = none ∨ v.ownBlock ≠ row) : OwnG w' base v n := by
  rcases h with h | ⟨g, cap, N, f, rfl, hb, hN, hr⟩
  · exact .inl h
  · refine .inr ⟨g, cap, N, f, rfl, hb, hN, hr.of_block (hg.block g hr.lt ?_)⟩
    rcases hne with h | h
    · simp [Value.ownBlock] at h
    · simpa [Value.ownBlock] using h
theorem SliceT.keep {w w' : World} {v : Value} {ts : List Tm} {row : Option Nat} (h : SliceT w v ts) (hg : w.grownBy w' row) (hne : ∀ c, v.ownBlock = some c → some c ≠ row) : SliceT w' v ts := by
  obtain ⟨a, cap, rfl, h | ⟨b, off, rfl, hlt, hT⟩⟩ := h
  · exact ⟨a, cap, rfl, .inl h⟩
  · refine ⟨_, cap, rfl, .inr ⟨b, off, rfl, Nat.lt_of_lt_of_le hlt hg.size, fun k hk => ?_⟩⟩
    have hb := hg.block b hlt (hne b rfl)
    obtain ⟨h0, h1, h2, h3⟩ := hT k hk
    exact ⟨(World.cell?_of_block (w := w) (a := ⟨b, _, none⟩) hb).trans h0, (World.cell?_of_block (w := w) (a := ⟨b, _, none⟩) hb).trans h1, (World.cell?_of_block (w := w) (a := ⟨b, _, none⟩) hb).trans h2, (World.cell?_of_block (w := w) (a := ⟨b, _, none⟩) hb).trans h3⟩

/-- The marks from k0 on stand in the array of v. -/
def MarksT (w : World) (v : Value) (n : Nat) (k0 : Int) : Prop :=
  (v = .slice none 0 0 ∧ n = 0) ∨ ∃ g cap, v = .slice (some ⟨g, 0, none⟩) n cap ∧ g < w.heap.size ∧ ∀ j, j < n * 4 → w.cell? ⟨g, j, none⟩ = some (markT k0 j)
theorem MarksT.below {w w' : World} {v : Value} {n : Nat} {k0 : Int} (h : MarksT w v n k0) (hb : Below w.heap.size w w') : MarksT w' v n k0 := by
  rcases h with h | ⟨g, cap, hv, hg, hc⟩
  · exact .inl h
  · exact .inr ⟨g, cap, hv, Nat.lt_of_lt_of_le hg hb.size, fun j hj => (hb.cell (p := ⟨g, j, none⟩) hg).trans (hc j hj)⟩

theorem markT_zero (a : Option Addr) (c : Nat) (k0 : Int) (w : World) :
    Calls Try.prog 54 #[.slice a 0 c, .int .i64 k0] w fun e w' => e = .returned (.int .i64 k0) ∧ w = w' := by
  go_enter Try.func54, Try.ntmps54
  go_wp2
  refine wp_loop_rounds 1 ?_
  rw [rounds_succ]
  go_wp2
  go_ret
  exact ⟨rfl, rfl⟩
theorem markS_own {base : Nat} {v : Value} {n : Nat} (k0 : Int) (w : World) (h : OwnG w base v n) (hn : n ≤ 1048576) (h0 : 0 ≤ k0) (h1 : k0 ≤ 1000000000) :
    Calls Try.prog 54 #[v, .int .i64 k0] w fun e w' => e = .returned (.int .i64 (k0 + 4 * n)) ∧ MarksT w' v n k0 ∧ w.grownBy w' v.ownBlock := by
  rcases h with ⟨rfl, rfl⟩ | ⟨g, cap, N, f, rfl, hb, hN, hr⟩
  · exact (markT_zero none 0 k0 w).mono fun e w' ⟨he, hw⟩ => ⟨by rw [he]; simp, .inl ⟨rfl, rfl⟩, by subst hw; exact ⟨rfl, rfl, rfl, Nat.le_refl _, fun _ _ _ => rfl⟩⟩
  · exact (markT_any g n cap N k0 f w hr hN hn h0 h1).mono fun e w' ⟨he, f', hr', hf', hgr⟩ =>
      ⟨he, .inr ⟨g, cap, rfl, hr'.lt, fun j hj => (hr'.cell (by omega)).trans (by rw [hf' j hj])⟩, hgr⟩
theorem grown_box {w w' : World} {o : Obj} {row : Option Nat} (h : (w.alloc o).grownBy w' row) : w.grownBy w' row := by
  have hs := h.size
  simp only [World.size_alloc] at hs
  exact ⟨h.os, h.tape, h.output, by omega, fun k hk hne => (h.block k (by simp; omega) hne).trans ((box1 w o).block k hk)⟩

set_option maxHeartbeats 1000000 in
theorem markPoly_own {base : Nat} {v : Value} {n : Nat} (p d k0 : Int) (w : World) (h : OwnG w base v n) (hn : n ≤ 1048576) (h0 : 0 ≤ k0) (h1 : k0 ≤ 1000000000) :
    Calls Try.prog 28 #[.agg #[.int .i64 p, .int .i64 d, v], .int .i64 k0] w fun e w' => e = .returned (.int .i64 (k0 + 4 * n)) ∧ MarksT w' v n k0 ∧ w.grownBy w' v.ownBlock := by
  have hO : ∀ o, OwnG (w.alloc o) base v n := fun o => h.below (box1 _ _)
  obtain ⟨a, m, c, hv⟩ : ∃ a m c, v = .slice a m c := by
    rcases h with ⟨rfl, _⟩ | ⟨g, cap, N, f, rfl, _⟩
    · exact ⟨_, _, _, rfl⟩
    · exact ⟨_, _, _, rfl⟩
  subst hv
  go_enter Try.func28, Try.ntmps28
  go_wp2_with fail
  ((with_reducible refine (markS_own k0 _ (hO _) hn h0 h1).mono ?_); rintro e w1 ⟨rfl, hM, hg⟩)
  go_wp2
  go_ret
  exact ⟨rfl, hM, grown_box hg⟩
end Go.Proofs.Ytbhgbifliihlbaa
namespace Go.Proofs.Ytbhgbifliihlbaa
open Go.RowKit Go.Sort

/-- A slice of terms in a block below B. -/
def SliceB (w : World) (B : Nat) (v : Value) (ts : List Tm) : Prop :=
  ∃ a cap, v = .slice a ts.length cap ∧ (ts = [] ∨ ∃ b off, a = some ⟨b, off, none⟩ ∧ b < B ∧ Terms w b off ts)
theorem SliceT.bound {w : World} {v : Value} {ts : List Tm} (h : SliceT w v ts) : SliceB w w.heap.size v ts := h
theorem SliceB.slice {w : World} {B : Nat} {v : Value} {ts : List Tm} (h : SliceB w B v ts) (hB : B ≤ w.heap.size) : SliceT w v ts := by
  obtain ⟨a, cap, hv, h | ⟨b, off, ha, hlt, hT⟩⟩ := h
  · exact ⟨a, cap, hv, .inl h⟩
  · exact ⟨a, cap, hv, .inr ⟨b, off, ha, Nat.lt_of_lt_of_le hlt hB, hT⟩⟩
theorem SliceB.kept {w w' : World} {B : Nat} {v : Value} {ts : List Tm} {row : Option Nat} (h : SliceB w B v ts) (hg : w.grownBy w' row) (hB : B ≤ w.heap.size) (hr : ∀ g, row = some g → B ≤ g) : SliceB w' B v ts := by
  obtain ⟨a, cap, hv, h | ⟨b, off, ha, hlt, hT⟩⟩ := h
  · exact ⟨a, cap, hv, .inl h⟩
  · refine ⟨a, cap, hv, .inr ⟨b, off, ha, hlt, fun k hk => ?_⟩⟩
    have hb := hg.block b (Nat.lt_of_lt_of_le hlt hB) (fun e => by have := hr b e.symm; omega)
    obtain ⟨h0, h1, h2, h3⟩ := hT k hk
    exact ⟨(World.cell?_of_block (w := w) (a := ⟨b, _, none⟩) hb).trans h0, (World.cell?_of_block (w := w) (a := ⟨b, _, none⟩) hb).trans h1, (World.cell?_of_block (w := w) (a := ⟨b, _, none⟩) hb).trans h2, (World.cell?_of_block (w := w) (a := ⟨b, _, none⟩) hb).trans h3⟩
theorem below_grown {w w' : World} (h : Below w.heap.size w w') : w.grownBy w' none := ⟨h.os, h.tape, h.output, h.size, fun k hk _ => h.block k hk⟩
theorem rowIs_ne {w : World} {b b' n n' : Nat} {t t' : TypeId} {f f' : Nat → Value} (h : w.rowIs b t n f) (h' : w.rowIs b' t' n' f') (ht : t ≠ t') : b ≠ b' := by
  intro e
  subst e
  obtain ⟨c, hc, _⟩ := h
  obtain ⟨c', hc', _⟩ := h'
  rw [hc] at hc'
  simp at hc'
  exact ht hc'.2
theorem OwnG.row {w : World} {base : Nat} {v : Value} {n : Nat} (h : OwnG w base v n) : ∀ g, v.ownBlock = some g → base ≤ g ∧ ∃ N f, w.rowIs g 115 N f := by
  rcases h with ⟨rfl, _⟩ | ⟨g, cap, N, f, rfl, hg, _, hr⟩
  · intro c hc; simp [Value.ownBlock] at hc
  · intro c hc; simp [Value.ownBlock] at hc; subst hc; exact ⟨hg, N, f, hr⟩

/-- The boxes of a law: the argument's (A), the model's result's (B0), the copy's (B1), the program's result's (B2). -/
structure LawSt (w wr : World) (A B0 B1 B2 N0 : Nat) (p d P D : Int) (va s0 v1 s2 : Value) (ts S : List Tm) : Prop where
  ax : wr.rowIs A 51 3 (polyF p d va)
  b0 : wr.rowIs B0 40 3 (polyF P D s0)
  b1 : wr.rowIs B1 40 3 (polyF p d v1)
  b2 : wr.rowIs B2 40 3 (polyF P D s2)
  sa : SliceB wr w.heap.size va ts
  sm : SliceB wr N0 s0 S
  below : Below w.heap.size w wr
  n0 : w.heap.size ≤ N0 ∧ N0 ≤ wr.heap.size
theorem LawSt.step {w wr w' : World} {A B0 B1 B2 N0 : Nat} {p d P D : Int} {va s0 v1 s2 : Value} {ts S : List Tm} {row : Option Nat} (h : LawSt w wr A B0 B1 B2 N0 p d P D va s0 v1 s2 ts S) (hg : wr.grownBy w' row) (hr : ∀ g, row = some g → N0 ≤ g ∧ ∃ N f, wr.rowIs g 115 N f) :
    LawSt w w' A B0 B1 B2 N0 p d P D va s0 v1 s2 ts S := by
  have hsz := hg.size
  obtain ⟨n1, n2⟩ := h.n0
  have key : ∀ b t f, wr.rowIs b t 3 f → t ≠ 115 → w'.rowIs b t 3 f := fun b t f hb ht => hb.of_block (hg.block b hb.lt fun e => by
    obtain ⟨_, N, f', hrow⟩ := hr b e.symm
    exact rowIs_ne hb hrow ht rfl)
  refine ⟨key _ _ _ h.ax (by decide), key _ _ _ h.b0 (by decide), key _ _ _ h.b1 (by decide), key _ _ _ h.b2 (by decide), h.sa.kept hg h.below.size fun g e => Nat.le_trans n1 (hr g e).1, h.sm.kept hg n2 fun g e => (hr g e).1, ?_, n1, by omega⟩
  exact h.below.grown hg h.below.size fun g e => Nat.le_trans n1 (hr g e).1
theorem LawSt.on {w wr w' : World} {A B0 B1 B2 N0 : Nat} {p d P D : Int} {va s0 v1 s2 : Value} {ts S : List Tm} (h : LawSt w wr A B0 B1 B2 N0 p d P D va s0 v1 s2 ts S) (hb : Below wr.heap.size wr w') : LawSt w w' A B0 B1 B2 N0 p d P D va s0 v1 s2 ts S :=
  h.step (below_grown hb) (fun g e => by simp at e)
theorem OwnP.keep {w w' : World} {base : Nat} {v : Value} {S : List Tm} {row : Option Nat} (h : OwnP w base v S) (hg : w.grownBy w' row) (hne : ∀ g, row = some g → g < base) : OwnP w' base v S := by
  refine World.ownsRow.kept h hg ?_
  cases hv : v.ownBlock with
  | none => exact .inl rfl
  | some c =>
    refine .inr fun e => ?_
    have h1 := (h.lt c hv).1
    have h2 := hne c e.symm
    omega
end Go.Proofs.Ytbhgbifliihlbaa
