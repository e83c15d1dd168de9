/-
  THE ALGEBRA OF PRODUCTS, in plain mathematics: they do not depend on the order; a number goes out of a product. Conditions: as each theorem states.
  PAIRS of polynomials in boxes; whether they are alike. Conditions: as each theorem states.
  A map of coefficients in the making. Conditions: as each theorem states.
  MARKS in lists of terms. Conditions: as each theorem states.. Conditions: as each theorem states.
  LISTS OF TERMS of the call's own, marked. Conditions: as each theorem states.. Conditions: as each theorem states.
  WALKS: 'impl.addTimes'. Conditions: as each theorem states.
-/
import Derived.Test.YtbhgbifliihlbaaGreatQ05
import Derived.Test.YtbhgbifliihlbaaGreatQ02
namespace Go.Proofs.YtbhgbifliihlbaaGreat
open Go.RowKit Go.Sort Go.Maps

theorem addE_comm (a b : Int × Int × Int) : addE a b = addE b a := by simp [addE, Int.add_comm]
theorem mulS_right (t : Tm) (r : List Tm) (e : Int × Int × Int) : ∀ xs : List Tm, mulS xs (t :: r) e = rowS t xs e + mulS xs r e
  | [] => by simp [mulS, rowS]
  | s :: q => by
    rw [mulS, mulS, mulS_right t r e q, rowS, rowS, addE_comm, Int.mul_comm s.2.2.2]
    omega
/-- Products do not depend on the order. -/
theorem mulS_comm (e : Int × Int × Int) (xs : List Tm) : ∀ ys : List Tm, mulS xs ys e = mulS ys xs e
  | [] => by rw [mulS_nil]; rfl
  | t :: r => by rw [mulS_right, mulS_comm e xs r]; rfl
theorem mulF_comm (p : Int) (xs ys : List Tm) (e : Int × Int × Int) : mulF p xs ys e = mulF p ys xs e := by rw [mulF, mulF, mulS_comm]

def subE (a b : Int × Int × Int) : Int × Int × Int := (a.1 - b.1, a.2.1 - b.2.1, a.2.2 - b.2.2)
theorem addE_sub {a b e : Int × Int × Int} : addE a b = e ↔ a = subE e b := by
  obtain ⟨a1, a2, a3⟩ := a
  obtain ⟨b1, b2, b3⟩ := b
  obtain ⟨e1, e2, e3⟩ := e
  simp [addE, subE]
  omega
/-- The coefficients of a product, told by the coefficients of the first factor. -/
def colS (f : Int × Int × Int → Int) : List Tm → Int × Int × Int → Int
  | [], _ => 0
  | t :: r, e => f (subE e (tmE t)) * t.2.2.2 + colS f r e
theorem colS_add (f g : Int × Int × Int → Int) (e : Int × Int × Int) : ∀ ys : List Tm, colS (fun a => f a + g a) ys e = colS f ys e + colS g ys e
  | [] => by simp [colS]
  | t :: r => by rw [colS, colS, colS, colS_add f g e r, Int.add_mul]; omega
theorem colS_zero (e : Int × Int × Int) : ∀ ys : List Tm, colS (fun _ => 0) ys e = 0
  | [] => rfl
  | t :: r => by rw [colS, colS_zero e r]; simp
theorem colS_congr {f g : Int × Int × Int → Int} (h : ∀ a, f a = g a) (e : Int × Int × Int) : ∀ ys : List Tm, colS f ys e = colS g ys e
  | [] => rfl
  | t :: r => by rw [colS, colS, h, colS_congr h e r]
theorem rowS_col (s : Tm) (e : Int × Int × Int) : ∀ ys : List Tm, rowS s ys e = colS (fun a => if tmE s = a then s.2.2.2 else 0) ys e
  | [] => rfl
  | t :: r => by
    rw [rowS, colS, rowS_col s e r]
    by_cases h : addE (tmE s) (tmE t) = e
    · rw [if_pos h, if_pos (addE_sub.1 h)]
    · rw [if_neg h, if_neg (fun h' => h (addE_sub.2 h'))]; simp
theorem atL_cons {s : Tm} {r : List Tm} (h : Asc (s :: r)) (a : Int × Int × Int) : atL (s :: r) a = (if tmE s = a then s.2.2.2 else 0) + atL r a := by
  rw [atL]
  by_cases hx : tmE s = a
  · subst hx
    rw [if_pos rfl, if_pos rfl, atL_none (ts := r) (fun t ht hx => before_ne ((List.pairwise_cons.1 h).1 t ht) hx.symm)]
    simp
  · rw [if_neg hx, if_neg hx, Int.zero_add]
theorem mulS_col (ys : List Tm) (e : Int × Int × Int) : ∀ {xs : List Tm}, Asc xs → mulS xs ys e = colS (atL xs) ys e
  | [], _ => (colS_zero e ys).symm
  | s :: r, h => by
    rw [mulS, mulS_col ys e (List.pairwise_cons.1 h).2, rowS_col, ← colS_add]
    exact colS_congr (fun a => (atL_cons h a).symm) e ys
theorem colS_mod (p : Int) (f : Int × Int × Int → Int) (e : Int × Int × Int) : ∀ ys : List Tm, colS (fun a => f a % p) ys e % p = colS f ys e % p
  | [] => rfl
  | t :: r => by
    rw [colS, colS, Int.add_emod, colS_mod p f e r, ← Int.add_emod_emod, Int.mul_emod, Int.emod_emod_of_dvd _ (Int.dvd_refl p), ← Int.mul_emod, ← Int.add_emod_emod]
    simp [Int.add_emod]
theorem colS_scale (v : Int) (f : Int × Int × Int → Int) (e : Int × Int × Int) : ∀ ys : List Tm, colS (fun a => v * f a) ys e = v * colS f ys e
  | [] => by simp [colS]
  | t :: r => by rw [colS, colS, colS_scale v f e r, Int.mul_add, Int.mul_assoc]
/-- The coefficient at any exponents, bytes or not. -/
theorem IsP.all {p : Int} {L M : List Tm} {f : Int × Int × Int → Int} {v : Int} (h : IsP p L (fun e => v * atL M e % p)) (hM : IsP p M f) (e : Int × Int × Int) : atL L e = v * atL M e % p := by
  by_cases he : byte3 e
  · exact h.2.2 e he
  · rw [atL_none (ts := L) (fun t ht hx => he (by rw [← hx]; exact (h.2.1 t ht).1.1)), atL_none (ts := M) (fun t ht hx => he (by rw [← hx]; exact (hM.2.1 t ht).1.1))]
    simp
/-- A number goes out of a product. -/
theorem mulF_scale {p : Int} {L M ys : List Tm} {f : Int × Int × Int → Int} {v : Int} (h : IsP p L (fun e => v * atL M e % p)) (hM : IsP p M f) (e : Int × Int × Int) : mulF p L ys e = v * mulF p M ys e % p := by
  rw [mulF, mulF, mulS_col ys e h.1, mulS_col ys e hM.1, colS_congr (fun a => IsP.all h hM a) e ys, colS_mod, colS_scale]
  simp [Int.mul_emod]
end Go.Proofs.YtbhgbifliihlbaaGreat
namespace Go.Proofs.YtbhgbifliihlbaaGreat
open Go.RowKit Go.Sort

/-- The boxes of two polynomials at the head of a function. -/
theorem pair2 (w : World) (p d : Int) (v : Value) (p' d' : Int) (v' : Value) : ∃ W, W = (w.alloc (.cells #[.int .i64 p, .int .i64 d, v] 39)).alloc (.cells #[.int .i64 p', .int .i64 d', v'] 39) ∧ Below w.heap.size w W ∧ (W.heap.size ≤ w.heap.size + 2 ∧ w.heap.size + 2 ≤ W.heap.size) ∧
      W.rowIs w.heap.size 39 3 (polyF p d v) ∧ W.rowIs (w.heap.size + 1) 39 3 (polyF p' d' v') := by
  refine ⟨_, rfl, box2 _ _ _, ⟨by simp, by simp⟩, ?_, ?_⟩
  · refine World.rowIs.alloc (World.rowIs_alloc w #[Value.int .i64 p, .int .i64 d, v] _ _ (fun i hi => ?_)) _
    simp at hi; match i, hi with | 0, _ => rfl | 1, _ => rfl | 2, _ => rfl
  · have := World.rowIs_alloc (w.alloc (.cells #[.int .i64 p, .int .i64 d, v] 39)) #[Value.int .i64 p', .int .i64 d', v'] 39 (polyF p' d' v') (fun i hi => by simp at hi; match i, hi with | 0, _ => rfl | 1, _ => rfl | 2, _ => rfl)
    simpa using this
/-- .. and of a polynomial as the result. -/
theorem pair3 (w : World) (p d : Int) (v : Value) (p' d' : Int) (v' : Value) : ∃ W, W = ((w.alloc (.cells #[.int .i64 p, .int .i64 d, v] 39)).alloc (.cells #[.int .i64 p', .int .i64 d', v'] 39)).alloc (.cells #[.int .i64 0, .int .i64 0, .slice none 0 0] 39) ∧ Below w.heap.size w W ∧ (W.heap.size ≤ w.heap.size + 3 ∧ w.heap.size + 3 ≤ W.heap.size) ∧
      W.rowIs w.heap.size 39 3 (polyF p d v) ∧ W.rowIs (w.heap.size + 1) 39 3 (polyF p' d' v') ∧ W.rowIs (w.heap.size + 2) 39 3 (polyF 0 0 (.slice none 0 0)) := by
  obtain ⟨V, hV, hb, ⟨s1, s2⟩, r1, r2⟩ := pair2 w p d v p' d' v'
  refine ⟨_, by rw [← hV], hb.trans ((box1 V _).mono hb.size), ⟨by simp; omega, by simp; omega⟩, r1.alloc _, r2.alloc _, ?_⟩
  have := World.rowIs_alloc V #[Value.int .i64 0, .int .i64 0, .slice none 0 0] 39 (polyF 0 0 (.slice none 0 0)) (fun i hi => by simp at hi; match i, hi with | 0, _ => rfl | 1, _ => rfl | 2, _ => rfl)
  rwa [show V.heap.size = w.heap.size + 2 by omega] at this

theorem retI {k : IntKind} {a b : Int} (h : a = b) : Ending.returned (.int k a) = .returned (.int k b) := by rw [h]
theorem alike_is (p d p' d' : Int) (v v' : Value) (w : World) (B : Bool) (h : (decide (p = p') && decide (d = d')) = B) :
    Calls Tryz.prog 110 #[.agg #[.int .i64 p, .int .i64 d, v], .agg #[.int .i64 p', .int .i64 d', v']] w fun e w' => e = .returned (.bool B) ∧ Below w.heap.size w w' := by
  subst h
  by_cases h1 : p = p'
  · subst h1
    by_cases h2 : d = d'
    · subst h2
      go_enter Tryz.func110, Tryz.ntmps110
      go_wp2
      go_ret
      exact ⟨by simp, box2 _ _ _⟩
    · have h2' : (d == d') = false := by simpa using h2
      go_enter Tryz.func110, Tryz.ntmps110
      go_wp2
      go_ret
      exact ⟨by simp [h2], box2 _ _ _⟩
  · have h1' : (p == p') = false := by simpa using h1
    go_enter Tryz.func110, Tryz.ntmps110
    go_wp2
    go_ret
    exact ⟨by simp [h1], box2 _ _ _⟩
end Go.Proofs.YtbhgbifliihlbaaGreat
namespace Go.Proofs.YtbhgbifliihlbaaGreat
open Go.RowKit Go.Sort Go.Maps

/-- A map of coefficients in the making, beside the boxes of the argument and the result. -/
structure MapSt (w wr : World) (b n a r : Nat) (p d : Int) (xv : Value) (D : DataW Unit) : Prop where
  map : MapE wr b n D
  arg : wr.rowIs a 39 3 (polyF p d xv)
  res : wr.rowIs r 39 3 (polyF 0 0 (.slice none 0 0))
  below : Below w.heap.size w wr
  b1 : w.heap.size ≤ b
  r1 : w.heap.size ≤ r
theorem row_not_map {w : World} {a b n m : Nat} {t : TypeId} {f : Nat → Value} {D : DataW Unit} (h : w.rowIs a t n f) (h' : MapE w b m D) : a ≠ b := by
  intro e
  subst e
  obtain ⟨c, hc, _⟩ := h
  obtain ⟨es, clock, hb, _⟩ := h'
  rw [hc] at hb
  simp at hb
theorem MapSt.later {w wr w1 : World} {b n a r : Nat} {p d : Int} {xv : Value} {D : DataW Unit} (h : MapSt w wr b n a r p d xv D) (hb : Below wr.heap.size wr w1) : MapSt w w1 b n a r p d xv D :=
  ⟨h.map.kept (row := none) ⟨hb.os, hb.tape, hb.output, hb.size, fun k hk _ => hb.block k hk⟩ (by simp), rowIs_below h.arg hb h.arg.lt, rowIs_below h.res hb h.res.lt, h.below.trans (hb.mono h.below.size), h.b1, h.r1⟩
theorem MapSt.wrote {w wr w1 : World} {b n n' a r : Nat} {p d : Int} {xv : Value} {D D' : DataW Unit} (h : MapSt w wr b n a r p d xv D) (hg : wr.grownBy w1 (some b)) (hm : MapE w1 b n' D') : MapSt w w1 b n' a r p d xv D' :=
  ⟨hm, h.arg.of_block (hg.block a h.arg.lt (by simpa using row_not_map h.arg h.map)), h.res.of_block (hg.block r h.res.lt (by simpa using row_not_map h.res h.map)), h.below.grown hg h.below.size (fun k hk => by simp at hk; have := h.b1; omega), h.b1, h.r1⟩
end Go.Proofs.YtbhgbifliihlbaaGreat
namespace Go.Proofs.YtbhgbifliihlbaaGreat
open Go.RowKit Go.Sort

/-- The mark of cell c, the first being k0. -/
def markT (k0 : Int) (c : Nat) : Value := if c % 4 = 3 then .int .i64 (k0 + c) else .int .u8 ((k0 + c) % 256)
theorem grown_setT {w wr : World} {g : Nat} (h : w.grownBy wr (some g)) (o : Nat) (v : Value) : w.grownBy (wr.setCell ⟨g, o, none⟩ v) (some g) :=
  ⟨h.os, h.tape, h.output, by rw [World.size_setCell]; exact h.size, fun k hk hne => (Below.heap_setCell wr ⟨g, o, none⟩ v k (fun e => hne (by rw [e]))).trans (h.block k hk hne)⟩

set_option maxHeartbeats 1000000 in
theorem markT_any (g n cap N : Nat) (k0 : Int) (f : Nat → Value) (w : World) (hr : w.rowIs g 57 N f) (hN : n * 4 ≤ N) (hn : n ≤ 1048576) (h0 : 0 ≤ k0) (h1 : k0 ≤ 1000000000) :
    Calls Tryz.prog 33 #[.slice (some ⟨g, 0, none⟩) n cap, .int .i64 k0] w fun e w' =>
      e = .returned (.int .i64 (k0 + 4 * n)) ∧ ∃ f', w'.rowIs g 57 N f' ∧ (∀ j, j < n * 4 → f' j = markT k0 j) ∧ w.grownBy w' (some g) := by
  go_enter Tryz.func33, Tryz.ntmps33
  go_wp2
  go_loopw [1, 5] (fun m i wr => ∃ k : Nat, k ≤ n ∧ i = .int .i64 k ∧ m = .int .i64 (k0 + 4 * k) ∧ ∃ f', wr.rowIs g 57 N f' ∧ (∀ j, j < k * 4 → f' j = markT k0 j) ∧ w.grownBy wr (some g)) (fun _ i _ => n - (intOf i).toNat)
  case atStart => exact ⟨0, by omega, rfl, by simp, f, hr, fun j h => by omega, ⟨rfl, rfl, rfl, Nat.le_refl _, fun _ _ _ => rfl⟩⟩
  case round =>
    obtain ⟨k, hk, rfl, rfl, f1, hr1, hf1, hg1⟩ := hrel
    by_cases hlt : k < n
    · have hlt' : (k : Int) < (n : Int) := by omega
      go_wp2
      obtain ⟨wo, rfl⟩ : ∃ wo : World, wo = wr := ⟨_, rfl⟩
      go_loopw [1, 6] (fun m i wr => ∃ t : Nat, t ≤ 3 ∧ i = .int .i64 t ∧ m = .int .i64 (k0 + 4 * k + t) ∧ ∃ f', wr.rowIs g 57 N f' ∧ (∀ j, j < k * 4 + t → f' j = markT k0 j) ∧ w.grownBy wr (some g)) (fun _ i _ => 3 - (intOf i).toNat)
      case atStart => exact ⟨0, by omega, rfl, by simp, f1, hr1, fun j h => hf1 j (by omega), hg1⟩
      case round =>
        obtain ⟨t, ht, rfl, rfl, f2, hr2, hf2, hg2⟩ := hrel
        by_cases hlt2 : t < 3
        · have hlt2' : (t : Int) < 3 := by omega
          have hcell := hr2.cell (i := k * 4 + t) (by omega)
          have hfz := hr2.frozen (k * 4 + t)
          go_wp2
          go_roundw
          case rel =>
            refine ⟨t + 1, by omega, by go_num, by go_num, _, hr2.set (k * 4 + t) _, fun j h => ?_, grown_setT hg2 _ _⟩
            by_cases hj : j = k * 4 + t
            · rw [if_pos hj, hj]; unfold markT; rw [if_neg (by omega)]; congr 1; omega
            · rw [if_neg hj]; exact hf2 j (by omega)
          case measure => simp [intOf]; omega
        · obtain rfl : t = 3 := by omega
          have hcell := hr2.cell (i := k * 4 + 3) (by omega)
          have hfz := hr2.frozen (k * 4 + 3)
          go_wp2
          go_roundw
          case rel =>
            refine ⟨k + 1, by omega, by go_num, by go_num, _, hr2.set (k * 4 + 3) _, fun j h => ?_, grown_setT hg2 _ _⟩
            by_cases hj : j = k * 4 + 3
            · rw [if_pos hj, hj]; unfold markT; rw [if_pos (by omega)]; congr 1; omega
            · rw [if_neg hj]; exact hf2 j (by omega)
          case measure => simp [intOf]; omega
    · obtain rfl : k = n := by omega
      go_wp2
      go_ret
      exact ⟨rfl, f1, hr1, hf1, hg1⟩
end Go.Proofs.YtbhgbifliihlbaaGreat
namespace Go.Proofs.YtbhgbifliihlbaaGreat
open Go.RowKit Go.Sort

/-- A slice of n terms in an array of the call's own (from block base on), or nil. -/
def OwnG (w : World) (base : Nat) (v : Value) (n : Nat) : Prop :=
  (v = .slice none 0 0 ∧ n = 0) ∨ ∃ g cap N f, v = .slice (some ⟨g, 0, none⟩) n cap ∧ base ≤ g ∧ n * 4 ≤ N ∧ w.rowIs g 57 N f
theorem OwnT.own {w : World} {base : Nat} {v : Value} {ts : List Tm} (h : OwnT w base v ts) : OwnG w base v ts.length := by
  obtain ⟨g, f, hv, hb, hr, _⟩ := h
  exact .inr ⟨g, _, _, f, hv, hb, Nat.le_refl _, hr⟩
theorem OwnG.of_owns {w : World} {base : Nat} {v : Value} {n : Nat} {xs : List Value} (h : w.ownsRow base 57 4 v n xs) : OwnG w base v n := by
  obtain ⟨_, ⟨hv, hn⟩ | ⟨g, cap, cur, hv, hb, hg, hcap, _, hsz, _⟩⟩ := h
  · exact .inl ⟨hv, hn⟩
  · refine .inr ⟨g, cap, cap * 4, fun i => cur.getD i undef, hv, hb, by omega, cur, hg, hsz, fun i hi => ?_⟩
    simp [Array.getD, hsz, hi]
theorem OwnG.below {w w' : World} {base : Nat} {v : Value} {n : Nat} (h : OwnG w base v n) (hb : Below w.heap.size w w') : OwnG w' base v n := by
  rcases h with h | ⟨g, cap, N, f, hv, hg, hN, hr⟩
  · exact .inl h
  · exact .inr ⟨g, cap, N, f, hv, hg, hN, rowIs_below hr hb hr.lt⟩
theorem OwnG.lt {w : World} {base : Nat} {v : Value} {n : Nat} (h : OwnG w base v n) : ∀ c, v.ownBlock = some c → base ≤ c ∧ c < w.heap.size := by
  rcases h with ⟨rfl, _⟩ | ⟨g, cap, N, f, rfl, hg, _, hr⟩
  · intro c hc; simp [Value.ownBlock] at hc
  · intro c hc; simp [Value.ownBlock] at hc; subst hc; exact ⟨hg, hr.lt⟩
/-- Another array than the one that is written stays. -/
theorem OwnG.keep {w w' : World} {base : Nat} {v : Value} {n : Nat} {row : Option Nat} (h : OwnG w base v n) (hg : w.grownBy w' row) (hne : v.ownBlock = none ∨ v.ownBlock ≠ row) : OwnG w' base v n := by
  rcases h with h | ⟨g, cap, N, f, rfl, hb, hN, hr⟩
  · exact .inl h
  · refine .inr ⟨g, cap, N, f, rfl, hb, hN, hr.of_block (hg.block g hr.lt ?_)⟩
    rcases hne with h | h
    · simp [Value.ownBlock] at h
    · simpa [Value.ownBlock] using h
theorem SliceT.keep {w w' : World} {v : Value} {ts : List Tm} {row : Option Nat} (h : SliceT w v ts) (hg : w.grownBy w' row) (hne : ∀ c, v.ownBlock = some c → some c ≠ row) : SliceT w' v ts := by
  obtain ⟨a, cap, rfl, h | ⟨b, off, rfl, hlt, hT⟩⟩ := h
  · exact ⟨a, cap, rfl, .inl h⟩
  · refine ⟨_, cap, rfl, .inr ⟨b, off, rfl, Nat.lt_of_lt_of_le hlt hg.size, fun k hk => ?_⟩⟩
    have hb := hg.block b hlt (hne b rfl)
    obtain ⟨h0, h1, h2, h3⟩ := hT k hk
    exact ⟨(World.cell?_of_block (w := w) (a := ⟨b, _, none⟩) hb).trans h0, (World.cell?_of_block (w := w) (a := ⟨b, _, none⟩) hb).trans h1, (World.cell?_of_block (w := w) (a := ⟨b, _, none⟩) hb).trans h2, (World.cell?_of_block (w := w) (a := ⟨b, _, none⟩) hb).trans h3⟩

/-- The marks from k0 on stand in the array of v. -/
def MarksT (w : World) (v : Value) (n : Nat) (k0 : Int) : Prop :=
  (v = .slice none 0 0 ∧ n = 0) ∨ ∃ g cap, v = .slice (some ⟨g, 0, none⟩) n cap ∧ g < w.heap.size ∧ ∀ j, j < n * 4 → w.cell? ⟨g, j, none⟩ = some (markT k0 j)
theorem MarksT.below {w w' : World} {v : Value} {n : Nat} {k0 : Int} (h : MarksT w v n k0) (hb : Below w.heap.size w w') : MarksT w' v n k0 := by
  rcases h with h | ⟨g, cap, hv, hg, hc⟩
  · exact .inl h
  · exact .inr ⟨g, cap, hv, Nat.lt_of_lt_of_le hg hb.size, fun j hj => (hb.cell (p := ⟨g, j, none⟩) hg).trans (hc j hj)⟩

theorem markT_zero (a : Option Addr) (c : Nat) (k0 : Int) (w : World) :
    Calls Tryz.prog 33 #[.slice a 0 c, .int .i64 k0] w fun e w' => e = .returned (.int .i64 k0) ∧ w = w' := by
  go_enter Tryz.func33, Tryz.ntmps33
  go_wp2
  refine wp_loop_rounds 1 ?_
  rw [rounds_succ]
  go_wp2
  go_ret
  exact ⟨rfl, rfl⟩
theorem markS_own {base : Nat} {v : Value} {n : Nat} (k0 : Int) (w : World) (h : OwnG w base v n) (hn : n ≤ 1048576) (h0 : 0 ≤ k0) (h1 : k0 ≤ 1000000000) :
    Calls Tryz.prog 33 #[v, .int .i64 k0] w fun e w' => e = .returned (.int .i64 (k0 + 4 * n)) ∧ MarksT w' v n k0 ∧ w.grownBy w' v.ownBlock := by
  rcases h with ⟨rfl, rfl⟩ | ⟨g, cap, N, f, rfl, hb, hN, hr⟩
  · exact (markT_zero none 0 k0 w).mono fun e w' ⟨he, hw⟩ => ⟨by rw [he]; simp, .inl ⟨rfl, rfl⟩, by subst hw; exact ⟨rfl, rfl, rfl, Nat.le_refl _, fun _ _ _ => rfl⟩⟩
  · exact (markT_any g n cap N k0 f w hr hN hn h0 h1).mono fun e w' ⟨he, f', hr', hf', hgr⟩ =>
      ⟨he, .inr ⟨g, cap, rfl, hr'.lt, fun j hj => (hr'.cell (by omega)).trans (by rw [hf' j hj])⟩, hgr⟩
theorem grown_box {w w' : World} {o : Obj} {row : Option Nat} (h : (w.alloc o).grownBy w' row) : w.grownBy w' row := by
  have hs := h.size
  simp only [World.size_alloc] at hs
  exact ⟨h.os, h.tape, h.output, by omega, fun k hk hne => (h.block k (by simp; omega) hne).trans ((box1 w o).block k hk)⟩

set_option maxHeartbeats 1000000 in
theorem markPoly_own {base : Nat} {v : Value} {n : Nat} (p d k0 : Int) (w : World) (h : OwnG w base v n) (hn : n ≤ 1048576) (h0 : 0 ≤ k0) (h1 : k0 ≤ 1000000000) :
    Calls Tryz.prog 14 #[.agg #[.int .i64 p, .int .i64 d, v], .int .i64 k0] w fun e w' => e = .returned (.int .i64 (k0 + 4 * n)) ∧ MarksT w' v n k0 ∧ w.grownBy w' v.ownBlock := by
  have hO : ∀ o, OwnG (w.alloc o) base v n := fun o => h.below (box1 _ _)
  obtain ⟨a, m, c, hv⟩ : ∃ a m c, v = .slice a m c := by
    rcases h with ⟨rfl, _⟩ | ⟨g, cap, N, f, rfl, _⟩
    · exact ⟨_, _, _, rfl⟩
    · exact ⟨_, _, _, rfl⟩
  subst hv
  go_enter Tryz.func14, Tryz.ntmps14
  go_wp2_with fail
  ((with_reducible refine (markS_own k0 _ (hO _) hn h0 h1).mono ?_); rintro e w1 ⟨rfl, hM, hg⟩)
  go_wp2
  go_ret
  exact ⟨rfl, hM, grown_box hg⟩
end Go.Proofs.YtbhgbifliihlbaaGreat
namespace Go.Proofs.YtbhgbifliihlbaaGreat
open Go.RowKit Go.Sort Go.Maps

theorem SliceT.beside {w w' : World} {v : Value} {ts : List Tm} {b n : Nat} {D : DataW Unit} (h : SliceT w v ts) (hM : MapE w b n D) (hg : w.grownBy w' (some b)) : SliceT w' v ts := by
  obtain ⟨a, cap, hv, h | ⟨c, off, ha, hlt, hT⟩⟩ := h
  · exact ⟨a, cap, hv, .inl h⟩
  · by_cases hn : ts = []
    · exact ⟨a, cap, hv, .inl hn⟩
    refine SliceT.keep ⟨a, cap, hv, .inr ⟨c, off, ha, hlt, hT⟩⟩ hg fun c' hc' => ?_
    subst hv ha
    simp [Value.ownBlock] at hc'
    subst hc'
    intro e
    simp at e
    subst e
    have h0 := (hT 0 (List.length_pos_iff.2 hn)).1
    obtain ⟨es, clock, hb, _⟩ := hM
    simp [World.cell?, hb] at h0

/-- What the next term adds. -/
theorem plus_step {p k : Int} {ts : List Tm} {f : Int × Int × Int → Int} (h : Asc ts) (j : Nat) (hj : j < ts.length) (e : Int × Int × Int) :
    (f e + k * atL (ts.take (j + 1)) e) % p = if e = tmE ts[j] then (f (tmE ts[j]) + k * ts[j].2.2.2) % p else (f e + k * atL (ts.take j) e) % p := by
  rw [atL_take h j hj]
  by_cases hx : e = tmE ts[j]
  · subst hx
    rw [if_pos rfl, if_pos rfl]
  · rw [if_neg hx, if_neg (fun hy => hx hy.symm)]

theorem gTrans {w w1 w2 : World} {row : Option Nat} (h : w.grownBy w1 row) (h' : w1.grownBy w2 row) : w.grownBy w2 row :=
  ⟨h'.os.trans h.os, h'.tape.trans h.tape, h'.output.trans h.output, Nat.le_trans h.size h'.size, fun k hk hne => (h'.block k (Nat.lt_of_lt_of_le hk h.size) hne).trans (h.block k hk hne)⟩

set_option maxRecDepth 8000 in
set_option maxHeartbeats 8000000 in
theorem addTimes_any (p d k : Int) (v : Value) (ts : List Tm) (w : World) (b n : Nat) (D : DataW Unit) (f : Int × Int × Int → Int) (hl : ts.length ≤ 1048576) (hS : SliceT w v ts) (hV : Valid p d ts) (hM : MapE w b n D) (hn : n ≤ 1000000000)
    (hf : ∀ e, byte3 e → cf D e = f e) (hfb : ∀ e, byte3 e → 0 ≤ f e ∧ f e < p) (hk0 : 0 ≤ k) (hk1 : k < p) :
    Calls Tryz.prog 76 #[.map (some b), .agg #[.int .i64 p, .int .i64 d, v], .int .i64 k] w fun e w' =>
      ∃ D', e = .returned (.tuple #[]) ∧ MapE w' b (n + ts.length) D' ∧ (∀ e, byte3 e → cf D' e = (f e + k * atL ts e) % p) ∧ w.grownBy w' (some b) := by
  have hp2 := hV.p2
  have hp13 := hV.p13
  obtain ⟨a, cap, rfl, _⟩ := id hS
  obtain ⟨W, hW, hbW, hWs, rx⟩ : ∃ W, W = w.alloc (.cells #[.int .i64 p, .int .i64 d, .slice a ts.length cap] 39) ∧ Below w.heap.size w W ∧ w.heap.size < W.heap.size ∧
      W.rowIs w.heap.size 39 3 (polyF p d (.slice a ts.length cap)) :=
    ⟨_, rfl, box1 _ _, by simp, World.rowIs_alloc w #[Value.int .i64 p, .int .i64 d, .slice a ts.length cap] _ _ (fun i hi => by simp at hi; match i, hi with | 0, _ => rfl | 1, _ => rfl | 2, _ => rfl)⟩
  obtain ⟨⟨c0, c1, c2⟩, _⟩ := poly3 rx
  have hMW : MapE W b n D := hM.kept (row := none) ⟨hbW.os, hbW.tape, hbW.output, hbW.size, fun k hk _ => hbW.block k hk⟩ (by simp)
  have hgW : w.grownBy W (some b) := ⟨hbW.os, hbW.tape, hbW.output, hbW.size, fun k hk _ => hbW.block k hk⟩
  have hSW := hS.beside hM hgW
  go_enter Tryz.func76, Tryz.ntmps76
  go_wp2_with fail
  rw [← hW]
  clear hW c0 c1 c2
  go_loopw [11] (fun j wr => ∃ (j' : Nat) (D : DataW Unit), j' ≤ ts.length ∧ j = .int .i64 j' ∧ Hid (∀ e, byte3 e → cf D e = (f e + k * atL (ts.take j') e) % p) ∧ MapE wr b (n + j') D ∧ W.grownBy wr (some b) ∧ wr.rowIs w.heap.size 39 3 (polyF p d (.slice a ts.length cap))) (fun j _ => ts.length - (intOf j).toNat)
  case atStart => exact ⟨0, D, by omega, rfl, Lib.hid (fun e he => by rw [hf e he]; simp [atL]; exact (Int.emod_eq_of_lt (hfb e he).1 (hfb e he).2).symm), hMW, ⟨rfl, rfl, rfl, Nat.le_refl _, fun _ _ _ => rfl⟩, rx⟩
  case round =>
    obtain ⟨j, D1, hj, rfl, HD, hM1, hgr, rx1⟩ := hrel
    have hSr := hSW.beside hMW hgr
    obtain ⟨⟨m0, m1, m2⟩, _⟩ := poly3 rx1
    by_cases hlt1 : j < ts.length
    · have hlt' : (j : Int) < (ts.length : Int) := by omega
      obtain ⟨a', cap', hv', hcase⟩ := hSr
      simp at hv'
      obtain ⟨rfl, rfl⟩ := hv'
      rcases hcase with h0 | ⟨c, off, rfl, hltb, hTr⟩
      · rw [h0] at hlt1; exact absurd hlt1 (by simp)
      obtain ⟨c0, c1, c2, c3⟩ := hTr j hlt1
      obtain ⟨⟨⟨bx, by1, bz⟩, hs12⟩, bv1, bv2⟩ := hV.mem ts[j] (List.getElem_mem _)
      have hd1 := Lib.hid (fun e => plus_step (p := p) (k := k) (f := f) hV.asc j hlt1 e)
      have hfe := hfb (tmE ts[j]) ⟨bx, by1, bz⟩
      have hHe := HD.out (tmE ts[j]) ⟨bx, by1, bz⟩
      rw [atL_take_new hV.asc j hlt1, Int.mul_zero, Int.add_zero, Int.emod_eq_of_lt hfe.1 hfe.2] at hHe
      have HE := Lib.hid hHe
      clear hHe
      simp only [tmE] at bx by1 bz
      generalize hx : ts[j].1 = x at *
      generalize hy : ts[j].2.1 = y at *
      generalize hz : ts[j].2.2.1 = z at *
      generalize hvv : ts[j].2.2.2 = v at *
      have htm : tmE ts[j] = (x, y, z) := by simp [tmE, hx, hy, hz]
      rw [htm] at hfe HE
      generalize hfg : f (x, y, z) = fe at *
      have mo : ∀ o, (wr.alloc o).cell? ⟨w.heap.size, 0, none⟩ = some (.int .i64 p) := fun o => ((box1 wr o).cell rx1.lt).trans m0
      have hE1 : byte3 (x, y, z) := ⟨bx, by1, bz⟩
      have hkey : keyOf Tryz.prog 55 (.agg #[.int .u8 x, .int .u8 y, .int .u8 z]) = some (kE (x, y, z)) := keyOf_vE (x, y, z) hE1
      have hMm : MapE (wr.alloc (.cells #[.int .u8 x, .int .u8 y, .int .u8 z, .int .i64 v] 57)).drew b (n + j) D1 := (hM1.alloc _).kept (row := none) ⟨rfl, rfl, rfl, Nat.le_refl _, fun _ _ _ => rfl⟩ (by simp)
      obtain ⟨c, hrun, hat, _⟩ := hMm.lookup_int lawK Tryz.underlying103 Tryz.underlying2 (zero64 _) hkey
      have hce : c = fe := by rw [← HE.out]; exact (cf_of_at hat).symm
      subst hce
      have g1 : 0 ≤ k * v := Int.mul_nonneg (by omega) (by omega)
      have g2 : k * v ≤ 13 * 13 := Int.mul_le_mul (by omega) (by omega) (by omega) (by omega)
      have hw : IntKind.i64.wrap (k * v) = k * v := IntWalk.i64_in _ (by omega)
      have hw2 : IntKind.i64.wrap (c + k * v) = c + k * v := IntWalk.i64_in _ (by omega)
      have hp0 : ¬ p = 0 := by omega
      have hp1 : (p == 0) = false := by simpa using hp0
      have ht : (c + k * v).tmod p = (c + k * v) % p := Int.tmod_eq_emod_of_nonneg (by omega)
      have q1 : 0 ≤ (c + k * v) % p := Int.emod_nonneg _ (by omega)
      have q2 : (c + k * v) % p < p := Int.emod_lt_of_pos _ (by omega)
      have HD2 : Hid (∀ e, byte3 e → cf (D1.put (kE (x, y, z)) (.lit (.int .i64 ((c + k * v) % p)))) e = (f e + k * atL (ts.take (j + 1)) e) % p) := Lib.hid (fun e he => by
        rw [cf_put hM1.isMap hE1 he, hd1.out e, HD.out e he, htm, hfg])
      clear htm hd1 hV hS hTr hf hfb hat HE HD
      go_wp2_with fail
      refine region_tail 15 (by kernel_rfl) (by kernel_rfl) ?_
      simp only [List.take_succ_cons, List.take_zero, List.drop_succ_cons, List.drop_zero]
      repeat still_step
      refine wpStill_nil ?_
      try simp only [hw, hw2, ht]
      go_wp2_with (at_mapUpdate; refine wpList_mapUpdate_own _ rfl _ _ _ 103 rfl 55 2 lawK Tryz.underlying103 (plainElem Tryz.prog 2) b (n + j) D1 rfl hMm (by unfold maxLen; omega) (.agg #[.int .u8 x, .int .u8 y, .int .u8 z]) _ _ rfl rfl hkey _ [] (plainElem_int Tryz.underlying2 (wf64 q1 (by omega))) ?_; intro w2 hown2 hgrow2)
      have hgrow3 : (wr.alloc (.cells #[.int .u8 x, .int .u8 y, .int .u8 z, .int .i64 v] 57)).grownBy w2 (some b) := ⟨hgrow2.os, hgrow2.tape, hgrow2.output, hgrow2.size, hgrow2.block⟩
      go_roundw
      case rel => exact ⟨j + 1, _, by omega, by go_num, HD2, hown2, gTrans (gTrans hgr (World.grownBy_alloc wr _ (some b))) hgrow3, ((rx1.alloc _).of_block (hgrow3.block _ (Nat.lt_of_lt_of_le rx1.lt (by simp)) (by simpa using row_not_map rx1 hM1)))⟩
      case measure => simp [intOf]; omega
    · obtain rfl : j = ts.length := by omega
      have hD := HD.out
      rw [List.take_length] at hD
      have hgg : w.grownBy wr (some b) := gTrans hgW hgr
      clear hSr HD
      go_wp2_with fail
      go_end0
      exact ⟨_, rfl, hM1, hD, hgg⟩
end Go.Proofs.YtbhgbifliihlbaaGreat
