/-
  COPIES of lists of numbers by the model. Conditions: as each theorem states.
  WALKS: slices.Index, slices.Contains at numbers. Conditions: as each theorem states.
  LISTS OF LISTS of numbers: read, of the call's own. Conditions: as each theorem states.
  LISTS OF LISTS of numbers of the call's own, in the making: appended. Conditions: as each theorem states.
  ORDERS of letters by their digits: plain mathematics; 'impl.wholePower'. Conditions: as each theorem states.
  WALKS: 'impl.ordersOf'. Conditions: as the theorem states.
  WALKS: 'impl.inOrder' at numbers. Conditions: as the theorem states.
  WALKS: 'impl.sumOfOrders' with the number 1 for each order. Conditions: as the theorem states.
  ORDERS in the model: plain mathematics; rows that can be resliced. Conditions: as each theorem states.
  WALKS: 'spec.l08Orders'. Conditions: as the theorem states.
  WALKS: 'spec.l08Sum'. Conditions: as the theorem states.
  MONOMIAL SUMS: the degree of the images; the polynomial told by its coefficients. Conditions: as each theorem states.
  WALKS: 'impl.PowerSumPoly', 'spec.PowerSumPoly'. Conditions: as each theorem states.
  ELEMENTARY POLYNOMIALS: 'spec.l08Elementary', 'impl.elementary', 'ElementaryPoly' on both sides. Conditions: as each theorem states.
  WALKS: 'spec.ElementaryPoly', 'impl.ElementaryPoly'. Conditions: as each theorem states.
  The law of 'FnExactElementaryPoly', walked. Conditions: as the theorem states.
-/
import Derived.Test.YtggogmbhlfddlaaLa
import Derived.Test.YtggogmbhlfddlaaRz
import Derived.Test.YtggogmbhlfddlaaLq
import Derived.Deep.AppendLies
import Derived.Lib.OwnKind
import Derived.IntWalk
import Derived.Deep.LoopGhost
import Derived.WalkMore
import Derived.StillTail
import Derived.StillTailTactics
import Derived.StillTactics
import Derived.Laws.Cover3
import Derived.Test.YtggogmbhlfddlaaSyc
import Derived.Test.YtggogmbhlfddlaaOl
import Derived.Test.YtggogmbhlfddlaaG
import Derived.Test.YtggogmbhlfddlaaMp
namespace Go.Proofs.Ytggogmbhlfddlaa
open Go.RowKit Go.Sort

theorem eown (v : Value) (l : List Int) (w : World) (hl : l.length ≤ 1048576) (hS : Sl w v l) :
    Calls Try.prog 141 #[v] w fun e w' => ∃ v', e = .returned v' ∧ OwnL w' w.heap.size v' l ∧ Below w.heap.size w w' := by
  have hS2 := fun o => hS.below (ebox1 w o)
  have ho : ∀ t, t = 2 → OwnL (w.alloc (.cells #[] t)) w.heap.size (.slice (some ⟨w.heap.size, 0, none⟩) 0 0) [] := fun t ht => by
    subst ht
    have := World.ownsRow_made (base := w.heap.size) (e := 2) (size := 1) w #[] 0 (by omega) (by simp [maxLen]) rfl
    simpa [OwnL, valsI] using this
  obtain ⟨a, cap, rfl, _⟩ := id hS
  go_enter Try.func141, Try.ntmps141
  go_wp2_with (at_builtin; refine wpList_append_ints _ rfl _ _ rfl w.heap.size (.slice (some ⟨w.heap.size, 0, none⟩) 0 0) [] rfl (ho _ rfl) (.slice a l.length cap) l rfl (hS2 _) (by simp; omega) (by simp) ?_)
  intro v' w' h1 h2
  have hb : Below w.heap.size w w' := (ebox1 w _).grown h2 (by simp) (fun k hk => by simp [Value.ownBlock] at hk; omega)
  go_wp2
  go_ret
  exact ⟨_, rfl, h1, hb⟩

end Go.Proofs.Ytggogmbhlfddlaa
namespace Go.Proofs.Ytggogmbhlfddlaa
open Go.RowKit Go.Sort EchM

set_option maxHeartbeats 1000000 in
theorem gindex (v : Value) (l : List Int) (x : Int) (w : World) (hl : l.length ≤ 1048576) (hS : Sl w v l) :
    Calls Try.prog 162 #[v, .int .i64 x] w fun e w' => (∃ r : Int, e = .returned (.int .i64 r) ∧ Hid (decide (0 ≤ r) = l.contains x)) ∧ w' = w := by
  obtain ⟨a, cap, rfl, hc⟩ := hS
  go_enter Try.func162, Try.ntmps162
  go_wp2
  go_loop [8] (fun i => ∃ k : Nat, k ≤ l.length ∧ i = .int .i64 k ∧ Hid (x ∉ l.take k)) (fun i => l.length - (intOf i).toNat)
  case atStart => exact ⟨0, by omega, rfl, Lib.hid (by simp)⟩
  case round =>
    obtain ⟨k, hk, rfl, HU⟩ := hrel
    by_cases hlt : k < l.length
    · have hlt' : (k : Int) < (l.length : Int) := by omega
      obtain ⟨b, off, rfl, hbb, hT⟩ : ∃ b off, a = some ⟨b, off, none⟩ ∧ b < w.heap.size ∧ Cs w b off l := by
        rcases hc with rfl | h
        · simp at hlt
        · exact h
      have c0 := hT k hlt
      by_cases e : x = l[k]
      · have HX : Hid (l.contains x = true) := Lib.hid (by rw [e]; simp)
        have he : (x == l[k]) = true := by simpa using e
        generalize l[k] = y at *
        clear e
        go_wp2
        go_ret
        exact ⟨⟨_, rfl, Lib.hid (by have := HX.out; simp at this; simp [this])⟩, rfl⟩
      · have HN : Hid (x ∉ l.take (k + 1)) := Lib.hid (by
          rw [List.take_succ_eq_append_getElem hlt]
          simp only [List.mem_append, List.mem_singleton, not_or]
          exact ⟨HU.out, e⟩)
        have he : (x == l[k]) = false := by simpa using e
        generalize l[k] = y at *
        clear e
        go_wp2
        go_round
        case rel => exact ⟨k + 1, by omega, by go_num, HN⟩
        case measure => simp [intOf]; omega
    · obtain rfl : k = l.length := by omega
      have HX : Hid (l.contains x = false) := Lib.hid (by
        have := HU.out
        rw [List.take_length] at this
        simpa using this)
      go_wp2
      go_ret
      exact ⟨⟨_, rfl, Lib.hid (by have := HX.out; simp at this; simp [this])⟩, rfl⟩
theorem gcontains (v : Value) (l : List Int) (x : Int) (w : World) (hl : l.length ≤ 1048576) (hS : Sl w v l) :
    Calls Try.prog 136 #[v, .int .i64 x] w fun e w' => e = .returned (.bool (l.contains x)) ∧ w' = w := by
  go_enter Try.func136, Try.ntmps136
  go_wp2_with fail
  ((with_reducible refine (gindex _ l x _ hl hS).mono ?_); rintro e w1 ⟨⟨r, rfl, HR⟩, rfl⟩)
  go_wp2
  go_ret
  exact ⟨by rw [← HR.out]; rfl, rfl⟩

end Go.Proofs.Ytggogmbhlfddlaa
namespace Go.Proofs.Ytggogmbhlfddlaa
open Go.RowKit Go.Sort

/-- A slice that reads as a list of rows. -/
def RowsW (w : World) (b off : Nat) (L : List (List Int)) : Prop := ∀ (k : Nat) (h : k < L.length), ∃ v, w.cell? ⟨b, off + k, none⟩ = some v ∧ Sl w v L[k]
def SlR (w : World) (v : Value) (L : List (List Int)) : Prop :=
  ∃ a cap, v = .slice a L.length cap ∧ (L = [] ∨ ∃ b off, a = some ⟨b, off, none⟩ ∧ b < w.heap.size ∧ RowsW w b off L)
theorem RowsW.below {w w' : World} {b off : Nat} {L : List (List Int)} (h : RowsW w b off L) (hb : Below w.heap.size w w') (hB : b < w.heap.size) : RowsW w' b off L := fun k hk => by
  obtain ⟨v, h1, h2⟩ := h k hk
  exact ⟨v, (hb.cell (p := ⟨b, _, none⟩) hB).trans h1, h2.below hb⟩
theorem SlR.below {w w' : World} {v : Value} {L : List (List Int)} (h : SlR w v L) (hb : Below w.heap.size w w') : SlR w' v L := by
  obtain ⟨a, cap, hv, h | ⟨b, off, ha, hlt, hT⟩⟩ := h
  · exact ⟨a, cap, hv, .inl h⟩
  · exact ⟨a, cap, hv, .inr ⟨b, off, ha, Nat.lt_of_lt_of_le hlt hb.size, hT.below hb hlt⟩⟩
theorem einfoR : (Try.prog.info? 39).map (fun i => (i.zero, i.size, i.bytes)) = some (some (.slice none 0 0), 1, 24) := by kernel_rfl
/-- The block of the headers. -/
def HeadR (w : World) (g : Nat) (O : List Row3) : Prop := ∃ N f, O.length ≤ N ∧ w.rowIs g 39 N f ∧ ∀ (q : Nat) (h : q < O.length), f q = O[q].1
theorem head_row {w : World} {g base : Nat} {O : List Row3} {e : Row3} (h : HeadR w g O) (he : RowAt w base e) : e.2.2 ≠ g := by
  obtain ⟨N, f, _, ⟨cur, hc, _⟩, _⟩ := h
  obtain ⟨_, N', f', _, _, _, ⟨cur', hc', _⟩, _⟩ := he
  intro e2
  rw [e2, hc] at hc'
  simp at hc'
theorem head_at {w : World} {g : Nat} {O : List Row3} (h : HeadR w g O) {q : Nat} (hq : q < O.length) : w.cell? ⟨g, q, none⟩ = some O[q].1 := by
  obtain ⟨N, f, hN, hr, hf⟩ := h
  rw [hr.cell (by omega), hf q hq]
theorem head_kept {w w' : World} {g b : Nat} {O : List Row3} (h : HeadR w g O) (hg : w.grownBy w' (some b)) (hne : b ≠ g) : HeadR w' g O := by
  obtain ⟨N, f, hN, hr, hf⟩ := h
  exact ⟨N, f, hN, hr.of_block (hg.block _ hr.lt fun e => hne (by simpa using e.symm)), hf⟩
theorem head_below {w w' : World} {g : Nat} {O : List Row3} (h : HeadR w g O) (hb : Below w.heap.size w w') : HeadR w' g O := by
  obtain ⟨N, f, hN, hr, hf⟩ := h
  exact ⟨N, f, hN, erow_below hr hb hr.lt, hf⟩
/-- Lists of lists of numbers of the call's own: each in a block of its own. -/
def OwnRR (w : World) (base : Nat) (v : Value) (S : List (List Int)) : Prop :=
  ∃ O : List Row3, O.map (·.2.1) = S ∧ ((O = [] ∧ ∃ a c, v = .slice a 0 c) ∨ ∃ g cap, v = .slice (some ⟨g, 0, none⟩) O.length cap ∧ base ≤ g ∧ HeadR w g O) ∧ (∀ e ∈ O, RowAt w base e) ∧ (O.map (·.2.2)).Nodup
theorem OwnRR.none (w : World) (base : Nat) : OwnRR w base (.slice none 0 0) [] := ⟨[], rfl, .inl ⟨rfl, _, _, rfl⟩, by simp, by simp⟩
theorem OwnRR.below {w w' : World} {base : Nat} {v : Value} {S : List (List Int)} (h : OwnRR w base v S) (hb : Below w.heap.size w w') : OwnRR w' base v S := by
  obtain ⟨O, h1, h2, h3, h4⟩ := h
  exact ⟨O, h1, h2.imp id fun ⟨g, cap, a, b, c⟩ => ⟨g, cap, a, b, head_below c hb⟩, fun e he => (h3 e he).below hb, h4⟩
theorem OwnRR.kept {w w' : World} {base b0 : Nat} {v : Value} {S : List (List Int)} (h : OwnRR w base v S) (hg : w.grownBy w' (some b0)) (hlt : b0 < base) : OwnRR w' base v S := by
  obtain ⟨O, h1, h2, h3, h4⟩ := h
  refine ⟨O, h1, h2.imp id fun ⟨g, cap, a, b, c⟩ => ⟨g, cap, a, b, head_kept c hg (by omega)⟩, fun e he => (h3 e he).kept hg ?_, h4⟩
  obtain ⟨_, _, _, _, hb, _⟩ := h3 e he
  omega
theorem OwnRR.slR {w : World} {base : Nat} {v : Value} {S : List (List Int)} (h : OwnRR w base v S) : SlR w v S := by
  obtain ⟨O, rfl, h2, h3, h4⟩ := h
  rcases h2 with ⟨rfl, a, c, rfl⟩ | ⟨g, cap, rfl, _, hh⟩
  · exact ⟨a, c, rfl, .inl rfl⟩
  · have hlt : g < w.heap.size := by obtain ⟨_, _, _, hr, _⟩ := hh; exact hr.lt
    refine ⟨_, cap, by rw [List.length_map], .inr ⟨g, 0, rfl, hlt, fun k hk => ?_⟩⟩
    have hk' : k < O.length := by simpa using hk
    exact ⟨O[k].1, by rw [Nat.zero_add]; exact head_at hh hk', by rw [List.getElem_map]; exact (h3 _ (List.getElem_mem hk')).sl⟩
theorem OwnRR.shape {w : World} {base : Nat} {v : Value} {S : List (List Int)} (h : OwnRR w base v S) : ∃ a c, v = .slice a S.length c := by
  obtain ⟨a, c, hv, _⟩ := h.slR; exact ⟨a, c, hv⟩
end Go.Proofs.Ytggogmbhlfddlaa
namespace Go.Proofs.Ytggogmbhlfddlaa
open Go.RowKit Go.Sort

theorem owns_at {w : World} {base : Nat} {t : TypeId} {v : Value} {n : Nat} {xs : List Value} (h : w.ownsRow base t 1 v n xs) : (v = .slice none 0 0 ∧ n = 0) ∨ ∃ g cap N f, v = .slice (some ⟨g, 0, none⟩) n cap ∧ base ≤ g ∧ n ≤ N ∧ w.rowIs g t N f ∧ ∀ (q : Nat) (h : q < xs.length), f q = xs[q] := by
  obtain ⟨hl, h | ⟨g, cap, cur, hv, hb, hh, hc, _, hs, ht⟩⟩ := h
  · exact .inl h
  · refine .inr ⟨g, cap, cur.size, fun i => cur.getD i undef, hv, hb, by omega, ⟨cur, hh, rfl, fun i hi => by simp [Array.getD, hi]⟩, fun q hq => ?_⟩
    have h1 : (cur.toList.take (n * 1))[q]? = some xs[q] := by rw [ht]; simp
    rw [List.getElem?_take] at h1
    split at h1
    · have hq2 : q < cur.size := by rw [hl] at hq; omega
      simp [hq2] at h1
      simp [Array.getD, hq2, h1]
    · cases h1
theorem OwnL.rowAt {w : World} {base : Nat} {v : Value} {l : List Int} (h : OwnL w base v l) (h0 : 0 < l.length) : ∃ g, RowAt w base (v, l, g) := by
  rcases owns_at h with ⟨_, h⟩ | ⟨g, cap, N, f, hv, hb, hN, hr, hf⟩
  · omega
  · refine ⟨g, cap, N, f, hv, hb, hN, hr, fun q hq => ?_⟩
    have := hf q (by simpa [valsI] using hq)
    simpa [valsI] using this
theorem owns_ne {w : World} {base g : Nat} {t t' : TypeId} {v : Value} {n N : Nat} {xs : List Value} {f : Nat → Value} (h : w.ownsRow base t 1 v n xs) (hr : w.rowIs g t' N f) (hne : t ≠ t') : some g ≠ v.ownBlock := fun e => by
  obtain ⟨c, fz, hc⟩ := Lib.ownsRow_kind h g e.symm
  obtain ⟨c', hc', _⟩ := hr
  rw [hc] at hc'
  simp at hc'
  exact hne hc'.2.1
theorem RowAt.kept2 {w w' : World} {base : Nat} {r : Option Nat} {e : Row3} (h : RowAt w base e) (hg : w.grownBy w' r) (hne : some e.2.2 ≠ r) : RowAt w' base e := by
  obtain ⟨cap, N, f, hv, hb, hN, hr, hf⟩ := h
  exact ⟨cap, N, f, hv, hb, hN, hr.of_block (hg.block _ hr.lt hne), hf⟩
/-- Rows in the making: each in a block of its own, by their headers. -/
structure RowsM (w : World) (base : Nat) (v : Value) (O : List Row3) : Prop where
  owns : w.ownsRow base 39 1 v O.length (O.map (·.1))
  rows : ∀ e ∈ O, RowAt w base e
  apart : (O.map (·.2.2)).Nodup
theorem RowsM.nil (w : World) (base : Nat) : RowsM w base (.slice none 0 0) [] := ⟨⟨by simp, .inl ⟨rfl, rfl⟩⟩, by simp, by simp⟩
theorem RowsM.below {w w' : World} {base : Nat} {v : Value} {O : List Row3} (h : RowsM w base v O) (hb : Below w.heap.size w w') : RowsM w' base v O :=
  ⟨eowns_below h.owns hb, fun e he => (h.rows e he).below hb, h.apart⟩
theorem RowsM.push {w w' : World} {base g : Nat} {v v' u : Value} {l : List Int} {O : List Row3} (h : RowsM w base v O) (hu : RowAt w base (u, l, g)) (hn : g ∉ O.map (·.2.2)) (ho : w'.ownsRow base 39 1 v' (O.length + 1) (O.map (·.1) ++ [u])) (hg : w.grownBy w' v.ownBlock) : RowsM w' base v' (O ++ [(u, l, g)]) := by
  have ne : ∀ e, RowAt w base e → some e.2.2 ≠ v.ownBlock := fun e he => by
    obtain ⟨_, N, f, _, _, _, hr, _⟩ := he
    exact owns_ne h.owns hr (by decide)
  refine ⟨by simpa using ho, fun e he => ?_, ?_⟩
  · rcases List.mem_append.1 he with h' | h'
    · exact (h.rows e h').kept2 hg (ne e (h.rows e h'))
    · obtain rfl := List.mem_singleton.1 h'
      exact hu.kept2 hg (ne _ hu)
  · rw [List.map_append, List.nodup_append]
    refine ⟨h.apart, by simp, fun a ha b hb e => ?_⟩
    simp at hb
    exact hn (by rw [← hb, ← e]; exact ha)
theorem RowsM.fresh {w : World} {base g : Nat} {v : Value} {O : List Row3} (h : RowsM w base v O) (hg : w.heap.size ≤ g) : g ∉ O.map (·.2.2) := fun hm => by
  obtain ⟨e, he, h2⟩ := List.mem_map.1 hm
  have := (h.rows e he).lt
  omega
theorem RowsM.rr {w : World} {base : Nat} {v : Value} {O : List Row3} (h : RowsM w base v O) : OwnRR w base v (O.map (·.2.1)) := by
  refine ⟨O, rfl, ?_, h.rows, h.apart⟩
  rcases owns_at h.owns with ⟨hv, h0⟩ | ⟨g, cap, N, f, hv, hb, hN, hr, hf⟩
  · exact .inl ⟨List.eq_nil_of_length_eq_zero h0, _, _, by rw [hv]⟩
  · exact .inr ⟨g, cap, hv, hb, N, f, hN, hr, fun q hq => by have := hf q (by simpa using hq); simpa using this⟩
theorem RowsM.shape {w : World} {base : Nat} {v : Value} {O : List Row3} (h : RowsM w base v O) : ∃ a c, v = .slice a O.length c := by
  obtain ⟨a, c, hv⟩ := h.rr.shape
  exact ⟨a, c, by simpa using hv⟩
theorem RowsM.ne_row {w : World} {base g N : Nat} {t : TypeId} {v : Value} {O : List Row3} {f : Nat → Value} (h : RowsM w base v O) (hr : w.rowIs g t N f) (hne : 39 ≠ t) : some g ≠ v.ownBlock := owns_ne h.owns hr hne
end Go.Proofs.Ytggogmbhlfddlaa
namespace Go.Proofs.Ytggogmbhlfddlaa
open Go.RowKit Go.Sort

/-- The digit at i of r to the base d. -/
def dgt (d r i : Nat) : Int := ((r / d ^ i % d : Nat) : Int)
def dgL (d r : Nat) : List Int := (List.range d).map (dgt d r)
/-- The digits of the numbers below k where no digit stands twice. -/
def ordL (d k : Nat) : List (List Int) := ((List.range k).map (dgL d)).filter fun l => decide l.Nodup
theorem ordL_succ (d k : Nat) : ordL d (k + 1) = ordL d k ++ (if (dgL d k).Nodup then [dgL d k] else []) := by
  unfold ordL
  rw [List.range_succ, List.map_append, List.filter_append]
  congr 1
  by_cases h : (dgL d k).Nodup <;> simp [h]
theorem dgL_len (d r : Nat) : (dgL d r).length = d := by simp [dgL]
theorem dgL_at {d r i : Nat} (h : i < (dgL d r).length) : (dgL d r)[i] = dgt d r i := by simp [dgL]
theorem ordL_len (d k : Nat) : (ordL d k).length ≤ k := by
  have h := List.length_filter_le (fun l => decide l.Nodup) ((List.range k).map (dgL d))
  simpa [ordL] using h
/-- The first digits. -/
def dgT (d r i : Nat) : List Int := (List.range i).map (dgt d r)
theorem dgT_succ (d r i : Nat) : dgT d r (i + 1) = dgT d r i ++ [dgt d r i] := by simp [dgT, List.range_succ]
theorem dgT_len (d r i : Nat) : (dgT d r i).length = i := by simp [dgT]
theorem dgT_twice {d r i : Nat} (hi : i < d) (h : (dgT d r i).contains (dgt d r i) = true) : ¬ (dgL d r).Nodup := fun hn => by
  have hm : dgt d r i ∈ dgT d r i := by simpa using h
  simp only [dgT, List.mem_map, List.mem_range] at hm
  obtain ⟨j, hj, he⟩ := hm
  have h1 := List.pairwise_iff_getElem.1 hn j i (by rw [dgL_len]; omega) (by rw [dgL_len]; exact hi) hj
  rw [dgL_at, dgL_at] at h1
  exact h1 he
theorem dgT_once {d r i : Nat} (hn : (dgT d r i).Nodup) (h : (dgT d r i).contains (dgt d r i) = false) : (dgT d r (i + 1)).Nodup := by
  rw [dgT_succ, List.nodup_append]
  have hm : dgt d r i ∉ dgT d r i := by simpa using h
  exact ⟨hn, by simp, fun a ha b hb e => hm (by
    have : b = dgt d r i := by simpa using hb
    rw [← this, ← e]; exact ha)⟩
theorem dgt_next (d r i : Nat) : r / d ^ i / d = r / d ^ (i + 1) := by rw [Nat.div_div_eq_div_mul, Nat.pow_succ]
theorem pow_le27 {d : Nat} (h : 1 ≤ d ∧ d ≤ 3) : ∀ {i : Nat}, i ≤ d → d ^ i ≤ 27 := fun {i} hi => by
  have hd : d = 1 ∨ d = 2 ∨ d = 3 := by omega
  have hi3 : i = 0 ∨ i = 1 ∨ i = 2 ∨ i = 3 := by omega
  rcases hd with rfl | rfl | rfl <;> rcases hi3 with rfl | rfl | rfl | rfl <;> first | decide | omega

set_option maxHeartbeats 1000000 in
theorem iwhole (d : Nat) (w : World) (h : 1 ≤ d ∧ d ≤ 3) : Calls Try.prog 135 #[.int .i64 d, .int .i64 d] w fun e w' => e = .returned (.int .i64 ((d ^ d : Nat) : Int)) ∧ w' = w := by
  go_enter Try.func135, Try.ntmps135
  go_wp2
  go_loop [5, 7] (fun q c => ∃ i : Nat, i ≤ d ∧ c = .int .i64 i ∧ q = .int .i64 ((d ^ i : Nat) : Int)) (fun _ c => d - (intOf c).toNat)
  case atStart => exact ⟨0, by omega, rfl, by simp⟩
  case round =>
    obtain ⟨i, hi, rfl, rfl⟩ := hrel
    by_cases hlt : i < d
    · have hlt' : (i : Int) < (d : Int) := by omega
      have h27 := pow_le27 h (i := i + 1) (by omega)
      have HM : Hid (IntKind.i64.wrap (((d ^ i : Nat) : Int) * (d : Int)) = ((d ^ (i + 1) : Nat) : Int)) := Lib.hid (by
        rw [Nat.pow_succ] at h27 ⊢
        rw [← Int.natCast_mul]
        exact IntWalk.i64_in _ (by omega))
      obtain ⟨Q, hQ⟩ : ∃ Q, ((d ^ (i + 1) : Nat) : Int) = Q := ⟨_, rfl⟩
      obtain ⟨q, hq⟩ : ∃ q, ((d ^ i : Nat) : Int) = q := ⟨_, rfl⟩
      have HQ := Lib.hid hQ
      rw [hQ, hq] at HM
      rw [hq]
      have hm := HM.out
      clear hQ hq h27 HM
      go_wp2
      go_round
      case rel => exact ⟨i + 1, by omega, by go_num, by rw [HQ.out]⟩
      case measure => simp [intOf]; omega
    · obtain rfl : i = d := by omega
      go_wp2
      go_ret
      exact ⟨rfl, rfl⟩
theorem int_take (b cap n k : Nat) (hk : k ≤ n) (hcap : n ≤ cap) (W : World) :
    (Instr.slice 39 (.slice (some ⟨b, 0, none⟩) n cap) none (some (.int .i64 (k : Int))) none).run Try.prog W = .ok (.slice (some ⟨b, 0, none⟩) k cap) W := by
  obtain ⟨i0, hi, hz0, hz1, hz2⟩ := info_parts einfoI
  have h1 : (k : Int) ≤ (cap : Int) := by omega
  by_cases hc0 : cap = 0
  · have hk0 : k = 0 := by omega
    subst hc0 hk0
    simp [Instr.slice, run_underlying Try.underlying39, Instr.sliceBounds, run_sliceBound, sizeOf, typeInfo, hi]
  · simp [Instr.slice, run_underlying Try.underlying39, Instr.sliceBounds, run_sliceBound, sizeOf, typeInfo, hi, h1, Addr.add]
end Go.Proofs.Ytggogmbhlfddlaa
namespace Go.Proofs.Ytggogmbhlfddlaa
open Go.RowKit Go.Sort

theorem ord_tail {P : Program} {id : Nat} {Q : Exit → Act → World → Prop} {a : Act} {w : World} {l : List Oper} (n : Nat) (hm : P.follows .mixedOrders = true) (hB : Region.lexTailB .any l.toArray n = true)
    (h : wpStill P l.toArray w.drew (fun a' => wpList P l.toArray Q (l.drop n) a' w.drew) (l.take n) a) : (Code.region id l.toArray true).wp P Q a w :=
  wp_region_still_tail n hm hB h
/-- The row while its digits are written. -/
def dgF (d r i : Nat) (q : Nat) : Value := .int .i64 (if q < i then dgt d r q else 0)
theorem dgF_put (d r i : Nat) (q : Nat) : (if q = i then Value.int .i64 (dgt d r i) else dgF d r i q) = dgF d r (i + 1) q := by
  unfold dgF
  by_cases e : q = i
  · subst e; rw [if_pos rfl, if_pos (by omega)]
  · rw [if_neg e]
    by_cases h : q < i
    · rw [if_pos h, if_pos (by omega)]
    · rw [if_neg h, if_neg (by omega)]
theorem dgF_sl {w : World} {g d r i k cap : Nat} {t : TypeId} (h : w.rowIs g t d (dgF d r k)) (hi : i ≤ k) (hk : k ≤ d) : Sl w (.slice (some ⟨g, 0, none⟩) i cap) (dgT d r i) := by
  refine ⟨_, cap, by rw [dgT_len], .inr ⟨g, 0, rfl, h.lt, fun j hj => ?_⟩⟩
  have hj' : j < i := by rw [dgT_len] at hj; exact hj
  rw [Nat.zero_add, h.cell (by omega)]
  simp [dgF, dgT, show j < k by omega]

set_option maxRecDepth 8000 in
set_option maxHeartbeats 8000000 in
theorem iorders (d : Nat) (w : World) (h : 1 ≤ d ∧ d ≤ 3) : Calls Try.prog 91 #[.int .i64 d] w fun e w' => ∃ v, e = .returned v ∧ OwnRR w' w.heap.size v (ordL d (d ^ d)) ∧ Below w.heap.size w w' := by
  obtain ⟨i0, hi, hz0, hz1, hz2⟩ := info_parts einfoI
  have hmk : ∀ w, (Instr.makeSlice 39 (.int .i64 (d : Int)) (.int .i64 (d : Int))).run Try.prog w = .ok (.slice (some ⟨w.heap.size, 0, none⟩) d d) (w.alloc (.cells (nmadeI d) 2)) := fun w => by
    have h := run_make (P := Try.prog) w 39 2 i0 _ Try.underlying39 hi hz0 .i64 .i64 (d : Int) (d : Int) (by omega) (by omega) (by rw [hz2]; omega) (by omega)
    rw [hz1] at h
    simpa [nmadeI, Value.cells] using h
  clear hi hz0 hz1 hz2
  have h27 := pow_le27 h (i := d) (Nat.le_refl _)
  have hd0 : ¬ (d : Int) = 0 := by omega
  have hd1 : ((d : Int) == 0) = false := by simpa using hd0
  obtain ⟨P, hP⟩ : ∃ P, d ^ d = P := ⟨_, rfl⟩
  have HW := Lib.hid (fun W => iwhole d W h)
  rw [hP] at HW h27 ⊢
  clear hP
  go_enter Try.func91, Try.ntmps91
  go_wp2
  go_step3
  go_wp2
  go_step3
  go_wp2_with fail
  ((with_reducible refine (HW.out _).mono ?_); rintro e w1 ⟨rfl, rfl⟩)
  go_wp2_with fail
  go_loopg [3, 10] P (fun g s c wq => ∃ (r : Nat) (O : List Row3), r + g = P ∧ c = .int .i64 r ∧ RowsM wq w1.heap.size s O ∧ Hid (O.map (·.2.1) = ordL d r) ∧ Below w1.heap.size w1 wq)
  case atStart => exact ⟨0, [], by omega, rfl, RowsM.nil _ _, Lib.hid rfl, Below.refl _ _⟩
  case round =>
    obtain ⟨r, O, hr, rfl, hM, HO, hb⟩ := hrel
    have hrP : Hid (r + gk = P) := Lib.hid hr
    by_cases hlt : r < P
    · have hlt' : (r : Int) < (P : Int) := by omega
      obtain ⟨g, hg⟩ : ∃ g, r + 1 + g = P := ⟨gk - 1, by omega⟩
      have HGG := Lib.hid (And.intro hg (show g < gk by omega))
      obtain ⟨W1, hW1, rW, hbW⟩ : ∃ W1, W1 = wr.alloc (.cells (nmadeI d) 2) ∧ W1.rowIs wr.heap.size 2 d (dgF d r 0) ∧ Below wr.heap.size wr W1 := ⟨_, rfl, (nmadeI_row wr d _).congr (fun q _ => by simp [dgF]), ebox1 _ _⟩
      obtain ⟨wo, hwo⟩ : ∃ wo, wo = wr := ⟨_, rfl⟩
      rw [← hwo] at hM hb rW hbW hW1
      clear hr hg
      obtain ⟨ra, rc, rfl⟩ := hM.shape
      go_upto_region 6 with fail
      rw [← hwo, ← hW1]
      clear hW1 hwo hmk
      go_wp2_with fail
      go_loopg [4, 17] d (fun g s c wq => ∃ i : Nat, i + g = d ∧ c = .int .i64 i ∧ s = .int .i64 ((r / d ^ i : Nat) : Int) ∧ wq.rowIs wo.heap.size 2 d (dgF d r i) ∧ Hid ((dgT d r i).Nodup) ∧ Below wo.heap.size wo wq)
      case atStart => exact ⟨0, by omega, rfl, by simp, rW, Lib.hid (by simp [dgT]), hbW⟩
      case round =>
        clear rW hbW
        obtain ⟨i, hi, rfl, rfl, hR, HN, hbo⟩ := hrel
        have hbn := hb.trans (hbo.mono hb.size)
        have hMn := hM.below hbo
        by_cases hid : i < d
        · have hid' : (i : Int) < (d : Int) := by omega
          obtain ⟨g2, hg2⟩ : ∃ g2, i + 1 + g2 = d := ⟨d - (i + 1), by omega⟩
          have HI := Lib.hid (And.intro hg2 (show g2 < gk by omega))
          obtain ⟨ρ, hρ⟩ : ∃ ρ, r / d ^ i = ρ := ⟨_, rfl⟩
          have hρ27 : ρ ≤ 27 := by rw [← hρ]; exact Nat.le_trans (Nat.div_le_self _ _) (by omega)
          obtain ⟨x, hx⟩ : ∃ x, dgt d r i = x := ⟨_, rfl⟩
          have hxx : x = ((ρ % d : Nat) : Int) := by rw [← hx]; unfold dgt; rw [hρ]
          have hrem : (ρ : Int).tmod (d : Int) = x := by rw [hxx, Int.tmod_eq_emod_of_nonneg (by omega), Int.natCast_emod]
          obtain ⟨ρ2, hρ2⟩ : ∃ ρ2, ρ / d = ρ2 := ⟨_, rfl⟩
          have hquo : (ρ : Int).tdiv (d : Int) = (ρ2 : Int) := by rw [← hρ2, Int.tdiv_eq_ediv_of_nonneg (by omega), Int.natCast_ediv]
          have hρ3 : ρ2 ≤ 27 := by rw [← hρ2]; exact Nat.le_trans (Nat.div_le_self _ _) hρ27
          have hwq : IntKind.i64.wrap (ρ2 : Int) = (ρ2 : Int) := IntWalk.i64_in _ (by omega)
          have HNX : Hid (r / d ^ (i + 1) = ρ2) := Lib.hid (by rw [← dgt_next, hρ, hρ2])
          have hc := hR.cell (i := i) hid
          have hf := hR.frozen i
          have hR2 := (hR.set i (.int .i64 x)).congr (g := dgF d r (i + 1)) (fun q _ => by rw [← hx]; exact dgF_put d r i q)
          have hb2 := hbo.setCell (p := ⟨wo.heap.size, i, none⟩) (Nat.le_refl _) (.int .i64 x)
          have HSL := Lib.hid (dgF_sl (i := i) (cap := d) hR2 (by omega) (by omega))
          have hcx : (wr.setCell ⟨wo.heap.size, i, none⟩ (.int .i64 x)).cell? ⟨wo.heap.size, i, none⟩ = some (.int .i64 x) := by
            have := hR2.cell (i := i) hid
            unfold dgF at this
            rwa [if_pos (by omega), hx] at this
          have hlt0 := hR.lt
          obtain ⟨W2, hW2⟩ : ∃ W2, wr.setCell ⟨wo.heap.size, i, none⟩ (.int .i64 x) = W2 := ⟨_, rfl⟩
          rw [hW2] at hR2 hb2 HSL hcx
          have HR2 := Lib.hid hR2
          have HB2 := Lib.hid hb2
          have HHX := Lib.hid hx
          have hit := int_take wo.heap.size d d i (by omega) (Nat.le_refl _) W2.drew
          have HMO := Lib.hid (And.intro hM hb)
          rw [hρ]
          clear hxx hρ2 hR hbo hbn hMn hR2 hb2 hg2 hi hx hM hb hρ27
          clear hρ
          go_upto_region 11 with fail
          have HCT := Lib.hid (gcontains (.slice (some ⟨wo.heap.size, 0, none⟩) i d) (dgT d r i) x W2.drew (by rw [dgT_len]; omega) HSL.out)
          cases hB : (dgT d r i).contains x
          · rw [hB] at HCT
            have HN2 : Hid ((dgT d r (i + 1)).Nodup) := Lib.hid (dgT_once HN.out (by rw [HHX.out]; exact hB))
            clear hB HN HSL
            refine ord_tail 7 (by kernel_rfl) (by kernel_rfl) ?_
            simp only [List.take_succ_cons, List.take_zero, List.drop_succ_cons, List.drop_zero]
            repeat still_step
            refine wpStill_nil ?_
            go_wp2_with fail
            ((with_reducible refine HCT.out.mono ?_); rintro e w5 ⟨rfl, rfl⟩)
            go_wp2_with fail
            go_roundg g2
            case measure => exact HI.out.2
            case rel => exact ⟨i + 1, HI.out.1, by go_num, by rw [HNX.out], HR2.out, HN2, HB2.out.drew⟩
          · rw [hB] at HCT
            have HND := Lib.hid (dgT_twice hid (by rw [HHX.out]; exact hB))
            have HO2 : Hid (O.map (·.2.1) = ordL d (r + 1)) := Lib.hid (by rw [ordL_succ, if_neg HND.out, List.append_nil, HO.out])
            have hbW2 := HMO.out.2.trans (HB2.out.drew.mono HMO.out.2.size)
            have hMW2 := HMO.out.1.below HB2.out.drew
            clear hB HN HSL HND
            refine ord_tail 7 (by kernel_rfl) (by kernel_rfl) ?_
            simp only [List.take_succ_cons, List.take_zero, List.drop_succ_cons, List.drop_zero]
            repeat still_step
            refine wpStill_nil ?_
            go_wp2_with fail
            ((with_reducible refine HCT.out.mono ?_); rintro e w5 ⟨rfl, rfl⟩)
            go_wp2_with fail
            go_roundg g
            case measure => exact HGG.out.2
            case rel => exact ⟨r + 1, O, HGG.out.1, by go_num, hMW2, HO2, hbW2⟩
        · obtain rfl : i = d := by omega
          obtain ⟨i0, hi0, hz0, hz1, hz2⟩ := info_parts einfoR
          have hne : (dgL i r).Nodup := by have := HN.out; exact this
          have HO2 : Hid ((O ++ [(Value.slice (some ⟨wo.heap.size, 0, none⟩) i i, dgL i r, wo.heap.size)]).map (·.2.1) = ordL i (r + 1)) := Lib.hid (by rw [ordL_succ, if_pos hne, List.map_append, HO.out]; rfl)
          have hAt : RowAt wr w1.heap.size (Value.slice (some ⟨wo.heap.size, 0, none⟩) i i, dgL i r, wo.heap.size) := ⟨i, i, _, by simp only [dgL_len], hb.size, by simp only [dgL_len]; exact Nat.le_refl _, hR, fun q hq => by
            have hq' : q < i := by have h1 : q < (dgL i r).length := hq; rwa [dgL_len] at h1
            show dgF i r i q = .int .i64 ((dgL i r)[q]'(by rw [dgL_len]; exact hq'))
            rw [dgL_at]
            unfold dgF
            rw [if_pos hq']⟩
          have HFR := Lib.hid (hM.fresh (Nat.le_refl _))
          have hM8 := hMn.below (ebox1 wr (.cells #[.slice (some ⟨wo.heap.size, 0, none⟩) i i] 39))
          have hr8 := hAt.below (ebox1 wr (.cells #[.slice (some ⟨wo.heap.size, 0, none⟩) i i] 39))
          have hb18 := hbn.trans ((ebox1 wr (.cells #[.slice (some ⟨wo.heap.size, 0, none⟩) i i] 39)).mono hbn.size)
          have hww : w1.heap.size ≤ (wr.alloc (.cells #[.slice (some ⟨wo.heap.size, 0, none⟩) i i] 39)).heap.size := hb18.size
          have HOL : Hid (O.length ≤ 27) := Lib.hid (by
            have h1 := congrArg List.length HO.out
            rw [List.length_map] at h1
            have h2 := ordL_len i r
            omega)
          clear hM hMn hb hbo hbn hAt hR HN hne HO hi
          go_wp2_with (at_builtin; refine wpList_append_lies _ rfl _ _ 22 rfl w1.heap.size 39 i0 _ 1 24 Try.underlying22 hi0 hz0 hz1 hz2 rfl (by decide) (.slice ra O.length rc) O.length (O.map (·.1)) rfl hM8.owns ⟨wr.heap.size, 0, none⟩ 1 1 [.slice (some ⟨wo.heap.size, 0, none⟩) i i] rfl rfl (World.news_of_block (cs := #[.slice (some ⟨wo.heap.size, 0, none⟩) i i]) (t := 39) (fr := (0, 0)) (heap_alloc_new wr _)) (by simp [Value.oneCell']) (by omega) (by have := HOL.out; unfold maxLen; omega) (by have := HOL.out; omega) hww _ rfl ?_)
          intro g9 cap9 w9 hown9 hgrow9 hat9 hlt9
          have hM9 := hM8.push hr8 HFR.out hown9 hgrow9
          have hb9 : Below w1.heap.size w1 w9 := hb18.grown hgrow9 hww (fun q hq => by
            rcases owns_at hM8.owns with ⟨h, _⟩ | ⟨g, c, N, f, h, hgb, _⟩
            · rw [h] at hq
              simp [Value.ownBlock] at hq
            · rw [h] at hq
              simp [Value.ownBlock] at hq
              omega)
          clear hown9 hgrow9 hat9 hlt9 hM8 hr8 hb18 hww HFR hi0 hz0 hz1 hz2
          go_wp2_with fail
          go_roundg g
          case measure => exact HGG.out.2
          case rel => exact ⟨r + 1, _, HGG.out.1, by go_num, by simpa using hM9, HO2, hb9⟩
    · obtain rfl : r = P := by omega
      have hrr := hM.rr
      rw [HO.out] at hrr
      obtain ⟨a9, c9, rfl⟩ := hM.shape
      go_wp2_with fail
      try rw [Exit.noGoto_ret]
      go_ret
      exact ⟨_, rfl, hrr, hb⟩
end Go.Proofs.Ytggogmbhlfddlaa
namespace Go.Proofs.Ytggogmbhlfddlaa
open Go.RowKit Go.Sort

theorem einfoB : (Try.prog.info? 5).map (fun i => (i.zero, i.size, i.bytes)) = some (some (.int .u8 0), 1, 1) := by kernel_rfl
/-- The exponents after k of them have been put in their places. -/
def plF (es os : List Int) : Nat → Nat → Int
  | 0, _ => 0
  | k + 1, q => if os.getD k 0 = (q : Int) then es.getD k 0 else plF es os k q
theorem plF_byte {es os : List Int} (he : ∀ e ∈ es, 0 ≤ e ∧ e ≤ 255) : ∀ k q, 0 ≤ plF es os k q ∧ plF es os k q ≤ 255
  | 0, _ => by simp [plF]
  | k + 1, q => by
    unfold plF
    split
    · by_cases h : k < es.length
      · have := he _ (List.getElem_mem h)
        simpa [List.getD, h] using this
      · simp [List.getD, List.getElem?_eq_none (by omega : es.length ≤ k)]
    · exact plF_byte he k q
theorem exps_under : ∃ e, Try.prog.underlying 82 = some (.array 3 e) := ⟨_, Try.underlying82⟩

set_option maxRecDepth 8000 in
set_option maxHeartbeats 4000000 in
theorem iino (ve vo : Value) (es os : List Int) (w : World) (hlen : es.length ≤ os.length) (hl3 : es.length ≤ 3) (he : ∀ e ∈ es, 0 ≤ e ∧ e ≤ 255) (ho : ∀ x ∈ os, 0 ≤ x ∧ x < 3) (hSe : Sl w ve es) (hSo : Sl w vo os) (hlo : os.length ≤ 1048576) :
    Calls Try.prog 154 #[ve, vo] w fun e w' => e = .returned (.agg #[.int .u8 (plF es os es.length 0), .int .u8 (plF es os es.length 1), .int .u8 (plF es os es.length 2)]) ∧ Below w.heap.size w w' := by
  obtain ⟨i0, hi, hz0, hz1, hz2⟩ := info_parts einfoB
  have hmk : ∀ w, (Instr.makeSlice 139 (.int .i64 3) (.int .i64 3)).run Try.prog w = .ok (.slice (some ⟨w.heap.size, 0, none⟩) 3 3) (w.alloc (.cells (madeCells #[.int .u8 0] 3) 5)) := fun w => by
    have h := run_make (P := Try.prog) w 139 5 i0 _ Try.underlying139 hi hz0 .i64 .i64 3 3 (by omega) (by omega) (by rw [hz2]; omega) (by omega)
    rw [hz1] at h
    simpa [Value.cells] using h
  clear hi hz0 hz1 hz2
  obtain ⟨ee, hue⟩ := exps_under
  have hat : ∀ w g, (Instr.arrayAt 82 (.slice (some ⟨g, 0, none⟩) 3 3)).run Try.prog w = .ok (.pointer (some ⟨g, 0, none⟩)) w := fun w g => run_arrayAt w 82 _ 3 _ 3 3 hue (by omega)
  clear hue
  obtain ⟨ea, ec, rfl, hec⟩ := id hSe
  obtain ⟨oa, oc, rfl, hoc⟩ := id hSo
  obtain ⟨V, hV, hbV, r1, ⟨s1, s2⟩⟩ : ∃ V, V = w.alloc (.cells #[.int .u8 0, .int .u8 0, .int .u8 0] 82) ∧ Below w.heap.size w V ∧ V.rowIs w.heap.size 82 3 (fun _ => .int .u8 0) ∧ (V.heap.size ≤ w.heap.size + 1 ∧ w.heap.size + 1 ≤ V.heap.size) := ⟨_, rfl, ebox1 _ _, World.rowIs_alloc w #[_, _, _] _ _ (fun i hi => by simp at hi; match i, hi with | 0, _ => rfl | 1, _ => rfl | 2, _ => rfl), ⟨by simp, by simp⟩⟩
  obtain ⟨W2, hW2, r2, hb2⟩ : ∃ W2, W2 = V.alloc (.cells (madeCells #[.int .u8 0] 3) 5) ∧ W2.rowIs V.heap.size 5 3 (fun q => .int .u8 (plF es os 0 q)) ∧ Below V.heap.size V W2 := ⟨_, rfl, World.rowIs_made V (.int .u8 0) 3 _, ebox1 _ _⟩
  have hbW2 := hbV.trans (hb2.mono hbV.size)
  have r12 := erow_below r1 hb2 r1.lt
  have hgw : w.heap.size < V.heap.size := by omega
  have hgw2 : w.heap.size ≠ V.heap.size := by omega
  have HE := Lib.hid he
  have HO := Lib.hid ho
  have HB := Lib.hid (plF_byte (os := os) he)
  clear he ho r1 hbV hb2
  go_enter Try.func154, Try.ntmps154
  go_upto_region 1 with fail
  rw [← hV]
  clear hV
  go_upto_region 2 with fail
  rw [← hW2]
  clear hW2
  go_wp2_with fail
  go_loopg [11] es.length (fun g c wq => ∃ k : Nat, k + g = es.length ∧ c = .int .i64 k ∧ wq.rowIs V.heap.size 5 3 (fun q => .int .u8 (plF es os k q)) ∧ wq.rowIs w.heap.size 82 3 (fun _ => .int .u8 0) ∧ Below w.heap.size w wq)
  case atStart => exact ⟨0, by omega, rfl, r2, r12, hbW2⟩
  case round =>
    clear r2 r12 hbW2
    obtain ⟨k, hk, rfl, hR, hr, hb⟩ := hrel
    by_cases hlt : k < es.length
    · have hlt' : (k : Int) < (es.length : Int) := by omega
      have hlo' : k < os.length := by omega
      have hlo2 : (k : Int) < (os.length : Int) := by omega
      obtain ⟨g2, hg2⟩ : ∃ g2, k + 1 + g2 = es.length := ⟨es.length - (k + 1), by omega⟩
      have HI := Lib.hid (And.intro hg2 (show g2 < gk by omega))
      obtain ⟨b1, f1, rfl, hb1, hT1⟩ : ∃ b off, ea = some ⟨b, off, none⟩ ∧ b < w.heap.size ∧ Cs w b off es := by
        rcases hec with rfl | h
        · simp at hlt
        · exact h
      obtain ⟨b2, f2, rfl, hb2, hT2⟩ : ∃ b off, oa = some ⟨b, off, none⟩ ∧ b < w.heap.size ∧ Cs w b off os := by
        rcases hoc with rfl | h
        · simp at hlo'
        · exact h
      have c0 := (hT1.below hb hb1) k hlt
      have d0 := (hT2.below hb hb2) k hlo'
      obtain ⟨e0, e1⟩ := HE.out _ (List.getElem_mem hlt)
      obtain ⟨o0, o1⟩ := HO.out _ (List.getElem_mem hlo')
      have HS : Hid (∀ q : Nat, plF es os (k + 1) q = if os[k] = (q : Int) then es[k] else plF es os k q) := Lib.hid (fun q => by
        show (if os.getD k 0 = (q : Int) then es.getD k 0 else plF es os k q) = _
        rw [show os.getD k 0 = os[k] by simp [List.getD, hlo'], show es.getD k 0 = es[k] by simp [List.getD, hlt]])
      obtain ⟨x, hx⟩ : ∃ x, es[k] = x := ⟨_, rfl⟩
      rw [hx] at c0 e0 e1 HS
      obtain ⟨y, hy⟩ : ∃ y, os[k] = y := ⟨_, rfl⟩
      rw [hy] at d0 o0 o1 HS
      obtain ⟨n, rfl⟩ := Int.eq_ofNat_of_zero_le o0
      have hn3 : n < 3 := by omega
      have hwx : IntKind.u8.wrap x = x := by
        rw [show IntKind.u8.wrap x = x % 256 by first | rfl | simp [IntKind.wrap, IntKind.signed, IntKind.bits]]
        omega
      have hc := hR.cell (i := n) hn3
      have hf := hR.frozen n
      have hR2 := (hR.set n (.int .u8 x)).congr (g := fun q => .int .u8 (plF es os (k + 1) q)) (fun q _ => by
        rw [HS.out q]
        by_cases e : q = n
        · subst e; simp
        · rw [if_neg e, if_neg (by omega)])
      have hr2 := hr.setOther (a := ⟨V.heap.size, n, none⟩) hgw2 (.int .u8 x)
      have hb3 := hb.setCell (p := ⟨V.heap.size, n, none⟩) (by show w.heap.size ≤ V.heap.size; omega) (.int .u8 x)
      have HR := Lib.hid (And.intro hR2 (And.intro hr2 hb3))
      clear hR hr hb hR2 hr2 hb3 hx hy hT1 hT2 hec hoc hk hg2 hSe hSo
      go_wp2_with fail
      go_roundg g2
      case measure => exact HI.out.2
      case rel => exact ⟨k + 1, HI.out.1, by go_num, HR.out.1, HR.out.2.1, HR.out.2.2⟩
    · obtain rfl : k = es.length := by omega
      obtain ⟨x0, hx0⟩ : ∃ x0, plF es os es.length 0 = x0 := ⟨_, rfl⟩
      obtain ⟨x1, hx1⟩ : ∃ x1, plF es os es.length 1 = x1 := ⟨_, rfl⟩
      obtain ⟨x2, hx2⟩ : ∃ x2, plF es os es.length 2 = x2 := ⟨_, rfl⟩
      have c0 := hR.cell (i := 0) (by omega)
      have c1 := hR.cell (i := 1) (by omega)
      have c2 := hR.cell (i := 2) (by omega)
      rw [hx0] at c0
      rw [hx1] at c1
      rw [hx2] at c2
      have HX := Lib.hid (And.intro hx0 (And.intro hx1 hx2))
      have k0 := hr.cell (i := 0) (by omega)
      have k1 := hr.cell (i := 1) (by omega)
      have k2 := hr.cell (i := 2) (by omega)
      have z0 := hr.frozen 0
      have z1 := hr.frozen 1
      have z2 := hr.frozen 2
      have R := ((hr.set 0 (.int .u8 x0)).set 1 (.int .u8 x1)).set 2 (.int .u8 x2)
      have A0 := Lib.hid (R.cell (i := 0) (by omega))
      have A1 := Lib.hid (R.cell (i := 1) (by omega))
      have A2 := Lib.hid (R.cell (i := 2) (by omega))
      have hwl : ∀ o, w.heap.size ≤ (⟨w.heap.size, o, none⟩ : Addr).block := fun o => Nat.le_refl _
      have HBL := Lib.hid (((hb.setCell (hwl 0) (.int .u8 x0)).setCell (hwl 1) (.int .u8 x1)).setCell (hwl 2) (.int .u8 x2))
      clear hR hr hb R hx0 hx1 hx2 hwl hSe hSo hec hoc
      go_wp2_with fail
      have a0 := A0.out
      have a1 := A1.out
      have a2 := A2.out
      simp at a0 a1 a2
      exact bodyPost_ret (v := .agg #[.int .u8 x0, .int .u8 x1, .int .u8 x2]) (by simp [results, Try.results154, go_sem, a0, a1, a2]) rfl ⟨by rw [HX.out.1, HX.out.2.1, HX.out.2.2], HBL.out⟩
end Go.Proofs.Ytggogmbhlfddlaa
namespace Go.Proofs.Ytggogmbhlfddlaa
open Go.RowKit Go.Sort Go.Maps

/-- What orders make of exponents. -/
def keyO (es os : List Int) : Int × Int × Int := (plF es os es.length 0, plF es os es.length 1, plF es os es.length 2)
def imgL (es : List Int) (L : List (List Int)) : List (Int × Int × Int) := L.map (keyO es)
theorem ind_snoc (M : List (Int × Int × Int)) (k e : Int × Int × Int) : indF (M ++ [k]) e = if e = k then 1 else indF M e := by
  unfold indF
  by_cases h : e = k
  · subst h; rw [if_pos (by simp), if_pos rfl]
  · rw [if_neg h]
    by_cases h2 : e ∈ M
    · rw [if_pos (List.mem_append.2 (.inl h2)), if_pos h2]
    · rw [if_neg (fun h' => (List.mem_append.1 h').elim h2 (fun h3 => h (List.mem_singleton.1 h3))), if_neg h2]
theorem keyO_byte {es os : List Int} (he : ∀ e ∈ es, 0 ≤ e ∧ e ≤ 255) : byte3 (keyO es os) := ⟨plF_byte he _ _, plF_byte he _ _, plF_byte he _ _⟩
theorem ord_row {d k : Nat} (hd : 1 ≤ d ∧ d ≤ 3) {l : List Int} (h : l ∈ ordL d k) : l.length = d ∧ ∀ x ∈ l, 0 ≤ x ∧ x < 3 := by
  unfold ordL at h
  obtain ⟨h1, _⟩ := List.mem_filter.1 h
  obtain ⟨r, _, rfl⟩ := List.mem_map.1 h1
  refine ⟨dgL_len d r, fun x hx => ?_⟩
  simp only [dgL, List.mem_map, List.mem_range] at hx
  obtain ⟨i, _, rfl⟩ := hx
  unfold dgt
  have := Nat.mod_lt (r / d ^ i) (show d > 0 by omega)
  omega
theorem ione (u : Value) (w : World) : Calls Try.prog 119 #[u] w fun e w' => e = .returned (.int .i64 1) ∧ w' = w := by
  go_enter Try.func119, Try.ntmps119
  go_wp2
  go_ret
  exact ⟨rfl, rfl⟩

set_option maxRecDepth 100000 in
set_option maxHeartbeats 8000000 in
theorem isoo (p : Int) (ve : Value) (es : List Int) (w : World) (hd : 1 ≤ es.length ∧ es.length ≤ 3) (hp2 : 2 ≤ p) (he : ∀ e ∈ es, 0 ≤ e ∧ e ≤ 255)
    (h12 : ∀ os ∈ ordL es.length (es.length ^ es.length), (keyO es os).1 + (keyO es os).2.1 + (keyO es os).2.2 ≤ 12) (hS : Sl w ve es) :
    Calls Try.prog 118 #[.int .i64 p, ve, .func (.func 119) #[] #[]] w fun e w' => ∃ v' S, e = .returned (.agg #[.int .i64 p, .int .i64 es.length, v']) ∧ OwnP w' w.heap.size v' S ∧ IsP p S (indF (imgL es (ordL es.length (es.length ^ es.length)))) ∧ Below w.heap.size w w' := by
  have hmm := @run_makeMap Try.prog
  obtain ⟨W0, hW0, hb0, ⟨h01, h02⟩, rr⟩ := newbox w 0 0 (.slice none 0 0)
  obtain ⟨W1, hW1, hb1, hs1, hm1⟩ : ∃ W1, W1 = W0.alloc (.map #[] 0) ∧ Below W0.heap.size W0 W1 ∧ (W1.heap.size ≤ W0.heap.size + 1 ∧ W0.heap.size + 1 ≤ W1.heap.size) ∧ MapE W1 W0.heap.size 0 (.map []) :=
    ⟨_, rfl, box1 W0 _, ⟨by simp, by simp⟩, World.ownsMap_made (H := Unit) W0 Try.prog 82 (plainElem Try.prog 2)⟩
  have rr1 := rowIs_below rr hb1 rr.lt
  have hw1 := hb0.trans (hb1.mono hb0.size)
  obtain ⟨ea, ec, rfl, _⟩ := id hS
  obtain ⟨L, hL⟩ : ∃ L, ordL es.length (es.length ^ es.length) = L := ⟨_, rfl⟩
  have HOR := Lib.hid (iorders es.length W1 hd)
  have HRW : Hid (∀ l ∈ L, l.length = es.length ∧ ∀ x ∈ l, 0 ≤ x ∧ x < 3) := Lib.hid (fun l hl => ord_row hd (by rw [hL]; exact hl))
  have HLL : Hid (L.length ≤ 27) := Lib.hid (by rw [← hL]; exact Nat.le_trans (ordL_len _ _) (pow_le27 hd (Nat.le_refl _)))
  rw [hL] at HOR h12
  have H12 := Lib.hid h12
  have HE := Lib.hid he
  have HLE := Lib.hid hL
  have haw := hS.away (g := W0.heap.size) (by omega)
  clear hL h12 he
  go_enter Try.func118, Try.ntmps118
  go_upto_region 1 with fail
  rw [← hW0]
  clear hW0
  go_upto_region 3 with fail
  rw [← hW1]
  clear hW1 hmm
  go_wp2_with fail
  ((with_reducible refine HOR.out.mono ?_); rintro e w4 ⟨v4, rfl, hO4, hb4⟩)
  obtain ⟨a4, c4, rfl⟩ := hO4.shape
  have rr4 := rowIs_below rr1 hb4 rr1.lt
  have hM4 : MapE w4 W0.heap.size 0 (.map []) := hm1.kept (row := none) ⟨hb4.os, hb4.tape, hb4.output, hb4.size, fun k hk _ => hb4.block k hk⟩ (by simp)
  have hw4 := hw1.trans (hb4.mono hw1.size)
  have hS4 := hS.below hw4
  have hm1lt := hm1.lt
  clear HOR rr rr1 hm1 hb4 hb0 hb1 hw1
  go_wp2_with fail
  go_loopg [17] L.length (fun g c wq => ∃ (j : Nat) (D : DataW Unit), j + g = L.length ∧ c = .int .i64 j ∧ MapE wq W0.heap.size j D ∧ Hid (∀ e, byte3 e → cf D e = indF ((imgL es L).take j) e) ∧ w4.grownBy wq (some W0.heap.size))
  case atStart => exact ⟨0, _, by omega, rfl, hM4, Lib.hid (fun e _ => by rw [cf_empty]; simp [indF]), ⟨rfl, rfl, rfl, Nat.le_refl _, fun _ _ _ => rfl⟩⟩
  case round =>
    clear hM4
    obtain ⟨j, D, hj, rfl, hM, HD, hg⟩ := hrel
    have hOq := hO4.kept hg hm1lt
    by_cases hlt : j < L.length
    · have hlt' : (j : Int) < (L.length : Int) := by omega
      obtain ⟨g2, hg2⟩ : ∃ g2, j + 1 + g2 = L.length := ⟨L.length - (j + 1), by omega⟩
      have HI := Lib.hid (And.intro hg2 (show g2 < gk by omega))
      have hSq := hS4.kept2 hg haw
      obtain ⟨_, _, hv, hcase⟩ := hOq.slR
      obtain ⟨b, off, rfl, hbb, hT⟩ : ∃ b off, a4 = some ⟨b, off, none⟩ ∧ b < wr.heap.size ∧ RowsW wr b off L := by
        rcases hcase with rfl | ⟨b, off, h1, h2, h3⟩
        · simp at hlt
        · exact ⟨b, off, by simp at hv; rw [hv.1, h1], h2, h3⟩
      obtain ⟨u, c0, s0⟩ := hT j hlt
      obtain ⟨r1, r2⟩ := HRW.out _ (List.getElem_mem hlt)
      have HIN := Lib.hid (iino (.slice ea es.length ec) u es L[j] wr (by rw [r1]; exact Nat.le_refl _) hd.2 HE.out r2 hSq s0 (by rw [r1]; omega))
      have hby := keyO_byte (os := L[j]) HE.out
      have hkey : keyOf Try.prog 82 (.agg #[.int .u8 (keyO es L[j]).1, .int .u8 (keyO es L[j]).2.1, .int .u8 (keyO es L[j]).2.2]) = some (kE (keyO es L[j])) := keyOf_vE (keyO es L[j]) hby
      have HCF : Hid (∀ e, byte3 e → cf (D.put (kE (keyO es L[j])) (.lit (.int .i64 1))) e = indF ((imgL es L).take (j + 1)) e) := Lib.hid (fun e he => by
        rw [cf_put hM.isMap hby he, List.take_succ_eq_append_getElem (by simpa [imgL] using hlt), ind_snoc, HD.out e he]
        simp [imgL])
      have hwf : (Lit.int .i64 1).wf = true := wf64 (by omega) (by omega)
      change Hid (Calls _ _ _ _ (fun e w' => e = .returned (.agg #[.int .u8 (keyO es L[j]).1, .int .u8 (keyO es L[j]).2.1, .int .u8 (keyO es L[j]).2.2]) ∧ _)) at HIN
      obtain ⟨K, hK⟩ : ∃ K, keyO es L[j] = K := ⟨_, rfl⟩
      rw [hK] at HIN hkey HCF
      have hj28 : j < 28 := by have := HLL.out; omega
      clear hK hby hSq hT hcase hv hj hg2 HD r1 r2 s0 hOq
      obtain ⟨k0, k1, k2⟩ := K
      simp only at HIN hkey
      go_wp2_with fail
      ((with_reducible refine HIN.out.mono ?_); rintro e w5 ⟨rfl, hb5⟩)
      have hM5 : MapE w5 W0.heap.size j D := hM.kept (row := none) ⟨hb5.os, hb5.tape, hb5.output, hb5.size, fun k hk _ => hb5.block k hk⟩ (by simp)
      have hg5 : w4.grownBy w5 (some W0.heap.size) := ⟨hb5.os.trans hg.os, hb5.tape.trans hg.tape, hb5.output.trans hg.output, Nat.le_trans hg.size hb5.size, fun b hb hne => (hb5.block b (Nat.lt_of_lt_of_le hb hg.size)).trans (hg.block b hb hne)⟩
      clear hM hg hb5 HIN
      go_wp2_with fail
      ((with_reducible refine (ione _ _).mono ?_); rintro e w6 ⟨rfl, rfl⟩)
      go_wp2_with (at_mapUpdate; refine wpList_mapUpdate_own _ rfl _ _ _ 92 rfl 82 2 lawK Try.underlying92 (plainElem Try.prog 2) W0.heap.size j D rfl hM5 (by unfold maxLen; omega) (.agg #[.int .u8 k0, .int .u8 k1, .int .u8 k2]) _ _ rfl rfl hkey _ [] (plainElem_int Try.underlying2 hwf) ?_; intro w7 hown7 hgrow7)
      have hg7 : w4.grownBy w7 (some W0.heap.size) := ⟨hgrow7.os.trans hg5.os, hgrow7.tape.trans hg5.tape, hgrow7.output.trans hg5.output, Nat.le_trans hg5.size hgrow7.size, fun b hb hne => (hgrow7.block b (Nat.lt_of_lt_of_le hb hg5.size) hne).trans (hg5.block b hb hne)⟩
      clear hM5 hg5 hgrow7
      go_wp2_with fail
      go_roundg g2
      case measure => exact HI.out.2
      case rel => exact ⟨j + 1, _, HI.out.1, by go_num, by simpa using hown7, HCF, hg7⟩
    · obtain rfl : j = L.length := by omega
      have hcf : ∀ e, byte3 e → cf D e = indF (imgL es L) e := fun e he => by
        rw [HD.out e he, List.take_of_length_le (by simp [imgL])]
      have hi12 : ∀ e, byte3 e → indF (imgL es L) e ≠ 0 → e.1 + e.2.1 + e.2.2 ≤ 12 := fun e _ hne => by
        have hmem : e ∈ imgL es L := Classical.byContradiction fun h => hne (by unfold indF; rw [if_neg h])
        simp only [imgL, List.mem_map] at hmem
        obtain ⟨os, h1, rfl⟩ := hmem
        exact H12.out os h1
      have hib : ∀ e, byte3 e → 0 ≤ indF (imgL es L) e ∧ indF (imgL es L) e < p := fun e _ => by
        unfold indF
        split <;> omega
      have HG : Hid (∀ S, Good D S → IsP p S (indF (imgL es L))) := Lib.hid (fun S h => h.isP hcf hib hi12)
      have HPO := Lib.hid (polyOf_any sort_says p es.length W0.heap.size _ D wr hM (by have := HLL.out; omega) (fun e he hc => hi12 e he (by rw [← hcf e he]; exact hc)))
      have hne0 : w.heap.size ≠ W0.heap.size := by omega
      have rrW : wr.rowIs w.heap.size 42 3 (polyF 0 0 (.slice none 0 0)) := rr4.of_block (hg.block _ rr4.lt (by simpa using hne0))
      have hbw : Below w.heap.size w wr := hw4.grown hg hw4.size (fun q hq => by cases hq; omega)
      clear hcf hi12 hib hM hg HD hO4 hS4 hw4 rr4
      go_wp2_with fail
      ((with_reducible refine HPO.out.mono ?_); rintro e w5 ⟨v5, S, rfl, ho5, hgood, hb5⟩)
      have HIS := Lib.hid (HG.out S hgood)
      obtain ⟨sa, sc, rfl⟩ := owns_slice ho5
      have rr5 := rowIs_below rrW hb5 rrW.lt
      obtain ⟨⟨r0, r1, r2⟩, z0, z1, z2⟩ := poly3 rr5
      obtain ⟨a0, a1, a2, a3, a4⟩ := fill_box rr5 ho5 hbw.size (hbw.trans (hb5.mono hbw.size)) (Nat.le_refl _) p es.length
      have A0 := Lib.hid a0
      have A1 := Lib.hid a1
      have A2 := Lib.hid a2
      have A3 := Lib.hid a3
      have A4 := Lib.hid a4
      clear a0 a1 a2 a3 a4 ho5 hgood rr5 rrW hbw hb5
      go_wp2_with fail
      refine bodyPost_ret (v := .agg #[.int .i64 p, .int .i64 es.length, .slice sa S.length sc]) (by simp [results, Try.results118, go_sem, A0.out, A1.out, A2.out]) rfl ⟨_, S, rfl, A3.out, ?_, A4.out⟩
      rw [HLE.out]
      exact HIS.out

set_option maxRecDepth 100000 in
set_option maxHeartbeats 4000000 in
theorem imsum (p : Int) (ve : Value) (es : List Int) (w : World) (hd : 1 ≤ es.length ∧ es.length ≤ 3) (hp2 : 2 ≤ p) (he : ∀ e ∈ es, 0 ≤ e ∧ e ≤ 255)
    (h12 : ∀ os ∈ ordL es.length (es.length ^ es.length), (keyO es os).1 + (keyO es os).2.1 + (keyO es os).2.2 ≤ 12) (hS : Sl w ve es) :
    Calls Try.prog 73 #[.int .i64 p, ve] w fun e w' => ∃ v' S, e = .returned (.agg #[.int .i64 p, .int .i64 es.length, v']) ∧ OwnP w' w.heap.size v' S ∧ IsP p S (indF (imgL es (ordL es.length (es.length ^ es.length)))) ∧ Below w.heap.size w w' := by
  obtain ⟨W0, hW0, hb0, ⟨h01, h02⟩, rr⟩ := newbox w 0 0 (.slice none 0 0)
  have HC := Lib.hid (isoo p ve es W0 hd hp2 he h12 (hS.below hb0))
  clear h12 he
  go_enter Try.func73, Try.ntmps73
  go_upto_region 1 with fail
  rw [← hW0]
  clear hW0
  go_wp2_with fail
  ((with_reducible refine HC.out.mono ?_); rintro e w5 ⟨v5, S, rfl, ho5, hI, hb5⟩)
  have HIS := Lib.hid hI
  obtain ⟨sa, sc, rfl⟩ := owns_slice ho5
  have rr5 := rowIs_below rr hb5 rr.lt
  obtain ⟨⟨r0, r1, r2⟩, z0, z1, z2⟩ := poly3 rr5
  obtain ⟨a0, a1, a2, a3, a4⟩ := fill_box rr5 ho5 hb0.size (hb0.trans (hb5.mono hb0.size)) (Nat.le_refl _) p es.length
  have A0 := Lib.hid a0
  have A1 := Lib.hid a1
  have A2 := Lib.hid a2
  have A3 := Lib.hid a3
  have A4 := Lib.hid a4
  clear a0 a1 a2 a3 a4 ho5 hI rr5 rr hb5 HC
  go_wp2_with fail
  exact bodyPost_ret (v := .agg #[.int .i64 p, .int .i64 es.length, .slice sa S.length sc]) (by simp [results, Try.results73, go_sem, A0.out, A1.out, A2.out]) rfl ⟨_, S, rfl, A3.out, HIS.out, A4.out⟩
end Go.Proofs.Ytggogmbhlfddlaa
namespace Go.Proofs.Ytggogmbhlfddlaa
open Go.RowKit Go.Sort

/-- k put into a list at a place. -/
def insK (k : Int) (l : List Int) (a : Nat) : List Int := (l.take a ++ [k]) ++ l.drop a
/-- k put at each place, from the last one on. -/
def insAll (k : Nat) (l : List Int) : List (List Int) := (List.range (k + 1)).map fun i => insK k l (k - i)
def sOrd : Nat → List (List Int)
  | 0 => [[]]
  | k + 1 => (sOrd k).flatMap (insAll k)
def sgAll (k : Nat) (s : Int) : List Int := (List.range (k + 1)).map fun (i : Nat) => s * (1 - 2 * ((i : Int) % 2))
def sSg : Nat → List Int
  | 0 => [1]
  | k + 1 => (sSg k).flatMap (sgAll k)
theorem sOrd_row : ∀ (k : Nat), ∀ l ∈ sOrd k, l.length = k
  | 0, l, h => by simp [sOrd] at h; simp [h]
  | k + 1, l, h => by
    simp only [sOrd, List.mem_flatMap] at h
    obtain ⟨r, hr, hl⟩ := h
    simp only [insAll, List.mem_map, List.mem_range] at hl
    obtain ⟨i, hi, rfl⟩ := hl
    have := sOrd_row k r hr
    simp [insK]
    omega
theorem flat_len {α β : Type} (f : α → List β) (c : Nat) : ∀ (L : List α), (∀ x ∈ L, (f x).length = c) → (L.flatMap f).length = c * L.length
  | [], _ => by simp
  | x :: L, h => by
    rw [List.flatMap_cons, List.length_append, h x (by simp), flat_len f c L (fun y hy => h y (by simp [hy])), List.length_cons, Nat.mul_add, Nat.mul_one, Nat.add_comm]
theorem sOrd_len : ∀ (k : Nat), k ≤ 3 → (sOrd k).length ≤ 6 ∧ (sSg k).length = (sOrd k).length := fun k hk => by
  have : k = 0 ∨ k = 1 ∨ k = 2 ∨ k = 3 := by omega
  rcases this with rfl | rfl | rfl | rfl <;> decide
theorem sSg_one : ∀ (k : Nat), ∀ s ∈ sSg k, s = 1 ∨ s = -1
  | 0, s, h => by simp [sSg] at h; exact .inl h
  | k + 1, s, h => by
    simp only [sSg, List.mem_flatMap] at h
    obtain ⟨r, hr, hl⟩ := h
    simp only [sgAll, List.mem_map, List.mem_range] at hl
    obtain ⟨i, hi, rfl⟩ := hl
    have h2 : ((i : Int) % 2 = 0) ∨ ((i : Int) % 2 = 1) := by omega
    rcases sSg_one k r hr with rfl | rfl <;> rcases h2 with h2 | h2 <;> rw [h2] <;> simp
/-- What stands after i lists and j places of the next one. -/
def midO (k : Nat) (L : List (List Int)) (i j : Nat) : List (List Int) := (L.take i).flatMap (insAll k) ++ ((insAll k (L.getD i [])).take j)
def midS (k : Nat) (S : List Int) (i j : Nat) : List Int := (S.take i).flatMap (sgAll k) ++ ((sgAll k (S.getD i 0)).take j)
theorem midO_zero (k : Nat) (L : List (List Int)) (i : Nat) : midO k L i 0 = (L.take i).flatMap (insAll k) := by simp [midO]
theorem midS_zero (k : Nat) (S : List Int) (i : Nat) : midS k S i 0 = (S.take i).flatMap (sgAll k) := by simp [midS]
theorem midO_step {k : Nat} {L : List (List Int)} {i j : Nat} (hi : i < L.length) (hj : j ≤ k) : midO k L i (j + 1) = midO k L i j ++ [insK k L[i] (k - j)] := by
  unfold midO
  rw [show L.getD i [] = L[i] by simp [List.getD, hi], List.take_succ_eq_append_getElem (by simp [insAll]; omega), ← List.append_assoc]
  simp [insAll]
theorem midS_step {k : Nat} {S : List Int} {i j : Nat} (hi : i < S.length) (hj : j ≤ k) : midS k S i (j + 1) = midS k S i j ++ [S[i] * (1 - 2 * ((j : Int) % 2))] := by
  unfold midS
  rw [show S.getD i 0 = S[i] by simp [List.getD, hi], List.take_succ_eq_append_getElem (by simp [sgAll]; omega), ← List.append_assoc]
  simp [sgAll]
theorem midO_end {k : Nat} {L : List (List Int)} {i : Nat} (hi : i < L.length) : midO k L i (k + 1) = (L.take (i + 1)).flatMap (insAll k) := by
  unfold midO
  rw [List.take_of_length_le (show (insAll k (L.getD i [])).length ≤ k + 1 by simp [insAll]), show L.getD i [] = L[i] by simp [List.getD, hi], List.take_succ_eq_append_getElem hi, List.flatMap_append]
  simp
theorem midS_end {k : Nat} {S : List Int} {i : Nat} (hi : i < S.length) : midS k S i (k + 1) = (S.take (i + 1)).flatMap (sgAll k) := by
  unfold midS
  rw [List.take_of_length_le (show (sgAll k (S.getD i 0)).length ≤ k + 1 by simp [sgAll]), show S.getD i 0 = S[i] by simp [List.getD, hi], List.take_succ_eq_append_getElem hi, List.flatMap_append]
  simp
theorem midO_le {k : Nat} (hk : k ≤ 2) {i j : Nat} : (midO k (sOrd k) i j).length ≤ 12 := by
  have h1 : ((sOrd k).take i).length ≤ 2 := by
    have : k = 0 ∨ k = 1 ∨ k = 2 := by omega
    have h2 : (sOrd k).length ≤ 2 := by rcases this with rfl | rfl | rfl <;> decide
    rw [List.length_take]; omega
  have h3 := flat_len (insAll k) (k + 1) ((sOrd k).take i) (fun x _ => by simp [insAll])
  unfold midO
  rw [List.length_append, h3]
  have h4 : (insAll k ((sOrd k).getD i [])).length = k + 1 := by simp [insAll]
  have h6 : ((insAll k ((sOrd k).getD i [])).take j).length ≤ k + 1 := by rw [List.length_take, h4]; omega
  have h5 : (k + 1) * ((sOrd k).take i).length ≤ 3 * 2 := Nat.mul_le_mul (by omega) h1
  omega
/-- Both have the same orders. -/
theorem ord_same (d : Nat) (h : 1 ≤ d ∧ d ≤ 3) : ∀ l, l ∈ sOrd d ↔ l ∈ ordL d (d ^ d) := by
  have h1 : ∀ l ∈ sOrd 1, l ∈ ordL 1 (1 ^ 1) := by decide +kernel
  have h1' : ∀ l ∈ ordL 1 (1 ^ 1), l ∈ sOrd 1 := by decide +kernel
  have h2 : ∀ l ∈ sOrd 2, l ∈ ordL 2 (2 ^ 2) := by decide +kernel
  have h2' : ∀ l ∈ ordL 2 (2 ^ 2), l ∈ sOrd 2 := by decide +kernel
  have h3 : ∀ l ∈ sOrd 3, l ∈ ordL 3 (3 ^ 3) := by decide +kernel
  have h3' : ∀ l ∈ ordL 3 (3 ^ 3), l ∈ sOrd 3 := by decide +kernel
  have : d = 1 ∨ d = 2 ∨ d = 3 := by omega
  rcases this with rfl | rfl | rfl
  · exact fun l => ⟨h1 l, h1' l⟩
  · exact fun l => ⟨h2 l, h2' l⟩
  · exact fun l => ⟨h3 l, h3' l⟩

/-- Rows that can be resliced. -/
def CapO (O : List Row3) : Prop := ∀ e ∈ O, ∃ c, e.1 = .slice (some ⟨e.2.2, 0, none⟩) e.2.1.length c ∧ e.2.1.length ≤ c
theorem OwnL.rowC {w : World} {base : Nat} {v : Value} {l : List Int} (h : OwnL w base v l) (h0 : 0 < l.length) : ∃ g c, v = .slice (some ⟨g, 0, none⟩) l.length c ∧ l.length ≤ c ∧ base ≤ g ∧ RowAt w base (v, l, g) := by
  obtain ⟨g, hr⟩ := h.rowAt h0
  obtain ⟨_, h2⟩ := h
  rcases h2 with ⟨_, h3⟩ | ⟨g', cap, cur, hv, hb, _, hc, _⟩
  · omega
  · obtain ⟨c', _, _, hv', hb', _⟩ := id hr
    have hgg : g = g' := by
      have h5 : v = .slice (some ⟨g, 0, none⟩) l.length c' := hv'
      rw [hv] at h5
      simp at h5
      exact h5.1.symm
    subst hgg
    exact ⟨g, cap, hv, hc, hb, hr⟩
theorem RowsM.cell {w : World} {base : Nat} {v : Value} {O : List Row3} (h : RowsM w base v O) {i : Nat} (hi : i < O.length) : ∃ g c, v = .slice (some ⟨g, 0, none⟩) O.length c ∧ w.cell? ⟨g, i, none⟩ = some O[i].1 := by
  rcases owns_at h.owns with ⟨_, h0⟩ | ⟨g, cap, N, f, hv, hb, hN, hr, hf⟩
  · omega
  · exact ⟨g, cap, hv, by rw [hr.cell (by omega), hf i (by simpa using hi)]; simp⟩
theorem row_takeS {w : World} {base : Nat} {e : Row3} (h : RowAt w base e) (a cap : Nat) (ha : a ≤ e.2.1.length) : Sl w (.slice (some ⟨e.2.2, 0, none⟩) a cap) (e.2.1.take a) := by
  have hc := h.cs
  refine ⟨_, cap, by rw [List.length_take, Nat.min_eq_left ha], .inr ⟨e.2.2, 0, rfl, h.lt, fun k hk => ?_⟩⟩
  have hk' : k < e.2.1.length := by rw [List.length_take] at hk; omega
  rw [List.getElem_take]
  exact hc k hk'
theorem row_dropS {w : World} {base : Nat} {e : Row3} (h : RowAt w base e) (a cap : Nat) (ha : a ≤ e.2.1.length) (ad : Option Addr) (had : a < e.2.1.length → ad = some ⟨e.2.2, a, none⟩) : Sl w (.slice ad (e.2.1.length - a) cap) (e.2.1.drop a) := by
  have hc := h.cs
  refine ⟨ad, cap, by rw [List.length_drop], ?_⟩
  by_cases hlt : a < e.2.1.length
  · refine .inr ⟨e.2.2, a, had hlt, h.lt, fun k hk => ?_⟩
    have hk' : a + k < e.2.1.length := by rw [List.length_drop] at hk; omega
    have := hc (a + k) hk'
    rw [Nat.zero_add] at this
    rw [List.getElem_drop]
    exact this
  · exact .inl (List.drop_eq_nil_of_le (by omega))
end Go.Proofs.Ytggogmbhlfddlaa
namespace Go.Proofs.Ytggogmbhlfddlaa
open Go.RowKit Go.Sort

theorem int_drop (b cap n k : Nat) (hk : k ≤ n) (hcap : n ≤ cap) :
    ∃ ad, (∀ W, (Instr.slice 39 (.slice (some ⟨b, 0, none⟩) n cap) (some (.int .i64 (k : Int))) none none).run Try.prog W = .ok (.slice ad (n - k) (cap - k)) W) ∧ (k < n → ad = some ⟨b, k, none⟩) := by
  obtain ⟨i0, hi, hz0, hz1, hz2⟩ := info_parts einfoI
  have ht' : Try.prog.underlying 39 = some (.slice (Try.prog.elem 39)) := by simp [Program.elem, Try.underlying39]
  have he : Try.prog.elem 39 = 2 := by simp [Program.elem, Try.underlying39]
  have hz : ∀ W, (Go.sizeOf 2).run Try.prog W = .ok 1 W := fun W => by simp [sizeOf, typeInfo, hi, hz1]
  by_cases hck : cap = k
  · refine ⟨some ⟨b, 0, none⟩, fun W => ?_, fun h => by omega⟩
    rw [run_slice_l W 39 _ _ _ ht' .i64 _ (by omega) (by omega), he, hz]
    simp [Result.andThen, sliced, hck]
  · refine ⟨some ⟨b, k, none⟩, fun W => ?_, fun _ => rfl⟩
    rw [run_slice_l W 39 _ _ _ ht' .i64 _ (by omega) (by omega), he, hz]
    by_cases hk0 : k = 0
    · subst hk0
      simp [Result.andThen, sliced, Addr.add]
    · simp [Result.andThen, sliced, Addr.add, hck]
      exact hk0
theorem own_oneI (w : World) (x : Int) : OwnL (w.alloc (.cells #[.int .i64 x] 2)) w.heap.size (.slice (some ⟨w.heap.size, 0, none⟩) 1 1) [x] :=
  ⟨rfl, .inr ⟨w.heap.size, 1, _, rfl, Nat.le_refl _, heap_alloc_new w _, Nat.le_refl _, by simp [maxLen], rfl, rfl⟩⟩
theorem own_nilI (w : World) : OwnL (w.alloc (.cells #[] 2)) w.heap.size (.slice (some ⟨w.heap.size, 0, none⟩) 0 0) [] :=
  ⟨rfl, .inr ⟨w.heap.size, 0, _, rfl, Nat.le_refl _, heap_alloc_new w _, Nat.le_refl _, by simp [maxLen], rfl, rfl⟩⟩
theorem rows_nil (w : World) : RowsM (w.alloc (.cells #[] 39)) w.heap.size (.slice (some ⟨w.heap.size, 0, none⟩) 0 0) [] :=
  ⟨⟨rfl, .inr ⟨w.heap.size, 0, _, rfl, Nat.le_refl _, heap_alloc_new w _, Nat.le_refl _, by simp [maxLen], rfl, rfl⟩⟩, by simp, by simp⟩
/-- The list of one list without numbers. -/
theorem rows_one (w : World) : RowsM ((w.alloc (.cells #[] 2)).alloc (.cells #[.slice (some ⟨w.heap.size, 0, none⟩) 0 0] 39)) w.heap.size (.slice (some ⟨w.heap.size + 1, 0, none⟩) 1 1) [(.slice (some ⟨w.heap.size, 0, none⟩) 0 0, [], w.heap.size)] := by
  have hs : (w.alloc (.cells #[] 2)).heap.size = w.heap.size + 1 := by simp
  refine ⟨⟨rfl, .inr ⟨w.heap.size + 1, 1, _, rfl, by omega, by rw [← hs]; exact heap_alloc_new _ _, Nat.le_refl _, by simp [maxLen], rfl, rfl⟩⟩, fun e he => ?_, by simp⟩
  obtain rfl := List.mem_singleton.1 he
  have h0 : (w.alloc (.cells #[] 2)).rowIs w.heap.size 2 0 (fun _ => undef) := ⟨_, heap_alloc_new w _, rfl, fun i hi => by omega⟩
  exact ⟨0, 0, _, rfl, Nat.le_refl _, Nat.le_refl _, h0.alloc _, fun q hq => by simp at hq⟩

theorem owns_monoS {w : World} {base base' : Nat} {t : TypeId} {v : Value} {n : Nat} {xs : List Value} (h : w.ownsRow base t 1 v n xs) (hb : base' ≤ base) : w.ownsRow base' t 1 v n xs := by
  obtain ⟨h1, h2⟩ := h
  refine ⟨h1, ?_⟩
  rcases h2 with h2 | ⟨g, cap, cur, hv, hg, r⟩
  · exact .inl h2
  · exact .inr ⟨g, cap, cur, hv, Nat.le_trans hb hg, r⟩
theorem OwnL.keepO {w w' : World} {base : Nat} {v : Value} {l : List Int} {r : Option Nat} (h : OwnL w base v l) (hg : w.grownBy w' r) (hne : v.ownBlock = none ∨ v.ownBlock ≠ r) : OwnL w' base v l := World.ownsRow.kept h hg hne
theorem ints_ne_head {w : World} {base base' n n' : Nat} {v v' : Value} {xs xs' : List Value} (h : w.ownsRow base 2 1 v n xs) (h' : w.ownsRow base' 39 1 v' n' xs') : v.ownBlock = none ∨ v.ownBlock ≠ v'.ownBlock := by
  cases hv : v.ownBlock with
  | none => exact .inl rfl
  | some g =>
    refine .inr fun e2 => ?_
    obtain ⟨c, z, hc⟩ := Lib.ownsRow_kind h g hv
    obtain ⟨c', z', hc'⟩ := Lib.ownsRow_kind h' g e2.symm
    rw [hc] at hc'
    simp at hc'
theorem head_ne_ints {w : World} {base base' n n' : Nat} {v v' : Value} {xs xs' : List Value} (h' : w.ownsRow base' 39 1 v' n' xs') (h : w.ownsRow base 2 1 v n xs) : v'.ownBlock = none ∨ v'.ownBlock ≠ v.ownBlock := by
  cases hv : v'.ownBlock with
  | none => exact .inl rfl
  | some g =>
    refine .inr fun e2 => ?_
    obtain ⟨c, z, hc⟩ := Lib.ownsRow_kind h' g hv
    obtain ⟨c', z', hc'⟩ := Lib.ownsRow_kind h g e2.symm
    rw [hc] at hc'
    simp at hc'
theorem RowsM.keepO {w w' : World} {base : Nat} {v : Value} {O : List Row3} {r : Option Nat} (h : RowsM w base v O) (hg : w.grownBy w' r) (hv : v.ownBlock = none ∨ v.ownBlock ≠ r) (hr : ∀ e ∈ O, some e.2.2 ≠ r) : RowsM w' base v O :=
  ⟨World.ownsRow.kept h.owns hg hv, fun e he => (h.rows e he).kept2 hg (hr e he), h.apart⟩

set_option maxRecDepth 8000 in
set_option maxHeartbeats 8000000 in
theorem sorders (d : Nat) (w : World) (h : 1 ≤ d ∧ d ≤ 3) : Calls Try.prog 115 #[.int .i64 d] w fun e w' => ∃ v vs O, e = .returned (.tuple #[v, vs]) ∧ RowsM w' w.heap.size v O ∧ CapO O ∧ O.map (·.2.1) = sOrd d ∧ OwnL w' w.heap.size vs (sSg d) ∧ Below w.heap.size w w' := by
  obtain ⟨W1, hW1, hM0, hS0, hb0⟩ : ∃ W1, W1 = ((w.alloc (.cells #[] 2)).alloc (.cells #[.slice (some ⟨w.heap.size, 0, none⟩) 0 0] 39)).alloc (.cells #[.int .i64 1] 2) ∧ RowsM W1 w.heap.size (.slice (some ⟨w.heap.size + 1, 0, none⟩) 1 1) [(.slice (some ⟨w.heap.size, 0, none⟩) 0 0, [], w.heap.size)] ∧ OwnL W1 w.heap.size (.slice (some ⟨w.heap.size + 1 + 1, 0, none⟩) 1 1) [1] ∧ Below w.heap.size w W1 := by
    have h1 := own_oneI ((w.alloc (.cells #[] 2)).alloc (.cells #[.slice (some ⟨w.heap.size, 0, none⟩) 0 0] 39)) 1
    have hs : ((w.alloc (.cells #[] 2)).alloc (.cells #[.slice (some ⟨w.heap.size, 0, none⟩) 0 0] 39)).heap.size = w.heap.size + 1 + 1 := by simp
    rw [hs] at h1
    exact ⟨_, rfl, (rows_one w).below (ebox1 _ _), h1.mono (by omega), ((ebox1 w _).trans ((ebox1 _ _).mono (by simp))).trans ((ebox1 _ _).mono (by simp; omega))⟩
  have HC0 : Hid (CapO [((.slice (some ⟨w.heap.size, 0, none⟩) 0 0 : Value), (([] : List Int), w.heap.size))] ∧ [((.slice (some ⟨w.heap.size, 0, none⟩) 0 0 : Value), (([] : List Int), w.heap.size))].map (·.2.1) = sOrd 0) := Lib.hid ⟨fun e he => by
    obtain rfl := List.mem_singleton.1 he
    exact ⟨0, rfl, Nat.le_refl _⟩, rfl⟩
  go_enter Try.func115, Try.ntmps115
  go_upto_region 2 with fail
  rw [← hW1]
  clear hW1
  go_wp2_with fail
  go_loopg [4, 5, 6] d (fun g vl vs c wq => ∃ (k : Nat) (O : List Row3), k + g = d ∧ c = .int .i64 k ∧ RowsM wq w.heap.size vl O ∧ Hid (CapO O ∧ O.map (·.2.1) = sOrd k) ∧ OwnL wq w.heap.size vs (sSg k) ∧ Below w.heap.size w wq)
  case atStart => exact ⟨0, _, by omega, rfl, hM0, HC0, hS0, hb0⟩
  case round =>
    clear hM0 HC0 hS0 hb0
    obtain ⟨k, O, hk, rfl, hM, HO, hS, hb⟩ := hrel
    by_cases hlt : k < d
    · have hlt' : (k : Int) < (d : Int) := by omega
      obtain ⟨g, hg⟩ : ∃ g, k + 1 + g = d := ⟨d - (k + 1), by omega⟩
      have HG := Lib.hid (And.intro hg (show g < gk by omega))
      have hk2 : k ≤ 2 := by omega
      have HOl := Lib.hid (show O.length = (sOrd k).length by rw [← HO.out.2, List.length_map])
      have hpos : 0 < O.length := by rw [HOl.out]; have : k = 0 ∨ k = 1 ∨ k = 2 := by omega
                                     rcases this with rfl | rfl | rfl <;> decide
      have hO6 : O.length ≤ 6 := by rw [HOl.out]; exact (sOrd_len k (by omega)).1
      have HSl := Lib.hid ((sOrd_len k (by omega)).2)
      obtain ⟨gv, cv, rfl, _⟩ := hM.cell hpos
      have hSS := hS.slice
      obtain ⟨wo, hwo⟩ : ∃ wo, wo = wr := ⟨_, rfl⟩
      rw [← hwo] at hM hS hSS hb
      obtain ⟨W2, hW2, hN0, hm0, hb2, hap⟩ : ∃ W2, W2 = (wo.alloc (.cells #[] 39)).alloc (.cells #[] 2) ∧ RowsM W2 wo.heap.size (.slice (some ⟨wo.heap.size, 0, none⟩) 0 0) [] ∧ OwnL W2 wo.heap.size (.slice (some ⟨wo.heap.size + 1, 0, none⟩) 0 0) [] ∧ Below wo.heap.size wo W2 ∧ True := by
        have h1 := own_nilI (wo.alloc (.cells #[] 39))
        have hs : (wo.alloc (.cells #[] 39)).heap.size = wo.heap.size + 1 := by simp
        rw [hs] at h1
        exact ⟨_, rfl, (rows_nil wo).below (ebox1 _ _), h1.mono (by omega), (ebox1 wo _).trans ((ebox1 _ _).mono (by simp)), trivial⟩
      have HK := Lib.hid (And.intro hM (And.intro hS hb))
      obtain ⟨sa, sc, rfl, hscase⟩ := id hSS
      clear hM hS hb hk hg hap
      go_upto_region 6 with fail
      rw [← hwo, ← hW2]
      clear hwo hW2
      go_wp2_with fail
      go_loopg [7, 8, 9] O.length (fun g vn vm c wq => ∃ (i : Nat) (O2 : List Row3), i + g = O.length ∧ c = .int .i64 i ∧ RowsM wq wo.heap.size vn O2 ∧ Hid (CapO O2 ∧ O2.map (·.2.1) = midO k (sOrd k) i 0) ∧ OwnL wq wo.heap.size vm (midS k (sSg k) i 0) ∧ Hid (∀ e ∈ O2, some e.2.2 ≠ vm.ownBlock) ∧ Below wo.heap.size wo wq)
      case atStart => exact ⟨0, [], by omega, rfl, hN0, Lib.hid ⟨fun e he => by simp at he, by simp [midO]⟩, by simpa [midS] using hm0, Lib.hid (fun e he => by simp at he), hb2⟩
      case round =>
        clear hN0 hm0 hb2
        obtain ⟨i, O2, hi, rfl, hN, HO2, hm, HNE, hbo⟩ := hrel
        by_cases hil : i < O.length
        · have hil' : (i : Int) < (O.length : Int) := by omega
          obtain ⟨g2, hg2⟩ : ∃ g2, i + 1 + g2 = O.length := ⟨O.length - (i + 1), by omega⟩
          have HG2 := Lib.hid (And.intro hg2 (show g2 < gk by omega))
          clear hi hg2
          go_wp2_with fail
          go_loopg [7, 8, 10] (k + 1) (fun g vn vm c wq => ∃ (j : Nat) (O2 : List Row3), j + g = k + 1 ∧ c = .int .i64 ((k : Int) - (j : Int)) ∧ RowsM wq wo.heap.size vn O2 ∧ Hid (CapO O2 ∧ O2.map (·.2.1) = midO k (sOrd k) i j) ∧ OwnL wq wo.heap.size vm (midS k (sSg k) i j) ∧ Hid (∀ e ∈ O2, some e.2.2 ≠ vm.ownBlock) ∧ Below wo.heap.size wo wq)
          case atStart => exact ⟨0, O2, by omega, by simp, hN, HO2, hm, HNE, hbo⟩
          case round =>
            clear hN HO2 hm HNE hbo
            obtain ⟨j, O3, hj, rfl, hN, HO3, hm, HNE, hbo⟩ := hrel
            by_cases hjk : j ≤ k
            · obtain ⟨a, ha⟩ : ∃ a, j + a = k := ⟨k - j, by omega⟩
              have hat : (k : Int) - (j : Int) = (a : Int) := by omega
              rw [hat]
              obtain ⟨g3, hg3⟩ : ∃ g3, j + 1 + g3 = k + 1 := ⟨k - j, by omega⟩
              have HG3 := Lib.hid (And.intro hg3 (show g3 < gk by omega))
              have hMr := HK.out.1.below hbo
              obtain ⟨gv', cv', hv', c0⟩ := hMr.cell hil
              obtain ⟨rfl, rfl⟩ : gv = gv' ∧ cv = cv' := by simpa using hv'
              have hRA := hMr.rows _ (List.getElem_mem hil)
              obtain ⟨ce, hce, hcl⟩ := HO.out.1 _ (List.getElem_mem hil)
              have hso : (sOrd k)[i]'(by rw [← HOl.out]; exact hil) = O[i].2.1 := by
                have h1 := HO.out.2
                simp only [← h1, List.getElem_map]
              have hrl : O[i].2.1.length = k := by rw [← hso]; exact sOrd_row k _ (List.getElem_mem _)
              have HMS := Lib.hid (midO_step (k := k) (L := sOrd k) (i := i) (j := j) (by rw [← HOl.out]; exact hil) hjk)
              rw [hso, show k - j = a by omega] at HMS
              obtain ⟨⟨u, l, b⟩, hee⟩ : ∃ e, O[i] = e := ⟨_, rfl⟩
              rw [hee] at c0 hRA hce hcl hrl HMS
              simp only at c0 hRA hce hcl hrl HMS
              rw [hrl] at hce hcl
              subst hce
              have hit := int_take b ce k a (by omega) hcl
              obtain ⟨ad, hidr, had⟩ := int_drop b ce k a (by omega) hcl
              have hgvlt := block_lt_of_cell c0
              have HEO := Lib.hid (eown (.slice (some ⟨b, 0, none⟩) a ce) (l.take a) wr (by rw [List.length_take]; omega) (row_takeS hRA a ce (by show a ≤ l.length; omega)))
              have hSl2 := HSl.out
              have hisl : i < (sSg k).length := by rw [hSl2, ← HOl.out]; exact hil
              have hisl' : (i : Int) < ((sSg k).length : Int) := by omega
              obtain ⟨bs, os, rfl, hbs, hTs⟩ : ∃ b off, sa = some ⟨b, off, none⟩ ∧ b < wo.heap.size ∧ Cs wo b off (sSg k) := by
                rcases hscase with h1 | h1
                · rw [h1] at hisl; simp at hisl
                · exact h1
              have d0 := hTs i hisl
              have HMG := Lib.hid (midS_step (k := k) (S := sSg k) (i := i) (j := j) hisl hjk)
              have hs1 := sSg_one k _ (List.getElem_mem hisl)
              obtain ⟨sg, hsg⟩ : ∃ sg, (sSg k)[i] = sg := ⟨_, rfl⟩
              rw [hsg] at d0 HMG hs1
              have hjj : 0 ≤ (j : Int) % 2 ∧ (j : Int) % 2 ≤ 1 := by omega
              have HD0 := Lib.hid d0
              clear d0
              have HRA := Lib.hid hRA
              have HCT := Lib.hid hbo
              have hwr2 := hbo.size
              have HRL := Lib.hid hrl
              clear hat hg3 hMr hso hee hRA hrl hTs hsg hSl2 hscase hv'
              obtain ⟨na, nc, rfl⟩ := hN.shape
              obtain ⟨ma, mc, rfl⟩ := hm.shape
              have HML := Lib.hid (show O3.length ≤ 12 by have h1 := congrArg List.length HO3.out.2; rw [List.length_map] at h1; rw [h1]; exact midO_le hk2)
              have HMS2 : Hid ((midS k (sSg k) i j).length ≤ 100000) := Lib.hid (by
                have h3 := flat_len (sgAll k) (k + 1) ((sSg k).take i) (fun x _ => by simp [sgAll])
                have h4 : ((sSg k).take i).length ≤ 6 := by rw [List.length_take]; have := (sOrd_len k (by omega)).1; have := HSl.out; omega
                have h5 : (k + 1) * ((sSg k).take i).length ≤ 3 * 6 := Nat.mul_le_mul (by omega) h4
                have h6 : ((sgAll k ((sSg k).getD i 0)).take j).length ≤ k + 1 := by rw [List.length_take]; simp [sgAll]; omega
                unfold midS
                rw [List.length_append, h3]
                omega)
              go_wp2_with fail
              ((with_reducible refine HEO.out.mono ?_); rintro e w4 ⟨v0, rfl, ho0, hb4⟩)
              have s4 := hb4.size
              go_wp2_with (at_builtin; refine wpList_append_ints _ rfl _ _ rfl wr.heap.size v0 (l.take a) rfl (ho0.below (ebox1 w4 (.cells #[.int .i64 (k : Int)] 2))) (.slice (some ⟨w4.heap.size, 0, none⟩) 1 1) [(k : Int)] rfl (own_oneI w4 k).slice (by rw [List.length_take]; simp; omega) (by simp; omega) ?_)
              intro v1 w6 ho1 hg6
              have hb5 := hb4.trans ((ebox1 w4 (.cells #[.int .i64 (k : Int)] 2)).mono hb4.size)
              have hb6 : Below wr.heap.size wr w6 := hb5.grown hg6 hb5.size (fun q hq => (World.ownsRow.lt ho0 q hq).1)
              have c0' := (hb6.cell (p := ⟨gv, i, none⟩) hgvlt).trans c0
              have hSd : Sl w6 (.slice ad (k - a) (ce - a)) (l.drop a) := by
                have h1 := row_dropS ((HRA.out).below hb6) a (ce - a) (show a ≤ l.length by have := HRL.out; omega) ad (fun h1 => had (by have h2 : a < l.length := h1; have := HRL.out; omega))
                simp only [HRL.out] at h1
                exact h1
              have hl0 : (l.take a ++ [(k : Int)]).length = a + 1 := by rw [List.length_append, List.length_take]; have := HRL.out; simp; omega
              obtain ⟨X1, hX1⟩ : ∃ X1, l.take a ++ [(k : Int)] = X1 := ⟨_, rfl⟩
              rw [hX1] at ho1 hl0
              have HX1 := Lib.hid hX1
              have HL0 := Lib.hid hl0
              clear c0 hg6 hb5 hb4 ho0 s4 hl0 hX1
              go_wp2_with (at_builtin; refine wpList_append_ints _ rfl _ _ rfl wr.heap.size v1 X1 rfl ho1 (.slice ad (k - a) (ce - a)) (l.drop a) rfl hSd (by have := HL0.out; have := HRL.out; rw [List.length_drop]; omega) hb6.size ?_)
              intro v2 w7 ho2 hg7
              have hb7 : Below wr.heap.size wr w7 := hb6.grown hg7 hb6.size (fun q hq => (World.ownsRow.lt ho1 q hq).1)
              obtain ⟨X2, hX2⟩ : ∃ X2, X1 ++ l.drop a = X2 := ⟨_, rfl⟩
              have hlK : X2.length = k + 1 := by rw [← hX2, List.length_append, HL0.out, List.length_drop, HRL.out]; omega
              rw [hX2] at ho2
              have HX2 : Hid (insK k l a = X2) := Lib.hid (by unfold insK; rw [HX1.out, hX2])
              clear hX2
              obtain ⟨g8, c8, rfl, hc8, hg8, hr8⟩ := ho2.rowC (by omega)
              rw [hlK] at hc8 hr8
              simp only [hlK]
              have HLK := Lib.hid hlK
              have hb8 := hb7.trans ((ebox1 w7 (.cells #[.slice (some ⟨g8, 0, none⟩) (k + 1) c8] 39)).mono hb7.size)
              have hN8 := hN.below hb8
              have hr9 := (hr8.mono hwr2).below (ebox1 w7 (.cells #[.slice (some ⟨g8, 0, none⟩) (k + 1) c8] 39))
              have HFR := Lib.hid (hN.fresh hg8)
              have hm8 := hm.below hb8
              have hbo8 := hbo.trans (hb8.mono hbo.size)
              have HM8 := Lib.hid (And.intro hm8 hbo8)
              have HG8 := Lib.hid (And.intro hg8 (fun q hq => (World.ownsRow.lt hm q hq).2))
              obtain ⟨i0, hi0, hz0, hz1, hz2⟩ := info_parts einfoR
              clear hb6 ho1 ho2 hg7 hSd hlK hN hm hm8 hbo hr8 hb7 HL0
              go_wp2_with (at_builtin; refine wpList_append_lies _ rfl _ _ 22 rfl wo.heap.size 39 i0 _ 1 24 Try.underlying22 hi0 hz0 hz1 hz2 rfl (by decide) (.slice na O3.length nc) O3.length (O3.map (·.1)) rfl hN8.owns ⟨w7.heap.size, 0, none⟩ 1 1 [.slice (some ⟨g8, 0, none⟩) (k + 1) c8] rfl rfl (World.news_of_block (cs := #[.slice (some ⟨g8, 0, none⟩) (k + 1) c8]) (t := 39) (fr := (0, 0)) (heap_alloc_new w7 _)) (by simp [Value.oneCell']) (by omega) (by have := HML.out; unfold maxLen; omega) (by have := HML.out; omega) hbo8.size _ rfl ?_)
              intro g9 cap9 w9 hown9 hgrow9 hat9 hlt9
              have hM9 := hN8.push hr9 HFR.out hown9 hgrow9
              have hm9 := HM8.out.1.keepO hgrow9 (ints_ne_head HM8.out.1 hN8.owns)
              have hb9 : Below wo.heap.size wo w9 := HM8.out.2.grown hgrow9 HM8.out.2.size (fun q hq => (World.ownsRow.lt hN8.owns q hq).1)
              have d9 := (hb9.cell (p := ⟨bs, os + i, none⟩) hbs).trans HD0.out
              have hw61 : IntKind.i64.wrap ((k : Int) - (a : Int)) = (j : Int) := by rw [show (k : Int) - (a : Int) = (j : Int) by omega]; exact IntWalk.i64_in _ (by omega)
              obtain ⟨jj, hjj2⟩ : ∃ jj, (j : Int) % 2 = jj := ⟨_, rfl⟩
              have hm62 : (j : Int).tmod 2 = jj := by rw [Int.tmod_eq_emod_of_nonneg (by omega), hjj2]
              rw [hjj2] at hjj HMG
              obtain ⟨z, hz⟩ : ∃ z, 2 * jj = z := ⟨_, rfl⟩
              have hw63 : IntKind.i64.wrap (2 * jj) = z := by rw [← hz]; exact IntWalk.i64_in _ (by omega)
              obtain ⟨y, hy⟩ : ∃ y, 1 - z = y := ⟨_, rfl⟩
              have hw64 : IntKind.i64.wrap (1 - z) = y := by rw [← hy]; exact IntWalk.i64_in _ (by omega)
              obtain ⟨x, hx⟩ : ∃ x, sg * y = x := ⟨_, rfl⟩
              have hxb : -1 ≤ x ∧ x ≤ 1 := by
                have hy3 : -1 ≤ y ∧ y ≤ 1 := by omega
                rcases hs1 with rfl | rfl <;> omega
              have hw65 : IntKind.i64.wrap (sg * y) = x := by rw [hx]; exact IntWalk.i64_in _ (by omega)
              obtain ⟨MS, hMS⟩ : ∃ MS, midS k (sSg k) i j = MS := ⟨_, rfl⟩
              rw [hMS] at hm9 HMG HMS2 HNE HG8
              have HMX : Hid (midS k (sSg k) i (j + 1) = MS ++ [x]) := Lib.hid (by rw [HMG.out, hz, hy, hx])
              obtain ⟨na2, hna⟩ : ∃ n2, (k : Int) - ((j + 1 : Nat) : Int) = n2 := ⟨_, rfl⟩
              have hwd : IntKind.i64.wrap ((a : Int) - 1) = na2 := by rw [← hna, show (a : Int) - 1 = (k : Int) - ((j + 1 : Nat) : Int) by omega]; exact IntWalk.i64_in _ (by omega)
              have HNA := Lib.hid hna
              have HO4 : Hid (CapO (O3 ++ [(Value.slice (some ⟨g8, 0, none⟩) (k + 1) c8, X2, g8)]) ∧ (O3 ++ [(Value.slice (some ⟨g8, 0, none⟩) (k + 1) c8, X2, g8)]).map (·.2.1) = midO k (sOrd k) i (j + 1)) := Lib.hid ⟨fun e he => by
                  rcases List.mem_append.1 he with h1 | h1
                  · exact HO3.out.1 e h1
                  · obtain rfl := List.mem_singleton.1 h1
                    exact ⟨c8, by simp only [HLK.out], by show X2.length ≤ c8; rw [HLK.out]; exact hc8⟩,
                by rw [List.map_append, HO3.out.2, HMS.out, HX2.out]; rfl⟩
              have HR8 : Hid (∀ e ∈ O3 ++ [(Value.slice (some ⟨g8, 0, none⟩) (k + 1) c8, X2, g8)], some e.2.2 ≠ (Value.slice ma MS.length mc).ownBlock) := Lib.hid (fun e he => by
                rcases List.mem_append.1 he with h1 | h1
                · exact HNE.out e h1
                · obtain rfl := List.mem_singleton.1 h1
                  exact fun h2 => by have h3 := HG8.out.2 _ h2.symm; have h4 := HG8.out.1; simp only at h3; omega)
              have hm10 := hm9.below (ebox1 w9 (.cells #[.int .i64 x] 2))
              have hM10 := hM9.below (ebox1 w9 (.cells #[.int .i64 x] 2))
              have hb10 := hb9.trans ((ebox1 w9 (.cells #[.int .i64 x] 2)).mono hb9.size)
              obtain ⟨O4, hO4⟩ : ∃ O4, O3 ++ [(Value.slice (some ⟨g8, 0, none⟩) (k + 1) c8, X2, g8)] = O4 := ⟨_, rfl⟩
              rw [hO4] at hM9 hM10 HO4 HR8
              have HLT9 : Hid (∀ e ∈ O4, e.2.2 < w9.heap.size) := Lib.hid (fun e he => (hM9.rows e he).lt)
              obtain ⟨i1, hi1, hy0, hy1, hy2⟩ := info_parts einfoI
              clear hown9 hgrow9 hat9 hlt9 hN8 hr9 hb9 hm9 HM8 hz hy hx hna hjj2 hbo8 hO4 hM9 hi0 hz0 hz1 hz2
              go_upto_region 14 with fail
              rw [hMS]
              clear hMS
              go_wp2_with (at_builtin; refine wpList_append_lies _ rfl _ _ 39 rfl wo.heap.size 2 i1 _ 1 8 Try.underlying39 hi1 hy0 hy1 hy2 rfl (by decide) (.slice ma MS.length mc) MS.length (valsI MS) rfl hm10 ⟨w9.heap.size, 0, none⟩ 1 1 [.int .i64 x] rfl rfl (World.news_of_block (cs := #[.int .i64 x]) (t := 2) (fr := (0, 0)) (heap_alloc_new w9 _)) (by simp [Value.oneCell']) (by omega) (by have := HMS2.out; unfold maxLen; omega) (by have := HMS2.out; omega) hb10.size _ rfl ?_)
              intro g10 cap10 w10 hown10 hgrow10 hat10 hlt10
              have hmf : OwnL w10 wo.heap.size (.slice (some ⟨g10, 0, none⟩) (MS.length + 1) cap10) (MS ++ [x]) := by simpa [OwnL, valsI] using hown10
              have hMf := hM10.keepO hgrow10 (head_ne_ints hM10.owns hm10) HR8.out
              have HNf : Hid (∀ e ∈ O4, some e.2.2 ≠ (Value.slice (some ⟨g10, 0, none⟩) (MS.length + 1) cap10).ownBlock) := Lib.hid (fun e he h2 => by
                have h3 : e.2.2 = g10 := by simpa [Value.ownBlock] using h2
                rcases hat10 with h4 | h4
                · exact HR8.out e he (by rw [h4, h3])
                · have h5 := HLT9.out e he
                  have h6 : (w9.alloc (.cells #[.int .i64 x] 2)).heap.size = w9.heap.size + 1 := by simp
                  omega)
              have hbf := hb10.grown hgrow10 hb10.size (fun q hq => (World.ownsRow.lt hm10 q hq).1)
              rw [← HMX.out] at hmf
              clear hown10 hgrow10 hat10 hlt10 hm10 hM10 hb10 hi1 hy0 hy1 hy2
              go_wp2_with fail
              go_roundg g3
              case measure => exact HG3.out.2
              case rel => exact ⟨j + 1, O4, HG3.out.1, by rw [HNA.out], hMf, HO4, hmf, HNf, hbf⟩
            · obtain rfl : j = k + 1 := by omega
              have hlt3 : ¬ ((0 : Int) ≤ (k : Int) - ((k + 1 : Nat) : Int)) := by omega
              have HE1 : Hid (CapO O3 ∧ O3.map (·.2.1) = midO k (sOrd k) (i + 1) 0) := Lib.hid ⟨HO3.out.1, by rw [HO3.out.2, midO_end (by rw [← HOl.out]; exact hil), midO_zero]⟩
              have hm2 := hm
              rw [midS_end (by rw [HSl.out, ← HOl.out]; exact hil), ← midS_zero] at hm2
              clear hm hj
              go_wp2_with fail
              go_roundg g2
              case measure => exact HG2.out.2
              case rel => exact ⟨i + 1, O3, HG2.out.1, by go_num, hN, HE1, hm2, HNE, hbo⟩
        · obtain rfl : i = O.length := by omega
          have HE1 : Hid (CapO O2 ∧ O2.map (·.2.1) = sOrd (k + 1)) := Lib.hid ⟨HO2.out.1, by rw [HO2.out.2, midO_zero, HOl.out, List.take_length]; rfl⟩
          have hm2 := hm
          rw [midS_zero, HOl.out, ← HSl.out, List.take_length] at hm2
          have hend := HK.out.2.2.trans (hbo.mono HK.out.2.2.size)
          have hNm := RowsM.mk (owns_monoS hN.owns HK.out.2.2.size) (fun e he => (hN.rows e he).mono HK.out.2.2.size) hN.apart
          have hmm := hm2.mono HK.out.2.2.size
          clear hm hm2 hN hbo
          go_wp2_with fail
          go_roundg g
          case measure => exact HG.out.2
          case rel => exact ⟨k + 1, O2, HG.out.1, by go_num, hNm, HE1, hmm, hend⟩
    · obtain rfl : k = d := by omega
      obtain ⟨a1, c1, rfl⟩ := hM.shape
      obtain ⟨a2, c2, rfl, _⟩ := hS.slice
      go_wp2_with fail
      go_ret2
      exact ⟨_, _, O, rfl, hM, HO.out.1, HO.out.2, hS, hb⟩
end Go.Proofs.Ytggogmbhlfddlaa
namespace Go.Proofs.Ytggogmbhlfddlaa
open Go.RowKit Go.Sort Go.Maps

theorem ind_same {M M' : List (Int × Int × Int)} (h : ∀ e, e ∈ M ↔ e ∈ M') : indF M = indF M' := by
  funext e
  unfold indF
  by_cases h1 : e ∈ M
  · rw [if_pos h1, if_pos ((h e).1 h1)]
  · rw [if_neg h1, if_neg (fun h2 => h1 ((h e).2 h2))]
theorem img_same (es : List Int) (h : 1 ≤ es.length ∧ es.length ≤ 3) : indF (imgL es (sOrd es.length)) = indF (imgL es (ordL es.length (es.length ^ es.length))) :=
  ind_same fun e => by
    simp only [imgL, List.mem_map]
    exact ⟨fun ⟨l, h1, h2⟩ => ⟨l, (ord_same _ h l).1 h1, h2⟩, fun ⟨l, h1, h2⟩ => ⟨l, (ord_same _ h l).2 h1, h2⟩⟩

set_option maxRecDepth 8000 in
set_option maxHeartbeats 8000000 in
theorem ssum (p : Int) (ve : Value) (es : List Int) (w : World) (hd : 1 ≤ es.length ∧ es.length ≤ 3) (hp2 : 2 ≤ p) (hp13 : p ≤ 13) (he : ∀ e ∈ es, 0 ≤ e ∧ e ≤ 255)
    (h12 : ∀ os ∈ sOrd es.length, (keyO es os).1 + (keyO es os).2.1 + (keyO es os).2.2 ≤ 12) (hS : Sl w ve es) :
    Calls Try.prog 70 #[.int .i64 p, ve] w fun e w' => ∃ v' S, e = .returned (.agg #[.int .i64 p, .int .i64 es.length, v']) ∧ OwnP w' w.heap.size v' S ∧ IsP p S (indF (imgL es (sOrd es.length))) ∧ Below w.heap.size w w' := by
  obtain ⟨W, hW, hbW, ⟨hWs1, hWs2⟩, rr⟩ := newbox w 0 0 (.slice none 0 0)
  obtain ⟨ea, ec, rfl, hec⟩ := id hS
  have HE := Lib.hid he
  have H12 := Lib.hid h12
  have HSO := Lib.hid (fun W => sorders es.length W hd)
  clear he h12
  go_enter Try.func70, Try.ntmps70
  go_upto_region 1 with fail
  rw [← hW]
  clear hW
  go_wp2_with fail
  ((with_reducible refine (empty_any p es.length W).mono ?_); rintro e w2 ⟨rfl, hown, hb2⟩)
  obtain ⟨V, hV, hbV, ⟨hVs1, hVs2⟩, rq⟩ := newbox w2 p es.length (.slice (some ⟨W.heap.size + 1, 0, none⟩) 0 0)
  have s2 := hb2.size
  have hbWV := hb2.trans (hbV.mono s2)
  have rrV := rowIs_below rr hbWV rr.lt
  have hwV := hbW.trans (hbWV.mono hbW.size)
  have howV : OwnP V w.heap.size (.slice (some ⟨W.heap.size + 1, 0, none⟩) 0 0) [] := owns_low (owns_belowT hown hbV) hbW.size
  have hqn : w.heap.size ≠ w2.heap.size := by omega
  have hqw : w.heap.size ≤ w2.heap.size := by omega
  go_upto_region 3 with fail
  rw [← hV]
  clear hV rr hown hbV hb2 hbW hbWV
  go_wp2_with fail
  ((with_reducible refine (HSO.out _).mono ?_); rintro e w4 ⟨v4, vs4, O, rfl, hM, hCap, hmap, hSg, hb4⟩)
  have hOw4 := owns_belowT howV hb4
  have rq4 := rowIs_below rq hb4 rq.lt
  have rr4 := rowIs_below rrV hb4 rrV.lt
  have hw4 := hwV.trans (hb4.mono hwV.size)
  have hVlt := rq.lt
  have HO := Lib.hid hmap
  have hOl : O.length ≤ 6 := by
    have h1 := congrArg List.length hmap
    rw [List.length_map] at h1
    rw [h1]
    exact (sOrd_len _ hd.2).1
  obtain ⟨oa, oc, rfl⟩ := hM.shape
  obtain ⟨sa, sc, rfl, _⟩ := id hSg.slice
  clear HSO hSg hCap hmap hb4 howV rq rrV hwV
  go_wp2_with fail
  go_loopg [9] O.length (fun g c wq => ∃ (i : Nat) (sv : Value) (S : List Tm), i + g = O.length ∧ c = .int .i64 i ∧ Hid (IsP p S (indF (imgL es ((sOrd es.length).take i)))) ∧ OwnP wq w.heap.size sv S ∧ wq.rowIs w2.heap.size 42 3 (polyF p es.length sv) ∧ wq.rowIs w.heap.size 42 3 (polyF 0 0 (.slice none 0 0)) ∧ RowsM wq V.heap.size (.slice oa O.length oc) O ∧ Below w.heap.size w wq)
  case atStart => exact ⟨0, _, [], by omega, rfl, Lib.hid ((show (fun _ => 0) = indF (imgL es ((sOrd es.length).take 0)) by funext e; simp [indF, imgL]) ▸ IsP.nil p), hOw4, rq4, rr4, hM, hw4⟩
  case round =>
    clear hOw4 rq4 rr4 hM hw4
    obtain ⟨i, sv, S, hi, rfl, HP, hO, hq, hr, hM, hb⟩ := hrel
    obtain ⟨pa, pc, rfl⟩ := owns_slice hO
    by_cases hil : i < O.length
    · have hil' : (i : Int) < (O.length : Int) := by omega
      obtain ⟨g2, hg2⟩ : ∃ g2, i + 1 + g2 = O.length := ⟨O.length - (i + 1), by omega⟩
      have HG2 := Lib.hid (And.intro hg2 (show g2 < gk by omega))
      have hso : (sOrd es.length)[i]'(by rw [← HO.out, List.length_map]; exact hil) = O[i].2.1 := by
        have h1 := HO.out
        simp only [← h1, List.getElem_map]
      have hmem : O[i].2.1 ∈ sOrd es.length := by rw [← hso]; exact List.getElem_mem _
      have hro := (ord_row hd ((ord_same _ hd _).1 hmem))
      have H12i := Lib.hid (H12.out _ hmem)
      have HTK : Hid (imgL es ((sOrd es.length).take (i + 1)) = imgL es ((sOrd es.length).take i) ++ [keyO es O[i].2.1]) := Lib.hid (by
        rw [List.take_succ_eq_append_getElem (by rw [← HO.out, List.length_map]; exact hil), hso]
        simp [imgL])
      obtain ⟨gv, cv, hv, _⟩ := hM.cell hil
      obtain ⟨rfl, rfl⟩ : oa = some ⟨gv, 0, none⟩ ∧ oc = cv := by simpa using hv
      obtain ⟨⟨u, l, b⟩, hee⟩ : ∃ e, O[i] = e := ⟨_, rfl⟩
      rw [hee] at hro H12i HTK
      simp only at hro H12i HTK
      have HEE := Lib.hid hee
      obtain ⟨wo, hwo⟩ : ∃ wo, wo = wr := ⟨_, rfl⟩
      rw [← hwo] at hO hq hr hM hb
      clear hi hg2 hso hmem hv hee
      go_upto_region 8 with fail
      rw [← hwo]
      obtain ⟨W5, hW5, r5, hb5⟩ : ∃ W5, W5 = wo.alloc (.cells #[.int .u8 0, .int .u8 0, .int .u8 0] 82) ∧ W5.rowIs wo.heap.size 82 3 (fun q => .int .u8 (plF es l 0 q)) ∧ Below wo.heap.size wo W5 := ⟨_, rfl, World.rowIs_alloc wo #[_, _, _] _ _ (fun i hi => by simp at hi; match i, hi with | 0, _ => rfl | 1, _ => rfl | 2, _ => rfl), ebox1 _ _⟩
      have HK := Lib.hid (And.intro hO (And.intro hq (And.intro hr (And.intro hM hb))))
      have HRA : Hid (RowAt wo V.heap.size (u, l, b)) := Lib.hid (by have h1 := hM.rows _ (List.getElem_mem hil); rwa [HEE.out] at h1)
      have HCC : Hid (wo.cell? ⟨gv, i, none⟩ = some u) := Lib.hid (by
        obtain ⟨g', c', h1, h2⟩ := hM.cell hil
        obtain ⟨rfl, _⟩ : gv = g' ∧ oc = c' := by simpa using h1
        rw [h2, HEE.out])
      obtain ⟨cu, Nu, fu, hu1, _, hNu, hru, _⟩ := id HRA.out
      have hu2 : u = .slice (some ⟨b, 0, none⟩) l.length cu := hu1
      subst hu2
      rw [← hW5]
      clear hW5 hwo hO hq hr hM hb hu1 hru
      go_wp2_with fail
      go_loopg [11] es.length (fun g c wq => ∃ k : Nat, k + g = es.length ∧ c = .int .i64 k ∧ wq.rowIs wo.heap.size 82 3 (fun q => .int .u8 (plF es l k q)) ∧ Below wo.heap.size wo wq)
      case atStart => exact ⟨0, by omega, rfl, r5, hb5⟩
      case round =>
        clear r5 hb5
        obtain ⟨k, hk, rfl, hR, hbo⟩ := hrel
        obtain ⟨hrl, hro2⟩ := hro
        have hbw := HK.out.2.2.2.2.trans (hbo.mono HK.out.2.2.2.2.size)
        by_cases hkl : k < es.length
        · have hkl' : (k : Int) < (es.length : Int) := by omega
          have hkl2 : k < l.length := by omega
          have hkl3 : (k : Int) < (l.length : Int) := by omega
          obtain ⟨g3, hg3⟩ : ∃ g3, k + 1 + g3 = es.length := ⟨es.length - (k + 1), by omega⟩
          have HG3 := Lib.hid (And.intro hg3 (show g3 < gk by omega))
          obtain ⟨b1, f1, rfl, hb1, hT1⟩ : ∃ b off, ea = some ⟨b, off, none⟩ ∧ b < w.heap.size ∧ Cs w b off es := by
            rcases hec with rfl | h
            · simp at hkl
            · exact h
          have c0 := (hT1.below hbw hb1) k hkl
          have d0 := ((HRA.out).below hbo).cs k hkl2
          rw [Nat.zero_add] at d0
          have u0 := (hbo.cell (p := ⟨gv, i, none⟩) (block_lt_of_cell HCC.out)).trans HCC.out
          obtain ⟨e0, e1⟩ := HE.out _ (List.getElem_mem hkl)
          obtain ⟨o0, o1⟩ := hro2 _ (List.getElem_mem hkl2)
          have HS : Hid (∀ q : Nat, plF es l (k + 1) q = if l[k] = (q : Int) then es[k] else plF es l k q) := Lib.hid (fun q => by
            show (if l.getD k 0 = (q : Int) then es.getD k 0 else plF es l k q) = _
            rw [show l.getD k 0 = l[k] by simp [List.getD, hkl2], show es.getD k 0 = es[k] by simp [List.getD, hkl]])
          obtain ⟨x, hx⟩ : ∃ x, es[k] = x := ⟨_, rfl⟩
          rw [hx] at c0 e0 e1 HS
          obtain ⟨y, hy⟩ : ∃ y, l[k] = y := ⟨_, rfl⟩
          simp only [hy] at d0 o0 o1 HS
          obtain ⟨n, rfl⟩ := Int.eq_ofNat_of_zero_le o0
          have hn3 : n < 3 := by omega
          have hwx : IntKind.u8.wrap x = x := by
            rw [show IntKind.u8.wrap x = x % 256 by first | rfl | simp [IntKind.wrap, IntKind.signed, IntKind.bits]]
            omega
          have hc := hR.cell (i := n) hn3
          have hf := hR.frozen n
          have hR2 := (World.rowIs.set (w := wr.drew) hR n (.int .u8 x)).congr (g := fun q => .int .u8 (plF es l (k + 1) q)) (fun q _ => by
            rw [HS.out q]
            by_cases e : q = n
            · subst e; simp
            · rw [if_neg e, if_neg (by omega)])
          have hb3 := hbo.drew.setCell (p := ⟨wo.heap.size, n, none⟩) (Nat.le_refl _) (.int .u8 x)
          have HRR := Lib.hid (And.intro hR2 hb3)
          clear hR hR2 hb3 hx hy hT1 hec hk hg3 hbo hbw hS hro2 hrl
          go_wp2_with fail
          refine ord_tail 13 (by kernel_rfl) (by kernel_rfl) ?_
          simp only [List.take_succ_cons, List.take_zero, List.drop_succ_cons, List.drop_zero]
          repeat still_step
          refine wpStill_nil ?_
          go_wp2_with fail
          go_roundg g3
          case measure => exact HG3.out.2
          case rel => exact ⟨k + 1, HG3.out.1, by go_num, HRR.out.1, HRR.out.2⟩
        · obtain rfl : k = es.length := by omega
          have hby : byte3 (keyO es l) := keyO_byte HE.out
          have hm12 : mono12 (keyO es l) := ⟨hby, H12i.out⟩
          have hATv : atL S (keyO es l) = indF (imgL es ((sOrd es.length).take i)) (keyO es l) := HP.out.2.2 _ hby
          have hlS : S.length ≤ 1048576 := Nat.le_trans HP.out.len (by decide)
          have hO5 := owns_belowT HK.out.1 hbo
          have hq5 := rowIs_below HK.out.2.1 hbo HK.out.2.1.lt
          have hr5 := rowIs_below HK.out.2.2.1 hbo HK.out.2.2.1.lt
          have hM5 := HK.out.2.2.2.1.below hbo
          have e0 := hR.cell (i := 0) (by omega)
          have e1 := hR.cell (i := 1) (by omega)
          have e2 := hR.cell (i := 2) (by omega)
          obtain ⟨k0, hk0⟩ : ∃ x, plF es l es.length 0 = x := ⟨_, rfl⟩
          obtain ⟨k1, hk1⟩ : ∃ x, plF es l es.length 1 = x := ⟨_, rfl⟩
          obtain ⟨k2, hk2⟩ : ∃ x, plF es l es.length 2 = x := ⟨_, rfl⟩
          have hKE : keyO es l = (k0, k1, k2) := by unfold keyO; rw [hk0, hk1, hk2]
          rw [hk0] at e0
          rw [hk1] at e1
          rw [hk2] at e2
          rw [hKE] at hby hm12 hATv HTK
          have HAT := Lib.hid (at_any p es.length (.slice pa S.length pc) S k0 k1 k2 wr hlS (OwnP.slice hO5))
          obtain ⟨⟨q0, q1, q2⟩, _⟩ := poly3 hq5
          have HB := Lib.hid (And.intro hby hm12)
          by_cases hin : (k0, k1, k2) ∈ imgL es ((sOrd es.length).take i)
          · have hA1 : atL S (k0, k1, k2) = 1 := by rw [hATv]; unfold indF; rw [if_pos hin]
            rw [hA1] at HAT
            have HPN : Hid (IsP p S (indF (imgL es ((sOrd es.length).take (i + 1))))) := Lib.hid (by
              have h1 : indF (imgL es ((sOrd es.length).take (i + 1))) = indF (imgL es ((sOrd es.length).take i)) := by
                rw [HTK.out]
                funext e
                rw [ind_snoc]
                by_cases h2 : e = (k0, k1, k2)
                · rw [if_pos h2, h2]; unfold indF; rw [if_pos hin]
                · rw [if_neg h2]
              rw [h1]; exact HP.out)
            clear hby hm12 hATv hA1 hin hKE hk0 hk1 hk2 hlS hk hec hR HB
            go_wp2_with fail
            ((with_reducible refine HAT.out.mono ?_); rintro e w6 ⟨rfl, hb6⟩)
            have hF1 := owns_belowT hO5 hb6
            have hF2 := rowIs_below hq5 hb6 hq5.lt
            have hF3 := rowIs_below hr5 hb6 hr5.lt
            have hF4 := hM5.below hb6
            have hF5 := hbw.trans (hb6.mono hbw.size)
            clear hO5 hq5 hr5 hM5 hb6 hbo hbw e0 e1 e2 q0 q1 q2
            go_wp2_with fail
            go_roundg g2
            case measure => exact HG2.out.2
            case rel => exact ⟨i + 1, _, S, HG2.out.1, by go_num, HPN, hF1, hF2, hF3, hF4, hF5⟩
          · have hA0 : atL S (k0, k1, k2) = 0 := by rw [hATv]; unfold indF; rw [if_neg hin]
            rw [hA0] at HAT
            obtain ⟨O2, hO2⟩ : ∃ O2, putL p S (k0, k1, k2) 1 = O2 := ⟨_, rfl⟩
            have HPN : Hid (IsP p O2 (indF (imgL es ((sOrd es.length).take (i + 1))))) := Lib.hid (by
              have h1 := HP.out.put hp2 hm12 1
              rw [hO2] at h1
              have h2 : (fun a => if a = (k0, k1, k2) then (1 + indF (imgL es ((sOrd es.length).take i)) (k0, k1, k2)) % p else indF (imgL es ((sOrd es.length).take i)) a) = indF (imgL es ((sOrd es.length).take (i + 1))) := by
                rw [HTK.out]
                funext e
                rw [ind_snoc]
                by_cases h3 : e = (k0, k1, k2)
                · rw [if_pos h3, if_pos h3]
                  unfold indF
                  rw [if_neg hin, Int.add_zero]
                  exact Int.emod_eq_of_lt (by omega) (by omega)
                · rw [if_neg h3, if_neg h3]
              rw [h2] at h1
              exact h1)
            have HO2 := Lib.hid hO2
            have HKS := Lib.hid (And.intro hk0 (And.intro hk1 hk2))
            clear hby hm12 hATv hA0 hin hKE hk0 hk1 hk2 hlS hk hec hO2
            go_wp2_with fail
            ((with_reducible refine HAT.out.mono ?_); rintro e w6 ⟨rfl, hb6⟩)
            have hF1 := owns_belowT hO5 hb6
            have hF2 := rowIs_below hq5 hb6 hq5.lt
            have hF3 := rowIs_below hr5 hb6 hr5.lt
            have hF4 := hM5.below hb6
            have hF5 := hbw.trans (hb6.mono hbw.size)
            have hR6 := rowIs_below hR hb6 hR.lt
            clear e0 e1 e2 q0 q1 q2 hR
            have e0 := hR6.cell (i := 0) (by omega)
            have e1 := hR6.cell (i := 1) (by omega)
            have e2 := hR6.cell (i := 2) (by omega)
            rw [HKS.out.1] at e0
            rw [HKS.out.2.1] at e1
            rw [HKS.out.2.2] at e2
            obtain ⟨⟨q0, q1, q2⟩, y0, y1, y2⟩ := poly3 hF2
            have HPU := Lib.hid (specPut p es.length (.slice pa S.length pc) S _ k0 k1 k2 1 w6 (OwnP.slice hF1) HP.out hp2 hp13 HB.out.1 (by omega) (by omega))
            rw [HO2.out] at HPU
            clear hO5 hq5 hr5 hM5 hb6 hbo hbw hR6 HAT
            go_wp2_with fail
            ((with_reducible refine HPU.out.mono ?_); rintro e w7 ⟨v7, rfl, ho7, hb7⟩)
            obtain ⟨sa7, sc7, rfl⟩ := owns_slice ho7
            have hG2 := rowIs_below hF2 hb7 hF2.lt
            have hG3 := rowIs_below hF3 hb7 hF3.lt
            have hG4 := hF4.below hb7
            have hG5 := hF5.trans (hb7.mono hF5.size)
            obtain ⟨_, _, _, a3, a4⟩ := fill_box (w := w) hG2 ho7 hF5.size hG5 hqw p es.length
            have hq8 := put_box (v := .slice sa7 O2.length sc7) hG2 p es.length
            have hne : ∀ o, w.heap.size ≠ (⟨w2.heap.size, o, none⟩ : Addr).block := fun o => hqn
            have hr8 := ((hG3.setOther (hne 0) (.int .i64 p)).setOther (hne 1) (.int .i64 es.length)).setOther (hne 2) (.slice sa7 O2.length sc7)
            have hg8 := ngrown_setT (ngrown_setT (ngrown_setT (g := w2.heap.size) (World.grownBy.refl w7 _) 0 (.int .i64 p)) 1 (.int .i64 es.length)) 2 (.slice sa7 O2.length sc7)
            have hM8 := hG4.keepO hg8 (.inr (fun h1 => by
              have h2 := (World.ownsRow.lt hG4.owns gv rfl).1
              have h3 : gv = w2.heap.size := by simpa [Value.ownBlock] using h1
              omega)) (fun e he h1 => by
              obtain ⟨_, _, _, _, h2, _⟩ := hG4.rows e he
              have h3 : e.2.2 = w2.heap.size := by simpa using h1
              omega)
            obtain ⟨⟨q0, q1, q2⟩, y0, y1, y2⟩ := poly3 hG2
            have HH := Lib.hid (And.intro a3 (And.intro hq8 (And.intro hr8 (And.intro hM8 a4))))
            clear a3 a4 hq8 hr8 hM8 hg8 hG2 hG3 hG4 hG5 hF1 hF2 hF3 hF4 hF5 hb7 ho7 hne e0 e1 e2 HPU
            go_wp2_with fail
            go_roundg g2
            case measure => exact HG2.out.2
            case rel => exact ⟨i + 1, _, O2, HG2.out.1, by go_num, HPN, HH.out.1, HH.out.2.1, HH.out.2.2.1, HH.out.2.2.2.1, HH.out.2.2.2.2⟩
    · obtain rfl : i = O.length := by omega
      have HPE : Hid (IsP p S (indF (imgL es (sOrd es.length)))) := Lib.hid (by
        have h1 := HP.out
        rwa [List.take_of_length_le (by rw [← HO.out, List.length_map]; exact Nat.le_refl _)] at h1)
      obtain ⟨⟨q0, q1, q2⟩, _⟩ := poly3 hq
      obtain ⟨⟨r0, r1, r2⟩, z0, z1, z2⟩ := poly3 hr
      obtain ⟨a0, a1, a2, a3, a4⟩ := fill_box (w := w) hr hO (Nat.le_refl _) hb (Nat.le_refl _) p es.length
      have A0 := Lib.hid a0
      have A1 := Lib.hid a1
      have A2 := Lib.hid a2
      have A3 := Lib.hid a3
      have A4 := Lib.hid a4
      clear a0 a1 a2 a3 a4 hO hb hM
      go_wp2_with fail
      exact bodyPost_ret (v := .agg #[.int .i64 p, .int .i64 es.length, .slice pa S.length pc]) (by simp [results, Try.results70, go_sem, A0.out, A1.out, A2.out]) rfl ⟨_, S, rfl, A3.out, HPE.out, A4.out⟩
end Go.Proofs.Ytggogmbhlfddlaa
namespace Go.Proofs.Ytggogmbhlfddlaa
open Go.RowKit Go.Sort Go.Maps

theorem sum_key {es os : List Int} (hd : 1 ≤ es.length ∧ es.length ≤ 3) (h : os ∈ sOrd es.length) : (keyO es os).1 + (keyO es os).2.1 + (keyO es os).2.2 = es.sum := by
  have h1 : sOrd 1 = [[0]] := by decide +kernel
  have h2 : sOrd 2 = [[0, 1], [1, 0]] := by decide +kernel
  have h3 : sOrd 3 = [[0, 1, 2], [0, 2, 1], [2, 0, 1], [1, 0, 2], [1, 2, 0], [2, 1, 0]] := by decide +kernel
  match es, hd, h with
  | [a], _, h =>
    rw [show [a].length = 1 from rfl, h1] at h
    simp only [List.mem_cons, List.not_mem_nil, or_false] at h
    subst h
    simp [keyO, plF]
  | [a, b], _, h =>
    rw [show [a, b].length = 2 from rfl, h2] at h
    simp only [List.mem_cons, List.not_mem_nil, or_false] at h
    rcases h with rfl | rfl <;> simp [keyO, plF] <;> omega
  | [a, b, c], _, h =>
    rw [show [a, b, c].length = 3 from rfl, h3] at h
    simp only [List.mem_cons, List.not_mem_nil, or_false] at h
    rcases h with rfl | rfl | rfl | rfl | rfl | rfl <;> simp [keyO, plF] <;> omega
theorem sum_key2 {es os : List Int} (hd : 1 ≤ es.length ∧ es.length ≤ 3) (h : os ∈ ordL es.length (es.length ^ es.length)) : (keyO es os).1 + (keyO es os).2.1 + (keyO es os).2.2 = es.sum := sum_key hd ((ord_same _ hd os).2 h)

open Classical in
/-- The polynomial with some coefficients, if there is one. -/
noncomputable def isS (p : Int) (f : Int × Int × Int → Int) : List Tm := if h : ∃ S, IsP p S f then Classical.choose h else []
theorem isS_of {p : Int} {S : List Tm} {f : Int × Int × Int → Int} (h : IsP p S f) : isS p f = S := by
  unfold isS
  rw [dif_pos ⟨S, h⟩]
  exact (Classical.choose_spec (⟨S, h⟩ : ∃ S, IsP p S f)).unique h
theorem isS_len (p : Int) (f : Int × Int × Int → Int) : (isS p f).length ≤ 2197 := by
  unfold isS
  split
  · rename_i h
    exact (Classical.choose_spec h).len
  · simp
/-- The monomial sum of exponents. -/
noncomputable def msS (p : Int) (es : List Int) : List Tm := isS p (indF (imgL es (sOrd es.length)))
theorem imsumS (p : Int) (ve : Value) (es : List Int) (w : World) (hd : 1 ≤ es.length ∧ es.length ≤ 3) (hp2 : 2 ≤ p) (he : ∀ e ∈ es, 0 ≤ e ∧ e ≤ 255) (hs : es.sum ≤ 12) (hS : Sl w ve es) :
    Calls Try.prog 73 #[.int .i64 p, ve] w fun e w' => ∃ v', e = .returned (.agg #[.int .i64 p, .int .i64 es.length, v']) ∧ OwnP w' w.heap.size v' (msS p es) ∧ Below w.heap.size w w' :=
  (imsum p ve es w hd hp2 he (fun os h => by rw [sum_key2 hd h]; exact hs) hS).mono fun _ _ ⟨v', S, h1, h2, h3, h4⟩ => by
    rw [← img_same es hd] at h3
    exact ⟨v', h1, by unfold msS; rw [isS_of h3]; exact h2, h4⟩
theorem ssumS (p : Int) (ve : Value) (es : List Int) (w : World) (hd : 1 ≤ es.length ∧ es.length ≤ 3) (hp2 : 2 ≤ p) (hp13 : p ≤ 13) (he : ∀ e ∈ es, 0 ≤ e ∧ e ≤ 255) (hs : es.sum ≤ 12) (hS : Sl w ve es) :
    Calls Try.prog 70 #[.int .i64 p, ve] w fun e w' => ∃ v', e = .returned (.agg #[.int .i64 p, .int .i64 es.length, v']) ∧ OwnP w' w.heap.size v' (msS p es) ∧ Below w.heap.size w w' :=
  (ssum p ve es w hd hp2 hp13 he (fun os h => by rw [sum_key hd h]; exact hs) hS).mono fun _ _ ⟨v', S, h1, h2, h3, h4⟩ => ⟨v', h1, by unfold msS; rw [isS_of h3]; exact h2, h4⟩
end Go.Proofs.Ytggogmbhlfddlaa
namespace Go.Proofs.Ytggogmbhlfddlaa
open Go.RowKit Go.Sort Go.Maps

def psB (p d k : Int) : Bool := (primeB p && (decide (1 ≤ d) && decide (d ≤ 3))) && (decide (1 ≤ k) && decide (k ≤ 12))
def psL (d k : Int) : List Int := k :: List.replicate (d.toNat - 1) 0
noncomputable def psO (p d k : Int) : OutP := if psB p d k then ⟨p, d, msS p (psL d k), 0⟩ else noP 2
theorem psO_len (p d k : Int) : (psO p d k).S.length ≤ 2197 := by
  unfold psO
  split
  · exact isS_len _ _
  · simp [noP]
theorem psO_no {p d k : Int} (h : psB p d k = false) : psO p d k = noP 2 := by unfold psO; rw [if_neg (by simp [h])]
theorem psO_yes {p d k : Int} (h : psB p d k = true) : psO p d k = ⟨p, d, msS p (psL d k), 0⟩ := by unfold psO; rw [if_pos h]
theorem psL_len {d : Nat} (h : 1 ≤ d) (k : Int) : (psL d k).length = d := by simp [psL]; omega
theorem psL_sum (d k : Int) : (psL d k).sum = k := by
  have h : ∀ n : Nat, (List.replicate n (0 : Int)).sum = 0 := fun n => by induction n with
    | zero => rfl
    | succ n ih => rw [List.replicate_succ, List.sum_cons, ih]; rfl
  simp [psL, h]
theorem psL_in {d k : Int} (h : 1 ≤ k ∧ k ≤ 12) : ∀ e ∈ psL d k, 0 ≤ e ∧ e ≤ 255 := fun e he => by
  rcases List.mem_cons.1 he with rfl | h1
  · omega
  · have := List.eq_of_mem_replicate h1; omega
theorem psL_sl {w : World} {g d : Nat} {k : Int} {t : TypeId} {f : Nat → Value} (hd : 1 ≤ d) (h : w.rowIs g t d f) (hf : ∀ q, f q = .int .i64 (if q = 0 then k else 0)) : Sl w (.slice (some ⟨g, 0, none⟩) d d) (psL d k) := by
  refine ⟨_, d, by rw [psL_len hd], .inr ⟨g, 0, rfl, h.lt, fun j hj => ?_⟩⟩
  rw [psL_len hd] at hj
  rw [Nat.zero_add, h.cell hj, hf j]
  cases j with
  | zero => simp [psL]
  | succ j => simp [psL]

set_option maxRecDepth 8000 in
set_option maxHeartbeats 8000000 in
theorem sps (p d k : Int) (w : World) :
    Calls Try.prog 39 #[.int .i64 p, .int .i64 d, .int .i64 k] w (ResO w (psO p d k)) := by
  obtain ⟨W, hW, hbW, ⟨hWs1, hWs2⟩, rr⟩ := newbox w 0 0 (.slice none 0 0)
  cases hs : (primeB p && (decide (1 ≤ d) && decide (d ≤ 3)))
  · have HO : Hid (psO p d k = noP 2) := Lib.hid (psO_no (by unfold psB; rw [hs]; rfl))
    have H0 := Lib.hid (fun w' => sshape p d false hs w')
    clear hs
    obtain ⟨⟨r0, r1, r2⟩, z0, z1, z2⟩ := poly3 rr
    obtain ⟨a0, a1, a2, a3, a4⟩ := fill_box (w := w) rr (ownP_nil W w.heap.size) (Nat.le_refl _) hbW (by omega) 0 0
    have A0 := Lib.hid a0
    have A1 := Lib.hid a1
    have A2 := Lib.hid a2
    have A3 := Lib.hid a3
    have A4 := Lib.hid a4
    clear a0 a1 a2 a3 a4
    go_enter Try.func39, Try.ntmps39
    go_wp2_with fail
    rw [← hW]
    clear hW
    ((with_reducible refine (H0.out _).mono ?_); rintro e w0 ⟨rfl, rfl⟩)
    go_wp2_with fail
    exact bodyPost_ret (v := .tuple #[.agg #[.int .i64 0, .int .i64 0, .slice none 0 0], .int .i64 2]) (by simp [results, Try.results39, go_sem, A0.out, A1.out, A2.out]) rfl (by rw [HO.out]; exact ⟨_, rfl, A3.out, A4.out⟩)
  have H0 := Lib.hid (fun w' => sshape p d true hs w')
  cases hk : (decide (1 ≤ k) && decide (k ≤ 12))
  · have HO : Hid (psO p d k = noP 2) := Lib.hid (psO_no (by unfold psB; rw [hk]; simp))
    have H1 := Lib.hid (fun w' => rin_is k 1 12 w' false hk)
    clear hs hk
    obtain ⟨⟨r0, r1, r2⟩, z0, z1, z2⟩ := poly3 rr
    obtain ⟨a0, a1, a2, a3, a4⟩ := fill_box (w := w) rr (ownP_nil W w.heap.size) (Nat.le_refl _) hbW (by omega) 0 0
    have A0 := Lib.hid a0
    have A1 := Lib.hid a1
    have A2 := Lib.hid a2
    have A3 := Lib.hid a3
    have A4 := Lib.hid a4
    clear a0 a1 a2 a3 a4
    go_enter Try.func39, Try.ntmps39
    go_wp2_with fail
    rw [← hW]
    clear hW
    ((with_reducible refine (H0.out _).mono ?_); rintro e w0 ⟨rfl, rfl⟩)
    go_wp2_with fail
    ((with_reducible refine (H1.out _).mono ?_); rintro e w1 ⟨rfl, rfl⟩)
    go_wp2_with fail
    exact bodyPost_ret (v := .tuple #[.agg #[.int .i64 0, .int .i64 0, .slice none 0 0], .int .i64 2]) (by simp [results, Try.results39, go_sem, A0.out, A1.out, A2.out]) rfl (by rw [HO.out]; exact ⟨_, rfl, A3.out, A4.out⟩)
  have H1 := Lib.hid (fun w' => rin_is k 1 12 w' true hk)
  have hp : primeB p = true := by simp only [Bool.and_eq_true] at hs; exact hs.1
  have hdd : 1 ≤ d ∧ d ≤ 3 := by simp only [Bool.and_eq_true, decide_eq_true_eq] at hs; exact hs.2
  have hkk : 1 ≤ k ∧ k ≤ 12 := by simpa using hk
  obtain ⟨hp2, hp13⟩ := prime_bc hp
  have HO := Lib.hid (psO_yes (p := p) (d := d) (k := k) (by unfold psB; rw [hs, hk]; rfl))
  obtain ⟨n, rfl⟩ := Int.eq_ofNat_of_zero_le (show 0 ≤ d by omega)
  obtain ⟨i0, hi, hz0, hz1, hz2⟩ := info_parts einfoI
  have hmk : ∀ w, (Instr.makeSlice 39 (.int .i64 (n : Int)) (.int .i64 (n : Int))).run Try.prog w = .ok (.slice (some ⟨w.heap.size, 0, none⟩) n n) (w.alloc (.cells (nmadeI n) 2)) := fun w => by
    have h := run_make (P := Try.prog) w 39 2 i0 _ Try.underlying39 hi hz0 .i64 .i64 (n : Int) (n : Int) (by omega) (by omega) (by rw [hz2]; omega) (by omega)
    rw [hz1] at h
    simpa [nmadeI, Value.cells] using h
  obtain ⟨V, hV, rV, hbV⟩ : ∃ V, V = W.alloc (.cells (nmadeI n) 2) ∧ V.rowIs W.heap.size 2 n (fun _ => .int .i64 0) ∧ Below W.heap.size W V := ⟨_, rfl, nmadeI_row W n _, ebox1 _ _⟩
  have hVc := rV.cell (i := 0) (by omega)
  have hVf := rV.frozen 0
  have rV2 := rV.set 0 (.int .i64 k)
  have hbV2 := hbV.setCell (p := ⟨W.heap.size, 0, none⟩) (Nat.le_refl _) (.int .i64 k)
  obtain ⟨V2, hV2⟩ : ∃ V2, V.setCell ⟨W.heap.size, 0, none⟩ (.int .i64 k) = V2 := ⟨_, rfl⟩
  rw [hV2] at rV2 hbV2
  have hSl := psL_sl (k := k) (by omega) rV2 (fun q => by by_cases e : q = 0 <;> simp [e])
  have hln := psL_len (d := n) (by omega) k
  have HC := Lib.hid (ssumS p _ (psL n k) V2 (by omega) hp2 hp13 (psL_in hkk) (by rw [psL_sum]; exact hkk.2) hSl)
  rw [hln] at HC
  have rr2 := rowIs_below rr hbV2 rr.lt
  have hw2 := hbW.trans (hbV2.mono hbW.size)
  have hn0 : 0 < n := by omega
  have hn0i : (0 : Int) < (n : Int) := by omega
  clear hi hz0 hz1 hz2 hs hk hp rr rV rV2 hbV hbV2 hln hSl hbW
  go_enter Try.func39, Try.ntmps39
  go_wp2_with fail
  rw [← hW]
  clear hW
  ((with_reducible refine (H0.out _).mono ?_); rintro e w0 ⟨rfl, rfl⟩)
  go_wp2_with fail
  ((with_reducible refine (H1.out _).mono ?_); rintro e w0 ⟨rfl, rfl⟩)
  go_upto_region 4 with fail
  rw [← hV]
  clear hV hmk
  go_upto_region 5 with fail
  clear hV2 hVc hVf
  go_wp2_with fail
  ((with_reducible refine HC.out.mono ?_); rintro e w5 ⟨v5, rfl, ho5, hb5⟩)
  obtain ⟨sa, sc, rfl⟩ := owns_slice ho5
  obtain ⟨S, hS⟩ : ∃ S, msS p (psL n k) = S := ⟨_, rfl⟩
  rw [hS] at ho5 HO
  simp only [hS]
  have rr5 := rowIs_below rr2 hb5 rr2.lt
  obtain ⟨⟨r0, r1, r2⟩, z0, z1, z2⟩ := poly3 rr5
  obtain ⟨a0, a1, a2, a3, a4⟩ := fill_box rr5 ho5 hw2.size (hw2.trans (hb5.mono hw2.size)) (Nat.le_refl _) p n
  have A0 := Lib.hid a0
  have A1 := Lib.hid a1
  have A2 := Lib.hid a2
  have A3 := Lib.hid a3
  have A4 := Lib.hid a4
  clear a0 a1 a2 a3 a4 ho5 rr5 rr2 hb5 HC hS hw2
  go_wp2_with fail
  exact bodyPost_ret (v := .tuple #[.agg #[.int .i64 p, .int .i64 n, .slice sa S.length sc], .int .i64 0]) (by simp [results, Try.results39, go_sem, A0.out, A1.out, A2.out]) rfl (by rw [HO.out]; exact ⟨_, rfl, A3.out, A4.out⟩)

set_option maxRecDepth 8000 in
set_option maxHeartbeats 8000000 in
theorem ips (p d k : Int) (w : World) :
    Calls Try.prog 40 #[.int .i64 p, .int .i64 d, .int .i64 k] w (ResO w (psO p d k)) := by
  obtain ⟨W, hW, hbW, ⟨hWs1, hWs2⟩, rr⟩ := newbox w 0 0 (.slice none 0 0)
  cases hp : primeB p
  · have HO : Hid (psO p d k = noP 2) := Lib.hid (psO_no (by simp [psB, hp]))
    have H0 := Lib.hid (fun w' => iprime_isc p false hp w')
    clear hp
    obtain ⟨⟨r0, r1, r2⟩, z0, z1, z2⟩ := poly3 rr
    obtain ⟨a0, a1, a2, a3, a4⟩ := fill_box (w := w) rr (ownP_nil W w.heap.size) (Nat.le_refl _) hbW (by omega) 0 0
    have A0 := Lib.hid a0
    have A1 := Lib.hid a1
    have A2 := Lib.hid a2
    have A3 := Lib.hid a3
    have A4 := Lib.hid a4
    clear a0 a1 a2 a3 a4
    go_enter Try.func40, Try.ntmps40
    go_wp2_with fail
    rw [← hW]
    clear hW
    ((with_reducible refine (H0.out _).mono ?_); rintro e w0 ⟨rfl, hw0⟩; subst hw0)
    go_wp2_with fail
    exact bodyPost_ret (v := .tuple #[.agg #[.int .i64 0, .int .i64 0, .slice none 0 0], .int .i64 2]) (by simp [results, Try.results40, go_sem, A0.out, A1.out, A2.out]) rfl (by rw [HO.out]; exact ⟨_, rfl, A3.out, A4.out⟩)
  have H0 := Lib.hid (fun w' => iprime_isc p true hp w')
  cases hd : (decide (1 ≤ d) && decide (d ≤ 3))
  · have HO : Hid (psO p d k = noP 2) := Lib.hid (psO_no (by unfold psB; rw [hd]; simp))
    have H1 := Lib.hid (fun w' => vars_isc d false hd w')
    clear hp hd
    obtain ⟨⟨r0, r1, r2⟩, z0, z1, z2⟩ := poly3 rr
    obtain ⟨a0, a1, a2, a3, a4⟩ := fill_box (w := w) rr (ownP_nil W w.heap.size) (Nat.le_refl _) hbW (by omega) 0 0
    have A0 := Lib.hid a0
    have A1 := Lib.hid a1
    have A2 := Lib.hid a2
    have A3 := Lib.hid a3
    have A4 := Lib.hid a4
    clear a0 a1 a2 a3 a4
    go_enter Try.func40, Try.ntmps40
    go_wp2_with fail
    rw [← hW]
    clear hW
    ((with_reducible refine (H0.out _).mono ?_); rintro e w0 ⟨rfl, hw0⟩; subst hw0)
    go_wp2_with fail
    ((with_reducible refine (H1.out _).mono ?_); rintro e w1 ⟨rfl, hw1⟩; subst hw1)
    go_wp2_with fail
    exact bodyPost_ret (v := .tuple #[.agg #[.int .i64 0, .int .i64 0, .slice none 0 0], .int .i64 2]) (by simp [results, Try.results40, go_sem, A0.out, A1.out, A2.out]) rfl (by rw [HO.out]; exact ⟨_, rfl, A3.out, A4.out⟩)
  have H1 := Lib.hid (fun w' => vars_isc d true hd w')
  by_cases hk1 : k < 1
  · have HO : Hid (psO p d k = noP 2) := Lib.hid (psO_no (by unfold psB; rw [decide_eq_false (show ¬ 1 ≤ k by omega)]; simp))
    clear hp hd
    obtain ⟨⟨r0, r1, r2⟩, z0, z1, z2⟩ := poly3 rr
    obtain ⟨a0, a1, a2, a3, a4⟩ := fill_box (w := w) rr (ownP_nil W w.heap.size) (Nat.le_refl _) hbW (by omega) 0 0
    have A0 := Lib.hid a0
    have A1 := Lib.hid a1
    have A2 := Lib.hid a2
    have A3 := Lib.hid a3
    have A4 := Lib.hid a4
    clear a0 a1 a2 a3 a4
    go_enter Try.func40, Try.ntmps40
    go_wp2_with fail
    rw [← hW]
    clear hW
    ((with_reducible refine (H0.out _).mono ?_); rintro e w0 ⟨rfl, hw0⟩; subst hw0)
    go_wp2_with fail
    ((with_reducible refine (H1.out _).mono ?_); rintro e w1 ⟨rfl, hw1⟩; subst hw1)
    go_wp2_with fail
    exact bodyPost_ret (v := .tuple #[.agg #[.int .i64 0, .int .i64 0, .slice none 0 0], .int .i64 2]) (by simp [results, Try.results40, go_sem, A0.out, A1.out, A2.out]) rfl (by rw [HO.out]; exact ⟨_, rfl, A3.out, A4.out⟩)
  by_cases hk2 : 12 < k
  · have HO : Hid (psO p d k = noP 2) := Lib.hid (psO_no (by unfold psB; rw [decide_eq_false (show ¬ k ≤ 12 by omega)]; simp))
    clear hp hd
    obtain ⟨⟨r0, r1, r2⟩, z0, z1, z2⟩ := poly3 rr
    obtain ⟨a0, a1, a2, a3, a4⟩ := fill_box (w := w) rr (ownP_nil W w.heap.size) (Nat.le_refl _) hbW (by omega) 0 0
    have A0 := Lib.hid a0
    have A1 := Lib.hid a1
    have A2 := Lib.hid a2
    have A3 := Lib.hid a3
    have A4 := Lib.hid a4
    clear a0 a1 a2 a3 a4
    go_enter Try.func40, Try.ntmps40
    go_wp2_with fail
    rw [← hW]
    clear hW
    ((with_reducible refine (H0.out _).mono ?_); rintro e w0 ⟨rfl, hw0⟩; subst hw0)
    go_wp2_with fail
    ((with_reducible refine (H1.out _).mono ?_); rintro e w1 ⟨rfl, hw1⟩; subst hw1)
    go_wp2_with fail
    exact bodyPost_ret (v := .tuple #[.agg #[.int .i64 0, .int .i64 0, .slice none 0 0], .int .i64 2]) (by simp [results, Try.results40, go_sem, A0.out, A1.out, A2.out]) rfl (by rw [HO.out]; exact ⟨_, rfl, A3.out, A4.out⟩)
  have hs : (primeB p && (decide (1 ≤ d) && decide (d ≤ 3))) = true := by rw [hp, hd]; rfl
  have hk : (decide (1 ≤ k) && decide (k ≤ 12)) = true := by simp; omega
  have hdd : 1 ≤ d ∧ d ≤ 3 := by simp only [Bool.and_eq_true, decide_eq_true_eq] at hs; exact hs.2
  have hkk : 1 ≤ k ∧ k ≤ 12 := by simpa using hk
  obtain ⟨hp2, hp13⟩ := prime_bc hp
  have HO := Lib.hid (psO_yes (p := p) (d := d) (k := k) (by unfold psB; rw [hs, hk]; rfl))
  obtain ⟨n, rfl⟩ := Int.eq_ofNat_of_zero_le (show 0 ≤ d by omega)
  obtain ⟨i0, hi, hz0, hz1, hz2⟩ := info_parts einfoI
  have hmk : ∀ w, (Instr.makeSlice 39 (.int .i64 (n : Int)) (.int .i64 (n : Int))).run Try.prog w = .ok (.slice (some ⟨w.heap.size, 0, none⟩) n n) (w.alloc (.cells (nmadeI n) 2)) := fun w => by
    have h := run_make (P := Try.prog) w 39 2 i0 _ Try.underlying39 hi hz0 .i64 .i64 (n : Int) (n : Int) (by omega) (by omega) (by rw [hz2]; omega) (by omega)
    rw [hz1] at h
    simpa [nmadeI, Value.cells] using h
  obtain ⟨V, hV, rV, hbV⟩ : ∃ V, V = W.alloc (.cells (nmadeI n) 2) ∧ V.rowIs W.heap.size 2 n (fun _ => .int .i64 0) ∧ Below W.heap.size W V := ⟨_, rfl, nmadeI_row W n _, ebox1 _ _⟩
  have hVc := rV.cell (i := 0) (by omega)
  have hVf := rV.frozen 0
  have rV2 := rV.set 0 (.int .i64 k)
  have hbV2 := hbV.setCell (p := ⟨W.heap.size, 0, none⟩) (Nat.le_refl _) (.int .i64 k)
  obtain ⟨V2, hV2⟩ : ∃ V2, V.setCell ⟨W.heap.size, 0, none⟩ (.int .i64 k) = V2 := ⟨_, rfl⟩
  rw [hV2] at rV2 hbV2
  have hSl := psL_sl (k := k) (by omega) rV2 (fun q => by by_cases e : q = 0 <;> simp [e])
  have hln := psL_len (d := n) (by omega) k
  have HC := Lib.hid (imsumS p _ (psL n k) V2 (by omega) hp2 (psL_in hkk) (by rw [psL_sum]; exact hkk.2) hSl)
  rw [hln] at HC
  have rr2 := rowIs_below rr hbV2 rr.lt
  have hw2 := hbW.trans (hbV2.mono hbW.size)
  have hn0 : 0 < n := by omega
  have hn0i : (0 : Int) < (n : Int) := by omega
  clear hi hz0 hz1 hz2 hs hk hp hd rr rV rV2 hbV hbV2 hln hSl hbW
  go_enter Try.func40, Try.ntmps40
  go_wp2_with fail
  rw [← hW]
  clear hW
  ((with_reducible refine (H0.out _).mono ?_); rintro e w0 ⟨rfl, hw0⟩; subst hw0)
  go_wp2_with fail
  ((with_reducible refine (H1.out _).mono ?_); rintro e w1 ⟨rfl, hw1⟩; subst hw1)
  go_upto_region 4 with fail
  rw [← hV]
  clear hV hmk
  go_upto_region 5 with fail
  clear hV2 hVc hVf
  go_wp2_with fail
  ((with_reducible refine HC.out.mono ?_); rintro e w5 ⟨v5, rfl, ho5, hb5⟩)
  obtain ⟨sa, sc, rfl⟩ := owns_slice ho5
  obtain ⟨S, hS⟩ : ∃ S, msS p (psL n k) = S := ⟨_, rfl⟩
  rw [hS] at ho5 HO
  simp only [hS]
  have rr5 := rowIs_below rr2 hb5 rr2.lt
  obtain ⟨⟨r0, r1, r2⟩, z0, z1, z2⟩ := poly3 rr5
  obtain ⟨a0, a1, a2, a3, a4⟩ := fill_box rr5 ho5 hw2.size (hw2.trans (hb5.mono hw2.size)) (Nat.le_refl _) p n
  have A0 := Lib.hid a0
  have A1 := Lib.hid a1
  have A2 := Lib.hid a2
  have A3 := Lib.hid a3
  have A4 := Lib.hid a4
  clear a0 a1 a2 a3 a4 ho5 rr5 rr2 hb5 HC hS hw2
  go_wp2_with fail
  exact bodyPost_ret (v := .tuple #[.agg #[.int .i64 p, .int .i64 n, .slice sa S.length sc], .int .i64 0]) (by simp [results, Try.results40, go_sem, A0.out, A1.out, A2.out]) rfl (by rw [HO.out]; exact ⟨_, rfl, A3.out, A4.out⟩)
end Go.Proofs.Ytggogmbhlfddlaa
namespace Go.Proofs.Ytggogmbhlfddlaa
open Go.RowKit Go.Sort Go.Maps

/-- k ones and zeros behind them. -/
def elL (d k : Nat) : List Int := (List.range d).map fun i => if i < k then 1 else 0
def elF (k : Nat) (q : Nat) : Value := .int .i64 (if q < k then 1 else 0)
theorem elL_len (d k : Nat) : (elL d k).length = d := by simp [elL]
theorem elL_in (d k : Nat) : ∀ e ∈ elL d k, 0 ≤ e ∧ e ≤ 255 := fun e he => by
  simp only [elL, List.mem_map] at he
  obtain ⟨i, _, rfl⟩ := he
  split <;> omega
theorem elL_sum {d k : Nat} (hd : 1 ≤ d ∧ d ≤ 3) (hk : k ≤ d) : (elL d k).sum ≤ 12 := by
  have h1 : d = 1 ∨ d = 2 ∨ d = 3 := by omega
  have h2 : k = 0 ∨ k = 1 ∨ k = 2 ∨ k = 3 := by omega
  rcases h1 with rfl | rfl | rfl <;> rcases h2 with rfl | rfl | rfl | rfl <;> decide
theorem elF_put (k q : Nat) : (if q = k then Value.int .i64 1 else elF k q) = elF (k + 1) q := by
  unfold elF
  by_cases e : q = k
  · subst e; rw [if_pos rfl, if_pos (by omega)]
  · rw [if_neg e]
    by_cases h : q < k
    · rw [if_pos h, if_pos (by omega)]
    · rw [if_neg h, if_neg (by omega)]
theorem elF_sl {w : World} {g d k : Nat} {t : TypeId} (h : w.rowIs g t d (elF k)) : Sl w (.slice (some ⟨g, 0, none⟩) d d) (elL d k) := by
  refine ⟨_, d, by rw [elL_len], .inr ⟨g, 0, rfl, h.lt, fun j hj => ?_⟩⟩
  have hj' : j < d := by rw [elL_len] at hj; exact hj
  rw [Nat.zero_add, h.cell hj']
  simp [elF, elL]

set_option maxRecDepth 8000 in
set_option maxHeartbeats 8000000 in
theorem sel (p : Int) (d k : Nat) (w : World) (hd : 1 ≤ d ∧ d ≤ 3) (hk : k ≤ d) (hp2 : 2 ≤ p) (hp13 : p ≤ 13) :
    Calls Try.prog 76 #[.int .i64 p, .int .i64 d, .int .i64 k] w fun e w' => ∃ v', e = .returned (.agg #[.int .i64 p, .int .i64 d, v']) ∧ OwnP w' w.heap.size v' (msS p (elL d k)) ∧ Below w.heap.size w w' := by
  obtain ⟨W, hW, hbW, ⟨hWs1, hWs2⟩, rr⟩ := newbox w 0 0 (.slice none 0 0)
  obtain ⟨i0, hi, hz0, hz1, hz2⟩ := info_parts einfoI
  have hmk : ∀ w, (Instr.makeSlice 39 (.int .i64 (d : Int)) (.int .i64 (d : Int))).run Try.prog w = .ok (.slice (some ⟨w.heap.size, 0, none⟩) d d) (w.alloc (.cells (nmadeI d) 2)) := fun w => by
    have h := run_make (P := Try.prog) w 39 2 i0 _ Try.underlying39 hi hz0 .i64 .i64 (d : Int) (d : Int) (by omega) (by omega) (by rw [hz2]; omega) (by omega)
    rw [hz1] at h
    simpa [nmadeI, Value.cells] using h
  clear hi hz0 hz1 hz2
  obtain ⟨V, hV, rV, hbV⟩ : ∃ V, V = W.alloc (.cells (nmadeI d) 2) ∧ V.rowIs W.heap.size 2 d (elF 0) ∧ Below W.heap.size W V := ⟨_, rfl, (nmadeI_row W d _).congr (fun q _ => by simp [elF]), ebox1 _ _⟩
  go_enter Try.func76, Try.ntmps76
  go_upto_region 1 with fail
  rw [← hW]
  clear hW
  go_upto_region 2 with fail
  rw [← hV]
  clear hV hmk
  go_wp2_with fail
  go_loopg [8] k (fun g c wq => ∃ i : Nat, i + g = k ∧ c = .int .i64 i ∧ wq.rowIs W.heap.size 2 d (elF i) ∧ Below W.heap.size W wq)
  case atStart => exact ⟨0, by omega, rfl, rV, hbV⟩
  case round =>
    clear rV hbV
    obtain ⟨i, hi, rfl, hR, hb⟩ := hrel
    by_cases hlt : i < k
    · have hlt' : (i : Int) < (k : Int) := by omega
      have hid : i < d := by omega
      have hid' : (i : Int) < (d : Int) := by omega
      obtain ⟨g2, hg2⟩ : ∃ g2, i + 1 + g2 = k := ⟨k - (i + 1), by omega⟩
      have HG := Lib.hid (And.intro hg2 (show g2 < gk by omega))
      have hc := hR.cell (i := i) hid
      have hf := hR.frozen i
      have hR2 := (hR.set i (.int .i64 1)).congr (g := elF (i + 1)) (fun q _ => elF_put i q)
      have hb2 := hb.setCell (p := ⟨W.heap.size, i, none⟩) (Nat.le_refl _) (.int .i64 1)
      have HR := Lib.hid (And.intro hR2 hb2)
      clear hR hb hR2 hb2 hi hg2
      go_wp2_with fail
      go_roundg g2
      case measure => exact HG.out.2
      case rel => exact ⟨i + 1, HG.out.1, by go_num, HR.out.1, HR.out.2⟩
    · obtain rfl : i = k := by omega
      have hln := elL_len d i
      have hSl := elF_sl (k := i) hR
      have HC := Lib.hid (ssumS p _ (elL d i) wr (by omega) hp2 hp13 (elL_in d i) (elL_sum hd hk) hSl)
      rw [hln] at HC
      have rr2 := rowIs_below rr hb rr.lt
      have hw2 := hbW.trans (hb.mono hbW.size)
      clear hR hb hSl hln hi rr
      go_wp2_with fail
      ((with_reducible refine HC.out.mono ?_); rintro e w5 ⟨v5, rfl, ho5, hb5⟩)
      obtain ⟨sa, sc, rfl⟩ := owns_slice ho5
      obtain ⟨S, hS⟩ : ∃ S, msS p (elL d i) = S := ⟨_, rfl⟩
      rw [hS] at ho5
      simp only [hS]
      have HS := Lib.hid hS
      have rr5 := rowIs_below rr2 hb5 rr2.lt
      obtain ⟨⟨r0, r1, r2⟩, z0, z1, z2⟩ := poly3 rr5
      obtain ⟨a0, a1, a2, a3, a4⟩ := fill_box rr5 ho5 hw2.size (hw2.trans (hb5.mono hw2.size)) (Nat.le_refl _) p d
      have A0 := Lib.hid a0
      have A1 := Lib.hid a1
      have A2 := Lib.hid a2
      have A3 := Lib.hid a3
      have A4 := Lib.hid a4
      clear a0 a1 a2 a3 a4 ho5 rr5 rr2 hb5 HC hS hw2
      go_wp2_with fail
      exact bodyPost_ret (v := .agg #[.int .i64 p, .int .i64 d, .slice sa S.length sc]) (by simp [results, Try.results76, go_sem, A0.out, A1.out, A2.out]) rfl ⟨_, rfl, by rw [HS.out]; exact A3.out, A4.out⟩

set_option maxRecDepth 8000 in
set_option maxHeartbeats 8000000 in
theorem iel (p : Int) (d k : Nat) (w : World) (hd : 1 ≤ d ∧ d ≤ 3) (hk : k ≤ d) (hp2 : 2 ≤ p) (_ : p ≤ 13) :
    Calls Try.prog 77 #[.int .i64 p, .int .i64 d, .int .i64 k] w fun e w' => ∃ v', e = .returned (.agg #[.int .i64 p, .int .i64 d, v']) ∧ OwnP w' w.heap.size v' (msS p (elL d k)) ∧ Below w.heap.size w w' := by
  obtain ⟨W, hW, hbW, ⟨hWs1, hWs2⟩, rr⟩ := newbox w 0 0 (.slice none 0 0)
  obtain ⟨i0, hi, hz0, hz1, hz2⟩ := info_parts einfoI
  have hmk : ∀ w, (Instr.makeSlice 39 (.int .i64 (d : Int)) (.int .i64 (d : Int))).run Try.prog w = .ok (.slice (some ⟨w.heap.size, 0, none⟩) d d) (w.alloc (.cells (nmadeI d) 2)) := fun w => by
    have h := run_make (P := Try.prog) w 39 2 i0 _ Try.underlying39 hi hz0 .i64 .i64 (d : Int) (d : Int) (by omega) (by omega) (by rw [hz2]; omega) (by omega)
    rw [hz1] at h
    simpa [nmadeI, Value.cells] using h
  clear hi hz0 hz1 hz2
  obtain ⟨V, hV, rV, hbV⟩ : ∃ V, V = W.alloc (.cells (nmadeI d) 2) ∧ V.rowIs W.heap.size 2 d (elF 0) ∧ Below W.heap.size W V := ⟨_, rfl, (nmadeI_row W d _).congr (fun q _ => by simp [elF]), ebox1 _ _⟩
  go_enter Try.func77, Try.ntmps77
  go_upto_region 1 with fail
  rw [← hW]
  clear hW
  go_upto_region 2 with fail
  rw [← hV]
  clear hV hmk
  go_wp2_with fail
  go_loopg [12] k (fun g c wq => ∃ i : Nat, i + g = k ∧ c = .int .i64 i ∧ wq.rowIs W.heap.size 2 d (elF i) ∧ Below W.heap.size W wq)
  case atStart => exact ⟨0, by omega, rfl, rV, hbV⟩
  case round =>
    clear rV hbV
    obtain ⟨i, hi, rfl, hR, hb⟩ := hrel
    by_cases hlt : i < k
    · have hlt' : (i : Int) < (k : Int) := by omega
      have hid : i < d := by omega
      have hid' : (i : Int) < (d : Int) := by omega
      obtain ⟨g2, hg2⟩ : ∃ g2, i + 1 + g2 = k := ⟨k - (i + 1), by omega⟩
      have HG := Lib.hid (And.intro hg2 (show g2 < gk by omega))
      have hc := hR.cell (i := i) hid
      have hf := hR.frozen i
      have hR2 := (hR.set i (.int .i64 1)).congr (g := elF (i + 1)) (fun q _ => elF_put i q)
      have hb2 := hb.setCell (p := ⟨W.heap.size, i, none⟩) (Nat.le_refl _) (.int .i64 1)
      have HR := Lib.hid (And.intro hR2 hb2)
      clear hR hb hR2 hb2 hi hg2
      go_wp2_with fail
      go_roundg g2
      case measure => exact HG.out.2
      case rel => exact ⟨i + 1, HG.out.1, by go_num, HR.out.1, HR.out.2⟩
    · obtain rfl : i = k := by omega
      have hln := elL_len d i
      have hSl := elF_sl (k := i) hR
      have HC := Lib.hid (imsumS p _ (elL d i) wr (by omega) hp2 (elL_in d i) (elL_sum hd hk) hSl)
      rw [hln] at HC
      have rr2 := rowIs_below rr hb rr.lt
      have hw2 := hbW.trans (hb.mono hbW.size)
      clear hR hb hSl hln hi rr
      go_wp2_with fail
      ((with_reducible refine HC.out.mono ?_); rintro e w5 ⟨v5, rfl, ho5, hb5⟩)
      obtain ⟨sa, sc, rfl⟩ := owns_slice ho5
      obtain ⟨S, hS⟩ : ∃ S, msS p (elL d i) = S := ⟨_, rfl⟩
      rw [hS] at ho5
      simp only [hS]
      have HS := Lib.hid hS
      have rr5 := rowIs_below rr2 hb5 rr2.lt
      obtain ⟨⟨r0, r1, r2⟩, z0, z1, z2⟩ := poly3 rr5
      obtain ⟨a0, a1, a2, a3, a4⟩ := fill_box rr5 ho5 hw2.size (hw2.trans (hb5.mono hw2.size)) (Nat.le_refl _) p d
      have A0 := Lib.hid a0
      have A1 := Lib.hid a1
      have A2 := Lib.hid a2
      have A3 := Lib.hid a3
      have A4 := Lib.hid a4
      clear a0 a1 a2 a3 a4 ho5 rr5 rr2 hb5 HC hS hw2
      go_wp2_with fail
      exact bodyPost_ret (v := .agg #[.int .i64 p, .int .i64 d, .slice sa S.length sc]) (by simp [results, Try.results77, go_sem, A0.out, A1.out, A2.out]) rfl ⟨_, rfl, by rw [HS.out]; exact A3.out, A4.out⟩
end Go.Proofs.Ytggogmbhlfddlaa
namespace Go.Proofs.Ytggogmbhlfddlaa
open Go.RowKit Go.Sort Go.Maps

def elB (p d k : Int) : Bool := (primeB p && (decide (1 ≤ d) && decide (d ≤ 3))) && (decide (0 ≤ k) && decide (k ≤ d))
noncomputable def elO (p d k : Int) : OutP := if elB p d k then ⟨p, d, msS p (elL d.toNat k.toNat), 0⟩ else noP 2
theorem elO_len (p d k : Int) : (elO p d k).S.length ≤ 2197 := by
  unfold elO
  split
  · exact isS_len _ _
  · simp [noP]
theorem elO_no {p d k : Int} (h : elB p d k = false) : elO p d k = noP 2 := by unfold elO; rw [if_neg (by simp [h])]
theorem elO_yes {p d k : Int} (h : elB p d k = true) : elO p d k = ⟨p, d, msS p (elL d.toNat k.toNat), 0⟩ := by unfold elO; rw [if_pos h]

set_option maxRecDepth 8000 in
set_option maxHeartbeats 8000000 in
theorem sepo (p d k : Int) (w : World) :
    Calls Try.prog 35 #[.int .i64 p, .int .i64 d, .int .i64 k] w (ResO w (elO p d k)) := by
  obtain ⟨W, hW, hbW, ⟨hWs1, hWs2⟩, rr⟩ := newbox w 0 0 (.slice none 0 0)
  cases hs : (primeB p && (decide (1 ≤ d) && decide (d ≤ 3)))
  · have HO : Hid (elO p d k = noP 2) := Lib.hid (elO_no (by unfold elB; rw [hs]; rfl))
    have H0 := Lib.hid (fun w' => sshape p d false hs w')
    clear hs
    obtain ⟨⟨r0, r1, r2⟩, z0, z1, z2⟩ := poly3 rr
    obtain ⟨a0, a1, a2, a3, a4⟩ := fill_box (w := w) rr (ownP_nil W w.heap.size) (Nat.le_refl _) hbW (by omega) 0 0
    have A0 := Lib.hid a0
    have A1 := Lib.hid a1
    have A2 := Lib.hid a2
    have A3 := Lib.hid a3
    have A4 := Lib.hid a4
    clear a0 a1 a2 a3 a4
    go_enter Try.func35, Try.ntmps35
    go_wp2_with fail
    rw [← hW]
    clear hW
    ((with_reducible refine (H0.out _).mono ?_); rintro e w0 ⟨rfl, rfl⟩)
    go_wp2_with fail
    exact bodyPost_ret (v := .tuple #[.agg #[.int .i64 0, .int .i64 0, .slice none 0 0], .int .i64 2]) (by simp [results, Try.results35, go_sem, A0.out, A1.out, A2.out]) rfl (by rw [HO.out]; exact ⟨_, rfl, A3.out, A4.out⟩)
  have H0 := Lib.hid (fun w' => sshape p d true hs w')
  cases hk : (decide (0 ≤ k) && decide (k ≤ d))
  · have HO : Hid (elO p d k = noP 2) := Lib.hid (elO_no (by unfold elB; rw [hk]; simp))
    have H1 := Lib.hid (fun w' => rin_is k 0 d w' false hk)
    clear hs hk
    obtain ⟨⟨r0, r1, r2⟩, z0, z1, z2⟩ := poly3 rr
    obtain ⟨a0, a1, a2, a3, a4⟩ := fill_box (w := w) rr (ownP_nil W w.heap.size) (Nat.le_refl _) hbW (by omega) 0 0
    have A0 := Lib.hid a0
    have A1 := Lib.hid a1
    have A2 := Lib.hid a2
    have A3 := Lib.hid a3
    have A4 := Lib.hid a4
    clear a0 a1 a2 a3 a4
    go_enter Try.func35, Try.ntmps35
    go_wp2_with fail
    rw [← hW]
    clear hW
    ((with_reducible refine (H0.out _).mono ?_); rintro e w0 ⟨rfl, rfl⟩)
    go_wp2_with fail
    ((with_reducible refine (H1.out _).mono ?_); rintro e w1 ⟨rfl, rfl⟩)
    go_wp2_with fail
    exact bodyPost_ret (v := .tuple #[.agg #[.int .i64 0, .int .i64 0, .slice none 0 0], .int .i64 2]) (by simp [results, Try.results35, go_sem, A0.out, A1.out, A2.out]) rfl (by rw [HO.out]; exact ⟨_, rfl, A3.out, A4.out⟩)
  have H1 := Lib.hid (fun w' => rin_is k 0 d w' true hk)
  have hp : primeB p = true := by simp only [Bool.and_eq_true] at hs; exact hs.1
  have hdd : 1 ≤ d ∧ d ≤ 3 := by simp only [Bool.and_eq_true, decide_eq_true_eq] at hs; exact hs.2
  have hkk : 0 ≤ k ∧ k ≤ d := by simpa using hk
  obtain ⟨hp2, hp13⟩ := prime_bc hp
  have HO := Lib.hid (elO_yes (p := p) (d := d) (k := k) (by unfold elB; rw [hs, hk]; rfl))
  obtain ⟨n, rfl⟩ := Int.eq_ofNat_of_zero_le (show 0 ≤ d by omega)
  obtain ⟨q, rfl⟩ := Int.eq_ofNat_of_zero_le (show 0 ≤ k by omega)
  have HC := Lib.hid (sel p n q W (by omega) (by omega) hp2 hp13)
  obtain ⟨S, hS⟩ : ∃ S, msS p (elL n q) = S := ⟨_, rfl⟩
  have hqn : (q : Int) ≤ (n : Int) := hkk.2
  have hq0 : ¬ ((n : Int) < (q : Int)) := by omega
  have hq1 : ¬ ((q : Int) < 0) := by omega
  simp only [Int.toNat_natCast] at HO
  rw [hS] at HC HO
  clear hs hk hS hp
  go_enter Try.func35, Try.ntmps35
  go_wp2_with fail
  rw [← hW]
  clear hW
  ((with_reducible refine (H0.out _).mono ?_); rintro e w0 ⟨rfl, rfl⟩)
  go_wp2_with fail
  ((with_reducible refine (H1.out _).mono ?_); rintro e w0 ⟨rfl, rfl⟩)
  go_wp2_with fail
  ((with_reducible refine HC.out.mono ?_); rintro e w5 ⟨v5, rfl, ho5, hb5⟩)
  obtain ⟨sa, sc, rfl⟩ := owns_slice ho5
  have rr5 := rowIs_below rr hb5 rr.lt
  obtain ⟨⟨r0, r1, r2⟩, z0, z1, z2⟩ := poly3 rr5
  obtain ⟨a0, a1, a2, a3, a4⟩ := fill_box rr5 ho5 hbW.size (hbW.trans (hb5.mono hbW.size)) (Nat.le_refl _) p n
  have A0 := Lib.hid a0
  have A1 := Lib.hid a1
  have A2 := Lib.hid a2
  have A3 := Lib.hid a3
  have A4 := Lib.hid a4
  clear a0 a1 a2 a3 a4 ho5 rr5 rr hb5 HC hbW
  go_wp2_with fail
  exact bodyPost_ret (v := .tuple #[.agg #[.int .i64 p, .int .i64 n, .slice sa S.length sc], .int .i64 0]) (by simp [results, Try.results35, go_sem, A0.out, A1.out, A2.out]) rfl (by rw [HO.out]; exact ⟨_, rfl, A3.out, A4.out⟩)

set_option maxRecDepth 8000 in
set_option maxHeartbeats 8000000 in
theorem iepo (p d k : Int) (w : World) :
    Calls Try.prog 36 #[.int .i64 p, .int .i64 d, .int .i64 k] w (ResO w (elO p d k)) := by
  obtain ⟨W, hW, hbW, ⟨hWs1, hWs2⟩, rr⟩ := newbox w 0 0 (.slice none 0 0)
  cases hp : primeB p
  · have HO : Hid (elO p d k = noP 2) := Lib.hid (elO_no (by simp [elB, hp]))
    have H0 := Lib.hid (fun w' => iprime_isc p false hp w')
    clear hp
    obtain ⟨⟨r0, r1, r2⟩, z0, z1, z2⟩ := poly3 rr
    obtain ⟨a0, a1, a2, a3, a4⟩ := fill_box (w := w) rr (ownP_nil W w.heap.size) (Nat.le_refl _) hbW (by omega) 0 0
    have A0 := Lib.hid a0
    have A1 := Lib.hid a1
    have A2 := Lib.hid a2
    have A3 := Lib.hid a3
    have A4 := Lib.hid a4
    clear a0 a1 a2 a3 a4
    go_enter Try.func36, Try.ntmps36
    go_wp2_with fail
    rw [← hW]
    clear hW
    ((with_reducible refine (H0.out _).mono ?_); rintro e w0 ⟨rfl, hw0⟩; subst hw0)
    go_wp2_with fail
    exact bodyPost_ret (v := .tuple #[.agg #[.int .i64 0, .int .i64 0, .slice none 0 0], .int .i64 2]) (by simp [results, Try.results36, go_sem, A0.out, A1.out, A2.out]) rfl (by rw [HO.out]; exact ⟨_, rfl, A3.out, A4.out⟩)
  have H0 := Lib.hid (fun w' => iprime_isc p true hp w')
  cases hd : (decide (1 ≤ d) && decide (d ≤ 3))
  · have HO : Hid (elO p d k = noP 2) := Lib.hid (elO_no (by unfold elB; rw [hd]; simp))
    have H1 := Lib.hid (fun w' => vars_isc d false hd w')
    clear hp hd
    obtain ⟨⟨r0, r1, r2⟩, z0, z1, z2⟩ := poly3 rr
    obtain ⟨a0, a1, a2, a3, a4⟩ := fill_box (w := w) rr (ownP_nil W w.heap.size) (Nat.le_refl _) hbW (by omega) 0 0
    have A0 := Lib.hid a0
    have A1 := Lib.hid a1
    have A2 := Lib.hid a2
    have A3 := Lib.hid a3
    have A4 := Lib.hid a4
    clear a0 a1 a2 a3 a4
    go_enter Try.func36, Try.ntmps36
    go_wp2_with fail
    rw [← hW]
    clear hW
    ((with_reducible refine (H0.out _).mono ?_); rintro e w0 ⟨rfl, hw0⟩; subst hw0)
    go_wp2_with fail
    ((with_reducible refine (H1.out _).mono ?_); rintro e w1 ⟨rfl, hw1⟩; subst hw1)
    go_wp2_with fail
    exact bodyPost_ret (v := .tuple #[.agg #[.int .i64 0, .int .i64 0, .slice none 0 0], .int .i64 2]) (by simp [results, Try.results36, go_sem, A0.out, A1.out, A2.out]) rfl (by rw [HO.out]; exact ⟨_, rfl, A3.out, A4.out⟩)
  have H1 := Lib.hid (fun w' => vars_isc d true hd w')
  by_cases hk1 : k < 0
  · have HO : Hid (elO p d k = noP 2) := Lib.hid (elO_no (by unfold elB; rw [decide_eq_false (show ¬ 0 ≤ k by omega)]; simp))
    clear hp hd
    obtain ⟨⟨r0, r1, r2⟩, z0, z1, z2⟩ := poly3 rr
    obtain ⟨a0, a1, a2, a3, a4⟩ := fill_box (w := w) rr (ownP_nil W w.heap.size) (Nat.le_refl _) hbW (by omega) 0 0
    have A0 := Lib.hid a0
    have A1 := Lib.hid a1
    have A2 := Lib.hid a2
    have A3 := Lib.hid a3
    have A4 := Lib.hid a4
    clear a0 a1 a2 a3 a4
    go_enter Try.func36, Try.ntmps36
    go_wp2_with fail
    rw [← hW]
    clear hW
    ((with_reducible refine (H0.out _).mono ?_); rintro e w0 ⟨rfl, hw0⟩; subst hw0)
    go_wp2_with fail
    ((with_reducible refine (H1.out _).mono ?_); rintro e w1 ⟨rfl, hw1⟩; subst hw1)
    go_wp2_with fail
    exact bodyPost_ret (v := .tuple #[.agg #[.int .i64 0, .int .i64 0, .slice none 0 0], .int .i64 2]) (by simp [results, Try.results36, go_sem, A0.out, A1.out, A2.out]) rfl (by rw [HO.out]; exact ⟨_, rfl, A3.out, A4.out⟩)
  by_cases hk2 : d < k
  · have HO : Hid (elO p d k = noP 2) := Lib.hid (elO_no (by unfold elB; rw [decide_eq_false (show ¬ k ≤ d by omega)]; simp))
    clear hp hd
    obtain ⟨⟨r0, r1, r2⟩, z0, z1, z2⟩ := poly3 rr
    obtain ⟨a0, a1, a2, a3, a4⟩ := fill_box (w := w) rr (ownP_nil W w.heap.size) (Nat.le_refl _) hbW (by omega) 0 0
    have A0 := Lib.hid a0
    have A1 := Lib.hid a1
    have A2 := Lib.hid a2
    have A3 := Lib.hid a3
    have A4 := Lib.hid a4
    clear a0 a1 a2 a3 a4
    go_enter Try.func36, Try.ntmps36
    go_wp2_with fail
    rw [← hW]
    clear hW
    ((with_reducible refine (H0.out _).mono ?_); rintro e w0 ⟨rfl, hw0⟩; subst hw0)
    go_wp2_with fail
    ((with_reducible refine (H1.out _).mono ?_); rintro e w1 ⟨rfl, hw1⟩; subst hw1)
    go_wp2_with fail
    exact bodyPost_ret (v := .tuple #[.agg #[.int .i64 0, .int .i64 0, .slice none 0 0], .int .i64 2]) (by simp [results, Try.results36, go_sem, A0.out, A1.out, A2.out]) rfl (by rw [HO.out]; exact ⟨_, rfl, A3.out, A4.out⟩)
  have hs : (primeB p && (decide (1 ≤ d) && decide (d ≤ 3))) = true := by rw [hp, hd]; rfl
  have hk : (decide (0 ≤ k) && decide (k ≤ d)) = true := by simp; omega
  have hdd : 1 ≤ d ∧ d ≤ 3 := by simp only [Bool.and_eq_true, decide_eq_true_eq] at hs; exact hs.2
  have hkk : 0 ≤ k ∧ k ≤ d := by simpa using hk
  obtain ⟨hp2, hp13⟩ := prime_bc hp
  have HO := Lib.hid (elO_yes (p := p) (d := d) (k := k) (by unfold elB; rw [hs, hk]; rfl))
  obtain ⟨n, rfl⟩ := Int.eq_ofNat_of_zero_le (show 0 ≤ d by omega)
  obtain ⟨q, rfl⟩ := Int.eq_ofNat_of_zero_le (show 0 ≤ k by omega)
  have HC := Lib.hid (iel p n q W (by omega) (by omega) hp2 hp13)
  obtain ⟨S, hS⟩ : ∃ S, msS p (elL n q) = S := ⟨_, rfl⟩
  have hqn : (q : Int) ≤ (n : Int) := hkk.2
  have hq0 : ¬ ((n : Int) < (q : Int)) := by omega
  have hq1 : ¬ ((q : Int) < 0) := by omega
  simp only [Int.toNat_natCast] at HO
  rw [hS] at HC HO
  clear hs hk hS hp hd
  go_enter Try.func36, Try.ntmps36
  go_wp2_with fail
  rw [← hW]
  clear hW
  ((with_reducible refine (H0.out _).mono ?_); rintro e w0 ⟨rfl, hw0⟩; subst hw0)
  go_wp2_with fail
  ((with_reducible refine (H1.out _).mono ?_); rintro e w1 ⟨rfl, hw1⟩; subst hw1)
  go_wp2_with fail
  ((with_reducible refine HC.out.mono ?_); rintro e w5 ⟨v5, rfl, ho5, hb5⟩)
  obtain ⟨sa, sc, rfl⟩ := owns_slice ho5
  have rr5 := rowIs_below rr hb5 rr.lt
  obtain ⟨⟨r0, r1, r2⟩, z0, z1, z2⟩ := poly3 rr5
  obtain ⟨a0, a1, a2, a3, a4⟩ := fill_box rr5 ho5 hbW.size (hbW.trans (hb5.mono hbW.size)) (Nat.le_refl _) p n
  have A0 := Lib.hid a0
  have A1 := Lib.hid a1
  have A2 := Lib.hid a2
  have A3 := Lib.hid a3
  have A4 := Lib.hid a4
  clear a0 a1 a2 a3 a4 ho5 rr5 rr hb5 HC hbW
  go_wp2_with fail
  exact bodyPost_ret (v := .tuple #[.agg #[.int .i64 p, .int .i64 n, .slice sa S.length sc], .int .i64 0]) (by simp [results, Try.results36, go_sem, A0.out, A1.out, A2.out]) rfl (by rw [HO.out]; exact ⟨_, rfl, A3.out, A4.out⟩)
end Go.Proofs.Ytggogmbhlfddlaa
namespace Go.Proofs.Ytggogmbhlfddlaa
open Go.RowKit Go.Sort Go.Maps

set_option maxRecDepth 8000 in
set_option maxHeartbeats 16000000 in
theorem law_Epo (p d k : Int) (w : World) :
    Calls Try.prog 7 #[.int .i64 p, .int .i64 d, .int .i64 k] w fun e w' => e = .returned (.bool true) ∧ Below w.heap.size w w' := by
  obtain ⟨o, ho⟩ : ∃ o, elO p d k = o := ⟨_, rfl⟩
  have hso : o.S.length ≤ 1048576 := by rw [← ho]; exact Nat.le_trans (elO_len p d k) (by decide)
  have HSP := Lib.hid (fun w' => sepo p d k w')
  have HIM := Lib.hid (fun w' => iepo p d k w')
  rw [ho] at HSP HIM
  clear ho
  obtain ⟨P, D, S, c⟩ := o
  simp only at hso
  go_enter Try.func7, Try.ntmps7
  go_wp2_with fail
  ((with_reducible refine (HSP.out _).mono ?_); rintro e w3 ⟨sv3, rfl, hp3, hbs⟩)
  simp only at hp3
  have ho3 := OwnP.slice hp3
  obtain ⟨a3, c3, rfl, _⟩ := id ho3
  obtain ⟨V3, hV3, hbV3, ⟨hV3s1, hV3s2⟩, rb0⟩ := newbox w3 P D (.slice a3 S.length c3)
  have K3 := hbs.trans (hbV3.mono hbs.size)
  have sm3 := (ho3.below hbV3).bound
  clear ho3 hp3 hbs hbV3
  go_upto_region 2 with fail
  rw [← hV3]
  clear hV3
  obtain ⟨N0, hN0⟩ : ∃ N0, V3.heap.size = N0 := ⟨_, rfl⟩
  have hB0lt : w3.heap.size < N0 := by have := rb0.lt; omega
  have hwN : w.heap.size ≤ N0 := by have := K3.size; omega
  go_wp2_with fail
  ((with_reducible refine (HIM.out _).mono ?_); rintro e wk ⟨sv5, rfl, ho5, hbk⟩)
  simp only at ho5
  obtain ⟨a5, c5, rfl⟩ := owns_slice ho5
  have sk := hbk.size
  obtain ⟨V6, hV6, hbV6, ⟨hV6s1, hV6s2⟩, rb2⟩ := newbox wk P D (.slice a5 S.length c5)
  have hbx := hbk.trans (hbV6.mono sk)
  have hg6 : OwnP V6 V3.heap.size (.slice a5 S.length c5) S := owns_belowT ho5 hbV6
  have st : LawR w V6 w3.heap.size wk.heap.size N0 P D (.slice a3 S.length c3) (.slice a5 S.length c5) S :=
    ⟨rowIs_below rb0 hbx rb0.lt, rb2, by rw [← hN0]; exact sm3.kept (below_grown hbx) (Nat.le_refl _) (fun g e => by simp at e), K3.trans (hbx.mono K3.size), hwN, by have := hbx.size; omega⟩
  have hcc : (c != c) = false := by simp
  have hB2 : V3.heap.size ≤ wk.heap.size := sk
  clear rb0 rb2 sm3 ho5 hbk hbV6 hbx K3 HSP
  go_upto_region 3 with fail
  rw [← hV6]
  clear hV6
  obtain ⟨⟨q0, q1, q2⟩, _⟩ := poly3 st.b2
  obtain ⟨⟨k0, k1, k2⟩, _⟩ := poly3 st.b0
  go_wp2_with fail
  ((with_reducible refine (eqPoly_same P D _ _ S _ hso (OwnP.slice hg6) (st.sm.slice st.n0.2)).mono ?_); rintro e w14 ⟨rfl, hb14⟩)
  have st14 := st.on hb14
  have hg14 : OwnP w14 V3.heap.size (.slice a5 S.length c5) S := owns_belowT hg6 hb14
  clear q0 q1 q2 k0 k1 k2 st hg6 hb14
  obtain ⟨⟨q0, q1, q2⟩, _⟩ := poly3 st14.b2
  go_wp2_with fail
  ((with_reducible refine (markPoly_own P D 1 _ (OwnG.of_owns hg14) hso (by decide) (by decide)).mono ?_); rintro e w15 ⟨rfl, hM15, hgr15⟩)
  have st15 := st14.step hgr15 (fun g e => by obtain ⟨h1, h2⟩ := (OwnG.of_owns hg14).row g e; exact ⟨by omega, h2⟩)
  clear q0 q1 q2 st14 hg14 hgr15
  obtain ⟨⟨q0, q1, q2⟩, _⟩ := poly3 st15.b2
  go_wp2_with fail
  ((with_reducible refine (heldPoly_marks P D 1 _ hM15 hso (by decide) (by decide)).mono ?_); rintro e w16 ⟨rfl, hb16⟩)
  have st16 := st15.on hb16
  have hM16 := hM15.below hb16
  clear q0 q1 q2 st15 hM15 hb16
  have hq2 : ¬ (1 : Int) + 4 * (S.length : Int) < 0 := by omega
  have hq3 : ((1 : Int) + 4 * (S.length : Int) != 1 + 4 * (S.length : Int)) = false := by simp
  go_wp2_with fail
  ((with_reducible refine (HIM.out _).mono ?_); rintro e w19 ⟨sv19, rfl, ho19, hb19⟩)
  simp only at ho19
  obtain ⟨a19, c19, rfl⟩ := owns_slice ho19
  obtain ⟨V19, hV19, hbV19, ⟨hV19s1, hV19s2⟩, rh⟩ := newbox w19 P D (.slice a19 S.length c19)
  have hbx := hb19.trans (hbV19.mono hb19.size)
  have hS19 := (OwnP.slice ho19).below hbV19
  have st19 := st16.on hbx
  have hM19 := hM16.below hbx
  clear st16 hM16 hbx ho19 hb19 hbV19
  go_upto_region 14 with fail
  rw [← hV19]
  clear hV19
  obtain ⟨⟨q0, q1, q2⟩, _⟩ := poly3 rh
  obtain ⟨⟨k0, k1, k2⟩, _⟩ := poly3 st19.b0
  go_wp2_with fail
  ((with_reducible refine (eqPoly_same P D _ _ S _ hso hS19 (st19.sm.slice st19.n0.2)).mono ?_); rintro e w20 ⟨rfl, hb20⟩)
  have st20 := st19.on hb20
  have hM20 := hM19.below hb20
  clear q0 q1 q2 k0 k1 k2 st19 hM19 hS19 rh hb20
  obtain ⟨⟨q0, q1, q2⟩, _⟩ := poly3 st20.b2
  go_wp2_with fail
  ((with_reducible refine (heldPoly_marks P D 1 _ hM20 hso (by decide) (by decide)).mono ?_); rintro e w21 ⟨rfl, hb21⟩)
  have hend := (st20.on hb21).below
  clear q0 q1 q2 st20 hM20 hb21
  go_wp2
  go_ret
  exact ⟨rfl, hend⟩
end Go.Proofs.Ytggogmbhlfddlaa
