/-
  SORTS of lists of points by their headers: slices.SortFunc with slices.Compare. Conditions: as each theorem states.
-/
import Derived.Test.YtpbdbgajohacoaaUd
import Derived.Test.YtpbdbgajohacoaaPa
import Derived.Test.YtpbdbgajohacoaaSy
import Derived.Test.YtpbdbgajohacoaaLayR
import Derived.Shelf.SlSortCmp.Whole1
namespace Go.Proofs.Ytpbdbgajohacoaa
open Go.RowKit Go.Sort Go.Shelf Go.Lib EchM

/-- A row by its header: the value, what it reads as, the block it lies in. -/
abbrev Row3 := Value × (List Int × Nat)
def RowAt (w : World) (base : Nat) (e : Row3) : Prop :=
  ∃ cap N f, e.1 = .slice (some ⟨e.2.2, 0, none⟩) e.2.1.length cap ∧ base ≤ e.2.2 ∧ e.2.1.length ≤ N ∧ w.rowIs e.2.2 2 N f ∧ ∀ (q : Nat) (h : q < e.2.1.length), f q = .int .i64 e.2.1[q]
theorem RowAt.cs {w : World} {base : Nat} {e : Row3} (h : RowAt w base e) : Cs w e.2.2 0 e.2.1 := fun k hk => by
  obtain ⟨cap, N, f, _, _, hN, hr, hf⟩ := h
  rw [Nat.zero_add, hr.cell (by omega), hf k hk]
theorem RowAt.lt {w : World} {base : Nat} {e : Row3} (h : RowAt w base e) : e.2.2 < w.heap.size := by
  obtain ⟨cap, N, f, _, _, hN, hr, hf⟩ := h; exact hr.lt
theorem RowAt.sl {w : World} {base : Nat} {e : Row3} (h : RowAt w base e) : Sl w e.1 e.2.1 := by
  obtain ⟨cap, N, f, hv, _⟩ := id h
  exact ⟨_, cap, hv, .inr ⟨e.2.2, 0, rfl, h.lt, h.cs⟩⟩
theorem RowAt.kept {w w' : World} {base g : Nat} {e : Row3} (h : RowAt w base e) (hg : w.grownBy w' (some g)) (hne : e.2.2 ≠ g) : RowAt w' base e := by
  obtain ⟨cap, N, f, hv, hb, hN, hr, hf⟩ := h
  exact ⟨cap, N, f, hv, hb, hN, hr.of_block (hg.block _ hr.lt fun q => hne (by simpa using q)), hf⟩
theorem RowAt.below {w w' : World} {base : Nat} {e : Row3} (h : RowAt w base e) (hb : Below w.heap.size w w') : RowAt w' base e := by
  obtain ⟨cap, N, f, hv, hb', hN, hr, hf⟩ := h
  exact ⟨cap, N, f, hv, hb', hN, erow_below hr hb hr.lt, hf⟩
theorem RowAt.mono {w : World} {base base' : Nat} {e : Row3} (h : RowAt w base e) (hb : base' ≤ base) : RowAt w base' e := by
  obtain ⟨cap, N, f, hv, hb', r⟩ := h
  exact ⟨cap, N, f, hv, Nat.le_trans hb hb', r⟩
/-- The block of the headers. -/
def HeadR (w : World) (g : Nat) (O : List Row3) : Prop := ∃ N f, O.length ≤ N ∧ w.rowIs g 41 N f ∧ ∀ (q : Nat) (h : q < O.length), f q = O[q].1
theorem head_row {w : World} {g base : Nat} {O : List Row3} {e : Row3} (h : HeadR w g O) (he : RowAt w base e) : e.2.2 ≠ g := by
  obtain ⟨N, f, _, ⟨cur, hc, _⟩, _⟩ := h
  obtain ⟨_, N', f', _, _, _, ⟨cur', hc', _⟩, _⟩ := he
  intro e2
  rw [e2, hc] at hc'
  simp at hc'
def RowC (w : World) (g n : Nat) (e : Row3) : Prop := (∃ cap, e.1 = .slice (some ⟨e.2.2, 0, none⟩) n cap) ∧ e.2.1.length = n ∧ e.2.2 ≠ g ∧ e.2.2 < w.heap.size ∧ Cs w e.2.2 0 e.2.1
abbrev RC (w : World) (g n : Nat) := { e : Row3 // RowC w g n e }
def encR {w : World} {g n : Nat} (x : RC w g n) : Value := x.1.1
def cfR {w : World} {g n : Nat} (x y : RC w g n) : Int := cmpI x.1.2.1 y.1.2.1
theorem swoR {w : World} {g n : Nat} : SWO (ltOf (cfR (w := w) (g := g) (n := n))) where
  irrefl x := by unfold ltOf cfR; rw [cmpI_self]; rfl
  trans x y z h1 h2 := by
    unfold ltOf cfR at *
    simp only [decide_eq_true_eq] at *
    have e1 : x.1.2.1.length = y.1.2.1.length := by rw [x.2.2.1, y.2.2.1]
    have e2 : y.1.2.1.length = z.1.2.1.length := by rw [y.2.2.1, z.2.2.1]
    have := cmpI_val x.1.2.1 y.1.2.1
    have := cmpI_lt_trans e1 e2 (by omega) (by omega)
    omega
  ntrans x y z h1 h2 := by
    unfold ltOf cfR at *
    simp only [decide_eq_false_iff_not] at *
    have e1 : x.1.2.1.length = y.1.2.1.length := by rw [x.2.2.1, y.2.2.1]
    have e2 : y.1.2.1.length = z.1.2.1.length := by rw [y.2.2.1, z.2.2.1]
    have n1 := cmpI_neg x.1.2.1 y.1.2.1
    have n2 := cmpI_neg y.1.2.1 z.1.2.1
    have n3 := cmpI_neg x.1.2.1 z.1.2.1
    have := cmpI_trans e2.symm e1.symm (by omega) (by omega)
    omega
section
variable {w0 : World} {g n : Nat} [Inhabited (RC w0 g n)]
theorem heap_sortR (w : World) (blk m : Nat) (d : Array (RC w0 g n)) (os : Array Obj) : (sortWorld encR w blk 0 m d os).heap = w.heap.modify blk (onCells (putCells encR 0 d)) ++ os := rfl
theorem sort_other (w : World) (blk m : Nat) (d : Array (RC w0 g n)) (os : Array Obj) {b : Nat} (hb : b ≠ blk) (hlt : b < w.heap.size) : (sortWorld encR w blk 0 m d os).heap[b]? = w.heap[b]? := by
  rw [heap_sortR, Array.getElem?_append_left (by simpa using hlt), Array.getElem?_modify, if_neg (fun e => hb e.symm)]
theorem cmpLaysR (size : Nat) (hn : n ≤ 1048576) : CmpLays1 Try.prog 62 #[] (encR (w := w0) (g := g) (n := n)) cfR g 0 size w0 := fun m os dk _ x y => by
  rw [Array.append_empty]
  obtain ⟨⟨c1, v1⟩, l1, n1, s1, t1⟩ := x.2
  obtain ⟨⟨c2, v2⟩, l2, n2, s2, t2⟩ := y.2
  have u1 : Cs (sortWorld encR w0 g 0 m dk os) x.1.2.2 0 x.1.2.1 := fun k hk => (World.cell?_of_block (w := w0) (a := ⟨x.1.2.2, _, none⟩) (sort_other w0 g m dk os n1 s1)).trans (t1 k hk)
  have u2 : Cs (sortWorld encR w0 g 0 m dk os) y.1.2.2 0 y.1.2.1 := fun k hk => (World.cell?_of_block (w := w0) (a := ⟨y.1.2.2, _, none⟩) (sort_other w0 g m dk os n2 s2)).trans (t2 k hk)
  have h := icmpI x.1.2.2 0 c1 y.1.2.2 0 c2 x.1.2.1 y.1.2.1 (sortWorld encR w0 g 0 m dk os) (by omega) (by omega) u1 u2
  rw [l1, ← v1, ← v2] at h
  exact h.mono fun e w' ⟨he, hw⟩ => ⟨he, 0, #[], by rw [hw, grow_empty]; rfl⟩
end
theorem toRC {w : World} {g n : Nat} : ∀ (O : List Row3), (∀ e ∈ O, RowC w g n e) → ∃ d : Array (RC w g n), d.toList.map (·.1) = O ∧ d.size = O.length
  | [], _ => ⟨#[], rfl, rfl⟩
  | e :: O, h => by
    obtain ⟨d, h1, h2⟩ := toRC O fun x hx => h x (by simp [hx])
    exact ⟨(⟨e, h e (by simp)⟩ :: d.toList).toArray, by simp [h1], by simp [h2]⟩

theorem gsortR (w : World) (g n cap base : Nat) (O : List Row3) (hO : O ≠ []) (hn : n ≤ 1048576) (hl : O.length ≤ 1048576) (N : Nat) (f : Nat → Value) (hN : O.length ≤ N) (hrow : w.rowIs g 41 N f) (hf : ∀ (q : Nat) (h : q < O.length), f q = O[q].1) (hr : ∀ e ∈ O, RowAt w base e) (hln : ∀ e ∈ O, e.2.1.length = n) :
    Calls Try.prog 61 #[.slice (some ⟨g, 0, none⟩) O.length cap, .func (.func 62) #[] #[]] w fun e w' => e = .returned (.tuple #[]) ∧ ∃ O' : List Row3, O'.Perm O ∧ O'.Pairwise (fun a b => cmpI a.2.1 b.2.1 ≤ 0) ∧ (∃ f', w'.rowIs g 41 N f' ∧ ∀ (q : Nat) (h : q < O'.length), f' q = O'[q].1) ∧ w.grownBy w' (some g) := by
  have hC : ∀ e ∈ O, RowC w g n e := fun e he => by
    obtain ⟨c, _, _, hv, _⟩ := hr e he
    exact ⟨⟨c, by rw [hv, hln e he]⟩, hln e he, head_row (O := O) ⟨N, f, hN, hrow, hf⟩ (hr e he), (hr e he).lt, (hr e he).cs⟩
  obtain ⟨d, hd, hs⟩ := toRC O hC
  obtain ⟨e0, he0⟩ := List.exists_mem_of_ne_nil O hO
  haveI : Inhabited (RC w g n) := ⟨⟨e0, hC e0 he0⟩⟩
  have hH : Holds encR w g 0 d := fun j hj => by
    have hj' : j < O.length := by omega
    refine ⟨?_, hrow.frozen _⟩
    rw [Nat.zero_add, hrow.cell (by omega), hf j hj', getElem!_pos d j hj]
    have : (d.toList.map (·.1))[j]'(by simpa using hj) = O[j] := by simp only [hd]
    rw [List.getElem_map] at this
    rw [← this]
    rfl
  have eg : ∀ args w, (callFunc 62 args).run Try.prog w = .ok (.enter 62 args) w := enters_of Try.func62 (by kernel_rfl) rfl
  have h1 : OneCell (encR (w := w) (g := g) (n := n)) := fun x => by
    obtain ⟨⟨c, hv⟩, _⟩ := x.2
    unfold encR
    rw [hv]
    rfl
  have hcon := Any.slices_SortFunc Try.sortRw (encR (w := w) (g := g) (n := n)) h1 cfR swoR 62 #[] g 0 cap d w eg (cmpLaysR d.size hn) hH hrow.lt (by omega)
  change Calls Try.prog 61 _ _ _ at hcon
  rw [hs] at hcon
  refine hcon.mono ?_
  rintro e w' ⟨rfl, d', m, os, ⟨hp1, _, hp2⟩, hso, rfl⟩
  have hds : d'.size = O.length := by rw [hp1, hs]
  have hperm : d'.toList.Perm d.toList := by
    have e1 : d'.extract 0 O.length = d' := by rw [← hds]; simp
    have e2 : d.extract 0 O.length = d := by rw [← hs]; simp
    rwa [e1, e2] at hp2
  refine ⟨rfl, d'.toList.map (·.1), by rw [← hd]; exact hperm.map _, ?_, ?_, ⟨rfl, rfl, rfl, ?_, fun k hk hne => sort_other w g m d' os (fun e => hne (by rw [e])) hk⟩⟩
  · rw [List.pairwise_map, List.pairwise_iff_getElem]
    intro i j hi hj hij
    have hi' : i < d'.size := by simpa using hi
    have hj' : j < d'.size := by simpa using hj
    have h := hso i j (Nat.zero_le _) hij (by omega)
    rw [getElem!_pos d' i hi', getElem!_pos d' j hj'] at h
    unfold ltOf cfR at h
    simp only [decide_eq_false_iff_not] at h
    have := cmpI_neg d'[i].1.2.1 d'[j].1.2.1
    simp only [Array.getElem_toList]
    omega
  · obtain ⟨cur, hc, hcs, hcf⟩ := hrow
    refine ⟨fun q => (putCells encR 0 d' cur).getD q undef, ⟨putCells encR 0 d' cur, ?_, by simp [putCells, hcs], fun i hi => ?_⟩, fun q hq => ?_⟩
    · rw [heap_sortR, Array.getElem?_append_left (by have := (Array.getElem?_eq_some_iff.1 hc).1; simpa using this), Array.getElem?_modify, if_pos rfl, hc]
      rfl
    · have : i < (putCells encR 0 d' cur).size := by simp [putCells, hcs]; exact hi
      rw [Array.getElem?_eq_getElem this]
      simp [Array.getD, this]
    · have hq' : q < d'.size := by simpa using hq
      have hqc : q < cur.size := by rw [hcs]; omega
      have : q < (putCells encR 0 d' cur).size := by simpa [putCells] using hqc
      simp only [Array.getD, this, dite_true]
      simp [putCells, hq', encR]
  · rw [heap_sortR]
    simp
end Go.Proofs.Ytpbdbgajohacoaa
