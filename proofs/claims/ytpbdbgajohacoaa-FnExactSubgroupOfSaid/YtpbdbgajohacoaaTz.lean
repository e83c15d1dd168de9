/-
  GROUPS OF LISTS, in plain mathematics: what can be reached by products, and lists that a search by breadth builds. Conditions: as each theorem states.
  GROUPS OF LISTS: the model's walk. Conditions: the matrices' numbers fit.
-/
import Derived.Test.YtpbdbgajohacoaaSo
import Derived.Test.YtpbdbgajohacoaaSx
import Derived.Test.YtpbdbgajohacoaaGw
import Derived.Test.YtpbdbgajohacoaaSu
import Derived.Deep.RegionHeld3
import Derived.Deep.DeepCutAuto
namespace Go.Proofs.Ytpbdbgajohacoaa
open Go.RowKit Go.Sort EchM

/-- A product, its numbers alone. -/
def pr3 (p : Int) (x g : Nat → Nat → Int) : Nat → Nat → Int := cut3 (prodM p x g)
/-- What arises out of the unit by products with matrices of a list. -/
inductive Reach (p : Int) (n : Nat) (G : List (Nat → Nat → Int)) : (Nat → Nat → Int) → Prop
  | unit : Reach p n G (cut3 (uM n))
  | step {x g : Nat → Nat → Int} (h : Reach p n G x) (hg : g ∈ G) : Reach p n G (pr3 p x g)
theorem cut3_eq3 (x : Nat → Nat → Int) : eq3 (cut3 x) x := fun _ hi _ hj => cut3_at x hi hj
theorem cut3_congr {x y : Nat → Nat → Int} (h : eq3 x y) : cut3 x = cut3 y := by
  funext i j
  unfold cut3
  by_cases hij : i < 3 ∧ j < 3
  · rw [if_pos hij, if_pos hij]; exact h i hij.1 j hij.2
  · rw [if_neg hij, if_neg hij]
theorem Reach.cut {p : Int} {n : Nat} {G : List (Nat → Nat → Int)} {x : Nat → Nat → Int} (h : Reach p n G x) : Cut x := by
  cases h <;> exact cut_cut _
/-- Only the set of the list counts. -/
theorem Reach.sub {p : Int} {n : Nat} {G G' : List (Nat → Nat → Int)} (hG : ∀ g ∈ G, ∃ g' ∈ G', eq3 g g') {x : Nat → Nat → Int} (h : Reach p n G x) : Reach p n G' x := by
  induction h with
  | unit => exact .unit
  | step h hg ih =>
    obtain ⟨g', hg', e⟩ := hG _ hg
    rw [pr3, cut3_congr (prodM_congr (fun _ _ _ _ => rfl) e)]
    exact .step ih hg'
theorem uM_fit {p : Int} {n : Nat} (h2 : 2 ≤ p) : (∀ i, i < 3 → ∀ j, j < 3 → 0 ≤ cut3 (uM n) i j ∧ cut3 (uM n) i j < p) ∧ Out0 n (cut3 (uM n)) := by
  refine ⟨fun i hi j hj => ?_, fun i hi j hj h => ?_⟩
  · rw [cut3_at _ hi hj]; unfold uM; split <;> omega
  · rw [cut3_at _ hi hj]; unfold uM; rw [if_neg (by omega)]
theorem Reach.fit {p : Int} {n : Nat} {G : List (Nat → Nat → Int)} (h2 : 2 ≤ p) (hG : ∀ g ∈ G, Out0 n g) {x : Nat → Nat → Int} (h : Reach p n G x) : (∀ i, i < 3 → ∀ j, j < 3 → 0 ≤ x i j ∧ x i j < p) ∧ Out0 n x := by
  induction h with
  | unit => exact uM_fit h2
  | step h hg ih =>
    refine ⟨fun i hi j hj => ?_, fun i hi j hj ho => ?_⟩
    · rw [pr3, cut3_at _ hi hj]; exact prodM_bound h2 _ _ _ _
    · rw [pr3, cut3_at _ hi hj]; exact prodM_out ih.2 (hG _ hg) i hi j hj ho
theorem find_cut {O : List (Nat → Nat → Int)} {r : Nat → Nat → Int} (hO : ∀ x ∈ O, Cut x) (hr : Cut r) : findM O r < 0 ↔ r ∉ O := by
  have h := findA_in r O 0
  have e : (∃ x ∈ O, eqM x r = true) ↔ r ∈ O := by
    constructor
    · rintro ⟨x, hx, he⟩
      have : x = r := by
        funext i j
        by_cases hij : i < 3 ∧ j < 3
        · exact eqM_iff.1 he i j hij.1 hij.2
        · rw [hO x hx i j hij, hr i j hij]
      rwa [← this]
    · exact fun h => ⟨r, h, eqM_iff.2 fun _ _ _ _ => rfl⟩
  rw [e] at h
  rw [← h]
  unfold findM
  omega
/-- A search by breadth: what has come, the element at hand, the factor at hand. -/
structure Bfs (p : Int) (n : Nat) (G O : List (Nat → Nat → Int)) (i k : Nat) : Prop where
  nd : O.Nodup
  reach : ∀ x ∈ O, Reach p n G x
  unit : cut3 (uM n) ∈ O
  done : ∀ (a : Nat) (ha : a < O.length) (b : Nat) (hb : b < G.length), (a < i ∨ (a = i ∧ b < k)) → pr3 p O[a] G[b] ∈ O
theorem Bfs.start (p : Int) (n : Nat) (G : List (Nat → Nat → Int)) : Bfs p n G [cut3 (uM n)] 0 0 :=
  ⟨by simp, fun x hx => by simp at hx; subst hx; exact .unit, by simp, fun a ha b hb h => by omega⟩
theorem Bfs.cuts {p : Int} {n : Nat} {G O : List (Nat → Nat → Int)} {i k : Nat} (h : Bfs p n G O i k) : ∀ x ∈ O, Cut x := fun x hx => (h.reach x hx).cut
theorem Bfs.hit {p : Int} {n : Nat} {G O : List (Nat → Nat → Int)} {i k : Nat} (h : Bfs p n G O i k) (hi : i < O.length) (hk : k < G.length) (hm : pr3 p O[i] G[k] ∈ O) : Bfs p n G O i (k + 1) :=
  ⟨h.nd, h.reach, h.unit, fun a ha b hb hab => by
    by_cases e : a = i ∧ b = k
    · obtain ⟨rfl, rfl⟩ := e; exact hm
    · exact h.done a ha b hb (by omega)⟩
theorem Bfs.miss {p : Int} {n : Nat} {G O : List (Nat → Nat → Int)} {i k : Nat} (h : Bfs p n G O i k) (hi : i < O.length) (hk : k < G.length) (hm : pr3 p O[i] G[k] ∉ O) : Bfs p n G (O ++ [pr3 p O[i] G[k]]) i (k + 1) := by
  refine ⟨?_, fun x hx => ?_, by simp [h.unit], fun a ha b hb hab => ?_⟩
  · rw [List.nodup_append]
    exact ⟨h.nd, by simp, fun x hx y hy e => by simp at hy; subst hy; subst e; exact hm hx⟩
  · rcases List.mem_append.1 hx with hx | hx
    · exact h.reach x hx
    · simp at hx; subst hx; exact .step (h.reach _ (List.getElem_mem hi)) (List.getElem_mem hk)
  · have ha' : a < O.length := by omega
    rw [List.getElem_append_left ha']
    by_cases e : a = i ∧ b = k
    · obtain ⟨rfl, rfl⟩ := e; simp
    · exact List.mem_append_left _ (h.done a ha' b hb (by omega))
theorem Bfs.next {p : Int} {n : Nat} {G O : List (Nat → Nat → Int)} {i k : Nat} (h : Bfs p n G O i k) (hk : G.length ≤ k) : Bfs p n G O (i + 1) 0 :=
  ⟨h.nd, h.reach, h.unit, fun a ha b hb hab => h.done a ha b hb (by omega)⟩
theorem Bfs.all {p : Int} {n : Nat} {G O : List (Nat → Nat → Int)} {i k : Nat} (h : Bfs p n G O i k) (hi : O.length ≤ i) : ∀ x, Reach p n G x → x ∈ O := fun x hx => by
  induction hx with
  | unit => exact h.unit
  | step hx hg ih =>
    obtain ⟨a, ha, rfl⟩ := List.getElem_of_mem ih
    obtain ⟨b, hb, rfl⟩ := List.getElem_of_mem hg
    exact h.done a ha b hb (.inl (by omega))
/-- The whole of it, with at most 48. -/
def Closed48 (p : Int) (n : Nat) (G O : List (Nat → Nat → Int)) : Prop := O.Nodup ∧ (∀ x, x ∈ O ↔ Reach p n G x) ∧ O.length ≤ 48
/-- There are more than 48. -/
def Over48 (p : Int) (n : Nat) (G : List (Nat → Nat → Int)) : Prop := ∃ O : List (Nat → Nat → Int), O.Nodup ∧ (∀ x ∈ O, Reach p n G x) ∧ 48 < O.length
theorem sub_len {α : Type} : ∀ {l l' : List α}, l.Nodup → (∀ x ∈ l, x ∈ l') → l.length ≤ l'.length
  | [], _, _, _ => by simp
  | a :: l, l', hn, hs => by
    obtain ⟨h1, h2⟩ := List.nodup_cons.1 hn
    obtain ⟨s, t, rfl⟩ := List.append_of_mem (hs a (by simp))
    have := sub_len (l' := s ++ t) h2 fun x hx => by
      have hx' := hs x (by simp [hx])
      simp only [List.mem_append, List.mem_cons] at hx' ⊢
      rcases hx' with h | rfl | h
      · exact .inl h
      · exact absurd hx h1
      · exact .inr h
    simp at this ⊢
    omega
theorem Closed48.not_over {p : Int} {n : Nat} {G O : List (Nat → Nat → Int)} (h : Closed48 p n G O) : ¬ Over48 p n G := by
  rintro ⟨O', hn, hr, hl⟩
  have := sub_len hn fun x hx => (h.2.1 x).2 (hr x hx)
  have := h.2.2
  omega
theorem Closed48.perm {p : Int} {n : Nat} {G O O' : List (Nat → Nat → Int)} (h : Closed48 p n G O) (h' : Closed48 p n G O') : O.Perm O' := by
  rw [List.perm_ext_iff_of_nodup h.1 h'.1]
  exact fun x => (h.2.1 x).trans (h'.2.1 x).symm
theorem Closed48.cuts {p : Int} {n : Nat} {G O : List (Nat → Nat → Int)} (h : Closed48 p n G O) : ∀ x ∈ O, Cut x := fun x hx => ((h.2.1 x).1 hx).cut
theorem Closed48.map {p : Int} {n : Nat} {G O : List (Nat → Nat → Int)} (h : Closed48 p n G O) : O.map cut3 = O := by
  have : O.map cut3 = O.map id := List.map_congr_left fun x hx => cut_of_cut (h.cuts x hx)
  simpa using this
theorem Closed48.sort {p : Int} {n : Nat} {G O O' : List (Nat → Nat → Int)} (h : Closed48 p n G O) (h' : Closed48 p n G O') : sortM O = sortM O' :=
  (sortM_is O).unique h.cuts ⟨(sortM_is O').1.trans (h'.perm h), (sortM_is O').2⟩
theorem Closed48.other {p : Int} {n : Nat} {G G' O : List (Nat → Nat → Int)} (h : Closed48 p n G O) (h1 : ∀ g ∈ G, ∃ g' ∈ G', eq3 g g') (h2 : ∀ g ∈ G', ∃ g' ∈ G, eq3 g g') : Closed48 p n G' O :=
  ⟨h.1, fun x => (h.2.1 x).trans ⟨Reach.sub h1, Reach.sub h2⟩, h.2.2⟩
theorem Over48.other {p : Int} {n : Nat} {G G' : List (Nat → Nat → Int)} (h : Over48 p n G) (h1 : ∀ g ∈ G, ∃ g' ∈ G', eq3 g g') : Over48 p n G' := by
  obtain ⟨O, hn, hr, hl⟩ := h
  exact ⟨O, hn, fun x hx => (hr x hx).sub h1, hl⟩
end Go.Proofs.Ytpbdbgajohacoaa
namespace Go.Proofs.Ytpbdbgajohacoaa
open Go.RowKit Go.Sort EchM

theorem tbel_drew {w w' : World} (h : Below w.drew.heap.size w.drew w') : Below w.heap.size w w' := (Below.refl _ _).drew.trans h
theorem tbel_alloc {w w' : World} {o : Obj} (h : Below (w.alloc o).heap.size (w.alloc o) w') : Below w.heap.size w w' := (ebox1 _ _).trans (h.mono (by simp))
theorem tbel_drewalloc {w w' : World} {o : Obj} (h : Below (w.drew.alloc o).heap.size (w.drew.alloc o) w') : Below w.heap.size w w' := tbel_drew (tbel_alloc h)
theorem tbel_allocdrew {w w' : World} {o : Obj} (h : Below (w.alloc o).drew.heap.size (w.alloc o).drew w') : Below w.heap.size w w' := tbel_alloc (tbel_drew h)
theorem sfind_agg (v : Value) (L : List (Nat → Nat → Int)) (g : Nat → Nat → Int) (w : World) (hl : L.length ≤ 1048576) (hS : SlM w v L) :
    Calls Try.prog 76 #[v, .agg #[.int .u8 (g 0 0), .int .u8 (g 0 1), .int .u8 (g 0 2), .int .u8 (g 1 0), .int .u8 (g 1 1), .int .u8 (g 1 2), .int .u8 (g 2 0), .int .u8 (g 2 1), .int .u8 (g 2 2)]] w fun e w' => e = .returned (.int .i64 (findM L g)) ∧ Below w.heap.size w w' := sfind v L g w hl hS
theorem zmatD (w : World) : (w.alloc (.cells #[.int .u8 0, .int .u8 0, .int .u8 0, .int .u8 0, .int .u8 0, .int .u8 0, .int .u8 0, .int .u8 0, .int .u8 0] 55)).drew.rowIs w.heap.size 55 9 (mF fun _ _ => 0) := mbox w (fun _ _ => 0) _
theorem nine_belowB {w w' : World} {b off k : Nat} {x : Nat → Nat → Int} {B : Nat} (h : ((w.cell? ⟨b, off + k * 9, none⟩ = some (.int .u8 (x 0 0)) ∧ w.cell? ⟨b, off + k * 9 + 1, none⟩ = some (.int .u8 (x 0 1)) ∧ w.cell? ⟨b, off + k * 9 + 2, none⟩ = some (.int .u8 (x 0 2))) ∧ (w.cell? ⟨b, off + k * 9 + 3, none⟩ = some (.int .u8 (x 1 0)) ∧ w.cell? ⟨b, off + k * 9 + 4, none⟩ = some (.int .u8 (x 1 1)) ∧ w.cell? ⟨b, off + k * 9 + 5, none⟩ = some (.int .u8 (x 1 2))) ∧ (w.cell? ⟨b, off + k * 9 + 6, none⟩ = some (.int .u8 (x 2 0)) ∧ w.cell? ⟨b, off + k * 9 + 7, none⟩ = some (.int .u8 (x 2 1)) ∧ w.cell? ⟨b, off + k * 9 + 8, none⟩ = some (.int .u8 (x 2 2))))) (hb : Below B w w') (hlt : b < B) : ((w'.cell? ⟨b, off + k * 9, none⟩ = some (.int .u8 (x 0 0)) ∧ w'.cell? ⟨b, off + k * 9 + 1, none⟩ = some (.int .u8 (x 0 1)) ∧ w'.cell? ⟨b, off + k * 9 + 2, none⟩ = some (.int .u8 (x 0 2))) ∧ (w'.cell? ⟨b, off + k * 9 + 3, none⟩ = some (.int .u8 (x 1 0)) ∧ w'.cell? ⟨b, off + k * 9 + 4, none⟩ = some (.int .u8 (x 1 1)) ∧ w'.cell? ⟨b, off + k * 9 + 5, none⟩ = some (.int .u8 (x 1 2))) ∧ (w'.cell? ⟨b, off + k * 9 + 6, none⟩ = some (.int .u8 (x 2 0)) ∧ w'.cell? ⟨b, off + k * 9 + 7, none⟩ = some (.int .u8 (x 2 1)) ∧ w'.cell? ⟨b, off + k * 9 + 8, none⟩ = some (.int .u8 (x 2 2)))) :=
  ⟨⟨(hb.cell hlt).trans h.1.1, (hb.cell hlt).trans h.1.2.1, (hb.cell hlt).trans h.1.2.2⟩, ⟨(hb.cell hlt).trans h.2.1.1, (hb.cell hlt).trans h.2.1.2.1, (hb.cell hlt).trans h.2.1.2.2⟩, (hb.cell hlt).trans h.2.2.1, (hb.cell hlt).trans h.2.2.2.1, (hb.cell hlt).trans h.2.2.2.2⟩

theorem eqM_cut (x r : Nat → Nat → Int) : eqM x (cut3 r) = eqM x r := rfl
theorem find_same (O : List (Nat → Nat → Int)) (r : Nat → Nat → Int) : findM O r = findM O (cut3 r) := by
  unfold findM
  generalize 0 = k
  induction O generalizing k with
  | nil => rfl
  | cons x L ih => rw [findA, findA, eqM_cut, ih]

set_option maxRecDepth 8000 in
set_option maxHeartbeats 8000000 in
theorem sof (p : Int) (n : Nat) (v : Value) (G : List (Nat → Nat → Int)) (w : World) (h2 : 2 ≤ p) (h13 : p ≤ 13) (n1 : 1 ≤ n) (n3 : n ≤ 3) (hl : G.length ≤ 1048576) (hG : ∀ g ∈ G, (∀ i, i < 3 → ∀ j, j < 3 → 0 ≤ g i j ∧ g i j < p) ∧ Out0 n g) (hS : SlM w v G) :
    Calls Try.prog 40 #[.int .i64 p, .int .i64 (n : Int), v] w fun e w' => ((∃ v' O, e = .returned (.tuple #[.agg #[.int .i64 p, .int .i64 (n : Int), v'], .bool true]) ∧ Closed48 p n G O ∧ OwnG9 w' w.heap.size v' (sortM O)) ∨ (e = .returned (.tuple #[.agg #[.int .i64 0, .int .i64 0, .slice none 0 0], .bool false]) ∧ Over48 p n G)) ∧ Below w.heap.size w w' := by
  obtain ⟨i0, hi, hz0, hz1, hz2⟩ := info_parts infoMat
  obtain ⟨u, hu⟩ : ∃ u, uM n = u := ⟨_, rfl⟩
  have HU := Lib.hid (fun w => sunit n u w n1 n3 hu)
  obtain ⟨W, hW, rR, hbW⟩ : ∃ W, W = w.alloc (.cells #[.int .i64 0, .int .i64 0, .slice none 0 0] 26) ∧ W.rowIs w.heap.size 26 3 (grpF 0 0 (.slice none 0 0)) ∧ Below w.heap.size w W := ⟨_, rfl, gbox w 0 0 _ _, ebox1 _ _⟩
  have hSW := hS.below hbW
  obtain ⟨a, cap, rfl, hSc⟩ := id hS
  have HG := Lib.hid hG
  have HSTART := Lib.hid (show Bfs p n G [cut3 u] 0 0 from by rw [← hu]; exact Bfs.start p n G)
  clear hG hu
  go_enter Try.func40, Try.ntmps40
  go_wp2_with fail
  rw [← hW]
  clear hW
  ((with_reducible refine (HU.out _).mono ?_); rintro e w1 ⟨rfl, hb1⟩)
  have rr1 := erow_below rR hb1 rR.lt
  have hbw1 := hbW.trans (hb1.mono hbW.size)
  clear hSW rR hbW hb1 HU
  obtain ⟨V, hV, hown, hbV, hVs⟩ : ∃ V, V = w1.alloc (.cells #[.int .u8 (u 0 0), .int .u8 (u 0 1), .int .u8 (u 0 2), .int .u8 (u 1 0), .int .u8 (u 1 1), .int .u8 (u 1 2), .int .u8 (u 2 0), .int .u8 (u 2 1), .int .u8 (u 2 2)] 55) ∧ V.ownsRow w1.heap.size 55 9 (.slice (some ⟨w1.heap.size, 0, none⟩) 1 1) 1 (cells9 [cut3 u]) ∧ Below w1.heap.size w1 V ∧ w1.heap.size ≤ V.heap.size := by
    refine ⟨_, rfl, ?_, ebox1 _ _, by simp⟩
    rw [show cells9 [cut3 u] = cell9 u by simp [cells9, cell9_cut]]
    exact own_one w1 u
  have rrV := erow_below rr1 hbV rr1.lt
  have lr := rr1.lt
  have hbwV := hbw1.trans (hbV.mono hbw1.size)
  have hz01 := hbw1.size
  go_wp2_with fail
  rw [← hV]
  clear hV rr1 hbV
  go_loopw [8, 9] (fun s i wr => ∃ (i' : Nat) (O : List (Nat → Nat → Int)), i' ≤ O.length ∧ i = .int .i64 i' ∧ Hid (Bfs p n G O i' 0) ∧ O.length ≤ 48 ∧ wr.ownsRow w1.heap.size 55 9 s O.length (cells9 O) ∧ Below w1.heap.size V wr) (fun _ i _ => 49 - (intOf i).toNat)
  case atStart => exact ⟨0, [cut3 u], by simp, rfl, HSTART, by simp, hown, Below.refl _ _⟩
  case round =>
    obtain ⟨i, O1, hiO1, rfl, HB1, h481, hO1, hbel1⟩ := hrel
    obtain ⟨sa1, sc1, rfl⟩ := mown_slice hO1
    by_cases hlt1 : i < O1.length
    · have hlt1' : (i : Int) < (O1.length : Int) := by omega
      obtain ⟨wo, rfl⟩ : ∃ wo : World, wo = wr := ⟨_, rfl⟩
      go_wp2_with fail
      go_loopw [8, 10] (fun s k wr => ∃ (k' : Nat) (O : List (Nat → Nat → Int)), k' ≤ G.length ∧ k = .int .i64 k' ∧ Hid (Bfs p n G O i k') ∧ i < O.length ∧ O.length ≤ 48 ∧ wr.ownsRow w1.heap.size 55 9 s O.length (cells9 O) ∧ Below w1.heap.size V wr) (fun _ k _ => G.length - (intOf k).toNat)
      case atStart => exact ⟨0, O1, by omega, rfl, HB1, hlt1, h481, hO1, hbel1⟩
      case round =>
        clear hO1 hbel1 HB1 h481 hlt1 hlt1' hiO1
        obtain ⟨k, O, hk, rfl, HB, hlt, h48, hO, hbel⟩ := hrel
        obtain ⟨sa, sc, rfl⟩ := mown_slice hO
        have hlt' : (i : Int) < (O.length : Int) := by omega
        by_cases hkt : k < G.length
        · have hkt' : (k : Int) < (G.length : Int) := by omega
          obtain ⟨b, off, rfl, hbb, hT⟩ : ∃ b off, a = some ⟨b, off, none⟩ ∧ b < w.heap.size ∧ MatsW w b off G := by
            rcases hSc with rfl | h
            · simp at hkt
            · exact h
          have hsO := OwnG9.slice hO
          obtain ⟨b1, o1, rfl, hb1l, hT1⟩ : ∃ b1 o1, sa = some ⟨b1, o1, none⟩ ∧ b1 < wr.heap.size ∧ MatsW wr b1 o1 O := by
            obtain ⟨a2, c2, hv2, h | ⟨b2, off2, ha2, hl2, hT2⟩⟩ := hsO
            · rw [h] at hlt; simp at hlt
            · cases hv2
              cases ha2
              exact ⟨b2, off2, rfl, hl2, hT2⟩
          have hbwr := hbwV.trans (hbel.mono hz01)
          have h9y := (hT.below hbwr hbb).nine hkt
          have h9x := hT1.nine hlt
          obtain ⟨hgb, hgo⟩ := HG.out G[k] (List.getElem_mem hkt)
          obtain ⟨hxb, hxo⟩ := (HB.out.reach O[i] (List.getElem_mem hlt)).fit h2 (fun g hg => (HG.out g hg).2)
          obtain ⟨r, hr⟩ : ∃ r, prodM p O[i] G[k] = r := ⟨_, rfl⟩
          have HC := Lib.hid (fun w => sprod_bd p n O[i] G[k] r w h2 h13 hxb hgb n3 hxo hgo hr)
          have HP : Hid (pr3 p O[i] G[k] = cut3 r) := Lib.hid (by rw [pr3, hr])
          have HHIT := Lib.hid (fun (hm : cut3 r ∈ O) => HB.out.hit hlt hkt (by rw [HP.out]; exact hm))
          have HMISS : Hid (cut3 r ∉ O → Bfs p n G (O ++ [cut3 r]) i (k + 1)) := Lib.hid (fun hm => by
            have := HB.out.miss hlt hkt (by rw [HP.out]; exact hm)
            rwa [HP.out] at this)
          have HF := Lib.hid (find_cut HB.out.cuts (cut_cut r))
          clear hgb hgo hxb hxo hr hsO HP
          generalize O[i] = x at *
          generalize G[k] = y at *
          have hbltw : b < wr.heap.size := Nat.lt_of_lt_of_le hbb hbwr.size
          have KKh := Lib.hid (fun w' (hq : Below wr.heap.size wr w') => show ((w'.cell? ⟨b1, o1 + i * 9, none⟩ = some (.int .u8 (x 0 0)) ∧ w'.cell? ⟨b1, o1 + i * 9 + 1, none⟩ = some (.int .u8 (x 0 1)) ∧ w'.cell? ⟨b1, o1 + i * 9 + 2, none⟩ = some (.int .u8 (x 0 2))) ∧ (w'.cell? ⟨b1, o1 + i * 9 + 3, none⟩ = some (.int .u8 (x 1 0)) ∧ w'.cell? ⟨b1, o1 + i * 9 + 4, none⟩ = some (.int .u8 (x 1 1)) ∧ w'.cell? ⟨b1, o1 + i * 9 + 5, none⟩ = some (.int .u8 (x 1 2))) ∧ (w'.cell? ⟨b1, o1 + i * 9 + 6, none⟩ = some (.int .u8 (x 2 0)) ∧ w'.cell? ⟨b1, o1 + i * 9 + 7, none⟩ = some (.int .u8 (x 2 1)) ∧ w'.cell? ⟨b1, o1 + i * 9 + 8, none⟩ = some (.int .u8 (x 2 2)))) ∧ ((w'.cell? ⟨b, off + k * 9, none⟩ = some (.int .u8 (y 0 0)) ∧ w'.cell? ⟨b, off + k * 9 + 1, none⟩ = some (.int .u8 (y 0 1)) ∧ w'.cell? ⟨b, off + k * 9 + 2, none⟩ = some (.int .u8 (y 0 2))) ∧ (w'.cell? ⟨b, off + k * 9 + 3, none⟩ = some (.int .u8 (y 1 0)) ∧ w'.cell? ⟨b, off + k * 9 + 4, none⟩ = some (.int .u8 (y 1 1)) ∧ w'.cell? ⟨b, off + k * 9 + 5, none⟩ = some (.int .u8 (y 1 2))) ∧ (w'.cell? ⟨b, off + k * 9 + 6, none⟩ = some (.int .u8 (y 2 0)) ∧ w'.cell? ⟨b, off + k * 9 + 7, none⟩ = some (.int .u8 (y 2 1)) ∧ w'.cell? ⟨b, off + k * 9 + 8, none⟩ = some (.int .u8 (y 2 2)))) from ⟨nine_belowB h9x hq hb1l, nine_belowB h9y hq hbltw⟩)
          have KOh := Lib.hid (fun w' (hq : Below wr.heap.size wr w') o => show (((w'.alloc o).cell? ⟨b1, o1 + i * 9, none⟩ = some (.int .u8 (x 0 0)) ∧ (w'.alloc o).cell? ⟨b1, o1 + i * 9 + 1, none⟩ = some (.int .u8 (x 0 1)) ∧ (w'.alloc o).cell? ⟨b1, o1 + i * 9 + 2, none⟩ = some (.int .u8 (x 0 2))) ∧ ((w'.alloc o).cell? ⟨b1, o1 + i * 9 + 3, none⟩ = some (.int .u8 (x 1 0)) ∧ (w'.alloc o).cell? ⟨b1, o1 + i * 9 + 4, none⟩ = some (.int .u8 (x 1 1)) ∧ (w'.alloc o).cell? ⟨b1, o1 + i * 9 + 5, none⟩ = some (.int .u8 (x 1 2))) ∧ ((w'.alloc o).cell? ⟨b1, o1 + i * 9 + 6, none⟩ = some (.int .u8 (x 2 0)) ∧ (w'.alloc o).cell? ⟨b1, o1 + i * 9 + 7, none⟩ = some (.int .u8 (x 2 1)) ∧ (w'.alloc o).cell? ⟨b1, o1 + i * 9 + 8, none⟩ = some (.int .u8 (x 2 2)))) ∧ (((w'.alloc o).cell? ⟨b, off + k * 9, none⟩ = some (.int .u8 (y 0 0)) ∧ (w'.alloc o).cell? ⟨b, off + k * 9 + 1, none⟩ = some (.int .u8 (y 0 1)) ∧ (w'.alloc o).cell? ⟨b, off + k * 9 + 2, none⟩ = some (.int .u8 (y 0 2))) ∧ ((w'.alloc o).cell? ⟨b, off + k * 9 + 3, none⟩ = some (.int .u8 (y 1 0)) ∧ (w'.alloc o).cell? ⟨b, off + k * 9 + 4, none⟩ = some (.int .u8 (y 1 1)) ∧ (w'.alloc o).cell? ⟨b, off + k * 9 + 5, none⟩ = some (.int .u8 (y 1 2))) ∧ ((w'.alloc o).cell? ⟨b, off + k * 9 + 6, none⟩ = some (.int .u8 (y 2 0)) ∧ (w'.alloc o).cell? ⟨b, off + k * 9 + 7, none⟩ = some (.int .u8 (y 2 1)) ∧ (w'.alloc o).cell? ⟨b, off + k * 9 + 8, none⟩ = some (.int .u8 (y 2 2)))) from KKh.out _ (hq.trans ((ebox1 w' o).mono hq.size)))
          have KSh := Lib.hid (fun w' (hq : Below wr.heap.size wr w') B (hB : wr.heap.size ≤ B) (u0 u1 u2 u3 u4 u5 u6 u7 u8 : Int) => show (((((((((((w'.setCell ⟨B, 0, none⟩ (.int .u8 u0)).setCell ⟨B, 1, none⟩ (.int .u8 u1)).setCell ⟨B, 2, none⟩ (.int .u8 u2)).setCell ⟨B, 3, none⟩ (.int .u8 u3)).setCell ⟨B, 4, none⟩ (.int .u8 u4)).setCell ⟨B, 5, none⟩ (.int .u8 u5)).setCell ⟨B, 6, none⟩ (.int .u8 u6)).setCell ⟨B, 7, none⟩ (.int .u8 u7)).setCell ⟨B, 8, none⟩ (.int .u8 u8)).cell? ⟨b1, o1 + i * 9, none⟩ = some (.int .u8 (x 0 0)) ∧ (((((((((w'.setCell ⟨B, 0, none⟩ (.int .u8 u0)).setCell ⟨B, 1, none⟩ (.int .u8 u1)).setCell ⟨B, 2, none⟩ (.int .u8 u2)).setCell ⟨B, 3, none⟩ (.int .u8 u3)).setCell ⟨B, 4, none⟩ (.int .u8 u4)).setCell ⟨B, 5, none⟩ (.int .u8 u5)).setCell ⟨B, 6, none⟩ (.int .u8 u6)).setCell ⟨B, 7, none⟩ (.int .u8 u7)).setCell ⟨B, 8, none⟩ (.int .u8 u8)).cell? ⟨b1, o1 + i * 9 + 1, none⟩ = some (.int .u8 (x 0 1)) ∧ (((((((((w'.setCell ⟨B, 0, none⟩ (.int .u8 u0)).setCell ⟨B, 1, none⟩ (.int .u8 u1)).setCell ⟨B, 2, none⟩ (.int .u8 u2)).setCell ⟨B, 3, none⟩ (.int .u8 u3)).setCell ⟨B, 4, none⟩ (.int .u8 u4)).setCell ⟨B, 5, none⟩ (.int .u8 u5)).setCell ⟨B, 6, none⟩ (.int .u8 u6)).setCell ⟨B, 7, none⟩ (.int .u8 u7)).setCell ⟨B, 8, none⟩ (.int .u8 u8)).cell? ⟨b1, o1 + i * 9 + 2, none⟩ = some (.int .u8 (x 0 2))) ∧ ((((((((((w'.setCell ⟨B, 0, none⟩ (.int .u8 u0)).setCell ⟨B, 1, none⟩ (.int .u8 u1)).setCell ⟨B, 2, none⟩ (.int .u8 u2)).setCell ⟨B, 3, none⟩ (.int .u8 u3)).setCell ⟨B, 4, none⟩ (.int .u8 u4)).setCell ⟨B, 5, none⟩ (.int .u8 u5)).setCell ⟨B, 6, none⟩ (.int .u8 u6)).setCell ⟨B, 7, none⟩ (.int .u8 u7)).setCell ⟨B, 8, none⟩ (.int .u8 u8)).cell? ⟨b1, o1 + i * 9 + 3, none⟩ = some (.int .u8 (x 1 0)) ∧ (((((((((w'.setCell ⟨B, 0, none⟩ (.int .u8 u0)).setCell ⟨B, 1, none⟩ (.int .u8 u1)).setCell ⟨B, 2, none⟩ (.int .u8 u2)).setCell ⟨B, 3, none⟩ (.int .u8 u3)).setCell ⟨B, 4, none⟩ (.int .u8 u4)).setCell ⟨B, 5, none⟩ (.int .u8 u5)).setCell ⟨B, 6, none⟩ (.int .u8 u6)).setCell ⟨B, 7, none⟩ (.int .u8 u7)).setCell ⟨B, 8, none⟩ (.int .u8 u8)).cell? ⟨b1, o1 + i * 9 + 4, none⟩ = some (.int .u8 (x 1 1)) ∧ (((((((((w'.setCell ⟨B, 0, none⟩ (.int .u8 u0)).setCell ⟨B, 1, none⟩ (.int .u8 u1)).setCell ⟨B, 2, none⟩ (.int .u8 u2)).setCell ⟨B, 3, none⟩ (.int .u8 u3)).setCell ⟨B, 4, none⟩ (.int .u8 u4)).setCell ⟨B, 5, none⟩ (.int .u8 u5)).setCell ⟨B, 6, none⟩ (.int .u8 u6)).setCell ⟨B, 7, none⟩ (.int .u8 u7)).setCell ⟨B, 8, none⟩ (.int .u8 u8)).cell? ⟨b1, o1 + i * 9 + 5, none⟩ = some (.int .u8 (x 1 2))) ∧ ((((((((((w'.setCell ⟨B, 0, none⟩ (.int .u8 u0)).setCell ⟨B, 1, none⟩ (.int .u8 u1)).setCell ⟨B, 2, none⟩ (.int .u8 u2)).setCell ⟨B, 3, none⟩ (.int .u8 u3)).setCell ⟨B, 4, none⟩ (.int .u8 u4)).setCell ⟨B, 5, none⟩ (.int .u8 u5)).setCell ⟨B, 6, none⟩ (.int .u8 u6)).setCell ⟨B, 7, none⟩ (.int .u8 u7)).setCell ⟨B, 8, none⟩ (.int .u8 u8)).cell? ⟨b1, o1 + i * 9 + 6, none⟩ = some (.int .u8 (x 2 0)) ∧ (((((((((w'.setCell ⟨B, 0, none⟩ (.int .u8 u0)).setCell ⟨B, 1, none⟩ (.int .u8 u1)).setCell ⟨B, 2, none⟩ (.int .u8 u2)).setCell ⟨B, 3, none⟩ (.int .u8 u3)).setCell ⟨B, 4, none⟩ (.int .u8 u4)).setCell ⟨B, 5, none⟩ (.int .u8 u5)).setCell ⟨B, 6, none⟩ (.int .u8 u6)).setCell ⟨B, 7, none⟩ (.int .u8 u7)).setCell ⟨B, 8, none⟩ (.int .u8 u8)).cell? ⟨b1, o1 + i * 9 + 7, none⟩ = some (.int .u8 (x 2 1)) ∧ (((((((((w'.setCell ⟨B, 0, none⟩ (.int .u8 u0)).setCell ⟨B, 1, none⟩ (.int .u8 u1)).setCell ⟨B, 2, none⟩ (.int .u8 u2)).setCell ⟨B, 3, none⟩ (.int .u8 u3)).setCell ⟨B, 4, none⟩ (.int .u8 u4)).setCell ⟨B, 5, none⟩ (.int .u8 u5)).setCell ⟨B, 6, none⟩ (.int .u8 u6)).setCell ⟨B, 7, none⟩ (.int .u8 u7)).setCell ⟨B, 8, none⟩ (.int .u8 u8)).cell? ⟨b1, o1 + i * 9 + 8, none⟩ = some (.int .u8 (x 2 2)))) ∧ (((((((((((w'.setCell ⟨B, 0, none⟩ (.int .u8 u0)).setCell ⟨B, 1, none⟩ (.int .u8 u1)).setCell ⟨B, 2, none⟩ (.int .u8 u2)).setCell ⟨B, 3, none⟩ (.int .u8 u3)).setCell ⟨B, 4, none⟩ (.int .u8 u4)).setCell ⟨B, 5, none⟩ (.int .u8 u5)).setCell ⟨B, 6, none⟩ (.int .u8 u6)).setCell ⟨B, 7, none⟩ (.int .u8 u7)).setCell ⟨B, 8, none⟩ (.int .u8 u8)).cell? ⟨b, off + k * 9, none⟩ = some (.int .u8 (y 0 0)) ∧ (((((((((w'.setCell ⟨B, 0, none⟩ (.int .u8 u0)).setCell ⟨B, 1, none⟩ (.int .u8 u1)).setCell ⟨B, 2, none⟩ (.int .u8 u2)).setCell ⟨B, 3, none⟩ (.int .u8 u3)).setCell ⟨B, 4, none⟩ (.int .u8 u4)).setCell ⟨B, 5, none⟩ (.int .u8 u5)).setCell ⟨B, 6, none⟩ (.int .u8 u6)).setCell ⟨B, 7, none⟩ (.int .u8 u7)).setCell ⟨B, 8, none⟩ (.int .u8 u8)).cell? ⟨b, off + k * 9 + 1, none⟩ = some (.int .u8 (y 0 1)) ∧ (((((((((w'.setCell ⟨B, 0, none⟩ (.int .u8 u0)).setCell ⟨B, 1, none⟩ (.int .u8 u1)).setCell ⟨B, 2, none⟩ (.int .u8 u2)).setCell ⟨B, 3, none⟩ (.int .u8 u3)).setCell ⟨B, 4, none⟩ (.int .u8 u4)).setCell ⟨B, 5, none⟩ (.int .u8 u5)).setCell ⟨B, 6, none⟩ (.int .u8 u6)).setCell ⟨B, 7, none⟩ (.int .u8 u7)).setCell ⟨B, 8, none⟩ (.int .u8 u8)).cell? ⟨b, off + k * 9 + 2, none⟩ = some (.int .u8 (y 0 2))) ∧ ((((((((((w'.setCell ⟨B, 0, none⟩ (.int .u8 u0)).setCell ⟨B, 1, none⟩ (.int .u8 u1)).setCell ⟨B, 2, none⟩ (.int .u8 u2)).setCell ⟨B, 3, none⟩ (.int .u8 u3)).setCell ⟨B, 4, none⟩ (.int .u8 u4)).setCell ⟨B, 5, none⟩ (.int .u8 u5)).setCell ⟨B, 6, none⟩ (.int .u8 u6)).setCell ⟨B, 7, none⟩ (.int .u8 u7)).setCell ⟨B, 8, none⟩ (.int .u8 u8)).cell? ⟨b, off + k * 9 + 3, none⟩ = some (.int .u8 (y 1 0)) ∧ (((((((((w'.setCell ⟨B, 0, none⟩ (.int .u8 u0)).setCell ⟨B, 1, none⟩ (.int .u8 u1)).setCell ⟨B, 2, none⟩ (.int .u8 u2)).setCell ⟨B, 3, none⟩ (.int .u8 u3)).setCell ⟨B, 4, none⟩ (.int .u8 u4)).setCell ⟨B, 5, none⟩ (.int .u8 u5)).setCell ⟨B, 6, none⟩ (.int .u8 u6)).setCell ⟨B, 7, none⟩ (.int .u8 u7)).setCell ⟨B, 8, none⟩ (.int .u8 u8)).cell? ⟨b, off + k * 9 + 4, none⟩ = some (.int .u8 (y 1 1)) ∧ (((((((((w'.setCell ⟨B, 0, none⟩ (.int .u8 u0)).setCell ⟨B, 1, none⟩ (.int .u8 u1)).setCell ⟨B, 2, none⟩ (.int .u8 u2)).setCell ⟨B, 3, none⟩ (.int .u8 u3)).setCell ⟨B, 4, none⟩ (.int .u8 u4)).setCell ⟨B, 5, none⟩ (.int .u8 u5)).setCell ⟨B, 6, none⟩ (.int .u8 u6)).setCell ⟨B, 7, none⟩ (.int .u8 u7)).setCell ⟨B, 8, none⟩ (.int .u8 u8)).cell? ⟨b, off + k * 9 + 5, none⟩ = some (.int .u8 (y 1 2))) ∧ ((((((((((w'.setCell ⟨B, 0, none⟩ (.int .u8 u0)).setCell ⟨B, 1, none⟩ (.int .u8 u1)).setCell ⟨B, 2, none⟩ (.int .u8 u2)).setCell ⟨B, 3, none⟩ (.int .u8 u3)).setCell ⟨B, 4, none⟩ (.int .u8 u4)).setCell ⟨B, 5, none⟩ (.int .u8 u5)).setCell ⟨B, 6, none⟩ (.int .u8 u6)).setCell ⟨B, 7, none⟩ (.int .u8 u7)).setCell ⟨B, 8, none⟩ (.int .u8 u8)).cell? ⟨b, off + k * 9 + 6, none⟩ = some (.int .u8 (y 2 0)) ∧ (((((((((w'.setCell ⟨B, 0, none⟩ (.int .u8 u0)).setCell ⟨B, 1, none⟩ (.int .u8 u1)).setCell ⟨B, 2, none⟩ (.int .u8 u2)).setCell ⟨B, 3, none⟩ (.int .u8 u3)).setCell ⟨B, 4, none⟩ (.int .u8 u4)).setCell ⟨B, 5, none⟩ (.int .u8 u5)).setCell ⟨B, 6, none⟩ (.int .u8 u6)).setCell ⟨B, 7, none⟩ (.int .u8 u7)).setCell ⟨B, 8, none⟩ (.int .u8 u8)).cell? ⟨b, off + k * 9 + 7, none⟩ = some (.int .u8 (y 2 1)) ∧ (((((((((w'.setCell ⟨B, 0, none⟩ (.int .u8 u0)).setCell ⟨B, 1, none⟩ (.int .u8 u1)).setCell ⟨B, 2, none⟩ (.int .u8 u2)).setCell ⟨B, 3, none⟩ (.int .u8 u3)).setCell ⟨B, 4, none⟩ (.int .u8 u4)).setCell ⟨B, 5, none⟩ (.int .u8 u5)).setCell ⟨B, 6, none⟩ (.int .u8 u6)).setCell ⟨B, 7, none⟩ (.int .u8 u7)).setCell ⟨B, 8, none⟩ (.int .u8 u8)).cell? ⟨b, off + k * 9 + 8, none⟩ = some (.int .u8 (y 2 2)))) from KKh.out _ (((((((((hq.setCell (by simpa using hB) _).setCell (by simpa using hB) _).setCell (by simpa using hB) _).setCell (by simpa using hB) _).setCell (by simpa using hB) _).setCell (by simpa using hB) _).setCell (by simpa using hB) _).setCell (by simpa using hB) _).setCell (by simpa using hB) _))
          clear h9x h9y
          go_wp2_with fail
          go_cut [11] (fun s11 wx => ∃ B0, s11 = .pointer (some ⟨B0, 0, none⟩) ∧ wx.rowIs B0 55 9 (mF r) ∧ Below wr.heap.size wr wx)
          case first =>
            go_region_held3 (fun w' => ((w'.cell? ⟨b1, o1 + i * 9, none⟩ = some (.int .u8 (x 0 0)) ∧ w'.cell? ⟨b1, o1 + i * 9 + 1, none⟩ = some (.int .u8 (x 0 1)) ∧ w'.cell? ⟨b1, o1 + i * 9 + 2, none⟩ = some (.int .u8 (x 0 2))) ∧ (w'.cell? ⟨b1, o1 + i * 9 + 3, none⟩ = some (.int .u8 (x 1 0)) ∧ w'.cell? ⟨b1, o1 + i * 9 + 4, none⟩ = some (.int .u8 (x 1 1)) ∧ w'.cell? ⟨b1, o1 + i * 9 + 5, none⟩ = some (.int .u8 (x 1 2))) ∧ (w'.cell? ⟨b1, o1 + i * 9 + 6, none⟩ = some (.int .u8 (x 2 0)) ∧ w'.cell? ⟨b1, o1 + i * 9 + 7, none⟩ = some (.int .u8 (x 2 1)) ∧ w'.cell? ⟨b1, o1 + i * 9 + 8, none⟩ = some (.int .u8 (x 2 2)))) ∧ ((w'.cell? ⟨b, off + k * 9, none⟩ = some (.int .u8 (y 0 0)) ∧ w'.cell? ⟨b, off + k * 9 + 1, none⟩ = some (.int .u8 (y 0 1)) ∧ w'.cell? ⟨b, off + k * 9 + 2, none⟩ = some (.int .u8 (y 0 2))) ∧ (w'.cell? ⟨b, off + k * 9 + 3, none⟩ = some (.int .u8 (y 1 0)) ∧ w'.cell? ⟨b, off + k * 9 + 4, none⟩ = some (.int .u8 (y 1 1)) ∧ w'.cell? ⟨b, off + k * 9 + 5, none⟩ = some (.int .u8 (y 1 2))) ∧ (w'.cell? ⟨b, off + k * 9 + 6, none⟩ = some (.int .u8 (y 2 0)) ∧ w'.cell? ⟨b, off + k * 9 + 7, none⟩ = some (.int .u8 (y 2 1)) ∧ w'.cell? ⟨b, off + k * 9 + 8, none⟩ = some (.int .u8 (y 2 2)))))
              (first | (with_reducible refine KSh.out _ HB5 _ ?_ _ _ _ _ _ _ _ _ _; first | with_reducible exact HB5.size | with_reducible exact Nat.le_refl _) | with_reducible exact KKh.out _ (Below.refl _ _).drew | with_reducible exact KKh.out _ (Below.refl _ _) | with_reducible exact KOh.out _ (Below.refl _ _) _ | with_reducible exact KOh.out _ (Below.refl _ _).drew _ | with_reducible exact KKh.out _ (ebox1 _ _).drew | with_reducible exact KKh.out _ HB5 | with_reducible exact KOh.out _ HB5 _)
              (first
              | (go_at_call 51; (with_reducible refine (HC.out _).mono ?_); rintro e w5 ⟨rfl, hb5⟩; have HB5 : Below wr.heap.size wr w5 := (by first | with_reducible exact tbel_drew hb5 | with_reducible exact tbel_drewalloc hb5 | with_reducible exact tbel_allocdrew hb5 | with_reducible exact tbel_alloc hb5); (first | (have ZR5 : w5.rowIs wr.heap.size 55 9 (mF fun _ _ => 0) := erow_below (zmatD wr) hb5 (by simp); obtain ⟨⟨e50, e51, e52⟩, ⟨e53, e54, e55⟩, e56, e57, e58⟩ := mcells ZR5; have fz0 := ZR5.frozen 0; have fz1 := ZR5.frozen 1; have fz2 := ZR5.frozen 2; have fz3 := ZR5.frozen 3; have fz4 := ZR5.frozen 4; have fz5 := ZR5.frozen 5; have fz6 := ZR5.frozen 6; have fz7 := ZR5.frozen 7; have fz8 := ZR5.frozen 8) | skip)))
            all_goals
              go_wp2_with fail
              go_meet
              first
                | with_reducible exact ⟨w5.heap.size, rfl, mbox w5 r _, HB5.trans ((ebox1 _ _).mono HB5.size)⟩
                | with_reducible exact ⟨wr.heap.size, rfl, (mfill ZR5 HB5 (Nat.le_refl _) r).1, (mfill ZR5 HB5 (Nat.le_refl _) r).2⟩
          case rest =>
            rename World => wx
            obtain ⟨B0, rfl, rB, hbx⟩ := hcut
            clear KKh KOh KSh HC
            have hOx := eowns_below hO hbx
            have hsx := OwnG9.slice (show OwnG9 wx w1.heap.size (.slice (some ⟨b1, o1, none⟩) O.length sc) O from hOx)
            have hbelx := hbel.trans (hbx.mono (Nat.le_trans hVs hbel.size))
            have HSF := Lib.hid (sfind_agg _ O r wx (by omega) hsx)
            obtain ⟨⟨d0, d1, d2⟩, ⟨d3, d4, d5⟩, d6, d7, d8⟩ := mcells rB
            have HFC : Hid (findM O r = findM O (cut3 r)) := Lib.hid (find_same O r)
            rw [← HFC.out] at HF
            generalize findM O r = F at *
            clear hO hbel
            go_wp2_with fail
            ((with_reducible refine HSF.out.mono ?_); rintro e w6 ⟨rfl, hb6⟩)
            have hO6 := eowns_below hOx hb6
            have hx6 := hbelx.size
            have hbel6 := hbelx.trans (hb6.mono (Nat.le_trans hVs hx6))
            have rB6 := erow_below rB hb6 rB.lt
            have hz6 : w1.heap.size ≤ w6.heap.size := Nat.le_trans hVs hbel6.size
            clear HSF hOx hsx hbelx rB hb6 d0 d1 d2 d3 d4 d5 d6 d7 d8
            by_cases hm : cut3 r ∈ O
            · have hF : ¬ F < 0 := fun h => HF.out.1 h hm
              have hn48 : ¬ (48 : Int) < (O.length : Int) := by omega
              have HN := Lib.hid (HHIT.out hm)
              go_wp2_with fail
              go_roundw
              case rel => exact ⟨k + 1, O, by omega, by go_num, HN, hlt, h48, hO6, hbel6⟩
              case measure => simp [intOf]; omega
            · have hF : F < 0 := HF.out.2 hm
              have HN := Lib.hid (HMISS.out hm)
              obtain ⟨⟨d0, d1, d2⟩, ⟨d3, d4, d5⟩, d6, d7, d8⟩ := mcells rB6
              have hSr : SlM (w6.alloc (.cells #[.int .u8 (r 0 0), .int .u8 (r 0 1), .int .u8 (r 0 2), .int .u8 (r 1 0), .int .u8 (r 1 1), .int .u8 (r 1 2), .int .u8 (r 2 0), .int .u8 (r 2 1), .int .u8 (r 2 2)] 55)) (.slice (some ⟨w6.heap.size, 0, none⟩) 1 1) [r] := OwnG9.slice (base := w6.heap.size) (show OwnG9 _ _ _ [r] from own_r w6 r)
              have hlen : (O ++ [cut3 r]).length = O.length + 1 := by simp
              have hcc : cells9 (O ++ [cut3 r]) = cells9 O ++ cells9 [r] := by simp [cells9, cell9_cut]
              by_cases h49 : O.length = 48
              · have h49' : (48 : Int) < (O.length : Int) + 1 := by omega
                have HOV : Hid (Over48 p n G) := Lib.hid ⟨_, HN.out.nd, HN.out.reach, by rw [hlen]; omega⟩
                clear h49
                go_wp2_with (at_builtin; refine wpList_append_mats _ rfl _ _ rfl w1.heap.size (.slice (some ⟨b1, o1, none⟩) O.length sc) O.length (cells9 O) rfl (hO6.alloc _) _ [r] rfl hSr (by simp; omega) (by simp; omega) ?_; intro v7 w7 hown7 hgrow7; (have hq7 : Below w1.heap.size V w7 := hbel6.trans (grown_below ((Below.refl _ w6).alloc hz6 _) (hO6.alloc _) hgrow7 (by simp; omega))); (have hO7 : w7.ownsRow w1.heap.size 55 9 v7 (O.length + 1) (cells9 (O ++ [cut3 r])) := by rw [hcc]; exact hown7); obtain ⟨a7, c7, rfl⟩ := mown_slice hO7; have r7 := erow_below rrV hq7 lr; obtain ⟨r0, r1, r2⟩ := gcells r7; have z0 := r7.frozen 0; have z1 := r7.frozen 1; have z2 := r7.frozen 2)
                have R := ((r7.set 0 (.int .i64 0)).set 1 (.int .i64 0)).set 2 (.slice none 0 0)
                have V0 := R.cell (i := 0) (by omega)
                have V1 := R.cell (i := 1) (by omega)
                have V2 := R.cell (i := 2) (by omega)
                have hbf := hbwV.trans (hq7.mono hz01)
                have HBF := ((hbf.setCell (p := ⟨w.heap.size, 0, none⟩) (Nat.le_refl _) (.int .i64 0)).setCell (p := ⟨w.heap.size, 1, none⟩) (Nat.le_refl _) (.int .i64 0)).setCell (p := ⟨w.heap.size, 2, none⟩) (Nat.le_refl _) (.slice none 0 0)
                exact bodyPost_ret (v := .tuple #[.agg #[.int .i64 0, .int .i64 0, .slice none 0 0], .bool false]) (by simp [results, Try.results40, go_sem, V0, V1, V2]) rfl ⟨.inr ⟨rfl, HOV.out⟩, HBF⟩
              · have h49' : ¬ (48 : Int) < (O.length : Int) + 1 := by omega
                go_wp2_with (at_builtin; refine wpList_append_mats _ rfl _ _ rfl w1.heap.size (.slice (some ⟨b1, o1, none⟩) O.length sc) O.length (cells9 O) rfl (hO6.alloc _) _ [r] rfl hSr (by simp; omega) (by simp; omega) ?_; intro v7 w7 hown7 hgrow7; (have hq7 : Below w1.heap.size V w7 := hbel6.trans (grown_below ((Below.refl _ w6).alloc hz6 _) (hO6.alloc _) hgrow7 (by simp; omega))); (have hO7 : w7.ownsRow w1.heap.size 55 9 v7 (O.length + 1) (cells9 (O ++ [cut3 r])) := by rw [hcc]; exact hown7); obtain ⟨a7, c7, rfl⟩ := mown_slice hO7)
                go_roundw
                case rel => exact ⟨k + 1, O ++ [cut3 r], by omega, by go_num, HN, by omega, by omega, by rw [hlen]; exact hO7, hq7⟩
                case measure => simp [intOf]; omega
        · obtain rfl : k = G.length := by omega
          have HN := Lib.hid (HB.out.next (Nat.le_refl _))
          go_wp2_with fail
          go_roundw
          case rel => exact ⟨i + 1, O, by omega, by go_num, HN, h48, hO, hbel⟩
          case measure => simp [intOf]; omega
    · obtain rfl : i = O1.length := by omega
      have HCL : Hid (Closed48 p n G O1) := Lib.hid ⟨HB1.out.nd, fun x => ⟨HB1.out.reach x, HB1.out.all (Nat.le_refl _) x⟩, h481⟩
      have hs1 := OwnG9.slice (show OwnG9 wr w1.heap.size (.slice sa1 O1.length sc1) O1 from hO1)
      have HSD := Lib.hid (ssorted p n _ O1 wr (by omega) hs1)
      have rrr := erow_below rrV hbel1 lr
      have hbwr := hbwV.trans (hbel1.mono hz01)
      clear HB1 hO1 hs1
      go_wp2_with fail
      ((with_reducible refine HSD.out.mono ?_); rintro e w9 ⟨v9, S, rfl, hs9, ho9, hb9⟩)
      have hS : S = sortM O1 := hs9.unique HCL.out.cuts (sortM_is O1)
      have r9 := erow_below rrr hb9 rrr.lt
      have hbw9 := hbwr.trans (hb9.mono hbwr.size)
      obtain ⟨va, vc, rfl⟩ := OwnG9.shape ho9
      obtain ⟨r0, r1, r2⟩ := gcells r9
      have z0 := r9.frozen 0
      have z1 := r9.frozen 1
      have z2 := r9.frozen 2
      have R := ((r9.set 0 (.int .i64 p)).set 1 (.int .i64 n)).set 2 (.slice va S.length vc)
      have V0 := Lib.hid (R.cell (i := 0) (by omega))
      have V1 := Lib.hid (R.cell (i := 1) (by omega))
      have V2 := Lib.hid (R.cell (i := 2) (by omega))
      have HBF := Lib.hid (((hbw9.setCell (p := ⟨w.heap.size, 0, none⟩) (Nat.le_refl _) (.int .i64 p)).setCell (p := ⟨w.heap.size, 1, none⟩) (Nat.le_refl _) (.int .i64 n)).setCell (p := ⟨w.heap.size, 2, none⟩) (Nat.le_refl _) (.slice va S.length vc))
      have HSL := Lib.hid (show OwnG9 (((w9.setCell ⟨w.heap.size, 0, none⟩ (.int .i64 p)).setCell ⟨w.heap.size, 1, none⟩ (.int .i64 n)).setCell ⟨w.heap.size, 2, none⟩ (.slice va S.length vc)) w.heap.size (.slice va S.length vc) (sortM O1) from by
        have hne : (Value.slice va S.length vc).ownBlock ≠ some w.heap.size := fun e => by
          have := (World.ownsRow.lt ho9 _ e).1
          have := rrr.lt
          omega
        rw [← hS]
        exact OwnG9.mono (mown_set (mown_set (mown_set ho9 _ _ _ hne) _ _ _ hne) _ _ _ hne) hbwr.size)
      clear R hS
      go_wp2_with fail
      exact bodyPost_ret (v := .tuple #[.agg #[.int .i64 p, .int .i64 n, .slice va S.length vc], .bool true]) (by simp [results, Try.results40, go_sem, V0.out, V1.out, V2.out]) rfl ⟨.inl ⟨_, O1, rfl, HCL.out, HSL.out⟩, HBF.out⟩
end Go.Proofs.Ytpbdbgajohacoaa
