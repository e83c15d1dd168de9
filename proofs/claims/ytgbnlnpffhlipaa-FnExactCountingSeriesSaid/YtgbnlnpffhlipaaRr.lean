/-
  PERMUTATIONS: plain mathematics; the tests in the model and in the program. Conditions: as each theorem states.
-/
import Derived.Test.YtgbnlnpffhlipaaRz
import Derived.Test.YtgbnlnpffhlipaaLc
namespace Go.Proofs.Ytgbnlnpffhlipaa
open Go.RowKit Go.Sort EchM

def permB (l : List Int) : Bool := decide (1 ≤ l.length) && decide (l.length ≤ 8) && (List.range l.length).all fun i => l.contains (i : Int)
def PermP (l : List Int) : Prop := l.Nodup ∧ ∀ x ∈ l, 0 ≤ x ∧ x < l.length
theorem len_sub {α : Type} : ∀ {l l' : List α}, l.Nodup → (∀ x ∈ l, x ∈ l') → l.length ≤ l'.length
  | [], _, _, _ => by simp
  | a :: l, l', hn, hs => by
    obtain ⟨h1, h2⟩ := List.nodup_cons.1 hn
    obtain ⟨s, t, rfl⟩ := List.append_of_mem (hs a (by simp))
    have := len_sub (l' := s ++ t) h2 fun x hx => by
      have hx' := hs x (by simp [hx])
      simp only [List.mem_append, List.mem_cons] at hx' ⊢
      rcases hx' with h | rfl | h
      · exact .inl h
      · exact absurd hx h1
      · exact .inr h
    simp at this ⊢
    omega
def rngI (n : Nat) : List Int := (List.range n).map fun (i : Nat) => (i : Int)
theorem rngI_nodup (n : Nat) : (rngI n).Nodup := by
  unfold rngI
  refine List.Pairwise.map _ (fun a b h => ?_) List.nodup_range
  omega
theorem rngI_mem {n : Nat} {x : Int} : x ∈ rngI n ↔ 0 ≤ x ∧ x < n := by
  simp only [rngI, List.mem_map, List.mem_range]
  constructor
  · rintro ⟨i, hi, rfl⟩; omega
  · rintro ⟨h0, h1⟩; exact ⟨x.toNat, by omega, by omega⟩
theorem perm_of_all {l : List Int} (h : ∀ i : Nat, i < l.length → (i : Int) ∈ l) : PermP l := by
  constructor
  · rw [List.nodup_iff_pairwise_ne] at *
    rw [List.pairwise_iff_getElem]
    intro a b ha hb hab e
    have : (rngI l.length).length ≤ (l.eraseIdx b).length := len_sub (rngI_nodup _) fun x hx => by
      obtain ⟨h0, h1⟩ := rngI_mem.1 hx
      have hm := h x.toNat (by omega)
      rw [show ((x.toNat : Nat) : Int) = x by omega] at hm
      obtain ⟨i, hi, rfl⟩ := List.mem_iff_getElem.1 hm
      rw [List.mem_eraseIdx_iff_getElem]
      by_cases hib : i = b
      · subst hib; exact ⟨a, ha, by omega, e⟩
      · exact ⟨i, hi, hib, rfl⟩
    rw [List.length_eraseIdx_of_lt hb] at this
    simp [rngI] at this
    omega
  · intro x hx
    rcases Classical.em (0 ≤ x ∧ x < l.length) with h' | h'
    · exact h'
    · exfalso
      have : (rngI l.length).length ≤ (l.erase x).length := len_sub (rngI_nodup _) fun y hy => by
        obtain ⟨h0, h1⟩ := rngI_mem.1 hy
        have hm := h y.toNat (by omega)
        rw [show ((y.toNat : Nat) : Int) = y by omega] at hm
        exact (List.mem_erase_of_ne (fun e => h' (by rw [← e]; exact ⟨h0, h1⟩))).2 hm
      rw [List.length_erase_of_mem hx] at this
      simp [rngI] at this
      have := List.length_pos_of_mem hx
      omega
theorem all_of_perm {l : List Int} (h : PermP l) : ∀ i : Nat, i < l.length → (i : Int) ∈ l := fun i hi => by
  rcases Classical.em ((i : Int) ∈ l) with h' | h'
  · exact h'
  · exfalso
    have : l.length ≤ ((rngI l.length).erase (i : Int)).length := len_sub h.1 fun x hx => by
      obtain ⟨h0, h1⟩ := h.2 x hx
      exact (List.mem_erase_of_ne (fun e => h' (by rw [← e]; exact hx))).2 (rngI_mem.2 ⟨h0, h1⟩)
    rw [List.length_erase_of_mem (rngI_mem.2 ⟨by omega, by omega⟩)] at this
    simp [rngI] at this
    omega
theorem permB_iff {l : List Int} : permB l = true ↔ 1 ≤ l.length ∧ l.length ≤ 8 ∧ PermP l := by
  simp only [permB, Bool.and_eq_true, decide_eq_true_eq, List.all_eq_true, List.mem_range, List.contains_iff_mem]
  constructor
  · rintro ⟨⟨h1, h2⟩, h3⟩; exact ⟨h1, h2, perm_of_all h3⟩
  · rintro ⟨h1, h2, h3⟩; exact ⟨⟨h1, h2⟩, all_of_perm h3⟩

/-- What is met among the first k numbers. -/
def metF (l : List Int) (k q : Nat) : Value := .bool ((l.take k).contains (q : Int))
/-- The first k numbers are fit. -/
def PermTo (l : List Int) (k : Nat) : Prop := (l.take k).Nodup ∧ ∀ x ∈ l.take k, 0 ≤ x ∧ x < l.length
theorem permTo_next {l : List Int} {k : Nat} (h : PermTo l k) (hk : k < l.length) (h0 : 0 ≤ l[k] ∧ l[k] < l.length) (hm : (l.take k).contains l[k] = false) : PermTo l (k + 1) := by
  have hm' : l[k] ∉ l.take k := by simpa using hm
  rw [PermTo, List.take_succ_eq_append_getElem hk]
  constructor
  · rw [List.nodup_append]
    exact ⟨h.1, by simp, fun a ha b hb => by simp at hb; subst hb; exact fun e => hm' (by rw [← e]; exact ha)⟩
  · intro x hx
    simp only [List.mem_append, List.mem_singleton] at hx
    rcases hx with hx | rfl
    · exact h.2 x hx
    · exact h0
theorem perm_not_range {l : List Int} {k : Nat} (hk : k < l.length) (h : ¬ (0 ≤ l[k] ∧ l[k] < l.length)) : permB l = false := by
  cases e : permB l
  · rfl
  · exact absurd ((permB_iff.1 e).2.2.2 _ (List.getElem_mem hk)) h
theorem perm_not_twice {l : List Int} {k : Nat} (hk : k < l.length) (hm : (l.take k).contains l[k] = true) : permB l = false := by
  cases e : permB l
  · rfl
  · exfalso
    have hn := (permB_iff.1 e).2.2.1
    have hm' : l[k] ∈ l.take k := by simpa using hm
    obtain ⟨i, hi, e⟩ := List.mem_iff_getElem.1 hm'
    rw [List.length_take] at hi
    rw [List.getElem_take] at e
    have := (List.getElem_inj hn).1 e
    omega

theorem metF_next {l : List Int} {k q : Nat} (hk : k < l.length) (hq : l[k] = (q : Int)) (j : Nat) : (if j = q then Value.bool true else metF l k j) = metF l (k + 1) j := by
  unfold metF
  rw [List.take_succ_eq_append_getElem hk]
  by_cases e : j = q
  · subst e; simp [hq]
  · rw [if_neg e]
    congr 1
    rw [Bool.eq_iff_iff]
    simp only [List.contains_iff_mem, List.mem_append, List.mem_singleton]
    constructor
    · exact .inl
    · rintro (h | h)
      · exact h
      · exfalso; rw [hq] at h; omega
theorem perm_long {l : List Int} (h : 8 < l.length) : permB l = false := by
  cases e : permB l
  · rfl
  · have := (permB_iff.1 e).2.1; omega
theorem perm_short {l : List Int} (h : l.length < 1) : permB l = false := by
  cases e : permB l
  · rfl
  · have := (permB_iff.1 e).1; omega

set_option maxRecDepth 8000 in
set_option maxHeartbeats 4000000 in
theorem sperm (v : Value) (l : List Int) (w : World) (hl : l.length ≤ 1048576) (hS : Sl w v l) :
    Calls Try.prog 24 #[v] w fun e w' => e = .returned (.bool (permB l)) ∧ Below w.heap.size w w' := by
  obtain ⟨a, cap, rfl, hc⟩ := id hS
  by_cases h8 : 8 < l.length
  · have HX := Lib.hid (perm_long h8)
    have h8' : ¬ (l.length : Int) ≤ 8 := by omega
    have h0' : (0 : Int) < (l.length : Int) := by omega
    have h1' : (1 : Int) ≤ (l.length : Int) := by omega
    clear h8
    go_enter Try.func24, Try.ntmps24
    go_wp2_with fail
    go_loopw [4] (fun u wr => u = .int .i64 0 ∧ Below w.heap.size w wr) (fun u _ => 0)
    case atStart => exact ⟨rfl, ebox1 _ _⟩
    case round =>
      obtain ⟨rfl, hb⟩ := hrel
      go_wp2_with fail
      go_ret
      exact ⟨by rw [HX.out]; simp; omega, hb⟩
  have h8' : (l.length : Int) ≤ 8 := by omega
  have hl8 : l.length ≤ 8 := by omega
  clear h8
  obtain ⟨W, hW, rW, hbW⟩ : ∃ W, W = w.alloc (.cells #[.bool false, .bool false, .bool false, .bool false, .bool false, .bool false, .bool false, .bool false] 46) ∧ W.rowIs w.heap.size 46 8 (metF l 0) ∧ Below w.heap.size w W := by
    refine ⟨_, rfl, World.rowIs_alloc w _ _ _ (fun i hi => ?_), ebox1 _ _⟩
    have hi8 : i = 0 ∨ i = 1 ∨ i = 2 ∨ i = 3 ∨ i = 4 ∨ i = 5 ∨ i = 6 ∨ i = 7 := by simp at hi; omega
    rcases hi8 with rfl | rfl | rfl | rfl | rfl | rfl | rfl | rfl <;> simp [metF]
  go_enter Try.func24, Try.ntmps24
  go_upto_region 2 with fail
  rw [← hW]
  clear hW
  go_wp2_with fail
  go_loopw [4] (fun u wr => ∃ k : Nat, k ≤ l.length ∧ u = .int .i64 k ∧ Hid (PermTo l k) ∧ wr.rowIs w.heap.size 46 8 (metF l k) ∧ Below w.heap.size w wr) (fun u _ => l.length - (intOf u).toNat)
  case atStart => exact ⟨0, by omega, rfl, Lib.hid ⟨by simp, by simp⟩, rW, hbW⟩
  case round =>
    clear rW hbW
    obtain ⟨k, hk, rfl, HP, rW, hbel⟩ := hrel
    by_cases hlt : k < l.length
    · have hlt' : (k : Int) < (l.length : Int) := by omega
      obtain ⟨b, off, rfl, hbb, hT⟩ : ∃ b off, a = some ⟨b, off, none⟩ ∧ b < w.heap.size ∧ Cs w b off l := by
        rcases hc with rfl | h
        · simp at hlt
        · exact h
      have c0 := (hT.below hbel hbb) k hlt
      have hsub : IntKind.i64.wrap ((l.length : Int) - 1) = (l.length : Int) - 1 := IntWalk.i64_in _ (by omega)
      by_cases hr : 0 ≤ l[k] ∧ l[k] < l.length
      · obtain ⟨q, hq⟩ : ∃ q : Nat, l[k] = (q : Int) := ⟨l[k].toNat, by omega⟩
        have hq8 : q < 8 := by omega
        have hq8' : (q : Int) < 8 := by omega
        have HIN := Lib.hid (fun w => sin_is (q : Int) 0 ((l.length : Int) - 1) w true (by rw [hq] at hr; simp; omega))
        have c1 := rW.cell hq8
        have f1 := rW.frozen q
        cases hm : (l.take k).contains l[k]
        · have HN := Lib.hid (permTo_next HP.out hlt hr hm)
          rw [metF, ← hq, hm] at c1
          have rows := (rW.set q (.bool true)).congr (g := metF l (k + 1)) (fun j _ => metF_next hlt hq j)
          have hb2 := hbel.setCell (p := ⟨w.heap.size, q, none⟩) (Nat.le_refl _) (.bool true)
          rw [hq] at c0
          clear hr hq hm rW
          go_wp2_with fail
          ((with_reducible refine (HIN.out _).mono ?_); rintro e w1 ⟨rfl, rfl⟩)
          go_wp2_with fail
          go_roundw
          case rel => exact ⟨k + 1, by omega, by go_num, HN, rows, hb2⟩
          case measure => simp [intOf]; omega
        · have HX := Lib.hid (perm_not_twice hlt hm)
          rw [metF, ← hq, hm] at c1
          rw [hq] at c0
          clear hr hq hm rW
          go_wp2_with fail
          ((with_reducible refine (HIN.out _).mono ?_); rintro e w1 ⟨rfl, rfl⟩)
          go_wp2_with fail
          go_ret
          exact ⟨by rw [HX.out]; rfl, hbel⟩
      · have HX := Lib.hid (perm_not_range hlt hr)
        have HIN := Lib.hid (fun w => sin_is l[k] 0 ((l.length : Int) - 1) w false (by
          rw [Bool.and_eq_false_iff, decide_eq_false_iff_not, decide_eq_false_iff_not]; omega))
        generalize l[k] = x at *
        clear hr rW
        go_wp2_with fail
        ((with_reducible refine (HIN.out _).mono ?_); rintro e w1 ⟨rfl, rfl⟩)
        go_wp2_with fail
        go_ret
        exact ⟨by rw [HX.out]; rfl, hbel⟩
    · obtain rfl : k = l.length := by omega
      by_cases h1 : 1 ≤ l.length
      · have HX : Hid (permB l = true) := Lib.hid (permB_iff.2 ⟨h1, hl8, by
          have := HP.out
          rw [PermTo, List.take_length] at this
          exact this⟩)
        have h1' : (1 : Int) ≤ (l.length : Int) := by omega
        clear h1
        go_wp2_with fail
        go_ret
        exact ⟨by rw [HX.out]; rfl, hbel⟩
      · have HX := Lib.hid (perm_short (l := l) (by omega))
        have h1' : ¬ (1 : Int) ≤ (l.length : Int) := by omega
        clear h1
        go_wp2_with fail
        go_ret
        exact ⟨by rw [HX.out]; rfl, hbel⟩

set_option maxHeartbeats 1000000 in
theorem gindex (v : Value) (l : List Int) (x : Int) (w : World) (hl : l.length ≤ 1048576) (hS : Sl w v l) :
    Calls Try.prog 44 #[v, .int .i64 x] w fun e w' => (∃ r : Int, e = .returned (.int .i64 r) ∧ Hid (decide (0 ≤ r) = l.contains x)) ∧ w' = w := by
  obtain ⟨a, cap, rfl, hc⟩ := hS
  go_enter Try.func44, Try.ntmps44
  go_wp2
  go_loop [8] (fun i => ∃ k : Nat, k ≤ l.length ∧ i = .int .i64 k ∧ Hid (x ∉ l.take k)) (fun i => l.length - (intOf i).toNat)
  case atStart => exact ⟨0, by omega, rfl, Lib.hid (by simp)⟩
  case round =>
    obtain ⟨k, hk, rfl, HU⟩ := hrel
    by_cases hlt : k < l.length
    · have hlt' : (k : Int) < (l.length : Int) := by omega
      obtain ⟨b, off, rfl, hbb, hT⟩ : ∃ b off, a = some ⟨b, off, none⟩ ∧ b < w.heap.size ∧ Cs w b off l := by
        rcases hc with rfl | h
        · simp at hlt
        · exact h
      have c0 := hT k hlt
      by_cases e : x = l[k]
      · have HX : Hid (l.contains x = true) := Lib.hid (by rw [e]; simp)
        have he : (x == l[k]) = true := by simpa using e
        generalize l[k] = y at *
        clear e
        go_wp2
        go_ret
        exact ⟨⟨_, rfl, Lib.hid (by have := HX.out; simp at this; simp [this])⟩, rfl⟩
      · have HN : Hid (x ∉ l.take (k + 1)) := Lib.hid (by
          rw [List.take_succ_eq_append_getElem hlt]
          simp only [List.mem_append, List.mem_singleton, not_or]
          exact ⟨HU.out, e⟩)
        have he : (x == l[k]) = false := by simpa using e
        generalize l[k] = y at *
        clear e
        go_wp2
        go_round
        case rel => exact ⟨k + 1, by omega, by go_num, HN⟩
        case measure => simp [intOf]; omega
    · obtain rfl : k = l.length := by omega
      have HX : Hid (l.contains x = false) := Lib.hid (by
        have := HU.out
        rw [List.take_length] at this
        simpa using this)
      go_wp2
      go_ret
      exact ⟨⟨_, rfl, Lib.hid (by have := HX.out; simp at this; simp [this])⟩, rfl⟩
theorem gcontains (v : Value) (l : List Int) (x : Int) (w : World) (hl : l.length ≤ 1048576) (hS : Sl w v l) :
    Calls Try.prog 40 #[v, .int .i64 x] w fun e w' => e = .returned (.bool (l.contains x)) ∧ w' = w := by
  go_enter Try.func40, Try.ntmps40
  go_wp2_with fail
  ((with_reducible refine (gindex _ l x _ hl hS).mono ?_); rintro e w1 ⟨⟨r, rfl, HR⟩, rfl⟩)
  go_wp2
  go_ret
  exact ⟨by rw [← HR.out]; rfl, rfl⟩

set_option maxHeartbeats 1000000 in
theorem iperm (v : Value) (l : List Int) (w : World) (hl : l.length ≤ 1048576) (hS : Sl w v l) :
    Calls Try.prog 34 #[v] w fun e w' => e = .returned (.bool (permB l)) ∧ w' = w := by
  obtain ⟨a, cap, rfl, _⟩ := id hS
  by_cases h1 : l.length < 1
  · have HX := Lib.hid (perm_short h1)
    have h1' : (l.length : Int) < 1 := by omega
    clear h1
    go_enter Try.func34, Try.ntmps34
    go_wp2
    go_ret
    exact ⟨by rw [HX.out]; rfl, rfl⟩
  by_cases h8 : 8 < l.length
  · have HX := Lib.hid (perm_long h8)
    have h1' : ¬ (l.length : Int) < 1 := by omega
    have h8' : (8 : Int) < (l.length : Int) := by omega
    clear h1 h8
    go_enter Try.func34, Try.ntmps34
    go_wp2
    go_ret
    exact ⟨by rw [HX.out]; rfl, rfl⟩
  have h1' : ¬ (l.length : Int) < 1 := by omega
  have h8' : ¬ (8 : Int) < (l.length : Int) := by omega
  have HB : Hid (permB l = (List.range l.length).all fun i => l.contains (i : Int)) := Lib.hid (by
    unfold permB
    rw [decide_eq_true (show 1 ≤ l.length by omega), decide_eq_true (show l.length ≤ 8 by omega)]
    rfl)
  clear h1 h8
  go_enter Try.func34, Try.ntmps34
  go_wp2
  go_loop [14] (fun i => ∃ k : Nat, k ≤ l.length ∧ i = .int .i64 k ∧ Hid (∀ j : Nat, j < k → l.contains (j : Int) = true)) (fun i => l.length - (intOf i).toNat)
  case atStart => exact ⟨0, by omega, rfl, Lib.hid (fun j hj => by omega)⟩
  case round =>
    obtain ⟨k, hk, rfl, HU⟩ := hrel
    by_cases hlt : k < l.length
    · have hlt' : (k : Int) < (l.length : Int) := by omega
      cases hc : l.contains (k : Int)
      · have HX : Hid (permB l = false) := Lib.hid (by
          rw [HB.out, List.all_eq_false]
          exact ⟨k, by simpa using hlt, by rw [hc]; simp⟩)
        have HC := Lib.hid hc
        clear hc
        go_wp2_with fail
        ((with_reducible refine (gcontains _ l _ _ hl hS).mono ?_); rintro e w1 ⟨rfl, rfl⟩)
        rw [HC.out]
        go_wp2
        go_ret
        exact ⟨by rw [HX.out]; rfl, rfl⟩
      · have HN : Hid (∀ j : Nat, j < k + 1 → l.contains (j : Int) = true) := Lib.hid (fun j hj => by
          by_cases e : j = k
          · subst e; exact hc
          · exact HU.out j (by omega))
        have HC := Lib.hid hc
        clear hc
        go_wp2_with fail
        ((with_reducible refine (gcontains _ l _ _ hl hS).mono ?_); rintro e w1 ⟨rfl, rfl⟩)
        rw [HC.out]
        go_wp2
        go_round
        case rel => exact ⟨k + 1, by omega, by go_num, HN⟩
        case measure => simp [intOf]; omega
    · obtain rfl : k = l.length := by omega
      have HX : Hid (permB l = true) := Lib.hid (by
        rw [HB.out, List.all_eq_true]
        intro j hj
        exact HU.out j (by simpa using hj))
      go_wp2
      go_ret
      exact ⟨by rw [HX.out]; rfl, rfl⟩
end Go.Proofs.Ytgbnlnpffhlipaa
