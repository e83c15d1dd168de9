/-
  SORTS of lists of matrices: the program's comparison, told with its worlds. Conditions: as each theorem states.
  SORTS of lists of matrices: the order in plain mathematics; what an array holds behind a sort. Conditions: as each theorem states.
-/
import Derived.Test.YtabfdohmgmdgeaaGw
import Derived.Deep.QuietTactic
import Derived.BigQuiet
import Derived.Test.YtabfdohmgmdgeaaMg
import Derived.Shelf.SlSortCmp.InsertionK
import Derived.Sort.LotA
namespace Go.Proofs.Ytabfdohmgmdgeaa
open Go.RowKit Go.Sort EchM

theorem drewT {W wr : World} (h : ∃ nd, wr = W.drewN nd) (n : Nat) : ∃ nd, wr.drewN n = W.drewN nd := by
  obtain ⟨nd, rfl⟩ := h
  exact ⟨nd + n, by simp [World.drewN, Nat.add_assoc]⟩
theorem grewT {w W wr : World} (h : ∃ os, W = grow w os) (hn : ∃ nd, wr = W.drewN nd) : ∃ q os, wr = grow (w.drewN q) os := by
  obtain ⟨os, rfl⟩ := h
  obtain ⟨n, rfl⟩ := hn
  exact ⟨n, os, rfl⟩

set_option maxRecDepth 8000 in
set_option maxHeartbeats 8000000 in
theorem icompareG (g h : Nat → Nat → Int) (w : World) : Calls Try.prog 45 #[mv g, mv h] w fun e w' => e = .returned (.int .i64 (cmpM g h)) ∧ ∃ q os, w' = grow (w.drewN q) os := by
  obtain ⟨W, hW, r1, r2, hW2⟩ : ∃ W, W = (w.alloc (.cells #[.int .u8 (g 0 0), .int .u8 (g 0 1), .int .u8 (g 0 2), .int .u8 (g 1 0), .int .u8 (g 1 1), .int .u8 (g 1 2), .int .u8 (g 2 0), .int .u8 (g 2 1), .int .u8 (g 2 2)] 56)).alloc (.cells #[.int .u8 (h 0 0), .int .u8 (h 0 1), .int .u8 (h 0 2), .int .u8 (h 1 0), .int .u8 (h 1 1), .int .u8 (h 1 2), .int .u8 (h 2 0), .int .u8 (h 2 1), .int .u8 (h 2 2)] 56) ∧
      W.rowIs w.heap.size 56 9 (mF g) ∧ W.rowIs (w.heap.size + 1) 56 9 (mF h) ∧ ∃ os, W = grow w os := by
    refine ⟨_, rfl, (mbox w g _).alloc _, ?_, ⟨_, by rw [alloc_eq_grow, alloc_eq_grow, grow_grow]⟩⟩
    have := mbox (w.alloc (.cells #[.int .u8 (g 0 0), .int .u8 (g 0 1), .int .u8 (g 0 2), .int .u8 (g 1 0), .int .u8 (g 1 1), .int .u8 (g 1 2), .int .u8 (g 2 0), .int .u8 (g 2 1), .int .u8 (g 2 2)] 56)) h 56
    rwa [World.size_alloc] at this
  unfold mv
  go_enter Try.func45, Try.ntmps45
  go_upto_region 1 with fail
  rw [← hW]
  clear hW
  go_wp2_with fail
  go_loopw [7] (fun i wr => ∃ (k : Nat), k ≤ 3 ∧ i = .int .i64 k ∧ Hid (cmpM g h = cF g h k) ∧ Hid (∃ nd, wr = W.drewN nd)) (fun i _ => 3 - (intOf i).toNat)
  case atStart => exact ⟨0, by omega, rfl, Lib.hid rfl, Lib.hid ⟨0, rfl⟩⟩
  case round =>
    obtain ⟨k, hk, rfl, HU, HW⟩ := hrel
    have r1' : wr.rowIs w.heap.size 56 9 (mF g) := by obtain ⟨nd, rfl⟩ := HW.out; exact r1
    have r2' : wr.rowIs (w.heap.size + 1) 56 9 (mF h) := by obtain ⟨nd, rfl⟩ := HW.out; exact r2
    have HD := Lib.hid (fun n => drewT HW.out n)
    by_cases hlt : k < 3
    · obtain ⟨⟨a0, a1, a2⟩, ⟨a3, a4, a5⟩, a6, a7, a8⟩ := mcells r1'
      obtain ⟨⟨b0, b1, b2⟩, ⟨b3, b4, b5⟩, b6, b7, b8⟩ := mcells r2'
      have h3 : k = 0 ∨ k = 1 ∨ k = 2 := by omega
      clear hlt hk
      rcases h3 with rfl | rfl | rfl
      · have HR := Lib.hid (HU.out.trans (cF_0 g h))
        obtain ⟨R, hR⟩ : ∃ R, cmpRow g h 0 = R := ⟨_, rfl⟩
        have cK : ∀ nn, Calls Try.prog 54 #[.slice (some ⟨w.heap.size, 0, none⟩) 3 3, .slice (some ⟨w.heap.size + 1, 0, none⟩) 3 3] (wr.drewN nn) fun e w'' => e = .returned (.int .i64 R) ∧ w'' = wr.drewN nn := fun nn =>
          (scmp3 w.heap.size 0 3 (w.heap.size + 1) 0 3 _ _ _ _ _ _ (wr.drewN nn) a0 a1 a2 b0 b1 b2).mono fun _ _ ⟨he, hw⟩ => ⟨by rw [he, ← hR]; rfl, hw⟩
        rw [hR] at HR
        clear hR a0 a1 a2 a3 a4 a5 a6 a7 a8 b0 b1 b2 b3 b4 b5 b6 b7 b8
        by_cases hz : R = 0
        · have HN := Lib.hid (HR.out.trans (if_pos hz))
          subst hz
          go_wp2_with fail
          go_quiet (exact Calls.quiet_of_same (cK _))
          clear cK
          go_wp2_with fail
          go_roundw
          case rel => exact ⟨1, by omega, by go_num, HN, Lib.hid (HD.out _)⟩
          case measure => simp [intOf]
        · have HN := Lib.hid (HR.out.trans (if_neg hz))
          have hq : (R != 0) = true := by simp [hz]
          clear hz
          go_wp2_with fail
          go_quiet (exact Calls.quiet_of_same (cK _))
          clear cK
          go_wp2_with fail
          go_ret
          exact ⟨by rw [HN.out]; rfl, grewT hW2 (HD.out _)⟩
      · have HR := Lib.hid (HU.out.trans (cF_1 g h))
        obtain ⟨R, hR⟩ : ∃ R, cmpRow g h 1 = R := ⟨_, rfl⟩
        have cK : ∀ nn, Calls Try.prog 54 #[.slice (some ⟨w.heap.size, 3, none⟩) 3 3, .slice (some ⟨w.heap.size + 1, 3, none⟩) 3 3] (wr.drewN nn) fun e w'' => e = .returned (.int .i64 R) ∧ w'' = wr.drewN nn := fun nn =>
          (scmp3 w.heap.size 3 3 (w.heap.size + 1) 3 3 _ _ _ _ _ _ (wr.drewN nn) a3 a4 a5 b3 b4 b5).mono fun _ _ ⟨he, hw⟩ => ⟨by rw [he, ← hR]; rfl, hw⟩
        rw [hR] at HR
        clear hR a0 a1 a2 a3 a4 a5 a6 a7 a8 b0 b1 b2 b3 b4 b5 b6 b7 b8
        by_cases hz : R = 0
        · have HN := Lib.hid (HR.out.trans (if_pos hz))
          subst hz
          go_wp2_with fail
          go_quiet (exact Calls.quiet_of_same (cK _))
          clear cK
          go_wp2_with fail
          go_roundw
          case rel => exact ⟨2, by omega, by go_num, HN, Lib.hid (HD.out _)⟩
          case measure => simp [intOf]
        · have HN := Lib.hid (HR.out.trans (if_neg hz))
          have hq : (R != 0) = true := by simp [hz]
          clear hz
          go_wp2_with fail
          go_quiet (exact Calls.quiet_of_same (cK _))
          clear cK
          go_wp2_with fail
          go_ret
          exact ⟨by rw [HN.out]; rfl, grewT hW2 (HD.out _)⟩
      · have HR := Lib.hid (HU.out.trans (cF_2 g h))
        obtain ⟨R, hR⟩ : ∃ R, cmpRow g h 2 = R := ⟨_, rfl⟩
        have cK : ∀ nn, Calls Try.prog 54 #[.slice (some ⟨w.heap.size, 6, none⟩) 3 3, .slice (some ⟨w.heap.size + 1, 6, none⟩) 3 3] (wr.drewN nn) fun e w'' => e = .returned (.int .i64 R) ∧ w'' = wr.drewN nn := fun nn =>
          (scmp3 w.heap.size 6 3 (w.heap.size + 1) 6 3 _ _ _ _ _ _ (wr.drewN nn) a6 a7 a8 b6 b7 b8).mono fun _ _ ⟨he, hw⟩ => ⟨by rw [he, ← hR]; rfl, hw⟩
        rw [hR] at HR
        clear hR a0 a1 a2 a3 a4 a5 a6 a7 a8 b0 b1 b2 b3 b4 b5 b6 b7 b8
        by_cases hz : R = 0
        · have HN := Lib.hid (HR.out.trans (if_pos hz))
          subst hz
          go_wp2_with fail
          go_quiet (exact Calls.quiet_of_same (cK _))
          clear cK
          go_wp2_with fail
          go_roundw
          case rel => exact ⟨3, by omega, by go_num, HN, Lib.hid (HD.out _)⟩
          case measure => simp [intOf]
        · have HN := Lib.hid (HR.out.trans (if_neg hz))
          have hq : (R != 0) = true := by simp [hz]
          clear hz
          go_wp2_with fail
          go_quiet (exact Calls.quiet_of_same (cK _))
          clear cK
          go_wp2_with fail
          go_ret
          exact ⟨by rw [HN.out]; rfl, grewT hW2 (HD.out _)⟩
    · obtain rfl : k = 3 := by omega
      have HX : Hid (cmpM g h = 0) := Lib.hid (by rw [HU.out]; rfl)
      go_wp2_with fail
      go_ret
      exact ⟨by rw [HX.out]; rfl, grewT hW2 HW.out⟩
end Go.Proofs.Ytabfdohmgmdgeaa
namespace Go.Proofs.Ytabfdohmgmdgeaa
open Go.RowKit Go.Sort Go.Shelf Go.Lib EchM

/-- A matrix's numbers, and 0 elsewhere. -/
def cut3 (g : Nat → Nat → Int) (i j : Nat) : Int := if i < 3 ∧ j < 3 then g i j else 0
def Cut (g : Nat → Nat → Int) : Prop := ∀ i j, ¬ (i < 3 ∧ j < 3) → g i j = 0
theorem cut_cut (g : Nat → Nat → Int) : Cut (cut3 g) := fun _ _ h => if_neg h
theorem cut3_at (g : Nat → Nat → Int) {i j : Nat} (hi : i < 3) (hj : j < 3) : cut3 g i j = g i j := if_pos ⟨hi, hj⟩
theorem cell9_cut (g : Nat → Nat → Int) : cell9 (cut3 g) = cell9 g := rfl
theorem cells9_cut (L : List (Nat → Nat → Int)) : cells9 (L.map cut3) = cells9 L := by
  induction L with
  | nil => rfl
  | cons x r ih =>
    simp only [cells9, List.map_cons, List.flatMap_cons] at ih ⊢
    rw [ih, cell9_cut]
theorem cut_of_cut {g : Nat → Nat → Int} (h : Cut g) : cut3 g = g := by
  funext i j
  unfold cut3
  by_cases hh : i < 3 ∧ j < 3
  · rw [if_pos hh]
  · rw [if_neg hh, h i j hh]

theorem befA_irrefl (g : Nat → Nat → Int) : ∀ f q, befA g g f q = false
  | 0, _ => rfl
  | f + 1, q => by rw [befA, if_pos rfl]; exact befA_irrefl g f (q + 1)
theorem befA_trans (g h k : Nat → Nat → Int) : ∀ f q, befA g h f q = true → befA h k f q = true → befA g k f q = true
  | 0, _, h1, _ => by simp [befA] at h1
  | f + 1, q, h1, h2 => by
    rw [befA] at h1 h2 ⊢
    have ih := befA_trans g h k f (q + 1)
    generalize g (q / 3) (q % 3) = x at *
    generalize h (q / 3) (q % 3) = y at *
    generalize k (q / 3) (q % 3) = z at *
    by_cases e1 : x = y
    · by_cases e2 : y = z
      · rw [if_pos e1] at h1; rw [if_pos e2] at h2; rw [if_pos (e1.trans e2)]; exact ih h1 h2
      · rw [if_neg e2] at h2; rw [if_neg (by omega)]; simp at h2 ⊢; omega
    · rw [if_neg e1] at h1
      simp at h1
      by_cases e2 : y = z
      · rw [if_neg (by omega)]; simp; omega
      · rw [if_neg e2] at h2; simp at h2; rw [if_neg (by omega)]; simp; omega
theorem befA_ntrans (g h k : Nat → Nat → Int) : ∀ f q, befA g h f q = false → befA h k f q = false → befA g k f q = false
  | 0, _, _, _ => rfl
  | f + 1, q, h1, h2 => by
    rw [befA] at h1 h2 ⊢
    have ih := befA_ntrans g h k f (q + 1)
    generalize g (q / 3) (q % 3) = x at *
    generalize h (q / 3) (q % 3) = y at *
    generalize k (q / 3) (q % 3) = z at *
    by_cases e1 : x = y
    · by_cases e2 : y = z
      · rw [if_pos e1] at h1; rw [if_pos e2] at h2; rw [if_pos (e1.trans e2)]; exact ih h1 h2
      · rw [if_neg e2] at h2; rw [if_neg (by omega)]; simp at h2 ⊢; omega
    · rw [if_neg e1] at h1
      simp at h1
      by_cases e2 : y = z
      · rw [if_neg (by omega)]; simp; omega
      · rw [if_neg e2] at h2; simp at h2; rw [if_neg (by omega)]; simp; omega
theorem befA_eq (g h : Nat → Nat → Int) : ∀ f q, befA g h f q = false → befA h g f q = false → ∀ s, q ≤ s → s < q + f → g (s / 3) (s % 3) = h (s / 3) (s % 3)
  | 0, _, _, _ => fun s h1 h2 => by omega
  | f + 1, q, h1, h2 => fun s hs hs2 => by
    rw [befA] at h1 h2
    by_cases e : g (q / 3) (q % 3) = h (q / 3) (q % 3)
    · rw [if_pos e] at h1
      rw [if_pos e.symm] at h2
      by_cases hq : s = q
      · rw [hq]; exact e
      · exact befA_eq g h f (q + 1) h1 h2 s (by omega) (by omega)
    · rw [if_neg e] at h1
      rw [if_neg (fun x => e x.symm)] at h2
      simp at h1 h2
      omega
theorem befM_irrefl (g : Nat → Nat → Int) : befM g g = false := befA_irrefl g 9 0
theorem befM_trans {g h k : Nat → Nat → Int} (h1 : befM g h = true) (h2 : befM h k = true) : befM g k = true := befA_trans g h k 9 0 h1 h2
theorem befM_ntrans {g h k : Nat → Nat → Int} (h1 : befM g h = false) (h2 : befM h k = false) : befM g k = false := befA_ntrans g h k 9 0 h1 h2
theorem befM_eq3 {g h : Nat → Nat → Int} (h1 : befM g h = false) (h2 : befM h g = false) : ∀ i j, i < 3 → j < 3 → g i j = h i j := fun i j hi hj => by
  have := befA_eq g h 9 0 h1 h2 (i * 3 + j) (by omega) (by omega)
  rwa [show (i * 3 + j) / 3 = i by omega, show (i * 3 + j) % 3 = j by omega] at this
theorem befM_eq {g h : Nat → Nat → Int} (hg : Cut g) (hh : Cut h) (h1 : befM g h = false) (h2 : befM h g = false) : g = h := by
  funext i j
  by_cases hij : i < 3 ∧ j < 3
  · exact befM_eq3 h1 h2 i j hij.1 hij.2
  · rw [hg i j hij, hh i j hij]
/-- S is L in order. -/
def IsSort (L S : List (Nat → Nat → Int)) : Prop := S.Perm L ∧ S.Pairwise fun a b => befM b a = false
theorem IsSort.unique {L S S' : List (Nat → Nat → Int)} (hc : ∀ x ∈ L, Cut x) (h : IsSort L S) (h' : IsSort L S') : S = S' :=
  List.Perm.eq_of_pairwise (fun a b ha hb h1 h2 => befM_eq (hc a (h.1.mem_iff.1 ha)) (hc b (h'.1.mem_iff.1 hb)) h2 h1) h.2 h'.2 (h.1.trans h'.1.symm)
def sortM (L : List (Nat → Nat → Int)) : List (Nat → Nat → Int) := L.mergeSort fun a b => !befM b a
theorem sortM_is (L : List (Nat → Nat → Int)) : IsSort L (sortM L) := by
  refine ⟨List.mergeSort_perm _ _, ?_⟩
  have := List.pairwise_mergeSort (le := fun a b => !befM b a) (fun a b c h1 h2 => by simp at *; exact befM_ntrans h2 h1) (fun a b => by
    cases h : befM b a
    · simp
    · cases h' : befM a b
      · simp
      · have := befM_trans h h'
        rw [befM_irrefl] at this
        cases this) L
  exact this.imp (fun h => by simpa using h)
/-- One more is put in its place: behind those that come no later. -/
theorem IsSort.insert {L S : List (Nat → Nat → Int)} {x : Nat → Nat → Int} {k : Nat} (h : IsSort L S) (hk : k ≤ S.length) (hlo : ∀ (i : Nat) (hi : i < S.length), i < k → befM x S[i] = false) (hhi : ∀ (i : Nat) (hi : i < S.length), k ≤ i → befM x S[i] = true) : IsSort (L ++ [x]) (S.take k ++ (x :: S.drop k)) := by
  constructor
  · refine (List.perm_middle).trans ?_
    rw [List.take_append_drop]
    exact (h.1.cons x).trans (List.perm_append_comm (l₁ := [x]) (l₂ := L))
  · rw [List.pairwise_append]
    refine ⟨h.2.sublist (List.take_sublist _ _), ?_, ?_⟩
    · rw [List.pairwise_cons]
      refine ⟨fun b hb => ?_, h.2.sublist (List.drop_sublist _ _)⟩
      obtain ⟨i, hi, rfl⟩ := List.getElem_of_mem hb
      rw [List.getElem_drop]
      have hki : k + i < S.length := by simp at hi; omega
      have := hhi (k + i) hki (by omega)
      cases hq : befM S[k + i] x
      · rfl
      · have := befM_trans this hq
        rw [befM_irrefl] at this
        cases this
    · intro a ha b hb
      obtain ⟨i, hi, rfl⟩ := List.getElem_of_mem ha
      have hik : i < k := by simp at hi; omega
      have hiS : i < S.length := by omega
      rw [List.getElem_take]
      rcases List.mem_cons.1 hb with rfl | hb
      · exact hlo i hiS hik
      · obtain ⟨j, hj, rfl⟩ := List.getElem_of_mem hb
        rw [List.getElem_drop]
        exact List.pairwise_iff_getElem.1 h.2 i (k + j) hiS (by simp at hj; omega) (by omega)

abbrev CM := { g : Nat → Nat → Int // Cut g }
instance : Inhabited CM := ⟨⟨fun _ _ => 0, fun _ _ _ => rfl⟩⟩
def encM (x : CM) : List Value := cell9 x.1
def cfM (x y : CM) : Int := cmpM x.1 y.1
theorem ltM (x y : CM) : ltOf cfM x y = befM x.1 y.1 := by unfold ltOf cfM; exact bef_sign _ _
theorem swoM : SWO (ltOf cfM) where
  irrefl x := by rw [ltM]; exact befM_irrefl _
  trans x y z h1 h2 := by rw [ltM] at *; exact befM_trans h1 h2
  ntrans x y z h1 h2 := by rw [ltM] at *; exact befM_ntrans h1 h2
theorem sorted_is (L : List (Nat → Nat → Int)) (d d' : Array CM) (hd : d.toList.map (·.1) = L) (hp : d'.toList.Perm d.toList) (hs : SortedIn (ltOf cfM) 0 d'.size d') : IsSort L (d'.toList.map (·.1)) := by
  constructor
  · rw [← hd]; exact hp.map _
  · rw [List.pairwise_map, List.pairwise_iff_getElem]
    intro i j hi hj hij
    have hi' : i < d'.size := by simpa using hi
    have hj' : j < d'.size := by simpa using hj
    have h := hs i j (Nat.zero_le _) hij hj'
    rw [getElem!_pos d' i hi', getElem!_pos d' j hj', ltM] at h
    simpa using h
theorem ofMats (L : List (Nat → Nat → Int)) (hc : ∀ x ∈ L, Cut x) : ∃ d : Array CM, d.toList.map (·.1) = L ∧ d.size = L.length := by
  induction L with
  | nil => exact ⟨#[], rfl, rfl⟩
  | cons t r ih =>
    obtain ⟨d, h1, h2⟩ := ih fun x hx => hc x (by simp [hx])
    exact ⟨(⟨t, hc t (by simp)⟩ :: d.toList).toArray, by simp [h1], by simp [h2]⟩
theorem cells9_get : ∀ (L : List (Nat → Nat → Int)) (t : Nat), (cells9 L)[t]? = (L[t / 9]?).bind fun x => (cell9 x)[t % 9]?
  | [], t => by simp [cells9]
  | x :: r, t => by
    have e : cells9 (x :: r) = cell9 x ++ cells9 r := by simp [cells9]
    rw [e]
    by_cases h : t < 9
    · rw [List.getElem?_append_left (by simpa [cell9] using h), Nat.div_eq_of_lt h, Nat.mod_eq_of_lt h]; rfl
    · obtain ⟨s, rfl⟩ : ∃ s, t = s + 9 := ⟨t - 9, by omega⟩
      rw [List.getElem?_append_right (by simp [cell9]), show s + 9 - (cell9 x).length = s by simp [cell9], cells9_get r s, Nat.add_div_right s (by omega), Nat.add_mod_right, List.getElem?_cons_succ]

theorem flat_cells9 (d : Array CM) : (flatK encM 9 d).toList = cells9 (d.toList.map (·.1)) := by
  apply List.ext_getElem?
  intro t
  by_cases h : t < d.size * 9
  · have h9 : t / 9 < d.size := by omega
    have hm : t % 9 < 9 := Nat.mod_lt _ (by omega)
    rw [cells9_get, List.getElem?_map, Array.getElem?_toList, Array.getElem?_toList, Array.getElem?_eq_getElem h9, Array.getElem?_eq_getElem (by simpa using h)]
    have hg := get_flatK encM 9 d t h
    rw [getElem!_pos (flatK encM 9 d) t (by simpa using h), getElem!_pos d (t / 9) h9] at hg
    rw [hg]
    show some _ = (cell9 d[t / 9].1)[t % 9]?
    have hl : t % 9 < (cell9 d[t / 9].1).length := by simpa [cell9] using hm
    rw [List.getElem?_eq_getElem hl]
    unfold encM
    rw [getElem!_pos (cell9 d[t / 9].1) (t % 9) hl]
  · rw [List.getElem?_eq_none (by simp; omega), List.getElem?_eq_none (by rw [cells9_len]; simp; omega)]

theorem put_take9 (F cur : Array Value) (h : F.size ≤ cur.size) : (putCells id 0 F cur).toList.take F.size = F.toList := by
  apply List.ext_getElem?
  intro t
  by_cases ht : t < F.size
  · rw [List.getElem?_take_of_lt ht, Array.getElem?_toList, Array.getElem?_toList, Array.getElem?_eq_getElem (by simp [putCells]; omega), Array.getElem?_eq_getElem ht]
    simp [putCells, ht]
  · rw [List.getElem?_eq_none (by simp; omega), List.getElem?_eq_none (by simp; omega)]

theorem heap_sort9 (w : World) (n g : Nat) (d : Array CM) (os : Array Obj) : (sortWorldK encM 9 w g 0 n d os).heap = w.heap.modify g (onCells (putCells id 0 (flatK encM 9 d))) ++ os := rfl
theorem sorted_owns9 {w : World} {base g cap : Nat} {O : List (Nat → Nat → Int)} (h : w.ownsRow base 56 9 (.slice (some ⟨g, 0, none⟩) O.length cap) O.length (cells9 O)) (n : Nat) (d : Array CM) (os : Array Obj) (hd : d.size = O.length) :
    (sortWorldK encM 9 w g 0 n d os).ownsRow base 56 9 (.slice (some ⟨g, 0, none⟩) (d.toList.map (·.1)).length cap) (d.toList.map (·.1)).length (cells9 (d.toList.map (·.1))) ∧ w.grownBy (sortWorldK encM 9 w g 0 n d os) (some g) := by
  obtain ⟨_, ⟨hv, _⟩ | ⟨g', cap', cur, hv, hb, hg, hc1, hc2, hsz, htk⟩⟩ := h
  · simp at hv
  · simp at hv
    obtain ⟨rfl, rfl⟩ := hv
    have hlt : g < w.heap.size := (Array.getElem?_eq_some_iff.1 hg).1
    have hlen : (d.toList.map (·.1)).length = O.length := by simp [hd]
    have hheap : (sortWorldK encM 9 w g 0 n d os).heap[g]? = some (.cells (putCells id 0 (flatK encM 9 d) cur) 56 (0, 0)) := by
      rw [heap_sort9, Array.getElem?_append_left (by simpa using hlt), Array.getElem?_modify, if_pos rfl, hg]
      rfl
    refine ⟨⟨by rw [cells9_len], .inr ⟨g, cap, _, rfl, hb, hheap, by omega, hc2, by simp [putCells, hsz], ?_⟩⟩, ⟨rfl, rfl, rfl, ?_, fun k hk hne => ?_⟩⟩
    · rw [← flat_cells9, ← put_take9 (flatK encM 9 d) cur (by simp; omega)]
      simp
    · rw [heap_sort9]
      simp
    · rw [heap_sort9, Array.getElem?_append_left (by simpa using hk), Array.getElem?_modify, if_neg (fun e => hne (by rw [e]))]

theorem owns_holds9 {w : World} {base g cap : Nat} {O : List (Nat → Nat → Int)} (h : w.ownsRow base 56 9 (.slice (some ⟨g, 0, none⟩) O.length cap) O.length (cells9 O)) (d : Array CM) (hd : d.toList.map (·.1) = O) : HoldsK encM 9 w g 0 d ∧ g < w.heap.size := by
  obtain ⟨_, ⟨hv, _⟩ | ⟨g', cap', cur, hv, hb, hg, hc1, hc2, hsz, htk⟩⟩ := h
  · simp at hv
  · simp at hv
    obtain ⟨rfl, rfl⟩ := hv
    refine ⟨fun j hj => ?_, (Array.getElem?_eq_some_iff.1 hg).1⟩
    have hj' : j < O.length * 9 := by rw [← hd]; simpa using hj
    have hjc : j < cur.size := by
      have : O.length * 9 ≤ cap * 9 := Nat.mul_le_mul_right 9 hc1
      omega
    have hv : (flatK encM 9 d)[j]! = cur[j] := by
      rw [getElem!_pos (flatK encM 9 d) j hj]
      have e : (flatK encM 9 d).toList = cur.toList.take (O.length * 9) := by rw [flat_cells9, hd, htk]
      have e2 := congrArg (fun l => l[j]?) e
      simp only [List.getElem?_take_of_lt hj', Array.getElem?_toList] at e2
      rw [Array.getElem?_eq_getElem hj, Array.getElem?_eq_getElem hjc] at e2
      simpa using e2
    refine ⟨?_, ?_⟩
    · rw [hv]
      simp [World.cell?, hg, hjc]
    · simp [World.frozen?, hg]
end Go.Proofs.Ytabfdohmgmdgeaa
