/-
  SORTING TERMS, in plain mathematics, and what an array holds behind it. Conditions: as each theorem states.
-/
import Derived.Test.YtphgpadpffigjaaPw
import Derived.Shelf.SlSortCmp.InsertionK
namespace Go.Proofs.Ytphgpadpffigjaa
open Go.RowKit Go.Sort Go.Shelf Go.Lib

abbrev TB := { t : Tm // byte3 (tmE t) }
instance : Inhabited TB := ⟨⟨(0, 0, 0, 0), by simp [byte3, tmE]⟩⟩
def encT (x : TB) : List Value := cell4 x.1
def cfT (x y : TB) : Int := cmpE (tmE x.1) (tmE y.1)

theorem cmpE_lt (a b : Int × Int × Int) : cmpE a b < 0 ↔ capd (a.1 + a.2.1 + a.2.2) < capd (b.1 + b.2.1 + b.2.2) ∨ capd (a.1 + a.2.1 + a.2.2) = capd (b.1 + b.2.1 + b.2.2) ∧ (b.1 < a.1 ∨ b.1 = a.1 ∧ b.2.1 < a.2.1) := by
  unfold cmpE or3 cmpI
  generalize capd (a.1 + a.2.1 + a.2.2) = u
  generalize capd (b.1 + b.2.1 + b.2.2) = v
  rcases Int.lt_trichotomy u v with h | h | h
  · simp [h]
  · subst h
    rcases Int.lt_trichotomy b.1 a.1 with h | h | h
    · simp [h]
    · rw [h]
      rcases Int.lt_trichotomy b.2.1 a.2.1 with h' | h' | h'
      · simp [h']
      · simp [h']
      · have h1 : ¬ b.2.1 < a.2.1 := by omega
        simp [h', h1]
    · have h1 : ¬ b.1 < a.1 := by omega
      have h2 : ¬ b.1 = a.1 := by omega
      simp [h, h1, h2]
  · have h1 : ¬ u < v := by omega
    have h2 : ¬ u = v := by omega
    simp [h, h1, h2]
theorem swoT : SWO (ltOf cfT) where
  irrefl x := by unfold ltOf cfT; rw [decide_eq_false_iff_not, cmpE_lt]; omega
  trans x y z h1 h2 := by unfold ltOf cfT at *; rw [decide_eq_true_eq, cmpE_lt] at *; omega
  ntrans x y z h1 h2 := by unfold ltOf cfT at *; rw [decide_eq_false_iff_not, cmpE_lt] at *; omega

theorem asc_sorted (d : Array TB) (hs : SortedIn (ltOf cfT) 0 d.size d) (hn : d.toList.Pairwise fun a b => tmE a.1 ≠ tmE b.1) (h12 : ∀ x ∈ d.toList, x.1.1 + x.1.2.1 + x.1.2.2.1 ≤ 12) : Asc (d.toList.map (·.1)) := by
  unfold Asc
  rw [List.pairwise_map, List.pairwise_iff_getElem]
  intro i j hi hj hij
  have hi' : i < d.size := by simpa using hi
  have hj' : j < d.size := by simpa using hj
  have h := hs i j (Nat.zero_le _) hij hj'
  rw [getElem!_pos d i hi', getElem!_pos d j hj'] at h
  have hne := List.pairwise_iff_getElem.1 hn i j hi hj hij
  have a1 := h12 _ (List.getElem_mem hi)
  have a2 := h12 _ (List.getElem_mem hj)
  simp only [Array.getElem_toList] at hne a1 a2 ⊢
  unfold ltOf cfT at h
  rw [decide_eq_false_iff_not, Int.not_lt] at h
  have hb := cmpE_before (tmE d[j].1) (tmE d[i].1) (by simpa [tmE] using a2) (by simpa [tmE] using a1)
  rw [decide_eq_true h] at hb
  rcases before_total (tmE d[i].1) (tmE d[j].1) with h' | h' | h'
  · exact h'
  · exact absurd h' hne
  · rw [h'] at hb; exact absurd hb (by simp)

theorem cells4_get : ∀ (L : List Tm) (t : Nat), (cells4 L)[t]? = (L[t / 4]?).bind fun x => (cell4 x)[t % 4]?
  | [], t => by simp [cells4]
  | x :: r, t => by
    have e : cells4 (x :: r) = cell4 x ++ cells4 r := by simp [cells4]
    rw [e]
    by_cases h : t < 4
    · rw [List.getElem?_append_left (by simpa [cell4] using h), Nat.div_eq_of_lt h, Nat.mod_eq_of_lt h]; rfl
    · obtain ⟨s, rfl⟩ : ∃ s, t = s + 4 := ⟨t - 4, by omega⟩
      rw [List.getElem?_append_right (by simp [cell4]), show s + 4 - (cell4 x).length = s by simp [cell4], cells4_get r s, Nat.add_div_right s (by omega), Nat.add_mod_right, List.getElem?_cons_succ]
theorem cells4_len (L : List Tm) : (cells4 L).length = L.length * 4 := by
  induction L with
  | nil => rfl
  | cons x r ih => simp [cells4, cell4] at ih ⊢; omega

theorem flat_cells (d : Array TB) : (flatK encT 4 d).toList = cells4 (d.toList.map (·.1)) := by
  apply List.ext_getElem?
  intro t
  by_cases h : t < d.size * 4
  · have h4 : t / 4 < d.size := by omega
    have hm : t % 4 < 4 := Nat.mod_lt _ (by omega)
    rw [cells4_get, List.getElem?_map, Array.getElem?_toList, Array.getElem?_toList, Array.getElem?_eq_getElem h4, Array.getElem?_eq_getElem (by simpa using h)]
    have hg := get_flatK encT 4 d t h
    rw [getElem!_pos (flatK encT 4 d) t (by simpa using h), getElem!_pos d (t / 4) h4] at hg
    rw [hg]
    show some _ = (cell4 d[t / 4].1)[t % 4]?
    have hl : t % 4 < (cell4 d[t / 4].1).length := by simpa [cell4] using hm
    rw [List.getElem?_eq_getElem hl]
    unfold encT
    rw [getElem!_pos (cell4 d[t / 4].1) (t % 4) hl]
  · rw [List.getElem?_eq_none (by simp; omega), List.getElem?_eq_none (by rw [cells4_len]; simp; omega)]

theorem put_take (F cur : Array Value) (h : F.size ≤ cur.size) : (putCells id 0 F cur).toList.take F.size = F.toList := by
  apply List.ext_getElem?
  intro t
  by_cases ht : t < F.size
  · rw [List.getElem?_take_of_lt ht, Array.getElem?_toList, Array.getElem?_toList, Array.getElem?_eq_getElem (by simp [putCells]; omega), Array.getElem?_eq_getElem ht]
    simp [putCells, ht]
  · rw [List.getElem?_eq_none (by simp; omega), List.getElem?_eq_none (by simp; omega)]

theorem heap_sort (w : World) (n g : Nat) (d : Array TB) (os : Array Obj) : (sortWorldK encT 4 w g 0 n d os).heap = w.heap.modify g (onCells (putCells id 0 (flatK encT 4 d))) ++ os := rfl
theorem sorted_owns {w : World} {base g cap : Nat} {O : List Tm} (h : w.ownsRow base 92 4 (.slice (some ⟨g, 0, none⟩) O.length cap) O.length (cells4 O)) (n : Nat) (d : Array TB) (os : Array Obj) (hd : d.size = O.length) :
    (sortWorldK encT 4 w g 0 n d os).ownsRow base 92 4 (.slice (some ⟨g, 0, none⟩) (d.toList.map (·.1)).length cap) (d.toList.map (·.1)).length (cells4 (d.toList.map (·.1))) ∧ w.grownBy (sortWorldK encT 4 w g 0 n d os) (some g) := by
  obtain ⟨_, ⟨hv, _⟩ | ⟨g', cap', cur, hv, hb, hg, hc1, hc2, hsz, htk⟩⟩ := h
  · simp at hv
  · simp at hv
    obtain ⟨rfl, rfl⟩ := hv
    have hlt : g < w.heap.size := (Array.getElem?_eq_some_iff.1 hg).1
    have hlen : (d.toList.map (·.1)).length = O.length := by simp [hd]
    have hheap : (sortWorldK encT 4 w g 0 n d os).heap[g]? = some (.cells (putCells id 0 (flatK encT 4 d) cur) 92 (0, 0)) := by
      rw [heap_sort, Array.getElem?_append_left (by simpa using hlt), Array.getElem?_modify, if_pos rfl, hg]
      rfl
    refine ⟨⟨by rw [cells4_len], .inr ⟨g, cap, _, rfl, hb, hheap, by omega, hc2, by simp [putCells, hsz], ?_⟩⟩, ⟨rfl, rfl, rfl, ?_, fun k hk hne => ?_⟩⟩
    · rw [← flat_cells, ← put_take (flatK encT 4 d) cur (by simp; omega)]
      simp
    · rw [heap_sort]
      simp
    · rw [heap_sort, Array.getElem?_append_left (by simpa using hk), Array.getElem?_modify, if_neg (fun e => hne (by rw [e]))]

theorem owns_holds {w : World} {base g cap : Nat} {O : List Tm} (h : w.ownsRow base 92 4 (.slice (some ⟨g, 0, none⟩) O.length cap) O.length (cells4 O)) (d : Array TB) (hd : d.toList.map (·.1) = O) : HoldsK encT 4 w g 0 d ∧ g < w.heap.size := by
  obtain ⟨_, ⟨hv, _⟩ | ⟨g', cap', cur, hv, hb, hg, hc1, hc2, hsz, htk⟩⟩ := h
  · simp at hv
  · simp at hv
    obtain ⟨rfl, rfl⟩ := hv
    refine ⟨fun j hj => ?_, (Array.getElem?_eq_some_iff.1 hg).1⟩
    have hj' : j < O.length * 4 := by rw [← hd]; simpa using hj
    have hjc : j < cur.size := by
      have : O.length * 4 ≤ cap * 4 := Nat.mul_le_mul_right 4 hc1
      omega
    have hv : (flatK encT 4 d)[j]! = cur[j] := by
      rw [getElem!_pos (flatK encT 4 d) j hj]
      have e : (flatK encT 4 d).toList = cur.toList.take (O.length * 4) := by rw [flat_cells, hd, htk]
      have e2 := congrArg (fun l => l[j]?) e
      simp only [List.getElem?_take_of_lt hj', Array.getElem?_toList] at e2
      rw [Array.getElem?_eq_getElem hj, Array.getElem?_eq_getElem hjc] at e2
      simpa using e2
    refine ⟨?_, ?_⟩
    · rw [hv]
      simp [World.cell?, hg, hjc]
    · simp [World.frozen?, hg]
end Go.Proofs.Ytphgpadpffigjaa
