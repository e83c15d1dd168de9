/-
  MATRICES LESS THE UNIT as lists; 'spec.l06Change'. Conditions: as each theorem states.
-/
import Derived.Test.YtbahejlgfpilnaaMra
import Derived.Test.YtbahejlgfpilnaaEy
import Derived.Test.YtbahejlgfpilnaaLc
namespace Go.Proofs.Ytbahejlgfpilnaa
open Go.RowKit Go.Sort EchM

/-- A matrix less the unit; its rows. -/
def chgF (p : Int) (g : Nat → Nat → Int) (i j : Nat) : Int := if i = j then (g i j - 1) % p else g i j
def chgR (p : Int) (n : Nat) (g : Nat → Nat → Int) (i : Nat) : List Int := rowF n (chgF p g i)
def chgL (p : Int) (n : Nat) (g : Nat → Nat → Int) : List (List Int) := (List.range n).map (chgR p n g)
theorem chgL_len (p : Int) (n : Nat) (g : Nat → Nat → Int) : (chgL p n g).length = n := by simp [chgL]
theorem chgF_in {p : Int} {g : Nat → Nat → Int} {i j : Nat} (h2 : 2 ≤ p) (hg : 0 ≤ g i j ∧ g i j < p) : 0 ≤ chgF p g i j ∧ chgF p g i j < p := by
  unfold chgF
  split
  · exact ⟨Int.emod_nonneg _ (by omega), Int.emod_lt_of_pos _ (by omega)⟩
  · exact hg
theorem chgL_in {p : Int} {n : Nat} {g : Nat → Nat → Int} (h2 : 2 ≤ p) (hn : n ≤ 3) (hg : ∀ i, i < 3 → ∀ j, j < 3 → 0 ≤ g i j ∧ g i j < p) : ∀ r ∈ chgL p n g, InP p n r := fun r hr => by
  obtain ⟨i, hi, rfl⟩ := List.mem_map.1 hr
  rw [List.mem_range] at hi
  refine ⟨len_rowF _ _, fun a ha => ?_⟩
  obtain ⟨j, hj, rfl⟩ := List.mem_map.1 ha
  rw [List.mem_range] at hj
  exact chgF_in h2 (hg i (by omega) j (by omega))
theorem rowF_snoc (F : Nat → Int) (j : Nat) : rowF (j + 1) F = rowF j F ++ [F j] := by simp [rowF, List.range_succ]
theorem ownM_one (w : World) (x : Int) : OwnL (w.alloc (.cells #[.int .i64 x] 2)) w.heap.size (.slice (some ⟨w.heap.size, 0, none⟩) 1 1) [x] :=
  ⟨rfl, .inr ⟨w.heap.size, 1, _, rfl, Nat.le_refl _, heap_alloc_new w _, Nat.le_refl _, by simp [maxLen], rfl, rfl⟩⟩
theorem ownM_nil (w : World) : OwnL (w.alloc (.cells #[] 2)) w.heap.size (.slice (some ⟨w.heap.size, 0, none⟩) 0 0) [] :=
  ⟨rfl, .inr ⟨w.heap.size, 0, _, rfl, Nat.le_refl _, heap_alloc_new w _, Nat.le_refl _, by simp [maxLen], rfl, rfl⟩⟩

set_option maxRecDepth 8000 in
set_option maxHeartbeats 8000000 in
theorem schg (p : Int) (n : Nat) (g : Nat → Nat → Int) (w : World) (h2 : 2 ≤ p) (h13 : p ≤ 13) (hn : n ≤ 3) (hg : ∀ i, i < 3 → ∀ j, j < 3 → 0 ≤ g i j ∧ g i j < p) :
    Calls Try.prog 65 #[.int .i64 p, .int .i64 (n : Int), mv g] w fun e w' => ∃ v', e = .returned v' ∧ OwnR w' w.heap.size v' (chgL p n g) ∧ Below w.heap.size w w' := by
  obtain ⟨i1, hi', hz0', hz1', hz2'⟩ := info_parts einfoR
  obtain ⟨W, hW, rW, hbW⟩ : ∃ W, W = w.alloc (.cells #[.int .u8 (g 0 0), .int .u8 (g 0 1), .int .u8 (g 0 2), .int .u8 (g 1 0), .int .u8 (g 1 1), .int .u8 (g 1 2), .int .u8 (g 2 0), .int .u8 (g 2 1), .int .u8 (g 2 2)] 37) ∧ W.rowIs w.heap.size 37 9 (mF g) ∧ Below w.heap.size w W := ⟨_, rfl, mbox w g _, ebox1 _ _⟩
  have hWs : W.heap.size = w.heap.size + 1 := by rw [hW]; simp
  have hnil : ∀ t, t = 52 → OwnR (W.alloc (.cells #[] t)) W.heap.size (.slice (some ⟨w.heap.size + 1, 0, none⟩) 0 0) [] := fun t ht => by rw [← hWs]; exact OwnR.nil (Nat.le_refl _) ht
  have HNIL := Lib.hid (hnil _ rfl)
  have hWs1 : w.heap.size + 1 ≤ W.heap.size := by omega
  have HG := Lib.hid hg
  clear hg hWs hnil
  unfold mv
  go_enter Try.func65, Try.ntmps65
  go_wp2_with fail
  rw [← hW]
  clear hW
  go_loopw [7, 8] (fun s i wr => ∃ (k : Nat), k ≤ n ∧ i = .int .i64 k ∧ OwnR wr W.heap.size s ((List.range k).map (chgR p n g)) ∧ Below W.heap.size W wr) (fun _ i _ => n - (intOf i).toNat)
  case atStart => exact ⟨0, by omega, rfl, HNIL.out, ebox1 _ _⟩
  case round =>
    clear HNIL
    obtain ⟨k, hk, rfl, hO, hb⟩ := hrel
    by_cases hlt : k < n
    · have hlt' : (k : Int) < (n : Int) := by omega
      obtain ⟨wo, hwo⟩ : ∃ wo : World, wo = wr := ⟨_, rfl⟩
      rw [← hwo] at hO hb
      have hm0 := ownM_nil wo
      have hm1 := ebox1 wo (.cells #[] 2)
      have hs := hb.size
      obtain ⟨V, hV⟩ : ∃ V, V = wo.alloc (.cells #[] 2) := ⟨_, rfl⟩
      rw [← hV] at hm0 hm1
      have HOK := Lib.hid (And.intro hO hb)
      clear hO hb
      go_upto_region 6 with fail
      rw [← hwo, ← hV]
      clear hV hwo
      go_wp2_with fail
      go_loopw [9, 10] (fun s i wr => ∃ (j : Nat), j ≤ n ∧ i = .int .i64 j ∧ OwnL wr wo.heap.size s (rowF j (chgF p g k)) ∧ Below wo.heap.size wo wr) (fun _ i _ => n - (intOf i).toNat)
      case atStart => exact ⟨0, by omega, rfl, hm0, hm1⟩
      case round =>
        clear hm0 hm1
        obtain ⟨j, hj, rfl, hR, hB⟩ := hrel
        obtain ⟨ra, rc, rfl⟩ := hR.shape
        have hln : Hid ((rowF j (chgF p g k)).length = j) := Lib.hid (len_rowF _ _)
        have HST := Lib.hid (rowF_snoc (chgF p g k) j)
        obtain ⟨O, hO⟩ : ∃ O, rowF j (chgF p g k) = O := ⟨_, rfl⟩
        have HOO := Lib.hid hO
        rw [hO] at hR hln HST
        rw [hO]
        clear hO
        have hsr := hB.size
        by_cases hjt : j < n
        · have hjt' : (j : Int) < (n : Int) := by omega
          have l0 := mcell (erow_below rW (HOK.out.2.trans (hB.mono hs)) rW.lt) (i := k) (j := j) (by omega) (by omega)
          obtain ⟨x0, x1⟩ := HG.out k (by omega) j (by omega)
          obtain ⟨X, hX⟩ : ∃ X, chgF p g k j = X := ⟨_, rfl⟩
          rw [hX] at HST
          have hR1 := hR.below (ebox1 wr (.cells #[.int .i64 X] 2))
          have hB1 := hB.trans ((ebox1 wr (.cells #[.int .i64 X] 2)).mono hsr)
          have hnw := (ownM_one wr X).slice
          by_cases e : k = j
          · subst e
            have hXe : (g k k - 1) % p = X := by rw [← hX]; unfold chgF; rw [if_pos rfl]
            have HM := Lib.hid (emod_any p (g k k - 1) wr h2 h13 (by omega) (by omega))
            rw [hXe] at HM
            clear hXe hX
            generalize g k k = x at l0 x0 x1 HM
            go_wp2_with fail
            ((with_reducible refine HM.out.mono ?_); rintro e w1 ⟨rfl, rfl⟩)
            go_wp2_with (at_builtin; refine wpList_append_ints _ rfl _ _ rfl wo.heap.size (.slice ra O.length rc) O rfl hR1 (.slice (some ⟨wr.heap.size, 0, none⟩) 1 1) [X] rfl hnw (by have := hln.out; simp; omega) hB1.size ?_)
            intro v1 w6 ho1 hg6
            have hb6 : Below wo.heap.size wo w6 := hB1.grown hg6 hB1.size (fun q hq => (World.ownsRow.lt hR1 q hq).1)
            rw [← HST.out] at ho1
            clear hR hR1 hB1 hg6
            go_wp2_with fail
            go_roundw
            case rel => exact ⟨k + 1, by omega, by go_num, ho1, hb6⟩
            case measure => simp [intOf]; omega
          · have e' : ¬ (k : Int) = (j : Int) := by omega
            have e2 : ((k : Int) == (j : Int)) = false := by simp; omega
            have hXe : g k j = X := by rw [← hX]; unfold chgF; rw [if_neg e]
            rw [hXe] at l0 x0 x1
            clear hXe hX
            go_wp2_with (at_builtin; refine wpList_append_ints _ rfl _ _ rfl wo.heap.size (.slice ra O.length rc) O rfl hR1 (.slice (some ⟨wr.heap.size, 0, none⟩) 1 1) [X] rfl hnw (by have := hln.out; simp; omega) hB1.size ?_)
            intro v1 w6 ho1 hg6
            have hb6 : Below wo.heap.size wo w6 := hB1.grown hg6 hB1.size (fun q hq => (World.ownsRow.lt hR1 q hq).1)
            rw [← HST.out] at ho1
            clear hR hR1 hB1 hg6
            go_wp2_with fail
            go_roundw
            case rel => exact ⟨j + 1, by omega, by go_num, ho1, hb6⟩
            case measure => simp [intOf]; omega
        · obtain rfl : j = n := by omega
          obtain ⟨hQ, hbQ⟩ := HOK.out
          have hQw := hQ.below hB
          have hbw := hbQ.trans (hB.mono hs)
          have hln2 : Hid (((List.range k).map (chgR p j g)).length = k) := Lib.hid (by simp)
          have HPS : Hid ((List.range k).map (chgR p j g) ++ [O] = (List.range (k + 1)).map (chgR p j g)) := Lib.hid (by
            rw [List.range_succ, List.map_append, ← HOO.out]; rfl)
          obtain ⟨P, hP⟩ : ∃ P, (List.range k).map (chgR p j g) = P := ⟨_, rfl⟩
          rw [hP] at hQ hQw hln2 HPS
          obtain ⟨oa, oc, rfl⟩ := hQw.shape
          obtain ⟨us0, y1, y2, y3⟩ := hQw
          have hRb := (hR.mono hs).below (ebox1 wr (.cells #[.slice ra O.length rc] 52))
          have hbw1 := hbw.trans ((ebox1 wr (.cells #[.slice ra O.length rc] 52)).mono hbw.size)
          clear hQ hbQ HOK hB hR hP
          go_wp2_with (at_builtin; refine wpList_append_lies _ rfl _ _ 24 rfl W.heap.size 52 i1 _ 1 24 Try.underlying24 hi' hz0' hz1' hz2' rfl (by decide) (.slice oa P.length oc) P.length us0 rfl (World.ownsRow.alloc y2 _) ⟨wr.heap.size, 0, none⟩ 1 1 [.slice ra O.length rc] rfl rfl (World.news_of_block (cs := #[.slice ra O.length rc]) (t := 52) (fr := (0, 0)) (heap_alloc_new wr _)) (by simp [Value.oneCell']) (by omega) (by have := hln2.out; unfold maxLen; omega) (by have := hln2.out; omega) hbw1.size _ rfl ?_)
          intro g6 cap6 w6 hown6 hgrow6 hat6 hlt6
          have hB6 : Below W.heap.size W w6 := hbw1.grown hgrow6 hbw1.size (fun q hq => (World.ownsRow.lt y2 q hq).1)
          have hN6 : OwnR w6 W.heap.size (.slice (some ⟨g6, 0, none⟩) (P.length + 1) cap6) (P ++ [O]) := OwnR.push y1 (World.ownsRow.alloc y2 _) (fun q hq hq' => (y3 q hq hq').below (ebox1 wr _)) hRb hown6 hgrow6
          rw [HPS.out] at hN6
          clear y1 y2 y3 hown6 hgrow6 hat6 hRb hbw hbw1
          go_wp2_with fail
          go_roundw
          case rel => exact ⟨k + 1, by omega, by go_num, hN6, hB6⟩
          case measure => simp [intOf]; omega
    · obtain rfl : k = n := by omega
      have hend := hbW.trans (hb.mono hbW.size)
      have hOe := hO.mono hbW.size
      obtain ⟨oa, oc, rfl⟩ := hO.shape
      go_wp2_with fail
      go_ret
      exact ⟨_, rfl, hOe, hend⟩
end Go.Proofs.Ytbahejlgfpilnaa
