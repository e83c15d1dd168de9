/-
  CYCLES of permutations: the program's walk; both functions. Conditions: as each theorem states.
-/
import Derived.Test.YtgbnlnpffhlipaaRv
import Derived.Test.YtgbnlnpffhlipaaRw
namespace Go.Proofs.Ytgbnlnpffhlipaa
open Go.RowKit Go.Sort EchM

theorem cyS_pos {l : List Int} (hl : 1 ≤ l.length) : ∀ k, 1 ≤ k → 0 < (cyS l k).2.length
  | 0, h => by omega
  | 1, _ => by
    obtain ⟨n, hn⟩ : ∃ n, l.length = n + 1 := ⟨l.length - 1, by omega⟩
    simp [cyS, hn, walkC]
  | k + 2, _ => by
    have := cyS_pos hl (k + 1) (by omega)
    rw [cyS]
    split
    · simp
    · exact this
theorem einfoB : (Try.prog.info? 4).map (fun i => (i.zero, i.size, i.bytes)) = some (some (.bool false), 1, 1) := by kernel_rfl
theorem sort_rev {l P : List Int} (hp : P.Perm (cyS l l.length).2) (hs : SortTo P P.length) : (List.range P.length).map (fun q => nth P (P.length - 1 - q)) = cyD l l.length := by
  have hs' : P.Pairwise fun a b => a ≤ b := by
    rw [List.pairwise_iff_getElem]
    intro a b ha hb hab
    have := hs a b (by omega) hb
    rwa [nth_lt ha, nth_lt hb] at this
  rw [← cyc_rev hp hs']
  refine List.ext_getElem (by simp) fun q hq1 hq2 => ?_
  simp at hq1
  simp [List.getElem_reverse, nth_lt (show P.length - 1 - q < P.length by omega)]

set_option maxRecDepth 8000 in
set_option maxHeartbeats 8000000 in
theorem icyc (v : Value) (l : List Int) (w : World) (hl1 : 1 ≤ l.length) (hl8 : l.length ≤ 8) (hS : Sl w v l) (hp : ∀ q, q < l.length → 0 ≤ nth l q ∧ nth l q < l.length) :
    Calls Try.prog 27 #[v] w fun e w' => ∃ v', e = .returned v' ∧ OwnV w' w.heap.size v' (cyD l l.length) ∧ Below w.heap.size w w' := by
  obtain ⟨j0, hj, hy0, hy1, hy2⟩ := info_parts einfoB
  obtain ⟨i0, hi, hz0, hz1, hz2⟩ := info_parts einfoI
  obtain ⟨a, cap, rfl, hc⟩ := id hS
  obtain ⟨b, off, rfl, hbb, hT⟩ : ∃ b off, a = some ⟨b, off, none⟩ ∧ b < w.heap.size ∧ Cs w b off l := by
    rcases hc with rfl | h
    · simp at hl1
    · exact h
  have HP := Lib.hid hp
  have hmk : ∀ w, (Instr.makeSlice 48 (.int .i64 (l.length : Int)) (.int .i64 (l.length : Int))).run Try.prog w = .ok (.slice (some ⟨w.heap.size, 0, none⟩) l.length l.length) (w.alloc (.cells (madeCells #[.bool false] l.length) 4)) := fun w => by
    have h := run_make (P := Try.prog) w 48 4 j0 _ Try.underlying48 hj hy0 .i64 .i64 (l.length : Int) (l.length : Int) (by omega) (by omega) (by rw [hy2]; omega) (by omega)
    rw [hy1] at h
    simpa [Value.cells] using h
  obtain ⟨W, hW, rW, hbW⟩ : ∃ W, W = w.alloc (.cells (madeCells #[.bool false] l.length) 4) ∧ W.rowIs w.heap.size 4 l.length (fun q => .bool ((cyS l 0).1 q)) ∧ Below w.heap.size w W :=
    ⟨_, rfl, World.rowIs_made w (.bool false) l.length 4, ebox1 _ _⟩
  clear hp hc hj hy0 hy1 hy2
  go_enter Try.func27, Try.ntmps27
  go_upto_region 2 with fail
  rw [← hW]
  clear hW hmk
  go_wp2_with fail
  go_loopw [4, 13] (fun s i wr => ∃ (k : Nat), k ≤ l.length ∧ i = .int .i64 k ∧ OwnL wr (w.heap.size + 1) s (cyS l k).2 ∧ wr.rowIs w.heap.size 4 l.length (fun q => .bool ((cyS l k).1 q)) ∧ Below w.heap.size w wr) (fun _ i _ => l.length - (intOf i).toNat)
  case atStart => exact ⟨0, by omega, rfl, World.ownsRow_nil _ _ _ _, rW, hbW⟩
  case round =>
    clear rW hbW
    obtain ⟨k, hk, rfl, hO, rM, hbel⟩ := hrel
    obtain ⟨sa, sc, rfl⟩ := hO.shape
    by_cases hlt : k < l.length
    · have hlt' : (k : Int) < (l.length : Int) := by omega
      have HW0 := Lib.hid (WalkTo.start l (cyS l k).1 k)
      have hlen := cyS_len l k
      go_wp2_with fail
      go_loopw [6, 7] (fun c t wr => ∃ (s : Nat → Bool) (q cn : Nat), q < l.length ∧ cn ≤ l.length ∧ c = .int .i64 cn ∧ t = .int .i64 q ∧ Hid (WalkTo l (cyS l k).1 k s q cn) ∧ OwnL wr (w.heap.size + 1) (.slice sa (cyS l k).2.length sc) (cyS l k).2 ∧ wr.rowIs w.heap.size 4 l.length (fun q => .bool (s q)) ∧ Below w.heap.size w wr) (fun c _ _ => l.length - (intOf c).toNat)
      case atStart => exact ⟨(cyS l k).1, k, 0, hlt, by omega, rfl, rfl, HW0, hO, rM, hbel⟩
      case round =>
        clear hO rM hbel HW0
        obtain ⟨s, q, cn, hq, hcn, rfl, rfl, HWT, hO, rM, hbel⟩ := hrel
        have hq8 : (q : Int) < (l.length : Int) := by omega
        cases hs : s q
        · have c0 := bool_at s rM hq hs
          have f0 := rM.frozen q
          have cl := (hT.below hbel hbb) q hq
          obtain ⟨y, hy⟩ : ∃ y : Nat, nth l q = (y : Int) := ⟨(nth l q).toNat, by have := HP.out q hq; omega⟩
          have hyl : y < l.length := by have := HP.out q hq; omega
          rw [← nth_lt hq, hy] at cl
          obtain ⟨n1, n2⟩ := HWT.out.next hs hq
          rw [hy] at n1
          have HN : Hid (WalkTo l (cyS l k).1 k (mkS s q) y (cn + 1)) := Lib.hid n1
          have rows := (rM.set q (.bool true)).congr (g := fun j => .bool (mkS s q j)) (fun j _ => by
            unfold mkS
            split <;> rfl)
          have hneB : (Value.slice sa (cyS l k).2.length sc).ownBlock ≠ some w.heap.size := by
            intro e
            have := (World.ownsRow.lt hO _ e).1
            omega
          have hO2 : OwnL (wr.setCell ⟨w.heap.size, q, none⟩ (.bool true)) (w.heap.size + 1) (.slice sa (cyS l k).2.length sc) (cyS l k).2 :=
            World.ownsRow.kept hO (row := some w.heap.size) ⟨rfl, rfl, rfl, by rw [World.size_setCell]; exact Nat.le_refl _, fun j hj hne => Below.heap_setCell wr ⟨w.heap.size, q, none⟩ (.bool true) j (fun e => hne (by rw [e]))⟩ (.inr hneB)
          have hb2 := hbel.setCell (p := ⟨w.heap.size, q, none⟩) (by simp) (.bool true)
          clear hO rM hbel hneB n1 hy hs
          go_wp2_with fail
          go_roundw
          case rel => exact ⟨mkS s q, y, cn + 1, hyl, n2, by go_num, rfl, HN, hO2, rows, hb2⟩
          case measure => simp [intOf]; omega
        · have c0 := bool_at s rM hq hs
          have HCS := Lib.hid (cyS_next (HWT.out.done hs))
          clear hs
          by_cases hc0 : cn = 0
          · have hcn0 : ¬ (0 : Int) < (cn : Int) := by omega
            have HD2 : Hid ((cyS l (k + 1)).2 = (cyS l k).2) := Lib.hid (by rw [HCS.out]; simp only; rw [if_neg (by omega)])
            have HS2 : Hid ((cyS l (k + 1)).1 = s) := Lib.hid (by rw [HCS.out])
            clear hc0
            generalize (cyS l k).2 = O at *
            go_wp2_with fail
            go_roundw
            case rel => exact ⟨k + 1, by omega, by go_num, by rw [HD2.out]; exact hO, by rw [HS2.out]; exact rM, hbel⟩
            case measure => simp [intOf]; omega
          · have hcn0 : (0 : Int) < (cn : Int) := by omega
            have HD2 : Hid ((cyS l k).2 ++ [(cn : Int)] = (cyS l (k + 1)).2) := Lib.hid (by rw [HCS.out]; simp only; rw [if_pos (by omega)])
            have HS2 : Hid ((cyS l (k + 1)).1 = s) := Lib.hid (by rw [HCS.out])
            clear hc0
            have hOL : (cyS l k).2.length ≤ 8 := by omega
            have hws := rM.lt
            generalize (cyS l k).2 = O at *
            go_wp2_with (at_builtin; refine wpList_append_lies _ rfl _ _ 22 rfl (w.heap.size + 1) 2 i0 _ 1 8 Try.underlying22 hi hz0 hz1 hz2 rfl (by decide) (.slice sa O.length sc) O.length (valsI O) rfl (World.ownsRow.alloc hO _) ⟨wr.heap.size, 0, none⟩ 1 1 [.int .i64 (cn : Int)] rfl rfl (World.news_of_block (cs := #[.int .i64 (cn : Int)]) (t := 2) (fr := (0, 0)) (heap_alloc_new _ _)) (by simp [Value.oneCell']) (by omega) (by unfold maxLen; omega) (by omega) (by simp; omega) _ rfl ?_)
            intro gg cap3 w3 hown3 hgrow3 hat3 hlt3
            have hb3 : Below (w.heap.size + 1) wr w3 := ((ebox1 wr (.cells #[.int .i64 (cn : Int)] 2)).mono (by omega)).grown hgrow3 (by simp; omega) (fun q hq => (World.ownsRow.lt hO q hq).1)
            have hO3 : OwnL w3 (w.heap.size + 1) (.slice (some ⟨gg, 0, none⟩) (O.length + 1) cap3) (O ++ [(cn : Int)]) := by
              have h := hown3
              rw [valsI_snoc] at h
              simpa [OwnL] using h
            have hrow3 := erow_below rM hb3 (Nat.lt_succ_self _)
            have hfr3 := hbel.trans (hb3.mono (Nat.le_succ _))
            clear hown3 hgrow3 hat3 hb3 hO rM hbel
            rw [HD2.out] at hO3
            go_wp2_with fail
            go_roundw
            case rel => exact ⟨k + 1, by omega, by go_num, hO3, by rw [HS2.out]; exact hrow3, hfr3⟩
            case measure => simp [intOf]; omega
    · obtain rfl : k = l.length := by omega
      obtain ⟨g, cp, hv, hg, hF⟩ := ownV_rowF hO.toV (cyS_pos hl1 _ hl1)
      cases hv
      have hlen := cyS_len l l.length
      have hpos := cyS_pos hl1 _ hl1
      have hle := hbel.size
      have HSR := Lib.hid (fun P hp hs => sort_rev (l := l) (P := P) hp hs)
      clear hO rM
      generalize (cyS l l.length).2 = O at *
      obtain ⟨n, hn⟩ : ∃ n, O.length = n := ⟨_, rfl⟩
      rw [hn] at hF hlen hpos ⊢
      have HNN := Lib.hid hn
      clear hn
      go_wp2_with fail
      ((with_reducible refine (gsortI g n _ O _ HNN.out (by omega) hF).mono ?_); rintro e w4 ⟨rfl, P, hP, hPS, hF4, hg4⟩)
      have hPl : P.length = n := by rw [hP.length_eq, HNN.out]
      have HX := Lib.hid (HSR.out P hP (by rw [hPl]; exact hPS))
      rw [hPl] at HX
      have hb4 := hbel.grown hg4 hle (fun q hq => by simp at hq; omega)
      clear hP hPS hPl hF hg4 hbel
      go_wp2_with fail
      ((with_reducible refine (grev g n _ P _ (by omega) (by omega) hF4).mono ?_); rintro e w5 ⟨rfl, hF5, hg5⟩)
      have hb5 := hb4.grown hg5 hb4.size (fun q hq => by simp at hq; omega)
      go_wp2_with fail
      go_ret
      exact ⟨_, rfl, hF5.toV (by omega) HX.out.symm, hb5⟩
end Go.Proofs.Ytgbnlnpffhlipaa
