/-
  CYCLES of permutations: the model's walk. Conditions: as each theorem states.
-/
import Derived.Test.YtgbnlnpffhlipaaRt
namespace Go.Proofs.Ytgbnlnpffhlipaa
open Go.RowKit Go.Sort EchM

theorem bool_at (f : Nat → Bool) {w : World} {b : Nat} {t : TypeId} {n : Nat} (h : w.rowIs b t n (fun q => .bool (f q))) {q : Nat} (hq : q < n) {x : Bool} (hx : f q = x) : w.cell? ⟨b, q, none⟩ = some (.bool x) := by
  rw [h.cell hq, hx]

set_option maxRecDepth 8000 in
set_option maxHeartbeats 8000000 in
theorem scyc (v : Value) (l : List Int) (w : World) (hl8 : l.length ≤ 8) (hS : Sl w v l) (hp : ∀ q, q < l.length → 0 ≤ nth l q ∧ nth l q < l.length) :
    Calls Try.prog 25 #[v] w fun e w' => ∃ v', e = .returned v' ∧ OwnL w' w.heap.size v' (cyD l l.length) ∧ Below w.heap.size w w' := by
  obtain ⟨a, cap, rfl, hc⟩ := id hS
  have HP := Lib.hid hp
  obtain ⟨W, hW, rW, hoW, hbW⟩ : ∃ W, W = (w.alloc (.cells #[] 2)).alloc (.cells #[.bool false, .bool false, .bool false, .bool false, .bool false, .bool false, .bool false, .bool false] 46) ∧ W.rowIs (w.heap.size + 1) 46 8 (fun q => .bool ((cyS l 0).1 q)) ∧ OwnL W w.heap.size (.slice (some ⟨w.heap.size, 0, none⟩) 0 0) (cyD l 0) ∧ Below w.heap.size w W := by
    refine ⟨_, rfl, ?_, ?_, ebox2 _ _ _⟩
    · have h := World.rowIs_alloc (w.alloc (.cells #[] 2)) #[.bool false, .bool false, .bool false, .bool false, .bool false, .bool false, .bool false, .bool false] 46 (fun q => .bool ((cyS l 0).1 q)) (fun i hi => by
        have hi8 : i = 0 ∨ i = 1 ∨ i = 2 ∨ i = 3 ∨ i = 4 ∨ i = 5 ∨ i = 6 ∨ i = 7 := by simp at hi; omega
        rcases hi8 with rfl | rfl | rfl | rfl | rfl | rfl | rfl | rfl <;> rfl)
      rw [World.size_alloc] at h
      exact h
    · exact World.ownsRow.alloc (ownL_new w [] #[] rfl w.heap.size (Nat.le_refl _) (by simp)) _
  clear hp
  go_enter Try.func25, Try.ntmps25
  go_upto_region 2 with fail
  rw [← hW]
  clear hW
  go_wp2_with fail
  go_loopw [4, 5] (fun s i wr => ∃ (k : Nat), k ≤ l.length ∧ i = .int .i64 k ∧ OwnL wr w.heap.size s (cyD l k) ∧ wr.rowIs (w.heap.size + 1) 46 8 (fun q => .bool ((cyS l k).1 q)) ∧ Below w.heap.size w wr) (fun _ i _ => l.length - (intOf i).toNat)
  case atStart => exact ⟨0, by omega, rfl, hoW, rW, hbW⟩
  case round =>
    clear hoW rW hbW
    obtain ⟨k, hk, rfl, hO, rM, hbel⟩ := hrel
    obtain ⟨sa, sc, rfl⟩ := hO.shape
    by_cases hlt : k < l.length
    · have hlt' : (k : Int) < (l.length : Int) := by omega
      obtain ⟨b, off, rfl, hbb, hT⟩ : ∃ b off, a = some ⟨b, off, none⟩ ∧ b < w.heap.size ∧ Cs w b off l := by
        rcases hc with rfl | h
        · simp at hlt
        · exact h
      have HW0 := Lib.hid (WalkTo.start l (cyS l k).1 k)
      have hlen := cyD_len l k
      have HIN := Lib.hid (cyD_in l k)
      go_wp2_with fail
      go_loopw [6, 7] (fun c t wr => ∃ (s : Nat → Bool) (q cn : Nat), q < l.length ∧ cn ≤ l.length ∧ c = .int .i64 cn ∧ t = .int .i64 q ∧ Hid (WalkTo l (cyS l k).1 k s q cn) ∧ OwnL wr w.heap.size (.slice sa (cyD l k).length sc) (cyD l k) ∧ wr.rowIs (w.heap.size + 1) 46 8 (fun q => .bool (s q)) ∧ Below w.heap.size w wr) (fun c _ _ => l.length - (intOf c).toNat)
      case atStart => exact ⟨(cyS l k).1, k, 0, hlt, by omega, rfl, rfl, HW0, hO, rM, hbel⟩
      case round =>
        clear hO rM hbel HW0
        obtain ⟨s, q, cn, hq, hcn, rfl, rfl, HWT, hO, rM, hbel⟩ := hrel
        have hq8 : (q : Int) < 8 := by omega
        have hq8n : q < 8 := by omega
        cases hs : s q
        · have c0 := bool_at s rM hq8n hs
          have f0 := rM.frozen q
          have cl := (hT.below hbel hbb) q hq
          obtain ⟨y, hy⟩ : ∃ y : Nat, nth l q = (y : Int) := ⟨(nth l q).toNat, by have := HP.out q hq; omega⟩
          have hyl : y < l.length := by have := HP.out q hq; omega
          rw [← nth_lt hq, hy] at cl
          obtain ⟨n1, n2⟩ := HWT.out.next hs hq
          rw [hy] at n1
          have HN : Hid (WalkTo l (cyS l k).1 k (mkS s q) y (cn + 1)) := Lib.hid n1
          have rows := (rM.set q (.bool true)).congr (g := fun j => .bool (mkS s q j)) (fun j _ => by
            unfold mkS
            split <;> rfl)
          have hneB : (Value.slice sa (cyD l k).length sc).ownBlock ≠ some (w.heap.size + 1) := by
            intro e
            obtain ⟨_, ⟨h1, _⟩ | ⟨g, c', cur, h1, _, h2, _⟩⟩ := hO
            · rw [h1] at e
              simp [Value.ownBlock] at e
            · rw [h1] at e
              simp [Value.ownBlock] at e
              subst e
              obtain ⟨cur', h3, _⟩ := rM
              rw [h2] at h3
              simp at h3
          have hO2 : OwnL (wr.setCell ⟨w.heap.size + 1, q, none⟩ (.bool true)) w.heap.size (.slice sa (cyD l k).length sc) (cyD l k) :=
            World.ownsRow.kept hO (row := some (w.heap.size + 1)) ⟨rfl, rfl, rfl, by rw [World.size_setCell]; exact Nat.le_refl _, fun j hj hne => Below.heap_setCell wr ⟨w.heap.size + 1, q, none⟩ (.bool true) j (fun e => hne (by rw [e]))⟩ (.inr hneB)
          have hb2 := hbel.setCell (p := ⟨w.heap.size + 1, q, none⟩) (by simp) (.bool true)
          clear hO rM hbel hneB n1 hy hs
          go_wp2_with fail
          go_roundw
          case rel => exact ⟨mkS s q, y, cn + 1, hyl, n2, by go_num, rfl, HN, hO2, rows, hb2⟩
          case measure => simp [intOf]; omega
        · have c0 := bool_at s rM hq8n hs
          have HCS := Lib.hid (cyS_next (HWT.out.done hs))
          have HCD := Lib.hid (cyD_next (HWT.out.done hs))
          have HDS := Lib.hid (cyD_desc l k)
          clear hs
          generalize cyD l k = O at *
          go_wp2_with fail
          clear c0
          go_loopw [8] (fun t w2 => ∃ (m : Nat), m ≤ O.length ∧ t = .int .i64 m ∧ Hid (∀ j, j < O.length → m ≤ j → nth O j < (cn : Int)) ∧ wr = w2) (fun t _ => (intOf t).toNat)
          case atStart => exact ⟨O.length, by omega, rfl, Lib.hid (fun j hj h => by omega), rfl⟩
          case round =>
            obtain ⟨m, hm, rfl, HL, rfl⟩ := hrel
            by_cases hmm : 0 < m ∧ nth O (m - 1) < (cn : Int)
            · obtain ⟨hm0, hms⟩ := hmm
              obtain ⟨m', hmn⟩ : ∃ m', m = m' + 1 := ⟨m - 1, by omega⟩
              have hk0 : (0 : Int) < (m : Int) := by omega
              have hk1 : (m : Int) - 1 = (m' : Int) := by omega
              have hka : (m' : Int) < (O.length : Int) := by omega
              obtain ⟨g, c', hv, hg1, hg2, hcs⟩ := hO.form (by omega)
              cases hv
              have c1 := hcs m' (by omega)
              rw [← nth_lt (show m' < O.length by omega)] at c1
              rw [show m - 1 = m' by omega] at hms
              have HN : Hid (∀ j, j < O.length → m' ≤ j → nth O j < (cn : Int)) := Lib.hid (fun j hj h => by
                by_cases e : j = m'
                · subst e; exact hms
                · exact HL.out j hj (by omega))
              clear hcs hmn
              generalize nth O m' = X at *
              go_wp2_with fail
              go_roundw
              case rel => exact ⟨m', by omega, by go_num, HN, trivial⟩
              case measure => simp [intOf]; omega
            · have HGE : Hid (∀ j, j < m → (cn : Int) ≤ nth O j) := Lib.hid (fun j hj => by
                have h1 := desc_nth HDS.out (a := j) (b := m - 1) (by omega) (by omega)
                have h2 : ¬ nth O (m - 1) < (cn : Int) := fun h => hmm ⟨by omega, h⟩
                omega)
              have HINS := Lib.hid (insD_at (cn : Int) O m hm HL.out HGE.out)
              obtain ⟨r1, hr1, hS1⟩ := cut_drop hO m hm
              obtain ⟨r2, hr2, hS2⟩ := cut_take hO m hm
              have hlo : O.length ≤ 8 := by omega
              -- the two ways out of the loop, joined by what is read
              have hread : m = 0 ∨ ∃ (m' : Nat) (X : Int) (g c' : Nat), (0 : Int) < (m : Int) ∧ (m : Int) - 1 = (m' : Int) ∧ (m' : Int) < (O.length : Int) ∧ sa = some ⟨g, 0, none⟩ ∧ wr.cell? ⟨g, m', none⟩ = some (.int .i64 X) ∧ ¬ X < (cn : Int) := by
                by_cases hm0 : m = 0
                · exact .inl hm0
                · obtain ⟨m', hmn⟩ : ∃ m', m = m' + 1 := ⟨m - 1, by omega⟩
                  obtain ⟨g, c', hv, hg1, hg2, hcs⟩ := hO.form (by omega)
                  cases hv
                  have c1 := hcs m' (by omega)
                  rw [← nth_lt (show m' < O.length by omega)] at c1
                  refine .inr ⟨m', nth O m', g, sc, by omega, by omega, by omega, rfl, c1, ?_⟩
                  have := HGE.out m' (by omega)
                  omega
              clear hmm
              by_cases hc0 : cn = 0
              · have hcn0 : ¬ (0 : Int) < (cn : Int) := by omega
                have HD2 : Hid (cyD l (k + 1) = O) := Lib.hid (by rw [HCD.out, if_neg (by omega)])
                have HS2 : Hid ((cyS l (k + 1)).1 = s) := Lib.hid (by rw [HCS.out])
                clear hr1 hr2 hS1 hS2 hc0
                rcases hread with hm0 | ⟨m', X, g, c', q0, q1, q2, rfl, q4, q5⟩
                · subst hm0
                  go_wp2_with fail
                  go_roundw
                  case rel => exact ⟨k + 1, by omega, by go_num, by rw [HD2.out]; exact hO, by rw [HS2.out]; exact rM, hbel⟩
                  case measure => simp [intOf]; omega
                · go_wp2_with fail
                  go_roundw
                  case rel => exact ⟨k + 1, by omega, by go_num, by rw [HD2.out]; exact hO, by rw [HS2.out]; exact rM, hbel⟩
                  case measure => simp [intOf]; omega
              · have hcn0 : (0 : Int) < (cn : Int) := by omega
                have HD2 : Hid (O.take m ++ (cn : Int) :: O.drop m = cyD l (k + 1)) := Lib.hid (by rw [HCD.out, if_pos (by omega), HINS.out])
                have HS2 : Hid ((cyS l (k + 1)).1 = s) := Lib.hid (by rw [HCS.out])
                have hnew := ownL_new wr [(cn : Int)] #[.int .i64 (cn : Int)] rfl wr.heap.size (Nat.le_refl _) (by simp)
                have hSz1 := hS1.below (ebox1 wr (.cells #[.int .i64 (cn : Int)] 2))
                clear hc0
                rcases hread with hm0 | ⟨m', X, g, c', q0, q1, q2, rfl, q4, q5⟩
                · subst hm0
                  have hr1' : ∀ W, (Instr.slice 22 (.slice sa O.length sc) (some (.int .i64 0)) none none).run Try.prog W = .ok r1 W := hr1
                  have hr2' : ∀ W, (Instr.slice 22 (.slice sa O.length sc) none (some (.int .i64 0)) none).run Try.prog W = .ok r2 W := hr2
                  clear hr1 hr2
                  go_wp2_with (at_builtin; refine wpList_append_ints _ rfl _ _ rfl wr.heap.size (.slice (some ⟨wr.heap.size, 0, none⟩) 1 1) [(cn : Int)] rfl hnew r1 (O.drop 0) rfl hSz1 (by simp <;> omega) (by simp) ?_)
                  intro v3 w3 hO3 hg3
                  have hb3 : Below wr.heap.size wr w3 := (ebox1 wr _).grown hg3 (by simp) (fun q hq => by simp [Value.ownBlock] at hq; omega)
                  have hS23 := hS2.below hb3
                  clear hnew hSz1 hg3
                  go_wp2_with fail
                  ((with_reducible refine (eown r2 (O.take 0) _ (by simp <;> omega) hS23).mono ?_); rintro e w4 ⟨v4, rfl, hO4, hb4⟩)
                  have hS34 := hO3.slice.below hb4
                  have hb34 := hb3.trans (hb4.mono hb3.size)
                  have h34 := hb4.size
                  have hr3 := hb3.size
                  go_wp2_with (at_builtin; refine wpList_append_ints _ rfl _ _ rfl w3.heap.size v4 (O.take 0) rfl hO4 v3 ([(cn : Int)] ++ O.drop 0) rfl hS34 (by simp <;> omega) h34 ?_)
                  intro v5 w5 hO5 hg5
                  have hb5 : Below wr.heap.size wr w5 := hb34.grown hg5 hb34.size (fun q hq => by have := (World.ownsRow.lt hO4 q hq).1; omega)
                  have hrow5 := erow_below rM hb5 rM.lt
                  have hfr5 := hbel.trans (hb5.mono hbel.size)
                  have hout5 : OwnL w5 w.heap.size v5 (O.take 0 ++ (cn : Int) :: O.drop 0) := OwnL.mono hO5 (show w.heap.size ≤ w3.heap.size by have := hbel.size; omega)
                  rw [HD2.out] at hout5
                  clear hO3 hO4 hO5 hS23 hS34 hg5 hb5 hb34 hb3 hb4 hO rM hbel
                  go_wp2_with fail
                  go_roundw
                  case rel => exact ⟨k + 1, by omega, by go_num, hout5, by rw [HS2.out]; exact hrow5, hfr5⟩
                  case measure => simp [intOf]; omega
                · go_wp2_with (at_builtin; refine wpList_append_ints _ rfl _ _ rfl wr.heap.size (.slice (some ⟨wr.heap.size, 0, none⟩) 1 1) [(cn : Int)] rfl hnew r1 (O.drop m) rfl hSz1 (by simp <;> omega) (by simp) ?_)
                  intro v3 w3 hO3 hg3
                  have hb3 : Below wr.heap.size wr w3 := (ebox1 wr _).grown hg3 (by simp) (fun q hq => by simp [Value.ownBlock] at hq; omega)
                  have hS23 := hS2.below hb3
                  clear hnew hSz1 hg3
                  go_wp2_with fail
                  ((with_reducible refine (eown r2 (O.take m) _ (by simp <;> omega) hS23).mono ?_); rintro e w4 ⟨v4, rfl, hO4, hb4⟩)
                  have hS34 := hO3.slice.below hb4
                  have hb34 := hb3.trans (hb4.mono hb3.size)
                  have h34 := hb4.size
                  have hr3 := hb3.size
                  go_wp2_with (at_builtin; refine wpList_append_ints _ rfl _ _ rfl w3.heap.size v4 (O.take m) rfl hO4 v3 ([(cn : Int)] ++ O.drop m) rfl hS34 (by simp <;> omega) h34 ?_)
                  intro v5 w5 hO5 hg5
                  have hb5 : Below wr.heap.size wr w5 := hb34.grown hg5 hb34.size (fun q hq => by have := (World.ownsRow.lt hO4 q hq).1; omega)
                  have hrow5 := erow_below rM hb5 rM.lt
                  have hfr5 := hbel.trans (hb5.mono hbel.size)
                  have hout5 : OwnL w5 w.heap.size v5 (O.take m ++ (cn : Int) :: O.drop m) := OwnL.mono hO5 (show w.heap.size ≤ w3.heap.size by have := hbel.size; omega)
                  rw [HD2.out] at hout5
                  clear hO3 hO4 hO5 hS23 hS34 hg5 hb5 hb34 hb3 hb4 hO rM hbel
                  go_wp2_with fail
                  go_roundw
                  case rel => exact ⟨k + 1, by omega, by go_num, hout5, by rw [HS2.out]; exact hrow5, hfr5⟩
                  case measure => simp [intOf]; omega
    · obtain rfl : k = l.length := by omega
      go_wp2_with fail
      go_ret
      exact ⟨_, rfl, hO, hbel⟩
end Go.Proofs.Ytgbnlnpffhlipaa
