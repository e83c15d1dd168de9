/-
  NUMERATORS of series: the program's walk. Conditions: as each theorem states.
-/
import Derived.Test.YtfbagpndkihcpaaRh
namespace Go.Proofs.Ytfbagpndkihcpaa
open Go.RowKit Go.Sort EchM

/-- A copy of a list that is not nil. -/
theorem gclone (v : Value) (l : List Int) (w : World) (h0 : 0 < l.length) (hl : l.length ≤ 1048576) (hS : Sl w v l) :
    Calls Try.prog 34 #[v] w fun e w' => ∃ v', e = .returned v' ∧ OwnL w' w.heap.size v' l ∧ Below w.heap.size w w' := by
  have hS2 := fun o => hS.below (ebox1 w o)
  have ho : ∀ t, t = 2 → OwnL (w.alloc (.cells #[] t)) w.heap.size (.slice (some ⟨w.heap.size, 0, none⟩) 0 0) [] := fun t ht => by
    subst ht
    have := World.ownsRow_made (base := w.heap.size) (e := 2) (size := 1) w #[] 0 (by omega) (by simp [maxLen]) rfl
    simpa [OwnL, valsI] using this
  obtain ⟨a, cap, rfl, hc⟩ := id hS
  obtain ⟨b, off, rfl, hbb, hT⟩ : ∃ b off, a = some ⟨b, off, none⟩ ∧ b < w.heap.size ∧ Cs w b off l := by
    rcases hc with rfl | h
    · simp at h0
    · exact h
  have hnil : ∀ w : World, (binOp .eql 22 (.slice (some ⟨b, off, none⟩) l.length cap) (.slice none 0 0)).run Try.prog w = .ok (.bool false) w := fun w => by
    have h : ∀ d : Nat, (Op.equalIn (d + 1) 22 (.slice (some ⟨b, off, none⟩) l.length cap) (.slice none 0 0)).run Try.prog w = .ok false w := fun d => by
      simp [Op.equalIn, run_underlying Try.underlying22]
    simp only [binOp]
    simp [Op.equal, Op.maxDepth, h 9999]
  go_enter Try.func34, Try.ntmps34
  go_wp2_with (at_builtin; refine wpList_append_ints _ rfl _ _ rfl w.heap.size (.slice (some ⟨w.heap.size, 0, none⟩) 0 0) [] rfl (ho _ rfl) (.slice (some ⟨b, off, none⟩) l.length cap) l rfl (hS2 _) (by simp; omega) (by simp) ?_)
  intro v' w' h1 h2
  have hb : Below w.heap.size w w' := (ebox1 w _).grown h2 (by simp) (fun k hk => by simp [Value.ownBlock] at hk; omega)
  go_wp2
  go_ret
  exact ⟨_, rfl, h1, hb⟩

set_option maxRecDepth 8000 in
set_option maxHeartbeats 8000000 in
theorem iNum (va : Value) (a : List Int) (vb : Value) (ds : List Int) (w : World) (hla : a.length ≤ 1048576) (hSa : Sl w va a) (hlb : ds.length ≤ 1048576) (hSb : Sl w vb ds) :
    Calls Try.prog 18 #[va, vb] w fun e w' => ∃ v', e = .returned (.tuple #[v', .int .i64 (rNum a ds).2]) ∧ OwnV w' w.heap.size v' (rNum a ds).1 ∧ Below w.heap.size w w' := by
  obtain ⟨aa, ac, rfl, _⟩ := id hSa
  obtain ⟨ab, bc, rfl, hcb⟩ := id hSb
  cases h1 : serB a
  · have HX : Hid (rNum a ds = ([], 2)) := Lib.hid (by simp [rNum, h1])
    have H1 := Lib.hid h1
    clear h1
    go_enter Try.func18, Try.ntmps18
    go_wp2_with fail
    ((with_reducible refine (iser _ a _ hla hSa).mono ?_); rintro e w1 ⟨rfl, rfl⟩)
    rw [H1.out]
    go_wp2_with fail
    go_ret2
    rw [HX.out]
    exact ⟨_, rfl, OwnV.none _ _, Below.refl _ _⟩
  cases h2 : degB ds
  · have HX : Hid (rNum a ds = ([], 2)) := Lib.hid (by simp [rNum, h2])
    have H1 := Lib.hid h1
    have H2 := Lib.hid h2
    clear h1 h2
    go_enter Try.func18, Try.ntmps18
    go_wp2_with fail
    ((with_reducible refine (iser _ a _ hla hSa).mono ?_); rintro e w1 ⟨rfl, rfl⟩)
    rw [H1.out]
    go_wp2_with fail
    ((with_reducible refine (ideg _ ds _ hlb hSb).mono ?_); rintro e w1 ⟨rfl, rfl⟩)
    rw [H2.out]
    go_wp2_with fail
    go_ret2
    rw [HX.out]
    exact ⟨_, rfl, OwnV.none _ _, Below.refl _ _⟩
  have HR : Hid (rNum a ds = numG a ds) := Lib.hid (by simp [rNum, h1, h2])
  have HA := Lib.hid (serB_all h1)
  have HD := Lib.hid (degB_in h2)
  obtain ⟨la1, la2⟩ := serB_len h1
  have lb := degB_len h2
  have H1 := Lib.hid h1
  have H2 := Lib.hid h2
  have hla0 : 0 < a.length := la1
  clear h1 h2
  go_enter Try.func18, Try.ntmps18
  go_wp2_with fail
  ((with_reducible refine (iser _ a _ hla hSa).mono ?_); rintro e w1 ⟨rfl, rfl⟩)
  rw [H1.out]
  go_wp2_with fail
  ((with_reducible refine (ideg _ ds _ hlb hSb).mono ?_); rintro e w1 ⟨rfl, rfl⟩)
  rw [H2.out]
  go_wp2_with fail
  ((with_reducible refine (gclone _ a _ hla0 hla hSa).mono ?_); rintro e w2 ⟨v2, rfl, ho, hb2⟩)
  obtain ⟨g, cap, rfl, hg, hF⟩ := ownV_rowF ho.toV (by omega)
  have hba : w1.heap.size ≤ w2.heap.size := hb2.size
  clear ho
  go_wp2_with fail
  go_loopw [22] (fun i wr => ∃ (j : Nat) (O : List Int), j ≤ ds.length ∧ O.length = a.length ∧ i = .int .i64 j ∧ Hid (O.all cntB = true) ∧ Hid (numG a ds = numG O (ds.drop j)) ∧ RowF wr g a.length (nth O) ∧ Below w1.heap.size w1 wr) (fun i _ => ds.length - (intOf i).toNat)
  case atStart => exact ⟨0, a, by omega, rfl, rfl, HA, Lib.hid (by simp), hF, hb2⟩
  case round =>
    clear hF
    obtain ⟨j, O, hj, hOl, rfl, HO, HG, hF, hbel⟩ := hrel
    have HOL := Lib.hid hOl
    clear hOl
    by_cases hlt : j < ds.length
    · have hlt' : (j : Int) < (ds.length : Int) := by omega
      obtain ⟨b, off, rfl, hbb, hT⟩ : ∃ b off, ab = some ⟨b, off, none⟩ ∧ b < w1.heap.size ∧ Cs w1 b off ds := by
        rcases hcb with rfl | h
        · simp at hlt
        · exact h
      have c0 := (hT.below hbel hbb) j hlt
      obtain ⟨d0, d1⟩ := HD.out j hlt
      have HS := Lib.hid (numG_step (O := O) hlt)
      obtain ⟨d, hd⟩ : ∃ d : Nat, ds[j] = (d : Int) := ⟨ds[j].toNat, by omega⟩
      have HD2 : Hid (ds[j].toNat = d) := Lib.hid (by omega)
      rw [hd] at c0
      have hd40 : d ≤ 40 ∧ 1 ≤ d := by omega
      clear hd d0 d1
      go_wp2_with fail
      go_loopw [9] (fun u wr => ∃ (c : Nat), c ≤ a.length ∧ u = .int .i64 ((c : Int) - 1) ∧ Hid (∀ q, q < a.length → c ≤ q → cntB (numF O d q) = true) ∧ RowF wr g a.length (fun q => if c ≤ q then numF O d q else nth O q) ∧ Below w1.heap.size w1 wr) (fun u _ => (intOf u + 1).toNat)
      case atStart => exact ⟨a.length, by omega, rfl, Lib.hid (fun q hq h => by omega), hF.congr (fun q hq => by rw [if_neg (by omega)]), hbel⟩
      case round =>
        clear hF hbel c0
        obtain ⟨c, hc, rfl, HV, hF, hbel⟩ := hrel
        by_cases hkl : d + 1 ≤ c
        · obtain ⟨k, rfl⟩ : ∃ k, c = k + 1 := ⟨c - 1, by omega⟩
          have ek : (((k + 1 : Nat) : Int) - 1) = (k : Int) := by omega
          rw [ek]
          have hk0 : (d : Int) ≤ (k : Int) := by omega
          have hk1 : (k : Int) < (a.length : Int) := by omega
          have hkd0 : ¬ (k : Int) - (d : Int) < 0 := by omega
          have hkd1 : (k : Int) - (d : Int) < (a.length : Int) := by omega
          have hkd2 : ((k : Int) - (d : Int)).toNat = k - d := by omega
          have c0 := hF.cell (k := k) (by omega)
          rw [if_neg (by omega)] at c0
          have f0 := hF.frozen k
          have c1 := hF.cell (k := k - d) (by omega)
          rw [if_neg (by omega)] at c1
          have HN : Hid (nth O k - nth O (k - d) = numF O d k) := Lib.hid (by unfold numF; rw [if_pos (by omega)])
          obtain ⟨x0, x1⟩ := in_of_all HO.out (k - d)
          obtain ⟨y0, y1⟩ := in_of_all HO.out k
          have rows : RowF (wr.drew.setCell ⟨g, k, none⟩ (.int .i64 (nth O k - nth O (k - d)))) g a.length (fun q => if k ≤ q then numF O d q else nth O q) := hF.drew.set k _ (fun q _ => by
            by_cases e : q = k
            · subst e; rw [if_pos (Nat.le_refl _), if_pos rfl, HN.out]
            · rw [if_neg e]
              by_cases e2 : k + 1 ≤ q
              · rw [if_pos e2, if_pos (by omega)]
              · rw [if_neg e2, if_neg (by omega)])
          have hb2' : Below w1.heap.size w1 (wr.drew.setCell ⟨g, k, none⟩ (.int .i64 (nth O k - nth O (k - d)))) := hbel.drew.setCell (by simpa using hg) _
          clear hF hbel ek
          generalize nth O k = Y at *
          generalize nth O (k - d) = X at *
          have w2' : IntKind.i64.wrap (Y - X) = Y - X := IntWalk.i64_in _ (by omega)
          cases hC : cntB (Y - X)
          · have HX : Hid (rNum a ds = ([], 3)) := Lib.hid (by
              rw [HR.out, HG.out, HS.out, if_neg]
              intro h
              rw [HD2.out] at h
              have := numL_all.1 h k (by have := HOL.out; omega)
              rw [← HN.out, hC] at this
              cases this)
            have HC := Lib.hid hC
            clear hC
            go_wp2_with fail
            go_region
            all_goals
              have c9 := rows.cell (k := k) (by omega)
              rw [if_pos (Nat.le_refl _), ← HN.out] at c9
              go_wp2_with fail
              ((with_reducible refine (icnt _ _).mono ?_); rintro e w3 ⟨rfl, rfl⟩)
              rw [HC.out]
              go_wp2_with fail
              go_ret2
              rw [HX.out]
              exact ⟨_, rfl, OwnV.none _ _, hb2'⟩
          · have HV2 : Hid (∀ q, q < a.length → k ≤ q → cntB (numF O d q) = true) := Lib.hid (fun q hq h => by
              by_cases e : q = k
              · subst e; rw [← HN.out]; exact hC
              · exact HV.out q hq (by omega))
            have HC := Lib.hid hC
            clear hC
            go_wp2_with fail
            go_region
            all_goals
              have c9 := rows.cell (k := k) (by omega)
              rw [if_pos (Nat.le_refl _), ← HN.out] at c9
              go_wp2_with fail
              ((with_reducible refine (icnt _ _).mono ?_); rintro e w3 ⟨rfl, rfl⟩)
              rw [HC.out]
              go_wp2_with fail
              go_roundw
              case rel => exact ⟨k, by omega, by go_num, HV2, rows, hb2'⟩
              case measure => simp [intOf]
        · have hkn : ¬ (d : Int) ≤ (c : Int) - 1 := by omega
          have HOK : Hid ((numL O d).all cntB = true) := Lib.hid (numL_all.2 (by
            rw [HOL.out]
            intro q hq
            by_cases e : c ≤ q
            · exact HV.out q hq e
            · unfold numF
              rw [if_neg (by omega)]
              exact cntB_iff.2 (in_of_all HO.out q)))
          have HG2 : Hid (numG a ds = numG (numL O d) (ds.drop (j + 1))) := Lib.hid (by rw [HG.out, HS.out, HD2.out, if_pos HOK.out])
          have hF2 := hF.congr (G := nth (numL O d)) (fun q hq => by
            rw [numL, nth_map_range _ (by rw [HOL.out]; exact hq)]
            by_cases e : c ≤ q
            · rw [if_pos e]
            · rw [if_neg e]; unfold numF; rw [if_neg (by omega)])
          have HL2 : Hid ((numL O d).length = a.length) := Lib.hid (by rw [numL_len, HOL.out])
          clear hF
          go_wp2_with fail
          go_roundw
          case rel => exact ⟨j + 1, numL O d, by omega, HL2.out, by go_num, HOK, HG2, hF2, hbel⟩
          case measure => simp [intOf]; omega
    · obtain rfl : j = ds.length := by omega
      have HX : Hid (rNum a ds = (O, 0)) := Lib.hid (by rw [HR.out, HG.out, List.drop_length, numG])
      go_wp2_with fail
      go_ret2
      rw [HX.out]
      exact ⟨_, rfl, hF.toV hg (by rw [← HOL.out]; exact (map_nth O).symm), hbel⟩
end Go.Proofs.Ytfbagpndkihcpaa
