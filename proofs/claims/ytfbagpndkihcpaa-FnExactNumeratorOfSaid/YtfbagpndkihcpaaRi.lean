/-
  NUMERATORS of series: the model's walk. Conditions: as each theorem states.
-/
import Derived.Test.YtfbagpndkihcpaaRh
namespace Go.Proofs.Ytfbagpndkihcpaa
open Go.RowKit Go.Sort EchM

set_option maxRecDepth 8000 in
set_option maxHeartbeats 8000000 in
theorem sNum (va : Value) (a : List Int) (vb : Value) (ds : List Int) (w : World) (hla : a.length ≤ 1048576) (hSa : Sl w va a) (hlb : ds.length ≤ 1048576) (hSb : Sl w vb ds) :
    Calls Try.prog 17 #[va, vb] w fun e w' => ∃ v', e = .returned (.tuple #[v', .int .i64 (rNum a ds).2]) ∧ Sl w' v' (rNum a ds).1 ∧ Below w.heap.size w w' := by
  obtain ⟨aa, ac, rfl, _⟩ := id hSa
  obtain ⟨ab, bc, rfl, hcb⟩ := id hSb
  cases h1 : serB a
  · have HX : Hid (rNum a ds = ([], 2)) := Lib.hid (by simp [rNum, h1])
    have H1 := Lib.hid h1
    clear h1
    go_enter Try.func17, Try.ntmps17
    go_wp2_with fail
    ((with_reducible refine (sser _ a _ hla hSa).mono ?_); rintro e w1 ⟨rfl, rfl⟩)
    rw [H1.out]
    go_wp2_with fail
    go_ret2
    rw [HX.out]
    exact ⟨_, rfl, ⟨none, 0, rfl, .inl rfl⟩, Below.refl _ _⟩
  cases h2 : degB ds
  · have HX : Hid (rNum a ds = ([], 2)) := Lib.hid (by simp [rNum, h2])
    have H1 := Lib.hid h1
    have H2 := Lib.hid h2
    clear h1 h2
    go_enter Try.func17, Try.ntmps17
    go_wp2_with fail
    ((with_reducible refine (sser _ a _ hla hSa).mono ?_); rintro e w1 ⟨rfl, rfl⟩)
    rw [H1.out]
    go_wp2_with fail
    ((with_reducible refine (sdeg _ ds _ hlb hSb).mono ?_); rintro e w1 ⟨rfl, rfl⟩)
    rw [H2.out]
    go_wp2_with fail
    go_ret2
    rw [HX.out]
    exact ⟨_, rfl, ⟨none, 0, rfl, .inl rfl⟩, Below.refl _ _⟩
  have HR : Hid (rNum a ds = numG a ds) := Lib.hid (by simp [rNum, h1, h2])
  have HA := Lib.hid (serB_all h1)
  have HD := Lib.hid (degB_in h2)
  obtain ⟨la1, la2⟩ := serB_len h1
  have lb := degB_len h2
  have H1 := Lib.hid h1
  have H2 := Lib.hid h2
  clear h1 h2
  go_enter Try.func17, Try.ntmps17
  go_wp2_with fail
  ((with_reducible refine (sser _ a _ hla hSa).mono ?_); rintro e w1 ⟨rfl, rfl⟩)
  rw [H1.out]
  go_wp2_with fail
  ((with_reducible refine (sdeg _ ds _ hlb hSb).mono ?_); rintro e w1 ⟨rfl, rfl⟩)
  rw [H2.out]
  go_wp2_with fail
  ((with_reducible refine (eown _ a _ hla hSa).mono ?_); rintro e w2 ⟨v2, rfl, ho, hb2⟩)
  obtain ⟨g, cap, rfl, hg, hF⟩ := ownV_rowF ho.toV (by omega)
  have hba : w1.heap.size ≤ w2.heap.size := hb2.size
  clear ho
  go_wp2_with fail
  go_loopw [7] (fun i wr => ∃ (j : Nat) (O : List Int), j ≤ ds.length ∧ O.length = a.length ∧ i = .int .i64 j ∧ Hid (O.all cntB = true) ∧ Hid (numG a ds = numG O (ds.drop j)) ∧ RowF wr g a.length (nth O) ∧ Below w1.heap.size w1 wr) (fun i _ => ds.length - (intOf i).toNat)
  case atStart => exact ⟨0, a, by omega, rfl, rfl, HA, Lib.hid (by simp), hF, hb2⟩
  case round =>
    clear hF
    obtain ⟨j, O, hj, hOl, rfl, HO, HG, hF, hbel⟩ := hrel
    by_cases hlt : j < ds.length
    · have hlt' : (j : Int) < (ds.length : Int) := by omega
      obtain ⟨b, off, rfl, hbb, hT⟩ : ∃ b off, ab = some ⟨b, off, none⟩ ∧ b < w1.heap.size ∧ Cs w1 b off ds := by
        rcases hcb with rfl | h
        · simp at hlt
        · exact h
      have c0 := (hT.below hbel hbb) j hlt
      obtain ⟨d0, d1⟩ := HD.out j hlt
      have HS := Lib.hid (numG_step (O := O) hlt)
      obtain ⟨d, hd⟩ : ∃ d : Nat, ds[j] = (d : Int) := ⟨ds[j].toNat, by omega⟩
      have HD2 : Hid (ds[j].toNat = d) := Lib.hid (by omega)
      rw [hd] at c0
      have hd40 : d ≤ 1048576 := by omega
      clear hd d0 d1
      have hSO : Sl wr (.slice (some ⟨g, 0, none⟩) O.length cap) O := by
        refine ⟨_, cap, rfl, .inr ⟨g, 0, rfl, hF.lt, fun k hk => ?_⟩⟩
        rw [Nat.zero_add, hF.cell (by omega), nth_lt hk]
      rw [hOl] at hSO
      have hOl2 : O.length ≤ 1048576 := by omega
      go_wp2_with fail
      ((with_reducible refine (ssh _ O d _ hOl2 hd40 hSO).mono ?_); rintro e w3 ⟨v3, rfl, hB, hb3⟩)
      obtain ⟨g3, f3, rfl, hg3, hr3, hf3⟩ := hB
      rw [shL_len, hOl] at hr3
      have hF3 : RowF w3 g3 a.length (fun q => if d ≤ q then nth O (q - d) else 0) := ⟨a.length, f3, Nat.le_refl _, hr3, fun q hq => by rw [hf3 q (by rw [shL_len]; omega), shL_at]⟩
      have hF2 := hF.below hb3
      have hbel3 := hbel.trans (hb3.mono hbel.size)
      have hgg : g ≠ g3 := by have := hF.lt; omega
      have hz := hbel.size
      rw [shL_len, hOl]
      clear hr3 hf3 hF hbel hb3 hSO c0 f3
      go_wp2_with fail
      go_loopw [9] (fun u wr => ∃ (k : Nat), k ≤ a.length ∧ u = .int .i64 k ∧ Hid (∀ q, q < k → cntB (numF O d q) = true) ∧ RowF wr g a.length (fun q => if q < k then numF O d q else nth O q) ∧ RowF wr g3 a.length (fun q => if d ≤ q then nth O (q - d) else 0) ∧ Below w1.heap.size w1 wr) (fun u _ => a.length - (intOf u).toNat)
      case atStart => exact ⟨0, by omega, rfl, Lib.hid (fun q hq => by omega), hF2.congr (fun q _ => by rw [if_neg (by omega)]), hF3, hbel3⟩
      case round =>
        clear hF2 hF3 hbel3
        obtain ⟨k, hk, rfl, HV, hF, hF3, hbel⟩ := hrel
        by_cases hkl : k < a.length
        · have hkl' : (k : Int) < (a.length : Int) := by omega
          have c0 := hF.cell hkl
          rw [if_neg (Nat.lt_irrefl k)] at c0
          have f0 := hF.frozen k
          have c1 := hF3.cell hkl
          obtain ⟨X, hX⟩ : ∃ X, (if d ≤ k then nth O (k - d) else 0) = X := ⟨_, rfl⟩
          rw [hX] at c1
          have HN : Hid (nth O k - X = numF O d k) := Lib.hid (by
            rw [← hX]; unfold numF
            split
            · rfl
            · omega)
          obtain ⟨x0, x1⟩ : -1000000000 ≤ X ∧ X ≤ 1000000000 := by
            rw [← hX]
            split
            · exact in_of_all HO.out _
            · omega
          obtain ⟨y0, y1⟩ := in_of_all HO.out k
          have rows : RowF (wr.drew.setCell ⟨g, k, none⟩ (.int .i64 (nth O k - X))) g a.length (fun q => if q < k + 1 then numF O d q else nth O q) := hF.drew.set k _ (fun q _ => by
            by_cases e : q = k
            · subst e; rw [if_pos (Nat.lt_succ_self _), if_pos rfl, HN.out]
            · rw [if_neg e]
              by_cases e2 : q < k
              · rw [if_pos e2, if_pos (by omega)]
              · rw [if_neg e2, if_neg (by omega)])
          have rows3 : RowF (wr.drew.setCell ⟨g, k, none⟩ (.int .i64 (nth O k - X))) g3 a.length (fun q => if d ≤ q then nth O (q - d) else 0) := hF3.drew.other (fun e => hgg e.symm) _
          have hb2' : Below w1.heap.size w1 (wr.drew.setCell ⟨g, k, none⟩ (.int .i64 (nth O k - X))) := hbel.drew.setCell (by simpa using hg) _
          clear hF hF3 hbel hX
          generalize nth O k = Y at *
          have w2' : IntKind.i64.wrap (Y - X) = Y - X := IntWalk.i64_in _ (by omega)
          cases hC : cntB (Y - X)
          · have HX : Hid (rNum a ds = ([], 3)) := Lib.hid (by
              rw [HR.out, HG.out, HS.out, if_neg]
              intro h
              rw [HD2.out] at h
              have := numL_all.1 h k (by omega)
              rw [← HN.out, hC] at this
              cases this)
            have HC := Lib.hid hC
            clear hC
            go_wp2_with fail
            go_region
            all_goals
              have c9 := rows.cell hkl
              rw [if_pos (Nat.lt_succ_self _), ← HN.out] at c9
              go_wp2_with fail
              ((with_reducible refine (scnt _ _).mono ?_); rintro e w3 ⟨rfl, rfl⟩)
              rw [HC.out]
              go_wp2_with fail
              go_ret2
              rw [HX.out]
              exact ⟨_, rfl, ⟨none, 0, rfl, .inl rfl⟩, hb2'⟩
          · have HV2 : Hid (∀ q, q < k + 1 → cntB (numF O d q) = true) := Lib.hid (fun q hq => by
              by_cases e : q = k
              · subst e; rw [← HN.out]; exact hC
              · exact HV.out q (by omega))
            have HC := Lib.hid hC
            clear hC
            go_wp2_with fail
            go_region
            all_goals
              have c9 := rows.cell hkl
              rw [if_pos (Nat.lt_succ_self _), ← HN.out] at c9
              go_wp2_with fail
              ((with_reducible refine (scnt _ _).mono ?_); rintro e w3 ⟨rfl, rfl⟩)
              rw [HC.out]
              go_wp2_with fail
              go_roundw
              case rel => exact ⟨k + 1, by omega, by go_num, HV2, rows, rows3, hb2'⟩
              case measure => simp [intOf]; omega
        · obtain rfl : k = a.length := by omega
          have HOK : Hid ((numL O d).all cntB = true) := Lib.hid (numL_all.2 (by rw [hOl]; exact HV.out))
          have HG2 : Hid (numG a ds = numG (numL O d) (ds.drop (j + 1))) := Lib.hid (by rw [HG.out, HS.out, HD2.out, if_pos HOK.out])
          have hF2 := hF.congr (G := nth (numL O d)) (fun q hq => by rw [if_pos hq, numL, nth_map_range _ (by omega)])
          have hl2 : (numL O d).length = a.length := by rw [numL_len, hOl]
          have HL2 := Lib.hid hl2
          clear hF hF3 hl2
          go_wp2_with fail
          go_roundw
          case rel => exact ⟨j + 1, numL O d, by omega, HL2.out, by go_num, HOK, HG2, hF2, hbel⟩
          case measure => simp [intOf]; omega
    · obtain rfl : j = ds.length := by omega
      have HX : Hid (rNum a ds = (O, 0)) := Lib.hid (by rw [HR.out, HG.out, List.drop_length, numG])
      have HOL := Lib.hid hOl
      clear hOl
      go_wp2_with fail
      go_ret2
      rw [HX.out]
      exact ⟨_, rfl, (hF.toV (base := w1.heap.size) hg (by rw [← HOL.out]; exact (map_nth O).symm)).sl, hbel⟩
end Go.Proofs.Ytfbagpndkihcpaa
