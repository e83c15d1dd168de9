/-
  WALKS: 'impl.MonomialOf'. Conditions: as the theorem states.
-/
import Derived.Test.YtpnlpmalkiaioaaMo
namespace Go.Proofs.Ytpnlpmalkiaioaa
open Go.RowKit Go.Sort Go.Maps

set_option maxRecDepth 8000 in
set_option maxHeartbeats 8000000 in
theorem implMon (p d val : Int) (u : Value) (l : List Int) (w : World) (hm : l.length ≤ 1048576) (hU : SliceI w u l) (o : OutP) (ho : MonO p d l val o) :
    Calls Try.prog 11 #[.int .i64 p, .int .i64 d, u, .int .i64 val] w (ResO w o) := by
  obtain ⟨a, cap, rfl, _⟩ := id hU
  obtain ⟨W, hW, hbW, hWs, rr⟩ : ∃ W, W = w.alloc (.cells #[.int .i64 0, .int .i64 0, .slice none 0 0] 25) ∧ Below w.heap.size w W ∧ (W.heap.size ≤ w.heap.size + 1 ∧ w.heap.size + 1 ≤ W.heap.size) ∧ W.rowIs w.heap.size 25 3 (polyF 0 0 (.slice none 0 0)) :=
    ⟨_, rfl, box1 _ _, ⟨by simp, by simp⟩, zbox w⟩
  have hUW := hU.below hbW
  obtain ⟨⟨r0, r1, r2⟩, z0, z1, z2⟩ := poly3 rr
  obtain ⟨a0, a1, a2, a3, a4⟩ := fill_box (base := w.heap.size) rr (ownP_nil W w.heap.size) (Nat.le_refl _) hbW (by omega) 0 0
  have A0 := Lib.hid a0
  have A1 := Lib.hid a1
  have A2 := Lib.hid a2
  have A3 := Lib.hid a3
  have A4 := Lib.hid a4
  clear a0 a1 a2 a3 a4
  go_enter Try.func11, Try.ntmps11
  rcases ho with ⟨hbad, rfl⟩ | ⟨⟨hp, h1, h3, hlen, hall, v0, v1⟩, ho⟩
  · cases hp : primeB p
    · have HP := Lib.hid hp
      clear hbad hp
      go_upto_region 1 with fail
      rw [← hW]
      clear hW
      go_wp2_with fail
      ((with_reducible refine (prime_no p W HP.out).mono ?_); rintro e w1 ⟨rfl, rfl⟩)
      go_wp2_with fail
      exact bodyPost_ret (v := .tuple #[.agg #[.int .i64 0, .int .i64 0, .slice none 0 0], .int .i64 2]) (by simp [results, Try.results11, go_sem, A0.out, A1.out, A2.out]) rfl ⟨_, rfl, A3.out, A4.out⟩
    · obtain ⟨q1, q2⟩ := prime_le hp
      by_cases hd : 1 ≤ d ∧ d ≤ 3
      · obtain ⟨h1, h3⟩ := hd
        cases he : (decide ((l.length : Int) = d) && l.all (fun x => decide (0 ≤ x)))
        · have HP := Lib.hid hp
          have HE := Lib.hid he
          clear hbad hp he
          go_upto_region 1 with fail
          rw [← hW]
          clear hW
          go_wp2_with fail
          ((with_reducible refine (prime_yes p W HP.out).mono ?_); rintro e w1 ⟨rfl, rfl⟩)
          go_wp2_with fail
          ((with_reducible refine (vars_t d W h1 h3).mono ?_); rintro e w1 ⟨rfl, rfl⟩)
          go_wp2_with fail
          ((with_reducible refine (areExps_any d _ l W h1 hm hUW).mono ?_); rintro e w1 ⟨rfl, rfl⟩)
          rw [HE.out]
          go_wp2_with fail
          exact bodyPost_ret (v := .tuple #[.agg #[.int .i64 0, .int .i64 0, .slice none 0 0], .int .i64 2]) (by simp [results, Try.results11, go_sem, A0.out, A1.out, A2.out]) rfl ⟨_, rfl, A3.out, A4.out⟩
        · have hv : (decide (0 ≤ val) && decide (val < p)) = false := by
            cases hv : (decide (0 ≤ val) && decide (val < p))
            · rfl
            · simp at he hv
              exact absurd ⟨hp, h1, h3, he.1, by simpa using he.2, hv.1, hv.2⟩ hbad
          have HP := Lib.hid hp
          have HE := Lib.hid he
          have HV := Lib.hid hv
          clear hbad hp he hv
          go_upto_region 1 with fail
          rw [← hW]
          clear hW
          go_wp2_with fail
          ((with_reducible refine (prime_yes p W HP.out).mono ?_); rintro e w1 ⟨rfl, rfl⟩)
          go_wp2_with fail
          ((with_reducible refine (vars_t d W h1 h3).mono ?_); rintro e w1 ⟨rfl, rfl⟩)
          go_wp2_with fail
          ((with_reducible refine (areExps_any d _ l W h1 hm hUW).mono ?_); rintro e w1 ⟨rfl, rfl⟩)
          rw [HE.out]
          go_wp2_with fail
          ((with_reducible refine (num_is p val W _ HV.out).mono ?_); rintro e w1 ⟨rfl, rfl⟩)
          go_wp2_with fail
          exact bodyPost_ret (v := .tuple #[.agg #[.int .i64 0, .int .i64 0, .slice none 0 0], .int .i64 2]) (by simp [results, Try.results11, go_sem, A0.out, A1.out, A2.out]) rfl ⟨_, rfl, A3.out, A4.out⟩
      · have hd' : d < 1 ∨ 3 < d := by omega
        have HP := Lib.hid hp
        have HD := Lib.hid hd'
        clear hbad hp hd hd'
        go_upto_region 1 with fail
        rw [← hW]
        clear hW
        go_wp2_with fail
        ((with_reducible refine (prime_yes p W HP.out).mono ?_); rintro e w1 ⟨rfl, rfl⟩)
        go_wp2_with fail
        ((with_reducible refine (vars_f d W HD.out).mono ?_); rintro e w1 ⟨rfl, rfl⟩)
        go_wp2_with fail
        exact bodyPost_ret (v := .tuple #[.agg #[.int .i64 0, .int .i64 0, .slice none 0 0], .int .i64 2]) (by simp [results, Try.results11, go_sem, A0.out, A1.out, A2.out]) rfl ⟨_, rfl, A3.out, A4.out⟩
  · obtain ⟨q1, q2⟩ := prime_le hp
    have he : (decide ((l.length : Int) = d) && l.all (fun x => decide (0 ≤ x))) = true := by rw [hall]; simpa using hlen
    have hv : (decide (0 ≤ val) && decide (val < p)) = true := by simp; omega
    obtain ⟨A, cap', hv', hcase⟩ := id hUW
    simp at hv'
    obtain ⟨rfl, rfl⟩ := hv'
    rcases hcase with h0 | ⟨b, off, rfl, hltb, hT⟩
    · rw [h0] at hlen; simp at hlen; omega
    have hne : l ≠ [] := fun h0 => by rw [h0] at hlen; simp at hlen; omega
    have hpos : ∀ x ∈ l, 0 ≤ x := fun x hx => by have := List.all_eq_true.1 hall x hx; simpa using this
    have HP := Lib.hid hp
    have HE := Lib.hid he
    have HV := Lib.hid hv
    have HT := Lib.hid hT
    have HQ := Lib.hid hpos
    have HL := Lib.hid hlen
    have HA := Lib.hid hall
    have HN := Lib.hid hne
    have hmm := @run_makeMap Try.prog
    clear hp he hv hT hpos hlen hall hne
    go_upto_region 1 with fail
    rw [← hW]
    clear hW
    go_wp2_with fail
    ((with_reducible refine (prime_yes p W HP.out).mono ?_); rintro e w1 ⟨rfl, rfl⟩)
    go_wp2_with fail
    ((with_reducible refine (vars_t d W h1 h3).mono ?_); rintro e w1 ⟨rfl, rfl⟩)
    go_wp2_with fail
    ((with_reducible refine (areExps_any d _ l W h1 hm hUW).mono ?_); rintro e w1 ⟨rfl, rfl⟩)
    rw [HE.out]
    go_wp2_with fail
    ((with_reducible refine (num_is p val W _ HV.out).mono ?_); rintro e w1 ⟨rfl, rfl⟩)
    go_wp2_with fail
    ((with_reducible refine (capped64_any b off cap l W hm HT.out HQ.out).mono ?_); rintro e w1 ⟨rfl, rfl⟩)
    rcases ho with ⟨hs, rfl⟩ | ⟨hs, L, hL, rfl⟩
    · have hc : capd l.sum = 13 := by unfold capd; rw [if_neg (by omega)]
      rw [hc]
      clear hc hs
      go_wp2_with fail
      exact bodyPost_ret (v := .tuple #[.agg #[.int .i64 0, .int .i64 0, .slice none 0 0], .int .i64 3]) (by simp [results, Try.results11, go_sem, A0.out, A1.out, A2.out]) rfl ⟨_, rfl, A3.out, A4.out⟩
    · have hx : expsL d l = true := by
        unfold expsL
        rw [HA.out]
        simp
        exact ⟨HL.out, hs⟩
      have hpb : byte3 (padE l) ∧ (padE l).1 + (padE l).2.1 + (padE l).2.2 ≤ 12 := padE_mono hx (by have := HL.out; omega)
      have hcs : capd l.sum = l.sum := by unfold capd; rw [if_pos hs]
      rw [hcs]
      have hle : ¬ 12 < l.sum := by omega
      have hmade := World.ownsMap_made (H := Unit) W Try.prog 48 (plainElem Try.prog 2)
      obtain ⟨V, hV, hbV, hVs⟩ : ∃ V, V = W.alloc (.map #[] 0) ∧ Below W.heap.size W V ∧ W.heap.size + 1 ≤ V.heap.size := ⟨_, rfl, box1 _ _, by simp⟩
      rw [← hV] at hmade
      have rrV := rowIs_below rr hbV rr.lt
      have hbwV := hbW.trans (hbV.mono hbW.size)
      have HB := Lib.hid hpb
      have HX := Lib.hid hx
      clear hcs hpb hx hs A0 A1 A2 A3 A4 r0 r1 r2 z0 z1 z2
      go_wp2_with fail
      rw [← hV]
      clear hV
      ((with_reducible refine (expsOf_any d b off cap l V h3 (Nat.lt_of_lt_of_le hltb hbV.size) (HT.out.below hbV hltb) HN.out HX.out).mono ?_); rintro e w2 ⟨rfl, hb2⟩)
      have hm2 : MapE w2 W.heap.size 0 (.map []) := hmade.kept (row := none) ⟨hb2.os, hb2.tape, hb2.output, hb2.size, fun k hk _ => hb2.block k hk⟩ (by simp)
      have hkey : keyOf Try.prog 48 (.agg #[.int .u8 (padE l).1, .int .u8 (padE l).2.1, .int .u8 (padE l).2.2]) = some (kE (padE l)) := keyOf_vE (padE l) HB.out.1
      obtain ⟨w3, hrun, hm3, hgr3⟩ := hm2.update lawK Try.underlying57 (by unfold maxLen; omega) hkey (plainElem_int Try.underlying2 (wf64 v0 (by omega)))
      have rr2 := rowIs_below rrV hb2 rrV.lt
      have rr3 := rr2.of_block (hgr3.block _ rr2.lt (by simp; omega))
      have hbw2 := hbwV.trans (hb2.mono hbwV.size)
      have hbw3 : Below w.heap.size w w3 := hbw2.grown hgr3 hbw2.size (fun k hk => by simp at hk; omega)
      have hcf : ∀ a, byte3 a → cf (DataW.put (H := Unit) (.map []) (kE (padE l)) (.lit (.int .i64 val))) a = if a = padE l then val else 0 := fun a ha => by
        rw [cf_put isMap_empty HB.out.1 ha, cf_empty]
      have HC := Lib.hid hcf
      clear hcf hm2 hmade hkey
      go_wp2_with fail
      ((with_reducible refine (polyOf_any sort_says p d W.heap.size (0 + 1) _ w3 hm3 (by omega) (fun e he hc => by
        rw [HC.out e he] at hc
        by_cases h : e = padE l
        · subst h; exact HB.out.2
        · rw [if_neg h] at hc; exact absurd rfl hc)).mono ?_); rintro e w4 ⟨v4, S, rfl, ho4, hgood, hb4⟩)
      obtain rfl : S = L := (hgood.isP HC.out (fun e he => hL.bound (by omega) he) (fun e he hc => by
        by_cases h : e = padE l
        · subst h; exact HB.out.2
        · rw [if_neg h] at hc; exact absurd rfl hc)).unique hL
      obtain ⟨sa2, sc2, rfl⟩ := owns_slice ho4
      have rr4 := rowIs_below rr3 hb4 rr3.lt
      obtain ⟨a0, a1, a2, a3, a4⟩ := fill_box rr4 ho4 hbw3.size (hbw3.trans (hb4.mono hbw3.size)) (by omega) p d
      have A0 := Lib.hid a0
      have A1 := Lib.hid a1
      have A2 := Lib.hid a2
      have A3 := Lib.hid a3
      have A4 := Lib.hid a4
      clear a0 a1 a2 a3 a4
      clear ho4 hgood hrun hm3
      obtain ⟨⟨r0, r1, r2⟩, z0, z1, z2⟩ := poly3 rr4
      go_wp2_with fail
      exact bodyPost_ret (v := .tuple #[.agg #[.int .i64 p, .int .i64 d, .slice sa2 S.length sc2], .int .i64 0]) (by simp [results, Try.results11, go_sem, A0.out, A1.out, A2.out]) rfl ⟨_, rfl, A3.out, A4.out⟩
end Go.Proofs.Ytpnlpmalkiaioaa
