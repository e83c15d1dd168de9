/-
  WALKS: 'impl.PolyOfRow', 'spec.PolyOfRow'. Conditions: as each theorem states.
-/
import Derived.Test.YtbhgbifliihlbaaS02
import Derived.Test.YtbhgbifliihlbaaT01
import Derived.Test.YtbhgbifliihlbaaR05
namespace Go.Proofs.Ytbhgbifliihlbaa
open Go.RowKit Go.Sort Go.Maps

/-- The outcome of PolyOfRow. -/
def porB (p d n : Int) (xs : List Int) : Bool := primeB p && ((decide (1 ≤ d) && decide (d ≤ 3)) && (rowB n && nptB p ((monL d n).length : Int) xs))
def porO (p d n : Int) (xs : List Int) : OutP := if porB p d n xs then ⟨p, d, rT (monL d n) xs, 0⟩ else noP 2
theorem porO_len (p d n : Int) (xs : List Int) : (porO p d n xs).S.length ≤ 169 := by
  unfold porO
  split
  · exact Nat.le_trans (rT_len _ _) (monL_le d n)
  · simp [noP]
theorem porO_no {p d n : Int} {xs : List Int} (h : porB p d n xs = false) : porO p d n xs = noP 2 := by unfold porO; rw [if_neg (by simp [h])]
theorem npt_len {p : Int} {m : Nat} {xs : List Int} (h : nptB p (m : Int) xs = true) : m = xs.length := by
  simp only [nptB, Bool.and_eq_true, decide_eq_true_eq] at h
  omega
theorem npt_all {p d : Int} {xs : List Int} (h : nptB p d xs = true) : ∀ x ∈ xs, 0 ≤ x ∧ x < p := fun x hx => by
  simp only [nptB, Bool.and_eq_true, decide_eq_true_eq] at h
  have := List.all_eq_true.1 h.2 x hx
  simpa [nnumB] using this
theorem prime_b {p : Int} (h : primeB p = true) : 2 ≤ p ∧ p ≤ 13 := by
  simp [primeB] at h
  omega
theorem vars_is (d : Int) (B : Bool) (h : (decide (1 ≤ d) && decide (d ≤ 3)) = B) (w : World) : Calls Try.prog 74 #[.int .i64 d] w fun e w' => e = .returned (.bool B) ∧ w = w' := by
  subst h
  exact vars_any d w
theorem iprime_isB (p : Int) (B : Bool) (h : primeB p = B) (w : World) : Calls Try.prog 44 #[.int .i64 p] w fun e w' => e = .returned (.bool B) ∧ w = w' := by
  subst h
  exact prime_any p w
theorem sprime_isB (p : Int) (B : Bool) (h : primeB p = B) (w : World) : Calls Try.prog 40 #[.int .i64 p] w fun e w' => e = .returned (.bool B) ∧ w = w' := by
  subst h
  exact specPrime_any p w

set_option maxRecDepth 8000 in
set_option maxHeartbeats 8000000 in
theorem ipolr (p d n : Int) (v : Value) (xs : List Int) (w : World) (hl : xs.length ≤ 1048576) (hS : Sl w v xs) :
    Calls Try.prog 36 #[.int .i64 p, .int .i64 d, .int .i64 n, v] w (ResO w (porO p d n xs)) := by
  obtain ⟨W, hW, hbW, ⟨hWs1, hWs2⟩, rr⟩ := newbox w 0 0 (.slice none 0 0)
  have hSW := hS.below hbW
  obtain ⟨xa, xc, rfl, _⟩ := id hS
  cases hp : primeB p
  · have HO : Hid (porO p d n xs = noP 2) := Lib.hid (porO_no (by simp [porB, hp]))
    have H0 := Lib.hid (fun w' => iprime_isB p false hp w')
    clear hp
    obtain ⟨⟨r0, r1, r2⟩, z0, z1, z2⟩ := poly3 rr
    obtain ⟨a0, a1, a2, a3, a4⟩ := fill_box (w := w) rr (ownP_nil W w.heap.size) (Nat.le_refl _) hbW (by omega) 0 0
    have A0 := Lib.hid a0
    have A1 := Lib.hid a1
    have A2 := Lib.hid a2
    have A3 := Lib.hid a3
    have A4 := Lib.hid a4
    clear a0 a1 a2 a3 a4
    go_enter Try.func36, Try.ntmps36
    go_wp2_with fail
    rw [← hW]
    clear hW
    ((with_reducible refine (H0.out _).mono ?_); rintro e w0 ⟨rfl, hw0⟩; subst hw0)
    go_wp2_with fail
    exact bodyPost_ret (v := .tuple #[.agg #[.int .i64 0, .int .i64 0, .slice none 0 0], .int .i64 2]) (by simp [results, Try.results36, go_sem, A0.out, A1.out, A2.out]) rfl (by rw [HO.out]; exact ⟨_, rfl, A3.out, A4.out⟩)
  · have H0 := Lib.hid (fun w' => iprime_isB p true hp w')
    cases hd : (decide (1 ≤ d) && decide (d ≤ 3))
    · have HO : Hid (porO p d n xs = noP 2) := Lib.hid (porO_no (by simp [porB, hp, hd]))
      have H0 := Lib.hid (fun w' => iprime_isB p true hp w')
      have H1 := Lib.hid (fun w' => vars_is d false hd w')
      clear hp hd
      obtain ⟨⟨r0, r1, r2⟩, z0, z1, z2⟩ := poly3 rr
      obtain ⟨a0, a1, a2, a3, a4⟩ := fill_box (w := w) rr (ownP_nil W w.heap.size) (Nat.le_refl _) hbW (by omega) 0 0
      have A0 := Lib.hid a0
      have A1 := Lib.hid a1
      have A2 := Lib.hid a2
      have A3 := Lib.hid a3
      have A4 := Lib.hid a4
      clear a0 a1 a2 a3 a4
      go_enter Try.func36, Try.ntmps36
      go_wp2_with fail
      rw [← hW]
      clear hW
      ((with_reducible refine (H0.out _).mono ?_); rintro e w0 ⟨rfl, hw0⟩; subst hw0)
      go_wp2_with fail
      ((with_reducible refine (H1.out _).mono ?_); rintro e w1 ⟨rfl, hw1⟩; subst hw1)
      go_wp2_with fail
      exact bodyPost_ret (v := .tuple #[.agg #[.int .i64 0, .int .i64 0, .slice none 0 0], .int .i64 2]) (by simp [results, Try.results36, go_sem, A0.out, A1.out, A2.out]) rfl (by rw [HO.out]; exact ⟨_, rfl, A3.out, A4.out⟩)
    · have H1 := Lib.hid (fun w' => vars_is d true hd w')
      cases hn : rowB n
      · have HO : Hid (porO p d n xs = noP 2) := Lib.hid (porO_no (by simp [porB, hp, hd, hn]))
        have H0 := Lib.hid (fun w' => iprime_isB p true hp w')
        have H1 := Lib.hid (fun w' => vars_is d true hd w')
        have H2 := Lib.hid (fun w' => deg_isB n false hn w')
        clear hp hd hn
        obtain ⟨⟨r0, r1, r2⟩, z0, z1, z2⟩ := poly3 rr
        obtain ⟨a0, a1, a2, a3, a4⟩ := fill_box (w := w) rr (ownP_nil W w.heap.size) (Nat.le_refl _) hbW (by omega) 0 0
        have A0 := Lib.hid a0
        have A1 := Lib.hid a1
        have A2 := Lib.hid a2
        have A3 := Lib.hid a3
        have A4 := Lib.hid a4
        clear a0 a1 a2 a3 a4
        go_enter Try.func36, Try.ntmps36
        go_wp2_with fail
        rw [← hW]
        clear hW
        ((with_reducible refine (H0.out _).mono ?_); rintro e w0 ⟨rfl, hw0⟩; subst hw0)
        go_wp2_with fail
        ((with_reducible refine (H1.out _).mono ?_); rintro e w1 ⟨rfl, hw1⟩; subst hw1)
        go_wp2_with fail
        ((with_reducible refine (H2.out _).mono ?_); rintro e w2 ⟨rfl, hw2⟩; subst hw2)
        go_wp2_with fail
        exact bodyPost_ret (v := .tuple #[.agg #[.int .i64 0, .int .i64 0, .slice none 0 0], .int .i64 2]) (by simp [results, Try.results36, go_sem, A0.out, A1.out, A2.out]) rfl (by rw [HO.out]; exact ⟨_, rfl, A3.out, A4.out⟩)
      · have H2 := Lib.hid (fun w' => deg_isB n true hn w')
        have hp2 := prime_b hp
        have hdd : 1 ≤ d ∧ d ≤ 3 := by simpa using hd
        have hnn : 0 ≤ n ∧ n ≤ 12 := by simpa [rowB] using hn
        have hmb : monB d n = true := by simp [monB]; omega
        have hone := monL_one hmb
        have h169 := monL_le d n
        have HC := Lib.hid (fun w' => icount d n w')
        have HN := Lib.hid (fun w' (h : Sl w' (.slice xa xs.length xc) xs) => nareNumbers_any p ((monL d n).length : Int) _ xs w' (by omega) hl h)
        cases hB : nptB p ((monL d n).length : Int) xs
        · skip
          rw [hB] at HN
          have HO : Hid (porO p d n xs = noP 2) := Lib.hid (porO_no (by simp [porB, hp, hd, hn, hB]))
          obtain ⟨c, hc⟩ : ∃ c, (monL d n).length = c := ⟨_, rfl⟩
          have HLC := Lib.hid hc
          rw [hc] at HC HN
          simp only [hc] at HC HN hone h169
          clear hp hd hn hB hmb hc
          go_enter Try.func36, Try.ntmps36
          go_wp2_with fail
          rw [← hW]
          clear hW
          ((with_reducible refine (H0.out _).mono ?_); rintro e w0 ⟨rfl, hw0⟩; subst hw0)
          go_wp2_with fail
          ((with_reducible refine (H1.out _).mono ?_); rintro e w1 ⟨rfl, hw1⟩; subst hw1)
          go_wp2_with fail
          ((with_reducible refine (H2.out _).mono ?_); rintro e w2 ⟨rfl, hw2⟩; subst hw2)
          go_wp2_with fail
          ((with_reducible refine (HC.out _).mono ?_); rintro e w4 ⟨rfl, hb4⟩)
          have rr4 := rowIs_below rr hb4 rr.lt
          have hS4 := hSW.below hb4
          have hbw4 := hbW.trans (hb4.mono hbW.size)
          go_wp2_with fail
          ((with_reducible refine (HN.out _ hS4).mono ?_); rintro e w5 ⟨rfl, hb5⟩)
          have rr5 := rowIs_below rr4 hb5 rr4.lt
          have hS5 := hS4.below hb5
          have hbw5 := hbw4.trans (hb5.mono hbw4.size)
          obtain ⟨⟨r0, r1, r2⟩, z0, z1, z2⟩ := poly3 rr5
          obtain ⟨a0, a1, a2, a3, a4⟩ := fill_box (w := w) rr5 (ownP_nil w5 w.heap.size) (Nat.le_refl _) hbw5 (by omega) 0 0
          have A0 := Lib.hid a0
          have A1 := Lib.hid a1
          have A2 := Lib.hid a2
          have A3 := Lib.hid a3
          have A4 := Lib.hid a4
          clear a0 a1 a2 a3 a4
          go_wp2_with fail
          exact bodyPost_ret (v := .tuple #[.agg #[.int .i64 0, .int .i64 0, .slice none 0 0], .int .i64 2]) (by simp [results, Try.results36, go_sem, A0.out, A1.out, A2.out]) rfl (by rw [HO.out]; exact ⟨_, rfl, A3.out, A4.out⟩)
        · skip
          rw [hB] at HN
          have hlx := npt_len hB
          have hax := npt_all hB
          have HP := Lib.hid (fun w' (h : Sl w' (.slice xa xs.length xc) xs) => ipor p d n _ xs w' hp2.1 hp2.2 hlx hax h)
          have HO : Hid (porO p d n xs = ⟨p, d, rT (monL d n) xs, 0⟩) := Lib.hid (by unfold porO; rw [if_pos (by simp [porB, hp, hd, hn, hB])])
          obtain ⟨T, hT⟩ : ∃ T, rT (monL d n) xs = T := ⟨_, rfl⟩
          rw [hT] at HP HO
          obtain ⟨c, hc⟩ : ∃ c, (monL d n).length = c := ⟨_, rfl⟩
          have HLC := Lib.hid hc
          rw [hc] at HC HN
          simp only [hc] at HC HN hone h169
          clear hp hd hn hB hmb hc hlx hax hT
          go_enter Try.func36, Try.ntmps36
          go_wp2_with fail
          rw [← hW]
          clear hW
          ((with_reducible refine (H0.out _).mono ?_); rintro e w0 ⟨rfl, hw0⟩; subst hw0)
          go_wp2_with fail
          ((with_reducible refine (H1.out _).mono ?_); rintro e w1 ⟨rfl, hw1⟩; subst hw1)
          go_wp2_with fail
          ((with_reducible refine (H2.out _).mono ?_); rintro e w2 ⟨rfl, hw2⟩; subst hw2)
          go_wp2_with fail
          ((with_reducible refine (HC.out _).mono ?_); rintro e w4 ⟨rfl, hb4⟩)
          have rr4 := rowIs_below rr hb4 rr.lt
          have hS4 := hSW.below hb4
          have hbw4 := hbW.trans (hb4.mono hbW.size)
          go_wp2_with fail
          ((with_reducible refine (HN.out _ hS4).mono ?_); rintro e w5 ⟨rfl, hb5⟩)
          have rr5 := rowIs_below rr4 hb5 rr4.lt
          have hS5 := hS4.below hb5
          have hbw5 := hbw4.trans (hb5.mono hbw4.size)
          go_wp2_with fail
          ((with_reducible refine (HP.out _ hS5).mono ?_); rintro e w6 ⟨v6, rfl, ho6, hb6⟩)
          have rr6 := rowIs_below rr5 hb6 rr5.lt
          have hbw6 := hbw5.trans (hb6.mono hbw5.size)
          obtain ⟨ta, tc, rfl⟩ := owns_slice ho6
          obtain ⟨⟨r0, r1, r2⟩, z0, z1, z2⟩ := poly3 rr6
          obtain ⟨a0, a1, a2, a3, a4⟩ := fill_box (w := w) rr6 ho6 hbw5.size hbw6 (by omega) p d
          have A0 := Lib.hid a0
          have A1 := Lib.hid a1
          have A2 := Lib.hid a2
          have A3 := Lib.hid a3
          have A4 := Lib.hid a4
          clear a0 a1 a2 a3 a4 ho6
          go_wp2_with fail
          exact bodyPost_ret (v := .tuple #[.agg #[.int .i64 p, .int .i64 d, .slice ta T.length tc], .int .i64 0]) (by simp [results, Try.results36, go_sem, A0.out, A1.out, A2.out]) rfl (by rw [HO.out]; exact ⟨_, rfl, A3.out, A4.out⟩)

theorem sd_isB (d : Int) (B : Bool) (h : (decide (1 ≤ d) && decide (d ≤ 3)) = B) (w : World) : Calls Try.prog 41 #[.int .i64 d, .int .i64 1, .int .i64 3] w fun e w' => e = .returned (.bool B) ∧ w = w' :=
  (sin_is d 1 3 w B h).mono fun _ _ h => ⟨h.1, by have := h.2; first | exact this | exact this.symm⟩
theorem sn_isB (n : Int) (B : Bool) (h : rowB n = B) (w : World) : Calls Try.prog 41 #[.int .i64 n, .int .i64 0, .int .i64 12] w fun e w' => e = .returned (.bool B) ∧ w = w' :=
  (sin_is n 0 12 w B h).mono fun _ _ h => ⟨h.1, by have := h.2; first | exact this | exact this.symm⟩
theorem slE_of2 {w : World} {base c : Nat} {v : Value} {l : List EX3} (h : w.ownsRow base 113 3 v c (cells3 l)) (hc : l.length = c) : ∃ a cap, v = .slice a c cap := by
  subst hc
  obtain ⟨a, cap, h, _⟩ := slE_of h
  exact ⟨a, cap, h⟩

set_option maxRecDepth 8000 in
set_option maxHeartbeats 8000000 in
theorem spolr (p d n : Int) (v : Value) (xs : List Int) (w : World) (hl : xs.length ≤ 1048576) (hS : Sl w v xs) :
    Calls Try.prog 35 #[.int .i64 p, .int .i64 d, .int .i64 n, v] w (ResO w (porO p d n xs)) := by
  obtain ⟨W, hW, hbW, ⟨hWs1, hWs2⟩, rr⟩ := newbox w 0 0 (.slice none 0 0)
  have hSW := hS.below hbW
  obtain ⟨xa, xc, rfl, _⟩ := id hS
  cases hp : primeB p
  · have HO : Hid (porO p d n xs = noP 2) := Lib.hid (porO_no (by simp [porB, hp]))
    have H0 := Lib.hid (fun w' => sprime_isB p false hp w')
    clear hp
    obtain ⟨⟨r0, r1, r2⟩, z0, z1, z2⟩ := poly3 rr
    obtain ⟨a0, a1, a2, a3, a4⟩ := fill_box (w := w) rr (ownP_nil W w.heap.size) (Nat.le_refl _) hbW (by omega) 0 0
    have A0 := Lib.hid a0
    have A1 := Lib.hid a1
    have A2 := Lib.hid a2
    have A3 := Lib.hid a3
    have A4 := Lib.hid a4
    clear a0 a1 a2 a3 a4
    go_enter Try.func35, Try.ntmps35
    go_wp2_with fail
    rw [← hW]
    clear hW
    ((with_reducible refine (H0.out _).mono ?_); rintro e w0 ⟨rfl, hw0⟩; subst hw0)
    go_wp2_with fail
    exact bodyPost_ret (v := .tuple #[.agg #[.int .i64 0, .int .i64 0, .slice none 0 0], .int .i64 2]) (by simp [results, Try.results35, go_sem, A0.out, A1.out, A2.out]) rfl (by rw [HO.out]; exact ⟨_, rfl, A3.out, A4.out⟩)
  · have H0 := Lib.hid (fun w' => sprime_isB p true hp w')
    cases hd : (decide (1 ≤ d) && decide (d ≤ 3))
    · have HO : Hid (porO p d n xs = noP 2) := Lib.hid (porO_no (by simp [porB, hp, hd]))
      have H0 := Lib.hid (fun w' => sprime_isB p true hp w')
      have H1 := Lib.hid (fun w' => sd_isB d false hd w')
      clear hp hd
      obtain ⟨⟨r0, r1, r2⟩, z0, z1, z2⟩ := poly3 rr
      obtain ⟨a0, a1, a2, a3, a4⟩ := fill_box (w := w) rr (ownP_nil W w.heap.size) (Nat.le_refl _) hbW (by omega) 0 0
      have A0 := Lib.hid a0
      have A1 := Lib.hid a1
      have A2 := Lib.hid a2
      have A3 := Lib.hid a3
      have A4 := Lib.hid a4
      clear a0 a1 a2 a3 a4
      go_enter Try.func35, Try.ntmps35
      go_wp2_with fail
      rw [← hW]
      clear hW
      ((with_reducible refine (H0.out _).mono ?_); rintro e w0 ⟨rfl, hw0⟩; subst hw0)
      go_wp2_with fail
      ((with_reducible refine (H1.out _).mono ?_); rintro e w1 ⟨rfl, hw1⟩; subst hw1)
      go_wp2_with fail
      exact bodyPost_ret (v := .tuple #[.agg #[.int .i64 0, .int .i64 0, .slice none 0 0], .int .i64 2]) (by simp [results, Try.results35, go_sem, A0.out, A1.out, A2.out]) rfl (by rw [HO.out]; exact ⟨_, rfl, A3.out, A4.out⟩)
    · have H1 := Lib.hid (fun w' => sd_isB d true hd w')
      cases hn : rowB n
      · have HO : Hid (porO p d n xs = noP 2) := Lib.hid (porO_no (by simp [porB, hp, hd, hn]))
        have H0 := Lib.hid (fun w' => sprime_isB p true hp w')
        have H1 := Lib.hid (fun w' => sd_isB d true hd w')
        have H2 := Lib.hid (fun w' => sn_isB n false hn w')
        clear hp hd hn
        obtain ⟨⟨r0, r1, r2⟩, z0, z1, z2⟩ := poly3 rr
        obtain ⟨a0, a1, a2, a3, a4⟩ := fill_box (w := w) rr (ownP_nil W w.heap.size) (Nat.le_refl _) hbW (by omega) 0 0
        have A0 := Lib.hid a0
        have A1 := Lib.hid a1
        have A2 := Lib.hid a2
        have A3 := Lib.hid a3
        have A4 := Lib.hid a4
        clear a0 a1 a2 a3 a4
        go_enter Try.func35, Try.ntmps35
        go_wp2_with fail
        rw [← hW]
        clear hW
        ((with_reducible refine (H0.out _).mono ?_); rintro e w0 ⟨rfl, hw0⟩; subst hw0)
        go_wp2_with fail
        ((with_reducible refine (H1.out _).mono ?_); rintro e w1 ⟨rfl, hw1⟩; subst hw1)
        go_wp2_with fail
        ((with_reducible refine (H2.out _).mono ?_); rintro e w2 ⟨rfl, hw2⟩; subst hw2)
        go_wp2_with fail
        exact bodyPost_ret (v := .tuple #[.agg #[.int .i64 0, .int .i64 0, .slice none 0 0], .int .i64 2]) (by simp [results, Try.results35, go_sem, A0.out, A1.out, A2.out]) rfl (by rw [HO.out]; exact ⟨_, rfl, A3.out, A4.out⟩)
      · have H2 := Lib.hid (fun w' => sn_isB n true hn w')
        have hp2 := prime_b hp
        have hdd : 1 ≤ d ∧ d ≤ 3 := by simpa using hd
        have hnn : 0 ≤ n ∧ n ≤ 12 := by simpa [rowB] using hn
        have hmb : monB d n = true := by simp [monB]; omega
        have hone := monL_one hmb
        have h169 := monL_le d n
        obtain ⟨m, rfl⟩ : ∃ m : Nat, n = m := ⟨n.toNat, by omega⟩
        have hML : monL d m = outerL d m (m + 1) := by unfold monL; rw [if_pos hmb]; simp
        have HC := Lib.hid (fun w' => specMonomials_any d m w' hdd (by omega))
        rw [← hML] at HC
        have HN := Lib.hid (fun w' (h : Sl w' (.slice xa xs.length xc) xs) => npoint_any p ((monL d m).length : Int) _ xs w' hp2.1 hp2.2 (by omega) hl h)
        cases hB : nptB p ((monL d m).length : Int) xs
        · skip
          rw [hB] at HN
          have HO : Hid (porO p d m xs = noP 2) := Lib.hid (porO_no (by simp [porB, hp, hd, hn, hB]))
          obtain ⟨c, hc⟩ : ∃ c, (monL d m).length = c := ⟨_, rfl⟩
          have HLC := Lib.hid hc
          rw [hc] at HC HN
          simp only [hc] at HC HN hone h169
          clear hp hd hn hB hmb hc hML
          go_enter Try.func35, Try.ntmps35
          go_wp2_with fail
          rw [← hW]
          clear hW
          ((with_reducible refine (H0.out _).mono ?_); rintro e w0 ⟨rfl, hw0⟩; subst hw0)
          go_wp2_with fail
          ((with_reducible refine (H1.out _).mono ?_); rintro e w1 ⟨rfl, hw1⟩; subst hw1)
          go_wp2_with fail
          ((with_reducible refine (H2.out _).mono ?_); rintro e w2 ⟨rfl, hw2⟩; subst hw2)
          go_wp2_with fail
          ((with_reducible refine (HC.out _).mono ?_); rintro e w4 ⟨v4, rfl, ho4, hb4⟩)
          have hS4m := slE_of2 ho4 HLC.out
          obtain ⟨ma, mc, rfl⟩ := hS4m
          clear ho4
          have rr4 := rowIs_below rr hb4 rr.lt
          have hS4 := hSW.below hb4
          have hbw4 := hbW.trans (hb4.mono hbW.size)
          go_wp2_with fail
          ((with_reducible refine (HN.out _ hS4).mono ?_); rintro e w5 ⟨rfl, hw5⟩; subst hw5)
          have rr5 := rr4
          have hS5 := hS4
          have hbw5 := hbw4
          obtain ⟨⟨r0, r1, r2⟩, z0, z1, z2⟩ := poly3 rr5
          obtain ⟨a0, a1, a2, a3, a4⟩ := fill_box (w := w) rr5 (ownP_nil w4 w.heap.size) (Nat.le_refl _) hbw5 (by omega) 0 0
          have A0 := Lib.hid a0
          have A1 := Lib.hid a1
          have A2 := Lib.hid a2
          have A3 := Lib.hid a3
          have A4 := Lib.hid a4
          clear a0 a1 a2 a3 a4
          go_wp2_with fail
          exact bodyPost_ret (v := .tuple #[.agg #[.int .i64 0, .int .i64 0, .slice none 0 0], .int .i64 2]) (by simp [results, Try.results35, go_sem, A0.out, A1.out, A2.out]) rfl (by rw [HO.out]; exact ⟨_, rfl, A3.out, A4.out⟩)
        · skip
          rw [hB] at HN
          have hlx := npt_len hB
          have hax := npt_all hB
          have HP := Lib.hid (fun w' (h : Sl w' (.slice xa xs.length xc) xs) => sofr p d m _ xs w' hdd (by omega) (monL d m) hML.symm h169 hlx h)
          have HO : Hid (porO p d m xs = ⟨p, d, rT (monL d m) xs, 0⟩) := Lib.hid (by unfold porO; rw [if_pos (by simp [porB, hp, hd, hn, hB])])
          obtain ⟨T, hT⟩ : ∃ T, rT (monL d m) xs = T := ⟨_, rfl⟩
          rw [hT] at HP HO
          obtain ⟨c, hc⟩ : ∃ c, (monL d m).length = c := ⟨_, rfl⟩
          have HLC := Lib.hid hc
          rw [hc] at HC HN
          simp only [hc] at HC HN hone h169
          clear hp hd hn hB hmb hc hML hlx hax hT
          go_enter Try.func35, Try.ntmps35
          go_wp2_with fail
          rw [← hW]
          clear hW
          ((with_reducible refine (H0.out _).mono ?_); rintro e w0 ⟨rfl, hw0⟩; subst hw0)
          go_wp2_with fail
          ((with_reducible refine (H1.out _).mono ?_); rintro e w1 ⟨rfl, hw1⟩; subst hw1)
          go_wp2_with fail
          ((with_reducible refine (H2.out _).mono ?_); rintro e w2 ⟨rfl, hw2⟩; subst hw2)
          go_wp2_with fail
          ((with_reducible refine (HC.out _).mono ?_); rintro e w4 ⟨v4, rfl, ho4, hb4⟩)
          have hS4m := slE_of2 ho4 HLC.out
          obtain ⟨ma, mc, rfl⟩ := hS4m
          clear ho4
          have rr4 := rowIs_below rr hb4 rr.lt
          have hS4 := hSW.below hb4
          have hbw4 := hbW.trans (hb4.mono hbW.size)
          go_wp2_with fail
          ((with_reducible refine (HN.out _ hS4).mono ?_); rintro e w5 ⟨rfl, hw5⟩; subst hw5)
          have rr5 := rr4
          have hS5 := hS4
          have hbw5 := hbw4
          go_wp2_with fail
          ((with_reducible refine (HP.out _ hS5).mono ?_); rintro e w6 ⟨v6, rfl, ho6, hb6⟩)
          have rr6 := rowIs_below rr5 hb6 rr5.lt
          have hbw6 := hbw5.trans (hb6.mono hbw5.size)
          obtain ⟨ta, tc, rfl⟩ := owns_slice ho6
          obtain ⟨⟨r0, r1, r2⟩, z0, z1, z2⟩ := poly3 rr6
          obtain ⟨a0, a1, a2, a3, a4⟩ := fill_box (w := w) rr6 ho6 hbw5.size hbw6 (by omega) p d
          have A0 := Lib.hid a0
          have A1 := Lib.hid a1
          have A2 := Lib.hid a2
          have A3 := Lib.hid a3
          have A4 := Lib.hid a4
          clear a0 a1 a2 a3 a4 ho6
          go_wp2_with fail
          exact bodyPost_ret (v := .tuple #[.agg #[.int .i64 p, .int .i64 d, .slice ta T.length tc], .int .i64 0]) (by simp [results, Try.results35, go_sem, A0.out, A1.out, A2.out]) rfl (by rw [HO.out]; exact ⟨_, rfl, A3.out, A4.out⟩)
end Go.Proofs.Ytbhgbifliihlbaa
