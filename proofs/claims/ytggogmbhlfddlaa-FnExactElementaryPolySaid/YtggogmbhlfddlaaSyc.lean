/-
  COMPLETE POLYNOMIALS: the outcome; 'spec.CompletePoly'. Conditions: as each theorem states.
  WALKS: 'impl.CompletePoly'. Conditions: as each theorem states.
-/
import Derived.Test.YtggogmbhlfddlaaYw
import Derived.Test.YtggogmbhlfddlaaYg
import Derived.Test.YtggogmbhlfddlaaRz
import Derived.Test.YtggogmbhlfddlaaYs
namespace Go.Proofs.Ytggogmbhlfddlaa
open Go.RowKit Go.Sort Go.Maps

/-- As many ones as there are monomials. -/
def onesL (M : List (Int × Int × Int)) : List Int := List.replicate M.length 1
def degB (n : Int) : Bool := decide (0 ≤ n) && decide (n ≤ 12)
def cmpB (p d k : Int) : Bool := primeB p && ((decide (1 ≤ d) && decide (d ≤ 3)) && degB k)
def cmpO (p d k : Int) : OutP := if cmpB p d k then ⟨p, d, rT (monL d k) (onesL (monL d k)), 0⟩ else noP 2
theorem cmpO_len (p d k : Int) : (cmpO p d k).S.length ≤ 169 := by
  unfold cmpO
  split
  · exact Nat.le_trans (rT_len _ _) (monL_le d k)
  · simp [noP]
theorem cmpO_no {p d k : Int} (h : cmpB p d k = false) : cmpO p d k = noP 2 := by unfold cmpO; rw [if_neg (by simp [h])]
theorem cmpO_yes {p d k : Int} (h : cmpB p d k = true) : cmpO p d k = ⟨p, d, rT (monL d k) (onesL (monL d k)), 0⟩ := by unfold cmpO; rw [if_pos h]
theorem prime_bc {p : Int} (h : primeB p = true) : 2 ≤ p ∧ p ≤ 13 := by
  simp [primeB] at h
  omega
theorem vars_isc (d : Int) (B : Bool) (h : (decide (1 ≤ d) && decide (d ≤ 3)) = B) (w : World) : Calls Try.prog 65 #[.int .i64 d] w fun e w' => e = .returned (.bool B) ∧ w = w' := by
  subst h
  exact vars_any d w
theorem iprime_isc (p : Int) (B : Bool) (h : primeB p = B) (w : World) : Calls Try.prog 52 #[.int .i64 p] w fun e w' => e = .returned (.bool B) ∧ w = w' := by
  subst h
  exact prime_any p w
theorem sprime_isc (p : Int) (B : Bool) (h : primeB p = B) (w : World) : Calls Try.prog 48 #[.int .i64 p] w fun e w' => e = .returned (.bool B) ∧ w' = w :=
  (specPrime_any p w).mono fun _ _ ⟨a, b⟩ => ⟨by rw [a, h], b.symm⟩
theorem deg_isc (n : Int) (B : Bool) (h : degB n = B) (w : World) : Calls Try.prog 66 #[.int .i64 n] w fun e w' => e = .returned (.bool B) ∧ w = w' := by
  have hB := Lib.hid h
  by_cases h1 : 0 ≤ n
  · have hx : B = decide (n ≤ 12) := by rw [← h]; simp [degB, h1]
    subst hx
    clear h hB
    go_enter Try.func66, Try.ntmps66
    go_wp2
    go_ret
    exact ⟨by simp, rfl⟩
  · have hx : B = false := by rw [← h]; simp [degB, h1]
    subst hx
    have h2 : n < 0 := by omega
    clear h hB h1
    go_enter Try.func66, Try.ntmps66
    go_wp2
    go_ret
    exact ⟨rfl, rfl⟩
/-- The model's judge of a prime and a number of letters. -/
theorem sshape (p d : Int) (B : Bool) (h : (primeB p && (decide (1 ≤ d) && decide (d ≤ 3))) = B) (w : World) : Calls Try.prog 69 #[.int .i64 p, .int .i64 d] w fun e w' => e = .returned (.bool B) ∧ w' = w := by
  cases hp : primeB p
  · have hx : B = false := by rw [← h]; simp [hp]
    subst hx
    have HP := Lib.hid (fun W => sprime_isc p false hp W)
    clear h hp
    go_enter Try.func69, Try.ntmps69
    go_wp2_with fail
    ((with_reducible refine (HP.out _).mono ?_); rintro e w1 ⟨rfl, rfl⟩)
    go_wp2_with fail
    go_ret
    exact ⟨rfl, rfl⟩
  · have HP := Lib.hid (fun W => sprime_isc p true hp W)
    have HV := Lib.hid (fun W => rin_is d 1 3 W B (by rw [← h, hp]; simp))
    clear h hp
    go_enter Try.func69, Try.ntmps69
    go_wp2_with fail
    ((with_reducible refine (HP.out _).mono ?_); rintro e w1 ⟨rfl, rfl⟩)
    go_wp2_with fail
    ((with_reducible refine (HV.out _).mono ?_); rintro e w2 ⟨rfl, rfl⟩)
    go_wp2_with fail
    go_ret
    exact ⟨rfl, rfl⟩
/-- Where the monomials stand. -/
def indF (M : List (Int × Int × Int)) (e : Int × Int × Int) : Int := if e ∈ M then 1 else 0
theorem ones_at : ∀ (M : List (Int × Int × Int)), ∀ e, atL (rT M (onesL M)) e = indF M e
  | [], e => by simp [rT, atL, indF]
  | m :: M, e => by
    have h := ones_at M e
    unfold onesL at h ⊢
    rw [List.length_cons, List.replicate_succ]
    simp only [rT]
    rw [if_neg (by decide), atL, h]
    unfold indF
    by_cases hm : tmE (mkT m 1) = e
    · have hm' : m = e := hm
      rw [if_pos hm, hm']
      simp [mkT]
    · have hm' : ¬ e = m := fun h' => hm h'.symm
      rw [if_neg hm]
      simp [hm']
theorem ones_in {p : Int} (h2 : 2 ≤ p) (M : List (Int × Int × Int)) : ∀ x ∈ onesL M, 0 ≤ x ∧ x < p := fun x hx => by
  have := List.eq_of_mem_replicate hx
  omega
theorem ones_isP {p : Int} (h2 : 2 ≤ p) (d k : Int) : IsP p (rT (monL d k) (onesL (monL d k))) (indF (monL d k)) := by
  have h := rT_is (d := d) (n := k) (ones_in h2 (monL d k))
  exact ⟨h.1, h.2.1, fun e he => ones_at _ e⟩
theorem mon_nodup (d k : Int) : (monL d k).Nodup := (monL_asc d k).imp fun {a b} h e => by
  subst e
  rw [before_irrefl] at h
  cases h
theorem ind_step {p : Int} (h2 : 2 ≤ p) {M : List (Int × Int × Int)} (hn : M.Nodup) {j : Nat} (hj : j < M.length) : (fun a => if a = M[j] then (1 + indF (M.take j) M[j]) % p else indF (M.take j) a) = indF (M.take (j + 1)) := by
  have hnot : M[j] ∉ M.take j := fun hm => by
    obtain ⟨i, hi, he⟩ := List.getElem_of_mem hm
    have hi' : i < j := by simp at hi; omega
    rw [List.getElem_take] at he
    exact List.pairwise_iff_getElem.1 hn i j (by omega) hj hi' he
  funext a
  rw [List.take_succ_eq_append_getElem hj]
  unfold indF
  by_cases e : a = M[j]
  · subst e
    rw [if_pos rfl, if_neg hnot, if_pos (List.mem_append.2 (.inr (List.mem_singleton.2 rfl))), Int.add_zero]
    exact Int.emod_eq_of_lt (by omega) (by omega)
  · rw [if_neg e]
    by_cases h : a ∈ M.take j
    · rw [if_pos h, if_pos (List.mem_append.2 (.inl h))]
    · rw [if_neg h, if_neg (fun h' => (List.mem_append.1 h').elim h (fun h2 => e (List.mem_singleton.1 h2)))]
theorem put_box {wr : World} {q : Nat} {v : Value} {F : Nat → Value} (hres : wr.rowIs q 42 3 F) (p d : Int) :
    (((wr.setCell ⟨q, 0, none⟩ (.int .i64 p)).setCell ⟨q, 1, none⟩ (.int .i64 d)).setCell ⟨q, 2, none⟩ v).rowIs q 42 3 (polyF p d v) :=
  (((hres.set 0 (.int .i64 p)).set 1 (.int .i64 d)).set 2 v).congr fun i hi => match i, hi with
    | 0, _ => rfl
    | 1, _ => rfl
    | 2, _ => rfl

set_option maxRecDepth 8000 in
set_option maxHeartbeats 8000000 in
theorem scmp (p d k : Int) (w : World) :
    Calls Try.prog 37 #[.int .i64 p, .int .i64 d, .int .i64 k] w (ResO w (cmpO p d k)) := by
  obtain ⟨W, hW, hbW, ⟨hWs1, hWs2⟩, rr⟩ := newbox w 0 0 (.slice none 0 0)
  cases hs : (primeB p && (decide (1 ≤ d) && decide (d ≤ 3)))
  · have HO : Hid (cmpO p d k = noP 2) := Lib.hid (cmpO_no (by unfold cmpB; rw [← Bool.and_assoc, hs]; rfl))
    have H0 := Lib.hid (fun w' => sshape p d false hs w')
    clear hs
    obtain ⟨⟨r0, r1, r2⟩, z0, z1, z2⟩ := poly3 rr
    obtain ⟨a0, a1, a2, a3, a4⟩ := fill_box (w := w) rr (ownP_nil W w.heap.size) (Nat.le_refl _) hbW (by omega) 0 0
    have A0 := Lib.hid a0
    have A1 := Lib.hid a1
    have A2 := Lib.hid a2
    have A3 := Lib.hid a3
    have A4 := Lib.hid a4
    clear a0 a1 a2 a3 a4
    go_enter Try.func37, Try.ntmps37
    go_wp2_with fail
    rw [← hW]
    clear hW
    ((with_reducible refine (H0.out _).mono ?_); rintro e w0 ⟨rfl, rfl⟩)
    go_wp2_with fail
    exact bodyPost_ret (v := .tuple #[.agg #[.int .i64 0, .int .i64 0, .slice none 0 0], .int .i64 2]) (by simp [results, Try.results37, go_sem, A0.out, A1.out, A2.out]) rfl (by rw [HO.out]; exact ⟨_, rfl, A3.out, A4.out⟩)
  have H0 := Lib.hid (fun w' => sshape p d true hs w')
  cases hk : degB k
  · have HO : Hid (cmpO p d k = noP 2) := Lib.hid (cmpO_no (by unfold cmpB; rw [hk]; simp))
    have H1 := Lib.hid (fun w' => rin_is k 0 12 w' false hk)
    clear hs hk
    obtain ⟨⟨r0, r1, r2⟩, z0, z1, z2⟩ := poly3 rr
    obtain ⟨a0, a1, a2, a3, a4⟩ := fill_box (w := w) rr (ownP_nil W w.heap.size) (Nat.le_refl _) hbW (by omega) 0 0
    have A0 := Lib.hid a0
    have A1 := Lib.hid a1
    have A2 := Lib.hid a2
    have A3 := Lib.hid a3
    have A4 := Lib.hid a4
    clear a0 a1 a2 a3 a4
    go_enter Try.func37, Try.ntmps37
    go_wp2_with fail
    rw [← hW]
    clear hW
    ((with_reducible refine (H0.out _).mono ?_); rintro e w0 ⟨rfl, rfl⟩)
    go_wp2_with fail
    ((with_reducible refine (H1.out _).mono ?_); rintro e w1 ⟨rfl, rfl⟩)
    go_wp2_with fail
    exact bodyPost_ret (v := .tuple #[.agg #[.int .i64 0, .int .i64 0, .slice none 0 0], .int .i64 2]) (by simp [results, Try.results37, go_sem, A0.out, A1.out, A2.out]) rfl (by rw [HO.out]; exact ⟨_, rfl, A3.out, A4.out⟩)
  have H1 := Lib.hid (fun w' => rin_is k 0 12 w' true hk)
  have hp : primeB p = true := by simp only [Bool.and_eq_true] at hs; exact hs.1
  have hdd : 1 ≤ d ∧ d ≤ 3 := by simp only [Bool.and_eq_true, decide_eq_true_eq] at hs; exact hs.2
  have hkk : 0 ≤ k ∧ k ≤ 12 := by simpa [degB] using hk
  obtain ⟨hp2, hp13⟩ := prime_bc hp
  have HO := Lib.hid (cmpO_yes (p := p) (d := d) (k := k) (by unfold cmpB; rw [← Bool.and_assoc, hs, hk]; rfl))
  obtain ⟨n, rfl⟩ := Int.eq_ofNat_of_zero_le hkk.1
  have hn : n ≤ 12 := by omega
  have hmb : monL d (n : Int) = outerL d n (n + 1) := by
    unfold monL
    rw [if_pos (by simp [monB]; omega)]
    simp
  have HISP := Lib.hid (ones_isP hp2 d (n : Int))
  have HND := Lib.hid (mon_nodup d (n : Int))
  have H12 := Lib.hid (monL_12 d (n : Int))
  have HBY := Lib.hid (monL_byte d (n : Int))
  have hm169 := monL_le d (n : Int)
  obtain ⟨M, hM⟩ : ∃ M, monL d (n : Int) = M := ⟨_, rfl⟩
  rw [hM] at HO HISP HND H12 HBY hm169 hmb
  have HM := Lib.hid (specMonomials_any d n W hdd hn)
  rw [← hmb] at HM
  clear hs hk hp hM hmb hkk
  go_enter Try.func37, Try.ntmps37
  go_wp2_with fail
  rw [← hW]
  clear hW
  ((with_reducible refine (H0.out _).mono ?_); rintro e w0 ⟨rfl, rfl⟩)
  go_wp2_with fail
  ((with_reducible refine (H1.out _).mono ?_); rintro e w0 ⟨rfl, rfl⟩)
  go_wp2_with fail
  ((with_reducible refine HM.out.mono ?_); rintro e w1 ⟨v1, rfl, ho1, hb1⟩)
  have hS1 := slE_of ho1
  obtain ⟨ma, mc, rfl, hmc⟩ := id hS1
  clear ho1 HM
  go_wp2_with fail
  ((with_reducible refine (empty_any p d w1).mono ?_); rintro e w2 ⟨rfl, hown, hb2⟩)
  obtain ⟨V, hV, hbV, ⟨hVs1, hVs2⟩, rq⟩ := newbox w2 p d (.slice (some ⟨w1.heap.size + 1, 0, none⟩) 0 0)
  have s1 := hb1.size
  have s2 := hb2.size
  have hbWV := hb1.trans ((hb2.trans (hbV.mono s2)).mono s1)
  have hm2 : Below w1.heap.size w1 V := hb2.trans (hbV.mono s2)
  have rrV := rowIs_below rr hbWV rr.lt
  have hwV := hbW.trans (hbWV.mono hbW.size)
  have howV : OwnP V w.heap.size (.slice (some ⟨w1.heap.size + 1, 0, none⟩) 0 0) [] := owns_low (owns_belowT hown hbV) (by omega)
  have hqn : w.heap.size ≠ w2.heap.size := by omega
  go_upto_region 4 with fail
  rw [← hV]
  clear hV rr hown hbV hb1 hbW hbWV
  go_wp2_with fail
  go_loopw [10] (fun i wr => ∃ (j : Nat) (sv : Value) (O : List Tm), j ≤ M.length ∧ i = .int .i64 j ∧ Hid (IsP p O (indF (M.take j))) ∧ OwnP wr w.heap.size sv O ∧ wr.rowIs w2.heap.size 42 3 (polyF p d sv) ∧ wr.rowIs w.heap.size 42 3 (polyF 0 0 (.slice none 0 0)) ∧ Below w1.heap.size w1 wr ∧ Below w.heap.size w wr) (fun i _ => M.length - (intOf i).toNat)
  case atStart => exact ⟨0, _, [], by omega, rfl, Lib.hid ((show (fun _ => 0) = indF (M.take 0) by funext e; simp [indF]) ▸ IsP.nil p), howV, rq, rrV, hm2, hwV⟩
  case round =>
    clear howV rq rrV hm2 hwV
    obtain ⟨j, sv, O, hj, rfl, HP, hO, hq, hr, hb, hbw⟩ := hrel
    obtain ⟨sa, sc, rfl⟩ := owns_slice hO
    by_cases hlt : j < M.length
    · have hlt' : (j : Int) < (M.length : Int) := by omega
      obtain ⟨b, off, rfl, hbb, hT⟩ : ∃ b off, ma = some ⟨b, off, none⟩ ∧ b < w1.heap.size ∧ ExW w1 b off M := by
        rcases hmc with rfl | ⟨b, off, h1, h2, h3⟩
        · simp at hlt
        · exact ⟨b, off, h1, h2.2, h3⟩
      obtain ⟨c0, c1, c2⟩ := hT j hlt
      have HB3 := Lib.hid (HBY.out _ (List.getElem_mem hlt))
      have HPN := Lib.hid (HP.out.put hp2 (H12.out _ (List.getElem_mem hlt)) 1)
      rw [ind_step hp2 HND.out hlt] at HPN
      obtain ⟨ex, hex⟩ : ∃ e, M[j].1 = e := ⟨_, rfl⟩
      obtain ⟨ey, hey⟩ : ∃ e, M[j].2.1 = e := ⟨_, rfl⟩
      obtain ⟨ez, hez⟩ : ∃ e, M[j].2.2 = e := ⟨_, rfl⟩
      have hexe : M[j] = (ex, ey, ez) := by rw [← hex, ← hey, ← hez]
      rw [hex] at c0
      rw [hey] at c1
      rw [hez] at c2
      rw [hexe] at HB3 HPN
      have e0 := (hb.cell (p := ⟨_, _, none⟩) hbb).trans c0
      have e1 := (hb.cell (p := ⟨_, _, none⟩) hbb).trans c1
      have e2 := (hb.cell (p := ⟨_, _, none⟩) hbb).trans c2
      have HPU := Lib.hid (specPut p d (.slice sa O.length sc) O _ ex ey ez 1 wr.drew hO.slice HP.out hp2 hp13 HB3.out (by omega) (by omega))
      obtain ⟨O2, hO2⟩ : ∃ O2, putL p O (ex, ey, ez) 1 = O2 := ⟨_, rfl⟩
      rw [hO2] at HPN HPU
      obtain ⟨⟨q0, q1, q2⟩, z0, z1, z2⟩ := poly3 hq
      have hqlt := hq.lt
      clear c0 c1 c2 hT hexe hex hey hez hO2 HP hmc
      go_wp2_with fail
      refine region_tail 5 (by kernel_rfl) (by kernel_rfl) ?_
      simp only [List.take_succ_cons, List.take_zero, List.drop_succ_cons, List.drop_zero]
      repeat still_step
      refine wpStill_nil ?_
      go_wp2_with fail
      ((with_reducible refine HPU.out.mono ?_); rintro e w5 ⟨v5, rfl, ho5, hb5⟩)
      have hsd : wr.drew.heap.size ≤ w5.heap.size := hb5.size
      have hq5 := rowIs_below (show wr.drew.rowIs w2.heap.size 42 3 (polyF p d (.slice sa O.length sc)) from hq) hb5 hq.lt
      have hr5 := rowIs_below (show wr.drew.rowIs w.heap.size 42 3 (polyF 0 0 (.slice none 0 0)) from hr) hb5 hr.lt
      have hb15 : Below w1.heap.size w1 w5 := hb.drew.trans (hb5.mono hb.size)
      have hbw5 : Below w.heap.size w w5 := hbw.drew.trans (hb5.mono hbw.size)
      obtain ⟨s5, c5, rfl⟩ := owns_slice ho5
      obtain ⟨_, _, _, a3, a4⟩ := fill_box (w := w) hq5 ho5 (show w.heap.size ≤ wr.drew.heap.size from hbw.size) hbw5 (show w.heap.size ≤ w2.heap.size by omega) p d
      have hq6 := put_box (v := .slice s5 O2.length c5) hq5 p d
      have hne : ∀ o, w.heap.size ≠ (⟨w2.heap.size, o, none⟩ : Addr).block := fun o => hqn
      have hr6 := ((hr5.setOther (hne 0) (.int .i64 p)).setOther (hne 1) (.int .i64 d)).setOther (hne 2) (.slice s5 O2.length c5)
      have hge : ∀ o, w1.heap.size ≤ (⟨w2.heap.size, o, none⟩ : Addr).block := fun o => s2
      have hb6 := ((hb15.setCell (hge 0) (.int .i64 p)).setCell (hge 1) (.int .i64 d)).setCell (hge 2) (.slice s5 O2.length c5)
      obtain ⟨⟨q0, q1, q2⟩, z0, z1, z2⟩ := poly3 hq5
      have HH := Lib.hid (And.intro a3 (And.intro hq6 (And.intro hr6 (And.intro hb6 a4))))
      clear a3 a4 hq6 hr6 hb6 hq5 hr5 hb15 hbw5 hb5 ho5 hO hq hr hb hbw hne hge e0 e1 e2
      go_wp2_with fail
      go_roundw
      case rel => exact ⟨j + 1, _, O2, by omega, by go_num, HPN, HH.out.1, HH.out.2.1, HH.out.2.2.1, HH.out.2.2.2.1, HH.out.2.2.2.2⟩
      case measure => simp [intOf]; omega
    · obtain rfl : j = M.length := by omega
      have hOS : Hid (O = rT M (onesL M)) := Lib.hid (by
        have h := HP.out
        rw [List.take_length] at h
        exact h.unique HISP.out)
      obtain ⟨⟨q0, q1, q2⟩, _⟩ := poly3 hq
      obtain ⟨⟨r0, r1, r2⟩, z0, z1, z2⟩ := poly3 hr
      obtain ⟨a0, a1, a2, a3, a4⟩ := fill_box (w := w) hr hO (Nat.le_refl _) hbw (Nat.le_refl _) p d
      have A0 := Lib.hid a0
      have A1 := Lib.hid a1
      have A2 := Lib.hid a2
      have A3 := Lib.hid a3
      have A4 := Lib.hid a4
      clear a0 a1 a2 a3 a4 hO hb hbw
      go_wp2_with fail
      exact bodyPost_ret (v := .tuple #[.agg #[.int .i64 p, .int .i64 d, .slice sa O.length sc], .int .i64 0]) (by simp [results, Try.results37, go_sem, A0.out, A1.out, A2.out]) rfl (by rw [HO.out]; exact ⟨_, rfl, by rw [← hOS.out]; exact A3.out, A4.out⟩)
end Go.Proofs.Ytggogmbhlfddlaa
namespace Go.Proofs.Ytggogmbhlfddlaa
open Go.RowKit Go.Sort Go.Maps Go.Shelf

attribute [local go_sem] Oper.semAt_some

theorem atL_ne_memC {L : List Tm} {e : Int × Int × Int} (h : atL L e ≠ 0) : ∃ t ∈ L, tmE t = e :=
  Classical.byContradiction fun hn => h (atL_none fun t ht he => hn ⟨t, ht, he⟩)

set_option maxRecDepth 100000 in
set_option maxHeartbeats 8000000 in
theorem icmp_no (p d k : Int) (w : World) (h : cmpB p d k = false) :
    Calls Try.prog 38 #[.int .i64 p, .int .i64 d, .int .i64 k] w (ResO w (cmpO p d k)) := by
  obtain ⟨W, hW, hbW, ⟨hWs1, hWs2⟩, rr⟩ := newbox w 0 0 (.slice none 0 0)
  have HO : Hid (cmpO p d k = noP 2) := Lib.hid (cmpO_no h)
  obtain ⟨⟨r0, r1, r2⟩, z0, z1, z2⟩ := poly3 rr
  obtain ⟨a0, a1, a2, a3, a4⟩ := fill_box (w := w) rr (ownP_nil W w.heap.size) (Nat.le_refl _) hbW (by omega) 0 0
  have A0 := Lib.hid a0
  have A1 := Lib.hid a1
  have A2 := Lib.hid a2
  have A3 := Lib.hid a3
  have A4 := Lib.hid a4
  clear a0 a1 a2 a3 a4
  cases hp : primeB p
  · have H0 := Lib.hid (fun w' => iprime_isc p false hp w')
    clear hp h
    go_enter Try.func38, Try.ntmps38
    go_wp2_with fail
    rw [← hW]
    clear hW
    ((with_reducible refine (H0.out _).mono ?_); rintro e w0 ⟨rfl, hw0⟩; subst hw0)
    go_wp2_with fail
    exact bodyPost_ret (v := .tuple #[.agg #[.int .i64 0, .int .i64 0, .slice none 0 0], .int .i64 2]) (by simp [results, Try.results38, go_sem, A0.out, A1.out, A2.out]) rfl (by rw [HO.out]; exact ⟨_, rfl, A3.out, A4.out⟩)
  have H0 := Lib.hid (fun w' => iprime_isc p true hp w')
  cases hd : (decide (1 ≤ d) && decide (d ≤ 3))
  · have H1 := Lib.hid (fun w' => vars_isc d false hd w')
    clear hp hd h
    go_enter Try.func38, Try.ntmps38
    go_wp2_with fail
    rw [← hW]
    clear hW
    ((with_reducible refine (H0.out _).mono ?_); rintro e w0 ⟨rfl, hw0⟩; subst hw0)
    go_wp2_with fail
    ((with_reducible refine (H1.out _).mono ?_); rintro e w1 ⟨rfl, hw1⟩; subst hw1)
    go_wp2_with fail
    exact bodyPost_ret (v := .tuple #[.agg #[.int .i64 0, .int .i64 0, .slice none 0 0], .int .i64 2]) (by simp [results, Try.results38, go_sem, A0.out, A1.out, A2.out]) rfl (by rw [HO.out]; exact ⟨_, rfl, A3.out, A4.out⟩)
  have H1 := Lib.hid (fun w' => vars_isc d true hd w')
  have hk : degB k = false := by simpa [cmpB, hp, hd] using h
  have H2 := Lib.hid (fun w' => deg_isc k false hk w')
  clear hp hd h hk
  go_enter Try.func38, Try.ntmps38
  go_wp2_with fail
  rw [← hW]
  clear hW
  ((with_reducible refine (H0.out _).mono ?_); rintro e w0 ⟨rfl, hw0⟩; subst hw0)
  go_wp2_with fail
  ((with_reducible refine (H1.out _).mono ?_); rintro e w1 ⟨rfl, hw1⟩; subst hw1)
  go_wp2_with fail
  ((with_reducible refine (H2.out _).mono ?_); rintro e w2 ⟨rfl, hw2⟩; subst hw2)
  go_wp2_with fail
  exact bodyPost_ret (v := .tuple #[.agg #[.int .i64 0, .int .i64 0, .slice none 0 0], .int .i64 2]) (by simp [results, Try.results38, go_sem, A0.out, A1.out, A2.out]) rfl (by rw [HO.out]; exact ⟨_, rfl, A3.out, A4.out⟩)

set_option maxRecDepth 100000 in
set_option maxHeartbeats 8000000 in
theorem icmp_yes (p d n : Int) (w : World) (h : cmpB p d n = true) :
    Calls Try.prog 38 #[.int .i64 p, .int .i64 d, .int .i64 n] w (ResO w (cmpO p d n)) := by
  have hmm := @run_makeMap Try.prog
  have HO : Hid (cmpO p d n = ⟨p, d, rT (monL d n) (onesL (monL d n)), 0⟩) := Lib.hid (cmpO_yes h)
  have hpb : primeB p = true := by simp only [cmpB, Bool.and_eq_true] at h; exact h.1
  have hdb : (decide (1 ≤ d) && decide (d ≤ 3)) = true := by simp only [cmpB, Bool.and_eq_true] at h ⊢; exact h.2.1
  have hkb : degB n = true := by simp only [cmpB, Bool.and_eq_true] at h; exact h.2.2
  obtain ⟨hp2, hp13⟩ := prime_bc hpb
  have H0 := Lib.hid (fun w' => iprime_isc p true hpb w')
  have H1 := Lib.hid (fun w' => vars_isc d true hdb w')
  have H2 := Lib.hid (fun w' => deg_isc n true hkb w')
  clear hpb hdb hkb h
  obtain ⟨W0, hW0, hb0, ⟨h01, h02⟩, rr⟩ := newbox w 0 0 (.slice none 0 0)
  obtain ⟨W1, hW1, hb1, hs1, hm1, hbx1⟩ : ∃ W1, W1 = (W0.alloc (.map #[] 0)).alloc (.cells #[.map (some W0.heap.size)] 92) ∧ Below W0.heap.size W0 W1 ∧ W1.heap.size = W0.heap.size + 2 ∧ MapE W1 W0.heap.size 0 (.map []) ∧ W1.rowIs (W0.heap.size + 1) 92 1 (fun _ => .map (some W0.heap.size)) := by
    have h1 := World.ownsMap_made (H := Unit) W0 Try.prog 82 (plainElem Try.prog 2)
    refine ⟨_, rfl, (box1 W0 _).trans ((box1 (W0.alloc (.map #[] 0)) _).mono (by simp)), by simp, h1.alloc _, ?_⟩
    have := World.rowIs_alloc (W0.alloc (.map #[] 0)) #[.map (some W0.heap.size)] 92 (fun _ => .map (some W0.heap.size)) (fun i hi => by simp at hi; subst hi; rfl)
    rwa [World.size_alloc] at this
  have rr1 := rowIs_below rr hb1 rr.lt
  refine (callsIn_wide (n := 9)).1 ?_
  refine callsIn_of_wp_marks Try.func38 rfl trivial ?_ rfl
  simp only [Try.ntmps38, List.size_toArray, List.length_cons, List.length_nil, Nat.reduceAdd, Nat.reduceSub, Array.replicate_succ, Array.replicate_zero, List.push_toArray, List.append_toArray, List.nil_append, List.cons_append]
  gi_wp2
  rw [← hW0]
  clear hW0
  refine ⟨trivial, (callsIn_wide.2 (H0.out _)).mono ?_⟩
  rintro e w0 ⟨rfl, hw0⟩
  subst hw0
  dsimp only
  gi_wp2
  refine ⟨trivial, (callsIn_wide.2 (H1.out _)).mono ?_⟩
  rintro e w0 ⟨rfl, hw0⟩
  subst hw0
  dsimp only
  gi_wp2
  refine ⟨trivial, (callsIn_wide.2 (H2.out _)).mono ?_⟩
  rintro e w0 ⟨rfl, hw0⟩
  subst hw0
  dsimp only
  gi_wp2
  rw [← hW1]
  refine ⟨trivial, (callsIn_wide.2 (iplaces d n W1)).mono ?_⟩
  rintro e w4 ⟨Bs, sv, rfl, ⟨hBs1, hBs2⟩, hcB, hSE, hb4⟩
  have hl169 := monL_le d n
  have hs4 := hb4.size
  have rr4 := rowIs_below rr1 hb4 rr1.lt
  have hbx4 := rowIs_below hbx1 hb4 hbx1.lt
  have hM4 : MapE w4 W0.heap.size 0 (.map []) := hm1.kept (row := none) ⟨hb4.os, hb4.tape, hb4.output, hb4.size, fun k hk _ => hb4.block k hk⟩ (by simp)
  have hg04 : Below w.heap.size w w4 := (hb0.trans (hb1.mono hb0.size)).trans (hb4.mono (by omega))
  dsimp only
  gi_wp2
  have hwb : w.heap.size < w4.heap.size := rr4.lt
  have hW01 : W0.heap.size < W1.heap.size := hm1.lt
  have hW04 : W0.heap.size < w4.heap.size := hM4.lt
  refine wpIn_rangeFunc_ownH rfl (by omega) (gf := 152) (lb := #[.pointer (some ⟨Bs, 0, none⟩)]) rfl trivial (enters_of Try.func152 (by kernel_rfl) rfl)
    (gall_stops Fence.wide 8 trivial rfl (by omega) Bs W1.heap.size w4.heap.size sv (monL d n) (by omega) w4 hBs2 (Nat.le_refl _) hcB hSE) (fun h k => KpI.trans h k) (fun W l o o' hl h h1 h2 => KpI.putObj (Nat.le_refl _) W l o o' hl h h1 h2) (Below.refl _ _) (fun _ => rfl)
    (fun (pre : List (Fin (monL d n).length)) W => (∃ D, MapE W W0.heap.size pre.length D ∧ Hid (∀ e, byte3 e → cf D e = gF (monL d n) (onesL (monL d n)) pre e)) ∧ w4.grownBy W (some W0.heap.size))
    (fun _ _ _ => False)
    (fun pre X Y row hs hg hq => ⟨by
      obtain ⟨⟨D, h1, h2⟩, _⟩ := hs
      exact ⟨D, h1.kept hg (fun e => by have := (hq W0.heap.size e.symm).1; omega), h2⟩, ygrown hs.2 hg (fun r e => (hq r e).1)⟩)
    (fun _ _ _ _ _ hs _ _ => hs)
    ⟨⟨_, hM4, Lib.hid (fun e _ => by rw [gF_nil]; exact cf_empty e)⟩, ⟨rfl, rfl, rfl, Nat.le_refl _, fun _ _ _ => rfl⟩⟩
    (fun x a' W => ∃ Bx, w4.heap.size ≤ Bx ∧ W.rowIs Bx 82 3 (expsF ((monL d n)[x.1]'x.2).1 ((monL d n)[x.1]'x.2).2.1 ((monL d n)[x.1]'x.2).2.2) ∧ a' = { tmps := #[.int .i64 p, .int .i64 d, .int .i64 n, undef, undef, undef, .pointer (some ⟨w.heap.size, 0, none⟩), .int .i64 0, .pointer (some ⟨W0.heap.size + 1, 0, none⟩), undef, .pointer (some ⟨Bx, 0, none⟩), .int .i64 p, .bool true, .bool false, .bool false, .int .i64 d, .bool true, .bool false, .bool false, .bool false, .int .i64 n, .bool true, .bool false, .bool false, undef, .map (some W0.heap.size), .int .i64 d, .int .i64 n, allF Bs, .int .i64 (x.1 : Int), .agg #[.int .u8 ((monL d n)[x.1]'x.2).1, .int .u8 ((monL d n)[x.1]'x.2).2.1, .int .u8 ((monL d n)[x.1]'x.2).2.2], undef, undef, undef, undef, undef, undef], defers := [] })
    (fun x a' _ X Y row hs hg hq => by obtain ⟨Bx, h1, h2, h3⟩ := hs; exact ⟨Bx, h1, h2.of_block (hg.block Bx h2.lt (fun e => by obtain ⟨o, ho, hc⟩ := (hq Bx e.symm).2; obtain ⟨c, hb, _⟩ := h2; rw [hb] at ho; cases ho; cases hc)), h3⟩)
    ?assign ?body ?done ?stop
  case assign =>
    rintro l pre x W K ⟨⟨D, hMW, hcf⟩, hgW⟩ hK
    have hz : ∀ a b : Value, (#[29, 30] : Array Tmp).zip #[a, b] = #[(29, a), (30, b)] := fun a b => by simp
    rw [hz]
    change Code.wpIn _ _ _ _ _ { tmps := #[.int .i64 p, .int .i64 d, .int .i64 n, undef, undef, undef, .pointer (some ⟨w.heap.size, 0, none⟩), .int .i64 0, .pointer (some ⟨W0.heap.size + 1, 0, none⟩), undef, undef, .int .i64 p, .bool true, .bool false, .bool false, .int .i64 d, .bool true, .bool false, .bool false, .bool false, .int .i64 n, .bool true, .bool false, .bool false, undef, .map (some W0.heap.size), .int .i64 d, .int .i64 n, allF Bs, .int .i64 (x.1 : Int), .agg #[.int .u8 ((monL d n)[x.1]'x.2).1, .int .u8 ((monL d n)[x.1]'x.2).2.1, .int .u8 ((monL d n)[x.1]'x.2).2.2], undef, undef, undef, undef, undef, undef], defers := [] } W
    gi_wp2
    exact hK _ _ ((KeepsOthers.alloc _ _).from _) (KpI.of_below ((Below.refl w4.heap.size W).alloc hgW.size _)) ⟨⟨D, hMW.alloc _, hcf⟩, ygrown hgW (World.grownBy_alloc W _ none) (fun r e => by cases e)⟩ ⟨W.heap.size, hgW.size, World.rowIs_alloc W #[_, _, _] 82 _ (fun i hi => by simp at hi; match i, hi with | 0, _ => rfl | 1, _ => rfl | 2, _ => rfl), rfl⟩
  case body =>
    rintro l pre ⟨k, hk⟩ a' W hl1 ⟨r, hrec⟩ ⟨⟨D, hMW, hcf⟩, hgW⟩ ⟨Bx, hBx, bX, rfl⟩ hlt
    have hbxW := yrow hbx4 hgW (by omega)
    have hby := monL_byte d n _ (List.getElem_mem hk)
    have hgd : (onesL (monL d n)).getD k 0 = 1 := by simp [onesL, List.getD, hk]
    obtain ⟨ex, hex⟩ : ∃ e, (monL d n)[k].1 = e := ⟨_, rfl⟩
    obtain ⟨ey, hey⟩ : ∃ e, (monL d n)[k].2.1 = e := ⟨_, rfl⟩
    obtain ⟨ez, hez⟩ : ∃ e, (monL d n)[k].2.2 = e := ⟨_, rfl⟩
    have hexe : (monL d n)[k] = (ex, ey, ez) := by rw [← hex, ← hey, ← hez]
    rw [hexe] at hby
    simp only [hex, hey, hez] at bX ⊢
    have hkey : keyOf Try.prog 82 (.agg #[.int .u8 ex, .int .u8 ey, .int .u8 ez]) = some (kE (ex, ey, ez)) := keyOf_vE (ex, ey, ez) hby
    have HCF : Hid (∀ e, byte3 e → cf (D.put (kE (ex, ey, ez)) (.lit (.int .i64 1))) e = gF (monL d n) (onesL (monL d n)) (pre ++ [(⟨k, hk⟩ : Fin (monL d n).length)]) e) := Lib.hid (fun e he => by
      rw [cf_put hMW.isMap hby he, gF_snoc]
      show _ = if e = (monL d n)[k] then (onesL (monL d n)).getD k 0 else _
      rw [hgd, hexe, hcf.out e he])
    have k1 := hbxW.cell (i := 0) (by omega)
    have e0 : W.cell? ⟨Bx, 0, none⟩ = some (.int .u8 ex) := bX.cell (i := 0) (by omega)
    have e1 : W.cell? ⟨Bx, 1, none⟩ = some (.int .u8 ey) := bX.cell (i := 1) (by omega)
    have e2 : W.cell? ⟨Bx, 2, none⟩ = some (.int .u8 ez) := bX.cell (i := 2) (by omega)
    have hpl : pre.length < 169 := by omega
    have hwf : (Lit.int .i64 1).wf = true := wf64 (by omega) (by omega)
    clear hby hexe hex hey hez hSE hgd hs1 hmm hW1 hrec hm1 hM4 hcB hcf
    gi_wp2_with (gi_at_mapUpdate; refine wpListIn_mapUpdate_own _ rfl _ _ _ 92 rfl 82 2 lawK Try.underlying92 (plainElem Try.prog 2) W0.heap.size pre.length D rfl hMW (by unfold maxLen; omega) (.agg #[.int .u8 ex, .int .u8 ey, .int .u8 ez]) _ _ rfl rfl hkey _ [] (plainElem_int Try.underlying2 hwf) ?_; intro w2 hown2 hgrow2)
    have hg2 : W.grownBy w2 (some W0.heap.size) := ⟨hgrow2.os, hgrow2.tape, hgrow2.output, hgrow2.size, hgrow2.block⟩
    refine ⟨KeepsFrom.of_grownBy hg2 (fun j e => by cases e; omega), KpI.of_grown hg2 (by have := hgW.size; omega) (fun g e => by cases e; omega), ⟨_, by simpa using hown2, HCF⟩, ?_⟩
    exact ⟨hg2.os.trans hgW.os, hg2.tape.trans hgW.tape, hg2.output.trans hgW.output, Nat.le_trans hgW.size hg2.size, fun b hb hne => (hg2.block b (Nat.lt_of_lt_of_le hb hgW.size) hne).trans (hgW.block b hb hne)⟩
  case done =>
    rintro D ys W hD rfl ⟨⟨Dm, hMW, hcf⟩, hgW⟩ hK
    have hDlt : D < W.heap.size := (Array.getElem?_eq_some_iff.1 hK).1
    have hbxW := yrow hbx4 hgW (by omega)
    have rrW := yrow rr4 hgW (by omega)
    have k1 := hbxW.cell (i := 0) (by omega)
    have hgT : Below w.heap.size w W := ⟨hgW.os.trans hg04.os, hgW.tape.trans hg04.tape, hgW.output.trans hg04.output, Nat.le_trans hg04.size hgW.size, fun b hb => (hgW.block b (Nat.lt_of_lt_of_le hb hg04.size) (fun e => by cases e; omega)).trans (hg04.block b hb)⟩
    have hISP := ones_isP hp2 d n
    have hcf2 : ∀ e, byte3 e → cf Dm e = atL (rT (monL d n) (onesL (monL d n))) e := fun e he => by rw [hcf.out e he, gF_all (by simp [onesL])]
    have HU : Hid (∀ S, Good Dm S → S = rT (monL d n) (onesL (monL d n))) := Lib.hid (fun S hg => hg.unique hISP.1 (fun t ht => ⟨(hISP.2.1 t ht).1.1, by have := (hISP.2.1 t ht).2.1; omega⟩) (fun e he => (hcf2 e he).symm))
    have HPO := Lib.hid (polyOf_any sort_says p d W0.heap.size _ Dm W hMW (by simp; omega) (fun e he hc => by
      rw [hcf2 e he] at hc
      obtain ⟨t, ht, rfl⟩ := atL_ne_memC hc
      exact (hISP.2.1 t ht).1.2))
    clear hISP hcf2 hcf hs1 hmm hW1 hm1 hM4 hcB hSE
    gi_wp2
    refine ⟨trivial, (callsIn_wide.2 HPO.out).mono ?_⟩
    rintro e w5 ⟨v5, S, rfl, ho5, hgood, hb5⟩
    obtain rfl := HU.out S hgood
    obtain ⟨sa, sc, rfl⟩ := owns_slice ho5
    have rr5 := rowIs_below rrW hb5 rrW.lt
    have hK5 : w5.heap[D]? = some (.deferred (some [])) := (hb5.block D hDlt).trans hK
    obtain ⟨⟨r0, r1, r2⟩, z0, z1, z2⟩ := poly3 rr5
    obtain ⟨a0, a1, a2, a3, a4⟩ := fill_box rr5 ho5 hgT.size (hgT.trans (hb5.mono hgT.size)) (Nat.le_refl _) p d
    obtain ⟨S, hSS⟩ : ∃ S, rT (monL d n) (onesL (monL d n)) = S := ⟨_, rfl⟩
    rw [hSS] at a0 a1 a2 a3 a4 HO ⊢
    dsimp only
    clear hgood HPO HU ho5
    gi_wp2
    have hDw : D ≠ w.heap.size := by omega
    have hKF := ((Deep.blk_setCell_other ((w5.setCell ⟨w.heap.size, 0, none⟩ (.int .i64 p)).setCell ⟨w.heap.size, 1, none⟩ (.int .i64 d)) ⟨w.heap.size, 2, none⟩ (.slice sa S.length sc) D hDw).trans ((Deep.blk_setCell_other (w5.setCell ⟨w.heap.size, 0, none⟩ (.int .i64 p)) ⟨w.heap.size, 1, none⟩ (.int .i64 d) D hDw).trans (Deep.blk_setCell_other w5 ⟨w.heap.size, 0, none⟩ (.int .i64 p) D hDw))).trans hK5
    obtain ⟨F, hF⟩ : ∃ F, ((w5.setCell ⟨w.heap.size, 0, none⟩ (.int .i64 p)).setCell ⟨w.heap.size, 1, none⟩ (.int .i64 d)).setCell ⟨w.heap.size, 2, none⟩ (.slice sa S.length sc) = F := ⟨_, rfl⟩
    rw [hF] at a0 a1 a2 a3 a4 hKF ⊢
    have hne : ∀ o, (⟨w.heap.size, o, none⟩ : Addr).block ≠ D := fun o => by show w.heap.size ≠ D; omega
    have b0 := (World.cell?_of_block (w := F) (w' := F.putObj D (.deferred none)) (a := ⟨w.heap.size, 0, none⟩) (World.putObj_heap_other (hne 0))).trans a0
    have b1 := (World.cell?_of_block (w := F) (w' := F.putObj D (.deferred none)) (a := ⟨w.heap.size, 1, none⟩) (World.putObj_heap_other (hne 1))).trans a1
    have b2 := (World.cell?_of_block (w := F) (w' := F.putObj D (.deferred none)) (a := ⟨w.heap.size, 2, none⟩) (World.putObj_heap_other (hne 2))).trans a2
    have hO : OwnP (F.putObj D (.deferred none)) w.heap.size (.slice sa S.length sc) S := ownsRow_putObj a3 _ hKF rfl
    have hend := a4.trans (belowK_b (w := w) (Nat.le_refl _) F D _ (.deferred none) (by omega) hKF rfl rfl)
    refine ⟨by simp, .inl ⟨_, _, rfl, run_takeDeferred hKF, ?_⟩⟩
    refine ⟨.tuple #[.agg #[.int .i64 p, .int .i64 d, .slice sa S.length sc], .int .i64 0], by simp [results, Try.results38, go_sem, b0, b1, b2], ?_⟩
    rw [HO.out]
    exact ⟨_, rfl, hO, hend⟩
  case stop =>
    rintro D c pre W _ _ h _
    exact h.elim
theorem icmp (p d k : Int) (w : World) :
    Calls Try.prog 38 #[.int .i64 p, .int .i64 d, .int .i64 k] w (ResO w (cmpO p d k)) := by
  cases h : cmpB p d k
  · exact icmp_no p d k w h
  · exact icmp_yes p d k w h
end Go.Proofs.Ytggogmbhlfddlaa
