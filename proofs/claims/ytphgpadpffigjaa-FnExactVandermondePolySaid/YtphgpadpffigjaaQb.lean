/-
  WALKS: 'spec.l01One'. Conditions: as each theorem states.
  A polynomial put into a box. Conditions: as each theorem states.
  WALKS: the Vandermonde polynomial by the model. Conditions: as each theorem states.
  MONOMIALS of a degree: what they are. Conditions: as each theorem states.
  PRIMES AND LETTERS judged. Conditions: as each theorem states.
  WALKS: VandermondePoly on both sides. Conditions: as each theorem states.
  LISTS OF POLYNOMIALS in memory. Conditions: as each theorem states.
  LISTS OF POLYNOMIALS in a law: compared. Conditions: as each theorem states.
  LISTS OF POLYNOMIALS in a law: measured. Conditions: as the theorem states.
  LISTS OF POLYNOMIALS in a law: compared. Conditions: as the theorem states.
  WALKS: marking the terms of a polynomial and reading the marks back. Conditions: as each theorem states.
  WALKS: marking a polynomial whose terms lie in an array of the call's own, and reading the marks back. Conditions: as each theorem states.
  LISTS OF POLYNOMIALS in a law: copied. Conditions: as the theorem states.
  LISTS OF POLYNOMIALS in a law: marked. Conditions: as the theorem states.
  THE STATE OF A LAW of a function of a polynomial and a list of polynomials. Conditions: as each theorem states.
  LISTS OF NUMBERS compared in laws. Conditions: as each theorem states.
  LISTS of numbers in a law: compared, marked, held. Conditions: as each theorem states.
  The boxes of a law whose result is a polynomial, beside lists as arguments. Conditions: as each theorem states.
  The law of 'FnExactVandermondePoly', walked. Conditions: as the theorem states.
-/
import Derived.Test.YtphgpadpffigjaaQa
import Derived.Test.YtphgpadpffigjaaIsp
import Derived.Deep.RegionHeld3
import Derived.Deep.LoopGhost
import Derived.Test.YtphgpadpffigjaaA
import Derived.Lib.Hide
import Derived.Test.YtphgpadpffigjaaRza
import Derived.Test.YtphgpadpffigjaaCj
import Derived.Test.YtphgpadpffigjaaG
import Derived.Deep.RegionWith
import Derived.Test.YtphgpadpffigjaaF
import Derived.Test.YtphgpadpffigjaaMm
import Derived.Test.YtphgpadpffigjaaMr
import Derived.Test.YtphgpadpffigjaaLs2
import Derived.Test.YtphgpadpffigjaaLq
namespace Go.Proofs.Ytphgpadpffigjaa
open Go.RowKit Go.Sort Go.Maps

theorem IsP.one {p : Int} (hp : 2 ≤ p) {e : Int × Int × Int} (he : mono12 e) (v : Int) : IsP p (putL p [] e v) (fun a => if a = e then v % p else 0) :=
  ((IsP.nil p).put hp he v).congr fun a _ => by simp

set_option maxRecDepth 8000 in
set_option maxHeartbeats 4000000 in
theorem one_any (p d x y z val : Int) (w : World) (h2 : 2 ≤ p) (h13 : p ≤ 13) (he : byte3 (x, y, z)) (v0 : 0 ≤ val) (v1 : val ≤ 100000000) :
    Calls Try.prog 53 #[.int .i64 p, .int .i64 d, .agg #[.int .u8 x, .int .u8 y, .int .u8 z], .int .i64 val] w fun e w' =>
      ∃ v', e = .returned (.agg #[.int .i64 p, .int .i64 d, v']) ∧ OwnP w' w.heap.size v' (putL p [] (x, y, z) val) ∧ Below w.heap.size w w' := by
  obtain ⟨W, hW, hbW, ⟨hWs1, hWs2⟩, re, rr⟩ : ∃ W, W = (w.alloc (.cells #[.int .u8 x, .int .u8 y, .int .u8 z] 75)).alloc (.cells #[.int .i64 0, .int .i64 0, .slice none 0 0] 36) ∧ Below w.heap.size w W ∧ (W.heap.size ≤ w.heap.size + 2 ∧ w.heap.size + 2 ≤ W.heap.size) ∧
      W.rowIs w.heap.size 75 3 (expsF x y z) ∧ W.rowIs (w.heap.size + 1) 36 3 (polyF 0 0 (.slice none 0 0)) := by
    refine ⟨_, rfl, box2 _ _ _, ⟨by simp, by simp⟩, ?_, ?_⟩
    · refine World.rowIs.alloc (World.rowIs_alloc w #[Value.int .u8 x, .int .u8 y, .int .u8 z] _ _ (fun i hi => ?_)) _
      simp at hi; match i, hi with | 0, _ => rfl | 1, _ => rfl | 2, _ => rfl
    · have := World.rowIs_alloc (w.alloc (.cells #[.int .u8 x, .int .u8 y, .int .u8 z] 75)) #[Value.int .i64 0, .int .i64 0, .slice none 0 0] 36 (polyF 0 0 (.slice none 0 0)) (fun i hi => by simp at hi; match i, hi with | 0, _ => rfl | 1, _ => rfl | 2, _ => rfl)
      simpa using this
  have KK := Lib.hid (fun w' (h : Below W.heap.size W w') => show (w'.cell? ⟨w.heap.size, 0, none⟩ = some (.int .u8 x) ∧ w'.cell? ⟨w.heap.size, 1, none⟩ = some (.int .u8 y) ∧ w'.cell? ⟨w.heap.size, 2, none⟩ = some (.int .u8 z)) from
    ⟨(rowIs_below re h re.lt).cell (i := 0) (by omega), (rowIs_below re h re.lt).cell (i := 1) (by omega), (rowIs_below re h re.lt).cell (i := 2) (by omega)⟩)
  go_enter Try.func53, Try.ntmps53
  go_upto_region 1 with fail
  rw [← hW]
  clear hW
  obtain ⟨⟨r0, r1, r2⟩, y0, y1, y2⟩ := poly3 rr
  go_region_held3 (fun w' => (w'.cell? ⟨w.heap.size, 0, none⟩ = some (.int .u8 x) ∧ w'.cell? ⟨w.heap.size, 1, none⟩ = some (.int .u8 y) ∧ w'.cell? ⟨w.heap.size, 2, none⟩ = some (.int .u8 z)))
    (first | with_reducible exact KK.out _ (Below.same _).drew | with_reducible exact KK.out _ HB1 | with_reducible exact KK.out _ HB2 | go_keep)
    (first
    | (go_at_call 54; (with_reducible refine (empty_any p d _).mono ?_); rintro e w1 ⟨rfl, hown, hb1⟩; have HB1 : Below W.heap.size W w1 := (Below.same _).drew.trans hb1)
    | (go_at_call 55; (with_reducible refine (specPut p d _ [] (fun _ => 0) x y z val _ (OwnP.slice (S := []) hown) (IsP.nil p) h2 h13 he v0 v1).mono ?_); rintro e w2 ⟨v2, rfl, ho2, hb2⟩; have HB2 : Below W.heap.size W w2 := HB1.trans (hb2.mono HB1.size); have rr2 := rowIs_below rr HB2 rr.lt; obtain ⟨⟨e0, e1, e2⟩, f0, f1, f2⟩ := poly3 rr2; obtain ⟨sa2, sc2, rfl⟩ := owns_slice ho2; obtain ⟨a0, a1, a2, a3, a4⟩ := fill_box (w := w) rr2 (owns_low ho2 (Nat.le_trans hbW.size HB1.size)) (Nat.le_refl _) (hbW.trans (HB2.mono hbW.size)) (by omega) p d; have A0 := Lib.hid a0; have A1 := Lib.hid a1; have A2 := Lib.hid a2; obtain ⟨m0, m1, m2⟩ := KK.out _ HB2; have A3 := Lib.hid a3; have A4 := Lib.hid a4; clear a0 a1 a2 a3 a4))
  go_wp2_with fail
  exact bodyPost_ret (v := .agg #[.int .i64 p, .int .i64 d, .slice sa2 (putL p [] (x, y, z) val).length sc2]) (by simp [results, Try.results53, go_sem, A0.out, A1.out, A2.out]) rfl ⟨_, rfl, A3.out, A4.out⟩
end Go.Proofs.Ytphgpadpffigjaa
namespace Go.Proofs.Ytphgpadpffigjaa
open Go.RowKit Go.Sort Go.Maps

theorem put_box {wr : World} {q : Nat} {v : Value} {F : Nat → Value} (hres : wr.rowIs q 36 3 F) (p d : Int) :
    (((wr.setCell ⟨q, 0, none⟩ (.int .i64 p)).setCell ⟨q, 1, none⟩ (.int .i64 d)).setCell ⟨q, 2, none⟩ v).rowIs q 36 3 (polyF p d v) :=
  (((hres.set 0 (.int .i64 p)).set 1 (.int .i64 d)).set 2 v).congr fun i hi => match i, hi with
    | 0, _ => rfl
    | 1, _ => rfl
    | 2, _ => rfl
end Go.Proofs.Ytphgpadpffigjaa
namespace Go.Proofs.Ytphgpadpffigjaa
open Go.RowKit Go.Sort Go.Maps

/-- The model's product on its way: after k factors. -/
def vdP (p : Int) (k : Nat) : List Tm :=
  if k = 0 then putL p [] (0, 0, 0) 1 else if k = 1 then prodT p (putL p [] (0, 0, 0) 1) (vdF p 0 1)
  else if k = 2 then prodT p (prodT p (putL p [] (0, 0, 0) 1) (vdF p 0 1)) (vdF p 0 2)
  else prodT p (prodT p (prodT p (putL p [] (0, 0, 0) 1) (vdF p 0 1)) (vdF p 0 2)) (vdF p 1 2)
/-- How many factors stand before the letters i and j. -/
def nVd (d i j : Nat) : Nat := if i = 0 then j - 1 else if i = 1 then (d - 1) + (j - 2) else if d = 2 then 1 else 3
theorem vdP_next {p : Int} {d i j : Nat} (hd : d ≤ 3) (hij : i < j) (hj : j < d) : vdP p (nVd d i (j + 1)) = prodT p (vdP p (nVd d i j)) (vdF p i j) := by
  have h : (i = 0 ∧ j = 1 ∧ d = 2) ∨ (i = 0 ∧ j = 1 ∧ d = 3) ∨ (i = 0 ∧ j = 2 ∧ d = 3) ∨ (i = 1 ∧ j = 2 ∧ d = 3) := by omega
  rcases h with ⟨rfl, rfl, rfl⟩ | ⟨rfl, rfl, rfl⟩ | ⟨rfl, rfl, rfl⟩ | ⟨rfl, rfl, rfl⟩ <;> rfl
theorem nVd_out {d i : Nat} (hd : d ≤ 3) (hi : i < d) : nVd d i d = nVd d (i + 1) (i + 2) := by
  have h : (i = 0 ∧ d = 1) ∨ (i = 0 ∧ d = 2) ∨ (i = 1 ∧ d = 2) ∨ (i = 0 ∧ d = 3) ∨ (i = 1 ∧ d = 3) ∨ (i = 2 ∧ d = 3) := by omega
  rcases h with ⟨rfl, rfl⟩ | ⟨rfl, rfl⟩ | ⟨rfl, rfl⟩ | ⟨rfl, rfl⟩ | ⟨rfl, rfl⟩ | ⟨rfl, rfl⟩ <;> rfl
theorem vdP_end {p : Int} {d : Nat} (hd : 1 ≤ d ∧ d ≤ 3) : vdP p (nVd d d (d + 1)) = vdT p d := by
  have h : d = 1 ∨ d = 2 ∨ d = 3 := by omega
  rcases h with rfl | rfl | rfl <;> rfl
/-- What a list of terms must be, as a test. -/
def chkV (p : Int) (ts : List Tm) : Bool := decide (ts.Pairwise fun a b => beforeB (tmE a) (tmE b) = true) && ts.all fun t => (decide (0 ≤ t.1 ∧ t.1 ≤ 4) && decide (0 ≤ t.2.1 ∧ t.2.1 ≤ 4) && decide (0 ≤ t.2.2.1 ∧ t.2.2.1 ≤ 4)) && decide (t.1 + t.2.1 + t.2.2.1 ≤ 6) && decide (1 ≤ t.2.2.2 ∧ t.2.2.2 < p)
theorem chkV_valid {p d : Int} {ts : List Tm} (hp : 2 ≤ p) (hp13 : p ≤ 13) (hd : 1 ≤ d) (hd3 : d ≤ 3) (h : chkV p ts = true) : Valid p d ts ∧ ∀ t ∈ ts, t.1 + t.2.1 + t.2.2.1 ≤ 6 := by
  unfold chkV at h
  simp only [Bool.and_eq_true, decide_eq_true_eq, List.all_eq_true] at h
  refine ⟨⟨hp, hp13, hd, hd3, h.1, fun t ht => ?_⟩, fun t ht => (h.2 t ht).1.2⟩
  obtain ⟨⟨⟨⟨a, b⟩, c⟩, e⟩, f⟩ := h.2 t ht
  exact ⟨⟨⟨by simp only [tmE]; omega, by simp only [tmE]; omega, by simp only [tmE]; omega⟩, by omega⟩, f⟩
theorem vdP_chk : ∀ p ∈ ([2, 3, 5, 7, 11, 13] : List Int), ∀ k ∈ ([0, 1, 2, 3] : List Nat), chkV p (vdP p k) = true ∧ vdP p k ≠ [] := by decide +kernel
theorem vdF_chk : ∀ p ∈ ([2, 3, 5, 7, 11, 13] : List Int), ∀ i ∈ ([0, 1] : List Nat), ∀ j ∈ ([1, 2] : List Nat), i < j → chkV p (vdF p i j) = true ∧ vdF p i j ≠ [] := by decide +kernel

theorem degI_six {L : List Tm} (h0 : L ≠ []) (h : ∀ t ∈ L, t.1 + t.2.1 + t.2.2.1 ≤ 6) : degI L ≤ 6 := by
  unfold degI
  cases hl : L.getLast? with
  | none => exact absurd (List.getLast?_eq_none_iff.1 hl) h0
  | some u => exact h u (List.mem_of_getLast? hl)
theorem ltE_byte (i : Nat) : byte3 (ltE i) ∧ (ltE i).1 + (ltE i).2.1 + (ltE i).2.2 ≤ 12 := by
  unfold ltE byte3
  split
  · simp
  · split <;> simp
set_option maxHeartbeats 1000000 in
theorem sletter (i : Nat) (hi : i ≤ 2) (w : World) : Calls Try.prog 113 #[.int .i64 (i : Int)] w fun e w' => e = .returned (.agg #[.int .u8 (ltE i).1, .int .u8 (ltE i).2.1, .int .u8 (ltE i).2.2]) ∧ Below w.heap.size w w' := by
  have h : i = 0 ∨ i = 1 ∨ i = 2 := by omega
  rcases h with rfl | rfl | rfl
  · go_enter Try.func113, Try.ntmps113
    go_wp2_with fail
    exact bodyPost_ret (v := .agg #[.int .u8 1, .int .u8 0, .int .u8 0]) (by simp [results, Try.results113, go_sem]) rfl ⟨rfl, box2 _ _ _⟩
  · go_enter Try.func113, Try.ntmps113
    go_wp2_with fail
    exact bodyPost_ret (v := .agg #[.int .u8 0, .int .u8 1, .int .u8 0]) (by simp [results, Try.results113, go_sem]) rfl ⟨rfl, box2 _ _ _⟩
  · go_enter Try.func113, Try.ntmps113
    go_wp2_with fail
    exact bodyPost_ret (v := .agg #[.int .u8 0, .int .u8 0, .int .u8 1]) (by simp [results, Try.results113, go_sem]) rfl ⟨rfl, box2 _ _ _⟩

/-- The product on its way, in its box. -/
def RV (w wr : World) (q : Nat) (p : Int) (d k : Nat) : Prop := ∃ sv, OwnP wr w.heap.size sv (vdP p k) ∧ wr.rowIs q 36 3 (polyF p d sv) ∧ wr.rowIs w.heap.size 36 3 (polyF 0 0 (.slice none 0 0)) ∧ Below w.heap.size w wr

set_option maxRecDepth 100000 in
set_option maxHeartbeats 8000000 in
theorem svand (p : Int) (d : Nat) (w : World) (hp : primeB p = true) (hd : 1 ≤ d ∧ d ≤ 3) :
    Calls Try.prog 73 #[.int .i64 p, .int .i64 (d : Int)] w fun e w' => ∃ v', e = .returned (.agg #[.int .i64 p, .int .i64 d, v']) ∧ OwnP w' w.heap.size v' (vdT p d) ∧ Below w.heap.size w w' := by
  obtain ⟨hp2, hp13⟩ := prime_le hp
  have HP := Lib.hid (primes_of hp)
  clear hp
  obtain ⟨W, hW, hbW, ⟨hWs1, hWs2⟩, rr⟩ := newbox w 0 0 (.slice none 0 0)
  have HON := Lib.hid (one_any p d 0 0 0 1 W hp2 hp13 ⟨by simp, by simp, by simp⟩ (by decide) (by decide))
  go_enter Try.func73, Try.ntmps73
  go_upto_region 1 with fail
  rw [← hW]
  clear hW
  go_wp2_with fail
  ((with_reducible refine HON.out.mono ?_); rintro e w1 ⟨v1, rfl, ho1, hb1⟩)
  obtain ⟨sa, sc, rfl⟩ := owns_slice ho1
  obtain ⟨V, hV, hbV, ⟨hVs1, hVs2⟩, rq⟩ := newbox w1 p d (.slice sa (putL p [] (0, 0, 0) 1).length sc)
  have hq : w.heap.size < w1.heap.size := Nat.lt_of_lt_of_le (by omega) hb1.size
  have hst : RV w V w1.heap.size p d (nVd d 0 1) := ⟨_, owns_low (owns_belowT ho1 hbV) hbW.size, rq, rowIs_below rr (hb1.trans (hbV.mono hb1.size)) rr.lt, hbW.trans ((hb1.trans (hbV.mono hb1.size)).mono hbW.size)⟩
  clear ho1 hbV rq rr hb1 hVs1 hVs2 HON
  go_upto_region 2 with fail
  rw [← hV]
  clear hV
  go_wp2_with fail
  go_loopg [6] d (fun g c wq => ∃ i : Nat, i + g = d ∧ c = .int .i64 i ∧ RV w wq w1.heap.size p d (nVd d i (i + 1)))
  case atStart => exact ⟨0, by omega, rfl, hst⟩
  case round =>
    clear hst
    obtain ⟨i, hi, rfl, hR⟩ := hrel
    by_cases hlt : i < d
    · have hlt' : (i : Int) < (d : Int) := by omega
      obtain ⟨g2, hg2⟩ : ∃ g2, i + 1 + g2 = d := ⟨d - (i + 1), by omega⟩
      have HG2 := Lib.hid (And.intro hg2 (show g2 < gk by omega))
      have hwi : IntKind.i64.wrap ((i : Int) + 1) = (i : Int) + 1 := IntWalk.i64_in _ (by omega)
      obtain ⟨wo, hwo⟩ : ∃ wo, wo = wr := ⟨_, rfl⟩
      rw [← hwo] at hR
      clear hi hg2
      go_upto_region 6 with fail
      rw [← hwo]
      clear hwo
      go_wp2_with fail
      go_loopg [7] (d - (i + 1)) (fun g c wq => ∃ j : Nat, j + g = d ∧ i < j ∧ c = .int .i64 j ∧ RV w wq w1.heap.size p d (nVd d i j))
      case atStart => exact ⟨i + 1, by omega, by omega, by go_num, hR⟩
      case round =>
        clear hR
        obtain ⟨j, hj, hij, rfl, hR⟩ := hrel
        obtain ⟨sv, hO, hQ, hZ, hb⟩ := hR
        obtain ⟨pa, pc, rfl⟩ := owns_slice hO
        by_cases hltj : j < d
        · have hltj' : (j : Int) < (d : Int) := by omega
          obtain ⟨g3, hg3⟩ : ∃ g3, j + 1 + g3 = d := ⟨d - (j + 1), by omega⟩
          have HG3 := Lib.hid (And.intro hg3 (show g3 < gk by omega))
          have hwj : IntKind.i64.wrap ((j : Int) + 1) = (j : Int) + 1 := IntWalk.i64_in _ (by omega)
          have hwp : IntKind.i64.wrap (p - 1) = p - 1 := IntWalk.i64_in _ (by omega)
          have HNX := Lib.hid (vdP_next (p := p) hd.2 hij hltj)
          obtain ⟨n, hn⟩ : ∃ n, nVd d i j = n := ⟨_, rfl⟩
          have hn3 : n ∈ ([0, 1, 2, 3] : List Nat) := by
            rw [← hn]
            have h : (i = 0 ∧ j = 1) ∨ (i = 0 ∧ j = 2) ∨ (i = 1 ∧ j = 2) := by omega
            have h3 : d = 2 ∨ d = 3 := by omega
            rcases h with ⟨rfl, rfl⟩ | ⟨rfl, rfl⟩ | ⟨rfl, rfl⟩ <;> rcases h3 with rfl | rfl <;> decide
          rw [hn] at hO hQ HNX
          clear hn
          obtain ⟨hc1, hne1⟩ := vdP_chk p HP.out n hn3
          obtain ⟨hc2, hne2⟩ := vdF_chk p HP.out i (by simp; omega) j (by simp; omega) hij
          obtain ⟨hV1, hs1⟩ := chkV_valid hp2 hp13 (d := (d : Int)) (by omega) (by omega) hc1
          obtain ⟨hV2, hs2⟩ := chkV_valid hp2 hp13 (d := (d : Int)) (by omega) (by omega) hc2
          have hdg : degI (vdP p n) + degI (vdF p i j) ≤ 12 := by
            have := degI_six hne1 hs1
            have := degI_six hne2 hs2
            omega
          have HTM := Lib.hid (fun v v' w' h h' => specTimes_some p d v v' (vdP p n) (vdF p i j) w' h h' hV1 hV2 hne1 hne2 hdg)
          have HPT := Lib.hid (fun L (h : IsP p L (mulF p (vdP p n) (vdF p i j))) => h.unique (prodT_mul hV1 hV2 (fits_of hV1 hV2 (.inr (.inr hdg)))))
          have HL1 := Lib.hid (fun w' => sletter i (by omega) w')
          have HL2 := Lib.hid (fun w' => sletter j (by omega) w')
          obtain ⟨hby1, hsm1⟩ := ltE_byte i
          obtain ⟨hby2, hsm2⟩ := ltE_byte j
          have HFI : Hid (vdF p i j = putL p (putL p [] (ltE i) 1) (ltE j) (p - 1)) := Lib.hid rfl
          obtain ⟨⟨x1, y1, z1⟩, hl1⟩ : ∃ t, ltE i = t := ⟨_, rfl⟩
          obtain ⟨⟨x2, y2, z2⟩, hl2⟩ : ∃ t, ltE j = t := ⟨_, rfl⟩
          rw [hl1] at hby1 hsm1 HL1 HFI
          rw [hl2] at hby2 HL2 HFI
          have HON := Lib.hid (fun w' => one_any p d x1 y1 z1 1 w' hp2 hp13 hby1 (by omega) (by omega))
          have hp1 : (0 : Int) ≤ p - 1 := by omega
          have hp1' : p - 1 ≤ 100000000 := by omega
          have HPU := Lib.hid (fun v w' hS => specPut p d v (putL p [] (x1, y1, z1) 1) _ x2 y2 z2 (p - 1) w' hS (IsP.one hp2 ⟨hby1, hsm1⟩ 1) hp2 hp13 hby2 hp1 hp1')
          rw [← HFI.out] at HPU
          obtain ⟨F, hF⟩ : ∃ F, vdF p i j = F := ⟨_, rfl⟩
          rw [hF] at HTM HPT HPU HNX
          simp only at HL1 HL2
          clear hc1 hne1 hc2 hne2 hV1 hs1 hV2 hs2 hdg hby1 hsm1 hby2 hsm2 hl1 hl2 HFI hF hn3 hj hg3
          go_wp2_with fail
          ((with_reducible refine (HL1.out _).mono ?_); rintro e w2 ⟨rfl, hb2⟩)
          go_wp2_with fail
          ((with_reducible refine (HON.out _).mono ?_); rintro e w3 ⟨v3, rfl, ho3, hb3⟩)
          go_wp2_with fail
          ((with_reducible refine (HL2.out _).mono ?_); rintro e w4 ⟨rfl, hb4⟩)
          have hS4 := (OwnP.slice ho3).below hb4
          go_wp2_with fail
          ((with_reducible refine (HPU.out _ _ hS4).mono ?_); rintro e w5 ⟨v5, rfl, ho5, hb5⟩)
          have B5 : Below wr.heap.size wr w5 := hb2.trans ((hb3.trans ((hb4.trans (hb5.mono hb4.size)).mono hb3.size)).mono hb2.size)
          obtain ⟨fa, fc, rfl⟩ := owns_slice ho5
          obtain ⟨w6, hw6, hb6, ⟨h61, h62⟩, r6⟩ := newbox w5 p d (.slice fa F.length fc)
          have B6 := B5.trans (hb6.mono B5.size)
          have hQ6 := rowIs_below hQ B6 hQ.lt
          have hO6 := owns_belowT hO B6
          have hF6 := (OwnP.slice ho5).below hb6
          go_upto_region 9 with fail
          rw [← hw6]
          clear hw6 hb2 hb3 hb4 hb5 ho3 hS4 ho5 hb6 h61 h62 B5
          obtain ⟨⟨q0, q1, q2⟩, _⟩ := poly3 hQ6
          obtain ⟨⟨f0, f1, f2⟩, _⟩ := poly3 r6
          go_wp2_with fail
          ((with_reducible refine (HTM.out _ _ _ (OwnP.slice hO6) hF6).mono ?_); rintro e w7 ⟨v7, L7, rfl, ho7, hI7, hb7⟩)
          have HE := Lib.hid (HPT.out L7 hI7)
          obtain ⟨na, nc, rfl⟩ := owns_slice ho7
          obtain ⟨w8, hw8, hb8, ⟨h81, h82⟩, r8⟩ := newbox w7 p d (.slice na L7.length nc)
          have B8 := B6.trans ((hb7.trans (hb8.mono hb7.size)).mono B6.size)
          have hQ8 := rowIs_below hQ B8 hQ.lt
          have hZ8 := rowIs_below hZ B8 hZ.lt
          have hO8 := owns_low (base' := w.heap.size) (owns_belowT ho7 hb8) (Nat.le_trans hb.size B6.size)
          have hw8s := hb.trans (B8.mono hb.size)
          go_upto_region 10 with fail
          rw [← hw8]
          clear hw8 hb7 hb8 ho7 hI7 h81 h82 q0 q1 q2 f0 f1 f2 r6 hQ6 hO6 hF6 B6 B8 hO hQ hZ hb
          obtain ⟨⟨q0, q1, q2⟩, z0, z1, z2⟩ := poly3 hQ8
          obtain ⟨⟨n0, n1, n2⟩, _⟩ := poly3 r8
          obtain ⟨_, _, _, a3, a4⟩ := fill_box (w := w) hQ8 hO8 (Nat.le_refl _) hw8s (Nat.le_of_lt hq) p d
          have hq9 := put_box (v := .slice na L7.length nc) hQ8 p d
          have hz9 := ((hZ8.setOther (a := ⟨w1.heap.size, 0, none⟩) (by show w.heap.size ≠ w1.heap.size; omega) (.int .i64 p)).setOther (a := ⟨w1.heap.size, 1, none⟩) (by show w.heap.size ≠ w1.heap.size; omega) (.int .i64 d)).setOther (a := ⟨w1.heap.size, 2, none⟩) (by show w.heap.size ≠ w1.heap.size; omega) (.slice na L7.length nc)
          have HR9 := Lib.hid (And.intro a3 (And.intro hq9 (And.intro hz9 a4)))
          clear a3 a4 hq9 hz9 hQ8 hZ8 hO8 hw8s r8
          go_wp2_with fail
          go_roundg g3
          case measure => exact HG3.out.2
          case rel => exact ⟨j + 1, HG3.out.1, by omega, by go_num, ⟨_, by rw [HNX.out, ← HE.out]; exact HR9.out.1, HR9.out.2.1, HR9.out.2.2.1, HR9.out.2.2.2⟩⟩
        · obtain rfl : d = j := by omega
          have HR9 := Lib.hid (show RV w wr w1.heap.size p d (nVd d (i + 1) (i + 2)) by rw [← nVd_out hd.2 hlt]; exact ⟨_, hO, hQ, hZ, hb⟩)
          clear hO hQ hZ hb
          go_wp2_with fail
          go_roundg g2
          case measure => exact HG2.out.2
          case rel => exact ⟨i + 1, HG2.out.1, by go_num, HR9.out⟩
    · obtain rfl : d = i := by omega
      obtain ⟨sv, hO, hQ, hZ, hb⟩ := hR
      rw [vdP_end hd] at hO
      obtain ⟨pa, pc, rfl⟩ := owns_slice hO
      obtain ⟨⟨q0, q1, q2⟩, _⟩ := poly3 hQ
      obtain ⟨⟨r0, r1, r2⟩, z0, z1, z2⟩ := poly3 hZ
      obtain ⟨a0, a1, a2, a3, a4⟩ := fill_box (w := w) hZ hO (Nat.le_refl _) hb (Nat.le_refl _) p d
      have A0 := Lib.hid a0
      have A1 := Lib.hid a1
      have A2 := Lib.hid a2
      have A3 := Lib.hid a3
      have A4 := Lib.hid a4
      clear a0 a1 a2 a3 a4 hO hQ hZ hb
      go_wp2_with fail
      exact bodyPost_ret (v := .agg #[.int .i64 p, .int .i64 d, .slice pa (vdT p d).length pc]) (by simp [results, Try.results73, go_sem, A0.out, A1.out, A2.out]) rfl ⟨_, rfl, A3.out, A4.out⟩
end Go.Proofs.Ytphgpadpffigjaa
namespace Go.Proofs.Ytphgpadpffigjaa
open Go.RowKit Go.Sort

/-- The three cells of a monomial. -/
def cell3 (e : Int × Int × Int) : List Value := [.int .u8 e.1, .int .u8 e.2.1, .int .u8 e.2.2]
def cells3 (l : List (Int × Int × Int)) : List Value := l.flatMap cell3
theorem cells3_snoc (l : List (Int × Int × Int)) (e : Int × Int × Int) : cells3 (l ++ [e]) = cells3 l ++ cell3 e := by simp [cells3]
theorem cells3_length (l : List (Int × Int × Int)) : (cells3 l).length = 3 * l.length := by
  induction l with
  | nil => rfl
  | cons a l ih => simp only [cells3, List.flatMap_cons, List.length_append, List.length_cons] at ih ⊢; simp only [cell3, List.length_cons, List.length_nil]; omega

def pick (d x y z : Int) : List (Int × Int × Int) := if expsOk d x y z then [(x, y, z)] else []
def innerL (d : Int) (n s t : Nat) : List (Int × Int × Int) := (List.range t).flatMap fun (k : Nat) => pick d (n - s) (s - k) k
def outerL (d : Int) (n s : Nat) : List (Int × Int × Int) := (List.range s).flatMap fun k => innerL d n k (k + 1)
theorem innerL_zero (d : Int) (n s : Nat) : innerL d n s 0 = [] := rfl
theorem innerL_succ (d : Int) (n s t : Nat) : innerL d n s (t + 1) = innerL d n s t ++ pick d (n - s) (s - t) t := by simp [innerL, List.range_succ]
theorem outerL_succ (d : Int) (n s : Nat) : outerL d n (s + 1) = outerL d n s ++ innerL d n s (s + 1) := by simp [outerL, List.range_succ]
theorem pick_le (d x y z : Int) : (pick d x y z).length ≤ 1 := by unfold pick; split <;> simp
theorem innerL_le (d : Int) (n s t : Nat) : (innerL d n s t).length ≤ t := by
  induction t with
  | zero => simp [innerL_zero]
  | succ t ih => rw [innerL_succ, List.length_append]; have := pick_le d (n - s) (s - t) t; omega
theorem outerL_le (d : Int) (n s : Nat) : (outerL d n s).length ≤ s * s := by
  induction s with
  | zero => simp [outerL]
  | succ s ih => rw [outerL_succ, List.length_append]; have := innerL_le d n s (s + 1); simp only [Nat.mul_succ, Nat.succ_mul]; omega

theorem info52 : (Try.prog.info? 75).map (fun i => (i.zero, i.size, i.bytes)) = some (some (.agg #[.int .u8 0, .int .u8 0, .int .u8 0]), 3, 3) := by kernel_rfl

theorem owns_below {w w' : World} {base : Nat} {e : TypeId} {size : Nat} {v : Value} {n : Nat} {xs : List Value} (h : w.ownsRow base e size v n xs) (hb : Below w.heap.size w w') : w'.ownsRow base e size v n xs :=
  h.kept (row := none) ⟨hb.os, hb.tape, hb.output, hb.size, fun k hk _ => hb.block k hk⟩ (by cases v.ownBlock <;> simp)

/-- What a round that keeps the monomial does, away from the walk. -/
theorem round_keep {w wr w1 w2 : World} {o o' : Obj} {e : TypeId} {v v' : Value} {l : List (Int × Int × Int)} {x y z : Int} (hbel : Below w.heap.size w wr)
    (hown : wr.ownsRow w.heap.size e 3 v l.length (cells3 l)) (hb : Below (wr.alloc o).heap.size (wr.alloc o) w1)
    (hown2 : w2.ownsRow w.heap.size e 3 v' (l.length + 1) (cells3 l ++ [.int .u8 x, .int .u8 y, .int .u8 z])) (hg : (w1.alloc o').grownBy w2 v.ownBlock) :
    w2.ownsRow w.heap.size e 3 v' (l ++ [(x, y, z)]).length (cells3 (l ++ [(x, y, z)])) ∧ Below w.heap.size w w2 := by
  have hs := hbel.size
  have hs1 := hb.size
  simp only [World.size_alloc] at hs1
  refine ⟨by rw [cells3_snoc]; simpa [cell3] using hown2, ?_⟩
  exact ((((hbel.alloc hs _).trans (hb.mono (by simp; omega)))).alloc (by omega) _).grown hg (by simp; omega) (fun k hk => (hown.lt k hk).1)

theorem innerL_hit (d : Int) (n s t : Nat) (z : Int) (hz : z = t) (h : expsOk d (n - s) (s - t) z = true) : innerL d n s (t + 1) = innerL d n s t ++ [((n : Int) - s, (s : Int) - t, z)] := by
  subst hz; rw [innerL_succ]; simp [pick, h]
theorem innerL_miss (d : Int) (n s t : Nat) (z : Int) (hz : z = t) (h : expsOk d (n - s) (s - t) z = false) : innerL d n s (t + 1) = innerL d n s t := by
  subst hz; rw [innerL_succ]; simp [pick, h]
theorem round_skip {w wr w1 : World} {o : Obj} {e : TypeId} {v : Value} {l : List (Int × Int × Int)} (hbel : Below w.heap.size w wr)
    (hown : wr.ownsRow w.heap.size e 3 v l.length (cells3 l)) (hb : Below (wr.alloc o).heap.size (wr.alloc o) w1) :
    w1.ownsRow w.heap.size e 3 v l.length (cells3 l) ∧ Below w.heap.size w w1 := by
  have hs := hbel.size
  exact ⟨owns_below (hown.alloc _) hb, (hbel.alloc hs _).trans (hb.mono (by simp; omega))⟩

/-- Whether there is such a list; the list; the code. -/
def monB (d n : Int) : Bool := (decide (1 ≤ d) && decide (d ≤ 3)) && (decide (0 ≤ n) && decide (n ≤ 12))
def monL (d n : Int) : List (Int × Int × Int) := if monB d n then outerL d n.toNat (n.toNat + 1) else []
def monC (d n : Int) : Int := if monB d n then 0 else 2
theorem monL_le (d n : Int) : (monL d n).length ≤ 169 := by
  unfold monL
  split
  · rename_i h
    simp [monB] at h
    have h1 := outerL_le d n.toNat (n.toNat + 1)
    have h2 : (n.toNat + 1) * (n.toNat + 1) ≤ 13 * 13 := Nat.mul_le_mul (by omega) (by omega)
    omega
  · simp

theorem in_yes (n a b : Int) (w : World) (h1 : a ≤ n) (h2 : n ≤ b) : Calls Try.prog 52 #[.int .i64 n, .int .i64 a, .int .i64 b] w fun e w' => e = .returned (.bool true) ∧ w = w' :=
  (in_any n a b w).mono fun _ _ ⟨he, hw⟩ => ⟨by rw [he]; simp [h1, h2], hw⟩
theorem in_no (n a b : Int) (w : World) (h : n < a ∨ b < n) : Calls Try.prog 52 #[.int .i64 n, .int .i64 a, .int .i64 b] w fun e w' => e = .returned (.bool false) ∧ w = w' :=
  (in_any n a b w).mono fun _ _ ⟨he, hw⟩ => ⟨by rw [he]; congr 2; simp; omega, hw⟩

/-- What both functions promise. -/
def MonPost (d n : Int) (w : World) (e : Ending) (w' : World) : Prop :=
  ∃ v, e = .returned (.tuple #[v, .int .i64 (monC d n)]) ∧ w'.ownsRow w.heap.size 75 3 v (monL d n).length (cells3 (monL d n)) ∧ Below w.heap.size w w'

theorem vars_any (d : Int) (w : World) : Calls Try.prog 59 #[.int .i64 d] w fun e w' => e = .returned (.bool (decide (1 ≤ d) && decide (d ≤ 3))) ∧ w = w' := by
  by_cases h : 1 ≤ d
  all_goals
    go_enter Try.func59, Try.ntmps59
    go_wp2
    go_ret
    exact ⟨by simp; omega, rfl⟩
theorem degree_any (n : Int) (w : World) : Calls Try.prog 84 #[.int .i64 n] w fun e w' => e = .returned (.bool (decide (0 ≤ n) && decide (n ≤ 12))) ∧ w = w' := by
  by_cases h : 0 ≤ n
  all_goals
    go_enter Try.func84, Try.ntmps84
    go_wp2
    go_ret
    exact ⟨by simp; omega, rfl⟩
end Go.Proofs.Ytphgpadpffigjaa
namespace Go.Proofs.Ytphgpadpffigjaa
open Go.RowKit Go.Sort Go.Maps

theorem prime_bc {p : Int} (h : primeB p = true) : 2 ≤ p ∧ p ≤ 13 := by
  simp [primeB] at h
  omega
theorem vars_isc (d : Int) (B : Bool) (h : (decide (1 ≤ d) && decide (d ≤ 3)) = B) (w : World) : Calls Try.prog 59 #[.int .i64 d] w fun e w' => e = .returned (.bool B) ∧ w = w' := by
  subst h
  exact vars_any d w
theorem iprime_isc (p : Int) (B : Bool) (h : primeB p = B) (w : World) : Calls Try.prog 58 #[.int .i64 p] w fun e w' => e = .returned (.bool B) ∧ w = w' := by
  subst h
  exact prime_any p w
theorem sprime_isc (p : Int) (B : Bool) (h : primeB p = B) (w : World) : Calls Try.prog 51 #[.int .i64 p] w fun e w' => e = .returned (.bool B) ∧ w' = w :=
  (specPrime_any p w).mono fun _ _ ⟨a, b⟩ => ⟨by rw [a, h], b.symm⟩
/-- The model's judge of a prime and a number of letters. -/
theorem sshape (p d : Int) (B : Bool) (h : (primeB p && (decide (1 ≤ d) && decide (d ≤ 3))) = B) (w : World) : Calls Try.prog 72 #[.int .i64 p, .int .i64 d] w fun e w' => e = .returned (.bool B) ∧ w' = w := by
  cases hp : primeB p
  · have hx : B = false := by rw [← h]; simp [hp]
    subst hx
    have HP := Lib.hid (fun W => sprime_isc p false hp W)
    clear h hp
    go_enter Try.func72, Try.ntmps72
    go_wp2_with fail
    ((with_reducible refine (HP.out _).mono ?_); rintro e w1 ⟨rfl, rfl⟩)
    go_wp2_with fail
    go_ret
    exact ⟨rfl, rfl⟩
  · have HP := Lib.hid (fun W => sprime_isc p true hp W)
    have HV := Lib.hid (fun W => rin_is d 1 3 W B (by rw [← h, hp]; simp))
    clear h hp
    go_enter Try.func72, Try.ntmps72
    go_wp2_with fail
    ((with_reducible refine (HP.out _).mono ?_); rintro e w1 ⟨rfl, rfl⟩)
    go_wp2_with fail
    ((with_reducible refine (HV.out _).mono ?_); rintro e w2 ⟨rfl, rfl⟩)
    go_wp2_with fail
    go_ret
    exact ⟨rfl, rfl⟩
end Go.Proofs.Ytphgpadpffigjaa
namespace Go.Proofs.Ytphgpadpffigjaa
open Go.RowKit Go.Sort Go.Maps

def vnB (p d : Int) : Bool := primeB p && (decide (1 ≤ d) && decide (d ≤ 3))
def vnO (p d : Int) : OutP := if vnB p d then ⟨p, d, vdT p d.toNat, 0⟩ else noP 2
theorem vnO_no {p d : Int} (h : vnB p d = false) : vnO p d = noP 2 := by unfold vnO; rw [if_neg (by simp [h])]
theorem vnO_yes {p d : Int} (h : vnB p d = true) : vnO p d = ⟨p, d, vdT p d.toNat, 0⟩ := by unfold vnO; rw [if_pos h]
theorem vdT_len : ∀ p ∈ ([2, 3, 5, 7, 11, 13] : List Int), ∀ d ∈ ([1, 2, 3] : List Nat), (vdT p d).length ≤ 6 := by decide +kernel
theorem vnO_len (p d : Int) : (vnO p d).S.length ≤ 169 := by
  cases h : vnB p d
  · rw [vnO_no h]; simp [noP]
  · rw [vnO_yes h]
    unfold vnB at h
    simp only [Bool.and_eq_true, decide_eq_true_eq] at h
    exact Nat.le_trans (vdT_len p (primes_of h.1) d.toNat (by simp; omega)) (by decide)

set_option maxRecDepth 8000 in
set_option maxHeartbeats 8000000 in
theorem svp (p d : Int) (w : World) :
    Calls Try.prog 29 #[.int .i64 p, .int .i64 d] w (ResO w (vnO p d)) := by
  obtain ⟨W, hW, hbW, ⟨hWs1, hWs2⟩, rr⟩ := newbox w 0 0 (.slice none 0 0)
  cases hs : (primeB p && (decide (1 ≤ d) && decide (d ≤ 3)))
  · have HO : Hid (vnO p d = noP 2) := Lib.hid (vnO_no hs)
    have H0 := Lib.hid (fun w' => sshape p d false hs w')
    clear hs
    obtain ⟨⟨r0, r1, r2⟩, z0, z1, z2⟩ := poly3 rr
    obtain ⟨a0, a1, a2, a3, a4⟩ := fill_box (w := w) rr (ownP_nil W w.heap.size) (Nat.le_refl _) hbW (by omega) 0 0
    have A0 := Lib.hid a0
    have A1 := Lib.hid a1
    have A2 := Lib.hid a2
    have A3 := Lib.hid a3
    have A4 := Lib.hid a4
    clear a0 a1 a2 a3 a4
    go_enter Try.func29, Try.ntmps29
    go_wp2_with fail
    rw [← hW]
    clear hW
    ((with_reducible refine (H0.out _).mono ?_); rintro e w0 ⟨rfl, rfl⟩)
    go_wp2_with fail
    exact bodyPost_ret (v := .tuple #[.agg #[.int .i64 0, .int .i64 0, .slice none 0 0], .int .i64 2]) (by simp [results, Try.results29, go_sem, A0.out, A1.out, A2.out]) rfl (by rw [HO.out]; exact ⟨_, rfl, A3.out, A4.out⟩)
  have H0 := Lib.hid (fun w' => sshape p d true hs w')
  have hp : primeB p = true := by simp only [Bool.and_eq_true] at hs; exact hs.1
  have hdd : 1 ≤ d ∧ d ≤ 3 := by simp only [Bool.and_eq_true, decide_eq_true_eq] at hs; exact hs.2
  have HO := Lib.hid (vnO_yes hs)
  obtain ⟨n, rfl⟩ := Int.eq_ofNat_of_zero_le (show 0 ≤ d by omega)
  rw [Int.toNat_natCast] at HO
  have HC := Lib.hid (svand p n W hp (by omega))
  obtain ⟨S, hS⟩ : ∃ S, vdT p n = S := ⟨_, rfl⟩
  rw [hS] at HO HC
  clear hs hp hS hdd
  go_enter Try.func29, Try.ntmps29
  go_wp2_with fail
  rw [← hW]
  clear hW
  ((with_reducible refine (H0.out _).mono ?_); rintro e w0 ⟨rfl, rfl⟩)
  go_wp2_with fail
  ((with_reducible refine HC.out.mono ?_); rintro e w5 ⟨v5, rfl, ho5, hb5⟩)
  obtain ⟨sa, sc, rfl⟩ := owns_slice ho5
  have rr5 := rowIs_below rr hb5 rr.lt
  obtain ⟨⟨r0, r1, r2⟩, z0, z1, z2⟩ := poly3 rr5
  obtain ⟨a0, a1, a2, a3, a4⟩ := fill_box rr5 ho5 hbW.size (hbW.trans (hb5.mono hbW.size)) (Nat.le_refl _) p n
  have A0 := Lib.hid a0
  have A1 := Lib.hid a1
  have A2 := Lib.hid a2
  have A3 := Lib.hid a3
  have A4 := Lib.hid a4
  clear a0 a1 a2 a3 a4 ho5 rr5 hb5 HC
  go_wp2_with fail
  exact bodyPost_ret (v := .tuple #[.agg #[.int .i64 p, .int .i64 n, .slice sa S.length sc], .int .i64 0]) (by simp [results, Try.results29, go_sem, A0.out, A1.out, A2.out]) rfl (by rw [HO.out]; exact ⟨_, rfl, A3.out, A4.out⟩)

set_option maxRecDepth 8000 in
set_option maxHeartbeats 8000000 in
theorem ivp (p d : Int) (w : World) :
    Calls Try.prog 30 #[.int .i64 p, .int .i64 d] w (ResO w (vnO p d)) := by
  obtain ⟨W, hW, hbW, ⟨hWs1, hWs2⟩, rr⟩ := newbox w 0 0 (.slice none 0 0)
  cases hp : primeB p
  · have HO : Hid (vnO p d = noP 2) := Lib.hid (vnO_no (by simp [vnB, hp]))
    have H0 := Lib.hid (fun w' => iprime_isc p false hp w')
    clear hp
    obtain ⟨⟨r0, r1, r2⟩, z0, z1, z2⟩ := poly3 rr
    obtain ⟨a0, a1, a2, a3, a4⟩ := fill_box (w := w) rr (ownP_nil W w.heap.size) (Nat.le_refl _) hbW (by omega) 0 0
    have A0 := Lib.hid a0
    have A1 := Lib.hid a1
    have A2 := Lib.hid a2
    have A3 := Lib.hid a3
    have A4 := Lib.hid a4
    clear a0 a1 a2 a3 a4
    go_enter Try.func30, Try.ntmps30
    go_wp2_with fail
    rw [← hW]
    clear hW
    ((with_reducible refine (H0.out _).mono ?_); rintro e w0 ⟨rfl, hw0⟩; subst hw0)
    go_wp2_with fail
    exact bodyPost_ret (v := .tuple #[.agg #[.int .i64 0, .int .i64 0, .slice none 0 0], .int .i64 2]) (by simp [results, Try.results30, go_sem, A0.out, A1.out, A2.out]) rfl (by rw [HO.out]; exact ⟨_, rfl, A3.out, A4.out⟩)
  have H0 := Lib.hid (fun w' => iprime_isc p true hp w')
  cases hd : (decide (1 ≤ d) && decide (d ≤ 3))
  · have HO : Hid (vnO p d = noP 2) := Lib.hid (vnO_no (by unfold vnB; rw [hd]; simp))
    have H1 := Lib.hid (fun w' => vars_isc d false hd w')
    clear hp hd
    obtain ⟨⟨r0, r1, r2⟩, z0, z1, z2⟩ := poly3 rr
    obtain ⟨a0, a1, a2, a3, a4⟩ := fill_box (w := w) rr (ownP_nil W w.heap.size) (Nat.le_refl _) hbW (by omega) 0 0
    have A0 := Lib.hid a0
    have A1 := Lib.hid a1
    have A2 := Lib.hid a2
    have A3 := Lib.hid a3
    have A4 := Lib.hid a4
    clear a0 a1 a2 a3 a4
    go_enter Try.func30, Try.ntmps30
    go_wp2_with fail
    rw [← hW]
    clear hW
    ((with_reducible refine (H0.out _).mono ?_); rintro e w0 ⟨rfl, hw0⟩; subst hw0)
    go_wp2_with fail
    ((with_reducible refine (H1.out _).mono ?_); rintro e w1 ⟨rfl, hw1⟩; subst hw1)
    go_wp2_with fail
    exact bodyPost_ret (v := .tuple #[.agg #[.int .i64 0, .int .i64 0, .slice none 0 0], .int .i64 2]) (by simp [results, Try.results30, go_sem, A0.out, A1.out, A2.out]) rfl (by rw [HO.out]; exact ⟨_, rfl, A3.out, A4.out⟩)
  have H1 := Lib.hid (fun w' => vars_isc d true hd w')
  have hs : (primeB p && (decide (1 ≤ d) && decide (d ≤ 3))) = true := by rw [hp, hd]; rfl
  clear hp hd
  have hp : primeB p = true := by simp only [Bool.and_eq_true] at hs; exact hs.1
  have hdd : 1 ≤ d ∧ d ≤ 3 := by simp only [Bool.and_eq_true, decide_eq_true_eq] at hs; exact hs.2
  have HO := Lib.hid (vnO_yes hs)
  obtain ⟨n, rfl⟩ := Int.eq_ofNat_of_zero_le (show 0 ≤ d by omega)
  rw [Int.toNat_natCast] at HO
  have HC := Lib.hid (ivan p n W hp (by omega))
  obtain ⟨S, hS⟩ : ∃ S, vdT p n = S := ⟨_, rfl⟩
  rw [hS] at HO HC
  clear hs hp hS hdd
  go_enter Try.func30, Try.ntmps30
  go_wp2_with fail
  rw [← hW]
  clear hW
  ((with_reducible refine (H0.out _).mono ?_); rintro e w0 ⟨rfl, hw0⟩; subst hw0)
  go_wp2_with fail
  ((with_reducible refine (H1.out _).mono ?_); rintro e w1 ⟨rfl, hw1⟩; subst hw1)
  go_wp2_with fail
  ((with_reducible refine HC.out.mono ?_); rintro e w5 ⟨v5, rfl, ho5, hb5⟩)
  obtain ⟨sa, sc, rfl⟩ := owns_slice ho5
  have rr5 := rowIs_below rr hb5 rr.lt
  obtain ⟨⟨r0, r1, r2⟩, z0, z1, z2⟩ := poly3 rr5
  obtain ⟨a0, a1, a2, a3, a4⟩ := fill_box rr5 ho5 hbW.size (hbW.trans (hb5.mono hbW.size)) (Nat.le_refl _) p n
  have A0 := Lib.hid a0
  have A1 := Lib.hid a1
  have A2 := Lib.hid a2
  have A3 := Lib.hid a3
  have A4 := Lib.hid a4
  clear a0 a1 a2 a3 a4 ho5 rr5 hb5 HC
  go_wp2_with fail
  exact bodyPost_ret (v := .tuple #[.agg #[.int .i64 p, .int .i64 n, .slice sa S.length sc], .int .i64 0]) (by simp [results, Try.results30, go_sem, A0.out, A1.out, A2.out]) rfl (by rw [HO.out]; exact ⟨_, rfl, A3.out, A4.out⟩)
end Go.Proofs.Ytphgpadpffigjaa
namespace Go.Proofs.Ytphgpadpffigjaa
open Go.RowKit Go.Sort

/-- A polynomial: its prime, its letters, its terms. -/
abbrev Pm := Int × Int × List Tm
/-- The polynomial k of a list, in memory. -/
def PolyAt (w : World) (b o : Nat) (g : Pm) : Prop :=
  ∃ u, w.cell? ⟨b, o, none⟩ = some (.int .i64 g.1) ∧ w.cell? ⟨b, o + 1, none⟩ = some (.int .i64 g.2.1) ∧ w.cell? ⟨b, o + 2, none⟩ = some u ∧ SliceT w u g.2.2
def PolysW (w : World) (b off : Nat) (G : List Pm) : Prop := ∀ (k : Nat) (h : k < G.length), PolyAt w b (off + k * 3) G[k]
/-- A slice that reads as these polynomials. -/
def SlP (w : World) (v : Value) (G : List Pm) : Prop :=
  ∃ a cap, v = .slice a G.length cap ∧ (G = [] ∨ ∃ b off, a = some ⟨b, off, none⟩ ∧ b < w.heap.size ∧ PolysW w b off G)
theorem PolyAt.below {w w' : World} {b o : Nat} {g : Pm} (h : PolyAt w b o g) (hb : Below w.heap.size w w') (hlt : b < w.heap.size) : PolyAt w' b o g := by
  obtain ⟨u, h0, h1, h2, hS⟩ := h
  exact ⟨u, (hb.cell (p := ⟨b, _, none⟩) hlt).trans h0, (hb.cell (p := ⟨b, _, none⟩) hlt).trans h1, (hb.cell (p := ⟨b, _, none⟩) hlt).trans h2, hS.below hb⟩
theorem PolysW.below {w w' : World} {b off : Nat} {G : List Pm} (h : PolysW w b off G) (hb : Below w.heap.size w w') (hlt : b < w.heap.size) : PolysW w' b off G :=
  fun k hk => (h k hk).below hb hlt
theorem SlP.below {w w' : World} {v : Value} {G : List Pm} (h : SlP w v G) (hb : Below w.heap.size w w') : SlP w' v G := by
  obtain ⟨a, cap, hv, h | ⟨b, off, ha, hlt, hT⟩⟩ := h
  · exact ⟨a, cap, hv, .inl h⟩
  · exact ⟨a, cap, hv, .inr ⟨b, off, ha, Nat.lt_of_lt_of_le hlt hb.size, hT.below hb hlt⟩⟩
theorem SlP.at {w : World} {a : Option Addr} {n cap : Nat} {G : List Pm} (h : SlP w (.slice a n cap) G) (h0 : 0 < G.length) : ∃ b off, a = some ⟨b, off, none⟩ ∧ b < w.heap.size ∧ PolysW w b off G ∧ n = G.length := by
  obtain ⟨a', cap', hv, h | ⟨b, off, ha, hlt, hT⟩⟩ := h
  · rw [h] at h0; simp at h0
  · simp at hv
    obtain ⟨rfl, rfl, rfl⟩ := hv
    exact ⟨b, off, ha, hlt, hT, rfl⟩
/-- Numbers that fit; no list of terms is too long. -/
def PmOk (g : Pm) : Prop := (∀ t ∈ g.2.2, tmByte t) ∧ g.2.2.length ≤ 1048576
/-- A polynomial. -/
def isPm (g : Pm) : Bool := isPolyB g.1 g.2.1 g.2.2
end Go.Proofs.Ytphgpadpffigjaa
namespace Go.Proofs.Ytphgpadpffigjaa
open Go.RowKit Go.Sort

theorem eqPoly_r (p d : Int) (u u' : Value) (l : List Tm) (W : World) (hl : l.length ≤ 1048576) (hS : SliceT W u l) (hS' : SliceT W u' l) : ∀ dd os,
    Calls Try.prog 20 #[.agg #[.int .i64 p, .int .i64 d, u], .agg #[.int .i64 p, .int .i64 d, u']] (grow (redrawn W dd) os) fun e w'' => e = .returned (.bool true) ∧ ∃ q : Regrown, w'' = grow (redrawn W q.d) q.os := fun dd os =>
  Calls.regrown_of (eqPoly_same p d u u' l _ hl (hS.below (below_regrown W dd os)) (hS'.below (below_regrown W dd os)))

set_option maxRecDepth 8000 in
set_option maxHeartbeats 4000000 in
theorem eqpolys (v v' : Value) (G : List Pm) (w : World) (hl : G.length ≤ 1048576) (hlr : ∀ g ∈ G, g.2.2.length ≤ 1048576) (hS : SlP w v G) (hS' : SlP w v' G) :
    Calls Try.prog 14 #[v, v'] w fun e w' => e = .returned (.bool true) ∧ Below w.heap.size w w' := by
  have hnn : ((G.length : Int) != (G.length : Int)) = false := by simp
  obtain ⟨a, cap, rfl, hSc⟩ := id hS
  obtain ⟨a', cap', rfl, hSc'⟩ := id hS'
  go_enter Try.func14, Try.ntmps14
  go_wp2_with fail
  go_loopw [5] (fun i wr => ∃ k : Nat, k ≤ G.length ∧ i = .int .i64 k ∧ Below w.heap.size w wr) (fun i _ => G.length - (intOf i).toNat)
  case atStart => exact ⟨0, by omega, rfl, Below.refl _ _⟩
  case round =>
    obtain ⟨k, hk, rfl, hbel⟩ := hrel
    by_cases hlt : k < G.length
    · have hlt' : (k : Int) < (G.length : Int) := by omega
      obtain ⟨b, off, rfl, hbb, hT⟩ : ∃ b off, a = some ⟨b, off, none⟩ ∧ b < w.heap.size ∧ PolysW w b off G := by
        rcases hSc with rfl | h
        · simp at hlt
        · exact h
      obtain ⟨b', off', rfl, hbb', hT'⟩ : ∃ b off, a' = some ⟨b, off, none⟩ ∧ b < w.heap.size ∧ PolysW w b off G := by
        rcases hSc' with rfl | h
        · simp at hlt
        · exact h
      obtain ⟨u, c0, c1, c2, s0⟩ := (hT.below hbel hbb) k hlt
      obtain ⟨u', c3, c4, c5, s1⟩ := (hT'.below hbel hbb') k hlt
      have kE := eqPoly_r G[k].1 G[k].2.1 u u' G[k].2.2 wr (hlr _ (List.getElem_mem hlt)) s0 s1
      clear s0 s1
      have e0 := cell_regrown c0
      have e1 := cell_regrown c1
      have e2 := cell_regrown c2
      have e3 := cell_regrown c3
      have e4 := cell_regrown c4
      have e5 := cell_regrown c5
      clear c0 c1 c2 c3 c4 c5
      go_wp2_with fail
      refine wp_region_quiet_below (by kernel_rfl) (by kernel_rfl) ?_
      repeat (go_big_quiet_step (with_reducible exact kE _ _))
      refine wpQuiet_nil ?_
      intro _ hw'
      obtain ⟨⟨dq, osq⟩, hw''⟩ := hw'
      subst hw''
      have hb2 := hbel.trans ((below_regrown wr dq osq).mono hbel.size)
      generalize grow (redrawn wr dq) osq = V at *
      clear e0 e1 e2 e3 e4 e5 kE
      go_wp2_with fail
      go_roundw
      case rel => exact ⟨k + 1, by omega, by go_num, hb2⟩
      case measure => simp [intOf]; omega
    · obtain rfl : k = G.length := by omega
      go_wp2_with fail
      go_ret
      exact ⟨rfl, hbel⟩
end Go.Proofs.Ytphgpadpffigjaa
namespace Go.Proofs.Ytphgpadpffigjaa
open Go.RowKit Go.Sort

/-- All terms of a list of polynomials. -/
def totP (G : List Pm) : Nat := (G.map (·.2.2.length)).sum
theorem totP_take {G : List Pm} {k : Nat} (h : k < G.length) : totP (G.take (k + 1)) = totP (G.take k) + G[k].2.2.length := by
  unfold totP
  rw [List.take_succ_eq_append_getElem h, List.map_append, List.sum_append]
  simp
theorem totP_le (G : List Pm) (k : Nat) : totP (G.take k) ≤ totP G := by
  have h : totP G = totP (G.take k) + totP (G.drop k) := by
    unfold totP
    rw [← List.sum_append, ← List.map_append, List.take_append_drop]
  omega
theorem totP_of {G : List Pm} {g : Pm} (h : g ∈ G) : g.2.2.length ≤ totP G := by
  obtain ⟨k, hk, rfl⟩ := List.mem_iff_getElem.1 h
  have h1 := totP_take hk
  have h2 := totP_le G (k + 1)
  omega
theorem leftOf_lt {left : Int} {n : Nat} (h : left - n < 0) : leftOf left n = -1 := if_pos h
theorem leftOf_ge {left : Int} {n : Nat} (h : ¬ left - n < 0) : leftOf left n = left - n := if_neg h

set_option maxHeartbeats 2000000 in
theorem szpolys (v : Value) (G : List Pm) (left : Int) (w : World) (h0 : 0 ≤ left) (h1 : left ≤ 1048576) (hl : G.length ≤ 9223372036854775807) (hlr : ∀ g ∈ G, g.2.2.length ≤ 9223372036854775807) (hS : SlP w v G) :
    Calls Try.prog 9 #[v, .int .i64 left] w fun e w' => e = .returned (.int .i64 (leftOf left (G.length + totP G))) ∧ Below w.heap.size w w' := by
  obtain ⟨a, cap, rfl, hc⟩ := hS
  by_cases h : left < G.length
  · have h' : left - (G.length : Int) < 0 := by omega
    go_enter Try.func9, Try.ntmps9
    go_wp2
    go_ret
    exact ⟨by rw [leftOf_lt (by omega)]; rfl, .refl _ _⟩
  · have h' : ¬ left - (G.length : Int) < 0 := by omega
    go_enter Try.func9, Try.ntmps9
    go_wp2
    go_loopw [1, 5] (fun m i wr => ∃ k : Nat, k ≤ G.length ∧ i = .int .i64 k ∧ Below w.heap.size w wr ∧ ∃ q : Int, m = .int .i64 q ∧ q = left - G.length - totP (G.take k) ∧ 0 ≤ q ∧ q ≤ 1048576) (fun _ i _ => G.length - (intOf i).toNat)
    case atStart => exact ⟨0, by omega, rfl, .refl _ _, _, rfl, by simp [totP], by omega, by omega⟩
    case round =>
      obtain ⟨k, hk, rfl, hbel, q, rfl, hq, hq0, hq1⟩ := hrel
      by_cases hlt : k < G.length
      · have hlt' : (k : Int) < (G.length : Int) := by omega
        obtain ⟨b, off, rfl, hbb, hT⟩ : ∃ b off, a = some ⟨b, off, none⟩ ∧ b < w.heap.size ∧ PolysW w b off G := by
          rcases hc with rfl | h
          · simp at hlt
          · exact h
        obtain ⟨u, c0, c1, c2, s0⟩ := (hT.below hbel hbb) k hlt
        have hrl := hlr _ (List.getElem_mem hlt)
        have HT := Lib.hid (totP_take hlt)
        have HL := Lib.hid (totP_le G (k + 1))
        have HQ := Lib.hid hq
        clear hq
        go_wp2_with fail
        ((with_reducible refine (szPoly_any _ _ q u G[k].2.2 _ hrl hq0 hq1 s0).mono ?_); rintro e w1 ⟨rfl, hb1⟩)
        have hbel1 := hbel.trans (hb1.mono hbel.size)
        by_cases hneg : q - G[k].2.2.length < 0
        · rw [leftOf_lt hneg]
          have HN : Hid (left - ((G.length + totP G : Nat) : Int) < 0) := Lib.hid (by
            have h1 := HT.out
            have h2 := HL.out
            have h3 := HQ.out
            omega)
          clear hneg
          go_wp2_with fail
          go_ret
          exact ⟨by rw [leftOf_lt HN.out]; rfl, hbel1⟩
        · rw [leftOf_ge hneg]
          obtain ⟨q2, hq2⟩ : ∃ q2, q - (G[k].2.2.length : Int) = q2 := ⟨_, rfl⟩
          have hq20 : 0 ≤ q2 := by omega
          have hq21 : q2 ≤ 1048576 := by omega
          have hq22 : ¬ q2 < 0 := by omega
          have HN : Hid (q2 = left - G.length - totP (G.take (k + 1))) := Lib.hid (by
            have h1 := HT.out
            have h3 := HQ.out
            omega)
          rw [hq2]
          clear hneg hq2
          go_wp2_with fail
          go_roundw
          case rel => exact ⟨k + 1, by omega, by go_num, hbel1, q2, rfl, HN.out, hq20, hq21⟩
          case measure => simp [intOf]; omega
      · obtain rfl : k = G.length := by omega
        rw [List.take_length] at hq
        have HQ := Lib.hid hq
        clear hq
        go_wp2_with fail
        go_ret
        have h3 := HQ.out
        exact ⟨by rw [leftOf_ge (by omega)]; simp only [Int.natCast_add]; rw [← Int.sub_sub, ← h3]; rfl, hbel⟩
end Go.Proofs.Ytphgpadpffigjaa
namespace Go.Proofs.Ytphgpadpffigjaa
open Go.RowKit Go.Sort


end Go.Proofs.Ytphgpadpffigjaa
namespace Go.Proofs.Ytphgpadpffigjaa
open Go.RowKit Go.Sort

set_option maxHeartbeats 1000000 in
theorem heldT_any (g n cap : Nat) (k0 : Int) (w : World) (hc : ∀ j, j < n * 4 → w.cell? ⟨g, j, none⟩ = some (markT k0 j)) (hn : n ≤ 1048576) (h0 : 0 ≤ k0) (h1 : k0 ≤ 1000000000) :
    Calls Try.prog 50 #[.slice (some ⟨g, 0, none⟩) n cap, .int .i64 k0] w fun e w' => e = .returned (.int .i64 (k0 + 4 * n)) ∧ w = w' := by
  go_enter Try.func50, Try.ntmps50
  go_wp2
  go_loop [1, 5] (fun m i => ∃ k : Nat, k ≤ n ∧ i = .int .i64 k ∧ m = .int .i64 (k0 + 4 * k)) (fun _ i => n - (intOf i).toNat)
  case atStart => exact ⟨0, by omega, rfl, by simp⟩
  case round =>
    obtain ⟨k, hk, rfl, rfl⟩ := hrel
    by_cases hlt : k < n
    · have hlt' : (k : Int) < (n : Int) := by omega
      go_wp2
      go_loop [1, 6] (fun m i => ∃ t : Nat, t ≤ 3 ∧ i = .int .i64 t ∧ m = .int .i64 (k0 + 4 * k + t)) (fun _ i => 3 - (intOf i).toNat)
      case atStart => exact ⟨0, by omega, rfl, by simp⟩
      case round =>
        obtain ⟨t, ht, rfl, rfl⟩ := hrel
        by_cases hlt2 : t < 3
        · have hlt2' : (t : Int) < 3 := by omega
          have hcell : w.cell? ⟨g, k * 4 + t, none⟩ = some (.int .u8 ((k0 + 4 * ↑k + ↑t) % 256)) := by
            rw [hc _ (by omega)]; unfold markT; rw [if_neg (by omega)]; congr 2; omega
          have hne : ((k0 + 4 * (k : Int) + t) % 256 != (k0 + 4 * (k : Int) + t) % 256) = false := by simp
          go_wp2
          go_round
          case rel => exact ⟨t + 1, by omega, by go_num, by go_num⟩
          case measure => simp [intOf]; omega
        · obtain rfl : t = 3 := by omega
          have hcell : w.cell? ⟨g, k * 4 + 3, none⟩ = some (.int .i64 (k0 + 4 * ↑k + 3)) := by
            rw [hc _ (by omega)]; unfold markT; rw [if_pos (by omega)]; congr 2; omega
          have hne : ((k0 + 4 * (k : Int) + 3) != (k0 + 4 * (k : Int) + 3)) = false := by simp
          go_wp2
          go_round
          case rel => exact ⟨k + 1, by omega, by go_num, by go_num⟩
          case measure => simp [intOf]; omega
    · obtain rfl : k = n := by omega
      go_wp2
      go_ret
      exact ⟨rfl, rfl⟩
end Go.Proofs.Ytphgpadpffigjaa
namespace Go.Proofs.Ytphgpadpffigjaa
open Go.RowKit Go.Sort

theorem heldT_zero (a : Option Addr) (c : Nat) (k0 : Int) (w : World) :
    Calls Try.prog 50 #[.slice a 0 c, .int .i64 k0] w fun e w' => e = .returned (.int .i64 k0) ∧ w = w' := by
  go_enter Try.func50, Try.ntmps50
  go_wp2
  refine wp_loop_rounds 1 ?_
  rw [rounds_succ]
  go_wp2
  go_ret
  exact ⟨rfl, rfl⟩

theorem heldS_marks {v : Value} {n : Nat} {k0 : Int} (w : World) (h : MarksT w v n k0) (hn : n ≤ 1048576) (h0 : 0 ≤ k0) (h1 : k0 ≤ 1000000000) :
    Calls Try.prog 50 #[v, .int .i64 k0] w fun e w' => e = .returned (.int .i64 (k0 + 4 * n)) ∧ w = w' := by
  rcases h with ⟨rfl, rfl⟩ | ⟨g, cap, rfl, _, hc⟩
  · exact (heldT_zero none 0 k0 w).mono fun e w' ⟨he, hw⟩ => ⟨by rw [he]; simp, hw⟩
  · exact heldT_any g n cap k0 w hc hn h0 h1

set_option maxHeartbeats 1000000 in
theorem heldPoly_marks {v : Value} {n : Nat} (p d k0 : Int) (w : World) (h : MarksT w v n k0) (hn : n ≤ 1048576) (h0 : 0 ≤ k0) (h1 : k0 ≤ 1000000000) :
    Calls Try.prog 22 #[.agg #[.int .i64 p, .int .i64 d, v], .int .i64 k0] w fun e w' => e = .returned (.int .i64 (k0 + 4 * n)) ∧ Below w.heap.size w w' := by
  have hO : ∀ o, MarksT (w.alloc o) v n k0 := fun o => h.below (box1 _ _)
  obtain ⟨a, m, c, hv⟩ : ∃ a m c, v = .slice a m c := by
    rcases h with ⟨rfl, _⟩ | ⟨g, cap, rfl, _⟩
    · exact ⟨_, _, _, rfl⟩
    · exact ⟨_, _, _, rfl⟩
  subst hv
  have hq : ¬ k0 + 4 * (n : Int) < 0 := by omega
  go_enter Try.func22, Try.ntmps22
  go_wp2_with fail
  ((with_reducible refine (heldS_marks _ (hO _) hn h0 h1).mono ?_); rintro e w1 ⟨rfl, rfl⟩)
  go_wp2
  go_ret
  exact ⟨rfl, box1 _ _⟩
end Go.Proofs.Ytphgpadpffigjaa
namespace Go.Proofs.Ytphgpadpffigjaa
open Go.RowKit Go.Sort

theorem infoPolyQ : (Try.prog.info? 36).map (fun i => (i.zero, i.size, i.bytes)) = some (some (.agg #[.int .i64 0, .int .i64 0, .slice none 0 0]), 3, 40) := by kernel_rfl
def madeQ (n : Nat) : Array Value := madeCells (Value.agg #[.int .i64 0, .int .i64 0, .slice none 0 0]).cells (n * 3)
theorem madeQ_row (w : World) (n : Nat) (t : TypeId) : (w.alloc (.cells (madeQ n) t)).rowIs w.heap.size t (n * 3) (fun i => (madeQ n).getD i undef) := by
  have hs : (madeQ n).size = n * 3 := by simp [madeQ, madeCells]
  refine ⟨madeQ n, heap_alloc_new w _, hs, fun i hi => ?_⟩
  simp [Array.getD, hs, hi]
/-- A block that holds these terms. -/
def TermB (w : World) (b : Nat) (ts : List Tm) : Prop := ∃ f, w.rowIs b 92 (ts.length * 4) f ∧ rowT ts ts.length f
/-- A slice header of terms. -/
abbrev tv (b : Nat) (ts : List Tm) : Value := .slice (some ⟨b, 0, none⟩) ts.length ts.length
theorem TermB.below {w w' : World} {b : Nat} {ts : List Tm} (h : TermB w b ts) (hb : Below w.heap.size w w') : TermB w' b ts := by
  obtain ⟨f, hr, ht⟩ := h
  exact ⟨f, rowIs_below hr hb hr.lt, ht⟩
theorem TermB.lt {w : World} {b : Nat} {ts : List Tm} (h : TermB w b ts) : b < w.heap.size := by
  obtain ⟨f, hr, _⟩ := h
  exact hr.lt
theorem TermB.block {w w' : World} {b : Nat} {ts : List Tm} (h : TermB w b ts) (hb : w'.heap[b]? = w.heap[b]?) : TermB w' b ts := by
  obtain ⟨f, hr, ht⟩ := h
  exact ⟨f, hr.of_block hb, ht⟩
theorem TermB.slice {w : World} {b : Nat} {ts : List Tm} (h : TermB w b ts) : SliceT w (tv b ts) ts := by
  obtain ⟨f, hr, ht⟩ := h
  exact OwnT.slice (base := 0) ⟨b, f, rfl, Nat.zero_le _, hr, ht⟩
/-- The first k polynomials of a list of the call's own: their terms in blocks B 0 < B 1 < .. behind the list's own block. -/
structure PolsW (w : World) (gb : Nat) (G : List Pm) (k : Nat) (F : Nat → Value) (B : Nat → Nat) : Prop where
  row : w.rowIs gb 36 (G.length * 3) F
  at' : ∀ (q : Nat) (h : q < G.length), q < k → F (q * 3) = .int .i64 G[q].1 ∧ F (q * 3 + 1) = .int .i64 G[q].2.1 ∧ F (q * 3 + 2) = tv (B q) G[q].2.2 ∧ gb < B q ∧ TermB w (B q) G[q].2.2
  asc : ∀ q r, q < r → r < k → B q < B r
theorem PolsW.below {w w' : World} {gb : Nat} {G : List Pm} {k : Nat} {F : Nat → Value} {B : Nat → Nat} (h : PolsW w gb G k F B) (hb : Below w.heap.size w w') : PolsW w' gb G k F B :=
  ⟨rowIs_below h.row hb h.row.lt, fun q hq hk => by
    obtain ⟨a, b, c, d, e⟩ := h.at' q hq hk
    exact ⟨a, b, c, d, e.below hb⟩, h.asc⟩
theorem PolsW.put {w : World} {gb : Nat} {G : List Pm} {k : Nat} {F : Nat → Value} {B : Nat → Nat} (h : PolsW w gb G k F B) (hk : k < G.length) {b : Nat} (hT : TermB w b G[k].2.2) (hg : gb < b) (hB : ∀ q, q < k → B q < b) :
    ∃ F' B', PolsW (((w.setCell ⟨gb, k * 3, none⟩ (.int .i64 G[k].1)).setCell ⟨gb, k * 3 + 1, none⟩ (.int .i64 G[k].2.1)).setCell ⟨gb, k * 3 + 2, none⟩ (tv b G[k].2.2)) gb G (k + 1) F' B' := by
  have hT' : ∀ (b' : Nat) (ts : List Tm), gb < b' → TermB w b' ts → TermB (((w.setCell ⟨gb, k * 3, none⟩ (.int .i64 G[k].1)).setCell ⟨gb, k * 3 + 1, none⟩ (.int .i64 G[k].2.1)).setCell ⟨gb, k * 3 + 2, none⟩ (tv b G[k].2.2)) b' ts := fun b' ts hb' hh => hh.block (by
    rw [Below.heap_setCell _ ⟨gb, k * 3 + 2, none⟩ _ b' (by simp; omega), Below.heap_setCell _ ⟨gb, k * 3 + 1, none⟩ _ b' (by simp; omega), Below.heap_setCell _ ⟨gb, k * 3, none⟩ _ b' (by simp; omega)])
  refine ⟨_, fun q => if q = k then b else B q, ((h.row.set (k * 3) (.int .i64 G[k].1)).set (k * 3 + 1) (.int .i64 G[k].2.1)).set (k * 3 + 2) (tv b G[k].2.2), fun q hq hqk => ?_, fun q r hqr hr => ?_⟩
  · by_cases e : q = k
    · subst e
      refine ⟨?_, ?_, ?_, ?_, ?_⟩
      · simp only [if_neg (show ¬ q * 3 = q * 3 + 2 by omega), if_neg (show ¬ q * 3 = q * 3 + 1 by omega), if_true]
      · simp only [if_neg (show ¬ q * 3 + 1 = q * 3 + 2 by omega), if_true]
      · simp only [if_true]
      · simp only [if_true]; exact hg
      · simp only [if_true]; exact hT' _ _ hg hT
    · obtain ⟨a1, a2, a3, a4, a5⟩ := h.at' q hq (by omega)
      refine ⟨?_, ?_, ?_, ?_, ?_⟩
      · simp only [if_neg (show ¬ q * 3 = k * 3 + 2 by omega), if_neg (show ¬ q * 3 = k * 3 + 1 by omega), if_neg (show ¬ q * 3 = k * 3 by omega)]; exact a1
      · simp only [if_neg (show ¬ q * 3 + 1 = k * 3 + 2 by omega), if_neg (show ¬ q * 3 + 1 = k * 3 + 1 by omega), if_neg (show ¬ q * 3 + 1 = k * 3 by omega)]; exact a2
      · simp only [if_neg (show ¬ q * 3 + 2 = k * 3 + 2 by omega), if_neg (show ¬ q * 3 + 2 = k * 3 + 1 by omega), if_neg (show ¬ q * 3 + 2 = k * 3 by omega), if_neg e]; exact a3
      · simp only [if_neg e]; exact a4
      · simp only [if_neg e]; exact hT' _ _ a4 a5
  · by_cases e : r = k
    · subst e
      simp only [if_true, if_neg (show ¬ q = r by omega)]
      exact hB q hqr
    · simp only [if_neg e, if_neg (show ¬ q = k by omega)]
      exact h.asc q r hqr (by omega)
/-- A list of polynomials of the call's own. -/
def OwnPs (w : World) (base : Nat) (v : Value) (G : List Pm) : Prop :=
  ∃ gb F B, v = .slice (some ⟨gb, 0, none⟩) G.length G.length ∧ base ≤ gb ∧ PolsW w gb G G.length F B
theorem OwnPs.below {w w' : World} {base : Nat} {v : Value} {G : List Pm} (h : OwnPs w base v G) (hb : Below w.heap.size w w') : OwnPs w' base v G := by
  obtain ⟨gb, F, B, hv, hg, hW⟩ := h
  exact ⟨gb, F, B, hv, hg, hW.below hb⟩
theorem OwnPs.slP {w : World} {base : Nat} {v : Value} {G : List Pm} (h : OwnPs w base v G) : SlP w v G := by
  obtain ⟨gb, F, B, hv, hg, hW⟩ := h
  refine ⟨_, _, hv, .inr ⟨gb, 0, rfl, hW.row.lt, fun k hk => ?_⟩⟩
  obtain ⟨a, b, c, d, e⟩ := hW.at' k hk hk
  refine ⟨tv (B k) G[k].2.2, ?_, ?_, ?_, e.slice⟩
  · rw [Nat.zero_add, hW.row.cell (by omega), a]
  · rw [Nat.zero_add, hW.row.cell (by omega), b]
  · rw [Nat.zero_add, hW.row.cell (by omega), c]

set_option maxRecDepth 8000 in
set_option maxHeartbeats 4000000 in
theorem topolys (v : Value) (G : List Pm) (w : World) (hl : G.length ≤ 1048576) (hlr : ∀ g ∈ G, g.2.2.length ≤ 1048576) (hS : SlP w v G) :
    Calls Try.prog 11 #[v] w fun e w' => ∃ v', e = .returned v' ∧ OwnPs w' w.heap.size v' G ∧ Below w.heap.size w w' := by
  obtain ⟨i0, hi, hz0, hz1, hz2⟩ := info_parts infoPolyQ
  obtain ⟨a, cap, rfl, hc⟩ := hS
  have hmk : ∀ w, (Instr.makeSlice 27 (.int .i64 (G.length : Int)) (.int .i64 (G.length : Int))).run Try.prog w = .ok (.slice (some ⟨w.heap.size, 0, none⟩) G.length G.length) (w.alloc (.cells (madeQ G.length) 36)) := fun w => by
    have h := run_make (P := Try.prog) w 27 36 i0 _ Try.underlying27 hi hz0 .i64 .i64 (G.length : Int) (G.length : Int) (by omega) (by omega) (by rw [hz2]; omega) (by omega)
    rw [hz1] at h
    simpa [madeQ, Value.cells] using h
  clear hi hz0 hz1 hz2
  have hr0 := madeQ_row w G.length 36
  have HR0 : Hid (PolsW (w.alloc (.cells (madeQ G.length) 36)) w.heap.size G 0 (fun i => (madeQ G.length).getD i undef) (fun _ => 0)) := Lib.hid ⟨hr0, fun q _ h => by omega, fun q r _ h => by omega⟩
  clear hr0
  go_enter Try.func11, Try.ntmps11
  go_wp2
  go_loopw [4] (fun i wr => ∃ k : Nat, k ≤ G.length ∧ i = .int .i64 k ∧ Below w.heap.size w wr ∧ ∃ F B, PolsW wr w.heap.size G k F B) (fun i _ => G.length - (intOf i).toNat)
  case atStart => exact ⟨0, by omega, rfl, box1 _ _, _, _, HR0.out⟩
  case round =>
    clear HR0 hmk
    obtain ⟨k, hk, rfl, hbel, F, B, hP⟩ := hrel
    by_cases hlt : k < G.length
    · have hlt' : (k : Int) < (G.length : Int) := by omega
      obtain ⟨b, off, rfl, hbb, hT⟩ : ∃ b off, a = some ⟨b, off, none⟩ ∧ b < w.heap.size ∧ PolysW w b off G := by
        rcases hc with rfl | h
        · simp at hlt
        · exact h
      obtain ⟨u, c0, c1, c2, s0⟩ := (hT.below hbel hbb) k hlt
      have HL := Lib.hid (hlr _ (List.getElem_mem hlt))
      go_wp2_with fail
      ((with_reducible refine (toPoly_any _ _ u G[k].2.2 _ HL.out s0).mono ?_); rintro e w3 ⟨v3, rfl, ho, hb3⟩)
      obtain ⟨g, f3, rfl, hg, hr3, hf3⟩ := ho
      have hP3 := hP.below hb3
      have f0 := hP3.row.frozen (k * 3)
      have f1 := hP3.row.frozen (k * 3 + 1)
      have f2 := hP3.row.frozen (k * 3 + 2)
      have d0 := hP3.row.cell (i := k * 3) (by omega)
      have d1 := hP3.row.cell (i := k * 3 + 1) (by omega)
      have d2 := hP3.row.cell (i := k * 3 + 2) (by omega)
      have hbel3 := hbel.trans (hb3.mono hbel.size)
      have hgw := hP.row.lt
      have HPN := Lib.hid (hP3.put hlt ⟨f3, hr3, hf3⟩ (by omega) (fun q hq => Nat.lt_of_lt_of_le (hP.at' q (by omega) hq).2.2.2.2.lt hg))
      have hb4 := ((hbel3.setCell (p := ⟨w.heap.size, k * 3, none⟩) (Nat.le_refl _) (.int .i64 G[k].1)).setCell (p := ⟨w.heap.size, k * 3 + 1, none⟩) (Nat.le_refl _) (.int .i64 G[k].2.1)).setCell (p := ⟨w.heap.size, k * 3 + 2, none⟩) (Nat.le_refl _) (tv g G[k].2.2)
      clear hP hP3 hb3 hr3 hf3 hbel c0 c1 c2 s0
      go_wp2_with fail
      go_roundw
      case rel => exact ⟨k + 1, by omega, by go_num, hb4, HPN.out⟩
      case measure => simp [intOf]; omega
    · obtain rfl : k = G.length := by omega
      go_wp2_with fail
      go_ret
      exact ⟨_, rfl, ⟨w.heap.size, F, B, rfl, Nat.le_refl _, hP⟩, hbel⟩
end Go.Proofs.Ytphgpadpffigjaa
namespace Go.Proofs.Ytphgpadpffigjaa
open Go.RowKit Go.Sort

/-- Blocks from lo on and below hi may have changed, and new ones come; no other. -/
structure GrewI (lo hi : Nat) (w w' : World) : Prop where
  os : w'.os = w.os
  tape : w'.tape = w.tape
  output : w'.output = w.output
  size : w.heap.size ≤ w'.heap.size
  block : ∀ k, k < w.heap.size → (k < lo ∨ hi ≤ k) → w'.heap[k]? = w.heap[k]?
theorem GrewI.refl (lo hi : Nat) (w : World) : GrewI lo hi w w := ⟨rfl, rfl, rfl, Nat.le_refl _, fun _ _ _ => rfl⟩
theorem GrewI.step {lo hi : Nat} {w w' w'' : World} {b : Nat} (h : GrewI lo hi w w') (h1 : lo ≤ b) (h2 : b < hi) (hg : w'.grownBy w'' (some b)) : GrewI lo hi w w'' :=
  ⟨hg.os.trans h.os, hg.tape.trans h.tape, hg.output.trans h.output, Nat.le_trans h.size hg.size, fun k hk hn => (hg.block k (Nat.lt_of_lt_of_le hk h.size) (fun e => by
    simp at e; omega)).trans (h.block k hk hn)⟩
theorem GrewI.set {lo hi : Nat} {w w' : World} {b i : Nat} {x : Value} (h : GrewI lo hi w w') (h1 : lo ≤ b) (h2 : b < hi) : GrewI lo hi w (w'.setCell ⟨b, i, none⟩ x) :=
  ⟨h.os, h.tape, h.output, by rw [World.size_setCell]; exact h.size, fun k hk hn => (Below.heap_setCell w' ⟨b, i, none⟩ x k (by show k ≠ b; omega)).trans (h.block k hk hn)⟩
theorem GrewI.below {lo hi : Nat} {w w' : World} {base : Nat} (h : GrewI lo hi w w') (hb : base ≤ lo) (hw : base ≤ w.heap.size) : Below base w w' :=
  ⟨h.os, h.tape, h.output, h.size, fun k hk => h.block k (by omega) (.inl (by omega))⟩
/-- What of a list in the marking still stands, from k on. -/
structure MkP (w : World) (gb : Nat) (G : List Pm) (B : Nat → Nat) (k : Nat) (F : Nat → Value) : Prop where
  row : w.rowIs gb 36 (G.length * 3) F
  at' : ∀ (q : Nat) (h : q < G.length), k ≤ q → F (q * 3 + 2) = tv (B q) G[q].2.2 ∧ TermB w (B q) G[q].2.2
theorem MkP.next {w w' : World} {gb : Nat} {G : List Pm} {B : Nat → Nat} {k : Nat} {F : Nat → Value} (h : MkP w gb G B k F) (hk : k < G.length) (x y : Value) (hgb : ∀ q, q < G.length → gb < B q) (hasc : ∀ q r, q < r → r < G.length → B q < B r)
    (hg : ((w.setCell ⟨gb, k * 3, none⟩ x).setCell ⟨gb, k * 3 + 1, none⟩ y).grownBy w' (some (B k))) : ∃ F', MkP w' gb G B (k + 1) F' := by
  have hrow := (h.row.set (k * 3) x).set (k * 3 + 1) y
  refine ⟨_, hrow.of_block (hg.block gb hrow.lt (fun e => by have := hgb k hk; simp at e; omega)), fun q hq hkq => ?_⟩
  obtain ⟨a, b⟩ := h.at' q hq (by omega)
  have hgq := hgb q hq
  have hkk := hasc k q (by omega) hq
  refine ⟨?_, ?_⟩
  · simp only [if_neg (show ¬ q * 3 + 2 = k * 3 + 1 by omega), if_neg (show ¬ q * 3 + 2 = k * 3 by omega)]; exact a
  · have h2 : TermB ((w.setCell ⟨gb, k * 3, none⟩ x).setCell ⟨gb, k * 3 + 1, none⟩ y) (B q) G[q].2.2 := b.block (by
      rw [Below.heap_setCell _ ⟨gb, k * 3 + 1, none⟩ _ (B q) (by show B q ≠ gb; omega), Below.heap_setCell _ ⟨gb, k * 3, none⟩ _ (B q) (by show B q ≠ gb; omega)])
    exact h2.block (hg.block _ h2.lt (fun e => by simp at e; omega))

set_option maxRecDepth 8000 in
set_option maxHeartbeats 4000000 in
theorem markpolys (gb top : Nat) (G : List Pm) (F : Nat → Value) (B : Nat → Nat) (k0 : Int) (w : World) (hl : G.length ≤ 1048576) (hlr : ∀ g ∈ G, g.2.2.length ≤ 1048576) (ht : totP G ≤ 1048576) (h0 : 0 ≤ k0) (h1 : k0 ≤ 67108864)
    (hP : PolsW w gb G G.length F B) (htop : ∀ q, q < G.length → B q < top) (hgt : gb < top) :
    Calls Try.prog 15 #[.slice (some ⟨gb, 0, none⟩) G.length G.length, .int .i64 k0] w fun e w' => e = .returned (.int .i64 (k0 + 2 * G.length + 4 * totP G)) ∧ GrewI gb top w w' := by
  have HGB : Hid (∀ q, q < G.length → gb < B q) := Lib.hid (fun q hq => (hP.at' q hq hq).2.2.2.1)
  have HAS : Hid (∀ q r, q < r → r < G.length → B q < B r) := Lib.hid hP.asc
  have HTOP := Lib.hid htop
  have HM0 : Hid (MkP w gb G B 0 F) := Lib.hid ⟨hP.row, fun q hq _ => ⟨(hP.at' q hq hq).2.2.1, (hP.at' q hq hq).2.2.2.2⟩⟩
  clear hP htop
  go_enter Try.func15, Try.ntmps15
  go_wp2_with fail
  go_loopw [1, 5] (fun m i wr => ∃ k : Nat, k ≤ G.length ∧ i = .int .i64 k ∧ (∃ q : Int, m = .int .i64 q ∧ q = k0 + 2 * k + 4 * totP (G.take k)) ∧ (∃ F', MkP wr gb G B k F') ∧ GrewI gb top w wr) (fun _ i _ => G.length - (intOf i).toNat)
  case atStart => exact ⟨0, by omega, rfl, ⟨_, rfl, by simp [totP]⟩, ⟨_, HM0.out⟩, GrewI.refl _ _ _⟩
  case round =>
    clear HM0
    obtain ⟨k, hk, rfl, ⟨q, rfl, hq⟩, ⟨F', hM⟩, hG⟩ := hrel
    by_cases hlt : k < G.length
    · have hlt' : (k : Int) < (G.length : Int) := by omega
      have ht1 := totP_take hlt
      have ht2 := totP_le G (k + 1)
      have hq0 : 0 ≤ q := by omega
      have hq1 : q ≤ 900000000 := by omega
      have HQ : Hid (q + 1 + 1 + 4 * (G[k].2.2.length : Int) = k0 + 2 * ((k + 1 : Nat) : Int) + 4 * totP (G.take (k + 1))) := Lib.hid (by omega)
      clear ht1 ht2 hq
      obtain ⟨ct, hT⟩ := hM.at' k hlt (Nat.le_refl _)
      have f0 := hM.row.frozen (k * 3)
      have f1 := hM.row.frozen (k * 3 + 1)
      have d0 := hM.row.cell (i := k * 3) (by omega)
      have d1 := hM.row.cell (i := k * 3 + 1) (by omega)
      have d2 := hM.row.cell (i := k * 3 + 2) (by omega)
      rw [ct] at d2
      have hlk := hlr _ (List.getElem_mem hlt)
      have HGK := Lib.hid (HGB.out k hlt)
      have HTK := Lib.hid (HTOP.out k hlt)
      have HTT : ∀ x y, OwnG ((wr.setCell ⟨gb, k * 3, none⟩ x).setCell ⟨gb, k * 3 + 1, none⟩ y) 0 (tv (B k) G[k].2.2) G[k].2.2.length := fun x y => by
        have hgk := HGK.out
        obtain ⟨f, hr, _⟩ := hT.block (w' := (wr.setCell ⟨gb, k * 3, none⟩ x).setCell ⟨gb, k * 3 + 1, none⟩ y) (by
          rw [Below.heap_setCell _ ⟨gb, k * 3 + 1, none⟩ _ (B k) (by show B k ≠ gb; omega), Below.heap_setCell _ ⟨gb, k * 3, none⟩ _ (B k) (by show B k ≠ gb; omega)])
        exact .inr ⟨B k, _, _, f, rfl, Nat.zero_le _, Nat.le_refl _, hr⟩
      have HN := Lib.hid (fun w' x y hg => hM.next (w' := w') hlt x y HGB.out HAS.out hg)
      have HG2 := Lib.hid (fun w' x y (hg : ((wr.setCell ⟨gb, k * 3, none⟩ x).setCell ⟨gb, k * 3 + 1, none⟩ y).grownBy w' (some (B k))) => ((hG.set (i := k * 3) (x := x) (Nat.le_refl _) hgt).set (i := k * 3 + 1) (x := y) (Nat.le_refl _) hgt).step (Nat.le_of_lt HGK.out) HTK.out hg)
      clear hM hT hG ct
      go_wp2_with fail
      ((with_reducible refine (markS_own _ _ (HTT _ _) hlk (by omega) (by omega)).mono ?_); rintro e w2 ⟨rfl, _, hg⟩)
      have HF := Lib.hid (HN.out w2 _ _ hg)
      have HI := Lib.hid (HG2.out w2 _ _ hg)
      clear HN HG2 hg d0 d1 d2 f0 f1 HTT
      go_wp2_with fail
      go_roundw
      case rel => exact ⟨k + 1, by omega, by go_num, ⟨_, rfl, HQ.out⟩, HF.out, HI.out⟩
      case measure => simp [intOf]; omega
    · obtain rfl : k = G.length := by omega
      rw [List.take_length] at hq
      have HQ := Lib.hid hq
      clear hq
      go_wp2_with fail
      go_ret
      exact ⟨by rw [HQ.out]; rfl, hG⟩
end Go.Proofs.Ytphgpadpffigjaa
namespace Go.Proofs.Ytphgpadpffigjaa
open Go.RowKit Go.Sort

theorem OwnP.keepI {w w' : World} {lo hi base : Nat} {v : Value} {S : List Tm} (h : OwnP w base v S) (hg : GrewI lo hi w w') (hb : hi ≤ base) : OwnP w' base v S := by
  obtain ⟨h1, h2 | ⟨g, cap, cur, hv, hbg, hc, hrest⟩⟩ := h
  · exact ⟨h1, .inl h2⟩
  · have hlt : g < w.heap.size := by
      rcases Nat.lt_or_ge g w.heap.size with h | h
      · exact h
      · rw [Array.getElem?_eq_none h] at hc
        simp at hc
    exact ⟨h1, .inr ⟨g, cap, cur, hv, hbg, (hg.block g hlt (.inr (by omega))).trans hc, hrest⟩⟩
theorem rowI {w w' : World} {lo hi b t n : Nat} {f : Nat → Value} (h : w.rowIs b t n f) (hg : GrewI lo hi w w') (hb : b < lo ∨ hi ≤ b) : w'.rowIs b t n f := h.of_block (hg.block b h.lt hb)
theorem SliceB.keptI {w w' : World} {lo hi B : Nat} {v : Value} {ts : List Tm} (h : SliceB w B v ts) (hg : GrewI lo hi w w') (hB : B ≤ w.heap.size) (hl : B ≤ lo) : SliceB w' B v ts := by
  obtain ⟨a, cap, hv, h | ⟨b, off, ha, hlt, hT⟩⟩ := h
  · exact ⟨a, cap, hv, .inl h⟩
  · refine ⟨a, cap, hv, .inr ⟨b, off, ha, hlt, fun k hk => ?_⟩⟩
    have hb := hg.block b (Nat.lt_of_lt_of_le hlt hB) (.inl (by omega))
    obtain ⟨h0, h1, h2, h3⟩ := hT k hk
    exact ⟨(World.cell?_of_block (w := w) (a := ⟨b, _, none⟩) hb).trans h0, (World.cell?_of_block (w := w) (a := ⟨b, _, none⟩) hb).trans h1, (World.cell?_of_block (w := w) (a := ⟨b, _, none⟩) hb).trans h2, (World.cell?_of_block (w := w) (a := ⟨b, _, none⟩) hb).trans h3⟩
theorem LawSt.stepI {w wr w' : World} {A B0 B1 B2 N0 lo hi : Nat} {p d P D : Int} {va s0 v1 s2 : Value} {ts S : List Tm} (h : LawSt w wr A B0 B1 B2 N0 p d P D va s0 v1 s2 ts S) (hg : GrewI lo hi wr w') (hA : A < lo) (h0 : B0 < lo) (h1 : B1 < lo) (h2 : hi ≤ B2) (hN : N0 ≤ lo) :
    LawSt w w' A B0 B1 B2 N0 p d P D va s0 v1 s2 ts S := by
  obtain ⟨n1, n2⟩ := h.n0
  exact ⟨rowI h.ax hg (.inl hA), rowI h.b0 hg (.inl h0), rowI h.b1 hg (.inl h1), rowI h.b2 hg (.inr h2), h.sa.keptI hg h.below.size (by omega), h.sm.keptI hg n2 hN, h.below.trans (hg.below (by omega) h.below.size), n1, Nat.le_trans n2 hg.size⟩
theorem OwnPs.blocks {w : World} {base : Nat} {v : Value} {G : List Pm} (h : OwnPs w base v G) : ∃ gb F B, v = .slice (some ⟨gb, 0, none⟩) G.length G.length ∧ base ≤ gb ∧ PolsW w gb G G.length F B ∧ gb < w.heap.size ∧ ∀ q, q < G.length → B q < w.heap.size := by
  obtain ⟨gb, F, B, hv, hg, hW⟩ := h
  exact ⟨gb, F, B, hv, hg, hW, hW.row.lt, fun q hq => (hW.at' q hq hq).2.2.2.2.lt⟩
theorem PolsW.keepRow {w w' : World} {gb : Nat} {G : List Pm} {k : Nat} {F : Nat → Value} {B : Nat → Nat} {row : Option Nat} (h : PolsW w gb G k F B) (hg : w.grownBy w' row) (hr : ∀ g, row = some g → g < gb) : PolsW w' gb G k F B :=
  ⟨h.row.of_block (hg.block gb h.row.lt (fun e => by have := hr gb e.symm; omega)), fun q hq hk => by
    obtain ⟨a, b, c, d, e⟩ := h.at' q hq hk
    exact ⟨a, b, c, d, e.block (hg.block _ e.lt (fun x => by have := hr _ x.symm; omega))⟩, h.asc⟩
/-- The box of a law's polynomial. -/
theorem lbox1 (w : World) (p d : Int) (v : Value) : ∃ W, W = w.alloc (.cells #[.int .i64 p, .int .i64 d, v] 46) ∧ Below w.heap.size w W ∧ (W.heap.size ≤ w.heap.size + 1 ∧ w.heap.size + 1 ≤ W.heap.size) ∧
      W.rowIs w.heap.size 46 3 (polyF p d v) :=
  ⟨_, rfl, box1 _ _, ⟨by simp, by simp⟩, World.rowIs_alloc w #[Value.int .i64 p, .int .i64 d, v] _ _ (fun i hi => by simp at hi; match i, hi with | 0, _ => rfl | 1, _ => rfl | 2, _ => rfl)⟩
end Go.Proofs.Ytphgpadpffigjaa
namespace Go.Proofs.Ytphgpadpffigjaa
open Go.RowKit Go.Sort

set_option maxHeartbeats 1000000 in
theorem neqI_some (g o cap g' o' cap' : Nat) (l : List Int) (w : World) (hl : l.length ≤ 1048576) (hT : Cs w g o l) (hT' : Cs w g' o' l) :
    Calls Try.prog 38 #[.slice (some ⟨g, o, none⟩) l.length cap, .slice (some ⟨g', o', none⟩) l.length cap'] w fun e w' => e = .returned (.bool true) ∧ Below w.heap.size w w' := by
  have hnn : ((l.length : Int) != (l.length : Int)) = false := by simp
  go_enter Try.func38, Try.ntmps38
  go_wp2
  go_loopw [5] (fun i wr => ∃ k : Nat, k ≤ l.length ∧ i = .int .i64 k ∧ ∃ n, wr = w.drewN n) (fun i _ => l.length - (intOf i).toNat)
  case atStart => exact ⟨0, by omega, rfl, 0, rfl⟩
  case round =>
    obtain ⟨k, hk, rfl, n, rfl⟩ := hrel
    by_cases hlt : k < l.length
    · have hlt' : (k : Int) < (l.length : Int) := by omega
      have a0 := hT k hlt
      have b0 := hT' k hlt
      have hq : (l[k] != l[k]) = false := by simp
      go_wp2
      go_quiet (fail)
      go_wp2
      go_roundw
      case rel => exact ⟨k + 1, by omega, by go_num, _, rfl⟩
      case measure => simp [intOf]; omega
    · obtain rfl : k = l.length := by omega
      go_wp2
      go_ret
      exact ⟨rfl, below_drewN (Below.refl _ _) n⟩

theorem neqI_zero (a a' : Option Addr) (c c' : Nat) (w : World) :
    Calls Try.prog 38 #[.slice a 0 c, .slice a' 0 c'] w fun e w' => e = .returned (.bool true) ∧ Below w.heap.size w w' := by
  go_enter Try.func38, Try.ntmps38
  go_wp2
  refine wp_loop_rounds 1 ?_
  rw [rounds_succ]
  go_wp2
  go_ret
  exact ⟨rfl, Below.refl _ _⟩

theorem neqI_same (v v' : Value) (l : List Int) (w : World) (hl : l.length ≤ 1048576) (hS : Sl w v l) (hS' : Sl w v' l) :
    Calls Try.prog 38 #[v, v'] w fun e w' => e = .returned (.bool true) ∧ Below w.heap.size w w' := by
  obtain ⟨a, cap, rfl, h⟩ := hS
  obtain ⟨a', cap', rfl, h'⟩ := hS'
  cases l with
  | nil => exact neqI_zero _ _ _ _ _
  | cons t r =>
    rcases h with h | ⟨b, off, rfl, hlt, hT⟩
    · cases h
    · rcases h' with h' | ⟨b', off', rfl, hlt', hT'⟩
      · cases h'
      · exact neqI_some b off cap b' off' cap' _ w hl hT hT'
end Go.Proofs.Ytphgpadpffigjaa
namespace Go.Proofs.Ytphgpadpffigjaa
open Go.RowKit Go.Sort

set_option maxHeartbeats 1000000 in
theorem nmarkI_own {base : Nat} {v : Value} {l : List Int} (k0 : Int) (w : World) (h : nOwnI w base v l) (hn : l.length ≤ 1048576) (h0 : 0 ≤ k0) (h1 : k0 ≤ 1000000000) :
    Calls Try.prog 40 #[v, .int .i64 k0] w fun e w' => e = .returned (.int .i64 (k0 + l.length)) ∧ w.grownBy w' v.ownBlock := by
  obtain ⟨g, f, rfl, hg, hr, hf⟩ := h
  clear hf
  simp only [Value.ownBlock]
  generalize l.length = n at *
  go_enter Try.func40, Try.ntmps40
  go_wp2
  go_loopw [1, 5] (fun m i wr => ∃ k : Nat, k ≤ n ∧ i = .int .i64 k ∧ m = .int .i64 (k0 + k) ∧ (∃ f', wr.rowIs g 2 n f') ∧ w.grownBy wr (some g)) (fun _ i _ => n - (intOf i).toNat)
  case atStart => exact ⟨0, by omega, rfl, by simp, ⟨f, hr⟩, World.grownBy.refl _ _⟩
  case round =>
    obtain ⟨k, hk, rfl, rfl, ⟨f', hr'⟩, hg'⟩ := hrel
    by_cases hlt : k < n
    · have hlt' : (k : Int) < (n : Int) := by omega
      have c0 := hr'.cell hlt
      have z0 := hr'.frozen k
      have hr2 := hr'.set k (.int .i64 (k0 + k))
      have hg2 := ngrown_setT hg' k (.int .i64 (k0 + k))
      clear hr' hg' hr
      go_wp2
      go_roundw
      case rel => exact ⟨k + 1, by omega, by go_num, by go_num, ⟨_, hr2⟩, hg2⟩
      case measure => simp [intOf]; omega
    · obtain rfl : k = n := by omega
      go_wp2
      go_ret
      exact ⟨rfl, hg'⟩

set_option maxHeartbeats 1000000 in
theorem rmark (base : Nat) (e : Row3) (k0 : Int) (w : World) (h : RowAt w base e) (hn : e.2.1.length ≤ 1048576) (h0 : 0 ≤ k0) (h1 : k0 ≤ 1000000000) :
    Calls Try.prog 40 #[e.1, .int .i64 k0] w fun r w' => r = .returned (.int .i64 (k0 + e.2.1.length)) ∧ RowAt w' base (e.1, seqL k0 e.2.1.length, e.2.2) ∧ w.grownBy w' (some e.2.2) := by
  obtain ⟨u, l, g⟩ := e
  obtain ⟨cap, N, f, hu, hg, hN, hr, hf⟩ := h
  simp only at hu hg hN hr hf hn ⊢
  subst hu
  clear hf
  have hsl := seqL_len k0 l.length
  suffices hh : Calls Try.prog 40 #[.slice (some ⟨g, 0, none⟩) l.length cap, .int .i64 k0] w fun r w' => r = .returned (.int .i64 (k0 + l.length)) ∧ (∃ f', w'.rowIs g 2 N f' ∧ ∀ q, q < l.length → f' q = .int .i64 (k0 + (q : Int))) ∧ w.grownBy w' (some g) by
    refine hh.mono fun r w' ⟨hr', ⟨f', hrow, hf'⟩, hgr⟩ => ⟨hr', ⟨cap, N, f', by simp only [hsl], hg, by simp only [hsl]; exact hN, hrow, fun q hq => ?_⟩, hgr⟩
    rw [hf' q (by simpa [hsl] using hq)]
    simp only [seqL_at]
  clear hsl
  generalize l.length = n at *
  go_enter Try.func40, Try.ntmps40
  go_wp2
  go_loopw [1, 5] (fun m i wr => ∃ k : Nat, k ≤ n ∧ i = .int .i64 k ∧ m = .int .i64 (k0 + k) ∧ (∃ f', wr.rowIs g 2 N f' ∧ Hid (∀ q, q < k → f' q = .int .i64 (k0 + (q : Int)))) ∧ w.grownBy wr (some g)) (fun _ i _ => n - (intOf i).toNat)
  case atStart => exact ⟨0, by omega, rfl, by simp, ⟨f, hr, Lib.hid (fun q h => by omega)⟩, World.grownBy.refl _ _⟩
  case round =>
    obtain ⟨k, hk, rfl, rfl, ⟨f', hr', HF⟩, hg'⟩ := hrel
    by_cases hlt : k < n
    · have hlt' : (k : Int) < (n : Int) := by omega
      have c0 := hr'.cell (i := k) (by omega)
      have z0 := hr'.frozen k
      have hr2 := hr'.set k (.int .i64 (k0 + k))
      have hg2 := ngrown_setT hg' k (.int .i64 (k0 + k))
      have HN : Hid (∀ q, q < k + 1 → (fun j => if j = k then Value.int .i64 (k0 + (k : Int)) else f' j) q = .int .i64 (k0 + (q : Int))) := Lib.hid (fun q hq => by
        by_cases e : q = k
        · subst e; simp
        · simp only [if_neg e]; exact HF.out q (by omega))
      clear hr' hg' hr HF
      go_wp2
      go_roundw
      case rel => exact ⟨k + 1, by omega, by go_num, by go_num, ⟨_, hr2, HN⟩, hg2⟩
      case measure => simp [intOf]; omega
    · obtain rfl : k = n := by omega
      have HN := HF.out
      go_wp2
      go_ret
      exact ⟨rfl, ⟨f', hr', HN⟩, hg'⟩
set_option maxHeartbeats 1000000 in
theorem rheld (u : Value) (n : Nat) (k0 : Int) (w : World) (hS : Sl w u (seqL k0 n)) (hn : n ≤ 1048576) (h0 : 0 ≤ k0) (h1 : k0 ≤ 1000000000) :
    Calls Try.prog 41 #[u, .int .i64 k0] w fun r w' => r = .returned (.int .i64 (k0 + n)) ∧ w' = w := by
  obtain ⟨a, cap, rfl, hc⟩ := hS
  have HSQ := Lib.hid (seqL_at k0 n)
  have hsl := seqL_len k0 n
  have HL := Lib.hid hsl
  rw [hsl]
  clear hsl
  go_enter Try.func41, Try.ntmps41
  go_wp2_with fail
  go_loop [1, 5] (fun m i => ∃ k : Nat, k ≤ n ∧ i = .int .i64 k ∧ m = .int .i64 (k0 + k)) (fun _ i => n - (intOf i).toNat)
  case atStart => exact ⟨0, by omega, rfl, by simp⟩
  case round =>
    obtain ⟨k, hk, rfl, rfl⟩ := hrel
    by_cases hlt : k < n
    · have hlt' : (k : Int) < (n : Int) := by omega
      have hks : k < (seqL k0 n).length := by rw [HL.out]; exact hlt
      obtain ⟨b, off, rfl, hbb, hT⟩ : ∃ b off, a = some ⟨b, off, none⟩ ∧ b < w.heap.size ∧ Cs w b off (seqL k0 n) := by
        rcases hc with h | h
        · rw [h] at hks; simp at hks
        · exact h
      have c0 := hT k hks
      rw [HSQ.out k hks] at c0
      have hne : (k0 + (k : Int) != k0 + (k : Int)) = false := by simp
      clear hks
      go_wp2_with fail
      go_round
      case rel => exact ⟨k + 1, by omega, by go_num, by go_num⟩
      case measure => simp [intOf]; omega
    · obtain rfl : k = n := by omega
      go_wp2_with fail
      go_ret
      exact ⟨rfl, rfl⟩


theorem rmark_none (a : Option Addr) (c : Nat) (k0 : Int) (w : World) :
    Calls Try.prog 40 #[.slice a 0 c, .int .i64 k0] w fun r w' => r = .returned (.int .i64 k0) ∧ w' = w := by
  go_enter Try.func40, Try.ntmps40
  go_wp2
  refine wp_loop_rounds 1 ?_
  rw [rounds_succ]
  go_wp2
  go_ret
  exact ⟨rfl, rfl⟩
theorem OwnV.mark {w : World} {base : Nat} {v : Value} {S : List Int} (h : OwnV w base v S) (hl : S.length ≤ 1048576) (hbw : base ≤ w.heap.size) :
    Calls Try.prog 40 #[v, .int .i64 1] w fun r w' => r = .returned (.int .i64 (1 + (S.length : Int))) ∧ OwnV w' base v (seqL 1 S.length) ∧ Below base w w' := by
  rcases h with ⟨rfl, a, c, rfl⟩ | ⟨b, h⟩
  · exact (rmark_none a c 1 w).mono fun r w' ⟨hr, hw⟩ => ⟨by simpa using hr, .inl ⟨by simp [seqL], a, c, rfl⟩, by rw [hw]; exact ⟨rfl, rfl, rfl, Nat.le_refl _, fun _ _ => rfl⟩⟩
  · refine (rmark base (v, S, b) 1 w h hl (by decide) (by decide)).mono fun r w' ⟨hr, hrow, hg⟩ => ⟨hr, .inr ⟨b, hrow⟩, ?_⟩
    obtain ⟨_, _, _, _, hb, _⟩ := h
    exact ⟨hg.os, hg.tape, hg.output, hg.size, fun k hk => hg.block k (by omega) (fun e => by simp at e hb; omega)⟩
theorem OwnV.held {w : World} {base : Nat} {v : Value} {n : Nat} (h : OwnV w base v (seqL 1 n)) (hl : n ≤ 1048576) :
    Calls Try.prog 41 #[v, .int .i64 1] w fun r w' => r = .returned (.int .i64 (1 + (n : Int))) ∧ w' = w :=
  rheld v n 1 w h.sl hl (by decide) (by decide)
end Go.Proofs.Ytphgpadpffigjaa
namespace Go.Proofs.Ytphgpadpffigjaa
open Go.RowKit Go.Sort Go.Maps

/-- The boxes of a law: the model's result's (B0), the program's result's (B2). -/
structure LawR (w wr : World) (B0 B2 N0 : Nat) (P D : Int) (s0 s2 : Value) (S : List Tm) : Prop where
  b0 : wr.rowIs B0 36 3 (polyF P D s0)
  b2 : wr.rowIs B2 36 3 (polyF P D s2)
  sm : SliceB wr N0 s0 S
  below : Below w.heap.size w wr
  n0 : w.heap.size ≤ N0 ∧ N0 ≤ wr.heap.size
theorem LawR.step {w wr w' : World} {B0 B2 N0 : Nat} {P D : Int} {s0 s2 : Value} {S : List Tm} {row : Option Nat} (h : LawR w wr B0 B2 N0 P D s0 s2 S) (hg : wr.grownBy w' row) (hr : ∀ g, row = some g → N0 ≤ g ∧ ∃ N f, wr.rowIs g 92 N f) :
    LawR w w' B0 B2 N0 P D s0 s2 S := by
  have hsz := hg.size
  obtain ⟨n1, n2⟩ := h.n0
  have key : ∀ b t f, wr.rowIs b t 3 f → t ≠ 92 → w'.rowIs b t 3 f := fun b t f hb ht => hb.of_block (hg.block b hb.lt fun e => by
    obtain ⟨_, N, f', hrow⟩ := hr b e.symm
    exact rowIs_ne hb hrow ht rfl)
  refine ⟨key _ _ _ h.b0 (by decide), key _ _ _ h.b2 (by decide), h.sm.kept hg n2 fun g e => (hr g e).1, ?_, n1, by omega⟩
  exact h.below.grown hg h.below.size fun g e => Nat.le_trans n1 (hr g e).1
theorem LawR.on {w wr w' : World} {B0 B2 N0 : Nat} {P D : Int} {s0 s2 : Value} {S : List Tm} (h : LawR w wr B0 B2 N0 P D s0 s2 S) (hb : Below wr.heap.size wr w') : LawR w w' B0 B2 N0 P D s0 s2 S :=
  h.step (below_grown hb) (fun g e => by simp at e)
theorem LawR.stepI {w wr w' : World} {B0 B2 N0 lo hi : Nat} {P D : Int} {s0 s2 : Value} {S : List Tm} (h : LawR w wr B0 B2 N0 P D s0 s2 S) (hg : GrewI lo hi wr w') (h0 : B0 < lo) (h2 : hi ≤ B2) (hN : N0 ≤ lo) :
    LawR w w' B0 B2 N0 P D s0 s2 S := by
  obtain ⟨n1, n2⟩ := h.n0
  exact ⟨rowI h.b0 hg (.inl h0), rowI h.b2 hg (.inr h2), h.sm.keptI hg n2 hN, h.below.trans (hg.below (by omega) h.below.size), n1, Nat.le_trans n2 hg.size⟩
theorem GrewI.one {lo hi b : Nat} {w w' : World} (h1 : lo ≤ b) (h2 : b < hi) (hg : w.grownBy w' (some b)) : GrewI lo hi w w' := (GrewI.refl lo hi w).step h1 h2 hg
theorem nOwnI.blk {w : World} {base : Nat} {v : Value} {l : List Int} (h : nOwnI w base v l) : ∃ g, v = .slice (some ⟨g, 0, none⟩) l.length l.length ∧ base ≤ g ∧ g < w.heap.size := by
  obtain ⟨g, f, hv, hb, hr, _⟩ := h
  exact ⟨g, hv, hb, hr.lt⟩
theorem nOwnI.on {w w' : World} {base : Nat} {v : Value} {l : List Int} (h : nOwnI w base v l) (hb : Below w.heap.size w w') : nOwnI w' base v l := by
  obtain ⟨g, f, hv, hg, hr, hf⟩ := h
  exact ⟨g, f, hv, hg, rowIs_below hr hb hr.lt, hf⟩
theorem nOwnI.onI {w w' : World} {base lo hi : Nat} {v : Value} {l : List Int} (h : nOwnI w base v l) (hg : GrewI lo hi w w') (hb : hi ≤ base) : nOwnI w' base v l := by
  obtain ⟨g, f, hv, hbg, hr, hf⟩ := h
  exact ⟨g, f, hv, hbg, rowI hr hg (.inr (by omega)), hf⟩
end Go.Proofs.Ytphgpadpffigjaa
namespace Go.Proofs.Ytphgpadpffigjaa
open Go.RowKit Go.Sort Go.Maps

set_option maxRecDepth 8000 in
set_option maxHeartbeats 16000000 in
theorem law_vn (p d : Int) (w : World) :
    Calls Try.prog 7 #[.int .i64 p, .int .i64 d] w fun e w' => e = .returned (.bool true) ∧ Below w.heap.size w w' := by
  obtain ⟨o, ho⟩ : ∃ o, vnO p d = o := ⟨_, rfl⟩
  have hso : o.S.length ≤ 1048576 := by rw [← ho]; exact Nat.le_trans (vnO_len p d) (by decide)
  have HSP := Lib.hid (fun w' => svp p d w')
  have HIM := Lib.hid (fun w' => ivp p d w')
  rw [ho] at HSP HIM
  clear ho
  obtain ⟨P, D, S, c⟩ := o
  simp only at hso
  go_enter Try.func7, Try.ntmps7
  go_wp2_with fail
  ((with_reducible refine (HSP.out _).mono ?_); rintro e w3 ⟨sv3, rfl, hp3, hbs⟩)
  simp only at hp3
  have ho3 := OwnP.slice hp3
  obtain ⟨a3, c3, rfl, _⟩ := id ho3
  obtain ⟨V3, hV3, hbV3, ⟨hV3s1, hV3s2⟩, rb0⟩ := newbox w3 P D (.slice a3 S.length c3)
  have K3 := hbs.trans (hbV3.mono hbs.size)
  have sm3 := (ho3.below hbV3).bound
  clear ho3 hp3 hbs hbV3
  go_upto_region 2 with fail
  rw [← hV3]
  clear hV3
  obtain ⟨N0, hN0⟩ : ∃ N0, V3.heap.size = N0 := ⟨_, rfl⟩
  have hB0lt : w3.heap.size < N0 := by have := rb0.lt; omega
  have hwN : w.heap.size ≤ N0 := by have := K3.size; omega
  go_wp2_with fail
  ((with_reducible refine (HIM.out _).mono ?_); rintro e wk ⟨sv5, rfl, ho5, hbk⟩)
  simp only at ho5
  obtain ⟨a5, c5, rfl⟩ := owns_slice ho5
  have sk := hbk.size
  obtain ⟨V6, hV6, hbV6, ⟨hV6s1, hV6s2⟩, rb2⟩ := newbox wk P D (.slice a5 S.length c5)
  have hbx := hbk.trans (hbV6.mono sk)
  have hg6 : OwnP V6 V3.heap.size (.slice a5 S.length c5) S := owns_belowT ho5 hbV6
  have st : LawR w V6 w3.heap.size wk.heap.size N0 P D (.slice a3 S.length c3) (.slice a5 S.length c5) S :=
    ⟨rowIs_below rb0 hbx rb0.lt, rb2, by rw [← hN0]; exact sm3.kept (below_grown hbx) (Nat.le_refl _) (fun g e => by simp at e), K3.trans (hbx.mono K3.size), hwN, by have := hbx.size; omega⟩
  have hcc : (c != c) = false := by simp
  have hB2 : V3.heap.size ≤ wk.heap.size := sk
  clear rb0 rb2 sm3 ho5 hbk hbV6 hbx K3 HSP
  go_upto_region 3 with fail
  rw [← hV6]
  clear hV6
  obtain ⟨⟨q0, q1, q2⟩, _⟩ := poly3 st.b2
  obtain ⟨⟨k0, k1, k2⟩, _⟩ := poly3 st.b0
  go_wp2_with fail
  ((with_reducible refine (eqPoly_same P D _ _ S _ hso (OwnP.slice hg6) (st.sm.slice st.n0.2)).mono ?_); rintro e w14 ⟨rfl, hb14⟩)
  have st14 := st.on hb14
  have hg14 : OwnP w14 V3.heap.size (.slice a5 S.length c5) S := owns_belowT hg6 hb14
  clear q0 q1 q2 k0 k1 k2 st hg6 hb14
  obtain ⟨⟨q0, q1, q2⟩, _⟩ := poly3 st14.b2
  go_wp2_with fail
  ((with_reducible refine (markPoly_own P D 1 _ (OwnG.of_owns hg14) hso (by decide) (by decide)).mono ?_); rintro e w15 ⟨rfl, hM15, hgr15⟩)
  have st15 := st14.step hgr15 (fun g e => by obtain ⟨h1, h2⟩ := (OwnG.of_owns hg14).row g e; exact ⟨by omega, h2⟩)
  clear q0 q1 q2 st14 hg14 hgr15
  obtain ⟨⟨q0, q1, q2⟩, _⟩ := poly3 st15.b2
  go_wp2_with fail
  ((with_reducible refine (heldPoly_marks P D 1 _ hM15 hso (by decide) (by decide)).mono ?_); rintro e w16 ⟨rfl, hb16⟩)
  have st16 := st15.on hb16
  have hM16 := hM15.below hb16
  clear q0 q1 q2 st15 hM15 hb16
  have hq2 : ¬ (1 : Int) + 4 * (S.length : Int) < 0 := by omega
  have hq3 : ((1 : Int) + 4 * (S.length : Int) != 1 + 4 * (S.length : Int)) = false := by simp
  go_wp2_with fail
  ((with_reducible refine (HIM.out _).mono ?_); rintro e w19 ⟨sv19, rfl, ho19, hb19⟩)
  simp only at ho19
  obtain ⟨a19, c19, rfl⟩ := owns_slice ho19
  obtain ⟨V19, hV19, hbV19, ⟨hV19s1, hV19s2⟩, rh⟩ := newbox w19 P D (.slice a19 S.length c19)
  have hbx := hb19.trans (hbV19.mono hb19.size)
  have hS19 := (OwnP.slice ho19).below hbV19
  have st19 := st16.on hbx
  have hM19 := hM16.below hbx
  clear st16 hM16 hbx ho19 hb19 hbV19
  go_upto_region 14 with fail
  rw [← hV19]
  clear hV19
  obtain ⟨⟨q0, q1, q2⟩, _⟩ := poly3 rh
  obtain ⟨⟨k0, k1, k2⟩, _⟩ := poly3 st19.b0
  go_wp2_with fail
  ((with_reducible refine (eqPoly_same P D _ _ S _ hso hS19 (st19.sm.slice st19.n0.2)).mono ?_); rintro e w20 ⟨rfl, hb20⟩)
  have st20 := st19.on hb20
  have hM20 := hM19.below hb20
  clear q0 q1 q2 k0 k1 k2 st19 hM19 hS19 rh hb20
  obtain ⟨⟨q0, q1, q2⟩, _⟩ := poly3 st20.b2
  go_wp2_with fail
  ((with_reducible refine (heldPoly_marks P D 1 _ hM20 hso (by decide) (by decide)).mono ?_); rintro e w21 ⟨rfl, hb21⟩)
  have hend := (st20.on hb21).below
  clear q0 q1 q2 st20 hM20 hb21
  go_wp2
  go_ret
  exact ⟨rfl, hend⟩
end Go.Proofs.Ytphgpadpffigjaa
