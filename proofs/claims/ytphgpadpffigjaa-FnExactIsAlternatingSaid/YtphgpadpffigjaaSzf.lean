/-
  WALKS: IsSymmetric on both sides. Conditions: as each theorem states.
-/
import Derived.Test.YtphgpadpffigjaaSzh
import Derived.Test.YtphgpadpffigjaaSzc
import Derived.Test.YtphgpadpffigjaaF
import Derived.Test.YtphgpadpffigjaaLe
import Derived.Test.YtphgpadpffigjaaPcc
namespace Go.Proofs.Ytphgpadpffigjaa
open Go.RowKit Go.Sort

theorem first_outR {α : Type} (B : α → Bool) : ∀ (l : List α), l.all B = false → ∃ (j : Nat) (h : j < l.length), B l[j] = false ∧ ∀ (i : Nat) (h : i < l.length), i < j → B l[i] = true
  | [], h => by simp at h
  | a :: r, h => by
    cases ha : B a
    · exact ⟨0, by simp, by simpa using ha, fun i _ hij => by omega⟩
    · have hr : r.all B = false := by
        simp only [List.all_cons, ha, Bool.true_and] at h
        exact h
      obtain ⟨j, hj, hn, hp⟩ := first_outR B r hr
      refine ⟨j + 1, by simp; omega, by simpa using hn, fun i hi hij => ?_⟩
      cases i with
      | zero => simpa using ha
      | succ i => simpa using hp i (by simpa using hi) (by omega)

theorem bwd_in {d : Nat} (os : List Int) (e : Int × Int × Int) : inD d (bwd d os e) := by
  refine ⟨fun h => ?_, fun h => ?_⟩
  · show (if 2 ≤ d then _ else (0 : Int)) = 0
    rw [if_neg (by omega)]
  · show (if 3 ≤ d then _ else (0 : Int)) = 0
    rw [if_neg (by omega)]
theorem fwd_back {d : Nat} (hd : 1 ≤ d ∧ d ≤ 3) {os : List Int} (ho : os ∈ ordL d (d ^ d)) {e : Int × Int × Int} (he : inD d e) : fwd d os (bwd d os e) = e := (fwd_bwd hd ho (bwd_in os e) he).2 rfl
theorem fwd_byte {d : Nat} (os : List Int) {e : Int × Int × Int} (h : byte3 e) : byte3 (fwd d os e) := keyO_byte (fun _ hx => exL_byte h hx)
/-- Whether an order makes of the polynomial k times the same. -/
def orP (p : Int) (d : Nat) (k : Int) (xs : List Tm) (os : List Int) : Prop := ∀ e, inD d e → atL xs (bwd d os e) = k * atL xs e % p
theorem or_same {p : Int} {d : Nat} {k : Int} {xs L1 L2 : List Tm} {os : List Int} (hV : Valid p d xs) (hin : InP d xs) (ho : os ∈ ordL d (d ^ d)) (h1 : IsP p L1 (exF d os xs)) (h2 : IsP p L2 (fun e => k * atL xs e % p)) : sameT L1 L2 = true ↔ orP p d k xs os := by
  have hd : 1 ≤ d ∧ d ≤ 3 := by have := hV.d1; have := hV.d3; omega
  unfold sameT
  rw [decide_eq_true_iff]
  constructor
  · intro h e he
    by_cases hb : byte3 e
    · have a1 := h1.2.2 e hb
      have a2 := h2.2.2 e hb
      unfold exF at a1
      rw [if_pos he, h] at a1
      exact a1.symm.trans a2
    · rw [hV.zero (fun h => hb (by have := fwd_byte (d := d) os h; rwa [fwd_back hd ho he] at this)), hV.zero hb]
      simp
  · intro h
    refine h1.unique (h2.congr fun e _ => ?_)
    unfold exF
    by_cases he : inD d e
    · rw [if_pos he]; exact (h e he).symm
    · rw [if_neg he, hin.zero he]
      simp
theorem Valid.one {p d : Int} {xs : List Tm} (h : Valid p d xs) (e : Int × Int × Int) : 1 * atL xs e % p = atL xs e := by
  rw [Int.one_mul]
  exact Int.emod_eq_of_lt (h.at_bound e).1 (h.at_bound e).2
theorem Valid.isOne {p d : Int} {xs : List Tm} (h : Valid p d xs) : IsP p xs (fun e => 1 * atL xs e % p) := h.isP.congr fun e _ => (h.one e).symm
open Classical in
noncomputable def orB (p : Int) (d : Nat) (k : Int) (xs : List Tm) (os : List Int) : Bool := decide (orP p d k xs os)
open Classical in
noncomputable def nbB (p : Int) (d : Nat) (k : Int) (xs : List Tm) : Bool := decide (∀ i, i + 1 < d → nbP p d k xs i)
open Classical in
theorem nbB_iff {p : Int} {d : Nat} {k : Int} {xs : List Tm} : nbB p d k xs = true ↔ ∀ i, i + 1 < d → nbP p d k xs i := by unfold nbB; rw [decide_eq_true_iff]
open Classical in
theorem orB_iff {p : Int} {d : Nat} {k : Int} {xs : List Tm} {os : List Int} : orB p d k xs os = true ↔ orP p d k xs os := by unfold orB; rw [decide_eq_true_iff]
/-- All orders leave what the neighbours' exchanges leave. -/
theorem all_sym {p : Int} {d : Nat} {xs : List Tm} (hV : Valid p d xs) : (ordL d (d ^ d)).all (orB p d 1 xs) = nbB p d 1 xs := by
  have hd : 1 ≤ d ∧ d ≤ 3 := by have := hV.d1; have := hV.d3; omega
  rw [Bool.eq_iff_iff, nbB_iff, List.all_eq_true]
  have h := orders_nb hd (atL xs) (fun x => x) (fun _ => rfl)
  simp only [ite_self] at h
  simp only [orB_iff]
  unfold orP nbP
  simp only [hV.one]
  exact h
theorem valid_inP {p : Int} {d : Nat} {xs : List Tm} (h : isPolyB p d xs = true) : InP d xs := by
  unfold isPolyB at h
  simp only [Bool.and_eq_true, decide_eq_true_eq] at h
  obtain ⟨_, ⟨h1, h3⟩, ht⟩ := h
  have hc : chain p d none xs = true := by simpa [tailB, prevT] using ht
  obtain ⟨_, _, a3⟩ := chain_asc p d xs none hc
  intro t ht
  have hk := a3 t ht
  unfold termOk expsOk tailOk at hk
  simp only [Bool.and_eq_true, Bool.or_eq_true, decide_eq_true_eq, beq_iff_eq] at hk
  unfold inD tmE
  refine ⟨fun h => ?_, fun h => ?_⟩ <;> simp only [] <;> omega
/-- Whether a polynomial is symmetric. -/
noncomputable def symO (p d : Int) (xs : List Tm) : Bool := if isPolyB p d xs then nbB p d.toNat 1 xs else false

set_option maxRecDepth 8000 in
set_option maxHeartbeats 4000000 in
theorem ssym8 (p d : Int) (v : Value) (ts : List Tm) (w : World) (hl : ts.length ≤ 1048576) (hS : SliceT w v ts) (hby : ∀ t ∈ ts, tmByte t) :
    Calls Try.prog 26 #[.agg #[.int .i64 p, .int .i64 d, v]] w fun e w' => e = .returned (.tuple #[.bool (symO p d ts), .int .i64 (polyC p d ts)]) ∧ Below w.heap.size w w' := by
  obtain ⟨a, cap, rfl, _⟩ := id hS
  obtain ⟨W, hW, hbW, ⟨hWs1, hWs2⟩, rx⟩ := newbox w p d (.slice a ts.length cap)
  have hSW := hS.below hbW
  obtain ⟨⟨x0, x1, x2⟩, _⟩ := poly3 rx
  have HSI := Lib.hid (specIs_any p d _ ts W hl hSW hby)
  cases hB : isPolyB p d ts
  · have HO := Lib.hid (show symO p d ts = false by unfold symO; rw [hB]; rfl)
    have HC := Lib.hid (show polyC p d ts = 1 by unfold polyC; rw [hB]; rfl)
    rw [hB] at HSI
    clear hB hby
    go_enter Try.func26, Try.ntmps26
    go_wp2_with fail
    rw [← hW]
    clear hW
    ((with_reducible refine HSI.out.mono ?_); rintro e w1 ⟨rfl, hb1⟩)
    go_wp2_with fail
    go_ret2
    exact ⟨by rw [HO.out, HC.out]; rfl, hbW.trans (hb1.mono hbW.size)⟩
  · have hV := valid_of hB hby
    obtain ⟨m, rfl⟩ := Int.eq_ofNat_of_zero_le (show 0 ≤ d by have := hV.d1; omega)
    have HO := Lib.hid (show symO p m ts = nbB p m 1 ts by unfold symO; rw [hB, if_pos rfl, Int.toNat_natCast])
    have HC := Lib.hid (show polyC p m ts = 0 by unfold polyC; rw [hB]; rfl)
    have HIN := Lib.hid (valid_inP hB)
    rw [hB] at HSI
    have hp1 : (1 : Int) < p := by have := hV.p2; omega
    obtain ⟨B, hBn⟩ : ∃ B, nbB p m 1 ts = B := ⟨_, rfl⟩
    have HNB : Hid (B = true ↔ ∀ i, i + 1 < m → nbP p m 1 ts i) := Lib.hid (by rw [← hBn]; exact nbB_iff)
    rw [hBn] at HO
    clear hB hby hBn
    have HV := Lib.hid hV
    clear hV
    go_enter Try.func26, Try.ntmps26
    go_wp2_with fail
    rw [← hW]
    clear hW
    ((with_reducible refine HSI.out.mono ?_); rintro e w1 ⟨rfl, hb1⟩)
    have rx1 := rowIs_below rx hb1 rx.lt
    clear x0 x1 x2
    obtain ⟨⟨x0, x1, x2⟩, _⟩ := poly3 rx1
    have hS1 := hSW.below hb1
    go_wp2_with fail
    ((with_reducible refine (ssigned p m 1 _ ts w1 B hS1 HV.out HIN.out (by decide) hp1 HNB.out).mono ?_); rintro e w2 ⟨rfl, hb2⟩)
    go_wp2_with fail
    go_ret2
    exact ⟨by rw [HO.out, HC.out]; rfl, hbW.trans ((hb1.trans (hb2.mono hb1.size)).mono hbW.size)⟩

/-- The box of the polynomial that a closure reads. -/
structure BoxX (w : World) (bx : Nat) (p : Int) (d : Nat) (v : Value) (xs : List Tm) : Prop where
  row : w.rowIs bx 36 3 (polyF p d v)
  sl : SliceT w v xs
  val : Valid p d xs
  inp : InP d xs
theorem BoxX.below {w w' : World} {bx : Nat} {p : Int} {d : Nat} {v : Value} {xs : List Tm} (h : BoxX w bx p d v xs) (hb : Below w.heap.size w w') : BoxX w' bx p d v xs :=
  ⟨rowIs_below h.row hb h.row.lt, h.sl.below hb, h.val, h.inp⟩
def isOrd (d : Nat) (os : List Int) : Prop := os ∈ ordL d (d ^ d)

set_option maxRecDepth 8000 in
set_option maxHeartbeats 4000000 in
theorem imoves (bx : Nat) (p : Int) (d : Nat) (v : Value) (xs : List Tm) (os : List Int) (vo : Value) (w : World) (hJ : BoxX w bx p d v xs) (hok : isOrd d os) (hS : Sl w vo os) :
    Calls Try.prog 67 #[vo, .pointer (some ⟨bx, 0, none⟩)] w fun e w' => e = .returned (.bool (!orB p d 1 xs os)) ∧ Below w.heap.size w w' := by
  have hxl : xs.length ≤ 1048576 := Nat.le_trans hJ.val.isP.len (by decide)
  obtain ⟨a, cap, rfl, _⟩ := id hJ.sl
  have KK := Lib.hid (fun w' (h : Below w.heap.size w w') => show (w'.cell? ⟨bx, 0, none⟩ = some (.int .i64 p) ∧ w'.cell? ⟨bx, 1, none⟩ = some (.int .i64 d) ∧ w'.cell? ⟨bx, 2, none⟩ = some (.slice a xs.length cap)) from
    (poly3 (hJ.below h).row).1)
  have HV := Lib.hid hJ.val
  have HIN := Lib.hid hJ.inp
  have HSL := Lib.hid (fun w' (h : Below w.heap.size w w') => hJ.sl.below h)
  have hb0 : Below w.heap.size w w.drew := (Below.same w).drew
  have hSd := hS.below hb0
  obtain ⟨x0, x1, x2⟩ := KK.out _ (Below.same w)
  have HOK := Lib.hid hok
  have HEX := Lib.hid (iexch p d (.slice a xs.length cap) vo xs os w.drew HV.out HIN.out HOK.out (HSL.out _ hb0) hSd)
  clear hJ hok hS hSd
  go_enter Try.func67, Try.ntmps67
  go_wp2_with fail
  go_region_held3 (fun w' => (w'.cell? ⟨bx, 0, none⟩ = some (.int .i64 p) ∧ w'.cell? ⟨bx, 1, none⟩ = some (.int .i64 d) ∧ w'.cell? ⟨bx, 2, none⟩ = some (.slice a xs.length cap)))
    (first | with_reducible exact KK.out _ hb0 | with_reducible exact KK.out _ hb5 | with_reducible exact KK.out _ hb7)
    (first
    | (go_at_call 69; (with_reducible refine HEX.out.mono ?_); rintro e w5 ⟨v5, L5, rfl, ho5, hI5, hbb5⟩; have hb5 := hb0.trans (hbb5.mono hb0.size); have hl5 : L5.length ≤ 1048576 := Nat.le_trans hI5.len (by decide))
    | (go_at_call 68; (with_reducible refine (isame p d p d _ _ L5 xs _ hl5 hxl (OwnP.slice ho5) (HSL.out _ hb5)).mono ?_); rintro e w7 ⟨rfl, hbb7⟩; have hb7 := hb5.trans (hbb7.mono hb5.size)))
  all_goals
    have HQ : Hid (sameT L5 xs = orB p d 1 xs os) := Lib.hid (by
      rw [Bool.eq_iff_iff, orB_iff]
      exact or_same HV.out HIN.out HOK.out hI5 HV.out.isOne)
    go_wp2_with fail
    go_ret
    exact ⟨by rw [← HQ.out]; rfl, hb7⟩

set_option maxHeartbeats 1000000 in
theorem syidx_some (bx : Nat) (p : Int) (d : Nat) (xv : Value) (xs : List Tm) (b off cap : Nat) (G : List (List Int)) (w : World) (hJ : BoxX w bx p d xv xs) (hbb : b < w.heap.size) (hl : G.length ≤ 1048576) (hok : ∀ g ∈ G, isOrd d g) (hT : RowsW w b off G) (j : Nat) (hj : j < G.length) (hn : (orB p d 1 xs) G[j] = false) (hp : ∀ (i : Nat) (h : i < G.length), i < j → (orB p d 1 xs) G[i] = true) :
    Calls Try.prog 111 #[.slice (some ⟨b, off, none⟩) G.length cap, .func (.func 67) #[] #[.pointer (some ⟨bx, 0, none⟩)]] w fun e w' => e = .returned (.int .i64 j) ∧ Below w.heap.size w w' := by
  have HN := Lib.hid hn
  have HP := Lib.hid hp
  have HOK := Lib.hid hok
  have HT := Lib.hid hT
  have HJ := Lib.hid (fun (w' : World) (hb : Below w.heap.size w w') => (by exact hJ.below hb : BoxX w' bx p d xv xs))
  clear hn hp hok hT hJ
  go_enter Try.func111, Try.ntmps111
  go_wp2
  go_loopw [8] (fun i wr => ∃ k : Nat, k ≤ j ∧ i = .int .i64 k ∧ Below w.heap.size w wr) (fun i _ => G.length - (intOf i).toNat)
  case atStart => exact ⟨0, by omega, rfl, Below.refl _ _⟩
  case round =>
    obtain ⟨k, hk, rfl, hbr⟩ := hrel
    have hlt : k < G.length := by omega
    have hlt' : (k : Int) < (G.length : Int) := by omega
    obtain ⟨u, c0, s0⟩ := (HT.out.below hbr hbb) k hlt
    have HC := Lib.hid (imoves bx p d xv xs G[k] u wr (HJ.out wr hbr) (HOK.out _ (List.getElem_mem hlt)) s0)
    clear s0
    by_cases e : k = j
    · subst e
      go_wp2_with fail
      ((with_reducible refine HC.out.mono ?_); rintro e w1 ⟨rfl, hb1⟩)
      have hend := hbr.trans (hb1.mono hbr.size)
      rw [HN.out]
      go_wp2
      go_ret
      exact ⟨rfl, hend⟩
    · have h0 := Lib.hid (HP.out k hlt (by omega))
      go_wp2_with fail
      ((with_reducible refine HC.out.mono ?_); rintro e w1 ⟨rfl, hb1⟩)
      have hend := hbr.trans (hb1.mono hbr.size)
      rw [h0.out]
      go_wp2
      go_roundw
      case rel => exact ⟨k + 1, by omega, by go_num, hend⟩
      case measure => simp [intOf]; omega

set_option maxHeartbeats 1000000 in
theorem syidx_none (bx : Nat) (p : Int) (d : Nat) (xv : Value) (xs : List Tm) (a : Option Addr) (cap : Nat) (G : List (List Int)) (w : World) (hJ : BoxX w bx p d xv xs) (hl : G.length ≤ 1048576) (hok : ∀ g ∈ G, isOrd d g) (hS : G = [] ∨ ∃ b off, a = some ⟨b, off, none⟩ ∧ b < w.heap.size ∧ RowsW w b off G) (hp : ∀ (i : Nat) (h : i < G.length), (orB p d 1 xs) G[i] = true) :
    Calls Try.prog 111 #[.slice a G.length cap, .func (.func 67) #[] #[.pointer (some ⟨bx, 0, none⟩)]] w fun e w' => e = .returned (.int .i64 (-1)) ∧ Below w.heap.size w w' := by
  have HP := Lib.hid hp
  have HOK := Lib.hid hok
  have HJ := Lib.hid (fun (w' : World) (hb : Below w.heap.size w w') => (by exact hJ.below hb : BoxX w' bx p d xv xs))
  clear hp hok hJ
  go_enter Try.func111, Try.ntmps111
  go_wp2
  go_loopw [8] (fun i wr => ∃ k : Nat, k ≤ G.length ∧ i = .int .i64 k ∧ Below w.heap.size w wr) (fun i _ => G.length - (intOf i).toNat)
  case atStart => exact ⟨0, by omega, rfl, Below.refl _ _⟩
  case round =>
    obtain ⟨k, hk, rfl, hbr⟩ := hrel
    by_cases hlt : k < G.length
    · have hlt' : (k : Int) < (G.length : Int) := by omega
      obtain ⟨b, off, rfl, hbb, hT⟩ : ∃ b off, a = some ⟨b, off, none⟩ ∧ b < w.heap.size ∧ RowsW w b off G := by
        rcases hS with rfl | h
        · simp at hlt
        · exact h
      obtain ⟨u, c0, s0⟩ := (hT.below hbr hbb) k hlt
      have HC := Lib.hid (imoves bx p d xv xs G[k] u wr (HJ.out wr hbr) (HOK.out _ (List.getElem_mem hlt)) s0)
      have h0 := Lib.hid (HP.out k hlt)
      clear s0 hT
      go_wp2_with fail
      ((with_reducible refine HC.out.mono ?_); rintro e w1 ⟨rfl, hb1⟩)
      have hend := hbr.trans (hb1.mono hbr.size)
      rw [h0.out]
      go_wp2
      go_roundw
      case rel => exact ⟨k + 1, by omega, by go_num, hend⟩
      case measure => simp [intOf]; omega
    · obtain rfl : k = G.length := by omega
      go_wp2
      go_ret
      exact ⟨rfl, hbr⟩

theorem sycontains (bx : Nat) (p : Int) (d : Nat) (xv : Value) (xs : List Tm) (v : Value) (G : List (List Int)) (w : World) (hJ : BoxX w bx p d xv xs) (hl : G.length ≤ 1048576) (hok : ∀ g ∈ G, isOrd d g) (hS : SlR w v G) :
    Calls Try.prog 70 #[v, .func (.func 67) #[] #[.pointer (some ⟨bx, 0, none⟩)]] w fun e w' => e = .returned (.bool (!G.all (orB p d 1 xs))) ∧ Below w.heap.size w w' := by
  obtain ⟨a, cap, rfl, hc⟩ := hS
  cases h : G.all (orB p d 1 xs)
  · obtain ⟨j, hj, hn, hp⟩ := first_outR (orB p d 1 xs) G h
    obtain ⟨b, off, rfl, hbb, hT⟩ : ∃ b off, a = some ⟨b, off, none⟩ ∧ b < w.heap.size ∧ RowsW w b off G := by
      rcases hc with rfl | h
      · simp at hj
      · exact h
    have HC := Lib.hid (syidx_some bx p d xv xs b off cap G w hJ hbb hl hok hT j hj hn hp)
    clear h hc hn hp hok hT hJ
    go_enter Try.func70, Try.ntmps70
    go_wp2_with fail
    ((with_reducible refine HC.out.mono ?_); rintro e w1 ⟨rfl, hb1⟩)
    go_wp2
    go_ret
    exact ⟨rfl, hb1⟩
  · have hp : ∀ (i : Nat) (hi : i < G.length), (orB p d 1 xs) G[i] = true := fun i hi => List.all_eq_true.1 h _ (List.getElem_mem hi)
    have HC := Lib.hid (syidx_none bx p d xv xs a cap G w hJ hl hok hc hp)
    clear h hp hok hc hJ
    go_enter Try.func70, Try.ntmps70
    go_wp2_with fail
    ((with_reducible refine HC.out.mono ?_); rintro e w1 ⟨rfl, hb1⟩)
    go_wp2
    go_ret
    exact ⟨rfl, hb1⟩

set_option maxRecDepth 8000 in
set_option maxHeartbeats 4000000 in
theorem isym8 (p d : Int) (v : Value) (ts : List Tm) (w : World) (hl : ts.length ≤ 1048576) (hS : SliceT w v ts) (hby : ∀ t ∈ ts, tmByte t) :
    Calls Try.prog 28 #[.agg #[.int .i64 p, .int .i64 d, v]] w fun e w' => e = .returned (.tuple #[.bool (symO p d ts), .int .i64 (polyC p d ts)]) ∧ Below w.heap.size w w' := by
  obtain ⟨a, cap, rfl, _⟩ := id hS
  obtain ⟨W, hW, hbW, ⟨hWs1, hWs2⟩, rx⟩ := newbox w p d (.slice a ts.length cap)
  have hSW := hS.below hbW
  obtain ⟨⟨x0, x1, x2⟩, _⟩ := poly3 rx
  have HSI := Lib.hid (isPoly_any p d _ ts W hl hSW hby)
  cases hB : isPolyB p d ts
  · have HO := Lib.hid (show symO p d ts = false by unfold symO; rw [hB]; rfl)
    have HC := Lib.hid (show polyC p d ts = 1 by unfold polyC; rw [hB]; rfl)
    rw [hB] at HSI
    clear hB hby
    go_enter Try.func28, Try.ntmps28
    go_wp2_with fail
    rw [← hW]
    clear hW
    ((with_reducible refine HSI.out.mono ?_); rintro e w1 ⟨rfl, hb1⟩)
    go_wp2_with fail
    go_ret2
    exact ⟨by rw [HO.out, HC.out]; rfl, hbW.trans (hb1.mono hbW.size)⟩
  · have hV := valid_of hB hby
    obtain ⟨m, rfl⟩ := Int.eq_ofNat_of_zero_le (show 0 ≤ d by have := hV.d1; omega)
    have HO := Lib.hid (show symO p m ts = nbB p m 1 ts by unfold symO; rw [hB, if_pos rfl, Int.toNat_natCast])
    have HC := Lib.hid (show polyC p m ts = 0 by unfold polyC; rw [hB]; rfl)
    have HIN := Lib.hid (valid_inP hB)
    rw [hB] at HSI
    have hm : 1 ≤ m ∧ m ≤ 3 := by have := hV.d1; have := hV.d3; omega
    have HAL := Lib.hid (all_sym hV)
    have HOL : Hid ((ordL m (m ^ m)).length ≤ 1048576) := Lib.hid (Nat.le_trans (ordL_len m (m ^ m)) (Nat.le_trans (pow_le27 hm (Nat.le_refl _)) (by decide)))
    clear hB hby
    have HV := Lib.hid hV
    clear hV
    go_enter Try.func28, Try.ntmps28
    go_wp2_with fail
    rw [← hW]
    clear hW
    ((with_reducible refine HSI.out.mono ?_); rintro e w1 ⟨rfl, hb1⟩)
    have rx1 := rowIs_below rx hb1 rx.lt
    clear x0 x1 x2
    obtain ⟨⟨x0, x1, x2⟩, _⟩ := poly3 rx1
    have hS1 := hSW.below hb1
    have hJ1 : BoxX w1 w.heap.size p m (.slice a ts.length cap) ts := ⟨rx1, hS1, HV.out, HIN.out⟩
    go_wp2_with fail
    ((with_reducible refine (iorders m w1 hm).mono ?_); rintro e w2 ⟨v2, rfl, hO2, hb2⟩)
    have hJ2 := hJ1.below hb2
    have HCO := Lib.hid (sycontains w.heap.size p m _ ts v2 (ordL m (m ^ m)) w2 hJ2 HOL.out (fun g hg => hg) hO2.slR)
    rw [HAL.out] at HCO
    obtain ⟨a4, c4, rfl⟩ := hO2.shape
    clear x0 x1 x2
    go_wp2_with fail
    ((with_reducible refine HCO.out.mono ?_); rintro e w3 ⟨rfl, hb3⟩)
    go_wp2_with fail
    go_ret2
    exact ⟨by rw [HO.out, HC.out]; simp, hbW.trans ((hb1.trans ((hb2.trans (hb3.mono hb2.size)).mono hb1.size)).mono hbW.size)⟩
end Go.Proofs.Ytphgpadpffigjaa
