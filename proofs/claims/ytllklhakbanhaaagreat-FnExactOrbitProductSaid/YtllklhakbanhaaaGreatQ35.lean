/-
  WALKS: actions at a polynomial, 'slices.ContainsFunc' at actions, 'impl.IsInvariant'. Conditions: as each theorem states.
-/
import Derived.Test.YtllklhakbanhaaaGreatQ33
import Derived.Test.YtllklhakbanhaaaGreatQ34
import Derived.Test.YtllklhakbanhaaaGreatQ10
namespace Go.Proofs.YtllklhakbanhaaaGreat
open Go.RowKit Go.Sort Go.Maps EchM

/-- Whether a matrix leaves a polynomial. -/
noncomputable def fixB (p : Int) (m : Nat) (xs : List Tm) (x : Nat → Nat → Int) : Bool := sameT (ledF p m xs x) xs
theorem GrpP.act {p : Int} {m : Nat} {L : List (Nat → Nat → Int)} {xs : List Tm} (h : GrpP p m L xs) {x : Nat → Nat → Int} (hx : x ∈ L) (B : Nat) (v : Value) (w : World) (hA : ActW w B p m x) (hS : SliceT w v xs) :
    Calls Tryz.prog 120 #[.agg #[.int .i64 p, .int .i64 (m : Int), v], .pointer (some ⟨B, 0, none⟩)] w fun e w' =>
      ∃ v', e = .returned (.agg #[.int .i64 p, .int .i64 (m : Int), v']) ∧ OwnP w' w.heap.size v' (ledF p m xs x) ∧ Below w.heap.size w w' :=
  iactC p m x B v xs (ledF p m xs x) w (h.mat x hx) hA (Nat.le_trans h.xlen (by omega)) hS h.byte h.poly (h.led hx)

set_option maxRecDepth 8000 in
set_option maxHeartbeats 4000000 in
theorem iinvf {p : Int} {m : Nat} {L : List (Nat → Nat → Int)} {xs : List Tm} (h : GrpP p m L xs) {x : Nat → Nat → Int} (hx : x ∈ L) (B bf : Nat) (v : Value) (w : World) (hA : ActW w B p m x) (rf : w.rowIs bf 39 3 (polyF p m v)) (hS : SliceT w v xs) :
    Calls Tryz.prog 60 #[actV B, .pointer (some ⟨bf, 0, none⟩)] w fun e w' => e = .returned (.bool (!fixB p m xs x)) ∧ Below w.heap.size w w' := by
  have hl1 : (ledF p m xs x).length ≤ 1048576 := Nat.le_trans (h.len hx) (by omega)
  have hl2 : xs.length ≤ 1048576 := Nat.le_trans h.xlen (by omega)
  have HA := Lib.hid (fun w' v' h1 h2 => h.act hx B v' w' h1 h2)
  have HF := Lib.hid (show fixB p m xs x = sameT (ledF p m xs x) xs from rfl)
  have hAr : ActW w.drew B p m x := hA.below (Below.refl _ _).drew
  have hSr : SliceT w.drew v xs := hS.below (Below.refl _ _).drew
  obtain ⟨⟨p0, p1, p2⟩, _⟩ := poly3 rf
  have P0 : w.drew.cell? ⟨bf, 0, none⟩ = some (.int .i64 p) := p0
  have P1 : w.drew.cell? ⟨bf, 1, none⟩ = some (.int .i64 (m : Int)) := p1
  have P2 : w.drew.cell? ⟨bf, 2, none⟩ = some v := p2
  have hz : bf < w.drew.heap.size := rf.lt
  generalize ledF p m xs x = D at *
  obtain ⟨ua, ucap, rfl, _⟩ := id hS
  clear h hA
  go_enter Tryz.func60, Tryz.ntmps60
  go_upto_region 1 with fail
  go_region_with (first
    | (go_at_call 120; (with_reducible refine (HA.out _ _ hAr hSr).mono ?_); rintro e w2 ⟨v2, rfl, own2, hb2⟩; have Q0 := (hb2.cell (p := ⟨bf, 0, none⟩) hz).trans P0; have Q1 := (hb2.cell (p := ⟨bf, 1, none⟩) hz).trans P1; have Q2 := (hb2.cell (p := ⟨bf, 2, none⟩) hz).trans P2)
    | (go_at_call 61; (with_reducible refine (isame p m p m _ _ D xs _ hl1 hl2 (OwnP.slice own2) (hSr.below hb2)).mono ?_); rintro e w3 ⟨rfl, hb3⟩))
  all_goals
    go_wp2_with fail
    go_ret
    exact ⟨by rw [HF.out]; rfl, (Below.refl _ _).drew.trans (hb2.trans (hb3.mono hb2.size))⟩

/-- What a function value owes at the actions. -/
def actJ (w : World) (fn : Nat) (c : Value) (p : Int) (m : Nat) (L : List (Nat → Nat → Int)) (f : (Nat → Nat → Int) → Bool) : Prop :=
  ∀ w' B x, Below w.heap.size w w' → x ∈ L → ActW w' B p m x → Calls Tryz.prog fn #[actV B, c] w' fun e w'' => e = .returned (.bool (!f x)) ∧ Below w'.heap.size w' w''

set_option maxHeartbeats 1000000 in
theorem iaidx (c : Value) (p : Int) (m : Nat) (L : List (Nat → Nat → Int)) (f : (Nat → Nat → Int) → Bool) (v : Value) (w : World) (hl : L.length ≤ 1048576) (hA : SlA w v p m L) (hJ : actJ w 60 c p m L f) :
    Calls Tryz.prog 91 #[v, .func (.func 60) #[] #[c]] w fun e w' => ∃ r : Int, e = .returned (.int .i64 r) ∧ (decide (0 ≤ r) = !L.all f) ∧ Below w.heap.size w w' := by
  obtain ⟨gb, cap, rfl, hlt, hAc⟩ := id hA
  have HJ := Lib.hid hJ
  have HA := Lib.hid (fun w' (hb : Below w.heap.size w w') => (fun k hk => by
    obtain ⟨B, hc, hB⟩ := hAc k hk
    exact ⟨B, (hb.cell (p := ⟨gb, k, none⟩) hlt).trans hc, hB.below hb⟩ : ∀ (k : Nat) (h : k < L.length), ∃ B, w'.cell? ⟨gb, k, none⟩ = some (actV B) ∧ ActW w' B p m L[k]))
  clear hA hAc hJ
  go_enter Tryz.func91, Tryz.ntmps91
  go_wp2
  go_loopw [8] (fun i wr => ∃ k : Nat, k ≤ L.length ∧ i = .int .i64 k ∧ Hid ((L.take k).all f = true) ∧ Below w.heap.size w wr) (fun i _ => L.length - (intOf i).toNat)
  case atStart => exact ⟨0, by omega, rfl, Lib.hid (by simp), Below.refl _ _⟩
  case round =>
    obtain ⟨k, hk, rfl, HU, hbr⟩ := hrel
    by_cases hlt : k < L.length
    · have hlt' : (k : Int) < (L.length : Int) := by omega
      obtain ⟨B, c0, hB⟩ := HA.out wr hbr k hlt
      have HC := Lib.hid (HJ.out wr B L[k] hbr (List.getElem_mem hlt) hB)
      have HS : Hid ((L.take (k + 1)).all f = f L[k]) := Lib.hid (by rw [List.take_succ_eq_append_getElem hlt, List.all_append, HU.out]; simp)
      have HM := Lib.hid (List.getElem_mem hlt)
      generalize L[k] = x at *
      clear hB
      cases hf : f x
      · have HF : Hid (L.all f = false) := Lib.hid (by
          cases hq : L.all f
          · rfl
          · exact absurd (List.all_eq_true.1 hq x HM.out) (by rw [hf]; simp))
        rw [hf] at HC
        clear hf
        go_wp2_with fail
        ((with_reducible refine HC.out.mono ?_); rintro e w1 ⟨rfl, hb1⟩)
        have hend := hbr.trans (hb1.mono hbr.size)
        go_wp2
        go_ret
        exact ⟨_, rfl, by rw [HF.out]; simp, hend⟩
      · have HN : Hid ((L.take (k + 1)).all f = true) := Lib.hid (HS.out.trans hf)
        rw [hf] at HC
        clear hf
        go_wp2_with fail
        ((with_reducible refine HC.out.mono ?_); rintro e w1 ⟨rfl, hb1⟩)
        have hend := hbr.trans (hb1.mono hbr.size)
        go_wp2
        go_roundw
        case rel => exact ⟨k + 1, by omega, by go_num, HN, hend⟩
        case measure => simp [intOf]; omega
    · obtain rfl : k = L.length := by omega
      have HF : Hid (L.all f = true) := Lib.hid (by have := HU.out; rwa [List.take_length] at this)
      go_wp2
      go_ret
      exact ⟨_, rfl, by rw [HF.out]; simp, hbr⟩

theorem iacont (c : Value) (p : Int) (m : Nat) (L : List (Nat → Nat → Int)) (f : (Nat → Nat → Int) → Bool) (v : Value) (w : World) (hl : L.length ≤ 1048576) (hA : SlA w v p m L) (hJ : actJ w 60 c p m L f) :
    Calls Tryz.prog 62 #[v, .func (.func 60) #[] #[c]] w fun e w' => e = .returned (.bool (!L.all f)) ∧ Below w.heap.size w w' := by
  have HC := Lib.hid (iaidx c p m L f v w hl hA hJ)
  clear hA hJ
  go_enter Tryz.func62, Tryz.ntmps62
  go_wp2_with fail
  ((with_reducible refine HC.out.mono ?_); rintro e w1 ⟨r, rfl, hr, hb1⟩)
  have HR := Lib.hid hr
  by_cases h0 : 0 ≤ r
  · have HR' : Hid ((!L.all f) = true) := Lib.hid (by rw [← HR.out]; simpa using h0)
    go_wp2_with fail
    go_ret
    exact ⟨by rw [HR'.out]; rfl, hb1⟩
  · have HR' : Hid ((!L.all f) = false) := Lib.hid (by rw [← HR.out]; simpa using h0)
    go_wp2_with fail
    go_ret
    exact ⟨by rw [HR'.out]; rfl, hb1⟩
end Go.Proofs.YtllklhakbanhaaaGreat
