/-
  WALKS: 'impl.IsInvariant', 'spec.l03Invariant', 'spec.IsInvariant'. Conditions: the numbers fit their kinds.
-/
import Derived.Test.YtllklhakbanhaaaGreatQ35
import Derived.Test.YtllklhakbanhaaaGreatQ38
namespace Go.Proofs.YtllklhakbanhaaaGreat
open Go.RowKit Go.Sort Go.Maps EchM

/-- Whether a polynomial is invariant. -/
noncomputable def invO (p n : Int) (L : List (Nat → Nat → Int)) (q d : Int) (xs : List Tm) : Bool := if actC p n L q d xs = 0 then L.all (fixB p n.toNat xs) else false

set_option maxRecDepth 8000 in
set_option maxHeartbeats 4000000 in
theorem iinv (p n : Int) (v : Value) (L : List (Nat → Nat → Int)) (q d : Int) (u : Value) (xs : List Tm) (w : World) (hl : L.length ≤ 1048576) (hS : SlM w v L) (hby : ∀ x ∈ L, Byt x) (hxl : xs.length ≤ 1048576) (hU : SliceT w u xs) (hxb : ∀ t ∈ xs, tmByte t) :
    Calls Tryz.prog 26 #[.agg #[.int .i64 p, .int .i64 n, v], .agg #[.int .i64 q, .int .i64 d, u]] w fun e w' => e = .returned (.tuple #[.bool (invO p n L q d xs), .int .i64 (actC p n L q d xs)]) ∧ Below w.heap.size w w' := by
  have hmf : ∀ (fn : Fn) (first cap : Array Value) (w : World), (Instr.makeFunc fn first cap).run Tryz.prog w = .ok (.func fn first cap) w := fun _ _ _ _ => rfl
  obtain ⟨W, hW, hbW, ⟨hWs1, hWs2⟩, rg, rx⟩ := boxGP w p n v q d u
  have hSW := hS.below hbW
  have hUW := hU.below hbW
  obtain ⟨a, cap, rfl, _⟩ := id hS
  obtain ⟨ua, uc, rfl, _⟩ := id hU
  obtain ⟨g0, g1, g2⟩ := gcells rg
  obtain ⟨⟨x0, x1, x2⟩, _⟩ := poly3 rx
  have HBY := Lib.hid hby
  have HXB := Lib.hid hxb
  clear hby hxb
  go_enter Tryz.func26, Tryz.ntmps26
  go_wp2_with fail
  rw [← hW]
  clear hW
  ((with_reducible refine (icode3 p n _ L q d _ xs W hl hSW HBY.out hxl hUW HXB.out).mono ?_); rintro e w1 ⟨rfl, hb1⟩)
  have hbw1 := hbW.trans (hb1.mono hbW.size)
  have rg1 := erow_below rg hb1 rg.lt
  have rx1 := erow_below rx hb1 rx.lt
  have hS1 := hSW.below hb1
  have hU1 := hUW.below hb1
  clear g0 g1 g2 x0 x1 x2 rg rx
  by_cases hc : actC p n L q d xs = 0
  case neg =>
    have HO := Lib.hid (show invO p n L q d xs = false by unfold invO; rw [if_neg hc])
    obtain ⟨C, hC⟩ : ∃ C, actC p n L q d xs = C := ⟨_, rfl⟩
    have HC := Lib.hid hC
    rw [hC] at hc ⊢
    have hc' : (C != 0) = true := by simpa using hc
    clear hc hC
    go_wp2_with fail
    go_ret2
    exact ⟨by rw [HO.out, HC.out]; rfl, hbw1⟩
  case pos =>
    obtain ⟨m, rfl, rfl, rfl, hG⟩ := grpP_of HBY.out HXB.out hc
    have HO := Lib.hid (show invO q m L q m xs = L.all (fixB q m xs) by unfold invO; rw [if_pos hc]; rfl)
    have HC := Lib.hid hc
    rw [hc]
    clear hc
    obtain ⟨g0, g1, g2⟩ := gcells rg1
    have HAC := Lib.hid (iactions q m (.slice a L.length cap) L w1 hl hS1 hG.mat)
    have HJ := Lib.hid (fun w2 (hb : Below w1.heap.size w1 w2) => (fun w' B x hb' hx hA => iinvf hG hx B (w.heap.size + 1) (.slice ua xs.length uc) w' hA (rowIs_below rx1 (hb.trans (hb'.mono hb.size)) rx1.lt) (hU1.below (hb.trans (hb'.mono hb.size))) : actJ w2 60 (.pointer (some ⟨w.heap.size + 1, 0, none⟩)) q m L (fixB q m xs)))
    clear hG
    go_wp2_with fail
    ((with_reducible refine HAC.out.mono ?_); rintro e w2 ⟨v2, rfl, hA2, hb2⟩)
    have hbw2 := hbw1.trans (hb2.mono hbw1.size)
    have HCT := Lib.hid (iacont (.pointer (some ⟨w.heap.size + 1, 0, none⟩)) q m L (fixB q m xs) v2 w2 hl hA2 (HJ.out w2 hb2))
    obtain ⟨E, hE⟩ : ∃ E, L.all (fixB q m xs) = E := ⟨_, rfl⟩
    rw [hE] at HCT HO
    obtain ⟨gb, gc, rfl, _⟩ := id hA2
    clear hE g0 g1 g2 HJ HAC hA2
    go_wp2_with fail
    ((with_reducible refine HCT.out.mono ?_); rintro e w3 ⟨rfl, hb3⟩)
    have hend := hbw2.trans (hb3.mono hbw2.size)
    go_wp2_with fail
    go_ret2
    exact ⟨by rw [HO.out, HC.out]; cases E <;> rfl, hend⟩

/-- What a matrix makes of a polynomial, by the model. -/
theorem GrpP.slead {p : Int} {m : Nat} {L : List (Nat → Nat → Int)} {xs : List Tm} (h : GrpP p m L xs) {x : Nat → Nat → Int} (hx : x ∈ L) (v : Value) (w : World) (hS : SliceT w v xs) :
    Calls Tryz.prog 89 #[(.agg #[.int .u8 (x 0 0), .int .u8 (x 0 1), .int .u8 (x 0 2), .int .u8 (x 1 0), .int .u8 (x 1 1), .int .u8 (x 1 2), .int .u8 (x 2 0), .int .u8 (x 2 1), .int .u8 (x 2 2)]), .agg #[.int .i64 p, .int .i64 (m : Int), v]] w fun e w' =>
      ∃ v', e = .returned (.agg #[.int .i64 p, .int .i64 (m : Int), v']) ∧ OwnP w' w.heap.size v' (ledF p m xs x) ∧ Below w.heap.size w w' :=
  slead3 p m x v xs (ledF p m xs x) w (h.mat x hx) hS h.byte h.poly (h.led hx)

set_option maxRecDepth 8000 in
set_option maxHeartbeats 8000000 in
theorem sinv0 {p : Int} {m : Nat} {L : List (Nat → Nat → Int)} {xs : List Tm} (h : GrpP p m L xs) (v u : Value) (w : World) (hS : SlM w v L) (hU : SliceT w u xs) :
    Calls Tryz.prog 59 #[.agg #[.int .i64 p, .int .i64 (m : Int), v], .agg #[.int .i64 p, .int .i64 (m : Int), u]] w fun e w' => e = .returned (.bool (L.all (fixB p m xs))) ∧ Below w.heap.size w w' := by
  obtain ⟨W, hW, hbW, ⟨hWs1, hWs2⟩, rg, rx⟩ := boxGP w p (m : Int) v p (m : Int) u
  have hl : L.length ≤ 1048576 := Nat.le_trans h.l48 (by omega)
  have hl2 : xs.length ≤ 1048576 := Nat.le_trans h.xlen (by omega)
  have hUW := hU.below hbW
  obtain ⟨a, cap, rfl, hc⟩ := id hS
  obtain ⟨ua, uc, rfl, _⟩ := id hU
  have HG := Lib.hid h
  clear h
  go_enter Tryz.func59, Tryz.ntmps59
  go_upto_region 1 with fail
  rw [← hW]
  clear hW
  go_wp2_with fail
  go_loopw [5] (fun i wr => ∃ k : Nat, k ≤ L.length ∧ i = .int .i64 k ∧ Hid ((L.take k).all (fixB p m xs) = true) ∧ Below W.heap.size W wr) (fun i _ => L.length - (intOf i).toNat)
  case atStart => exact ⟨0, by omega, rfl, Lib.hid (by simp), Below.refl _ _⟩
  case round =>
    obtain ⟨k, hk, rfl, HU, hbr⟩ := hrel
    have hbwr := hbW.trans (hbr.mono hbW.size)
    have rg1 := erow_below rg hbr rg.lt
    have rx1 := erow_below rx hbr rx.lt
    obtain ⟨g0, g1, g2⟩ := gcells rg1
    by_cases hlt : k < L.length
    · have hlt' : (k : Int) < (L.length : Int) := by omega
      obtain ⟨b, off, rfl, hbb, hT⟩ : ∃ b off, a = some ⟨b, off, none⟩ ∧ b < w.heap.size ∧ MatsW w b off L := by
        rcases hc with rfl | h
        · simp at hlt
        · exact h
      obtain ⟨⟨a0, a1, a2⟩, ⟨a3, a4, a5⟩, a6, a7, a8⟩ := (hT.below hbwr hbb).nine hlt
      obtain ⟨⟨p0, p1, p2⟩, _⟩ := poly3 rx1
      have HA := Lib.hid (fun w' v' h1 => HG.out.slead (List.getElem_mem hlt) v' w' h1)
      have hl1 : (ledF p m xs L[k]).length ≤ 1048576 := Nat.le_trans (HG.out.len (List.getElem_mem hlt)) (by omega)
      have HS : Hid ((L.take (k + 1)).all (fixB p m xs) = sameT (ledF p m xs L[k]) xs) := Lib.hid (by rw [List.take_succ_eq_append_getElem hlt, List.all_append, HU.out]; simp [fixB])
      have HF : Hid (sameT (ledF p m xs L[k]) xs = false → L.all (fixB p m xs) = false) := Lib.hid (fun hf => by
          cases hq : L.all (fixB p m xs)
          · rfl
          · exact absurd (List.all_eq_true.1 hq L[k] (List.getElem_mem hlt)) (by unfold fixB; rw [hf]; simp))
      generalize ledF p m xs L[k] = D at *
      generalize L[k] = x at *
      have hUr : SliceT wr.drew (.slice ua xs.length uc) xs := (hUW.below hbr).below (Below.refl _ _).drew
      have P0 : wr.drew.cell? ⟨w.heap.size + 1, 0, none⟩ = some (.int .i64 p) := p0
      have P1 : wr.drew.cell? ⟨w.heap.size + 1, 1, none⟩ = some (.int .i64 (m : Int)) := p1
      have P2 : wr.drew.cell? ⟨w.heap.size + 1, 2, none⟩ = some (.slice ua xs.length uc) := p2
      have hz : w.heap.size + 1 < wr.drew.heap.size := rx1.lt
      go_wp2_with fail
      go_cut [22] (fun s wx => s = .bool (!sameT D xs) ∧ Below wr.heap.size wr wx)
      case first =>
        go_region_with (first
          | (go_at_call 89; (with_reducible refine (HA.out _ _ hUr).mono ?_); rintro e w2 ⟨v2, rfl, own2, hb2⟩; have Q0 := (hb2.cell (p := ⟨w.heap.size + 1, 0, none⟩) hz).trans P0; have Q1 := (hb2.cell (p := ⟨w.heap.size + 1, 1, none⟩) hz).trans P1; have Q2 := (hb2.cell (p := ⟨w.heap.size + 1, 2, none⟩) hz).trans P2)
          | (go_at_call 64; (with_reducible refine (ssame p m p m _ _ D xs _ hl1 hl2 (OwnP.slice own2) (hUr.below hb2)).mono ?_); rintro e w3 ⟨rfl, hb3⟩))
        all_goals
          go_wp2_with fail
          go_meet
          exact ⟨rfl, (Below.refl _ _).drew.trans (hb2.trans (hb3.mono hb2.size))⟩
      case rest =>
        obtain ⟨rfl, hb3⟩ := hcut
        have hbr3 := hbr.trans (hb3.mono hbr.size)
        clear a0 a1 a2 a3 a4 a5 a6 a7 a8 g0 g1 g2 p0 p1 p2 P0 P1 P2 hz HA
        cases hf : sameT D xs
        · have HF' := Lib.hid (HF.out hf)
          clear hf HF HS
          go_wp2_with fail
          go_ret
          exact ⟨by rw [HF'.out]; rfl, hbW.trans (hbr3.mono hbW.size)⟩
        · have HN := Lib.hid (HS.out.trans hf)
          clear hf HF HS
          go_wp2_with fail
          go_roundw
          case rel => exact ⟨k + 1, by omega, by go_num, HN, hbr3⟩
          case measure => simp [intOf]; omega
    · obtain rfl : k = L.length := by omega
      have HF : Hid (L.all (fixB p m xs) = true) := Lib.hid (by have := HU.out; rwa [List.take_length] at this)
      go_wp2_with fail
      go_ret
      exact ⟨by rw [HF.out]; rfl, hbwr⟩

set_option maxRecDepth 8000 in
set_option maxHeartbeats 4000000 in
theorem sinv (p n : Int) (v : Value) (L : List (Nat → Nat → Int)) (q d : Int) (u : Value) (xs : List Tm) (w : World) (hl : L.length ≤ 1048576) (hS : SlM w v L) (hby : ∀ x ∈ L, Byt x) (hxl : xs.length ≤ 1048576) (hU : SliceT w u xs) (hxb : ∀ t ∈ xs, tmByte t) :
    Calls Tryz.prog 25 #[.agg #[.int .i64 p, .int .i64 n, v], .agg #[.int .i64 q, .int .i64 d, u]] w fun e w' => e = .returned (.tuple #[.bool (invO p n L q d xs), .int .i64 (actC p n L q d xs)]) ∧ Below w.heap.size w w' := by
  obtain ⟨W, hW, hbW, ⟨hWs1, hWs2⟩, rg, rx⟩ := boxGP w p n v q d u
  have hSW := hS.below hbW
  have hUW := hU.below hbW
  obtain ⟨a, cap, rfl, _⟩ := id hS
  obtain ⟨ua, uc, rfl, _⟩ := id hU
  obtain ⟨g0, g1, g2⟩ := gcells rg
  obtain ⟨⟨x0, x1, x2⟩, _⟩ := poly3 rx
  have HBY := Lib.hid hby
  have HXB := Lib.hid hxb
  clear hby hxb
  go_enter Tryz.func25, Tryz.ntmps25
  go_wp2_with fail
  rw [← hW]
  clear hW
  ((with_reducible refine (scode3 p n _ L q d _ xs W hl hSW HBY.out hxl hUW HXB.out).mono ?_); rintro e w1 ⟨rfl, hb1⟩)
  have hbw1 := hbW.trans (hb1.mono hbW.size)
  have rg1 := erow_below rg hb1 rg.lt
  have rx1 := erow_below rx hb1 rx.lt
  have hS1 := hSW.below hb1
  have hU1 := hUW.below hb1
  clear g0 g1 g2 x0 x1 x2 rg rx
  by_cases hc : actC p n L q d xs = 0
  case neg =>
    have HO := Lib.hid (show invO p n L q d xs = false by unfold invO; rw [if_neg hc])
    obtain ⟨C, hC⟩ : ∃ C, actC p n L q d xs = C := ⟨_, rfl⟩
    have HC := Lib.hid hC
    rw [hC] at hc ⊢
    have hc' : (C != 0) = true := by simpa using hc
    clear hc hC
    go_wp2_with fail
    go_ret2
    exact ⟨by rw [HO.out, HC.out]; rfl, hbw1⟩
  case pos =>
    obtain ⟨m, rfl, rfl, rfl, hG⟩ := grpP_of HBY.out HXB.out hc
    have HO := Lib.hid (show invO q m L q m xs = L.all (fixB q m xs) by unfold invO; rw [if_pos hc]; rfl)
    have HC := Lib.hid hc
    rw [hc]
    clear hc
    obtain ⟨g0, g1, g2⟩ := gcells rg1
    obtain ⟨⟨x0, x1, x2⟩, _⟩ := poly3 rx1
    have HAC := Lib.hid (sinv0 hG (.slice a L.length cap) (.slice ua xs.length uc) w1 hS1 hU1)
    clear hG
    go_wp2_with fail
    ((with_reducible refine HAC.out.mono ?_); rintro e w2 ⟨rfl, hb2⟩)
    have hend := hbw1.trans (hb2.mono hbw1.size)
    go_wp2_with fail
    go_ret2
    exact ⟨by rw [HO.out, HC.out]; rfl, hend⟩
end Go.Proofs.YtllklhakbanhaaaGreat
