/-
  A BOX of a polynomial holds no terms. Conditions: as each theorem states.. Conditions: as each theorem states.
  BOXES of polynomials, filled; what lies beside. Conditions: as each theorem states.. Conditions: as each theorem states.
  RESULTS that are a polynomial and a code; a box filled. Conditions: as each theorem states.. Conditions: as each theorem states.
  WALKS: 'spec.l05Product'. Conditions: as the theorem states.
  WALKS: 'spec.ProductOfList'. Conditions: the numbers fit their kinds.
  WALKS: 'impl.areExponents'. Conditions: as each theorem states.
-/
import Derived.Test.YtbhgbifliihlbaaR02
import Derived.Test.YtbhgbifliihlbaaR05
import Derived.Test.YtbhgbifliihlbaaR08
import Derived.Deep.DeepCutAuto
import Derived.Deep.RegionHeld3
import Derived.Test.YtbhgbifliihlbaaR10
import Derived.Test.YtbhgbifliihlbaaR11
import Derived.Test.YtbhgbifliihlbaaR13
namespace Go.Proofs.Ytbhgbifliihlbaa
open Go.RowKit Go.Sort Go.Maps

theorem cell_beyond {w : World} {b n i : Nat} {t : TypeId} {f : Nat → Value} (h : w.rowIs b t n f) (hi : n ≤ i) : w.cell? ⟨b, i, none⟩ = none := by
  obtain ⟨c, hc, hn, _⟩ := h
  simp [World.cell?, hc]
  omega
/-- A box of a polynomial holds no terms. -/
theorem SliceT.setBox {w : World} {v u : Value} {ts : List Tm} {q i : Nat} {t : TypeId} {F : Nat → Value} (h : SliceT w v ts) (hr : w.rowIs q t 3 F) : SliceT (w.setCell ⟨q, i, none⟩ u) v ts := by
  obtain ⟨a, cap, hv, h | ⟨b1, off, ha, hlt, hT⟩⟩ := h
  · exact ⟨a, cap, hv, .inl h⟩
  by_cases hn : ts = []
  · exact ⟨a, cap, hv, .inl hn⟩
  have hne : b1 ≠ q := fun e => by
    have h0 := (hT 0 (List.length_pos_iff.2 hn)).2.2.2
    rw [e, cell_beyond hr (by omega)] at h0
    simp at h0
  have q1 : ∀ o, (w.setCell ⟨q, i, none⟩ u).cell? ⟨b1, o, none⟩ = w.cell? ⟨b1, o, none⟩ := fun o => by
    unfold World.cell?
    rw [Below.heap_setCell _ ⟨q, i, none⟩ u b1 hne]
  refine ⟨a, cap, hv, .inr ⟨b1, off, ha, by rw [World.size_setCell]; exact hlt, fun k hk => ?_⟩⟩
  obtain ⟨c0, c1, c2, c3⟩ := hT k hk
  exact ⟨(q1 _).trans c0, (q1 _).trans c1, (q1 _).trans c2, (q1 _).trans c3⟩
end Go.Proofs.Ytbhgbifliihlbaa
namespace Go.Proofs.Ytbhgbifliihlbaa
open Go.RowKit Go.Sort Go.Maps

theorem rep_own1 {w : World} {base b i N : Nat} {f : Nat → Value} {v x : Value} {S : List Tm} (h : OwnP w base v S) (hr : w.rowIs b 40 N f) : OwnP (w.setCell ⟨b, i, none⟩ x) base v S :=
  h.kept (row := some b) ⟨rfl, rfl, rfl, by rw [World.size_setCell]; exact Nat.le_refl _, fun k hk hne => Below.heap_setCell w ⟨b, i, none⟩ x k (fun e => hne (by rw [e]))⟩ (own_ne hr h (by decide))
theorem rep_own3 {w : World} {base b i0 i1 i2 N : Nat} {f : Nat → Value} {v x0 x1 x2 : Value} {S : List Tm} (h : OwnP w base v S) (hr : w.rowIs b 40 N f) : OwnP (((w.setCell ⟨b, i0, none⟩ x0).setCell ⟨b, i1, none⟩ x1).setCell ⟨b, i2, none⟩ x2) base v S :=
  rep_own1 (rep_own1 (rep_own1 h hr) (hr.set i0 x0)) ((hr.set i0 x0).set i1 x1)
theorem setB3 {w : World} {B0 : Nat} {F : Nat → Value} {v : Value} {S : List Tm} (hR : w.rowIs B0 40 3 F) (hs : SliceT w v S) (P Q : Int) :
    (((w.setCell ⟨B0, 0, none⟩ (.int .i64 P)).setCell ⟨B0, 1, none⟩ (.int .i64 Q)).setCell ⟨B0, 2, none⟩ v).rowIs B0 40 3 (polyF P Q v) ∧
    SliceT (((w.setCell ⟨B0, 0, none⟩ (.int .i64 P)).setCell ⟨B0, 1, none⟩ (.int .i64 Q)).setCell ⟨B0, 2, none⟩ v) v S := by
  have R1 := hR.set 0 (.int .i64 P)
  have R2 := R1.set 1 (.int .i64 Q)
  refine ⟨(R2.set 2 v).congr fun i hi => ?_, ((hs.setBox hR).setBox R1).setBox R2⟩
  match i, hi with
  | 0, _ => rfl
  | 1, _ => rfl
  | 2, _ => rfl
theorem setO3 {w : World} {B0 B1 n : Nat} {t : TypeId} {F : Nat → Value} (hR : w.rowIs B1 t n F) (hne : B1 ≠ B0) (u0 u1 u2 : Value) :
    (((w.setCell ⟨B0, 0, none⟩ u0).setCell ⟨B0, 1, none⟩ u1).setCell ⟨B0, 2, none⟩ u2).rowIs B1 t n F :=
  ((hR.setOther (by simpa using hne) _).setOther (by simpa using hne) _).setOther (by simpa using hne) _
theorem setL3 {w wr : World} {B0 : Nat} (h : Below w.heap.size w wr) (hB : w.heap.size ≤ B0) (u0 u1 u2 : Value) :
    Below w.heap.size w (((wr.setCell ⟨B0, 0, none⟩ u0).setCell ⟨B0, 1, none⟩ u1).setCell ⟨B0, 2, none⟩ u2) :=
  ((h.setCell (by simpa using hB) _).setCell (by simpa using hB) _).setCell (by simpa using hB) _
end Go.Proofs.Ytbhgbifliihlbaa
namespace Go.Proofs.Ytbhgbifliihlbaa
open Go.RowKit Go.Sort Go.Maps

/-- The outcome as a value that reads so. -/
def ResT (w : World) (o : OutP) (e : Ending) (w' : World) : Prop :=
  ∃ v', e = .returned (.tuple #[.agg #[.int .i64 o.P, .int .i64 o.D, v'], .int .i64 o.c]) ∧ SliceT w' v' o.S ∧ Below w.heap.size w w'
/-- The result's box is filled. -/
theorem fillT {w w2 : World} {r : Nat} {F : Nat → Value} {v : Value} {S : List Tm} (hres : w2.rowIs r 40 3 F) (hs : SliceT w2 v S) (hb : Below w.heap.size w w2) (hr : w.heap.size ≤ r) (p d : Int) :
    ((((w2.setCell ⟨r, 0, none⟩ (.int .i64 p)).setCell ⟨r, 1, none⟩ (.int .i64 d)).setCell ⟨r, 2, none⟩ v).cell? ⟨r, 0, none⟩ = some (.int .i64 p) ∧ (((w2.setCell ⟨r, 0, none⟩ (.int .i64 p)).setCell ⟨r, 1, none⟩ (.int .i64 d)).setCell ⟨r, 2, none⟩ v).cell? ⟨r, 1, none⟩ = some (.int .i64 d) ∧ (((w2.setCell ⟨r, 0, none⟩ (.int .i64 p)).setCell ⟨r, 1, none⟩ (.int .i64 d)).setCell ⟨r, 2, none⟩ v).cell? ⟨r, 2, none⟩ = some v) ∧
    SliceT (((w2.setCell ⟨r, 0, none⟩ (.int .i64 p)).setCell ⟨r, 1, none⟩ (.int .i64 d)).setCell ⟨r, 2, none⟩ v) v S ∧ Below w.heap.size w (((w2.setCell ⟨r, 0, none⟩ (.int .i64 p)).setCell ⟨r, 1, none⟩ (.int .i64 d)).setCell ⟨r, 2, none⟩ v) := by
  obtain ⟨a0, a1⟩ := setB3 hres hs p d
  exact ⟨(poly3 a0).1, a1, setL3 hb hr _ _ _⟩
end Go.Proofs.Ytbhgbifliihlbaa
namespace Go.Proofs.Ytbhgbifliihlbaa
open Go.RowKit Go.Sort Go.Maps

/-- What a list of polynomials is like, all of them. -/
def GOk (p d : Int) (G : List Pm) : Prop := ∀ (m : Nat) (h : m < G.length), G[m].1 = p ∧ G[m].2.1 = d ∧ Valid p d G[m].2.2 ∧ 1 ≤ degI G[m].2.2
theorem GOk.tms {p d : Int} {G : List Pm} (h : GOk p d G) : ∀ g ∈ tmsL G, Valid p d g := fun g hg => by
  obtain ⟨q, hq, rfl⟩ := List.mem_map.1 hg
  obtain ⟨m, hm, rfl⟩ := List.mem_iff_getElem.1 hq
  exact (h m hm).2.2.1
theorem gok_of {G : List Pm} (hok : ∀ g ∈ G, PmOk g) (h : listC 1 G = 0) : GOk (hdP G).1 (hdP G).2.1 G := fun m hm => by
  obtain ⟨_, _, hG⟩ := listC_zero hok h
  exact hG G[m] (List.getElem_mem hm)
theorem PrR.nil_one {p : Int} (hp : 2 ≤ p) : PrR p [] (putL p [] (0, 0, 0) 1) := by
  have h1 : (1 : Int) % p = 1 := Int.emod_eq_of_lt (by omega) (by omega)
  refine (IsP.one hp (e := (0, 0, 0)) ⟨by unfold byte3; simp, by simp⟩ 1).congr fun a _ => by rw [h1]
theorem dgN_at {p d : Int} {G : List Pm} (h : GOk p d G) {m : Nat} (hm : m < G.length) : dgN (tmsL G) m = degI G[m].2.2 := by
  have := (h m hm).2.2.2
  unfold dgN
  rw [tmsL_nth hm]
  omega
theorem exp_le {p d : Int} {G : List Pm} {es : List Int} (h : GOk p d G) (he : ∀ x ∈ es, 0 ≤ x) (hb : bndX (tmsL G) es G.length ≤ 12) {m : Nat} (hm : m < G.length) : nthX es m ≤ 12 := by
  refine Int.not_lt.1 fun hlt => ?_
  have := bndX_big (Ls := tmsL G) he (k := m) (by rw [dgN_at h hm]; exact (h m hm).2.2.2) hm hlt
  omega

set_option maxRecDepth 8000 in
set_option maxHeartbeats 16000000 in
theorem sprod5 (p d : Int) (lv ev : Value) (G : List Pm) (es : List Int) (w : World) (hn1 : 1 ≤ G.length) (h8 : G.length ≤ 8) (hGM : GOk p d G) (hel : es.length = G.length) (he : ∀ x ∈ es, 0 ≤ x) (hb : bndX (tmsL G) es G.length ≤ 12) (hG : SlP w lv G) (hE : Sl w ev es) :
    Calls Try.prog 56 #[lv, ev] w fun e w' => ∃ v' L, e = .returned (.agg #[.int .i64 p, .int .i64 d, v']) ∧ SliceT w' v' L ∧ PrR p (facX (tmsL G) es G.length) L ∧ Below w.heap.size w w' := by
  obtain ⟨la, lc, rfl, hc⟩ := id hG
  obtain ⟨ea, ec, rfl, hce⟩ := id hE
  rw [hel] at hE ⊢
  have hn0 : 0 < G.length := hn1
  have hV0 := (hGM 0 hn0).2.2.1
  have hp2 := hV0.p2
  have hp13 := hV0.p13
  obtain ⟨bl, off, rfl, hbl, hT⟩ : ∃ bl off, la = some ⟨bl, off, none⟩ ∧ bl < w.heap.size ∧ PolysW w bl off G := by
    rcases hc with h | h
    · rw [h] at hn1; simp at hn1
    · exact h
  obtain ⟨eb, eoff, rfl, hbe, hTE⟩ : ∃ b off, ea = some ⟨b, off, none⟩ ∧ b < w.heap.size ∧ Cs w b off es := by
    rcases hce with h | h
    · rw [h] at hel; simp at hel; omega
    · exact h
  obtain ⟨W, hW, hbW, ⟨hWs1, hWs2⟩, rr⟩ : ∃ W, W = w.alloc (.cells #[.int .i64 0, .int .i64 0, .slice none 0 0] 40) ∧ Below w.heap.size w W ∧ (W.heap.size ≤ w.heap.size + 1 ∧ w.heap.size + 1 ≤ W.heap.size) ∧ W.rowIs w.heap.size 40 3 (polyF 0 0 (.slice none 0 0)) := ⟨_, rfl, box1 _ _, ⟨by simp, by simp⟩, zbox w⟩
  obtain ⟨u0, t0, t1, _, _⟩ := (hT.below hbW hbl) 0 hn0
  rw [(hGM 0 hn0).1, Nat.zero_mul, Nat.add_zero] at t0
  rw [(hGM 0 hn0).2.1, Nat.zero_mul, Nat.add_zero] at t1
  have hblW : bl < W.heap.size := Nat.lt_of_lt_of_le hbl hbW.size
  have KK := Lib.hid (fun w' (h : Below W.heap.size W w') => show (w'.cell? ⟨bl, off, none⟩ = some (.int .i64 p) ∧ w'.cell? ⟨bl, off + 1, none⟩ = some (.int .i64 d)) from
    ⟨(h.cell (p := ⟨bl, _, none⟩) hblW).trans t0, (h.cell (p := ⟨bl, _, none⟩) hblW).trans t1⟩)
  have hl0' : (0 : Int) < (G.length : Int) := by omega
  have H1A := Lib.hid (fun w => one_any p d 0 0 0 1 w hp2 hp13 (by unfold byte3; simp) (by omega) (by omega))
  obtain ⟨O1, hO1⟩ : ∃ O1, putL p [] (0, 0, 0) 1 = O1 := ⟨_, rfl⟩
  have HO1 : Hid (PrR p (facY (tmsL G) es 0 0) O1) := Lib.hid (by rw [← hO1, facY_zero]; exact PrR.nil_one hp2)
  rw [hO1] at H1A
  have HT := Lib.hid hT
  have HTE := Lib.hid hTE
  have HGM := Lib.hid hGM
  have HSUM := Lib.hid (fun (k j : Nat) (hj : (j : Int) ≤ nthX es k) (hk : k < G.length) => sumD_facY (Ls := tmsL G) he hj hk hb)
  have HFV := Lib.hid (fun (m j : Nat) => facY_valid hV0 hGM.tms es m j)
  have HEX := Lib.hid (fun (m : Nat) (hm : m < G.length) => exp_le hGM he hb hm)
  have HEN := Lib.hid (fun (m : Nat) => nthX_nonneg he m)
  have HEA : Hid (∀ (m : Nat) (h : m < es.length), nthX es m = es[m]) := Lib.hid (fun m h => nthX_lt h)
  have HEL := Lib.hid hel
  clear hT hTE hGM he hb hc hce hO1 hG hE hel hV0
  go_enter Try.func56, Try.ntmps56
  go_upto_region 1 with fail
  rw [← hW]
  clear hW t0 t1
  go_cut [5] (fun s5 wx => ∃ (bo : Nat) (A : Option Addr) (c : Nat), s5 = .pointer (some ⟨bo, 0, none⟩) ∧ wx.rowIs bo 40 3 (polyF p d (.slice A O1.length c)) ∧ SliceT wx (.slice A O1.length c) O1 ∧ Below W.heap.size W wx ∧ W.heap.size ≤ bo)
  case first =>
    go_region_held3 (fun w' => (w'.cell? ⟨bl, off, none⟩ = some (.int .i64 p) ∧ w'.cell? ⟨bl, off + 1, none⟩ = some (.int .i64 d)))
      (first | with_reducible exact KK.out _ (setL3 HB13 (Nat.le_refl _) _ _ _) | with_reducible exact KK.out _ (Below.same _).drew | with_reducible exact KK.out _ (box1 _ _).drew | with_reducible exact KK.out _ HB13 | with_reducible exact KK.out _ (HB13.trans ((box1 _ _).mono HB13.size)))
      ((go_at_call 95; (with_reducible refine (H1A.out _).mono ?_); rintro e w13 ⟨v13, rfl, ho13, hb13⟩; have HB13 : Below W.heap.size W w13 := (by first | exact (Below.same _).drew.trans hb13 | with_reducible exact (box1 _ _).drew.trans (hb13.mono (by simp))); (first | (have ZR13 : w13.rowIs W.heap.size 40 3 (polyF 0 0 (.slice none 0 0)) := rowIs_below (zboxD W) hb13 (by simp); obtain ⟨⟨e130, e131, e132⟩, f130, f131, f132⟩ := poly3 ZR13) | skip); (obtain ⟨sa13, sc13, rfl⟩ := owns_slice ho13)))
    all_goals
      go_wp2_with fail
      go_meet
      first
        | exact ⟨w13.heap.size, sa13, sc13, rfl, World.rowIs_alloc w13 #[Value.int .i64 p, .int .i64 d, .slice sa13 O1.length sc13] _ _ (fun i hi => by simp at hi; match i, hi with | 0, _ => rfl | 1, _ => rfl | 2, _ => rfl), (OwnP.slice ho13).below (box1 _ _), HB13.trans ((box1 _ _).mono HB13.size), HB13.size⟩
        | exact ⟨W.heap.size, sa13, sc13, rfl, (setB3 ZR13 (OwnP.slice ho13) p d).1, (setB3 ZR13 (OwnP.slice ho13) p d).2, setL3 HB13 (Nat.le_refl _) _ _ _, Nat.le_refl _⟩
  case rest =>
    obtain ⟨bo, A2, c2, rfl, ro, ho, hbo, hbo2⟩ := hcut
    have hne : w.heap.size ≠ bo := by omega
    have hbo3 : w.heap.size ≤ bo := by omega
    have rr2 := rowIs_below rr hbo rr.lt
    have hbr0 := hbW.trans (hbo.mono hbW.size)
    clear KK H1A hbo hbo2 rr
    go_wp2_with fail
    go_loopw [6] (fun i wr => ∃ (m : Nat) (sv2 : Value) (O2 : List Tm), m ≤ G.length ∧ i = .int .i64 m ∧ Hid (PrR p (facY (tmsL G) es m 0) O2) ∧ wr.rowIs bo 40 3 (polyF p d sv2) ∧ SliceT wr sv2 O2 ∧ wr.rowIs w.heap.size 40 3 (polyF 0 0 (.slice none 0 0)) ∧ Below w.heap.size w wr) (fun i _ => G.length - (intOf i).toNat)
    case atStart => exact ⟨0, _, O1, by omega, rfl, HO1, ro, ho, rr2, hbr0⟩
    case round =>
      clear rr2 hbr0 ro ho HO1
      obtain ⟨m, sv2, O2, hm, rfl, HO2, ro, ho, rr, hbr⟩ := hrel
      obtain ⟨wm, rfl⟩ : ∃ wm : World, wm = wr := ⟨_, rfl⟩
      by_cases hlm : m < G.length
      · have hlm' : (m : Int) < (G.length : Int) := by omega
        have cE := (HTE.out.below hbr hbe) m (by rw [HEL.out]; exact hlm)
        rw [← HEA.out m (by rw [HEL.out]; exact hlm)] at cE
        obtain ⟨E, hE⟩ : ∃ E : Nat, nthX es m = (E : Int) := ⟨(nthX es m).toNat, by have := HEN.out m; omega⟩
        have hE12 : E ≤ 12 := by have := HEX.out m hlm; omega
        have HFU : Hid (facY (tmsL G) es m E = facY (tmsL G) es (m + 1) 0) := Lib.hid (by
          rw [facY_zero, ← facY_full, hE]; rfl)
        have HSM := Lib.hid (fun (j : Nat) (hj : j ≤ E) => HSUM.out m j (by rw [hE]; omega) hlm)
        have HVM := Lib.hid (HGM.out m hlm)
        have HTM := Lib.hid (tmsL_nth hlm)
        rw [hE] at cE
        clear hE
        go_wp2_with fail
        clear cE
        go_loopw [7] (fun i wr => ∃ (j : Nat) (sv3 : Value) (O3 : List Tm), j ≤ E ∧ i = .int .i64 ((E : Int) - j) ∧ Hid (PrR p (facY (tmsL G) es m j) O3) ∧ wr.rowIs bo 40 3 (polyF p d sv3) ∧ SliceT wr sv3 O3 ∧ wr.rowIs w.heap.size 40 3 (polyF 0 0 (.slice none 0 0)) ∧ Below w.heap.size w wr) (fun i _ => (intOf i).toNat)
        case atStart => exact ⟨0, _, O2, by omega, by simp, HO2, ro, ho, rr, hbr⟩
        case round =>
          clear rr ro ho hbr HO2
          obtain ⟨j, sv3, O3, hj, rfl, HO3, ro, ho, rr, hbr⟩ := hrel
          by_cases hlj : j < E
          · have hpos : (0 : Int) < (E : Int) - j := by omega
            obtain ⟨sa3, sc3, rfl, _⟩ := id ho
            obtain ⟨⟨o0, o1, o2⟩, z0, z1, z2⟩ := poly3 ro
            obtain ⟨uv, g0, g1, g2, hu⟩ := (HT.out.below hbr hbl) m hlm
            obtain ⟨ua, uc, rfl, _⟩ := id hu
            rw [HVM.out.1] at g0
            rw [HVM.out.2.1] at g1
            obtain ⟨f3, hf3⟩ := HO3.out.isP
            have hV3 := HVM.out.2.2.1.of_isP hf3
            have hsd : sumD (G[m].2.2 :: facY (tmsL G) es m j) ≤ 12 := by rw [← HTM.out, ← facY_succ]; exact HSM.out (j + 1) (by omega)
            have HRM := Lib.hid (And.intro hV3 (HO3.out.room (HFV.out m j) hsd))
            have HNXT := Lib.hid (fun (L' : List Tm) (hL' : IsP p L' (mulF p O3 G[m].2.2)) => show PrR p (facY (tmsL G) es m (j + 1)) L' from by
              rw [facY_succ, HTM.out]
              exact ⟨O3, HO3.out, hL'⟩)
            have hwd : IntKind.i64.wrap ((E : Int) - j - 1) = (E : Int) - j - 1 := IntWalk.i64_in _ (by omega)
            clear hf3 hV3 hsd
            go_upto_region 8 with fail
            go_region_with
              ((go_at_call 96; (with_reducible refine (specTimes_any p d _ _ O3 G[m].2.2 _ (ho.below (Below.same _).drew) (hu.below (Below.same _).drew) HRM.out.1 HVM.out.2.2.1 HRM.out.2).mono ?_); rintro e w13 ⟨v13, L13, rfl, ho13, hL13, hb13⟩; have HB13 : Below wr.heap.size wr w13 := (Below.same _).drew.trans hb13; have ZR13 := rowIs_below ro HB13 ro.lt; (obtain ⟨⟨e130, e131, e132⟩, f130, f131, f132⟩ := poly3 ZR13); (obtain ⟨sa13, sc13, rfl⟩ := owns_slice ho13)))
            all_goals
              have hrN := setO3 (rowIs_below rr HB13 rr.lt) (B0 := bo) hne (.int .i64 p) (.int .i64 d) (.slice sa13 L13.length sc13)
              have hbN := setL3 (hbr.trans (HB13.mono hbr.size)) (B0 := bo) hbo3 (.int .i64 p) (.int .i64 d) (.slice sa13 L13.length sc13)
              have hset := setB3 ZR13 (OwnP.slice ho13) p d
              have HN1 := Lib.hid (HNXT.out L13 hL13)
              have hsub : (E : Int) - j - 1 = (E : Int) - ((j + 1 : Nat) : Int) := by omega
              have HSUB := Lib.hid hsub
              clear ho13 o0 o1 o2 z0 z1 z2 g0 g1 g2 ro ho rr hbr hu hsub
              go_wp2_with fail
              go_roundw
              case rel => exact ⟨j + 1, _, L13, by omega, by rw [← HSUB.out], HN1, hset.1, hset.2, hrN, hbN⟩
              case measure => simp [intOf]; omega
          · obtain rfl : j = E := by omega
            have hpos : ¬ (0 : Int) < (j : Int) - j := by omega
            have HO4 : Hid (PrR p (facY (tmsL G) es (m + 1) 0) O3) := Lib.hid (by rw [← HFU.out]; exact HO3.out)
            go_wp2_with fail
            go_roundw
            case rel => exact ⟨m + 1, _, O3, by omega, by go_num, HO4, ro, ho, rr, hbr⟩
            case measure => simp [intOf]; omega
      · obtain rfl : m = G.length := by omega
        obtain ⟨sa3, sc3, rfl, _⟩ := id ho
        obtain ⟨⟨o0, o1, o2⟩, _⟩ := poly3 ro
        obtain ⟨⟨r0, r1, r2⟩, z0, z1, z2⟩ := poly3 rr
        have HO4 : Hid (PrR p (facX (tmsL G) es G.length) O2) := Lib.hid (by rw [← facY_zero]; exact HO2.out)
        obtain ⟨⟨m0, m1, m2⟩, a1, a2⟩ := fillT rr ho hbr (by omega) p d
        have A0 := Lib.hid m0
        have A1 := Lib.hid m1
        have A2 := Lib.hid m2
        have A3 := Lib.hid a1
        have A4 := Lib.hid a2
        clear m0 m1 m2 a1 a2
        go_wp2_with fail
        exact bodyPost_ret (v := .agg #[.int .i64 p, .int .i64 d, .slice sa3 O2.length sc3]) (by simp [results, Try.results56, go_sem, A0.out, A1.out, A2.out]) rfl ⟨_, O2, rfl, A3.out, HO4.out, A4.out⟩
end Go.Proofs.Ytbhgbifliihlbaa
namespace Go.Proofs.Ytbhgbifliihlbaa
open Go.RowKit Go.Sort Go.Maps

theorem bnd_dg {p d : Int} {G : List Pm} (h : GOk p d G) : ∀ i, dgN (tmsL G) i ≤ 12 := fun i => by
  by_cases hi : i < G.length
  · rw [dgN_at h hi]; exact (deg_bound (h i hi).2.2.1).2
  · rw [dgN_ge (by rw [tmsL_len]; omega)]; omega
theorem prodC_if {G : List Pm} {es : List Int} (h : listC 1 G = 0) : prodC G es = if (decide (es.length = G.length) && es.all (fun x => decide (0 ≤ x))) = true then (if bndX (tmsL G) es G.length ≤ 12 then 0 else 3) else 2 := by unfold prodC; rw [if_pos h]
theorem all_nonneg {es : List Int} (h : ∀ (j : Nat) (h : j < es.length), 0 ≤ es[j]) : (es.all fun x => decide (0 ≤ x)) = true ∧ ∀ x ∈ es, 0 ≤ x := by
  have h2 : ∀ x ∈ es, 0 ≤ x := fun x hx => by
    obtain ⟨j, hj, rfl⟩ := List.mem_iff_getElem.1 hx
    exact h j hj
  exact ⟨List.all_eq_true.2 fun x hx => by simpa using h2 x hx, h2⟩

set_option maxRecDepth 8000 in
set_option maxHeartbeats 16000000 in
theorem sPoL (lv ev : Value) (G : List Pm) (es : List Int) (w : World) (hlG : G.length ≤ 1048576) (hok : ∀ g ∈ G, PmOk g) (hG : SlP w lv G) (hle : es.length ≤ 1048576) (hE : Sl w ev es) (o : OutP) (ho : ProdX G es o) :
    Calls Try.prog 22 #[lv, ev] w (ResT w o) := by
  obtain ⟨la, lc, rfl, hc⟩ := id hG
  obtain ⟨ea, ec, rfl, hce⟩ := id hE
  obtain ⟨W, hW, hbW, ⟨hWs1, hWs2⟩, rr⟩ : ∃ W, W = w.alloc (.cells #[.int .i64 0, .int .i64 0, .slice none 0 0] 40) ∧ Below w.heap.size w W ∧ (W.heap.size ≤ w.heap.size + 1 ∧ w.heap.size + 1 ≤ W.heap.size) ∧ W.rowIs w.heap.size 40 3 (polyF 0 0 (.slice none 0 0)) := ⟨_, rfl, box1 _ _, ⟨by simp, by simp⟩, zbox w⟩
  have nilS : ∀ (w' : World), SliceT w' (.slice none 0 0) [] := fun w' => ⟨none, 0, rfl, .inl rfl⟩
  have HC : Hid (∀ C, C ≠ 0 → prodC G es = C → o = noP C) := Lib.hid (fun C h0 hC => by
    rcases ho with ⟨_, rfl⟩ | ⟨h1, _⟩
    · rw [hC]
    · exact absurd (hC.symm.trans h1) h0)
  have HZ : Hid (prodC G es = 0 → ∃ L, PrR (hdP G).1 (facX (tmsL G) es G.length) L ∧ o = ⟨(hdP G).1, (hdP G).2.1, L, 0⟩) := Lib.hid (fun h => by
    rcases ho with ⟨h1, _⟩ | ⟨_, h2⟩
    · exact absurd h h1
    · exact h2)
  have e0 : someC G 0 = listC 1 G := by
    unfold someC
    split
    · rename_i h; rw [h]; rfl
    · rfl
  have HS := Lib.hid (ssome (.slice la G.length lc) G 0 W hlG hok (hG.below hbW))
  rw [e0] at HS
  have HOK := Lib.hid hok
  have HG := Lib.hid hG
  have HEE := Lib.hid hE
  clear ho hok e0 hG hE hc
  go_enter Try.func22, Try.ntmps22
  go_wp2_with fail
  rw [← hW]
  clear hW
  ((with_reducible refine HS.out.mono ?_); rintro e w1 ⟨rfl, hb1⟩)
  have hbw1 := hbW.trans (hb1.mono hbW.size)
  have rr1 := rowIs_below rr hb1 rr.lt
  clear rr hb1 HS
  by_cases hl : listC 1 G = 0
  case neg =>
    have HO1 := Lib.hid (HC.out _ hl (by unfold prodC; rw [if_neg hl]))
    obtain ⟨C, hC⟩ : ∃ C, listC 1 G = C := ⟨_, rfl⟩
    rw [hC] at hl HO1 ⊢
    have hc' : (C != 0) = true := by simpa using hl
    clear hl hC
    obtain ⟨⟨r0, r1, r2⟩, z0, z1, z2⟩ := poly3 rr1
    obtain ⟨⟨m0, m1, m2⟩, a1, a2⟩ := fillT rr1 (nilS w1) hbw1 (by omega) 0 0
    have A0 := Lib.hid m0
    have A1 := Lib.hid m1
    have A2 := Lib.hid m2
    have A3 := Lib.hid a1
    have A4 := Lib.hid a2
    clear m0 m1 m2 a1 a2
    go_wp2_with fail
    exact bodyPost_ret (v := .tuple #[.agg #[.int .i64 0, .int .i64 0, .slice none 0 0], .int .i64 C]) (by simp [results, Try.results22, go_sem, A0.out, A1.out, A2.out]) rfl (by rw [HO1.out]; exact ⟨_, rfl, A3.out, A4.out⟩)
  have HPI := Lib.hid (prodC_if (es := es) hl)
  have HGM := Lib.hid (gok_of HOK.out hl)
  obtain ⟨hn1, h8, _⟩ := listC_zero HOK.out hl
  rw [hl]
  clear hl
  by_cases hel : es.length = G.length
  case neg =>
    have HO1 := Lib.hid (HC.out 2 (by omega) (by rw [HPI.out]; simp [hel]))
    have hel' : ((es.length : Int) != (G.length : Int)) = true := by simp; omega
    clear hel
    obtain ⟨⟨r0, r1, r2⟩, z0, z1, z2⟩ := poly3 rr1
    obtain ⟨⟨m0, m1, m2⟩, a1, a2⟩ := fillT rr1 (nilS w1) hbw1 (by omega) 0 0
    have A0 := Lib.hid m0
    have A1 := Lib.hid m1
    have A2 := Lib.hid m2
    have A3 := Lib.hid a1
    have A4 := Lib.hid a2
    clear m0 m1 m2 a1 a2
    go_wp2_with fail
    exact bodyPost_ret (v := .tuple #[.agg #[.int .i64 0, .int .i64 0, .slice none 0 0], .int .i64 2]) (by simp [results, Try.results22, go_sem, A0.out, A1.out, A2.out]) rfl (by rw [HO1.out]; exact ⟨_, rfl, A3.out, A4.out⟩)
  have hel' : ((es.length : Int) != (G.length : Int)) = false := by simp [hel]
  have HEL := Lib.hid hel
  have hes8 : es.length ≤ 8 := by omega
  clear hel
  obtain ⟨eb, eoff, rfl, hbe, hTE⟩ : ∃ b off, ea = some ⟨b, off, none⟩ ∧ b < w.heap.size ∧ Cs w b off es := by
    rcases hce with h | h
    · have := HEL.out
      rw [h] at this; simp at this; omega
    · exact h
  have HTE := Lib.hid hTE
  clear hTE hce
  go_wp2_with fail
  go_loopw [7] (fun i wr => ∃ k : Nat, k ≤ es.length ∧ i = .int .i64 k ∧ Hid (∀ (j : Nat) (h : j < es.length), j < k → 0 ≤ es[j]) ∧ wr.rowIs w.heap.size 40 3 (polyF 0 0 (.slice none 0 0)) ∧ Below w.heap.size w wr) (fun i _ => es.length - (intOf i).toNat)
  case atStart => exact ⟨0, by omega, rfl, Lib.hid (fun j _ h => by omega), rr1, hbw1⟩
  case round =>
    clear rr1 hbw1
    obtain ⟨k, hk, rfl, HU, rr, hbr⟩ := hrel
    by_cases hlt : k < es.length
    · have hlt' : (k : Int) < (es.length : Int) := by omega
      have c0 := (HTE.out.below hbr hbe) k hlt
      by_cases hneg : es[k] < 0
      · have HO1 := Lib.hid (HC.out 2 (by omega) (by
          have h1 : (es.all fun x => decide (0 ≤ x)) = false := by
            rw [List.all_eq_false]
            exact ⟨_, List.getElem_mem hlt, by simpa using hneg⟩
          rw [HPI.out, h1]; simp))
        generalize es[k] = x at *
        obtain ⟨⟨r0, r1, r2⟩, z0, z1, z2⟩ := poly3 rr
        obtain ⟨⟨m0, m1, m2⟩, a1, a2⟩ := fillT rr (nilS wr) hbr (by omega) 0 0
        have A0 := Lib.hid m0
        have A1 := Lib.hid m1
        have A2 := Lib.hid m2
        have A3 := Lib.hid a1
        have A4 := Lib.hid a2
        clear m0 m1 m2 a1 a2
        go_wp2_with fail
        exact bodyPost_ret (v := .tuple #[.agg #[.int .i64 0, .int .i64 0, .slice none 0 0], .int .i64 2]) (by simp [results, Try.results22, go_sem, A0.out, A1.out, A2.out]) rfl (by rw [HO1.out]; exact ⟨_, rfl, A3.out, A4.out⟩)
      · have HU2 : Hid (∀ (j : Nat) (h : j < es.length), j < k + 1 → 0 ≤ es[j]) := Lib.hid (fun j h hj => by
          by_cases e : j = k
          · subst e; omega
          · exact HU.out j h (by omega))
        generalize es[k] = x at *
        clear HU
        go_wp2_with fail
        go_roundw
        case rel => exact ⟨k + 1, by omega, by go_num, HU2, rr, hbr⟩
        case measure => simp [intOf]; omega
    · obtain rfl : k = es.length := by omega
      obtain ⟨ha, he⟩ := all_nonneg (fun j h => HU.out j h h)
      have HPJ : Hid (prodC G es = if bndX (tmsL G) es G.length ≤ 12 then 0 else 3) := Lib.hid (by
        have := HEL.out
        rw [HPI.out, ha]; simp [this])
      have HE := Lib.hid he
      clear HU ha he HPI
      obtain ⟨wo, hwo⟩ : ∃ wo : World, wo = wr := ⟨_, rfl⟩
      subst hwo
      go_wp2_with fail
      go_loopw [9, 8] (fun i s wr => ∃ k : Nat, k ≤ es.length ∧ i = .int .i64 k ∧ s = .int .i64 (bndX (tmsL G) es k) ∧ Hid (∀ j, j < k → nthX es j ≤ 12) ∧ wr.rowIs w.heap.size 40 3 (polyF 0 0 (.slice none 0 0)) ∧ Below w.heap.size w wr) (fun i _ _ => es.length - (intOf i).toNat)
      case atStart => exact ⟨0, by omega, rfl, rfl, Lib.hid (fun j h => by omega), rr, hbr⟩
      case round =>
        clear rr hbr
        obtain ⟨k, hk, rfl, rfl, HU, rr, hbr⟩ := hrel
        have hB0 := bndX_nonneg (Ls := tmsL G) HE.out k
        have hB1 := bndX_bound (Ls := tmsL G) HE.out (bnd_dg HGM.out) k HU.out
        by_cases hlt : k < es.length
        · have hlt' : (k : Int) < (es.length : Int) := by omega
          have hkG : k < G.length := by rw [← HEL.out]; exact hlt
          have hkG' : (k : Int) < (G.length : Int) := by omega
          have c0 := (HTE.out.below hbr hbe) k hlt
          rw [← nthX_lt hlt] at c0
          have hn0 := nthX_nonneg HE.out k
          have hDA := dgN_at HGM.out hkG
          have hD1 := (HGM.out k hkG).2.2.2
          by_cases hbig : 12 < nthX es k
          · have HO1 := Lib.hid (HC.out 3 (by omega) (by
              have h1 := bndX_big (Ls := tmsL G) HE.out (by rw [hDA]; exact hD1) hkG hbig
              rw [HPJ.out, if_neg (by omega)]))
            generalize nthX es k = x at *
            clear hDA hD1
            obtain ⟨⟨r0, r1, r2⟩, z0, z1, z2⟩ := poly3 rr
            obtain ⟨⟨m0, m1, m2⟩, a1, a2⟩ := fillT rr (nilS wr) hbr (by omega) 0 0
            have A0 := Lib.hid m0
            have A1 := Lib.hid m1
            have A2 := Lib.hid m2
            have A3 := Lib.hid a1
            have A4 := Lib.hid a2
            clear m0 m1 m2 a1 a2
            go_wp2_with fail
            exact bodyPost_ret (v := .tuple #[.agg #[.int .i64 0, .int .i64 0, .slice none 0 0], .int .i64 3]) (by simp [results, Try.results22, go_sem, A0.out, A1.out, A2.out]) rfl (by rw [HO1.out]; exact ⟨_, rfl, A3.out, A4.out⟩)
          · have HU2 : Hid (∀ j, j < k + 1 → nthX es j ≤ 12) := Lib.hid (fun j hj => by
              by_cases e : j = k
              · subst e; omega
              · exact HU.out j (by omega))
            obtain ⟨bl, off, hla, hbl, hT⟩ : ∃ bl off, la = some ⟨bl, off, none⟩ ∧ bl < w.heap.size ∧ PolysW w bl off G := by
              obtain ⟨bl, off, h1, h2, h3, _⟩ := SlP.at HG.out (by omega)
              exact ⟨bl, off, h1, h2, h3⟩
            subst hla
            obtain ⟨u, g0, g1, g2, hu⟩ := (hT.below hbr hbl) k hkG
            have hokk := HOK.out _ (List.getElem_mem hkG)
            obtain ⟨ua, uc, rfl, _⟩ := id hu
            have kD : ∀ dd os, Calls Try.prog 55 #[.agg #[.int .i64 G[k].1, .int .i64 G[k].2.1, .slice ua G[k].2.2.length uc]] (grow (redrawn wr dd) os) fun e w'' => e = .returned (.int .i64 (degI G[k].2.2)) ∧ ∃ p : Regrown, w'' = grow (redrawn wr p.d) p.os := fun dd os =>
              Calls.regrown_of (specDegree_any _ _ _ _ _ hokk.2 (hu.below (below_regrown wr dd os)) hokk.1)
            rw [← hDA] at kD
            have hd12 := bnd_dg HGM.out k
            rw [← hDA] at hD1
            have HNX : Hid (bndX (tmsL G) es (k + 1) = bndX (tmsL G) es k + nthX es k * dgN (tmsL G) k) := Lib.hid (by rw [bndX])
            have hm0 : 0 ≤ nthX es k * dgN (tmsL G) k := Int.mul_nonneg hn0 (by omega)
            have hm1 : nthX es k * dgN (tmsL G) k ≤ 12 * 12 := Int.mul_le_mul (by omega) hd12 (by omega) (by omega)
            have hw1 : IntKind.i64.wrap (nthX es k * dgN (tmsL G) k) = nthX es k * dgN (tmsL G) k := IntWalk.i64_in _ (by omega)
            have hw2 : IntKind.i64.wrap (bndX (tmsL G) es k + nthX es k * dgN (tmsL G) k) = bndX (tmsL G) es k + nthX es k * dgN (tmsL G) k := IntWalk.i64_in _ (by omega)
            have hbig' : ¬ (12 : Int) < nthX es k := hbig
            have k0 := cell_regrown c0
            have k2 := cell_regrown g0
            have k3 := cell_regrown g1
            have k4 := cell_regrown g2
            generalize nthX es k = x at *
            generalize dgN (tmsL G) k = y at *
            generalize bndX (tmsL G) es k = B at *
            generalize G[k] = g at *
            clear hDA hD1 hu hT hokk g0 g1 g2 HU hbig
            go_wp2_with fail
            refine wp_region_quiet_below (by kernel_rfl) (by kernel_rfl) ?_
            repeat (go_big_quiet_step (with_reducible exact kD _ _))
            refine wpQuiet_nil ?_
            intro _ hw'
            obtain ⟨⟨dq, osq⟩, hw''⟩ := hw'
            subst hw''
            have hbq := below_regrown wr dq osq
            have hb2 := hbr.trans (hbq.mono hbr.size)
            have rr2 := rowIs_below rr hbq rr.lt
            generalize grow (redrawn wr dq) osq = w3 at *
            clear k0 k2 k3 k4 kD c0 rr hbr hbq
            go_wp2_with fail
            go_roundw
            case rel => exact ⟨k + 1, by omega, by go_num, by rw [HNX.out], HU2, rr2, hb2⟩
            case measure => simp [intOf]; omega
        · obtain rfl : k = es.length := by omega
          have HBG : Hid (bndX (tmsL G) es es.length = bndX (tmsL G) es G.length) := Lib.hid (by rw [HEL.out])
          rw [HBG.out] at hB0 hB1 ⊢
          by_cases h12 : bndX (tmsL G) es G.length ≤ 12
          case neg =>
            have HO1 := Lib.hid (HC.out 3 (by omega) (by rw [HPJ.out, if_neg h12]))
            have hgt : (12 : Int) < bndX (tmsL G) es G.length := by omega
            generalize bndX (tmsL G) es G.length = B at *
            obtain ⟨⟨r0, r1, r2⟩, z0, z1, z2⟩ := poly3 rr
            obtain ⟨⟨m0, m1, m2⟩, a1, a2⟩ := fillT rr (nilS wr) hbr (by omega) 0 0
            have A0 := Lib.hid m0
            have A1 := Lib.hid m1
            have A2 := Lib.hid m2
            have A3 := Lib.hid a1
            have A4 := Lib.hid a2
            clear m0 m1 m2 a1 a2
            go_wp2_with fail
            exact bodyPost_ret (v := .tuple #[.agg #[.int .i64 0, .int .i64 0, .slice none 0 0], .int .i64 3]) (by simp [results, Try.results22, go_sem, A0.out, A1.out, A2.out]) rfl (by rw [HO1.out]; exact ⟨_, rfl, A3.out, A4.out⟩)
          case pos =>
            obtain ⟨L, hL, hoL⟩ := HZ.out (by rw [HPJ.out, if_pos h12])
            have HOL := Lib.hid hoL
            have HLL := Lib.hid hL
            have HPR := Lib.hid (sprod5 (hdP G).1 (hdP G).2.1 (.slice la G.length lc) (.slice (some ⟨eb, eoff, none⟩) es.length ec) G es wr hn1 h8 HGM.out HEL.out HE.out h12 (HG.out.below hbr) (HEE.out.below hbr))
            have hng : ¬ (12 : Int) < bndX (tmsL G) es G.length := by omega
            generalize bndX (tmsL G) es G.length = B at *
            clear hL hoL h12 HPJ HBG
            go_wp2_with fail
            ((with_reducible refine HPR.out.mono ?_); rintro e w5 ⟨v5, L5, rfl, hs5, hp5, hb5⟩)
            have HEQ : Hid (L5 = L) := Lib.hid (PrR.unique hp5 HLL.out)
            have hb6 := hbr.trans (hb5.mono hbr.size)
            have rr6 := rowIs_below rr hb5 rr.lt
            obtain ⟨sa3, sc3, rfl, _⟩ := id hs5
            obtain ⟨⟨r0, r1, r2⟩, z0, z1, z2⟩ := poly3 rr6
            obtain ⟨⟨m0, m1, m2⟩, a1, a2⟩ := fillT rr6 hs5 hb6 (by omega) (hdP G).1 (hdP G).2.1
            have A0 := Lib.hid m0
            have A1 := Lib.hid m1
            have A2 := Lib.hid m2
            have A3 := Lib.hid a1
            have A4 := Lib.hid a2
            clear m0 m1 m2 a1 a2 hp5 hs5
            go_wp2_with fail
            exact bodyPost_ret (v := .tuple #[.agg #[.int .i64 (hdP G).1, .int .i64 (hdP G).2.1, .slice sa3 L5.length sc3], .int .i64 0]) (by simp [results, Try.results22, go_sem, A0.out, A1.out, A2.out]) rfl (by rw [HOL.out, ← HEQ.out]; exact ⟨_, rfl, A3.out, A4.out⟩)
end Go.Proofs.Ytbhgbifliihlbaa
namespace Go.Proofs.Ytbhgbifliihlbaa
open Go.RowKit Go.Sort EchM

def ngB (x : Int) : Bool := decide (0 ≤ x)
theorem ngout (x : Int) (w : World) : Calls Try.prog 102 #[.int .i64 x] w fun e w' => e = .returned (.bool (!ngB x)) ∧ w' = w := by
  have HB : Hid ((!ngB x) = decide (x < 0)) := Lib.hid (by
    rw [Bool.eq_iff_iff]
    simp [ngB])
  go_enter Try.func102, Try.ntmps102
  go_wp2
  go_ret
  exact ⟨by rw [HB.out]; rfl, rfl⟩
abbrev ngF : Value := .func (.func 102) #[] #[]

set_option maxHeartbeats 1000000 in
theorem ngidx_some (b off cap : Nat) (l : List Int) (w : World) (hl : l.length ≤ 1048576) (hT : Cs w b off l) (j : Nat) (hj : j < l.length) (hn : ngB l[j] = false) (hp : ∀ (i : Nat) (h : i < l.length), i < j → ngB l[i] = true) :
    Calls Try.prog 120 #[.slice (some ⟨b, off, none⟩) l.length cap, ngF] w fun e w' => e = .returned (.int .i64 j) ∧ w' = w := by
  have HN := Lib.hid hn
  have HP := Lib.hid hp
  clear hn hp
  go_enter Try.func120, Try.ntmps120
  go_wp2
  go_loop [8] (fun i => ∃ k : Nat, k ≤ j ∧ i = .int .i64 k) (fun i => l.length - (intOf i).toNat)
  case atStart => exact ⟨0, by omega, rfl⟩
  case round =>
    obtain ⟨k, hk, rfl⟩ := hrel
    have hlt : k < l.length := by omega
    have hlt' : (k : Int) < (l.length : Int) := by omega
    have c0 := hT k hlt
    by_cases e : k = j
    · subst e
      go_wp2_with fail
      ((with_reducible refine (ngout _ _).mono ?_); rintro e w1 ⟨rfl, rfl⟩)
      rw [HN.out]
      go_wp2
      go_ret
      exact ⟨rfl, rfl⟩
    · have h0 := Lib.hid (HP.out k hlt (by omega))
      go_wp2_with fail
      ((with_reducible refine (ngout _ _).mono ?_); rintro e w1 ⟨rfl, rfl⟩)
      rw [h0.out]
      go_wp2
      go_round
      case rel => exact ⟨k + 1, by omega, by go_num⟩
      case measure => simp [intOf]; omega

set_option maxHeartbeats 1000000 in
theorem ngidx_none (a : Option Addr) (cap : Nat) (l : List Int) (w : World) (hl : l.length ≤ 1048576) (hS : l = [] ∨ ∃ b off, a = some ⟨b, off, none⟩ ∧ b < w.heap.size ∧ Cs w b off l) (hp : ∀ (i : Nat) (h : i < l.length), ngB l[i] = true) :
    Calls Try.prog 120 #[.slice a l.length cap, ngF] w fun e w' => e = .returned (.int .i64 (-1)) ∧ w' = w := by
  have HP := Lib.hid hp
  clear hp
  go_enter Try.func120, Try.ntmps120
  go_wp2
  go_loop [8] (fun i => ∃ k : Nat, k ≤ l.length ∧ i = .int .i64 k) (fun i => l.length - (intOf i).toNat)
  case atStart => exact ⟨0, by omega, rfl⟩
  case round =>
    obtain ⟨k, hk, rfl⟩ := hrel
    by_cases hlt : k < l.length
    · have hlt' : (k : Int) < (l.length : Int) := by omega
      obtain ⟨b, off, rfl, hbb, hT⟩ : ∃ b off, a = some ⟨b, off, none⟩ ∧ b < w.heap.size ∧ Cs w b off l := by
        rcases hS with rfl | h
        · simp at hlt
        · exact h
      have c0 := hT k hlt
      have h0 := Lib.hid (HP.out k hlt)
      go_wp2_with fail
      ((with_reducible refine (ngout _ _).mono ?_); rintro e w1 ⟨rfl, rfl⟩)
      rw [h0.out]
      go_wp2
      go_round
      case rel => exact ⟨k + 1, by omega, by go_num⟩
      case measure => simp [intOf]; omega
    · obtain rfl : k = l.length := by omega
      go_wp2
      go_ret
      exact ⟨rfl, rfl⟩

theorem ngcontains (v : Value) (l : List Int) (w : World) (hl : l.length ≤ 1048576) (hS : Sl w v l) :
    Calls Try.prog 87 #[v, ngF] w fun e w' => e = .returned (.bool (!l.all ngB)) ∧ w' = w := by
  obtain ⟨a, cap, rfl, hc⟩ := hS
  cases h : l.all ngB
  · obtain ⟨j, hj, hn, hp⟩ := first_out ngB l h
    obtain ⟨b, off, rfl, hbb, hT⟩ : ∃ b off, a = some ⟨b, off, none⟩ ∧ b < w.heap.size ∧ Cs w b off l := by
      rcases hc with rfl | h
      · simp at hj
      · exact h
    clear h hc
    go_enter Try.func87, Try.ntmps87
    go_wp2_with fail
    ((with_reducible refine (ngidx_some b off cap l _ hl hT j hj hn hp).mono ?_); rintro e w1 ⟨rfl, rfl⟩)
    go_wp2
    go_ret
    exact ⟨rfl, rfl⟩
  · have hp : ∀ (i : Nat) (hi : i < l.length), ngB l[i] = true := fun i hi => List.all_eq_true.1 h _ (List.getElem_mem hi)
    clear h
    have HP := Lib.hid hp
    clear hp
    go_enter Try.func87, Try.ntmps87
    go_wp2_with fail
    ((with_reducible refine (ngidx_none a cap l _ hl hc HP.out).mono ?_); rintro e w1 ⟨rfl, rfl⟩)
    go_wp2
    go_ret
    exact ⟨rfl, rfl⟩

set_option maxHeartbeats 1000000 in
theorem iexps (d : Int) (v : Value) (l : List Int) (w : World) (hl : l.length ≤ 1048576) (hS : Sl w v l) :
    Calls Try.prog 58 #[.int .i64 d, v] w fun e w' => e = .returned (.bool (decide ((l.length : Int) = d) && l.all ngB)) ∧ w' = w := by
  obtain ⟨a, cap, rfl, _⟩ := id hS
  by_cases he : (l.length : Int) = d
  · have he1 : ((l.length : Int) == d) = true := by simp [he]
    have HD : Hid (decide ((l.length : Int) = d) = true) := Lib.hid (by simp [he])
    clear he
    go_enter Try.func58, Try.ntmps58
    go_wp2_with fail
    ((with_reducible refine (ngcontains _ l _ hl hS).mono ?_); rintro e w1 ⟨rfl, rfl⟩)
    go_wp2
    go_ret
    exact ⟨by rw [HD.out]; simp, rfl⟩
  · have he1 : ((l.length : Int) == d) = false := by simp [he]
    have HD : Hid (decide ((l.length : Int) = d) = false) := Lib.hid (by simp [he])
    clear he
    go_enter Try.func58, Try.ntmps58
    go_wp2
    go_ret
    exact ⟨by rw [HD.out]; rfl, rfl⟩
end Go.Proofs.Ytbhgbifliihlbaa
