/-
  WALKS: 'impl.DerivativeOf', 'spec.DerivativeOf'. Conditions: as each theorem states.
-/
import Derived.Test.YtpnlpmalkiaioaaDs
import Derived.Test.YtpnlpmalkiaioaaIns
namespace Go.Proofs.Ytpnlpmalkiaioaa
open Go.RowKit Go.Sort Go.Maps

theorem der_ex {p d i : Int} {ts : List Tm} (hV : Valid p d ts) : ∃ L, IsP p L (der p i ts) := by
  have key : ∀ k, k ≤ ts.length → ∃ O, IsP p O (der p i (ts.take k)) := fun k => by
    induction k with
    | zero => intro _; exact ⟨[], (IsP.nil p).congr fun e _ => by simp [der, atL]⟩
    | succ k ih =>
      intro hk
      obtain ⟨O, hO⟩ := ih (by omega)
      have hlt : k < ts.length := by omega
      obtain ⟨hm, _⟩ := hV.mem ts[k] (List.getElem_mem _)
      by_cases h0 : eAt i (tmE ts[k]) = 0
      · exact ⟨O, hO.congr fun e he => (der_step0 hV.asc k hlt h0 e he).symm⟩
      · have h1 := (eAt_nonneg i hm.1).1
        exact ⟨_, (hO.put hV.p2 (decE_mono i (e := tmE ts[k]) hm (by omega)) (eAt i (tmE ts[k]) * ts[k].2.2.2)).congr fun e _ => (der_step1 hV.asc k hlt e).symm⟩
  obtain ⟨O, hO⟩ := key ts.length (Nat.le_refl _)
  rw [List.take_length] at hO
  exact ⟨O, hO⟩

/-- What 'DerivativeOf' gives. -/
def DerO (p d i : Int) (ts : List Tm) (o : OutP) : Prop :=
  (isPolyB p d ts = false ∧ o = noP 1) ∨ (isPolyB p d ts = true ∧ (decide (0 ≤ i) && decide (i ≤ d - 1)) = false ∧ o = noP 2) ∨
    (isPolyB p d ts = true ∧ (decide (0 ≤ i) && decide (i ≤ d - 1)) = true ∧ ∃ L, IsP p L (der p i ts) ∧ o = ⟨p, d, L, 0⟩)
theorem derO_ex (p d i : Int) (ts : List Tm) (hby : ∀ t ∈ ts, tmByte t) : ∃ o, DerO p d i ts o := by
  cases hB : isPolyB p d ts
  · exact ⟨_, .inl ⟨hB, rfl⟩⟩
  · cases hD : (decide (0 ≤ i) && decide (i ≤ d - 1))
    · exact ⟨_, .inr (.inl ⟨hB, hD, rfl⟩)⟩
    · obtain ⟨L, hL⟩ := der_ex (i := i) (valid_of hB hby)
      exact ⟨_, .inr (.inr ⟨hB, hD, L, hL, rfl⟩)⟩
theorem derO_len {p d i : Int} {ts : List Tm} {o : OutP} (h : DerO p d i ts o) : o.S.length ≤ 1048576 := by
  rcases h with ⟨_, rfl⟩ | ⟨_, _, rfl⟩ | ⟨_, _, L, hL, rfl⟩
  · simp [noP]
  · simp [noP]
  · exact Nat.le_trans hL.len (by omega)

set_option maxRecDepth 8000 in
set_option maxHeartbeats 4000000 in
theorem specDer (p d i : Int) (v : Value) (ts : List Tm) (w : World) (hl : ts.length ≤ 1048576) (hS : SliceT w v ts) (hby : ∀ t ∈ ts, tmByte t) (o : OutP) (ho : DerO p d i ts o) :
    Calls Try.prog 27 #[.agg #[.int .i64 p, .int .i64 d, v], .int .i64 i] w (ResO w o) := by
  obtain ⟨a, cap, rfl, _⟩ := id hS
  obtain ⟨W, hW, hbW, ⟨hWs1, hWs2⟩, rx, rr⟩ := boxes2 w p d (.slice a ts.length cap)
  have hSW := hS.below hbW
  obtain ⟨⟨c0, c1, c2⟩, _⟩ := poly3 rx
  go_enter Try.func27, Try.ntmps27
  go_wp2_with fail
  rw [← hW]
  clear hW
  ((with_reducible refine (specIs_any p d _ ts W hl hSW hby).mono ?_); rintro e w1 ⟨rfl, hb1⟩)
  clear c0 c1 c2
  have rx1 := rowIs_below rx hb1 rx.lt
  have rr1 := rowIs_below rr hb1 rr.lt
  have hbw1 := hbW.trans (hb1.mono hbW.size)
  have hS1 := hSW.below hb1
  have s1 := hb1.size
  obtain ⟨⟨c0, c1, c2⟩, _⟩ := poly3 rx1
  obtain ⟨⟨r0, r1, r2⟩, z0, z1, z2⟩ := poly3 rr1
  obtain ⟨a0, a1, a2, a3, a4⟩ := fill_box (base := w.heap.size) rr1 (ownP_nil w1 w.heap.size) (Nat.le_refl _) hbw1 (by omega) 0 0
  have A0 := Lib.hid a0
  have A1 := Lib.hid a1
  have A2 := Lib.hid a2
  have A3 := Lib.hid a3
  have A4 := Lib.hid a4
  clear a0 a1 a2 a3 a4 rx rr
  rcases ho with ⟨hB, rfl⟩ | ⟨hB, hD, rfl⟩ | ⟨hB, hD, L, hL, rfl⟩
  · rw [hB]
    clear hB
    go_wp2_with fail
    exact bodyPost_ret (v := .tuple #[.agg #[.int .i64 0, .int .i64 0, .slice none 0 0], .int .i64 1]) (by simp [results, Try.results27, go_sem, A0.out, A1.out, A2.out]) rfl ⟨_, rfl, A3.out, A4.out⟩
  · have hv := valid_of hB hby
    have hd1 := hv.d1
    have hd3 := hv.d3
    rw [hB]
    have hD' := Lib.hid hD
    clear hB hD hv
    go_wp2_with fail
    ((with_reducible refine (sin_is i 0 (d - 1) w1 _ hD'.out).mono ?_); rintro e w2 ⟨rfl, rfl⟩)
    go_wp2_with fail
    exact bodyPost_ret (v := .tuple #[.agg #[.int .i64 0, .int .i64 0, .slice none 0 0], .int .i64 2]) (by simp [results, Try.results27, go_sem, A0.out, A1.out, A2.out]) rfl ⟨_, rfl, A3.out, A4.out⟩
  · have hv := valid_of hB hby
    have hd1 := hv.d1
    have hd3 := hv.d3
    have hi : i = 0 ∨ i = 1 ∨ i = 2 := by simp at hD; omega
    rw [hB]
    have hD' := Lib.hid hD
    clear hB hD A0 A1 A2 A3 A4
    go_wp2_with fail
    ((with_reducible refine (sin_is i 0 (d - 1) w1 _ hD'.out).mono ?_); rintro e w2 ⟨rfl, rfl⟩)
    go_wp2_with fail
    ((with_reducible refine (specDerL p d i _ ts w1 hl hS1 hv hi).mono ?_); rintro e w2 ⟨v2, L2, rfl, ho2, hL2, hb2⟩)
    obtain rfl : L2 = L := hL2.unique hL
    obtain ⟨sa2, sc2, rfl⟩ := owns_slice ho2
    have rr2 := rowIs_below rr1 hb2 rr1.lt
    obtain ⟨a0, a1, a2, a3, a4⟩ := fill_box rr2 ho2 hbw1.size (hbw1.trans (hb2.mono hbw1.size)) (by omega) p d
    have A0 := Lib.hid a0
    have A1 := Lib.hid a1
    have A2 := Lib.hid a2
    have A3 := Lib.hid a3
    have A4 := Lib.hid a4
    clear a0 a1 a2 a3 a4 c0 c1 c2 r0 r1 r2 z0 z1 z2 ho2 hi
    obtain ⟨⟨r0, r1, r2⟩, z0, z1, z2⟩ := poly3 rr2
    go_wp2_with fail
    exact bodyPost_ret (v := .tuple #[.agg #[.int .i64 p, .int .i64 d, .slice sa2 L2.length sc2], .int .i64 0]) (by simp [results, Try.results27, go_sem, A0.out, A1.out, A2.out]) rfl ⟨_, rfl, A3.out, A4.out⟩

/-- A map of coefficients in the making, beside the boxes of the argument and the result. -/
structure MapSt (w wr : World) (b n a r : Nat) (p d : Int) (xv : Value) (D : DataW Unit) : Prop where
  map : MapE wr b n D
  arg : wr.rowIs a 25 3 (polyF p d xv)
  res : wr.rowIs r 25 3 (polyF 0 0 (.slice none 0 0))
  below : Below w.heap.size w wr
  b1 : w.heap.size ≤ b
  r1 : w.heap.size ≤ r
theorem row_not_map {w : World} {a b n m : Nat} {t : TypeId} {f : Nat → Value} {D : DataW Unit} (h : w.rowIs a t n f) (h' : MapE w b m D) : a ≠ b := by
  intro e
  subst e
  obtain ⟨c, hc, _⟩ := h
  obtain ⟨es, clock, hb, _⟩ := h'
  rw [hc] at hb
  simp at hb
theorem MapSt.later {w wr w1 : World} {b n a r : Nat} {p d : Int} {xv : Value} {D : DataW Unit} (h : MapSt w wr b n a r p d xv D) (hb : Below wr.heap.size wr w1) : MapSt w w1 b n a r p d xv D :=
  ⟨h.map.kept (row := none) ⟨hb.os, hb.tape, hb.output, hb.size, fun k hk _ => hb.block k hk⟩ (by simp), rowIs_below h.arg hb h.arg.lt, rowIs_below h.res hb h.res.lt, h.below.trans (hb.mono h.below.size), h.b1, h.r1⟩
theorem MapSt.wrote {w wr w1 : World} {b n n' a r : Nat} {p d : Int} {xv : Value} {D D' : DataW Unit} (h : MapSt w wr b n a r p d xv D) (hg : wr.grownBy w1 (some b)) (hm : MapE w1 b n' D') : MapSt w w1 b n' a r p d xv D' :=
  ⟨hm, h.arg.of_block (hg.block a h.arg.lt (by simpa using row_not_map h.arg h.map)), h.res.of_block (hg.block r h.res.lt (by simpa using row_not_map h.res h.map)), h.below.grown hg h.below.size (fun k hk => by simp at hk; have := h.b1; omega), h.b1, h.r1⟩
end Go.Proofs.Ytpnlpmalkiaioaa
