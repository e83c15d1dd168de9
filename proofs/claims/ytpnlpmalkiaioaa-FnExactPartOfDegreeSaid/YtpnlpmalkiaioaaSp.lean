/-
  WALKS: 'spec.PartOfDegree'. Conditions: as each theorem states.
-/
import Derived.Test.YtpnlpmalkiaioaaIp
namespace Go.Proofs.Ytpnlpmalkiaioaa
open Go.RowKit Go.Sort

theorem specPart_nil (p d n : Int) (a : Option Addr) (cap : Nat) (w : World) :
    Calls Try.prog 57 #[.agg #[.int .i64 p, .int .i64 d, .slice a 0 cap], .int .i64 n] w fun e w' =>
      ∃ v', e = .returned (.agg #[.int .i64 p, .int .i64 d, v']) ∧ OwnP w' w.heap.size v' [] ∧ Below w.heap.size w w' := by
  obtain ⟨W, hW, hbW, ⟨hWs1, hWs2⟩, rx, rr⟩ := boxes2 w p d (.slice a 0 cap)
  obtain ⟨⟨c0, c1, c2⟩, _⟩ := poly3 rx
  go_enter Try.func57, Try.ntmps57
  go_wp2_with fail
  rw [← hW]
  clear hW
  ((with_reducible refine (empty_any p d W).mono ?_); rintro e w1 ⟨rfl, hown, hb1⟩)
  clear c0 c1 c2
  have rx1 := rowIs_below rx hb1 rx.lt
  have rr1 := rowIs_below rr hb1 rr.lt
  have hbw1 := hbW.trans (hb1.mono hbW.size)
  have s1 := hb1.size
  have hbB := hbw1.trans ((box1 w1 (.cells #[.int .i64 p, .int .i64 d, .slice (some ⟨W.heap.size + 1, 0, none⟩) 0 0] 25)).mono hbw1.size)
  have rrB := rr1.alloc (.cells #[.int .i64 p, .int .i64 d, .slice (some ⟨W.heap.size + 1, 0, none⟩) 0 0] 25)
  have hoB : OwnP (w1.alloc (.cells #[.int .i64 p, .int .i64 d, .slice (some ⟨W.heap.size + 1, 0, none⟩) 0 0] 25)) W.heap.size (.slice (some ⟨W.heap.size + 1, 0, none⟩) 0 0) [] := owns_belowT hown (box1 _ _)
  obtain ⟨⟨r0, r1, r2⟩, z0, z1, z2⟩ := poly3 rrB
  have xo : ∀ o, (w1.alloc o).cell? ⟨w.heap.size, 2, none⟩ = some (.slice a 0 cap) := fun o => ((box1 w1 o).cell rx1.lt).trans (poly3 rx1).1.2.2
  obtain ⟨a0, a1, a2, a3, a4⟩ := fill_box rrB hoB hbW.size hbB (by omega) p d
  have A0 := Lib.hid a0
  have A1 := Lib.hid a1
  have A2 := Lib.hid a2
  have A3 := Lib.hid a3
  have A4 := Lib.hid a4
  clear a0 a1 a2 a3 a4 hown hoB
  go_wp2
  refine wp_loop_rounds 1 ?_
  rw [rounds_succ]
  go_wp2
  exact bodyPost_ret (v := .agg #[.int .i64 p, .int .i64 d, .slice (some ⟨W.heap.size + 1, 0, none⟩) 0 0]) (by simp [results, Try.results57, go_sem, A0.out, A1.out, A2.out]) rfl ⟨_, rfl, A3.out, A4.out⟩

theorem specPartL (p d n : Int) (v : Value) (ts : List Tm) (w : World) (hl : ts.length ≤ 1048576) (hS : SliceT w v ts) (hby : ∀ t ∈ ts, tmByte t) :
    Calls Try.prog 57 #[.agg #[.int .i64 p, .int .i64 d, v], .int .i64 n] w fun e w' =>
      ∃ v', e = .returned (.agg #[.int .i64 p, .int .i64 d, v']) ∧ OwnP w' w.heap.size v' (ts.filter (sumIs n)) ∧ Below w.heap.size w w' := by
  obtain ⟨a, cap, rfl, h | ⟨b, off, rfl, hlt, hT⟩⟩ := hS
  · subst h
    exact specPart_nil p d n a cap w
  · exact specPart_some p d n b off cap ts w hl hlt hT hby

set_option maxRecDepth 8000 in
set_option maxHeartbeats 4000000 in
theorem specPart (p d n : Int) (v : Value) (ts : List Tm) (w : World) (hl : ts.length ≤ 1048576) (hS : SliceT w v ts) (hby : ∀ t ∈ ts, tmByte t) :
    Calls Try.prog 25 #[.agg #[.int .i64 p, .int .i64 d, v], .int .i64 n] w (ResO w (partO p d ts n)) := by
  obtain ⟨a, cap, rfl, _⟩ := id hS
  obtain ⟨W, hW, hbW, ⟨hWs1, hWs2⟩, rx, rr⟩ := boxes2 w p d (.slice a ts.length cap)
  have hSW := hS.below hbW
  obtain ⟨⟨c0, c1, c2⟩, _⟩ := poly3 rx
  go_enter Try.func25, Try.ntmps25
  go_wp2_with fail
  rw [← hW]
  clear hW
  ((with_reducible refine (specIs_any p d _ ts W hl hSW hby).mono ?_); rintro e w1 ⟨rfl, hb1⟩)
  clear c0 c1 c2
  have rx1 := rowIs_below rx hb1 rx.lt
  have rr1 := rowIs_below rr hb1 rr.lt
  have hbw1 := hbW.trans (hb1.mono hbW.size)
  have hS1 := hSW.below hb1
  have s1 := hb1.size
  obtain ⟨⟨c0, c1, c2⟩, _⟩ := poly3 rx1
  obtain ⟨⟨r0, r1, r2⟩, z0, z1, z2⟩ := poly3 rr1
  obtain ⟨a0, a1, a2, a3, a4⟩ := fill_box (base := w.heap.size) rr1 (ownP_nil w1 w.heap.size) (Nat.le_refl _) hbw1 (by omega) 0 0
  have A0 := Lib.hid a0
  have A1 := Lib.hid a1
  have A2 := Lib.hid a2
  have A3 := Lib.hid a3
  have A4 := Lib.hid a4
  clear a0 a1 a2 a3 a4 rx rr
  cases hB : isPolyB p d ts
  · have HO : Hid (partO p d ts n = noP 1) := Lib.hid (by unfold partO; rw [if_neg (by rw [hB]; simp)])
    clear hB
    go_wp2_with fail
    rw [HO.out]
    exact bodyPost_ret (v := .tuple #[.agg #[.int .i64 0, .int .i64 0, .slice none 0 0], .int .i64 1]) (by simp [results, Try.results25, go_sem, A0.out, A1.out, A2.out]) rfl ⟨_, rfl, A3.out, A4.out⟩
  · cases hD : (decide (0 ≤ n) && decide (n ≤ 12))
    · have HO : Hid (partO p d ts n = noP 2) := Lib.hid (by unfold partO; rw [if_pos hB, if_neg (by simpa using hD)])
      have hD' := Lib.hid hD
      clear hB hD
      go_wp2_with fail
      ((with_reducible refine (sin_is n 0 12 w1 _ hD'.out).mono ?_); rintro e w2 ⟨rfl, rfl⟩)
      go_wp2_with fail
      rw [HO.out]
      exact bodyPost_ret (v := .tuple #[.agg #[.int .i64 0, .int .i64 0, .slice none 0 0], .int .i64 2]) (by simp [results, Try.results25, go_sem, A0.out, A1.out, A2.out]) rfl ⟨_, rfl, A3.out, A4.out⟩
    · have HO : Hid (partO p d ts n = ⟨p, d, ts.filter (sumIs n), 0⟩) := Lib.hid (by unfold partO; rw [if_pos hB, if_pos (by simpa using hD)])
      have hD' := Lib.hid hD
      clear hB hD A0 A1 A2 A3 A4
      go_wp2_with fail
      ((with_reducible refine (sin_is n 0 12 w1 _ hD'.out).mono ?_); rintro e w2 ⟨rfl, rfl⟩)
      go_wp2_with fail
      ((with_reducible refine (specPartL p d n _ ts w1 hl hS1 hby).mono ?_); rintro e w2 ⟨v2, rfl, ho2, hb2⟩)
      obtain ⟨sa2, sc2, rfl⟩ := owns_slice ho2
      have rr2 := rowIs_below rr1 hb2 rr1.lt
      obtain ⟨a0, a1, a2, a3, a4⟩ := fill_box rr2 ho2 hbw1.size (hbw1.trans (hb2.mono hbw1.size)) (by omega) p d
      have A0 := Lib.hid a0
      have A1 := Lib.hid a1
      have A2 := Lib.hid a2
      have A3 := Lib.hid a3
      have A4 := Lib.hid a4
      clear a0 a1 a2 a3 a4 c0 c1 c2 r0 r1 r2 z0 z1 z2 ho2
      obtain ⟨⟨r0, r1, r2⟩, z0, z1, z2⟩ := poly3 rr2
      go_wp2_with fail
      rw [HO.out]
      exact bodyPost_ret (v := .tuple #[.agg #[.int .i64 p, .int .i64 d, .slice sa2 (ts.filter (sumIs n)).length sc2], .int .i64 0]) (by simp [results, Try.results25, go_sem, A0.out, A1.out, A2.out]) rfl ⟨_, rfl, A3.out, A4.out⟩
end Go.Proofs.Ytpnlpmalkiaioaa
