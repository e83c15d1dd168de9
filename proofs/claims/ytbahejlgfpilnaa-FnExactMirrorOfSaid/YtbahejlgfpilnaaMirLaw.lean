/-
  The law of 'FnExactMirrorOf', walked. Conditions: the numbers of the matrix are bytes.
-/
import Derived.Test.YtbahejlgfpilnaaMrg
import Derived.Test.YtbahejlgfpilnaaVha
import Derived.Test.YtbahejlgfpilnaaKe
namespace Go.Proofs.Ytbahejlgfpilnaa
open Go.RowKit Go.Sort EchM

theorem totN_mul {c : Nat} : ∀ {S : List (List Int)}, (∀ r ∈ S, r.length ≤ c) → totR S ≤ c * S.length
  | [], _ => by simp [totR]
  | r :: S, h => by
    have h1 := h r (by simp)
    have h2 := totN_mul (S := S) fun x hx => h x (by simp [hx])
    show r.length + totR S ≤ c * (S.length + 1)
    rw [Nat.mul_add, Nat.mul_one, Nat.add_comm]
    exact Nat.add_le_add h2 h1

set_option maxRecDepth 8000 in
set_option maxHeartbeats 8000000 in
theorem law_Mir (p n : Int) (g : Nat → Nat → Int) (w : World) (hg : Byt g) :
    Calls Try.prog 4 #[.int .i64 p, .int .i64 n, mv g] w fun e w' => e = .returned (.bool true) ∧ Below w.heap.size w w' := by
  obtain ⟨hs1, hs2⟩ := mir_size (p := p) (n := n) hg
  have hst := totN_mul hs2
  have hSP := fun w => smir p n g w hg
  have hIM := fun w => imir p n g w hg
  obtain ⟨S, hS⟩ : ∃ S, mirS p n g = S := ⟨_, rfl⟩
  obtain ⟨c, hc⟩ : ∃ c, mirC p n g = c := ⟨_, rfl⟩
  rw [hS] at hs1 hs2 hst hSP hIM
  rw [hc] at hSP hIM
  have HSP := Lib.hid hSP
  have HIM := Lib.hid hIM
  have hso : S.length ≤ 1048576 := by omega
  have HSR2 : Hid (∀ r ∈ S, r.length ≤ 1048576) := Lib.hid (fun r hr => Nat.le_trans (hs2 r hr) (by decide))
  have HST : Hid (totR S ≤ 67108864) := Lib.hid (by omega)
  have hsk : 0 ≤ (totR S : Int) := by omega
  obtain ⟨Q, hQ⟩ : ∃ Q, (totR S : Int) = Q := ⟨_, rfl⟩
  have HQQ := Lib.hid hQ
  have hn1 : ¬ (1 + Q) < 0 := by omega
  have hn2 : ((1 + Q) != 1 + Q) = false := by simp
  have hcc : (c != c) = false := by simp
  clear hsk hQ hS hc hs1 hs2 hst hSP hIM
  obtain ⟨W, hW, rW, hbW⟩ : ∃ W, W = w.alloc (.cells #[.int .u8 (g 0 0), .int .u8 (g 0 1), .int .u8 (g 0 2), .int .u8 (g 1 0), .int .u8 (g 1 1), .int .u8 (g 1 2), .int .u8 (g 2 0), .int .u8 (g 2 1), .int .u8 (g 2 2)] 35) ∧ W.rowIs w.heap.size 35 9 (mF g) ∧ Below w.heap.size w W := ⟨_, rfl, mbox w g _, ebox1 _ _⟩
  clear hg
  unfold mv at HSP HIM
  unfold mv
  go_enter Try.func4, Try.ntmps4
  go_wp2_with fail
  rw [← hW]
  clear hW
  ((with_reducible refine (tomat_agg g _).mono ?_); rintro e w1 ⟨rfl, hb1⟩)
  go_wp2_with fail
  ((with_reducible refine (HSP.out _).mono ?_); rintro e w3 ⟨vs, rfl, hs, hb⟩)
  have hW2 := (hbW.trans (hb1.mono hbW.size)).trans (hb.mono (Nat.le_trans hbW.size hb1.size))
  obtain ⟨⟨c0, c1, c2⟩, ⟨c3, c4, c5⟩, c6, c7, c8⟩ := mcells (erow_below rW (hb1.trans (hb.mono hb1.size)) rW.lt)
  have rW3 := erow_below rW (hb1.trans (hb.mono hb1.size)) rW.lt
  have hwl : w.heap.size < w3.heap.size := rW3.lt
  obtain ⟨sa, sc, rfl, _⟩ := id hs
  clear hb1 hb rW hbW
  go_wp2_with fail
  ((with_reducible refine (tomat_agg g _).mono ?_); rintro e w4 ⟨rfl, hb4⟩)
  clear c0 c1 c2 c3 c4 c5 c6 c7 c8
  go_wp2_with fail
  ((with_reducible refine (HIM.out _).mono ?_); rintro e w5 ⟨v5, rfl, ho, hb⟩)
  obtain ⟨a5, c5, rfl⟩ := ho.shape
  have hKK := hb4.size
  have K5 := hb4.trans (hb.mono hb4.size)
  clear hb hb4
  go_wp2_with fail
  ((with_reducible refine (eqrows _ _ S _ hso HSR2.out ho.slR (hs.below K5)).mono ?_); rintro e w6 ⟨rfl, hb⟩)
  have ho10 := (ho.below hb).mono hKK
  have K6 := K5.trans (hb.mono K5.size)
  clear ho K5 hb
  go_wp2_with fail
  ((with_reducible refine (ho10.markT hso HSR2.out HST.out K6.size).mono ?_); rintro e w11 ⟨rfl, hM, hb⟩)
  have K11 := K6.trans hb
  have HHM := Lib.hid hM.held
  rw [HQQ.out] at HHM
  rw [HQQ.out]
  clear ho10 K6 hb
  go_wp2_with fail
  ((with_reducible refine HHM.out.mono ?_); rintro e w12 ⟨rfl, rfl⟩)
  clear HHM
  obtain ⟨⟨c0, c1, c2⟩, ⟨c3, c4, c5⟩, c6, c7, c8⟩ := mcells (erow_below rW3 K11 hwl)
  go_wp2_with fail
  ((with_reducible refine (tomat_agg g _).mono ?_); rintro e w13 ⟨rfl, hb⟩)
  clear c0 c1 c2 c3 c4 c5 c6 c7 c8
  have hM1 := hM.below hb
  have K13 := K11.trans (hb.mono K11.size)
  clear hM K11 hb
  go_wp2_with fail
  ((with_reducible refine (HIM.out _).mono ?_); rintro e w14 ⟨v6, rfl, ho, hb⟩)
  obtain ⟨a6, c6, rfl⟩ := ho.shape
  have hM2 := hM1.below hb
  have K14 := K13.trans (hb.mono K13.size)
  clear hM1 K13 hb
  go_wp2_with fail
  ((with_reducible refine (eqrows _ _ S _ hso HSR2.out ho.slR (hs.below K14)).mono ?_); rintro e w15 ⟨rfl, hb⟩)
  have hM3 := hM2.below hb
  have K15 := K14.trans (hb.mono K14.size)
  have HHM := Lib.hid hM3.held
  rw [HQQ.out] at HHM
  clear hM2 K14 hb ho
  go_wp2_with fail
  ((with_reducible refine HHM.out.mono ?_); rintro e w16 ⟨rfl, rfl⟩)
  have hend := hW2.trans (K15.mono hW2.size)
  go_wp2
  go_ret
  exact ⟨rfl, hend⟩
end Go.Proofs.Ytbahejlgfpilnaa
