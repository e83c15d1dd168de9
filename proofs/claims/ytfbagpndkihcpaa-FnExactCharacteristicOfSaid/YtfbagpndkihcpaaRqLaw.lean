/-
  The law of 'FnExactCharacteristicOf', walked. Conditions: the numbers are bytes.
-/
import Derived.Test.YtfbagpndkihcpaaRp
import Derived.Test.YtfbagpndkihcpaaJt
namespace Go.Proofs.Ytfbagpndkihcpaa
open Go.RowKit Go.Sort EchM

set_option maxRecDepth 8000 in
set_option maxHeartbeats 8000000 in
theorem law_CharacteristicOf (p n : Int) (g : Nat → Nat → Int) (w : World) (hg : Byt g) :
    Calls Try.prog 7 #[.int .i64 p, .int .i64 n, mv g] w fun e w' => e = .returned (.bool true) ∧ Below w.heap.size w w' := by
  obtain ⟨W, hW, rW, hbW⟩ : ∃ W, W = w.alloc (.cells #[.int .u8 (g 0 0), .int .u8 (g 0 1), .int .u8 (g 0 2), .int .u8 (g 1 0), .int .u8 (g 1 1), .int .u8 (g 1 2), .int .u8 (g 2 0), .int .u8 (g 2 1), .int .u8 (g 2 2)] 34) ∧ W.rowIs w.heap.size 34 9 (mF g) ∧ Below w.heap.size w W := ⟨_, rfl, mbox w g _, ebox1 _ _⟩
  obtain ⟨⟨S, c⟩, hr⟩ : ∃ o, rChar p n g = o := ⟨_, rfl⟩
  have hso : S.length ≤ 1048576 := by have h := rChar_len p n g; rw [hr] at h; exact Nat.le_trans h (by decide)
  have HSP := Lib.hid (fun (w' : World) => by have h := sChar p n g w' hg; rw [hr] at h; exact h)
  have HIM := Lib.hid (fun (w' : World) => by have h := iChar p n g w' hg; rw [hr] at h; exact h)
  clear hr hg
  have hcc : (c != c) = false := by simp
  have hn1 : ¬ (1 + (S.length : Int)) < 0 := by omega
  have hn2 : ((1 + (S.length : Int)) != 1 + (S.length : Int)) = false := by simp
  unfold mv
  go_enter Try.func7, Try.ntmps7
  go_wp2_with fail
  rw [← hW]
  clear hW
  ((with_reducible refine (tomat_agg g _).mono ?_); rintro e w1 ⟨rfl, hb1⟩)
  go_wp2_with fail
  ((with_reducible refine (HSP.out _).mono ?_); rintro e w2 ⟨vs, rfl, hs, hb2⟩)
  obtain ⟨sa, sc, rfl, _⟩ := id hs
  have hW2 := hb1.trans (hb2.mono hb1.size)
  have rW2 := erow_below rW hW2 rW.lt
  have hw2 := hbW.trans (hW2.mono hbW.size)
  clear hb1 hb2 hW2 hbW rW
  obtain ⟨⟨c0, c1, c2⟩, ⟨c3, c4, c5⟩, c6, c7, c8⟩ := mcells rW2
  go_wp2_with fail
  ((with_reducible refine (tomat_agg g _).mono ?_); rintro e w3 ⟨rfl, hb3⟩)
  go_wp2_with fail
  ((with_reducible refine (HIM.out _).mono ?_); rintro e w4 ⟨v4, rfl, ho4, hb4⟩)
  obtain ⟨a4, k4, rfl⟩ := ho4.shape
  have hq3 := hb3.size
  have K4 := hb3.trans (hb4.mono hb3.size)
  clear hb3 hb4 c0 c1 c2 c3 c4 c5 c6 c7 c8
  go_wp2_with fail
  ((with_reducible refine (neqI_same _ _ S _ hso ho4.sl (hs.below K4)).mono ?_); rintro e w5 ⟨rfl, hb5⟩)
  have K5 := K4.trans (hb5.mono K4.size)
  have ho5 := (ho4.below hb5).mono hq3
  clear K4 ho4 hb5
  go_wp2_with fail
  ((with_reducible refine (ho5.mark hso K5.size).mono ?_); rintro e w6 ⟨rfl, hM6, hb6⟩)
  have K6 := K5.trans hb6
  clear K5 ho5 hb6
  go_wp2_with fail
  ((with_reducible refine (hM6.held hso).mono ?_); rintro e w7 ⟨rfl, rfl⟩)
  obtain ⟨⟨c0, c1, c2⟩, ⟨c3, c4, c5⟩, c6, c7, c8⟩ := mcells (erow_below rW2 K6 rW2.lt)
  go_wp2_with fail
  ((with_reducible refine (tomat_agg g _).mono ?_); rintro e w8 ⟨rfl, hb8⟩)
  have K8 := K6.trans (hb8.mono K6.size)
  have hM8 := hM6.below hb8
  clear K6 hM6 hb8 c0 c1 c2 c3 c4 c5 c6 c7 c8
  go_wp2_with fail
  ((with_reducible refine (HIM.out _).mono ?_); rintro e w9 ⟨v9, rfl, ho9, hb9⟩)
  obtain ⟨a9, k9, rfl⟩ := ho9.shape
  have K9 := K8.trans (hb9.mono K8.size)
  have hM9 := hM8.below hb9
  clear K8 hM8 hb9
  go_wp2_with fail
  ((with_reducible refine (neqI_same _ _ S _ hso ho9.sl (hs.below K9)).mono ?_); rintro e w10 ⟨rfl, hb10⟩)
  have K10 := K9.trans (hb10.mono K9.size)
  have hM10 := hM9.below hb10
  clear K9 hM9 hb10 ho9
  go_wp2_with fail
  ((with_reducible refine (hM10.held hso).mono ?_); rintro e w11 ⟨rfl, rfl⟩)
  have hend := hw2.trans (K10.mono hw2.size)
  go_wp2
  go_ret
  exact ⟨rfl, hend⟩
end Go.Proofs.Ytfbagpndkihcpaa
