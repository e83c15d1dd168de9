/-
  WALKS: 'spec.l01One'. Conditions: as each theorem states.
-/
import Derived.Test.YtbahejlgfpilnaaIsp
import Derived.Deep.RegionHeld3
namespace Go.Proofs.Ytbahejlgfpilnaa
open Go.RowKit Go.Sort Go.Maps

theorem IsP.one {p : Int} (hp : 2 ≤ p) {e : Int × Int × Int} (he : mono12 e) (v : Int) : IsP p (putL p [] e v) (fun a => if a = e then v % p else 0) :=
  ((IsP.nil p).put hp he v).congr fun a _ => by simp

set_option maxRecDepth 8000 in
set_option maxHeartbeats 4000000 in
theorem one_any (p d x y z val : Int) (w : World) (h2 : 2 ≤ p) (h13 : p ≤ 13) (he : byte3 (x, y, z)) (v0 : 0 ≤ val) (v1 : val ≤ 100000000) :
    Calls Try.prog 85 #[.int .i64 p, .int .i64 d, .agg #[.int .u8 x, .int .u8 y, .int .u8 z], .int .i64 val] w fun e w' =>
      ∃ v', e = .returned (.agg #[.int .i64 p, .int .i64 d, v']) ∧ OwnP w' w.heap.size v' (putL p [] (x, y, z) val) ∧ Below w.heap.size w w' := by
  obtain ⟨W, hW, hbW, ⟨hWs1, hWs2⟩, re, rr⟩ : ∃ W, W = (w.alloc (.cells #[.int .u8 x, .int .u8 y, .int .u8 z] 107)).alloc (.cells #[.int .i64 0, .int .i64 0, .slice none 0 0] 42) ∧ Below w.heap.size w W ∧ (W.heap.size ≤ w.heap.size + 2 ∧ w.heap.size + 2 ≤ W.heap.size) ∧
      W.rowIs w.heap.size 107 3 (expsF x y z) ∧ W.rowIs (w.heap.size + 1) 42 3 (polyF 0 0 (.slice none 0 0)) := by
    refine ⟨_, rfl, box2 _ _ _, ⟨by simp, by simp⟩, ?_, ?_⟩
    · refine World.rowIs.alloc (World.rowIs_alloc w #[Value.int .u8 x, .int .u8 y, .int .u8 z] _ _ (fun i hi => ?_)) _
      simp at hi; match i, hi with | 0, _ => rfl | 1, _ => rfl | 2, _ => rfl
    · have := World.rowIs_alloc (w.alloc (.cells #[.int .u8 x, .int .u8 y, .int .u8 z] 107)) #[Value.int .i64 0, .int .i64 0, .slice none 0 0] 42 (polyF 0 0 (.slice none 0 0)) (fun i hi => by simp at hi; match i, hi with | 0, _ => rfl | 1, _ => rfl | 2, _ => rfl)
      simpa using this
  have KK := Lib.hid (fun w' (h : Below W.heap.size W w') => show (w'.cell? ⟨w.heap.size, 0, none⟩ = some (.int .u8 x) ∧ w'.cell? ⟨w.heap.size, 1, none⟩ = some (.int .u8 y) ∧ w'.cell? ⟨w.heap.size, 2, none⟩ = some (.int .u8 z)) from
    ⟨(rowIs_below re h re.lt).cell (i := 0) (by omega), (rowIs_below re h re.lt).cell (i := 1) (by omega), (rowIs_below re h re.lt).cell (i := 2) (by omega)⟩)
  go_enter Try.func85, Try.ntmps85
  go_upto_region 1 with fail
  rw [← hW]
  clear hW
  obtain ⟨⟨r0, r1, r2⟩, y0, y1, y2⟩ := poly3 rr
  go_region_held3 (fun w' => (w'.cell? ⟨w.heap.size, 0, none⟩ = some (.int .u8 x) ∧ w'.cell? ⟨w.heap.size, 1, none⟩ = some (.int .u8 y) ∧ w'.cell? ⟨w.heap.size, 2, none⟩ = some (.int .u8 z)))
    (first | with_reducible exact KK.out _ (Below.same _).drew | with_reducible exact KK.out _ HB1 | with_reducible exact KK.out _ HB2 | go_keep)
    (first
    | (go_at_call 86; (with_reducible refine (empty_any p d _).mono ?_); rintro e w1 ⟨rfl, hown, hb1⟩; have HB1 : Below W.heap.size W w1 := (Below.same _).drew.trans hb1)
    | (go_at_call 87; (with_reducible refine (specPut p d _ [] (fun _ => 0) x y z val _ (OwnP.slice (S := []) hown) (IsP.nil p) h2 h13 he v0 v1).mono ?_); rintro e w2 ⟨v2, rfl, ho2, hb2⟩; have HB2 : Below W.heap.size W w2 := HB1.trans (hb2.mono HB1.size); have rr2 := rowIs_below rr HB2 rr.lt; obtain ⟨⟨e0, e1, e2⟩, f0, f1, f2⟩ := poly3 rr2; obtain ⟨sa2, sc2, rfl⟩ := owns_slice ho2; obtain ⟨a0, a1, a2, a3, a4⟩ := fill_box (w := w) rr2 (owns_low ho2 (Nat.le_trans hbW.size HB1.size)) (Nat.le_refl _) (hbW.trans (HB2.mono hbW.size)) (by omega) p d; have A0 := Lib.hid a0; have A1 := Lib.hid a1; have A2 := Lib.hid a2; obtain ⟨m0, m1, m2⟩ := KK.out _ HB2; have A3 := Lib.hid a3; have A4 := Lib.hid a4; clear a0 a1 a2 a3 a4))
  go_wp2_with fail
  exact bodyPost_ret (v := .agg #[.int .i64 p, .int .i64 d, .slice sa2 (putL p [] (x, y, z) val).length sc2]) (by simp [results, Try.results85, go_sem, A0.out, A1.out, A2.out]) rfl ⟨_, rfl, A3.out, A4.out⟩
end Go.Proofs.Ytbahejlgfpilnaa
