/-
  CENTRES: the program's searches and its choice of Elements. Conditions: as each theorem states.
-/
import Derived.Test.YtpbdbgajohacoaaCb
namespace Go.Proofs.Ytpbdbgajohacoaa
open Go.RowKit Go.Sort EchM

/-- What the function value 'loop.example/g01285/impl.CentreOf$1$1' owes, in every world that has kept what lay there. -/
def cdJ (w : World) (c1 c2 : Value) (f : (Nat → Nat → Int) → Bool) (L : List (Nat → Nat → Int)) : Prop :=
  ∀ w', Below w.heap.size w w' → ∀ x ∈ L, Calls Try.prog 55 #[(.agg #[.int .u8 (x 0 0), .int .u8 (x 0 1), .int .u8 (x 0 2), .int .u8 (x 1 0), .int .u8 (x 1 1), .int .u8 (x 1 2), .int .u8 (x 2 0), .int .u8 (x 2 1), .int .u8 (x 2 2)]), c1, c2] w' fun e w'' => e = .returned (.bool (f x)) ∧ Below w'.heap.size w' w''
theorem cdJ.below {w w1 : World} {c1 c2 : Value} {f : (Nat → Nat → Int) → Bool} {L : List (Nat → Nat → Int)} (h : cdJ w c1 c2 f L) (hb : Below w.heap.size w w1) : cdJ w1 c1 c2 f L := fun w' hb' => h w' (hb.trans (hb'.mono hb.size))

set_option maxRecDepth 8000 in
set_option maxHeartbeats 4000000 in
theorem cdindex (c1 c2 : Value) (f : (Nat → Nat → Int) → Bool) (v : Value) (L : List (Nat → Nat → Int)) (w : World) (hl : L.length ≤ 1048576) (hS : SlM w v L) (hJ : cdJ w c1 c2 f L) :
    Calls Try.prog 79 #[v, .func (.func 55) #[] #[c1, c2]] w fun e w' => e = .returned (.int .i64 (firstM f L)) ∧ Below w.heap.size w w' := by
  obtain ⟨a, cap, rfl, hSc⟩ := id hS
  have HJ := Lib.hid hJ
  clear hJ
  go_enter Try.func79, Try.ntmps79
  go_wp2_with fail
  go_loopw [8] (fun i wr => ∃ k : Nat, k ≤ L.length ∧ i = .int .i64 k ∧ Hid (firstM f L = firstA f (L.drop k) k) ∧ Below w.heap.size w wr) (fun i _ => L.length - (intOf i).toNat)
  case atStart => exact ⟨0, by omega, rfl, Lib.hid rfl, Below.refl _ _⟩
  case round =>
    obtain ⟨k, hk, rfl, HU, hb⟩ := hrel
    by_cases hlt : k < L.length
    · have hlt' : (k : Int) < (L.length : Int) := by omega
      obtain ⟨b, off, rfl, hbb, hT⟩ : ∃ b off, a = some ⟨b, off, none⟩ ∧ b < w.heap.size ∧ MatsW w b off L := by
        rcases hSc with rfl | h
        · simp at hlt
        · exact h
      obtain ⟨⟨a0, a1, a2⟩, ⟨a3, a4, a5⟩, a6, a7, a8⟩ := (hT.below hb hbb).nine hlt
      have HC := Lib.hid (HJ.out wr hb L[k] (List.getElem_mem hlt))
      have HS := Lib.hid (HU.out.trans (firstA_step hlt))
      generalize L[k] = x at *
      go_wp2_with fail
      ((with_reducible refine HC.out.mono ?_); rintro e w1 ⟨rfl, hb1⟩)
      have hb2 := hb.trans (hb1.mono hb.size)
      generalize f x = E at *
      clear a0 a1 a2 a3 a4 a5 a6 a7 a8 HC
      cases E
      · have HN : Hid (firstM f L = firstA f (L.drop (k + 1)) (k + 1)) := Lib.hid (by rw [HS.out]; rfl)
        go_wp2_with fail
        go_roundw
        case rel => exact ⟨k + 1, by omega, by go_num, HN, hb2⟩
        case measure => simp [intOf]; omega
      · have HN : Hid (firstM f L = (k : Int)) := Lib.hid (by rw [HS.out]; rfl)
        go_wp2_with fail
        go_ret
        exact ⟨by rw [HN.out]; rfl, hb2⟩
    · obtain rfl : k = L.length := by omega
      have HN : Hid (firstM f L = -1) := Lib.hid (by rw [HU.out, List.drop_length]; rfl)
      go_wp2_with fail
      go_ret
      exact ⟨by rw [HN.out]; rfl, hb⟩
theorem cdcontains (c1 c2 : Value) (f : (Nat → Nat → Int) → Bool) (v : Value) (L : List (Nat → Nat → Int)) (w : World) (hl : L.length ≤ 1048576) (hS : SlM w v L) (hJ : cdJ w c1 c2 f L) :
    Calls Try.prog 45 #[v, .func (.func 55) #[] #[c1, c2]] w fun e w' => e = .returned (.bool (L.any f)) ∧ Below w.heap.size w w' := by
  have h0 := firstA_any f L 0
  have HF := Lib.hid (show decide (0 ≤ firstM f L) = L.any f from h0)
  clear h0
  have hc := cdindex c1 c2 f v L w hl hS hJ
  generalize firstM f L = i at *
  obtain ⟨a, cap, rfl, _⟩ := id hS
  go_enter Try.func45, Try.ntmps45
  go_wp2_with fail
  ((with_reducible refine hc.mono ?_); rintro e w1 ⟨rfl, hb1⟩)
  go_wp2_with fail
  go_ret
  exact ⟨by rw [← HF.out]; rfl, hb1⟩
/-- What the function value 'loop.example/g01285/impl.CentreOf$1' owes, in every world that has kept what lay there. -/
def cpJ (w : World) (c1 : Value) (f : (Nat → Nat → Int) → Bool) (L : List (Nat → Nat → Int)) : Prop :=
  ∀ w', Below w.heap.size w w' → ∀ x ∈ L, Calls Try.prog 54 #[(.agg #[.int .u8 (x 0 0), .int .u8 (x 0 1), .int .u8 (x 0 2), .int .u8 (x 1 0), .int .u8 (x 1 1), .int .u8 (x 1 2), .int .u8 (x 2 0), .int .u8 (x 2 1), .int .u8 (x 2 2)]), c1] w' fun e w'' => e = .returned (.bool (f x)) ∧ Below w'.heap.size w' w''
theorem cpJ.below {w w1 : World} {c1 : Value} {f : (Nat → Nat → Int) → Bool} {L : List (Nat → Nat → Int)} (h : cpJ w c1 f L) (hb : Below w.heap.size w w1) : cpJ w1 c1 f L := fun w' hb' => h w' (hb.trans (hb'.mono hb.size))

set_option maxRecDepth 8000 in
set_option maxHeartbeats 4000000 in
theorem cppart (c1 : Value) (f : (Nat → Nat → Int) → Bool) (p n : Int) (v : Value) (L : List (Nat → Nat → Int)) (w : World) (hl : L.length ≤ 1048576) (hS : SlM w v L) (hJ : cpJ w c1 f L) :
    Calls Try.prog 53 #[.agg #[.int .i64 p, .int .i64 n, v], .func (.func 54) #[] #[c1]] w fun e w' => ∃ v', e = .returned (.agg #[.int .i64 p, .int .i64 n, v']) ∧ OwnG9 w' w.heap.size v' (L.filter f) ∧ Below w.heap.size w w' := by
  obtain ⟨i0, hi, hz0, hz1, hz2⟩ := info_parts infoMat
  obtain ⟨W, hW, rW, rR, rq, hbW, hWs⟩ : ∃ W, W = (((w.alloc (.cells #[.int .i64 p, .int .i64 n, v] 26)).alloc (.cells #[.int .i64 0, .int .i64 0, .slice none 0 0] 26)).alloc (.cells #[.int .i64 p, .int .i64 n, .slice none 0 0] 26)) ∧ W.rowIs w.heap.size 26 3 (grpF p n v) ∧ W.rowIs (w.heap.size + 1) 26 3 (grpF 0 0 (.slice none 0 0)) ∧ W.rowIs (w.heap.size + 2) 26 3 (grpF p n (.slice none 0 0)) ∧ Below w.heap.size w W ∧ w.heap.size + 3 ≤ W.heap.size := by
    refine ⟨_, rfl, ((gbox w p n v _).alloc _).alloc _, ?_, ?_, (ebox2 _ _ _).alloc (by simp; omega) _, by simp⟩
    · have := gbox (w.alloc (.cells #[.int .i64 p, .int .i64 n, v] 26)) 0 0 (.slice none 0 0) 26
      rw [World.size_alloc] at this
      exact this.alloc _
    · have := gbox ((w.alloc (.cells #[.int .i64 p, .int .i64 n, v] 26)).alloc (.cells #[.int .i64 0, .int .i64 0, .slice none 0 0] 26)) p n (.slice none 0 0) 26
      rw [World.size_alloc, World.size_alloc] at this
      exact this
  have hSW := hS.below hbW
  have HJ := Lib.hid hJ
  clear hJ
  obtain ⟨a, cap, rfl, hSc⟩ := id hS
  have hst : GPart w W w.heap.size (w.heap.size + 2) w.heap.size (w.heap.size + 1) p n (.slice a L.length cap) (.slice none 0 0) [] :=
    ⟨ownG9_none _ _, rq, rW, rR, hbW, Nat.le_refl _, by omega, by omega, by omega, by omega, by omega⟩
  clear rW rR rq
  go_enter Try.func53, Try.ntmps53
  go_wp2_with fail
  rw [← hW]
  clear hW
  obtain ⟨g0, g1, g2⟩ := gcells hst.arg
  go_wp2_with fail
  clear g0 g1 g2
  go_loopw [16] (fun i wr => ∃ (k : Nat) (sv : Value) (O : List (Nat → Nat → Int)), k ≤ L.length ∧ i = .int .i64 k ∧ Hid (O = (L.take k).filter f) ∧ O.length ≤ k ∧ GPart w wr w.heap.size (w.heap.size + 2) w.heap.size (w.heap.size + 1) p n (.slice a L.length cap) sv O) (fun i _ => L.length - (intOf i).toNat)
  case atStart => exact ⟨0, _, [], by omega, rfl, Lib.hid (by simp), by simp, hst⟩
  case round =>
    obtain ⟨k, sv, O, hk, rfl, HO, hO, hB⟩ := hrel
    by_cases hlt : k < L.length
    · have hlt' : (k : Int) < (L.length : Int) := by omega
      obtain ⟨b, off, rfl, hbb, hT⟩ : ∃ b off, a = some ⟨b, off, none⟩ ∧ b < w.heap.size ∧ MatsW w b off L := by
        rcases hSc with rfl | h
        · simp at hlt
        · exact h
      obtain ⟨⟨a0, a1, a2⟩, ⟨a3, a4, a5⟩, a6, a7, a8⟩ := (hT.below hB.below hbb).nine hlt
      have HC := Lib.hid (fun w' hb' => HJ.out w' hb' L[k] (List.getElem_mem hlt))
      have HS := Lib.hid (filt_step f L k hlt)
      generalize L[k] = x at *
      obtain ⟨V, hV, rV, hbV⟩ : ∃ V, V = wr.alloc (.cells #[.int .u8 (x 0 0), .int .u8 (x 0 1), .int .u8 (x 0 2), .int .u8 (x 1 0), .int .u8 (x 1 1), .int .u8 (x 1 2), .int .u8 (x 2 0), .int .u8 (x 2 1), .int .u8 (x 2 2)] 55) ∧ V.rowIs wr.heap.size 55 9 (mF x) ∧ Below wr.heap.size wr V := ⟨_, rfl, mbox wr x _, ebox1 _ _⟩
      have hBV := hB.later hbV
      have hc := HC.out V hBV.below
      go_wp2_with fail
      rw [← hV]
      clear hV a0 a1 a2 a3 a4 a5 a6 a7 a8
      obtain ⟨⟨a0, a1, a2⟩, ⟨a3, a4, a5⟩, a6, a7, a8⟩ := mcells rV
      go_wp2_with fail
      ((with_reducible refine hc.mono ?_); rintro e w2 ⟨rfl, hb2⟩)
      have hB2 := hBV.later hb2
      have rV2 := erow_below rV hb2 rV.lt
      clear a0 a1 a2 a3 a4 a5 a6 a7 a8 hc HC
      generalize f x = E at *
      cases E
      · have HN := Lib.hid (show O = (L.take (k + 1)).filter f by rw [HS.out, HO.out]; simp)
        go_wp2_with fail
        go_roundw
        case rel => exact ⟨k + 1, _, _, by omega, by go_num, HN, by omega, hB2⟩
        case measure => simp [intOf]; omega
      · have HN := Lib.hid (show O ++ [x] = (L.take (k + 1)).filter f by rw [HS.out, ← HO.out]; simp)
        obtain ⟨⟨a0, a1, a2⟩, ⟨a3, a4, a5⟩, a6, a7, a8⟩ := mcells rV2
        obtain ⟨sa, sc, rfl⟩ := mown_slice hB2.rows
        have hmx : O.length + 1 ≤ maxLen := by unfold maxLen; omega
        have hmb : (O.length + 1) * 9 ≤ 140737488355328 := by omega
        have hbs := hB2.b2
        have d2' : w2.cell? ⟨w.heap.size + 2, 2, none⟩ = some (.slice sa O.length sc) := hB2.out.cell (i := 2) (by omega)
        have qo : ∀ o, (w2.alloc o).cell? ⟨w.heap.size + 2, 2, none⟩ = some (.slice sa O.length sc) := fun o => ((ebox1 w2 o).cell hB2.out.lt).trans d2'
        have hsz : w.heap.size ≤ w2.heap.size := hB2.below.size
        go_wp2_with (at_builtin; refine wpList_append_lies _ rfl _ _ 24 rfl w.heap.size 55 i0 _ 9 9 Try.underlying24 hi hz0 hz1 hz2 rfl (by decide) (.slice sa O.length sc) O.length (cells9 O) rfl (World.ownsRow.alloc hB2.rows _) ⟨w2.heap.size, 0, none⟩ 1 1 (cell9 x) rfl rfl (World.news_of_block (cs := #[.int .u8 (x 0 0), .int .u8 (x 0 1), .int .u8 (x 0 2), .int .u8 (x 1 0), .int .u8 (x 1 1), .int .u8 (x 1 2), .int .u8 (x 2 0), .int .u8 (x 2 1), .int .u8 (x 2 2)]) (t := 55) (fr := (0, 0)) (heap_alloc_new w2 _)) (cell9_one x) (by omega) hmx hmb (by simp; omega) _ rfl ?_)
        intro gg cap3 w3 hown3 hgrow3 hat hlt3
        obtain ⟨hB3, r3⟩ := hB2.more (ebox1 _ _) hgrow3 (t := x) hown3
        have hfz3 := r3.frozen 2
        have hcl3 : w3.cell? ⟨w.heap.size + 2, 2, none⟩ = some (.slice sa O.length sc) := r3.cell (i := 2) (by omega)
        clear hown3 hgrow3 hat r3
        go_wp2_with fail
        go_roundw
        case rel => exact ⟨k + 1, _, _, by omega, by go_num, HN, by simp; omega, hB3⟩
        case measure => simp [intOf]; omega
    · obtain rfl : k = L.length := by omega
      obtain ⟨sa, sc, rfl⟩ := mown_slice hB.rows
      obtain ⟨j0, j1, j2⟩ := gcells hB.out
      obtain ⟨r0, r1, r2⟩ := gcells hB.res
      have z0 := hB.res.frozen 0
      have z1 := hB.res.frozen 1
      have z2 := hB.res.frozen 2
      have HL : Hid (L.filter f = O) := Lib.hid (by rw [HO.out, List.take_length])
      go_wp2_with fail
      obtain ⟨v0, v1, v2, v3, v4⟩ := hB.finish p n
      exact bodyPost_ret (v := .agg #[.int .i64 p, .int .i64 n, .slice sa O.length sc]) (by simp [results, Try.results53, go_sem, v0, v1, v2]) rfl ⟨_, rfl, by rw [HL.out]; exact v3, v4⟩
end Go.Proofs.Ytpbdbgajohacoaa
