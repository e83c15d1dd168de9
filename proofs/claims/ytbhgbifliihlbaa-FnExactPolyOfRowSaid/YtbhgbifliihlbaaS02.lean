/-
  WALKS: 'spec.l01Row', 'spec.RowOfPoly'. Conditions: as each theorem states.
  WALKS: 'impl.RowOfPoly'. Conditions: as the theorem states.
-/
import Derived.Test.YtbhgbifliihlbaaS01
import Derived.Test.YtbhgbifliihlbaaR02
import Derived.Test.YtbhgbifliihlbaaR10
import Derived.Test.YtbhgbifliihlbaaR07
import Derived.Deep.AppendLies
import Derived.Deep.RegionHeld3
import Derived.Test.YtbhgbifliihlbaaR11
import Derived.Test.YtbhgbifliihlbaaR13
namespace Go.Proofs.Ytbhgbifliihlbaa
open Go.RowKit Go.Sort

set_option maxRecDepth 8000 in
set_option maxHeartbeats 4000000 in
theorem srow (p d : Int) (u : Value) (ts : List Tm) (n : Nat) (w : World) (hd : 1 ≤ d ∧ d ≤ 3) (hn : n ≤ 12) (hts : ts.length ≤ 1048576) (hU : SliceT w u ts) (M : List EX3) (hM : outerL d n (n + 1) = M) (hl : M.length ≤ 169) :
    Calls Try.prog 66 #[.agg #[.int .i64 p, .int .i64 d, u], .int .i64 n] w fun e w' => ∃ v', e = .returned v' ∧ OwnL w' w.heap.size v' (M.map (atL ts)) ∧ Below w.heap.size w w' := by
  obtain ⟨i0, hi, hz0, hz1, hz2⟩ := info_parts einfoI
  have hz : ∀ (w : World) t, t = 2 → OwnL (w.alloc (.cells #[] t)) w.heap.size (.slice (some ⟨w.heap.size, 0, none⟩) 0 0) [] := fun w t ht => by
    subst ht
    have := World.ownsRow_made (base := w.heap.size) (e := 2) (size := 1) w #[] 0 (by omega) (by simp [maxLen]) rfl
    simpa [OwnL, valsI] using this
  obtain ⟨W, hW, hbW, ⟨hWs1, hWs2⟩, rx⟩ := newbox w p d u
  have hUW := hU.below hbW
  obtain ⟨⟨x0, x1, x2⟩, _⟩ := poly3 rx
  obtain ⟨ua, uc, rfl, _⟩ := id hU
  have hwc : w.heap.size < W.heap.size := by omega
  go_enter Try.func66, Try.ntmps66
  go_wp2_with fail
  rw [← hW]
  clear hW
  ((with_reducible refine (specMonomials_any d n W hd hn).mono ?_); rintro e w1 ⟨v1, rfl, ho1, hb1⟩)
  rw [hM] at ho1
  have hS1 := slE_of ho1
  obtain ⟨ma, mc, rfl, hmc⟩ := id hS1
  have rx1 := rowIs_below rx hb1 rx.lt
  have hU1 := hUW.below hb1
  have hbw1 := hbW.trans (hb1.mono hbW.size)
  have hz1w := hz w1 _ rfl
  clear ho1 x0 x1 x2 rx hUW hU hz hM
  go_wp2_with fail
  go_loopw [6, 7] (fun s i wr => ∃ (k : Nat) (O : List Int) (sa : Option Addr) (sc : Nat), k ≤ M.length ∧ O.length ≤ k ∧ s = .slice sa O.length sc ∧ i = .int .i64 k ∧ Hid (O = (M.take k).map (atL ts)) ∧ OwnL wr w1.heap.size (.slice sa O.length sc) O ∧ Below w1.heap.size w1 wr) (fun _ i _ => M.length - (intOf i).toNat)
  case atStart => exact ⟨0, [], _, _, by omega, by simp, rfl, rfl, Lib.hid (by simp), hz1w, ebox1 _ _⟩
  case round =>
    clear hz1w
    obtain ⟨k, O, sa, sc, hk, hOk, rfl, rfl, HU, hown, hb⟩ := hrel
    have hs := hb.size
    by_cases hlt : k < M.length
    · have hlt' : (k : Int) < (M.length : Int) := by omega
      obtain ⟨b, off, rfl, hbb, hT⟩ : ∃ b off, ma = some ⟨b, off, none⟩ ∧ (W.heap.size ≤ b ∧ b < w1.heap.size) ∧ ExW w1 b off M := by
        rcases hmc with rfl | h
        · simp at hlt
        · exact h
      have hxl := rx1.lt
      obtain ⟨⟨p0, p1, p2⟩, _⟩ := poly3 rx1
      obtain ⟨c0, c1, c2⟩ := hT k hlt
      have HN : Hid (O ++ [atL ts M[k]] = (M.take (k + 1)).map (atL ts)) := Lib.hid (by rw [HU.out, List.take_succ_eq_append_getElem hlt, List.map_append]; rfl)
      have hUr := (hU1.below hb)
      have hUd : SliceT wr.drew (.slice ua ts.length uc) ts := hUr.below (Below.refl _ _).drew
      obtain ⟨ex, hex⟩ : ∃ e, M[k].1 = e := ⟨_, rfl⟩
      obtain ⟨ey, hey⟩ : ∃ e, M[k].2.1 = e := ⟨_, rfl⟩
      obtain ⟨ez, hez⟩ : ∃ e, M[k].2.2 = e := ⟨_, rfl⟩
      have hexe : M[k] = (ex, ey, ez) := by rw [← hex, ← hey, ← hez]
      rw [hex] at c0
      rw [hey] at c1
      rw [hez] at c2
      rw [hexe] at HN
      have HA := Lib.hid (fun w' (h : SliceT w' (.slice ua ts.length uc) ts) => at_any p d _ ts ex ey ez w' hts h)
      obtain ⟨Y, hY⟩ : ∃ Y, atL ts (ex, ey, ez) = Y := ⟨_, rfl⟩
      rw [hY] at HN
      simp only [hY] at HA
      have KK := Lib.hid (fun w' (h : Below w1.heap.size wr w') => show w'.cell? ⟨w.heap.size, 0, none⟩ = some (.int .i64 p) ∧ w'.cell? ⟨w.heap.size, 1, none⟩ = some (.int .i64 d) ∧ w'.cell? ⟨w.heap.size, 2, none⟩ = some (.slice ua ts.length uc) ∧ w'.cell? ⟨b, off + k * 3, none⟩ = some (.int .u8 ex) ∧ w'.cell? ⟨b, off + k * 3 + 1, none⟩ = some (.int .u8 ey) ∧ w'.cell? ⟨b, off + k * 3 + 2, none⟩ = some (.int .u8 ez) from
        ⟨((hb.trans h).cell (p := ⟨_, _, none⟩) hxl).trans p0, ((hb.trans h).cell (p := ⟨_, _, none⟩) hxl).trans p1, ((hb.trans h).cell (p := ⟨_, _, none⟩) hxl).trans p2, ((hb.trans h).cell (p := ⟨_, _, none⟩) hbb.2).trans c0, ((hb.trans h).cell (p := ⟨_, _, none⟩) hbb.2).trans c1, ((hb.trans h).cell (p := ⟨_, _, none⟩) hbb.2).trans c2⟩)
      have hmx : O.length + 1 ≤ maxLen := by unfold maxLen; omega
      have hmb : (O.length + 1) * 8 ≤ 140737488355328 := by omega
      clear HU hT hmc hexe hex hey hez hY p0 p1 p2 c0 c1 c2
      go_wp2_with fail
      go_region_held3 (fun w' => w'.cell? ⟨w.heap.size, 0, none⟩ = some (.int .i64 p) ∧ w'.cell? ⟨w.heap.size, 1, none⟩ = some (.int .i64 d) ∧ w'.cell? ⟨w.heap.size, 2, none⟩ = some (.slice ua ts.length uc) ∧ w'.cell? ⟨b, off + k * 3, none⟩ = some (.int .u8 ex) ∧ w'.cell? ⟨b, off + k * 3 + 1, none⟩ = some (.int .u8 ey) ∧ w'.cell? ⟨b, off + k * 3 + 2, none⟩ = some (.int .u8 ez))
        (first | with_reducible exact KK.out _ (Below.refl _ _).drew | with_reducible exact KK.out _ hb5 | with_reducible exact KK.out _ (hb5.alloc hs5 _) | with_reducible exact KK.out _ hb7)
        (first
          | ((with_reducible refine (HA.out _ hUd).mono ?_)
             rintro e w4 ⟨rfl, hb4⟩
             have hb5 : Below w1.heap.size wr w4 := (Below.refl _ wr).drew.trans (hb4.mono hs)
             have hs5 : w1.heap.size ≤ w4.heap.size := Nat.le_trans hs hb5.size
             have hO4 : OwnL w4 w1.heap.size (.slice sa O.length sc) O := (hown.below (Below.refl _ _).drew).below hb4)
          | ((refine step_append_lies _ (by rfl) _ _ _ (by rfl) w1.heap.size 2 i0 _ 1 8 Try.underlying37 hi hz0 hz1 hz2 rfl (by omega) (.slice sa O.length sc) O.length (valsI O) (by rfl) (World.ownsRow.alloc hO4 _) ⟨w4.heap.size, 0, none⟩ 1 1 [.int .i64 Y] (by rfl) (by rfl) (World.news_of_block (cs := #[.int .i64 Y]) (t := 2) (fr := (0, 0)) (heap_alloc_new w4 _)) (by simp [Value.oneCell']) (by omega) hmx hmb (by simp; omega) (w4.heap.size + 1) (by simp) ?_
              intro gg cap3 w5 hown3 hgrow3 hat hlt3
              have hb7 : Below w1.heap.size wr w5 := (hb5.alloc hs5 (.cells #[.int .i64 Y] 2)).grown hgrow3 (by simp; omega) (fun q hq => (World.ownsRow.lt hO4 q hq).1)
              clear hat)))
      all_goals
        go_wp2_with fail
        go_roundw
        case rel => exact ⟨k + 1, O ++ [Y], some ⟨gg, 0, none⟩, cap3, by omega, by simp; omega, by simp, by go_num, HN, by simpa [OwnL, valsI] using hown3, hb.trans hb7⟩
        case measure => simp [intOf]; omega
    · obtain rfl : k = M.length := by omega
      have HX : Hid (M.map (atL ts) = O) := Lib.hid (by rw [HU.out, List.take_length])
      have hend := hbw1.trans (hb.mono hbw1.size)
      have hsz := hbw1.size
      clear HU
      go_wp2_with fail
      go_ret
      exact ⟨_, rfl, by rw [HX.out]; exact hown.mono hsz, hend⟩

/-- The outcome of RowOfPoly. -/
def rowB (n : Int) : Bool := decide (0 ≤ n) && decide (n ≤ 12)
def rowL (p d : Int) (ts : List Tm) (n : Int) : List Int := if isPolyB p d ts && rowB n then (monL d n).map (atL ts) else []
def rowC (p d : Int) (ts : List Tm) (n : Int) : Int := if isPolyB p d ts then (if rowB n then 0 else 2) else 1
theorem rowL_len (p d : Int) (ts : List Tm) (n : Int) : (rowL p d ts n).length ≤ 169 := by
  unfold rowL
  split
  · rw [List.length_map]; exact monL_le d n
  · simp

set_option maxHeartbeats 2000000 in
theorem srof (p d : Int) (u : Value) (ts : List Tm) (n : Int) (w : World) (hts : ts.length ≤ 1048576) (hU : SliceT w u ts) (hby : ∀ t ∈ ts, tmByte t) :
    Calls Try.prog 31 #[.agg #[.int .i64 p, .int .i64 d, u], .int .i64 n] w fun e w' => ∃ v', e = .returned (.tuple #[v', .int .i64 (rowC p d ts n)]) ∧ Sl w' v' (rowL p d ts n) ∧ Below w.heap.size w w' := by
  obtain ⟨W, hW, hbW, ⟨hWs1, hWs2⟩, rx⟩ := newbox w p d u
  have hUW := hU.below hbW
  obtain ⟨⟨x0, x1, x2⟩, _⟩ := poly3 rx
  have HI := Lib.hid (specIs_any p d u ts W hts hUW hby)
  obtain ⟨ua, uc, rfl, _⟩ := id hU
  cases hB : isPolyB p d ts
  · have HL : Hid (rowL p d ts n = [] ∧ rowC p d ts n = 1) := Lib.hid ⟨by simp [rowL, hB], by simp [rowC, hB]⟩
    rw [hB] at HI
    clear hB
    go_enter Try.func31, Try.ntmps31
    go_wp2_with fail
    rw [← hW]
    clear hW
    ((with_reducible refine HI.out.mono ?_); rintro e w1 ⟨rfl, hb1⟩)
    go_wp2_with fail
    go_ret2
    exact ⟨_, by rw [HL.out.2]; rfl, by rw [HL.out.1]; exact ⟨none, 0, rfl, .inl rfl⟩, hbW.trans (hb1.mono hbW.size)⟩
  · rw [hB] at HI
    have hV := valid_of hB hby
    cases hn : rowB n
    · have HL : Hid (rowL p d ts n = [] ∧ rowC p d ts n = 2) := Lib.hid ⟨by simp [rowL, hn], by simp [rowC, hB, hn]⟩
      have HN := Lib.hid (fun w' => sin_is n 0 12 w' false hn)
      clear hB hn hV
      go_enter Try.func31, Try.ntmps31
      go_wp2_with fail
      rw [← hW]
      clear hW
      ((with_reducible refine HI.out.mono ?_); rintro e w1 ⟨rfl, hb1⟩)
      go_wp2_with fail
      ((with_reducible refine (HN.out _).mono ?_); rintro e w2 ⟨rfl, rfl⟩)
      go_wp2_with fail
      go_ret2
      exact ⟨_, by rw [HL.out.2]; rfl, by rw [HL.out.1]; exact ⟨none, 0, rfl, .inl rfl⟩, hbW.trans (hb1.mono hbW.size)⟩
    · have HN := Lib.hid (fun w' => sin_is n 0 12 w' true hn)
      have hn0 : 0 ≤ n ∧ n ≤ 12 := by simpa [rowB] using hn
      obtain ⟨m, rfl⟩ : ∃ m : Nat, n = m := ⟨n.toNat, by omega⟩
      have hd1 := hV.d1
      have hd3 := hV.d3
      have hmb : monB d m = true := by simp [monB]; omega
      have hML : monL d m = outerL d m (m + 1) := by unfold monL; rw [if_pos hmb]; simp
      have HL : Hid (rowL p d ts m = (outerL d m (m + 1)).map (atL ts) ∧ rowC p d ts m = 0) := Lib.hid ⟨by rw [← hML]; simp [rowL, hB, hn], by simp [rowC, hB, hn]⟩
      have hle : (outerL d m (m + 1)).length ≤ 169 := by rw [← hML]; exact monL_le d m
      have HR := Lib.hid (fun w' (h : SliceT w' (.slice ua ts.length uc) ts) => srow p d _ ts m w' ⟨hd1, hd3⟩ (by omega) hts h _ rfl hle)
      clear hB hn hV hML hmb hle
      go_enter Try.func31, Try.ntmps31
      go_wp2_with fail
      rw [← hW]
      clear hW
      ((with_reducible refine HI.out.mono ?_); rintro e w1 ⟨rfl, hb1⟩)
      have rx1 := rowIs_below rx hb1 rx.lt
      have hU1 := hUW.below hb1
      clear x0 x1 x2
      obtain ⟨⟨x0, x1, x2⟩, _⟩ := poly3 rx1
      go_wp2_with fail
      ((with_reducible refine (HN.out _).mono ?_); rintro e w2 ⟨rfl, rfl⟩)
      go_wp2_with fail
      ((with_reducible refine (HR.out _ hU1).mono ?_); rintro e w3 ⟨v3, rfl, ho3, hb3⟩)
      have hs3 := ho3.slice
      obtain ⟨ra, rc, rfl, _⟩ := id hs3
      rw [List.length_map] at hs3
      go_wp2_with fail
      go_ret2
      exact ⟨_, by rw [HL.out.2]; rfl, by rw [HL.out.1]; exact hs3, hbW.trans ((hb1.trans (hb3.mono hb1.size)).mono hbW.size)⟩
end Go.Proofs.Ytbhgbifliihlbaa
namespace Go.Proofs.Ytbhgbifliihlbaa
open Go.RowKit Go.Sort Go.Maps

theorem deg_isB (n : Int) (B : Bool) (h : rowB n = B) (w : World) : Calls Try.prog 69 #[.int .i64 n] w fun e w' => e = .returned (.bool B) ∧ w = w' := by
  subst h
  exact degree_any n w

set_option maxHeartbeats 4000000 in
theorem irof (p d : Int) (u : Value) (ts : List Tm) (n : Int) (w : World) (hts : ts.length ≤ 1048576) (hU : SliceT w u ts) (hby : ∀ t ∈ ts, tmByte t) :
    Calls Try.prog 33 #[.agg #[.int .i64 p, .int .i64 d, u], .int .i64 n] w fun e w' => ∃ v', e = .returned (.tuple #[v', .int .i64 (rowC p d ts n)]) ∧ OwnV w' w.heap.size v' (rowL p d ts n) ∧ Below w.heap.size w w' := by
  obtain ⟨i0, hi, hz0, hz1, hz2⟩ := info_parts einfoI
  obtain ⟨W, hW, hbW, ⟨hWs1, hWs2⟩, rx⟩ := newbox w p d u
  have hUW := hU.below hbW
  obtain ⟨⟨x0, x1, x2⟩, _⟩ := poly3 rx
  have HI := Lib.hid (isPoly_any p d u ts W hts hUW hby)
  obtain ⟨ua, uc, rfl, _⟩ := id hU
  cases hB : isPolyB p d ts
  · have HL : Hid (rowL p d ts n = [] ∧ rowC p d ts n = 1) := Lib.hid ⟨by simp [rowL, hB], by simp [rowC, hB]⟩
    rw [hB] at HI
    clear hB
    go_enter Try.func33, Try.ntmps33
    go_wp2_with fail
    rw [← hW]
    clear hW
    ((with_reducible refine HI.out.mono ?_); rintro e w1 ⟨rfl, hb1⟩)
    go_wp2_with fail
    go_ret2
    exact ⟨_, by rw [HL.out.2]; rfl, by rw [HL.out.1]; exact OwnV.none _ _, hbW.trans (hb1.mono hbW.size)⟩
  · rw [hB] at HI
    have hV := valid_of hB hby
    cases hn : rowB n
    · have HL : Hid (rowL p d ts n = [] ∧ rowC p d ts n = 2) := Lib.hid ⟨by simp [rowL, hn], by simp [rowC, hB, hn]⟩
      have HN := Lib.hid (fun w' => deg_isB n false hn w')
      clear hB hn hV
      go_enter Try.func33, Try.ntmps33
      go_wp2_with fail
      rw [← hW]
      clear hW
      ((with_reducible refine HI.out.mono ?_); rintro e w1 ⟨rfl, hb1⟩)
      go_wp2_with fail
      ((with_reducible refine (HN.out _).mono ?_); rintro e w2 ⟨rfl, rfl⟩)
      go_wp2_with fail
      go_ret2
      exact ⟨_, by rw [HL.out.2]; rfl, by rw [HL.out.1]; exact OwnV.none _ _, hbW.trans (hb1.mono hbW.size)⟩
    · have HN := Lib.hid (fun w' => deg_isB n true hn w')
      have hle := monL_le d n
      have HL : Hid (rowL p d ts n = (monL d n).map (atL ts) ∧ rowC p d ts n = 0) := Lib.hid ⟨by simp [rowL, hB, hn], by simp [rowC, hB, hn]⟩
      obtain ⟨m, hm⟩ : ∃ m, (monL d n).length = m := ⟨_, rfl⟩
      have HC := Lib.hid (fun w' => icount d n w')
      have HF := Lib.hid (fun (rb cap : Nat) (f0 : Nat → Value) (w' : World) (hU' : SliceT w' (.slice ua ts.length uc) ts) (hr : w'.rowIs rb 2 m f0) => ifill p d n _ ts rb 0 m cap f0 w' hts hV hU' hr (by omega))
      rw [hm] at hle HC
      simp only [hm] at HC HF
      have hmk : ∀ w, (Instr.makeSlice 37 (.int .i64 (m : Int)) (.int .i64 (m : Int))).run Try.prog w = .ok (.slice (some ⟨w.heap.size, 0, none⟩) m m) (w.alloc (.cells (nmadeI m) 2)) := fun w => by
        have h := run_make (P := Try.prog) w 37 2 i0 _ Try.underlying37 hi hz0 .i64 .i64 (m : Int) (m : Int) (by omega) (by omega) (by rw [hz2]; omega) (by omega)
        rw [hz1] at h
        simpa [nmadeI, Value.cells] using h
      have HM := Lib.hid hm
      clear hB hn hV hi hz0 hz1 hz2 hm
      go_enter Try.func33, Try.ntmps33
      go_wp2_with fail
      rw [← hW]
      clear hW
      ((with_reducible refine HI.out.mono ?_); rintro e w1 ⟨rfl, hb1⟩)
      have rx1 := rowIs_below rx hb1 rx.lt
      have hU1 := hUW.below hb1
      clear x0 x1 x2
      obtain ⟨⟨x0, x1, x2⟩, _⟩ := poly3 rx1
      go_wp2_with fail
      ((with_reducible refine (HN.out _).mono ?_); rintro e w2 ⟨rfl, rfl⟩)
      go_wp2_with fail
      ((with_reducible refine (HC.out _).mono ?_); rintro e w3 ⟨rfl, hb3⟩)
      have rx3 := rowIs_below rx1 hb3 rx1.lt
      have hU3 := hU1.below hb3
      have hU4 := hU3.below (box1 w3 (.cells (nmadeI m) 2))
      have hb34 := box1 w3 (.cells (nmadeI m) 2)
      have rx4 := rowIs_below rx3 hb34 rx3.lt
      have hr4 := nmadeI_row w3 m 2
      have hs3 := hb1.trans (hb3.mono hb1.size)
      have hs4 := hbW.trans ((hs3.trans (hb34.mono hs3.size)).mono hbW.size)
      have hws : w.heap.size ≤ w3.heap.size := (hbW.trans (hs3.mono hbW.size)).size
      clear x0 x1 x2
      obtain ⟨⟨x0, x1, x2⟩, _⟩ := poly3 rx4
      go_wp2_with fail
      ((with_reducible refine (HF.out _ _ _ _ hU4 hr4).mono ?_); rintro e w5 ⟨rfl, hr5, hg5⟩)
      have hend : Below w.heap.size w w5 := ⟨hg5.os.trans hs4.os, hg5.tape.trans hs4.tape, hg5.output.trans hs4.output, Nat.le_trans hs4.size hg5.size, fun b hb => (hg5.block b (Nat.lt_of_lt_of_le hb hs4.size) (fun e => by cases e; omega)).trans (hs4.block b hb)⟩
      have hO : OwnV w5 w.heap.size (.slice (some ⟨w3.heap.size, 0, none⟩) m m) ((monL d n).map (atL ts)) := by
        refine RowF.toV (n := m) (F := fun k => atL ts ((monL d n).getD k (0, 0, 0))) ⟨m, _, Nat.le_refl _, hr5, fun q hq => ?_⟩ hws ?_
        · unfold fillF
          rw [if_pos (by simpa using hq)]
          simp
        · exact List.ext_getElem (by simp [HM.out]) (fun i h1 h2 => by
            have hi' : i < (monL d n).length := by simpa using h1
            simp [List.getD, hi'])
      clear hr5 hg5 hs4 hr4
      go_wp2_with fail
      go_ret2
      exact ⟨_, by rw [HL.out.2]; rfl, by rw [HL.out.1]; exact hO, hend⟩
end Go.Proofs.Ytbhgbifliihlbaa
