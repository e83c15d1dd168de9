/-
  WALKS: 'impl.product'. Conditions: as each theorem states.
  WALKS: 'impl.ProductOfList'. Conditions: the numbers fit their kinds.
  The boxes of a law whose result is a polynomial, beside lists as arguments. Conditions: as each theorem states.
-/
import Derived.Test.YtbhgbifliihlbaaR08
import Derived.Test.YtbhgbifliihlbaaR07
import Derived.Test.YtbhgbifliihlbaaR20
import Derived.Test.YtbhgbifliihlbaaR16
import Derived.Test.YtbhgbifliihlbaaR11
namespace Go.Proofs.Ytbhgbifliihlbaa
open Go.RowKit Go.Sort Go.Maps

/-- A map of coefficients in the making, beside the boxes of two arguments and the result. -/
structure MapSt2 (w wr : World) (b n a a2 r : Nat) (p d : Int) (xv yv : Value) (D : DataW Unit) : Prop where
  st : MapSt w wr b n a r p d xv D
  arg2 : wr.rowIs a2 40 3 (polyF p d yv)
theorem MapSt2.later {w wr w1 : World} {b n a a2 r : Nat} {p d : Int} {xv yv : Value} {D : DataW Unit} (h : MapSt2 w wr b n a a2 r p d xv yv D) (hb : Below wr.heap.size wr w1) : MapSt2 w w1 b n a a2 r p d xv yv D :=
  ⟨h.st.later hb, rowIs_below h.arg2 hb h.arg2.lt⟩
theorem MapSt2.wrote {w wr w1 : World} {b n n' a a2 r : Nat} {p d : Int} {xv yv : Value} {D D' : DataW Unit} (h : MapSt2 w wr b n a a2 r p d xv yv D) (hg : wr.grownBy w1 (some b)) (hm : MapE w1 b n' D') : MapSt2 w w1 b n' a a2 r p d xv yv D' :=
  ⟨h.st.wrote hg hm, h.arg2.of_block (hg.block a2 h.arg2.lt (by simpa using row_not_map h.arg2 h.st.map))⟩
theorem MapSt2.most {w wr : World} {b n n' a a2 r : Nat} {p d : Int} {xv yv : Value} {D : DataW Unit} (h : MapSt2 w wr b n a a2 r p d xv yv D) (hn : n ≤ n') : MapSt2 w wr b n' a a2 r p d xv yv D :=
  ⟨⟨h.st.map.mono hn, h.st.arg, h.st.res, h.st.below, h.st.b1, h.st.r1⟩, h.arg2⟩
/-- The exponents after j letters have been added. -/
def eAdd (x y z x' y' z' : Int) (j : Nat) : Nat → Value := expsF (if 0 < j then x + x' else x) (if 1 < j then y + y' else y) (if 2 < j then z + z' else z)
theorem erow1 (w : World) (o : Obj) (x y z : Int) : ((w.alloc o).alloc (.cells #[.int .u8 x, .int .u8 y, .int .u8 z] 113)).rowIs (w.heap.size + 1) 113 3 (expsF x y z) := by
  have := World.rowIs_alloc (w.alloc o) #[Value.int .u8 x, .int .u8 y, .int .u8 z] 113 (expsF x y z) (fun i hi => by simp at hi; match i, hi with | 0, _ => rfl | 1, _ => rfl | 2, _ => rfl)
  rwa [World.size_alloc] at this
theorem eset {w : World} {b : Nat} {x y z x' y' z' : Int} {j : Nat} (h : w.rowIs b 113 3 (eAdd x y z x' y' z' j)) (u : Int) (hj : j < 3) (hu : u = (if j = 0 then x + x' else if j = 1 then y + y' else z + z')) : (w.setCell ⟨b, j, none⟩ (.int .u8 u)).rowIs b 113 3 (eAdd x y z x' y' z' (j + 1)) := by
  refine (h.set j (.int .u8 u)).congr fun i hi => ?_
  subst hu
  match j, i, hj, hi with
  | 0, 0, _, _ => rfl
  | 0, 1, _, _ => rfl
  | 0, 2, _, _ => rfl
  | 1, 0, _, _ => rfl
  | 1, 1, _, _ => rfl
  | 1, 2, _, _ => rfl
  | 2, 0, _, _ => rfl
  | 2, 1, _, _ => rfl
  | 2, 2, _, _ => rfl

theorem gset {V w : World} {e : Nat} (h : V.grownBy w (some e)) (j : Nat) (v : Value) : V.grownBy (w.setCell ⟨e, j, none⟩ v).drew (some e) :=
  ⟨h.os, h.tape, h.output, by show _ ≤ (w.setCell ⟨e, j, none⟩ v).heap.size; rw [World.size_setCell]; exact h.size, fun k hk hne => (Below.heap_setCell w ⟨e, j, none⟩ v k (fun x => hne (by rw [x]))).trans (h.block k hk hne)⟩

set_option maxRecDepth 8000 in
set_option maxHeartbeats 16000000 in
theorem product_any (p d : Int) (v v' : Value) (xs ys : List Tm) (w : World) (hS : SliceT w v xs) (hS' : SliceT w v' ys) (hV : Valid p d xs) (hV' : Valid p d ys) (hfit : Fits xs ys) :
    Calls Try.prog 61 #[.agg #[.int .i64 p, .int .i64 d, v], .agg #[.int .i64 p, .int .i64 d, v']] w fun e w' =>
      ∃ v' L, e = .returned (.agg #[.int .i64 p, .int .i64 d, v']) ∧ OwnP w' w.heap.size v' L ∧ IsP p L (mulF p xs ys) ∧ Below w.heap.size w w' := by
  have hp2 := hV.p2
  have hp13 := hV.p13
  have hlx := hV.isP.len
  have hly := hV'.isP.len
  obtain ⟨L, hL⟩ := mul_ex hV hV' hfit
  obtain ⟨a, cap, rfl, _⟩ := id hS
  obtain ⟨a', cap', rfl, _⟩ := id hS'
  obtain ⟨W, hW, hbW, ⟨hWs1, hWs2⟩, rx, ry, rr⟩ := pair3 w p d (.slice a xs.length cap) p d (.slice a' ys.length cap')
  have hmm := @run_makeMap Try.prog
  have hm := World.ownsMap_made (H := Unit) W Try.prog 113 (plainElem Try.prog 2)
  obtain ⟨V, hV1, hbV, hVs1⟩ : ∃ V, V = W.alloc (.map #[] 0) ∧ Below W.heap.size W V ∧ W.heap.size + 1 ≤ V.heap.size := ⟨_, rfl, box1 _ _, by simp⟩
  rw [← hV1] at hm
  have hst : MapSt2 w V W.heap.size 0 w.heap.size (w.heap.size + 1) (w.heap.size + 2) p d (.slice a xs.length cap) (.slice a' ys.length cap') (.map []) :=
    ⟨⟨hm, rowIs_below rx hbV rx.lt, rowIs_below rr hbV rr.lt, hbW.trans (hbV.mono hbW.size), hbW.size, by omega⟩, rowIs_below ry hbV ry.lt⟩
  have xo : ∀ o, (W.alloc o).cell? ⟨w.heap.size, 2, none⟩ = some (.slice a xs.length cap) := fun o => ((box1 W o).cell rx.lt).trans (poly3 rx).1.2.2
  go_enter Try.func61, Try.ntmps61
  go_upto_region 1 with fail
  rw [← hW]
  clear hW
  go_wp2_with fail
  rw [← hV1]
  clear hV1 xo hm rx ry rr
  go_loopw [16] (fun j wr => ∃ (i : Nat) (D : DataW Unit), i ≤ xs.length ∧ j = .int .i64 i ∧ Hid (∀ e, byte3 e → cf D e = mulF p (xs.take i) ys e) ∧ MapSt2 w wr W.heap.size (i * 2197) w.heap.size (w.heap.size + 1) (w.heap.size + 2) p d (.slice a xs.length cap) (.slice a' ys.length cap') D) (fun j _ => xs.length - (intOf j).toNat)
  case atStart => exact ⟨0, _, by omega, rfl, Lib.hid (fun e _ => by rw [cf_empty]; simp [mulF_nil]), hst⟩
  case round =>
    clear hst
    obtain ⟨i, D, hi, rfl, HD, hM⟩ := hrel
    obtain ⟨wo, rfl⟩ : ∃ wo : World, wo = wr := ⟨_, rfl⟩
    by_cases hlt1 : i < xs.length
    · have hlt' : (i : Int) < (xs.length : Int) := by omega
      obtain ⟨A1, cap1, hv1, hcase1⟩ := hS.below hM.st.below
      simp at hv1
      obtain ⟨rfl, rfl⟩ := hv1
      rcases hcase1 with h0 | ⟨b1, off1, rfl, hltb1, hTx⟩
      · rw [h0] at hlt1; exact absurd hlt1 (by simp)
      obtain ⟨c0, c1, c2, c3⟩ := hTx i hlt1
      obtain ⟨⟨⟨bx, by1, bz⟩, hs12⟩, bv1, bv2⟩ := hV.mem xs[i] (List.getElem_mem _)
      have HF := Lib.hid (fun k (h : k < ys.length) e => prt_step p xs ys i xs[i] k h e)
      have HZ := Lib.hid (fun e => prt_zero p xs ys i xs[i] e)
      have HN := Lib.hid (fun e => prt_full p xs ys i hlt1 e)
      have HE := Lib.hid (fun (k : Nat) (h : k < ys.length) => hfit xs[i] (List.getElem_mem _) ys[k] (List.getElem_mem _))
      simp only [tmE] at bx by1 bz
      have HB := Lib.hid (fun k e => (⟨Int.emod_nonneg _ (by omega), Int.emod_lt_of_pos _ (by omega)⟩ : 0 ≤ prt p xs ys i xs[i] k e ∧ prt p xs ys i xs[i] k e < p))
      generalize hpr : prt p xs ys i xs[i] = F at HF HZ HN HB
      generalize hx : xs[i].1 = x at *
      generalize hy : xs[i].2.1 = y at *
      generalize hz : xs[i].2.2.1 = z at *
      generalize hvv : xs[i].2.2.2 = u at *
      have htm : tmE xs[i] = (x, y, z) := by simp [tmE, hx, hy, hz]
      rw [htm] at HF
      clear hpr hx hy hz hvv htm hTx hV
      have hM1 := hM.later (box1 wo (.cells #[.int .u8 x, .int .u8 y, .int .u8 z, .int .i64 u] 115))
      have rs := trow wo x y z u
      obtain ⟨⟨m0, m1, m2⟩, _⟩ := poly3 hM.st.arg
      have yo : ∀ o, (wo.alloc o).cell? ⟨w.heap.size + 1, 2, none⟩ = some (.slice a' ys.length cap') := fun o => ((box1 wo o).cell hM.arg2.lt).trans (poly3 hM.arg2).1.2.2
      have HD0 : Hid (∀ e, byte3 e → cf D e = F 0 e) := Lib.hid (fun e he => (HD.out e he).trans (HZ.out e).symm)
      go_wp2_with fail
      clear m0 m1 m2 c0 c1 c2 c3 yo HD HZ
      go_loopw [23] (fun j wr => ∃ (k : Nat) (D : DataW Unit), k ≤ ys.length ∧ j = .int .i64 k ∧ Hid (∀ e, byte3 e → cf D e = F k e) ∧ MapSt2 w wr W.heap.size (i * 2197 + k) w.heap.size (w.heap.size + 1) (w.heap.size + 2) p d (.slice (some ⟨b1, off1, none⟩) xs.length cap) (.slice a' ys.length cap') D ∧ wr.rowIs wo.heap.size 115 4 (tmF x y z u)) (fun j _ => ys.length - (intOf j).toNat)
      case atStart => exact ⟨0, D, by omega, rfl, HD0, hM1, rs⟩
      case round =>
        clear hM1 rs HD0 hM
        obtain ⟨k, D, hk, rfl, HD, hM, rs⟩ := hrel
        obtain ⟨wk, rfl⟩ : ∃ wk : World, wk = wr := ⟨_, rfl⟩
        by_cases hlt2 : k < ys.length
        · have hlt2' : (k : Int) < (ys.length : Int) := by omega
          obtain ⟨A2, cap2, hv2, hcase2⟩ := hS'.below hM.st.below
          simp at hv2
          obtain ⟨rfl, rfl⟩ := hv2
          rcases hcase2 with h0 | ⟨b2, off2, rfl, hltb2, hTy⟩
          · rw [h0] at hlt2; exact absurd hlt2 (by simp)
          obtain ⟨d0, d1, d2, d3⟩ := hTy k hlt2
          obtain ⟨⟨⟨bx', by1', bz'⟩, hs12'⟩, bv1', bv2'⟩ := hV'.mem ys[k] (List.getElem_mem _)
          have HS := Lib.hid (HF.out k hlt2)
          have hft := HE.out k hlt2
          simp only [tmE] at bx' by1' bz'
          generalize hx' : ys[k].1 = x' at *
          generalize hy' : ys[k].2.1 = y' at *
          generalize hz' : ys[k].2.2.1 = z' at *
          generalize hv' : ys[k].2.2.2 = u' at *
          have htm' : tmE ys[k] = (x', y', z') := by simp [tmE, hx', hy', hz']
          rw [htm'] at HS
          clear hx' hy' hz' hv' htm' hTy
          have hE1 : byte3 (x + x', y + y', z + z') := by unfold byte3; simp only []; omega
          have s0 := rs.cell (i := 0) (by omega)
          have s1 := rs.cell (i := 1) (by omega)
          have s2 := rs.cell (i := 2) (by omega)
          have s3 := rs.cell (i := 3) (by omega)
          simp [tmF] at s0 s1 s2 s3
          obtain ⟨V2, hV2, hbV2, ⟨hV2s1, hV2s2⟩, rt, re⟩ : ∃ V2, V2 = (wk.alloc (.cells #[.int .u8 x', .int .u8 y', .int .u8 z', .int .i64 u'] 115)).alloc (.cells #[.int .u8 x, .int .u8 y, .int .u8 z] 113) ∧ Below wk.heap.size wk V2 ∧ (V2.heap.size ≤ wk.heap.size + 2 ∧ wk.heap.size + 2 ≤ V2.heap.size) ∧
              V2.rowIs wk.heap.size 115 4 (tmF x' y' z' u') ∧ V2.rowIs (wk.heap.size + 1) 113 3 (eAdd x y z x' y' z' 0) :=
            ⟨_, rfl, box2 _ _ _, ⟨by simp, by simp⟩, (trow wk x' y' z' u').alloc _, erow1 wk _ x y z⟩
          obtain ⟨⟨m0, m1, m2⟩, _⟩ := poly3 hM.arg2
          have so : ∀ o, ((wk.alloc o).cell? ⟨wo.heap.size, 0, none⟩ = some (.int .u8 x) ∧ (wk.alloc o).cell? ⟨wo.heap.size, 1, none⟩ = some (.int .u8 y) ∧ (wk.alloc o).cell? ⟨wo.heap.size, 2, none⟩ = some (.int .u8 z)) := fun o =>
            ⟨((box1 wk o).cell (p := ⟨_, _, none⟩) rs.lt).trans s0, ((box1 wk o).cell (p := ⟨_, _, none⟩) rs.lt).trans s1, ((box1 wk o).cell (p := ⟨_, _, none⟩) rs.lt).trans s2⟩
          go_wp2_with fail
          rw [← hV2]
          clear hV2 so m0 m1 m2 d0 d1 d2 d3 s0 s1 s2 s3
          go_loopw [11, 29] (fun _ j wr => ∃ (jn : Nat) (ji : Int), ((jn = 0 ∧ ji = 0) ∨ (jn = 1 ∧ ji = 1) ∨ (jn = 2 ∧ ji = 2) ∨ (jn = 3 ∧ ji = 3)) ∧ j = .int .i64 ji ∧ wr.rowIs (wk.heap.size + 1) 113 3 (eAdd x y z x' y' z' jn) ∧ V2.grownBy wr (some (wk.heap.size + 1))) (fun _ j _ => 3 - (intOf j).toNat)
          case atStart => exact ⟨0, 0, .inl ⟨rfl, rfl⟩, rfl, re, World.grownBy.refl _ _⟩
          case round =>
            obtain ⟨jn, ji, hj, rfl, rej, hgr⟩ := hrel
            have rtj := rt.of_block (hgr.block _ rt.lt (by simp))
            rcases hj with ⟨rfl, rfl⟩ | ⟨rfl, rfl⟩ | ⟨rfl, rfl⟩ | ⟨rfl, rfl⟩
            · have m0 : wr.cell? ⟨wk.heap.size + 1, 0, none⟩ = some (.int .u8 x) := rej.cell (i := 0) (by omega)
              have m1 : wr.cell? ⟨wk.heap.size, 0, none⟩ = some (.int .u8 x') := rtj.cell (i := 0) (by omega)
              have m2 := rej.frozen 0
              have g1 : IntKind.u8.wrap (x + x') = x + x' := IntWalk.u8_in _ (by omega)
              have hre := eset rej (x + x') (by omega) rfl
              have hge := gset hgr 0 (.int .u8 (x + x'))
              have Hre := Lib.hid hre
              clear rej rtj re rt hre
              go_wp2_with fail
              refine region_tail 9 (by kernel_rfl) (by kernel_rfl) ?_
              simp only [List.take_succ_cons, List.take_zero, List.drop_succ_cons, List.drop_zero]
              repeat still_step
              refine wpStill_nil ?_
              go_wp2_with fail
              go_roundw
              case rel => exact ⟨1, 1, by omega, by go_num, Hre.out, hge⟩
              case measure => simp [intOf]
            · have m0 : wr.cell? ⟨wk.heap.size + 1, 1, none⟩ = some (.int .u8 y) := rej.cell (i := 1) (by omega)
              have m1 : wr.cell? ⟨wk.heap.size, 1, none⟩ = some (.int .u8 y') := rtj.cell (i := 1) (by omega)
              have m2 := rej.frozen 1
              have g1 : IntKind.u8.wrap (y + y') = y + y' := IntWalk.u8_in _ (by omega)
              have hre := eset rej (y + y') (by omega) rfl
              have hge := gset hgr 1 (.int .u8 (y + y'))
              have Hre := Lib.hid hre
              clear rej rtj re rt hre
              go_wp2_with fail
              refine region_tail 9 (by kernel_rfl) (by kernel_rfl) ?_
              simp only [List.take_succ_cons, List.take_zero, List.drop_succ_cons, List.drop_zero]
              repeat still_step
              refine wpStill_nil ?_
              go_wp2_with fail
              go_roundw
              case rel => exact ⟨2, 2, by omega, by go_num, Hre.out, hge⟩
              case measure => simp [intOf]
            · have m0 : wr.cell? ⟨wk.heap.size + 1, 2, none⟩ = some (.int .u8 z) := rej.cell (i := 2) (by omega)
              have m1 : wr.cell? ⟨wk.heap.size, 2, none⟩ = some (.int .u8 z') := rtj.cell (i := 2) (by omega)
              have m2 := rej.frozen 2
              have g1 : IntKind.u8.wrap (z + z') = z + z' := IntWalk.u8_in _ (by omega)
              have hre := eset rej (z + z') (by omega) rfl
              have hge := gset hgr 2 (.int .u8 (z + z'))
              have Hre := Lib.hid hre
              clear rej rtj re rt hre
              go_wp2_with fail
              refine region_tail 9 (by kernel_rfl) (by kernel_rfl) ?_
              simp only [List.take_succ_cons, List.take_zero, List.drop_succ_cons, List.drop_zero]
              repeat still_step
              refine wpStill_nil ?_
              go_wp2_with fail
              go_roundw
              case rel => exact ⟨3, 3, by omega, by go_num, Hre.out, hge⟩
              case measure => simp [intOf]
            · have hbj : Below wk.heap.size wk wr := hbV2.grown hgr hbV2.size (fun g e => by simp at e; omega)
              have hMj := hM.later hbj
              have rsj := rowIs_below rs hbj rs.lt
              have k0 : wr.cell? ⟨wk.heap.size + 1, 0, none⟩ = some (.int .u8 (x + x')) := rej.cell (i := 0) (by omega)
              have k1 : wr.cell? ⟨wk.heap.size + 1, 1, none⟩ = some (.int .u8 (y + y')) := rej.cell (i := 1) (by omega)
              have k2 : wr.cell? ⟨wk.heap.size + 1, 2, none⟩ = some (.int .u8 (z + z')) := rej.cell (i := 2) (by omega)
              have s3 : wr.cell? ⟨wo.heap.size, 3, none⟩ = some (.int .i64 u) := rsj.cell (i := 3) (by omega)
              have t3 : wr.cell? ⟨wk.heap.size, 3, none⟩ = some (.int .i64 u') := rtj.cell (i := 3) (by omega)
              obtain ⟨⟨p0, _, _⟩, _⟩ := poly3 hMj.st.arg
              have hkey : keyOf Try.prog 113 (.agg #[.int .u8 (x + x'), .int .u8 (y + y'), .int .u8 (z + z')]) = some (kE (x + x', y + y', z + z')) := keyOf_vE (x + x', y + y', z + z') hE1
              have hMd := hMj.later (Below.same wr).drew
              obtain ⟨c, hrun, hat, _⟩ := hMd.st.map.lookup_int lawK Try.underlying126 Try.underlying2 (zero64 _) hkey
              have hce : c = F k (x + x', y + y', z + z') := by rw [← HD.out _ hE1]; exact (cf_of_at hat).symm
              obtain ⟨b0, b1⟩ := HB.out k (x + x', y + y', z + z')
              rw [← hce] at b0 b1
              have HC := Lib.hid hce
              clear hce hat
              have g1 : 0 ≤ u * u' := Int.mul_nonneg (by omega) (by omega)
              have g2 : u * u' ≤ 13 * 13 := Int.mul_le_mul (by omega) (by omega) (by omega) (by omega)
              have hw : IntKind.i64.wrap (u * u') = u * u' := IntWalk.i64_in _ (by omega)
              have hw2 : IntKind.i64.wrap (c + u * u') = c + u * u' := IntWalk.i64_in _ (by omega)
              have hp0 : ¬ p = 0 := by omega
              have hp1 : (p == 0) = false := by simpa using hp0
              have ht : (c + u * u').tmod p = (c + u * u') % p := Int.tmod_eq_emod_of_nonneg (by omega)
              have q1 : 0 ≤ (c + u * u') % p := Int.emod_nonneg _ (by omega)
              have q2 : (c + u * u') % p < p := Int.emod_lt_of_pos _ (by omega)
              have HD2 : Hid (∀ e, byte3 e → cf (D.put (kE (x + x', y + y', z + z')) (.lit (.int .i64 ((c + u * u') % p)))) e = F (k + 1) e) := Lib.hid (fun e he => by
                rw [cf_put hMd.st.map.isMap hE1 he, HS.out e, HD.out e he, HC.out, Int.add_comm (F k _) (u * u')]
                rfl)
              clear HC HD HS HF HE HN hM hMj rej rtj re rt hgr
              go_wp2_with fail
              refine region_tail 14 (by kernel_rfl) (by kernel_rfl) ?_
              simp only [List.take_succ_cons, List.take_zero, List.drop_succ_cons, List.drop_zero]
              repeat still_step
              refine wpStill_nil ?_
              try simp only [hw, hw2, ht]
              go_wp2_with (at_mapUpdate; refine wpList_mapUpdate_own _ rfl _ _ _ 126 rfl 113 2 lawK Try.underlying126 (plainElem Try.prog 2) W.heap.size (i * 2197 + k) D rfl hMd.st.map (by unfold maxLen; omega) (.agg #[.int .u8 (x + x'), .int .u8 (y + y'), .int .u8 (z + z')]) _ _ rfl rfl hkey _ [] (plainElem_int Try.underlying2 (wf64 q1 (by omega))) ?_; intro w3 hown3 hgrow3)
              have rsd := rowIs_below rsj (Below.same wr).drew rsj.lt
              have rs3 := rsd.of_block (hgrow3.block _ rsd.lt (by simpa using row_not_map rsd hMd.st.map))
              have hM3 := (hMd.wrote hgrow3 hown3).most (n' := i * 2197 + (k + 1)) (by omega)
              go_roundw
              case rel => exact ⟨k + 1, _, by omega, by go_num, HD2, hM3, rs3⟩
              case measure => simp [intOf]; omega
        · obtain rfl : k = ys.length := by omega
          have HD2 : Hid (∀ e, byte3 e → cf D e = mulF p (xs.take (i + 1)) ys e) := Lib.hid (fun e he => (HD.out e he).trans (HN.out e))
          have hM2 := hM.most (n' := (i + 1) * 2197) (by omega)
          clear HD HN HF HE hM
          go_wp2_with fail
          go_roundw
          case rel => exact ⟨i + 1, D, by omega, by go_num, HD2, hM2⟩
          case measure => simp [intOf]; omega
    · obtain rfl : i = xs.length := by omega
      have hD := HD.out
      rw [List.take_length] at hD
      have HD2 := Lib.hid hD
      clear HD hD
      obtain ⟨⟨c0, c1, c2⟩, _⟩ := poly3 hM.st.arg
      have hbd : ∀ e, byte3 e → 0 ≤ mulF p xs ys e ∧ mulF p xs ys e < p := fun e he => hL.bound (by omega) he
      have h12 : ∀ e, byte3 e → mulF p xs ys e ≠ 0 → e.1 + e.2.1 + e.2.2 ≤ 12 := fun e he hne => by
        rw [← hL.2.2 e he] at hne
        by_cases hmem : ∃ t ∈ L, tmE t = e
        · obtain ⟨t, ht, rfl⟩ := hmem
          exact (hL.2.1 t ht).1.2
        · exact absurd (atL_none fun t ht hx => hmem ⟨t, ht, hx⟩) hne
      go_wp2_with fail
      ((with_reducible refine (polyOf_any sort_says p d W.heap.size _ D wo hM.st.map (by omega) (fun e he hne => h12 e he (by have := HD2.out e he; rwa [← this]))).mono ?_); rintro e w4 ⟨v4, S, rfl, ho4, hgood, hb4⟩)
      obtain rfl : S = L := (hgood.isP HD2.out hbd h12).unique hL
      obtain ⟨sa2, sc2, rfl⟩ := owns_slice ho4
      have rr2 := rowIs_below hM.st.res hb4 hM.st.res.lt
      obtain ⟨a0, a1, a2, a3, a4⟩ := fill_box rr2 ho4 hM.st.below.size (hM.st.below.trans (hb4.mono hM.st.below.size)) (by omega) p d
      have A0 := Lib.hid a0
      have A1 := Lib.hid a1
      have A2 := Lib.hid a2
      have A3 := Lib.hid a3
      have A4 := Lib.hid a4
      clear a0 a1 a2 a3 a4 c0 c1 c2 ho4 HD2 hbd h12 hgood hM
      obtain ⟨⟨r0, r1, r2⟩, z0, z1, z2⟩ := poly3 rr2
      go_wp2_with fail
      exact bodyPost_ret (v := .agg #[.int .i64 p, .int .i64 d, .slice sa2 S.length sc2]) (by simp [results, Try.results61, go_sem, A0.out, A1.out, A2.out]) rfl ⟨_, S, rfl, A3.out, hL, A4.out⟩
end Go.Proofs.Ytbhgbifliihlbaa
namespace Go.Proofs.Ytbhgbifliihlbaa
open Go.RowKit Go.Sort Go.Maps EchM

theorem constL_isP {p : Int} (hp : 2 ≤ p) : PrR p [] (constL 1) := by
  refine ⟨?_, ?_, ?_⟩
  · exact List.pairwise_singleton _ _
  · intro t ht
    have e : t = (0, 0, 0, 1) := by simpa [constL, mkT] using ht
    subst e
    refine ⟨⟨?_, ?_⟩, ?_, ?_⟩ <;> simp [tmE, byte3] <;> omega
  · intro e _
    have : constL 1 = [(0, 0, 0, 1)] := rfl
    rw [this, atL, atL]
    by_cases h : e = (0, 0, 0)
    · subst h; simp [tmE]
    · rw [if_neg (fun h2 => h (by rw [← h2]; rfl))]
      exact (if_neg h).symm

set_option maxRecDepth 8000 in
set_option maxHeartbeats 32000000 in
theorem iPoL (lv ev : Value) (G : List Pm) (es : List Int) (w : World) (hlG : G.length ≤ 1048576) (hok : ∀ g ∈ G, PmOk g) (hG : SlP w lv G) (hle : es.length ≤ 1048576) (hE : Sl w ev es) (o : OutP) (ho : ProdX G es o) :
    Calls Try.prog 24 #[lv, ev] w (ResO w o) := by
  obtain ⟨la, lc, rfl, hc⟩ := id hG
  obtain ⟨ea, ec, rfl, hce⟩ := id hE
  obtain ⟨W, hW, hbW, ⟨hWs1, hWs2⟩, rr⟩ : ∃ W, W = w.alloc (.cells #[.int .i64 0, .int .i64 0, .slice none 0 0] 40) ∧ Below w.heap.size w W ∧ (W.heap.size ≤ w.heap.size + 1 ∧ w.heap.size + 1 ≤ W.heap.size) ∧ W.rowIs w.heap.size 40 3 (polyF 0 0 (.slice none 0 0)) := ⟨_, rfl, box1 _ _, ⟨by simp, by simp⟩, zbox w⟩
  have HC : Hid (∀ C, C ≠ 0 → prodC G es = C → o = noP C) := Lib.hid (fun C h0 hC => by
    rcases ho with ⟨_, rfl⟩ | ⟨h1, _⟩
    · rw [hC]
    · exact absurd (hC.symm.trans h1) h0)
  have HZ : Hid (prodC G es = 0 → ∃ L, PrR (hdP G).1 (facX (tmsL G) es G.length) L ∧ o = ⟨(hdP G).1, (hdP G).2.1, L, 0⟩) := Lib.hid (fun h => by
    rcases ho with ⟨h1, _⟩ | ⟨_, h2⟩
    · exact absurd h h1
    · exact h2)
  have HS := Lib.hid (icl (.slice la G.length lc) G W hlG hok (hG.below hbW))
  have HOK := Lib.hid hok
  have HG := Lib.hid hG
  have HEE := Lib.hid hE
  clear ho hok hG hE hc
  go_enter Try.func24, Try.ntmps24
  go_wp2_with fail
  rw [← hW]
  clear hW
  ((with_reducible refine HS.out.mono ?_); rintro e w1 ⟨rfl, hb1⟩)
  have hbw1 := hbW.trans (hb1.mono hbW.size)
  have rr1 := rowIs_below rr hb1 rr.lt
  clear rr hb1 HS
  by_cases hl : listC 1 G = 0
  case neg =>
    have HO1 := Lib.hid (HC.out _ hl (by unfold prodC; rw [if_neg hl]))
    obtain ⟨C, hC⟩ : ∃ C, listC 1 G = C := ⟨_, rfl⟩
    rw [hC] at hl HO1 ⊢
    have hc' : (C != 0) = true := by simpa using hl
    clear hl hC
    obtain ⟨⟨r0, r1, r2⟩, z0, z1, z2⟩ := poly3 rr1
    obtain ⟨a0, a1, a2, a3, a4⟩ := fill_box (w := w) rr1 (ownP_nil w1 w.heap.size) (Nat.le_refl _) hbw1 (by omega) 0 0
    have A0 := Lib.hid a0
    have A1 := Lib.hid a1
    have A2 := Lib.hid a2
    have A3 := Lib.hid a3
    have A4 := Lib.hid a4
    clear a0 a1 a2 a3 a4
    go_wp2_with fail
    exact bodyPost_ret (v := .tuple #[.agg #[.int .i64 0, .int .i64 0, .slice none 0 0], .int .i64 C]) (by simp [results, Try.results24, go_sem, A0.out, A1.out, A2.out]) rfl (by rw [HO1.out]; exact ⟨_, rfl, A3.out, A4.out⟩)
  have HPI := Lib.hid (prodC_if (es := es) hl)
  have HGM := Lib.hid (gok_of HOK.out hl)
  obtain ⟨hn1, h8, _⟩ := listC_zero HOK.out hl
  rw [hl]
  clear hl
  have HXP := Lib.hid (iexps (G.length : Int) (.slice ea es.length ec) es w1 hle (HEE.out.below hbw1))
  have HNG : Hid ((decide (es.length = G.length) && es.all fun x => decide (0 ≤ x)) = (decide ((es.length : Int) = (G.length : Int)) && es.all ngB)) := Lib.hid (by
    congr 1
    rw [decide_eq_decide]
    omega)
  obtain ⟨B, hB⟩ : ∃ B, (decide ((es.length : Int) = (G.length : Int)) && es.all ngB) = B := ⟨_, rfl⟩
  rw [hB] at HXP HNG
  have HB := Lib.hid hB
  clear hB
  go_wp2_with fail
  ((with_reducible refine HXP.out.mono ?_); rintro e w2 ⟨rfl, hw2⟩)
  subst hw2
  clear HXP
  cases B
  · have HO1 := Lib.hid (HC.out 2 (by omega) (by rw [HPI.out, HNG.out]; simp))
    obtain ⟨⟨r0, r1, r2⟩, z0, z1, z2⟩ := poly3 rr1
    obtain ⟨a0, a1, a2, a3, a4⟩ := fill_box (w := w) rr1 (ownP_nil w2 w.heap.size) (Nat.le_refl _) hbw1 (by omega) 0 0
    have A0 := Lib.hid a0
    have A1 := Lib.hid a1
    have A2 := Lib.hid a2
    have A3 := Lib.hid a3
    have A4 := Lib.hid a4
    clear a0 a1 a2 a3 a4
    go_wp2_with fail
    exact bodyPost_ret (v := .tuple #[.agg #[.int .i64 0, .int .i64 0, .slice none 0 0], .int .i64 2]) (by simp [results, Try.results24, go_sem, A0.out, A1.out, A2.out]) rfl (by rw [HO1.out]; exact ⟨_, rfl, A3.out, A4.out⟩)
  have hel : es.length = G.length := by
    have := HB.out
    simp only [Bool.and_eq_true, decide_eq_true_eq] at this
    omega
  have HE : Hid (∀ x ∈ es, 0 ≤ x) := Lib.hid (fun x hx => by
    have := HB.out
    simp only [Bool.and_eq_true] at this
    simpa [ngB] using List.all_eq_true.1 this.2 x hx)
  have HPJ : Hid (prodC G es = if bndX (tmsL G) es G.length ≤ 12 then 0 else 3) := Lib.hid (by rw [HPI.out, HNG.out]; rfl)
  have HEL := Lib.hid hel
  have hes8 : es.length ≤ 8 := by omega
  have hn0 : 0 < G.length := hn1
  obtain ⟨eb, eoff, rfl, hbe, hTE⟩ : ∃ b off, ea = some ⟨b, off, none⟩ ∧ b < w.heap.size ∧ Cs w b off es := by
    rcases hce with h | h
    · have := HEL.out
      rw [h] at this; simp at this; omega
    · exact h
  have HTE := Lib.hid hTE
  obtain ⟨bl, off, rfl, hbl, hT, _⟩ := SlP.at HG.out hn0
  have HT := Lib.hid hT
  clear hel hTE hce HPI HNG HB hT
  go_wp2_with fail
  go_loopw [27, 7] (fun i s wr => ∃ k : Nat, k ≤ G.length ∧ i = .int .i64 k ∧ s = .int .i64 (12 - bndX (tmsL G) es k) ∧ bndX (tmsL G) es k ≤ 12 ∧ wr.rowIs w.heap.size 40 3 (polyF 0 0 (.slice none 0 0)) ∧ Below w.heap.size w wr) (fun i _ _ => G.length - (intOf i).toNat)
  case atStart => exact ⟨0, by omega, rfl, rfl, by simp [bndX], rr1, hbw1⟩
  case round =>
    clear rr1 hbw1
    obtain ⟨k, hk, rfl, rfl, hB12, rr, hbr⟩ := hrel
    have hB0 := bndX_nonneg (Ls := tmsL G) HE.out k
    by_cases hlt : k < G.length
    · have hlt' : (k : Int) < (G.length : Int) := by omega
      have hke : k < es.length := by rw [HEL.out]; exact hlt
      have hke' : (k : Int) < (es.length : Int) := by omega
      have c0 := (HTE.out.below hbr hbe) k hke
      rw [← nthX_lt hke] at c0
      have hn0x := nthX_nonneg HE.out k
      have hDA := dgN_at HGM.out hlt
      have hD1 := (HGM.out k hlt).2.2.2
      have hd12 := bnd_dg HGM.out k
      rw [← hDA] at hD1
      have hRX := roomX (Ls := tmsL G) (k := k) HE.out hD1
      have HMO := Lib.hid (bndX_mono (Ls := tmsL G) HE.out (show k + 1 ≤ G.length from hlt))
      have HOB : Hid (12 < bndX (tmsL G) es (k + 1) → o = noP 3) := Lib.hid (fun h => HC.out 3 (by omega) (by
        have := HMO.out
        rw [HPJ.out, if_neg (by omega)]))
      have HNX : Hid (bndX (tmsL G) es (k + 1) = bndX (tmsL G) es k + nthX es k * dgN (tmsL G) k) := Lib.hid (by rw [bndX])
      obtain ⟨u, g0, g1, g2, hu⟩ := (HT.out.below hbr hbl) k hlt
      have hokk := HOK.out _ (List.getElem_mem hlt)
      have hval := (HGM.out k hlt).2.2.1
      have hvb := hval.isP.byte hval.p13
      have hsm : ∀ t ∈ G[k].2.2, sumT t ≤ 12 := fun t ht => (hval.mem t ht).1.2
      obtain ⟨ua, uc, rfl, _⟩ := id hu
      obtain ⟨V2, hV2, hbV2, ⟨hVs1, hVs2⟩, rq⟩ := newbox wr G[k].1 G[k].2.1 (.slice ua G[k].2.2.length uc)
      have hb2 := hbr.trans (hbV2.mono hbr.size)
      have rr2 := rowIs_below rr hbV2 rr.lt
      have c2 := (hbV2.cell (p := ⟨eb, eoff + k, none⟩) (Nat.lt_of_lt_of_le hbe hbr.size)).trans c0
      obtain ⟨⟨q0, q1, q2⟩, _⟩ := poly3 rq
      have HDD := Lib.hid (fun w' (h : SliceT w' (.slice ua G[k].2.2.length uc) G[k].2.2) => degree_any2 G[k].1 G[k].2.1 (.slice ua G[k].2.2.length uc) G[k].2.2 w' hokk.2 h hvb hsm)
      have kD : ∀ dd os, Calls Try.prog 59 #[.agg #[.int .i64 G[k].1, .int .i64 G[k].2.1, .slice ua G[k].2.2.length uc]] (grow (redrawn V2 dd) os) fun e w'' => e = .returned (.int .i64 (degI G[k].2.2)) ∧ ∃ p : Regrown, w'' = grow (redrawn V2 p.d) p.os := fun dd os =>
        Calls.regrown_of (HDD.out _ ((hu.below hbV2).below (below_regrown V2 dd os)))
      have huV := hu.below hbV2
      rw [← hDA] at kD HDD
      have k0 := cell_regrown c2
      have k2 := cell_regrown q0
      have k3 := cell_regrown q1
      have k4 := cell_regrown q2
      generalize G[k] = g at *
      clear hDA hval hvb hsm hokk hu
      go_upto_region 10 with fail
      rw [← hV2]
      clear hV2 g0 g1 g2 c0
      obtain ⟨x, hx⟩ : ∃ x, nthX es k = x := ⟨_, rfl⟩
      obtain ⟨y, hy⟩ : ∃ y, dgN (tmsL G) k = y := ⟨_, rfl⟩
      obtain ⟨B, hBB⟩ : ∃ B, bndX (tmsL G) es k = B := ⟨_, rfl⟩
      rw [hx] at c2 hn0x hRX HNX k0
      rw [hy] at hD1 hd12 hRX HNX kD HDD
      rw [hBB] at hB12 hB0 hRX HNX ⊢
      clear hx hy hBB
      by_cases h1 : 12 - B < x
      · have HO1 := Lib.hid (HOB.out (hRX.1 (.inl h1)))
        have h1d : decide (12 - B < x) = true := by simpa using h1
        clear hRX
        go_wp2_with fail
        refine wp_region_quiet_below (by kernel_rfl) (by kernel_rfl) ?_
        repeat (go_big_quiet_step (fail))
        refine wpQuiet_nil ?_
        intro _ hw'
        obtain ⟨⟨dq, osq⟩, hw''⟩ := hw'
        subst hw''
        have hbq := below_regrown V2 dq osq
        have hb3 := hb2.trans (hbq.mono hb2.size)
        have rr3 := rowIs_below rr2 hbq rr2.lt
        generalize grow (redrawn V2 dq) osq = w3 at *
        clear k0 k2 k3 k4 kD rr2 hb2 hbq
        obtain ⟨⟨r0, r1, r2⟩, z0, z1, z2⟩ := poly3 rr3
        obtain ⟨a0, a1, a2, a3, a4⟩ := fill_box (w := w) rr3 (ownP_nil w3 w.heap.size) (Nat.le_refl _) hb3 (by omega) 0 0
        have A0 := Lib.hid a0
        have A1 := Lib.hid a1
        have A2 := Lib.hid a2
        have A3 := Lib.hid a3
        have A4 := Lib.hid a4
        clear a0 a1 a2 a3 a4
        go_wp2_with fail
        exact bodyPost_ret (v := .tuple #[.agg #[.int .i64 0, .int .i64 0, .slice none 0 0], .int .i64 3]) (by simp [results, Try.results24, go_sem, A0.out, A1.out, A2.out]) rfl (by rw [HO1.out]; exact ⟨_, rfl, A3.out, A4.out⟩)
      have hx12 : x ≤ 12 := by omega
      have m0 : 0 ≤ x * y := Int.mul_nonneg hn0x (by omega)
      have m1 : x * y ≤ 12 * 12 := Int.mul_le_mul hx12 hd12 (by omega) (by omega)
      have hw1 : IntKind.i64.wrap (x * y) = x * y := IntWalk.i64_in _ (by omega)
      have h1d : decide (12 - B < x) = false := by simpa using h1
      by_cases h2 : 12 - B < x * y
      · have HO1 := Lib.hid (HOB.out (hRX.1 (.inr h2)))
        have h2d : decide (12 - B < x * y) = true := by simpa using h2
        clear hRX
        go_wp2_with fail
        refine wp_region_quiet_below (by kernel_rfl) (by kernel_rfl) ?_
        repeat (go_big_quiet_step (with_reducible exact kD _ _))
        refine wpQuiet_nil ?_
        intro _ hw'
        obtain ⟨⟨dq, osq⟩, hw''⟩ := hw'
        subst hw''
        have hbq := below_regrown V2 dq osq
        have hb3 := hb2.trans (hbq.mono hb2.size)
        have rr3 := rowIs_below rr2 hbq rr2.lt
        generalize grow (redrawn V2 dq) osq = w3 at *
        clear k0 k2 k3 k4 kD rr2 hb2 hbq
        obtain ⟨⟨r0, r1, r2⟩, z0, z1, z2⟩ := poly3 rr3
        obtain ⟨a0, a1, a2, a3, a4⟩ := fill_box (w := w) rr3 (ownP_nil w3 w.heap.size) (Nat.le_refl _) hb3 (by omega) 0 0
        have A0 := Lib.hid a0
        have A1 := Lib.hid a1
        have A2 := Lib.hid a2
        have A3 := Lib.hid a3
        have A4 := Lib.hid a4
        clear a0 a1 a2 a3 a4
        go_wp2_with fail
        exact bodyPost_ret (v := .tuple #[.agg #[.int .i64 0, .int .i64 0, .slice none 0 0], .int .i64 3]) (by simp [results, Try.results24, go_sem, A0.out, A1.out, A2.out]) rfl (by rw [HO1.out]; exact ⟨_, rfl, A3.out, A4.out⟩)
      have h2d : decide (12 - B < x * y) = false := by simpa using h2
      have hNB : bndX (tmsL G) es (k + 1) ≤ 12 := by rw [HNX.out]; omega
      have HNB := Lib.hid hNB
      clear hRX hNB
      go_wp2_with fail
      refine wp_region_quiet_below (by kernel_rfl) (by kernel_rfl) ?_
      repeat (go_big_quiet_step (with_reducible exact kD _ _))
      refine wpQuiet_nil ?_
      intro _ hw'
      obtain ⟨⟨dq, osq⟩, hw''⟩ := hw'
      subst hw''
      have hbq := below_regrown V2 dq osq
      have hb3 := hb2.trans (hbq.mono hb2.size)
      have rr3 := rowIs_below rr2 hbq rr2.lt
      have rq3 := rowIs_below rq hbq rq.lt
      have hu3 := huV.below hbq
      have c3 := (hbq.cell (p := ⟨eb, eoff + k, none⟩) (by show eb < V2.heap.size; have := hbr.size; omega)).trans c2
      generalize grow (redrawn V2 dq) osq = w3 at *
      clear k0 k2 k3 k4 kD rr2 hb2 hbq q0 q1 q2 c2 huV
      obtain ⟨⟨q0, q1, q2⟩, _⟩ := poly3 rq3
      have kD : ∀ dd os, Calls Try.prog 59 #[.agg #[.int .i64 g.1, .int .i64 g.2.1, .slice ua g.2.2.length uc]] (grow (redrawn w3 dd) os) fun e w'' => e = .returned (.int .i64 y) ∧ ∃ p : Regrown, w'' = grow (redrawn w3 p.d) p.os := fun dd os =>
        Calls.regrown_of (HDD.out _ (hu3.below (below_regrown w3 dd os)))
      have k0 := cell_regrown c3
      have k2 := cell_regrown q0
      have k3 := cell_regrown q1
      have k4 := cell_regrown q2
      have hw3 : IntKind.i64.wrap (12 - B - x * y) = 12 - B - x * y := IntWalk.i64_in _ (by omega)
      go_wp2_with fail
      refine wp_region_quiet_below (by kernel_rfl) (by kernel_rfl) ?_
      repeat (go_big_quiet_step (with_reducible exact kD _ _))
      refine wpQuiet_nil ?_
      intro _ hw'
      obtain ⟨⟨dq, osq⟩, hw''⟩ := hw'
      subst hw''
      have hbq := below_regrown w3 dq osq
      have hb4 := hb3.trans (hbq.mono hb3.size)
      have rr4 := rowIs_below rr3 hbq rr3.lt
      have HEQ : Hid (12 - B - x * y = 12 - bndX (tmsL G) es (k + 1)) := Lib.hid (by rw [HNX.out]; omega)
      generalize grow (redrawn w3 dq) osq = w4 at *
      clear k0 k2 k3 k4 kD rr3 hb3 hbq q0 q1 q2 c3 hu3
      go_wp2_with fail
      go_roundw
      case rel => exact ⟨k + 1, by omega, by go_num, by rw [← HEQ.out], HNB.out, rr4, hb4⟩
      case measure => simp [intOf]; omega
    · obtain rfl : k = G.length := by omega
      obtain ⟨L, hL, hoL⟩ := HZ.out (by rw [HPJ.out, if_pos hB12])
      have HOL := Lib.hid hoL
      have HLL := Lib.hid hL
      have hV0 := (HGM.out 0 hn0).2.2.1
      have hp2 := hV0.p2
      have hp13 := hV0.p13
      obtain ⟨u0, t0, t1, _, _⟩ := (HT.out.below hbr hbl) 0 hn0
      rw [(HGM.out 0 hn0).1, Nat.zero_mul, Nat.add_zero] at t0
      rw [(HGM.out 0 hn0).2.1, Nat.zero_mul, Nat.add_zero] at t1
      have HSUM := Lib.hid (fun (k j : Nat) (hj : (j : Int) ≤ nthX es k) (hk : k < G.length) => sumD_facY (Ls := tmsL G) HE.out hj hk hB12)
      have HFV := Lib.hid (fun (m j : Nat) => facY_valid hV0 HGM.out.tms es m j)
      have HEX := Lib.hid (fun (m : Nat) (hm : m < G.length) => exp_le HGM.out HE.out hB12 hm)
      obtain ⟨p, hp⟩ : ∃ p, (hdP G).1 = p := ⟨_, rfl⟩
      obtain ⟨d, hd⟩ : ∃ d, (hdP G).2.1 = d := ⟨_, rfl⟩
      rw [hp] at t0 hp2 hp13 HFV HGM HOL HLL
      rw [hd] at t1 HFV HGM HOL
      have hblr : bl < wr.heap.size := Nat.lt_of_lt_of_le hbl hbr.size
      obtain ⟨wo, hwo⟩ : ∃ wo : World, wo = wr := ⟨_, rfl⟩
      subst hwo
      have KK := Lib.hid (fun w' (h : Below wo.heap.size wo w') => show (w'.cell? ⟨bl, off, none⟩ = some (.int .i64 p) ∧ w'.cell? ⟨bl, off + 1, none⟩ = some (.int .i64 d)) from
        ⟨(h.cell (p := ⟨bl, _, none⟩) hblr).trans t0, (h.cell (p := ⟨bl, _, none⟩) hblr).trans t1⟩)
      have hl0' : (0 : Int) < (G.length : Int) := by omega
      have H1A := Lib.hid (fun w => constant_any p d 1 w (by omega) (by omega))
      obtain ⟨O1, hO1⟩ : ∃ O1, constL 1 = O1 := ⟨_, rfl⟩
      have HO1 : Hid (PrR p (facY (tmsL G) es 0 0) O1) := Lib.hid (by rw [← hO1, facY_zero]; exact constL_isP hp2)
      rw [hO1] at H1A
      have hosz := hbr.size
      clear hL hoL hV0 hO1 hp hd HZ HC HPJ hB12 hB0
      go_upto_region 14 with fail
      clear t0 t1
      go_cut [10] (fun s5 wx => ∃ (bo : Nat) (A : Option Addr) (c : Nat), s5 = .pointer (some ⟨bo, 0, none⟩) ∧ wx.rowIs bo 40 3 (polyF p d (.slice A O1.length c)) ∧ OwnP wx wo.heap.size (.slice A O1.length c) O1 ∧ Below wo.heap.size wo wx ∧ wo.heap.size ≤ bo)
      case first =>
        go_region_held3 (fun w' => (w'.cell? ⟨bl, off, none⟩ = some (.int .i64 p) ∧ w'.cell? ⟨bl, off + 1, none⟩ = some (.int .i64 d)))
          (first | with_reducible exact KK.out _ (setL3 HB13 (Nat.le_refl _) _ _ _) | with_reducible exact KK.out _ (Below.same _).drew | with_reducible exact KK.out _ (box1 _ _).drew | with_reducible exact KK.out _ HB13 | with_reducible exact KK.out _ (HB13.trans ((box1 _ _).mono HB13.size)))
          ((go_at_call 60; (with_reducible refine (H1A.out _).mono ?_); rintro e w13 ⟨v13, rfl, ho13, hb13⟩; have HB13 : Below wo.heap.size wo w13 := (by first | exact (Below.same _).drew.trans hb13 | with_reducible exact (box1 _ _).drew.trans (hb13.mono (by simp))); (first | (have ZR13 : w13.rowIs wo.heap.size 40 3 (polyF 0 0 (.slice none 0 0)) := rowIs_below (zboxD wo) hb13 (by simp); obtain ⟨⟨e130, e131, e132⟩, f130, f131, f132⟩ := poly3 ZR13) | skip); (obtain ⟨sa13, sc13, rfl⟩ := owns_slice ho13)))
        all_goals
          go_wp2_with fail
          go_meet
          first
            | exact ⟨w13.heap.size, sa13, sc13, rfl, World.rowIs_alloc w13 #[Value.int .i64 p, .int .i64 d, .slice sa13 O1.length sc13] _ _ (fun i hi => by simp at hi; match i, hi with | 0, _ => rfl | 1, _ => rfl | 2, _ => rfl), owns_low (owns_belowT ho13 (box1 _ _)) (by first | exact Nat.le_refl _ | simp), HB13.trans ((box1 _ _).mono HB13.size), HB13.size⟩
            | exact ⟨wo.heap.size, sa13, sc13, rfl, (setB3 ZR13 (OwnP.slice ho13) p d).1, owns_low (rep_own3 ho13 ZR13) (by simp), setL3 HB13 (Nat.le_refl _) _ _ _, Nat.le_refl _⟩
      case rest =>
        obtain ⟨bo, A2, c2, rfl, ro, ho, hbo, hbo2⟩ := hcut
        have hne : w.heap.size ≠ bo := by have := rr.lt; omega
        have hbo3 : w.heap.size ≤ bo := by omega
        have rr2 := rowIs_below rr hbo rr.lt
        have hbr0 := hbr.trans (hbo.mono hbr.size)
        have ho2 := owns_low ho hosz
        clear KK H1A hbo rr hbr ho
        go_wp2_with fail
        go_loopw [71] (fun i wr => ∃ (m : Nat) (sv2 : Value) (O2 : List Tm), m ≤ G.length ∧ i = .int .i64 m ∧ Hid (PrR p (facY (tmsL G) es m 0) O2) ∧ wr.rowIs bo 40 3 (polyF p d sv2) ∧ OwnP wr w.heap.size sv2 O2 ∧ wr.rowIs w.heap.size 40 3 (polyF 0 0 (.slice none 0 0)) ∧ Below w.heap.size w wr) (fun i _ => G.length - (intOf i).toNat)
        case atStart => exact ⟨0, _, O1, by omega, rfl, HO1, ro, ho2, rr2, hbr0⟩
        case round =>
          clear rr2 hbr0 ro ho2 HO1
          obtain ⟨m, sv2, O2, hm, rfl, HO2, ro, ho, rr, hbr⟩ := hrel
          obtain ⟨wm, hwm⟩ : ∃ wm : World, wm = wr := ⟨_, rfl⟩
          subst hwm
          by_cases hlm : m < G.length
          · have hlm' : (m : Int) < (G.length : Int) := by omega
            have hme : m < es.length := by rw [HEL.out]; exact hlm
            have hme' : (m : Int) < (es.length : Int) := by omega
            obtain ⟨E, hEx⟩ : ∃ E : Nat, nthX es m = (E : Int) := ⟨(nthX es m).toNat, by have := nthX_nonneg HE.out m; omega⟩
            have hE12 : E ≤ 12 := by have := HEX.out m hlm; omega
            have HFU : Hid (facY (tmsL G) es m E = facY (tmsL G) es (m + 1) 0) := Lib.hid (by
              rw [facY_zero, ← facY_full, hEx]; rfl)
            have HSM := Lib.hid (fun (j : Nat) (hj : j ≤ E) => HSUM.out m j (by rw [hEx]; omega) hlm)
            have HVM := Lib.hid (HGM.out m hlm)
            have HTM := Lib.hid (tmsL_nth hlm)
            obtain ⟨u, g0, g1, g2, hu⟩ := (HT.out.below hbr hbl) m hlm
            rw [HVM.out.1] at g0
            rw [HVM.out.2.1] at g1
            obtain ⟨ua, uc, rfl, _⟩ := id hu
            obtain ⟨V2, hV2, hbV2, ⟨hVs1, hVs2⟩, rq⟩ := newbox wm p d (.slice ua G[m].2.2.length uc)
            have hb2 := hbr.trans (hbV2.mono hbr.size)
            have rr2 := rowIs_below rr hbV2 rr.lt
            have ro2 := rowIs_below ro hbV2 ro.lt
            have ho2 : OwnP V2 w.heap.size sv2 O2 := owns_belowT ho hbV2
            have cE := (HTE.out.below hb2 hbe) m hme
            rw [← nthX_lt hme, hEx] at cE
            have hu2 := hu.below hbV2
            have hbx : wm.heap.size ≠ bo := by have := ro.lt; omega
            have hwx : w.heap.size ≤ wm.heap.size := hbr.size
            clear hEx hu
            go_upto_region 18 with fail
            rw [← hV2]
            clear hV2 g0 g1 g2 rr ro ho hbr
            go_wp2_with fail
            clear cE
            go_loopw [80] (fun i wr => ∃ (j : Nat) (sv3 : Value) (O3 : List Tm), j ≤ E ∧ i = .int .i64 j ∧ Hid (PrR p (facY (tmsL G) es m j) O3) ∧ wr.rowIs bo 40 3 (polyF p d sv3) ∧ OwnP wr w.heap.size sv3 O3 ∧ wr.rowIs w.heap.size 40 3 (polyF 0 0 (.slice none 0 0)) ∧ wr.rowIs wm.heap.size 40 3 (polyF p d (.slice ua G[m].2.2.length uc)) ∧ SliceT wr (.slice ua G[m].2.2.length uc) G[m].2.2 ∧ Below w.heap.size w wr) (fun i _ => E - (intOf i).toNat)
            case atStart => exact ⟨0, _, O2, by omega, rfl, HO2, ro2, ho2, rr2, rq, hu2, hb2⟩
            case round =>
              clear rr2 ro2 ho2 hb2 HO2 rq hu2
              obtain ⟨j, sv3, O3, hj, rfl, HO3, ro, ho, rr, rq, hu, hbr⟩ := hrel
              by_cases hlj : j < E
              · have hpos : (j : Int) < (E : Int) := by omega
                obtain ⟨sa3, sc3, rfl⟩ := owns_slice ho
                obtain ⟨⟨o0, o1, o2⟩, z0, z1, z2⟩ := poly3 ro
                obtain ⟨⟨q0, q1, q2⟩, _⟩ := poly3 rq
                obtain ⟨f3, hf3⟩ := HO3.out.isP
                have hV3 := HVM.out.2.2.1.of_isP hf3
                have hsd : sumD (G[m].2.2 :: facY (tmsL G) es m j) ≤ 12 := by rw [← HTM.out, ← facY_succ]; exact HSM.out (j + 1) (by omega)
                have HRM := Lib.hid (And.intro hV3 (fits_of hV3 HVM.out.2.2.1 (HO3.out.room (HFV.out m j) hsd)))
                have HNXT := Lib.hid (fun (L' : List Tm) (hL' : IsP p L' (mulF p O3 G[m].2.2)) => show PrR p (facY (tmsL G) es m (j + 1)) L' from by
                  rw [facY_succ, HTM.out]
                  exact ⟨O3, HO3.out, hL'⟩)
                clear hf3 hV3 hsd
                go_wp2_with fail
                ((with_reducible refine (product_any p d _ _ O3 G[m].2.2 _ (OwnP.slice ho) hu HRM.out.1 HVM.out.2.2.1 HRM.out.2).mono ?_); rintro e w13 ⟨v13, L13, rfl, ho13, hL13, HB13⟩)
                have ZR13 := rowIs_below ro HB13 ro.lt
                obtain ⟨⟨e130, e131, e132⟩, f130, f131, f132⟩ := poly3 ZR13
                obtain ⟨sa13, sc13, rfl⟩ := owns_slice ho13
                have hrN := setO3 (rowIs_below rr HB13 rr.lt) (B0 := bo) hne (.int .i64 p) (.int .i64 d) (.slice sa13 L13.length sc13)
                have hqN := setO3 (rowIs_below rq HB13 rq.lt) (B0 := bo) hbx (.int .i64 p) (.int .i64 d) (.slice sa13 L13.length sc13)
                have hbN := setL3 (hbr.trans (HB13.mono hbr.size)) (B0 := bo) hbo3 (.int .i64 p) (.int .i64 d) (.slice sa13 L13.length sc13)
                have huN := (setB3 ZR13 (hu.below HB13) p d)
                have hoN : OwnP _ w.heap.size (.slice sa13 L13.length sc13) L13 := owns_low (rep_own3 (i0 := 0) (i1 := 1) (i2 := 2) (x0 := .int .i64 p) (x1 := .int .i64 d) (x2 := .slice sa13 L13.length sc13) ho13 ZR13) hbr.size
                have hset := setB3 ZR13 (OwnP.slice ho13) p d
                have HUN := Lib.hid (((hu.below HB13).setBox (i := 0) (u := .int .i64 p) ZR13).setBox (i := 1) (u := .int .i64 d) (ZR13.set 0 (.int .i64 p)))
                have HUM := Lib.hid (HUN.out.setBox (i := 2) (u := .slice sa13 L13.length sc13) ((ZR13.set 0 (.int .i64 p)).set 1 (.int .i64 d)))
                have HN1 := Lib.hid (HNXT.out L13 hL13)
                clear ho13 o0 o1 o2 z0 z1 z2 q0 q1 q2 ro ho rr rq hbr hu huN
                go_wp2_with fail
                go_roundw
                case rel => exact ⟨j + 1, _, L13, by omega, by go_num, HN1, hset.1, hoN, hrN, hqN, HUM.out, hbN⟩
                case measure => simp [intOf]; omega
              · obtain rfl : j = E := by omega
                have hpos : ¬ (j : Int) < (j : Int) := by omega
                have HO4 : Hid (PrR p (facY (tmsL G) es (m + 1) 0) O3) := Lib.hid (by rw [← HFU.out]; exact HO3.out)
                go_wp2_with fail
                go_roundw
                case rel => exact ⟨m + 1, _, O3, by omega, by go_num, HO4, ro, ho, rr, hbr⟩
                case measure => simp [intOf]; omega
          · obtain rfl : m = G.length := by omega
            obtain ⟨sa3, sc3, rfl⟩ := owns_slice ho
            obtain ⟨⟨o0, o1, o2⟩, _⟩ := poly3 ro
            obtain ⟨⟨r0, r1, r2⟩, z0, z1, z2⟩ := poly3 rr
            have HEQ : Hid (O2 = L) := Lib.hid (PrR.unique (by have := HO2.out; rw [facY_zero] at this; exact this) HLL.out)
            obtain ⟨a0, a1, a2, a3, a4⟩ := fill_box (w := w) rr ho (Nat.le_refl _) hbr (by omega) p d
            have A0 := Lib.hid a0
            have A1 := Lib.hid a1
            have A2 := Lib.hid a2
            have A3 := Lib.hid a3
            have A4 := Lib.hid a4
            clear a0 a1 a2 a3 a4
            go_wp2_with fail
            exact bodyPost_ret (v := .tuple #[.agg #[.int .i64 p, .int .i64 d, .slice sa3 O2.length sc3], .int .i64 0]) (by simp [results, Try.results24, go_sem, A0.out, A1.out, A2.out]) rfl (by rw [HOL.out, ← HEQ.out]; exact ⟨_, rfl, A3.out, A4.out⟩)
end Go.Proofs.Ytbhgbifliihlbaa
namespace Go.Proofs.Ytbhgbifliihlbaa
open Go.RowKit Go.Sort Go.Maps

/-- The boxes of a law: the model's result's (B0), the program's result's (B2). -/
structure LawR (w wr : World) (B0 B2 N0 : Nat) (P D : Int) (s0 s2 : Value) (S : List Tm) : Prop where
  b0 : wr.rowIs B0 40 3 (polyF P D s0)
  b2 : wr.rowIs B2 40 3 (polyF P D s2)
  sm : SliceB wr N0 s0 S
  below : Below w.heap.size w wr
  n0 : w.heap.size ≤ N0 ∧ N0 ≤ wr.heap.size
theorem LawR.step {w wr w' : World} {B0 B2 N0 : Nat} {P D : Int} {s0 s2 : Value} {S : List Tm} {row : Option Nat} (h : LawR w wr B0 B2 N0 P D s0 s2 S) (hg : wr.grownBy w' row) (hr : ∀ g, row = some g → N0 ≤ g ∧ ∃ N f, wr.rowIs g 115 N f) :
    LawR w w' B0 B2 N0 P D s0 s2 S := by
  have hsz := hg.size
  obtain ⟨n1, n2⟩ := h.n0
  have key : ∀ b t f, wr.rowIs b t 3 f → t ≠ 115 → w'.rowIs b t 3 f := fun b t f hb ht => hb.of_block (hg.block b hb.lt fun e => by
    obtain ⟨_, N, f', hrow⟩ := hr b e.symm
    exact rowIs_ne hb hrow ht rfl)
  refine ⟨key _ _ _ h.b0 (by decide), key _ _ _ h.b2 (by decide), h.sm.kept hg n2 fun g e => (hr g e).1, ?_, n1, by omega⟩
  exact h.below.grown hg h.below.size fun g e => Nat.le_trans n1 (hr g e).1
theorem LawR.on {w wr w' : World} {B0 B2 N0 : Nat} {P D : Int} {s0 s2 : Value} {S : List Tm} (h : LawR w wr B0 B2 N0 P D s0 s2 S) (hb : Below wr.heap.size wr w') : LawR w w' B0 B2 N0 P D s0 s2 S :=
  h.step (below_grown hb) (fun g e => by simp at e)
theorem LawR.stepI {w wr w' : World} {B0 B2 N0 lo hi : Nat} {P D : Int} {s0 s2 : Value} {S : List Tm} (h : LawR w wr B0 B2 N0 P D s0 s2 S) (hg : GrewI lo hi wr w') (h0 : B0 < lo) (h2 : hi ≤ B2) (hN : N0 ≤ lo) :
    LawR w w' B0 B2 N0 P D s0 s2 S := by
  obtain ⟨n1, n2⟩ := h.n0
  exact ⟨rowI h.b0 hg (.inl h0), rowI h.b2 hg (.inr h2), h.sm.keptI hg n2 hN, h.below.trans (hg.below (by omega) h.below.size), n1, Nat.le_trans n2 hg.size⟩
theorem GrewI.one {lo hi b : Nat} {w w' : World} (h1 : lo ≤ b) (h2 : b < hi) (hg : w.grownBy w' (some b)) : GrewI lo hi w w' := (GrewI.refl lo hi w).step h1 h2 hg
theorem nOwnI.blk {w : World} {base : Nat} {v : Value} {l : List Int} (h : nOwnI w base v l) : ∃ g, v = .slice (some ⟨g, 0, none⟩) l.length l.length ∧ base ≤ g ∧ g < w.heap.size := by
  obtain ⟨g, f, hv, hb, hr, _⟩ := h
  exact ⟨g, hv, hb, hr.lt⟩
theorem nOwnI.on {w w' : World} {base : Nat} {v : Value} {l : List Int} (h : nOwnI w base v l) (hb : Below w.heap.size w w') : nOwnI w' base v l := by
  obtain ⟨g, f, hv, hg, hr, hf⟩ := h
  exact ⟨g, f, hv, hg, rowIs_below hr hb hr.lt, hf⟩
theorem nOwnI.onI {w w' : World} {base lo hi : Nat} {v : Value} {l : List Int} (h : nOwnI w base v l) (hg : GrewI lo hi w w') (hb : hi ≤ base) : nOwnI w' base v l := by
  obtain ⟨g, f, hv, hbg, hr, hf⟩ := h
  exact ⟨g, f, hv, hbg, rowI hr hg (.inr (by omega)), hf⟩
end Go.Proofs.Ytbhgbifliihlbaa
