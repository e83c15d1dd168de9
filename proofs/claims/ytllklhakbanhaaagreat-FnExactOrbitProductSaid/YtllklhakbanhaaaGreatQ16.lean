/-
  WALKS: 'impl.product'. Conditions: as each theorem states.
-/
import Derived.Test.YtllklhakbanhaaaGreatQ09
import Derived.Test.YtllklhakbanhaaaGreatQ06
namespace Go.Proofs.YtllklhakbanhaaaGreat
open Go.RowKit Go.Sort Go.Maps

/-- A map of coefficients in the making, beside the boxes of two arguments and the result. -/
structure MapSt2 (w wr : World) (b n a a2 r : Nat) (p d : Int) (xv yv : Value) (D : DataW Unit) : Prop where
  st : MapSt w wr b n a r p d xv D
  arg2 : wr.rowIs a2 39 3 (polyF p d yv)
theorem MapSt2.later {w wr w1 : World} {b n a a2 r : Nat} {p d : Int} {xv yv : Value} {D : DataW Unit} (h : MapSt2 w wr b n a a2 r p d xv yv D) (hb : Below wr.heap.size wr w1) : MapSt2 w w1 b n a a2 r p d xv yv D :=
  ⟨h.st.later hb, rowIs_below h.arg2 hb h.arg2.lt⟩
theorem MapSt2.wrote {w wr w1 : World} {b n n' a a2 r : Nat} {p d : Int} {xv yv : Value} {D D' : DataW Unit} (h : MapSt2 w wr b n a a2 r p d xv yv D) (hg : wr.grownBy w1 (some b)) (hm : MapE w1 b n' D') : MapSt2 w w1 b n' a a2 r p d xv yv D' :=
  ⟨h.st.wrote hg hm, h.arg2.of_block (hg.block a2 h.arg2.lt (by simpa using row_not_map h.arg2 h.st.map))⟩
theorem MapSt2.most {w wr : World} {b n n' a a2 r : Nat} {p d : Int} {xv yv : Value} {D : DataW Unit} (h : MapSt2 w wr b n a a2 r p d xv yv D) (hn : n ≤ n') : MapSt2 w wr b n' a a2 r p d xv yv D :=
  ⟨⟨h.st.map.mono hn, h.st.arg, h.st.res, h.st.below, h.st.b1, h.st.r1⟩, h.arg2⟩
/-- The exponents after j letters have been added. -/
def eAdd (x y z x' y' z' : Int) (j : Nat) : Nat → Value := expsF (if 0 < j then x + x' else x) (if 1 < j then y + y' else y) (if 2 < j then z + z' else z)
theorem erow1 (w : World) (o : Obj) (x y z : Int) : ((w.alloc o).alloc (.cells #[.int .u8 x, .int .u8 y, .int .u8 z] 88)).rowIs (w.heap.size + 1) 88 3 (expsF x y z) := by
  have := World.rowIs_alloc (w.alloc o) #[Value.int .u8 x, .int .u8 y, .int .u8 z] 88 (expsF x y z) (fun i hi => by simp at hi; match i, hi with | 0, _ => rfl | 1, _ => rfl | 2, _ => rfl)
  rwa [World.size_alloc] at this
theorem eset {w : World} {b : Nat} {x y z x' y' z' : Int} {j : Nat} (h : w.rowIs b 88 3 (eAdd x y z x' y' z' j)) (u : Int) (hj : j < 3) (hu : u = (if j = 0 then x + x' else if j = 1 then y + y' else z + z')) : (w.setCell ⟨b, j, none⟩ (.int .u8 u)).rowIs b 88 3 (eAdd x y z x' y' z' (j + 1)) := by
  refine (h.set j (.int .u8 u)).congr fun i hi => ?_
  subst hu
  match j, i, hj, hi with
  | 0, 0, _, _ => rfl
  | 0, 1, _, _ => rfl
  | 0, 2, _, _ => rfl
  | 1, 0, _, _ => rfl
  | 1, 1, _, _ => rfl
  | 1, 2, _, _ => rfl
  | 2, 0, _, _ => rfl
  | 2, 1, _, _ => rfl
  | 2, 2, _, _ => rfl

theorem gset {V w : World} {e : Nat} (h : V.grownBy w (some e)) (j : Nat) (v : Value) : V.grownBy (w.setCell ⟨e, j, none⟩ v).drew (some e) :=
  ⟨h.os, h.tape, h.output, by show _ ≤ (w.setCell ⟨e, j, none⟩ v).heap.size; rw [World.size_setCell]; exact h.size, fun k hk hne => (Below.heap_setCell w ⟨e, j, none⟩ v k (fun x => hne (by rw [x]))).trans (h.block k hk hne)⟩

set_option maxRecDepth 8000 in
set_option maxHeartbeats 16000000 in
theorem product_any (p d : Int) (v v' : Value) (xs ys : List Tm) (w : World) (hS : SliceT w v xs) (hS' : SliceT w v' ys) (hV : Valid p d xs) (hV' : Valid p d ys) (hfit : Fits xs ys) :
    Calls Tryz.prog 70 #[.agg #[.int .i64 p, .int .i64 d, v], .agg #[.int .i64 p, .int .i64 d, v']] w fun e w' =>
      ∃ v' L, e = .returned (.agg #[.int .i64 p, .int .i64 d, v']) ∧ OwnP w' w.heap.size v' L ∧ IsP p L (mulF p xs ys) ∧ Below w.heap.size w w' := by
  have hp2 := hV.p2
  have hp13 := hV.p13
  have hlx := hV.isP.len
  have hly := hV'.isP.len
  obtain ⟨L, hL⟩ := mul_ex hV hV' hfit
  obtain ⟨a, cap, rfl, _⟩ := id hS
  obtain ⟨a', cap', rfl, _⟩ := id hS'
  obtain ⟨W, hW, hbW, ⟨hWs1, hWs2⟩, rx, ry, rr⟩ := pair3 w p d (.slice a xs.length cap) p d (.slice a' ys.length cap')
  have hmm := @run_makeMap Tryz.prog
  have hm := World.ownsMap_made (H := Unit) W Tryz.prog 88 (plainElem Tryz.prog 2)
  obtain ⟨V, hV1, hbV, hVs1⟩ : ∃ V, V = W.alloc (.map #[] 0) ∧ Below W.heap.size W V ∧ W.heap.size + 1 ≤ V.heap.size := ⟨_, rfl, box1 _ _, by simp⟩
  rw [← hV1] at hm
  have hst : MapSt2 w V W.heap.size 0 w.heap.size (w.heap.size + 1) (w.heap.size + 2) p d (.slice a xs.length cap) (.slice a' ys.length cap') (.map []) :=
    ⟨⟨hm, rowIs_below rx hbV rx.lt, rowIs_below rr hbV rr.lt, hbW.trans (hbV.mono hbW.size), hbW.size, by omega⟩, rowIs_below ry hbV ry.lt⟩
  have xo : ∀ o, (W.alloc o).cell? ⟨w.heap.size, 2, none⟩ = some (.slice a xs.length cap) := fun o => ((box1 W o).cell rx.lt).trans (poly3 rx).1.2.2
  go_enter Tryz.func70, Tryz.ntmps70
  go_upto_region 1 with fail
  rw [← hW]
  clear hW
  go_wp2_with fail
  rw [← hV1]
  clear hV1 xo hm rx ry rr
  go_loopw [16] (fun j wr => ∃ (i : Nat) (D : DataW Unit), i ≤ xs.length ∧ j = .int .i64 i ∧ Hid (∀ e, byte3 e → cf D e = mulF p (xs.take i) ys e) ∧ MapSt2 w wr W.heap.size (i * 2197) w.heap.size (w.heap.size + 1) (w.heap.size + 2) p d (.slice a xs.length cap) (.slice a' ys.length cap') D) (fun j _ => xs.length - (intOf j).toNat)
  case atStart => exact ⟨0, _, by omega, rfl, Lib.hid (fun e _ => by rw [cf_empty]; simp [mulF_nil]), hst⟩
  case round =>
    clear hst
    obtain ⟨i, D, hi, rfl, HD, hM⟩ := hrel
    obtain ⟨wo, rfl⟩ : ∃ wo : World, wo = wr := ⟨_, rfl⟩
    by_cases hlt1 : i < xs.length
    · have hlt' : (i : Int) < (xs.length : Int) := by omega
      obtain ⟨A1, cap1, hv1, hcase1⟩ := hS.below hM.st.below
      simp at hv1
      obtain ⟨rfl, rfl⟩ := hv1
      rcases hcase1 with h0 | ⟨b1, off1, rfl, hltb1, hTx⟩
      · rw [h0] at hlt1; exact absurd hlt1 (by simp)
      obtain ⟨c0, c1, c2, c3⟩ := hTx i hlt1
      obtain ⟨⟨⟨bx, by1, bz⟩, hs12⟩, bv1, bv2⟩ := hV.mem xs[i] (List.getElem_mem _)
      have HF := Lib.hid (fun k (h : k < ys.length) e => prt_step p xs ys i xs[i] k h e)
      have HZ := Lib.hid (fun e => prt_zero p xs ys i xs[i] e)
      have HN := Lib.hid (fun e => prt_full p xs ys i hlt1 e)
      have HE := Lib.hid (fun (k : Nat) (h : k < ys.length) => hfit xs[i] (List.getElem_mem _) ys[k] (List.getElem_mem _))
      simp only [tmE] at bx by1 bz
      have HB := Lib.hid (fun k e => (⟨Int.emod_nonneg _ (by omega), Int.emod_lt_of_pos _ (by omega)⟩ : 0 ≤ prt p xs ys i xs[i] k e ∧ prt p xs ys i xs[i] k e < p))
      generalize hpr : prt p xs ys i xs[i] = F at HF HZ HN HB
      generalize hx : xs[i].1 = x at *
      generalize hy : xs[i].2.1 = y at *
      generalize hz : xs[i].2.2.1 = z at *
      generalize hvv : xs[i].2.2.2 = u at *
      have htm : tmE xs[i] = (x, y, z) := by simp [tmE, hx, hy, hz]
      rw [htm] at HF
      clear hpr hx hy hz hvv htm hTx hV
      have hM1 := hM.later (box1 wo (.cells #[.int .u8 x, .int .u8 y, .int .u8 z, .int .i64 u] 90))
      have rs := trow wo x y z u
      obtain ⟨⟨m0, m1, m2⟩, _⟩ := poly3 hM.st.arg
      have yo : ∀ o, (wo.alloc o).cell? ⟨w.heap.size + 1, 2, none⟩ = some (.slice a' ys.length cap') := fun o => ((box1 wo o).cell hM.arg2.lt).trans (poly3 hM.arg2).1.2.2
      have HD0 : Hid (∀ e, byte3 e → cf D e = F 0 e) := Lib.hid (fun e he => (HD.out e he).trans (HZ.out e).symm)
      go_wp2_with fail
      clear m0 m1 m2 c0 c1 c2 c3 yo HD HZ
      go_loopw [23] (fun j wr => ∃ (k : Nat) (D : DataW Unit), k ≤ ys.length ∧ j = .int .i64 k ∧ Hid (∀ e, byte3 e → cf D e = F k e) ∧ MapSt2 w wr W.heap.size (i * 2197 + k) w.heap.size (w.heap.size + 1) (w.heap.size + 2) p d (.slice (some ⟨b1, off1, none⟩) xs.length cap) (.slice a' ys.length cap') D ∧ wr.rowIs wo.heap.size 90 4 (tmF x y z u)) (fun j _ => ys.length - (intOf j).toNat)
      case atStart => exact ⟨0, D, by omega, rfl, HD0, hM1, rs⟩
      case round =>
        clear hM1 rs HD0 hM
        obtain ⟨k, D, hk, rfl, HD, hM, rs⟩ := hrel
        obtain ⟨wk, rfl⟩ : ∃ wk : World, wk = wr := ⟨_, rfl⟩
        by_cases hlt2 : k < ys.length
        · have hlt2' : (k : Int) < (ys.length : Int) := by omega
          obtain ⟨A2, cap2, hv2, hcase2⟩ := hS'.below hM.st.below
          simp at hv2
          obtain ⟨rfl, rfl⟩ := hv2
          rcases hcase2 with h0 | ⟨b2, off2, rfl, hltb2, hTy⟩
          · rw [h0] at hlt2; exact absurd hlt2 (by simp)
          obtain ⟨d0, d1, d2, d3⟩ := hTy k hlt2
          obtain ⟨⟨⟨bx', by1', bz'⟩, hs12'⟩, bv1', bv2'⟩ := hV'.mem ys[k] (List.getElem_mem _)
          have HS := Lib.hid (HF.out k hlt2)
          have hft := HE.out k hlt2
          simp only [tmE] at bx' by1' bz'
          generalize hx' : ys[k].1 = x' at *
          generalize hy' : ys[k].2.1 = y' at *
          generalize hz' : ys[k].2.2.1 = z' at *
          generalize hv' : ys[k].2.2.2 = u' at *
          have htm' : tmE ys[k] = (x', y', z') := by simp [tmE, hx', hy', hz']
          rw [htm'] at HS
          clear hx' hy' hz' hv' htm' hTy
          have hE1 : byte3 (x + x', y + y', z + z') := by unfold byte3; simp only []; omega
          have s0 := rs.cell (i := 0) (by omega)
          have s1 := rs.cell (i := 1) (by omega)
          have s2 := rs.cell (i := 2) (by omega)
          have s3 := rs.cell (i := 3) (by omega)
          simp [tmF] at s0 s1 s2 s3
          obtain ⟨V2, hV2, hbV2, ⟨hV2s1, hV2s2⟩, rt, re⟩ : ∃ V2, V2 = (wk.alloc (.cells #[.int .u8 x', .int .u8 y', .int .u8 z', .int .i64 u'] 90)).alloc (.cells #[.int .u8 x, .int .u8 y, .int .u8 z] 88) ∧ Below wk.heap.size wk V2 ∧ (V2.heap.size ≤ wk.heap.size + 2 ∧ wk.heap.size + 2 ≤ V2.heap.size) ∧
              V2.rowIs wk.heap.size 90 4 (tmF x' y' z' u') ∧ V2.rowIs (wk.heap.size + 1) 88 3 (eAdd x y z x' y' z' 0) :=
            ⟨_, rfl, box2 _ _ _, ⟨by simp, by simp⟩, (trow wk x' y' z' u').alloc _, erow1 wk _ x y z⟩
          obtain ⟨⟨m0, m1, m2⟩, _⟩ := poly3 hM.arg2
          have so : ∀ o, ((wk.alloc o).cell? ⟨wo.heap.size, 0, none⟩ = some (.int .u8 x) ∧ (wk.alloc o).cell? ⟨wo.heap.size, 1, none⟩ = some (.int .u8 y) ∧ (wk.alloc o).cell? ⟨wo.heap.size, 2, none⟩ = some (.int .u8 z)) := fun o =>
            ⟨((box1 wk o).cell (p := ⟨_, _, none⟩) rs.lt).trans s0, ((box1 wk o).cell (p := ⟨_, _, none⟩) rs.lt).trans s1, ((box1 wk o).cell (p := ⟨_, _, none⟩) rs.lt).trans s2⟩
          go_wp2_with fail
          rw [← hV2]
          clear hV2 so m0 m1 m2 d0 d1 d2 d3 s0 s1 s2 s3
          go_loopw [11, 29] (fun _ j wr => ∃ (jn : Nat) (ji : Int), ((jn = 0 ∧ ji = 0) ∨ (jn = 1 ∧ ji = 1) ∨ (jn = 2 ∧ ji = 2) ∨ (jn = 3 ∧ ji = 3)) ∧ j = .int .i64 ji ∧ wr.rowIs (wk.heap.size + 1) 88 3 (eAdd x y z x' y' z' jn) ∧ V2.grownBy wr (some (wk.heap.size + 1))) (fun _ j _ => 3 - (intOf j).toNat)
          case atStart => exact ⟨0, 0, .inl ⟨rfl, rfl⟩, rfl, re, World.grownBy.refl _ _⟩
          case round =>
            obtain ⟨jn, ji, hj, rfl, rej, hgr⟩ := hrel
            have rtj := rt.of_block (hgr.block _ rt.lt (by simp))
            rcases hj with ⟨rfl, rfl⟩ | ⟨rfl, rfl⟩ | ⟨rfl, rfl⟩ | ⟨rfl, rfl⟩
            · have m0 : wr.cell? ⟨wk.heap.size + 1, 0, none⟩ = some (.int .u8 x) := rej.cell (i := 0) (by omega)
              have m1 : wr.cell? ⟨wk.heap.size, 0, none⟩ = some (.int .u8 x') := rtj.cell (i := 0) (by omega)
              have m2 := rej.frozen 0
              have g1 : IntKind.u8.wrap (x + x') = x + x' := IntWalk.u8_in _ (by omega)
              have hre := eset rej (x + x') (by omega) rfl
              have hge := gset hgr 0 (.int .u8 (x + x'))
              have Hre := Lib.hid hre
              clear rej rtj re rt hre
              go_wp2_with fail
              refine region_tail 9 (by kernel_rfl) (by kernel_rfl) ?_
              simp only [List.take_succ_cons, List.take_zero, List.drop_succ_cons, List.drop_zero]
              repeat still_step
              refine wpStill_nil ?_
              go_wp2_with fail
              go_roundw
              case rel => exact ⟨1, 1, by omega, by go_num, Hre.out, hge⟩
              case measure => simp [intOf]
            · have m0 : wr.cell? ⟨wk.heap.size + 1, 1, none⟩ = some (.int .u8 y) := rej.cell (i := 1) (by omega)
              have m1 : wr.cell? ⟨wk.heap.size, 1, none⟩ = some (.int .u8 y') := rtj.cell (i := 1) (by omega)
              have m2 := rej.frozen 1
              have g1 : IntKind.u8.wrap (y + y') = y + y' := IntWalk.u8_in _ (by omega)
              have hre := eset rej (y + y') (by omega) rfl
              have hge := gset hgr 1 (.int .u8 (y + y'))
              have Hre := Lib.hid hre
              clear rej rtj re rt hre
              go_wp2_with fail
              refine region_tail 9 (by kernel_rfl) (by kernel_rfl) ?_
              simp only [List.take_succ_cons, List.take_zero, List.drop_succ_cons, List.drop_zero]
              repeat still_step
              refine wpStill_nil ?_
              go_wp2_with fail
              go_roundw
              case rel => exact ⟨2, 2, by omega, by go_num, Hre.out, hge⟩
              case measure => simp [intOf]
            · have m0 : wr.cell? ⟨wk.heap.size + 1, 2, none⟩ = some (.int .u8 z) := rej.cell (i := 2) (by omega)
              have m1 : wr.cell? ⟨wk.heap.size, 2, none⟩ = some (.int .u8 z') := rtj.cell (i := 2) (by omega)
              have m2 := rej.frozen 2
              have g1 : IntKind.u8.wrap (z + z') = z + z' := IntWalk.u8_in _ (by omega)
              have hre := eset rej (z + z') (by omega) rfl
              have hge := gset hgr 2 (.int .u8 (z + z'))
              have Hre := Lib.hid hre
              clear rej rtj re rt hre
              go_wp2_with fail
              refine region_tail 9 (by kernel_rfl) (by kernel_rfl) ?_
              simp only [List.take_succ_cons, List.take_zero, List.drop_succ_cons, List.drop_zero]
              repeat still_step
              refine wpStill_nil ?_
              go_wp2_with fail
              go_roundw
              case rel => exact ⟨3, 3, by omega, by go_num, Hre.out, hge⟩
              case measure => simp [intOf]
            · have hbj : Below wk.heap.size wk wr := hbV2.grown hgr hbV2.size (fun g e => by simp at e; omega)
              have hMj := hM.later hbj
              have rsj := rowIs_below rs hbj rs.lt
              have k0 : wr.cell? ⟨wk.heap.size + 1, 0, none⟩ = some (.int .u8 (x + x')) := rej.cell (i := 0) (by omega)
              have k1 : wr.cell? ⟨wk.heap.size + 1, 1, none⟩ = some (.int .u8 (y + y')) := rej.cell (i := 1) (by omega)
              have k2 : wr.cell? ⟨wk.heap.size + 1, 2, none⟩ = some (.int .u8 (z + z')) := rej.cell (i := 2) (by omega)
              have s3 : wr.cell? ⟨wo.heap.size, 3, none⟩ = some (.int .i64 u) := rsj.cell (i := 3) (by omega)
              have t3 : wr.cell? ⟨wk.heap.size, 3, none⟩ = some (.int .i64 u') := rtj.cell (i := 3) (by omega)
              obtain ⟨⟨p0, _, _⟩, _⟩ := poly3 hMj.st.arg
              have hkey : keyOf Tryz.prog 88 (.agg #[.int .u8 (x + x'), .int .u8 (y + y'), .int .u8 (z + z')]) = some (kE (x + x', y + y', z + z')) := keyOf_vE (x + x', y + y', z + z') hE1
              have hMd := hMj.later (Below.same wr).drew
              obtain ⟨c, hrun, hat, _⟩ := hMd.st.map.lookup_int lawK Tryz.underlying110 Tryz.underlying2 (zero64 _) hkey
              have hce : c = F k (x + x', y + y', z + z') := by rw [← HD.out _ hE1]; exact (cf_of_at hat).symm
              obtain ⟨b0, b1⟩ := HB.out k (x + x', y + y', z + z')
              rw [← hce] at b0 b1
              have HC := Lib.hid hce
              clear hce hat
              have g1 : 0 ≤ u * u' := Int.mul_nonneg (by omega) (by omega)
              have g2 : u * u' ≤ 13 * 13 := Int.mul_le_mul (by omega) (by omega) (by omega) (by omega)
              have hw : IntKind.i64.wrap (u * u') = u * u' := IntWalk.i64_in _ (by omega)
              have hw2 : IntKind.i64.wrap (c + u * u') = c + u * u' := IntWalk.i64_in _ (by omega)
              have hp0 : ¬ p = 0 := by omega
              have hp1 : (p == 0) = false := by simpa using hp0
              have ht : (c + u * u').tmod p = (c + u * u') % p := Int.tmod_eq_emod_of_nonneg (by omega)
              have q1 : 0 ≤ (c + u * u') % p := Int.emod_nonneg _ (by omega)
              have q2 : (c + u * u') % p < p := Int.emod_lt_of_pos _ (by omega)
              have HD2 : Hid (∀ e, byte3 e → cf (D.put (kE (x + x', y + y', z + z')) (.lit (.int .i64 ((c + u * u') % p)))) e = F (k + 1) e) := Lib.hid (fun e he => by
                rw [cf_put hMd.st.map.isMap hE1 he, HS.out e, HD.out e he, HC.out, Int.add_comm (F k _) (u * u')]
                rfl)
              clear HC HD HS HF HE HN hM hMj rej rtj re rt hgr
              go_wp2_with fail
              refine region_tail 14 (by kernel_rfl) (by kernel_rfl) ?_
              simp only [List.take_succ_cons, List.take_zero, List.drop_succ_cons, List.drop_zero]
              repeat still_step
              refine wpStill_nil ?_
              try simp only [hw, hw2, ht]
              go_wp2_with (at_mapUpdate; refine wpList_mapUpdate_own _ rfl _ _ _ 110 rfl 88 2 lawK Tryz.underlying110 (plainElem Tryz.prog 2) W.heap.size (i * 2197 + k) D rfl hMd.st.map (by unfold maxLen; omega) (.agg #[.int .u8 (x + x'), .int .u8 (y + y'), .int .u8 (z + z')]) _ _ rfl rfl hkey _ [] (plainElem_int Tryz.underlying2 (wf64 q1 (by omega))) ?_; intro w3 hown3 hgrow3)
              have rsd := rowIs_below rsj (Below.same wr).drew rsj.lt
              have rs3 := rsd.of_block (hgrow3.block _ rsd.lt (by simpa using row_not_map rsd hMd.st.map))
              have hM3 := (hMd.wrote hgrow3 hown3).most (n' := i * 2197 + (k + 1)) (by omega)
              go_roundw
              case rel => exact ⟨k + 1, _, by omega, by go_num, HD2, hM3, rs3⟩
              case measure => simp [intOf]; omega
        · obtain rfl : k = ys.length := by omega
          have HD2 : Hid (∀ e, byte3 e → cf D e = mulF p (xs.take (i + 1)) ys e) := Lib.hid (fun e he => (HD.out e he).trans (HN.out e))
          have hM2 := hM.most (n' := (i + 1) * 2197) (by omega)
          clear HD HN HF HE hM
          go_wp2_with fail
          go_roundw
          case rel => exact ⟨i + 1, D, by omega, by go_num, HD2, hM2⟩
          case measure => simp [intOf]; omega
    · obtain rfl : i = xs.length := by omega
      have hD := HD.out
      rw [List.take_length] at hD
      have HD2 := Lib.hid hD
      clear HD hD
      obtain ⟨⟨c0, c1, c2⟩, _⟩ := poly3 hM.st.arg
      have hbd : ∀ e, byte3 e → 0 ≤ mulF p xs ys e ∧ mulF p xs ys e < p := fun e he => hL.bound (by omega) he
      have h12 : ∀ e, byte3 e → mulF p xs ys e ≠ 0 → e.1 + e.2.1 + e.2.2 ≤ 12 := fun e he hne => by
        rw [← hL.2.2 e he] at hne
        by_cases hmem : ∃ t ∈ L, tmE t = e
        · obtain ⟨t, ht, rfl⟩ := hmem
          exact (hL.2.1 t ht).1.2
        · exact absurd (atL_none fun t ht hx => hmem ⟨t, ht, hx⟩) hne
      go_wp2_with fail
      ((with_reducible refine (polyOf_any sort_says p d W.heap.size _ D wo hM.st.map (by omega) (fun e he hne => h12 e he (by have := HD2.out e he; rwa [← this]))).mono ?_); rintro e w4 ⟨v4, S, rfl, ho4, hgood, hb4⟩)
      obtain rfl : S = L := (hgood.isP HD2.out hbd h12).unique hL
      obtain ⟨sa2, sc2, rfl⟩ := owns_slice ho4
      have rr2 := rowIs_below hM.st.res hb4 hM.st.res.lt
      obtain ⟨a0, a1, a2, a3, a4⟩ := fill_box rr2 ho4 hM.st.below.size (hM.st.below.trans (hb4.mono hM.st.below.size)) (by omega) p d
      have A0 := Lib.hid a0
      have A1 := Lib.hid a1
      have A2 := Lib.hid a2
      have A3 := Lib.hid a3
      have A4 := Lib.hid a4
      clear a0 a1 a2 a3 a4 c0 c1 c2 ho4 HD2 hbd h12 hgood hM
      obtain ⟨⟨r0, r1, r2⟩, z0, z1, z2⟩ := poly3 rr2
      go_wp2_with fail
      exact bodyPost_ret (v := .agg #[.int .i64 p, .int .i64 d, .slice sa2 S.length sc2]) (by simp [results, Tryz.results70, go_sem, A0.out, A1.out, A2.out]) rfl ⟨_, S, rfl, A3.out, hL, A4.out⟩
end Go.Proofs.YtllklhakbanhaaaGreat
