/-
  WALKS: 'spec.l03Symmetric'. Conditions: as the theorem states.
-/
import Derived.Test.YtllklhakbanhaaaGreatS01
import Derived.Test.YtllklhakbanhaaaGreatQ47
import Derived.Test.YtllklhakbanhaaaGreatQ41
import Derived.Test.YtllklhakbanhaaaGreatQ10
namespace Go.Proofs.YtllklhakbanhaaaGreat
open Go.RowKit Go.Sort Go.Maps EchM

theorem PMk.frw {w : World} {base hi : Nat} {p : Int} {n : Nat} {v : Value} {us : List Value} {Ls : List (List Tm)} (h : PMk w base hi p n v us Ls) (h0 : 1 ≤ Ls.length) :
    ∃ b c N F, v = .slice (some ⟨b, 0, none⟩) Ls.length c ∧ base ≤ b ∧ b < w.heap.size ∧ FrW w base b N p n (fun i => Ls.getD i []) Ls.length F := by
  have hl := h.len
  obtain ⟨_, ⟨_, h1⟩ | ⟨b, cap, cur, rfl, hb, hg, hc1, hc2, hsz, htk⟩⟩ := id h.rows
  · omega
  · refine ⟨b, cap, cap * 3, fun i => cur.getD i undef, rfl, hb, (Array.getElem?_eq_some_iff.1 hg).1, ⟨cur, hg, hsz, fun i hi => by simp [Array.getD, hsz, hi]⟩, by omega, fun i hi => ?_⟩
    have hk' : i < us.length := by omega
    have key : ∀ j, j < 3 → ∀ u, ([Value.int .i64 p, .int .i64 (n : Int), us[i]] : List Value)[j]? = some u → cur.getD (i * 3 + j) undef = u := fun j hj u hu => by
      have e2 : (cellsQ p n us)[i * 3 + j]? = some u := (cellsQ_get p n us i j hk' hj).trans hu
      have hlt : i * 3 + j < Ls.length * 3 := by omega
      rw [← htk, List.getElem?_take_of_lt hlt, Array.getElem?_toList] at e2
      have hs : i * 3 + j < cur.size := by omega
      rw [Array.getElem?_eq_getElem hs] at e2
      simp [Array.getD, hs]
      simpa using e2
    refine ⟨key 0 (by omega) _ rfl, key 1 (by omega) _ rfl, ?_⟩
    show OwnP w base (cur.getD (i * 3 + 2) undef) (Ls.getD i [])
    rw [key 2 (by omega) _ rfl, List.getD_eq_getElem?_getD, List.getElem?_eq_getElem hi]
    exact h.own i hk' hi
theorem one_put {p : Int} (hp : 2 ≤ p) : putL p [] (0, 0, 0) 1 = [(0, 0, 0, 1)] :=
  ((IsP.one hp (e := (0, 0, 0)) ⟨by unfold byte3; simp, by simp⟩ 1).congr fun a _ => by
    have h1 : (1 : Int) % p = 1 := Int.emod_eq_of_lt (by omega) (by omega)
    rw [h1]).unique (unit_isP hp)
theorem degI_le {L : List Tm} {B : Int} (h : degB L B) : L = [] ∨ degI L ≤ B := by
  unfold degI
  cases hl : L.getLast? with
  | none => exact .inl (List.getLast?_eq_none_iff.1 hl)
  | some u => exact .inr (h u (List.mem_of_getLast? hl))
theorem degB_hd {xs ys : List Tm} {A B : Int} (h : degB xs A) (h' : degB ys B) (hs : A + B ≤ 12) : xs = [] ∨ ys = [] ∨ degI xs + degI ys ≤ 12 := by
  rcases degI_le h with h | h
  · exact .inl h
  · rcases degI_le h' with h' | h'
    · exact .inr (.inl h')
    · exact .inr (.inr (by omega))
theorem repl_snoc (i : Nat) : [((0 : Int), (0 : Int), (0 : Int), (1 : Int))] :: List.replicate (i + 1) ([] : List Tm) = ([(0, 0, 0, 1)] :: List.replicate i []) ++ [[]] := by
  rw [List.replicate_succ']
  rfl
theorem repl_at (i : Nat) : (fun l => ([((0 : Int), (0 : Int), (0 : Int), (1 : Int))] :: List.replicate i ([] : List Tm)).getD l []) = fun l => if l = 0 then [(0, 0, 0, 1)] else [] := by
  funext l
  match l with
  | 0 => rfl
  | l + 1 =>
    rw [if_neg (by omega), List.getD_cons_succ, List.getD_eq_getElem?_getD, List.getElem?_replicate]
    split <;> rfl

set_option maxRecDepth 8000 in
set_option maxHeartbeats 16000000 in
theorem ssym (p : Int) (m k : Nat) (g : Int) (u v : Value) (O : List (List Tm)) (w : World) (hp2 : 2 ≤ p) (hp13 : p ≤ 13) (d1 : 1 ≤ (m : Int)) (d3 : (m : Int) ≤ 3) (h48 : O.length ≤ 1000) (hg : 0 ≤ g) (hV : ∀ X ∈ O, Valid p m X ∧ degB X g) (hk : (k : Int) * g ≤ 12) (hk48 : k ≤ 1000) (hS : SlPn w p m v O) :
    Calls Tryz.prog 96 #[.agg #[.int .i64 p, .int .i64 (m : Int), u], v, .int .i64 (k : Int)] w fun e w' => ∃ v', e = .returned (.agg #[.int .i64 p, .int .i64 (m : Int), v']) ∧ OwnP w' w.heap.size v' (symE p O.reverse k) ∧ Below w.heap.size w w' := by
  obtain ⟨i0, hi0, hz0, hz1, hz2⟩ := info_parts infoPoly
  obtain ⟨a, cap, rfl, _⟩ := id hS
  rw [List.length_map] at hS ⊢
  obtain ⟨R, hR, hbR, ⟨hRs, hRs2⟩, rx, rr⟩ := boxes2 w p (m : Int) u
  obtain ⟨⟨x0, x1, x2⟩, _⟩ := poly3 rx
  have HV := Lib.hid hV
  have HK := Lib.hid hk
  clear hV hk
  go_enter Tryz.func96, Tryz.ntmps96
  go_upto_region 1 with fail
  rw [← hR]
  clear hR
  go_wp2_with fail
  ((with_reducible refine (one_any p (m : Int) 0 0 0 1 R hp2 hp13 (by unfold byte3; simp) (by omega) (by omega)).mono ?_); rintro e w1 ⟨v1, rfl, ho1, hb1⟩)
  rw [one_put hp2] at ho1
  obtain ⟨sa, sc, hv1⟩ := owns_slice ho1
  have hv1 : v1 = .slice sa 1 sc := hv1
  subst hv1
  obtain ⟨X, hX, hbX, hXs, hown⟩ : ∃ X, X = w1.alloc (.cells #[.int .i64 p, .int .i64 (m : Int), .slice sa 1 sc] 39) ∧ Below w1.heap.size w1 X ∧ X.heap.size = w1.heap.size + 1 ∧ X.ownsRow R.heap.size 39 3 (.slice (some ⟨w1.heap.size, 0, none⟩) 1 1) 1 [.int .i64 p, .int .i64 (m : Int), .slice sa 1 sc] :=
    ⟨_, rfl, box1 _ _, by simp, World.ownsRow_lit w1 _ 1 hb1.size (by unfold maxLen; omega) rfl⟩
  have hwR := hbR.size
  have hb1s := hb1.size
  have st0 : PMk X R.heap.size X.heap.size p m (.slice (some ⟨w1.heap.size, 0, none⟩) 1 1) [.slice sa 1 sc] ([(0, 0, 0, 1)] :: List.replicate 0 []) :=
    ⟨rfl, hown, fun i h h' => by
      obtain rfl : i = 0 := by simp at h; omega
      exact owns_belowT ho1 hbX, fun i h b e => by
      obtain rfl : i = 0 := by simp at h; omega
      exact (owns_belowT ho1 hbX).lt b e |>.2, fun i j hi hj hij => by simp at hi hj; omega⟩
  have hbRX := hb1.trans (hbX.mono hb1.size)
  clear hown ho1 x0 x1 x2
  go_wp2_with fail
  rw [← hX]
  clear hX hbX hb1
  go_loopw [8, 7] (fun i vv wr => ∃ (j : Nat) (v : Value) (us : List Value) (hi : Nat), j ≤ k ∧ i = .int .i64 j ∧ vv = v ∧ PMk wr R.heap.size hi p m v us ([(0, 0, 0, 1)] :: List.replicate j []) ∧ hi ≤ wr.heap.size ∧ R.heap.size ≤ hi ∧ Below R.heap.size R wr) (fun i _ _ => k - (intOf i).toNat)
  case atStart => exact ⟨0, _, _, X.heap.size, by omega, rfl, rfl, st0, Nat.le_refl _, by omega, hbRX⟩
  case round =>
    clear st0
    obtain ⟨j, v, us, hi, hj, rfl, hvv, st, hhi, hWhi, hbr⟩ := hrel
    obtain ⟨wo, hwo⟩ : ∃ wo : World, wo = wr := ⟨_, rfl⟩
    subst hwo
    obtain ⟨va, vc, hv⟩ := st.shape
    rw [List.length_cons, List.length_replicate] at hv
    subst hv
    subst u7
    have hbs := hbr.size
    by_cases hlt : j < k
    · have hlt' : (j : Int) < (k : Int) := by omega
      obtain ⟨⟨x0, x1, x2⟩, _⟩ := poly3 (rowIs_below rx hbr rx.lt)
      go_wp2_with fail
      ((with_reducible refine (empty_any p (m : Int) wo).mono ?_); rintro e w2 ⟨rfl, hown2, hb2⟩)
      have hb6 : Below w2.heap.size w2 (w2.alloc (.cells #[.int .i64 p, .int .i64 (m : Int), .slice (some ⟨wo.heap.size + 1, 0, none⟩) 0 0] 39)) := box1 _ _
      have hbq := hb2.trans (hb6.mono hb2.size)
      have st6 := st.below hbq
      have hrows := st6.rows
      rw [List.length_cons, List.length_replicate] at hrows
      have hmx : j + 1 + 1 ≤ maxLen := by unfold maxLen; omega
      have hmb : (j + 1 + 1) * 40 ≤ 140737488355328 := by omega
      have hbs6 : R.heap.size ≤ (w2.alloc (.cells #[.int .i64 p, .int .i64 (m : Int), .slice (some ⟨wo.heap.size + 1, 0, none⟩) 0 0] 39)).heap.size := Nat.le_trans hbs hbq.size
      go_wp2_with (at_builtin; refine wpList_append_lies _ rfl _ _ 30 rfl R.heap.size 39 i0 _ 3 40 Tryz.underlying30 hi0 hz0 hz1 hz2 rfl (by decide) (.slice va (j + 1) vc) (j + 1) (cellsQ p m us) rfl hrows ⟨w2.heap.size, 0, none⟩ 1 1 [.int .i64 p, .int .i64 (m : Int), .slice (some ⟨wo.heap.size + 1, 0, none⟩) 0 0] rfl rfl (one_poly w2 p (m : Int) _) (by intro y hy; simp at hy; rcases hy with rfl | rfl | rfl <;> rfl) (by omega) hmx hmb hbs6 _ rfl ?_)
      intro gg cap3 w8 hown8 hgrow8 hat8 hlt8
      have stN := st6.more (u := .slice (some ⟨wo.heap.size + 1, 0, none⟩) 0 0) (X := []) (hi2 := (w2.alloc (.cells #[.int .i64 p, .int .i64 (m : Int), .slice (some ⟨wo.heap.size + 1, 0, none⟩) 0 0] 39)).heap.size) (owns_belowT hown2 hb6) hhi hbs (Nat.le_refl _) hgrow8 (by rw [List.length_cons, List.length_replicate]; exact hown8)
      rw [← repl_snoc j] at stN
      have hq8 : Below R.heap.size R w8 := (hbr.trans (hbq.mono hbs)).grown hgrow8 (Nat.le_trans hbs hbq.size) (fun q hq => (World.ownsRow.lt hrows q hq).1)
      have hg8 := hgrow8.size
      clear hown8 hgrow8 hat8 st6 hrows x0 x1 x2
      go_wp2_with fail
      go_roundw
      case rel => exact ⟨j + 1, _, _, _, by omega, by go_num, rfl, stN, hg8, Nat.le_trans hbs hbq.size, hq8⟩
      case measure => simp [intOf]; omega
    · obtain rfl : j = k := by omega
      obtain ⟨gb, c, N, F, hv, hwb, hgl0, hF0⟩ := st.frw (by simp)
      simp at hv
      obtain ⟨rfl, rfl⟩ := hv
      rw [List.length_cons, List.length_replicate, repl_at] at hF0
      have hF1 := hF0.congr (fun i _ => allF_zero p O i)
      have hfit := hF0.fit
      clear hF0 st hhi hWhi hbs
      go_wp2_with fail
      go_loopw [9] (fun i wr => ∃ (i1 : Nat) (F : Nat → Value), i1 ≤ O.length ∧ i = .int .i64 i1 ∧ FrW wr R.heap.size gb N p m (allF p O i1) (j + 1) F ∧ gb < wr.heap.size ∧ Below R.heap.size R wr) (fun i _ => O.length - (intOf i).toNat)
      case atStart => exact ⟨0, F, by omega, rfl, hF1, hgl0, hbr⟩
      case round =>
        clear hF1 hgl0 hbr
        obtain ⟨i1, F, hi, rfl, hF, hgl, hbr⟩ := hrel
        obtain ⟨w6, hw6⟩ : ∃ w6 : World, w6 = wr := ⟨_, rfl⟩
        subst hw6
        by_cases hlt : i1 < O.length
        · have hlt' : (i1 : Int) < (O.length : Int) := by omega
          obtain ⟨bl, off, uu, rfl, hbl, _, c0', c1', c2', hTw⟩ := SlP.nth hS hlt
          have HVX := Lib.hid (HV.out O[i1] (List.getElem_mem hlt))
          have HR := Lib.hid (fun (Y : List Tm) (hY : Y ∈ (O.take i1).reverse) => HV.out Y (List.mem_of_mem_take (List.mem_reverse.1 hY)))
          have HTR := Lib.hid (take_rev O i1 hlt)
          have C0 := Lib.hid c0'
          have C1 := Lib.hid c1'
          have C2 := Lib.hid c2'
          clear c0' c1' c2'
          generalize O[i1] = X at *
          obtain ⟨ua, uc, rfl, _⟩ := id hTw
          have hF2 := hF.congr (fun i hi => mixF_start p O (k := j) hi)
          obtain ⟨k, hkj⟩ : ∃ k, j = k := ⟨_, rfl⟩
          subst hkj
          go_wp2_with fail
          go_loopw [10] (fun i wr => ∃ (jj : Nat) (F : Nat → Value), jj ≤ j ∧ i = .int .i64 jj ∧ FrW wr R.heap.size gb N p m (mixF p O i1 jj) (j + 1) F ∧ gb < wr.heap.size ∧ Below R.heap.size R wr) (fun i _ => (intOf i).toNat)
          case atStart => exact ⟨j, _, by omega, rfl, hF2, hgl, hbr⟩
          case round =>
            clear hF2 hF hgl hbr
            obtain ⟨jj, F2, hjj, rfl, hF, hgl, hbr⟩ := hrel
            obtain ⟨wo, hwo⟩ : ∃ wo : World, wo = wr := ⟨_, rfl⟩
            subst hwo
            have hbs := hbr.size
            have hbw := hbR.trans (hbr.mono hbR.size)
            match jj, hjj, hF with
            | 0, hjj, hF =>
              have hN := hF.congr (fun i _ => mixF_zero p O i1 i)
              clear hF
              go_wp2_with fail
              go_roundw
              case rel => exact ⟨i1 + 1, _, by omega, by go_num, hN, hgl, hbr⟩
              case measure => simp [intOf]; omega
            | q + 1, hjj, hF =>
              have hjg : ((q + 1 : Nat) : Int) * g ≤ 12 := Int.le_trans (Int.mul_le_mul_of_nonneg_right (by omega) hg) HK.out
              have hjg2 : (q : Int) * g + g ≤ 12 := by
                have e : ((q + 1 : Nat) : Int) * g = q * g + g := by rw [Int.natCast_add, Int.add_mul]; simp
                omega
              have hjp : (0 : Int) < ((q + 1 : Nat) : Int) := by omega
              have hjk2 : (q : Int) < (j : Int) + 1 := by omega
              have hwj : IntKind.i64.wrap (q : Int) = (q : Int) := IntWalk.i64_in _ (by omega)
              have hA1 : (0 : Int) ≤ (q : Int) + 1 := by omega
              have hA2 : q < j := by omega
              have hA3 : q ≤ j := by omega
              have hA4 : q < j + 1 := by omega
              obtain ⟨uA, a0, a1, a2, hA⟩ := hF.cells (i := q + 1) (by omega)
              obtain ⟨uB, b0, b1, b2, hB⟩ := hF.cells (i := q) (by omega)
              rw [mixF_low p O (by omega)] at hA hB
              have HAV := Lib.hid (symE_ok hp2 hp13 d1 d3 hg _ HR.out (q + 1) hjg)
              have HBV := Lib.hid (symE_ok hp2 hp13 d1 d3 hg _ HR.out q (by omega))
              have HFT := Lib.hid (degB_fits HBV.out.2 HVX.out.2 hjg2)
              have HHD := Lib.hid (degB_hd HBV.out.2 HVX.out.2 hjg2)
              have HST := Lib.hid (fun (M S : List Tm) h1 h2 => symE_step hp2 hp13 d1 d3 hg (X := X) (r := (O.take i1).reverse) (fun Y hY => by rcases List.mem_cons.1 hY with h | h; exact h ▸ HVX.out; exact HR.out Y h) (j := q) hjg (M := M) (S := S) h1 h2)
              have HMX := Lib.hid (fun l => mixF_set p O i1 q l)
              rw [HTR.out] at HMX
              generalize symE p (X :: (O.take i1).reverse) (q + 1) = Z at *
              obtain ⟨A, hAe⟩ : ∃ A, symE p (O.take i1).reverse (q + 1) = A := ⟨_, rfl⟩
              rw [hAe] at hA HAV HST
              generalize symE p (O.take i1).reverse q = B at *
              have HVA := Lib.hid HAV.out.1
              have HVB := Lib.hid HBV.out.1
              obtain ⟨M, hM⟩ := mul_ex HVB.out HVX.out.1 HFT.out
              have HM := Lib.hid hM
              have HVM := Lib.hid (isP_valid (d := (m : Int)) hM hp2 hp13 d1 d3)
              obtain ⟨sA, kA, rfl⟩ := owns_slice hA
              obtain ⟨sB, kB, rfl⟩ := owns_slice hB
              have hBt := OwnP.slice hB
              have hXt := hTw.below hbw
              have hbl2 : bl < wo.heap.size := Nat.lt_of_lt_of_le hbl hbw.size
              have KK := Lib.hid (fun w' (h : Below wo.heap.size wo w') => show ((w'.cell? ⟨gb, q * 3, none⟩ = some (.int .i64 p) ∧ w'.cell? ⟨gb, q * 3 + 1, none⟩ = some (.int .i64 (m : Int)) ∧ w'.cell? ⟨gb, q * 3 + 2, none⟩ = some (.slice sB B.length kB)) ∧ (w'.cell? ⟨bl, off + i1 * 3, none⟩ = some (.int .i64 p) ∧ w'.cell? ⟨bl, off + i1 * 3 + 1, none⟩ = some (.int .i64 (m : Int)) ∧ w'.cell? ⟨bl, off + i1 * 3 + 2, none⟩ = some (.slice ua X.length uc))) from
                ⟨⟨(h.cell (p := ⟨gb, q * 3, none⟩) hgl).trans b0, (h.cell (p := ⟨gb, q * 3 + 1, none⟩) hgl).trans b1, (h.cell (p := ⟨gb, q * 3 + 2, none⟩) hgl).trans b2⟩,
                  (h.cell (p := ⟨bl, off + i1 * 3, none⟩) hbl2).trans ((hbw.cell (p := ⟨bl, off + i1 * 3, none⟩) hbl).trans C0.out), (h.cell (p := ⟨bl, off + i1 * 3 + 1, none⟩) hbl2).trans ((hbw.cell (p := ⟨bl, off + i1 * 3 + 1, none⟩) hbl).trans C1.out), (h.cell (p := ⟨bl, off + i1 * 3 + 2, none⟩) hbl2).trans ((hbw.cell (p := ⟨bl, off + i1 * 3 + 2, none⟩) hbl).trans C2.out)⟩)
              clear HAV HBV hM b0 b1 b2 a0 a1 a2 hA hB
              go_wp2_with fail
              go_cut [11, 12] (fun s11 s12 wx => ∃ bx sM kM, s11 = .pointer (some ⟨bx, 0, none⟩) ∧ s12 = .bool true ∧ wx.rowIs bx 39 3 (polyF p (m : Int) (.slice sM M.length kM)) ∧ SliceT wx (.slice sM M.length kM) M ∧ Below wo.heap.size wo wx ∧ bx < wx.heap.size)
              case first =>
                go_region_held3 (fun w' => ((w'.cell? ⟨gb, q * 3, none⟩ = some (.int .i64 p) ∧ w'.cell? ⟨gb, q * 3 + 1, none⟩ = some (.int .i64 (m : Int)) ∧ w'.cell? ⟨gb, q * 3 + 2, none⟩ = some (.slice sB B.length kB)) ∧ (w'.cell? ⟨bl, off + i1 * 3, none⟩ = some (.int .i64 p) ∧ w'.cell? ⟨bl, off + i1 * 3 + 1, none⟩ = some (.int .i64 (m : Int)) ∧ w'.cell? ⟨bl, off + i1 * 3 + 2, none⟩ = some (.slice ua X.length uc))))
                  (first | with_reducible exact KK.out _ (Below.same _).drew | with_reducible exact KK.out _ (box1 _ _).drew | with_reducible exact KK.out _ HB13 | with_reducible exact KK.out _ (HB13.trans ((box1 _ _).mono HB13.size)) | with_reducible exact KK.out _ (setL3 HB13 (Nat.le_refl _) _ _ _))
                  ((go_at_call 100; (with_reducible refine (specTimes_any p (m : Int) _ _ B X _ (by first | with_reducible exact hBt.below (Below.same _).drew | with_reducible exact hBt.below (box1 _ _).drew) (by first | with_reducible exact hXt.below (Below.same _).drew | with_reducible exact hXt.below (box1 _ _).drew) HVB.out HVX.out.1 HHD.out).mono ?_); rintro e w13 ⟨v13, L13, rfl, ho13, hI13, hb13⟩; (obtain rfl : L13 = M := hI13.unique HM.out); have HB13 : Below wo.heap.size wo w13 := (by first | exact (Below.same _).drew.trans hb13 | with_reducible exact (box1 _ _).drew.trans (hb13.mono (by simp))); (first | (have ZR13 : w13.rowIs wo.heap.size 39 3 (polyF 0 0 (.slice none 0 0)) := rowIs_below (zboxD wo) hb13 (by simp); obtain ⟨⟨e130, e131, e132⟩, f130, f131, f132⟩ := poly3 ZR13) | skip); (obtain ⟨sM, kM, rfl⟩ := owns_slice ho13)))
                all_goals
                  go_wp2_with fail
                  go_meet
                  first
                    | exact ⟨w13.heap.size, sM, kM, rfl, rfl, World.rowIs_alloc w13 #[Value.int .i64 p, .int .i64 (m : Int), .slice sM L13.length kM] _ _ (fun i hi => by simp at hi; match i, hi with | 0, _ => rfl | 1, _ => rfl | 2, _ => rfl), (OwnP.slice ho13).below (box1 _ _), HB13.trans ((box1 _ _).mono HB13.size), by simp⟩
                    | exact ⟨wo.heap.size, sM, kM, rfl, rfl, (setB3 ZR13 (OwnP.slice ho13) p (m : Int)).1, (setB3 ZR13 (OwnP.slice ho13) p (m : Int)).2, setL3 HB13 (Nat.le_refl _) _ _ _, by simpa using ZR13.lt⟩
              case rest =>
              rename World => wc
              obtain ⟨bx, sM, kM, rfl, rfl, rbx, hMt, hbc, hbxl⟩ := hcut
              have hFc := hF.later hbc
              have hglc := Nat.lt_of_lt_of_le hgl hbc.size
              have hbrc := hbr.trans (hbc.mono hbs)
              obtain ⟨uA, a0, a1, a2, hA⟩ := hFc.cells (i := q + 1) (by omega)
              rw [mixF_low p O (by omega), hAe] at hA
              obtain ⟨sA2, kA2, rfl⟩ := owns_slice hA
              obtain ⟨⟨q0, q1, q2⟩, _⟩ := poly3 rbx
              have hbd2 : Below wc.heap.size wc wc.drew := (Below.same _).drew
              have hAd := (OwnP.slice hA).below hbd2
              have hMd := hMt.below hbd2
              have HAP := Lib.hid HVA.out.isP
              clear KK hBt hXt hF
              go_wp2_with fail
              go_region_with
                ((go_at_call 93; (with_reducible refine (specPlus p (m : Int) 1 _ _ A M (atL A) _ hAd hMd HAP.out HVM.out (by omega) (by omega)).mono ?_); rintro e w14 ⟨v14, S14, rfl, ho14, hI14, hb14⟩; have HB14 : Below wc.heap.size wc w14 := hbd2.trans hb14; (obtain rfl := HST.out _ _ HM.out (hI14.congr fun e _ => by simp [sumK, sumA])); (obtain ⟨sZ, kZ, rfl⟩ := owns_slice ho14); (obtain ⟨⟨g0, g1, g2⟩, f0, f1, f2⟩ := (hFc.later HB14).any (i := q + 1) (by omega))))
              all_goals
                have hN := ((hFc.later HB14).put (i := q + 1) (j' := j + 1) ho14 (Nat.le_trans hbrc.size (by simp)) (by omega) (by omega)).congr (fun i _ => HMX.out i)
                have hbN := setB (i0 := (q + 1) * 3) (i1 := (q + 1) * 3 + 1) (i2 := (q + 1) * 3 + 2) (hbrc.trans (HB14.mono hbrc.size)) hwb (.int .i64 p) (.int .i64 (m : Int)) (.slice sZ S14.length kZ)
                have hgN : gb < w14.heap.size := Nat.lt_of_lt_of_le hglc HB14.size
                clear hFc hA a0 a1 a2 q0 q1 q2 ho14 hI14 hAd hMd rbx hMt
                go_wp2_with fail
                go_roundw
                case rel => exact ⟨q, _, by omega, rfl, hN, by simpa using hgN, hbN⟩
                case measure => first | (simp [intOf]; done) | (simp [intOf]; omega)
        · obtain rfl : i1 = O.length := by omega
          obtain ⟨u3, d0, d1', d2, hU⟩ := hF.cells (i := j) (by omega)
          unfold allF at hU
          rw [List.take_length] at hU
          have hkk : (j : Int) < (j : Int) + 1 := by omega
          obtain ⟨sa3, sc3, rfl⟩ := owns_slice hU
          have rr3 := rowIs_below rr hbr rr.lt
          obtain ⟨⟨r0, r1, r2⟩, z0, z1, z2⟩ := poly3 rr3
          have hbw := hbR.trans (hbr.mono hbR.size)
          obtain ⟨a0, a1, a2, a3, a4⟩ := fill_box (w := w) rr3 hU hwR hbw (by omega) p (m : Int)
          have A0 := Lib.hid a0
          have A1 := Lib.hid a1
          have A2 := Lib.hid a2
          have A3 := Lib.hid a3
          have A4 := Lib.hid a4
          clear a0 a1 a2 a3 a4
          go_wp2_with fail
          exact bodyPost_ret (v := .agg #[.int .i64 p, .int .i64 (m : Int), .slice sa3 (symE p O.reverse j).length sc3]) (by simp [results, Tryz.results96, go_sem, A0.out, A1.out, A2.out]) rfl ⟨_, rfl, A3.out, A4.out⟩
end Go.Proofs.YtllklhakbanhaaaGreat
