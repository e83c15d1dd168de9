/-
  WALKS: 'spec.l05Exponents'. Conditions: as each theorem states.
  PLAIN: what a list without fault is like. Conditions: as each theorem states.
  WALKS: 'impl.factorsOf': the factors of a list of polynomials, one behind the other. Conditions: as each theorem states.
  WALKS: slices.Clone at numbers. Conditions: as the theorem states.
  EXPONENTS, as the program adds them to its lists: what lies in memory, and what a step leaves. Conditions: as each theorem states.
  WALKS: 'impl.addExponents' behind the last factor. Conditions: as the theorem states.
-/
import Derived.Test.YtphgpadpffigjaaPe02
import Derived.Test.YtphgpadpffigjaaPe05
import Derived.Test.YtphgpadpffigjaaPe03
import Derived.Test.YtphgpadpffigjaaPe01
import Derived.Test.YtphgpadpffigjaaLa
import Derived.IntWalk
import Derived.Test.YtphgpadpffigjaaVd
import Derived.Deep.DeepAppendRoom
import Derived.ArgAppend
namespace Go.Proofs.Ytphgpadpffigjaa
open Go.RowKit Go.Sort Go.Maps EchM

/-- A list of one empty list. -/
theorem ownR_one (w : World) : OwnR ((w.alloc (.cells #[] 2)).alloc (.cells #[.slice (some ⟨w.heap.size, 0, none⟩) 0 0] 61)) w.heap.size (.slice (some ⟨w.heap.size + 1, 0, none⟩) 1 1) [[]] := by
  have h0 : OwnL (w.alloc (.cells #[] 2)) w.heap.size (.slice (some ⟨w.heap.size, 0, none⟩) 0 0) [] := by simpa [OwnL, valsI] using World.ownsRow_made (base := w.heap.size) (e := 2) (size := 1) w #[] 0 (Nat.le_refl _) (by simp [maxLen]) rfl
  refine ⟨[.slice (some ⟨w.heap.size, 0, none⟩) 0 0], rfl, ⟨by simp, .inr ⟨w.heap.size + 1, 1, #[.slice (some ⟨w.heap.size, 0, none⟩) 0 0], rfl, by omega, ?_, Nat.le_refl _, by unfold maxLen; omega, by first | omega | rfl | simp, rfl⟩⟩, fun k hk hk' => ?_⟩
  · have := heap_alloc_new (w.alloc (.cells #[] 2)) (.cells #[.slice (some ⟨w.heap.size, 0, none⟩) 0 0] 61)
    rwa [World.size_alloc] at this
  · obtain rfl : k = 0 := by simpa using hk
    exact h0.below (box1 _ _)
/-- A list of one number. -/
theorem ownL_one (w : World) (x : Int) : OwnL (w.alloc (.cells #[.int .i64 x] 2)) w.heap.size (.slice (some ⟨w.heap.size, 0, none⟩) 1 1) [x] :=
  ⟨by simp [valsI], .inr ⟨w.heap.size, 1, #[.int .i64 x], rfl, Nat.le_refl _, heap_alloc_new w _, Nat.le_refl _, by unfold maxLen; omega, by first | omega | rfl | simp, rfl⟩⟩
set_option maxRecDepth 8000 in
set_option maxHeartbeats 16000000 in
theorem sexps_core (gp gd : Int) (gt : List Tm) (u : Value) (r : List Pm) (R b off cap n d : Nat) (a' : Option Addr) (w : World) (hcap : R + 1 ≤ cap) (hR8 : R ≤ 7) (HRl : Hid (r.length = R)) (hn : n ≤ 12) (hbl : b < w.heap.size)
    (c0 : w.cell? ⟨b, off, none⟩ = some (.int .i64 gp)) (c1 : w.cell? ⟨b, off + 1, none⟩ = some (.int .i64 gd)) (c2 : w.cell? ⟨b, off + 2, none⟩ = some u) (hu : SliceT w u gt) (hgb : ∀ t ∈ gt, tmByte t) (hgl : gt.length ≤ 1048576)
    (hd : degI gt = (d : Int)) (hd1 : 1 ≤ d) (hd12 : d ≤ 12) (HDS : Hid (∀ x ∈ degsN r, 1 ≤ x))
    (HSL : Hid (∀ W, (Instr.slice 27 (.slice (some ⟨b, off, none⟩) (R + 1) cap) (some (.int .i64 1)) none none).run Try.prog W = .ok (.slice a' R (cap - 1)) W)) (HSt0 : Hid (SlP w (.slice a' R (cap - 1)) r))
    (HIH : Hid (∀ (lv : Value) (n : Nat) (w : World), n ≤ 12 → SlC w lv r → Calls Try.prog 34 #[lv, .int .i64 (n : Int)] w fun e w' => ∃ v', e = .returned v' ∧ OwnR w' w.heap.size v' (expL (degsN r) n) ∧ Below w.heap.size w w')) :
    Calls Try.prog 34 #[.slice (some ⟨b, off, none⟩) (R + 1) cap, .int .i64 (n : Int)] w fun e w' => ∃ v', e = .returned v' ∧ OwnR w' w.heap.size v' (expL (d :: degsN r) n) ∧ Below w.heap.size w w' := by
  obtain ⟨i1, hi', hz0', hz1', hz2'⟩ := info_parts einfoR
  have HEX : Hid (expL (d :: degsN r) n = expT (fun k => expL (degsN r) (n - k * d)) (n / d) 0) := Lib.hid (by rw [expL])
  obtain ⟨M, hM⟩ : ∃ M : Nat, 13 ^ 7 = M := ⟨_, rfl⟩
  have HLE : Hid (∀ k, (expL (degsN r) (n - k * d)).length ≤ M) := Lib.hid (fun k => by
    have h1 := expL_len (degsN r) (n - k * d) HDS.out (by omega)
    have h2 : (degsN r).length = R := by rw [← HRl.out]; simp [degsN]
    have h3 : 13 ^ (degsN r).length ≤ 13 ^ 7 := Nat.pow_le_pow_right (by omega) (by omega)
    rw [hM] at h3
    omega)
  obtain ⟨f, hf⟩ : ∃ f : Nat → List (List Int), (fun k => expL (degsN r) (n - k * d)) = f := ⟨_, rfl⟩
  have HFK : Hid (∀ k, expL (degsN r) (n - k * d) = f k) := Lib.hid (fun k => by rw [← hf])
  obtain ⟨K, hK⟩ : ∃ K, n / d = K := ⟨_, rfl⟩
  have hK12 : K ≤ 12 := by rw [← hK]; exact Nat.le_trans (Nat.div_le_self _ _) hn
  have hKd : K * d ≤ n := by rw [← hK]; exact Nat.div_mul_le_self n d
  rw [hf, hK] at HEX
  have HLT : Hid (∀ j, (expT f K j).length ≤ 13 * M) := Lib.hid (fun j => by
    have h1 := expT_len f K M (fun k _ => by rw [← HFK.out k]; exact HLE.out k) (K + 1 - j) j rfl
    have h2 : (K + 1 - j) * M ≤ 13 * M := Nat.mul_le_mul_right M (show K + 1 - j ≤ 13 by omega)
    omega)
  have hM9 : M ≤ 1000000000 := by rw [← hM]; decide
  have HKQ : Hid ((n : Int) / (d : Int) = (K : Int)) := Lib.hid (by rw [← hK]; simp)
  have HDG := Lib.hid (fun w' (h : SliceT w' u gt) => specDegree_any gp gd u gt w' hgl h hgb)
  rw [hd] at HDG
  clear hf hK hd hgb hgl hM HDS
  obtain ⟨W, hW, hbW, hWs, hO0⟩ : ∃ W, W = w.alloc (.cells #[] 61) ∧ Below w.heap.size w W ∧ W.heap.size = w.heap.size + 1 ∧ OwnR W w.heap.size (.slice (some ⟨w.heap.size, 0, none⟩) 0 0) [] := ⟨_, rfl, box1 _ _, by simp, OwnR.nil (Nat.le_refl _) rfl⟩
  have C0 : ∀ o, (w.alloc o).cell? ⟨b, off, none⟩ = some (.int .i64 gp) := fun o => ((box1 w o).cell (p := ⟨b, off, none⟩) hbl).trans c0
  have C1 : ∀ o, (w.alloc o).cell? ⟨b, off + 1, none⟩ = some (.int .i64 gd) := fun o => ((box1 w o).cell (p := ⟨b, off + 1, none⟩) hbl).trans c1
  have C2 : ∀ o, (w.alloc o).cell? ⟨b, off + 2, none⟩ = some u := fun o => ((box1 w o).cell (p := ⟨b, off + 2, none⟩) hbl).trans c2
  have hl0 : ((R : Int) + 1 == 0) = false := by simp; omega
  have hl1 : (0 : Int) < (R : Int) + 1 := by omega
  clear c0 c1 c2
  go_enter Try.func34, Try.ntmps34
  go_wp2_with fail
  rw [← hW]
  clear hW C0 C1 C2
  ((with_reducible refine (HDG.out W (hu.below hbW)).mono ?_); rintro e w1 ⟨rfl, hb1⟩)
  have hbw1 := hbW.trans (hb1.mono hbW.size)
  have hO1 := hO0.below hb1
  clear HDG hO0 hbW hb1 hu
  have hd0 : (d : Int) ≠ 0 := by omega
  have hdv : (n : Int) / (d : Int) = (K : Int) := HKQ.out
  have hdt : (n : Int).tdiv (d : Int) = (K : Int) := by rw [Int.tdiv_eq_ediv_of_nonneg (by omega)]; exact HKQ.out
  go_wp2_with fail
  go_loopw [7, 5] (fun s7 s5 wr => ∃ (j : Nat) (sv : Value), j ≤ K + 1 ∧ s7 = .int .i64 ((j : Int) - 1) ∧ s5 = sv ∧ OwnR wr w.heap.size sv (expT f K j) ∧ Below w.heap.size w wr) (fun s7 _ _ => (intOf s7 + 1).toNat)
  case atStart => exact ⟨K + 1, _, Nat.le_refl _, congrArg (Value.int .i64) (by omega), rfl, by rw [expT_top]; exact hO1, hbw1⟩
  case round =>
    clear hO1 hbw1 hdv hdt
    obtain ⟨j, sv, hj, hi7, hsv, hO, hbr⟩ := hrel
    subst u5
    obtain ⟨oa, oc, rfl⟩ := hO.shape
    cases j with
    | zero =>
      have hi8 : u7 = .int .i64 (-1) := by rw [hi7]; simp
      subst hi8
      have HO : Hid (OwnR wr w.heap.size (.slice oa (expT f K 0).length oc) (expL (d :: degsN r) n)) := Lib.hid (by rw [HEX.out]; exact hO)
      obtain ⟨lo, hlo⟩ : ∃ lo, (expT f K 0).length = lo := ⟨_, rfl⟩
      rw [hlo] at HO ⊢
      clear hO hi7 hlo
      go_wp2_with fail
      go_ret
      exact ⟨_, rfl, HO.out, hbr⟩
    | succ j =>
      have hi8 : u7 = .int .i64 (j : Int) := by rw [hi7]; simp
      subst hi8
      clear hi7
      obtain ⟨q, hq⟩ : ∃ q, n - j * d = q := ⟨_, rfl⟩
      have hjd : j * d ≤ n := Nat.le_trans (Nat.mul_le_mul_right d (show j ≤ K by omega)) hKd
      have hjd2 : ((j * d : Nat) : Int) = (j : Int) * (d : Int) := by simp
      have hq12 : q ≤ 12 := by omega
      have m0 : 0 ≤ (j : Int) * (d : Int) := by omega
      have m1 : (j : Int) * (d : Int) ≤ 12 := by omega
      have HFJ : Hid (expL (degsN r) q = f j) := Lib.hid (by rw [← hq]; exact HFK.out j)
      have hmw : IntKind.i64.wrap ((j : Int) * (d : Int)) = (j : Int) * (d : Int) := IntWalk.i64_in _ (by omega)
      have hqw : (n : Int) - (j : Int) * (d : Int) = (q : Int) := by omega
      obtain ⟨O, hOO⟩ : ∃ O, expT f K (j + 1) = O := ⟨_, rfl⟩
      have HST : Hid (expT f K j = O ++ (f j).map fun r => (j : Int) :: r) := Lib.hid (by rw [expT_step f (show j ≤ K by omega), hOO])
      have HOL : Hid (∀ i, (O ++ ((f j).take i).map fun r => (j : Int) :: r).length ≤ 13 * M) := Lib.hid (fun i => by
        have h1 := HLT.out j
        rw [HST.out, List.length_append, List.length_map] at h1
        rw [List.length_append, List.length_map, List.length_take]
        omega)
      rw [hOO] at hO ⊢
      clear hOO
      have HSt := Lib.hid (show SlC wr (.slice a' R (cap - 1)) r from ⟨a', cap - 1, by rw [HRl.out], by have := HRl.out; omega, by rw [HRl.out]; exact HSt0.out.below hbr⟩)
      have hsl := HSL.out
      obtain ⟨wo, hwo⟩ : ∃ wo : World, wo = wr := ⟨_, rfl⟩
      subst hwo
      clear hq hjd2
      go_wp2_with fail
      ((with_reducible refine (HIH.out _ q wo hq12 HSt.out).mono ?_); rintro e w3 ⟨rv, rfl, hOR, hb3⟩)
      rw [HFJ.out] at hOR
      have hbw3 := hbr.trans (hb3.mono hbr.size)
      have hO3 := hO.below hb3
      have hlo : ∀ gg, (Value.slice oa O.length oc).ownBlock = some gg → gg < wo.heap.size ∨ w3.heap.size ≤ gg := fun gg hgg => by
        obtain ⟨us, _, h2, _⟩ := hO
        exact .inl (World.ownsRow.lt h2 gg hgg).2
      obtain ⟨ra, rc, rfl⟩ := hOR.shape
      obtain ⟨Rf, hRf⟩ : ∃ Rf, f j = Rf := ⟨_, rfl⟩
      rw [hRf] at hOR HST HOL HFJ ⊢
      have hRM : Rf.length ≤ 1000000000 := by
        have h1 := HLE.out j
        rw [HFK.out j, hRf] at h1
        omega
      have HR7 : Hid (∀ x ∈ Rf, x.length ≤ 7) := Lib.hid (fun x hx => by
        rw [← HFJ.out] at hx
        have := expL_row _ _ x hx
        have h2 := HRl.out
        simp [degsN] at this
        omega)
      have HRC := Lib.hid (fun (h : 0 < Rf.length) => hOR.cells h)
      have hos := hbr.size
      have h3s := hb3.size
      clear hRf hO hbr hb3 hOR hsl HSt HFJ m0 m1 hmw hqw
      go_wp2_with fail
      go_loopw [9, 5] (fun s9 s5 wr => ∃ (i : Nat) (sv : Value), i ≤ Rf.length ∧ s9 = .int .i64 i ∧ s5 = sv ∧ OwnR wr w.heap.size sv (O ++ (Rf.take i).map fun r => (j : Int) :: r) ∧ (∀ gg, sv.ownBlock = some gg → gg < wo.heap.size ∨ w3.heap.size ≤ gg) ∧ KeepI wo.heap.size w3.heap.size w3 wr ∧ Below w.heap.size w wr) (fun s9 _ _ => Rf.length - (intOf s9).toNat)
      case atStart => exact ⟨0, _, by omega, rfl, rfl, by simpa using hO3, hlo, KeepI.refl _ _ _, hbw3⟩
      case round =>
        clear hO3 hlo hbw3
        obtain ⟨i, sv, hi, rfl, hsv, hO, hlo, hK, hbr⟩ := hrel
        subst u5
        obtain ⟨oa, oc, rfl⟩ := hO.shape
        have hks := hK.size
        by_cases hlt : i < Rf.length
        · have hlt' : (i : Int) < (Rf.length : Int) := by omega
          obtain ⟨gR, gcap, hgv, hg1, hg2, hcells⟩ := HRC.out (by omega)
          obtain ⟨x, hx, hxo⟩ := hcells i hlt
          simp at hgv
          obtain ⟨rfl, rfl⟩ := hgv
          have hxc : wr.cell? ⟨gR, i, none⟩ = some x := (World.cell?_of_block (a := ⟨gR, i, none⟩) (hK.block gR hg1 hg2)).trans hx
          have hxl : OwnL wr wo.heap.size x Rf[i] := OwnL.of_heapQ hxo (fun gg hgg => by
            obtain ⟨p1, p2⟩ := ownL_block hxo gg hgg
            exact hK.block gg p1 p2)
          obtain ⟨xa, xc, rfl⟩ := hxl.shape
          have hxs := hxl.slice
          have HX8 : Hid (Rf[i].length ≤ 7) := Lib.hid (HR7.out _ (List.getElem_mem hlt))
          have HTK : Hid ((O ++ (Rf.take i).map fun r => (j : Int) :: r) ++ [(j : Int) :: Rf[i]] = O ++ (Rf.take (i + 1)).map fun r => (j : Int) :: r) := Lib.hid (by
            rw [List.take_succ_eq_append_getElem hlt, List.map_append, List.append_assoc]; rfl)
          have hol := HOL.out i
          obtain ⟨X, hX⟩ : ∃ X, Rf[i] = X := ⟨_, rfl⟩
          obtain ⟨P, hP⟩ : ∃ P, (O ++ (Rf.take i).map fun r => (j : Int) :: r) = P := ⟨_, rfl⟩
          rw [hX] at hxs HX8 HTK
          rw [hP] at hO HTK hol hlo
          rw [hP]
          have hx8 := HX8.out
          have hnew := ownL_one wr (j : Int)
          have hXs1 := hxs.below (box1 wr (.cells #[.int .i64 (j : Int)] 2))
          have hXC : ∀ o, (wr.alloc o).cell? ⟨gR, i, none⟩ = some (.slice xa X.length xc) := fun o => by
            rw [← hX]
            exact ((box1 wr o).cell (p := ⟨gR, i, none⟩) (by show gR < wr.heap.size; omega)).trans hxc
          clear hX hP hxo hxl hx hxc hcells
          go_wp2_with (at_builtin; refine wpList_append_ints _ rfl _ _ rfl wr.heap.size (.slice (some ⟨wr.heap.size, 0, none⟩) 1 1) [(j : Int)] rfl hnew (.slice xa X.length xc) X rfl hXs1 (by simp <;> omega) (by simp) ?_)
          intro v3 w4 hO4 hg4
          have hb4 : Below wr.heap.size wr w4 := (box1 wr _).grown hg4 (by simp) (fun q hq => by simp [Value.ownBlock] at hq; omega)
          have h4s := hb4.size
          have hOw := hO.below hb4
          have hK4 := hK.below hb4 (by omega)
          have hbr4 := hbr.trans (hb4.mono hbr.size)
          obtain ⟨us0, x1, x2, x3⟩ := hOw
          obtain ⟨Y, hY⟩ : ∃ Y, (j : Int) :: X = Y := ⟨_, rfl⟩
          have HY : Hid ((j : Int) :: X = Y) := Lib.hid hY
          have hO4 : OwnL w4 wr.heap.size v3 ((j : Int) :: X) := hO4
          rw [hY] at hO4
          rw [HY.out] at HTK
          obtain ⟨va, vc, rfl⟩ := hO4.shape
          have hb4s := hbr4.size
          clear hnew hXs1 hXC hg4 hxs hO hY
          go_wp2_with (at_builtin; refine wpList_append_lies _ rfl _ _ 24 rfl w.heap.size 61 i1 _ 1 24 Try.underlying24 hi' hz0' hz1' hz2' rfl (by decide) (.slice oa P.length oc) P.length us0 rfl (World.ownsRow.alloc x2 _) ⟨w4.heap.size, 0, none⟩ 1 1 [.slice va Y.length vc] rfl rfl (World.news_of_block (cs := #[.slice va Y.length vc]) (t := 61) (fr := (0, 0)) (heap_alloc_new w4 _)) (by simp [Value.oneCell']) (by omega) (by unfold maxLen; omega) (by omega) (by simp; omega) _ rfl ?_)
          intro g6 cap6 w6 hown6 hgrow6 hat6 hlt6
          have hB6 : Below w.heap.size w w6 := (hbr4.alloc hbr4.size _).grown hgrow6 (by simp; omega) (fun q hq => (World.ownsRow.lt x2 q hq).1)
          have hN6 : OwnR w6 w.heap.size (.slice (some ⟨g6, 0, none⟩) (P.length + 1) cap6) (P ++ [Y]) := OwnR.push x1 (World.ownsRow.alloc x2 _) (fun k hk hk' => (x3 k hk hk').below (box1 w4 _)) ((hO4.mono hbr.size).below (box1 w4 _)) hown6 hgrow6
          have hK6 : KeepI wo.heap.size w3.heap.size w3 w6 := (hK4.below (box1 w4 (.cells #[.slice va Y.length vc] 61)) (by omega)).grown hgrow6 (by simp; omega) (fun gg hgg => hlo gg hgg)
          have hlo6 : ∀ gg, (Value.slice (some ⟨g6, 0, none⟩) (P.length + 1) cap6).ownBlock = some gg → gg < wo.heap.size ∨ w3.heap.size ≤ gg := fun gg hgg => by
            simp [Value.ownBlock] at hgg
            subst hgg
            rcases hat6 with h | h
            · exact hlo _ h
            · right
              have h9 : g6 = w4.heap.size + 1 := by simpa using h
              omega
          clear x1 x2 x3 hown6 hgrow6 hat6 hO4 hlo hK hK4
          go_wp2_with fail
          go_roundw
          case rel => exact ⟨i + 1, _, by omega, by go_num, rfl, by rw [← HTK.out]; exact hN6, hlo6, hK6, hB6⟩
          case measure => simp [intOf]; omega
        · obtain rfl : i = Rf.length := by omega
          rw [List.take_length] at hO ⊢
          have HO : Hid (OwnR wr w.heap.size (.slice oa (expT f K j).length oc) (expT f K j)) := Lib.hid (by rw [HST.out]; exact hO)
          have HLN : Hid ((O ++ Rf.map fun r => (j : Int) :: r).length = (expT f K j).length) := Lib.hid (by rw [HST.out])
          rw [HLN.out]
          clear hO hK hlo
          go_wp2_with fail
          go_roundw
          case rel => exact ⟨j, _, by omega, by first | rfl | (congr 1), rfl, HO.out, hbr⟩
          case measure => first | (simp [intOf]; done) | (simp [intOf]; omega)

theorem sexps_cons (g : Pm) (r : List Pm) (lv : Value) (n : Nat) (w : World) (h8 : (g :: r).length ≤ 8) (hn : n ≤ 12) (hok : ∀ x ∈ g :: r, DegOk x) (hS : SlC w lv (g :: r))
    (IH : ∀ (lv : Value) (n : Nat) (w : World), n ≤ 12 → SlC w lv r → Calls Try.prog 34 #[lv, .int .i64 (n : Int)] w fun e w' => ∃ v', e = .returned v' ∧ OwnR w' w.heap.size v' (expL (degsN r) n) ∧ Below w.heap.size w w') :
    Calls Try.prog 34 #[lv, .int .i64 (n : Int)] w fun e w' => ∃ v', e = .returned v' ∧ OwnR w' w.heap.size v' (expL (degsN (g :: r)) n) ∧ Below w.heap.size w w' := by
  obtain ⟨a, cap, rfl, hcap, hSP⟩ := hS
  obtain ⟨b, off, rfl, hbl, hT, _⟩ := SlP.at hSP (by simp)
  obtain ⟨u, c0, c1, c2, hu⟩ := hT 0 (by simp)
  simp only [List.getElem_cons_zero, Nat.zero_mul, Nat.add_zero] at c0 c1 c2 hu
  have hcap' : r.length + 1 ≤ cap := by simpa using hcap
  obtain ⟨a', hsl, hSt⟩ := tailP (R := r.length) rfl hcap' hSP
  have hg := hok g (by simp)
  have hd : degI g.2.2 = (((degI g.2.2).toNat : Nat) : Int) := by have := hg.2.1; omega
  exact sexps_core g.1 g.2.1 g.2.2 u r r.length b off cap n (degI g.2.2).toNat a' w hcap' (by simp at h8; omega) (Lib.hid rfl) hn hbl c0 c1 c2 hu hg.1.1 hg.1.2 hd (by have := hg.2.1; omega) (by have := hg.2.2; omega)
    (Lib.hid fun x hx => by
      obtain ⟨y, hy, rfl⟩ := List.mem_map.1 hx
      have := (hok y (by simp [hy])).2.1
      omega) (Lib.hid hsl) (Lib.hid hSt) (Lib.hid IH)

set_option maxRecDepth 8000 in
set_option maxHeartbeats 4000000 in
theorem sexps : ∀ (G : List Pm) (lv : Value) (n : Nat) (w : World), G.length ≤ 8 → n ≤ 12 → (∀ x ∈ G, DegOk x) → SlC w lv G →
    Calls Try.prog 34 #[lv, .int .i64 (n : Int)] w fun e w' => ∃ v', e = .returned v' ∧ OwnR w' w.heap.size v' (expL (degsN G) n) ∧ Below w.heap.size w w' := by
  intro G
  induction G with
  | nil =>
    intro lv n w _ hn _ hS
    obtain ⟨a, cap, rfl, _, _⟩ := hS
    by_cases h0 : n = 0
    · subst h0
      have HO := Lib.hid (ownR_one w)
      go_enter Try.func34, Try.ntmps34
      go_wp2_with fail
      go_ret
      exact ⟨_, rfl, HO.out, box2 _ _ _⟩
    · have h0' : ((n : Int) == 0) = false := by simp; omega
      have HO : Hid (OwnR (w.alloc (.cells #[] 61)) w.heap.size (.slice (some ⟨w.heap.size, 0, none⟩) 0 0) (expL (degsN []) n)) := Lib.hid (by
        have e : expL (degsN []) n = [] := by simp [degsN, expL, h0]
        rw [e]
        exact OwnR.nil (Nat.le_refl _) rfl)
      clear h0
      go_enter Try.func34, Try.ntmps34
      go_wp2_with fail
      go_ret
      exact ⟨_, rfl, HO.out, box1 _ _⟩
  | cons g r ih =>
    intro lv n w h8 hn hok hS
    exact sexps_cons g r lv n w h8 hn hok hS fun lv' n' w' h1 h2 => ih lv' n' w' (by simp at h8; omega) h1 (fun x hx => hok x (by simp [hx])) h2
end Go.Proofs.Ytphgpadpffigjaa
namespace Go.Proofs.Ytphgpadpffigjaa
open Go.RowKit Go.Sort Go.Maps EchM

theorem someC_zero {G : List Pm} {n : Int} (hok : ∀ g ∈ G, PmOk g) (h : someC G n = 0) : (0 ≤ n ∧ n ≤ 12) ∧ listC 1 G = 0 ∧ G.length ≤ 8 ∧ (∀ g ∈ G, DegOk g) ∧ ∀ g ∈ G, isPm g = true := by
  unfold someC at h
  by_cases hl : listC 1 G = 0
  · rw [if_pos hl] at h
    by_cases hn : 0 ≤ n ∧ n ≤ 12
    · obtain ⟨_, h8, hG⟩ := listC_zero hok hl
      refine ⟨hn, hl, h8, fun g hg => ⟨hok g hg, (hG g hg).2.2.2, (deg_bound (hG g hg).2.2.1).2⟩, ?_⟩
      unfold listC at hl
      split at hl
      · rename_i h1; exact fun g hg => List.all_eq_true.1 h1 g hg
      · exact absurd hl (by decide)
    · rw [if_neg hn] at h
      exact absurd h (by decide)
  · rw [if_neg hl] at h
    exact absurd h hl
end Go.Proofs.Ytphgpadpffigjaa
namespace Go.Proofs.Ytphgpadpffigjaa
open Go.RowKit Go.Sort Go.Maps

def facF (d : Int) (u : Value) (i : Nat) : Value := if i = 0 then .int .i64 d else u
/-- Factors with these degrees, in blocks between two marks. -/
def FacL (lo hi : Nat) (w : World) : Value → List Nat → Prop
  | v, [] => v = .pointer none
  | v, d :: r => ∃ b u, v = .pointer (some ⟨b, 0, none⟩) ∧ lo ≤ b ∧ b < hi ∧ w.rowIs b 101 2 (facF (d : Int) u) ∧ FacL lo hi w u r
theorem FacL.keep {lo hi lo' hi' : Nat} {w w' : World} (h1 : lo' ≤ lo) (h2 : hi ≤ hi') (hk : ∀ b N f, lo ≤ b → b < hi → w.rowIs b 101 N f → w'.heap[b]? = w.heap[b]?) : ∀ {ds : List Nat} {v : Value}, FacL lo hi w v ds → FacL lo' hi' w' v ds
  | [], _, h => h
  | _ :: _, _, ⟨b, u, hv, hl, hh, c0, hr⟩ => ⟨b, u, hv, by omega, by omega, c0.of_block (hk b _ _ hl hh c0), hr.keep h1 h2 hk⟩
theorem FacL.shape {lo hi : Nat} {w : World} {ds : List Nat} {v : Value} (h : FacL lo hi w v ds) : ∃ a, v = .pointer a := by
  cases ds with
  | nil => exact ⟨_, h⟩
  | cons d r => obtain ⟨b, u, hv, _⟩ := h; exact ⟨_, hv⟩
theorem factbox (w : World) (d : Int) (v : Value) : (w.alloc (.cells #[.int .i64 d, v] 101)).rowIs w.heap.size 101 2 (facF d v) :=
  World.rowIs_alloc w #[Value.int .i64 d, v] 101 _ (fun i hi => by simp at hi; match i, hi with | 0, _ => rfl | 1, _ => rfl)

set_option maxRecDepth 8000 in
set_option maxHeartbeats 16000000 in
theorem ifacs_core (gp gd : Int) (gt : List Tm) (u : Value) (r : List Pm) (R b off cap d : Nat) (a' : Option Addr) (w : World) (hR8 : R ≤ 7)
    (c0 : w.cell? ⟨b, off, none⟩ = some (.int .i64 gp)) (c1 : w.cell? ⟨b, off + 1, none⟩ = some (.int .i64 gd)) (c2 : w.cell? ⟨b, off + 2, none⟩ = some u) (hu : SliceT w u gt) (hgb : ∀ t ∈ gt, tmByte t) (hgl : gt.length ≤ 1048576) (hgs : ∀ t ∈ gt, sumT t ≤ 12)
    (hd : degI gt = (d : Int))
    (HSL : Hid (∀ W, (Instr.slice 27 (.slice (some ⟨b, off, none⟩) (R + 1) cap) (some (.int .i64 1)) none none).run Try.prog W = .ok (.slice a' R (cap - 1)) W))
    (HIH : Hid (∀ (w' : World), Below w.heap.size w w' → Calls Try.prog 37 #[.slice a' R (cap - 1)] w' fun e w'' => ∃ v', e = .returned v' ∧ FacL w'.heap.size w''.heap.size w'' v' (degsN r) ∧ Below w'.heap.size w' w'')) :
    Calls Try.prog 37 #[.slice (some ⟨b, off, none⟩) (R + 1) cap] w fun e w' => ∃ v', e = .returned v' ∧ FacL w.heap.size w'.heap.size w' v' (d :: degsN r) ∧ Below w.heap.size w w' := by
  have hl0 : ((R : Int) + 1 == 0) = false := by simp; omega
  have hl1 : (0 : Int) < (R : Int) + 1 := by omega
  have HD := Lib.hid (fun w' (h : SliceT w' u gt) => degree_any2 gp gd u gt w' hgl h hgb hgs)
  have HU := Lib.hid (fun (w' : World) (hb : Below w.heap.size w w') => hu.below hb)
  have hsl := HSL.out
  rw [hd] at HD
  go_enter Try.func37, Try.ntmps37
  go_upto_region 3 with fail
  go_region_with (first
    | (go_at_call 86; (with_reducible refine (HD.out _ (HU.out _ (Below.same _).drew)).mono ?_); rintro e w1 ⟨rfl, hb1⟩; have HB1 : Below w.heap.size w w1 := (Below.same _).drew.trans hb1)
    | (go_at_call 37; (with_reducible refine (HIH.out w1 HB1).mono ?_); rintro e w2 ⟨v2, rfl, hF, hb2⟩; (obtain ⟨va, rfl⟩ := hF.shape)))
  all_goals
    have hb12 := HB1.trans (hb2.mono HB1.size)
    have s1 := HB1.size
    have s2 := hb2.size
    have hbx := box1 w2 (.cells #[.int .i64 (d : Int), .pointer va] 101)
    have hF2 : FacL w.heap.size (w2.alloc (.cells #[.int .i64 (d : Int), .pointer va] 101)).heap.size (w2.alloc (.cells #[.int .i64 (d : Int), .pointer va] 101)) (.pointer va) (degsN r) := hF.keep s1 hbx.size (fun b _ _ _ h _ => hbx.block b h)
    have hfb := factbox w2 (d : Int) (.pointer va)
    have hbr := hb12.trans (hbx.mono hb12.size)
    have hsz : (w2.alloc (.cells #[.int .i64 (d : Int), .pointer va] 101)).heap.size = w2.heap.size + 1 := by simp
    clear HB1 hb2 hF hbx hu HD HU HIH hgb hgs
    go_wp2_with fail
    go_ret
    exact ⟨_, rfl, ⟨_, _, rfl, by omega, by omega, hfb, hF2⟩, hbr⟩
/-- The factors of a list. -/
theorem ifacs : ∀ (G : List Pm) (lv : Value) (w : World), G.length ≤ 8 → (∀ g ∈ G, DegOk g ∧ ∀ t ∈ g.2.2, sumT t ≤ 12) → SlC w lv G →
    Calls Try.prog 37 #[lv] w fun e w' => ∃ v', e = .returned v' ∧ FacL w.heap.size w'.heap.size w' v' (degsN G) ∧ Below w.heap.size w w'
  | [], lv, w, _, _, hG => by
    obtain ⟨a, cap, rfl, _, _⟩ := hG
    go_enter Try.func37, Try.ntmps37
    go_wp2_with fail
    go_ret
    exact ⟨_, rfl, rfl, Below.same _⟩
  | g :: r, lv, w, h8, hok, hG => by
    obtain ⟨a, cap, rfl, hcap, hS⟩ := hG
    have hr7 : r.length ≤ 7 := by simpa using h8
    obtain ⟨a', hsl, hSt⟩ := tailP (w := w) (a := a) (R := r.length) (cap := cap) (g := g) (r := r) rfl hcap hS
    obtain ⟨b, off, rfl, _, hT, _⟩ := SlP.at hS (by simp)
    obtain ⟨u, c0, c1, c2, hu⟩ := hT 0 (by simp)
    obtain ⟨⟨⟨hgb, hgl⟩, hd1, hd12⟩, hgs⟩ := hok g (by simp)
    have ih := fun (w' : World) (hb : Below w.heap.size w w') => ifacs r (.slice a' r.length (cap - 1)) w' (by omega) (fun x hx => hok x (by simp [hx])) ⟨a', cap - 1, rfl, by simp at hcap; omega, hSt.below hb⟩
    exact ifacs_core g.1 g.2.1 g.2.2 u r r.length b off cap (degI g.2.2).toNat a' w hr7 (by simpa using c0) (by simpa using c1) (by simpa using c2) hu hgb hgl hgs (by omega) (Lib.hid hsl) (Lib.hid ih)
end Go.Proofs.Ytphgpadpffigjaa
namespace Go.Proofs.Ytphgpadpffigjaa
open Go.RowKit Go.Sort

/-- A copy of a list that is not nil. -/
theorem gclone (v : Value) (l : List Int) (w : World) (h0 : 0 < l.length) (hl : l.length ≤ 1048576) (hS : Sl w v l) :
    Calls Try.prog 85 #[v] w fun e w' => ∃ v', e = .returned v' ∧ OwnL w' w.heap.size v' l ∧ Below w.heap.size w w' := by
  have hS2 := fun o => hS.below (ebox1 w o)
  have ho : ∀ t, t = 2 → OwnL (w.alloc (.cells #[] t)) w.heap.size (.slice (some ⟨w.heap.size, 0, none⟩) 0 0) [] := fun t ht => by
    subst ht
    have := World.ownsRow_made (base := w.heap.size) (e := 2) (size := 1) w #[] 0 (by omega) (by simp [maxLen]) rfl
    simpa [OwnL, valsI] using this
  obtain ⟨a, cap, rfl, hc⟩ := id hS
  obtain ⟨b, off, rfl, hbb, hT⟩ : ∃ b off, a = some ⟨b, off, none⟩ ∧ b < w.heap.size ∧ Cs w b off l := by
    rcases hc with rfl | h
    · simp at h0
    · exact h
  have hnil : ∀ w : World, (binOp .eql 61 (.slice (some ⟨b, off, none⟩) l.length cap) (.slice none 0 0)).run Try.prog w = .ok (.bool false) w := fun w => by
    have h : ∀ d : Nat, (Op.equalIn (d + 1) 61 (.slice (some ⟨b, off, none⟩) l.length cap) (.slice none 0 0)).run Try.prog w = .ok false w := fun d => by
      simp [Op.equalIn, run_underlying Try.underlying61]
    simp only [binOp]
    simp [Op.equal, Op.maxDepth, h 9999]
  go_enter Try.func85, Try.ntmps85
  go_wp2_with (at_builtin; refine wpList_append_ints _ rfl _ _ rfl w.heap.size (.slice (some ⟨w.heap.size, 0, none⟩) 0 0) [] rfl (ho _ rfl) (.slice (some ⟨b, off, none⟩) l.length cap) l rfl (hS2 _) (by simp; omega) (by simp) ?_)
  intro v' w' h1 h2
  have hb : Below w.heap.size w w' := (ebox1 w _).grown h2 (by simp) (fun k hk => by simp [Value.ownBlock] at hk; omega)
  go_wp2
  go_ret
  exact ⟨_, rfl, h1, hb⟩

end Go.Proofs.Ytphgpadpffigjaa
namespace Go.Proofs.Ytphgpadpffigjaa
open Go.RowKit Go.Sort Go.Deep

theorem grown_set (w : World) (L : Nat) (v : Value) : w.grownBy (w.setCell ⟨L, 0, none⟩ v) (some L) :=
  ⟨rfl, rfl, rfl, by simp, fun k _ hk => blk_setCell_other _ _ _ _ (fun e => hk (by simp [e]))⟩
theorem RowsM.kept {w w' : World} {base : Nat} {r : Option Nat} {v : Value} {O : List Row3} (h : RowsM w base v O) (hg : w.grownBy w' r) (h1 : v.ownBlock = none ∨ v.ownBlock ≠ r) (h2 : ∀ e ∈ O, some e.2.2 ≠ r) : RowsM w' base v O :=
  ⟨h.owns.kept hg h1, fun e he => (h.rows e he).kept2 hg (h2 e he), h.apart⟩
theorem RowAt.kind {w : World} {base g N : Nat} {t : TypeId} {e : Row3} {f : Nat → Value} (h : RowAt w base e) (hr : w.rowIs g t N f) (hne : 2 ≠ t) : e.2.2 ≠ g := fun h2 => by
  obtain ⟨_, _, _, _, _, _, ⟨c', hc', _⟩, _⟩ := h
  obtain ⟨c, hc, _⟩ := hr
  rw [h2, hc] at hc'
  simp at hc'
  exact hne hc'.2.symm
/-- What an adding of exponents finds: factors, the box of the lists, the lists, what is chosen already. -/
structure AddSt (w : World) (B L : Nat) (fv cv sv : Value) (ds : List Nat) (X : List Int) (O : List Row3) : Prop where
  fac : FacL B w.heap.size w fv ds
  box : w.rowIs L 24 1 (fun _ => sv)
  rows : RowsM w B sv O
  cho : OwnL w B cv X
  off : ∀ g, cv.ownBlock = some g → g ∉ O.map (·.2.2)
/-- What may have changed. -/
structure AddFr (w w' : World) (L : Nat) (sv cv : Value) : Prop where
  os : w'.os = w.os
  tape : w'.tape = w.tape
  output : w'.output = w.output
  size : w.heap.size ≤ w'.heap.size
  block : ∀ b, b < w.heap.size → b ≠ L → sv.ownBlock ≠ some b → cv.ownBlock ≠ some b → w'.heap[b]? = w.heap[b]?
theorem AddFr.refl (w : World) (L : Nat) (sv cv : Value) : AddFr w w L sv cv := ⟨rfl, rfl, rfl, Nat.le_refl _, fun _ _ _ _ _ => rfl⟩
theorem AddFr.trans {w w1 w2 : World} {L : Nat} {sv sv1 cv : Value} (h : AddFr w w1 L sv cv) (h2 : AddFr w1 w2 L sv1 cv) (hs : ∀ g, sv1.ownBlock = some g → sv.ownBlock = some g ∨ w.heap.size ≤ g) : AddFr w w2 L sv cv :=
  ⟨h2.os.trans h.os, h2.tape.trans h.tape, h2.output.trans h.output, Nat.le_trans h.size h2.size, fun b hb h3 h4 h5 =>
    (h2.block b (Nat.lt_of_lt_of_le hb h.size) h3 (fun e => by rcases hs b e with h | h; exact h4 h; omega) h5).trans (h.block b hb h3 h4 h5)⟩
theorem AddFr.below {w w' : World} {B L : Nat} {sv cv : Value} (h : AddFr w w' L sv cv) (hB : B ≤ w.heap.size) (h1 : B ≤ L) (h2 : ∀ g, sv.ownBlock = some g → B ≤ g) (h3 : ∀ g, cv.ownBlock = some g → B ≤ g) : Below B w w' :=
  ⟨h.os, h.tape, h.output, h.size, fun b hb => h.block b (by omega) (by omega) (fun e => by have := h2 b e; omega) (fun e => by have := h3 b e; omega)⟩
theorem AddSt.facKeep {w w' : World} {B L : Nat} {fv cv sv : Value} {ds : List Nat} {X : List Int} {O : List Row3} (h : AddSt w B L fv cv sv ds X O) (hf : AddFr w w' L sv cv) : FacL B w'.heap.size w' fv ds :=
  h.fac.keep (Nat.le_refl _) hf.size (fun b N f _ h2 hr => hf.block b h2
    (fun e => by
      obtain ⟨c, hc, _⟩ := hr
      obtain ⟨c', hc', _⟩ := h.box
      rw [e, hc'] at hc
      simp at hc)
    (fun e => owns_ne h.rows.owns hr (by decide) e.symm) (fun e => owns_ne h.cho hr (by decide) e.symm))
/-- What it leaves. -/
def AddPost (w w' : World) (B L : Nat) (fv cv sv : Value) (ds : List Nat) (X : List Int) (O : List Row3) (E : List (List Int)) : Prop :=
  ∃ (sv' : Value) (N : List Row3), N.map (·.2.1) = E ∧ (∀ e ∈ N, w.heap.size ≤ e.2.2) ∧ AddSt w' B L fv cv sv' ds X (O ++ N) ∧ (∀ g, sv'.ownBlock = some g → sv.ownBlock = some g ∨ w.heap.size ≤ g) ∧ AddFr w w' L sv cv

/-- One list more. -/
theorem add_leaf {w w5 w6 : World} {B L gg cap6 : Nat} {fv cv sv v5 : Value} {ds : List Nat} {X : List Int} {O : List Row3} {o : Obj} (h : AddSt w B L fv cv sv ds X O) (hX : 0 < X.length) (hB : B ≤ w.heap.size) (hb5 : Below w.heap.size w w5) (hown5 : OwnL w5 w.heap.size v5 X)
    (hown6 : w6.ownsRow B 61 1 (.slice (some ⟨gg, 0, none⟩) (O.length + 1) cap6) (O.length + 1) (O.map (·.1) ++ [v5])) (hgrow6 : (w5.alloc o).grownBy w6 sv.ownBlock) (hat : sv.ownBlock = some gg ∨ gg = w5.heap.size + 1) :
    AddPost w (w6.setCell ⟨L, 0, none⟩ (.slice (some ⟨gg, 0, none⟩) (O.length + 1) cap6)) B L fv cv sv ds X O [X] := by
  obtain ⟨g5, h5⟩ := hown5.rowAt hX
  have h5b : w.heap.size ≤ g5 := by obtain ⟨_, _, _, _, hb, _⟩ := h5; exact hb
  have h5m : RowAt w5 B (v5, X, g5) := by obtain ⟨c, N, f, a, b, r⟩ := h5; exact ⟨c, N, f, a, by omega, r⟩
  have hs5 := hb5.size
  have hbx := box1 w5 o
  have hb5x := hb5.trans (hbx.mono hs5)
  have hR5 := (h.rows.below hb5x)
  have hfresh := (h.rows.below hb5).fresh (g := g5)
  have hLlt := h.box.lt
  have hboxx := erow_below h.box hb5x h.box.lt
  have hLne : some L ≠ sv.ownBlock := owns_ne h.rows.owns h.box (by decide)
  have hcne : cv.ownBlock = none ∨ cv.ownBlock ≠ sv.ownBlock := by
    rcases hc : cv.ownBlock with _ | g
    · exact .inl rfl
    · right
      intro e
      rcases owns_at h.cho with ⟨hv, _⟩ | ⟨g', cap, N, f, hv, _, _, hr, _⟩
      · rw [hv] at hc; simp [Value.ownBlock] at hc
      · rw [hv] at hc
        simp [Value.ownBlock] at hc
        subst hc
        exact owns_ne h.rows.owns hr (by decide) e
  have hcL : cv.ownBlock = none ∨ cv.ownBlock ≠ some L := .inr (fun e => owns_ne h.cho h.box (by decide) e.symm)
  have hg5n : g5 ∉ O.map (·.2.2) := fun hm => by
    obtain ⟨e, he, h2⟩ := List.mem_map.1 hm
    have := (h.rows.rows e he).lt
    omega
  have hR6 : RowsM w6 B (.slice (some ⟨gg, 0, none⟩) (O.length + 1) cap6) (O ++ [(v5, X, g5)]) := hR5.push (h5m.below hbx) hg5n hown6 hgrow6
  have hbox6 : w6.rowIs L 24 1 (fun _ => sv) := hboxx.of_block (hgrow6.block L (by simp; omega) hLne)
  have hc6 : OwnL w6 B cv X := World.ownsRow.kept (h.cho.below hb5x) hgrow6 hcne
  have hgs := grown_set w6 L (.slice (some ⟨gg, 0, none⟩) (O.length + 1) cap6)
  have hgL : (Value.slice (some ⟨gg, 0, none⟩) (O.length + 1) cap6).ownBlock ≠ some L := fun e => owns_ne hown6 hbox6 (by decide) e.symm
  have hfr : AddFr w (w6.setCell ⟨L, 0, none⟩ (.slice (some ⟨gg, 0, none⟩) (O.length + 1) cap6)) L sv cv :=
    ⟨hgs.os.trans (hgrow6.os.trans hb5x.os), hgs.tape.trans (hgrow6.tape.trans hb5x.tape), hgs.output.trans (hgrow6.output.trans hb5x.output), Nat.le_trans hb5x.size (Nat.le_trans hgrow6.size hgs.size), fun b hb h1 h2 _ =>
      (hgs.block b (Nat.lt_of_lt_of_le hb (Nat.le_trans hb5x.size hgrow6.size)) (by simpa using h1)).trans ((hgrow6.block b (Nat.lt_of_lt_of_le hb hb5x.size) (fun e => h2 e.symm)).trans (hb5x.block b hb))⟩
  refine ⟨_, [(v5, X, g5)], rfl, by simpa using h5b, ⟨h.facKeep hfr, (hbox6.set 0 _).congr (fun i hi => by rw [if_pos (by omega)]), hR6.kept hgs (.inr hgL) (fun e he => ?_), World.ownsRow.kept hc6 hgs hcL, fun g hg => ?_⟩, fun g hg => ?_, hfr⟩
  · exact fun e2 => (hR6.rows e he).kind hbox6 (by decide) (by simpa using e2)
  · rw [List.map_append, List.mem_append]
    rintro (hm | hm)
    · exact h.off g hg hm
    · simp at hm
      have := (World.ownsRow.lt h.cho g hg).2
      omega
  · simp [Value.ownBlock] at hg
    subst hg
    rcases hat with hat | rfl
    · exact .inl hat
    · exact .inr (by omega)
end Go.Proofs.Ytphgpadpffigjaa
namespace Go.Proofs.Ytphgpadpffigjaa
open Go.RowKit Go.Sort Go.Deep

set_option maxRecDepth 8000 in
set_option maxHeartbeats 16000000 in
theorem iadd_nil (n B L : Nat) (cv sv : Value) (X : List Int) (O : List Row3) (w : World) (hX : 0 < X.length) (hX8 : X.length ≤ 8) (hO : O.length ≤ 1000000000) (hB : B ≤ w.heap.size) (h : AddSt w B L (.pointer none) cv sv [] X O) :
    Calls Try.prog 36 #[.pointer (some ⟨L, 0, none⟩), cv, .pointer none, .int .i64 (n : Int)] w fun e w' => e = .returned (.tuple #[]) ∧ AddPost w w' B L (.pointer none) cv sv [] X O ((expL [] n).map (X ++ ·)) := by
  by_cases h0 : n = 0
  · subst h0
    obtain ⟨i1, hi', hz0', hz1', hz2'⟩ := info_parts einfoR
    have H := Lib.hid h
    have hbx : w.cell? ⟨L, 0, none⟩ = some sv := h.box.cell (i := 0) (by omega)
    have hfz : w.frozen? ⟨L, 0, none⟩ = false := h.box.frozen 0
    have hLlt := h.box.lt
    have KK : Hid (∀ w', Below w.heap.size w w' → w'.cell? ⟨L, 0, none⟩ = some sv) := Lib.hid (fun w' hb => (hb.cell (p := ⟨L, 0, none⟩) hLlt).trans hbx)
    obtain ⟨sa, sc, rfl⟩ := h.rows.shape
    have hmx : O.length + 1 ≤ maxLen := by unfold maxLen; omega
    have hmb : (O.length + 1) * 24 ≤ 140737488355328 := by omega
    have hsl := h.cho.slice
    obtain ⟨ca, cc, rfl⟩ := h.cho.shape
    have hown := h.rows.owns
    have hLs : ∀ r, r = (Value.slice sa O.length sc).ownBlock → some L ≠ r := fun r hr => hr ▸ owns_ne hown h.box (by decide)
    go_enter Try.func36, Try.ntmps36
    clear h
    go_upto_region 2 with fail
    go_region_law
      (first
        | (go_simp; go_at_call 85; go_wp2_with (go_at_call 85; (with_reducible refine (gclone _ X _ hX (by omega) (hsl.below (Below.same _).drew)).mono ?_); rintro e w5 ⟨v5, rfl, hown5, hb5⟩; (obtain ⟨s5, c5, rfl⟩ := hown5.shape); have HB5 : Below w.heap.size w w5 := (Below.same _).drew.trans hb5; have hW5 : ∀ o, (w5.alloc o).heap[L]? = w.heap[L]? := (fun o => (HB5.alloc (by have := HB5.size; omega) o).block L hLlt); have hC5 := KK.out _ HB5; have hC5a := (fun o => KK.out _ (HB5.alloc (by have := HB5.size; omega) o))))
        | ((refine step_append_lies _ (by rfl) _ _ _ (by rfl) B 61 i1 _ 1 24 Try.underlying24 hi' hz0' hz1' hz2' rfl (by omega) (.slice sa O.length sc) O.length (O.map (·.1)) (by rfl) (World.ownsRow.alloc (eowns_below hown HB5) _) ⟨w5.heap.size, 0, none⟩ 1 1 [.slice s5 X.length c5] (by rfl) (by rfl) (World.news_of_block (cs := #[.slice s5 X.length c5]) (t := 61) (fr := (0, 0)) (heap_alloc_new w5 _)) (by simp [Value.oneCell']) (by omega) hmx hmb (by have := HB5.size; simp; omega) (w5.heap.size + 1) (by simp) ?_
            intro gg cap6 w6 hown6 hgrow6 hat6 hlt6
            have hL6 : w6.heap[L]? = w.heap[L]? := (hgrow6.block L (by have := HB5.size; simp; omega) (hLs _ rfl)).trans (hW5 _)
            have hc6 : w6.cell? ⟨L, 0, none⟩ = some (.slice sa O.length sc) := (World.cell?_of_block (a := ⟨L, 0, none⟩) hL6).trans hbx
            have hf6 : w6.frozen? ⟨L, 0, none⟩ = false := (World.frozen?_of_block (a := ⟨L, 0, none⟩) hL6).trans hfz)))
    all_goals
      have HP := add_leaf H.out hX hB HB5 hown5 hown6 hgrow6 hat6
      go_wp2_with fail
      refine bodyPost_ret (results_none rfl _ _ _) rfl ⟨rfl, ?_⟩
      have hE : (expL [] 0).map (X ++ ·) = [X] := by rw [expL, if_pos rfl]; simp
      rw [hE]
      exact HP
  · have hE : (expL [] n).map (X ++ ·) = [] := by rw [expL, if_neg h0]; rfl
    have h0' : ((n : Int) == 0) = false := by simp; omega
    rw [hE]
    go_enter Try.func36, Try.ntmps36
    go_wp2_with fail
    refine bodyPost_ret (results_none rfl _ _ _) rfl ?_
    exact ⟨rfl, sv, [], rfl, by simp, by simpa using h, fun g hg => .inl hg, AddFr.refl _ _ _ _⟩
end Go.Proofs.Ytphgpadpffigjaa
