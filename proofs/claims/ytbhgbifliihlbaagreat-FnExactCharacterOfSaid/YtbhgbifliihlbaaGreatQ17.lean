/-
  WALKS: an action at a polynomial. Conditions: as each theorem states.
  PRODUCTS of matrices: the program's. Conditions: as each theorem states.
  PRODUCTS of matrices: the model's. Conditions: as each theorem states.
  Comparing two matrices; units; powers. Conditions: as each theorem states.
  What a matrix is like; products of matrices by their contracts. Conditions: the numbers are bytes.
  ORDERS of matrices: units, powers, the program's search. Conditions: as each theorem states.
-/
import Derived.Test.YtbhgbifliihlbaaGreatQ16
import Derived.Test.YtbhgbifliihlbaaGreatQ14
import Derived.Laws.StructEq
namespace Go.Proofs.YtbhgbifliihlbaaGreat
open Go.RowKit Go.Sort Go.Maps EchM

theorem formsP_ok {p : Int} {n : Nat} {g : Nat → Nat → Int} (hM : MatP p n g) : ∀ x ∈ formsP p n g, PmOk x := fun x hx => by
  simp only [formsP, List.mem_map, List.mem_range] at hx
  obtain ⟨j, hj, rfl⟩ := hx
  have hf := hM.form hj
  exact ⟨hf.byte (prime_le hM.prime).2, Nat.le_trans hf.len (by omega)⟩
theorem formsP_hd {p : Int} {n : Nat} {g : Nat → Nat → Int} (hn : 1 ≤ n) : hdP (formsP p n g) = (p, (n : Int), formL g 0) := by
  rw [hdP_at (by rw [formsP_len]; omega), formsP_at]
theorem formsP_list {p : Int} {n : Nat} {g : Nat → Nat → Int} (hM : MatP p n g) : ListP p n (formsP p n g) :=
  ⟨by rw [formsP_len]; exact hM.n1, by rw [formsP_len]; exact hM.n3, fun x hx => by
    simp only [formsP, List.mem_map, List.mem_range] at hx
    obtain ⟨j, hj, rfl⟩ := hx
    exact ⟨rfl, rfl, hM.valid _ (by simp only [formsL, List.mem_map, List.mem_range]; exact ⟨j, hj, rfl⟩)⟩⟩
/-- Nothing is wrong with a substitution of the letters' images. -/
theorem subs_forms {p : Int} {n : Nat} {g : Nat → Nat → Int} (hM : MatP p n g) {xs : List Tm} (hx : isPolyB p n xs = true) (hby : ∀ t ∈ xs, tmByte t) : subsC p n xs (formsP p n g) = 0 := by
  have h1 : (formsP p n g).all isPm = true := by
    rw [List.all_eq_true]
    intro x hx
    simp only [formsP, List.mem_map, List.mem_range] at hx
    obtain ⟨j, hj, rfl⟩ := hx
    exact hM.poly hj
  have h2 : (formsP p n g).all (likeT p (hdP (formsP p n g))) = true := by
    rw [List.all_eq_true, formsP_hd hM.n1]
    intro x hx
    simp only [formsP, List.mem_map, List.mem_range] at hx
    obtain ⟨j, hj, rfl⟩ := hx
    simp [likeT]
  have h3 : xs.all (fun t => decide (bndE (tmsL (formsP p n g)) (tmE t) ≤ 12)) = true := by
    rw [List.all_eq_true]
    intro t ht
    rw [formsP_tms]
    simpa using hM.bnd (valid_of hx hby) t ht
  unfold subsC
  rw [hx, h1, h2, h3, formsP_len]
  simp
theorem led_ex {p : Int} {n : Nat} {g : Nat → Nat → Int} (hM : MatP p n g) {xs : List Tm} (hx : isPolyB p n xs = true) (hby : ∀ t ∈ xs, tmByte t) : ∃ L, Led p n g xs L := by
  obtain ⟨o, ho⟩ := subO_ex (p := p) (d := n) (xs := xs) (formsP_ok hM) hby
  rcases ho with ⟨h, _⟩ | ⟨_, P, L, hP, hL, _⟩
  · exact absurd (subs_forms hM hx hby) h
  · rw [formsP_tms] at hP
    exact ⟨L, P, hP, hL⟩
theorem Led.subO {p : Int} {n : Nat} {g : Nat → Nat → Int} (hM : MatP p n g) {xs L : List Tm} (hx : isPolyB p n xs = true) (hby : ∀ t ∈ xs, tmByte t) (h : Led p n g xs L) : SubO p n xs (formsP p n g) ⟨p, n, L, 0⟩ := by
  obtain ⟨P, hP, hL⟩ := h
  exact .inr ⟨subs_forms hM hx hby, P, L, by rw [formsP_tms]; exact hP, hL, by rw [formsP_hd hM.n1]⟩

set_option maxHeartbeats 4000000 in
theorem iactC (p : Int) (n : Nat) (g : Nat → Nat → Int) (B : Nat) (v : Value) (xs L : List Tm) (w : World) (hM : MatP p n g) (hA : ActW w B p n g) (hl : xs.length ≤ 1048576) (hS : SliceT w v xs) (hby : ∀ t ∈ xs, tmByte t) (hx : isPolyB p n xs = true) (hL : Led p n g xs L) :
    Calls Tryz.prog 72 #[.agg #[.int .i64 p, .int .i64 (n : Int), v], .pointer (some ⟨B, 0, none⟩)] w fun e w' =>
      ∃ v', e = .returned (.agg #[.int .i64 p, .int .i64 (n : Int), v']) ∧ OwnP w' w.heap.size v' L ∧ Below w.heap.size w w' := by
  obtain ⟨a, cap, rfl, _⟩ := id hS
  obtain ⟨W, hW, hbW, ⟨hWs1, hWs2⟩, rx, rr⟩ := boxes2 w p (n : Int) (.slice a xs.length cap)
  obtain ⟨⟨c0, c1, c2⟩, _⟩ := poly3 rx
  obtain ⟨⟨lv, cl, hlv⟩, hBl⟩ := hA.below hbW
  have hLen : (formsP p n g).length ≤ 1048576 := by rw [formsP_len]; have := hM.n3; omega
  have HC := Lib.hid (iSub p n _ lv xs (formsP p n g) W hl (hS.below hbW) hby hLen (formsP_ok hM) hlv _ (hL.subO hM hx hby))
  obtain ⟨la, lc, rfl, _⟩ := id hlv
  clear hM hA hS hby hx hL hlv
  go_enter Tryz.func72, Tryz.ntmps72
  go_upto_region 1 with fail
  rw [← hW]
  clear hW
  go_wp2_with fail
  ((with_reducible refine HC.out.mono ?_); rintro e w1 ⟨v1, rfl, ho1, hb1⟩)
  simp only at ho1
  obtain ⟨sa1, sc1, rfl⟩ := owns_slice ho1
  have hbw1 := hbW.trans (hb1.mono hbW.size)
  have rr1 := rowIs_below rr hb1 rr.lt
  obtain ⟨V, hV1, hbV, _, rV⟩ := newbox w1 p (n : Int) (.slice sa1 L.length sc1)
  have rrV := rowIs_below rr1 hbV rr1.lt
  obtain ⟨⟨q0, q1, q2⟩, _⟩ := poly3 rV
  obtain ⟨⟨r0, r1, r2⟩, z0, z1, z2⟩ := poly3 rrV
  have hbwV := hbw1.trans (hbV.mono hbw1.size)
  have hoV : OwnP V W.heap.size (.slice sa1 L.length sc1) L := owns_belowT ho1 hbV
  obtain ⟨a0, a1, a2, a3, a4⟩ := fill_box (w := w) rrV hoV hbW.size hbwV (by omega) p (n : Int)
  have A0 := Lib.hid a0
  have A1 := Lib.hid a1
  have A2 := Lib.hid a2
  have A3 := Lib.hid a3
  have A4 := Lib.hid a4
  clear a0 a1 a2 a3 a4 c0 c1 c2 cl ho1 hoV rr rr1 rrV rV rx
  go_upto_region 2 with fail
  try rw [← hV1]
  clear hV1
  go_wp2_with fail
  exact bodyPost_ret (v := .agg #[.int .i64 p, .int .i64 (n : Int), .slice sa1 L.length sc1]) (by simp [results, Tryz.results72, go_sem, A0.out, A1.out, A2.out]) rfl ⟨_, rfl, A3.out, A4.out⟩
end Go.Proofs.YtbhgbifliihlbaaGreat
namespace Go.Proofs.YtbhgbifliihlbaaGreat
open Go.RowKit Go.Sort EchM

def psum (g h : Nat → Nat → Int) (i j : Nat) : Nat → Int
  | 0 => 0
  | k + 1 => psum g h i j k + g i k * h k j
def prodM (p : Int) (g h : Nat → Nat → Int) (i j : Nat) : Int := psum g h i j 3 % p
theorem psum_bound {p : Int} (h13 : p ≤ 13) {g h : Nat → Nat → Int} (hg : ∀ i, i < 3 → ∀ j, j < 3 → 0 ≤ g i j ∧ g i j < p) (hh : ∀ i, i < 3 → ∀ j, j < 3 → 0 ≤ h i j ∧ h i j < p) {i j : Nat} (hi : i < 3) (hj : j < 3) : ∀ k, k ≤ 3 → 0 ≤ psum g h i j k ∧ psum g h i j k ≤ 169 * k
  | 0, _ => ⟨by simp [psum], by simp [psum]⟩
  | k + 1, hk => by
    have ih := psum_bound h13 hg hh hi hj k (by omega)
    obtain ⟨f0, f1⟩ := eprod_fit h13 (hg i hi k (by omega)) (hh k (by omega) j hj)
    rw [psum]
    omega
theorem prodM_bound {p : Int} (h2 : 2 ≤ p) (g h : Nat → Nat → Int) (i j : Nat) : 0 ≤ prodM p g h i j ∧ prodM p g h i j < p := emod_small h2
/-- The numbers of a product, up to a place. -/
def pupto (p : Int) (g h : Nat → Nat → Int) (i j : Nat) (a b : Nat) : Int := if a < i ∨ (a = i ∧ b < j) then prodM p g h a b else 0
theorem pupto_next {p : Int} {g h : Nat → Nat → Int} {i j : Nat} (a b : Nat) : upd (pupto p g h i j) i j (prodM p g h i j) a b = pupto p g h i (j + 1) a b := by
  unfold upd pupto
  by_cases e : a = i ∧ b = j
  · obtain ⟨rfl, rfl⟩ := e
    rw [if_pos ⟨rfl, rfl⟩, if_pos (by omega)]
  · rw [if_neg e]
    by_cases e2 : a < i ∨ (a = i ∧ b < j)
    · rw [if_pos e2, if_pos (by omega)]
    · rw [if_neg e2, if_neg (by omega)]

set_option maxRecDepth 8000 in
set_option maxHeartbeats 8000000 in
theorem iprod (p : Int) (g h : Nat → Nat → Int) (w : World) (h2 : 2 ≤ p) (h13 : p ≤ 13) (hg : ∀ i, i < 3 → ∀ j, j < 3 → 0 ≤ g i j ∧ g i j < p) (hh : ∀ i, i < 3 → ∀ j, j < 3 → 0 ≤ h i j ∧ h i j < p) :
    Calls Tryz.prog 89 #[.int .i64 p, mv g, mv h] w fun e w' => e = .returned (mv (prodM p g h)) ∧ Below w.heap.size w w' := by
  obtain ⟨W, hW, rG, rH, rR, rO, hbW, hWs⟩ : ∃ W, W = ((((w.alloc (.cells #[.int .u8 (g 0 0), .int .u8 (g 0 1), .int .u8 (g 0 2), .int .u8 (g 1 0), .int .u8 (g 1 1), .int .u8 (g 1 2), .int .u8 (g 2 0), .int .u8 (g 2 1), .int .u8 (g 2 2)] 76)).alloc (.cells #[.int .u8 (h 0 0), .int .u8 (h 0 1), .int .u8 (h 0 2), .int .u8 (h 1 0), .int .u8 (h 1 1), .int .u8 (h 1 2), .int .u8 (h 2 0), .int .u8 (h 2 1), .int .u8 (h 2 2)] 76)).alloc (.cells #[.int .u8 0, .int .u8 0, .int .u8 0, .int .u8 0, .int .u8 0, .int .u8 0, .int .u8 0, .int .u8 0, .int .u8 0] 76)).alloc (.cells #[.int .u8 0, .int .u8 0, .int .u8 0, .int .u8 0, .int .u8 0, .int .u8 0, .int .u8 0, .int .u8 0, .int .u8 0] 76)) ∧
      W.rowIs w.heap.size 76 9 (mF g) ∧ W.rowIs (w.heap.size + 1) 76 9 (mF h) ∧ W.rowIs (w.heap.size + 2) 76 9 (mF fun _ _ => 0) ∧ W.rowIs (w.heap.size + 3) 76 9 (mF fun _ _ => 0) ∧ Below w.heap.size w W ∧ w.heap.size + 4 ≤ W.heap.size := by
    refine ⟨_, rfl, (((mbox w g _).alloc _).alloc _).alloc _, ?_, ?_, ?_, ((ebox2 _ _ _).alloc (by simp; omega) _).alloc (by simp; omega) _, by simp⟩
    · have := mbox (w.alloc (.cells #[.int .u8 (g 0 0), .int .u8 (g 0 1), .int .u8 (g 0 2), .int .u8 (g 1 0), .int .u8 (g 1 1), .int .u8 (g 1 2), .int .u8 (g 2 0), .int .u8 (g 2 1), .int .u8 (g 2 2)] 76)) h 76
      rw [World.size_alloc] at this
      exact (this.alloc _).alloc _
    · have := mbox ((w.alloc (.cells #[.int .u8 (g 0 0), .int .u8 (g 0 1), .int .u8 (g 0 2), .int .u8 (g 1 0), .int .u8 (g 1 1), .int .u8 (g 1 2), .int .u8 (g 2 0), .int .u8 (g 2 1), .int .u8 (g 2 2)] 76)).alloc (.cells #[.int .u8 (h 0 0), .int .u8 (h 0 1), .int .u8 (h 0 2), .int .u8 (h 1 0), .int .u8 (h 1 1), .int .u8 (h 1 2), .int .u8 (h 2 0), .int .u8 (h 2 1), .int .u8 (h 2 2)] 76)) (fun _ _ => 0) 76
      rw [World.size_alloc, World.size_alloc] at this
      exact this.alloc _
    · have := mbox (((w.alloc (.cells #[.int .u8 (g 0 0), .int .u8 (g 0 1), .int .u8 (g 0 2), .int .u8 (g 1 0), .int .u8 (g 1 1), .int .u8 (g 1 2), .int .u8 (g 2 0), .int .u8 (g 2 1), .int .u8 (g 2 2)] 76)).alloc (.cells #[.int .u8 (h 0 0), .int .u8 (h 0 1), .int .u8 (h 0 2), .int .u8 (h 1 0), .int .u8 (h 1 1), .int .u8 (h 1 2), .int .u8 (h 2 0), .int .u8 (h 2 1), .int .u8 (h 2 2)] 76)).alloc (.cells #[.int .u8 0, .int .u8 0, .int .u8 0, .int .u8 0, .int .u8 0, .int .u8 0, .int .u8 0, .int .u8 0, .int .u8 0] 76)) (fun _ _ => 0) 76
      rw [World.size_alloc, World.size_alloc, World.size_alloc] at this
      exact this
  have HGG := Lib.hid hg
  have HHH := Lib.hid hh
  clear hg hh
  unfold mv
  go_enter Tryz.func89, Tryz.ntmps89
  go_upto_region 2 with fail
  rw [← hW]
  clear hW
  go_wp2_with fail
  go_loopw [12] (fun i wr => ∃ (k : Nat), k ≤ 3 ∧ i = .int .i64 k ∧ wr.rowIs w.heap.size 76 9 (mF g) ∧ wr.rowIs (w.heap.size + 1) 76 9 (mF h) ∧ wr.rowIs (w.heap.size + 2) 76 9 (mF fun _ _ => 0) ∧ wr.rowIs (w.heap.size + 3) 76 9 (mF (pupto p g h k 0)) ∧ Below w.heap.size w wr) (fun i _ => 3 - (intOf i).toNat)
  case atStart => exact ⟨0, by omega, rfl, rG, rH, rR, mF_congr rO (fun a _ b _ => by simp [pupto]), hbW⟩
  case round =>
    obtain ⟨i, hi, rfl, qG, qH, qR, qO, hb⟩ := hrel
    by_cases hlt : i < 3
    · have hlt' : (i : Int) < 3 := by omega
      go_wp2_with fail
      go_loopw [15] (fun s wr => ∃ (j : Nat), j ≤ 3 ∧ s = .int .i64 j ∧ wr.rowIs w.heap.size 76 9 (mF g) ∧ wr.rowIs (w.heap.size + 1) 76 9 (mF h) ∧ wr.rowIs (w.heap.size + 2) 76 9 (mF fun _ _ => 0) ∧ wr.rowIs (w.heap.size + 3) 76 9 (mF (pupto p g h i j)) ∧ Below w.heap.size w wr) (fun s _ => 3 - (intOf s).toNat)
      case atStart => exact ⟨0, by omega, rfl, qG, qH, qR, qO, hb⟩
      case round =>
        clear qG qH qR qO hb
        obtain ⟨j, hj, rfl, qG, qH, qR, qO, hb⟩ := hrel
        by_cases hjt : j < 3
        · have hjt' : (j : Int) < 3 := by omega
          obtain ⟨wo, rfl⟩ : ∃ wo : World, wo = wr := ⟨_, rfl⟩
          go_wp2_with fail
          go_loopw [10, 18] (fun s u wr => ∃ (k : Nat), k ≤ 3 ∧ s = .int .i64 (psum g h i j k) ∧ u = .int .i64 k ∧ ∃ n, wr = wo.drewN n) (fun _ u _ => 3 - (intOf u).toNat)
          case atStart => exact ⟨0, by omega, rfl, rfl, 0, rfl⟩
          case round =>
            obtain ⟨k, hk, rfl, rfl, nd, rfl⟩ := hrel
            obtain ⟨s0, s1⟩ := psum_bound h13 HGG.out HHH.out hlt hjt k hk
            by_cases hkt : k < 3
            · have hkt' : (k : Int) < 3 := by omega
              have c0 := mcell qG (i := i) (j := k) hlt hkt
              have c1 := mcell qH (i := k) (j := j) hkt hjt
              obtain ⟨x0, x1⟩ := HGG.out i hlt k hkt
              obtain ⟨y0, y1⟩ := HHH.out k hkt j hjt
              obtain ⟨f0, f1⟩ := eprod_fit h13 ⟨x0, x1⟩ ⟨y0, y1⟩
              have HS := Lib.hid (show psum g h i j k + g i k * h k j = psum g h i j (k + 1) from rfl)
              generalize g i k = X at c0 x0 x1 f0 f1 HS
              generalize h k j = Y at c1 y0 y1 f0 f1 HS
              generalize psum g h i j k = S at s0 s1 HS ⊢
              have w1 : IntKind.i64.wrap (X * Y) = X * Y := IntWalk.i64_in _ (by omega)
              have w2 : IntKind.i64.wrap (S + X * Y) = S + X * Y := IntWalk.i64_in _ (by omega)
              go_wp2_with fail
              go_quiet (fail)
              go_wp2_with fail
              go_roundw
              case rel => exact ⟨k + 1, by omega, by rw [← HS.out], by go_num, _, rfl⟩
              case measure => simp [intOf]; omega
            · obtain rfl : k = 3 := by omega
              have HP := Lib.hid (show psum g h i j 3 % p = prodM p g h i j from rfl)
              have hst := mF_congr (h := pupto p g h i (j + 1)) (mset (i := i) (j := j) qO hjt (prodM p g h i j)) (fun a _ b _ => pupto_next a b)
              obtain ⟨m0, m1⟩ := prodM_bound h2 g h i j
              have y0 := mcell qO (i := i) (j := j) hlt hjt
              have z0 := qO.frozen (i * 3 + j)
              have htm : (psum g h i j 3).tmod p = psum g h i j 3 % p := Int.tmod_eq_emod_of_nonneg s0
              rw [HP.out] at htm
              have hmm : psum g h i j 3 % p = prodM p g h i j := HP.out
              generalize prodM p g h i j = X at hst m0 m1 htm hmm
              generalize psum g h i j 3 = S at s0 s1 htm hmm ⊢
              have w8 : IntKind.u8.wrap X = X := IntWalk.u8_in _ (by omega)
              have oG : (((wo.drewN nd).drew).setCell ⟨w.heap.size + 3, i * 3 + j, none⟩ (.int .u8 X)).rowIs w.heap.size 76 9 (mF g) := qG.setOther (by simp) _
              have oH : (((wo.drewN nd).drew).setCell ⟨w.heap.size + 3, i * 3 + j, none⟩ (.int .u8 X)).rowIs (w.heap.size + 1) 76 9 (mF h) := qH.setOther (by simp) _
              have oR : (((wo.drewN nd).drew).setCell ⟨w.heap.size + 3, i * 3 + j, none⟩ (.int .u8 X)).rowIs (w.heap.size + 2) 76 9 (mF fun _ _ => 0) := qR.setOther (by simp) _
              have oO : (((wo.drewN nd).drew).setCell ⟨w.heap.size + 3, i * 3 + j, none⟩ (.int .u8 X)).rowIs (w.heap.size + 3) 76 9 (mF (pupto p g h i (j + 1))) := hst
              have oB : Below w.heap.size w (((wo.drewN nd).drew).setCell ⟨w.heap.size + 3, i * 3 + j, none⟩ (.int .u8 X)) := ((below_drewN hb nd).drew).setCell (by simp) _
              go_wp2_with fail
              go_region
              all_goals
                go_wp2_with fail
                go_roundw
                case rel => exact ⟨j + 1, by omega, by go_num, oG, oH, oR, oO, oB⟩
                case measure => simp [intOf]; omega
        · obtain rfl : j = 3 := by omega
          have qO2 := mF_congr (h := pupto p g h (i + 1) 0) qO (fun a _ b hb => by
            unfold pupto
            by_cases e2 : a < i ∨ (a = i ∧ b < 3)
            · rw [if_pos e2, if_pos (by omega)]
            · rw [if_neg e2, if_neg (by omega)])
          go_wp2_with fail
          go_roundw
          case rel => exact ⟨i + 1, by omega, by go_num, qG, qH, qR, qO2, hb⟩
          case measure => simp [intOf]; omega
    · obtain rfl : i = 3 := by omega
      have q4 := mF_congr (h := prodM p g h) qO (fun a ha b _ => by simp [pupto, ha])
      obtain ⟨r, hr⟩ : ∃ r, prodM p g h = r := ⟨_, rfl⟩
      rw [hr] at q4
      have HRQ := Lib.hid hr
      clear hr
      obtain ⟨⟨o0, o1, o2⟩, ⟨o3, o4, o5⟩, o6, o7, o8⟩ := mcells q4
      obtain ⟨⟨y0, y1, y2⟩, ⟨y3, y4, y5⟩, y6, y7, y8⟩ := mcells qR
      have z0 := qR.frozen 0
      have z1 := qR.frozen 1
      have z2 := qR.frozen 2
      have z3 := qR.frozen 3
      have z4 := qR.frozen 4
      have z5 := qR.frozen 5
      have z6 := qR.frozen 6
      have z7 := qR.frozen 7
      have z8 := qR.frozen 8
      obtain ⟨hf1, hf2⟩ := mfill (w := w) (B := w.heap.size) qR hb (by omega) r
      obtain ⟨⟨v0, v1, v2⟩, ⟨v3, v4, v5⟩, v6, v7, v8⟩ := mcells hf1
      have V0 := Lib.hid v0
      have V1 := Lib.hid v1
      have V2 := Lib.hid v2
      have V3 := Lib.hid v3
      have V4 := Lib.hid v4
      have V5 := Lib.hid v5
      have V6 := Lib.hid v6
      have V7 := Lib.hid v7
      have V8 := Lib.hid v8
      have HF2 := Lib.hid hf2
      clear hf1 hf2 v0 v1 v2 v3 v4 v5 v6 v7 v8 qO q4
      go_wp2_with fail
      exact bodyPost_ret (v := mv r) (by simp [results, Tryz.results89, go_sem, mv, V0.out, V1.out, V2.out, V3.out, V4.out, V5.out, V6.out, V7.out, V8.out]) rfl ⟨by rw [← HRQ.out]; rfl, HF2.out⟩
end Go.Proofs.YtbhgbifliihlbaaGreat
namespace Go.Proofs.YtbhgbifliihlbaaGreat
open Go.RowKit Go.Sort EchM

theorem psum_out {n : Nat} {g h : Nat → Nat → Int} (hg : Out0 n g) (hh : Out0 n h) {i j : Nat} (hi : i < 3) (hj : j < 3) (ho : n ≤ i ∨ n ≤ j) : ∀ k, k ≤ 3 → psum g h i j k = 0
  | 0, _ => rfl
  | k + 1, hk => by
    rw [psum, psum_out hg hh hi hj ho k (by omega)]
    rcases ho with h1 | h1
    · rw [hg i hi k (by omega) (.inl h1)]; omega
    · rw [hh k (by omega) j hj (.inr h1)]; omega
theorem psum_size {n : Nat} {g h : Nat → Nat → Int} (hg : Out0 n g) {i j : Nat} (hi : i < 3) (hn : n ≤ 3) : psum g h i j n = psum g h i j 3 := by
  have key : ∀ k, n ≤ k → k ≤ 3 → psum g h i j k = psum g h i j n := by
    intro k
    induction k with
    | zero => intro h1 _; rw [show n = 0 by omega]
    | succ k ih =>
      intro h1 h2
      by_cases e : n = k + 1
      · rw [e]
      · rw [psum, ih (by omega) (by omega), hg i hi k (by omega) (.inr (by omega))]; omega
  exact (key 3 hn (by omega)).symm
theorem prodM_out {p : Int} {n : Nat} {g h : Nat → Nat → Int} (hg : Out0 n g) (hh : Out0 n h) : Out0 n (prodM p g h) := fun i hi j hj ho => by
  rw [prodM, psum_out hg hh hi hj ho 3 (by omega)]; simp

set_option maxRecDepth 8000 in
set_option maxHeartbeats 8000000 in
theorem sprod (p : Int) (n : Nat) (g h : Nat → Nat → Int) (w : World) (h2 : 2 ≤ p) (h13 : p ≤ 13) (hg : ∀ i, i < 3 → ∀ j, j < 3 → 0 ≤ g i j ∧ g i j < p) (hh : ∀ i, i < 3 → ∀ j, j < 3 → 0 ≤ h i j ∧ h i j < p) (hn3 : n ≤ 3) (hog : Out0 n g) (hoh : Out0 n h) :
    Calls Tryz.prog 55 #[.int .i64 p, .int .i64 (n : Int), mv g, mv h] w fun e w' => e = .returned (mv (prodM p g h)) ∧ Below w.heap.size w w' := by
  obtain ⟨W, hW, rG, rH, rR, rO, hbW, hWs⟩ : ∃ W, W = ((((w.alloc (.cells #[.int .u8 (g 0 0), .int .u8 (g 0 1), .int .u8 (g 0 2), .int .u8 (g 1 0), .int .u8 (g 1 1), .int .u8 (g 1 2), .int .u8 (g 2 0), .int .u8 (g 2 1), .int .u8 (g 2 2)] 76)).alloc (.cells #[.int .u8 (h 0 0), .int .u8 (h 0 1), .int .u8 (h 0 2), .int .u8 (h 1 0), .int .u8 (h 1 1), .int .u8 (h 1 2), .int .u8 (h 2 0), .int .u8 (h 2 1), .int .u8 (h 2 2)] 76)).alloc (.cells #[.int .u8 0, .int .u8 0, .int .u8 0, .int .u8 0, .int .u8 0, .int .u8 0, .int .u8 0, .int .u8 0, .int .u8 0] 76)).alloc (.cells #[.int .u8 0, .int .u8 0, .int .u8 0, .int .u8 0, .int .u8 0, .int .u8 0, .int .u8 0, .int .u8 0, .int .u8 0] 76)) ∧
      W.rowIs w.heap.size 76 9 (mF g) ∧ W.rowIs (w.heap.size + 1) 76 9 (mF h) ∧ W.rowIs (w.heap.size + 2) 76 9 (mF fun _ _ => 0) ∧ W.rowIs (w.heap.size + 3) 76 9 (mF fun _ _ => 0) ∧ Below w.heap.size w W ∧ w.heap.size + 4 ≤ W.heap.size := by
    refine ⟨_, rfl, (((mbox w g _).alloc _).alloc _).alloc _, ?_, ?_, ?_, ((ebox2 _ _ _).alloc (by simp; omega) _).alloc (by simp; omega) _, by simp⟩
    · have := mbox (w.alloc (.cells #[.int .u8 (g 0 0), .int .u8 (g 0 1), .int .u8 (g 0 2), .int .u8 (g 1 0), .int .u8 (g 1 1), .int .u8 (g 1 2), .int .u8 (g 2 0), .int .u8 (g 2 1), .int .u8 (g 2 2)] 76)) h 76
      rw [World.size_alloc] at this
      exact (this.alloc _).alloc _
    · have := mbox ((w.alloc (.cells #[.int .u8 (g 0 0), .int .u8 (g 0 1), .int .u8 (g 0 2), .int .u8 (g 1 0), .int .u8 (g 1 1), .int .u8 (g 1 2), .int .u8 (g 2 0), .int .u8 (g 2 1), .int .u8 (g 2 2)] 76)).alloc (.cells #[.int .u8 (h 0 0), .int .u8 (h 0 1), .int .u8 (h 0 2), .int .u8 (h 1 0), .int .u8 (h 1 1), .int .u8 (h 1 2), .int .u8 (h 2 0), .int .u8 (h 2 1), .int .u8 (h 2 2)] 76)) (fun _ _ => 0) 76
      rw [World.size_alloc, World.size_alloc] at this
      exact this.alloc _
    · have := mbox (((w.alloc (.cells #[.int .u8 (g 0 0), .int .u8 (g 0 1), .int .u8 (g 0 2), .int .u8 (g 1 0), .int .u8 (g 1 1), .int .u8 (g 1 2), .int .u8 (g 2 0), .int .u8 (g 2 1), .int .u8 (g 2 2)] 76)).alloc (.cells #[.int .u8 (h 0 0), .int .u8 (h 0 1), .int .u8 (h 0 2), .int .u8 (h 1 0), .int .u8 (h 1 1), .int .u8 (h 1 2), .int .u8 (h 2 0), .int .u8 (h 2 1), .int .u8 (h 2 2)] 76)).alloc (.cells #[.int .u8 0, .int .u8 0, .int .u8 0, .int .u8 0, .int .u8 0, .int .u8 0, .int .u8 0, .int .u8 0, .int .u8 0] 76)) (fun _ _ => 0) 76
      rw [World.size_alloc, World.size_alloc, World.size_alloc] at this
      exact this
  have HGG := Lib.hid hg
  have HHH := Lib.hid hh
  have HOG := Lib.hid hog
  have HPO := Lib.hid (prodM_out (p := p) hog hoh)
  clear hg hh hog hoh
  unfold mv
  go_enter Tryz.func55, Tryz.ntmps55
  go_upto_region 2 with fail
  rw [← hW]
  clear hW
  go_wp2_with fail
  go_loopw [10] (fun i wr => ∃ (k : Nat), k ≤ n ∧ i = .int .i64 k ∧ wr.rowIs w.heap.size 76 9 (mF g) ∧ wr.rowIs (w.heap.size + 1) 76 9 (mF h) ∧ wr.rowIs (w.heap.size + 2) 76 9 (mF fun _ _ => 0) ∧ wr.rowIs (w.heap.size + 3) 76 9 (mF (pupto p g h k 0)) ∧ Below w.heap.size w wr) (fun i _ => n - (intOf i).toNat)
  case atStart => exact ⟨0, by omega, rfl, rG, rH, rR, mF_congr rO (fun a _ b _ => by simp [pupto]), hbW⟩
  case round =>
    obtain ⟨i, hi, rfl, qG, qH, qR, qO, hb⟩ := hrel
    by_cases hltn : i < n
    · have hlt' : (i : Int) < (n : Int) := by omega
      have hlt : i < 3 := by omega
      go_wp2_with fail
      go_loopw [11] (fun s wr => ∃ (j : Nat), j ≤ n ∧ s = .int .i64 j ∧ wr.rowIs w.heap.size 76 9 (mF g) ∧ wr.rowIs (w.heap.size + 1) 76 9 (mF h) ∧ wr.rowIs (w.heap.size + 2) 76 9 (mF fun _ _ => 0) ∧ wr.rowIs (w.heap.size + 3) 76 9 (mF (pupto p g h i j)) ∧ Below w.heap.size w wr) (fun s _ => n - (intOf s).toNat)
      case atStart => exact ⟨0, by omega, rfl, qG, qH, qR, qO, hb⟩
      case round =>
        clear qG qH qR qO hb
        obtain ⟨j, hj, rfl, qG, qH, qR, qO, hb⟩ := hrel
        by_cases hjtn : j < n
        · have hjt' : (j : Int) < (n : Int) := by omega
          have hjt : j < 3 := by omega
          obtain ⟨wo, rfl⟩ : ∃ wo : World, wo = wr := ⟨_, rfl⟩
          go_wp2_with fail
          go_loopw [12, 13] (fun s u wr => ∃ (k : Nat), k ≤ n ∧ s = .int .i64 (psum g h i j k) ∧ u = .int .i64 k ∧ ∃ n, wr = wo.drewN n) (fun _ u _ => n - (intOf u).toNat)
          case atStart => exact ⟨0, by omega, rfl, rfl, 0, rfl⟩
          case round =>
            obtain ⟨k, hk, rfl, rfl, nd, rfl⟩ := hrel
            obtain ⟨s0, s1⟩ := psum_bound h13 HGG.out HHH.out hlt hjt k (by omega)
            by_cases hktn : k < n
            · have hkt' : (k : Int) < (n : Int) := by omega
              have hkt : k < 3 := by omega
              have c0 := mcell qG (i := i) (j := k) hlt hkt
              have c1 := mcell qH (i := k) (j := j) hkt hjt
              obtain ⟨x0, x1⟩ := HGG.out i hlt k hkt
              obtain ⟨y0, y1⟩ := HHH.out k hkt j hjt
              obtain ⟨f0, f1⟩ := eprod_fit h13 ⟨x0, x1⟩ ⟨y0, y1⟩
              have HS := Lib.hid (show psum g h i j k + g i k * h k j = psum g h i j (k + 1) from rfl)
              generalize g i k = X at c0 x0 x1 f0 f1 HS
              generalize h k j = Y at c1 y0 y1 f0 f1 HS
              generalize psum g h i j k = S at s0 s1 HS ⊢
              have w1 : IntKind.i64.wrap (X * Y) = X * Y := IntWalk.i64_in _ (by omega)
              have w2 : IntKind.i64.wrap (S + X * Y) = S + X * Y := IntWalk.i64_in _ (by omega)
              go_wp2_with fail
              go_quiet (fail)
              go_wp2_with fail
              go_roundw
              case rel => exact ⟨k + 1, by omega, by rw [← HS.out], by go_num, _, rfl⟩
              case measure => simp [intOf]; omega
            · obtain rfl : k = n := by omega
              have HP := Lib.hid (show psum g h i j k % p = prodM p g h i j by rw [psum_size HOG.out hlt hn3]; rfl)
              have hst := mF_congr (h := pupto p g h i (j + 1)) (mset (i := i) (j := j) qO hjt (prodM p g h i j)) (fun a _ b _ => pupto_next a b)
              obtain ⟨m0, m1⟩ := prodM_bound h2 g h i j
              have y0 := mcell qO (i := i) (j := j) hlt hjt
              have z0 := qO.frozen (i * 3 + j)
              have htm : (psum g h i j k).tmod p = psum g h i j k % p := Int.tmod_eq_emod_of_nonneg s0
              rw [HP.out] at htm
              have hmm : psum g h i j k % p = prodM p g h i j := HP.out
              generalize prodM p g h i j = X at hst m0 m1 htm hmm
              generalize psum g h i j k = S at s0 s1 htm hmm ⊢
              have w8 : IntKind.u8.wrap X = X := IntWalk.u8_in _ (by omega)
              have oG : (((wo.drewN nd).drew).setCell ⟨w.heap.size + 3, i * 3 + j, none⟩ (.int .u8 X)).rowIs w.heap.size 76 9 (mF g) := qG.setOther (by simp) _
              have oH : (((wo.drewN nd).drew).setCell ⟨w.heap.size + 3, i * 3 + j, none⟩ (.int .u8 X)).rowIs (w.heap.size + 1) 76 9 (mF h) := qH.setOther (by simp) _
              have oR : (((wo.drewN nd).drew).setCell ⟨w.heap.size + 3, i * 3 + j, none⟩ (.int .u8 X)).rowIs (w.heap.size + 2) 76 9 (mF fun _ _ => 0) := qR.setOther (by simp) _
              have oO : (((wo.drewN nd).drew).setCell ⟨w.heap.size + 3, i * 3 + j, none⟩ (.int .u8 X)).rowIs (w.heap.size + 3) 76 9 (mF (pupto p g h i (j + 1))) := hst
              have oB : Below w.heap.size w (((wo.drewN nd).drew).setCell ⟨w.heap.size + 3, i * 3 + j, none⟩ (.int .u8 X)) := ((below_drewN hb nd).drew).setCell (by simp) _
              go_wp2_with fail
              go_region
              all_goals
                go_wp2_with fail
                go_roundw
                case rel => exact ⟨j + 1, by omega, by go_num, oG, oH, oR, oO, oB⟩
                case measure => simp [intOf]; omega
        · obtain rfl : j = n := by omega
          have qO2 := mF_congr (h := pupto p g h (i + 1) 0) qO (fun a ha b hb => by
            unfold pupto
            by_cases e2 : a < i ∨ (a = i ∧ b < j)
            · rw [if_pos e2, if_pos (by omega)]
            · rw [if_neg e2]
              by_cases e3 : a = i
              · rw [if_pos (by omega), HPO.out a ha b hb (.inr (by omega))]
              · rw [if_neg (by omega)])
          go_wp2_with fail
          go_roundw
          case rel => exact ⟨i + 1, by omega, by go_num, qG, qH, qR, qO2, hb⟩
          case measure => simp [intOf]; omega
    · obtain rfl : i = n := by omega
      have q4 := mF_congr (h := prodM p g h) qO (fun a ha b hb => by
        unfold pupto
        by_cases e : a < i
        · rw [if_pos (.inl e)]
        · rw [if_neg (by omega), HPO.out a ha b hb (.inl (by omega))])
      obtain ⟨r, hr⟩ : ∃ r, prodM p g h = r := ⟨_, rfl⟩
      rw [hr] at q4
      have HRQ := Lib.hid hr
      clear hr
      obtain ⟨⟨o0, o1, o2⟩, ⟨o3, o4, o5⟩, o6, o7, o8⟩ := mcells q4
      obtain ⟨⟨y0, y1, y2⟩, ⟨y3, y4, y5⟩, y6, y7, y8⟩ := mcells qR
      have z0 := qR.frozen 0
      have z1 := qR.frozen 1
      have z2 := qR.frozen 2
      have z3 := qR.frozen 3
      have z4 := qR.frozen 4
      have z5 := qR.frozen 5
      have z6 := qR.frozen 6
      have z7 := qR.frozen 7
      have z8 := qR.frozen 8
      obtain ⟨hf1, hf2⟩ := mfill (w := w) (B := w.heap.size) qR hb (by omega) r
      obtain ⟨⟨v0, v1, v2⟩, ⟨v3, v4, v5⟩, v6, v7, v8⟩ := mcells hf1
      have V0 := Lib.hid v0
      have V1 := Lib.hid v1
      have V2 := Lib.hid v2
      have V3 := Lib.hid v3
      have V4 := Lib.hid v4
      have V5 := Lib.hid v5
      have V6 := Lib.hid v6
      have V7 := Lib.hid v7
      have V8 := Lib.hid v8
      have HF2 := Lib.hid hf2
      clear hf1 hf2 v0 v1 v2 v3 v4 v5 v6 v7 v8 qO q4
      go_wp2_with fail
      exact bodyPost_ret (v := mv r) (by simp [results, Tryz.results55, go_sem, mv, V0.out, V1.out, V2.out, V3.out, V4.out, V5.out, V6.out, V7.out, V8.out]) rfl ⟨by rw [← HRQ.out]; rfl, HF2.out⟩
end Go.Proofs.YtbhgbifliihlbaaGreat
namespace Go.Proofs.YtbhgbifliihlbaaGreat
open Go.RowKit Go.Sort EchM

theorem row3_eq (x y z x' y' z' : Int) (w : World) :
    (Op.equalIn 9999 54 (.agg #[.int .u8 x, .int .u8 y, .int .u8 z]) (.agg #[.int .u8 x', .int .u8 y', .int .u8 z'])).run Tryz.prog w = .ok (x == x' && (y == y' && z == z')) w := by
  have hs : ∀ w, (sizeOf 5).run Tryz.prog w = .ok 1 w := fun w => by kernel_rfl
  have hi : ∀ (a b : Int) (w : World), (Op.equalIn 9998 5 (.int .u8 a) (.int .u8 b)).run Tryz.prog w = .ok (a == b) w := fun a b w => run_equalIn_int w 9997 5 .u8 .u8 a b Tryz.underlying5
  have hp : ∀ (a b c : Int) (w : World), (Go.part 5 #[.int .u8 a, .int .u8 b, .int .u8 c] 0).run Tryz.prog w = .ok (.int .u8 a) w ∧ (Go.part 5 #[.int .u8 a, .int .u8 b, .int .u8 c] 1).run Tryz.prog w = .ok (.int .u8 b) w ∧ (Go.part 5 #[.int .u8 a, .int .u8 b, .int .u8 c] 2).run Tryz.prog w = .ok (.int .u8 c) w := fun a b c w => ⟨by kernel_rfl, by kernel_rfl, by kernel_rfl⟩
  have h0 := fun a b c w => (hp a b c w).1
  have h1 := fun a b c w => (hp a b c w).2.1
  have h2 := fun a b c w => (hp a b c w).2.2
  unfold Op.equalIn
  simp only [Sem.run_bind, run_underlying Tryz.underlying54, Result.andThen_ok, hs, Std.Legacy.Range.forIn_eq_forIn_range', Std.Legacy.Range.size, List.range'_succ, List.forIn_cons]
  cases hx : (x == x') <;> cases hy : (y == y') <;> cases hz : (z == z') <;> simp [Sem.run_bind, hi, h0, h1, h2, hx, hy, hz]
/-- Whether two matrices have the same numbers. -/
def eqM (a b : Nat → Nat → Int) : Bool := (a 0 0 == b 0 0 && (a 0 1 == b 0 1 && a 0 2 == b 0 2)) && ((a 1 0 == b 1 0 && (a 1 1 == b 1 1 && a 1 2 == b 1 2)) && (a 2 0 == b 2 0 && (a 2 1 == b 2 1 && a 2 2 == b 2 2)))
theorem mpart (g : Nat → Nat → Int) (w : World) : (Go.part 54 #[.int .u8 (g 0 0), .int .u8 (g 0 1), .int .u8 (g 0 2), .int .u8 (g 1 0), .int .u8 (g 1 1), .int .u8 (g 1 2), .int .u8 (g 2 0), .int .u8 (g 2 1), .int .u8 (g 2 2)] 0).run Tryz.prog w = .ok (.agg #[.int .u8 (g 0 0), .int .u8 (g 0 1), .int .u8 (g 0 2)]) w := by kernel_rfl
theorem mpart1 (g : Nat → Nat → Int) (w : World) : (Go.part 54 #[.int .u8 (g 0 0), .int .u8 (g 0 1), .int .u8 (g 0 2), .int .u8 (g 1 0), .int .u8 (g 1 1), .int .u8 (g 1 2), .int .u8 (g 2 0), .int .u8 (g 2 1), .int .u8 (g 2 2)] 3).run Tryz.prog w = .ok (.agg #[.int .u8 (g 1 0), .int .u8 (g 1 1), .int .u8 (g 1 2)]) w := by kernel_rfl
theorem mpart2 (g : Nat → Nat → Int) (w : World) : (Go.part 54 #[.int .u8 (g 0 0), .int .u8 (g 0 1), .int .u8 (g 0 2), .int .u8 (g 1 0), .int .u8 (g 1 1), .int .u8 (g 1 2), .int .u8 (g 2 0), .int .u8 (g 2 1), .int .u8 (g 2 2)] 6).run Tryz.prog w = .ok (.agg #[.int .u8 (g 2 0), .int .u8 (g 2 1), .int .u8 (g 2 2)]) w := by kernel_rfl
theorem mat_eq (a b : Nat → Nat → Int) (w : World) :
    (Op.equalIn 10000 76 (.agg #[.int .u8 (a 0 0), .int .u8 (a 0 1), .int .u8 (a 0 2), .int .u8 (a 1 0), .int .u8 (a 1 1), .int .u8 (a 1 2), .int .u8 (a 2 0), .int .u8 (a 2 1), .int .u8 (a 2 2)]) (.agg #[.int .u8 (b 0 0), .int .u8 (b 0 1), .int .u8 (b 0 2), .int .u8 (b 1 0), .int .u8 (b 1 1), .int .u8 (b 1 2), .int .u8 (b 2 0), .int .u8 (b 2 1), .int .u8 (b 2 2)])).run Tryz.prog w = .ok (eqM a b) w := by
  have hs : ∀ w, (sizeOf 54).run Tryz.prog w = .ok 3 w := fun w => by kernel_rfl
  unfold Op.equalIn
  simp only [Sem.run_bind, run_underlying Tryz.underlying76, Result.andThen_ok, hs, Std.Legacy.Range.forIn_eq_forIn_range', Std.Legacy.Range.size, List.range'_succ, List.forIn_cons]
  unfold eqM
  generalize hx : (a 0 0 == b 0 0 && (a 0 1 == b 0 1 && a 0 2 == b 0 2)) = X
  generalize hy : (a 1 0 == b 1 0 && (a 1 1 == b 1 1 && a 1 2 == b 1 2)) = Y
  generalize hz : (a 2 0 == b 2 0 && (a 2 1 == b 2 1 && a 2 2 == b 2 2)) = Z
  cases X <;> cases Y <;> cases Z <;> simp [Sem.run_bind, mpart, mpart1, mpart2, row3_eq, hx, hy, hz]
end Go.Proofs.YtbhgbifliihlbaaGreat
namespace Go.Proofs.YtbhgbifliihlbaaGreat
open Go.RowKit Go.Sort EchM

theorem sprod_agg (p : Int) (n : Nat) (g h r : Nat → Nat → Int) (w : World) (hg : MatV p n g) (hh : MatV p n h) (hr : prodM p g h = r) :
    Calls Tryz.prog 55 #[.int .i64 p, .int .i64 (n : Int), (.agg #[.int .u8 (g 0 0), .int .u8 (g 0 1), .int .u8 (g 0 2), .int .u8 (g 1 0), .int .u8 (g 1 1), .int .u8 (g 1 2), .int .u8 (g 2 0), .int .u8 (g 2 1), .int .u8 (g 2 2)]), (.agg #[.int .u8 (h 0 0), .int .u8 (h 0 1), .int .u8 (h 0 2), .int .u8 (h 1 0), .int .u8 (h 1 1), .int .u8 (h 1 2), .int .u8 (h 2 0), .int .u8 (h 2 1), .int .u8 (h 2 2)])] w fun e w' => e = .returned (.agg #[.int .u8 (r 0 0), .int .u8 (r 0 1), .int .u8 (r 0 2), .int .u8 (r 1 0), .int .u8 (r 1 1), .int .u8 (r 1 2), .int .u8 (r 2 0), .int .u8 (r 2 1), .int .u8 (r 2 2)]) ∧ Below w.heap.size w w' := by
  subst hr; exact sprod p n g h w hg.h2 hg.h13 hg.bound hh.bound hg.m3 hg.out hh.out
theorem iprod_agg (p : Int) (n : Nat) (g h r : Nat → Nat → Int) (w : World) (hg : MatV p n g) (hh : MatV p n h) (hr : prodM p g h = r) :
    Calls Tryz.prog 89 #[.int .i64 p, (.agg #[.int .u8 (g 0 0), .int .u8 (g 0 1), .int .u8 (g 0 2), .int .u8 (g 1 0), .int .u8 (g 1 1), .int .u8 (g 1 2), .int .u8 (g 2 0), .int .u8 (g 2 1), .int .u8 (g 2 2)]), (.agg #[.int .u8 (h 0 0), .int .u8 (h 0 1), .int .u8 (h 0 2), .int .u8 (h 1 0), .int .u8 (h 1 1), .int .u8 (h 1 2), .int .u8 (h 2 0), .int .u8 (h 2 1), .int .u8 (h 2 2)])] w fun e w' => e = .returned (.agg #[.int .u8 (r 0 0), .int .u8 (r 0 1), .int .u8 (r 0 2), .int .u8 (r 1 0), .int .u8 (r 1 1), .int .u8 (r 1 2), .int .u8 (r 2 0), .int .u8 (r 2 1), .int .u8 (r 2 2)]) ∧ Below w.heap.size w w' := by
  subst hr; exact iprod p g h w hg.h2 hg.h13 hg.bound hh.bound
end Go.Proofs.YtbhgbifliihlbaaGreat
namespace Go.Proofs.YtbhgbifliihlbaaGreat
open Go.RowKit Go.Sort EchM

/-- Another block than the one that a matrix is stored into. -/
theorem mother {Z : World} {B B1 n : Nat} {t : TypeId} {F : Nat → Value} (hZ : Z.rowIs B t n F) (hne : B ≠ B1) (r : Nat → Nat → Int) : (((((((((Z.setCell ⟨B1, 0, none⟩ (.int .u8 (r 0 0))).setCell ⟨B1, 1, none⟩ (.int .u8 (r 0 1))).setCell ⟨B1, 2, none⟩ (.int .u8 (r 0 2))).setCell ⟨B1, 3, none⟩ (.int .u8 (r 1 0))).setCell ⟨B1, 4, none⟩ (.int .u8 (r 1 1))).setCell ⟨B1, 5, none⟩ (.int .u8 (r 1 2))).setCell ⟨B1, 6, none⟩ (.int .u8 (r 2 0))).setCell ⟨B1, 7, none⟩ (.int .u8 (r 2 1))).setCell ⟨B1, 8, none⟩ (.int .u8 (r 2 2))).rowIs B t n F := (((((((((hZ.setOther hne _).setOther hne _).setOther hne _).setOther hne _).setOther hne _).setOther hne _).setOther hne _).setOther hne _).setOther hne _)
def uM (n : Nat) (i j : Nat) : Int := if i = j ∧ i < n then 1 else 0
def pw (p : Int) (g : Nat → Nat → Int) : Nat → (Nat → Nat → Int)
  | 0 => g
  | 1 => g
  | k + 2 => prodM p (pw p g (k + 1)) g
theorem pw_next (p : Int) (g : Nat → Nat → Int) {k : Nat} (h : 1 ≤ k) : pw p g (k + 1) = prodM p (pw p g k) g := by
  obtain ⟨j, rfl⟩ : ∃ j, k = j + 1 := ⟨k - 1, by omega⟩
  rfl
def srch (p : Int) (g u : Nat → Nat → Int) : Nat → Nat → Nat
  | 0, _ => 0
  | f + 1, k => if eqM (pw p g k) u then k else srch p g u f (k + 1)
theorem srch_hit {p : Int} {g u : Nat → Nat → Int} {k : Nat} (h : k ≤ 3000) (he : eqM (pw p g k) u = true) : srch p g u (3001 - k) k = k := by
  rw [show 3001 - k = (3000 - k) + 1 by omega, srch, he]; rfl
theorem srch_miss {p : Int} {g u : Nat → Nat → Int} {k : Nat} (h : k ≤ 3000) (he : eqM (pw p g k) u = false) : srch p g u (3001 - k) k = srch p g u (3001 - (k + 1)) (k + 1) := by
  rw [show 3001 - k = (3001 - (k + 1)) + 1 by omega, srch, he]; rfl
theorem pw_ok {p : Int} {n : Nat} {g : Nat → Nat → Int} (h2 : 2 ≤ p) (hg : ∀ i, i < 3 → ∀ j, j < 3 → 0 ≤ g i j ∧ g i j < p) (ho : Out0 n g) : ∀ k, (∀ i, i < 3 → ∀ j, j < 3 → 0 ≤ pw p g k i j ∧ pw p g k i j < p) ∧ Out0 n (pw p g k)
  | 0 => ⟨hg, ho⟩
  | 1 => ⟨hg, ho⟩
  | k + 2 => ⟨fun i _ j _ => prodM_bound h2 _ _ i j, prodM_out (pw_ok h2 hg ho (k + 1)).2 ho⟩
/-- What 'OrderOfMatrix' gives. -/
def ordR (p n : Int) (g : Nat → Nat → Int) : Int × Int := if isMat p n g then (if srch p g (uM n.toNat) 3000 1 = 0 then (0, 3) else ((srch p g (uM n.toNat) 3000 1 : Int), 0)) else (0, 2)

set_option maxRecDepth 8000 in
set_option maxHeartbeats 4000000 in
theorem iunit (n : Nat) (u : Nat → Nat → Int) (w : World) (h1 : 1 ≤ n) (h3 : n ≤ 3) (hu : uM n = u) :
    Calls Tryz.prog 88 #[.int .i64 (n : Int)] w fun e w' => e = .returned (.agg #[.int .u8 (u 0 0), .int .u8 (u 0 1), .int .u8 (u 0 2), .int .u8 (u 1 0), .int .u8 (u 1 1), .int .u8 (u 1 2), .int .u8 (u 2 0), .int .u8 (u 2 1), .int .u8 (u 2 2)]) ∧ Below w.heap.size w w' := by
  subst hu
  have hn : n = 1 ∨ n = 2 ∨ n = 3 := by omega
  rcases hn with rfl | rfl | rfl
  all_goals
    simp only [uM]
    simp
    go_enter Tryz.func88, Tryz.ntmps88
    go_wp2
    refine wp_loop_rounds 4 ?_
    iterate 4 (try (rw [rounds_succ]; go_wp2))
  · exact bodyPost_ret (v := mv (uM 1)) (by simp [results, Tryz.results88, go_sem, mv, uM]) rfl ⟨by simp [mv, uM], ebox2 _ _ _⟩
  · exact bodyPost_ret (v := mv (uM 2)) (by simp [results, Tryz.results88, go_sem, mv, uM]) rfl ⟨by simp [mv, uM], ebox2 _ _ _⟩
  · exact bodyPost_ret (v := mv (uM 3)) (by simp [results, Tryz.results88, go_sem, mv, uM]) rfl ⟨by simp [mv, uM], ebox2 _ _ _⟩
set_option maxRecDepth 8000 in
set_option maxHeartbeats 4000000 in
theorem sunit (n : Nat) (u : Nat → Nat → Int) (w : World) (h1 : 1 ≤ n) (h3 : n ≤ 3) (hu : uM n = u) :
    Calls Tryz.prog 56 #[.int .i64 (n : Int)] w fun e w' => e = .returned (.agg #[.int .u8 (u 0 0), .int .u8 (u 0 1), .int .u8 (u 0 2), .int .u8 (u 1 0), .int .u8 (u 1 1), .int .u8 (u 1 2), .int .u8 (u 2 0), .int .u8 (u 2 1), .int .u8 (u 2 2)]) ∧ Below w.heap.size w w' := by
  subst hu
  have hn : n = 1 ∨ n = 2 ∨ n = 3 := by omega
  rcases hn with rfl | rfl | rfl
  all_goals
    simp only [uM]
    simp
    go_enter Tryz.func56, Tryz.ntmps56
    go_wp2
    refine wp_loop_rounds 4 ?_
    iterate 4 (try (rw [rounds_succ]; go_wp2))
  · exact bodyPost_ret (v := mv (uM 1)) (by simp [results, Tryz.results56, go_sem, mv, uM]) rfl ⟨by simp [mv, uM], ebox2 _ _ _⟩
  · exact bodyPost_ret (v := mv (uM 2)) (by simp [results, Tryz.results56, go_sem, mv, uM]) rfl ⟨by simp [mv, uM], ebox2 _ _ _⟩
  · exact bodyPost_ret (v := mv (uM 3)) (by simp [results, Tryz.results56, go_sem, mv, uM]) rfl ⟨by simp [mv, uM], ebox2 _ _ _⟩
end Go.Proofs.YtbhgbifliihlbaaGreat
