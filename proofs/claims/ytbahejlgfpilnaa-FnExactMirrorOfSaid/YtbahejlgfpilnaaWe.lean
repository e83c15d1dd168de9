/-
  WALKS: 'impl.eliminate'. Conditions: as the theorem states.
-/
import Derived.Test.YtbahejlgfpilnaaWd
import Derived.Test.YtbahejlgfpilnaaWs
import Derived.Test.YtbahejlgfpilnaaKz
import Derived.Deep.RegionWith
import Derived.Deep.RegionLaw
import Derived.Deep.DeepCutAuto
namespace Go.Proofs.Ytbahejlgfpilnaa
open Go.RowKit Go.Sort EchM

theorem wgrow {w0 A B : World} {b : Nat} (h : w0.grownBy A (some b)) (k : A.grownBy B (some b)) : w0.grownBy B (some b) :=
  ⟨k.os.trans h.os, k.tape.trans h.tape, k.output.trans h.output, Nat.le_trans h.size k.size, fun a ha hne => (k.block a (Nat.lt_of_lt_of_le ha h.size) hne).trans (h.block a ha hne)⟩
theorem wbelow {w0 A B : World} {b : Nat} (h : w0.grownBy A (some b)) (k : Below A.heap.size A B) : w0.grownBy B (some b) :=
  ⟨k.os.trans h.os, k.tape.trans h.tape, k.output.trans h.output, Nat.le_trans h.size k.size, fun a ha hne => (k.block a (Nat.lt_of_lt_of_le ha h.size)).trans (h.block a ha hne)⟩
theorem wcell {A B : World} {b a : Nat} {v : Value} (hg : A.grownBy B (some b)) (hne : a ≠ b) (h : A.cell? ⟨a, 0, none⟩ = some v) : B.cell? ⟨a, 0, none⟩ = some v :=
  (World.cell?_of_block (a := ⟨a, 0, none⟩) (hg.block a (block_lt_of_cell h) (by simpa using hne))).trans h

set_option maxHeartbeats 1000000 in
theorem iwidx_zero (b off cap B : Nat) (w : World) :
    Calls Try.prog 212 #[.slice (some ⟨b, off, none⟩) 0 cap, leadsF B] w fun e w' => e = .returned (.int .i64 (-1)) ∧ Below w.heap.size w w' := by
  go_enter Try.func212, Try.ntmps212
  go_wp2
  refine wp_loop_rounds 1 ?_
  rw [rounds_succ]
  go_wp2
  go_ret
  exact ⟨rfl, Below.refl _ _⟩

theorem invmod_still (p x : Int) (w : World) (h2 : 2 ≤ p) (h13 : p ≤ 13) (hx : 0 ≤ x ∧ x < p) :
    Calls Try.prog 214 #[.int .i64 p, .int .i64 x] w fun e w' => e = .returned (.int .i64 (epowI p x (p - 2).toNat)) ∧ w' = w :=
  (invmod p x w h2 h13 hx).mono fun _ _ ⟨he, hw⟩ => ⟨he, hw.symm⟩
theorem row_num {p : Int} {N n i : Nat} {G : Nat → Int} (hi : i < N) (h : ∀ i, i < N → ∀ j, j < n → 0 ≤ tG G i j ∧ tG G i j < p) : ∀ q, i * 100 ≤ q → q < i * 100 + n → 0 ≤ G q ∧ G q < p := fun q h1 h2 => by
  have := h i hi (q - i * 100) (by omega)
  unfold tG at this
  rwa [show i * 100 + (q - i * 100) = q by omega] at this
theorem paT_num {p : Int} (hp : 2 ≤ p) {N n R c k : Nat} {T : Nat → Nat → Int} (h : ∀ i, i < N → ∀ j, j < n → 0 ≤ T i j ∧ T i j < p) : ∀ i, i < N → ∀ j, j < n → 0 ≤ paT p R c k T i j ∧ paT p R c k T i j < p := fun i hi j hj => by
  unfold paT
  split
  · exact ⟨Int.emod_nonneg _ (by omega), Int.emod_lt_of_pos _ (by omega)⟩
  · exact h i hi j hj

set_option maxRecDepth 8000 in
set_option maxHeartbeats 16000000 in
theorem ielim (p : Int) (n N b M cap : Nat) (G : Nat → Int) (w : World) (hp : PrimeS p) (hn : n ≤ 100) (hN : N ≤ 100) (hcap : N ≤ cap) (hM : N * 100 ≤ M) (hr : w.rowIs b 160 M (gV G)) (hG : ∀ i, i < N → ∀ j, j < n → 0 ≤ tG G i j ∧ tG G i j < p) :
    Calls Try.prog 146 #[.int .i64 p, .int .i64 n, .slice (some ⟨b, 0, none⟩) N cap] w fun e w' => ∃ R G', e = .returned (.slice (some ⟨b, 0, none⟩) R cap) ∧ R ≤ N ∧ w'.rowIs b 160 M (gV G') ∧ (List.range R).map (fun i => rowF n (tG G' i)) = echL p ((List.range N).map fun i => rowF n (tG G i)) ∧ w.grownBy w' (some b) := by
  obtain ⟨h2, h13⟩ := hp.le
  have hmf : ∀ (fn : Fn) (first cap : Array Value) (w : World), (Instr.makeFunc fn first cap).run Try.prog w = .ok (.func fn first cap) w := fun _ _ _ _ => rfl
  have hbl := hr.lt
  have HDN := Lib.hid (fun (T : Nat → Nat → Int) R ld (h : Elim p N n (tG G) T R n ld) => h.done hp hG)
  have hst := Lib.hid (Elim.start hG)
  clear hG
  go_enter Try.func146, Try.ntmps146
  go_wp2_with fail
  go_loopw [7, 13] (fun r i wr => ∃ (c R : Nat) (G' : Nat → Int) (ld : Nat → Nat), c ≤ n ∧ r = .int .i64 R ∧ i = .int .i64 c ∧ wr.rowIs b 160 M (gV G') ∧ Hid (Elim p N n (tG G) (tG G') R c ld) ∧ w.grownBy wr (some b)) (fun _ i _ => n - (intOf i).toNat)
  case atStart => exact ⟨0, 0, G, _, by omega, rfl, rfl, hr, hst, ⟨rfl, rfl, rfl, Nat.le_refl _, fun _ _ _ => rfl⟩⟩
  case round =>
    clear hr hst
    obtain ⟨c, R, G', ld, hc, rfl, rfl, hR, HE, hg⟩ := hrel
    have hRN := HE.out.le
    by_cases hlt : c < n
    · have hlt' : (c : Int) < (n : Int) := by omega
      have hc100 : c < 100 := by omega
      obtain ⟨V, hV, hbV, rB, ⟨hVs1, hVs2⟩⟩ : ∃ V, V = wr.alloc (.cells #[.int .i64 c] 2) ∧ Below wr.heap.size wr V ∧ V.rowIs wr.heap.size 2 1 (fun _ => .int .i64 c) ∧ (V.heap.size ≤ wr.heap.size + 1 ∧ wr.heap.size + 1 ≤ V.heap.size) := ⟨_, rfl, ebox1 _ _, World.rowIs_alloc wr #[_] _ _ (fun i hi => by simp at hi; subst hi; rfl), ⟨by simp, by simp⟩⟩
      have hRV := erow_below hR hbV hR.lt
      have hB := rB.cell (i := 0) (by omega)
      have hgV := wbelow hg hbV
      have hbwr : b < wr.heap.size := hR.lt
      obtain ⟨off, hsl, hoff⟩ := wide_drop b N cap R hRN hN hcap
      rcases first_ne (fun i => tG G' (R + i) c) (N - R) with hall | ⟨j, hj, hne, hbef⟩
      · have HN : Hid (Calls Try.prog 212 #[.slice (some ⟨b, off, none⟩) (N - R) (cap - R), leadsF wr.heap.size] V fun e w' => e = .returned (.int .i64 (-1)) ∧ Below V.heap.size V w') := Lib.hid (by
          by_cases h0 : R < N
          · rw [hoff h0]
            exact iwidx_none G' b (R * 100) (N - R) (cap - R) c wr.heap.size M V hB hc100 (by omega) (by omega) hRV (fun i hi => by have := hall i hi; unfold tG at this; rw [show R * 100 + i * 100 + c = (R + i) * 100 + c by omega]; exact this)
          · have h1 : N - R = 0 := by omega
            rw [h1]
            exact iwidx_zero b off (cap - R) wr.heap.size V)
        have HE2 : Hid (Elim p N n (tG G) (tG G') R (c + 1) ld) := Lib.hid (HE.out.skip (fun i h1 h2 => by have := hall (i - R) (by omega); rwa [show R + (i - R) = i by omega] at this))
        clear hall HE
        go_upto_region 6 with fail
        rw [← hV]
        clear hV
        go_wp2_with fail
        ((with_reducible refine HN.out.mono ?_); rintro e w1 ⟨rfl, hb1⟩)
        have hR1 := erow_below hRV hb1 hRV.lt
        have hg1 := wbelow hgV hb1
        clear hsl
        go_wp2_with fail
        go_roundw
        case rel => exact ⟨c + 1, R, G', ld, by omega, rfl, by go_num, hR1, HE2, hg1⟩
        case measure => simp [intOf]; omega
      · have h0 : R < N := by omega
        obtain rfl := hoff h0
        have HN := Lib.hid (iwidx_some G' b (R * 100) (N - R) (cap - R) c wr.heap.size M V hB hc100 (by omega) (by omega) hRV j hj (by have := hne; unfold tG at this; rw [show R * 100 + j * 100 + c = (R + j) * 100 + c by omega]; exact this) (fun i hi => by have := hbef i hi; unfold tG at this; rw [show R * 100 + i * 100 + c = (R + i) * 100 + c by omega]; exact this))
        go_upto_region 6 with fail
        rw [← hV]
        clear hV
        go_wp2_with fail
        ((with_reducible refine HN.out.mono ?_); rintro e w1 ⟨rfl, hb1⟩)
        have hR1 := erow_below hRV hb1 hRV.lt
        have hg1 := wbelow hgV hb1
        have hB1 := (hb1.cell (p := ⟨wr.heap.size, 0, none⟩) rB.lt).trans hB
        clear hsl HN hRV hgV hB hb1 rB
        obtain ⟨q, hq⟩ : ∃ q, R + j = q := ⟨_, rfl⟩
        have hqN : q < N := by omega
        have hRq : R ≤ q := by omega
        have hw : IntKind.i64.wrap ((R : Int) + (j : Int)) = (q : Int) := by rw [← hq]; exact IntWalk.i64_in _ (by omega)
        have hx : tG G' q c ≠ 0 := by rw [← hq]; exact hne
        have hqi : (q : Int) < (N : Int) := by omega
        have hRi : (R : Int) < (N : Int) := by omega
        have hwrs : wr.heap.size < w1.heap.size := block_lt_of_cell hB1
        clear hq hj hne hbef hoff hVs1 hVs2 hbV
        have HL1 := Lib.hid (tab_range (w := w1.drew) (o := q * 100) hR1 (by omega))
        have HL2 := Lib.hid (tab_range (w := w1.drew) (o := R * 100) hR1 (by omega))
        have hR2 := cp_row (o := R * 100) (o2 := q * 100) (G2 := G') (w := w1.drew) hR1
        have HT1 := Lib.hid (tab_there (w := w1.drew) (o := R * 100) hR1 (by omega))
        have HT2 := Lib.hid (tab_there (o := q * 100) hR2 (by omega))
        have hR3 := cp_row (o := q * 100) (o2 := R * 100) (G2 := G') hR2
        have hg2 := cp_grown (rowV G' (q * 100)) (R * 100) w1.drew (w0 := w1) (b := b) ⟨rfl, rfl, rfl, Nat.le_refl _, fun _ _ _ => rfl⟩
        have hg3 := cp_grown (rowV G' (R * 100)) (q * 100) _ hg2
        obtain ⟨W3, hW3⟩ : ∃ W3, (w1.drew.setCells b (R * 100) (rowV G' (q * 100))).setCells b (q * 100) (rowV G' (R * 100)) = W3 := ⟨_, rfl⟩
        rw [hW3] at hR3 hg3
        have HS3 := Lib.hid hR3
        have HG3 := Lib.hid hg3
        obtain ⟨W2, hW2⟩ : ∃ W2, w1.drew.setCells b (R * 100) (rowV G' (q * 100)) = W2 := ⟨_, rfl⟩
        rw [hW2] at hW3 HT2
        have HW2 := Lib.hid hW2
        have HW3 := Lib.hid hW3
        clear hW2 hW3 hR2 hR3 hg2 hg3
        go_wp2_with fail
        go_cut [] (fun wx => wx = W3)
        case first =>
          refine wp_region_any (by kernel_rfl) ?_
          refine wpAny_take (i := 0) (v := .slice (some ⟨b, 0, none⟩) N cap) rfl (by kernel_rfl) (by kernel_rfl) (by kernel_rfl) (fun _ _ _ h => h) (Or.inl ⟨by rfl, fun w => (by go_simp)⟩) ?_
          refine wpAny_take (i := 1) (v := .int .i64 (R : Int)) rfl (by kernel_rfl) (by kernel_rfl) (by kernel_rfl) (fun _ _ _ h => h) (Or.inl ⟨by rfl, fun w => (by go_simp)⟩) ?_
          refine wpAny_take (i := 2) (v := .slice (some ⟨b, 0, none⟩) N cap) rfl (by kernel_rfl) (by kernel_rfl) (by kernel_rfl) (fun _ _ _ h => h) (Or.inl ⟨by rfl, fun w => (by go_simp)⟩) ?_
          refine wpAny_take (i := 3) (v := .int .i64 (R : Int)) rfl (by kernel_rfl) (by kernel_rfl) (by kernel_rfl) (fun _ _ _ h => h) (Or.inl ⟨by rfl, fun w => (by go_simp)⟩) ?_
          refine wpAny_take (i := 4) (v := .int .i64 (j : Int)) rfl (by kernel_rfl) (by kernel_rfl) (by kernel_rfl) (fun _ _ _ h => h) (Or.inl ⟨by rfl, fun w => (by go_simp)⟩) ?_
          refine wpAny_take (i := 5) (v := .int .i64 (q : Int)) rfl (by kernel_rfl) (by kernel_rfl) (by kernel_rfl) (fun _ _ _ h => h) (Or.inl ⟨by rfl, fun w => (by go_simp)⟩) ?_
          refine wpAny_take (i := 6) (v := .slice (some ⟨b, 0, none⟩) N cap) rfl (by kernel_rfl) (by kernel_rfl) (by kernel_rfl) (fun _ _ _ h => h) (Or.inl ⟨by rfl, fun w => (by go_simp)⟩) ?_
          refine wpAny_take (i := 7) (v := .int .i64 (R : Int)) rfl (by kernel_rfl) (by kernel_rfl) (by kernel_rfl) (fun _ _ _ h => h) (Or.inl ⟨by rfl, fun w => (by go_simp)⟩) ?_
          refine wpAny_take (i := 8) (v := .int .i64 (j : Int)) rfl (by kernel_rfl) (by kernel_rfl) (by kernel_rfl) (fun _ _ _ h => h) (Or.inl ⟨by rfl, fun w => (by go_simp)⟩) ?_
          refine wpAny_take (i := 9) (v := .int .i64 (q : Int)) rfl (by kernel_rfl) (by kernel_rfl) (by kernel_rfl) (fun _ _ _ h => h) (Or.inl ⟨by rfl, fun w => (by go_simp)⟩) ?_
          refine wpAny_take (i := 10) (v := .pointer (some ⟨b, q * 100, none⟩)) rfl (by kernel_rfl) (by kernel_rfl) (by kernel_rfl) (fun _ _ _ h => h) (Or.inl ⟨by rfl, fun w => (by go_simp)⟩) ?_
          refine wpAny_take (i := 12) (v := .slice (some ⟨b, 0, none⟩) N cap) rfl (by kernel_rfl) (by kernel_rfl) (by kernel_rfl) (fun _ _ _ h => h) (Or.inl ⟨by rfl, fun w => (by go_simp)⟩) ?_
          refine wpAny_take (i := 13) (v := .int .i64 (R : Int)) rfl (by kernel_rfl) (by kernel_rfl) (by kernel_rfl) (fun _ _ _ h => h) (Or.inl ⟨by rfl, fun w => (by go_simp)⟩) ?_
          refine wpAny_take (i := 14) (v := .pointer (some ⟨b, R * 100, none⟩)) rfl (by kernel_rfl) (by kernel_rfl) (by kernel_rfl) (fun _ _ _ h => h) (Or.inl ⟨by rfl, fun w => (by go_simp)⟩) ?_
          refine any_rows (i := 11) (k := 15) 35 39 34 38 160 b (q * 100) (R * 100) (rowV G' (q * 100)) (rowV G' (R * 100)) _ (by kernel_rfl) (by decide) (by decide) (by decide) (by decide) (by kernel_rfl) (by kernel_rfl) rfl rfl rfl rfl rfl rfl rfl rfl Try.underlying160 rfl (by kernel_rfl) (by kernel_rfl) HL1.out HL2.out (wide_size G' _) (wide_size G' _) ?_
          refine wpAny_take (i := 16) (v := .pointer (some ⟨b, R * 100, none⟩)) rfl (by kernel_rfl) (by kernel_rfl) (by kernel_rfl) (fun _ _ _ h => h) (Or.inl ⟨by rfl, fun w => (by go_simp)⟩) ?_
          refine any_store (i := 17) 40 35 160 b (R * 100) (rowV G' (q * 100)) (by kernel_rfl) rfl rfl rfl rfl (by kernel_rfl) (by kernel_rfl) (by rw [rowV_len]; exact HT1.out) (wide_size G' _) (rowV_one G' _) HW2.out ?_
          refine wpAny_take (i := 18) (v := .pointer (some ⟨b, q * 100, none⟩)) rfl (by kernel_rfl) (by kernel_rfl) (by kernel_rfl) (fun _ _ _ h => h) (Or.inl ⟨by rfl, fun w => (by go_simp)⟩) ?_
          refine any_store (i := 19) 41 39 160 b (q * 100) (rowV G' (R * 100)) (by kernel_rfl) rfl rfl rfl rfl (by kernel_rfl) (by kernel_rfl) (by rw [rowV_len]; exact HT2.out) (wide_size G' _) (rowV_one G' _) HW3.out ?_
          refine wpAny_done (by kernel_rfl) ?_ _
          go_wp2_with fail
          go_simp
          go_meet
          case rel => exact rfl
        case rest =>
        obtain rfl : W3 = wc := hcut.symm
        obtain ⟨G1, hG1⟩ : ∃ G1, cpG (q * 100) (R * 100) G' (cpG (R * 100) (q * 100) G' G') = G1 := ⟨_, rfl⟩
        rw [hG1] at HS3
        have HE1 : Hid (Elim p N n (tG G) (tG G1) R c ld) := Lib.hid ((HE.out.swap hRq hqN).congr (by omega) (fun i _ j hj => by rw [← hG1]; exact swap_tab G' R q i j (by omega)))
        obtain ⟨x, hx1⟩ : ∃ x, tG G' q c = x := ⟨_, rfl⟩
        have hxR : tG G1 R c = x := by
          have := swap_tab G' R q R c (by omega)
          rw [hG1] at this
          unfold swaT at this
          rwa [if_pos rfl, hx1] at this
        obtain ⟨x0, xp⟩ := HE.out.num q hqN c hlt
        rw [hx1] at hx x0 xp
        have hxpos : 0 < x := by omega
        obtain ⟨kk, hkk⟩ : ∃ kk, epowI p x (p - 2).toNat = kk := ⟨_, rfl⟩
        have hk1 : x * kk % p = 1 := by rw [← hkk]; exact epow_inv hp hxpos xp
        have hks : 0 ≤ kk ∧ kk < p := by rw [← hkk]; exact epowI_small h2 _
        have HI := invmod_still p x W3.drew h2 h13 ⟨x0, xp⟩
        rw [hkk] at HI
        have HIh := Lib.hid HI
        have hneB : wr.heap.size ≠ b := by omega
        have hB3 := wcell HG3.out hneB hB1
        have hg3w := wgrow hg1 HG3.out
        have hcell : W3.cell? ⟨b, R * 100 + c, none⟩ = some (.int .i64 x) := by
          have := HS3.out.cell (i := R * 100 + c) (by omega)
          unfold gV at this
          unfold tG at hxR
          rwa [hxR] at this
        have HSC := Lib.hid (iscale p kk n b (R * 100) M G1 W3.drew h2 h13 ⟨hks.1, by omega⟩ hn (by omega) (row_num h0 HE1.out.num) HS3.out)
        obtain ⟨G2, hG2⟩ : ∃ G2, scaG p (R * 100) n kk G1 = G2 := ⟨_, rfl⟩
        rw [hG2] at HSC
        have hsc := HE1.out.scale h2 h0 hk1 hxR
        have htG2 : ∀ i, ∀ j, j < n → tG G2 i j = scaT p R kk (tG G1) i j := fun i j hj => by rw [← hG2]; exact scale_tab p n R kk G1 i j hj hn
        have HE2 : Hid (Elim p N n (tG G) (tG G2) R c ld) := Lib.hid (hsc.1.congr (by omega) fun i _ j hj => htG2 i j hj)
        have HO2 : Hid (tG G2 R c = 1) := Lib.hid ((htG2 R c hlt).trans hsc.2)
        have hc100i : (c : Int) < 100 := by omega
        have hH2 := Lib.hid hp
        clear hG1 hx1 hxR hkk hk1 HI hG2 hsc htG2 HE HE1 HS3 HT1 HT2 HL1 HL2 HW2 HW3 HG3 hp hB1 hR1 hR hg1
        go_wp2_with fail
        refine region_tail 13 (by kernel_rfl) (by kernel_rfl) ?_
        simp only [List.take_succ_cons, List.take_zero, List.drop_succ_cons, List.drop_zero]
        repeat still_step
        still_call HIh.out
        repeat still_step
        refine wpStill_nil ?_
        go_wp2_with fail
        ((with_reducible refine HSC.out.mono ?_); rintro e w5 ⟨rfl, hR5, hg5⟩)
        have hB5 := wcell (A := W3) (b := b) ⟨hg5.os, hg5.tape, hg5.output, hg5.size, hg5.block⟩ hneB hB3
        have hg5w : w.grownBy w5 (some b) := wgrow hg3w ⟨hg5.os, hg5.tape, hg5.output, hg5.size, hg5.block⟩
        clear HSC HIh hg5 hcell hg3w hB3
        have HP0 : Hid (∀ i, ∀ j, j < n → tG G2 i j = paT p R c 0 (tG G2) i j) := Lib.hid (fun i j _ => by rw [paT_zero])
        go_wp2_with fail
        go_loopw [58] (fun i wq => ∃ (k : Nat) (Gk : Nat → Int), k ≤ N ∧ i = .int .i64 k ∧ Hid (∀ i, ∀ j, j < n → tG Gk i j = paT p R c k (tG G2) i j) ∧ wq.rowIs b 160 M (gV Gk) ∧ w5.grownBy wq (some b)) (fun i _ => N - (intOf i).toNat)
        case atStart => exact ⟨0, G2, by omega, rfl, HP0, hR5, ⟨rfl, rfl, rfl, Nat.le_refl _, fun _ _ _ => rfl⟩⟩
        case round =>
          obtain ⟨k, Gk, hk, rfl, HP, hRk, hgk⟩ := hrel
          have hBk := wcell hgk hneB hB5
          have hgkw := wgrow hg5w hgk
          by_cases hkN : k < N
          · have hkNi : (k : Int) < (N : Int) := by omega
            by_cases hkR : R = k
            · subst hkR
              have HP2 : Hid (∀ i, ∀ j, j < n → tG Gk i j = paT p R c (R + 1) (tG G2) i j) := Lib.hid (fun i j hj => by rw [paT_skip]; exact HP.out i j hj)
              clear HP
              go_wp2_with fail
              go_roundw
              case rel => exact ⟨R + 1, Gk, by omega, by go_num, HP2, hRk, hgk⟩
              case measure => simp [intOf]; omega
            · have hkRi : ¬ ((k : Int) = (R : Int)) := by omega
              have hkRb : ((k : Int) == (R : Int)) = false := by simpa using hkRi
              have hkRb2 : ((k : Int) != (R : Int)) = true := by simpa using hkRi
              obtain ⟨y, hy⟩ : ∃ y, tG Gk k c = y := ⟨_, rfl⟩
              have hnum : ∀ i, i < N → ∀ j, j < n → 0 ≤ tG Gk i j ∧ tG Gk i j < p := fun i hi j hj => by
                rw [HP.out i j hj]; exact paT_num h2 HE2.out.num i hi j hj
              obtain ⟨y0, yp⟩ := hnum k hkN c hlt
              rw [hy] at y0 yp
              have hcell : wr.cell? ⟨b, k * 100 + c, none⟩ = some (.int .i64 y) := by
                have := hRk.cell (i := k * 100 + c) (by omega)
                unfold gV at this
                unfold tG at hy
                rwa [hy] at this
              have hwy : IntKind.i64.wrap (p - y) = p - y := IntWalk.i64_in _ (by omega)
              have HA := Lib.hid (iaddRow p (p - y) n b (k * 100) (R * 100) M Gk wr.drew h2 h13 (by omega) hn (by omega) (by omega) (by omega) (row_num hkN hnum) (row_num h0 hnum) hRk)
              obtain ⟨Gn, hGn⟩ : ∃ Gn, addG p (k * 100) (R * 100) n (p - y) Gk = Gn := ⟨_, rfl⟩
              rw [hGn] at HA
              have HP2 : Hid (∀ i, ∀ j, j < n → tG Gn i j = paT p R c (k + 1) (tG G2) i j) := Lib.hid (fun i j hj => by
                rw [← hGn, ← hy]
                exact add_tab hn hlt (fun e => hkR e.symm) HP.out i j hj)
              clear hGn hnum hy HP
              go_wp2_with fail
              refine region_tail 16 (by kernel_rfl) (by kernel_rfl) ?_
              simp only [List.take_succ_cons, List.take_zero, List.drop_succ_cons, List.drop_zero]
              repeat still_step
              refine wpStill_nil ?_
              try simp only [hwy]
              go_wp2_with fail
              ((with_reducible refine HA.out.mono ?_); rintro e w6 ⟨rfl, hR6, hg6⟩)
              have hg6w := wgrow hgk ⟨hg6.os, hg6.tape, hg6.output, hg6.size, hg6.block⟩
              go_wp2_with fail
              go_roundw
              case rel => exact ⟨k + 1, Gn, by omega, by go_num, HP2, hR6, hg6w⟩
              case measure => simp [intOf]; omega
          · obtain rfl : k = N := by omega
            have HE4 : Hid (Elim p k n (tG G) (tG Gk) (R + 1) (c + 1) (fun i => if i = R then c else ld i)) := Lib.hid ((HE2.out.add h2 h0 hlt HO2.out).congr (by omega) (fun i hi j hj => by rw [HP.out i j hj]; exact paT_all hi j))
            clear HE2 HP
            go_wp2_with fail
            go_roundw
            case rel => exact ⟨c + 1, R + 1, Gk, _, by omega, by go_num, by go_num, hRk, HE4, hgkw⟩
            case measure => simp [intOf]; omega
    · obtain rfl : c = n := by omega
      have hsl := wide_take b N cap R hRN hcap wr
      have HX := Lib.hid (HDN.out _ _ _ HE.out)
      go_wp2_with fail
      go_ret
      exact ⟨R, G', rfl, hRN, hR, HX.out, hg⟩
end Go.Proofs.Ytbahejlgfpilnaa
