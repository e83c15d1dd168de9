/-
  ORBITS of points: the model's walk. Conditions: the numbers of the matrices are bytes.
-/
import Derived.Test.YtabfdohmgmdgeaaUb
import Derived.Test.YtabfdohmgmdgeaaMg
namespace Go.Proofs.Ytabfdohmgmdgeaa
open Go.RowKit Go.Sort EchM

theorem own_succ' {W : World} {base : Nat} {e : TypeId} {size : Nat} {v : Value} {k : Nat} {xs : List Value} (h : W.ownsRow base e size v (k + 1) xs) : ∃ g cap, v = .slice (some ⟨g, 0, none⟩) (k + 1) cap := by
  obtain ⟨g, cap, hv, _⟩ := World.ownsRow.form h (by omega)
  exact ⟨g, cap, hv⟩
theorem one_cons {x7 : Option Addr} {m c7 : Nat} {Dv : List Value} (h : ∀ u ∈ Dv, u.oneCell' = true) : ∀ u ∈ Value.slice x7 m c7 :: Dv, u.oneCell' = true := fun u hu => by
  rcases List.mem_cons.1 hu with rfl | hu
  · rfl
  · exact h u hu
theorem orb_put {m k q : Nat} {L : List (Nat → Nat → Int)} {F : (Nat → Nat → Int) → List Int} {D : List Int} {v : Value} {O : List Row} (h : IsOrb ((L.take k).map F) (O.map (·.2))) (hn : ∀ x, (F x).length = m) (hD : D.length = m) (hT : (L.take (k + 1)).map F = (L.take k).map F ++ [D]) (hq : q ≤ O.length)
    (hlo : ∀ (i : Nat) (hi : i < O.length), i < q → cmpI O[i].2 D = -1) (hat : ∀ (h : q < O.length), cmpI O[q].2 D ≠ -1) (hne : ∀ (h : q < O.length), cmpI O[q].2 D ≠ 0) : IsOrb ((L.take (k + 1)).map F) ((O.take q ++ ((v, D) : Row) :: O.drop q).map (·.2)) := by
  rw [hT]
  have := h.step (n := m) (x := D) (k := q) (fun y hy => by obtain ⟨x, _, rfl⟩ := List.mem_map.1 hy; exact hn x) hD (by simpa using hq) (fun i hi hik => by rw [List.getElem_map]; exact hlo i (by simpa using hi) hik) (fun hk => by rw [List.getElem_map]; exact hat (by simpa using hk)) (fun hk => by rw [List.getElem_map]; exact hne (by simpa using hk))
  simpa [List.map_take, List.map_drop] using this
theorem row_put {wy : World} {O : List Row} {v : Value} {D : List Int} {q : Nat} (h : ∀ e ∈ O, Sl wy e.1 e.2) (hD : Sl wy v D) : ∀ w', Below wy.heap.size wy w' → ∀ e ∈ O.take q ++ ((v, D) : Row) :: O.drop q, Sl w' e.1 e.2 := fun w' hb e he => by
  rcases List.mem_append.1 he with he | he
  · exact (h e (List.mem_of_mem_take he)).below hb
  · rcases List.mem_cons.1 he with rfl | he
    · exact hD.below hb
    · exact (h e (List.mem_of_mem_drop he)).below hb
/-- What stands in memory while an orbit grows. -/
structure OPart (w wr : World) (p n : Int) (va sv : Value) (O : List Row) : Prop where
  arg : wr.rowIs w.heap.size 31 3 (grpF p n va)
  rows : wr.ownsRow w.heap.size 25 1 sv O.length (O.map (·.1))
  each : ∀ e ∈ O, Sl wr e.1 e.2
  below : Below w.heap.size w wr
theorem OPart.rows' {w wr : World} {p n : Int} {va sv : Value} {O : List Row} (h : OPart w wr p n va sv O) : OwnHv wr w.heap.size sv (O.map (·.1)) := by
  unfold OwnHv; rw [List.length_map]; exact h.rows
theorem OPart.later {w wr w1 : World} {p n : Int} {va sv : Value} {O : List Row} (h : OPart w wr p n va sv O) (hb : Below wr.heap.size wr w1) : OPart w w1 p n va sv O :=
  ⟨erow_below h.arg hb h.arg.lt, eowns_below h.rows hb, fun e he => (h.each e he).below hb, h.below.trans (hb.mono h.below.size)⟩
theorem OPart.put {w wr : World} {p n : Int} {va sv sv' : Value} {O O' : List Row} (h : OPart w wr p n va sv O) (h1 : OwnHv wr w.heap.size sv' (O'.map (·.1))) (h2 : ∀ e ∈ O', Sl wr e.1 e.2) : OPart w wr p n va sv' O' :=
  ⟨h.arg, by unfold OwnHv at h1; rwa [List.length_map] at h1, h2, h.below⟩
theorem OPart.header {w wr : World} {p n : Int} {va : Value} {g sc : Nat} {O : List Row} (h : OPart w wr p n va (.slice (some ⟨g, 0, none⟩) O.length sc) O) {q : Nat} (hq : q < O.length) : wr.cell? ⟨g, q, none⟩ = some O[q].1 := by
  obtain ⟨a, c, hv, h' | ⟨b, off, ha, _, hT⟩⟩ := h.rows'.slice
  · simp at h'; subst h'; simp at hq
  · simp only [Value.slice.injEq] at hv
    obtain ⟨hva, _, _⟩ := hv
    rw [← hva] at ha
    cases ha
    have := hT q (by simpa using hq)
    rwa [Nat.zero_add, List.getElem_map] at this

set_option maxRecDepth 8000 in
set_option maxHeartbeats 16000000 in
theorem sorbit (p : Int) (m : Nat) (v u : Value) (L : List (Nat → Nat → Int)) (pt : List Int) (w : World) (hl : L.length ≤ 48) (hS : SlM w v L) (m1 : 1 ≤ m) (m3 : m ≤ 3) (hmv : ∀ x ∈ L, MatV p m x) (hpt : pt.length = m) (hpp : ∀ k, k < m → 0 ≤ nth pt k ∧ nth pt k < p) (hU : Sl w u pt) :
    Calls Try.prog 28 #[.agg #[.int .i64 p, .int .i64 (m : Int), v], u] w fun e w' => ∃ v' S, e = .returned v' ∧ IsOrb (L.map fun x => leadL p m x pt) S ∧ SlR w' v' S ∧ Below w.heap.size w w' := by
  obtain ⟨W, hW, hst⟩ : ∃ W, W = (w.alloc (.cells #[.int .i64 p, .int .i64 (m : Int), v] 31)).alloc (.cells #[] 25) ∧ OPart w W p m v (.slice (some ⟨w.heap.size + 1, 0, none⟩) 0 0) [] := by
    refine ⟨_, rfl, (gbox w p m v _).alloc _, ?_, fun e he => by simp at he, ebox2 _ _ _⟩
    have := own_zeroV (w.alloc (.cells #[.int .i64 p, .int .i64 (m : Int), v] 31))
    rw [World.size_alloc] at this
    exact owns_mono this (Nat.le_succ _)
  obtain ⟨a, cap, rfl, hSc⟩ := id hS
  obtain ⟨F, hF⟩ : ∃ F, (fun x => leadL p m x pt) = F := ⟨_, rfl⟩
  have HFx := Lib.hid (fun x => (congrFun hF x).symm)
  have HLM : Hid (∀ x, (F x).length = m) := Lib.hid (fun x => by rw [← hF]; exact leadL_len _ _ _ _)
  have HMV := Lib.hid hmv
  have HPP := Lib.hid hpp
  have HPT := Lib.hid hpt
  rw [hF]
  clear hmv hpp hpt hF
  go_enter Try.func28, Try.ntmps28
  go_wp2_with fail
  rw [← hW]
  clear hW
  go_loopw [5, 6] (fun s i wr => ∃ (k g sc : Nat) (O : List Row), k ≤ L.length ∧ s = .slice (some ⟨g, 0, none⟩) O.length sc ∧ i = .int .i64 k ∧ Hid (IsOrb ((L.take k).map F) (O.map (·.2))) ∧ O.length ≤ k ∧ OPart w wr p m (.slice a L.length cap) (.slice (some ⟨g, 0, none⟩) O.length sc) O) (fun _ i _ => L.length - (intOf i).toNat)
  case atStart => exact ⟨0, _, _, [], by omega, rfl, rfl, Lib.hid IsOrb.nil, by simp, hst⟩
  case round =>
    clear hst
    obtain ⟨k, g, sc, O, hk, rfl, rfl, HO, hO, hB⟩ := hrel
    obtain ⟨g0, g1, g2⟩ := gcells hB.arg
    by_cases hlt : k < L.length
    · have hlt' : (k : Int) < (L.length : Int) := by omega
      obtain ⟨b, off, rfl, hbb, hT⟩ : ∃ b off, a = some ⟨b, off, none⟩ ∧ b < w.heap.size ∧ MatsW w b off L := by
        rcases hSc with rfl | h
        · simp at hlt
        · exact h
      obtain ⟨⟨a0, a1, a2⟩, ⟨a3, a4, a5⟩, a6, a7, a8⟩ := (hT.below hB.below hbb).nine hlt
      have hxv := HMV.out _ (List.getElem_mem hlt)
      have hTT := List.take_succ_eq_append_getElem hlt
      have HT0 := Lib.hid (show (L.take (k + 1)).map F = (L.take k).map F ++ [F L[k]] by rw [hTT, List.map_append]; rfl)
      clear hTT
      generalize L[k] = x at *
      have hUr : Sl wr.drew u pt := (hU.below hB.below).below (Below.refl _ _).drew
      have HLEAD := Lib.hid (fun w' (h' : Sl w' u pt) => slead p m x u pt w' hxv HPT.out HPP.out h')
      have HDL := Lib.hid (HLM.out x)
      have HFD := HFx.out x
      obtain ⟨D, hD⟩ : ∃ D, F x = D := ⟨_, rfl⟩
      have HT : Hid ((L.take (k + 1)).map F = (L.take k).map F ++ [D]) := by rw [← hD]; exact HT0
      rw [hD] at HFD HDL
      rw [← HFD] at HLEAD
      clear HFD hD hxv HT0
      go_wp2_with fail
      go_cut [7, 8] (fun s7 s8 wx => ∃ a7 c7, s7 = .slice a7 m c7 ∧ s8 = .int .i64 0 ∧ Below wr.heap.size wr wx ∧ Sl wx (.slice a7 m c7) D)
      case first =>
        go_region_with (go_at_call 39; (with_reducible refine (HLEAD.out _ hUr).mono ?_); rintro e w2 ⟨v2, rfl, own2, hb2⟩; obtain ⟨a7, c7, rfl⟩ := own2.shape)
        all_goals
          have hs2 := own2.slice
          rw [HDL.out] at hs2
          go_wp2_with fail
          go_meet
          exact ⟨a7, c7, by rw [HDL.out], rfl, (Below.refl _ _).drew.trans hb2, hs2⟩
      case rest =>
      rename World => wx
      obtain ⟨x7, c7, rfl, rfl, hbx, hDx⟩ := hcut
      clear g0 g1 g2 a0 a1 a2 a3 a4 a5 a6 a7 a8 HLEAD hUr
      have hBx := hB.later hbx
      clear hB hbx
      go_wp2_with fail
      go_loopw [8] (fun s wy => ∃ (q : Nat), q ≤ O.length ∧ s = .int .i64 q ∧ Hid (∀ (i : Nat) (hi : i < O.length), i < q → cmpI O[i].2 D = -1) ∧ OPart w wy p m (.slice (some ⟨b, off, none⟩) L.length cap) (.slice (some ⟨g, 0, none⟩) O.length sc) O ∧ Sl wy (.slice x7 m c7) D) (fun s _ => O.length - (intOf s).toNat)
      case atStart => exact ⟨0, by omega, rfl, Lib.hid (fun i hi h => by omega), hBx, hDx⟩
      case round =>
        clear hBx hDx
        rename World => wy
        obtain ⟨q, hq, rfl, HLO, hBy, hDy⟩ := hrel
        by_cases hqt : q < O.length
        · have hqt' : (q : Int) < (O.length : Int) := by omega
          have hcell := hBy.header hqt
          have hey := hBy.each _ (List.getElem_mem hqt)
          have hel : O[q].2.length = m := by
            have := (HO.out.len (n := m) (fun y hy => by obtain ⟨x, _, rfl⟩ := List.mem_map.1 hy; exact HLM.out x)) O[q].2 (List.mem_map_of_mem (List.getElem_mem hqt))
            exact this
          have hml : O[q].2.length ≤ 1048576 := by omega
          have hld : O[q].2.length = D.length := by rw [hel, HDL.out]
          have kC := fun w' (hb : Below wy.heap.size wy w') => scmpI O[q].1 _ O[q].2 D w' hml hld (hey.below hb) (hDy.below hb)
          have hval := cmpI_val O[q].2 D
          obtain ⟨c, hc⟩ : ∃ c, cmpI O[q].2 D = c := ⟨_, rfl⟩
          rw [hc] at hval kC
          have HC := Lib.hid hc
          have KC := Lib.hid kC
          clear kC hc hey hel hml hld
          obtain ⟨ua, uc, hu⟩ : ∃ ua uc, O[q].1 = .slice ua O[q].2.length uc := (hBy.each _ (List.getElem_mem hqt)).shape
          have HU := Lib.hid hu
          clear hu
          obtain ⟨E, hE⟩ : ∃ E, O[q].1 = E := ⟨_, rfl⟩
          rw [hE] at hcell KC
          clear hE HU
          rcases hval with rfl | rfl | rfl
          · have HN : Hid (∀ (i : Nat) (hi : i < O.length), i < q + 1 → cmpI O[i].2 D = -1) := Lib.hid (fun i hi h => by
              by_cases e : i = q
              · subst e; exact HC.out
              · exact HLO.out i hi (by omega))
            go_wp2_with fail
            ((with_reducible refine (KC.out _ (Below.refl _ _)).mono ?_); rintro e w2 ⟨rfl, hb2⟩)
            have hB2 := hBy.later hb2
            have hD2 := hDy.below hb2
            clear hBy hDy hcell KC
            go_wp2_with fail
            go_roundw
            case rel => exact ⟨q + 1, by omega, by go_num, HN, hB2, hD2⟩
            case measure => simp [intOf]; omega
          · go_wp2_with fail
            ((with_reducible refine (KC.out _ (Below.refl _ _)).mono ?_); rintro e w2 ⟨rfl, hb2⟩)
            have hB2 := hBy.later hb2
            have hc2 := hB2.header hqt
            have hcell2 := (hb2.cell (p := ⟨g, q, none⟩) (World.block_lt_of_cell? (w := wy) (a := ⟨g, q, none⟩) hcell)).trans hcell
            clear hc2
            go_wp2_with fail
            ((with_reducible refine (KC.out _ hb2).mono ?_); rintro e w3 ⟨rfl, hb3⟩)
            have hB3 := hB2.later hb3
            have HN : Hid (IsOrb ((L.take (k + 1)).map F) (O.map (·.2))) := Lib.hid (by
              rw [HT.out]
              refine HO.out.same ?_
              have he := (cmpI_zero (by rw [HDL.out]; exact (HO.out.len (n := m) (fun y hy => by obtain ⟨x, _, rfl⟩ := List.mem_map.1 hy; exact HLM.out x)) O[q].2 (List.mem_map_of_mem (List.getElem_mem hqt)))).1 HC.out
              rw [← he]
              exact List.mem_map_of_mem (List.getElem_mem hqt))
            clear hBy hDy hcell hcell2 KC hB2
            go_wp2_with fail
            go_roundw
            case rel => exact ⟨k + 1, g, sc, O, by omega, rfl, by go_num, HN, by omega, hB3⟩
            case measure => simp [intOf]; omega
          · go_wp2_with fail
            ((with_reducible refine (KC.out _ (Below.refl _ _)).mono ?_); rintro e w2 ⟨rfl, hb2⟩)
            have hB2 := hBy.later hb2
            have hcell2 := (hb2.cell (p := ⟨g, q, none⟩) (World.block_lt_of_cell? (w := wy) (a := ⟨g, q, none⟩) hcell)).trans hcell
            go_wp2_with fail
            ((with_reducible refine (KC.out _ hb2).mono ?_); rintro e wz ⟨rfl, hb3⟩)
            have hBz := hB2.later hb3
            have hDz := (hDy.below hb2).below hb3
            clear hBy hDy hcell hcell2 KC hB2 hb2 hb3
            have HN := Lib.hid (orb_put (v := Value.slice x7 m c7) HO.out HLM.out HDL.out HT.out (q := q) (hq) HLO.out (fun h => by rw [HC.out]; decide) (fun h => by rw [HC.out]; decide))
            have hOsc := own_cap (hBz).rows
            have hd1 := fun w h => drop_slV (w := w) (g := g) (sc := sc) (k := q) (L := O.map (·.1)) (hq) hOsc (by simp) h
            have hd2 := fun w h => take_slV (w := w) (g := g) (sc := sc) (k := q) (L := O.map (·.1)) (hq) (by simp) h
            rw [if_neg (show ¬ sc = q by omega)] at hd1
            have hc0 : (0 : Int) ≤ ((q : Nat) : Int) := by omega
            have hc1 : ((q : Nat) : Int) ≤ (O.length : Int) := by omega
            have h1O := rows_one (hBz).each
            have hSv := OwnHv.slice (show OwnHv wz w.heap.size (.slice (some ⟨g, 0, none⟩) O.length sc) (O.map (·.1)) from (hBz).rows')
            have HDr := Lib.hid (hd1 _ (hSv.below (ebox1 wz (.cells #[.slice x7 m c7] 25))))
            have HTk := Lib.hid hd2
            have HlD := Lib.hid (show ((O.map (·.1)).drop q).length = O.length - q by rw [List.length_drop, List.length_map])
            have HlT := Lib.hid (show ((O.map (·.1)).take q).length = q by rw [List.length_take, List.length_map]; omega)
            have h1D : ∀ u ∈ (O.map (·.1)).drop q, u.oneCell' = true := fun u hu => h1O u (List.mem_of_mem_drop hu)
            have h1T : ∀ u ∈ (O.map (·.1)).take q, u.oneCell' = true := fun u hu => h1O u (List.mem_of_mem_take hu)
            have HSP := Lib.hid (show (O.map (·.1)).take q ++ Value.slice x7 m c7 :: (O.map (·.1)).drop q = ((O.take q ++ ((Value.slice x7 m c7, D) : Row) :: O.drop q).map (·.1)) by rw [List.map_append, List.map_cons, List.map_take, List.map_drop])
            have HEA := Lib.hid (row_put (q := q) (v := Value.slice x7 m c7) (D := D) (hBz).each hDz)
            have HLN := Lib.hid (show (O.take q ++ ((Value.slice x7 m c7, D) : Row) :: O.drop q).length = O.length + 1 by rw [List.length_append, List.length_cons, List.length_take, List.length_drop]; omega)
            generalize (O.map (·.1)).drop q = Dv at *
            generalize (O.map (·.1)).take q = Tv at *
            generalize O.take q ++ ((Value.slice x7 m c7, D) : Row) :: O.drop q = O' at *
            clear hd1 hd2 hSv
            go_wp2_with (at_builtin; first
              | (refine wpList_append_vals _ rfl _ _ rfl wz.heap.size (.slice (some ⟨wz.heap.size, 0, none⟩) 1 1) 1 [.slice x7 m c7] rfl (own_oneV wz _) _ Dv rfl HDr.out h1D (by have := HlD.out; omega) (by simp) ?_
                 intro v3 w3 hown3 hgrow3
                 have hb3 := grown_below (ebox1 wz _) (own_oneV wz (.slice x7 m c7)) hgrow3 (by simp)
                 have hO3 : OwnHv w3 wz.heap.size v3 (Value.slice x7 m c7 :: Dv) := (by
                   unfold OwnHv
                   rw [show (Value.slice x7 m c7 :: Dv).length = 1 + Dv.length by simp; omega]
                   exact hown3)
                 obtain ⟨va, vc, rfl⟩ := hO3.shape
                 have hB3 := OPart.later hBz hb3
                 have hTk := HTk.out _ ((OwnHv.slice (show OwnHv w3 w.heap.size (.slice (some ⟨g, 0, none⟩) O.length sc) (O.map (·.1)) from hB3.rows')).below (ebox1 w3 (.cells #[] 25)))
                 clear hown3 hgrow3)
              | (refine wpList_append_vals _ rfl _ _ rfl w3.heap.size (.slice (some ⟨w3.heap.size, 0, none⟩) 0 0) 0 [] rfl (own_zeroV w3) _ Tv rfl hTk h1T (by have := HlT.out; omega) (by simp) ?_
                 intro v4 w4 hown4 hgrow4
                 have hb4 := grown_below (ebox1 w3 _) (own_zeroV w3) hgrow4 (by simp)
                 have hR4 := hO3.slice.below hb4
                 have hO4 : w4.ownsRow w3.heap.size 25 1 v4 Tv.length Tv := (by simpa using hown4)
                 obtain ⟨sa4, sc4, rfl⟩ := mown_slice hO4
                 have hs4 : w3.heap.size ≤ w4.heap.size := hb4.size
                 clear hown4 hgrow4)
              | (refine wpList_append_vals _ rfl _ _ rfl w3.heap.size (.slice sa4 Tv.length sc4) Tv.length Tv rfl hO4 _ (Value.slice x7 m c7 :: Dv) rfl hR4 (one_cons h1D) (by have := HlD.out; have := HlT.out; simp; omega) hs4 ?_
                 intro v5 w5 hown5 hgrow5
                 have hb5 := hb4.trans ((grown_below (Below.refl _ _) hO4 hgrow5 hs4))
                 have hb35 := hb3.trans (hb5.mono hb3.size)
                 have hB5 := OPart.later hBz hb35
                 have hO5 : OwnHv w5 w3.heap.size v5 (O'.map (·.1)) := (by
                   unfold OwnHv
                   rw [← HSP.out]
                   simpa using hown5)
                 obtain ⟨g5, sc5, rfl⟩ : ∃ g5 sc5, v5 = .slice (some ⟨g5, 0, none⟩) O'.length sc5 := (by
                   have h := hO5
                   unfold OwnHv at h
                   rw [show (O'.map (·.1)).length = O.length + 1 by rw [List.length_map]; exact HLN.out] at h
                   obtain ⟨g5, sc5, e⟩ := own_succ' h
                   exact ⟨g5, sc5, by rw [e, HLN.out]⟩)
                 have HE5 := HEA.out w5 hb35))
            go_roundw
            case rel => exact ⟨k + 1, g5, sc5, O', by omega, rfl, by go_num, HN, by rw [HLN.out]; omega, hB5.put (hO5.mono (Nat.le_trans hB3.below.size (Nat.le_refl _))) HE5⟩
            case measure => simp [intOf]; omega
        · obtain rfl : q = O.length := by omega
          have hnl : ¬ (O.length : Int) < (O.length : Int) := by omega
          have HN := Lib.hid (orb_put (v := Value.slice x7 m c7) HO.out HLM.out HDL.out HT.out (q := O.length) (Nat.le_refl _) HLO.out (fun h => absurd h (Nat.lt_irrefl _)) (fun h => absurd h (Nat.lt_irrefl _)))
          have hOsc := own_cap (hBy).rows
          have hd1 := fun w h => drop_slV (w := w) (g := g) (sc := sc) (k := O.length) (L := O.map (·.1)) (Nat.le_refl _) hOsc (by simp) h
          have hd2 := fun w h => take_slV (w := w) (g := g) (sc := sc) (k := O.length) (L := O.map (·.1)) (Nat.le_refl _) (by simp) h
          obtain ⟨ta, hif⟩ : ∃ ta, (if sc = O.length then some (⟨g, 0, none⟩ : Addr) else some ⟨g, O.length, none⟩) = ta := ⟨_, rfl⟩
          rw [hif, Nat.sub_self] at hd1
          have hc0 : (0 : Int) ≤ ((O.length : Nat) : Int) := by omega
          have hc1 : ((O.length : Nat) : Int) ≤ (O.length : Int) := by omega
          have h1O := rows_one (hBy).each
          have hSv := OwnHv.slice (show OwnHv wy w.heap.size (.slice (some ⟨g, 0, none⟩) O.length sc) (O.map (·.1)) from (hBy).rows')
          have HDr := Lib.hid (hd1 _ (hSv.below (ebox1 wy (.cells #[.slice x7 m c7] 25))))
          have HTk := Lib.hid hd2
          have HlD := Lib.hid (show ((O.map (·.1)).drop O.length).length = O.length - O.length by rw [List.length_drop, List.length_map])
          have HlT := Lib.hid (show ((O.map (·.1)).take O.length).length = O.length by rw [List.length_take, List.length_map]; omega)
          have h1D : ∀ u ∈ (O.map (·.1)).drop O.length, u.oneCell' = true := fun u hu => h1O u (List.mem_of_mem_drop hu)
          have h1T : ∀ u ∈ (O.map (·.1)).take O.length, u.oneCell' = true := fun u hu => h1O u (List.mem_of_mem_take hu)
          have HSP := Lib.hid (show (O.map (·.1)).take O.length ++ Value.slice x7 m c7 :: (O.map (·.1)).drop O.length = ((O.take O.length ++ ((Value.slice x7 m c7, D) : Row) :: O.drop O.length).map (·.1)) by rw [List.map_append, List.map_cons, List.map_take, List.map_drop])
          have HEA := Lib.hid (row_put (q := O.length) (v := Value.slice x7 m c7) (D := D) (hBy).each hDy)
          have HLN := Lib.hid (show (O.take O.length ++ ((Value.slice x7 m c7, D) : Row) :: O.drop O.length).length = O.length + 1 by rw [List.length_append, List.length_cons, List.length_take, List.length_drop]; omega)
          generalize (O.map (·.1)).drop O.length = Dv at *
          generalize (O.map (·.1)).take O.length = Tv at *
          generalize O.take O.length ++ ((Value.slice x7 m c7, D) : Row) :: O.drop O.length = O' at *
          clear hd1 hd2 hSv
          go_wp2_with (at_builtin; first
            | (refine wpList_append_vals _ rfl _ _ rfl wy.heap.size (.slice (some ⟨wy.heap.size, 0, none⟩) 1 1) 1 [.slice x7 m c7] rfl (own_oneV wy _) _ Dv rfl HDr.out h1D (by have := HlD.out; omega) (by simp) ?_
               intro v3 w3 hown3 hgrow3
               have hb3 := grown_below (ebox1 wy _) (own_oneV wy (.slice x7 m c7)) hgrow3 (by simp)
               have hO3 : OwnHv w3 wy.heap.size v3 (Value.slice x7 m c7 :: Dv) := (by
                 unfold OwnHv
                 rw [show (Value.slice x7 m c7 :: Dv).length = 1 + Dv.length by simp; omega]
                 exact hown3)
               obtain ⟨va, vc, rfl⟩ := hO3.shape
               have hB3 := OPart.later hBy hb3
               have hTk := HTk.out _ ((OwnHv.slice (show OwnHv w3 w.heap.size (.slice (some ⟨g, 0, none⟩) O.length sc) (O.map (·.1)) from hB3.rows')).below (ebox1 w3 (.cells #[] 25)))
               clear hown3 hgrow3)
            | (refine wpList_append_vals _ rfl _ _ rfl w3.heap.size (.slice (some ⟨w3.heap.size, 0, none⟩) 0 0) 0 [] rfl (own_zeroV w3) _ Tv rfl hTk h1T (by have := HlT.out; omega) (by simp) ?_
               intro v4 w4 hown4 hgrow4
               have hb4 := grown_below (ebox1 w3 _) (own_zeroV w3) hgrow4 (by simp)
               have hR4 := hO3.slice.below hb4
               have hO4 : w4.ownsRow w3.heap.size 25 1 v4 Tv.length Tv := (by simpa using hown4)
               obtain ⟨sa4, sc4, rfl⟩ := mown_slice hO4
               have hs4 : w3.heap.size ≤ w4.heap.size := hb4.size
               clear hown4 hgrow4)
            | (refine wpList_append_vals _ rfl _ _ rfl w3.heap.size (.slice sa4 Tv.length sc4) Tv.length Tv rfl hO4 _ (Value.slice x7 m c7 :: Dv) rfl hR4 (one_cons h1D) (by have := HlD.out; have := HlT.out; simp; omega) hs4 ?_
               intro v5 w5 hown5 hgrow5
               have hb5 := hb4.trans ((grown_below (Below.refl _ _) hO4 hgrow5 hs4))
               have hb35 := hb3.trans (hb5.mono hb3.size)
               have hB5 := OPart.later hBy hb35
               have hO5 : OwnHv w5 w3.heap.size v5 (O'.map (·.1)) := (by
                 unfold OwnHv
                 rw [← HSP.out]
                 simpa using hown5)
               obtain ⟨g5, sc5, rfl⟩ : ∃ g5 sc5, v5 = .slice (some ⟨g5, 0, none⟩) O'.length sc5 := (by
                 have h := hO5
                 unfold OwnHv at h
                 rw [show (O'.map (·.1)).length = O.length + 1 by rw [List.length_map]; exact HLN.out] at h
                 obtain ⟨g5, sc5, e⟩ := own_succ' h
                 exact ⟨g5, sc5, by rw [e, HLN.out]⟩)
               have HE5 := HEA.out w5 hb35))
          go_roundw
          case rel => exact ⟨k + 1, g5, sc5, O', by omega, rfl, by go_num, HN, by rw [HLN.out]; omega, hB5.put (hO5.mono (Nat.le_trans hB3.below.size (Nat.le_refl _))) HE5⟩
          case measure => simp [intOf]; omega
    · obtain rfl : k = L.length := by omega
      have HL : Hid (IsOrb (L.map F) (O.map (·.2))) := Lib.hid (by have := HO.out; rwa [List.take_length] at this)
      have hR := slR_of hB.rows'.slice hB.each
      have hb := hB.below
      go_wp2_with fail
      go_ret
      exact ⟨_, _, rfl, HL.out, hR, hb⟩
end Go.Proofs.Ytabfdohmgmdgeaa
