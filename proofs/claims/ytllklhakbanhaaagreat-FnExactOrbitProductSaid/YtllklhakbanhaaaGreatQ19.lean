/-
  SUBSTITUTIONS, the program: the outcome; what stays beside maps. Conditions: as each theorem states.
  WALKS: 'impl.SubstitutePoly'. Conditions: as the theorem states.
-/
import Derived.Test.YtllklhakbanhaaaGreatQ15
import Derived.Test.YtllklhakbanhaaaGreatQ17
import Derived.Test.YtllklhakbanhaaaGreatQ18
import Derived.Deep.DeepCutAuto
import Derived.Deep.RegionHeld3
namespace Go.Proofs.YtllklhakbanhaaaGreat
open Go.RowKit Go.Sort Go.Maps

/-- The outcome of a substitution. -/
def SubO (p d : Int) (xs : List Tm) (G : List Pm) (o : OutP) : Prop :=
  (subsC p d xs G ≠ 0 ∧ o = noP (subsC p d xs G)) ∨ (subsC p d xs G = 0 ∧ ∃ P L, Subs p (tmsL G) xs P ∧ IsP p L (subF p P xs) ∧ o = ⟨p, (hdP G).2.1, L, 0⟩)
theorem subs_zero {p d : Int} {xs : List Tm} {G : List Pm} (hok : ∀ g ∈ G, PmOk g) (h : subsC p d xs G = 0) : isPolyB p d xs = true ∧ ListP p (hdP G).2.1 G ∧ (G.length : Int) = d ∧ Bnd (tmsL G) xs ∧ ∀ t ∈ xs, ∀ i, G.length ≤ i → nthE (tmE t) i = 0 := by
  unfold subsC at h
  split at h
  · rename_i h1
    split at h
    · rename_i h2
      split at h
      · rename_i h3
        simp only [Bool.and_eq_true, decide_eq_true_eq] at h1 h2
        have hd : 1 ≤ d ∧ d ≤ 3 := by
          have := h1.1
          simp only [isPolyB, Bool.and_eq_true, decide_eq_true_eq] at this
          exact this.2.1
        refine ⟨h1.1, ⟨by omega, by omega, fun g hg => ?_⟩, h2.1, fun t ht => by simpa using List.all_eq_true.1 h3 t ht, fun t ht i hi => ?_⟩
        · have hl := List.all_eq_true.1 h2.2 g hg
          simp only [likeT, Bool.and_eq_true, decide_eq_true_eq] at hl
          have hv := isPm_valid (hok g hg) (List.all_eq_true.1 h1.2 g hg)
          rw [hl.1, hl.2.2] at hv
          exact ⟨hl.1, hl.2.2, hv⟩
        · have hc : chain p d none xs = true := by
            have := h1.1
            simp only [isPolyB, Bool.and_eq_true] at this
            simpa [tailB, prevT] using this.2.2
          have hk := (chain_asc p d xs none hc).2.2 t ht
          simp only [termOk, expsOk, tailOk, Bool.and_eq_true, Bool.or_eq_true, decide_eq_true_eq, beq_iff_eq] at hk
          obtain ⟨⟨⟨⟨_, hy⟩, hz⟩, _⟩, _⟩ := hk
          unfold nthE
          simp only [tmE]
          split
          · omega
          · split
            · subst_vars; omega
            · split
              · subst_vars; omega
              · rfl
      · exact absurd h (by decide)
    · exact absurd h (by decide)
  · exact absurd h (by decide)
theorem subO_ex {p d : Int} {xs : List Tm} {G : List Pm} (hok : ∀ g ∈ G, PmOk g) (hby : ∀ t ∈ xs, tmByte t) : ∃ o, SubO p d xs G o := by
  by_cases h : subsC p d xs G = 0
  · obtain ⟨h1, hLP, _, hB, _⟩ := subs_zero hok h
    have hl1 := hLP.l1
    have hx := (hLP.ok G[0] (List.getElem_mem (by omega))).2.2
    have hX := valid_of h1 hby
    obtain ⟨P, hP⟩ := subs_ex hx hLP.tms hX hB
    obtain ⟨L, hL⟩ : ∃ L, IsP p L (subF p P xs) := by
      have key : ∀ k, k ≤ xs.length → ∃ L, IsP p L (subF p P (xs.take k)) := fun k => by
        induction k with
        | zero => exact fun _ => ⟨[], (IsP.nil p).congr fun e _ => (subF_zero p P xs e).symm⟩
        | succ k ih =>
          intro hk
          obtain ⟨L, hL⟩ := ih (by omega)
          have hlt : k < xs.length := by omega
          obtain ⟨f, hf⟩ := (hP xs[k] (List.getElem_mem hlt)).isP
          obtain ⟨M, hM⟩ := plus_ex (k := xs[k].2.2.2) ⟨_, hL⟩ (P (tmE xs[k])) (hx.of_isP hf)
          exact ⟨M, hM.congr fun e he => by rw [addF, hL.2.2 e he, subF_take p P xs k hlt e]⟩
      have := key xs.length (Nat.le_refl _)
      rwa [List.take_length] at this
    exact ⟨_, .inr ⟨h, P, L, hP, hL, rfl⟩⟩
  · exact ⟨_, .inl ⟨h, rfl⟩⟩
theorem subO_len {p d : Int} {xs : List Tm} {G : List Pm} {o : OutP} (h : SubO p d xs G o) : o.S.length ≤ 1048576 := by
  rcases h with ⟨_, rfl⟩ | ⟨_, P, L, _, hL, rfl⟩
  · simp [noP]
  · exact Nat.le_trans hL.len (by omega)
/-- What lies in cells stays where a block that holds no cells is written. -/
theorem SliceT.besideN {w w' : World} {b : Nat} {v : Value} {ts : List Tm} (h : SliceT w v ts) (hno : ∀ o, w.cell? ⟨b, o, none⟩ = none) (hg : w.grownBy w' (some b)) : SliceT w' v ts := by
  obtain ⟨a, cap, hv, h | ⟨b1, off, ha, hlt, hT⟩⟩ := h
  · exact ⟨a, cap, hv, .inl h⟩
  by_cases hn : ts = []
  · exact ⟨a, cap, hv, .inl hn⟩
  refine ⟨a, cap, hv, .inr ⟨b1, off, ha, Nat.lt_of_lt_of_le hlt hg.size, ?_⟩⟩
  have hne : b1 ≠ b := fun e => by
    have h0 := (hT 0 (List.length_pos_iff.2 hn)).1
    rw [e, hno] at h0
    simp at h0
  have q : ∀ o, w'.cell? ⟨b1, o, none⟩ = w.cell? ⟨b1, o, none⟩ := fun o => hg.cell_far ⟨b1, o, none⟩ hlt (by simpa using hne)
  intro k hk
  obtain ⟨c0, c1, c2, c3⟩ := hT k hk
  exact ⟨(q _).trans c0, (q _).trans c1, (q _).trans c2, (q _).trans c3⟩
theorem SlP.besideN {w w' : World} {b : Nat} {v : Value} {G : List Pm} (h : SlP w v G) (hno : ∀ o, w.cell? ⟨b, o, none⟩ = none) (hg : w.grownBy w' (some b)) : SlP w' v G := by
  obtain ⟨a, cap, hv, h | ⟨b1, off, ha, hlt, hT⟩⟩ := h
  · exact ⟨a, cap, hv, .inl h⟩
  · refine ⟨a, cap, hv, .inr ⟨b1, off, ha, Nat.lt_of_lt_of_le hlt hg.size, fun k hk => ?_⟩⟩
    obtain ⟨u, h0, h1, h2, hS⟩ := hT k hk
    have hne : b1 ≠ b := fun e => by
      rw [e, hno] at h0
      simp at h0
    have q : ∀ o, w'.cell? ⟨b1, o, none⟩ = w.cell? ⟨b1, o, none⟩ := fun o => hg.cell_far ⟨b1, o, none⟩ hlt (by simpa using hne)
    exact ⟨u, (q _).trans h0, (q _).trans h1, (q _).trans h2, hS.besideN hno hg⟩
theorem MapE.noCell {w : World} {b n : Nat} {D : DataW Unit} (h : MapE w b n D) (o : Nat) : w.cell? ⟨b, o, none⟩ = none := by
  obtain ⟨es, clock, hb, _⟩ := h
  simp [World.cell?, hb]
theorem DoneP.besideN {w w' : World} {b b' n : Nat} {D : DataW Value} {p d : Int} {Ls : List (List Tm)} (h : DoneP w b n D p d Ls) (hne : b ≠ b') (hno : ∀ o, w.cell? ⟨b', o, none⟩ = none) (hg : w.grownBy w' (some b')) : DoneP w' b n D p d Ls :=
  ⟨h.map.kept hg (by simpa using hne), h.one, fun e he hh => by
    obtain ⟨v, L, h1, h2, h3⟩ := h.ok e he hh
    exact ⟨v, L, h1, h2.besideN hno hg, h3⟩⟩
/-- The map with the product of nothing. -/
theorem DoneP.first {w w' : World} {b : Nat} {p d : Int} {Ls : List (List Tm)} {v : Value} (hp : 2 ≤ p) (hM : MapP w b 0 (.map [])) (hS : SliceT w v (constL 1))
    (hm : MapP w' b 1 (DataW.put (.map []) (kE (0, 0, 0)) (.held (.agg #[.int .i64 p, .int .i64 d, v])))) (hg : w.grownBy w' (some b)) : DoneP w' b 1 (DataW.put (.map []) (kE (0, 0, 0)) (.held (.agg #[.int .i64 p, .int .i64 d, v]))) p d Ls := by
  have hz : byte3 ((0 : Int), (0 : Int), (0 : Int)) := by unfold byte3; simp
  refine ⟨hm, has_put_same hM.isMap (kE_key _) _, fun e he hh => ?_⟩
  by_cases hx : e = (0, 0, 0)
  · subst hx
    refine ⟨v, constL 1, atKey_put_same hM.isMap (kE_key _) _ _, hS.besideP hM hg, ?_⟩
    rw [fac_zero]
    show IsP p (constL 1) (fun e => if e = (0, 0, 0) then 1 else 0)
    refine ⟨by simp [constL, Asc], fun t ht => ?_, fun e _ => ?_⟩
    · simp [constL, mkT] at ht
      subst ht
      exact ⟨⟨by unfold byte3 tmE; simp, by simp [tmE]⟩, by simp, by simp only []; omega⟩
    · by_cases h : e = (0, 0, 0)
      · subst h; simp [constL, mkT, atL, tmE]
      · have h' : ¬ (0, 0, 0) = e := fun x => h x.symm
        simp [constL, mkT, atL, tmE, h, h']
  · rw [has_put_other (kE_ne he hz hx)] at hh
    simp [Maps.has] at hh
end Go.Proofs.YtllklhakbanhaaaGreat
namespace Go.Proofs.YtllklhakbanhaaaGreat
open Go.RowKit Go.Sort Go.Maps

theorem MapE.later {w w' : World} {b n : Nat} {D : DataW Unit} (h : MapE w b n D) (hb : Below w.heap.size w w') : MapE w' b n D :=
  h.kept (row := none) ⟨hb.os, hb.tape, hb.output, hb.size, fun k hk _ => hb.block k hk⟩ (by simp)
/-- What stands in memory: the map of what monomials become (block b), the coefficients (block b2), the boxes. -/
structure SubS (w wr : World) (b n b2 n2 : Nat) (D : DataW Value) (E : DataW Unit) (p d d' : Int) (xv lv : Value) (xs : List Tm) (G : List Pm) : Prop where
  don : DoneP wr b n D p d (tmsL G)
  map : MapE wr b2 n2 E
  arg : wr.rowIs w.heap.size 39 3 (polyF p d' xv)
  res : wr.rowIs (w.heap.size + 1) 39 3 (polyF 0 0 (.slice none 0 0))
  sx : SliceT wr xv xs
  sl : SlP wr lv G
  below : Below w.heap.size w wr
  bb : w.heap.size + 2 ≤ b ∧ w.heap.size + 2 ≤ b2 ∧ b ≠ b2
theorem SubS.later {w wr w1 : World} {b n b2 n2 : Nat} {D : DataW Value} {E : DataW Unit} {p d d' : Int} {xv lv : Value} {xs : List Tm} {G : List Pm} (h : SubS w wr b n b2 n2 D E p d d' xv lv xs G) (hb : Below wr.heap.size wr w1) : SubS w w1 b n b2 n2 D E p d d' xv lv xs G :=
  ⟨h.don.later hb, h.map.later hb, rowIs_below h.arg hb h.arg.lt, rowIs_below h.res hb h.res.lt, h.sx.below hb, h.sl.below hb, h.below.trans (hb.mono h.below.size), h.bb⟩
theorem SubS.putIn {w wr w1 : World} {b n n' b2 n2 : Nat} {D D' : DataW Value} {E : DataW Unit} {p d d' : Int} {xv lv : Value} {xs : List Tm} {G : List Pm} (h : SubS w wr b n b2 n2 D E p d d' xv lv xs G) (hg : wr.grownBy w1 (some b)) (hD : DoneP w1 b n' D' p d (tmsL G)) : SubS w w1 b n' b2 n2 D' E p d d' xv lv xs G :=
  ⟨hD, h.map.kept hg (by simpa using fun e => h.bb.2.2 e.symm), rowG h.arg hg (by have := h.bb; omega), rowG h.res hg (by have := h.bb; omega), h.sx.besideP h.don.map hg, h.sl.besideP h.don.map hg,
    h.below.grown hg h.below.size (fun g e => by have := h.bb; simp at e; omega), h.bb⟩
theorem SubS.added {w wr w1 : World} {b n b2 n2 n3 : Nat} {D : DataW Value} {E E' : DataW Unit} {p d d' : Int} {xv lv : Value} {xs : List Tm} {G : List Pm} (h : SubS w wr b n b2 n2 D E p d d' xv lv xs G) (hg : wr.grownBy w1 (some b2)) (hE : MapE w1 b2 n3 E') : SubS w w1 b n b2 n3 D E' p d d' xv lv xs G :=
  ⟨h.don.besideN h.bb.2.2 (h.map.noCell) hg, hE, rowG h.arg hg (by have := h.bb; omega), rowG h.res hg (by have := h.bb; omega), h.sx.besideN h.map.noCell hg, h.sl.besideN h.map.noCell hg,
    h.below.grown hg h.below.size (fun g e => by have := h.bb; simp at e; omega), h.bb⟩

set_option maxRecDepth 8000 in
set_option maxHeartbeats 32000000 in
theorem iSub (p d : Int) (v lv : Value) (xs : List Tm) (G : List Pm) (w : World) (hl : xs.length ≤ 1048576) (hS : SliceT w v xs) (hby : ∀ t ∈ xs, tmByte t) (hlG : G.length ≤ 1048576) (hok : ∀ g ∈ G, PmOk g) (hG : SlP w lv G) (o : OutP) (ho : SubO p d xs G o) :
    Calls Tryz.prog 121 #[.agg #[.int .i64 p, .int .i64 d, v], lv] w (ResO w o) := by
  obtain ⟨a, cap, rfl, _⟩ := id hS
  obtain ⟨la, lc, rfl, hc⟩ := id hG
  obtain ⟨W, hW, hbW, ⟨hWs1, hWs2⟩, rx, rr⟩ := boxes2 w p d (.slice a xs.length cap)
  obtain ⟨⟨c0, c1, c2⟩, _⟩ := poly3 rx
  have HC := Lib.hid (csub p d _ _ xs G W hl (hS.below hbW) hby hlG hok (hG.below hbW))
  go_enter Tryz.func121, Tryz.ntmps121
  go_wp2_with fail
  rw [← hW]
  clear hW
  ((with_reducible refine HC.out.mono ?_); rintro e w1 ⟨rfl, hb1⟩)
  have hbw1 := hbW.trans (hb1.mono hbW.size)
  have rx1 := rowIs_below rx hb1 rx.lt
  have rr1 := rowIs_below rr hb1 rr.lt
  have hs1 := hb1.size
  have hSx1 := hS.below hbw1
  have hG1 := hG.below hbw1
  clear HC c0 c1 c2 rx rr
  rcases ho with ⟨hne, rfl⟩ | ⟨hz, P, L, hP, hL, rfl⟩
  · have hcn : (subsC p d xs G != 0) = true := by simpa using hne
    obtain ⟨C, hC⟩ : ∃ C, subsC p d xs G = C := ⟨_, rfl⟩
    rw [hC] at hcn ⊢
    have HCC := Lib.hid hC
    clear hC hne
    obtain ⟨⟨r0, r1, r2⟩, z0, z1, z2⟩ := poly3 rr1
    obtain ⟨a0, a1, a2, a3, a4⟩ := fill_box (base := w.heap.size) rr1 (ownP_nil w1 w.heap.size) (Nat.le_refl _) hbw1 (by omega) 0 0
    have A0 := Lib.hid a0
    have A1 := Lib.hid a1
    have A2 := Lib.hid a2
    have A3 := Lib.hid a3
    have A4 := Lib.hid a4
    clear a0 a1 a2 a3 a4
    go_wp2_with fail
    exact bodyPost_ret (v := .tuple #[.agg #[.int .i64 0, .int .i64 0, .slice none 0 0], .int .i64 C]) (by simp [results, Tryz.results121, go_sem, A0.out, A1.out, A2.out]) rfl ⟨_, by rw [HCC.out]; rfl, A3.out, A4.out⟩
  · obtain ⟨h1, hLP, hd, hB, hzz⟩ := subs_zero hok hz
    have hX := valid_of h1 hby
    have hl1 := hLP.l1
    have hl3 := hLP.l3
    have hlx := hX.isP.len
    have hp2 := hX.p2
    have hp13 := hX.p13
    obtain ⟨d1, hd1⟩ : ∃ d1, (hdP G).2.1 = d1 := ⟨_, rfl⟩
    rw [hd1] at hLP ⊢
    have HD1 := Lib.hid hd1
    clear hd1
    have hok0 := hLP.ok G[0] (List.getElem_mem (by omega))
    obtain ⟨bl, off, rfl, hbl, hT⟩ : ∃ bl off, la = some ⟨bl, off, none⟩ ∧ bl < w.heap.size ∧ PolysW w bl off G := by
      rcases hc with h | h
      · rw [h] at hl1; simp at hl1
      · exact h
    obtain ⟨u0, t0, t1, t2, t3⟩ := (hT.below hbw1 hbl) 0 (by omega)
    rw [hok0.2.1, Nat.zero_mul, Nat.add_zero] at t1
    have hl0 : 0 < G.length := by omega
    have hl0' : (0 : Int) < (G.length : Int) := by omega
    rw [hz]
    obtain ⟨⟨c0, c1, c2⟩, _⟩ := poly3 rx1
    have hmm := @run_makeMap Tryz.prog
    have hm0 := World.ownsMap_made (H := Value) w1 Tryz.prog 88 elemP
    obtain ⟨V, hV1, hbV, hVs1⟩ : ∃ V, V = w1.alloc (.map #[] 0) ∧ Below w1.heap.size w1 V ∧ w1.heap.size + 1 ≤ V.heap.size := ⟨_, rfl, box1 _ _, by simp⟩
    rw [← hV1] at hm0
    have xo : ∀ o, (w1.alloc o).cell? ⟨w.heap.size, 0, none⟩ = some (.int .i64 p) := fun o => ((box1 w1 o).cell rx1.lt).trans c0
    go_wp2_with fail
    rw [← hV1]
    clear hV1 xo
    have hm1 : MapP V w1.heap.size 0 (.map []) := hm0
    have hbwV := hbw1.trans (hbV.mono hbw1.size)
    have rxV := rowIs_below rx1 hbV rx1.lt
    have rrV := rowIs_below rr1 hbV rr1.lt
    ((with_reducible refine (constant_any p d1 1 V (by omega) (by omega)).mono ?_); rintro e w2 ⟨v2, rfl, ho2, hb2⟩)
    have hS2 := OwnP.slice ho2
    have hm2 : MapP w2 w1.heap.size 0 (.map []) := hm1.kept (row := none) ⟨hb2.os, hb2.tape, hb2.output, hb2.size, fun k hk _ => hb2.block k hk⟩ (by simp)
    have hbw2 := hbwV.trans (hb2.mono hbwV.size)
    have rx2 := rowIs_below rxV hb2 rxV.lt
    have rr2 := rowIs_below rrV hb2 rrV.lt
    have hk0 : keyOf Tryz.prog 88 (.agg #[.int .u8 0, .int .u8 0, .int .u8 0]) = some (kE (0, 0, 0)) := keyOf_vE (0, 0, 0) (by simp [byte3])
    obtain ⟨sa2, sc2, rfl⟩ := owns_slice ho2
    obtain ⟨w3, hrun, hown3, hg3⟩ := hm2.update lawK Tryz.underlying149 (by unfold maxLen; omega) hk0 (val := .agg #[.int .i64 p, .int .i64 d1, .slice sa2 (constL 1).length sc2]) (d := .held (.agg #[.int .i64 p, .int .i64 d1, .slice sa2 (constL 1).length sc2])) (ps := []) rfl
    have hdn := DoneP.first (Ls := tmsL G) hp2 hm2 hS2 hown3 hg3
    have hbb : w.heap.size + 2 ≤ w1.heap.size := by omega
    have hbw3 : Below w.heap.size w w3 := hbw2.grown hg3 hbw2.size (fun g e => by simp at e; omega)
    have rx3 := rowG rx2 hg3 (by omega)
    have rr3 := rowG rr2 hg3 (by omega)
    obtain ⟨⟨x0, x1, x2⟩, _⟩ := poly3 rx3
    have hme := World.ownsMap_made (H := Unit) w3 Tryz.prog 88 (plainElem Tryz.prog 2)
    obtain ⟨Y, hY, hbY, hYs1⟩ : ∃ Y, Y = w3.alloc (.map #[] 0) ∧ Below w3.heap.size w3 Y ∧ w3.heap.size + 1 ≤ Y.heap.size := ⟨_, rfl, box1 _ _, by simp⟩
    rw [← hY] at hme
    have hbwY := hbw3.trans (hbY.mono hbw3.size)
    have hSxY := hS.below hbwY
    have hGY := hG.below hbwY
    have h13 : w1.heap.size < w3.heap.size := by have := hb2.size; have := hg3.size; omega
    have st : SubS w Y w1.heap.size 1 w3.heap.size 0 (DataW.put (.map []) (kE (0, 0, 0)) (.held (.agg #[.int .i64 p, .int .i64 d1, .slice sa2 (constL 1).length sc2]))) (.map []) p d1 d (.slice a xs.length cap) (.slice (some ⟨bl, off, none⟩) G.length lc) xs G :=
      ⟨hdn.later hbY, hme, rowIs_below rx3 hbY rx3.lt, rowIs_below rr3 hbY rr3.lt, hSxY, hGY, hbwY, by omega, by omega, by omega⟩
    have xo : ∀ o, (w3.alloc o).cell? ⟨w.heap.size, 2, none⟩ = some (.slice a xs.length cap) := fun o => ((box1 w3 o).cell rx3.lt).trans x2
    clear hm0 hm1 c0 c1 c2 t0 t1 t2 t3 ho2 hS2 rxV rrV hm2 hown3 hdn rx2 rr2 rx3 rr3 x0 x1 hme hSxY hGY
    go_wp2_with fail
    rw [← hY]
    clear hY xo hrun hk0 hmm
    have HX := Lib.hid hX
    have HP := Lib.hid hP
    have HB := Lib.hid hB
    have HZ := Lib.hid hzz
    have HLP := Lib.hid hLP
    have HL := Lib.hid hL
    have HE0 : Hid (∀ e, byte3 e → cf (.map [] : DataW Unit) e = subF p P (xs.take 0) e) := Lib.hid (fun e _ => by rw [cf_empty, subF_zero])
    have st1 := Exists.intro (p := fun D => SubS w Y w1.heap.size 1 w3.heap.size 0 D (.map []) p d1 d (.slice a xs.length cap) (.slice (some ⟨bl, off, none⟩) G.length lc) xs G) _ st
    obtain ⟨D0, st1⟩ := st1
    have hcap : xs.length ≤ 2197 := hlx
    clear st hT hok0 hX hP hB hzz hL hS hc hG hSx1 hG1 hlx h1 hz hby hok hb1 hb2 hbV hbY hg3 hbw1 hbwV hbw2 hbw3 hbwY rx1 rr1 hl0 hl0'
    go_loopw [34] (fun i wr => ∃ (k n n2 : Nat) (D : DataW Value) (E : DataW Unit), k ≤ xs.length ∧ i = .int .i64 k ∧ n ≤ 1 + 12 * k ∧ n2 ≤ 2197 * k ∧ Hid (∀ e, byte3 e → cf E e = subF p P (xs.take k) e) ∧ SubS w wr w1.heap.size n w3.heap.size n2 D E p d1 d (.slice a xs.length cap) (.slice (some ⟨bl, off, none⟩) G.length lc) xs G) (fun i _ => xs.length - (intOf i).toNat)
    case atStart => exact ⟨0, 1, 0, _, _, by omega, rfl, by omega, by omega, HE0, st1⟩
    case round =>
      clear st1 HE0
      obtain ⟨k, n, n2, D, E, hk, rfl, hn, hn2, HE, st⟩ := hrel
      by_cases hlt : k < xs.length
      · have hlt' : (k : Int) < (xs.length : Int) := by omega
        obtain ⟨A1, cap1, hv1, hcase1⟩ := st.sx
        simp at hv1
        obtain ⟨rfl, rfl⟩ := hv1
        rcases hcase1 with h0 | ⟨b1, off1, rfl, hltb1, hTx⟩
        · rw [h0] at hlt; exact absurd hlt (by simp)
        obtain ⟨d0, d1', d2, d3⟩ := hTx k hlt
        obtain ⟨⟨hm12, hs12⟩, bu1, bu2⟩ := HX.out.mem xs[k] (List.getElem_mem _)
        have hbnd := HB.out xs[k] (List.getElem_mem _)
        have hzz := HZ.out xs[k] (List.getElem_mem _)
        have hpr := HP.out xs[k] (List.getElem_mem _)
        have HSTEP := Lib.hid (fun e => subF_take p P xs k hlt e)
        have HFB := Lib.hid (fun e => show 0 ≤ subF p P (xs.take k) e ∧ subF p P (xs.take k) e < p from ⟨Int.emod_nonneg _ (by omega), Int.emod_lt_of_pos _ (by omega)⟩)
        have hex : tmE xs[k] = (xs[k].1, xs[k].2.1, xs[k].2.2.1) := rfl
        rw [hex] at hm12 hbnd hzz hpr HSTEP
        generalize hx : xs[k].1 = x at *
        generalize hy : xs[k].2.1 = y at *
        generalize hz : xs[k].2.2.1 = z at *
        generalize hvv : xs[k].2.2.2 = u at *
        clear hex hx hy hz hvv hTx
        obtain ⟨s, hs⟩ : ∃ s : Nat, x + y + z = (s : Int) := ⟨(x + y + z).toNat, by
          obtain ⟨⟨q1, q2⟩, ⟨q3, q4⟩, q5, q6⟩ : (0 ≤ x ∧ x ≤ 255) ∧ (0 ≤ y ∧ y ≤ 255) ∧ (0 ≤ z ∧ z ≤ 255) := hm12
          omega⟩
        have hs2 : s ≤ 12 := by omega
        obtain ⟨PL, hPL⟩ : ∃ PL, P (x, y, z) = PL := ⟨_, rfl⟩
        rw [hPL] at hpr HSTEP
        obtain ⟨f1, hf1⟩ := hpr.isP
        have HVP := Lib.hid ((HLP.out.ok G[0] (List.getElem_mem (by omega))).2.2.of_isP hf1)
        have hPll : PL.length ≤ 1048576 := Nat.le_trans hf1.len (by omega)
        obtain ⟨V4, hV4, hbV4, rt⟩ : ∃ wx, wx = wr.alloc (.cells #[.int .u8 x, .int .u8 y, .int .u8 z, .int .i64 u] 90) ∧ Below wr.heap.size wr wx ∧ wx.rowIs wr.heap.size 90 4 (tmF x y z u) := ⟨_, rfl, box1 _ _, trow wr x y z u⟩
        have st4 := (st.later hbV4).later (Below.same _).drew
        have rt4 : V4.drew.rowIs wr.heap.size 90 4 (tmF x y z u) := rt
        have hnb : n + s ≤ 1048576 := by omega
        have hnb2 : n2 ≤ 1000000000 := by omega
        have hw1r : w1.heap.size < wr.heap.size := st.don.map.lt
        have hw3r : w3.heap.size < wr.heap.size := st.map.lt
        have HPI := Lib.hid (putIn_any p d1 G (.slice (some ⟨bl, off, none⟩) G.length lc) w1.heap.size HLP.out s x y z n D V4.drew hm12 hs hzz hbnd st4.sl st4.don hnb)
        have HAT := Lib.hid (fun v13 w13 hS13 hM13 => addTimes_any p d1 u v13 PL w13 w3.heap.size n2 E (subF p P (xs.take k)) hPll hS13 HVP.out hM13 hnb2 HE.out (fun e _ => HFB.out e) (by omega) (by omega))
        have KK := Lib.hid (fun (w' : World) (h : w'.rowIs wr.heap.size 90 4 (tmF x y z u)) => show (w'.cell? ⟨wr.heap.size, 0, none⟩ = some (.int .u8 x) ∧ w'.cell? ⟨wr.heap.size, 1, none⟩ = some (.int .u8 y) ∧ w'.cell? ⟨wr.heap.size, 2, none⟩ = some (.int .u8 z) ∧ w'.cell? ⟨wr.heap.size, 3, none⟩ = some (.int .i64 u)) from
          ⟨h.cell (i := 0) (by omega), h.cell (i := 1) (by omega), h.cell (i := 2) (by omega), h.cell (i := 3) (by omega)⟩)
        have HPR := Lib.hid hpr
        have hnw1 : wr.heap.size ≠ w1.heap.size := by omega
        have hnw3 : wr.heap.size ≠ w3.heap.size := by omega
        have hn13 : n + s ≤ 1 + 12 * (k + 1) := by omega
        have hPl2 : PL.length ≤ 2197 := hf1.len
        clear hpr hf1 hzz hbnd hm12 hs st hbV4 rt
        go_upto_region 10 with fail
        rw [← hV4]
        clear hV4 d0 d1' d2 d3
        go_region_held3 (fun w' => (w'.cell? ⟨wr.heap.size, 0, none⟩ = some (.int .u8 x) ∧ w'.cell? ⟨wr.heap.size, 1, none⟩ = some (.int .u8 y) ∧ w'.cell? ⟨wr.heap.size, 2, none⟩ = some (.int .u8 z) ∧ w'.cell? ⟨wr.heap.size, 3, none⟩ = some (.int .i64 u)))
          (first | with_reducible exact KK.out _ rt4 | with_reducible exact KK.out _ rt13 | with_reducible exact KK.out _ rt14)
          (first
          | (go_at_call 141; (with_reducible refine HPI.out.mono ?_); rintro e w13 ⟨v13, L13, D13, n13, rfl, hS13, hL13, hD13, hn13', hg13⟩; have rt13 := rowG rt4 hg13 hnw1; have st13 := st4.putIn hg13 hD13; (obtain rfl : PL = L13 := HPR.out.unique hL13); (obtain ⟨a13, c13, rfl, _⟩ := id hS13))
          | (go_at_call 94; (with_reducible refine (HAT.out _ w13 hS13 st13.map).mono ?_); rintro e w14 ⟨E14, rfl, hM14, hcf14, hg14⟩; have rt14 := rowG rt13 hg14 hnw3; have st14 := st13.added hg14 hM14))
        all_goals
          have HN := Lib.hid (fun e he => (hcf14 e he).trans (HSTEP.out e).symm)
          have hnn := Nat.le_trans hn13' hn13
          have hnn2 : n2 + PL.length ≤ 2197 * (k + 1) := by omega
          clear hcf14 rt14 rt13 rt4 st13 st4 hg14 hM14 hg13 hD13 hS13 hL13 hn13' KK HAT HPI
          go_wp2_with fail
          go_roundw
          case rel => exact ⟨k + 1, n13, _, D13, E14, by omega, by go_num, hnn, hnn2, HN, st14⟩
          case measure => simp [intOf]; omega
      · obtain rfl : k = xs.length := by omega
        have hE := HE.out
        rw [List.take_length] at hE
        have HPO := Lib.hid (polyOf_any sort_says p d1 w3.heap.size n2 E wr st.map (by omega) (fun e he hc => by
          rw [hE e he, ← List.take_length (l := xs)] at hc
          exact sub_deg (HLP.out.ok G[0] (List.getElem_mem (by omega))).2.2 HLP.out.tms HX.out HB.out HP.out hc))
        have HGD := Lib.hid (fun (S : List Tm) (h : Good E S) => show S = L from (h.isP hE (fun e _ => ⟨Int.emod_nonneg _ (by omega), Int.emod_lt_of_pos _ (by omega)⟩) (fun e he hc => by
          rw [← List.take_length (l := xs)] at hc
          exact sub_deg (HLP.out.ok G[0] (List.getElem_mem (by omega))).2.2 HLP.out.tms HX.out HB.out HP.out hc)).unique HL.out)
        obtain ⟨⟨c0, c1, c2⟩, _⟩ := poly3 st.arg
        clear hE HE
        go_wp2_with fail
        ((with_reducible refine HPO.out.mono ?_); rintro e w14 ⟨v14, S14, rfl, ho14, hgood, hb14⟩)
        have hSL := HGD.out S14 hgood
        subst hSL
        have st14 := st.later hb14
        obtain ⟨sa14, sc14, rfl⟩ := owns_slice ho14
        obtain ⟨⟨r0, r1, r2⟩, z0, z1, z2⟩ := poly3 st14.res
        obtain ⟨a0, a1, a2, a3, a4⟩ := fill_box (w := w) st14.res ho14 st.below.size st14.below (by omega) p d1
        have A0 := Lib.hid a0
        have A1 := Lib.hid a1
        have A2 := Lib.hid a2
        have A3 := Lib.hid a3
        have A4 := Lib.hid a4
        clear a0 a1 a2 a3 a4 st st14 c0 c1 c2 hgood ho14
        go_wp2_with fail
        exact bodyPost_ret (v := .tuple #[.agg #[.int .i64 p, .int .i64 d1, .slice sa14 S14.length sc14], .int .i64 0]) (by simp [results, Tryz.results121, go_sem, A0.out, A1.out, A2.out]) rfl ⟨_, by rw [HD1.out], A3.out, A4.out⟩
end Go.Proofs.YtllklhakbanhaaaGreat
