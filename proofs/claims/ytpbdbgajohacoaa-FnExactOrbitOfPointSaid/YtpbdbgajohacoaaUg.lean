/-
  ORBITS of points: what the answer is; 'spec.OrbitOfPoint' and 'impl.OrbitOfPoint', walked. Conditions: the numbers of the matrices are bytes.
-/
import Derived.Test.YtpbdbgajohacoaaUc
import Derived.Test.YtpbdbgajohacoaaUj
namespace Go.Proofs.Ytpbdbgajohacoaa
open Go.RowKit Go.Sort EchM

theorem ptC_nil {p n : Int} {L : List (Nat → Nat → Int)} {pt : List Int} (h : ptC p n L pt = 0) : isGrp p n L = true ∧ nptB p n pt = true := by
  unfold ptC at h
  cases hg : isGrp p n L
  · rw [hg] at h; simp at h
  · cases hp : nptB p n pt
    · rw [hg, hp] at h; simp at h
    · exact ⟨rfl, rfl⟩
/-- An answer: lists of numbers and a code. -/
structure PO where
  S : List (List Int)
  c : Int
def OrbRes (p n : Int) (L : List (Nat → Nat → Int)) (pt : List Int) (o : PO) : Prop :=
  (ptC p n L pt ≠ 0 ∧ o = ⟨[], ptC p n L pt⟩) ∨ (ptC p n L pt = 0 ∧ o.c = 0 ∧ IsOrb (L.map fun x => leadL p n.toNat x pt) o.S)
theorem OrbRes.ex (p n : Int) (L : List (Nat → Nat → Int)) (pt : List Int) : ∃ o, OrbRes p n L pt o := by
  by_cases h : ptC p n L pt = 0
  · obtain ⟨S, hS⟩ := orb_ex (n := n.toNat) (L.map fun x => leadL p n.toNat x pt) fun y hy => by
      obtain ⟨x, _, rfl⟩ := List.mem_map.1 hy
      exact leadL_len _ _ _ _
    exact ⟨⟨S, 0⟩, .inr ⟨h, rfl, hS⟩⟩
  · exact ⟨_, .inl ⟨h, rfl⟩⟩
theorem OrbRes.unique {p n : Int} {L : List (Nat → Nat → Int)} {pt : List Int} {o o' : PO} (h : OrbRes p n L pt o) (h' : OrbRes p n L pt o') : o = o' := by
  rcases h with ⟨a, rfl⟩ | ⟨a, b, c⟩ <;> rcases h' with ⟨a', rfl⟩ | ⟨a', b', c'⟩
  · rfl
  · exact absurd a' a
  · exact absurd a a'
  · obtain ⟨S, cc⟩ := o
    obtain ⟨S', cc'⟩ := o'
    simp only at b b' c c'
    rw [b, b', c.unique c']
set_option maxRecDepth 8000 in
set_option maxHeartbeats 4000000 in
theorem sorb (p n : Int) (v u : Value) (L : List (Nat → Nat → Int)) (pt : List Int) (w : World) (hl : L.length ≤ 1048576) (hS : SlM w v L) (hby : ∀ x ∈ L, Byt x) (hpl : pt.length ≤ 1048576) (hU : Sl w u pt) :
    Calls Try.prog 22 #[.agg #[.int .i64 p, .int .i64 n, v], u] w fun e w' => ∃ o, OrbRes p n L pt o ∧ ∃ v', e = .returned (.tuple #[v', .int .i64 o.c]) ∧ SlR w' v' o.S ∧ Below w.heap.size w w' := by
  obtain ⟨W, hW, rW, hbW⟩ : ∃ W, W = w.alloc (.cells #[.int .i64 p, .int .i64 n, v] 26) ∧ W.rowIs w.heap.size 26 3 (grpF p n v) ∧ Below w.heap.size w W := ⟨_, rfl, gbox w p n v _, ebox1 _ _⟩
  have hSW := hS.below hbW
  have hUW := hU.below hbW
  obtain ⟨a, cap, rfl, hSc⟩ := id hS
  obtain ⟨g0, g1, g2⟩ := gcells rW
  have HBY := Lib.hid hby
  clear hby
  go_enter Try.func22, Try.ntmps22
  go_wp2_with fail
  rw [← hW]
  clear hW
  ((with_reducible refine (scode p n _ u L pt _ hl hSW HBY.out hpl hUW).mono ?_); rintro e w1 ⟨rfl, hb1⟩)
  have rx1 := erow_below rW hb1 rW.lt
  have hbw1 := hbW.trans (hb1.mono hbW.size)
  have hU1 := hUW.below hb1
  have hS1 := hSW.below hb1
  clear g0 g1 g2
  by_cases hc : ptC p n L pt = 0
  case neg =>
    have HX := Lib.hid (show OrbRes p n L pt ⟨[], ptC p n L pt⟩ from .inl ⟨hc, rfl⟩)
    generalize ptC p n L pt = C at *
    have hc' : (C != 0) = true := by simpa using hc
    clear hc
    go_wp2_with fail
    exact bodyPost_ret (v := .tuple #[.slice none 0 0, .int .i64 C]) (by simp [results, Try.results22, go_sem]) rfl ⟨_, HX.out, _, rfl, ⟨none, 0, rfl, .inl rfl⟩, hbw1⟩
  case pos =>
    obtain ⟨hg, hpb⟩ := ptC_nil hc
    obtain ⟨m, rfl, m1, m3, hl48, hl1, hmv⟩ := isGrp_mats HBY.out hg
    obtain ⟨hpt, hpp⟩ := nptB_of rfl hpb
    have HOR := Lib.hid (sorbit p m _ u L pt w1 hl48 hS1 m1 m3 hmv hpt hpp hU1)
    have HC := Lib.hid hc
    rw [hc]
    clear hmv hpp hpt hc hg hpb
    obtain ⟨g0, g1, g2⟩ := gcells rx1
    go_wp2_with fail
    ((with_reducible refine HOR.out.mono ?_); rintro e w2 ⟨v2, S, rfl, hO, hS2, hb2⟩)
    have HX := Lib.hid (show OrbRes p m L pt ⟨S, 0⟩ from .inr ⟨HC.out, rfl, hO⟩)
    obtain ⟨a2, c2, rfl, _⟩ := id hS2
    clear hO g0 g1 g2
    go_wp2_with fail
    exact bodyPost_ret (v := .tuple #[.slice a2 S.length c2, .int .i64 0]) (by simp [results, Try.results22, go_sem]) rfl ⟨_, HX.out, _, rfl, hS2, hbw1.trans (hb2.mono hbw1.size)⟩

def nmadeR (n : Nat) : Array Value := madeCells #[Value.slice none 0 0] n
/-- The rows made so far, and their headers. -/
structure IPart (w wr : World) (B K : Nat) (p n : Int) (va : Value) (O : List Row3) : Prop where
  arg : wr.rowIs w.heap.size 26 3 (grpF p n va)
  head : ∃ f, wr.rowIs B 41 K f ∧ ∀ (q : Nat) (h : q < O.length), f q = O[q].1
  each : ∀ e ∈ O, RowAt wr w.heap.size e
  nd : (O.map (·.2.2)).Nodup
  below : Below w.heap.size w wr
  base : w.heap.size ≤ B
theorem IPart.later {w wr w1 : World} {B K : Nat} {p n : Int} {va : Value} {O : List Row3} (h : IPart w wr B K p n va O) (hb : Below wr.heap.size wr w1) : IPart w w1 B K p n va O := by
  obtain ⟨f, hf, hq⟩ := h.head
  exact ⟨erow_below h.arg hb h.arg.lt, ⟨f, erow_below hf hb hf.lt, hq⟩, fun e he => (h.each e he).below hb, h.nd, h.below.trans (hb.mono h.below.size), h.base⟩
theorem rowAt_of {w : World} {base : Nat} {v : Value} {l : List Int} (h : nOwnI w base v l) : ∃ b, RowAt w base (v, l, b) := by
  obtain ⟨g, f, hv, hb, hr, hf⟩ := h
  exact ⟨g, l.length, l.length, f, hv, hb, Nat.le_refl _, hr, hf⟩
theorem IPart.push {w wr w1 : World} {B K : Nat} {p n : Int} {va v : Value} {O : List Row3} {l : List Int} {b : Nat} (h : IPart w wr B K p n va O) (hb : Below wr.heap.size wr w1) (hr : RowAt w1 wr.heap.size (v, l, b)) (hB : B < wr.heap.size) : IPart w (w1.setCell ⟨B, O.length, none⟩ v) B K p n va (O ++ [(v, l, b)]) := by
  have h1 := h.later hb
  obtain ⟨f, hf, hq⟩ := h1.head
  have hge : wr.heap.size ≤ b := by obtain ⟨_, _, _, _, hge, _⟩ := hr; exact hge
  have hlt : ∀ e ∈ O, e.2.2 < wr.heap.size := fun e he => (h.each e he).lt
  have hg1 : w1.grownBy (w1.setCell ⟨B, O.length, none⟩ v) (some B) := ugrown_set1 (World.grownBy.refl w1 _) _ _
  have hne : ∀ e ∈ O, e.2.2 ≠ B := fun e he => by
    obtain ⟨_, N', f', _, _, _, ⟨cur', hc', _⟩, _⟩ := h1.each e he
    obtain ⟨cur, hc, _⟩ := hf
    intro e2
    rw [e2, hc] at hc'
    simp at hc'
  refine ⟨h1.arg.setOther (fun e => ?_) _, ⟨_, hf.set O.length v, fun q hq' => ?_⟩, fun e he => ?_, ?_, h1.below.setCell h.base _, h.base⟩
  · obtain ⟨cur, hc, _⟩ := hf
    obtain ⟨cur', hc', _⟩ := h1.arg
    have e' : w.heap.size = B := e
    rw [e', hc] at hc'
    simp at hc'
  · by_cases e : q = O.length
    · subst e; simp
    · have hqO : q < O.length := by simp at hq'; omega
      rw [List.getElem_append_left hqO]
      simp only [if_neg e]
      exact hq q hqO
  · rcases List.mem_append.1 he with he | he
    · exact (h1.each e he).kept hg1 (hne e he)
    · simp only [List.mem_singleton] at he
      subst he
      exact (hr.kept hg1 (by show b ≠ B; omega)).mono h.below.size
  · rw [List.map_append, List.nodup_append]
    refine ⟨h.nd, by simp, fun a ha c hc e => ?_⟩
    simp only [List.map_cons, List.map_nil, List.mem_singleton] at hc
    obtain ⟨x, hx, rfl⟩ := List.mem_map.1 ha
    have := hlt x hx
    subst hc
    subst e
    omega

set_option maxRecDepth 8000 in
set_option maxHeartbeats 8000000 in
theorem iorb (p n : Int) (v u : Value) (L : List (Nat → Nat → Int)) (pt : List Int) (w : World) (hl : L.length ≤ 1048576) (hS : SlM w v L) (hby : ∀ x ∈ L, Byt x) (hpl : pt.length ≤ 1048576) (hU : Sl w u pt) :
    Calls Try.prog 24 #[.agg #[.int .i64 p, .int .i64 n, v], u] w fun e w' => ∃ o, OrbRes p n L pt o ∧ ∃ v', e = .returned (.tuple #[v', .int .i64 o.c]) ∧ OwnRR w' w.heap.size v' o.S ∧ Below w.heap.size w w' := by
  obtain ⟨i0, hi, hz0, hz1, hz2⟩ := info_parts einfoR
  have hmk : ∀ w, (Instr.makeSlice 42 (.int .i64 (L.length : Int)) (.int .i64 (L.length : Int))).run Try.prog w = .ok (.slice (some ⟨w.heap.size, 0, none⟩) L.length L.length) (w.alloc (.cells (nmadeR L.length) 41)) := fun w => by
    have h := run_make (P := Try.prog) w 42 41 i0 _ Try.underlying42 hi hz0 .i64 .i64 (L.length : Int) (L.length : Int) (by omega) (by omega) (by rw [hz2]; omega) (by omega)
    rw [hz1] at h
    simpa [nmadeR, Value.cells] using h
  clear hi hz0 hz1 hz2
  obtain ⟨W, hW, rW, hbW⟩ : ∃ W, W = w.alloc (.cells #[.int .i64 p, .int .i64 n, v] 26) ∧ W.rowIs w.heap.size 26 3 (grpF p n v) ∧ Below w.heap.size w W := ⟨_, rfl, gbox w p n v _, ebox1 _ _⟩
  have hSW := hS.below hbW
  have hUW := hU.below hbW
  obtain ⟨a, cap, rfl, hSc⟩ := id hS
  obtain ⟨g0, g1, g2⟩ := gcells rW
  have HBY := Lib.hid hby
  clear hby
  go_enter Try.func24, Try.ntmps24
  go_wp2_with fail
  rw [← hW]
  clear hW
  ((with_reducible refine (icode p n _ u L pt _ hl hSW HBY.out hpl hUW).mono ?_); rintro e w1 ⟨rfl, hb1⟩)
  have rx1 := erow_below rW hb1 rW.lt
  have hbw1 := hbW.trans (hb1.mono hbW.size)
  clear g0 g1 g2
  by_cases hc : ptC p n L pt = 0
  case neg =>
    have HX := Lib.hid (show OrbRes p n L pt ⟨[], ptC p n L pt⟩ from .inl ⟨hc, rfl⟩)
    generalize ptC p n L pt = C at *
    have hc' : (C != 0) = true := by simpa using hc
    clear hc
    go_wp2_with fail
    exact bodyPost_ret (v := .tuple #[.slice none 0 0, .int .i64 C]) (by simp [results, Try.results24, go_sem]) rfl ⟨_, HX.out, _, rfl, OwnRR.none _ _, hbw1⟩
  case pos =>
    obtain ⟨hg, hpb⟩ := ptC_nil hc
    obtain ⟨m, rfl, m1, m3, hl48, hl1, hmv⟩ := isGrp_mats HBY.out hg
    obtain ⟨hpt, hpp⟩ := nptB_of rfl hpb
    obtain ⟨F, hF⟩ : ∃ F, (fun x => leadL p m x pt) = F := ⟨_, rfl⟩
    have HFx := Lib.hid (fun x => (congrFun hF x).symm)
    have HLM : Hid (∀ x, (F x).length = m) := Lib.hid (fun x => by rw [← hF]; exact leadL_len _ _ _ _)
    have HX := Lib.hid (fun S (h : IsOrb (L.map F) S) => show OrbRes p m L pt ⟨S, 0⟩ from .inr ⟨hc, rfl, by rw [← hF] at h; exact h⟩)
    have HMV := Lib.hid hmv
    have HPP := Lib.hid hpp
    have HPT := Lib.hid hpt
    rw [hc]
    clear hmv hpp hpt hc hg hpb hF
    obtain ⟨b, off, rfl, hbb, hT⟩ : ∃ b off, a = some ⟨b, off, none⟩ ∧ b < w.heap.size ∧ MatsW w b off L := by
      rcases hSc with rfl | h
      · simp at hl1
      · exact h
    obtain ⟨E, hE, hst, hBE⟩ : ∃ E, E = w1.alloc (.cells (nmadeR L.length) 41) ∧ IPart w E w1.heap.size L.length p m (.slice (some ⟨b, off, none⟩) L.length cap) [] ∧ w1.heap.size < E.heap.size := by
      refine ⟨_, rfl, ⟨erow_below rx1 (ebox1 _ _) rx1.lt, ⟨_, World.rowIs_made w1 (.slice none 0 0) L.length 41, fun q h => by simp at h⟩, fun e h => by simp at h, by simp, hbw1.trans ((ebox1 _ _).mono hbw1.size), hbw1.size⟩, by simp⟩
    have yo : ∀ o, ((w1.alloc o).cell? ⟨w.heap.size, 2, none⟩ = some (.slice (some ⟨b, off, none⟩) L.length cap)) := fun o => (gcells (erow_below rx1 (ebox1 w1 o) rx1.lt)).2.2
    obtain ⟨g0, g1, g2⟩ := gcells rx1
    go_wp2_with fail
    rw [← hE]
    clear hE yo g0 g1 g2
    go_loopw [23] (fun i wr => ∃ (k : Nat) (O : List Row3), k ≤ L.length ∧ i = .int .i64 k ∧ O.length = k ∧ Hid (O.map (·.2.1) = (L.take k).map F) ∧ IPart w wr w1.heap.size L.length p m (.slice (some ⟨b, off, none⟩) L.length cap) O ∧ w1.heap.size < wr.heap.size) (fun i _ => L.length - (intOf i).toNat)
    case atStart => exact ⟨0, [], by omega, rfl, rfl, Lib.hid (by simp), hst, hBE⟩
    case round =>
      clear hst hBE
      obtain ⟨k, O, hk, rfl, hOk, HOF, hI, hBr⟩ := hrel
      by_cases hlt : k < L.length
      · have hlt' : (k : Int) < (L.length : Int) := by omega
        obtain ⟨⟨a0, a1, a2⟩, ⟨a3, a4, a5⟩, a6, a7, a8⟩ := (hT.below hI.below hbb).nine hlt
        have hxv := HMV.out _ (List.getElem_mem hlt)
        have hTT := List.take_succ_eq_append_getElem hlt
        have HT := Lib.hid (show (L.take (k + 1)).map F = (L.take k).map F ++ [F L[k]] by rw [hTT, List.map_append]; rfl)
        clear hTT
        generalize L[k] = x at *
        obtain ⟨V, hV, rV, hbV⟩ : ∃ V, V = wr.alloc (.cells #[.int .u8 (x 0 0), .int .u8 (x 0 1), .int .u8 (x 0 2), .int .u8 (x 1 0), .int .u8 (x 1 1), .int .u8 (x 1 2), .int .u8 (x 2 0), .int .u8 (x 2 1), .int .u8 (x 2 2)] 55) ∧ V.rowIs wr.heap.size 55 9 (mF x) ∧ Below wr.heap.size wr V := ⟨_, rfl, mbox wr x _, ebox1 _ _⟩
        have hIV := hI.later hbV
        have yo := fun o => gcells (erow_below hI.arg (ebox1 wr o) hI.arg.lt)
        have hUV : Sl V u pt := hU.below hIV.below
        have HLEAD := Lib.hid (ilead p m x u pt V hxv HPT.out HPP.out hUV)
        have HFD := HFx.out x
        go_wp2_with fail
        rw [← hV]
        clear hV yo a0 a1 a2 a3 a4 a5 a6 a7 a8
        ((with_reducible refine HLEAD.out.mono ?_); rintro e w3 ⟨v3, rfl, hown3, hb3⟩)
        rw [← HFD] at hown3
        obtain ⟨bb, hrow3⟩ := rowAt_of hown3
        have hszV := Nat.lt_of_lt_of_le hBr hbV.size
        have hP := hIV.push hb3 hrow3 hszV
        rw [hOk] at hP
        obtain ⟨f3, hf3, _⟩ := (hIV.later hb3).head
        have d0 := hf3.cell (i := k) (by omega)
        have z0 := hf3.frozen k
        have HN : Hid ((O ++ [(v3, F x, bb)]).map (·.2.1) = (L.take (k + 1)).map F) := Lib.hid (by rw [HT.out, List.map_append, HOF.out]; rfl)
        have hsz3 := Nat.lt_of_lt_of_le hszV hb3.size
        obtain ⟨sa3, sc3, rfl⟩ : ∃ sa sc, v3 = .slice sa (F x).length sc := by
          obtain ⟨g3, f, hv, _⟩ := hown3
          exact ⟨_, _, hv⟩
        clear hown3 hrow3 hf3 hIV hI HLEAD HFD hxv
        go_wp2_with fail
        go_roundw
        case rel => exact ⟨k + 1, _, by omega, by go_num, by simp [hOk], HN, hP, by simpa using hsz3⟩
        case measure => simp [intOf]; omega
      · obtain rfl : k = L.length := by omega
        obtain ⟨f, hf, hq⟩ := hI.head
        have hlnO : ∀ e ∈ O, e.2.1.length = m := fun e he => by
          have : e.2.1 ∈ (L.take L.length).map F := by rw [← HOF.out]; exact List.mem_map_of_mem he
          obtain ⟨x, _, hx⟩ := List.mem_map.1 this
          rw [← hx]
          exact HLM.out x
        have hO1 : O ≠ [] := fun e => by rw [e] at hOk; simp at hOk; omega
        have HSO := Lib.hid (gsortR wr w1.heap.size m L.length w.heap.size O hO1 (by omega) (by omega) L.length f (by omega) hf hq hI.each hlnO)
        rw [hOk] at HSO
        have HLN := Lib.hid hlnO
        have HOK := Lib.hid hOk
        clear hlnO hO1 hq hf hOk
        go_wp2_with fail
        ((with_reducible refine HSO.out.mono ?_); rintro e w2 ⟨rfl, O2, hperm, hsorted, ⟨f2, hf2, hq2⟩, hg2⟩)
        have hl2 : O2.length = L.length := by rw [hperm.length_eq]; exact HOK.out
        have hne : ∀ e ∈ O, e.2.2 ≠ w1.heap.size := fun e he => by
          obtain ⟨f, hf, hq⟩ := hI.head
          exact head_row (O := O) ⟨L.length, f, by rw [HOK.out]; exact Nat.le_refl _, hf, hq⟩ (hI.each e he)
        have hr2 : ∀ e ∈ O2, RowAt w2 w.heap.size e := fun e he => (hI.each e (hperm.mem_iff.1 he)).kept hg2 (hne e (hperm.mem_iff.1 he))
        have HCO := Lib.hid (gcompactF w2 w1.heap.size m L.length w.heap.size O2 (by omega) (by omega) (by omega) f2 hf2 hq2 hr2 (fun e he => HLN.out e (hperm.mem_iff.1 he)) hsorted)
        rw [hl2] at HCO
        have hb02 : Below w.heap.size w w2 := hI.below.grown hg2 hI.below.size (fun k hk => by simp at hk; have := hI.base; omega)
        have HR2 := Lib.hid hr2
        have HND : Hid ((O2.map (·.2.2)).Nodup) := Lib.hid ((hperm.map _).nodup_iff.2 hI.nd)
        have HPM := Lib.hid hperm
        have hbase := hI.base
        have HNE : Hid (∀ e ∈ O2, e.2.2 ≠ w1.heap.size) := Lib.hid (fun e he => hne e (hperm.mem_iff.1 he))
        clear hr2 hperm hsorted hf2 hq2 hne hI HSO
        go_wp2_with fail
        ((with_reducible refine HCO.out.mono ?_); rintro e w3 ⟨kk, rfl, O3, hl3, ⟨hsub, hmem, hstrict⟩, ⟨f3, hf3, hq3⟩, hg3⟩)
        have hOrb : IsOrb (L.map F) (O3.map (·.2.1)) := by
          refine ⟨by rw [List.pairwise_map]; exact hstrict, fun x => ?_⟩
          have e1 : x ∈ O3.map (·.2.1) ↔ x ∈ O2.map (·.2.1) := ⟨fun h => (hsub.map _).subset h, hmem x⟩
          have e2 : x ∈ O2.map (·.2.1) ↔ x ∈ O.map (·.2.1) := (HPM.out.map _).mem_iff
          rw [e1, e2, HOF.out, List.take_length]
        have HRES := Lib.hid (HX.out _ hOrb)
        have hb03 : Below w.heap.size w w3 := hb02.grown hg3 hb02.size (fun k hk => by simp at hk; omega)
        have hkl : kk ≤ L.length := by rw [← hl3, ← hl2]; exact hsub.length_le
        have HOW : Hid (OwnRR w3 w.heap.size (.slice (some ⟨w1.heap.size, 0, none⟩) kk L.length) (O3.map (·.2.1))) := Lib.hid ⟨O3, rfl, .inr ⟨_, _, by rw [hl3], hbase, L.length, f3, by omega, hf3, hq3⟩, fun e he => (HR2.out e (hsub.subset he)).kept hg3 (HNE.out e (hsub.subset he)), (hsub.map _).nodup HND.out⟩
        clear hOrb hsub hmem hstrict hf3 hq3 HCO
        go_wp2_with fail
        exact bodyPost_ret (v := .tuple #[.slice (some ⟨w1.heap.size, 0, none⟩) kk L.length, .int .i64 0]) (by simp [results, Try.results24, go_sem]) rfl ⟨_, HRES.out, _, rfl, HOW.out, hb03⟩
end Go.Proofs.Ytpbdbgajohacoaa
