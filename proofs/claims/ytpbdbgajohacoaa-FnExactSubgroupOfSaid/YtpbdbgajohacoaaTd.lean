/-
  SUBGROUPS OF LISTS: what the answer is; 'spec.SubgroupOf', walked. Conditions: the numbers of the matrices are bytes.
-/
import Derived.Test.YtpbdbgajohacoaaTc
import Derived.Test.YtpbdbgajohacoaaPc
namespace Go.Proofs.Ytpbdbgajohacoaa
open Go.RowKit Go.Sort EchM

def inR (L : List (Nat → Nat → Int)) (i : Int) : Bool := decide (0 ≤ i) && decide (i ≤ (L.length : Int) - 1)
def chosen (L : List (Nat → Nat → Int)) (l : List Int) : List (Nat → Nat → Int) := l.map fun i => L.getD i.toNat fun _ _ => 0
theorem reach_in {p : Int} {n : Nat} {L G : List (Nat → Nat → Int)} (h : isGrp p n L = true) (hG : ∀ g ∈ G, g ∈ L) {x : Nat → Nat → Int} (hx : Reach p n G x) : ∃ y ∈ L, eq3 x y := by
  unfold isGrp at h
  simp only [Bool.and_eq_true, decide_eq_true_eq] at h
  obtain ⟨_, _, _, _, _, hc, hu⟩ := h
  have hin : ∀ g, 0 ≤ findM L g → ∃ y ∈ L, eq3 g y := fun g hg => by
    obtain ⟨y, hy, he⟩ := (findA_in g L 0).1 hg
    exact ⟨y, hy, fun i hi j hj => (eqM_iff.1 he i j hi hj).symm⟩
  induction hx with
  | unit =>
    obtain ⟨y, hy, e⟩ := hin _ hu
    exact ⟨y, hy, (cut3_eq3 _).trans e⟩
  | step hx hg ih =>
    obtain ⟨y, hy, e⟩ := ih
    unfold closedG at hc
    rw [List.all_eq_true] at hc
    have h1 := hc y hy
    rw [List.all_eq_true] at h1
    have h2 := h1 _ (hG _ hg)
    rw [decide_eq_true_eq] at h2
    obtain ⟨z, hz, e2⟩ := hin _ h2
    exact ⟨z, hz, (cut3_eq3 _).trans ((prodM_congr e (fun _ _ _ _ => rfl)).trans e2)⟩
theorem grp_not_over {p : Int} {n : Nat} {L G : List (Nat → Nat → Int)} (h : isGrp p n L = true) (hG : ∀ g ∈ G, g ∈ L) : ¬ Over48 p n G := by
  rintro ⟨O, hn, hr, hl⟩
  have h48 : L.length ≤ 48 := by
    unfold isGrp at h
    simp only [Bool.and_eq_true, decide_eq_true_eq] at h
    exact h.2.2.2.1
  have := sub_len (l' := L.map cut3) hn fun x hx => by
    obtain ⟨y, hy, e⟩ := reach_in h hG (hr x hx)
    have hc := (hr x hx).cut
    rw [← cut_of_cut hc, cut3_congr e]
    exact List.mem_map_of_mem hy
  simp at this
  omega
theorem chosen_in {L : List (Nat → Nat → Int)} {l : List Int} (h : l.all (inR L) = true) : ∀ g ∈ chosen L l, g ∈ L := fun g hg => by
  obtain ⟨i, hi, rfl⟩ := List.mem_map.1 hg
  have := List.all_eq_true.1 h i hi
  unfold inR at this
  simp only [Bool.and_eq_true, decide_eq_true_eq] at this
  have hlt : i.toNat < L.length := by omega
  simp only [List.getD_eq_getElem?_getD, List.getElem?_eq_getElem hlt, Option.getD_some]
  exact List.getElem_mem hlt
/-- The answer of SubgroupOf. -/
def SubRes (p n : Int) (L : List (Nat → Nat → Int)) (l : List Int) (o : GO) : Prop :=
  (isGrp p n L = false ∧ o = noG 1) ∨ (isGrp p n L = true ∧ l.all (inR L) = false ∧ o = noG 2) ∨ (isGrp p n L = true ∧ l.all (inR L) = true ∧ ∃ O, Closed48 p n.toNat (chosen L l) O ∧ o = ⟨p, n, sortM O, 0⟩)
theorem SubRes.ex (p n : Int) (L : List (Nat → Nat → Int)) (l : List Int) : ∃ o, SubRes p n L l o := by
  cases h : isGrp p n L
  · exact ⟨_, .inl ⟨h, rfl⟩⟩
  · cases h' : l.all (inR L)
    · exact ⟨_, .inr (.inl ⟨h, h', rfl⟩)⟩
    · rcases reach_ends p n.toNat (chosen L l) 49 [] (by simp) (by simp) (by simp) with ho | ⟨O, hO⟩
      · obtain ⟨m, rfl⟩ : ∃ m : Nat, n = m := by
          have := (isGrp_pn h).2
          exact ⟨n.toNat, by omega⟩
        exact absurd ho (grp_not_over h (chosen_in h'))
      · exact ⟨_, .inr (.inr ⟨h, h', O, hO, rfl⟩)⟩
theorem SubRes.unique {p n : Int} {L : List (Nat → Nat → Int)} {l : List Int} {o o' : GO} (h : SubRes p n L l o) (h' : SubRes p n L l o') : o = o' := by
  rcases h with ⟨a, rfl⟩ | ⟨a, b, rfl⟩ | ⟨a, b, O, c, rfl⟩ <;> rcases h' with ⟨a', rfl⟩ | ⟨a', b', rfl⟩ | ⟨a', b', O', c', rfl⟩
  · rfl
  · rw [a] at a'; cases a'
  · rw [a] at a'; cases a'
  · rw [a] at a'; cases a'
  · rfl
  · rw [b] at b'; cases b'
  · rw [a] at a'; cases a'
  · rw [b] at b'; cases b'
  · rw [c.sort c']
theorem chosen_step (L : List (Nat → Nat → Int)) (l : List Int) (k : Nat) (h : k < l.length) : chosen L (l.take (k + 1)) = chosen L (l.take k) ++ [L.getD l[k].toNat fun _ _ => 0] := by
  unfold chosen
  rw [List.take_succ_eq_append_getElem h, List.map_append]; rfl

set_option maxRecDepth 8000 in
set_option maxHeartbeats 8000000 in
theorem ssub (p n : Int) (v u : Value) (L : List (Nat → Nat → Int)) (l : List Int) (w : World) (hl : L.length ≤ 1048576) (hS : SlM w v L) (hby : ∀ x ∈ L, Byt x) (hll : l.length ≤ 1048576) (hU : Sl w u l) :
    Calls Try.prog 32 #[.agg #[.int .i64 p, .int .i64 n, v], u] w fun e w' => ∃ o, SubRes p n L l o ∧ ResG w o e w' := by
  obtain ⟨i0, hi, hz0, hz1, hz2⟩ := info_parts infoMat
  obtain ⟨W, hW, rW, rR, hbW, hWs⟩ : ∃ W, W = (w.alloc (.cells #[.int .i64 p, .int .i64 n, v] 26)).alloc (.cells #[.int .i64 0, .int .i64 0, .slice none 0 0] 26) ∧ W.rowIs w.heap.size 26 3 (grpF p n v) ∧ W.rowIs (w.heap.size + 1) 26 3 (grpF 0 0 (.slice none 0 0)) ∧ Below w.heap.size w W ∧ w.heap.size + 2 ≤ W.heap.size := by
    refine ⟨_, rfl, (gbox w p n v _).alloc _, ?_, ebox2 _ _ _, by simp⟩
    have := gbox (w.alloc (.cells #[.int .i64 p, .int .i64 n, v] 26)) 0 0 (.slice none 0 0) 26
    rwa [World.size_alloc] at this
  have hSW := hS.below hbW
  obtain ⟨a, cap, rfl, hSc⟩ := id hS
  obtain ⟨ua, ucap, rfl, hUc⟩ := id hU
  obtain ⟨g0, g1, g2⟩ := gcells rW
  have HBY := Lib.hid hby
  clear hby
  go_enter Try.func32, Try.ntmps32
  go_wp2_with fail
  rw [← hW]
  clear hW
  ((with_reducible refine (sgroup p n _ L _ hl hSW HBY.out).mono ?_); rintro e w1 ⟨rfl, hb1⟩)
  have rx1 := erow_below rW hb1 rW.lt
  have rr := erow_below rR hb1 rR.lt
  have hbw1 := hbW.trans (hb1.mono hbW.size)
  clear g0 g1 g2
  cases hg : isGrp p n L
  · have HX := Lib.hid hg
    clear hg
    obtain ⟨r0, r1, r2⟩ := gcells rr
    have z0 := rr.frozen 0
    have z1 := rr.frozen 1
    have z2 := rr.frozen 2
    have R := ((rr.set 0 (.int .i64 0)).set 1 (.int .i64 0)).set 2 (.slice none 0 0)
    have V0 := Lib.hid (R.cell (i := 0) (by omega))
    have V1 := Lib.hid (R.cell (i := 1) (by omega))
    have V2 := Lib.hid (R.cell (i := 2) (by omega))
    have HB := Lib.hid (((hbw1.setCell (p := ⟨w.heap.size + 1, 0, none⟩) (by simp) (.int .i64 0)).setCell (p := ⟨w.heap.size + 1, 1, none⟩) (by simp) (.int .i64 0)).setCell (p := ⟨w.heap.size + 1, 2, none⟩) (by simp) (.slice none 0 0))
    clear R
    go_wp2_with fail
    exact bodyPost_ret (v := .tuple #[.agg #[.int .i64 0, .int .i64 0, .slice none 0 0], .int .i64 1]) (by simp [results, Try.results32, go_sem, V0.out, V1.out, V2.out]) rfl ⟨noG 1, .inl ⟨HX.out, rfl⟩, _, rfl, ownG9_none _ _, HB.out⟩
  · obtain ⟨m, rfl, m1, m3, hl48, hl1, hmv⟩ := isGrp_mats HBY.out hg
    have HX := Lib.hid hg
    clear hg
    obtain ⟨V, hV, hown, hbV⟩ : ∃ V, V = w1.alloc (.cells #[] 55) ∧ V.ownsRow w1.heap.size 55 9 (.slice (some ⟨w1.heap.size, 0, none⟩) 0 0) 0 [] ∧ Below w1.heap.size w1 V := ⟨_, rfl, own_zero w1, ebox1 _ _⟩
    have rxV := erow_below rx1 hbV rx1.lt
    have rrV := erow_below rr hbV rr.lt
    have lx := rx1.lt
    have lr := rr.lt
    have hz01 := hbw1.size
    have hbwV := hbw1.trans (hbV.mono hz01)
    have hVs := hbV.size
    go_wp2_with fail
    rw [← hV]
    clear hV rx1 rr hbV
    go_loopw [6, 7] (fun s i wr => ∃ (k : Nat), k ≤ l.length ∧ i = .int .i64 k ∧ Hid ((l.take k).all (inR L) = true) ∧ wr.ownsRow w1.heap.size 55 9 s k (cells9 (chosen L (l.take k))) ∧ Below w1.heap.size V wr) (fun _ i _ => l.length - (intOf i).toNat)
    case atStart => exact ⟨0, by omega, rfl, Lib.hid (by simp), by simpa [cells9, chosen] using hown, Below.refl _ _⟩
    case round =>
      obtain ⟨k, hk, rfl, HA, hO, hbel⟩ := hrel
      obtain ⟨sa, sc, rfl⟩ := mown_slice hO
      have rx := erow_below rxV hbel lx
      obtain ⟨g0, g1, g2⟩ := gcells rx
      have hbwr := hbwV.trans (hbel.mono hz01)
      have hbz := hbel.size
      by_cases hlt : k < l.length
      · have hlt' : (k : Int) < (l.length : Int) := by omega
        obtain ⟨lb, lo, rfl, hlb, hlT⟩ : ∃ b off, ua = some ⟨b, off, none⟩ ∧ b < w.heap.size ∧ Cs w b off l := by
          rcases hUc with rfl | h
          · simp at hlt
          · exact h
        obtain ⟨b, off, rfl, hbb, hT⟩ : ∃ b off, a = some ⟨b, off, none⟩ ∧ b < w.heap.size ∧ MatsW w b off L := by
          rcases hSc with rfl | h
          · simp at hl1
          · exact h
        have c0 := (hlT.below hbwr hlb) k hlt
        have hwl : wrap64 ((L.length : Int) - 1) = (L.length : Int) - 1 := IntWalk.wrap64_in _ (by omega)
        have HT := Lib.hid (List.take_succ_eq_append_getElem hlt)
        have HCS := Lib.hid (chosen_step L l k hlt)
        have HMEM := Lib.hid (List.getElem_mem hlt)
        generalize l[k] = x0 at *
        obtain ⟨B, hB⟩ : ∃ B, inR L x0 = B := ⟨_, rfl⟩
        have kI : ∀ nn, Calls Try.prog 38 #[.int .i64 x0, .int .i64 0, .int .i64 ((L.length : Int) - 1)] (wr.drewN nn) fun e w'' => e = .returned (.bool B) ∧ w'' = wr.drewN nn := fun nn => (ein_is x0 0 ((L.length : Int) - 1) _ B hB).mono fun _ _ ⟨h1, h2⟩ => ⟨h1, h2.symm⟩
        have HB := Lib.hid hB
        clear hB
        cases B
        · have hbelD : ∀ nd, Below w.heap.size w (wr.drewN nd) := fun nd => below_drewN hbwr nd
          have rrr := erow_below rrV hbel lr
          have HNO : Hid (l.all (inR L) = false) := Lib.hid (by rw [List.all_eq_false]; exact ⟨x0, HMEM.out, by rw [HB.out]; simp⟩)
          go_wp2_with fail
          go_quiet (exact Calls.quiet_of_same (kI _))
          have r3 : (wr.drewN nq).rowIs (w.heap.size + 1) 26 3 (grpF 0 0 (.slice none 0 0)) := rrr
          have hbel3 := hbelD nq
          generalize wr.drewN nq = w3 at *
          obtain ⟨r0, r1, r2⟩ := gcells r3
          have z0 := r3.frozen 0
          have z1 := r3.frozen 1
          have z2 := r3.frozen 2
          have R := ((r3.set 0 (.int .i64 0)).set 1 (.int .i64 0)).set 2 (.slice none 0 0)
          have V0 := Lib.hid (R.cell (i := 0) (by omega))
          have V1 := Lib.hid (R.cell (i := 1) (by omega))
          have V2 := Lib.hid (R.cell (i := 2) (by omega))
          have HB := Lib.hid (((hbel3.setCell (p := ⟨w.heap.size + 1, 0, none⟩) (by simp) (.int .i64 0)).setCell (p := ⟨w.heap.size + 1, 1, none⟩) (by simp) (.int .i64 0)).setCell (p := ⟨w.heap.size + 1, 2, none⟩) (by simp) (.slice none 0 0))
          clear R
          go_wp2_with fail
          exact bodyPost_ret (v := .tuple #[.agg #[.int .i64 0, .int .i64 0, .slice none 0 0], .int .i64 2]) (by simp [results, Try.results32, go_sem, V0.out, V1.out, V2.out]) rfl ⟨noG 2, .inr (.inl ⟨HX.out, HNO.out, rfl⟩), _, rfl, ownG9_none _ _, HB.out⟩
        · obtain ⟨q, rfl⟩ : ∃ q : Nat, x0 = (q : Int) := by
            have := HB.out
            unfold inR at this
            simp only [Bool.and_eq_true, decide_eq_true_eq] at this
            exact ⟨x0.toNat, by omega⟩
          have hq : q < L.length := by
            have := HB.out
            unfold inR at this
            simp only [Bool.and_eq_true, decide_eq_true_eq] at this
            omega
          have hq' : (q : Int) < (L.length : Int) := by omega
          have h9 := (hT.below hbwr hbb).nine hq
          have HNA : Hid ((l.take (k + 1)).all (inR L) = true) := Lib.hid (by rw [HT.out, List.all_append, HA.out]; simp [HB.out])
          have HNC : Hid (cells9 (chosen L (l.take (k + 1))) = cells9 (chosen L (l.take k)) ++ cells9 [L[q]]) := Lib.hid (by
            rw [HCS.out]
            simp only [Int.toNat_natCast, List.getD_eq_getElem?_getD, List.getElem?_eq_getElem hq, Option.getD_some]
            simp [cells9])
          clear HT HCS HB
          generalize L[q] = x at *
          generalize cells9 (chosen L (l.take k)) = C at *
          go_wp2_with fail
          go_quiet (exact Calls.quiet_of_same (kI _))
          have hOd : (wr.drewN nq).ownsRow w1.heap.size 55 9 (.slice sa k sc) k C := hO
          have hbD : Below w1.heap.size V (wr.drewN nq) := below_drewN hbel nq
          have hzD : w1.heap.size ≤ (wr.drewN nq).heap.size := Nat.le_trans hVs hbz
          have KKh := Lib.hid (fun w' (hq : Below w1.heap.size (wr.drewN nq) w') => show (w'.cell? ⟨w.heap.size, 2, none⟩ = some (.slice (some ⟨b, off, none⟩) L.length cap) ∧ w'.cell? ⟨lb, lo + k, none⟩ = some (.int .i64 ((q : Nat) : Int)) ∧ ((w'.cell? ⟨b, off + q * 9, none⟩ = some (.int .u8 (x 0 0)) ∧ w'.cell? ⟨b, off + q * 9 + 1, none⟩ = some (.int .u8 (x 0 1)) ∧ w'.cell? ⟨b, off + q * 9 + 2, none⟩ = some (.int .u8 (x 0 2))) ∧ (w'.cell? ⟨b, off + q * 9 + 3, none⟩ = some (.int .u8 (x 1 0)) ∧ w'.cell? ⟨b, off + q * 9 + 4, none⟩ = some (.int .u8 (x 1 1)) ∧ w'.cell? ⟨b, off + q * 9 + 5, none⟩ = some (.int .u8 (x 1 2))) ∧ (w'.cell? ⟨b, off + q * 9 + 6, none⟩ = some (.int .u8 (x 2 0)) ∧ w'.cell? ⟨b, off + q * 9 + 7, none⟩ = some (.int .u8 (x 2 1)) ∧ w'.cell? ⟨b, off + q * 9 + 8, none⟩ = some (.int .u8 (x 2 2))))) from
            ⟨(hq.cell lx).trans g2, (hq.cell (Nat.lt_of_lt_of_le hlb hz01)).trans c0, nine_belowB (w := wr.drewN nq) h9 hq (Nat.lt_of_lt_of_le hbb hz01)⟩)
          generalize wr.drewN nq = w3 at *
          have hqr : Below w1.heap.size w3 w3 := Below.refl _ _
          have hq0 : Below w1.heap.size w3 w3.drew := (Below.refl _ _).drew
          have hqa := hqr.alloc hzD (.cells #[.int .u8 (x 0 0), .int .u8 (x 0 1), .int .u8 (x 0 2), .int .u8 (x 1 0), .int .u8 (x 1 1), .int .u8 (x 1 2), .int .u8 (x 2 0), .int .u8 (x 2 1), .int .u8 (x 2 2)] 55)
          have hq7 : Below w1.heap.size w3 (w3.alloc (.cells #[.int .u8 (x 0 0), .int .u8 (x 0 1), .int .u8 (x 0 2), .int .u8 (x 1 0), .int .u8 (x 1 1), .int .u8 (x 1 2), .int .u8 (x 2 0), .int .u8 (x 2 1), .int .u8 (x 2 2)] 55)).drew := hqa.drew
          have hO3 : (w3.alloc (.cells #[.int .u8 (x 0 0), .int .u8 (x 0 1), .int .u8 (x 0 2), .int .u8 (x 1 0), .int .u8 (x 1 1), .int .u8 (x 1 2), .int .u8 (x 2 0), .int .u8 (x 2 1), .int .u8 (x 2 2)] 55)).drew.ownsRow w1.heap.size 55 9 (.slice sa k sc) k C := hOd.alloc _
          have hSr : SlM (w3.alloc (.cells #[.int .u8 (x 0 0), .int .u8 (x 0 1), .int .u8 (x 0 2), .int .u8 (x 1 0), .int .u8 (x 1 1), .int .u8 (x 1 2), .int .u8 (x 2 0), .int .u8 (x 2 1), .int .u8 (x 2 2)] 55)).drew (.slice (some ⟨w3.heap.size, 0, none⟩) 1 1) [x] := (OwnG9.slice (base := w3.heap.size) (show OwnG9 _ _ _ [x] from own_r w3 x)).below (Below.refl _ _).drew
          clear kI g0 g1 g2 c0 h9 hO hOd
          go_wp2_with fail
          go_region_held3 (fun w' => (w'.cell? ⟨w.heap.size, 2, none⟩ = some (.slice (some ⟨b, off, none⟩) L.length cap) ∧ w'.cell? ⟨lb, lo + k, none⟩ = some (.int .i64 ((q : Nat) : Int)) ∧ ((w'.cell? ⟨b, off + q * 9, none⟩ = some (.int .u8 (x 0 0)) ∧ w'.cell? ⟨b, off + q * 9 + 1, none⟩ = some (.int .u8 (x 0 1)) ∧ w'.cell? ⟨b, off + q * 9 + 2, none⟩ = some (.int .u8 (x 0 2))) ∧ (w'.cell? ⟨b, off + q * 9 + 3, none⟩ = some (.int .u8 (x 1 0)) ∧ w'.cell? ⟨b, off + q * 9 + 4, none⟩ = some (.int .u8 (x 1 1)) ∧ w'.cell? ⟨b, off + q * 9 + 5, none⟩ = some (.int .u8 (x 1 2))) ∧ (w'.cell? ⟨b, off + q * 9 + 6, none⟩ = some (.int .u8 (x 2 0)) ∧ w'.cell? ⟨b, off + q * 9 + 7, none⟩ = some (.int .u8 (x 2 1)) ∧ w'.cell? ⟨b, off + q * 9 + 8, none⟩ = some (.int .u8 (x 2 2))))))
            (first | with_reducible exact KKh.out _ hq0 | with_reducible exact KKh.out _ hqr | with_reducible exact KKh.out _ hqa | with_reducible exact KKh.out _ hq7 | with_reducible exact KKh.out _ hq8)
            (first
            | (refine step_append_mats _ (by rfl) _ _ (by rfl) w1.heap.size (.slice sa k sc) k C (by rfl) hO3 (.slice (some ⟨w3.heap.size, 0, none⟩) 1 1) [x] (by rfl) hSr (by simp; omega) (by simp; omega) ?_
               intro v8 w8 hown8 hgrow8
               have hq8 : Below w1.heap.size w3 w8 := grown_below hq7 hO3 hgrow8 (by simp; omega)))
          all_goals
            have hO8 : w8.ownsRow w1.heap.size 55 9 v8 (k + 1) (cells9 (chosen L (l.take (k + 1)))) := by rw [HNC.out]; exact hown8
            go_wp2_with fail
            go_roundw
            case rel => exact ⟨k + 1, by omega, by go_num, HNA, hO8, hbD.trans hq8⟩
            case measure => simp [intOf]; omega
      · obtain rfl : k = l.length := by omega
        have HALL := Lib.hid (show l.all (inR L) = true from by have := HA.out; rwa [List.take_length] at this)
        have hSl : SlM wr (.slice sa l.length sc) (chosen L l) := by
          have h : wr.ownsRow w1.heap.size 55 9 (.slice sa l.length sc) (chosen L l).length (cells9 (chosen L l)) := by
            rw [show (chosen L l).length = l.length by simp [chosen]]
            rwa [List.take_length] at hO
          exact OwnG9.slice h
        have hcl : (chosen L l).length ≤ 1048576 := by simpa [chosen] using hll
        obtain ⟨⟨p2, p13⟩, _⟩ := isGrp_pn HX.out
        have HSO := Lib.hid (sof p m _ (chosen L l) wr p2 p13 m1 m3 hcl (fun g hg => ⟨(hmv g (chosen_in HALL.out g hg)).bound, (hmv g (chosen_in HALL.out g hg)).out⟩) hSl)
        have rRr := erow_below rrV hbel lr
        clear hSl hO HA hmv
        go_wp2_with fail
        ((with_reducible refine HSO.out.mono ?_); rintro e w4 ⟨⟨v4, O, rfl, hC, ho4⟩ | ⟨rfl, hO⟩, hb4⟩)
        · have HC := Lib.hid hC
          clear hC
          have r4 := erow_below rRr hb4 rRr.lt
          have hbel4 := hbwr.trans (hb4.mono hbwr.size)
          obtain ⟨va, vc, rfl⟩ := OwnG9.shape ho4
          obtain ⟨Y, hY, hbY, hYs⟩ : ∃ Y, Y = w4.alloc (.cells #[.int .i64 p, .int .i64 (m : Int), .slice va (sortM O).length vc] 26) ∧ Below w4.heap.size w4 Y ∧ w4.heap.size ≤ Y.heap.size := ⟨_, rfl, ebox1 _ _, by simp⟩
          have rY4 := erow_below r4 hbY r4.lt
          have hbelY := hbel4.trans (hbY.mono hbel4.size)
          have hoY := ho4.below hbY
          obtain ⟨S, hSo⟩ : ∃ S, sortM O = S := ⟨_, rfl⟩
          have HGR := Lib.hid (show SubRes p m L l ⟨p, m, S, 0⟩ from .inr (.inr ⟨HX.out, HALL.out, O, HC.out, by rw [hSo]⟩))
          rw [hSo] at hY hoY
          rw [hSo]
          clear hSo
          have qo := fun o => gcells (erow_below r4 (ebox1 w4 o) r4.lt)
          have f0 := fun o => (erow_below r4 (ebox1 w4 o) r4.lt).frozen 0
          have f1 := fun o => (erow_below r4 (ebox1 w4 o) r4.lt).frozen 1
          have f2 := fun o => (erow_below r4 (ebox1 w4 o) r4.lt).frozen 2
          clear g0 g1 g2
          go_wp2_with fail
          rw [← hY]
          have R := ((rY4.set 0 (.int .i64 p)).set 1 (.int .i64 m)).set 2 (.slice va S.length vc)
          have V0 := R.cell (i := 0) (by omega)
          have V1 := R.cell (i := 1) (by omega)
          have V2 := R.cell (i := 2) (by omega)
          have HB := ((hbelY.setCell (p := ⟨w.heap.size + 1, 0, none⟩) (by simp) (.int .i64 p)).setCell (p := ⟨w.heap.size + 1, 1, none⟩) (by simp) (.int .i64 m)).setCell (p := ⟨w.heap.size + 1, 2, none⟩) (by simp) (.slice va S.length vc)
          have hne : (Value.slice va S.length vc).ownBlock ≠ some (w.heap.size + 1) := fun e => by
            have := (World.ownsRow.lt hoY _ e).1
            have := rRr.lt
            omega
          have HSL := OwnG9.mono (mown_set (mown_set (mown_set hoY (w.heap.size + 1) 0 (.int .i64 p) hne) (w.heap.size + 1) 1 (.int .i64 m) hne) (w.heap.size + 1) 2 (.slice va S.length vc) hne) hbwr.size
          exact bodyPost_ret (v := .tuple #[.agg #[.int .i64 p, .int .i64 m, .slice va S.length vc], .int .i64 0]) (by simp [results, Try.results32, go_sem, V0, V1, V2]) rfl ⟨_, HGR.out, _, rfl, HSL, HB⟩
        · exact absurd hO (grp_not_over HX.out (chosen_in HALL.out))
end Go.Proofs.Ytpbdbgajohacoaa
