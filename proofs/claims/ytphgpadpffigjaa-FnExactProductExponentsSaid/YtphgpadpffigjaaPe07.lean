/-
  EXPONENTS, as the program adds them to its lists: one more is chosen, and what comes back. Conditions: as each theorem states.
  EXPONENTS, as the program adds them to its lists: the append that chooses one more. Conditions: as each theorem states.
  WALKS: 'impl.addExponents'. Conditions: as each theorem states.
  MONOMIALS of a degree: what they are. Conditions: as each theorem states.
  WALKS: 'spec.ProductExponents', 'impl.checkProducts', 'impl.ProductExponents'. Conditions: as each theorem states.
  EXPONENTS of products, in plain mathematics: how many lists at most. Conditions: as each theorem states.
-/
import Derived.Test.YtphgpadpffigjaaPe06
import Derived.Test.YtphgpadpffigjaaA
import Derived.Lib.Hide
namespace Go.Proofs.Ytphgpadpffigjaa
open Go.RowKit Go.Sort Go.Deep

/-- A number put behind those that are chosen: in their array, or in a new one; they themselves stay. -/
structure ChoN (w w4 : World) (B : Nat) (cv v4 : Value) (X : List Int) (x : Int) : Prop where
  new : OwnL w4 B v4 (X ++ [x])
  old : OwnL w4 B cv X
  grown : w.grownBy w4 cv.ownBlock
  lies : ∀ g, v4.ownBlock = some g → cv.ownBlock = some g ∨ w.heap.size ≤ g
  apart : cv.ownBlock = v4.ownBlock ∨ ∀ g, v4.ownBlock = some g → w.heap.size ≤ g

theorem OwnL.less {w w7 : World} {B : Nat} {cv v4 : Value} {X : List Int} {x : Int} (h1 : OwnL w B cv X) (h2 : OwnL w B v4 (X ++ [x])) (h3 : OwnL w7 B v4 (X ++ [x])) (he : cv.ownBlock = v4.ownBlock) : OwnL w7 B cv X := by
  obtain ⟨hl, h | ⟨g, cap, cur, rfl, hb, hh, hc, hm, hs, ht⟩⟩ := h1
  · exact ⟨hl, .inl h⟩
  · obtain ⟨_, h | ⟨g2, cap2, cur2, rfl, hb2, hh2, hc2, hm2, hs2, ht2⟩⟩ := h2
    · simp at h
    · simp [Value.ownBlock] at he
      subst he
      rw [hh] at hh2
      simp at hh2
      subst hh2
      have hcap : cap = cap2 := by omega
      subst hcap
      obtain ⟨_, h | ⟨g3, cap3, cur3, hv3, hb3, hh3, hc3, hm3, hs3, ht3⟩⟩ := h3
      · simp at h
      · simp at hv3
        obtain ⟨rfl, rfl⟩ := hv3
        refine ⟨hl, .inr ⟨g, cap, cur3, rfl, hb, hh3, hc, hm, hs3, ?_⟩⟩
        have h4 : (cur3.toList.take ((X ++ [x]).length * 1)).take (X.length * 1) = (valsI (X ++ [x])).take (X.length * 1) := by rw [ht3]
        rw [List.take_take] at h4
        rw [show min (X.length * 1) ((X ++ [x]).length * 1) = X.length * 1 by simp] at h4
        rw [h4]
        simp [valsI]

theorem AddSt.tail {w : World} {B L b d : Nat} {u cv sv : Value} {ds : List Nat} {X : List Int} {O : List Row3} (h : AddSt w B L (.pointer (some ⟨b, 0, none⟩)) cv sv (d :: ds) X O) (hu : w.cell? ⟨b, 1, none⟩ = some u) : AddSt w B L u cv sv ds X O := by
  obtain ⟨b', u', hv, h1, h2, h3, h4⟩ := h.fac
  simp at hv
  subst hv
  have h5 := h3.cell (i := 1) (by omega)
  rw [hu] at h5
  have h6 : u = u' := by simpa [facF] using h5
  subst h6
  exact ⟨h4, h.box, h.rows, h.cho, h.off⟩
theorem cho_kind {w : World} {B g N : Nat} {t : TypeId} {cv : Value} {X : List Int} {f : Nat → Value} (h : OwnL w B cv X) (hr : w.rowIs g t N f) (hne : 2 ≠ t) : some g ≠ cv.ownBlock := owns_ne h hr hne
theorem rows_cho {w : World} {B : Nat} {cv sv : Value} {X : List Int} {O : List Row3} (h : RowsM w B sv O) (hc : OwnL w B cv X) : sv.ownBlock = none ∨ sv.ownBlock ≠ cv.ownBlock := by
  rcases hs : sv.ownBlock with _ | g
  · exact .inl rfl
  · right
    intro e
    rcases owns_at h.owns with ⟨hv, _⟩ | ⟨g', cap, N, f, hv, _, _, hr, _⟩
    · rw [hv] at hs; simp [Value.ownBlock] at hs
    · rw [hv] at hs
      simp [Value.ownBlock] at hs
      subst hs
      exact owns_ne hc hr (by decide) e
theorem ChoN.fr {w w4 : World} {B L : Nat} {cv v4 sv : Value} {X : List Int} {x : Int} {o : Obj} (h : ChoN (w.alloc o) w4 B cv v4 X x) : AddFr w w4 L sv cv :=
  have hb := box1 w o
  ⟨h.grown.os.trans hb.os, h.grown.tape.trans hb.tape, h.grown.output.trans hb.output, Nat.le_trans hb.size h.grown.size, fun b h1 _ _ h4 =>
    (h.grown.block b (by simp; omega) (fun e => h4 e.symm)).trans (hb.block b h1)⟩
/-- What the call for the next factors finds. -/
theorem add_in {w w4 : World} {B L : Nat} {u cv v4 sv : Value} {ds : List Nat} {X : List Int} {O : List Row3} {x : Int} {o : Obj} (h : AddSt w B L u cv sv ds X O) (hc : ChoN (w.alloc o) w4 B cv v4 X x) : AddSt w4 B L u v4 sv ds (X ++ [x]) O := by
  have hb := box1 w o
  have hLn := cho_kind h.cho h.box (by decide)
  refine ⟨h.facKeep hc.fr, (erow_below h.box hb h.box.lt).of_block (hc.grown.block L (by have := h.box.lt; simp; omega) hLn), (h.rows.below hb).kept hc.grown (rows_cho h.rows h.cho) (fun e he e2 => h.off e.2.2 e2.symm (List.mem_map.2 ⟨e, he, rfl⟩)), hc.new, fun g hg hm => ?_⟩
  rcases hc.lies g hg with h1 | h1
  · exact h.off g h1 hm
  · obtain ⟨e, he, h2⟩ := List.mem_map.1 hm
    have := (h.rows.rows e he).lt
    simp at h1
    omega
/-- What the call for the next factors leaves, behind what was there. -/
theorem add_out {w wr w4 w7 : World} {B L : Nat} {fv u cv v4 sv svr : Value} {ds ds' : List Nat} {X : List Int} {O N : List Row3} {x : Int} {o : Obj} {E : List (List Int)}
    (hN1 : ∀ e ∈ N, w.heap.size ≤ e.2.2) (h : AddSt wr B L fv cv svr ds X (O ++ N)) (hs : ∀ g, svr.ownBlock = some g → sv.ownBlock = some g ∨ w.heap.size ≤ g) (hf : AddFr w wr L sv cv) (hc : ChoN (wr.alloc o) w4 B cv v4 X x)
    (hp : AddPost w4 w7 B L u v4 svr ds' (X ++ [x]) (O ++ N) E) : AddPost w w7 B L fv cv sv ds X O (N.map (·.2.1) ++ E) := by
  obtain ⟨sv7, N7, rfl, h2, h3, h4, h5⟩ := hp
  have hb := box1 wr o
  have hs4 : wr.heap.size + 1 ≤ w4.heap.size := by have := hc.grown.size; simpa using this
  have hfr : AddFr wr w7 L svr cv := by
    have h0 : AddFr wr w4 L svr cv := hc.fr
    exact ⟨h5.os.trans h0.os, h5.tape.trans h0.tape, h5.output.trans h0.output, Nat.le_trans h0.size h5.size, fun b q1 q2 q3 q4 =>
      (h5.block b (by omega) q2 q3 (fun e => by
        rcases hc.lies b e with r | r
        · exact q4 r
        · simp at r; omega)).trans (h0.block b q1 q2 q3 q4)⟩
  have hcho : OwnL w7 B cv X := by
    rcases hc.apart with ha | ha
    · exact OwnL.less hc.old hc.new h3.cho ha
    · refine OwnL.of_heapQ hc.old (fun g hg => ?_)
      have hgl := (World.ownsRow.lt h.cho g hg).2
      refine h5.block g (by omega) (fun e => ?_) (fun e => ?_) (fun e => ?_)
      · subst e; exact cho_kind h.cho h.box (by decide) hg.symm
      · rcases rows_cho h.rows h.cho with r | r
        · rw [e] at r; simp at r
        · exact r (e.trans hg.symm)
      · have := ha g e; simp at this; omega
  have hst : AddSt w7 B L fv cv sv7 ds X (O ++ (N ++ N7)) := ⟨h.facKeep hfr, h3.box, by have := h3.rows; rwa [List.append_assoc] at this, hcho, fun g hg hm => by
    rw [← List.append_assoc, List.map_append, List.mem_append] at hm
    rcases hm with hm | hm
    · exact h.off g hg hm
    · obtain ⟨e, he, r⟩ := List.mem_map.1 hm
      have := h2 e he
      have := (World.ownsRow.lt h.cho g hg).2
      omega⟩
  refine ⟨sv7, N ++ N7, by rw [List.map_append], fun e he => ?_, hst, fun g hg => ?_, hf.trans hfr hs⟩
  · rcases List.mem_append.1 he with r | r
    · exact hN1 e r
    · have := h2 e r
      have := hf.size
      omega
  · rcases h4 g hg with r | r
    · exact hs g r
    · have := hf.size
      exact .inr (by omega)
end Go.Proofs.Ytphgpadpffigjaa
namespace Go.Proofs.Ytphgpadpffigjaa
open Go.RowKit Go.Sort Go.Deep

theorem OwnL.front {w : World} {B g cap : Nat} {X : List Int} {x : Int} (h : OwnL w B (.slice (some ⟨g, 0, none⟩) (X.length + 1) cap) (X ++ [x])) : OwnL w B (.slice (some ⟨g, 0, none⟩) X.length cap) X := by
  obtain ⟨_, h | ⟨g3, cap3, cur3, hv3, hb3, hh3, hc3, hm3, hs3, ht3⟩⟩ := h
  · simp at h
  · simp at hv3
    obtain ⟨rfl, _, rfl⟩ := hv3
    have hc4 : X.length ≤ cap := by simp at hc3; omega
    refine ⟨by simp [valsI], .inr ⟨g, cap, cur3, rfl, hb3, hh3, hc4, hm3, hs3, ?_⟩⟩
    have h4 : (cur3.toList.take ((X ++ [x]).length * 1)).take (X.length * 1) = (valsI (X ++ [x])).take (X.length * 1) := by rw [ht3]
    rw [List.take_take] at h4
    rw [show min (X.length * 1) ((X ++ [x]).length * 1) = X.length * 1 by simp] at h4
    rw [h4]
    simp [valsI]
theorem ChoN.drew {w w4 : World} {B : Nat} {cv v4 : Value} {X : List Int} {x : Int} (h : ChoN w.drew w4 B cv v4 X x) : ChoN w w4 B cv v4 X x :=
  ⟨h.new, h.old, ⟨h.grown.os, h.grown.tape, h.grown.output, h.grown.size, h.grown.block⟩, h.lies, h.apart⟩

theorem run_append_cho (ty : TypeId) (w : World) (B : Nat) (cv : Value) (X : List Int) (x : Int) (hown : OwnL w B cv X) (hB : B ≤ w.heap.size) (hX : X.length ≤ 8) (g0 : Nat) (hnew : w.cell? ⟨g0, 0, none⟩ = some (.int .i64 x)) :
    ∃ gg cap w', (Builtin.append_ #[61, 61] ty #[cv, .slice (some ⟨g0, 0, none⟩) 1 1]).run Try.prog w = .ok (.slice (some ⟨gg, 0, none⟩) (X.length + 1) cap) w' ∧ ChoN w w' B cv (.slice (some ⟨gg, 0, none⟩) (X.length + 1) cap) X x := by
  obtain ⟨i0, hi, hz0, hz1, hz2⟩ := info_parts einfoI
  have hnews : ∀ j u, [Value.int .i64 x][j]? = some u → w.cell? ((⟨g0, 0, none⟩ : Addr).add j) = some u := fun j u hu => by
    cases j with
    | zero => simp at hu; subst hu; simpa [Addr.add] using hnew
    | succ j => simp at hu
  have h1c : ∀ u ∈ [Value.int .i64 x], u.oneCell' = true := by simp [Value.oneCell']
  have hvals : valsI (X ++ [x]) = valsI X ++ [.int .i64 x] := by simp [valsI]
  have hlen : (X ++ [x]).length = X.length + 1 := by simp
  have mk : ∀ {w' : World} {gg cap : Nat} {base : Nat}, w'.ownsRow base 2 1 (.slice (some ⟨gg, 0, none⟩) (X.length + 1) cap) (X.length + 1) (valsI X ++ [.int .i64 x]) → OwnL w' base (.slice (some ⟨gg, 0, none⟩) (X.length + 1) cap) (X ++ [x]) := fun h => by
    unfold OwnL
    rw [hlen, hvals]
    exact h
  rcases hown.2 with ⟨hv, h0⟩ | ⟨g, cap, cur, hv, hb, hh, hc, hm, hs, ht⟩
  · subst hv
    obtain ⟨gg, cap, w', hr, h2, h3, h4, h5⟩ := run_append_lies (P := Try.prog) w 61 ty B 2 i0 _ 1 8 Try.underlying61 hi hz0 hz1 hz2 rfl (by omega) (.slice none 0 0) X.length (valsI X) hown ⟨g0, 0, none⟩ 1 1 [.int .i64 x] rfl hnews h1c (by omega) (by unfold maxLen; omega) (by omega) hB _ rfl
    have hgg : gg = w.heap.size := by
      rcases h4 with h4 | h4
      · simp [Value.ownBlock] at h4
      · exact h4
    exact ⟨gg, cap, w', hr, mk h2, ⟨by simp [valsI], .inl ⟨rfl, h0⟩⟩, h3, fun g hg => .inr (by simp [Value.ownBlock] at hg; omega), .inr (fun g hg => by simp [Value.ownBlock] at hg; omega)⟩
  · subst hv
    by_cases hroom : X.length + 1 ≤ cap
    · obtain ⟨w', hr, h2, h3⟩ := run_append_own_spare (P := Try.prog) w B 61 ty 2 i0 1 Try.underlying61 hi hz1 g X.length cap (valsI X) hown ⟨g0, 0, none⟩ 1 1 [.int .i64 x] rfl hnews h1c hroom
      exact ⟨g, cap, w', hr, mk h2, (mk h2).front, h3, fun g hg => .inl hg, .inl rfl⟩
    · obtain ⟨v', w', hr, h2, h3⟩ := run_append_arg_grows (P := Try.prog) w 61 ty 2 i0 _ 1 8 Try.underlying61 hi hz0 hz1 hz2 rfl (by omega) ⟨g, 0, none⟩ X.length cap (valsI X) hown.1 (fun j u hu => World.ownsRow.cells hown (g := g) rfl j u hu) ⟨g0, 0, none⟩ 1 1 [.int .i64 x] rfl hnews (by omega) (by unfold maxLen; omega) (by omega)
      obtain ⟨gg, cap2, rfl, hgb, _⟩ := h2.form (by omega)
      exact ⟨gg, cap2, w', hr, (mk h2).mono hB, OwnL.of_heapQ hown (fun k hk => h3.block k (by have := (World.ownsRow.lt hown k hk).2; omega) (by simp)), ⟨h3.os, h3.tape, h3.output, h3.size, fun k hk _ => h3.block k hk (by simp)⟩, fun g hg => .inr (by simp [Value.ownBlock] at hg; omega), .inr (fun g hg => by simp [Value.ownBlock] at hg; omega)⟩

theorem step_append_cho (w : World) {ops : Array Oper} {o : Oper} {a : Act} {K : Act → World → Prop} {Q : Exit → Act → World → Prop} {E : Prop} (hgd : o.guard = none) (s x : Operand)
    (ho : o.op = .call { callee := .builtin .append, args := #[s, x], argTypes := #[61, 61] })
    (B : Nat) (cv : Value) (X : List Int) (xx : Int) (hs : a.eval s = cv) (hown : OwnL w B cv X) (hB : B ≤ w.heap.size) (hX : X.length ≤ 8) (g0 : Nat) (hx : a.eval x = .slice (some ⟨g0, 0, none⟩) 1 1) (hnew : w.cell? ⟨g0, 0, none⟩ = some (.int .i64 xx))
    (h : ∀ gg cap w', ChoN w w' B cv (.slice (some ⟨gg, 0, none⟩) (X.length + 1) cap) X xx → K (a.put o.dst (.slice (some ⟨gg, 0, none⟩) (X.length + 1) cap)) w') :
    if Region.wanted o (yielded ops a.tmps) = true then Oper.wp Try.prog o a w K Q else E := by
  have hw : Region.wanted o (yielded ops a.tmps) = true := by simp [Region.wanted, hgd]
  rw [if_pos hw]
  obtain ⟨gg, cap, w', hr, hc⟩ := run_append_cho o.type w B cv X xx hown hB hX g0 hnew
  unfold Oper.wp execOp
  simp only [ho, resolve, invoke, builtin, Sem.run_bind, Sem.run_pure, Result.andThen_ok, List.map_toArray, List.map_cons, List.map_nil, hs, hx, hr]
  exact h gg cap w' hc
end Go.Proofs.Ytphgpadpffigjaa
namespace Go.Proofs.Ytphgpadpffigjaa
open Go.RowKit Go.Sort Go.Deep

/-- What an adding of exponents does. -/
def AddOk (ds : List Nat) : Prop := ∀ (n B L : Nat) (fv cv sv : Value) (X : List Int) (O : List Row3) (w : World), n ≤ 12 → 0 < X.length + ds.length → X.length + ds.length ≤ 8 → O.length + 13 ^ ds.length ≤ 1000000000 → B ≤ w.heap.size → AddSt w B L fv cv sv ds X O →
  Calls Try.prog 36 #[.pointer (some ⟨L, 0, none⟩), cv, fv, .int .i64 (n : Int)] w fun e w' => e = .returned (.tuple #[]) ∧ AddPost w w' B L fv cv sv ds X O ((expL ds n).map (X ++ ·))

theorem addok_nil : AddOk [] := fun n B L fv cv sv X O w _ h1 h2 h3 hB h => by
  obtain rfl : fv = .pointer none := h.fac
  exact iadd_nil n B L cv sv X O w (by simpa using h1) (by simpa using h2) (by simp at h3; omega) hB h

theorem post_kept {wr w4 w7 : World} {B L b : Nat} {u cv v4 svr : Value} {ds : List Nat} {X : List Int} {O : List Row3} {x : Int} {o : Obj} {E : List (List Int)} (hc : ChoN (wr.alloc o) w4 B cv v4 X x)
    (hp : AddPost w4 w7 B L u v4 svr ds (X ++ [x]) O E) (hb : b < wr.heap.size) (h1 : b ≠ L) (h2 : svr.ownBlock ≠ some b) (h3 : cv.ownBlock ≠ some b) : w7.heap[b]? = wr.heap[b]? := by
  obtain ⟨_, _, _, _, _, _, h5⟩ := hp
  have hs := hc.grown.size
  simp at hs
  exact (h5.block b (by omega) h1 h2 (fun e => by
    rcases hc.lies b e with r | r
    · exact h3 r
    · simp at r; omega)).trans ((hc.fr (L := L) (sv := svr)).block b hb h1 h2 h3)

set_option maxRecDepth 8000 in
set_option maxHeartbeats 16000000 in
theorem addok_cons (d : Nat) (ds : List Nat) (hd : 1 ≤ d) (hds : ∀ x ∈ ds, 1 ≤ x) (ih : AddOk ds) : AddOk (d :: ds) := fun n B L fv cv sv X O w hn _ h8 hO hB h => by
  have HIH := Lib.hid ih
  obtain ⟨b, u, rfl, _, _, hrow, _⟩ := id h.fac
  have hb0 : w.cell? ⟨b, 0, none⟩ = some (.int .i64 (d : Int)) := hrow.cell (i := 0) (by omega)
  have hX8 : X.length ≤ 7 := by simp at h8; omega
  have hXd : X.length + ds.length ≤ 7 := by simp at h8; omega
  obtain ⟨M, hM⟩ : ∃ M : Nat, 13 ^ ds.length = M := ⟨_, rfl⟩
  have hOM : O.length + 13 * M ≤ 1000000000 := by rw [List.length_cons, Nat.pow_succ, hM, Nat.mul_comm] at hO; exact hO
  have HEX : Hid (expL (d :: ds) n = expT (fun k => expL ds (n - k * d)) (n / d) 0) := Lib.hid (by rw [expL])
  obtain ⟨f, hf⟩ : ∃ f : Nat → List (List Int), (fun k => expL ds (n - k * d)) = f := ⟨_, rfl⟩
  have HFK : Hid (∀ k, expL ds (n - k * d) = f k) := Lib.hid (fun k => by rw [← hf])
  obtain ⟨K, hK⟩ : ∃ K, n / d = K := ⟨_, rfl⟩
  have hK12 : K ≤ 12 := by rw [← hK]; exact Nat.le_trans (Nat.div_le_self _ _) hn
  have hKd : K * d ≤ n := by rw [← hK]; exact Nat.div_mul_le_self n d
  rw [hf, hK] at HEX
  have HLT : Hid (∀ j, (expT f K j).length ≤ (K + 1 - j) * M) := Lib.hid (fun j => expT_len f K M (fun k _ => by rw [← HFK.out k, ← hM]; exact expL_len ds _ hds (by omega)) (K + 1 - j) j rfl)
  have HKQ : Hid ((n : Int) / (d : Int) = (K : Int)) := Lib.hid (by rw [← hK]; simp)
  have hd0 : (d : Int) ≠ 0 := by omega
  have hdv : (n : Int) / (d : Int) = (K : Int) := HKQ.out
  have hdt : (n : Int).tdiv (d : Int) = (K : Int) := by rw [Int.tdiv_eq_ediv_of_nonneg (by omega)]; exact HKQ.out
  have hP0 : AddPost w w B L (.pointer (some ⟨b, 0, none⟩)) cv sv (d :: ds) X O ((expT f K (K + 1)).map (X ++ ·)) := by
    rw [expT_top]
    exact ⟨sv, [], rfl, by simp, by simpa using h, fun g hg => .inl hg, AddFr.refl _ _ _ _⟩
  clear hrow hf hK
  go_enter Try.func36, Try.ntmps36
  go_wp2_with fail
  go_loopw [8] (fun s8 wr => ∃ j : Nat, j ≤ K + 1 ∧ s8 = .int .i64 ((j : Int) - 1) ∧ AddPost w wr B L (.pointer (some ⟨b, 0, none⟩)) cv sv (d :: ds) X O ((expT f K j).map (X ++ ·))) (fun s8 _ => (intOf s8 + 1).toNat)
  case atStart => exact ⟨K + 1, Nat.le_refl _, congrArg (Value.int .i64) (by omega), hP0⟩
  case round =>
    clear hP0 hdv hdt hb0 h
    obtain ⟨j, hj, hi8, hP⟩ := hrel
    cases j with
    | zero =>
      have hi9 : u8 = .int .i64 (-1) := by rw [hi8]; simp
      subst hi9
      have HP : Hid (AddPost w wr B L (.pointer (some ⟨b, 0, none⟩)) cv sv (d :: ds) X O ((expL (d :: ds) n).map (X ++ ·))) := Lib.hid (by rw [HEX.out]; exact hP)
      clear hP hi8
      go_wp2_with fail
      go_end0
      exact ⟨rfl, HP.out⟩
    | succ j =>
      have hi9 : u8 = .int .i64 (j : Int) := by rw [hi8]; simp
      subst hi9
      clear hi8
      obtain ⟨svr, N, hNe, hN1, hst, hsr, hfr⟩ := hP
      obtain ⟨b', u', hbe, _, hbl, hrow, _⟩ := id hst.fac
      obtain rfl : b = b' := by simpa using hbe
      have hbL : b ≠ L := fun e => by
        obtain ⟨c, hc, _⟩ := hrow
        obtain ⟨c', hc', _⟩ := hst.box
        rw [e, hc'] at hc
        simp at hc
      have hbs : svr.ownBlock ≠ some b := fun e => owns_ne hst.rows.owns hrow (by decide) e.symm
      have hbc : cv.ownBlock ≠ some b := fun e => cho_kind hst.cho hrow (by decide) e.symm
      have hc1 : wr.cell? ⟨b, 1, none⟩ = some u' := hrow.cell (i := 1) (by omega)
      have htl := hst.tail hc1
      have KK : Hid (∀ w' : World, w'.heap[b]? = wr.heap[b]? → w'.cell? ⟨b, 1, none⟩ = some u' ∧ w'.cell? ⟨b, 0, none⟩ = some (.int .i64 (d : Int))) := Lib.hid (fun w' e => ⟨(hrow.of_block e).cell (i := 1) (by omega), (hrow.of_block e).cell (i := 0) (by omega)⟩)
      have hK0 : wr.drew.heap[b]? = wr.heap[b]? := rfl
      have hK1 : ∀ o, (wr.alloc o).drew.heap[b]? = wr.heap[b]? := fun o => (box1 wr o).block b hbl
      have hB' : B ≤ wr.heap.size := by have := hfr.size; omega
      have hown1 : ∀ o, OwnL (wr.alloc o).drew B cv X := fun o => World.ownsRow.alloc (w := wr) hst.cho o
      have hnew1 : (wr.alloc (.cells #[.int .i64 (j : Int)] 2)).drew.cell? ⟨wr.heap.size, 0, none⟩ = some (.int .i64 (j : Int)) := (World.rowIs_alloc wr #[.int .i64 (j : Int)] 2 (fun _ => .int .i64 (j : Int)) (fun i hi => by simp at hi; subst hi; rfl)).cell (i := 0) (by simp)
      obtain ⟨q, hq⟩ : ∃ q, n - j * d = q := ⟨_, rfl⟩
      have hjd : j * d ≤ n := Nat.le_trans (Nat.mul_le_mul_right d (show j ≤ K by omega)) hKd
      have hjd2 : ((j * d : Nat) : Int) = (j : Int) * (d : Int) := by simp
      have hq12 : q ≤ 12 := by omega
      have hmw : IntKind.i64.wrap ((j : Int) * (d : Int)) = (j : Int) * (d : Int) := IntWalk.i64_in _ (by omega)
      have hqe : (n : Int) - (j : Int) * (d : Int) = (q : Int) := by omega
      have hqw : IntKind.i64.wrap ((n : Int) - (j : Int) * (d : Int)) = (q : Int) := by rw [hqe]; exact IntWalk.i64_in _ (by omega)
      have HJ : Hid (N.map (·.2.1) ++ (expL ds q).map ((X ++ [(j : Int)]) ++ ·) = (expT f K j).map (X ++ ·)) := Lib.hid (by
        rw [hNe, expT_step f (show j ≤ K by omega), List.map_append, ← hq, HFK.out j, List.map_map]
        congr 1
        exact List.map_congr_left (fun r _ => by simp))
      have hNl : N.length ≤ 12 * M := by
        have h1 := HLT.out (j + 1)
        have h2 : N.length = (expT f K (j + 1)).length := by simpa using congrArg List.length hNe
        have h3 : (K + 1 - (j + 1)) * M ≤ 12 * M := Nat.mul_le_mul_right M (by omega)
        omega
      have hON : (O ++ N).length + 13 ^ ds.length ≤ 1000000000 := by rw [hM, List.length_append]; omega
      have hl1 : 0 < (X ++ [(j : Int)]).length + ds.length := by simp; omega
      have hl2 : (X ++ [(j : Int)]).length + ds.length ≤ 8 := by simp; omega
      have HC := Lib.hid (fun v4 w4 (hB4 : B ≤ w4.heap.size) (ha : AddSt w4 B L u' v4 svr ds (X ++ [(j : Int)]) (O ++ N)) => HIH.out q B L u' v4 svr (X ++ [(j : Int)]) (O ++ N) w4 hq12 hl1 hl2 hON hB4 ha)
      obtain ⟨ua, rfl⟩ := htl.fac.shape
      clear hq hjd2 hNl hON hl1 hl2 hNe hjd hqe
      go_upto_region 6 with fail
      go_region_held3 (fun w' => w'.cell? ⟨b, 1, none⟩ = some (.pointer ua) ∧ w'.cell? ⟨b, 0, none⟩ = some (.int .i64 (d : Int)))
        (first | with_reducible exact KK.out _ hK0 | with_reducible exact KK.out _ (hK1 _) | with_reducible exact KK.out _ hK4 | with_reducible exact KK.out _ hK7)
        (first
          | ((refine step_append_cho _ (by rfl) _ _ (by rfl) B cv X (j : Int) (by rfl) (hown1 _) (by simp; omega) (by omega) wr.heap.size (by rfl) hnew1 ?_
              intro gg cap4 w4 hc4'
              have hc4 := hc4'.drew
              have hK4 : w4.heap[b]? = wr.heap[b]? := (hc4.fr (L := L) (sv := svr)).block b hbl hbL hbs hbc))
          | ((with_reducible refine (HC.out _ w4 (Nat.le_trans hB' (hc4.fr (L := L) (sv := svr)).size) (add_in htl hc4)).mono ?_); rintro e w7 ⟨rfl, hp7⟩
             have hK7 : w7.heap[b]? = wr.heap[b]? := post_kept hc4 hp7 hbl hbL hbs hbc))
      all_goals
        have HP := add_out hN1 hst hsr hfr hc4 hp7
        rw [HJ.out] at HP
        have hdw : IntKind.i64.wrap ((j : Int) - 1) = (j : Int) - 1 := IntWalk.i64_in _ (by omega)
        clear hst hsr hfr hc4 hc4' hp7 hN1 hK4 htl hown1 hnew1 hrow hc1 hmw hqw
        go_wp2_with fail
        go_roundw
        case rel => exact ⟨j, by omega, rfl, HP⟩
        case measure => simp [intOf]
theorem iadd : ∀ ds : List Nat, (∀ x ∈ ds, 1 ≤ x) → AddOk ds
  | [], _ => addok_nil
  | d :: ds, h => addok_cons d ds (h d (by simp)) (fun x hx => h x (by simp [hx])) (iadd ds (fun x hx => h x (by simp [hx])))
end Go.Proofs.Ytphgpadpffigjaa
namespace Go.Proofs.Ytphgpadpffigjaa
open Go.RowKit Go.Sort

/-- The three cells of a monomial. -/
def cell3 (e : Int × Int × Int) : List Value := [.int .u8 e.1, .int .u8 e.2.1, .int .u8 e.2.2]
def cells3 (l : List (Int × Int × Int)) : List Value := l.flatMap cell3
theorem cells3_snoc (l : List (Int × Int × Int)) (e : Int × Int × Int) : cells3 (l ++ [e]) = cells3 l ++ cell3 e := by simp [cells3]
theorem cells3_length (l : List (Int × Int × Int)) : (cells3 l).length = 3 * l.length := by
  induction l with
  | nil => rfl
  | cons a l ih => simp only [cells3, List.flatMap_cons, List.length_append, List.length_cons] at ih ⊢; simp only [cell3, List.length_cons, List.length_nil]; omega

def pick (d x y z : Int) : List (Int × Int × Int) := if expsOk d x y z then [(x, y, z)] else []
def innerL (d : Int) (n s t : Nat) : List (Int × Int × Int) := (List.range t).flatMap fun (k : Nat) => pick d (n - s) (s - k) k
def outerL (d : Int) (n s : Nat) : List (Int × Int × Int) := (List.range s).flatMap fun k => innerL d n k (k + 1)
theorem innerL_zero (d : Int) (n s : Nat) : innerL d n s 0 = [] := rfl
theorem innerL_succ (d : Int) (n s t : Nat) : innerL d n s (t + 1) = innerL d n s t ++ pick d (n - s) (s - t) t := by simp [innerL, List.range_succ]
theorem outerL_succ (d : Int) (n s : Nat) : outerL d n (s + 1) = outerL d n s ++ innerL d n s (s + 1) := by simp [outerL, List.range_succ]
theorem pick_le (d x y z : Int) : (pick d x y z).length ≤ 1 := by unfold pick; split <;> simp
theorem innerL_le (d : Int) (n s t : Nat) : (innerL d n s t).length ≤ t := by
  induction t with
  | zero => simp [innerL_zero]
  | succ t ih => rw [innerL_succ, List.length_append]; have := pick_le d (n - s) (s - t) t; omega
theorem outerL_le (d : Int) (n s : Nat) : (outerL d n s).length ≤ s * s := by
  induction s with
  | zero => simp [outerL]
  | succ s ih => rw [outerL_succ, List.length_append]; have := innerL_le d n s (s + 1); simp only [Nat.mul_succ, Nat.succ_mul]; omega

theorem info52 : (Try.prog.info? 75).map (fun i => (i.zero, i.size, i.bytes)) = some (some (.agg #[.int .u8 0, .int .u8 0, .int .u8 0]), 3, 3) := by kernel_rfl

theorem owns_below {w w' : World} {base : Nat} {e : TypeId} {size : Nat} {v : Value} {n : Nat} {xs : List Value} (h : w.ownsRow base e size v n xs) (hb : Below w.heap.size w w') : w'.ownsRow base e size v n xs :=
  h.kept (row := none) ⟨hb.os, hb.tape, hb.output, hb.size, fun k hk _ => hb.block k hk⟩ (by cases v.ownBlock <;> simp)

/-- What a round that keeps the monomial does, away from the walk. -/
theorem round_keep {w wr w1 w2 : World} {o o' : Obj} {e : TypeId} {v v' : Value} {l : List (Int × Int × Int)} {x y z : Int} (hbel : Below w.heap.size w wr)
    (hown : wr.ownsRow w.heap.size e 3 v l.length (cells3 l)) (hb : Below (wr.alloc o).heap.size (wr.alloc o) w1)
    (hown2 : w2.ownsRow w.heap.size e 3 v' (l.length + 1) (cells3 l ++ [.int .u8 x, .int .u8 y, .int .u8 z])) (hg : (w1.alloc o').grownBy w2 v.ownBlock) :
    w2.ownsRow w.heap.size e 3 v' (l ++ [(x, y, z)]).length (cells3 (l ++ [(x, y, z)])) ∧ Below w.heap.size w w2 := by
  have hs := hbel.size
  have hs1 := hb.size
  simp only [World.size_alloc] at hs1
  refine ⟨by rw [cells3_snoc]; simpa [cell3] using hown2, ?_⟩
  exact ((((hbel.alloc hs _).trans (hb.mono (by simp; omega)))).alloc (by omega) _).grown hg (by simp; omega) (fun k hk => (hown.lt k hk).1)

theorem innerL_hit (d : Int) (n s t : Nat) (z : Int) (hz : z = t) (h : expsOk d (n - s) (s - t) z = true) : innerL d n s (t + 1) = innerL d n s t ++ [((n : Int) - s, (s : Int) - t, z)] := by
  subst hz; rw [innerL_succ]; simp [pick, h]
theorem innerL_miss (d : Int) (n s t : Nat) (z : Int) (hz : z = t) (h : expsOk d (n - s) (s - t) z = false) : innerL d n s (t + 1) = innerL d n s t := by
  subst hz; rw [innerL_succ]; simp [pick, h]
theorem round_skip {w wr w1 : World} {o : Obj} {e : TypeId} {v : Value} {l : List (Int × Int × Int)} (hbel : Below w.heap.size w wr)
    (hown : wr.ownsRow w.heap.size e 3 v l.length (cells3 l)) (hb : Below (wr.alloc o).heap.size (wr.alloc o) w1) :
    w1.ownsRow w.heap.size e 3 v l.length (cells3 l) ∧ Below w.heap.size w w1 := by
  have hs := hbel.size
  exact ⟨owns_below (hown.alloc _) hb, (hbel.alloc hs _).trans (hb.mono (by simp; omega))⟩

/-- Whether there is such a list; the list; the code. -/
def monB (d n : Int) : Bool := (decide (1 ≤ d) && decide (d ≤ 3)) && (decide (0 ≤ n) && decide (n ≤ 12))
def monL (d n : Int) : List (Int × Int × Int) := if monB d n then outerL d n.toNat (n.toNat + 1) else []
def monC (d n : Int) : Int := if monB d n then 0 else 2
theorem monL_le (d n : Int) : (monL d n).length ≤ 169 := by
  unfold monL
  split
  · rename_i h
    simp [monB] at h
    have h1 := outerL_le d n.toNat (n.toNat + 1)
    have h2 : (n.toNat + 1) * (n.toNat + 1) ≤ 13 * 13 := Nat.mul_le_mul (by omega) (by omega)
    omega
  · simp

theorem in_yes (n a b : Int) (w : World) (h1 : a ≤ n) (h2 : n ≤ b) : Calls Try.prog 52 #[.int .i64 n, .int .i64 a, .int .i64 b] w fun e w' => e = .returned (.bool true) ∧ w = w' :=
  (in_any n a b w).mono fun _ _ ⟨he, hw⟩ => ⟨by rw [he]; simp [h1, h2], hw⟩
theorem in_no (n a b : Int) (w : World) (h : n < a ∨ b < n) : Calls Try.prog 52 #[.int .i64 n, .int .i64 a, .int .i64 b] w fun e w' => e = .returned (.bool false) ∧ w = w' :=
  (in_any n a b w).mono fun _ _ ⟨he, hw⟩ => ⟨by rw [he]; congr 2; simp; omega, hw⟩

/-- What both functions promise. -/
def MonPost (d n : Int) (w : World) (e : Ending) (w' : World) : Prop :=
  ∃ v, e = .returned (.tuple #[v, .int .i64 (monC d n)]) ∧ w'.ownsRow w.heap.size 75 3 v (monL d n).length (cells3 (monL d n)) ∧ Below w.heap.size w w'

theorem vars_any (d : Int) (w : World) : Calls Try.prog 59 #[.int .i64 d] w fun e w' => e = .returned (.bool (decide (1 ≤ d) && decide (d ≤ 3))) ∧ w = w' := by
  by_cases h : 1 ≤ d
  all_goals
    go_enter Try.func59, Try.ntmps59
    go_wp2
    go_ret
    exact ⟨by simp; omega, rfl⟩
theorem degree_any (n : Int) (w : World) : Calls Try.prog 84 #[.int .i64 n] w fun e w' => e = .returned (.bool (decide (0 ≤ n) && decide (n ≤ 12))) ∧ w = w' := by
  by_cases h : 0 ≤ n
  all_goals
    go_enter Try.func84, Try.ntmps84
    go_wp2
    go_ret
    exact ⟨by simp; omega, rfl⟩
end Go.Proofs.Ytphgpadpffigjaa
namespace Go.Proofs.Ytphgpadpffigjaa
open Go.RowKit Go.Sort Go.Deep Go.Maps EchM

/-- The lists of exponents. -/
def expS (G : List Pm) (n : Int) : List (List Int) := if someC G n = 0 then expL (degsN G) n.toNat else []
theorem degs_pos {G : List Pm} (h : ∀ g ∈ G, DegOk g) : ∀ x ∈ degsN G, 1 ≤ x := fun x hx => by
  obtain ⟨g, hg, rfl⟩ := List.mem_map.1 hx
  have := (h g hg).2.1
  omega

set_option maxRecDepth 8000 in
set_option maxHeartbeats 4000000 in
theorem spe (lv : Value) (G : List Pm) (n : Int) (w : World) (hlG : G.length ≤ 1048576) (hok : ∀ g ∈ G, PmOk g) (hG : SlC w lv G) :
    Calls Try.prog 10 #[lv, .int .i64 n] w fun e w' => ∃ v', e = .returned (.tuple #[v', .int .i64 (someC G n)]) ∧ SlR w' v' (expS G n) ∧ Below w.heap.size w w' := by
  have HI := Lib.hid (ssome lv G n w hlG hok hG.slP)
  by_cases h : someC G n = 0
  · obtain ⟨⟨h0, h12⟩, _, h8, hdeg, _⟩ := someC_zero hok h
    obtain ⟨N, rfl⟩ := Int.eq_ofNat_of_zero_le h0
    have HE := Lib.hid (fun w' h' => sexps G lv N w' h8 (by omega) hdeg h')
    have HV : Hid (expS G (N : Int) = expL (degsN G) N) := Lib.hid (by unfold expS; rw [if_pos h]; simp)
    have hG2 := Lib.hid hG
    have HL : Hid ((expL (degsN G) N).length ≤ 1000000000) := Lib.hid (by
      have h1 := expL_len (degsN G) N (degs_pos hdeg) (by omega)
      have h2 : (degsN G).length = G.length := by simp [degsN]
      have h3 : 13 ^ (degsN G).length ≤ 13 ^ 8 := Nat.pow_le_pow_right (by omega) (by omega)
      have h4 : 13 ^ 8 ≤ 1000000000 := by decide
      omega)
    rw [h] at HI ⊢
    obtain ⟨a, cap, rfl, _⟩ := hG
    clear h hok hdeg
    go_enter Try.func10, Try.ntmps10
    go_wp2_with fail
    ((with_reducible refine HI.out.mono ?_); rintro e w1 ⟨rfl, hb1⟩)
    go_wp2_with fail
    ((with_reducible refine (HE.out w1 (hG2.out.below hb1)).mono ?_); rintro e w2 ⟨v2, rfl, hO2, hb2⟩)
    have hend := hb1.trans (hb2.mono hb1.size)
    have hsl : SlR w2 v2 (expS G (N : Int)) := by rw [HV.out]; exact OwnR.slice hO2
    obtain ⟨oa, oc, rfl⟩ := hO2.shape
    clear hO2
    go_wp2_with fail
    go_ret2
    exact ⟨_, rfl, hsl, hend⟩
  · have HV : Hid (expS G n = []) := Lib.hid (by unfold expS; rw [if_neg h])
    obtain ⟨C, hC⟩ : ∃ C, someC G n = C := ⟨_, rfl⟩
    rw [hC] at HI h ⊢
    have hc' : (C != 0) = true := by simpa using h
    obtain ⟨a, cap, rfl, _⟩ := hG
    clear hC h hok
    go_enter Try.func10, Try.ntmps10
    go_wp2_with fail
    ((with_reducible refine HI.out.mono ?_); rintro e w1 ⟨rfl, hb1⟩)
    go_wp2_with fail
    go_ret2
    exact ⟨_, rfl, by rw [HV.out]; exact ⟨_, _, rfl, .inl rfl⟩, hb1⟩

set_option maxRecDepth 8000 in
set_option maxHeartbeats 4000000 in
theorem icp (lv : Value) (G : List Pm) (n : Int) (w : World) (hlG : G.length ≤ 1048576) (hok : ∀ g ∈ G, PmOk g) (hG : SlP w lv G) :
    Calls Try.prog 35 #[lv, .int .i64 n] w fun e w' => e = .returned (.int .i64 (someC G n)) ∧ Below w.heap.size w w' := by
  have HI := Lib.hid (icl lv G w hlG hok hG)
  have HC : Hid (someC G n = if listC 1 G = 0 then (if 0 ≤ n ∧ n ≤ 12 then 0 else 2) else listC 1 G) := Lib.hid rfl
  obtain ⟨C, hC⟩ : ∃ C, listC 1 G = C := ⟨_, rfl⟩
  rw [hC] at HI HC
  obtain ⟨la, lc, rfl, _⟩ := id hG
  clear hok hG hC
  go_enter Try.func35, Try.ntmps35
  go_wp2_with fail
  ((with_reducible refine HI.out.mono ?_); rintro e w1 ⟨rfl, hb1⟩)
  by_cases hc : C = 0
  · subst hc
    by_cases hn : 0 ≤ n ∧ n ≤ 12
    · have HB : Hid ((decide (0 ≤ n) && decide (n ≤ 12)) = true) := Lib.hid (by simp [hn.1, hn.2])
      rw [if_pos rfl, if_pos hn] at HC
      go_wp2_with fail
      ((with_reducible refine (degree_any n _).mono ?_); rintro e w2 ⟨rfl, rfl⟩)
      rw [HB.out]
      go_wp2_with fail
      go_ret
      exact ⟨by rw [HC.out]; rfl, hb1⟩
    · have HB : Hid ((decide (0 ≤ n) && decide (n ≤ 12)) = false) := Lib.hid (by
        by_cases h1 : 0 ≤ n
        · rw [decide_eq_false (fun h2 => hn ⟨h1, h2⟩), Bool.and_false]
        · rw [decide_eq_false h1, Bool.false_and])
      rw [if_pos rfl, if_neg hn] at HC
      go_wp2_with fail
      ((with_reducible refine (degree_any n _).mono ?_); rintro e w2 ⟨rfl, rfl⟩)
      rw [HB.out]
      go_wp2_with fail
      go_ret
      exact ⟨by rw [HC.out]; rfl, hb1⟩
  · rw [if_neg hc] at HC
    have hc' : (C != 0) = true := by simpa using hc
    clear hc
    go_wp2_with fail
    go_ret
    exact ⟨by rw [HC.out]; rfl, hb1⟩

set_option maxRecDepth 8000 in
set_option maxHeartbeats 4000000 in
theorem ipe (lv : Value) (G : List Pm) (n : Int) (w : World) (hlG : G.length ≤ 1048576) (hok : ∀ g ∈ G, PmOk g) (hG : SlC w lv G) :
    Calls Try.prog 12 #[lv, .int .i64 n] w fun e w' => ∃ v', e = .returned (.tuple #[v', .int .i64 (someC G n)]) ∧ OwnRR w' w.heap.size v' (expS G n) ∧ Below w.heap.size w w' := by
  have HI := Lib.hid (icp lv G n w hlG hok hG.slP)
  by_cases h : someC G n = 0
  · obtain ⟨⟨h0, h12⟩, hl1, h8, hdeg, hpm⟩ := someC_zero hok h
    obtain ⟨N, rfl⟩ := Int.eq_ofNat_of_zero_le h0
    have hN : N ≤ 12 := by omega
    have hG1 := (listC_zero hok hl1).1
    have hds := degs_pos hdeg
    have hdl : (degsN G).length = G.length := by simp [degsN]
    have HF := Lib.hid (fun w' h' => ifacs G lv w' h8 (fun g hg => ⟨hdeg g hg, polyB_sum (hpm g hg)⟩) h')
    have HV : Hid (expS G (N : Int) = expL (degsN G) N) := Lib.hid (by unfold expS; rw [if_pos h]; simp)
    have hG2 := Lib.hid hG
    rw [h] at HI ⊢
    obtain ⟨a, cap, rfl, _⟩ := hG
    clear h hok hdeg hpm hl1
    go_enter Try.func12, Try.ntmps12
    go_wp2_with fail
    ((with_reducible refine HI.out.mono ?_); rintro e w1 ⟨rfl, hb1⟩)
    have s1 := hb1.size
    obtain ⟨w2, hw2, hb2, s2, hbox⟩ : ∃ w2, w2 = w1.alloc (.cells #[.slice none 0 0] 24) ∧ Below w1.heap.size w1 w2 ∧ w2.heap.size = w1.heap.size + 1 ∧ w2.rowIs w1.heap.size 24 1 (fun _ => .slice none 0 0) :=
      ⟨_, rfl, box1 _ _, by simp, World.rowIs_alloc w1 #[.slice none 0 0] _ _ (fun i hi => by simp at hi; subst hi; rfl)⟩
    go_wp2_with fail
    rw [← hw2]
    have hbw2 := hb1.trans (hb2.mono s1)
    clear hw2
    ((with_reducible refine (HF.out w2 (hG2.out.below hbw2)).mono ?_); rintro e w3 ⟨fv, rfl, hF, hb3⟩)
    have s3 := hb3.size
    have hbw3 := hbw2.trans (hb3.mono hbw2.size)
    have hST : AddSt w3 w.heap.size w1.heap.size fv (.slice none 0 0) (.slice none 0 0) (degsN G) [] [] :=
      ⟨hF.keep (by omega) (Nat.le_refl _) (fun _ _ _ _ _ _ => rfl), erow_below hbox hb3 hbox.lt, RowsM.nil _ _, ⟨by simp [valsI], .inl ⟨rfl, rfl⟩⟩, by simp⟩
    obtain ⟨fa, rfl⟩ := hF.shape
    have HA := Lib.hid (iadd (degsN G) hds N w.heap.size w1.heap.size _ _ _ [] [] w3 hN (by rw [hdl]; simp; omega) (by rw [hdl]; simpa using h8) (by
      have h3 : 13 ^ (degsN G).length ≤ 13 ^ 8 := Nat.pow_le_pow_right (by omega) (by omega)
      have h4 : 13 ^ 8 ≤ 1000000000 := by decide
      simp; omega) (by omega) hST)
    clear hST hF hb3 hbox hds
    go_wp2_with fail
    ((with_reducible refine HA.out.mono ?_); rintro e w4 ⟨rfl, sv, L, hL, _, hst, _, hfr⟩)
    have hbw4 : Below w.heap.size w w4 := hbw3.trans (hfr.below (by omega) s1 (by simp [Value.ownBlock]) (by simp [Value.ownBlock]))
    have hrr : OwnRR w4 w.heap.size sv (expS G (N : Int)) := by
      have h5 := hst.rows.rr
      rw [List.nil_append, hL] at h5
      rw [HV.out]
      simpa using h5
    have hc := hst.box.cell (i := 0) (by omega)
    obtain ⟨sa, sc, rfl⟩ := hst.rows.shape
    clear hst hfr hL
    go_wp2_with fail
    go_ret2
    exact ⟨_, rfl, hrr, hbw4⟩
  · have HV : Hid (expS G n = []) := Lib.hid (by unfold expS; rw [if_neg h])
    obtain ⟨C, hC⟩ : ∃ C, someC G n = C := ⟨_, rfl⟩
    rw [hC] at HI h ⊢
    have hc' : (C != 0) = true := by simpa using h
    obtain ⟨a, cap, rfl, _⟩ := hG
    clear hC h hok
    go_enter Try.func12, Try.ntmps12
    go_wp2_with fail
    ((with_reducible refine HI.out.mono ?_); rintro e w1 ⟨rfl, hb1⟩)
    go_wp2_with fail
    go_ret2
    exact ⟨_, rfl, by rw [HV.out]; exact OwnRR.none _ _, hb1⟩
end Go.Proofs.Ytphgpadpffigjaa
namespace Go.Proofs.Ytphgpadpffigjaa
open Go.RowKit Go.Sort Go.Deep Go.Maps EchM

theorem expT_two (f : Nat → List (List Int)) (K d l n : Nat) (hd : 1 ≤ d) (hK : K * d ≤ n) (hf : ∀ k, k ≤ K → (f k).length ≤ 2 ^ (l + (n - k * d))) : ∀ t j, K + 1 - j = t → j * d ≤ n → (expT f K j).length ≤ 2 ^ (l + 1 + (n - j * d))
  | 0, j, h, _ => by
    rw [expT, h]
    simp
  | t + 1, j, h, hj => by
    have hjK : j ≤ K := by omega
    rw [expT_step f hjK, List.length_append, List.length_map]
    have h2 := hf j hjK
    have e3 : l + 1 + (n - j * d) = l + (n - j * d) + 1 := by omega
    rw [e3, Nat.pow_succ]
    by_cases h1 : j + 1 ≤ K
    · have hj1 : (j + 1) * d ≤ n := Nat.le_trans (Nat.mul_le_mul_right d h1) hK
      have h3 := expT_two f K d l n hd hK hf t (j + 1) (by omega) hj1
      have e : (j + 1) * d = j * d + d := by rw [Nat.add_mul, Nat.one_mul]
      have h4 : 2 ^ (l + 1 + (n - (j + 1) * d)) ≤ 2 ^ (l + (n - j * d)) := Nat.pow_le_pow_right (by omega) (by omega)
      omega
    · have : j = K := by omega
      subst this
      rw [expT_top]
      simp
      omega
theorem expL_two : ∀ (ds : List Nat) (n : Nat), (∀ d ∈ ds, 1 ≤ d) → (expL ds n).length ≤ 2 ^ (ds.length + n)
  | [], n, _ => by
    have := Nat.two_pow_pos n
    rw [expL]
    split <;> simp
    omega
  | d :: r, n, h => by
    have hd := h d (by simp)
    have h1 := expT_two (fun k => expL r (n - k * d)) (n / d) d r.length n hd (Nat.div_mul_le_self n d) (fun k _ => expL_two r _ (fun x hx => h x (by simp [hx]))) _ 0 rfl (by omega)
    rw [expL]
    simpa using h1
theorem exp_size (G : List Pm) (n : Int) (hok : ∀ g ∈ G, PmOk g) : (expS G n).length ≤ 1048576 ∧ ∀ r ∈ expS G n, r.length ≤ 8 := by
  unfold expS
  by_cases h : someC G n = 0
  · rw [if_pos h]
    obtain ⟨⟨h0, h12⟩, _, h8, hdeg, _⟩ := someC_zero hok h
    have hdl : (degsN G).length = G.length := by simp [degsN]
    have h1 := expL_two (degsN G) n.toNat (degs_pos hdeg)
    have h2 : 2 ^ ((degsN G).length + n.toNat) ≤ 2 ^ 20 := Nat.pow_le_pow_right (by omega) (by omega)
    refine ⟨by have : 2 ^ 20 = 1048576 := by decide
               omega, fun r hr => ?_⟩
    rw [expL_row _ _ r hr, hdl]
    exact h8
  · rw [if_neg h]
    simp
end Go.Proofs.Ytphgpadpffigjaa
