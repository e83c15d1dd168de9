/-
  ENDLESS SERIES: one degree more. Conditions: as each theorem states.
  ENDLESS SERIES: impl.withDegree's inner function. Conditions: as each theorem states.
-/
import Derived.Test.YtbhgbifliihlbaaR11
namespace Go.Proofs.Ytbhgbifliihlbaa
open Go.RowKit Go.Sort Go.Shelf

attribute [local go_sem] Oper.semAt_some

/-- The series S with one degree more. -/
def dS (S : Nat → Int) (d k : Nat) : Int := if _h : 1 ≤ d ∧ d ≤ k then S k + dS S d (k - d) else S k
termination_by k
decreasing_by omega
theorem dS_lt {S : Nat → Int} {d k : Nat} (h : k < d) : dS S d k = S k := by rw [dS, dif_neg (by omega)]
theorem dS_ge {S : Nat → Int} {d k : Nat} (hd : 1 ≤ d) (h : d ≤ k) : dS S d k = S k + dS S d (k - d) := by rw [dS, dif_pos ⟨hd, h⟩]
def lsS (D : Nat → Int) (n : Nat) : List Int := (List.range n).map D
theorem lsS_len (D : Nat → Int) (n : Nat) : (lsS D n).length = n := by simp [lsS]
theorem lsS_succ (D : Nat → Int) (n : Nat) : lsS D (n + 1) = lsS D n ++ [D n] := by simp [lsS, List.range_succ]
theorem lsS_get (D : Nat → Int) (n k : Nat) (h : k < (lsS D n).length) : (lsS D n)[k] = D k := by simp [lsS]

def dgFp (B q : Nat) (v : Value) (fo : Nat → Prop) : Nat → Prop := fun b => b = B ∨ b = B + 1 ∨ b = q ∨ v.ownBlock = some b ∨ fo b
/-- A round's state: n numbers are kept, m of them were yielded. -/
structure DgI (oq : Option Obj) (B q l d : Nat) (D : Nat → Int) (J : List Int → (Nat → Prop) → World → Prop) (n m : Nat) (fp : Nat → Prop) (v : Value) (fo : Nat → Prop) (W : World) : Prop where
  fp : fp = dgFp B q v fo
  yb : W.rowIs B 61 1 (fun _ => .func (.yield l) #[] #[])
  vb : W.rowIs (B + 1) 37 1 (fun _ => v)
  qb : W.rowIs q 2 1 (fun _ => .int .i64 (d : Int))
  qo : W.heap[q]? = oq
  row : OwnL W (B + 2) v (lsS D n)
  j : J (lsS D m) fo W
  lt : ∀ b, fo b → b < W.heap.size
  off : ∀ b, fo b → b ≠ B ∧ b ≠ B + 1 ∧ b ≠ q ∧ v.ownBlock ≠ some b
variable {oq : Option Obj} {B q l d : Nat} {D : Nat → Int} {J J' : List Int → (Nat → Prop) → World → Prop} {n m m' : Nat} {fp fo fo' : Nat → Prop} {v v' : Value} {A W W1 : World}
theorem DgI.frame (h : DgI oq B q l d D J n m fp v fo A) (hJ : ∀ pre fp A B, J pre fp A → Frm fp A B → J pre fp B) (hf : Frm fp A W) : DgI oq B q l d D J n m fp v fo W := by
  have hfp := h.fp
  subst hfp
  exact ⟨rfl, h.yb.of_block (hf.same _ h.yb.lt (.inl rfl)), h.vb.of_block (hf.same _ h.vb.lt (.inr (.inl rfl))), h.qb.of_block (hf.same _ h.qb.lt (.inr (.inr (.inl rfl)))), (hf.same _ h.qb.lt (.inr (.inr (.inl rfl)))).trans h.qo,
    h.row.of_heap (fun g hg => hf.same g (World.ownsRow.lt h.row g hg).2 (.inr (.inr (.inr (.inl hg))))), hJ _ _ _ _ h.j (hf.mono fun b _ hb => .inr (.inr (.inr (.inr hb)))), fun b hb => Nat.lt_of_lt_of_le (h.lt b hb) hf.size, h.off⟩
theorem DgI.below (h : DgI oq B q l d D J n m fp v fo A) : ∀ b, fp b → b < A.heap.size := fun b hb => by
  have hfp := h.fp
  subst hfp
  rcases hb with rfl | rfl | rfl | hb | hb
  · exact h.yb.lt
  · exact h.vb.lt
  · exact h.qb.lt
  · exact (World.ownsRow.lt h.row b hb).2
  · exact h.lt b hb
theorem DgI.more {x : Int} {o : Obj} (h : DgI oq B q l d D J n m fp v fo A) (hJ : ∀ pre fp A B, J pre fp A → Frm fp A B → J pre fp B) (hx : x = D n) (hB : B + 2 ≤ A.heap.size) (hq : q < B)
    (ho : OwnL W1 (B + 2) v' (lsS D n ++ [x])) (hg : (A.alloc o).grownBy W1 v.ownBlock) (hv : v'.ownBlock = v.ownBlock ∨ v'.ownBlock = some (A.alloc o).heap.size) :
    W1.rowIs (B + 1) 37 1 (fun _ => v) ∧ DgI oq B q l d D J (n + 1) m (dgFp B q v' fo) v' fo (W1.setCell ⟨B + 1, 0, none⟩ v') ∧ Frm (fun b => ¬ fp b) A (W1.setCell ⟨B + 1, 0, none⟩ v') ∧ ∀ b, dgFp B q v' fo b → fp b ∨ A.heap.size ≤ b := by
  have hfp := h.fp
  subst hfp
  have hne : ∀ b, b < B + 2 → some b ≠ v.ownBlock := fun b hb e => by have := (World.ownsRow.lt h.row b e.symm).1; omega
  have hne' : ∀ b, b < B + 2 → v'.ownBlock ≠ some b := fun b hb e => by have := (World.ownsRow.lt ho b e).1; omega
  have y1 : W1.rowIs B 61 1 (fun _ => .func (.yield l) #[] #[]) := (h.yb.alloc o).of_block (hg.block _ (h.yb.alloc o).lt (hne _ (by omega)))
  have q1 : W1.rowIs q 2 1 (fun _ => .int .i64 (d : Int)) := (h.qb.alloc o).of_block (hg.block _ (h.qb.alloc o).lt (hne _ (by omega)))
  have v1 : W1.rowIs (B + 1) 37 1 (fun _ => v) := (h.vb.alloc o).of_block (hg.block _ (h.vb.alloc o).lt (hne _ (by omega)))
  have qq : (W1.setCell ⟨B + 1, 0, none⟩ v').heap[q]? = oq := ((Below.heap_setCell W1 ⟨B + 1, 0, none⟩ v' q (by simp; omega)).trans ((hg.block _ (h.qb.alloc o).lt (hne _ (by omega))).trans (Below.heap_alloc A o q h.qb.lt))).trans h.qo
  have hF : Frm fo A (W1.setCell ⟨B + 1, 0, none⟩ v') := ((Frm.alloc _ A o).trans (Frm.grown hg fun b _ hb e => (h.off b hb).2.2.2 e.symm)).trans (Frm.setCell _ (fun hb => (h.off _ hb).2.1 rfl))
  refine ⟨v1, ⟨rfl, y1.setOther (by simp) _, (v1.set 0 v').congr (fun i hi => by simp; omega), q1.setOther (by simp; omega) _, qq, ?_, hJ _ _ _ _ h.j hF, fun b hb => Nat.lt_of_lt_of_le (h.lt b hb) hF.size, fun b hb => ?_⟩, ?_, fun b hb => ?_⟩
  · rw [lsS_succ, ← hx]
    exact ho.of_heap (fun g hgg => Below.heap_setCell W1 ⟨B + 1, 0, none⟩ v' g (fun e => hne' (B + 1) (by omega) (by rw [hgg, e])))
  · obtain ⟨h1, h2, h3, h4⟩ := h.off b hb
    refine ⟨h1, h2, h3, fun e => ?_⟩
    rcases hv with e' | e'
    · exact h4 (by rw [← e']; exact e)
    · have hb2 := h.lt b hb
      rw [e'] at e; simp at e; omega
  · refine ((Frm.alloc _ A o).trans (Frm.grown hg fun b _ hb e => hb (.inr (.inr (.inr (.inl e.symm)))))).trans (Frm.setCell _ (fun hb => hb (.inr (.inl rfl))))
  · rcases hb with rfl | rfl | rfl | hb | hb
    · exact .inl (.inl rfl)
    · exact .inl (.inr (.inl rfl))
    · exact .inl (.inr (.inr (.inl rfl)))
    · rcases hv with e | e
      · exact .inl (.inr (.inr (.inr (.inl (by rw [← e]; exact hb)))))
      · rw [e] at hb; simp at hb; exact .inr (by omega)
    · exact .inl (.inr (.inr (.inr (.inr hb))))
theorem DgI.yielded (h : DgI oq B q l d D J n m fp v fo A) (hf : Frm (fun b => ¬ fo b) A W) (hs : ∀ b, fo' b → fo b ∨ A.heap.size ≤ b) (hl : ∀ b, fo' b → b < W.heap.size) (hj : J' (lsS D m') fo' W) :
    DgI oq B q l d D J' n m' (dgFp B q v fo') v fo' W ∧ Frm (fun b => ¬ fp b) A W ∧ ∀ b, dgFp B q v fo' b → fp b ∨ A.heap.size ≤ b := by
  have hfp := h.fp
  subst hfp
  refine ⟨⟨rfl, h.yb.of_block (hf.same _ h.yb.lt fun hb => (h.off _ hb).1 rfl), h.vb.of_block (hf.same _ h.vb.lt fun hb => (h.off _ hb).2.1 rfl), h.qb.of_block (hf.same _ h.qb.lt fun hb => (h.off _ hb).2.2.1 rfl), (hf.same _ h.qb.lt fun hb => (h.off _ hb).2.2.1 rfl).trans h.qo,
    h.row.of_heap (fun g hg => hf.same g (World.ownsRow.lt h.row g hg).2 fun hb => (h.off _ hb).2.2.2 hg), hj, hl, fun b hb => ?_⟩, hf.mono fun b _ hb hb' => hb (.inr (.inr (.inr (.inr hb')))), fun b hb => ?_⟩
  · rcases hs b hb with h1 | h1
    · exact h.off b h1
    · have h2 := h.yb.lt
      have h3 := h.vb.lt
      have h4 := h.qb.lt
      refine ⟨by omega, by omega, by omega, fun e => ?_⟩
      have := (World.ownsRow.lt h.row b e).2
      omega
  · rcases hb with rfl | rfl | rfl | hb | hb
    · exact .inl (.inl rfl)
    · exact .inl (.inr (.inl rfl))
    · exact .inl (.inr (.inr (.inl rfl)))
    · exact .inl (.inr (.inr (.inr (.inl hb))))
    · exact (hs b hb).imp (fun h1 => .inr (.inr (.inr (.inr h1)))) id
end Go.Proofs.Ytbhgbifliihlbaa
namespace Go.Proofs.Ytbhgbifliihlbaa
open Go.RowKit Go.Sort Go.Shelf

attribute [local go_sem] Oper.semAt_some

set_option maxRecDepth 100000 in
set_option maxHeartbeats 4000000 in
theorem deg_seq (n N d : Nat) (_hn : 1 ≤ n) (hd1 : 1 ≤ d) (hN : N ≤ 1000) (S : Nat → Int) (hB : ∀ k, k < N → -9223372036854775808 ≤ dS S d k ∧ dS S d k ≤ 9223372036854775807)
    (sv : Value) (w0 w : World) (sb q : Nat) (hS : SerV sv S N w0) (hw : Below w0.heap.size w0 w) (hq0 : w0.heap.size ≤ q) (hsv : w.rowIs sb 96 1 (fun _ => sv)) (hdv : w.rowIs q 2 1 (fun _ => .int .i64 (d : Int))) :
    SeqE Fence.wide n Try.prog 133 #[.pointer (some ⟨sb, 0, none⟩), .pointer (some ⟨q, 0, none⟩)] (dS S d) N w := by
  intro l J Jx fp W hW hfp0 hJf hXf hJb hY h0
  obtain ⟨gf, lb, rfl, eg, hseq⟩ := hS
  obtain ⟨i0, hi, hz0, hz1, hz2⟩ := info_parts einfoI
  have hge := hW.size
  have hsvl := hsv.lt
  have hdvl := hdv.lt
  have hJb0 := (hJb _ _ _ h0).2
  have cs0 := (((erow_below hsv hW hsvl).alloc (.cells #[.func (.yield l) #[] #[]] 61)).alloc (.cells #[.slice none 0 0] 37)).cell (i := 0) (by omega)
  have hqW := erow_below hdv hW hdvl
  refine callsIn_wide.2 ((callsIn_wide (n := 9)).1 ?_)
  refine callsIn_of_wp_marks Try.func133 rfl trivial ?_ rfl
  simp only [Try.ntmps133, List.size_toArray, List.length_cons, List.length_nil, Nat.reduceAdd, Nat.reduceSub, Array.replicate_succ, Array.replicate_zero, List.push_toArray, List.append_toArray, List.nil_append, List.cons_append]
  gi_wp2
  obtain ⟨W0, hW0, hb0, hI0, hF0⟩ : ∃ W0, W0 = (W.alloc (.cells #[.func (.yield l) #[] #[]] 61)).alloc (.cells #[.slice none 0 0] 37) ∧ Below W.heap.size W W0 ∧
      DgI (W.heap[q]?) W.heap.size q l d (dS S d) J 0 0 (dgFp W.heap.size q (.slice none 0 0) fp) (.slice none 0 0) fp W0 ∧ (∀ fp, Frm fp W W0) := by
    have hF : ∀ fp, Frm fp W ((W.alloc (.cells #[.func (.yield l) #[] #[]] 61)).alloc (.cells #[.slice none 0 0] 37)) := fun fp => (Frm.alloc fp W _).trans (Frm.alloc fp _ _)
    refine ⟨_, rfl, ebox2 _ _ _, ⟨rfl, ?_, ?_, ?_, (hF (fun _ => True)).same _ hqW.lt trivial, World.ownsRow_nil _ _ _ _, hJf _ _ _ _ h0 (hF fp), fun b hb => Nat.lt_of_lt_of_le (hJb0 b hb) (hF fp).size, fun b hb => ?_⟩, hF⟩
    · exact (World.rowIs_alloc W #[.func (.yield l) #[] #[]] _ (fun _ => .func (.yield l) #[] #[]) (fun i hi => by simp at hi; subst hi; rfl)).alloc _
    · have h := World.rowIs_alloc (W.alloc (.cells #[.func (.yield l) #[] #[]] 61)) #[.slice none 0 0] 37 (fun _ => .slice none 0 0) (fun i hi => by simp at hi; subst hi; rfl)
      rw [World.size_alloc] at h
      exact h
    · exact (hqW.alloc _).alloc _
    · have h1 := hJb0 b hb
      have h2 := hfp0 b hb
      exact ⟨by omega, by omega, by omega, by simp [Value.ownBlock]⟩
  rw [← hW0]
  clear hW0
  have hs0 := hb0.size
  have hwW0 : Below w0.heap.size w0 W0 := (hw.trans (hW.mono hw.size)).trans (hb0.mono (by have := hw.size; omega))
  have hw0s := hw.size
  clear cs0
  refine wpIn_range_E rfl (show 1 ≤ 9 by decide) (gf := gf) (lb := lb) rfl trivial eg (hseq 8 (by omega)) hwW0 rfl
    (fun pre fq A => pre.length < N ∧ ∃ v fo, DgI (W.heap[q]?) W.heap.size q l d (dS S d) J pre.length pre.length fq v fo A ∧ (∀ b, fo b → fp b ∨ W.heap.size ≤ b))
    (fun c pre fq A => c = .ret ∧ ∃ v fo, DgI (W.heap[q]?) W.heap.size q l d (dS S d) Jx pre.length pre.length fq v fo A ∧ (∀ b, fo b → fp b ∨ W.heap.size ≤ b))
    (fun pre fq A B ⟨h1, v, fo, h2, h3⟩ hf => ⟨h1, v, fo, h2.frame hJf hf, h3⟩) (fun c pre fq A B ⟨h1, v, fo, h2, h3⟩ hf => ⟨h1, v, fo, h2.frame (fun pre fp A B h hf => hXf pre fp A h B hf) hf, h3⟩)
    (fun pre fq A ⟨h1, v, fo, h2, h3⟩ => ⟨h1, h2.below⟩)
    (dgFp W.heap.size q (.slice none 0 0) fp) (fun b hb => ?_) ⟨by have := (hJb _ _ _ h0).1; simpa using this, _, _, hI0, fun b hb => .inl hb⟩ ?round ?stop
  · rcases hb with rfl | rfl | rfl | h | h
    · omega
    · omega
    · omega
    · simp [Value.ownBlock] at h
    · have := hfp0 b h; omega
  case round =>
    rintro l1 pre fq W1 ⟨hlen, v, fo, hI, hfo⟩ hfq
    gi_wp2
    refine ⟨fq, Frm.refl _ _, fun b h => .inl h, hI.below, fun W2 hf2 => ?_⟩
    have hI2 := hI.frame hJf hf2
    have hfp := hI2.fp
    subst hfp
    have c0 := hI2.qb.cell (i := 0) (by omega)
    have c1 := hI2.vb.cell (i := 0) (by omega)
    have c2 := hI2.yb.cell (i := 0) (by omega)
    have f1 := hI2.vb.frozen 0
    obtain ⟨a, c, hv⟩ := hI2.row.shape
    have hB2 : W.heap.size + 2 ≤ W2.heap.size := by have := hI2.vb.lt; omega
    have hqB : q < W.heap.size := by omega
    rw [lsS_len] at hv
    have hlenv : ∀ w, Sem.run Try.prog (Builtin.len_ #[37] 3 #[v]) w = .ok (.int .i64 (pre.length : Int)) w := fun w => by rw [hv]; rfl
    clear hv
    have HLN : Hid ((pre ++ [S pre.length]).length = pre.length + 1) := Lib.hid (by simp)
    have HFW : Hid (∀ b, fo b → w.heap.size ≤ b) := Lib.hid (fun b hb => (hfo b hb).elim (hfp0 b) (fun h => by omega))
    have HFO := Lib.hid hfo
    have HRW : Hid (W2.ownsRow (W.heap.size + 2) 2 1 v pre.length (valsI (lsS (dS S d) pre.length))) := Lib.hid (by have h := hI2.row; unfold OwnL at h; rwa [lsS_len] at h)
    have HI2 := Lib.hid hI2
    clear hI hI2 hfq hf2
    by_cases hge2 : d ≤ pre.length
    · obtain ⟨j, hj⟩ : ∃ j, pre.length = d + j := ⟨pre.length - d, by omega⟩
      obtain ⟨g, cap, hvv, hg1, hg2, hcell⟩ := HI2.out.row.form (by rw [lsS_len]; omega)
      rw [lsS_len] at hvv
      have c3 := hcell j (by rw [lsS_len]; omega)
      rw [lsS_get] at c3
      clear hcell
      have hdS := dS_ge (S := S) hd1 hge2
      rw [show pre.length - d = j by omega] at hdS
      have hbb := hB pre.length hlen
      have hjj : (pre.length : Int) - (d : Int) = (j : Int) := by omega
      have hwD : wrap64 (S pre.length + dS S d j) = dS S d pre.length := by rw [← hdS]; exact IntWalk.wrap64_in _ (by omega)
      have hjl : j < pre.length := by omega
      have hidx : ∀ w, Sem.run Try.prog (Instr.indexAt 37 v (.int .i64 (j : Int))) w = .ok (.pointer (some ⟨g, j, none⟩)) w := fun w => by
        rw [hvv]
        simp [go_sem, hjl]
      clear hvv hjl
      have HX : Hid (dS S d pre.length = dS S d pre.length) := Lib.hid rfl
      have HJ := Lib.hid hj
      clear hj hdS hbb
      gi_wp2_with (gi_at_builtin; go_loud (refine wpListIn_append_own_at _ rfl _ _ 37 rfl (W.heap.size + 2) 2 i0 _ 1 8 Try.underlying37 hi hz0 hz1 hz2 rfl (by decide) v pre.length (valsI (lsS (dS S d) pre.length)) rfl (World.ownsRow.alloc HRW.out _) ⟨W2.heap.size, 0, none⟩ 1 1 [.int .i64 (dS S d pre.length)] rfl rfl (World.news_of_block (cs := #[.int .i64 (dS S d pre.length)]) (t := 2) (fr := (0, 0)) (heap_alloc_new W2 _)) (by simp [Value.oneCell']) (by unfold maxLen; omega) (by omega) (by simp; omega) ?_; intro v' w1 hown' hgrow _ hblk; obtain ⟨g', cap', rfl⟩ := ownsRow_succ hown'; obtain ⟨u1, u2, u3, u4⟩ := DgI.more (x := (dS S d pre.length)) HI2.out hJf HX.out hB2 hqB (by have h := hown'; rw [valsI_snoc] at h; simpa [OwnL, lsS_len] using h) hgrow hblk; have e1 := u1.cell (i := 0) (by omega); have e2 := u1.frozen 0; have e3 := u2.yb.cell (i := 0) (by omega); have hyy := yield_any 6 (hY _ _ _ HFW.out u2.j); rw [lsS_len] at hyy; obtain ⟨fn3, tmps3, assign3, body3, hy3, hR3⟩ := hyy))
      refine hR3.mono ?_
      rintro e W4 ⟨fo4, hF4, hs4, hl4, (⟨rfl, hJ4⟩ | ⟨rfl, hJ4⟩)⟩
      · obtain ⟨d1, d2, d3⟩ := u2.yielded (J' := J) (m' := pre.length + 1) hF4 hs4 hl4 (by rw [lsS_succ]; exact hJ4)
        have hlt4 := (hJb _ _ _ hJ4).1
        rw [List.length_append, lsS_len] at hlt4
        have hz3 := u3.size
        clear hy3
        gi_wp2
        exact ⟨_, u3.then d2 u4, fun b hb => (d3 b hb).elim (u4 b) (fun h => .inr (by omega)), d1.below, by rw [HLN.out]; exact hlt4, _, _, by rw [HLN.out]; exact d1, fun b hb => (hs4 b hb).elim (HFO.out b) (fun h => .inr (by omega))⟩
      · obtain ⟨d1, d2, d3⟩ := u2.yielded (J' := Jx) (m' := pre.length + 1) hF4 hs4 hl4 (by rw [lsS_succ]; exact hJ4)
        have hz3 := u3.size
        clear hy3
        gi_wp2
        exact ⟨_, u3.then d2 u4, fun b hb => (d3 b hb).elim (u4 b) (fun h => .inr (by omega)), d1.below, rfl, _, _, by rw [HLN.out]; exact d1, fun b hb => (hs4 b hb).elim (HFO.out b) (fun h => .inr (by omega))⟩
    · have hdS := dS_lt (S := S) (d := d) (k := pre.length) (by omega)
      have HX := Lib.hid hdS.symm
      clear hdS
      gi_wp2_with (gi_at_builtin; go_loud (refine wpListIn_append_own_at _ rfl _ _ 37 rfl (W.heap.size + 2) 2 i0 _ 1 8 Try.underlying37 hi hz0 hz1 hz2 rfl (by decide) v pre.length (valsI (lsS (dS S d) pre.length)) rfl (World.ownsRow.alloc HRW.out _) ⟨W2.heap.size, 0, none⟩ 1 1 [.int .i64 (S pre.length)] rfl rfl (World.news_of_block (cs := #[.int .i64 (S pre.length)]) (t := 2) (fr := (0, 0)) (heap_alloc_new W2 _)) (by simp [Value.oneCell']) (by unfold maxLen; omega) (by omega) (by simp; omega) ?_; intro v' w1 hown' hgrow _ hblk; obtain ⟨g', cap', rfl⟩ := ownsRow_succ hown'; obtain ⟨u1, u2, u3, u4⟩ := DgI.more (x := (S pre.length)) HI2.out hJf HX.out hB2 hqB (by have h := hown'; rw [valsI_snoc] at h; simpa [OwnL, lsS_len] using h) hgrow hblk; have e1 := u1.cell (i := 0) (by omega); have e2 := u1.frozen 0; have e3 := u2.yb.cell (i := 0) (by omega); have hyy := yield_any 6 (hY _ _ _ HFW.out u2.j); rw [lsS_len, ← HX.out] at hyy; obtain ⟨fn3, tmps3, assign3, body3, hy3, hR3⟩ := hyy))
      refine hR3.mono ?_
      rintro e W4 ⟨fo4, hF4, hs4, hl4, (⟨rfl, hJ4⟩ | ⟨rfl, hJ4⟩)⟩
      · obtain ⟨d1, d2, d3⟩ := u2.yielded (J' := J) (m' := pre.length + 1) hF4 hs4 hl4 (by rw [lsS_succ, ← HX.out]; exact hJ4)
        have hlt4 := (hJb _ _ _ hJ4).1
        rw [List.length_append, lsS_len] at hlt4
        have hz3 := u3.size
        clear hy3
        gi_wp2
        exact ⟨_, u3.then d2 u4, fun b hb => (d3 b hb).elim (u4 b) (fun h => .inr (by omega)), d1.below, by rw [HLN.out]; exact hlt4, _, _, by rw [HLN.out]; exact d1, fun b hb => (hs4 b hb).elim (HFO.out b) (fun h => .inr (by omega))⟩
      · obtain ⟨d1, d2, d3⟩ := u2.yielded (J' := Jx) (m' := pre.length + 1) hF4 hs4 hl4 (by rw [lsS_succ, ← HX.out]; exact hJ4)
        have hz3 := u3.size
        clear hy3
        gi_wp2
        exact ⟨_, u3.then d2 u4, fun b hb => (d3 b hb).elim (u4 b) (fun h => .inr (by omega)), d1.below, rfl, _, _, by rw [HLN.out]; exact d1, fun b hb => (hs4 b hb).elim (HFO.out b) (fun h => .inr (by omega))⟩
  case stop =>
    rintro D c pre fq W1 hD ⟨rfl, v, fo, hI, hfo⟩ hnD hfr hK
    have hfp := hI.fp
    subst hfp
    have hnv : ¬ fo D := fun e => hnD (.inr (.inr (.inr (.inr e))))
    have hlt := (Array.getElem?_eq_some_iff.1 hK).1
    gi_wp2
    refine ⟨by simp, .inl ⟨_, _, rfl, run_takeDeferred hK, ?_⟩⟩
    refine ⟨_, (by simp [results, Try.f133]; rfl), ⟨_, rfl⟩, _, fo, ?_, hfo, fun b hb => ?_, hXf _ _ _ hI.j _ (Frm.putObj _ hnv)⟩
    · have hz := hfr.size
      refine ⟨hfr.os.trans hb0.os, hfr.tape.trans hb0.tape, hfr.output.trans hb0.output, Nat.le_trans (show W.heap.size ≤ W1.heap.size by omega) (Frm.putObj (fp := fun b => b ≠ D) _ (fun h => h rfl)).size, fun b hb hf => ?_⟩
      refine (World.putObj_heap_other (by omega)).trans ?_
      by_cases e : b = q
      · subst e; exact hI.qo
      · refine (hfr.same b (by omega) fun h => ?_).trans (hb0.block b hb)
        rcases h with h | h | h | h | h
        · omega
        · omega
        · exact e h
        · simp [Value.ownBlock] at h
        · exact hf h
    · exact Nat.lt_of_lt_of_le (hI.lt b hb) (Frm.putObj (fp := fun b => b ≠ D) _ (fun h => h rfl)).size
end Go.Proofs.Ytbhgbifliihlbaa
