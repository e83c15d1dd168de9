/-
  ENDLESS SERIES: the series 1, 0, 0, .. of no degrees; the first numbers of a series, in a slice. Conditions: as each theorem states.
-/
import Derived.Test.YtgbnlnpffhlipaaIa
import Derived.Test.YtgbnlnpffhlipaaLb
import Derived.Maps.AppendAt
import Derived.Maps.OwnIn
namespace Go.Proofs.Ytgbnlnpffhlipaa
open Go.RowKit Go.Sort Go.Shelf

attribute [local go_sem] Oper.semAt_some

theorem yield_any {m : Nat} (m' : Nat) {P : Program} {l : Nat} {args : Array Value} {W : World} {R : Ending → World → Prop} (h : YieldAt Fence.wide m P l args W R) : YieldAt Fence.wide m' P l args W R := by
  obtain ⟨fn, tmps, assign, body, hy, hF, hR⟩ := h
  exact ⟨fn, tmps, assign, body, hy, hF, fun c cs _ => hR c cs (fun d hd => by cases hd)⟩
theorem least_fun {α : Type} (R : Nat → α → Prop) : ∃ m : α → Nat, ∀ a, (∃ k, R k a) → R (m a) a ∧ ∀ k, R k a → m a ≤ k := by
  have key : ∀ a, ∃ m, (∃ k, R k a) → R m a ∧ ∀ k, R k a → m ≤ k := fun a => by
    rcases Classical.em (∃ k, R k a) with h | h
    · obtain ⟨k, hk⟩ := h
      have : ∀ n k, k ≤ n → R k a → ∃ m, R m a ∧ ∀ j, R j a → m ≤ j := by
        intro n
        induction n with
        | zero => exact fun k hk hR => ⟨k, hR, fun j _ => by omega⟩
        | succ n ih =>
          intro k hk hR
          rcases Classical.em (∃ j, R j a ∧ j < k) with h | h
          · obtain ⟨j, hj, hlt⟩ := h
            exact ih j (by omega) hj
          · exact ⟨k, hR, fun j hj => by
              rcases Nat.lt_or_ge j k with h' | h'
              · exact absurd ⟨j, hj, h'⟩ h
              · exact h'⟩
      obtain ⟨m, hm⟩ := this k k (Nat.le_refl _) hk
      exact ⟨m, fun _ => hm⟩
    · exact ⟨0, fun h' => absurd h' h⟩
  obtain ⟨f, hf⟩ := Classical.axiomOfChoice key
  exact ⟨f, hf⟩
/-- The series of no degrees. -/
def oneS (k : Nat) : Int := if k = 0 then 1 else 0

set_option maxRecDepth 100000 in
set_option maxHeartbeats 2000000 in
theorem only_one (n N : Nat) (hn : 1 ≤ n) (w : World) : SeqE Fence.wide n Try.prog 30 #[] oneS N w := by
  intro l J Jx fp W hW hfp hJf hXf hJb hY h0
  obtain ⟨ms, hms⟩ := least_fun (fun k (x : Value × World) => ∃ pre fq, N - pre.length = k ∧ x.1 = .int .i64 (oneS pre.length) ∧ J pre fq x.2 ∧ Frm (fun b => ¬ fp b) W x.2 ∧ (∀ b, fq b → fp b ∨ W.heap.size ≤ b))
  have hge := hW.size
  refine callsIn_of_wp Try.func30 rfl trivial ?_ rfl
  simp only [Try.ntmps30, List.size_toArray, List.length_cons, List.length_nil, Nat.reduceAdd, Nat.reduceSub, Array.replicate_succ, Array.replicate_zero, List.push_toArray, List.append_toArray, List.nil_append, List.cons_append]
  gi_wp2
  gi_loopw [2] (fun v wr => ∃ k, (fun k (x : Value × World) => ∃ pre fq, N - pre.length = k ∧ x.1 = .int .i64 (oneS pre.length) ∧ J pre fq x.2 ∧ Frm (fun b => ¬ fp b) W x.2 ∧ (∀ b, fq b → fp b ∨ W.heap.size ≤ b)) k (v, wr)) (fun v wr => ms (v, wr))
  case atStart => exact ⟨_, [], fp, rfl, rfl, h0, Frm.refl _ _, fun b hb => .inl hb⟩
  case round =>
    obtain ⟨⟨pre, fq, hk, hv, hJ, hF, hs⟩, _⟩ := hms (_, _) hrel
    simp only at hv
    subst hv
    have hlen := (hJb _ _ _ hJ).1
    obtain ⟨fn, tmps, assign, body, hy, hR⟩ := hY pre fq wr (fun b hb => (hs b hb).elim (hfp b) (fun h => by omega)) hJ
    clear hrel
    gi_wp2
    refine hR.mono ?_
    rintro e W3 ⟨fq3, hF3, hs3, hl3, (⟨rfl, hJ3⟩ | ⟨rfl, hJx3⟩)⟩
    · have hsz := hF.size
      have hR3 : ∃ pre' fq', N - pre'.length = N - (pre.length + 1) ∧ (Value.int .i64 0) = .int .i64 (oneS pre'.length) ∧ J pre' fq' W3 ∧ Frm (fun b => ¬ fp b) W W3 ∧ (∀ b, fq' b → fp b ∨ W.heap.size ≤ b) :=
        ⟨pre ++ [oneS pre.length], fq3, by simp, by simp [oneS], hJ3, hF.then hF3 hs, fun b hb => (hs3 b hb).elim (hs b) (fun h => .inr (by omega))⟩
      have HM := Lib.hid ((hms (Value.int .i64 0, W3) ⟨_, hR3⟩).2 _ hR3)
      have HR3 := Lib.hid hR3
      have HK := Lib.hid hk
      clear hR3 hk
      gi_wp2
      go_roundw
      case rel => exact ⟨_, HR3.out⟩
      case measure =>
        have h1 := HM.out
        have h2 := HK.out
        show ms (Value.int .i64 0, W3) < ms (Value.int .i64 (oneS pre.length), wr)
        omega
    · have hsz := hF.size
      gi_wp2
      go_end0
      exact ⟨⟨_, rfl⟩, _, fq3, hF.then hF3 hs, fun b hb => (hs3 b hb).elim (hs b) (fun h => .inr (by omega)), hl3, hJx3⟩

/-- A value that is an endless series. -/
def SerV (v : Value) (S : Nat → Int) (N : Nat) (w : World) : Prop :=
  ∃ gf lb, v = .func (.func gf) #[] lb ∧ (∀ args w, (callFunc gf args).run Try.prog w = .ok (.enter gf args) w) ∧ ∀ n, 1 ≤ n → SeqE Fence.wide n Try.prog gf lb S N w
theorem OwnL.of_heap {A B : World} {base : Nat} {v : Value} {l : List Int} (h : OwnL A base v l) (e : ∀ g, v.ownBlock = some g → B.heap[g]? = A.heap[g]?) : OwnL B base v l := by
  obtain ⟨h1, h2 | ⟨g, cap, cur, hv, hb, hg, r⟩⟩ := h
  · exact ⟨h1, .inl h2⟩
  · exact ⟨h1, .inr ⟨g, cap, cur, hv, hb, (e g (by rw [hv]; rfl)).trans hg, r⟩⟩
/-- What upTo owns: the box of its bound, that of its slice, the slice's block. -/
def upFp (B : Nat) (v : Value) : Nat → Prop := fun b => b = B ∨ b = B + 1 ∨ v.ownBlock = some b
structure UpI (B : Nat) (k : Nat) (S : Nat → Int) (pre : List Int) (fp : Nat → Prop) (v : Value) (W : World) : Prop where
  fp : fp = upFp B v
  kb : W.rowIs B 2 1 (fun _ => .int .i64 (k : Int))
  vb : W.rowIs (B + 1) 22 1 (fun _ => v)
  row : OwnL W (B + 2) v pre
  is : pre = (List.range pre.length).map S
theorem UpI.frame {B k : Nat} {S : Nat → Int} {pre : List Int} {fp : Nat → Prop} {v : Value} {A W : World} (h : UpI B k S pre fp v A) (hf : Frm fp A W) : UpI B k S pre fp v W := by
  have hfp := h.fp
  subst hfp
  exact ⟨rfl, h.kb.of_block (hf.same _ h.kb.lt (.inl rfl)), h.vb.of_block (hf.same _ h.vb.lt (.inr (.inl rfl))), h.row.of_heap (fun g hg => hf.same g (World.ownsRow.lt h.row g hg).2 (.inr (.inr hg))), h.is⟩
theorem UpI.lt {B k : Nat} {S : Nat → Int} {pre : List Int} {fp : Nat → Prop} {v : Value} {A : World} (h : UpI B k S pre fp v A) : ∀ b, fp b → b < A.heap.size := fun b hb => by
  have hfp := h.fp
  subst hfp
  rcases hb with rfl | rfl | hb
  · exact h.kb.lt
  · exact h.vb.lt
  · exact (World.ownsRow.lt h.row b hb).2
theorem UpI.more {B k : Nat} {S : Nat → Int} {pre : List Int} {fp : Nat → Prop} {v v' : Value} {A W1 : World} {x : Int} {o : Obj} (h : UpI B k S pre fp v A) (hx : x = S pre.length) (hB : B + 2 ≤ A.heap.size)
    (ho : OwnL W1 (B + 2) v' (pre ++ [x])) (hg : (A.alloc o).grownBy W1 v.ownBlock) (hv : v'.ownBlock = v.ownBlock ∨ v'.ownBlock = some (A.alloc o).heap.size) :
    W1.rowIs (B + 1) 22 1 (fun _ => v) ∧ UpI B k S (pre ++ [x]) (upFp B v') v' (W1.setCell ⟨B + 1, 0, none⟩ v') ∧ Frm (fun b => ¬ fp b) A (W1.setCell ⟨B + 1, 0, none⟩ v') ∧ ∀ b, upFp B v' b → fp b ∨ A.heap.size ≤ b := by
  have hfp := h.fp
  subst hfp
  have hne : ∀ b, b < B + 2 → some b ≠ v.ownBlock := fun b hb e => by have := (World.ownsRow.lt h.row b e.symm).1; omega
  have hne' : ∀ b, b < B + 2 → v'.ownBlock ≠ some b := fun b hb e => by have := (World.ownsRow.lt ho b e).1; omega
  have k1 : W1.rowIs B 2 1 (fun _ => .int .i64 (k : Int)) := (h.kb.alloc o).of_block (hg.block _ (h.kb.alloc o).lt (hne _ (by omega)))
  have v1 : W1.rowIs (B + 1) 22 1 (fun _ => v) := (h.vb.alloc o).of_block (hg.block _ (h.vb.alloc o).lt (hne _ (by omega)))
  refine ⟨v1, ⟨rfl, k1.setOther (by simp) _, (v1.set 0 v').congr (fun i hi => by simp; omega), ?_, ?_⟩, ?_, fun b hb => ?_⟩
  · exact ho.of_heap (fun g hgg => Below.heap_setCell W1 ⟨B + 1, 0, none⟩ v' g (fun e => hne' (B + 1) (by omega) (by rw [hgg, e])))
  · rw [List.length_append, List.length_singleton, List.range_succ, List.map_append, ← h.is, hx]; rfl
  · refine ((Frm.alloc _ A o).trans (Frm.grown hg fun b _ hb e => hb (.inr (.inr e.symm)))).trans (Frm.setCell _ (fun hb => hb (.inr (.inl rfl))))
  · rcases hb with rfl | rfl | hb
    · exact .inl (.inl rfl)
    · exact .inl (.inr (.inl rfl))
    · rcases hv with e | e
      · exact .inl (.inr (.inr (by rw [← e]; exact hb)))
      · rw [e] at hb; simp at hb; exact .inr (by omega)
theorem only_ser (N : Nat) (w : World) : SerV (.func (.func 30) #[] #[]) oneS N w :=
  ⟨_, _, rfl, enters_of Try.func30 (by kernel_rfl) rfl, fun n hn => only_one n N hn w⟩

set_option maxRecDepth 100000 in
set_option maxHeartbeats 4000000 in
/-- The first k + 1 numbers of a series. -/
theorem iupto (k : Nat) (sv : Value) (S : Nat → Int) (w : World) (hk : k ≤ 1000) (hS : SerV sv S (k + 1) w) :
    Calls Try.prog 21 #[.int .i64 (k : Int), sv] w fun e w' => ∃ v', e = .returned v' ∧ OwnV w' w.heap.size v' ((List.range (k + 1)).map S) ∧ Below w.heap.size w w' := by
  obtain ⟨gf, lb, rfl, eg, hseq⟩ := hS
  obtain ⟨i0, hi, hz0, hz1, hz2⟩ := info_parts einfoI
  refine (callsIn_wide (n := 9)).1 ?_
  refine callsIn_of_wp_marks Try.func21 rfl trivial ?_ rfl
  simp only [Try.ntmps21, List.size_toArray, List.length_cons, List.length_nil, Nat.reduceAdd, Nat.reduceSub, Array.replicate_succ, Array.replicate_zero, List.push_toArray, List.append_toArray, List.nil_append, List.cons_append]
  gi_wp2
  obtain ⟨W0, hW0, hb0, hI0⟩ : ∃ W0, W0 = (w.alloc (.cells #[.int .i64 (k : Int)] 2)).alloc (.cells #[.slice none 0 0] 22) ∧ Below w.heap.size w W0 ∧ UpI w.heap.size k S [] (upFp w.heap.size (.slice none 0 0)) (.slice none 0 0) W0 := by
    refine ⟨_, rfl, ebox2 _ _ _, rfl, ?_, ?_, World.ownsRow_nil _ _ _ _, rfl⟩
    · exact (World.rowIs_alloc w #[.int .i64 (k : Int)] _ _ (fun i hi => by simp at hi; subst hi; rfl)).alloc _
    · have h := World.rowIs_alloc (w.alloc (.cells #[.int .i64 (k : Int)] 2)) #[.slice none 0 0] 22 (fun _ => .slice none 0 0) (fun i hi => by simp at hi; subst hi; rfl)
      rw [World.size_alloc] at h
      exact h
  rw [← hW0]
  clear hW0
  have hs0 := hb0.size
  refine wpIn_range_E rfl (by omega) (gf := gf) (lb := lb) rfl trivial eg (hseq 8 (by omega)) hb0 rfl
    (fun pre fp W => pre.length < k + 1 ∧ ∃ v, UpI w.heap.size k S pre fp v W)
    (fun c pre fp W => c = .exit 0 ∧ pre.length = k + 1 ∧ ∃ v, UpI w.heap.size k S pre fp v W)
    (fun pre fp A B ⟨h1, v, h2⟩ hf => ⟨h1, v, h2.frame hf⟩) (fun c pre fp A B ⟨h0, h1, v, h2⟩ hf => ⟨h0, h1, v, h2.frame hf⟩) (fun pre fp A ⟨h1, v, h2⟩ => ⟨h1, h2.lt⟩)
    (upFp w.heap.size (.slice none 0 0)) (fun b hb => ?_) ⟨by simp, _, hI0⟩ ?round ?stop
  · rcases hb with rfl | rfl | h
    · exact Nat.le_refl _
    · omega
    · simp [Value.ownBlock] at h
  case round =>
    rintro l pre fp W ⟨hlen, v, hI⟩ _
    gi_wp2
    refine ⟨fp, Frm.refl _ _, fun b h => .inl h, hI.lt, fun W2 hf2 => ?_⟩
    have hI2 := hI.frame hf2
    have hfp := hI2.fp
    subst hfp
    have c0 := hI2.kb.cell (i := 0) (by omega)
    have c1 := hI2.vb.cell (i := 0) (by omega)
    have f1 := hI2.vb.frozen 0
    have hB2 : w.heap.size + 2 ≤ W2.heap.size := by have := hI2.vb.lt; omega
    have hln : ((pre ++ [S pre.length]).length : Nat) = pre.length + 1 := by simp
    gi_wp2_with (gi_at_builtin; go_loud (refine wpListIn_append_own_at _ rfl _ _ 22 rfl (w.heap.size + 2) 2 i0 _ 1 8 Try.underlying22 hi hz0 hz1 hz2 rfl (by decide) v pre.length (valsI pre) rfl (World.ownsRow.alloc hI2.row _) ⟨W2.heap.size, 0, none⟩ 1 1 [.int .i64 (S pre.length)] rfl rfl (World.news_of_block (cs := #[.int .i64 (S pre.length)]) (t := 2) (fr := (0, 0)) (heap_alloc_new W2 _)) (by simp [Value.oneCell']) (by unfold maxLen; omega) (by omega) (by simp; omega) ?_; intro v' w1 hown' hgrow _ hblk; obtain ⟨g', cap', rfl⟩ := ownsRow_succ hown'; obtain ⟨u1, u2, u3, u4⟩ := UpI.more (x := S pre.length) hI2 rfl hB2 (by have h := hown'; rw [valsI_snoc] at h; simpa [OwnL] using h) hgrow hblk; have e1 := u1.cell (i := 0) (by omega); have e2 := u1.frozen 0; have e3 := u2.kb.cell (i := 0) (by omega); have e4 := u2.vb.cell (i := 0) (by omega)))
    · exact ⟨_, u3, u4, u2.lt, rfl, by rw [hln]; omega, _, u2⟩
    · exact ⟨_, u3, u4, u2.lt, by rw [hln]; omega, _, u2⟩
  case stop =>
    rintro D c pre fp W hD ⟨rfl, hlen, v, hI⟩ hnD hfr hK
    have c1 := hI.vb.cell (i := 0) (by omega)
    have hfp := hI.fp
    subst hfp
    have hnv : v.ownBlock ≠ some D := fun e => hnD (.inr (.inr e))
    have hlt := (Array.getElem?_eq_some_iff.1 hK).1
    gi_wp2
    refine ⟨by simp, .inl ⟨_, _, rfl, run_takeDeferred hK, ?_⟩⟩
    refine ⟨_, results_tmp rfl _ _ _, v, rfl, ?_, ?_⟩
    · have h : OwnL (W.putObj D (.deferred none)) (w.heap.size + 2) v pre := hI.row.of_heap (fun g hg => World.putObj_heap_other (fun e => hnv (by rw [hg, e])))
      have h2 := h.toV.mono (show w.heap.size ≤ w.heap.size + 2 by omega)
      rw [hI.is, hlen] at h2
      exact h2
    · have hf : Below w.heap.size W0 W := hfr.below (by omega) (fun b hb h => by
        rcases h with rfl | rfl | h
        · omega
        · omega
        · simp [Value.ownBlock] at h)
      exact (hb0.trans hf).trans (belowK_b (w := w) (Nat.le_refl _) W D _ _ (by omega) hK rfl rfl)
end Go.Proofs.Ytgbnlnpffhlipaa
