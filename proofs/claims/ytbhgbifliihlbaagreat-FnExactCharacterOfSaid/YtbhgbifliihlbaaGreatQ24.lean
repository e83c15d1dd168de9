/-
  LISTS of numbers in a law: compared, marked, held. Conditions: as each theorem states.
  WALKS of the laws on matrices: copying. Conditions: as each theorem states.
  WALKS of the laws on matrices: comparing. Conditions: as each theorem states.
  WALKS of the laws on groups: copying a list of matrices. Conditions: as each theorem states.
  WALKS of the laws on matrices: comparing two matrices that are alike. Conditions: as each theorem states.
  WALKS of the laws on groups: sizes, comparing, copying. Conditions: as each theorem states.
-/
import Derived.Test.YtbhgbifliihlbaaGreatQ13
import Derived.Test.YtbhgbifliihlbaaGreatQ14
import Derived.Test.YtbhgbifliihlbaaGreatQ18
import Derived.OwnWalk
import Derived.Test.YtbhgbifliihlbaaGreatQ22
namespace Go.Proofs.YtbhgbifliihlbaaGreat
open Go.RowKit Go.Sort

set_option maxHeartbeats 1000000 in
theorem neqI_some (g o cap g' o' cap' : Nat) (l : List Int) (w : World) (hl : l.length ≤ 1048576) (hT : Cs w g o l) (hT' : Cs w g' o' l) :
    Calls Tryz.prog 10 #[.slice (some ⟨g, o, none⟩) l.length cap, .slice (some ⟨g', o', none⟩) l.length cap'] w fun e w' => e = .returned (.bool true) ∧ Below w.heap.size w w' := by
  have hnn : ((l.length : Int) != (l.length : Int)) = false := by simp
  go_enter Tryz.func10, Tryz.ntmps10
  go_wp2
  go_loopw [5] (fun i wr => ∃ k : Nat, k ≤ l.length ∧ i = .int .i64 k ∧ ∃ n, wr = w.drewN n) (fun i _ => l.length - (intOf i).toNat)
  case atStart => exact ⟨0, by omega, rfl, 0, rfl⟩
  case round =>
    obtain ⟨k, hk, rfl, n, rfl⟩ := hrel
    by_cases hlt : k < l.length
    · have hlt' : (k : Int) < (l.length : Int) := by omega
      have a0 := hT k hlt
      have b0 := hT' k hlt
      have hq : (l[k] != l[k]) = false := by simp
      go_wp2
      go_quiet (fail)
      go_wp2
      go_roundw
      case rel => exact ⟨k + 1, by omega, by go_num, _, rfl⟩
      case measure => simp [intOf]; omega
    · obtain rfl : k = l.length := by omega
      go_wp2
      go_ret
      exact ⟨rfl, below_drewN (Below.refl _ _) n⟩

theorem neqI_zero (a a' : Option Addr) (c c' : Nat) (w : World) :
    Calls Tryz.prog 10 #[.slice a 0 c, .slice a' 0 c'] w fun e w' => e = .returned (.bool true) ∧ Below w.heap.size w w' := by
  go_enter Tryz.func10, Tryz.ntmps10
  go_wp2
  refine wp_loop_rounds 1 ?_
  rw [rounds_succ]
  go_wp2
  go_ret
  exact ⟨rfl, Below.refl _ _⟩

theorem neqI_same (v v' : Value) (l : List Int) (w : World) (hl : l.length ≤ 1048576) (hS : Sl w v l) (hS' : Sl w v' l) :
    Calls Tryz.prog 10 #[v, v'] w fun e w' => e = .returned (.bool true) ∧ Below w.heap.size w w' := by
  obtain ⟨a, cap, rfl, h⟩ := hS
  obtain ⟨a', cap', rfl, h'⟩ := hS'
  cases l with
  | nil => exact neqI_zero _ _ _ _ _
  | cons t r =>
    rcases h with h | ⟨b, off, rfl, hlt, hT⟩
    · cases h
    · rcases h' with h' | ⟨b', off', rfl, hlt', hT'⟩
      · cases h'
      · exact neqI_some b off cap b' off' cap' _ w hl hT hT'



set_option maxHeartbeats 1000000 in
theorem nmarkI_own {base : Nat} {v : Value} {l : List Int} (k0 : Int) (w : World) (h : nOwnI w base v l) (hn : l.length ≤ 1048576) (h0 : 0 ≤ k0) (h1 : k0 ≤ 1000000000) :
    Calls Tryz.prog 15 #[v, .int .i64 k0] w fun e w' => e = .returned (.int .i64 (k0 + l.length)) ∧ w.grownBy w' v.ownBlock := by
  obtain ⟨g, f, rfl, hg, hr, hf⟩ := h
  clear hf
  simp only [Value.ownBlock]
  generalize l.length = n at *
  go_enter Tryz.func15, Tryz.ntmps15
  go_wp2
  go_loopw [1, 5] (fun m i wr => ∃ k : Nat, k ≤ n ∧ i = .int .i64 k ∧ m = .int .i64 (k0 + k) ∧ (∃ f', wr.rowIs g 2 n f') ∧ w.grownBy wr (some g)) (fun _ i _ => n - (intOf i).toNat)
  case atStart => exact ⟨0, by omega, rfl, by simp, ⟨f, hr⟩, World.grownBy.refl _ _⟩
  case round =>
    obtain ⟨k, hk, rfl, rfl, ⟨f', hr'⟩, hg'⟩ := hrel
    by_cases hlt : k < n
    · have hlt' : (k : Int) < (n : Int) := by omega
      have c0 := hr'.cell hlt
      have z0 := hr'.frozen k
      have hr2 := hr'.set k (.int .i64 (k0 + k))
      have hg2 := ngrown_setT hg' k (.int .i64 (k0 + k))
      clear hr' hg' hr
      go_wp2
      go_roundw
      case rel => exact ⟨k + 1, by omega, by go_num, by go_num, ⟨_, hr2⟩, hg2⟩
      case measure => simp [intOf]; omega
    · obtain rfl : k = n := by omega
      go_wp2
      go_ret
      exact ⟨rfl, hg'⟩

set_option maxHeartbeats 1000000 in
theorem rmark (base : Nat) (e : Row3) (k0 : Int) (w : World) (h : RowAt w base e) (hn : e.2.1.length ≤ 1048576) (h0 : 0 ≤ k0) (h1 : k0 ≤ 1000000000) :
    Calls Tryz.prog 15 #[e.1, .int .i64 k0] w fun r w' => r = .returned (.int .i64 (k0 + e.2.1.length)) ∧ RowAt w' base (e.1, seqL k0 e.2.1.length, e.2.2) ∧ w.grownBy w' (some e.2.2) := by
  obtain ⟨u, l, g⟩ := e
  obtain ⟨cap, N, f, hu, hg, hN, hr, hf⟩ := h
  simp only at hu hg hN hr hf hn ⊢
  subst hu
  clear hf
  have hsl := seqL_len k0 l.length
  suffices hh : Calls Tryz.prog 15 #[.slice (some ⟨g, 0, none⟩) l.length cap, .int .i64 k0] w fun r w' => r = .returned (.int .i64 (k0 + l.length)) ∧ (∃ f', w'.rowIs g 2 N f' ∧ ∀ q, q < l.length → f' q = .int .i64 (k0 + (q : Int))) ∧ w.grownBy w' (some g) by
    refine hh.mono fun r w' ⟨hr', ⟨f', hrow, hf'⟩, hgr⟩ => ⟨hr', ⟨cap, N, f', by simp only [hsl], hg, by simp only [hsl]; exact hN, hrow, fun q hq => ?_⟩, hgr⟩
    rw [hf' q (by simpa [hsl] using hq)]
    simp only [seqL_at]
  clear hsl
  generalize l.length = n at *
  go_enter Tryz.func15, Tryz.ntmps15
  go_wp2
  go_loopw [1, 5] (fun m i wr => ∃ k : Nat, k ≤ n ∧ i = .int .i64 k ∧ m = .int .i64 (k0 + k) ∧ (∃ f', wr.rowIs g 2 N f' ∧ Hid (∀ q, q < k → f' q = .int .i64 (k0 + (q : Int)))) ∧ w.grownBy wr (some g)) (fun _ i _ => n - (intOf i).toNat)
  case atStart => exact ⟨0, by omega, rfl, by simp, ⟨f, hr, Lib.hid (fun q h => by omega)⟩, World.grownBy.refl _ _⟩
  case round =>
    obtain ⟨k, hk, rfl, rfl, ⟨f', hr', HF⟩, hg'⟩ := hrel
    by_cases hlt : k < n
    · have hlt' : (k : Int) < (n : Int) := by omega
      have c0 := hr'.cell (i := k) (by omega)
      have z0 := hr'.frozen k
      have hr2 := hr'.set k (.int .i64 (k0 + k))
      have hg2 := ngrown_setT hg' k (.int .i64 (k0 + k))
      have HN : Hid (∀ q, q < k + 1 → (fun j => if j = k then Value.int .i64 (k0 + (k : Int)) else f' j) q = .int .i64 (k0 + (q : Int))) := Lib.hid (fun q hq => by
        by_cases e : q = k
        · subst e; simp
        · simp only [if_neg e]; exact HF.out q (by omega))
      clear hr' hg' hr HF
      go_wp2
      go_roundw
      case rel => exact ⟨k + 1, by omega, by go_num, by go_num, ⟨_, hr2, HN⟩, hg2⟩
      case measure => simp [intOf]; omega
    · obtain rfl : k = n := by omega
      have HN := HF.out
      go_wp2
      go_ret
      exact ⟨rfl, ⟨f', hr', HN⟩, hg'⟩
set_option maxHeartbeats 1000000 in
theorem rheld (u : Value) (n : Nat) (k0 : Int) (w : World) (hS : Sl w u (seqL k0 n)) (hn : n ≤ 1048576) (h0 : 0 ≤ k0) (h1 : k0 ≤ 1000000000) :
    Calls Tryz.prog 16 #[u, .int .i64 k0] w fun r w' => r = .returned (.int .i64 (k0 + n)) ∧ w' = w := by
  obtain ⟨a, cap, rfl, hc⟩ := hS
  have HSQ := Lib.hid (seqL_at k0 n)
  have hsl := seqL_len k0 n
  have HL := Lib.hid hsl
  rw [hsl]
  clear hsl
  go_enter Tryz.func16, Tryz.ntmps16
  go_wp2_with fail
  go_loop [1, 5] (fun m i => ∃ k : Nat, k ≤ n ∧ i = .int .i64 k ∧ m = .int .i64 (k0 + k)) (fun _ i => n - (intOf i).toNat)
  case atStart => exact ⟨0, by omega, rfl, by simp⟩
  case round =>
    obtain ⟨k, hk, rfl, rfl⟩ := hrel
    by_cases hlt : k < n
    · have hlt' : (k : Int) < (n : Int) := by omega
      have hks : k < (seqL k0 n).length := by rw [HL.out]; exact hlt
      obtain ⟨b, off, rfl, hbb, hT⟩ : ∃ b off, a = some ⟨b, off, none⟩ ∧ b < w.heap.size ∧ Cs w b off (seqL k0 n) := by
        rcases hc with h | h
        · rw [h] at hks; simp at hks
        · exact h
      have c0 := hT k hks
      rw [HSQ.out k hks] at c0
      have hne : (k0 + (k : Int) != k0 + (k : Int)) = false := by simp
      clear hks
      go_wp2_with fail
      go_round
      case rel => exact ⟨k + 1, by omega, by go_num, by go_num⟩
      case measure => simp [intOf]; omega
    · obtain rfl : k = n := by omega
      go_wp2_with fail
      go_ret
      exact ⟨rfl, rfl⟩


theorem rmark_none (a : Option Addr) (c : Nat) (k0 : Int) (w : World) :
    Calls Tryz.prog 15 #[.slice a 0 c, .int .i64 k0] w fun r w' => r = .returned (.int .i64 k0) ∧ w' = w := by
  go_enter Tryz.func15, Tryz.ntmps15
  go_wp2
  refine wp_loop_rounds 1 ?_
  rw [rounds_succ]
  go_wp2
  go_ret
  exact ⟨rfl, rfl⟩
theorem OwnV.mark {w : World} {base : Nat} {v : Value} {S : List Int} (h : OwnV w base v S) (hl : S.length ≤ 1048576) (hbw : base ≤ w.heap.size) :
    Calls Tryz.prog 15 #[v, .int .i64 1] w fun r w' => r = .returned (.int .i64 (1 + (S.length : Int))) ∧ OwnV w' base v (seqL 1 S.length) ∧ Below base w w' := by
  rcases h with ⟨rfl, a, c, rfl⟩ | ⟨b, h⟩
  · exact (rmark_none a c 1 w).mono fun r w' ⟨hr, hw⟩ => ⟨by simpa using hr, .inl ⟨by simp [seqL], a, c, rfl⟩, by rw [hw]; exact ⟨rfl, rfl, rfl, Nat.le_refl _, fun _ _ => rfl⟩⟩
  · refine (rmark base (v, S, b) 1 w h hl (by decide) (by decide)).mono fun r w' ⟨hr, hrow, hg⟩ => ⟨hr, .inr ⟨b, hrow⟩, ?_⟩
    obtain ⟨_, _, _, _, hb, _⟩ := h
    exact ⟨hg.os, hg.tape, hg.output, hg.size, fun k hk => hg.block k (by omega) (fun e => by simp at e hb; omega)⟩
theorem OwnV.held {w : World} {base : Nat} {v : Value} {n : Nat} (h : OwnV w base v (seqL 1 n)) (hl : n ≤ 1048576) :
    Calls Tryz.prog 16 #[v, .int .i64 1] w fun r w' => r = .returned (.int .i64 (1 + (n : Int))) ∧ w' = w :=
  rheld v n 1 w h.sl hl (by decide) (by decide)
end Go.Proofs.YtbhgbifliihlbaaGreat
namespace Go.Proofs.YtbhgbifliihlbaaGreat
open Go.RowKit Go.Sort EchM

set_option maxHeartbeats 2000000 in
theorem tobyte3 (x y z : Int) (w : World) : Calls Tryz.prog 62 #[.agg #[.int .u8 x, .int .u8 y, .int .u8 z]] w fun e w' => e = .returned (.agg #[.int .u8 x, .int .u8 y, .int .u8 z]) ∧ Below w.heap.size w w' := by
  go_enter Tryz.func62, Tryz.ntmps62
  go_wp2
  refine wp_loop_rounds 4 ?_
  iterate 4 (rw [rounds_succ]; go_wp2)
  exact bodyPost_ret (v := .agg #[.int .u8 x, .int .u8 y, .int .u8 z]) (by simp [results, Tryz.results62, go_sem]) rfl ⟨rfl, (ebox2 _ _ _).alloc (by simp; omega) _⟩

set_option maxRecDepth 8000 in
set_option maxHeartbeats 4000000 in
theorem tomat (g : Nat → Nat → Int) (w : World) : Calls Tryz.prog 40 #[mv g] w fun e w' => e = .returned (mv g) ∧ Below w.heap.size w w' := by
  obtain ⟨W, hW, rW, rR, rO, hbW⟩ : ∃ W, W = ((w.alloc (.cells #[.int .u8 (g 0 0), .int .u8 (g 0 1), .int .u8 (g 0 2), .int .u8 (g 1 0), .int .u8 (g 1 1), .int .u8 (g 1 2), .int .u8 (g 2 0), .int .u8 (g 2 1), .int .u8 (g 2 2)] 75)).alloc (.cells #[.int .u8 0, .int .u8 0, .int .u8 0, .int .u8 0, .int .u8 0, .int .u8 0, .int .u8 0, .int .u8 0, .int .u8 0] 76)).alloc (.cells #[.int .u8 0, .int .u8 0, .int .u8 0, .int .u8 0, .int .u8 0, .int .u8 0, .int .u8 0, .int .u8 0, .int .u8 0] 76) ∧
      W.rowIs w.heap.size 75 9 (mF g) ∧ W.rowIs (w.heap.size + 1) 76 9 (mF fun _ _ => 0) ∧ W.rowIs (w.heap.size + 2) 76 9 (mF fun _ _ => 0) ∧ Below w.heap.size w W := by
    refine ⟨_, rfl, ((mbox w g _).alloc _).alloc _, ?_, ?_, (ebox2 _ _ _).alloc (by simp; omega) _⟩
    · have := mbox (w.alloc (.cells #[.int .u8 (g 0 0), .int .u8 (g 0 1), .int .u8 (g 0 2), .int .u8 (g 1 0), .int .u8 (g 1 1), .int .u8 (g 1 2), .int .u8 (g 2 0), .int .u8 (g 2 1), .int .u8 (g 2 2)] 75)) (fun _ _ => 0) 76
      rw [World.size_alloc] at this
      exact this.alloc _
    · have := mbox ((w.alloc (.cells #[.int .u8 (g 0 0), .int .u8 (g 0 1), .int .u8 (g 0 2), .int .u8 (g 1 0), .int .u8 (g 1 1), .int .u8 (g 1 2), .int .u8 (g 2 0), .int .u8 (g 2 1), .int .u8 (g 2 2)] 75)).alloc (.cells #[.int .u8 0, .int .u8 0, .int .u8 0, .int .u8 0, .int .u8 0, .int .u8 0, .int .u8 0, .int .u8 0, .int .u8 0] 76)) (fun _ _ => 0) 76
      rw [World.size_alloc, World.size_alloc] at this
      exact this
  have hWs : w.heap.size + 3 ≤ W.heap.size := by rw [hW]; simp
  unfold mv
  go_enter Tryz.func40, Tryz.ntmps40
  go_upto_region 2 with fail
  rw [← hW]
  clear hW
  go_wp2_with fail
  go_loopw [4] (fun i wr => ∃ (k : Nat), k ≤ 3 ∧ i = .int .i64 k ∧ wr.rowIs w.heap.size 75 9 (mF g) ∧ wr.rowIs (w.heap.size + 1) 76 9 (mF fun _ _ => 0) ∧ wr.rowIs (w.heap.size + 2) 76 9 (mF fun a b => if a < k then g a b else 0) ∧ Below w.heap.size w wr ∧ w.heap.size + 3 ≤ wr.heap.size) (fun i _ => 3 - (intOf i).toNat)
  case atStart => exact ⟨0, by omega, rfl, rW, rR, mF_congr rO (fun a _ b _ => by simp), hbW, hWs⟩
  case round =>
    obtain ⟨k, hk, rfl, q1, q2, q3, hb, hs⟩ := hrel
    by_cases hlt : k < 3
    · obtain ⟨⟨c0, c1, c2⟩, ⟨c3, c4, c5⟩, c6, c7, c8⟩ := mcells q1
      have h3 : k = 0 ∨ k = 1 ∨ k = 2 := by omega
      rcases h3 with rfl | rfl | rfl
      all_goals
        go_wp2_with fail
        ((with_reducible refine (tobyte3 _ _ _ _).mono ?_); rintro e w2 ⟨rfl, hb2⟩)
        have p1 := erow_below q1 hb2 q1.lt
        have p2 := erow_below q2 hb2 q2.lt
        have p3 := erow_below q3 hb2 q3.lt
        have hb3 := hb.trans (hb2.mono hb.size)
        have hs3 := hb2.size
        obtain ⟨⟨o0, o1, o2⟩, ⟨o3, o4, o5⟩, o6, o7, o8⟩ := mcells p3
        have z0 := p3.frozen 0
        have z1 := p3.frozen 1
        have z2 := p3.frozen 2
        have z3 := p3.frozen 3
        have z4 := p3.frozen 4
        have z5 := p3.frozen 5
        have z6 := p3.frozen 6
        have z7 := p3.frozen 7
        have z8 := p3.frozen 8
        clear c0 c1 c2 c3 c4 c5 c6 c7 c8
      · have r1 := (((p3.set 0 (.int .u8 (g 0 0))).set 1 (.int .u8 (g 0 1))).set 2 (.int .u8 (g 0 2))).congr (g := mF fun a b => if a < 1 then g a b else 0) fun q hq => by
          match q, hq with | 0, _ => rfl | 1, _ => rfl | 2, _ => rfl | 3, _ => rfl | 4, _ => rfl | 5, _ => rfl | 6, _ => rfl | 7, _ => rfl | 8, _ => rfl
        go_wp2_with fail
        go_roundw
        case rel => exact ⟨1, by omega, by go_num, ((p1.setOther (by simp; omega) _).setOther (by simp; omega) _).setOther (by simp; omega) _, ((p2.setOther (by simp) _).setOther (by simp) _).setOther (by simp) _, r1, ((hb3.setCell (by simp; omega) _).setCell (by simp; omega) _).setCell (by simp; omega) _, by simp; omega⟩
        case measure => simp [intOf]
      · have r1 := (((p3.set 3 (.int .u8 (g 1 0))).set 4 (.int .u8 (g 1 1))).set 5 (.int .u8 (g 1 2))).congr (g := mF fun a b => if a < 2 then g a b else 0) fun q hq => by
          match q, hq with | 0, _ => rfl | 1, _ => rfl | 2, _ => rfl | 3, _ => rfl | 4, _ => rfl | 5, _ => rfl | 6, _ => rfl | 7, _ => rfl | 8, _ => rfl
        go_wp2_with fail
        go_roundw
        case rel => exact ⟨2, by omega, by go_num, ((p1.setOther (by simp; omega) _).setOther (by simp; omega) _).setOther (by simp; omega) _, ((p2.setOther (by simp) _).setOther (by simp) _).setOther (by simp) _, r1, ((hb3.setCell (by simp; omega) _).setCell (by simp; omega) _).setCell (by simp; omega) _, by simp; omega⟩
        case measure => simp [intOf]
      · have r1 := (((p3.set 6 (.int .u8 (g 2 0))).set 7 (.int .u8 (g 2 1))).set 8 (.int .u8 (g 2 2))).congr (g := mF fun a b => if a < 3 then g a b else 0) fun q hq => by
          match q, hq with | 0, _ => rfl | 1, _ => rfl | 2, _ => rfl | 3, _ => rfl | 4, _ => rfl | 5, _ => rfl | 6, _ => rfl | 7, _ => rfl | 8, _ => rfl
        go_wp2_with fail
        go_roundw
        case rel => exact ⟨3, by omega, by go_num, ((p1.setOther (by simp; omega) _).setOther (by simp; omega) _).setOther (by simp; omega) _, ((p2.setOther (by simp) _).setOther (by simp) _).setOther (by simp) _, r1, ((hb3.setCell (by simp; omega) _).setCell (by simp; omega) _).setCell (by simp; omega) _, by simp; omega⟩
        case measure => simp [intOf]
    · obtain rfl : k = 3 := by omega
      have q4 := mF_congr (h := g) q3 (fun a ha b _ => by simp [ha])
      obtain ⟨⟨o0, o1, o2⟩, ⟨o3, o4, o5⟩, o6, o7, o8⟩ := mcells q4
      obtain ⟨⟨y0, y1, y2⟩, ⟨y3, y4, y5⟩, y6, y7, y8⟩ := mcells q2
      have z0 := q2.frozen 0
      have z1 := q2.frozen 1
      have z2 := q2.frozen 2
      have z3 := q2.frozen 3
      have z4 := q2.frozen 4
      have z5 := q2.frozen 5
      have z6 := q2.frozen 6
      have z7 := q2.frozen 7
      have z8 := q2.frozen 8
      obtain ⟨hf1, hf2⟩ := mfill (w := w) (B := w.heap.size) q2 hb (by omega) g
      obtain ⟨⟨v0, v1, v2⟩, ⟨v3, v4, v5⟩, v6, v7, v8⟩ := mcells hf1
      have V0 := Lib.hid v0
      have V1 := Lib.hid v1
      have V2 := Lib.hid v2
      have V3 := Lib.hid v3
      have V4 := Lib.hid v4
      have V5 := Lib.hid v5
      have V6 := Lib.hid v6
      have V7 := Lib.hid v7
      have V8 := Lib.hid v8
      have HF2 := Lib.hid hf2
      clear hf1 hf2 v0 v1 v2 v3 v4 v5 v6 v7 v8 q3 q4
      go_wp2_with fail
      exact bodyPost_ret (v := mv g) (by simp [results, Tryz.results40, go_sem, mv, V0.out, V1.out, V2.out, V3.out, V4.out, V5.out, V6.out, V7.out, V8.out]) rfl ⟨rfl, HF2.out⟩
theorem tomat_agg (g : Nat → Nat → Int) (w : World) : Calls Tryz.prog 40 #[.agg #[.int .u8 (g 0 0), .int .u8 (g 0 1), .int .u8 (g 0 2), .int .u8 (g 1 0), .int .u8 (g 1 1), .int .u8 (g 1 2), .int .u8 (g 2 0), .int .u8 (g 2 1), .int .u8 (g 2 2)]] w fun e w' => e = .returned (.agg #[.int .u8 (g 0 0), .int .u8 (g 0 1), .int .u8 (g 0 2), .int .u8 (g 1 0), .int .u8 (g 1 1), .int .u8 (g 1 2), .int .u8 (g 2 0), .int .u8 (g 2 1), .int .u8 (g 2 2)]) ∧ Below w.heap.size w w' := tomat g w
end Go.Proofs.YtbhgbifliihlbaaGreat
namespace Go.Proofs.YtbhgbifliihlbaaGreat
open Go.RowKit Go.Sort EchM

set_option maxHeartbeats 2000000 in
theorem eqbyte3 (x y z : Int) (w : World) : Calls Tryz.prog 77 #[.agg #[.int .u8 x, .int .u8 y, .int .u8 z], .agg #[.int .u8 x, .int .u8 y, .int .u8 z]] w fun e w' => e = .returned (.bool true) ∧ Below w.heap.size w w' := by
  have hx : (x != x) = false := by simp
  have hy : (y != y) = false := by simp
  have hz : (z != z) = false := by simp
  go_enter Tryz.func77, Tryz.ntmps77
  go_wp2
  refine wp_loop_rounds 4 ?_
  iterate 3 (rw [rounds_succ]; go_wp2; go_quiet (fail); go_wp2)
  rw [rounds_succ]
  go_wp2
  go_ret
  exact ⟨rfl, by repeat (first | exact ebox2 _ _ _ | refine below_drewN ?_ _)⟩

end Go.Proofs.YtbhgbifliihlbaaGreat
namespace Go.Proofs.YtbhgbifliihlbaaGreat
open Go.RowKit Go.Sort EchM

theorem infoMat : (Tryz.prog.info? 76).map (fun i => (i.zero, i.size, i.bytes)) = some (some (.agg #[.int .u8 0, .int .u8 0, .int .u8 0, .int .u8 0, .int .u8 0, .int .u8 0, .int .u8 0, .int .u8 0, .int .u8 0]), 9, 9) := by kernel_rfl
def madeM (n : Nat) : Array Value := madeCells (Value.agg #[.int .u8 0, .int .u8 0, .int .u8 0, .int .u8 0, .int .u8 0, .int .u8 0, .int .u8 0, .int .u8 0, .int .u8 0]).cells (n * 9)
theorem madeM_row (w : World) (n : Nat) (t : TypeId) : (w.alloc (.cells (madeM n) t)).rowIs w.heap.size t (n * 9) (fun i => (madeM n).getD i undef) := by
  have hs : (madeM n).size = n * 9 := by simp [madeM, madeCells]
  refine ⟨madeM n, heap_alloc_new w _, hs, fun i hi => ?_⟩
  simp [Array.getD, hs, hi]
/-- What the row holds behind k rounds: the first k matrices. -/
def rowM (L : List (Nat → Nat → Int)) (k : Nat) (f : Nat → Value) : Prop :=
  ∀ (j : Nat) (h : j < L.length), j < k → ∀ a b, a < 3 → b < 3 → f (j * 9 + (a * 3 + b)) = .int .u8 (L[j] a b)
def putM (f : Nat → Value) (k : Nat) (x : Nat → Nat → Int) (q : Nat) : Value := if k * 9 ≤ q ∧ q < k * 9 + 9 then .int .u8 (x ((q - k * 9) / 3) ((q - k * 9) % 3)) else f q
theorem rowM_step {L : List (Nat → Nat → Int)} {k : Nat} {f : Nat → Value} (h : rowM L k f) (hk : k < L.length) : rowM L (k + 1) (putM f k L[k]) := by
  intro j hj hjk a b ha hb
  unfold putM
  by_cases e : j = k
  · subst e
    rw [if_pos (by omega), show (j * 9 + (a * 3 + b) - j * 9) / 3 = a by omega, show (j * 9 + (a * 3 + b) - j * 9) % 3 = b by omega]
  · rw [if_neg (by omega)]
    exact h j hj (by omega) a b ha hb
theorem putM_row {w : World} {B n : Nat} {t : TypeId} {f : Nat → Value} (h : w.rowIs B t n f) (k : Nat) (x : Nat → Nat → Int) :
    ((((((((((w).setCell ⟨B, k * 9, none⟩ (.int .u8 (x 0 0))).setCell ⟨B, k * 9 + 1, none⟩ (.int .u8 (x 0 1))).setCell ⟨B, k * 9 + 2, none⟩ (.int .u8 (x 0 2))).setCell ⟨B, k * 9 + 3, none⟩ (.int .u8 (x 1 0))).setCell ⟨B, k * 9 + 4, none⟩ (.int .u8 (x 1 1))).setCell ⟨B, k * 9 + 5, none⟩ (.int .u8 (x 1 2))).setCell ⟨B, k * 9 + 6, none⟩ (.int .u8 (x 2 0))).setCell ⟨B, k * 9 + 7, none⟩ (.int .u8 (x 2 1))).setCell ⟨B, k * 9 + 8, none⟩ (.int .u8 (x 2 2))).rowIs B t n (putM f k x) := by
  refine ((((((((((h).set (k * 9) (.int .u8 (x 0 0))).set (k * 9 + 1) (.int .u8 (x 0 1))).set (k * 9 + 2) (.int .u8 (x 0 2))).set (k * 9 + 3) (.int .u8 (x 1 0))).set (k * 9 + 4) (.int .u8 (x 1 1))).set (k * 9 + 5) (.int .u8 (x 1 2))).set (k * 9 + 6) (.int .u8 (x 2 0))).set (k * 9 + 7) (.int .u8 (x 2 1))).set (k * 9 + 8) (.int .u8 (x 2 2))).congr fun q _ => ?_
  unfold putM
  by_cases e : k * 9 ≤ q ∧ q < k * 9 + 9
  · obtain ⟨r, rfl⟩ : ∃ r, q = k * 9 + r := ⟨q - k * 9, by omega⟩
    have hr : r < 9 := by omega
    rw [if_pos e, Nat.add_sub_cancel_left]
    match r, hr with
    | 0, _ => simp
    | 1, _ => simp
    | 2, _ => simp
    | 3, _ => simp
    | 4, _ => simp
    | 5, _ => simp
    | 6, _ => simp
    | 7, _ => simp
    | 8, _ => simp
  · rw [if_neg e]
    repeat (rw [if_neg (by omega)])
/-- A list of matrices that a call has made, and holds as its own. -/
def OwnM (w : World) (base : Nat) (v : Value) (L : List (Nat → Nat → Int)) : Prop :=
  ∃ g f, v = .slice (some ⟨g, 0, none⟩) L.length L.length ∧ base ≤ g ∧ w.rowIs g 76 (L.length * 9) f ∧ rowM L L.length f
theorem OwnM.slice {w : World} {base : Nat} {v : Value} {L : List (Nat → Nat → Int)} (h : OwnM w base v L) : SlM w v L := by
  obtain ⟨g, f, hv, _, hr, ht⟩ := h
  refine ⟨_, _, hv, .inr ⟨g, 0, rfl, hr.lt, fun k hk i j hi hj => ?_⟩⟩
  rw [Nat.zero_add, hr.cell (by omega), ht k hk hk i j hi hj]
theorem OwnM.below {w w' : World} {base : Nat} {v : Value} {L : List (Nat → Nat → Int)} (h : OwnM w base v L) (hb : Below w.heap.size w w') : OwnM w' base v L := by
  obtain ⟨g, f, hv, hg, hr, ht⟩ := h
  exact ⟨g, f, hv, hg, erow_below hr hb hr.lt, ht⟩

set_option maxRecDepth 8000 in
set_option maxHeartbeats 8000000 in
theorem tomats (v : Value) (L : List (Nat → Nat → Int)) (w : World) (hl : L.length ≤ 1048576) (hS : SlM w v L) :
    Calls Tryz.prog 25 #[v] w fun e w' => ∃ v', e = .returned v' ∧ OwnM w' w.heap.size v' L ∧ Below w.heap.size w w' := by
  obtain ⟨i0, hi, hz0, hz1, hz2⟩ := info_parts infoMat
  have hmk : ∀ w, (Instr.makeSlice 33 (.int .i64 (L.length : Int)) (.int .i64 (L.length : Int))).run Tryz.prog w = .ok (.slice (some ⟨w.heap.size, 0, none⟩) L.length L.length) (w.alloc (.cells (madeM L.length) 76)) := fun w => by
    have h := run_make (P := Tryz.prog) w 33 76 i0 _ Tryz.underlying33 hi hz0 .i64 .i64 (L.length : Int) (L.length : Int) (by omega) (by omega) (by rw [hz2]; omega) (by omega)
    rw [hz1] at h
    simpa [madeM] using h
  clear hi hz0 hz1 hz2
  obtain ⟨a, cap, rfl, hSc⟩ := id hS
  go_enter Tryz.func25, Tryz.ntmps25
  go_wp2_with fail
  go_loopw [4] (fun i wr => ∃ k : Nat, k ≤ L.length ∧ i = .int .i64 k ∧ Below w.heap.size w wr ∧ w.heap.size < wr.heap.size ∧ ∃ f, wr.rowIs w.heap.size 76 (L.length * 9) f ∧ Hid (rowM L k f)) (fun i _ => L.length - (intOf i).toNat)
  case atStart => exact ⟨0, by omega, rfl, ebox1 _ _, by simp, _, madeM_row w _ _, Lib.hid (fun j _ h => by omega)⟩
  case round =>
    obtain ⟨k, hk, rfl, hbel, hsz, f, hrow, HR⟩ := hrel
    by_cases hlt : k < L.length
    · have hlt' : (k : Int) < (L.length : Int) := by omega
      obtain ⟨b, off, rfl, hbb, hT⟩ : ∃ b off, a = some ⟨b, off, none⟩ ∧ b < w.heap.size ∧ MatsW w b off L := by
        rcases hSc with rfl | h
        · simp at hlt
        · exact h
      obtain ⟨⟨a0, a1, a2⟩, ⟨a3, a4, a5⟩, a6, a7, a8⟩ := (hT.below hbel hbb).nine hlt
      have HN := Lib.hid (rowM_step HR.out hlt)
      generalize L[k] = x at *
      go_wp2_with fail
      ((with_reducible refine (tomat_agg x _).mono ?_); rintro e w1 ⟨rfl, hb1⟩)
      have row1 := erow_below hrow hb1 hsz
      have d0 := row1.cell (i := k * 9) (by omega)
      have f0 := row1.frozen (k * 9)
      have d1 := row1.cell (i := k * 9 + 1) (by omega)
      have f1 := row1.frozen (k * 9 + 1)
      have d2 := row1.cell (i := k * 9 + 2) (by omega)
      have f2 := row1.frozen (k * 9 + 2)
      have d3 := row1.cell (i := k * 9 + 3) (by omega)
      have f3 := row1.frozen (k * 9 + 3)
      have d4 := row1.cell (i := k * 9 + 4) (by omega)
      have f4 := row1.frozen (k * 9 + 4)
      have d5 := row1.cell (i := k * 9 + 5) (by omega)
      have f5 := row1.frozen (k * 9 + 5)
      have d6 := row1.cell (i := k * 9 + 6) (by omega)
      have f6 := row1.frozen (k * 9 + 6)
      have d7 := row1.cell (i := k * 9 + 7) (by omega)
      have f7 := row1.frozen (k * 9 + 7)
      have d8 := row1.cell (i := k * 9 + 8) (by omega)
      have f8 := row1.frozen (k * 9 + 8)
      have hbel1 := hbel.trans (hb1.mono (Nat.le_of_lt hsz))
      have hsz1 := Nat.lt_of_lt_of_le hsz hb1.size
      have rows := putM_row row1 k x
      clear hb1 row1 a0 a1 a2 a3 a4 a5 a6 a7 a8
      go_wp2_with fail
      go_roundw
      case rel => exact ⟨k + 1, by omega, by go_num, (((((((((hbel1).setCell (Nat.le_refl _) _).setCell (Nat.le_refl _) _).setCell (Nat.le_refl _) _).setCell (Nat.le_refl _) _).setCell (Nat.le_refl _) _).setCell (Nat.le_refl _) _).setCell (Nat.le_refl _) _).setCell (Nat.le_refl _) _).setCell (Nat.le_refl _) _, by simpa using hsz1, _, rows, HN⟩
      case measure => simp [intOf]; omega
    · obtain rfl : k = L.length := by omega
      have hR := HR.out
      go_wp2_with fail
      go_ret
      exact ⟨_, rfl, ⟨w.heap.size, f, rfl, Nat.le_refl _, hrow, hR⟩, hbel⟩
end Go.Proofs.YtbhgbifliihlbaaGreat
namespace Go.Proofs.YtbhgbifliihlbaaGreat
open Go.RowKit Go.Sort EchM

theorem eqb3_regrown (x y z : Int) (W : World) (d : Nat) (os : Array Obj) :
    Calls Tryz.prog 77 #[.agg #[.int .u8 x, .int .u8 y, .int .u8 z], .agg #[.int .u8 x, .int .u8 y, .int .u8 z]] (grow (redrawn W d) os) fun e w'' => e = .returned (.bool true) ∧ ∃ p : Regrown, w'' = grow (redrawn W p.d) p.os :=
  Calls.regrown_of (eqbyte3 x y z _)

set_option maxRecDepth 8000 in
set_option maxHeartbeats 4000000 in
theorem eqmat (g : Nat → Nat → Int) (w : World) : Calls Tryz.prog 48 #[mv g, mv g] w fun e w' => e = .returned (.bool true) ∧ Below w.heap.size w w' := by
  obtain ⟨W, hW, r1, r2, hbW⟩ : ∃ W, W = (w.alloc (.cells #[.int .u8 (g 0 0), .int .u8 (g 0 1), .int .u8 (g 0 2), .int .u8 (g 1 0), .int .u8 (g 1 1), .int .u8 (g 1 2), .int .u8 (g 2 0), .int .u8 (g 2 1), .int .u8 (g 2 2)] 76)).alloc (.cells #[.int .u8 (g 0 0), .int .u8 (g 0 1), .int .u8 (g 0 2), .int .u8 (g 1 0), .int .u8 (g 1 1), .int .u8 (g 1 2), .int .u8 (g 2 0), .int .u8 (g 2 1), .int .u8 (g 2 2)] 76) ∧
      W.rowIs w.heap.size 76 9 (mF g) ∧ W.rowIs (w.heap.size + 1) 76 9 (mF g) ∧ Below w.heap.size w W := by
    refine ⟨_, rfl, (mbox w g _).alloc _, ?_, ebox2 _ _ _⟩
    have := mbox (w.alloc (.cells #[.int .u8 (g 0 0), .int .u8 (g 0 1), .int .u8 (g 0 2), .int .u8 (g 1 0), .int .u8 (g 1 1), .int .u8 (g 1 2), .int .u8 (g 2 0), .int .u8 (g 2 1), .int .u8 (g 2 2)] 76)) g 76
    rwa [World.size_alloc] at this
  unfold mv
  go_enter Tryz.func48, Tryz.ntmps48
  go_upto_region 1 with fail
  rw [← hW]
  clear hW
  go_wp2_with fail
  go_loopw [5] (fun i wr => ∃ (k : Nat), k ≤ 3 ∧ i = .int .i64 k ∧ Below W.heap.size W wr) (fun i _ => 3 - (intOf i).toNat)
  case atStart => exact ⟨0, by omega, rfl, Below.refl _ _⟩
  case round =>
    obtain ⟨k, hk, rfl, hb⟩ := hrel
    by_cases hlt : k < 3
    · obtain ⟨⟨a0, a1, a2⟩, ⟨a3, a4, a5⟩, a6, a7, a8⟩ := mcells (erow_below r1 hb r1.lt)
      obtain ⟨⟨b0, b1, b2⟩, ⟨b3, b4, b5⟩, b6, b7, b8⟩ := mcells (erow_below r2 hb r2.lt)
      have k0 := cell_regrown a0
      have k1 := cell_regrown a1
      have k2 := cell_regrown a2
      have k3 := cell_regrown a3
      have k4 := cell_regrown a4
      have k5 := cell_regrown a5
      have k6 := cell_regrown a6
      have k7 := cell_regrown a7
      have k8 := cell_regrown a8
      have l0 := cell_regrown b0
      have l1 := cell_regrown b1
      have l2 := cell_regrown b2
      have l3 := cell_regrown b3
      have l4 := cell_regrown b4
      have l5 := cell_regrown b5
      have l6 := cell_regrown b6
      have l7 := cell_regrown b7
      have l8 := cell_regrown b8
      have cE := fun i => eqb3_regrown (g i 0) (g i 1) (g i 2) wr
      have h3 : k = 0 ∨ k = 1 ∨ k = 2 := by omega
      rcases h3 with rfl | rfl | rfl
      · have c1 := cE 0
        clear cE k3 k4 k5 k6 k7 k8 l3 l4 l5 l6 l7 l8
        go_wp2_with fail
        refine wp_region_quiet_below (by kernel_rfl) (by kernel_rfl) ?_
        repeat (quiet_step (first | with_reducible exact c1 _ _))
        refine wpQuiet_nil ?_
        intro _ hw'
        obtain ⟨⟨dq, osq⟩, hw''⟩ := hw'
        subst hw''
        have hb2 := hb.trans ((below_regrown wr dq osq).mono hb.size)
        generalize grow (redrawn wr dq) osq = V at *
        clear k0 k1 k2 l0 l1 l2 c1
        go_wp2_with fail
        go_roundw
        case rel => exact ⟨1, by omega, by go_num, hb2⟩
        case measure => simp [intOf]
      · have c1 := cE 1
        clear cE k0 k1 k2 k6 k7 k8 l0 l1 l2 l6 l7 l8
        go_wp2_with fail
        refine wp_region_quiet_below (by kernel_rfl) (by kernel_rfl) ?_
        repeat (quiet_step (first | with_reducible exact c1 _ _))
        refine wpQuiet_nil ?_
        intro _ hw'
        obtain ⟨⟨dq, osq⟩, hw''⟩ := hw'
        subst hw''
        have hb2 := hb.trans ((below_regrown wr dq osq).mono hb.size)
        generalize grow (redrawn wr dq) osq = V at *
        clear k3 k4 k5 l3 l4 l5 c1
        go_wp2_with fail
        go_roundw
        case rel => exact ⟨2, by omega, by go_num, hb2⟩
        case measure => simp [intOf]
      · have c1 := cE 2
        clear cE k3 k4 k5 k0 k1 k2 l3 l4 l5 l0 l1 l2
        go_wp2_with fail
        refine wp_region_quiet_below (by kernel_rfl) (by kernel_rfl) ?_
        repeat (quiet_step (first | with_reducible exact c1 _ _))
        refine wpQuiet_nil ?_
        intro _ hw'
        obtain ⟨⟨dq, osq⟩, hw''⟩ := hw'
        subst hw''
        have hb2 := hb.trans ((below_regrown wr dq osq).mono hb.size)
        generalize grow (redrawn wr dq) osq = V at *
        clear k6 k7 k8 l6 l7 l8 c1
        go_wp2_with fail
        go_roundw
        case rel => exact ⟨3, by omega, by go_num, hb2⟩
        case measure => simp [intOf]
    · obtain rfl : k = 3 := by omega
      go_wp2_with fail
      go_ret
      exact ⟨rfl, hbW.trans (hb.mono hbW.size)⟩
end Go.Proofs.YtbhgbifliihlbaaGreat
namespace Go.Proofs.YtbhgbifliihlbaaGreat
open Go.RowKit Go.Sort EchM

theorem eqmat_r (g : Nat → Nat → Int) (W : World) : ∀ dd os, Calls Tryz.prog 48 #[(.agg #[.int .u8 (g 0 0), .int .u8 (g 0 1), .int .u8 (g 0 2), .int .u8 (g 1 0), .int .u8 (g 1 1), .int .u8 (g 1 2), .int .u8 (g 2 0), .int .u8 (g 2 1), .int .u8 (g 2 2)]), (.agg #[.int .u8 (g 0 0), .int .u8 (g 0 1), .int .u8 (g 0 2), .int .u8 (g 1 0), .int .u8 (g 1 1), .int .u8 (g 1 2), .int .u8 (g 2 0), .int .u8 (g 2 1), .int .u8 (g 2 2)])] (grow (redrawn W dd) os) fun e w'' => e = .returned (.bool true) ∧ ∃ q : Regrown, w'' = grow (redrawn W q.d) q.os := fun _ _ => Calls.regrown_of (eqmat g _)

set_option maxRecDepth 8000 in
set_option maxHeartbeats 4000000 in
theorem eqmats (v v' : Value) (L : List (Nat → Nat → Int)) (w : World) (hl : L.length ≤ 1048576) (hS : SlM w v L) (hS' : SlM w v' L) :
    Calls Tryz.prog 30 #[v, v'] w fun e w' => e = .returned (.bool true) ∧ Below w.heap.size w w' := by
  have hnn : ((L.length : Int) != (L.length : Int)) = false := by simp
  obtain ⟨a, cap, rfl, hSc⟩ := id hS
  obtain ⟨a', cap', rfl, hSc'⟩ := id hS'
  go_enter Tryz.func30, Tryz.ntmps30
  go_wp2_with fail
  go_loopw [5] (fun i wr => ∃ k : Nat, k ≤ L.length ∧ i = .int .i64 k ∧ Below w.heap.size w wr) (fun i _ => L.length - (intOf i).toNat)
  case atStart => exact ⟨0, by omega, rfl, Below.refl _ _⟩
  case round =>
    obtain ⟨k, hk, rfl, hbel⟩ := hrel
    by_cases hlt : k < L.length
    · have hlt' : (k : Int) < (L.length : Int) := by omega
      obtain ⟨b, off, rfl, hbb, hT⟩ : ∃ b off, a = some ⟨b, off, none⟩ ∧ b < w.heap.size ∧ MatsW w b off L := by
        rcases hSc with rfl | h
        · simp at hlt
        · exact h
      obtain ⟨b', off', rfl, hbb', hT'⟩ : ∃ b off, a' = some ⟨b, off, none⟩ ∧ b < w.heap.size ∧ MatsW w b off L := by
        rcases hSc' with rfl | h
        · simp at hlt
        · exact h
      obtain ⟨⟨a0, a1, a2⟩, ⟨a3, a4, a5⟩, a6, a7, a8⟩ := (hT.below hbel hbb).nine hlt
      obtain ⟨⟨b0, b1, b2⟩, ⟨b3, b4, b5⟩, b6, b7, b8⟩ := (hT'.below hbel hbb').nine hlt
      generalize L[k] = x at *
      have e0 := cell_regrown a0
      have e1 := cell_regrown a1
      have e2 := cell_regrown a2
      have e3 := cell_regrown a3
      have e4 := cell_regrown a4
      have e5 := cell_regrown a5
      have e6 := cell_regrown a6
      have e7 := cell_regrown a7
      have e8 := cell_regrown a8
      have f0 := cell_regrown b0
      have f1 := cell_regrown b1
      have f2 := cell_regrown b2
      have f3 := cell_regrown b3
      have f4 := cell_regrown b4
      have f5 := cell_regrown b5
      have f6 := cell_regrown b6
      have f7 := cell_regrown b7
      have f8 := cell_regrown b8
      clear a0 a1 a2 a3 a4 a5 a6 a7 a8 b0 b1 b2 b3 b4 b5 b6 b7 b8
      have kE := eqmat_r x wr
      go_wp2_with fail
      refine wp_region_quiet_below (by kernel_rfl) (by kernel_rfl) ?_
      repeat (go_big_quiet_step (with_reducible exact kE _ _))
      refine wpQuiet_nil ?_
      intro _ hw'
      obtain ⟨⟨dq, osq⟩, hw''⟩ := hw'
      subst hw''
      have hb2 := hbel.trans ((below_regrown wr dq osq).mono hbel.size)
      generalize grow (redrawn wr dq) osq = V at *
      clear e0 e1 e2 e3 e4 e5 e6 e7 e8 f0 f1 f2 f3 f4 f5 f6 f7 f8 kE
      go_wp2_with fail
      go_roundw
      case rel => exact ⟨k + 1, by omega, by go_num, hb2⟩
      case measure => simp [intOf]; omega
    · obtain rfl : k = L.length := by omega
      go_wp2_with fail
      go_ret
      exact ⟨rfl, hbel⟩

theorem szmats_ok (a : Option Addr) (l cap : Nat) (w : World) (hl : l ≤ 1048576) :
    Calls Tryz.prog 17 #[.slice a l cap, .int .i64 1048576] w fun e w' => e = .returned (.int .i64 (1048576 - (l : Int))) ∧ w = w' := by
  have h1 : IntKind.i64.wrap (1048576 - (l : Int)) = 1048576 - (l : Int) := IntWalk.i64_in _ (by omega)
  have h2 : ¬ (1048576 - (l : Int)) < 0 := by omega
  go_enter Tryz.func17, Tryz.ntmps17
  go_wp2_with fail
  go_ret
  exact ⟨rfl, rfl⟩
theorem szmats_no (a : Option Addr) (l cap : Nat) (w : World) (hl : 1048576 < l) (hl2 : l ≤ 9223372036854775807) :
    Calls Tryz.prog 17 #[.slice a l cap, .int .i64 1048576] w fun e w' => e = .returned (.int .i64 (-1)) ∧ w = w' := by
  have h1 : IntKind.i64.wrap (1048576 - (l : Int)) = 1048576 - (l : Int) := IntWalk.i64_in _ (by omega)
  have h2 : (1048576 - (l : Int)) < 0 := by omega
  have h3 : (1048576 : Int) < (l : Int) := by omega
  go_enter Tryz.func17, Tryz.ntmps17
  go_wp2_with fail
  go_ret
  exact ⟨rfl, rfl⟩
theorem szgrp_ok (p n : Int) (a : Option Addr) (l cap : Nat) (w : World) (hl : l ≤ 1048576) :
    Calls Tryz.prog 4 #[.agg #[.int .i64 p, .int .i64 n, .slice a l cap], .int .i64 1048576] w fun e w' => e = .returned (.int .i64 (1048576 - (l : Int))) ∧ Below w.heap.size w w' := by
  obtain ⟨W, hW, rW, hbW⟩ : ∃ W, W = w.alloc (.cells #[.int .i64 p, .int .i64 n, .slice a l cap] 24) ∧ W.rowIs w.heap.size 24 3 (grpF p n (.slice a l cap)) ∧ Below w.heap.size w W := ⟨_, rfl, gbox w p n _ _, ebox1 _ _⟩
  obtain ⟨g0, g1, g2⟩ := gcells rW
  have h2 : ¬ (1048576 - (l : Int)) < 0 := by omega
  go_enter Tryz.func4, Tryz.ntmps4
  go_wp2_with fail
  rw [← hW]
  clear hW
  go_wp2_with fail
  ((with_reducible refine (szmats_ok a l cap _ hl).mono ?_); rintro e w1 ⟨rfl, rfl⟩)
  go_wp2_with fail
  go_ret
  exact ⟨rfl, hbW⟩
theorem szgrp_no (p n : Int) (a : Option Addr) (l cap : Nat) (w : World) (hl : 1048576 < l) (hl2 : l ≤ 9223372036854775807) :
    Calls Tryz.prog 4 #[.agg #[.int .i64 p, .int .i64 n, .slice a l cap], .int .i64 1048576] w fun e w' => e = .returned (.int .i64 (-1)) ∧ Below w.heap.size w w' := by
  obtain ⟨W, hW, rW, hbW⟩ : ∃ W, W = w.alloc (.cells #[.int .i64 p, .int .i64 n, .slice a l cap] 24) ∧ W.rowIs w.heap.size 24 3 (grpF p n (.slice a l cap)) ∧ Below w.heap.size w W := ⟨_, rfl, gbox w p n _ _, ebox1 _ _⟩
  obtain ⟨g0, g1, g2⟩ := gcells rW
  go_enter Tryz.func4, Tryz.ntmps4
  go_wp2_with fail
  rw [← hW]
  clear hW
  go_wp2_with fail
  ((with_reducible refine (szmats_no a l cap _ hl hl2).mono ?_); rintro e w1 ⟨rfl, rfl⟩)
  go_wp2_with fail
  go_ret
  exact ⟨rfl, hbW⟩
set_option maxHeartbeats 2000000 in
theorem eqgrp (p n : Int) (v v' : Value) (L : List (Nat → Nat → Int)) (w : World) (hl : L.length ≤ 1048576) (hS : SlM w v L) (hS' : SlM w v' L) :
    Calls Tryz.prog 11 #[.agg #[.int .i64 p, .int .i64 n, v], .agg #[.int .i64 p, .int .i64 n, v']] w fun e w' => e = .returned (.bool true) ∧ Below w.heap.size w w' := by
  obtain ⟨W, hW, r1, r2, hbW⟩ : ∃ W, W = (w.alloc (.cells #[.int .i64 p, .int .i64 n, v] 35)).alloc (.cells #[.int .i64 p, .int .i64 n, v'] 35) ∧ W.rowIs w.heap.size 35 3 (grpF p n v) ∧ W.rowIs (w.heap.size + 1) 35 3 (grpF p n v') ∧ Below w.heap.size w W := by
    refine ⟨_, rfl, (gbox w p n v _).alloc _, ?_, ebox2 _ _ _⟩
    have := gbox (w.alloc (.cells #[.int .i64 p, .int .i64 n, v] 35)) p n v' 35
    rwa [World.size_alloc] at this
  have hSW := hS.below hbW
  have hSW' := hS'.below hbW
  obtain ⟨a, cap, rfl, _⟩ := id hS
  obtain ⟨a', cap', rfl, _⟩ := id hS'
  obtain ⟨g0, g1, g2⟩ := gcells r1
  obtain ⟨k0, k1, k2⟩ := gcells r2
  have hp : (p != p) = false := by simp
  have hn : (n != n) = false := by simp
  go_enter Tryz.func11, Tryz.ntmps11
  go_upto_region 1 with fail
  rw [← hW]
  clear hW
  go_wp2_with fail
  ((with_reducible refine (eqmats _ _ L _ hl hSW hSW').mono ?_); rintro e w1 ⟨rfl, hb1⟩)
  go_wp2_with fail
  go_ret
  exact ⟨rfl, hbW.trans (hb1.mono hbW.size)⟩
end Go.Proofs.YtbhgbifliihlbaaGreat
