/-
  The law of 'MonomialOf', walked. Conditions: as the theorem states.
-/
import Derived.Test.YtpnlpmalkiaioaaG
import Derived.Test.YtpnlpmalkiaioaaMi
import Derived.Test.YtpnlpmalkiaioaaLo
import Derived.Test.YtpnlpmalkiaioaaLs2
import Derived.Deep.RegionWith
namespace Go.Proofs.Ytpnlpmalkiaioaa
open Go.RowKit Go.Sort

/-- The boxes of a law of a list: the model's result's (B0), the program's result's (B2). -/
structure LawStI (w wr : World) (B0 B2 N0 : Nat) (P D : Int) (va s0 s2 : Value) (l : List Int) (S : List Tm) : Prop where
  b0 : wr.rowIs B0 25 3 (polyF P D s0)
  b2 : wr.rowIs B2 25 3 (polyF P D s2)
  sa : SliceIB wr w.heap.size va l
  sm : SliceB wr N0 s0 S
  below : Below w.heap.size w wr
  n0 : w.heap.size ≤ N0 ∧ N0 ≤ wr.heap.size
theorem LawStI.step {w wr w' : World} {B0 B2 N0 : Nat} {P D : Int} {va s0 s2 : Value} {l : List Int} {S : List Tm} {row : Option Nat} (h : LawStI w wr B0 B2 N0 P D va s0 s2 l S) (hg : wr.grownBy w' row) (hr : ∀ g, row = some g → N0 ≤ g ∧ ∃ t N f, wr.rowIs g t N f ∧ t ≠ 25) :
    LawStI w w' B0 B2 N0 P D va s0 s2 l S := by
  have hsz := hg.size
  obtain ⟨n1, n2⟩ := h.n0
  have key : ∀ b f, wr.rowIs b 25 3 f → w'.rowIs b 25 3 f := fun b f hb => hb.of_block (hg.block b hb.lt fun e => by
    obtain ⟨_, t, N, f', hrow, ht⟩ := hr b e.symm
    exact rowIs_ne hb hrow (fun h => ht h.symm) rfl)
  refine ⟨key _ _ h.b0, key _ _ h.b2, h.sa.kept hg h.below.size fun g e => Nat.le_trans n1 (hr g e).1, h.sm.kept hg n2 fun g e => (hr g e).1, ?_, n1, by omega⟩
  exact h.below.grown hg h.below.size fun g e => Nat.le_trans n1 (hr g e).1
theorem LawStI.on {w wr w' : World} {B0 B2 N0 : Nat} {P D : Int} {va s0 s2 : Value} {l : List Int} {S : List Tm} (h : LawStI w wr B0 B2 N0 P D va s0 s2 l S) (hb : Below wr.heap.size wr w') : LawStI w w' B0 B2 N0 P D va s0 s2 l S :=
  h.step (below_grown hb) (fun g e => by simp at e)

theorem monO_ex (p d val : Int) (l : List Int) : ∃ o, MonO p d l val o := by
  by_cases h : MonOk p d l val
  · by_cases hs : 12 < l.sum
    · exact ⟨_, .inr ⟨h, .inl ⟨hs, rfl⟩⟩⟩
    · obtain ⟨hp, h1, h3, hlen, hall, v0, v1⟩ := id h
      have hx : expsL d l = true := by
        unfold expsL
        rw [hall]
        simp
        exact ⟨hlen, by omega⟩
      have q := prime_le hp
      have hL : IsP p (putL p [] (padE l) val) (fun a => if a = padE l then val else 0) := (IsP.one q.1 (padE_mono hx (by omega)) val).congr fun a _ => by
        rw [Int.emod_eq_of_lt v0 v1]
      exact ⟨_, .inr ⟨h, .inr ⟨by omega, _, hL, rfl⟩⟩⟩
  · exact ⟨_, .inl ⟨h, rfl⟩⟩
theorem monO_len {p d val : Int} {l : List Int} {o : OutP} (h : MonO p d l val o) : o.S.length ≤ 1048576 := by
  rcases h with ⟨_, rfl⟩ | ⟨_, ⟨_, rfl⟩ | ⟨_, L, hL, rfl⟩⟩
  · simp [noP]
  · simp [noP]
  · exact Nat.le_trans hL.len (by omega)

set_option maxRecDepth 8000 in
set_option maxHeartbeats 8000000 in
theorem law_Mo (p d val : Int) (u : Value) (l : List Int) (w : World) (hn : l.length ≤ 9223372036854775807) (hU : SliceI w u l) :
    Calls Try.prog 3 #[.int .i64 p, .int .i64 d, u, .int .i64 val] w fun e w' => e = .returned (.bool true) ∧ Below w.heap.size w w' := by
  obtain ⟨a, cap, rfl, _⟩ := id hU
  by_cases hbig : 1048576 < l.length
  · have hbi : (1048576 : Int) < (l.length : Int) := by omega
    go_enter Try.func3, Try.ntmps3
    go_wp2
    go_ret
    exact ⟨rfl, Below.refl _ _⟩
  have hm : l.length ≤ 1048576 := by omega
  have hbi : ¬ (1048576 : Int) < (l.length : Int) := by omega
  have hmi : (l.length : Int) ≤ 1048576 := by omega
  obtain ⟨o, ho⟩ := monO_ex p d val l
  have hso : o.S.length ≤ 1048576 := monO_len ho
  have hspec := fun v w h => specMon p d val v l w hm h o ho
  have himpl := fun v w h => implMon p d val v l w hm h o ho
  clear ho hbig
  obtain ⟨P, D, S, c⟩ := o
  simp only at hso
  go_enter Try.func3, Try.ntmps3
  go_wp2_with fail
  ((with_reducible refine (toI_own _ l _ hm hU).mono ?_); rintro e w1 ⟨v1, rfl, own1, hb1⟩)
  go_wp2_with fail
  ((with_reducible refine (hspec _ _ own1.slice).mono ?_); rintro e w2 ⟨sv2, rfl, ho2, hb2⟩)
  simp only at ho2
  obtain ⟨a3, c3, rfl⟩ := owns_slice ho2
  have s1 := hb1.size
  have hbw2 := hb1.trans (hb2.mono hb1.size)
  obtain ⟨V2, hV2, hbV2, ⟨hV2s1, hV2s2⟩, rb0⟩ := newbox w2 P D (.slice a3 S.length c3)
  have hbwV2 := hbw2.trans (hbV2.mono hbw2.size)
  have sz2 := hbw2.size
  have sm2 := (OwnP.slice ho2).bound
  go_wp2_with fail
  rw [← hV2]
  clear hV2
  ((with_reducible refine (toI_own _ l _ hm (hU.below hbwV2)).mono ?_); rintro e w3 ⟨v3, rfl, own3, hb3⟩)
  have hbw3 := hbwV2.trans (hb3.mono hbwV2.size)
  go_wp2_with fail
  ((with_reducible refine (himpl _ _ own3.slice).mono ?_); rintro e w4 ⟨sv4, rfl, ho4, hb4⟩)
  simp only at ho4
  obtain ⟨a5, c5, rfl⟩ := owns_slice ho4
  obtain ⟨V4, hV4, hbV4, ⟨hV4s1, hV4s2⟩, rb2⟩ := newbox w4 P D (.slice a5 S.length c5)
  have s3 := hb3.size
  have s4 := hb4.size
  have hb34 := hb3.trans ((hb4.trans (hbV4.mono hb4.size)).mono hb3.size)
  have hbV := hbwV2.trans (hb34.mono hbwV2.size)
  have hb24 := hbV2.trans (hb34.mono hbV2.size)
  have st : LawStI w V4 w2.heap.size w4.heap.size w2.heap.size P D (.slice a l.length cap) (.slice a3 S.length c3) (.slice a5 S.length c5) l S :=
    ⟨rowIs_below rb0 hb34 rb0.lt, rb2, hU.bound.kept (below_grown hbV) (Nat.le_refl _) (fun g e => by simp at e), sm2.kept (below_grown hb24) (Nat.le_refl _) (fun g e => by simp at e), hbV, sz2, hb24.size⟩
  have hx4 : OwnI V4 V2.heap.size v3 l := own3.below (hb4.trans (hbV4.mono hb4.size))
  have hg4 : OwnP V4 w3.heap.size (.slice a5 S.length c5) S := owns_belowT ho4 hbV4
  have hlt3 : ∀ g, v3.ownBlock = some g → g < w3.heap.size := fun g e => by
    obtain ⟨g', f, rfl, _, hr, _⟩ := own3
    simp [Value.ownBlock] at e
    have := hr.lt
    omega
  have kb := rowIs_below (rowIs_below rb0 hb3 rb0.lt) hb4 (Nat.lt_of_lt_of_le rb0.lt s3)
  have ko : ∀ o, ((w4.alloc o).cell? ⟨w2.heap.size, 0, none⟩ = some (.int .i64 P) ∧ (w4.alloc o).cell? ⟨w2.heap.size, 1, none⟩ = some (.int .i64 D) ∧ (w4.alloc o).cell? ⟨w2.heap.size, 2, none⟩ = some (.slice a3 S.length c3)) := fun o => (poly3 (rowIs_below kb (box1 _ o) kb.lt)).1
  have hcc : (c != c) = false := by simp
  clear rb0 rb2 hb2 hb4 hbV2 hbV4 hb34 hbV hb24 hbwV2 hbw2 hbw3 hb1 own1 ho2 ho4 sm2 own3 kb hspec
  go_wp2_with fail
  rw [← hV4]
  clear hV4 ko
  ((with_reducible refine (eqPoly_same P D _ _ S _ hso (OwnP.slice hg4) (st.sm.slice st.n0.2)).mono ?_); rintro e w6 ⟨rfl, hb6⟩)
  have st6 := st.on hb6
  have hx6 := hx4.below hb6
  have hg6 : OwnP w6 w3.heap.size (.slice a5 S.length c5) S := owns_belowT hg4 hb6
  clear st hx4 hg4 hb6
  go_wp2_with fail
  ((with_reducible refine (toI_own _ l _ hm (st6.sa.slice st6.below.size)).mono ?_); rintro e w7 ⟨v7, rfl, own7, hb7⟩)
  have st7 := st6.on hb7
  have hx7 := hx6.below hb7
  have hg7 : OwnP w7 w3.heap.size (.slice a5 S.length c5) S := owns_belowT hg6 hb7
  clear st6 hx6 hg6 hb7
  go_wp2_with fail
  ((with_reducible refine (eqI_same _ _ l _ hm hx7.slice own7.slice).mono ?_); rintro e w8 ⟨rfl, hb8⟩)
  have st8 := st7.on hb8
  have hx8 := hx7.below hb8
  have hg8 : OwnP w8 w3.heap.size (.slice a5 S.length c5) S := owns_belowT hg7 hb8
  clear st7 hx7 hg7 hb8 own7
  go_wp2_with fail
  ((with_reducible refine (markI_own 1 _ hx8 hm (by decide) (by decide)).mono ?_); rintro e w9 ⟨rfl, hgr9⟩)
  have st9 := st8.step hgr9 (fun g e => by
    obtain ⟨h1, N, f, h2⟩ := hx8.row g e
    exact ⟨by omega, _, N, f, h2, by decide⟩)
  have hg9 : OwnP w9 w3.heap.size (.slice a5 S.length c5) S := hg8.keep hgr9 (fun g e => hlt3 g e)
  clear st8 hx8 hg8 hgr9 hlt3
  have hq1 : ¬ (1 : Int) + (l.length : Int) < 0 := by omega
  obtain ⟨⟨q0, q1, q2⟩, _⟩ := poly3 st9.b2
  obtain ⟨⟨k0, k1, k2⟩, _⟩ := poly3 st9.b0
  go_wp2_with fail
  ((with_reducible refine (eqPoly_same P D _ _ S _ hso (OwnP.slice hg9) (st9.sm.slice st9.n0.2)).mono ?_); rintro e w10 ⟨rfl, hb10⟩)
  have st10 := st9.on hb10
  have hg10 : OwnP w10 w3.heap.size (.slice a5 S.length c5) S := owns_belowT hg9 hb10
  clear q0 q1 q2 k0 k1 k2 st9 hg9 hb10 hq1
  obtain ⟨⟨q0, q1, q2⟩, _⟩ := poly3 st10.b2
  go_wp2_with fail
  ((with_reducible refine (markPoly_own P D 1 _ (OwnG.of_owns hg10) hso (by decide) (by decide)).mono ?_); rintro e w11 ⟨rfl, hM11, hgr11⟩)
  have st11 := st10.step hgr11 (fun g e => by
    obtain ⟨h1, N, f, h2⟩ := (OwnG.of_owns hg10).row g e
    exact ⟨by omega, _, N, f, h2, by decide⟩)
  clear q0 q1 q2 st10 hg10 hgr11
  obtain ⟨⟨q0, q1, q2⟩, _⟩ := poly3 st11.b2
  go_wp2_with fail
  ((with_reducible refine (heldPoly_marks P D 1 _ hM11 hso (by decide) (by decide)).mono ?_); rintro e w12 ⟨rfl, hb12⟩)
  have st12 := st11.on hb12
  have hM12 := hM11.below hb12
  clear q0 q1 q2 st11 hM11 hb12
  have hq2 : ¬ (1 : Int) + 4 * (S.length : Int) < 0 := by omega
  have hq3 : ((1 : Int) + 4 * (S.length : Int) != 1 + 4 * (S.length : Int)) = false := by simp
  go_wp2_with fail
  ((with_reducible refine (toI_own _ l _ hm (st12.sa.slice st12.below.size)).mono ?_); rintro e w13 ⟨v13, rfl, own13, hb13⟩)
  have st13 := st12.on hb13
  have hM13 := hM12.below hb13
  clear st12 hM12 hb13
  go_wp2_with fail
  ((with_reducible refine (himpl _ _ own13.slice).mono ?_); rintro e w14 ⟨sv14, rfl, ho14, hb14⟩)
  simp only at ho14
  obtain ⟨a14, c14, rfl⟩ := owns_slice ho14
  have st14 := st13.on hb14
  have hM14 := hM13.below hb14
  clear st13 hM13 hb14 own13
  obtain ⟨V14, hV14, hbV14, _, rh⟩ := newbox w14 P D (.slice a14 S.length c14)
  have kb := st14.b0
  have ko : ∀ o, ((w14.alloc o).cell? ⟨w2.heap.size, 0, none⟩ = some (.int .i64 P) ∧ (w14.alloc o).cell? ⟨w2.heap.size, 1, none⟩ = some (.int .i64 D) ∧ (w14.alloc o).cell? ⟨w2.heap.size, 2, none⟩ = some (.slice a3 S.length c3)) := fun o => (poly3 (rowIs_below kb (box1 _ o) kb.lt)).1
  have stV := st14.on hbV14
  have hMV := hM14.below hbV14
  have hoV : OwnP V14 w13.heap.size (.slice a14 S.length c14) S := owns_belowT ho14 hbV14
  clear st14 hM14 ho14 hbV14 kb
  go_wp2_with fail
  rw [← hV14]
  clear hV14 ko
  ((with_reducible refine (eqPoly_same P D _ _ S _ hso (OwnP.slice hoV) (stV.sm.slice stV.n0.2)).mono ?_); rintro e w15 ⟨rfl, hb15⟩)
  have st15 := stV.on hb15
  have hM15 := hMV.below hb15
  clear stV hMV hoV rh hb15
  obtain ⟨⟨q0, q1, q2⟩, _⟩ := poly3 st15.b2
  go_wp2_with fail
  ((with_reducible refine (heldPoly_marks P D 1 _ hM15 hso (by decide) (by decide)).mono ?_); rintro e w16 ⟨rfl, hb16⟩)
  have hend := (st15.on hb16).below
  clear q0 q1 q2 st15 hM15 hb16
  go_wp2
  go_ret
  exact ⟨rfl, hend⟩
end Go.Proofs.Ytpnlpmalkiaioaa
