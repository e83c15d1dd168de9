/-
  WALKS of the model on rows modulo p: lists of rows; what is left of a row. Conditions: as each theorem states.
-/
import Derived.Test.YtpbdbgajohacoaaEc
namespace Go.Proofs.Ytpbdbgajohacoaa
open Go.RowKit Go.Sort EchM

/-- A slice that reads as a list of rows. -/
def RowsW (w : World) (b off : Nat) (L : List (List Int)) : Prop := ∀ (k : Nat) (h : k < L.length), ∃ v, w.cell? ⟨b, off + k, none⟩ = some v ∧ Sl w v L[k]
def SlR (w : World) (v : Value) (L : List (List Int)) : Prop :=
  ∃ a cap, v = .slice a L.length cap ∧ (L = [] ∨ ∃ b off, a = some ⟨b, off, none⟩ ∧ b < w.heap.size ∧ RowsW w b off L)
theorem RowsW.below {w w' : World} {b off : Nat} {L : List (List Int)} (h : RowsW w b off L) (hb : Below w.heap.size w w') (hB : b < w.heap.size) : RowsW w' b off L := fun k hk => by
  obtain ⟨v, h1, h2⟩ := h k hk
  exact ⟨v, (hb.cell (p := ⟨b, _, none⟩) hB).trans h1, h2.below hb⟩
theorem SlR.below {w w' : World} {v : Value} {L : List (List Int)} (h : SlR w v L) (hb : Below w.heap.size w w') : SlR w' v L := by
  obtain ⟨a, cap, hv, h | ⟨b, off, ha, hlt, hT⟩⟩ := h
  · exact ⟨a, cap, hv, .inl h⟩
  · exact ⟨a, cap, hv, .inr ⟨b, off, ha, Nat.lt_of_lt_of_le hlt hb.size, hT.below hb hlt⟩⟩
theorem Sl.shape {w : World} {v : Value} {l : List Int} (h : Sl w v l) : ∃ a cap, v = .slice a l.length cap := by
  obtain ⟨a, cap, hv, _⟩ := h; exact ⟨a, cap, hv⟩
theorem OwnL.form {w : World} {base : Nat} {v : Value} {l : List Int} (h : OwnL w base v l) (hl : 0 < l.length) : ∃ g cap, v = .slice (some ⟨g, 0, none⟩) l.length cap ∧ base ≤ g ∧ g < w.heap.size ∧ ∀ (k : Nat) (hk : k < l.length), w.cell? ⟨g, k, none⟩ = some (.int .i64 l[k]) := by
  obtain ⟨g, cap, hv, h1, h2⟩ := World.ownsRow.form h hl
  refine ⟨g, cap, hv, h1, h2, fun k hk => ?_⟩
  have := World.ownsRow.cells h (g := g) (by rw [hv]; rfl) k (.int .i64 l[k]) (by simp [valsI, hk])
  rwa [show (⟨g, 0, none⟩ : Addr).add k = ⟨g, k, none⟩ by unfold Addr.add; split <;> simp_all] at this
theorem OwnL.mono {w : World} {base base' : Nat} {v : Value} {l : List Int} (h : OwnL w base v l) (hb : base' ≤ base) : OwnL w base' v l := by
  obtain ⟨h1, h2⟩ := h
  refine ⟨h1, ?_⟩
  rcases h2 with h2 | ⟨g, cap, cur, hv, hg, r⟩
  · exact .inl h2
  · exact .inr ⟨g, cap, cur, hv, Nat.le_trans hb hg, r⟩
theorem elead_at (v : Value) (l : List Int) (n : Nat) (w : World) (hl : l.length ≤ 1048576) (hS : Sl w v l) (h1 : leadN l = n) (h2 : n < l.length) :
    Calls Try.prog 95 #[v] w fun e w' => e = .returned (.int .i64 (n : Int)) ∧ w' = w :=
  (elead v l w hl hS).mono fun _ _ ⟨he, hw⟩ => ⟨by rw [he, leadI, h1, if_pos h2], hw⟩
theorem restL_snoc (p : Int) (L : List (List Int)) (q r : List Int) : restL p (L ++ [q]) r = if nth (restL p L r) (leadN q) = 0 then restL p L r else lessL p (nth (restL p L r) (leadN q)) (restL p L r) q := by
  unfold restL; rw [List.foldl_append]; rfl
theorem restL_take {p : Int} {L : List (List Int)} {r : List Int} {k : Nat} (hk : k < L.length) : restL p (L.take (k + 1)) r = if nth (restL p (L.take k) r) (leadN L[k]) = 0 then restL p (L.take k) r else lessL p (nth (restL p (L.take k) r) (leadN L[k])) (restL p (L.take k) r) L[k] := by
  rw [List.take_succ_eq_append_getElem hk, restL_snoc]
theorem restL_inP {p : Int} (hp : 0 < p) {m : Nat} : ∀ (L : List (List Int)) (r : List Int), (∀ q ∈ L, InP p m q) → InP p m r → InP p m (restL p L r)
  | [], _, _, hr => hr
  | q :: L, r, h, hr => by
    have e : restL p (q :: L) r = restL p L (if nth r (leadN q) = 0 then r else lessL p (nth r (leadN q)) r q) := rfl
    rw [e]
    refine restL_inP hp L _ (fun x hx => h x (by simp [hx])) ?_
    split
    · exact hr
    · exact inP_less hp hr (h q (by simp))

set_option maxRecDepth 8000 in
set_option maxHeartbeats 2000000 in
theorem erest (p : Int) (v v' : Value) (L : List (List Int)) (r : List Int) (m : Nat) (w : World) (h2 : 2 ≤ p) (h13 : p ≤ 13) (hm : m ≤ 1048576) (hLl : L.length ≤ 1048576) (hL : ∀ q ∈ L, InP p m q ∧ leadN q < m) (hr : InP p m r) (hS : SlR w v L) (hS' : Sl w v' r) :
    Calls Try.prog 117 #[.int .i64 p, v, v'] w fun e w' => ∃ v2, e = .returned v2 ∧ OwnL w' w.heap.size v2 (restL p L r) ∧ Below w.heap.size w w' := by
  have hle : r.length ≤ m := by rw [hr.1]; omega
  obtain ⟨a, cap, rfl, h⟩ := hS
  obtain ⟨a', cap', rfl⟩ := hS'.shape
  go_enter Try.func117, Try.ntmps117
  go_wp2_with fail
  ((with_reducible refine (eown _ r _ (by omega) hS').mono ?_); rintro e w1 ⟨v1, rfl, hown1, hb1⟩)
  obtain ⟨sa1, sc1, rfl⟩ := hown1.slice.shape
  go_wp2
  go_loopw [7, 8] (fun s i wr => ∃ (k : Nat) (O : List Int) (sa : Option Addr) (sc : Nat), k ≤ L.length ∧ s = .slice sa O.length sc ∧ i = .int .i64 k ∧ Hid (O = restL p (L.take k) r) ∧ OwnL wr w.heap.size (.slice sa O.length sc) O ∧ Below w.heap.size w wr) (fun _ i _ => L.length - (intOf i).toNat)
  case atStart => exact ⟨0, r, sa1, sc1, by omega, rfl, rfl, Lib.hid (by simp [restL]), hown1, hb1⟩
  case round =>
    obtain ⟨k, O, sa, sc, hk, rfl, rfl, HU, hown, hb⟩ := hrel
    by_cases hlt : k < L.length
    · have hlt' : (k : Int) < (L.length : Int) := by omega
      obtain ⟨b, off, rfl, hbb, hT⟩ : ∃ b off, a = some ⟨b, off, none⟩ ∧ b < w.heap.size ∧ RowsW w b off L := by
        rcases h with rfl | h
        · simp at hlt
        · exact h
      obtain ⟨vq, c0', hq'⟩ := hT k hlt
      have c0 := (hb.cell (p := ⟨b, _, none⟩) hbb).trans c0'
      have hq := hq'.below hb
      clear c0' hq' hT h
      obtain ⟨i1, i2⟩ := hL L[k] (List.getElem_mem _)
      have hO : InP p m O := by rw [HU.out]; exact restL_inP (by omega) _ _ (fun q hq => (hL q (List.mem_of_mem_take hq)).1) hr
      have HN := Lib.hid (restL_take (p := p) (r := r) hlt)
      have hln : leadN L[k] < O.length := by rw [hO.1]; exact i2
      have hlq : L[k].length ≤ 1048576 := by rw [i1.1]; exact hm
      have hl2 : leadN L[k] < L[k].length := by rw [i1.1]; exact i2
      rw [← HU.out] at HN
      generalize hq0 : L[k] = q at hq i1 i2 HN hln hlq hl2
      clear hq0
      obtain ⟨n, hn⟩ : ∃ n, leadN q = n := ⟨_, rfl⟩
      rw [hn] at HN hln hl2
      have HNN := Lib.hid hn
      clear hn
      have hln' : (n : Int) < (O.length : Int) := by omega
      obtain ⟨g, cp, hv, hg1, hg2, hc⟩ := hown.form (by omega)
      simp only [Value.slice.injEq] at hv
      obtain ⟨rfl, _, rfl⟩ := hv
      have d0 := hc n hln
      have hK := hO.nth (by omega) n
      rw [nth_lt hln] at HN hK
      obtain ⟨aq, cq, rfl⟩ := hq.shape
      clear hc
      go_wp2_with fail
      ((with_reducible refine (elead_at _ q n _ hlq hq HNN.out hl2).mono ?_); rintro e w2 ⟨rfl, rfl⟩)
      by_cases hz : O[n] = 0
      · have hN2 : Hid (O = restL p (L.take (k + 1)) r) := Lib.hid (by rw [HN.out, if_pos hz])
        have hq2 : (O[n] != 0) = false := by simp [hz]
        rw [hz] at d0
        clear hz hq2 HN
        go_wp2_with fail
        go_roundw
        case rel => exact ⟨k + 1, O, _, _, by omega, rfl, by go_num, hN2, hown, hb⟩
        case measure => simp [intOf]; omega
      · have hN2 : Hid (lessL p O[n] O q = restL p (L.take (k + 1)) r) := Lib.hid (by rw [HN.out, if_neg hz])
        have hq2 : (O[n] != 0) = true := by simp [hz]
        clear hz HN
        go_wp2_with fail
        ((with_reducible refine (eless p O[n] _ _ O q m _ h2 h13 hm hO i1 hK hown.slice hq).mono ?_); rintro e w3 ⟨v3, rfl, hown3, hb3⟩)
        obtain ⟨s3, c3, rfl⟩ := hown3.slice.shape
        have hs := hb.size
        go_wp2_with fail
        go_roundw
        case rel => exact ⟨k + 1, lessL p O[n] O q, s3, c3, by omega, rfl, by go_num, hN2, OwnL.mono hown3 hs, hb.trans (hb3.mono hs)⟩
        case measure => simp [intOf]; omega
    · obtain rfl : k = L.length := by omega
      have HX : Hid (restL p L r = O) := Lib.hid (by rw [HU.out, List.take_length])
      go_wp2
      go_ret
      exact ⟨_, rfl, by rw [HX.out]; exact hown, hb⟩
end Go.Proofs.Ytpbdbgajohacoaa
