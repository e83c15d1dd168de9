/-
  SERIES OF DEGREES: the endless series of a list of degrees; the program. Conditions: as each theorem states.
-/
import Derived.Test.YtgbnlnpffhlipaaId
import Derived.Test.YtgbnlnpffhlipaaRg
namespace Go.Proofs.Ytgbnlnpffhlipaa
open Go.RowKit Go.Sort Go.Shelf EchM

theorem SerV.below {v : Value} {S : Nat → Int} {N : Nat} {A B : World} (h : SerV v S N A) (hb : Below A.heap.size A B) : SerV v S N B := by
  obtain ⟨gf, lb, h1, h2, h3⟩ := h
  refine ⟨gf, lb, h1, h2, fun n hn l J Jx fp W hW hfp hJf hXf hJb hY h0 => ?_⟩
  refine h3 n hn l (fun pre fq A' => J pre fq A' ∧ (∀ b, fq b → B.heap.size ≤ b) ∧ B.heap.size ≤ A'.heap.size) Jx fp W (hb.trans (hW.mono hb.size)) (fun b hbb => Nat.le_trans hb.size (hfp b hbb))
    (fun pre fq A' B' ⟨k1, k2, k3⟩ hf => ⟨hJf _ _ _ _ k1 hf, k2, Nat.le_trans k3 hf.size⟩) hXf (fun pre fq A' ⟨k1, k2, k3⟩ => hJb _ _ _ k1) (fun pre fq A' _ ⟨k1, k2, k3⟩ => ?_) ⟨h0, hfp, hW.size⟩
  refine (hY pre fq A' k2 k1).mono ?_
  rintro e W' ⟨fp', g1, g2, g3, (⟨rfl, g4⟩ | ⟨rfl, g4⟩)⟩
  · exact ⟨fp', g1, g2, g3, .inl ⟨rfl, g4, fun b hbb => (g2 b hbb).elim (k2 b) (fun h => Nat.le_trans k3 h), Nat.le_trans k3 g1.size⟩⟩
  · exact ⟨fp', g1, g2, g3, .inr ⟨rfl, g4⟩⟩

/-- The series of a list of degrees. -/
def serL (l : List Int) : Nat → Int := l.foldl (fun S x => dS S x.toNat) oneS
theorem serL_snoc (l : List Int) (j : Nat) (h : j < l.length) : serL (l.take (j + 1)) = dS (serL (l.take j)) l[j].toNat := by
  unfold serL
  rw [List.take_succ_eq_append_getElem h, List.foldl_append]
  rfl
theorem dS_bound {S : Nat → Int} {d : Nat} {M : Int} (hd : 1 ≤ d) (hM : 0 ≤ M) (hS : ∀ k, k < 41 → 0 ≤ S k ∧ S k ≤ M) : ∀ k, k < 41 → 0 ≤ dS S d k ∧ dS S d k ≤ M * (k + 1) := by
  intro k
  induction k using Nat.strongRecOn with
  | ind k ih =>
    intro hk
    have h1 := hS k hk
    have hk0 : 0 ≤ M * (k : Int) := Int.mul_nonneg hM (by omega)
    rcases Nat.lt_or_ge k d with h | h
    · rw [dS_lt h]
      rw [Int.mul_add, Int.mul_one]
      exact ⟨h1.1, by omega⟩
    · rw [dS_ge hd h]
      have h2 := ih (k - d) (by omega) (by omega)
      have h3 : M * (((k - d : Nat) : Int) + 1) ≤ M * (k : Int) := Int.mul_le_mul_of_nonneg_left (by omega) hM
      rw [Int.mul_add, Int.mul_one]
      exact ⟨by omega, by omega⟩
theorem fold_bound : ∀ (l : List Int) (S : Nat → Int) (M : Int), (∀ x ∈ l, 1 ≤ x) → 0 ≤ M → (∀ k, k < 41 → 0 ≤ S k ∧ S k ≤ M) → ∀ k, k < 41 → 0 ≤ l.foldl (fun S x => dS S x.toNat) S k ∧ l.foldl (fun S x => dS S x.toNat) S k ≤ M * 41 ^ l.length
  | [], S, M, _, hM, h => by simpa using h
  | x :: l, S, M, hx, hM, h => by
    have h1 := hx x (by simp)
    have h2 := dS_bound (d := x.toNat) (by omega) hM h
    have h3 := fold_bound l (dS S x.toNat) (M * 41) (fun y hy => hx y (by simp [hy])) (by omega) (fun k hk => by
      have h4 := h2 k hk
      have h5 : M * ((k : Int) + 1) ≤ M * 41 := Int.mul_le_mul_of_nonneg_left (by omega) hM
      exact ⟨h4.1, by omega⟩)
    intro k hk
    have h6 := h3 k hk
    rw [List.foldl_cons, List.length_cons, Int.pow_succ, Int.mul_comm (41 ^ l.length) 41, ← Int.mul_assoc]
    exact h6
/-- A list of degrees that is not too long. -/
def DegL (l : List Int) : Prop := l.length ≤ 8 ∧ ∀ (k : Nat) (h : k < l.length), 1 ≤ l[k] ∧ l[k] ≤ 40
theorem degL_of {l : List Int} (h : degB l = true) : DegL l := ⟨by have := degB_len h; omega, fun k hk => degB_in h k hk⟩
theorem serL_bound {l : List Int} (h : DegL l) (j : Nat) : ∀ k, k < 41 → 0 ≤ serL (l.take j) k ∧ serL (l.take j) k ≤ 7984925229121 := by
  intro k hk
  have hl := h.1
  have h1 := fold_bound (l.take j) oneS 1 (fun x hx => by
    obtain ⟨i, hi, rfl⟩ := List.mem_iff_getElem.1 (List.mem_of_mem_take hx)
    exact (h.2 i hi).1) (by omega) (fun k _ => by unfold oneS; split <;> omega) k hk
  have h2 : (41 : Int) ^ (l.take j).length ≤ 41 ^ 8 := by
    have : (l.take j).length ≤ 8 := by rw [List.length_take]; omega
    have h3 : (41 : Nat) ^ (l.take j).length ≤ 41 ^ 8 := Nat.pow_le_pow_right (by omega) this
    exact_mod_cast h3
  unfold serL
  have h4 : (41 : Int) ^ 8 = 7984925229121 := by decide
  rw [Int.one_mul] at h1
  exact ⟨h1.1, by omega⟩
def rSer (ds : List Int) (k : Int) : List Int × Int := if degB ds && (decide (0 ≤ k) && decide (k ≤ 40)) then ((List.range (k.toNat + 1)).map (serL ds), 0) else ([], 2)
theorem rSer_len (ds : List Int) (k : Int) (_h : ds.length ≤ 1048576) : (rSer ds k).1.length ≤ 1048576 := by
  unfold rSer
  split
  · rename_i h
    simp at h ⊢
    omega
  · simp

set_option maxRecDepth 100000 in
theorem iwith (sv : Value) (S : Nat → Int) (d N : Nat) (w : World) (hd1 : 1 ≤ d) (hN : N ≤ 1000) (hB : ∀ k, k < N → -9223372036854775808 ≤ dS S d k ∧ dS S d k ≤ 9223372036854775807) (hS : SerV sv S N w) :
    Calls Try.prog 31 #[sv, .int .i64 (d : Int)] w fun e w' => ∃ v', e = .returned v' ∧ SerV v' (dS S d) N w' ∧ Below w.heap.size w w' := by
  obtain ⟨gf, lb, rfl, _⟩ := id hS
  have HB := Lib.hid hB
  have HS := Lib.hid hS
  clear hB hS
  go_enter Try.func31, Try.ntmps31
  go_wp2
  go_ret
  refine ⟨_, rfl, ⟨_, _, rfl, enters_of Try.func39 (by kernel_rfl) rfl, fun n hn => deg_seq n N d hn hd1 hN S HB.out _ w _ w.heap.size (w.heap.size + 1) HS.out (ebox2 _ _ _) (by omega) ?_ ?_⟩, ebox2 _ _ _⟩
  · exact (World.rowIs_alloc w #[.func (.func gf) #[] lb] _ (fun _ => .func (.func gf) #[] lb) (fun i hi => by simp at hi; subst hi; rfl)).alloc _
  · have h := World.rowIs_alloc (w.alloc (.cells #[.func (.func gf) #[] lb] 40)) #[.int .i64 (d : Int)] 2 (fun _ => .int .i64 (d : Int)) (fun i hi => by simp at hi; subst hi; rfl)
    rw [World.size_alloc] at h
    exact h

set_option maxRecDepth 100000 in
set_option maxHeartbeats 1000000 in
theorem iserof (v : Value) (l : List Int) (N : Nat) (w : World) (hN : N ≤ 41) (hd : DegL l) (hS : Sl w v l) :
    Calls Try.prog 22 #[v] w fun e w' => ∃ v', e = .returned v' ∧ SerV v' (serL l) N w' ∧ Below w.heap.size w w' := by
  obtain ⟨a, cap, rfl, hc⟩ := hS
  have hl := hd.1
  have HD := Lib.hid hd.2
  have HBD := Lib.hid (serL_bound hd)
  have HO := Lib.hid (only_ser N w)
  clear hd
  go_enter Try.func22, Try.ntmps22
  go_wp2
  go_loopw [3, 8] (fun s i wr => ∃ j : Nat, j ≤ l.length ∧ i = .int .i64 j ∧ SerV s (serL (l.take j)) N wr ∧ Below w.heap.size w wr) (fun _ i _ => l.length - (intOf i).toNat)
  case atStart => exact ⟨0, by omega, rfl, HO.out, Below.refl _ _⟩
  case round =>
    clear HO
    obtain ⟨j, hj, rfl, hsv, hbel⟩ := hrel
    by_cases hlt : j < l.length
    · have hlt' : (j : Int) < (l.length : Int) := by omega
      obtain ⟨b, off, rfl, hbb, hT⟩ : ∃ b off, a = some ⟨b, off, none⟩ ∧ b < w.heap.size ∧ Cs w b off l := by
        rcases hc with rfl | h
        · simp at hlt
        · exact h
      have c0 := (hT.below hbel hbb) j hlt
      obtain ⟨d0, d1⟩ := HD.out j hlt
      have HSN := Lib.hid (serL_snoc l j hlt)
      have HBJ := Lib.hid (HBD.out (j + 1))
      obtain ⟨d, hd⟩ : ∃ d : Nat, l[j] = (d : Int) := ⟨l[j].toNat, by omega⟩
      have HD2 : Hid (l[j].toNat = d) := Lib.hid (by omega)
      rw [hd] at c0
      have hdd : 1 ≤ d := by omega
      clear hd d0 d1
      have HSJ := Lib.hid hsv
      go_wp2_with fail
      ((with_reducible refine (iwith _ (serL (l.take j)) d N _ hdd (by omega) (fun k hk => by
        have h := HBJ.out k (by omega)
        rw [HSN.out, HD2.out] at h
        omega) HSJ.out).mono ?_); rintro e w3 ⟨v3, rfl, hs3, hb3⟩)
      have hs4 : SerV v3 (serL (l.take (j + 1))) N w3 := by rw [HSN.out, HD2.out]; exact hs3
      have hbel3 := hbel.trans (hb3.mono hbel.size)
      clear hs3
      go_wp2_with fail
      go_roundw
      case rel => exact ⟨j + 1, by omega, by go_num, hs4, hbel3⟩
      case measure => simp [intOf]; omega
    · obtain rfl : j = l.length := by omega
      rw [List.take_length] at hsv
      go_wp2_with fail
      go_ret
      exact ⟨_, rfl, hsv, hbel⟩

set_option maxHeartbeats 1000000 in
theorem iSer (v : Value) (l : List Int) (k : Int) (w : World) (hl : l.length ≤ 1048576) (hS : Sl w v l) :
    Calls Try.prog 7 #[v, .int .i64 k] w fun e w' => ∃ v', e = .returned (.tuple #[v', .int .i64 (rSer l k).2]) ∧ OwnV w' w.heap.size v' (rSer l k).1 ∧ Below w.heap.size w w' := by
  obtain ⟨aa, ac, rfl, _⟩ := id hS
  cases h1 : degB l
  · have HX : Hid (rSer l k = ([], 2)) := Lib.hid (by simp [rSer, h1])
    have H1 := Lib.hid h1
    clear h1
    go_enter Try.func7, Try.ntmps7
    go_wp2_with fail
    ((with_reducible refine (ideg _ l _ hl hS).mono ?_); rintro e w1 ⟨rfl, rfl⟩)
    rw [H1.out]
    go_wp2_with fail
    go_ret2
    rw [HX.out]
    exact ⟨_, rfl, OwnV.none _ _, Below.refl _ _⟩
  by_cases h2 : 0 ≤ k ∧ k ≤ 40
  · obtain ⟨n, rfl⟩ : ∃ n : Nat, k = (n : Int) := ⟨k.toNat, by omega⟩
    have HX : Hid (rSer l (n : Int) = ((List.range (n + 1)).map (serL l), 0)) := Lib.hid (by simp [rSer, h1]; omega)
    have hn : n ≤ 40 := by omega
    have H1 := Lib.hid h1
    have h3 : ¬ ((n : Int) < 0) := by omega
    have h4 : ¬ ((40 : Int) < (n : Int)) := by omega
    clear h1 h2
    go_enter Try.func7, Try.ntmps7
    go_wp2_with fail
    ((with_reducible refine (ideg _ l _ hl hS).mono ?_); rintro e w1 ⟨rfl, rfl⟩)
    rw [H1.out]
    go_wp2_with fail
    ((with_reducible refine (iserof _ l (n + 1) _ (by omega) (degL_of H1.out) hS).mono ?_); rintro e w2 ⟨v2, rfl, hs2, hb2⟩)
    have HS2 := Lib.hid hs2
    clear hs2
    go_wp2_with fail
    ((with_reducible refine (iupto n _ (serL l) _ (by omega) HS2.out).mono ?_); rintro e w3 ⟨v3, rfl, ho, hb3⟩)
    have hb := hb2.trans (hb3.mono hb2.size)
    have ho2 := ho.mono hb2.size
    clear ho hb3
    go_wp2_with fail
    go_ret2
    rw [HX.out]
    exact ⟨_, rfl, ho2, hb⟩
  · have HX : Hid (rSer l k = ([], 2)) := Lib.hid (by
      unfold rSer
      rw [if_neg]
      simp
      omega)
    have H1 := Lib.hid h1
    clear h1
    by_cases h3 : k < 0
    · go_enter Try.func7, Try.ntmps7
      go_wp2_with fail
      ((with_reducible refine (ideg _ l _ hl hS).mono ?_); rintro e w1 ⟨rfl, rfl⟩)
      rw [H1.out]
      go_wp2_with fail
      go_ret2
      rw [HX.out]
      exact ⟨_, rfl, OwnV.none _ _, Below.refl _ _⟩
    · have h4 : (40 : Int) < k := by omega
      go_enter Try.func7, Try.ntmps7
      go_wp2_with fail
      ((with_reducible refine (ideg _ l _ hl hS).mono ?_); rintro e w1 ⟨rfl, rfl⟩)
      rw [H1.out]
      go_wp2_with fail
      go_ret2
      rw [HX.out]
      exact ⟨_, rfl, OwnV.none _ _, Below.refl _ _⟩
end Go.Proofs.Ytgbnlnpffhlipaa
