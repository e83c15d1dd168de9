/-
  WALKS of the model on rows modulo p: copies, inverses of numbers, rows less multiples of rows. Conditions: as each theorem states.
-/
import Derived.Test.YtpbdbgajohacoaaEa
namespace Go.Proofs.Ytpbdbgajohacoaa
open Go.RowKit Go.Sort EchM

theorem vals_one (l : List Int) : ∀ u ∈ valsI l, u.oneCell' = true := by
  intro u hu
  obtain ⟨a, _, rfl⟩ := List.mem_map.1 hu
  rfl
theorem vals_cells {w : World} {b off : Nat} {l : List Int} (h : Cs w b off l) : ∀ j u, (valsI l)[j]? = some u → w.cell? ((⟨b, off, none⟩ : Addr).add j) = some u := by
  intro j u hu
  have hadd : (⟨b, off, none⟩ : Addr).add j = ⟨b, off + j, none⟩ := by unfold Addr.add; split <;> simp_all
  rw [hadd]
  have hj : j < l.length := by
    rcases Nat.lt_or_ge j l.length with h' | h'
    · exact h'
    · rw [List.getElem?_eq_none (by simpa [valsI] using h')] at hu; cases hu
  have : u = .int .i64 l[j] := by simpa [valsI, hj] using hu.symm
  rw [this]; exact h j hj

/-- All numbers of a slice put behind those of a list of the call's own. -/
theorem wpList_append_ints (w : World) {ops : Array Oper} {rest : List Oper} {o : Oper} {a : Act} {Q : Exit → Act → World → Prop} (hgd : o.guard = none) (s x : Operand)
    (ho : o.op = .call { callee := .builtin .append, args := #[s, x], argTypes := #[41, 41] })
    (base : Nat) (v : Value) (xs : List Int) (hs : a.eval s = v) (hown : OwnL w base v xs)
    (v2 : Value) (ts : List Int) (hx : a.eval x = v2) (hS : Sl w v2 ts) (h63 : xs.length + ts.length ≤ 8388608) (hbase : base ≤ w.heap.size)
    (h : ∀ v' w', OwnL w' base v' (xs ++ ts) → w.grownBy w' v.ownBlock → wpList Try.prog ops Q rest (a.put o.dst v') w') : wpList Try.prog ops Q (o :: rest) a w := by
  obtain ⟨i0, hi, hz0, hz1, hz2⟩ := info_parts einfoI
  obtain ⟨A, cap, rfl, hcase⟩ := hS
  rcases A with _ | ad
  · have hn : ts = [] := by
      rcases hcase with h | ⟨b, off, h, _⟩
      · exact h
      · cases h
    subst hn
    refine wpList_plain hgd fun K hK => ?_
    have hrun : ∀ ty, (Builtin.append_ #[41, 41] ty #[v, .slice none 0 cap]).run Try.prog w = .ok v w := fun ty => by
      rcases hown.2 with ⟨rfl, hl⟩ | ⟨g, c, cur, rfl, _, _, hnc, _⟩
      · simp [Builtin.append_, run_underlying Try.underlying41, sizeOf, typeInfo, hi, Builtin.lenOf, Builtin.firstCells]
      · simp [Builtin.append_, run_underlying Try.underlying41, sizeOf, typeInfo, hi, Builtin.lenOf, Builtin.firstCells, hnc, storeCells]
    unfold Oper.wp execOp
    simp only [ho, resolve, invoke, builtin, Sem.run_bind, Sem.run_pure, Result.andThen_ok, List.map_toArray, List.map_cons, List.map_nil, hs, hx]
    rw [show (List.length ([] : List Int)) = 0 from rfl, hrun]
    exact hK _ _ (h v w (by simpa using hown) (World.grownBy.refl w _))
  · refine wpList_append_own w hgd s x 41 ho base 2 i0 _ 1 8 Try.underlying41 hi hz0 hz1 hz2 rfl (by decide) v xs.length (valsI xs) hs hown ad ts.length cap (valsI ts) hx (by simp [valsI]) ?_ (vals_one ts) (by unfold maxLen; omega) (by omega) hbase fun v' w' h1 h2 _ => h v' w' (by simpa [OwnL, valsI] using h1) h2
    intro j u hu
    rcases hcase with rfl | ⟨b, off, hA, hlt, hT⟩
    · simp [valsI] at hu
    · simp at hA
      subst hA
      exact vals_cells hT j u hu

theorem eown (v : Value) (l : List Int) (w : World) (hl : l.length ≤ 1048576) (hS : Sl w v l) :
    Calls Try.prog 129 #[v] w fun e w' => ∃ v', e = .returned v' ∧ OwnL w' w.heap.size v' l ∧ Below w.heap.size w w' := by
  have hS2 := fun o => hS.below (ebox1 w o)
  have ho : ∀ t, t = 2 → OwnL (w.alloc (.cells #[] t)) w.heap.size (.slice (some ⟨w.heap.size, 0, none⟩) 0 0) [] := fun t ht => by
    subst ht
    have := World.ownsRow_made (base := w.heap.size) (e := 2) (size := 1) w #[] 0 (by omega) (by simp [maxLen]) rfl
    simpa [OwnL, valsI] using this
  obtain ⟨a, cap, rfl, _⟩ := id hS
  go_enter Try.func129, Try.ntmps129
  go_wp2_with (at_builtin; refine wpList_append_ints _ rfl _ _ rfl w.heap.size (.slice (some ⟨w.heap.size, 0, none⟩) 0 0) [] rfl (ho _ rfl) (.slice a l.length cap) l rfl (hS2 _) (by simp; omega) (by simp) ?_)
  intro v' w' h1 h2
  have hb : Below w.heap.size w w' := (ebox1 w _).grown h2 (by simp) (fun k hk => by simp [Value.ownBlock] at hk; omega)
  go_wp2
  go_ret
  exact ⟨_, rfl, h1, hb⟩

theorem emod_still (p x : Int) (w : World) (h2 : 2 ≤ p) (h13 : p ≤ 13) (h0 : -1000000000 ≤ x) (h1 : x ≤ 1000000000) :
    Calls Try.prog 130 #[.int .i64 p, .int .i64 x] w fun e w' => e = .returned (.int .i64 (x % p)) ∧ w' = w :=
  (emod_any p x w h2 h13 h0 h1).mono fun _ _ ⟨he, hw⟩ => ⟨he, hw.symm⟩
theorem emod_small {p a : Int} (h2 : 2 ≤ p) : 0 ≤ a % p ∧ a % p < p := ⟨Int.emod_nonneg _ (by omega), Int.emod_lt_of_pos _ (by omega)⟩
theorem eprod_fit {p a b : Int} (h13 : p ≤ 13) (ha : 0 ≤ a ∧ a < p) (hb : 0 ≤ b ∧ b < p) : 0 ≤ a * b ∧ a * b ≤ 169 := by
  refine ⟨Int.mul_nonneg ha.1 hb.1, ?_⟩
  have h1 : a * b ≤ 13 * 13 := Int.mul_le_mul (by omega) (by omega) hb.1 (by omega)
  omega

set_option maxRecDepth 8000 in
set_option maxHeartbeats 1000000 in
theorem einv (p x : Int) (w : World) (h2 : 2 ≤ p) (h13 : p ≤ 13) (hx : 0 ≤ x ∧ x < p) :
    Calls Try.prog 118 #[.int .i64 p, .int .i64 x] w fun e w' => e = .returned (.int .i64 (invP p x)) ∧ w' = w := by
  obtain ⟨hx1, hx2⟩ := hx
  have hm : x % p = x := Int.emod_eq_of_lt hx1 hx2
  go_enter Try.func118, Try.ntmps118
  go_wp2
  go_loop [5] (fun i => ∃ k : Int, (1 ≤ k ∧ k ≤ p) ∧ i = .int .i64 k ∧ Hid (invP p x = invA p x (p - k).toNat k)) (fun i => (p - intOf i).toNat)
  case atStart => exact ⟨1, ⟨by omega, by omega⟩, rfl, Lib.hid rfl⟩
  case round =>
    obtain ⟨k, ⟨hk1, hk2⟩, rfl, HU⟩ := hrel
    by_cases hlt : k < p
    · obtain ⟨f0, f1⟩ := eprod_fit h13 (a := k) (b := x) ⟨by omega, hlt⟩ ⟨hx1, hx2⟩
      have hs : Hid (invP p x = if k * x % p = 1 then k else invA p x (p - (k + 1)).toNat (k + 1)) := Lib.hid (by
        rw [HU.out, show (p - k).toNat = (p - (k + 1)).toNat + 1 by omega, invA, hm])
      have hmm := Lib.hid hm
      clear hm
      by_cases hz : k * x % p = 1
      · have HX : Hid (invP p x = k) := Lib.hid (by rw [hs.out, if_pos hz])
        have hq : (k * x % p == 1) = true := by simp [hz]
        clear hz
        go_wp2_with fail
        ((with_reducible refine (emod_still p x _ h2 h13 (by omega) (by omega)).mono ?_); rintro e w1 ⟨rfl, rfl⟩)
        simp only [hmm.out]
        go_wp2
        go_ret
        exact ⟨by rw [HX.out]; rfl, rfl⟩
      · have HX : Hid (invP p x = invA p x (p - (k + 1)).toNat (k + 1)) := Lib.hid (by rw [hs.out, if_neg hz])
        have hq : (k * x % p == 1) = false := by simp [hz]
        clear hz
        go_wp2_with fail
        ((with_reducible refine (emod_still p x _ h2 h13 (by omega) (by omega)).mono ?_); rintro e w1 ⟨rfl, rfl⟩)
        simp only [hmm.out]
        go_wp2
        go_round
        case rel => exact ⟨k + 1, ⟨by omega, by omega⟩, by go_num, HX⟩
        case measure => simp [intOf]; omega
    · obtain rfl : k = p := by omega
      have HX : Hid (invP k x = 0) := Lib.hid (by rw [HU.out, show (k - k).toNat = 0 by omega, invA])
      go_wp2
      go_ret
      exact ⟨by rw [HX.out]; rfl, rfl⟩
end Go.Proofs.Ytpbdbgajohacoaa
