/-
  WALKS of the model on rows modulo p: a row less a multiple of another one. Conditions: as each theorem states.
-/
import Derived.Test.YtpbdbgajohacoaaEb
import Derived.Deep.RegionHeld3
namespace Go.Proofs.Ytpbdbgajohacoaa
open Go.RowKit Go.Sort EchM

/-- A region whose first n operations leave the world alone and whose others follow one another. -/
theorem eregion_tail {P : Program} {id : Nat} {Q : Exit → Act → World → Prop} {a : Act} {w : World} {l : List Oper} (n : Nat) (hm : P.follows .mixedOrders = true) (hB : Region.lexTailB .any l.toArray n = true)
    (h : wpStill P l.toArray w.drew (fun a' => wpList P l.toArray Q (l.drop n) a' w.drew) (l.take n) a) : (Code.region id l.toArray true).wp P Q a w :=
  wp_region_still_tail n hm hB h

theorem less_snoc {p K : Int} {r o : List Int} {k : Nat} (hk : k < r.length) (ho : r.length = o.length) : (lessL p K r o).take (k + 1) = (lessL p K r o).take k ++ [(r[k] - K * o[k]'(by omega)) % p] := by
  have hl : k < (lessL p K r o).length := by rw [len_less ho]; exact hk
  rw [List.take_succ_eq_append_getElem hl]
  simp [lessL]

set_option maxRecDepth 8000 in
set_option maxHeartbeats 2000000 in
theorem eless (p K : Int) (v v' : Value) (r o : List Int) (m : Nat) (w : World) (h2 : 2 ≤ p) (h13 : p ≤ 13) (hm : m ≤ 1048576) (hr : InP p m r) (ho : InP p m o) (hK : 0 ≤ K ∧ K < p) (hS : Sl w v r) (hS' : Sl w v' o) :
    Calls Try.prog 119 #[.int .i64 p, v, v', .int .i64 K] w fun e w' => ∃ v2, e = .returned v2 ∧ OwnL w' w.heap.size v2 (lessL p K r o) ∧ Below w.heap.size w w' := by
  obtain ⟨i0, hi, hz0, hz1, hz2⟩ := info_parts einfoI
  have hle : r.length ≤ m := by rw [hr.1]; omega
  have hlo : o.length ≤ r.length := by rw [ho.1, hr.1]; omega
  have hlo' : r.length ≤ o.length := by rw [ho.1, hr.1]; omega
  have hz : ∀ t, t = 2 → OwnL (w.alloc (.cells #[] t)) w.heap.size (.slice (some ⟨w.heap.size, 0, none⟩) 0 0) [] := fun t ht => by
    subst ht
    have := World.ownsRow_made (base := w.heap.size) (e := 2) (size := 1) w #[] 0 (by omega) (by simp [maxLen]) rfl
    simpa [OwnL, valsI] using this
  obtain ⟨a, cap, rfl, h⟩ := hS
  obtain ⟨a', cap', rfl, h'⟩ := hS'
  go_enter Try.func119, Try.ntmps119
  go_wp2
  go_loopw [9, 10] (fun s i wr => ∃ (k : Nat) (O : List Int) (sa : Option Addr) (sc : Nat), k ≤ r.length ∧ O.length ≤ k ∧ s = .slice sa O.length sc ∧ i = .int .i64 k ∧ Hid (O = (lessL p K r o).take k) ∧ OwnL wr w.heap.size (.slice sa O.length sc) O ∧ Below w.heap.size w wr) (fun _ i _ => r.length - (intOf i).toNat)
  case atStart => exact ⟨0, [], _, _, by omega, by simp, rfl, rfl, Lib.hid (by simp), hz _ rfl, ebox1 _ _⟩
  case round =>
    obtain ⟨k, O, sa, sc, hk, hO, rfl, rfl, HU, hown, hb⟩ := hrel
    by_cases hlt : k < r.length
    · have hlt' : (k : Int) < (r.length : Int) := by omega
      have hlo2 : (k : Int) < (o.length : Int) := by omega
      obtain ⟨b, off, rfl, hbb, hT⟩ : ∃ b off, a = some ⟨b, off, none⟩ ∧ b < w.heap.size ∧ Cs w b off r := by
        rcases h with rfl | h
        · simp at hlt
        · exact h
      obtain ⟨b', off', rfl, hbb', hT'⟩ : ∃ b off, a' = some ⟨b, off, none⟩ ∧ b < w.heap.size ∧ Cs w b off o := by
        rcases h' with rfl | h'
        · simp at hlo2; omega
        · exact h'
      have c0 := hT.below hb hbb k (by omega)
      have d0 := hT'.below hb hbb' k (by omega)
      have q0 := hr.2 r[k] (List.getElem_mem _)
      have q1 := ho.2 o[k] (List.getElem_mem _)
      have HN : Hid (O ++ [(r[k] - K * o[k]) % p] = (lessL p K r o).take (k + 1)) := Lib.hid (by rw [HU.out, less_snoc (by omega) (by omega)])
      clear h h' hT hT' HU
      generalize r[k] = x at *
      generalize o[k] = y at *
      obtain ⟨f0, f1⟩ := eprod_fit h13 (a := K) (b := y) hK q1
      have hs := hb.size
      have hmx : O.length + 1 ≤ maxLen := by unfold maxLen; omega
      have hmb : (O.length + 1) * 8 ≤ 140737488355328 := by omega
      have hw1 : IntKind.i64.wrap (K * y) = K * y := IntWalk.i64_in _ (by omega)
      have hw2 : IntKind.i64.wrap (x - K * y) = x - K * y := IntWalk.i64_in _ (by omega)
      go_wp2_with fail
      have B1 : -1000000000 ≤ x - K * y := by omega
      have B2 : x - K * y ≤ 1000000000 := by omega
      have KK := Lib.hid (fun w' (h : Below w.heap.size wr w') => show w'.cell? ⟨b, off + k, none⟩ = some (.int .i64 x) ∧ w'.cell? ⟨b', off' + k, none⟩ = some (.int .i64 y) from
        ⟨(h.cell (p := ⟨_, _, none⟩) hbb).trans c0, (h.cell (p := ⟨_, _, none⟩) hbb').trans d0⟩)
      go_region_held3 (fun w' => w'.cell? ⟨b, off + k, none⟩ = some (.int .i64 x) ∧ w'.cell? ⟨b', off' + k, none⟩ = some (.int .i64 y))
        (first | with_reducible exact KK.out _ (Below.refl _ _).drew | with_reducible exact KK.out _ ((ebox1 _ _).mono hs).drew | with_reducible exact KK.out _ hb1)
        (first
          | ((with_reducible refine (emod_still p (x - K * y) _ h2 h13 B1 B2).mono ?_); rintro e w1 ⟨rfl, rfl⟩)
          | ((refine step_append_lies _ (by rfl) _ _ _ (by rfl) w.heap.size 2 i0 _ 1 8 Try.underlying41 hi hz0 hz1 hz2 rfl (by omega) (.slice sa O.length sc) O.length (valsI O) (by rfl) ((World.ownsRow.alloc hown _).drew) ⟨wr.heap.size, 0, none⟩ 1 1 [.int .i64 ((x - K * y) % p)] (by rfl) (by rfl) (World.news_of_block (cs := #[.int .i64 ((x - K * y) % p)]) (t := 2) (fr := (0, 0)) (heap_alloc_new wr _)) (by simp [Value.oneCell']) (by omega) hmx hmb (by simp; omega) (wr.heap.size + 1) (by simp) ?_
              intro gg cap3 w3 hown3 hgrow3 hat hlt3
              have hb1 : Below w.heap.size wr w3 := ((ebox1 wr _).mono hs).drew.grown hgrow3 (by simp; omega) (fun q hq => (World.ownsRow.lt hown q hq).1)
              clear hat)))
      all_goals
        go_wp2_with fail
        go_roundw
        case rel => exact ⟨k + 1, O ++ [(x - K * y) % p], some ⟨gg, 0, none⟩, cap3, by omega, by simp; omega, by simp, by go_num, HN, by simpa [OwnL, valsI] using hown3, hb.trans hb1⟩
        case measure => simp [intOf]; omega
    · obtain rfl : k = r.length := by omega
      have HX : Hid (lessL p K r o = O) := Lib.hid (by rw [HU.out, ← len_less (p := p) (k := K) (r := r) (o := o) (by omega), List.take_length])
      go_wp2
      go_ret
      exact ⟨_, rfl, by rw [HX.out]; exact hown, hb⟩
end Go.Proofs.Ytpbdbgajohacoaa
