/-
  WALKS: 'spec.l01Value'. Conditions: as each theorem states.
-/
import Derived.Test.YtkmfgljfalgeaaaVc
import Derived.Test.YtkmfgljfalgeaaaV
namespace Go.Proofs.Ytkmfgljfalgeaaa
open Go.RowKit Go.Sort

def expK (t : Tm) (k : Nat) : Int := if k = 0 then t.1 else if k = 1 then t.2.1 else t.2.2.1
/-- The value of a term behind k letters, and at all of them. -/
def tvTo (p : Int) (t : Tm) (l : List Int) : Nat → Int
  | 0 => t.2.2.2
  | k + 1 => itI p (l.getD k 0) (tvTo p t l k) (expK t k).toNat
def tv (p : Int) (l : List Int) (t : Tm) : Int := tvTo p t l l.length
def sumV (p : Int) (l : List Int) (ts : List Tm) (k : Nat) : Int := ((ts.map (tv p l)).take k).sum
theorem tvTo_small {p : Int} {t : Tm} {l : List Int} (h2 : 2 ≤ p) (hv : 0 ≤ t.2.2.2 ∧ t.2.2.2 < p) : ∀ k, 0 ≤ tvTo p t l k ∧ tvTo p t l k < p
  | 0 => hv
  | k + 1 => itI_small h2 (tvTo_small h2 hv k) _
theorem sumV_step (p : Int) (l : List Int) (ts : List Tm) (k : Nat) (h : k < ts.length) : sumV p l ts (k + 1) = sumV p l ts k + tv p l ts[k] := by
  unfold sumV
  rw [sum_step _ k (by simpa using h)]
  simp
theorem expK_cell {w : World} {b off : Nat} {ts : List Tm} (hT : Terms w b off ts) (i : Nat) (h : i < ts.length) (k : Nat) (hk : k < 3) : w.cell? ⟨b, off + i * 4 + k, none⟩ = some (.int .u8 (expK ts[i] k)) := by
  obtain ⟨h0, h1, h2, _⟩ := hT i h
  match k, hk with
  | 0, _ => simpa [expK] using h0
  | 1, _ => simpa [expK] using h1
  | 2, _ => simpa [expK] using h2
theorem expK_byte {t : Tm} (h : tmByte t) (k : Nat) : 0 ≤ expK t k ∧ expK t k ≤ 255 := by
  unfold expK
  obtain ⟨⟨hx, hy, hz⟩, _⟩ := h
  split
  · exact hx
  · split
    · exact hy
    · exact hz
/-- What the walk makes of a product modulo p. -/
theorem prod_walk {p a b : Int} (h2 : 2 ≤ p) (h13 : p ≤ 13) (ha : 0 ≤ a ∧ a < p) (hb : 0 ≤ b ∧ b < p) : IntKind.i64.wrap (a * b) = a * b ∧ (a * b).tmod p = a * b % p ∧ IntKind.i64.wrap (a * b % p) = a * b % p := by
  obtain ⟨f0, f1⟩ := prod_fit h13 ha hb
  obtain ⟨g0, g1⟩ := mod_small (p := p) (a := a * b) h2
  exact ⟨IntWalk.i64_in _ (by omega), Int.tmod_eq_emod_of_nonneg f0, IntWalk.i64_in _ (by omega)⟩

set_option maxHeartbeats 4000000 in
theorem specValue_some (p d : Int) (b off cap g o cap' : Nat) (ts : List Tm) (l : List Int) (w : World) (hl : ts.length ≤ 1048576) (hb : b < w.heap.size) (hT : Terms w b off ts) (hby : ∀ t ∈ ts, tmByte t)
    (h2 : 2 ≤ p) (h13 : p ≤ 13) (hv : ∀ t ∈ ts, 0 ≤ t.2.2.2 ∧ t.2.2.2 < p) (hl3 : l.length ≤ 3) (hg : g < w.heap.size) (hC : CellsI w g o l) (hx : ∀ (k : Nat) (h : k < l.length), 0 ≤ l[k] ∧ l[k] < p) :
    Calls Try.prog 47 #[.agg #[.int .i64 p, .int .i64 d, .slice (some ⟨b, off, none⟩) ts.length cap], .slice (some ⟨g, o, none⟩) l.length cap'] w fun e w' => e = .returned (.int .i64 (sumV p l ts ts.length % p)) ∧ Below w.heap.size w w' := by
  obtain ⟨W, hW, hbW, x0, x1, x2⟩ : ∃ W, W = w.alloc (.cells #[.int .i64 p, .int .i64 d, .slice (some ⟨b, off, none⟩) ts.length cap] 29) ∧ Below w.heap.size w W ∧
      W.cell? ⟨w.heap.size, 0, none⟩ = some (.int .i64 p) ∧ W.cell? ⟨w.heap.size, 1, none⟩ = some (.int .i64 d) ∧ W.cell? ⟨w.heap.size, 2, none⟩ = some (.slice (some ⟨b, off, none⟩) ts.length cap) :=
    ⟨_, rfl, box1 _ _, by go_simp, by go_simp, by go_simp⟩
  have hTW := hT.below hbW hb
  have hCW := hC.below hbW hg
  have HX := Lib.hid hx
  clear hx
  go_enter Try.func47, Try.ntmps47
  go_wp2
  rw [← hW]
  clear hW
  go_loopw [5, 6] (fun s i wr => ∃ (k : Nat) (S : Int), k ≤ ts.length ∧ i = .int .i64 k ∧ s = .int .i64 S ∧ Hid (S = sumV p l ts k) ∧ 0 ≤ S ∧ S ≤ 13 * k ∧ ∃ n, wr = W.drewN n) (fun _ i _ => ts.length - (intOf i).toNat)
  case atStart => exact ⟨0, 0, by omega, rfl, rfl, Lib.hid (by simp [sumV]), by omega, by omega, 0, rfl⟩
  case round =>
    obtain ⟨i, S, hi, rfl, rfl, HS, s0, s1, n0, rfl⟩ := hrel
    by_cases hlt : i < ts.length
    · have hlt' : (i : Int) < (ts.length : Int) := by omega
      obtain ⟨_, _, _, c3⟩ := hTW i hlt
      have hexp := fun k hk => expK_cell hTW i hlt k hk
      have hbyt := hby _ (List.getElem_mem hlt)
      have hval := hv _ (List.getElem_mem hlt)
      have HSTEP := Lib.hid (sumV_step p l ts i hlt)
      generalize ts[i] = t at *
      have HEXP := Lib.hid hexp
      have HTV := fun k => tvTo_small (l := l) h2 hval k
      have HTV2 := Lib.hid HTV
      clear hexp HTV hval
      go_wp2
      go_loopw [7, 8] (fun s i wr => ∃ (k : Nat) (T : Int), k ≤ l.length ∧ i = .int .i64 k ∧ s = .int .i64 T ∧ Hid (T = tvTo p t l k) ∧ ∃ n, wr = W.drewN n) (fun _ i _ => l.length - (intOf i).toNat)
      case atStart => exact ⟨0, _, by omega, rfl, rfl, Lib.hid rfl, n0, rfl⟩
      case round =>
        obtain ⟨k, T, hk, rfl, rfl, HT, n1, rfl⟩ := hrel
        by_cases hlk : k < l.length
        · have hlk' : (k : Int) < (l.length : Int) := by omega
          have ce := HEXP.out k (by omega)
          have cp := hCW k hlk
          obtain ⟨e0, e1⟩ := expK_byte hbyt k
          have hxk := HX.out k hlk
          have HG : Hid (l.getD k 0 = l[k]) := Lib.hid (by simp [List.getD, hlk])
          generalize l[k] = x at *
          generalize hE : expK t k = E at *
          have HE := Lib.hid hE
          clear hE
          go_wp2
          go_loopw [7, 9] (fun s i wr => ∃ (m : Nat) (R : Int), (m : Int) ≤ E ∧ i = .int .u8 (E - m) ∧ s = .int .i64 R ∧ Hid (R = itI p x T m) ∧ ∃ n, wr = W.drewN n) (fun _ i _ => (intOf i).toNat)
          case atStart => exact ⟨0, T, by omega, by simp, rfl, Lib.hid rfl, n1, rfl⟩
          case round =>
            obtain ⟨m, R, hm, rfl, rfl, HR, n2, rfl⟩ := hrel
            by_cases hlm : (m : Int) < E
            · have hsm := itI_small (x := x) h2 (by rw [HT.out]; exact HTV2.out k : 0 ≤ T ∧ T < p) m
              rw [← HR.out] at hsm
              obtain ⟨q1, q2, q3⟩ := prod_walk h2 h13 hsm hxk
              have hpos : 0 < E - (m : Int) := by omega
              have hp0 : (p == 0) = false := by simp; omega
              have HI := Lib.hid (show itI p x T (m + 1) = itI p x T m * x % p from rfl)
              go_wp2
              go_quiet (fail)
              go_wp2
              go_roundw
              case rel => exact ⟨m + 1, R * x % p, by omega, by go_num, rfl, Lib.hid (by rw [HI.out, ← HR.out]), _, rfl⟩
              case measure => simp [intOf]; omega
            · have HM : Hid (m = E.toNat) := Lib.hid (by omega)
              have hpos : ¬ 0 < E - (m : Int) := by omega
              have HI := Lib.hid (show tvTo p t l (k + 1) = itI p (l.getD k 0) (tvTo p t l k) (expK t k).toNat from rfl)
              go_wp2
              go_roundw
              case rel => exact ⟨k + 1, R, by omega, by go_num, rfl, Lib.hid (by rw [HI.out, HG.out, ← HT.out, HE.out, ← HM.out, ← HR.out]), _, rfl⟩
              case measure => simp [intOf]; omega
        · obtain rfl : k = l.length := by omega
          have hT1 := HTV2.out l.length
          rw [← HT.out] at hT1
          obtain ⟨u0, u1⟩ := hT1
          go_wp2
          go_roundw
          case rel => exact ⟨i + 1, S + T, by omega, by go_num, by go_num, Lib.hid (by rw [HSTEP.out, ← HS.out, HT.out]; rfl), by omega, by omega, _, rfl⟩
          case measure => simp [intOf]; omega
    · obtain rfl : i = ts.length := by omega
      go_wp2
      go_ret
      exact ⟨by rw [← HS.out]; rfl, by repeat (first | with_reducible exact hbW | refine below_drewN ?_ _)⟩

end Go.Proofs.Ytkmfgljfalgeaaa
