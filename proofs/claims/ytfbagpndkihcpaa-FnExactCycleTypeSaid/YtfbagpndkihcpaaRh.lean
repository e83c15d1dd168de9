/-
  NUMERATORS of series: plain mathematics; a list of numbers in a block by a function; the model's walk. Conditions: as each theorem states.
-/
import Derived.Test.YtfbagpndkihcpaaRe
import Derived.Test.YtfbagpndkihcpaaRg
import Derived.Test.YtfbagpndkihcpaaLc
namespace Go.Proofs.Ytfbagpndkihcpaa
open Go.RowKit Go.Sort EchM

/-- The first n cells of a block hold the numbers of a function. -/
def RowF (w : World) (b n : Nat) (F : Nat → Int) : Prop := ∃ N f, n ≤ N ∧ w.rowIs b 2 N f ∧ ∀ q, q < n → f q = .int .i64 (F q)
theorem RowF.cell {w : World} {b n : Nat} {F : Nat → Int} (h : RowF w b n F) {k : Nat} (hk : k < n) : w.cell? ⟨b, k, none⟩ = some (.int .i64 (F k)) := by
  obtain ⟨N, f, hN, hr, hf⟩ := h
  rw [hr.cell (by omega), hf k hk]
theorem RowF.frozen {w : World} {b n : Nat} {F : Nat → Int} (h : RowF w b n F) (k : Nat) : w.frozen? ⟨b, k, none⟩ = false := by
  obtain ⟨N, f, hN, hr, hf⟩ := h
  exact hr.frozen k
theorem RowF.lt {w : World} {b n : Nat} {F : Nat → Int} (h : RowF w b n F) : b < w.heap.size := by
  obtain ⟨N, f, hN, hr, hf⟩ := h
  exact hr.lt
theorem RowF.set {w : World} {b n : Nat} {F G : Nat → Int} (h : RowF w b n F) (k : Nat) (x : Int) (hG : ∀ q, q < n → G q = if q = k then x else F q) : RowF (w.setCell ⟨b, k, none⟩ (.int .i64 x)) b n G := by
  obtain ⟨N, f, hN, hr, hf⟩ := h
  refine ⟨N, _, hN, hr.set k _, fun q hq => ?_⟩
  rw [hG q hq]
  by_cases e : q = k
  · simp [e]
  · simp [e, hf q hq]
theorem RowF.congr {w : World} {b n : Nat} {F G : Nat → Int} (h : RowF w b n F) (hG : ∀ q, q < n → F q = G q) : RowF w b n G := by
  obtain ⟨N, f, hN, hr, hf⟩ := h
  exact ⟨N, f, hN, hr, fun q hq => by rw [hf q hq, hG q hq]⟩
theorem RowF.below {w w' : World} {b n : Nat} {F : Nat → Int} (h : RowF w b n F) (hb : Below w.heap.size w w') : RowF w' b n F := by
  obtain ⟨N, f, hN, hr, hf⟩ := h
  exact ⟨N, f, hN, erow_below hr hb hr.lt, hf⟩
theorem RowF.other {w : World} {b n : Nat} {F : Nat → Int} (h : RowF w b n F) {a : Addr} (ha : b ≠ a.block) (v : Value) : RowF (w.setCell a v) b n F := by
  obtain ⟨N, f, hN, hr, hf⟩ := h
  exact ⟨N, f, hN, hr.setOther ha v, hf⟩
theorem RowF.toV {w : World} {b n base cap : Nat} {F : Nat → Int} {S : List Int} (h : RowF w b n F) (hb : base ≤ b) (hS : S = (List.range n).map F) : OwnV w base (.slice (some ⟨b, 0, none⟩) n cap) S := by
  obtain ⟨N, f, hN, hr, hf⟩ := h
  subst hS
  refine .inr ⟨b, cap, N, f, by simp, hb, by simpa using hN, hr, fun q hq => ?_⟩
  have hq' : q < n := by simpa using hq
  rw [hf q hq']
  simp
theorem RowF.drew {w : World} {b n : Nat} {F : Nat → Int} (h : RowF w b n F) : RowF w.drew b n F := h
theorem nth_map_range {n q : Nat} (F : Nat → Int) (h : q < n) : nth ((List.range n).map F) q = F q := by
  rw [nth_lt (by simpa using h)]; simp
theorem map_nth (O : List Int) : (List.range O.length).map (nth O) = O := by
  refine List.ext_getElem (by simp) fun j h1 h2 => ?_
  simp [nth_lt h2]
/-- What lies in a block of the call's own, by a function. -/
theorem ownV_rowF {w : World} {base : Nat} {v : Value} {S : List Int} (h : OwnV w base v S) (hl : 0 < S.length) : ∃ b cap, v = .slice (some ⟨b, 0, none⟩) S.length cap ∧ base ≤ b ∧ RowF w b S.length (nth S) := by
  rcases h with ⟨rfl, _⟩ | ⟨b, cap, N, f, hv, hb, hN, hr, hf⟩
  · simp at hl
  · simp only at hv hb hN hr hf
    exact ⟨b, cap, hv, hb, N, f, hN, hr, fun q hq => by rw [hf q hq, nth_lt hq]⟩

/-- The series times 1 - t^d. -/
def numF (O : List Int) (d q : Nat) : Int := if d ≤ q then nth O q - nth O (q - d) else nth O q
def numL (O : List Int) (d : Nat) : List Int := (List.range O.length).map (numF O d)
theorem numL_len (O : List Int) (d : Nat) : (numL O d).length = O.length := by simp [numL]
/-- One degree after the other. -/
def numG : List Int → List Int → List Int × Int
  | O, [] => (O, 0)
  | O, d :: ds => if (numL O d.toNat).all cntB then numG (numL O d.toNat) ds else ([], 3)
theorem numG_len : ∀ (ds O : List Int), (numG O ds).1.length ≤ O.length
  | [], O => by simp [numG]
  | d :: ds, O => by
    unfold numG
    split
    · have := numG_len ds (numL O d.toNat); rw [numL_len] at this; exact this
    · simp
def rNum (a ds : List Int) : List Int × Int := if serB a && degB ds then numG a ds else ([], 2)
theorem rNum_len (a ds : List Int) (ha : a.length ≤ 1048576) (_hd : ds.length ≤ 1048576) : (rNum a ds).1.length ≤ 1048576 := by
  unfold rNum
  split
  · have := numG_len ds a; omega
  · simp
theorem numG_step {O ds : List Int} {j : Nat} (hj : j < ds.length) : numG O (ds.drop j) = if (numL O ds[j].toNat).all cntB then numG (numL O ds[j].toNat) (ds.drop (j + 1)) else ([], 3) := by
  rw [List.drop_eq_getElem_cons hj, numG]
theorem all_nth {O : List Int} : O.all cntB = true ↔ ∀ q, q < O.length → cntB (nth O q) = true := by
  rw [List.all_eq_true]
  constructor
  · intro h q hq
    rw [nth_lt hq]
    exact h _ (List.getElem_mem hq)
  · intro h x hx
    obtain ⟨q, hq, rfl⟩ := List.mem_iff_getElem.1 hx
    have := h q hq
    rwa [nth_lt hq] at this
theorem numL_all {O : List Int} {d : Nat} : (numL O d).all cntB = true ↔ ∀ q, q < O.length → cntB (numF O d q) = true := by
  rw [all_nth, numL_len]
  constructor
  · intro h q hq
    have := h q hq
    rwa [numL, nth_map_range _ hq] at this
  · intro h q hq
    rw [numL, nth_map_range _ hq]
    exact h q hq
theorem in_of_all {O : List Int} (h : O.all cntB = true) (q : Nat) : -1000000000 ≤ nth O q ∧ nth O q ≤ 1000000000 := by
  by_cases hq : q < O.length
  · exact cntB_iff.1 (all_nth.1 h q hq)
  · rw [nth_ge (by omega)]; omega
theorem serB_all {l : List Int} (h : serB l = true) : l.all cntB = true := by
  simp only [serB, Bool.and_eq_true] at h
  exact h.2
end Go.Proofs.Ytfbagpndkihcpaa
