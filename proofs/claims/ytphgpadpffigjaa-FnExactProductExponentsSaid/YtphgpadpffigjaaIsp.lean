/-
  POLYNOMIALS BY THEIR COEFFICIENTS, in plain mathematics. Conditions: as each theorem states.
-/
import Derived.Test.YtphgpadpffigjaaVl
import Derived.Test.YtphgpadpffigjaaIq
namespace Go.Proofs.Ytphgpadpffigjaa
open Go.RowKit Go.Sort Go.Maps

def mono12 (e : Int × Int × Int) : Prop := byte3 e ∧ e.1 + e.2.1 + e.2.2 ≤ 12
/-- L has the terms of the polynomial modulo p with the coefficients f. -/
def IsP (p : Int) (L : List Tm) (f : Int × Int × Int → Int) : Prop :=
  Asc L ∧ (∀ t ∈ L, mono12 (tmE t) ∧ 1 ≤ t.2.2.2 ∧ t.2.2.2 < p) ∧ ∀ e, byte3 e → atL L e = f e
theorem IsP.unique {p : Int} {L L' : List Tm} {f : Int × Int × Int → Int} (h : IsP p L f) (h' : IsP p L' f) : L = L' := by
  refine asc_unique L L' h.1 h'.1 (fun t ht => by have := (h.2.1 t ht).2.1; omega) (fun t ht => by have := (h'.2.1 t ht).2.1; omega) fun e => ?_
  by_cases he : byte3 e
  · rw [h.2.2 e he, h'.2.2 e he]
  · rw [atL_none (ts := L) (fun t ht hx => he (by rw [← hx]; exact (h.2.1 t ht).1.1)), atL_none (ts := L') (fun t ht hx => he (by rw [← hx]; exact (h'.2.1 t ht).1.1))]
theorem IsP.congr {p : Int} {L : List Tm} {f g : Int × Int × Int → Int} (h : IsP p L f) (hfg : ∀ e, byte3 e → f e = g e) : IsP p L g :=
  ⟨h.1, h.2.1, fun e he => (h.2.2 e he).trans (hfg e he)⟩
theorem IsP.len {p : Int} {L : List Tm} {f : Int × Int × Int → Int} (h : IsP p L f) : L.length ≤ 2197 :=
  asc_len h.1 fun t ht => (h.2.1 t ht).1
theorem IsP.byte {p : Int} {L : List Tm} {f : Int × Int × Int → Int} (h : IsP p L f) (hp : p ≤ 13) : ∀ t ∈ L, tmByte t := fun t ht => by
  obtain ⟨⟨h1, _⟩, h2, h3⟩ := h.2.1 t ht
  exact ⟨h1, by omega, by omega⟩
theorem IsP.bound {p : Int} {L : List Tm} {f : Int × Int × Int → Int} (h : IsP p L f) (hp : 0 < p) {e : Int × Int × Int} (he : byte3 e) : 0 ≤ f e ∧ f e < p := by
  rw [← h.2.2 e he]
  exact chain_at L e (fun t ht => by have := (h.2.1 t ht).2; omega) hp
theorem IsP.nil (p : Int) : IsP p [] (fun _ => 0) := ⟨List.Pairwise.nil, fun t ht => by simp at ht, fun e _ => rfl⟩
theorem Valid.isP {p d : Int} {ts : List Tm} (h : Valid p d ts) : IsP p ts (atL ts) := ⟨h.asc, fun t ht => h.mem t ht, fun _ _ => rfl⟩
theorem IsP.put {p : Int} {L : List Tm} {f : Int × Int × Int → Int} (h : IsP p L f) (hp : 2 ≤ p) {e : Int × Int × Int} (he : mono12 e) (v : Int) : IsP p (putL p L e v) (fun a => if a = e then (v + f e) % p else f a) := by
  refine ⟨putL_asc h.1, fun t ht => ?_, fun a ha => ?_⟩
  · rcases putL_mem ht with ⟨rfl, hne⟩ | ⟨hm, _⟩
    · have g0 : 0 ≤ (v + atL L e) % p := Int.emod_nonneg _ (by omega)
      have g1 : (v + atL L e) % p < p := Int.emod_lt_of_pos _ (by omega)
      refine ⟨he, ?_, g1⟩
      show 1 ≤ (v + atL L e) % p
      omega
    · exact h.2.1 t hm
  · rw [putL_at, h.2.2 e he.1, h.2.2 a ha]
theorem Good.isP {D : DataW Unit} {S : List Tm} {p : Int} {f : Int × Int × Int → Int} (h : Good D S) (hf : ∀ e, byte3 e → cf D e = f e) (hb : ∀ e, byte3 e → 0 ≤ f e ∧ f e < p) (h12 : ∀ e, byte3 e → f e ≠ 0 → e.1 + e.2.1 + e.2.2 ≤ 12) : IsP p S f := by
  refine ⟨h.1, fun t ht => ?_, fun e he => (h.2.2 e he).trans (hf e he)⟩
  obtain ⟨h1, h2, h3⟩ := h.2.1 t ht
  have h4 := hf _ h1
  have h5 := hb _ h1
  rw [h4] at h2
  exact ⟨⟨h1, h12 _ h1 (by rw [← h2]; exact h3)⟩, by omega, by omega⟩

/-- A new list put into the box of a polynomial in the making. -/
theorem Part.put {w wr w2 : World} {base base2 q a r : Nat} {p d : Int} {xv sv v2 : Value} {O O2 : List Tm} (h : Part w wr base q a r p d xv sv O) (hb : Below wr.heap.size wr w2) (ho : OwnP w2 base2 v2 O2) (hb2 : base ≤ base2) :
    Part w (((w2.setCell ⟨q, 0, none⟩ (.int .i64 p)).setCell ⟨q, 1, none⟩ (.int .i64 d)).setCell ⟨q, 2, none⟩ v2) base q a r p d xv v2 O2 := by
  have h1 := h.later hb
  have R := ((h1.out.set 0 (.int .i64 p)).set 1 (.int .i64 d)).set 2 v2
  have hq := h.b3
  refine ⟨?_, R.congr fun i hi => ?_, ((h1.arg.setOther (by simpa using fun e => h.qa e) _).setOther (by simpa using fun e => h.qa e) _).setOther (by simpa using fun e => h.qa e) _, ((h1.res.setOther (by simpa using fun e => h.qr e) _).setOther (by simpa using fun e => h.qr e) _).setOther (by simpa using fun e => h.qr e) _, ((h1.below.setCell (by simpa using hq) _).setCell (by simpa using hq) _).setCell (by simpa using hq) _, h.b1, ?_, h.b3, h.b4, h.qa, h.qr⟩
  · refine owns_low (World.ownsRow.kept ho (row := some q) ⟨rfl, rfl, rfl, by simp only [World.size_setCell]; exact Nat.le_refl _, fun k hk hne => ?_⟩ (own_ne h1.out ho (by decide))) hb2
    have hk : k ≠ q := fun e => hne (by rw [e])
    exact (Below.heap_setCell _ ⟨q, 2, none⟩ v2 k hk).trans ((Below.heap_setCell _ ⟨q, 1, none⟩ _ k hk).trans (Below.heap_setCell _ ⟨q, 0, none⟩ _ k hk))
  · match i, hi with
    | 0, _ => rfl
    | 1, _ => rfl
    | 2, _ => rfl
  · simp only [World.size_setCell]; exact h1.b2

theorem specPut (p d : Int) (v : Value) (ts : List Tm) (f : Int × Int × Int → Int) (x y z val : Int) (w : World) (hS : SliceT w v ts) (hP : IsP p ts f) (h2 : 2 ≤ p) (h13 : p ≤ 13) (he : byte3 (x, y, z)) (v0 : 0 ≤ val) (v1 : val ≤ 100000000) :
    Calls Try.prog 55 #[.agg #[.int .i64 p, .int .i64 d, v], .agg #[.int .u8 x, .int .u8 y, .int .u8 z], .int .i64 val] w fun e w' =>
      ∃ v', e = .returned (.agg #[.int .i64 p, .int .i64 d, v']) ∧ OwnP w' w.heap.size v' (putL p ts (x, y, z) val) ∧ Below w.heap.size w w' := by
  obtain ⟨a, cap, rfl, _⟩ := id hS
  exact specPut_sl p d a cap ts x y z val w (Nat.le_trans hP.len (by omega)) hS (hP.byte h13) h2 h13 (fun t ht => by have := (hP.2.1 t ht).2; omega) he.1 he.2.1 he.2.2 v0 v1
end Go.Proofs.Ytphgpadpffigjaa
