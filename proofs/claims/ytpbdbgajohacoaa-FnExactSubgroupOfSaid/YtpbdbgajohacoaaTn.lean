/-
  impl.distinct, equal matrices or not; the search of GroupOf for what is no matrix. Conditions: as each theorem states.
-/
import Derived.Test.YtpbdbgajohacoaaTx
import Derived.Test.YtpbdbgajohacoaaSx
import Derived.Test.YtpbdbgajohacoaaCb
import Derived.Test.YtpbdbgajohacoaaMv
namespace Go.Proofs.Ytpbdbgajohacoaa
open Go.RowKit Go.Sort EchM

theorem gdistinctA (v : Value) (L : List (Nat → Nat → Int)) (w : World) (hl : L.length ≤ 1048576) (hS : SlM w v L) :
    Calls Try.prog 47 #[v] w fun e w' => ∃ v' L', e = .returned v' ∧ SlM w' v' L' ∧ (∀ x, x ∈ L' ↔ x ∈ L.map cut3) ∧ L'.length ≤ 1048576 ∧ Below w.heap.size w w' := by
  have hls : (sortM (L.map cut3)).length ≤ 1048576 := by rw [sortM_len]; simpa using hl
  obtain ⟨a, cap, rfl, _⟩ := id hS
  have hbV := ebox1 w (.cells #[.slice a L.length cap] 24)
  have hSV := hS.below hbV
  have hc : (w.alloc (.cells #[.slice a L.length cap] 24)).cell? ⟨w.heap.size, 0, none⟩ = some (.slice a L.length cap) := by go_simp
  have hlt : w.heap.size < (w.alloc (.cells #[.slice a L.length cap] 24)).heap.size := by simp
  go_enter Try.func47, Try.ntmps47
  go_wp2_with fail
  ((with_reducible refine (gvals a L.length cap _).mono ?_); rintro e w1 ⟨rfl, rfl⟩)
  go_wp2_with fail
  ((with_reducible refine (gsorted _ _ L _ hl hlt hc hSV).mono ?_); rintro e w2 ⟨v2, S, rfl, hs, ho, hb2⟩)
  have hs' := hs.sortM
  subst hs'
  have hb02 := hbV.trans (hb2.mono hbV.size)
  have hcut : ∀ x ∈ sortM (L.map cut3), Cut x := fun x hx => all_cut L x ((sortM_is _).1.mem_iff.1 hx)
  have HC := Lib.hid (gcompact v2 (sortM (L.map cut3)) _ w2 ho hls hcut)
  obtain ⟨a2, c2, rfl⟩ := OwnG9.shape ho
  go_wp2_with fail
  ((with_reducible refine HC.out.mono ?_); rintro e w3 ⟨v3, L3, rfl, hS3, hm3, hl3, hg3⟩)
  have hb3 := grown_below hb2 ho hg3 hb2.size
  obtain ⟨a3, c3, rfl, _⟩ := id hS3
  go_wp2_with fail
  go_ret
  exact ⟨_, L3, rfl, hS3, fun x => (hm3 x).trans (sortM_is _).1.mem_iff, by omega, hbV.trans (hb3.mono hbV.size)⟩
/-- What the function value 'loop.example/g01285/impl.GroupOf$1' owes, in every world that has kept what lay there. -/
def gfJ (w : World) (c1 c2 : Value) (f : (Nat → Nat → Int) → Bool) (L : List (Nat → Nat → Int)) : Prop :=
  ∀ w', Below w.heap.size w w' → ∀ x ∈ L, Calls Try.prog 41 #[(.agg #[.int .u8 (x 0 0), .int .u8 (x 0 1), .int .u8 (x 0 2), .int .u8 (x 1 0), .int .u8 (x 1 1), .int .u8 (x 1 2), .int .u8 (x 2 0), .int .u8 (x 2 1), .int .u8 (x 2 2)]), c1, c2] w' fun e w'' => e = .returned (.bool (f x)) ∧ Below w'.heap.size w' w''
theorem gfJ.below {w w1 : World} {c1 c2 : Value} {f : (Nat → Nat → Int) → Bool} {L : List (Nat → Nat → Int)} (h : gfJ w c1 c2 f L) (hb : Below w.heap.size w w1) : gfJ w1 c1 c2 f L := fun w' hb' => h w' (hb.trans (hb'.mono hb.size))

set_option maxRecDepth 8000 in
set_option maxHeartbeats 4000000 in
theorem gfindex (c1 c2 : Value) (f : (Nat → Nat → Int) → Bool) (v : Value) (L : List (Nat → Nat → Int)) (w : World) (hl : L.length ≤ 1048576) (hS : SlM w v L) (hJ : gfJ w c1 c2 f L) :
    Calls Try.prog 79 #[v, .func (.func 41) #[] #[c1, c2]] w fun e w' => e = .returned (.int .i64 (firstM f L)) ∧ Below w.heap.size w w' := by
  obtain ⟨a, cap, rfl, hSc⟩ := id hS
  have HJ := Lib.hid hJ
  clear hJ
  go_enter Try.func79, Try.ntmps79
  go_wp2_with fail
  go_loopw [8] (fun i wr => ∃ k : Nat, k ≤ L.length ∧ i = .int .i64 k ∧ Hid (firstM f L = firstA f (L.drop k) k) ∧ Below w.heap.size w wr) (fun i _ => L.length - (intOf i).toNat)
  case atStart => exact ⟨0, by omega, rfl, Lib.hid rfl, Below.refl _ _⟩
  case round =>
    obtain ⟨k, hk, rfl, HU, hb⟩ := hrel
    by_cases hlt : k < L.length
    · have hlt' : (k : Int) < (L.length : Int) := by omega
      obtain ⟨b, off, rfl, hbb, hT⟩ : ∃ b off, a = some ⟨b, off, none⟩ ∧ b < w.heap.size ∧ MatsW w b off L := by
        rcases hSc with rfl | h
        · simp at hlt
        · exact h
      obtain ⟨⟨a0, a1, a2⟩, ⟨a3, a4, a5⟩, a6, a7, a8⟩ := (hT.below hb hbb).nine hlt
      have HC := Lib.hid (HJ.out wr hb L[k] (List.getElem_mem hlt))
      have HS := Lib.hid (HU.out.trans (firstA_step hlt))
      generalize L[k] = x at *
      go_wp2_with fail
      ((with_reducible refine HC.out.mono ?_); rintro e w1 ⟨rfl, hb1⟩)
      have hb2 := hb.trans (hb1.mono hb.size)
      generalize f x = E at *
      clear a0 a1 a2 a3 a4 a5 a6 a7 a8 HC
      cases E
      · have HN : Hid (firstM f L = firstA f (L.drop (k + 1)) (k + 1)) := Lib.hid (by rw [HS.out]; rfl)
        go_wp2_with fail
        go_roundw
        case rel => exact ⟨k + 1, by omega, by go_num, HN, hb2⟩
        case measure => simp [intOf]; omega
      · have HN : Hid (firstM f L = (k : Int)) := Lib.hid (by rw [HS.out]; rfl)
        go_wp2_with fail
        go_ret
        exact ⟨by rw [HN.out]; rfl, hb2⟩
    · obtain rfl : k = L.length := by omega
      have HN : Hid (firstM f L = -1) := Lib.hid (by rw [HU.out, List.drop_length]; rfl)
      go_wp2_with fail
      go_ret
      exact ⟨by rw [HN.out]; rfl, hb⟩
theorem gfcontains (c1 c2 : Value) (f : (Nat → Nat → Int) → Bool) (v : Value) (L : List (Nat → Nat → Int)) (w : World) (hl : L.length ≤ 1048576) (hS : SlM w v L) (hJ : gfJ w c1 c2 f L) :
    Calls Try.prog 45 #[v, .func (.func 41) #[] #[c1, c2]] w fun e w' => e = .returned (.bool (L.any f)) ∧ Below w.heap.size w w' := by
  have h0 := firstA_any f L 0
  have HF := Lib.hid (show decide (0 ≤ firstM f L) = L.any f from h0)
  clear h0
  have hc := gfindex c1 c2 f v L w hl hS hJ
  generalize firstM f L = i at *
  obtain ⟨a, cap, rfl, _⟩ := id hS
  go_enter Try.func45, Try.ntmps45
  go_wp2_with fail
  ((with_reducible refine hc.mono ?_); rintro e w1 ⟨rfl, hb1⟩)
  go_wp2_with fail
  go_ret
  exact ⟨by rw [← HF.out]; rfl, hb1⟩

set_option maxRecDepth 8000 in
set_option maxHeartbeats 4000000 in
theorem gnomat (p n : Int) (g : Nat → Nat → Int) (B : Bool) (b1 b2 : Nat) (w : World) (hg : Byt g) (hB : isMat p n g = B) (h1 : w.cell? ⟨b1, 0, none⟩ = some (.int .i64 p)) (h2 : w.cell? ⟨b2, 0, none⟩ = some (.int .i64 n)) (l1 : b1 < w.heap.size) (l2 : b2 < w.heap.size) :
    Calls Try.prog 41 #[.agg #[.int .u8 (g 0 0), .int .u8 (g 0 1), .int .u8 (g 0 2), .int .u8 (g 1 0), .int .u8 (g 1 1), .int .u8 (g 1 2), .int .u8 (g 2 0), .int .u8 (g 2 1), .int .u8 (g 2 2)], .pointer (some ⟨b1, 0, none⟩), .pointer (some ⟨b2, 0, none⟩)] w fun e w' => e = .returned (.bool (!B)) ∧ Below w.heap.size w w' := by
  obtain ⟨W, hW, rX, hbW⟩ : ∃ W, W = w.alloc (.cells #[.int .u8 (g 0 0), .int .u8 (g 0 1), .int .u8 (g 0 2), .int .u8 (g 1 0), .int .u8 (g 1 1), .int .u8 (g 1 2), .int .u8 (g 2 0), .int .u8 (g 2 1), .int .u8 (g 2 2)] 55) ∧ W.rowIs w.heap.size 55 9 (mF g) ∧ Below w.heap.size w W := ⟨_, rfl, mbox w g _, ebox1 _ _⟩
  have k1 : W.cell? ⟨b1, 0, none⟩ = some (.int .i64 p) := (hbW.cell l1).trans h1
  have k2 : W.cell? ⟨b2, 0, none⟩ = some (.int .i64 n) := (hbW.cell l2).trans h2
  obtain ⟨⟨a0, a1, a2⟩, ⟨a3, a4, a5⟩, a6, a7, a8⟩ := mcells rX
  have HC := Lib.hid (ismat_is p n g W hg B hB)
  clear hB
  go_enter Try.func41, Try.ntmps41
  go_wp2_with fail
  rw [← hW]
  clear hW h1 h2
  go_wp2_with fail
  ((with_reducible refine HC.out.mono ?_); rintro e w1 ⟨rfl, hb1⟩)
  go_wp2_with fail
  go_ret
  exact ⟨rfl, hbW.trans (hb1.mono hbW.size)⟩
end Go.Proofs.Ytpbdbgajohacoaa
