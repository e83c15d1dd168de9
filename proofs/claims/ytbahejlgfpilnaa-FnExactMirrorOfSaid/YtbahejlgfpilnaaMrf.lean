/-
  MIRRORS: a row without numbers ahead; 'spec.MirrorOf', 'impl.MirrorOf'. Conditions: as each theorem states.
-/
import Derived.Test.YtbahejlgfpilnaaMrc
import Derived.Test.YtbahejlgfpilnaaMre
import Derived.Test.YtbahejlgfpilnaaMw
import Derived.Test.YtbahejlgfpilnaaVg
namespace Go.Proofs.Ytbahejlgfpilnaa
open Go.RowKit Go.Sort EchM

def mzB (x : Int) : Bool := decide (x = 0)
theorem mzout (x : Int) (w : World) : Calls Try.prog 71 #[.int .i64 x] w fun e w' => e = .returned (.bool (!mzB x)) ∧ w' = w := by
  have HB : Hid ((!mzB x) = (x != 0)) := Lib.hid (by
    rw [Bool.eq_iff_iff]
    simp [mzB])
  go_enter Try.func71, Try.ntmps71
  go_wp2
  go_ret
  exact ⟨by rw [HB.out]; rfl, rfl⟩
abbrev mzF : Value := .func (.func 71) #[] #[]

set_option maxHeartbeats 1000000 in
theorem mzidx_some (b off cap : Nat) (l : List Int) (w : World) (hl : l.length ≤ 1048576) (hT : Cs w b off l) (j : Nat) (hj : j < l.length) (hn : mzB l[j] = false) (hp : ∀ (i : Nat) (h : i < l.length), i < j → mzB l[i] = true) :
    Calls Try.prog 147 #[.slice (some ⟨b, off, none⟩) l.length cap, mzF] w fun e w' => e = .returned (.int .i64 j) ∧ w' = w := by
  have HN := Lib.hid hn
  have HP := Lib.hid hp
  clear hn hp
  go_enter Try.func147, Try.ntmps147
  go_wp2
  go_loop [8] (fun i => ∃ k : Nat, k ≤ j ∧ i = .int .i64 k) (fun i => l.length - (intOf i).toNat)
  case atStart => exact ⟨0, by omega, rfl⟩
  case round =>
    obtain ⟨k, hk, rfl⟩ := hrel
    have hlt : k < l.length := by omega
    have hlt' : (k : Int) < (l.length : Int) := by omega
    have c0 := hT k hlt
    by_cases e : k = j
    · subst e
      go_wp2_with fail
      ((with_reducible refine (mzout _ _).mono ?_); rintro e w1 ⟨rfl, rfl⟩)
      rw [HN.out]
      go_wp2
      go_ret
      exact ⟨rfl, rfl⟩
    · have h0 := Lib.hid (HP.out k hlt (by omega))
      go_wp2_with fail
      ((with_reducible refine (mzout _ _).mono ?_); rintro e w1 ⟨rfl, rfl⟩)
      rw [h0.out]
      go_wp2
      go_round
      case rel => exact ⟨k + 1, by omega, by go_num⟩
      case measure => simp [intOf]; omega

set_option maxHeartbeats 1000000 in
theorem mzidx_none (a : Option Addr) (cap : Nat) (l : List Int) (w : World) (hl : l.length ≤ 1048576) (hS : l = [] ∨ ∃ b off, a = some ⟨b, off, none⟩ ∧ b < w.heap.size ∧ Cs w b off l) (hp : ∀ (i : Nat) (h : i < l.length), mzB l[i] = true) :
    Calls Try.prog 147 #[.slice a l.length cap, mzF] w fun e w' => e = .returned (.int .i64 (-1)) ∧ w' = w := by
  have HP := Lib.hid hp
  clear hp
  go_enter Try.func147, Try.ntmps147
  go_wp2
  go_loop [8] (fun i => ∃ k : Nat, k ≤ l.length ∧ i = .int .i64 k) (fun i => l.length - (intOf i).toNat)
  case atStart => exact ⟨0, by omega, rfl⟩
  case round =>
    obtain ⟨k, hk, rfl⟩ := hrel
    by_cases hlt : k < l.length
    · have hlt' : (k : Int) < (l.length : Int) := by omega
      obtain ⟨b, off, rfl, hbb, hT⟩ : ∃ b off, a = some ⟨b, off, none⟩ ∧ b < w.heap.size ∧ Cs w b off l := by
        rcases hS with rfl | h
        · simp at hlt
        · exact h
      have c0 := hT k hlt
      have h0 := Lib.hid (HP.out k hlt)
      go_wp2_with fail
      ((with_reducible refine (mzout _ _).mono ?_); rintro e w1 ⟨rfl, rfl⟩)
      rw [h0.out]
      go_wp2
      go_round
      case rel => exact ⟨k + 1, by omega, by go_num⟩
      case measure => simp [intOf]; omega
    · obtain rfl : k = l.length := by omega
      go_wp2
      go_ret
      exact ⟨rfl, rfl⟩

theorem mzcontains (v : Value) (l : List Int) (w : World) (hl : l.length ≤ 1048576) (hS : Sl w v l) :
    Calls Try.prog 72 #[v, mzF] w fun e w' => e = .returned (.bool (!l.all mzB)) ∧ w' = w := by
  obtain ⟨a, cap, rfl, hc⟩ := hS
  cases h : l.all mzB
  · obtain ⟨j, hj, hn, hp⟩ := first_out mzB l h
    obtain ⟨b, off, rfl, hbb, hT⟩ : ∃ b off, a = some ⟨b, off, none⟩ ∧ b < w.heap.size ∧ Cs w b off l := by
      rcases hc with rfl | h
      · simp at hj
      · exact h
    clear h hc
    go_enter Try.func72, Try.ntmps72
    go_wp2_with fail
    ((with_reducible refine (mzidx_some b off cap l _ hl hT j hj hn hp).mono ?_); rintro e w1 ⟨rfl, rfl⟩)
    go_wp2
    go_ret
    exact ⟨rfl, rfl⟩
  · have hp : ∀ (i : Nat) (hi : i < l.length), mzB l[i] = true := fun i hi => List.all_eq_true.1 h _ (List.getElem_mem hi)
    clear h
    have HP := Lib.hid hp
    clear hp
    go_enter Try.func72, Try.ntmps72
    go_wp2_with fail
    ((with_reducible refine (mzidx_none a cap l _ hl hc HP.out).mono ?_); rintro e w1 ⟨rfl, rfl⟩)
    go_wp2
    go_ret
    exact ⟨rfl, rfl⟩


theorem lead_take {r : List Int} {m : Nat} (hm : m ≤ r.length) : (r.take m).all mzB = decide (m ≤ leadN r) := by
  rw [Bool.eq_iff_iff, decide_eq_true_eq, lead_ge hm, List.all_eq_true]
  constructor
  · intro h j hj
    have hjt : j < (r.take m).length := by rw [List.length_take]; omega
    have h1 := h ((r.take m)[j]'hjt) (List.getElem_mem hjt)
    rw [List.getElem_take] at h1
    rw [nth_lt (by omega)]
    simpa [mzB] using h1
  · intro h x hx
    obtain ⟨j, hj, rfl⟩ := List.getElem_of_mem hx
    rw [List.length_take] at hj
    rw [List.getElem_take]
    have := h j (by omega)
    rw [nth_lt (by omega)] at this
    simp [mzB, this]
/-- The mirror; the code. -/
def mirS (p n : Int) (g : Nat → Nat → Int) : List (List Int) := if isMat p n g then cutZ n.toNat (echL p (augL (chgL p n.toNat g))) else []
def mirC (p n : Int) (g : Nat → Nat → Int) : Int := if isMat p n g then 0 else 2
theorem mir_no {p n : Int} {g : Nat → Nat → Int} (h : isMat p n g = false) : mirS p n g = [] ∧ mirC p n g = 2 := by unfold mirS mirC; simp [h]
theorem mir_yes {p : Int} {n : Nat} {g : Nat → Nat → Int} (h : isMat p n g = true) : mirS p n g = cutZ n (echL p (augL (chgL p n g))) ∧ mirC p n g = 0 := by unfold mirS mirC; simp [h]
theorem chg_inP {p : Int} {n : Nat} {g : Nat → Nat → Int} (hM : MatV p n g) : ∀ r ∈ chgL p n g, InP p n r := chgL_in hM.h2 hM.m3 hM.bound
theorem aug_inP {p : Int} {n : Nat} {g : Nat → Nat → Int} (hM : MatV p n g) : ∀ r ∈ augL (chgL p n g), InP p (n + n) r := fun r hr => by
  have := augL_in hM.h2 (chg_inP hM) r hr
  rwa [chgL_len] at this
theorem mir_red {p : Int} {n : Nat} {g : Nat → Nat → Int} (hM : MatV p n g) : Reduced p n (cutZ n (echL p (augL (chgL p n g)))) := cutZ_reduced (echL_spec hM.prime _ (aug_inP hM)).1
theorem mir_size {p n : Int} {g : Nat → Nat → Int} (hg : Byt g) : (mirS p n g).length ≤ 1000 ∧ ∀ r ∈ mirS p n g, r.length ≤ 1000 := by
  cases h : isMat p n g
  · rw [(mir_no h).1]; simp
  · obtain ⟨m, rfl, hM⟩ := matV_of hg h
    rw [(mir_yes h).1]
    have h1 := cutZ_len m (echL p (augL (chgL p m g)))
    have h2 := ech_len p (augL (chgL p m g))
    rw [augL_len, chgL_len] at h2
    have h3 := hM.m3
    refine ⟨by omega, fun r hr => ?_⟩
    have := ((mir_red hM).inP r hr).1
    omega

set_option maxRecDepth 8000 in
set_option maxHeartbeats 8000000 in
theorem smir (p n : Int) (g : Nat → Nat → Int) (w : World) (hg : Byt g) :
    Calls Try.prog 23 #[.int .i64 p, .int .i64 n, mv g] w fun e w' => ∃ v', e = .returned (.tuple #[v', .int .i64 (mirC p n g)]) ∧ SlR w' v' (mirS p n g) ∧ Below w.heap.size w w' := by
  obtain ⟨W, hW, rW, hbW⟩ : ∃ W, W = w.alloc (.cells #[.int .u8 (g 0 0), .int .u8 (g 0 1), .int .u8 (g 0 2), .int .u8 (g 1 0), .int .u8 (g 1 1), .int .u8 (g 1 2), .int .u8 (g 2 0), .int .u8 (g 2 1), .int .u8 (g 2 2)] 37) ∧ W.rowIs w.heap.size 37 9 (mF g) ∧ Below w.heap.size w W := ⟨_, rfl, mbox w g _, ebox1 _ _⟩
  unfold mv
  cases h : isMat p n g
  · have HX := Lib.hid (mir_no h)
    have HS := Lib.hid (smat_is p n g W hg false h)
    clear h hg
    go_enter Try.func23, Try.ntmps23
    go_wp2_with fail
    rw [← hW]
    clear hW
    ((with_reducible refine HS.out.mono ?_); rintro e w1 ⟨rfl, hb1⟩)
    have hend := hbW.trans (hb1.mono hbW.size)
    clear HS
    go_wp2_with fail
    go_ret2
    rw [HX.out.1, HX.out.2]
    exact ⟨_, rfl, ⟨_, _, rfl, .inl rfl⟩, hend⟩
  · obtain ⟨m, rfl, hM⟩ := matV_of hg h
    have HX := Lib.hid (mir_yes h)
    have HS := Lib.hid (smat_is p m g W hg true h)
    have HM := Lib.hid hM
    have HC := Lib.hid (fun w => schg p m g w hM.h2 hM.h13 hM.m3 hM.bound)
    unfold mv at HC
    have HK := Lib.hid (fun v w (k : SlR w v (chgL p m g)) => skern p m m v (chgL p m g) w hM.prime (chgL_len p m g) hM.m1 (by have := hM.m3; omega) (by have := hM.m3; omega) (chg_inP hM) k)
    have HE := Lib.hid (fun v w (k : SlR w v (cutZ m (echL p (augL (chgL p m g))))) => eech p v (cutZ m (echL p (augL (chgL p m g)))) m w hM.prime (by have := hM.m3; omega) (by
      have h1 := cutZ_len m (echL p (augL (chgL p m g)))
      have h2 := ech_len p (augL (chgL p m g))
      rw [augL_len, chgL_len] at h2
      have := hM.m3
      omega) (mir_red hM).inP k)
    clear h hg hM
    go_enter Try.func23, Try.ntmps23
    go_wp2_with fail
    rw [← hW]
    clear hW
    ((with_reducible refine HS.out.mono ?_); rintro e w1 ⟨rfl, hb1⟩)
    have hbw1 := hbW.trans (hb1.mono hbW.size)
    obtain ⟨⟨c0, c1, c2⟩, ⟨c3, c4, c5⟩, c6, c7, c8⟩ := mcells (erow_below rW hb1 rW.lt)
    clear HS rW
    go_wp2_with fail
    ((with_reducible refine (HC.out _).mono ?_); rintro e w2 ⟨v2, rfl, ho2, hb2⟩)
    clear c0 c1 c2 c3 c4 c5 c6 c7 c8
    go_wp2_with fail
    ((with_reducible refine (HK.out _ _ ho2.slice).mono ?_); rintro e w3 ⟨v3, rfl, ho3, hb3⟩)
    go_wp2_with fail
    ((with_reducible refine (HE.out _ _ ho3.slice).mono ?_); rintro e w4 ⟨v4, rfl, ho4, hb4⟩)
    have hb24 := hb2.trans ((hb3.trans (hb4.mono hb3.size)).mono hb2.size)
    have hend := hbw1.trans (hb24.mono hbw1.size)
    have hsl := ho4.slice
    rw [ech_reduced HM.out.prime (mir_red HM.out)] at hsl
    obtain ⟨a4, c4, rfl, _⟩ := id hsl
    go_wp2_with fail
    go_ret2
    rw [HX.out.1, HX.out.2]
    exact ⟨_, rfl, hsl, hend⟩
end Go.Proofs.Ytbahejlgfpilnaa
