/-
  WALKS: comparing terms and polynomials that are equal. Conditions: as each theorem states.
  MONOMIAL SUMS: the degree of the images; the polynomial told by its coefficients. Conditions: as each theorem states.
  ELEMENTARY POLYNOMIALS: 'spec.l08Elementary', 'impl.elementary', 'ElementaryPoly' on both sides. Conditions: as each theorem states.
  WALKS: degrees. Conditions: as each theorem states.
  LISTS OF POLYNOMIALS in memory. Conditions: as each theorem states.
  LISTS: the first that fails a test; the first polynomial of a list. Conditions: as each theorem states.
  PRODUCTS OF POLYNOMIALS, in plain mathematics. Conditions: as each theorem states.
  THE ALGEBRA OF PRODUCTS, in plain mathematics: they do not depend on the order; a number goes out of a product. Conditions: as each theorem states.
  A map of coefficients in the making. Conditions: as each theorem states.
  WALKS: 'impl.addTimes'. Conditions: as each theorem states.
  POLYNOMIALS in the making beside two others; appends of terms. Conditions: as each theorem states.. Conditions: as each theorem states.
  WALKS: 'spec.l01Times'. Conditions: as each theorem states.
  WALKS: 'spec.l01Times' of polynomials other than 0. Conditions: as each theorem states.
  WALKS: spec.l01Times. Conditions: as each theorem states.
  WALKS: 'spec.l01One'. Conditions: as each theorem states.
  POWERS OF POLYNOMIALS, in plain mathematics. Conditions: as each theorem states.
  SUBSTITUTIONS, in plain mathematics: products of lists of polynomials, and what a monomial becomes. Conditions: as each theorem states.
  SUBSTITUTIONS, in plain mathematics: the factors of what a monomial becomes, and the sum of what all terms become. Conditions: as each theorem states.
  SUBSTITUTIONS: what is asked of a polynomial and a list, in plain mathematics. Conditions: as each theorem states.
  SUBSTITUTIONS: the model's road to what a monomial becomes, in plain mathematics. Conditions: as each theorem states.
  WALKS: 'spec.l01Plus'. Conditions: as each theorem states.
  SUMS of polynomials, in plain mathematics. Conditions: as each theorem states.
  A BOX of a polynomial holds no terms. Conditions: as each theorem states.. Conditions: as each theorem states.
  MAPS OF POLYNOMIALS by monomials; what has been put in. Conditions: as each theorem states.
  MAPS OF POLYNOMIALS: what stays, and the look-up. Conditions: as each theorem states.
  WALKS: 'impl.product'. Conditions: as each theorem states.
  WALKS: 'impl.putIn': what a monomial becomes. Conditions: as the theorem states.
-/
import Derived.Test.YtbahejlgfpilnaaF
import Derived.Test.YtbahejlgfpilnaaSyj
import Derived.Test.YtbahejlgfpilnaaCj
import Derived.Test.YtbahejlgfpilnaaLs2
import Derived.Test.YtbahejlgfpilnaaVl
import Derived.Test.YtbahejlgfpilnaaIsp
import Derived.Test.YtbahejlgfpilnaaIns
import Derived.Test.YtbahejlgfpilnaaMr
import Derived.Test.YtbahejlgfpilnaaE
import Derived.Deep.DeepCutAuto
import Derived.Deep.RegionHeld3
import Derived.Test.YtbahejlgfpilnaaIq
import Derived.Maps.OwnSet
namespace Go.Proofs.Ytbahejlgfpilnaa
open Go.RowKit Go.Sort

set_option maxHeartbeats 1000000 in
theorem eqTerm_refl (x y z v : Int) (w : World) :
    Calls Try.prog 159 #[.agg #[.int .u8 x, .int .u8 y, .int .u8 z, .int .i64 v], .agg #[.int .u8 x, .int .u8 y, .int .u8 z, .int .i64 v]] w fun e w' => e = .returned (.bool true) ∧ Below w.heap.size w w' := by
  have hv : (v != v) = false := by simp
  go_enter Try.func159, Try.ntmps159
  go_wp2_with fail
  ((with_reducible refine (eqExps_refl _ _ _ _).mono ?_); rintro e w1 ⟨rfl, hb⟩)
  obtain ⟨hc, hf⟩ := old_cells hb
  have hb0 := (box2 _ _ _).trans (hb.mono (by simp; omega))
  clear hb
  go_wp2
  go_ret
  exact ⟨rfl, hb0⟩

set_option maxHeartbeats 1000000 in
theorem eqTermS_some (g o cap g' o' cap' : Nat) (ts : List Tm) (w : World) (hl : ts.length ≤ 1048576) (hg : g < w.heap.size) (hg' : g' < w.heap.size) (hT : Terms w g o ts) (hT' : Terms w g' o' ts) :
    Calls Try.prog 81 #[.slice (some ⟨g, o, none⟩) ts.length cap, .slice (some ⟨g', o', none⟩) ts.length cap'] w fun e w' => e = .returned (.bool true) ∧ Below w.heap.size w w' := by
  have hnn : ((ts.length : Int) != (ts.length : Int)) = false := by simp
  go_enter Try.func81, Try.ntmps81
  go_wp2
  go_loopw [5] (fun i wr => ∃ k : Nat, k ≤ ts.length ∧ i = .int .i64 k ∧ Below w.heap.size w wr) (fun i _ => ts.length - (intOf i).toNat)
  case atStart => exact ⟨0, by omega, rfl, Below.refl _ _⟩
  case round =>
    obtain ⟨k, hk, rfl, hbel⟩ := hrel
    by_cases hlt : k < ts.length
    · have hlt' : (k : Int) < (ts.length : Int) := by omega
      obtain ⟨a0, a1, a2, a3⟩ := (hT.below hbel hg) k hlt
      obtain ⟨b0, b1, b2, b3⟩ := (hT'.below hbel hg') k hlt
      have e0 := cell_regrown a0
      have e1 := cell_regrown a1
      have e2 := cell_regrown a2
      have e3 := cell_regrown a3
      have f0 := cell_regrown b0
      have f1 := cell_regrown b1
      have f2 := cell_regrown b2
      have f3 := cell_regrown b3
      clear a0 a1 a2 a3 b0 b1 b2 b3
      have cE : ∀ d os, Calls Try.prog 159 #[.agg #[.int .u8 ts[k].1, .int .u8 ts[k].2.1, .int .u8 ts[k].2.2.1, .int .i64 ts[k].2.2.2], .agg #[.int .u8 ts[k].1, .int .u8 ts[k].2.1, .int .u8 ts[k].2.2.1, .int .i64 ts[k].2.2.2]] (grow (redrawn wr d) os) fun e w'' => e = .returned (.bool true) ∧ ∃ p : Regrown, w'' = grow (redrawn wr p.d) p.os := fun d os => Calls.regrown_of (eqTerm_refl _ _ _ _ _)
      go_wp2
      refine wp_region_quiet_below (by kernel_rfl) (by kernel_rfl) ?_
      repeat (go_big_quiet_step (with_reducible exact cE _ _))
      refine wpQuiet_nil ?_
      intro _ hw'
      obtain ⟨⟨dq, osq⟩, hw''⟩ := hw'
      subst hw''
      go_wp2
      go_roundw
      case rel => exact ⟨k + 1, by omega, by go_num, hbel.trans ((below_regrown wr dq osq).mono hbel.size)⟩
      case measure => simp [intOf]; omega
    · obtain rfl : k = ts.length := by omega
      go_wp2
      go_ret
      exact ⟨rfl, hbel⟩

theorem eqTermS_zero (a a' : Option Addr) (c c' : Nat) (w : World) :
    Calls Try.prog 81 #[.slice a 0 c, .slice a' 0 c'] w fun e w' => e = .returned (.bool true) ∧ Below w.heap.size w w' := by
  go_enter Try.func81, Try.ntmps81
  go_wp2
  refine wp_loop_rounds 1 ?_
  rw [rounds_succ]
  go_wp2
  go_ret
  exact ⟨rfl, Below.refl _ _⟩

theorem eqTermS_same (v v' : Value) (ts : List Tm) (w : World) (hl : ts.length ≤ 1048576) (hS : SliceT w v ts) (hS' : SliceT w v' ts) :
    Calls Try.prog 81 #[v, v'] w fun e w' => e = .returned (.bool true) ∧ Below w.heap.size w w' := by
  obtain ⟨a, cap, rfl, h⟩ := hS
  obtain ⟨a', cap', rfl, h'⟩ := hS'
  cases ts with
  | nil => exact eqTermS_zero _ _ _ _ _
  | cons t r =>
    rcases h with h | ⟨b, off, rfl, hlt, hT⟩
    · cases h
    · rcases h' with h' | ⟨b', off', rfl, hlt', hT'⟩
      · cases h'
      · exact eqTermS_some b off cap b' off' cap' _ w hl hlt hlt' hT hT'

set_option maxHeartbeats 1000000 in
theorem eqPoly_same (p d : Int) (v v' : Value) (ts : List Tm) (w : World) (hl : ts.length ≤ 1048576) (hS : SliceT w v ts) (hS' : SliceT w v' ts) :
    Calls Try.prog 28 #[.agg #[.int .i64 p, .int .i64 d, v], .agg #[.int .i64 p, .int .i64 d, v']] w fun e w' => e = .returned (.bool true) ∧ Below w.heap.size w w' := by
  have hp : (p != p) = false := by simp
  have hd : (d != d) = false := by simp
  have h2 : ∀ o1 o2, SliceT ((w.alloc o1).alloc o2) v ts := fun o1 o2 => hS.below (box2 _ _ _)
  have h2' : ∀ o1 o2, SliceT ((w.alloc o1).alloc o2) v' ts := fun o1 o2 => hS'.below (box2 _ _ _)
  obtain ⟨a, cap, hv, _⟩ := id hS
  obtain ⟨a', cap', hv', _⟩ := id hS'
  subst hv hv'
  go_enter Try.func28, Try.ntmps28
  go_wp2_with fail
  ((with_reducible refine (eqTermS_same _ _ ts _ hl (h2 _ _) (h2' _ _)).mono ?_); rintro e w1 ⟨rfl, hb⟩)
  go_wp2
  go_ret
  exact ⟨rfl, (box2 _ _ _).trans (hb.mono (by simp; omega))⟩

end Go.Proofs.Ytbahejlgfpilnaa
namespace Go.Proofs.Ytbahejlgfpilnaa
open Go.RowKit Go.Sort Go.Maps

theorem sum_key {es os : List Int} (hd : 1 ≤ es.length ∧ es.length ≤ 3) (h : os ∈ sOrd es.length) : (keyO es os).1 + (keyO es os).2.1 + (keyO es os).2.2 = es.sum := by
  have h1 : sOrd 1 = [[0]] := by decide +kernel
  have h2 : sOrd 2 = [[0, 1], [1, 0]] := by decide +kernel
  have h3 : sOrd 3 = [[0, 1, 2], [0, 2, 1], [2, 0, 1], [1, 0, 2], [1, 2, 0], [2, 1, 0]] := by decide +kernel
  match es, hd, h with
  | [a], _, h =>
    rw [show [a].length = 1 from rfl, h1] at h
    simp only [List.mem_cons, List.not_mem_nil, or_false] at h
    subst h
    simp [keyO, plF]
  | [a, b], _, h =>
    rw [show [a, b].length = 2 from rfl, h2] at h
    simp only [List.mem_cons, List.not_mem_nil, or_false] at h
    rcases h with rfl | rfl <;> simp [keyO, plF] <;> omega
  | [a, b, c], _, h =>
    rw [show [a, b, c].length = 3 from rfl, h3] at h
    simp only [List.mem_cons, List.not_mem_nil, or_false] at h
    rcases h with rfl | rfl | rfl | rfl | rfl | rfl <;> simp [keyO, plF] <;> omega
theorem sum_key2 {es os : List Int} (hd : 1 ≤ es.length ∧ es.length ≤ 3) (h : os ∈ ordL es.length (es.length ^ es.length)) : (keyO es os).1 + (keyO es os).2.1 + (keyO es os).2.2 = es.sum := sum_key hd ((ord_same _ hd os).2 h)

open Classical in
/-- The polynomial with some coefficients, if there is one. -/
noncomputable def isS (p : Int) (f : Int × Int × Int → Int) : List Tm := if h : ∃ S, IsP p S f then Classical.choose h else []
theorem isS_of {p : Int} {S : List Tm} {f : Int × Int × Int → Int} (h : IsP p S f) : isS p f = S := by
  unfold isS
  rw [dif_pos ⟨S, h⟩]
  exact (Classical.choose_spec (⟨S, h⟩ : ∃ S, IsP p S f)).unique h
theorem isS_len (p : Int) (f : Int × Int × Int → Int) : (isS p f).length ≤ 2197 := by
  unfold isS
  split
  · rename_i h
    exact (Classical.choose_spec h).len
  · simp
/-- The monomial sum of exponents. -/
noncomputable def msS (p : Int) (es : List Int) : List Tm := isS p (indF (imgL es (sOrd es.length)))
theorem imsumS (p : Int) (ve : Value) (es : List Int) (w : World) (hd : 1 ≤ es.length ∧ es.length ≤ 3) (hp2 : 2 ≤ p) (he : ∀ e ∈ es, 0 ≤ e ∧ e ≤ 255) (hs : es.sum ≤ 12) (hS : Sl w ve es) :
    Calls Try.prog 103 #[.int .i64 p, ve] w fun e w' => ∃ v', e = .returned (.agg #[.int .i64 p, .int .i64 es.length, v']) ∧ OwnP w' w.heap.size v' (msS p es) ∧ Below w.heap.size w w' :=
  (imsum p ve es w hd hp2 he (fun os h => by rw [sum_key2 hd h]; exact hs) hS).mono fun _ _ ⟨v', S, h1, h2, h3, h4⟩ => by
    rw [← img_same es hd] at h3
    exact ⟨v', h1, by unfold msS; rw [isS_of h3]; exact h2, h4⟩
theorem ssumS (p : Int) (ve : Value) (es : List Int) (w : World) (hd : 1 ≤ es.length ∧ es.length ≤ 3) (hp2 : 2 ≤ p) (hp13 : p ≤ 13) (he : ∀ e ∈ es, 0 ≤ e ∧ e ≤ 255) (hs : es.sum ≤ 12) (hS : Sl w ve es) :
    Calls Try.prog 100 #[.int .i64 p, ve] w fun e w' => ∃ v', e = .returned (.agg #[.int .i64 p, .int .i64 es.length, v']) ∧ OwnP w' w.heap.size v' (msS p es) ∧ Below w.heap.size w w' :=
  (ssum p ve es w hd hp2 hp13 he (fun os h => by rw [sum_key hd h]; exact hs) hS).mono fun _ _ ⟨v', S, h1, h2, h3, h4⟩ => ⟨v', h1, by unfold msS; rw [isS_of h3]; exact h2, h4⟩
end Go.Proofs.Ytbahejlgfpilnaa
namespace Go.Proofs.Ytbahejlgfpilnaa
open Go.RowKit Go.Sort Go.Maps

/-- k ones and zeros behind them. -/
def elL (d k : Nat) : List Int := (List.range d).map fun i => if i < k then 1 else 0
def elF (k : Nat) (q : Nat) : Value := .int .i64 (if q < k then 1 else 0)
theorem elL_len (d k : Nat) : (elL d k).length = d := by simp [elL]
theorem elL_in (d k : Nat) : ∀ e ∈ elL d k, 0 ≤ e ∧ e ≤ 255 := fun e he => by
  simp only [elL, List.mem_map] at he
  obtain ⟨i, _, rfl⟩ := he
  split <;> omega
theorem elL_sum {d k : Nat} (hd : 1 ≤ d ∧ d ≤ 3) (hk : k ≤ d) : (elL d k).sum ≤ 12 := by
  have h1 : d = 1 ∨ d = 2 ∨ d = 3 := by omega
  have h2 : k = 0 ∨ k = 1 ∨ k = 2 ∨ k = 3 := by omega
  rcases h1 with rfl | rfl | rfl <;> rcases h2 with rfl | rfl | rfl | rfl <;> decide
theorem elF_put (k q : Nat) : (if q = k then Value.int .i64 1 else elF k q) = elF (k + 1) q := by
  unfold elF
  by_cases e : q = k
  · subst e; rw [if_pos rfl, if_pos (by omega)]
  · rw [if_neg e]
    by_cases h : q < k
    · rw [if_pos h, if_pos (by omega)]
    · rw [if_neg h, if_neg (by omega)]
theorem elF_sl {w : World} {g d k : Nat} {t : TypeId} (h : w.rowIs g t d (elF k)) : Sl w (.slice (some ⟨g, 0, none⟩) d d) (elL d k) := by
  refine ⟨_, d, by rw [elL_len], .inr ⟨g, 0, rfl, h.lt, fun j hj => ?_⟩⟩
  have hj' : j < d := by rw [elL_len] at hj; exact hj
  rw [Nat.zero_add, h.cell hj']
  simp [elF, elL]

set_option maxRecDepth 8000 in
set_option maxHeartbeats 8000000 in
theorem sel (p : Int) (d k : Nat) (w : World) (hd : 1 ≤ d ∧ d ≤ 3) (hk : k ≤ d) (hp2 : 2 ≤ p) (hp13 : p ≤ 13) :
    Calls Try.prog 113 #[.int .i64 p, .int .i64 d, .int .i64 k] w fun e w' => ∃ v', e = .returned (.agg #[.int .i64 p, .int .i64 d, v']) ∧ OwnP w' w.heap.size v' (msS p (elL d k)) ∧ Below w.heap.size w w' := by
  obtain ⟨W, hW, hbW, ⟨hWs1, hWs2⟩, rr⟩ := newbox w 0 0 (.slice none 0 0)
  obtain ⟨i0, hi, hz0, hz1, hz2⟩ := info_parts einfoI
  have hmk : ∀ w, (Instr.makeSlice 52 (.int .i64 (d : Int)) (.int .i64 (d : Int))).run Try.prog w = .ok (.slice (some ⟨w.heap.size, 0, none⟩) d d) (w.alloc (.cells (nmadeI d) 2)) := fun w => by
    have h := run_make (P := Try.prog) w 52 2 i0 _ Try.underlying52 hi hz0 .i64 .i64 (d : Int) (d : Int) (by omega) (by omega) (by rw [hz2]; omega) (by omega)
    rw [hz1] at h
    simpa [nmadeI, Value.cells] using h
  clear hi hz0 hz1 hz2
  obtain ⟨V, hV, rV, hbV⟩ : ∃ V, V = W.alloc (.cells (nmadeI d) 2) ∧ V.rowIs W.heap.size 2 d (elF 0) ∧ Below W.heap.size W V := ⟨_, rfl, (nmadeI_row W d _).congr (fun q _ => by simp [elF]), ebox1 _ _⟩
  go_enter Try.func113, Try.ntmps113
  go_upto_region 1 with fail
  rw [← hW]
  clear hW
  go_upto_region 2 with fail
  rw [← hV]
  clear hV hmk
  go_wp2_with fail
  go_loopg [8] k (fun g c wq => ∃ i : Nat, i + g = k ∧ c = .int .i64 i ∧ wq.rowIs W.heap.size 2 d (elF i) ∧ Below W.heap.size W wq)
  case atStart => exact ⟨0, by omega, rfl, rV, hbV⟩
  case round =>
    clear rV hbV
    obtain ⟨i, hi, rfl, hR, hb⟩ := hrel
    by_cases hlt : i < k
    · have hlt' : (i : Int) < (k : Int) := by omega
      have hid : i < d := by omega
      have hid' : (i : Int) < (d : Int) := by omega
      obtain ⟨g2, hg2⟩ : ∃ g2, i + 1 + g2 = k := ⟨k - (i + 1), by omega⟩
      have HG := Lib.hid (And.intro hg2 (show g2 < gk by omega))
      have hc := hR.cell (i := i) hid
      have hf := hR.frozen i
      have hR2 := (hR.set i (.int .i64 1)).congr (g := elF (i + 1)) (fun q _ => elF_put i q)
      have hb2 := hb.setCell (p := ⟨W.heap.size, i, none⟩) (Nat.le_refl _) (.int .i64 1)
      have HR := Lib.hid (And.intro hR2 hb2)
      clear hR hb hR2 hb2 hi hg2
      go_wp2_with fail
      go_roundg g2
      case measure => exact HG.out.2
      case rel => exact ⟨i + 1, HG.out.1, by go_num, HR.out.1, HR.out.2⟩
    · obtain rfl : i = k := by omega
      have hln := elL_len d i
      have hSl := elF_sl (k := i) hR
      have HC := Lib.hid (ssumS p _ (elL d i) wr (by omega) hp2 hp13 (elL_in d i) (elL_sum hd hk) hSl)
      rw [hln] at HC
      have rr2 := rowIs_below rr hb rr.lt
      have hw2 := hbW.trans (hb.mono hbW.size)
      clear hR hb hSl hln hi rr
      go_wp2_with fail
      ((with_reducible refine HC.out.mono ?_); rintro e w5 ⟨v5, rfl, ho5, hb5⟩)
      obtain ⟨sa, sc, rfl⟩ := owns_slice ho5
      obtain ⟨S, hS⟩ : ∃ S, msS p (elL d i) = S := ⟨_, rfl⟩
      rw [hS] at ho5
      simp only [hS]
      have HS := Lib.hid hS
      have rr5 := rowIs_below rr2 hb5 rr2.lt
      obtain ⟨⟨r0, r1, r2⟩, z0, z1, z2⟩ := poly3 rr5
      obtain ⟨a0, a1, a2, a3, a4⟩ := fill_box rr5 ho5 hw2.size (hw2.trans (hb5.mono hw2.size)) (Nat.le_refl _) p d
      have A0 := Lib.hid a0
      have A1 := Lib.hid a1
      have A2 := Lib.hid a2
      have A3 := Lib.hid a3
      have A4 := Lib.hid a4
      clear a0 a1 a2 a3 a4 ho5 rr5 rr2 hb5 HC hS hw2
      go_wp2_with fail
      exact bodyPost_ret (v := .agg #[.int .i64 p, .int .i64 d, .slice sa S.length sc]) (by simp [results, Try.results113, go_sem, A0.out, A1.out, A2.out]) rfl ⟨_, rfl, by rw [HS.out]; exact A3.out, A4.out⟩

set_option maxRecDepth 8000 in
set_option maxHeartbeats 8000000 in
theorem iel (p : Int) (d k : Nat) (w : World) (hd : 1 ≤ d ∧ d ≤ 3) (hk : k ≤ d) (hp2 : 2 ≤ p) (_ : p ≤ 13) :
    Calls Try.prog 185 #[.int .i64 p, .int .i64 d, .int .i64 k] w fun e w' => ∃ v', e = .returned (.agg #[.int .i64 p, .int .i64 d, v']) ∧ OwnP w' w.heap.size v' (msS p (elL d k)) ∧ Below w.heap.size w w' := by
  obtain ⟨W, hW, hbW, ⟨hWs1, hWs2⟩, rr⟩ := newbox w 0 0 (.slice none 0 0)
  obtain ⟨i0, hi, hz0, hz1, hz2⟩ := info_parts einfoI
  have hmk : ∀ w, (Instr.makeSlice 52 (.int .i64 (d : Int)) (.int .i64 (d : Int))).run Try.prog w = .ok (.slice (some ⟨w.heap.size, 0, none⟩) d d) (w.alloc (.cells (nmadeI d) 2)) := fun w => by
    have h := run_make (P := Try.prog) w 52 2 i0 _ Try.underlying52 hi hz0 .i64 .i64 (d : Int) (d : Int) (by omega) (by omega) (by rw [hz2]; omega) (by omega)
    rw [hz1] at h
    simpa [nmadeI, Value.cells] using h
  clear hi hz0 hz1 hz2
  obtain ⟨V, hV, rV, hbV⟩ : ∃ V, V = W.alloc (.cells (nmadeI d) 2) ∧ V.rowIs W.heap.size 2 d (elF 0) ∧ Below W.heap.size W V := ⟨_, rfl, (nmadeI_row W d _).congr (fun q _ => by simp [elF]), ebox1 _ _⟩
  go_enter Try.func185, Try.ntmps185
  go_upto_region 1 with fail
  rw [← hW]
  clear hW
  go_upto_region 2 with fail
  rw [← hV]
  clear hV hmk
  go_wp2_with fail
  go_loopg [12] k (fun g c wq => ∃ i : Nat, i + g = k ∧ c = .int .i64 i ∧ wq.rowIs W.heap.size 2 d (elF i) ∧ Below W.heap.size W wq)
  case atStart => exact ⟨0, by omega, rfl, rV, hbV⟩
  case round =>
    clear rV hbV
    obtain ⟨i, hi, rfl, hR, hb⟩ := hrel
    by_cases hlt : i < k
    · have hlt' : (i : Int) < (k : Int) := by omega
      have hid : i < d := by omega
      have hid' : (i : Int) < (d : Int) := by omega
      obtain ⟨g2, hg2⟩ : ∃ g2, i + 1 + g2 = k := ⟨k - (i + 1), by omega⟩
      have HG := Lib.hid (And.intro hg2 (show g2 < gk by omega))
      have hc := hR.cell (i := i) hid
      have hf := hR.frozen i
      have hR2 := (hR.set i (.int .i64 1)).congr (g := elF (i + 1)) (fun q _ => elF_put i q)
      have hb2 := hb.setCell (p := ⟨W.heap.size, i, none⟩) (Nat.le_refl _) (.int .i64 1)
      have HR := Lib.hid (And.intro hR2 hb2)
      clear hR hb hR2 hb2 hi hg2
      go_wp2_with fail
      go_roundg g2
      case measure => exact HG.out.2
      case rel => exact ⟨i + 1, HG.out.1, by go_num, HR.out.1, HR.out.2⟩
    · obtain rfl : i = k := by omega
      have hln := elL_len d i
      have hSl := elF_sl (k := i) hR
      have HC := Lib.hid (imsumS p _ (elL d i) wr (by omega) hp2 (elL_in d i) (elL_sum hd hk) hSl)
      rw [hln] at HC
      have rr2 := rowIs_below rr hb rr.lt
      have hw2 := hbW.trans (hb.mono hbW.size)
      clear hR hb hSl hln hi rr
      go_wp2_with fail
      ((with_reducible refine HC.out.mono ?_); rintro e w5 ⟨v5, rfl, ho5, hb5⟩)
      obtain ⟨sa, sc, rfl⟩ := owns_slice ho5
      obtain ⟨S, hS⟩ : ∃ S, msS p (elL d i) = S := ⟨_, rfl⟩
      rw [hS] at ho5
      simp only [hS]
      have HS := Lib.hid hS
      have rr5 := rowIs_below rr2 hb5 rr2.lt
      obtain ⟨⟨r0, r1, r2⟩, z0, z1, z2⟩ := poly3 rr5
      obtain ⟨a0, a1, a2, a3, a4⟩ := fill_box rr5 ho5 hw2.size (hw2.trans (hb5.mono hw2.size)) (Nat.le_refl _) p d
      have A0 := Lib.hid a0
      have A1 := Lib.hid a1
      have A2 := Lib.hid a2
      have A3 := Lib.hid a3
      have A4 := Lib.hid a4
      clear a0 a1 a2 a3 a4 ho5 rr5 rr2 hb5 HC hS hw2
      go_wp2_with fail
      exact bodyPost_ret (v := .agg #[.int .i64 p, .int .i64 d, .slice sa S.length sc]) (by simp [results, Try.results185, go_sem, A0.out, A1.out, A2.out]) rfl ⟨_, rfl, by rw [HS.out]; exact A3.out, A4.out⟩
end Go.Proofs.Ytbahejlgfpilnaa
namespace Go.Proofs.Ytbahejlgfpilnaa
open Go.RowKit Go.Sort

def sumT (t : Tm) : Int := t.1 + t.2.1 + t.2.2.1
def degI (ts : List Tm) : Int := match ts.getLast? with | none => -1 | some t => sumT t
def evenB (ts : List Tm) : Bool := match ts with | [] => true | t :: r => sumT t == degI (t :: r)

theorem chain_sum {p d : Int} : ∀ (ts : List Tm) (o : Option Tm), chain p d o ts = true → ∀ t ∈ ts, sumT t ≤ 12
  | [], _, _, t, ht => by simp at ht
  | a :: r, o, h, t, ht => by
    simp only [chain, Bool.and_eq_true] at h
    rcases List.mem_cons.1 ht with rfl | ht
    · exact termOk_sum h.1
    · exact chain_sum r _ h.2.2 t ht
theorem polyB_sum {p d : Int} {ts : List Tm} (h : isPolyB p d ts = true) : ∀ t ∈ ts, sumT t ≤ 12 := by
  simp only [isPolyB, Bool.and_eq_true] at h
  have := h.2.2
  unfold tailB at this
  exact chain_sum _ _ (by simpa using this)

set_option maxHeartbeats 1000000 in
theorem specDegree_some (p d : Int) (b off cap n : Nat) (x y z : Int) (w : World) (hn : n ≤ 1048576) (hb : b < w.heap.size) (hx : 0 ≤ x ∧ x ≤ 255) (hy : 0 ≤ y ∧ y ≤ 255) (hz : 0 ≤ z ∧ z ≤ 255)
    (c0 : w.cell? ⟨b, off + n * 4, none⟩ = some (.int .u8 x)) (c1 : w.cell? ⟨b, off + n * 4 + 1, none⟩ = some (.int .u8 y)) (c2 : w.cell? ⟨b, off + n * 4 + 2, none⟩ = some (.int .u8 z)) :
    Calls Try.prog 75 #[.agg #[.int .i64 p, .int .i64 d, .slice (some ⟨b, off, none⟩) (n + 1) cap]] w fun e w' => e = .returned (.int .i64 (x + y + z)) ∧ Below w.heap.size w w' := by
  have h0 : ((n : Int) + 1 == 0) = false := by simp; omega
  go_enter Try.func75, Try.ntmps75
  go_wp2_with fail
  ((with_reducible refine (sum_any x y z _ hx hy hz).mono ?_); rintro e w1 ⟨rfl, hb1⟩)
  go_wp2
  go_ret
  exact ⟨rfl, (box1 _ _).trans (hb1.mono (by simp))⟩

set_option maxHeartbeats 1000000 in
theorem degree_some (p d : Int) (b off cap n : Nat) (x y z : Int) (w : World) (hn : n ≤ 1048576) (hb : b < w.heap.size) (hx : 0 ≤ x ∧ x ≤ 255) (hy : 0 ≤ y ∧ y ≤ 255) (hz : 0 ≤ z ∧ z ≤ 255)
    (c0 : w.cell? ⟨b, off + n * 4, none⟩ = some (.int .u8 x)) (c1 : w.cell? ⟨b, off + n * 4 + 1, none⟩ = some (.int .u8 y)) (c2 : w.cell? ⟨b, off + n * 4 + 2, none⟩ = some (.int .u8 z)) :
    Calls Try.prog 135 #[.agg #[.int .i64 p, .int .i64 d, .slice (some ⟨b, off, none⟩) (n + 1) cap]] w fun e w' => e = .returned (.int .i64 (capd (x + y + z))) ∧ Below w.heap.size w w' := by
  have h0 : ((n : Int) + 1 == 0) = false := by simp; omega
  have k : ∀ o, (w.alloc o).cell? ⟨b, off + n * 4, none⟩ = some (.int .u8 x) ∧ (w.alloc o).cell? ⟨b, off + n * 4 + 1, none⟩ = some (.int .u8 y) ∧ (w.alloc o).cell? ⟨b, off + n * 4 + 2, none⟩ = some (.int .u8 z) := fun o =>
    ⟨((box1 w o).cell (p := ⟨b, _, none⟩) hb).trans c0, ((box1 w o).cell (p := ⟨b, _, none⟩) hb).trans c1, ((box1 w o).cell (p := ⟨b, _, none⟩) hb).trans c2⟩
  have K := Lib.hid k
  clear k
  go_enter Try.func135, Try.ntmps135
  go_wp2_with fail
  ((with_reducible refine (capped_any _ _ _ x y z _ hx hy hz (K.out _).1 (K.out _).2.1 (K.out _).2.2).mono ?_); rintro e w1 ⟨rfl, rfl⟩)
  go_wp2
  go_ret
  exact ⟨rfl, box1 _ _⟩

theorem specDegree_nil (p d : Int) (a : Option Addr) (cap : Nat) (w : World) :
    Calls Try.prog 75 #[.agg #[.int .i64 p, .int .i64 d, .slice a 0 cap]] w fun e w' => e = .returned (.int .i64 (-1)) ∧ Below w.heap.size w w' := by
  go_enter Try.func75, Try.ntmps75
  go_wp2
  go_ret
  exact ⟨rfl, box1 _ _⟩
theorem degree_nil (p d : Int) (a : Option Addr) (cap : Nat) (w : World) :
    Calls Try.prog 135 #[.agg #[.int .i64 p, .int .i64 d, .slice a 0 cap]] w fun e w' => e = .returned (.int .i64 (-1)) ∧ Below w.heap.size w w' := by
  go_enter Try.func135, Try.ntmps135
  go_wp2
  go_ret
  exact ⟨rfl, box1 _ _⟩

theorem degI_at (ts : List Tm) (n : Nat) (t : Tm) (h : ts.length = n + 1) (ht : ts[n]? = some t) : degI ts = sumT t := by
  unfold degI
  have : ts.getLast? = some t := by
    rw [List.getLast?_eq_getElem?, h]; simpa using ht
  rw [this]

theorem specDegree_any (p d : Int) (v : Value) (ts : List Tm) (w : World) (hl : ts.length ≤ 1048576) (hS : SliceT w v ts) (hby : ∀ t ∈ ts, tmByte t) :
    Calls Try.prog 75 #[.agg #[.int .i64 p, .int .i64 d, v]] w fun e w' => e = .returned (.int .i64 (degI ts)) ∧ Below w.heap.size w w' := by
  obtain ⟨a, cap, rfl, h⟩ := hS
  by_cases h0 : ts = []
  · subst h0; exact specDegree_nil p d a cap w
  · rcases h with h | ⟨b, off, rfl, hlt, hT⟩
    · exact absurd h h0
    · obtain ⟨n, hn⟩ : ∃ n, ts.length = n + 1 := ⟨ts.length - 1, by have := List.length_pos_iff.2 h0; omega⟩
      have hnl : n < ts.length := by omega
      obtain ⟨c0, c1, c2, _⟩ := hT n hnl
      obtain ⟨⟨bx, by1, bz⟩, _⟩ := hby _ (List.getElem_mem hnl)
      have hd := degI_at ts n _ hn (List.getElem?_eq_getElem hnl)
      generalize ts[n] = t at *
      rw [hd, hn]
      exact specDegree_some p d b off cap n _ _ _ w (by omega) hlt bx by1 bz c0 c1 c2
theorem degree_any2 (p d : Int) (v : Value) (ts : List Tm) (w : World) (hl : ts.length ≤ 1048576) (hS : SliceT w v ts) (hby : ∀ t ∈ ts, tmByte t) (hs : ∀ t ∈ ts, sumT t ≤ 12) :
    Calls Try.prog 135 #[.agg #[.int .i64 p, .int .i64 d, v]] w fun e w' => e = .returned (.int .i64 (degI ts)) ∧ Below w.heap.size w w' := by
  obtain ⟨a, cap, rfl, h⟩ := hS
  by_cases h0 : ts = []
  · subst h0; exact degree_nil p d a cap w
  · rcases h with h | ⟨b, off, rfl, hlt, hT⟩
    · exact absurd h h0
    · obtain ⟨n, hn⟩ : ∃ n, ts.length = n + 1 := ⟨ts.length - 1, by have := List.length_pos_iff.2 h0; omega⟩
      have hnl : n < ts.length := by omega
      obtain ⟨c0, c1, c2, _⟩ := hT n hnl
      obtain ⟨⟨bx, by1, bz⟩, _⟩ := hby _ (List.getElem_mem hnl)
      have hd := degI_at ts n _ hn (List.getElem?_eq_getElem hnl)
      have hc := hs _ (List.getElem_mem hnl)
      generalize ts[n] = t at *
      have hc' : capd (sumT t) = sumT t := by unfold capd; rw [if_pos hc]
      rw [hd, ← hc', hn]
      exact degree_some p d b off cap n _ _ _ w (by omega) hlt bx by1 bz c0 c1 c2

end Go.Proofs.Ytbahejlgfpilnaa
namespace Go.Proofs.Ytbahejlgfpilnaa
open Go.RowKit Go.Sort

/-- A polynomial: its prime, its letters, its terms. -/
abbrev Pm := Int × Int × List Tm
/-- The polynomial k of a list, in memory. -/
def PolyAt (w : World) (b o : Nat) (g : Pm) : Prop :=
  ∃ u, w.cell? ⟨b, o, none⟩ = some (.int .i64 g.1) ∧ w.cell? ⟨b, o + 1, none⟩ = some (.int .i64 g.2.1) ∧ w.cell? ⟨b, o + 2, none⟩ = some u ∧ SliceT w u g.2.2
def PolysW (w : World) (b off : Nat) (G : List Pm) : Prop := ∀ (k : Nat) (h : k < G.length), PolyAt w b (off + k * 3) G[k]
/-- A slice that reads as these polynomials. -/
def SlP (w : World) (v : Value) (G : List Pm) : Prop :=
  ∃ a cap, v = .slice a G.length cap ∧ (G = [] ∨ ∃ b off, a = some ⟨b, off, none⟩ ∧ b < w.heap.size ∧ PolysW w b off G)
theorem PolyAt.below {w w' : World} {b o : Nat} {g : Pm} (h : PolyAt w b o g) (hb : Below w.heap.size w w') (hlt : b < w.heap.size) : PolyAt w' b o g := by
  obtain ⟨u, h0, h1, h2, hS⟩ := h
  exact ⟨u, (hb.cell (p := ⟨b, _, none⟩) hlt).trans h0, (hb.cell (p := ⟨b, _, none⟩) hlt).trans h1, (hb.cell (p := ⟨b, _, none⟩) hlt).trans h2, hS.below hb⟩
theorem PolysW.below {w w' : World} {b off : Nat} {G : List Pm} (h : PolysW w b off G) (hb : Below w.heap.size w w') (hlt : b < w.heap.size) : PolysW w' b off G :=
  fun k hk => (h k hk).below hb hlt
theorem SlP.below {w w' : World} {v : Value} {G : List Pm} (h : SlP w v G) (hb : Below w.heap.size w w') : SlP w' v G := by
  obtain ⟨a, cap, hv, h | ⟨b, off, ha, hlt, hT⟩⟩ := h
  · exact ⟨a, cap, hv, .inl h⟩
  · exact ⟨a, cap, hv, .inr ⟨b, off, ha, Nat.lt_of_lt_of_le hlt hb.size, hT.below hb hlt⟩⟩
theorem SlP.at {w : World} {a : Option Addr} {n cap : Nat} {G : List Pm} (h : SlP w (.slice a n cap) G) (h0 : 0 < G.length) : ∃ b off, a = some ⟨b, off, none⟩ ∧ b < w.heap.size ∧ PolysW w b off G ∧ n = G.length := by
  obtain ⟨a', cap', hv, h | ⟨b, off, ha, hlt, hT⟩⟩ := h
  · rw [h] at h0; simp at h0
  · simp at hv
    obtain ⟨rfl, rfl, rfl⟩ := hv
    exact ⟨b, off, ha, hlt, hT, rfl⟩
/-- Numbers that fit; no list of terms is too long. -/
def PmOk (g : Pm) : Prop := (∀ t ∈ g.2.2, tmByte t) ∧ g.2.2.length ≤ 1048576
/-- A polynomial. -/
def isPm (g : Pm) : Bool := isPolyB g.1 g.2.1 g.2.2
end Go.Proofs.Ytbahejlgfpilnaa
namespace Go.Proofs.Ytbahejlgfpilnaa
open Go.RowKit Go.Sort

theorem first_outP {α : Type} (B : α → Bool) : ∀ (l : List α), l.all B = false → ∃ (j : Nat) (h : j < l.length), B l[j] = false ∧ ∀ (i : Nat) (h : i < l.length), i < j → B l[i] = true
  | [], h => by simp at h
  | a :: r, h => by
    cases ha : B a
    · exact ⟨0, by simp, by simpa using ha, fun i _ hij => by omega⟩
    · have hr : r.all B = false := by
        simp only [List.all_cons, ha, Bool.true_and] at h
        exact h
      obtain ⟨j, hj, hn, hp⟩ := first_outP B r hr
      refine ⟨j + 1, by simp; omega, by simpa using hn, fun i hi hij => ?_⟩
      cases i with
      | zero => simpa using ha
      | succ i => simpa using hp i (by simpa using hi) (by omega)

/-- The first of a list. -/
def hdP (G : List Pm) : Pm := G.headD (0, 0, [])
theorem hdP_at {G : List Pm} (h : 0 < G.length) : hdP G = G[0] := by
  cases G with
  | nil => simp at h
  | cons a r => rfl
/-- Whether a polynomial has the prime p and is like another one. -/
def likeT (p : Int) (g0 g : Pm) : Bool := decide (g.1 = p) && (decide (g.1 = g0.1) && decide (g.2.1 = g0.2.1))

end Go.Proofs.Ytbahejlgfpilnaa
namespace Go.Proofs.Ytbahejlgfpilnaa
open Go.RowKit Go.Sort Go.Maps

def addE (a b : Int × Int × Int) : Int × Int × Int := (a.1 + b.1, a.2.1 + b.2.1, a.2.2 + b.2.2)
/-- The coefficients of a term times a list of terms. -/
def rowS (s : Tm) : List Tm → Int × Int × Int → Int
  | [], _ => 0
  | t :: r, e => (if addE (tmE s) (tmE t) = e then s.2.2.2 * t.2.2.2 else 0) + rowS s r e
def mulS : List Tm → List Tm → Int × Int × Int → Int
  | [], _, _ => 0
  | s :: r, ys, e => rowS s ys e + mulS r ys e
/-- The coefficients of the product. -/
def mulF (p : Int) (xs ys : List Tm) (e : Int × Int × Int) : Int := mulS xs ys e % p
theorem rowS_snoc (s t : Tm) (e : Int × Int × Int) : ∀ l : List Tm, rowS s (l ++ [t]) e = rowS s l e + if addE (tmE s) (tmE t) = e then s.2.2.2 * t.2.2.2 else 0
  | [] => by simp [rowS]
  | u :: r => by rw [List.cons_append, rowS, rowS, rowS_snoc s t e r, Int.add_assoc]
theorem mulS_snoc (s : Tm) (ys : List Tm) (e : Int × Int × Int) : ∀ l : List Tm, mulS (l ++ [s]) ys e = mulS l ys e + rowS s ys e
  | [] => by simp [mulS]
  | u :: r => by rw [List.cons_append, mulS, mulS, mulS_snoc s ys e r, Int.add_assoc]
theorem rowS_take (s : Tm) (ys : List Tm) (k : Nat) (h : k < ys.length) (e : Int × Int × Int) : rowS s (ys.take (k + 1)) e = rowS s (ys.take k) e + if addE (tmE s) (tmE ys[k]) = e then s.2.2.2 * ys[k].2.2.2 else 0 := by
  rw [List.take_succ_eq_append_getElem h, rowS_snoc]
theorem mulS_take (xs ys : List Tm) (k : Nat) (h : k < xs.length) (e : Int × Int × Int) : mulS (xs.take (k + 1)) ys e = mulS (xs.take k) ys e + rowS xs[k] ys e := by
  rw [List.take_succ_eq_append_getElem h, mulS_snoc]
/-- .. when i terms of the first have been taken, and k of the second with the next one. -/
def prt (p : Int) (xs ys : List Tm) (i : Nat) (s : Tm) (k : Nat) (e : Int × Int × Int) : Int := (mulS (xs.take i) ys e + rowS s (ys.take k) e) % p
theorem prt_zero (p : Int) (xs ys : List Tm) (i : Nat) (s : Tm) (e : Int × Int × Int) : prt p xs ys i s 0 e = mulF p (xs.take i) ys e := by
  simp [prt, rowS, mulF]
theorem prt_full (p : Int) (xs ys : List Tm) (i : Nat) (h : i < xs.length) (e : Int × Int × Int) : prt p xs ys i xs[i] ys.length e = mulF p (xs.take (i + 1)) ys e := by
  simp [prt, mulF, mulS_take xs ys i h, List.take_length]
theorem prt_step (p : Int) (xs ys : List Tm) (i : Nat) (s : Tm) (k : Nat) (h : k < ys.length) (e : Int × Int × Int) :
    prt p xs ys i s (k + 1) e = if e = addE (tmE s) (tmE ys[k]) then (s.2.2.2 * ys[k].2.2.2 + prt p xs ys i s k (addE (tmE s) (tmE ys[k]))) % p else prt p xs ys i s k e := by
  unfold prt
  rw [rowS_take s ys k h]
  by_cases hx : e = addE (tmE s) (tmE ys[k])
  · subst hx
    rw [if_pos rfl, if_pos rfl, ← Int.add_assoc, Int.add_comm, Int.add_emod, Int.emod_emod_of_dvd _ (Int.dvd_refl p) |>.symm]
    simp [Int.add_emod]
  · rw [if_neg hx, if_neg (fun hy => hx hy.symm), Int.add_zero]
theorem mulF_nil (p : Int) (ys : List Tm) (e : Int × Int × Int) : mulF p [] ys e = 0 := by simp [mulF, mulS]
theorem rowS_nil (s : Tm) (e : Int × Int × Int) : rowS s [] e = 0 := rfl
theorem mulS_nil (e : Int × Int × Int) : ∀ xs : List Tm, mulS xs [] e = 0
  | [] => rfl
  | s :: r => by rw [mulS, rowS_nil, mulS_nil e r]; rfl
theorem sum_addE (a b : Int × Int × Int) : (addE a b).1 + (addE a b).2.1 + (addE a b).2.2 = (a.1 + a.2.1 + a.2.2) + (b.1 + b.2.1 + b.2.2) := by unfold addE; simp only []; omega
theorem addE_mono {a b : Int × Int × Int} (ha : byte3 a) (hb : byte3 b) (h : (a.1 + a.2.1 + a.2.2) + (b.1 + b.2.1 + b.2.2) ≤ 12) : mono12 (addE a b) := by
  obtain ⟨⟨a1, a2⟩, ⟨a3, a4⟩, a5, a6⟩ := ha
  obtain ⟨⟨b1, b2⟩, ⟨b3, b4⟩, b5, b6⟩ := hb
  refine ⟨⟨⟨?_, ?_⟩, ⟨?_, ?_⟩, ?_, ?_⟩, ?_⟩ <;> simp only [addE] <;> omega

/-- The degrees of the terms allow the product. -/
def Fits (xs ys : List Tm) : Prop := ∀ s ∈ xs, ∀ t ∈ ys, (s.1 + s.2.1 + s.2.2.1) + (t.1 + t.2.1 + t.2.2.1) ≤ 12

theorem mul_ex {p d : Int} {xs ys : List Tm} (hV : Valid p d xs) (hV' : Valid p d ys) (h : Fits xs ys) : ∃ L, IsP p L (mulF p xs ys) := by
  have hp := hV.p2
  have row : ∀ i, (hi : i < xs.length) → (∃ O, IsP p O (mulF p (xs.take i) ys)) → ∀ k, k ≤ ys.length → ∃ O, IsP p O (prt p xs ys i xs[i] k) := fun i hi h0 k => by
    induction k with
    | zero => exact fun _ => h0.imp fun O hO => hO.congr fun e _ => (prt_zero p xs ys i xs[i] e).symm
    | succ k ih =>
      intro hk
      obtain ⟨O, hO⟩ := ih (by omega)
      have hlt : k < ys.length := by omega
      obtain ⟨⟨m1, _⟩, _⟩ := hV.mem xs[i] (List.getElem_mem _)
      obtain ⟨⟨m2, _⟩, _⟩ := hV'.mem ys[k] (List.getElem_mem _)
      exact ⟨_, (hO.put hp (e := addE (tmE xs[i]) (tmE ys[k])) (addE_mono m1 m2 (h _ (List.getElem_mem _) _ (List.getElem_mem _))) (xs[i].2.2.2 * ys[k].2.2.2)).congr fun e _ => (prt_step p xs ys i xs[i] k hlt e).symm⟩
  have key : ∀ i, i ≤ xs.length → ∃ O, IsP p O (mulF p (xs.take i) ys) := fun i => by
    induction i with
    | zero => exact fun _ => ⟨[], (IsP.nil p).congr fun e _ => by simp [mulF_nil]⟩
    | succ i ih =>
      intro hi
      have hlt : i < xs.length := by omega
      exact (row i hlt (ih (by omega)) ys.length (Nat.le_refl _)).imp fun O hO => hO.congr fun e _ => prt_full p xs ys i hlt e
  have := key xs.length (Nat.le_refl _)
  rwa [List.take_length] at this
end Go.Proofs.Ytbahejlgfpilnaa
namespace Go.Proofs.Ytbahejlgfpilnaa
open Go.RowKit Go.Sort Go.Maps

theorem addE_comm (a b : Int × Int × Int) : addE a b = addE b a := by simp [addE, Int.add_comm]
theorem mulS_right (t : Tm) (r : List Tm) (e : Int × Int × Int) : ∀ xs : List Tm, mulS xs (t :: r) e = rowS t xs e + mulS xs r e
  | [] => by simp [mulS, rowS]
  | s :: q => by
    rw [mulS, mulS, mulS_right t r e q, rowS, rowS, addE_comm, Int.mul_comm s.2.2.2]
    omega
/-- Products do not depend on the order. -/
theorem mulS_comm (e : Int × Int × Int) (xs : List Tm) : ∀ ys : List Tm, mulS xs ys e = mulS ys xs e
  | [] => by rw [mulS_nil]; rfl
  | t :: r => by rw [mulS_right, mulS_comm e xs r]; rfl
theorem mulF_comm (p : Int) (xs ys : List Tm) (e : Int × Int × Int) : mulF p xs ys e = mulF p ys xs e := by rw [mulF, mulF, mulS_comm]

def subE (a b : Int × Int × Int) : Int × Int × Int := (a.1 - b.1, a.2.1 - b.2.1, a.2.2 - b.2.2)
theorem addE_sub {a b e : Int × Int × Int} : addE a b = e ↔ a = subE e b := by
  obtain ⟨a1, a2, a3⟩ := a
  obtain ⟨b1, b2, b3⟩ := b
  obtain ⟨e1, e2, e3⟩ := e
  simp [addE, subE]
  omega
/-- The coefficients of a product, told by the coefficients of the first factor. -/
def colS (f : Int × Int × Int → Int) : List Tm → Int × Int × Int → Int
  | [], _ => 0
  | t :: r, e => f (subE e (tmE t)) * t.2.2.2 + colS f r e
theorem colS_add (f g : Int × Int × Int → Int) (e : Int × Int × Int) : ∀ ys : List Tm, colS (fun a => f a + g a) ys e = colS f ys e + colS g ys e
  | [] => by simp [colS]
  | t :: r => by rw [colS, colS, colS, colS_add f g e r, Int.add_mul]; omega
theorem colS_zero (e : Int × Int × Int) : ∀ ys : List Tm, colS (fun _ => 0) ys e = 0
  | [] => rfl
  | t :: r => by rw [colS, colS_zero e r]; simp
theorem colS_congr {f g : Int × Int × Int → Int} (h : ∀ a, f a = g a) (e : Int × Int × Int) : ∀ ys : List Tm, colS f ys e = colS g ys e
  | [] => rfl
  | t :: r => by rw [colS, colS, h, colS_congr h e r]
theorem rowS_col (s : Tm) (e : Int × Int × Int) : ∀ ys : List Tm, rowS s ys e = colS (fun a => if tmE s = a then s.2.2.2 else 0) ys e
  | [] => rfl
  | t :: r => by
    rw [rowS, colS, rowS_col s e r]
    by_cases h : addE (tmE s) (tmE t) = e
    · rw [if_pos h, if_pos (addE_sub.1 h)]
    · rw [if_neg h, if_neg (fun h' => h (addE_sub.2 h'))]; simp
theorem atL_cons {s : Tm} {r : List Tm} (h : Asc (s :: r)) (a : Int × Int × Int) : atL (s :: r) a = (if tmE s = a then s.2.2.2 else 0) + atL r a := by
  rw [atL]
  by_cases hx : tmE s = a
  · subst hx
    rw [if_pos rfl, if_pos rfl, atL_none (ts := r) (fun t ht hx => before_ne ((List.pairwise_cons.1 h).1 t ht) hx.symm)]
    simp
  · rw [if_neg hx, if_neg hx, Int.zero_add]
theorem mulS_col (ys : List Tm) (e : Int × Int × Int) : ∀ {xs : List Tm}, Asc xs → mulS xs ys e = colS (atL xs) ys e
  | [], _ => (colS_zero e ys).symm
  | s :: r, h => by
    rw [mulS, mulS_col ys e (List.pairwise_cons.1 h).2, rowS_col, ← colS_add]
    exact colS_congr (fun a => (atL_cons h a).symm) e ys
theorem colS_mod (p : Int) (f : Int × Int × Int → Int) (e : Int × Int × Int) : ∀ ys : List Tm, colS (fun a => f a % p) ys e % p = colS f ys e % p
  | [] => rfl
  | t :: r => by
    rw [colS, colS, Int.add_emod, colS_mod p f e r, ← Int.add_emod_emod, Int.mul_emod, Int.emod_emod_of_dvd _ (Int.dvd_refl p), ← Int.mul_emod, ← Int.add_emod_emod]
    simp [Int.add_emod]
theorem colS_scale (v : Int) (f : Int × Int × Int → Int) (e : Int × Int × Int) : ∀ ys : List Tm, colS (fun a => v * f a) ys e = v * colS f ys e
  | [] => by simp [colS]
  | t :: r => by rw [colS, colS, colS_scale v f e r, Int.mul_add, Int.mul_assoc]
/-- The coefficient at any exponents, bytes or not. -/
theorem IsP.all {p : Int} {L M : List Tm} {f : Int × Int × Int → Int} {v : Int} (h : IsP p L (fun e => v * atL M e % p)) (hM : IsP p M f) (e : Int × Int × Int) : atL L e = v * atL M e % p := by
  by_cases he : byte3 e
  · exact h.2.2 e he
  · rw [atL_none (ts := L) (fun t ht hx => he (by rw [← hx]; exact (h.2.1 t ht).1.1)), atL_none (ts := M) (fun t ht hx => he (by rw [← hx]; exact (hM.2.1 t ht).1.1))]
    simp
/-- A number goes out of a product. -/
theorem mulF_scale {p : Int} {L M ys : List Tm} {f : Int × Int × Int → Int} {v : Int} (h : IsP p L (fun e => v * atL M e % p)) (hM : IsP p M f) (e : Int × Int × Int) : mulF p L ys e = v * mulF p M ys e % p := by
  rw [mulF, mulF, mulS_col ys e h.1, mulS_col ys e hM.1, colS_congr (fun a => IsP.all h hM a) e ys, colS_mod, colS_scale]
  simp [Int.mul_emod]
end Go.Proofs.Ytbahejlgfpilnaa
namespace Go.Proofs.Ytbahejlgfpilnaa
open Go.RowKit Go.Sort Go.Maps

/-- A map of coefficients in the making, beside the boxes of the argument and the result. -/
structure MapSt (w wr : World) (b n a r : Nat) (p d : Int) (xv : Value) (D : DataW Unit) : Prop where
  map : MapE wr b n D
  arg : wr.rowIs a 42 3 (polyF p d xv)
  res : wr.rowIs r 42 3 (polyF 0 0 (.slice none 0 0))
  below : Below w.heap.size w wr
  b1 : w.heap.size ≤ b
  r1 : w.heap.size ≤ r
theorem row_not_map {w : World} {a b n m : Nat} {t : TypeId} {f : Nat → Value} {D : DataW Unit} (h : w.rowIs a t n f) (h' : MapE w b m D) : a ≠ b := by
  intro e
  subst e
  obtain ⟨c, hc, _⟩ := h
  obtain ⟨es, clock, hb, _⟩ := h'
  rw [hc] at hb
  simp at hb
theorem MapSt.later {w wr w1 : World} {b n a r : Nat} {p d : Int} {xv : Value} {D : DataW Unit} (h : MapSt w wr b n a r p d xv D) (hb : Below wr.heap.size wr w1) : MapSt w w1 b n a r p d xv D :=
  ⟨h.map.kept (row := none) ⟨hb.os, hb.tape, hb.output, hb.size, fun k hk _ => hb.block k hk⟩ (by simp), rowIs_below h.arg hb h.arg.lt, rowIs_below h.res hb h.res.lt, h.below.trans (hb.mono h.below.size), h.b1, h.r1⟩
theorem MapSt.wrote {w wr w1 : World} {b n n' a r : Nat} {p d : Int} {xv : Value} {D D' : DataW Unit} (h : MapSt w wr b n a r p d xv D) (hg : wr.grownBy w1 (some b)) (hm : MapE w1 b n' D') : MapSt w w1 b n' a r p d xv D' :=
  ⟨hm, h.arg.of_block (hg.block a h.arg.lt (by simpa using row_not_map h.arg h.map)), h.res.of_block (hg.block r h.res.lt (by simpa using row_not_map h.res h.map)), h.below.grown hg h.below.size (fun k hk => by simp at hk; have := h.b1; omega), h.b1, h.r1⟩
end Go.Proofs.Ytbahejlgfpilnaa
namespace Go.Proofs.Ytbahejlgfpilnaa
open Go.RowKit Go.Sort Go.Maps

theorem SliceT.beside {w w' : World} {v : Value} {ts : List Tm} {b n : Nat} {D : DataW Unit} (h : SliceT w v ts) (hM : MapE w b n D) (hg : w.grownBy w' (some b)) : SliceT w' v ts := by
  obtain ⟨a, cap, hv, h | ⟨c, off, ha, hlt, hT⟩⟩ := h
  · exact ⟨a, cap, hv, .inl h⟩
  · by_cases hn : ts = []
    · exact ⟨a, cap, hv, .inl hn⟩
    refine SliceT.keep ⟨a, cap, hv, .inr ⟨c, off, ha, hlt, hT⟩⟩ hg fun c' hc' => ?_
    subst hv ha
    simp [Value.ownBlock] at hc'
    subst hc'
    intro e
    simp at e
    subst e
    have h0 := (hT 0 (List.length_pos_iff.2 hn)).1
    obtain ⟨es, clock, hb, _⟩ := hM
    simp [World.cell?, hb] at h0

/-- What the next term adds. -/
theorem plus_step {p k : Int} {ts : List Tm} {f : Int × Int × Int → Int} (h : Asc ts) (j : Nat) (hj : j < ts.length) (e : Int × Int × Int) :
    (f e + k * atL (ts.take (j + 1)) e) % p = if e = tmE ts[j] then (f (tmE ts[j]) + k * ts[j].2.2.2) % p else (f e + k * atL (ts.take j) e) % p := by
  rw [atL_take h j hj]
  by_cases hx : e = tmE ts[j]
  · subst hx
    rw [if_pos rfl, if_pos rfl]
  · rw [if_neg hx, if_neg (fun hy => hx hy.symm)]

theorem gTrans {w w1 w2 : World} {row : Option Nat} (h : w.grownBy w1 row) (h' : w1.grownBy w2 row) : w.grownBy w2 row :=
  ⟨h'.os.trans h.os, h'.tape.trans h.tape, h'.output.trans h.output, Nat.le_trans h.size h'.size, fun k hk hne => (h'.block k (Nat.lt_of_lt_of_le hk h.size) hne).trans (h.block k hk hne)⟩

set_option maxRecDepth 8000 in
set_option maxHeartbeats 8000000 in
theorem addTimes_any (p d k : Int) (v : Value) (ts : List Tm) (w : World) (b n : Nat) (D : DataW Unit) (f : Int × Int × Int → Int) (hl : ts.length ≤ 1048576) (hS : SliceT w v ts) (hV : Valid p d ts) (hM : MapE w b n D) (hn : n ≤ 1000000000)
    (hf : ∀ e, byte3 e → cf D e = f e) (hfb : ∀ e, byte3 e → 0 ≤ f e ∧ f e < p) (hk0 : 0 ≤ k) (hk1 : k < p) :
    Calls Try.prog 157 #[.map (some b), .agg #[.int .i64 p, .int .i64 d, v], .int .i64 k] w fun e w' =>
      ∃ D', e = .returned (.tuple #[]) ∧ MapE w' b (n + ts.length) D' ∧ (∀ e, byte3 e → cf D' e = (f e + k * atL ts e) % p) ∧ w.grownBy w' (some b) := by
  have hp2 := hV.p2
  have hp13 := hV.p13
  obtain ⟨a, cap, rfl, _⟩ := id hS
  obtain ⟨W, hW, hbW, hWs, rx⟩ : ∃ W, W = w.alloc (.cells #[.int .i64 p, .int .i64 d, .slice a ts.length cap] 42) ∧ Below w.heap.size w W ∧ w.heap.size < W.heap.size ∧
      W.rowIs w.heap.size 42 3 (polyF p d (.slice a ts.length cap)) :=
    ⟨_, rfl, box1 _ _, by simp, World.rowIs_alloc w #[Value.int .i64 p, .int .i64 d, .slice a ts.length cap] _ _ (fun i hi => by simp at hi; match i, hi with | 0, _ => rfl | 1, _ => rfl | 2, _ => rfl)⟩
  obtain ⟨⟨c0, c1, c2⟩, _⟩ := poly3 rx
  have hMW : MapE W b n D := hM.kept (row := none) ⟨hbW.os, hbW.tape, hbW.output, hbW.size, fun k hk _ => hbW.block k hk⟩ (by simp)
  have hgW : w.grownBy W (some b) := ⟨hbW.os, hbW.tape, hbW.output, hbW.size, fun k hk _ => hbW.block k hk⟩
  have hSW := hS.beside hM hgW
  go_enter Try.func157, Try.ntmps157
  go_wp2_with fail
  rw [← hW]
  clear hW c0 c1 c2
  go_loopw [11] (fun j wr => ∃ (j' : Nat) (D : DataW Unit), j' ≤ ts.length ∧ j = .int .i64 j' ∧ Hid (∀ e, byte3 e → cf D e = (f e + k * atL (ts.take j') e) % p) ∧ MapE wr b (n + j') D ∧ W.grownBy wr (some b) ∧ wr.rowIs w.heap.size 42 3 (polyF p d (.slice a ts.length cap))) (fun j _ => ts.length - (intOf j).toNat)
  case atStart => exact ⟨0, D, by omega, rfl, Lib.hid (fun e he => by rw [hf e he]; simp [atL]; exact (Int.emod_eq_of_lt (hfb e he).1 (hfb e he).2).symm), hMW, ⟨rfl, rfl, rfl, Nat.le_refl _, fun _ _ _ => rfl⟩, rx⟩
  case round =>
    obtain ⟨j, D1, hj, rfl, HD, hM1, hgr, rx1⟩ := hrel
    have hSr := hSW.beside hMW hgr
    obtain ⟨⟨m0, m1, m2⟩, _⟩ := poly3 rx1
    by_cases hlt1 : j < ts.length
    · have hlt' : (j : Int) < (ts.length : Int) := by omega
      obtain ⟨a', cap', hv', hcase⟩ := hSr
      simp at hv'
      obtain ⟨rfl, rfl⟩ := hv'
      rcases hcase with h0 | ⟨c, off, rfl, hltb, hTr⟩
      · rw [h0] at hlt1; exact absurd hlt1 (by simp)
      obtain ⟨c0, c1, c2, c3⟩ := hTr j hlt1
      obtain ⟨⟨⟨bx, by1, bz⟩, hs12⟩, bv1, bv2⟩ := hV.mem ts[j] (List.getElem_mem _)
      have hd1 := Lib.hid (fun e => plus_step (p := p) (k := k) (f := f) hV.asc j hlt1 e)
      have hfe := hfb (tmE ts[j]) ⟨bx, by1, bz⟩
      have hHe := HD.out (tmE ts[j]) ⟨bx, by1, bz⟩
      rw [atL_take_new hV.asc j hlt1, Int.mul_zero, Int.add_zero, Int.emod_eq_of_lt hfe.1 hfe.2] at hHe
      have HE := Lib.hid hHe
      clear hHe
      simp only [tmE] at bx by1 bz
      generalize hx : ts[j].1 = x at *
      generalize hy : ts[j].2.1 = y at *
      generalize hz : ts[j].2.2.1 = z at *
      generalize hvv : ts[j].2.2.2 = v at *
      have htm : tmE ts[j] = (x, y, z) := by simp [tmE, hx, hy, hz]
      rw [htm] at hfe HE
      generalize hfg : f (x, y, z) = fe at *
      have mo : ∀ o, (wr.alloc o).cell? ⟨w.heap.size, 0, none⟩ = some (.int .i64 p) := fun o => ((box1 wr o).cell rx1.lt).trans m0
      have hE1 : byte3 (x, y, z) := ⟨bx, by1, bz⟩
      have hkey : keyOf Try.prog 107 (.agg #[.int .u8 x, .int .u8 y, .int .u8 z]) = some (kE (x, y, z)) := keyOf_vE (x, y, z) hE1
      have hMm : MapE (wr.alloc (.cells #[.int .u8 x, .int .u8 y, .int .u8 z, .int .i64 v] 151)).drew b (n + j) D1 := (hM1.alloc _).kept (row := none) ⟨rfl, rfl, rfl, Nat.le_refl _, fun _ _ _ => rfl⟩ (by simp)
      obtain ⟨c, hrun, hat, _⟩ := hMm.lookup_int lawK Try.underlying168 Try.underlying2 (zero64 _) hkey
      have hce : c = fe := by rw [← HE.out]; exact (cf_of_at hat).symm
      subst hce
      have g1 : 0 ≤ k * v := Int.mul_nonneg (by omega) (by omega)
      have g2 : k * v ≤ 13 * 13 := Int.mul_le_mul (by omega) (by omega) (by omega) (by omega)
      have hw : IntKind.i64.wrap (k * v) = k * v := IntWalk.i64_in _ (by omega)
      have hw2 : IntKind.i64.wrap (c + k * v) = c + k * v := IntWalk.i64_in _ (by omega)
      have hp0 : ¬ p = 0 := by omega
      have hp1 : (p == 0) = false := by simpa using hp0
      have ht : (c + k * v).tmod p = (c + k * v) % p := Int.tmod_eq_emod_of_nonneg (by omega)
      have q1 : 0 ≤ (c + k * v) % p := Int.emod_nonneg _ (by omega)
      have q2 : (c + k * v) % p < p := Int.emod_lt_of_pos _ (by omega)
      have HD2 : Hid (∀ e, byte3 e → cf (D1.put (kE (x, y, z)) (.lit (.int .i64 ((c + k * v) % p)))) e = (f e + k * atL (ts.take (j + 1)) e) % p) := Lib.hid (fun e he => by
        rw [cf_put hM1.isMap hE1 he, hd1.out e, HD.out e he, htm, hfg])
      clear htm hd1 hV hS hTr hf hfb hat HE HD
      go_wp2_with fail
      refine region_tail 15 (by kernel_rfl) (by kernel_rfl) ?_
      simp only [List.take_succ_cons, List.take_zero, List.drop_succ_cons, List.drop_zero]
      repeat still_step
      refine wpStill_nil ?_
      try simp only [hw, hw2, ht]
      go_wp2_with (at_mapUpdate; refine wpList_mapUpdate_own _ rfl _ _ _ 168 rfl 107 2 lawK Try.underlying168 (plainElem Try.prog 2) b (n + j) D1 rfl hMm (by unfold maxLen; omega) (.agg #[.int .u8 x, .int .u8 y, .int .u8 z]) _ _ rfl rfl hkey _ [] (plainElem_int Try.underlying2 (wf64 q1 (by omega))) ?_; intro w2 hown2 hgrow2)
      have hgrow3 : (wr.alloc (.cells #[.int .u8 x, .int .u8 y, .int .u8 z, .int .i64 v] 151)).grownBy w2 (some b) := ⟨hgrow2.os, hgrow2.tape, hgrow2.output, hgrow2.size, hgrow2.block⟩
      go_roundw
      case rel => exact ⟨j + 1, _, by omega, by go_num, HD2, hown2, gTrans (gTrans hgr (World.grownBy_alloc wr _ (some b))) hgrow3, ((rx1.alloc _).of_block (hgrow3.block _ (Nat.lt_of_lt_of_le rx1.lt (by simp)) (by simpa using row_not_map rx1 hM1)))⟩
      case measure => simp [intOf]; omega
    · obtain rfl : j = ts.length := by omega
      have hD := HD.out
      rw [List.take_length] at hD
      have hgg : w.grownBy wr (some b) := gTrans hgW hgr
      clear hSr HD
      go_wp2_with fail
      go_end0
      exact ⟨_, rfl, hM1, hD, hgg⟩
end Go.Proofs.Ytbahejlgfpilnaa
namespace Go.Proofs.Ytbahejlgfpilnaa
open Go.RowKit Go.Sort

theorem cells4_terms {w : World} {b off : Nat} {ts : List Tm} (hT : Terms w b off ts) : ∀ j u, (cells4 ts)[j]? = some u → w.cell? ((⟨b, off, none⟩ : Addr).add j) = some u := by
  intro j u hu
  have hadd : (⟨b, off, none⟩ : Addr).add j = ⟨b, off + j, none⟩ := by unfold Addr.add; split <;> simp_all
  rw [hadd]
  have key : ∀ (l : List Tm) (o : Nat), Terms w b o l → ∀ j u, (cells4 l)[j]? = some u → w.cell? ⟨b, o + j, none⟩ = some u := fun l => by
    induction l with
    | nil => intro o _ j u h; simp [cells4] at h
    | cons t r ih =>
      intro o h j u hu
      have h0 := h 0 (by simp)
      simp only [Nat.zero_mul, Nat.add_zero, List.getElem_cons_zero] at h0
      have hr : Terms w b (o + 4) r := fun k hk => by
        have := h (k + 1) (by simp; omega)
        simp only [List.getElem_cons_succ] at this
        rwa [show o + (k + 1) * 4 = o + 4 + k * 4 by omega] at this
      match j, hu with
      | 0, hu => simp [cells4, cell4] at hu; subst hu; exact h0.1
      | 1, hu => simp [cells4, cell4] at hu; subst hu; exact h0.2.1
      | 2, hu => simp [cells4, cell4] at hu; subst hu; exact h0.2.2.1
      | 3, hu => simp [cells4, cell4] at hu; subst hu; exact h0.2.2.2
      | j + 4, hu =>
        have hu' : (cells4 r)[j]? = some u := by simpa [cells4, cell4] using hu
        have := ih (o + 4) hr j u hu'
        rwa [show o + 4 + j = o + (j + 4) by omega] at this
  exact key ts off hT j u hu
theorem cells4_one (ts : List Tm) : ∀ u ∈ cells4 ts, u.oneCell' = true := by
  intro u hu
  simp only [cells4, List.mem_flatMap] at hu
  obtain ⟨t, _, h⟩ := hu
  simp [cell4] at h
  rcases h with rfl | rfl | rfl | rfl <;> rfl

/-- All terms of a slice put behind those of a list of the call's own. -/
theorem wpList_append_terms (w : World) {ops : Array Oper} {rest : List Oper} {o : Oper} {a : Act} {Q : Exit → Act → World → Prop} (hgd : o.guard = none) (s x : Operand)
    (ho : o.op = .call { callee := .builtin .append, args := #[s, x], argTypes := #[40, 40] })
    (base : Nat) (v : Value) (n : Nat) (xs : List Value) (hs : a.eval s = v) (hown : w.ownsRow base 151 4 v n xs)
    (v2 : Value) (ts : List Tm) (hx : a.eval x = v2) (hS : SliceT w v2 ts) (h63 : n + ts.length ≤ 8388608) (hbase : base ≤ w.heap.size)
    (h : ∀ v' w', w'.ownsRow base 151 4 v' (n + ts.length) (xs ++ cells4 ts) → w.grownBy w' v.ownBlock → wpList Try.prog ops Q rest (a.put o.dst v') w') : wpList Try.prog ops Q (o :: rest) a w := by
  obtain ⟨i0, hi, hz0, hz1, hz2⟩ := info_parts infoTerm
  obtain ⟨A, cap, rfl, hcase⟩ := hS
  rcases A with _ | ad
  · have hn : ts = [] := by
      rcases hcase with h | ⟨b, off, h, _⟩
      · exact h
      · cases h
    subst hn
    refine wpList_plain hgd fun K hK => ?_
    have hrun : ∀ ty, (Builtin.append_ #[40, 40] ty #[v, .slice none 0 cap]).run Try.prog w = .ok v w := fun ty => by
      rcases hown.2 with ⟨rfl, rfl⟩ | ⟨g, c, cur, rfl, _, _, hnc, _⟩
      · simp [Builtin.append_, run_underlying Try.underlying40, sizeOf, typeInfo, hi, Builtin.lenOf, Builtin.firstCells]
      · simp [Builtin.append_, run_underlying Try.underlying40, sizeOf, typeInfo, hi, Builtin.lenOf, Builtin.firstCells, hnc, storeCells]
    unfold Oper.wp execOp
    simp only [ho, resolve, invoke, builtin, Sem.run_bind, Sem.run_pure, Result.andThen_ok, List.map_toArray, List.map_cons, List.map_nil, hs, hx]
    rw [show (List.length ([] : List Tm)) = 0 from rfl, hrun]
    exact hK _ _ (h v w (by simpa [cells4] using hown) (World.grownBy.refl w _))
  · refine wpList_append_own w hgd s x 40 ho base 151 i0 _ 4 16 Try.underlying40 hi hz0 hz1 hz2 rfl (by decide) v n xs hs hown ad ts.length cap (cells4 ts) hx (cells4_len ts) ?_ (cells4_one ts) (by unfold maxLen; omega) (by omega) hbase fun v' w' h1 h2 _ => h v' w' h1 h2
    intro j u hu
    rcases hcase with rfl | ⟨b, off, hA, hlt, hT⟩
    · simp [cells4] at hu
    · simp at hA
      subst hA
      exact cells4_terms hT j u hu

/-- A polynomial in the making, beside the boxes of two arguments. -/
structure Part2 (w wr : World) (base q a a2 r : Nat) (p d p' d' : Int) (xv yv sv : Value) (O : List Tm) : Prop where
  part : Part w wr base q a r p d xv sv O
  arg2 : wr.rowIs a2 42 3 (polyF p' d' yv)
  qa2 : a2 ≠ q
theorem Part2.later {w wr w1 : World} {base q a a2 r : Nat} {p d p' d' : Int} {xv yv sv : Value} {O : List Tm} (h : Part2 w wr base q a a2 r p d p' d' xv yv sv O) (hb : Below wr.heap.size wr w1) : Part2 w w1 base q a a2 r p d p' d' xv yv sv O :=
  ⟨h.part.later hb, rowIs_below h.arg2 hb h.arg2.lt, h.qa2⟩
theorem Part2.put {w wr w2 : World} {base base2 q a a2 r : Nat} {p d p' d' : Int} {xv yv sv v2 : Value} {O O2 : List Tm} (h : Part2 w wr base q a a2 r p d p' d' xv yv sv O) (hb : Below wr.heap.size wr w2) (ho : OwnP w2 base2 v2 O2) (hb2 : base ≤ base2) :
    Part2 w (((w2.setCell ⟨q, 0, none⟩ (.int .i64 p)).setCell ⟨q, 1, none⟩ (.int .i64 d)).setCell ⟨q, 2, none⟩ v2) base q a a2 r p d p' d' xv yv v2 O2 :=
  ⟨h.part.put hb ho hb2, (((rowIs_below h.arg2 hb h.arg2.lt).setOther (by simpa using fun e => h.qa2 e) _).setOther (by simpa using fun e => h.qa2 e) _).setOther (by simpa using fun e => h.qa2 e) _, h.qa2⟩
theorem Part2.moreL {w wr w2 : World} {base q a a2 r : Nat} {p d p' d' : Int} {xv yv sv sv' : Value} {O ts : List Tm} (h : Part2 w wr base q a a2 r p d p' d' xv yv sv O)
    (hg : wr.grownBy w2 sv.ownBlock) (ho : w2.ownsRow base 151 4 sv' (O.length + ts.length) (cells4 O ++ cells4 ts)) : Part2 w (w2.setCell ⟨q, 2, none⟩ sv') base q a a2 r p d p' d' xv yv sv' (O ++ ts) ∧ w2.rowIs q 42 3 (polyF p d sv) := by
  have h1 := h.part
  have hn1 : 42 ≠ 151 := by decide
  have r1 := rowIs_grown h1.out hg h1.rows hn1
  have r2 := rowIs_grown h1.arg hg h1.rows hn1
  have r3 := rowIs_grown h.arg2 hg h1.rows hn1
  have r4 := rowIs_grown h1.res hg h1.rows hn1
  refine ⟨⟨⟨?_, ?_, r2.setOther (by simpa using fun e => h1.qa e) _, r4.setOther (by simpa using fun e => h1.qr e) _, ?_, h1.b1, ?_, h1.b3, h1.b4, h1.qa, h1.qr⟩, r3.setOther (by simpa using fun e => h.qa2 e) _, h.qa2⟩, r1⟩
  · rw [show cells4 (O ++ ts) = cells4 O ++ cells4 ts by simp [cells4], show (O ++ ts).length = O.length + ts.length by simp]
    exact ho.kept (row := some q) ⟨rfl, rfl, rfl, by rw [World.size_setCell]; exact Nat.le_refl _, fun k hk hne => Below.heap_setCell w2 ⟨q, 2, none⟩ sv' k (fun e => hne (by rw [e]))⟩ (own_ne r1 ho hn1)
  · refine (r1.set 2 sv').congr fun i hi => ?_
    rw [congrFun (polyF_set p d sv sv') i, if_pos hi]
  · have hb1 := h1.b1
    have hb3 := h1.b3
    exact (h1.below.grown hg (Nat.le_trans hb1 h1.b2) (fun k hk => Nat.le_trans hb1 (h1.rows.lt k hk).1)).setCell (by simpa using hb3) _
  · rw [World.size_setCell]; exact Nat.le_trans h1.b2 hg.size
end Go.Proofs.Ytbahejlgfpilnaa
namespace Go.Proofs.Ytbahejlgfpilnaa
open Go.RowKit Go.Sort Go.Maps

theorem before_sum {a b : Int × Int × Int} (h : beforeB a b = true) : a.1 + a.2.1 + a.2.2 ≤ b.1 + b.2.1 + b.2.2 := by
  obtain ⟨x, y, z⟩ := a
  obtain ⟨x', y', z'⟩ := b
  unfold beforeB at h
  simp at h
  split at h
  · simp only []; omega
  · simp only []; omega
/-- The degrees of all terms are at most that of the last one. -/
theorem deg_le {p d : Int} {ts : List Tm} (h : Valid p d ts) : ∀ t ∈ ts, t.1 + t.2.1 + t.2.2.1 ≤ degI ts := by
  intro t ht
  unfold degI
  cases hl : ts.getLast? with
  | none => rw [List.getLast?_eq_none_iff] at hl; subst hl; simp at ht
  | some u =>
    obtain ⟨pre, rfl⟩ := List.getLast?_eq_some_iff.1 hl
    have hp := List.pairwise_append.1 h.asc
    rcases List.mem_append.1 ht with ht | ht
    · exact before_sum (hp.2.2 t ht u (by simp))
    · simp at ht
      subst ht
      exact Int.le_refl _
theorem fits_of {p d : Int} {xs ys : List Tm} (h : Valid p d xs) (h' : Valid p d ys) (hd : xs = [] ∨ ys = [] ∨ degI xs + degI ys ≤ 12) : Fits xs ys := by
  intro s hs t ht
  rcases hd with rfl | rfl | hd
  · simp at hs
  · simp at ht
  · have h1 := deg_le h s hs
    have h2 := deg_le h' t ht
    omega
theorem deg_bound {p d : Int} {ts : List Tm} (h : Valid p d ts) : -1 ≤ degI ts ∧ degI ts ≤ 12 := by
  unfold degI
  cases hl : ts.getLast? with
  | none => simp
  | some u =>
    simp only [sumT]
    obtain ⟨⟨⟨a, b, c⟩, e⟩, _⟩ := h.mem u (List.mem_of_getLast? hl)
    simp only [tmE] at a b c
    omega
theorem Valid.byte {p d : Int} {ts : List Tm} (h : Valid p d ts) : ∀ t ∈ ts, tmByte t := by
  have := h.p13
  exact h.isP.byte this

set_option maxRecDepth 8000 in
set_option maxHeartbeats 8000000 in
theorem specTimes_nil (p d : Int) (v v' : Value) (xs ys : List Tm) (w : World) (hS : SliceT w v xs) (hS' : SliceT w v' ys) (hl : xs.length ≤ 1048576) (hl' : ys.length ≤ 1048576) (h0 : xs = [] ∨ ys = []) :
    Calls Try.prog 88 #[.agg #[.int .i64 p, .int .i64 d, v], .agg #[.int .i64 p, .int .i64 d, v']] w fun e w' =>
      ∃ v', e = .returned (.tuple #[.agg #[.int .i64 p, .int .i64 d, v'], .bool true]) ∧ OwnP w' w.heap.size v' [] ∧ Below w.heap.size w w' := by
  obtain ⟨a, cap, rfl, _⟩ := id hS
  obtain ⟨a', cap', rfl, _⟩ := id hS'
  obtain ⟨W, hW, hbW, ⟨hWs1, hWs2⟩, rx, ry, rr⟩ := pair3 w p d (.slice a xs.length cap) p d (.slice a' ys.length cap')
  obtain ⟨⟨c0, c1, c2⟩, _⟩ := poly3 rx
  go_enter Try.func88, Try.ntmps88
  go_wp2_with fail
  rw [← hW]
  clear hW c0 c1 c2
  ((with_reducible refine (empty_any p d W).mono ?_); rintro e w1 ⟨rfl, hown, hb1⟩)
  obtain ⟨V, hV1, hbV, ⟨hVs1, hVs2⟩, rq⟩ : ∃ V, V = w1.alloc (.cells #[.int .i64 p, .int .i64 d, .slice (some ⟨W.heap.size + 1, 0, none⟩) 0 0] 42) ∧ Below w1.heap.size w1 V ∧ (V.heap.size ≤ w1.heap.size + 1 ∧ w1.heap.size + 1 ≤ V.heap.size) ∧
      V.rowIs w1.heap.size 42 3 (polyF p d (.slice (some ⟨W.heap.size + 1, 0, none⟩) 0 0)) := by
    refine ⟨_, rfl, box1 _ _, ⟨by simp, by simp⟩, ?_⟩
    exact World.rowIs_alloc w1 #[Value.int .i64 p, .int .i64 d, .slice (some ⟨W.heap.size + 1, 0, none⟩) 0 0] _ _ (fun i hi => by simp at hi; match i, hi with | 0, _ => rfl | 1, _ => rfl | 2, _ => rfl)
  have s1 := hb1.size
  have hbWV := hb1.trans (hbV.mono hb1.size)
  have hst : Part2 w V W.heap.size w1.heap.size w.heap.size (w.heap.size + 1) (w.heap.size + 2) p d p d (.slice a xs.length cap) (.slice a' ys.length cap') (.slice (some ⟨W.heap.size + 1, 0, none⟩) 0 0) [] :=
    ⟨⟨owns_belowT hown hbV, rq, rowIs_below rx hbWV rx.lt, rowIs_below rr hbWV rr.lt, hbW.trans (hbWV.mono hbW.size), by omega, by omega, by omega, by omega, by omega, by omega⟩, rowIs_below ry hbWV ry.lt, by omega⟩
  have rx1 := rowIs_below rx hb1 rx.lt
  have ry1 := rowIs_below ry hb1 ry.lt
  have rr1 := rowIs_below rr hb1 rr.lt
  have xo : ∀ o, (w1.alloc o).cell? ⟨w.heap.size, 2, none⟩ = some (.slice a xs.length cap) := fun o => ((box1 w1 o).cell rx1.lt).trans (poly3 rx1).1.2.2
  have yo : ∀ o, (w1.alloc o).cell? ⟨w.heap.size + 1, 2, none⟩ = some (.slice a' ys.length cap') := fun o => ((box1 w1 o).cell ry1.lt).trans (poly3 ry1).1.2.2
  obtain ⟨⟨r0, r1, r2⟩, y0, y1, y2⟩ := poly3 hst.part.res
  obtain ⟨⟨q0, q1, q2⟩, _⟩ := poly3 hst.part.out
  obtain ⟨a0, a1, a2, a3, a4⟩ := hst.part.finish p d
  have A0 := Lib.hid a0
  have A1 := Lib.hid a1
  have A2 := Lib.hid a2
  have A3 := Lib.hid a3
  have A4 := Lib.hid a4
  have ro : ∀ o, ((w1.alloc o).cell? ⟨w.heap.size + 2, 0, none⟩ = some (.int .i64 0) ∧ (w1.alloc o).cell? ⟨w.heap.size + 2, 1, none⟩ = some (.int .i64 0) ∧ (w1.alloc o).cell? ⟨w.heap.size + 2, 2, none⟩ = some (.slice none 0 0)) ∧ (w1.alloc o).frozen? ⟨w.heap.size + 2, 0, none⟩ = false ∧ (w1.alloc o).frozen? ⟨w.heap.size + 2, 1, none⟩ = false ∧ (w1.alloc o).frozen? ⟨w.heap.size + 2, 2, none⟩ = false := fun o => poly3 (rowIs_below rr1 (box1 _ o) rr1.lt)
  clear a0 a1 a2 a3 a4 rx ry rr rq hown hst rx1 ry1 rr1
  by_cases hx : xs = []
  · subst hx
    have hz : (([] : List Tm).length : Int) = 0 := rfl
    go_wp2_with fail
    rw [← hV1]
    exact bodyPost_ret (v := .tuple #[.agg #[.int .i64 p, .int .i64 d, .slice (some ⟨W.heap.size + 1, 0, none⟩) 0 0], .bool true]) (by simp [results, Try.results88, go_sem, A0.out, A1.out, A2.out]) rfl ⟨_, rfl, A3.out, A4.out⟩
  · have hy : ys = [] := by rcases h0 with h | h; exact absurd h hx; exact h
    subst hy
    have hz : ((xs.length : Int) == 0) = false := by simpa using hx
    have hz' : (([] : List Tm).length : Int) = 0 := rfl
    go_wp2_with fail
    rw [← hV1]
    exact bodyPost_ret (v := .tuple #[.agg #[.int .i64 p, .int .i64 d, .slice (some ⟨W.heap.size + 1, 0, none⟩) 0 0], .bool true]) (by simp [results, Try.results88, go_sem, A0.out, A1.out, A2.out]) rfl ⟨_, rfl, A3.out, A4.out⟩
end Go.Proofs.Ytbahejlgfpilnaa
namespace Go.Proofs.Ytbahejlgfpilnaa
open Go.RowKit Go.Sort Go.Maps

def tmF (x y z u : Int) (i : Nat) : Value := #[Value.int .u8 x, .int .u8 y, .int .u8 z, .int .i64 u].getD i undef

theorem trow (w : World) (x y z u : Int) : (w.alloc (.cells #[.int .u8 x, .int .u8 y, .int .u8 z, .int .i64 u] 151)).rowIs w.heap.size 151 4 (tmF x y z u) :=
  World.rowIs_alloc w #[Value.int .u8 x, .int .u8 y, .int .u8 z, .int .i64 u] _ _ (fun i hi => by simp at hi; match i, hi with | 0, _ => rfl | 1, _ => rfl | 2, _ => rfl | 3, _ => rfl)
theorem trow1 (w : World) (o : Obj) (x y z u : Int) : ((w.alloc o).alloc (.cells #[.int .u8 x, .int .u8 y, .int .u8 z, .int .i64 u] 151)).rowIs (w.heap.size + 1) 151 4 (tmF x y z u) := by
  have := trow (w.alloc o) x y z u
  rwa [World.size_alloc] at this

set_option maxRecDepth 8000 in
set_option maxHeartbeats 16000000 in
theorem specTimes_some (p d : Int) (v v' : Value) (xs ys : List Tm) (w : World) (hS : SliceT w v xs) (hS' : SliceT w v' ys) (hV : Valid p d xs) (hV' : Valid p d ys) (hx0 : xs ≠ []) (hy0 : ys ≠ []) (hd : degI xs + degI ys ≤ 12) :
    Calls Try.prog 88 #[.agg #[.int .i64 p, .int .i64 d, v], .agg #[.int .i64 p, .int .i64 d, v']] w fun e w' =>
      ∃ v' L, e = .returned (.tuple #[.agg #[.int .i64 p, .int .i64 d, v'], .bool true]) ∧ OwnP w' w.heap.size v' L ∧ IsP p L (mulF p xs ys) ∧ Below w.heap.size w w' := by
  have hfit : Fits xs ys := fits_of hV hV' (.inr (.inr hd))
  have hp2 := hV.p2
  have hp13 := hV.p13
  have hlx := hV.isP.len
  have hly := hV'.isP.len
  have hbx := hV.byte
  have hby := hV'.byte
  obtain ⟨dx1, dx2⟩ := deg_bound hV
  obtain ⟨dy1, dy2⟩ := deg_bound hV'
  obtain ⟨a, cap, rfl, _⟩ := id hS
  obtain ⟨a', cap', rfl, _⟩ := id hS'
  obtain ⟨W, hW, hbW, ⟨hWs1, hWs2⟩, rx, ry, rr⟩ := pair3 w p d (.slice a xs.length cap) p d (.slice a' ys.length cap')
  obtain ⟨⟨c0, c1, c2⟩, _⟩ := poly3 rx
  go_enter Try.func88, Try.ntmps88
  go_wp2_with fail
  rw [← hW]
  clear hW c0 c1 c2
  ((with_reducible refine (empty_any p d W).mono ?_); rintro e w1 ⟨rfl, hown, hb1⟩)
  obtain ⟨V, hV1, hbV, ⟨hVs1, hVs2⟩, rq⟩ : ∃ V, V = w1.alloc (.cells #[.int .i64 p, .int .i64 d, .slice (some ⟨W.heap.size + 1, 0, none⟩) 0 0] 42) ∧ Below w1.heap.size w1 V ∧ (V.heap.size ≤ w1.heap.size + 1 ∧ w1.heap.size + 1 ≤ V.heap.size) ∧
      V.rowIs w1.heap.size 42 3 (polyF p d (.slice (some ⟨W.heap.size + 1, 0, none⟩) 0 0)) := by
    refine ⟨_, rfl, box1 _ _, ⟨by simp, by simp⟩, ?_⟩
    exact World.rowIs_alloc w1 #[Value.int .i64 p, .int .i64 d, .slice (some ⟨W.heap.size + 1, 0, none⟩) 0 0] _ _ (fun i hi => by simp at hi; match i, hi with | 0, _ => rfl | 1, _ => rfl | 2, _ => rfl)
  have s1 := hb1.size
  have hbWV := hb1.trans (hbV.mono hb1.size)
  have hst : Part2 w V W.heap.size w1.heap.size w.heap.size (w.heap.size + 1) (w.heap.size + 2) p d p d (.slice a xs.length cap) (.slice a' ys.length cap') (.slice (some ⟨W.heap.size + 1, 0, none⟩) 0 0) [] :=
    ⟨⟨owns_belowT hown hbV, rq, rowIs_below rx hbWV rx.lt, rowIs_below rr hbWV rr.lt, hbW.trans (hbWV.mono hbW.size), by omega, by omega, by omega, by omega, by omega, by omega⟩, rowIs_below ry hbWV ry.lt, by omega⟩
  have rx1 := rowIs_below rx hb1 rx.lt
  have ry1 := rowIs_below ry hb1 ry.lt
  have xo : ∀ o, (w1.alloc o).cell? ⟨w.heap.size, 2, none⟩ = some (.slice a xs.length cap) := fun o => ((box1 w1 o).cell rx1.lt).trans (poly3 rx1).1.2.2
  have yo : ∀ o, (w1.alloc o).cell? ⟨w.heap.size + 1, 2, none⟩ = some (.slice a' ys.length cap') := fun o => ((box1 w1 o).cell ry1.lt).trans (poly3 ry1).1.2.2
  have hz : ((xs.length : Int) == 0) = false := by simpa using hx0
  have hz' : ((ys.length : Int) == 0) = false := by simpa using hy0
  have hSV := hS.below hst.part.below
  have hSV' := hS'.below hst.part.below
  obtain ⟨⟨c0, c1, c2⟩, _⟩ := poly3 hst.part.arg
  obtain ⟨⟨d0, d1, d2⟩, _⟩ := poly3 hst.arg2
  have u0 := cell_regrown c0
  have u1 := cell_regrown c1
  have u2 := cell_regrown c2
  have t0 := cell_regrown d0
  have t1 := cell_regrown d1
  have t2 := cell_regrown d2
  have hw : IntKind.i64.wrap (degI xs + degI ys) = degI xs + degI ys := IntWalk.i64_in _ (by omega)
  have kx : ∀ dd os, Calls Try.prog 75 #[.agg #[.int .i64 p, .int .i64 d, .slice a xs.length cap]] (grow (redrawn V dd) os) fun e w'' => e = .returned (.int .i64 (degI xs)) ∧ ∃ p : Regrown, w'' = grow (redrawn V p.d) p.os := fun dd os =>
    Calls.regrown_of (specDegree_any p d _ xs _ (by omega) (hSV.below (below_regrown V dd os)) hbx)
  have ky : ∀ dd os, Calls Try.prog 75 #[.agg #[.int .i64 p, .int .i64 d, .slice a' ys.length cap']] (grow (redrawn V dd) os) fun e w'' => e = .returned (.int .i64 (degI ys)) ∧ ∃ p : Regrown, w'' = grow (redrawn V p.d) p.os := fun dd os =>
    Calls.regrown_of (specDegree_any p d _ ys _ (by omega) (hSV'.below (below_regrown V dd os)) hby)
  generalize degI xs = gx at *
  generalize degI ys = gy at *
  have hle : ¬ 12 < gx + gy := by omega
  have hle2 : decide (12 < gx + gy) = false := by simpa using hle
  clear rx ry rr rq hown rx1 ry1 hbx hby hSV hSV'
  go_wp2_with fail
  rw [← hV1]
  clear hV1 xo yo
  refine wp_region_quiet_below (by kernel_rfl) (by kernel_rfl) ?_
  repeat (go_big_quiet_step (first | with_reducible exact kx _ _ | with_reducible exact ky _ _))
  refine wpQuiet_nil ?_
  intro _ hw'
  obtain ⟨⟨dq, osq⟩, hw''⟩ := hw'
  subst hw''
  have hst2 := hst.later (below_regrown V dq osq)
  clear hst kx ky u0 u1 u2 t0 t1 t2 c0 c1 c2 d0 d1 d2
  generalize grow (redrawn V dq) osq = V2 at *
  try simp only [hw]
  go_wp2_with fail
  go_loopw [7] (fun j wr => ∃ (i : Nat) (sv : Value) (O : List Tm), i ≤ xs.length ∧ j = .int .i64 i ∧ Hid (IsP p O (mulF p (xs.take i) ys)) ∧ Part2 w wr W.heap.size w1.heap.size w.heap.size (w.heap.size + 1) (w.heap.size + 2) p d p d (.slice a xs.length cap) (.slice a' ys.length cap') sv O) (fun j _ => xs.length - (intOf j).toNat)
  case atStart => exact ⟨0, _, [], by omega, rfl, Lib.hid ((IsP.nil p).congr fun e _ => by simp [mulF_nil]), hst2⟩
  case round =>
    clear hst2
    obtain ⟨i, sv, O, hi, rfl, HO, hB⟩ := hrel
    obtain ⟨wo, rfl⟩ : ∃ wo : World, wo = wr := ⟨_, rfl⟩
    obtain ⟨⟨x0, x1, x2⟩, _⟩ := poly3 hB.part.arg
    by_cases hlt1 : i < xs.length
    · have hlt' : (i : Int) < (xs.length : Int) := by omega
      go_wp2_with fail
      go_loopw [8] (fun j wr => ∃ (k : Nat) (sv : Value) (O : List Tm), k ≤ ys.length ∧ j = .int .i64 k ∧ Hid (IsP p O (prt p xs ys i xs[i] k)) ∧ Part2 w wr W.heap.size w1.heap.size w.heap.size (w.heap.size + 1) (w.heap.size + 2) p d p d (.slice a xs.length cap) (.slice a' ys.length cap') sv O) (fun j _ => ys.length - (intOf j).toNat)
      case atStart => exact ⟨0, _, _, by omega, rfl, Lib.hid (HO.out.congr fun e _ => (prt_zero p xs ys i xs[i] e).symm), hB⟩
      case round =>
        clear hB HO x0 x1 x2
        obtain ⟨k, sv, O, hk, rfl, HO, hB⟩ := hrel
        have hSr := hS.below hB.part.below
        have hSr' := hS'.below hB.part.below
        obtain ⟨sa, sc, rfl⟩ := owns_slice hB.part.rows
        obtain ⟨⟨x0, x1, x2⟩, _⟩ := poly3 hB.part.arg
        obtain ⟨⟨y0, y1, y2⟩, _⟩ := poly3 hB.arg2
        obtain ⟨⟨q0, q1, q2⟩, z0, z1, z2⟩ := poly3 hB.part.out
        by_cases hlt2 : k < ys.length
        · have hlt2' : (k : Int) < (ys.length : Int) := by omega
          obtain ⟨A1, cap1, hv1, hcase1⟩ := hSr
          simp at hv1
          obtain ⟨rfl, rfl⟩ := hv1
          rcases hcase1 with h0 | ⟨b1, off1, rfl, hltb1, hTx⟩
          · rw [h0] at hlt1; exact absurd hlt1 (by simp)
          obtain ⟨A2, cap2, hv2, hcase2⟩ := hSr'
          simp at hv2
          obtain ⟨rfl, rfl⟩ := hv2
          rcases hcase2 with h0 | ⟨b2, off2, rfl, hltb2, hTy⟩
          · rw [h0] at hlt2; exact absurd hlt2 (by simp)
          obtain ⟨c0, c1, c2, c3⟩ := hTx i hlt1
          obtain ⟨d0, d1, d2, d3⟩ := hTy k hlt2
          obtain ⟨⟨⟨bx, by1, bz⟩, hs12⟩, bv1, bv2⟩ := hV.mem xs[i] (List.getElem_mem _)
          obtain ⟨⟨⟨bx', by1', bz'⟩, hs12'⟩, bv1', bv2'⟩ := hV'.mem ys[k] (List.getElem_mem _)
          have hft := hfit xs[i] (List.getElem_mem _) ys[k] (List.getElem_mem _)
          have hE : mono12 (addE (tmE xs[i]) (tmE ys[k])) := addE_mono ⟨bx, by1, bz⟩ ⟨bx', by1', bz'⟩ hft
          have HP : Hid (IsP p (putL p O (addE (tmE xs[i]) (tmE ys[k])) (xs[i].2.2.2 * ys[k].2.2.2)) (prt p xs ys i xs[i] (k + 1))) := Lib.hid ((HO.out.put hp2 hE (xs[i].2.2.2 * ys[k].2.2.2)).congr fun e _ => (prt_step p xs ys i xs[i] k hlt2 e).symm)
          have HO' := Lib.hid HO.out
          clear HO
          generalize hF : prt p xs ys i xs[i] k = F at HO'
          generalize hF' : prt p xs ys i xs[i] (k + 1) = F' at HP ⊢
          simp only [tmE] at bx by1 bz bx' by1' bz'
          simp only [addE, tmE] at HP hE
          clear hF
          generalize hx : xs[i].1 = x at bx by1 bz c0 hft HP hE
          generalize hy : xs[i].2.1 = y at bx by1 bz c1 hft HP hE
          generalize hz2 : xs[i].2.2.1 = z at bx by1 bz c2 hft HP hE
          generalize hv : xs[i].2.2.2 = u at bv1 bv2 c3 HP
          generalize hx' : ys[k].1 = x' at bx' by1' bz' d0 hft HP hE
          generalize hy' : ys[k].2.1 = y' at bx' by1' bz' d1 hft HP hE
          generalize hz' : ys[k].2.2.1 = z' at bx' by1' bz' d2 hft HP hE
          generalize hv' : ys[k].2.2.2 = u' at bv1' bv2' d3 HP
          have hE1 : byte3 (x + x', y + y', z + z') := (show mono12 (x + x', y + y', z + z') from hE).1
          clear hE hx hy hz2 hv hx' hy' hz' hv' hTx hTy hs12 hs12'
          have g1 : 0 ≤ u * u' := Int.mul_nonneg (by omega) (by omega)
          have g2 : u * u' ≤ 13 * 13 := Int.mul_le_mul (by omega) (by omega) (by omega) (by omega)
          have w0 : IntKind.i64.wrap (u * u') = u * u' := IntWalk.i64_in _ (by omega)
          have w1' : IntKind.u8.wrap (x + x') = x + x' := IntWalk.u8_in _ (by omega)
          have w2' : IntKind.u8.wrap (y + y') = y + y' := IntWalk.u8_in _ (by omega)
          have w3' : IntKind.u8.wrap (z + z') = z + z' := IntWalk.u8_in _ (by omega)
          have hla := hB.part.arg.lt
          have hla' := hB.arg2.lt
          have KK := Lib.hid (fun w' (h : Below wr.heap.size wr w') => show ((w'.cell? ⟨w.heap.size, 2, none⟩ = some (.slice (some ⟨b1, off1, none⟩) xs.length cap) ∧ w'.cell? ⟨w.heap.size + 1, 2, none⟩ = some (.slice (some ⟨b2, off2, none⟩) ys.length cap')) ∧ (w'.cell? ⟨b1, off1 + i * 4, none⟩ = some (.int .u8 x) ∧ w'.cell? ⟨b1, off1 + i * 4 + 1, none⟩ = some (.int .u8 y) ∧ w'.cell? ⟨b1, off1 + i * 4 + 2, none⟩ = some (.int .u8 z) ∧ w'.cell? ⟨b1, off1 + i * 4 + 3, none⟩ = some (.int .i64 u)) ∧ (w'.cell? ⟨b2, off2 + k * 4, none⟩ = some (.int .u8 x') ∧ w'.cell? ⟨b2, off2 + k * 4 + 1, none⟩ = some (.int .u8 y') ∧ w'.cell? ⟨b2, off2 + k * 4 + 2, none⟩ = some (.int .u8 z') ∧ w'.cell? ⟨b2, off2 + k * 4 + 3, none⟩ = some (.int .i64 u'))) from
            ⟨⟨(h.cell (p := ⟨_, _, none⟩) hla).trans x2, (h.cell (p := ⟨_, _, none⟩) hla').trans y2⟩,
              ⟨(h.cell (p := ⟨_, _, none⟩) hltb1).trans c0, (h.cell (p := ⟨_, _, none⟩) hltb1).trans c1, (h.cell (p := ⟨_, _, none⟩) hltb1).trans c2, (h.cell (p := ⟨_, _, none⟩) hltb1).trans c3⟩,
              ⟨(h.cell (p := ⟨_, _, none⟩) hltb2).trans d0, (h.cell (p := ⟨_, _, none⟩) hltb2).trans d1, (h.cell (p := ⟨_, _, none⟩) hltb2).trans d2, (h.cell (p := ⟨_, _, none⟩) hltb2).trans d3⟩⟩)
          go_upto_region 12 with fail
          go_cut [9, 10] (fun s9 s10 wx => ∃ ba bb, s9 = .pointer (some ⟨ba, 0, none⟩) ∧ s10 = .pointer (some ⟨bb, 0, none⟩) ∧ wx.rowIs ba 151 4 (tmF x y z u) ∧ wx.rowIs bb 151 4 (tmF x' y' z' u') ∧ Below wr.heap.size wr wx)
          case first =>
            go_region_held3 (fun w' => ((w'.cell? ⟨w.heap.size, 2, none⟩ = some (.slice (some ⟨b1, off1, none⟩) xs.length cap) ∧ w'.cell? ⟨w.heap.size + 1, 2, none⟩ = some (.slice (some ⟨b2, off2, none⟩) ys.length cap')) ∧ (w'.cell? ⟨b1, off1 + i * 4, none⟩ = some (.int .u8 x) ∧ w'.cell? ⟨b1, off1 + i * 4 + 1, none⟩ = some (.int .u8 y) ∧ w'.cell? ⟨b1, off1 + i * 4 + 2, none⟩ = some (.int .u8 z) ∧ w'.cell? ⟨b1, off1 + i * 4 + 3, none⟩ = some (.int .i64 u)) ∧ (w'.cell? ⟨b2, off2 + k * 4, none⟩ = some (.int .u8 x') ∧ w'.cell? ⟨b2, off2 + k * 4 + 1, none⟩ = some (.int .u8 y') ∧ w'.cell? ⟨b2, off2 + k * 4 + 2, none⟩ = some (.int .u8 z') ∧ w'.cell? ⟨b2, off2 + k * 4 + 3, none⟩ = some (.int .i64 u'))))
              (first | with_reducible exact KK.out _ (Below.same _).drew | with_reducible exact KK.out _ (box1 _ _) | with_reducible exact KK.out _ (box1 _ _).drew | with_reducible exact KK.out _ (box2 _ _ _) | with_reducible exact KK.out _ (box2 _ _ _).drew)
              (fail)
            all_goals
              go_wp2_with fail
              go_meet
              first
                | exact ⟨wr.heap.size, wr.heap.size + 1, rfl, rfl, (trow wr x y z u).alloc _, trow1 wr _ x' y' z' u', (box2 _ _ _).drew⟩
                | exact ⟨wr.heap.size + 1, wr.heap.size, rfl, rfl, trow1 wr _ x y z u, (trow wr x' y' z' u').alloc _, (box2 _ _ _).drew⟩
          case rest =>
            obtain ⟨ba, bb, rfl, rfl, ra, rb, hbx⟩ := hcut
            have hBU := hB.later hbx
            obtain ⟨⟨q0, q1, q2⟩, _⟩ := poly3 hBU.part.out
            have m0 := ra.cell (i := 0) (by omega)
            have m1 := ra.cell (i := 1) (by omega)
            have m2 := ra.cell (i := 2) (by omega)
            have m3 := ra.cell (i := 3) (by omega)
            have n0 := rb.cell (i := 0) (by omega)
            have n1 := rb.cell (i := 1) (by omega)
            have n2 := rb.cell (i := 2) (by omega)
            have n3 := rb.cell (i := 3) (by omega)
            simp [tmF] at m0 m1 m2 m3 n0 n1 n2 n3
            go_wp2_with fail
            ((with_reducible refine (specPut p d _ O F _ _ _ _ _ (OwnP.slice hBU.part.rows) HO'.out hp2 hp13 hE1 g1 (by omega)).mono ?_); rintro e w2 ⟨v2, rfl, ho2, hb2⟩)
            obtain ⟨sa2, sc2, rfl⟩ := owns_slice ho2
            have hU2 := hBU.later hb2
            have hB3 := hBU.put hb2 ho2 hBU.part.b2
            obtain ⟨⟨j0, j1, j2⟩, jz0, jz1, jz2⟩ := poly3 hU2.part.out
            clear ho2 hBU hB HO' KK q0 q1 q2 z0 z1 z2 c0 c1 c2 c3 d0 d1 d2 d3 x0 x1 x2 y0 y1 y2 m0 m1 m2 m3 n0 n1 n2 n3 ra rb
            go_wp2_with fail
            go_roundw
            case rel => exact ⟨k + 1, _, _, by omega, by go_num, by rw [hF']; exact HP, hB3⟩
            case measure => simp [intOf]; omega
        · obtain rfl : k = ys.length := by omega
          have HO2 : Hid (IsP p O (mulF p (xs.take (i + 1)) ys)) := Lib.hid (HO.out.congr fun e _ => prt_full p xs ys i hlt1 e)
          clear hSr hSr' HO
          go_wp2_with fail
          go_roundw
          case rel => exact ⟨i + 1, _, _, by omega, by go_num, HO2, hB⟩
          case measure => simp [intOf]; omega
    · obtain rfl : i = xs.length := by omega
      obtain ⟨sa, sc, rfl⟩ := owns_slice hB.part.rows
      obtain ⟨⟨r0, r1, r2⟩, y0, y1, y2⟩ := poly3 hB.part.res
      obtain ⟨⟨q0, q1, q2⟩, _⟩ := poly3 hB.part.out
      have hD := HO.out
      rw [List.take_length] at hD
      have HD := Lib.hid hD
      obtain ⟨a0, a1, a2, a3, a4⟩ := hB.part.finish p d
      have A0 := Lib.hid a0
      have A1 := Lib.hid a1
      have A2 := Lib.hid a2
      have A3 := Lib.hid a3
      have A4 := Lib.hid a4
      clear HO hD a0 a1 a2 a3 a4 hB
      go_wp2_with fail
      exact bodyPost_ret (v := .tuple #[.agg #[.int .i64 p, .int .i64 d, .slice sa O.length sc], .bool true]) (by simp [results, Try.results88, go_sem, A0.out, A1.out, A2.out]) rfl ⟨_, O, rfl, A3.out, HD.out, A4.out⟩
end Go.Proofs.Ytbahejlgfpilnaa
namespace Go.Proofs.Ytbahejlgfpilnaa
open Go.RowKit Go.Sort Go.Maps

set_option maxRecDepth 8000 in
set_option maxHeartbeats 16000000 in
theorem specTimes_big (p d : Int) (v v' : Value) (xs ys : List Tm) (w : World) (hS : SliceT w v xs) (hS' : SliceT w v' ys) (hV : Valid p d xs) (hV' : Valid p d ys) (hx0 : xs ≠ []) (hy0 : ys ≠ []) (hd : 12 < degI xs + degI ys) :
    Calls Try.prog 88 #[.agg #[.int .i64 p, .int .i64 d, v], .agg #[.int .i64 p, .int .i64 d, v']] w fun e w' =>
      ∃ v', e = .returned (.tuple #[.agg #[.int .i64 p, .int .i64 d, v'], .bool false]) ∧ OwnP w' w.heap.size v' [] ∧ Below w.heap.size w w' := by
  have hlx := hV.isP.len
  have hly := hV'.isP.len
  have hbx := hV.byte
  have hby := hV'.byte
  obtain ⟨dx1, dx2⟩ := deg_bound hV
  obtain ⟨dy1, dy2⟩ := deg_bound hV'
  obtain ⟨a, cap, rfl, _⟩ := id hS
  obtain ⟨a', cap', rfl, _⟩ := id hS'
  obtain ⟨W, hW, hbW, ⟨hWs1, hWs2⟩, rx, ry, rr⟩ := pair3 w p d (.slice a xs.length cap) p d (.slice a' ys.length cap')
  obtain ⟨⟨c0, c1, c2⟩, _⟩ := poly3 rx
  go_enter Try.func88, Try.ntmps88
  go_wp2_with fail
  rw [← hW]
  clear hW c0 c1 c2
  ((with_reducible refine (empty_any p d W).mono ?_); rintro e w1 ⟨rfl, hown, hb1⟩)
  obtain ⟨V, hV1, hbV, ⟨hVs1, hVs2⟩, rq⟩ : ∃ V, V = w1.alloc (.cells #[.int .i64 p, .int .i64 d, .slice (some ⟨W.heap.size + 1, 0, none⟩) 0 0] 42) ∧ Below w1.heap.size w1 V ∧ (V.heap.size ≤ w1.heap.size + 1 ∧ w1.heap.size + 1 ≤ V.heap.size) ∧
      V.rowIs w1.heap.size 42 3 (polyF p d (.slice (some ⟨W.heap.size + 1, 0, none⟩) 0 0)) := by
    refine ⟨_, rfl, box1 _ _, ⟨by simp, by simp⟩, ?_⟩
    exact World.rowIs_alloc w1 #[Value.int .i64 p, .int .i64 d, .slice (some ⟨W.heap.size + 1, 0, none⟩) 0 0] _ _ (fun i hi => by simp at hi; match i, hi with | 0, _ => rfl | 1, _ => rfl | 2, _ => rfl)
  have s1 := hb1.size
  have hbWV := hb1.trans (hbV.mono hb1.size)
  have hst : Part2 w V W.heap.size w1.heap.size w.heap.size (w.heap.size + 1) (w.heap.size + 2) p d p d (.slice a xs.length cap) (.slice a' ys.length cap') (.slice (some ⟨W.heap.size + 1, 0, none⟩) 0 0) [] :=
    ⟨⟨owns_belowT hown hbV, rq, rowIs_below rx hbWV rx.lt, rowIs_below rr hbWV rr.lt, hbW.trans (hbWV.mono hbW.size), by omega, by omega, by omega, by omega, by omega, by omega⟩, rowIs_below ry hbWV ry.lt, by omega⟩
  have rx1 := rowIs_below rx hb1 rx.lt
  have ry1 := rowIs_below ry hb1 ry.lt
  have xo : ∀ o, (w1.alloc o).cell? ⟨w.heap.size, 2, none⟩ = some (.slice a xs.length cap) := fun o => ((box1 w1 o).cell rx1.lt).trans (poly3 rx1).1.2.2
  have yo : ∀ o, (w1.alloc o).cell? ⟨w.heap.size + 1, 2, none⟩ = some (.slice a' ys.length cap') := fun o => ((box1 w1 o).cell ry1.lt).trans (poly3 ry1).1.2.2
  have hz : ((xs.length : Int) == 0) = false := by simpa using hx0
  have hz' : ((ys.length : Int) == 0) = false := by simpa using hy0
  have hSV := hS.below hst.part.below
  have hSV' := hS'.below hst.part.below
  obtain ⟨⟨c0, c1, c2⟩, _⟩ := poly3 hst.part.arg
  obtain ⟨⟨d0, d1, d2⟩, _⟩ := poly3 hst.arg2
  have u0 := cell_regrown c0
  have u1 := cell_regrown c1
  have u2 := cell_regrown c2
  have t0 := cell_regrown d0
  have t1 := cell_regrown d1
  have t2 := cell_regrown d2
  have hw : IntKind.i64.wrap (degI xs + degI ys) = degI xs + degI ys := IntWalk.i64_in _ (by omega)
  have kx : ∀ dd os, Calls Try.prog 75 #[.agg #[.int .i64 p, .int .i64 d, .slice a xs.length cap]] (grow (redrawn V dd) os) fun e w'' => e = .returned (.int .i64 (degI xs)) ∧ ∃ p : Regrown, w'' = grow (redrawn V p.d) p.os := fun dd os =>
    Calls.regrown_of (specDegree_any p d _ xs _ (by omega) (hSV.below (below_regrown V dd os)) hbx)
  have ky : ∀ dd os, Calls Try.prog 75 #[.agg #[.int .i64 p, .int .i64 d, .slice a' ys.length cap']] (grow (redrawn V dd) os) fun e w'' => e = .returned (.int .i64 (degI ys)) ∧ ∃ p : Regrown, w'' = grow (redrawn V p.d) p.os := fun dd os =>
    Calls.regrown_of (specDegree_any p d _ ys _ (by omega) (hSV'.below (below_regrown V dd os)) hby)
  generalize degI xs = gx at *
  generalize degI ys = gy at *
  have hle2 : decide (12 < gx + gy) = true := by simpa using hd
  clear rx ry rr rq hown rx1 ry1 hbx hby hSV hSV'
  go_wp2_with fail
  rw [← hV1]
  clear hV1 xo yo
  refine wp_region_quiet_below (by kernel_rfl) (by kernel_rfl) ?_
  repeat (go_big_quiet_step (first | with_reducible exact kx _ _ | with_reducible exact ky _ _))
  refine wpQuiet_nil ?_
  intro _ hw'
  obtain ⟨⟨dq, osq⟩, hw''⟩ := hw'
  subst hw''
  have hst2 := hst.later (below_regrown V dq osq)
  clear hst kx ky u0 u1 u2 t0 t1 t2 c0 c1 c2 d0 d1 d2
  generalize grow (redrawn V dq) osq = V2 at *
  try simp only [hw]
  obtain ⟨⟨q0, q1, q2⟩, _⟩ := poly3 hst2.part.out
  obtain ⟨⟨r0, r1, r2⟩, y0, y1, y2⟩ := poly3 hst2.part.res
  obtain ⟨a0, a1, a2, a3, a4⟩ := hst2.part.finish p d
  have A0 := Lib.hid a0
  have A1 := Lib.hid a1
  have A2 := Lib.hid a2
  have A3 := Lib.hid a3
  have A4 := Lib.hid a4
  clear a0 a1 a2 a3 a4 hst2
  go_wp2_with fail
  exact bodyPost_ret (v := .tuple #[.agg #[.int .i64 p, .int .i64 d, .slice (some ⟨W.heap.size + 1, 0, none⟩) 0 0], .bool false]) (by simp [results, Try.results88, go_sem, A0.out, A1.out, A2.out]) rfl ⟨_, rfl, A3.out, A4.out⟩

theorem specTimes_any (p d : Int) (v v' : Value) (xs ys : List Tm) (w : World) (hS : SliceT w v xs) (hS' : SliceT w v' ys) (hV : Valid p d xs) (hV' : Valid p d ys) (hd : xs = [] ∨ ys = [] ∨ degI xs + degI ys ≤ 12) :
    Calls Try.prog 88 #[.agg #[.int .i64 p, .int .i64 d, v], .agg #[.int .i64 p, .int .i64 d, v']] w fun e w' =>
      ∃ v' L, e = .returned (.tuple #[.agg #[.int .i64 p, .int .i64 d, v'], .bool true]) ∧ OwnP w' w.heap.size v' L ∧ IsP p L (mulF p xs ys) ∧ Below w.heap.size w w' := by
  have hlx := hV.isP.len
  have hly := hV'.isP.len
  by_cases hx : xs = []
  · refine (specTimes_nil p d v v' xs ys w hS hS' (by omega) (by omega) (.inl hx)).mono fun e w' ⟨v2, h1, h2, h3⟩ => ⟨v2, [], h1, h2, (IsP.nil p).congr fun e _ => ?_, h3⟩
    rw [hx, mulF_nil]
  by_cases hy : ys = []
  · refine (specTimes_nil p d v v' xs ys w hS hS' (by omega) (by omega) (.inr hy)).mono fun e w' ⟨v2, h1, h2, h3⟩ => ⟨v2, [], h1, h2, (IsP.nil p).congr fun e _ => ?_, h3⟩
    rw [hy, mulF, mulS_nil]
    simp
  · exact specTimes_some p d v v' xs ys w hS hS' hV hV' hx hy (by rcases hd with h | h | h; exact absurd h hx; exact absurd h hy; exact h)
end Go.Proofs.Ytbahejlgfpilnaa
namespace Go.Proofs.Ytbahejlgfpilnaa
open Go.RowKit Go.Sort Go.Maps

theorem IsP.one {p : Int} (hp : 2 ≤ p) {e : Int × Int × Int} (he : mono12 e) (v : Int) : IsP p (putL p [] e v) (fun a => if a = e then v % p else 0) :=
  ((IsP.nil p).put hp he v).congr fun a _ => by simp

set_option maxRecDepth 8000 in
set_option maxHeartbeats 4000000 in
theorem one_any (p d x y z val : Int) (w : World) (h2 : 2 ≤ p) (h13 : p ≤ 13) (he : byte3 (x, y, z)) (v0 : 0 ≤ val) (v1 : val ≤ 100000000) :
    Calls Try.prog 85 #[.int .i64 p, .int .i64 d, .agg #[.int .u8 x, .int .u8 y, .int .u8 z], .int .i64 val] w fun e w' =>
      ∃ v', e = .returned (.agg #[.int .i64 p, .int .i64 d, v']) ∧ OwnP w' w.heap.size v' (putL p [] (x, y, z) val) ∧ Below w.heap.size w w' := by
  obtain ⟨W, hW, hbW, ⟨hWs1, hWs2⟩, re, rr⟩ : ∃ W, W = (w.alloc (.cells #[.int .u8 x, .int .u8 y, .int .u8 z] 107)).alloc (.cells #[.int .i64 0, .int .i64 0, .slice none 0 0] 42) ∧ Below w.heap.size w W ∧ (W.heap.size ≤ w.heap.size + 2 ∧ w.heap.size + 2 ≤ W.heap.size) ∧
      W.rowIs w.heap.size 107 3 (expsF x y z) ∧ W.rowIs (w.heap.size + 1) 42 3 (polyF 0 0 (.slice none 0 0)) := by
    refine ⟨_, rfl, box2 _ _ _, ⟨by simp, by simp⟩, ?_, ?_⟩
    · refine World.rowIs.alloc (World.rowIs_alloc w #[Value.int .u8 x, .int .u8 y, .int .u8 z] _ _ (fun i hi => ?_)) _
      simp at hi; match i, hi with | 0, _ => rfl | 1, _ => rfl | 2, _ => rfl
    · have := World.rowIs_alloc (w.alloc (.cells #[.int .u8 x, .int .u8 y, .int .u8 z] 107)) #[Value.int .i64 0, .int .i64 0, .slice none 0 0] 42 (polyF 0 0 (.slice none 0 0)) (fun i hi => by simp at hi; match i, hi with | 0, _ => rfl | 1, _ => rfl | 2, _ => rfl)
      simpa using this
  have KK := Lib.hid (fun w' (h : Below W.heap.size W w') => show (w'.cell? ⟨w.heap.size, 0, none⟩ = some (.int .u8 x) ∧ w'.cell? ⟨w.heap.size, 1, none⟩ = some (.int .u8 y) ∧ w'.cell? ⟨w.heap.size, 2, none⟩ = some (.int .u8 z)) from
    ⟨(rowIs_below re h re.lt).cell (i := 0) (by omega), (rowIs_below re h re.lt).cell (i := 1) (by omega), (rowIs_below re h re.lt).cell (i := 2) (by omega)⟩)
  go_enter Try.func85, Try.ntmps85
  go_upto_region 1 with fail
  rw [← hW]
  clear hW
  obtain ⟨⟨r0, r1, r2⟩, y0, y1, y2⟩ := poly3 rr
  go_region_held3 (fun w' => (w'.cell? ⟨w.heap.size, 0, none⟩ = some (.int .u8 x) ∧ w'.cell? ⟨w.heap.size, 1, none⟩ = some (.int .u8 y) ∧ w'.cell? ⟨w.heap.size, 2, none⟩ = some (.int .u8 z)))
    (first | with_reducible exact KK.out _ (Below.same _).drew | with_reducible exact KK.out _ HB1 | with_reducible exact KK.out _ HB2 | go_keep)
    (first
    | (go_at_call 86; (with_reducible refine (empty_any p d _).mono ?_); rintro e w1 ⟨rfl, hown, hb1⟩; have HB1 : Below W.heap.size W w1 := (Below.same _).drew.trans hb1)
    | (go_at_call 87; (with_reducible refine (specPut p d _ [] (fun _ => 0) x y z val _ (OwnP.slice (S := []) hown) (IsP.nil p) h2 h13 he v0 v1).mono ?_); rintro e w2 ⟨v2, rfl, ho2, hb2⟩; have HB2 : Below W.heap.size W w2 := HB1.trans (hb2.mono HB1.size); have rr2 := rowIs_below rr HB2 rr.lt; obtain ⟨⟨e0, e1, e2⟩, f0, f1, f2⟩ := poly3 rr2; obtain ⟨sa2, sc2, rfl⟩ := owns_slice ho2; obtain ⟨a0, a1, a2, a3, a4⟩ := fill_box (w := w) rr2 (owns_low ho2 (Nat.le_trans hbW.size HB1.size)) (Nat.le_refl _) (hbW.trans (HB2.mono hbW.size)) (by omega) p d; have A0 := Lib.hid a0; have A1 := Lib.hid a1; have A2 := Lib.hid a2; obtain ⟨m0, m1, m2⟩ := KK.out _ HB2; have A3 := Lib.hid a3; have A4 := Lib.hid a4; clear a0 a1 a2 a3 a4))
  go_wp2_with fail
  exact bodyPost_ret (v := .agg #[.int .i64 p, .int .i64 d, .slice sa2 (putL p [] (x, y, z) val).length sc2]) (by simp [results, Try.results85, go_sem, A0.out, A1.out, A2.out]) rfl ⟨_, rfl, A3.out, A4.out⟩
end Go.Proofs.Ytbahejlgfpilnaa
namespace Go.Proofs.Ytbahejlgfpilnaa
open Go.RowKit Go.Sort Go.Maps

/-- L has the terms of the power k of the polynomial with the terms xs. -/
def PowL (p : Int) (xs : List Tm) : Nat → List Tm → Prop
  | 0, L => IsP p L (fun e => if e = (0, 0, 0) then 1 else 0)
  | k + 1, L => ∃ M, PowL p xs k M ∧ IsP p L (mulF p M xs)
theorem PowL.unique {p : Int} {xs : List Tm} : ∀ {k : Nat} {L L' : List Tm}, PowL p xs k L → PowL p xs k L' → L = L'
  | 0, _, _, h, h' => IsP.unique h h'
  | _ + 1, _, _, ⟨_, h1, h2⟩, ⟨_, h1', h2'⟩ => by
    obtain rfl := PowL.unique h1 h1'
    exact h2.unique h2'
theorem PowL.isP {p : Int} {xs L : List Tm} : ∀ {k : Nat}, PowL p xs k L → ∃ f, IsP p L f
  | 0, h => ⟨_, h⟩
  | _ + 1, ⟨_, _, h⟩ => ⟨_, h⟩
theorem Valid.of_isP {p d : Int} {xs L : List Tm} {f : Int × Int × Int → Int} (hV : Valid p d xs) (h : IsP p L f) : Valid p d L :=
  ⟨hV.p2, hV.p13, hV.d1, hV.d3, h.1, fun t ht => ⟨(h.2.1 t ht).1, (h.2.1 t ht).2⟩⟩
theorem rowS_ne {s : Tm} {e : Int × Int × Int} : ∀ {ys : List Tm}, rowS s ys e ≠ 0 → ∃ t ∈ ys, addE (tmE s) (tmE t) = e
  | [], h => absurd rfl h
  | t :: r, h => by
    rw [rowS] at h
    by_cases hx : addE (tmE s) (tmE t) = e
    · exact ⟨t, by simp, hx⟩
    · rw [if_neg hx, Int.zero_add] at h
      obtain ⟨u, hu, hx⟩ := rowS_ne h
      exact ⟨u, by simp [hu], hx⟩
theorem mulS_ne {ys : List Tm} {e : Int × Int × Int} : ∀ {xs : List Tm}, mulS xs ys e ≠ 0 → ∃ s ∈ xs, ∃ t ∈ ys, addE (tmE s) (tmE t) = e
  | [], h => absurd rfl h
  | s :: r, h => by
    rw [mulS] at h
    by_cases hx : rowS s ys e = 0
    · rw [hx, Int.zero_add] at h
      obtain ⟨u, hu, hx⟩ := mulS_ne h
      exact ⟨u, by simp [hu], hx⟩
    · exact ⟨s, by simp, rowS_ne hx⟩
/-- No term of the power has a degree beyond the bound. -/
theorem PowL.deg {p d : Int} {xs : List Tm} (hV : Valid p d xs) : ∀ {k : Nat} {L : List Tm}, PowL p xs k L → ∀ t ∈ L, t.1 + t.2.1 + t.2.2.1 ≤ k * max (degI xs) 0
  | 0, L, h, t, ht => by
    have h1 := h.2.2 (tmE t) (h.2.1 t ht).1.1
    rw [atL_mem h.1 ht] at h1
    have h2 := (h.2.1 t ht).2.1
    by_cases hx : tmE t = (0, 0, 0)
    · simp [tmE] at hx
      obtain ⟨a, b, c⟩ := hx
      simp [a, b, c]
    · have h3 : t.2.2.2 = if tmE t = (0, 0, 0) then 1 else 0 := h1
      rw [if_neg hx] at h3
      omega
  | k + 1, L, ⟨M, h, h'⟩, t, ht => by
    have h1 := h'.2.2 (tmE t) (h'.2.1 t ht).1.1
    rw [atL_mem h'.1 ht] at h1
    have h2 := (h'.2.1 t ht).2.1
    have h3 : mulS M xs (tmE t) ≠ 0 := fun h0 => by
      rw [mulF, h0] at h1
      simp at h1
      omega
    obtain ⟨s, hs, u, hu, hx⟩ := mulS_ne h3
    have h4 := PowL.deg hV h s hs
    have h5 := deg_le hV u hu
    have h6 : degI xs ≤ max (degI xs) 0 := Int.le_max_left _ _
    have h7 : t.1 + t.2.1 + t.2.2.1 = (s.1 + s.2.1 + s.2.2.1) + (u.1 + u.2.1 + u.2.2.1) := by
      have := sum_addE (tmE s) (tmE u)
      rw [hx] at this
      exact this
    have h8 : ((k + 1 : Nat) : Int) * max (degI xs) 0 = k * max (degI xs) 0 + max (degI xs) 0 := by
      rw [Int.natCast_add, Int.add_mul]
      simp
    omega
theorem max_deg {p d : Int} {xs : List Tm} (hV : Valid p d xs) : 0 ≤ max (degI xs) 0 ∧ max (degI xs) 0 ≤ 12 := by
  obtain ⟨a, b⟩ := deg_bound hV
  omega
/-- The next product keeps the bound. -/
theorem PowL.fits {p d : Int} {xs M : List Tm} (hV : Valid p d xs) {j : Nat} (h : PowL p xs j M) {k : Int} (hj : (j : Int) + 1 ≤ k) (hk : k * max (degI xs) 0 ≤ 12) : M = [] ∨ xs = [] ∨ degI M + degI xs ≤ 12 := by
  by_cases hM : M = []
  · exact .inl hM
  by_cases hx : xs = []
  · exact .inr (.inl hx)
  refine .inr (.inr ?_)
  have h0 : degI M ≤ j * max (degI xs) 0 := by
    unfold degI
    cases hl : M.getLast? with
    | none => exact absurd (List.getLast?_eq_none_iff.1 hl) hM
    | some u => exact h.deg hV u (List.mem_of_getLast? hl)
  have h1 : degI xs ≤ max (degI xs) 0 := Int.le_max_left _ _
  have h2 : ((j : Int) + 1) * max (degI xs) 0 ≤ k * max (degI xs) 0 := Int.mul_le_mul_of_nonneg_right hj (max_deg hV).1
  rw [Int.add_mul] at h2
  simp at h2
  omega
theorem pow_ex {p d : Int} {xs : List Tm} (hV : Valid p d xs) {k : Int} (hk : k * max (degI xs) 0 ≤ 12) : ∀ j : Nat, (j : Int) ≤ k → ∃ L, PowL p xs j L
  | 0, _ => ⟨_, (IsP.one hV.p2 (e := (0, 0, 0)) ⟨by unfold byte3; simp, by simp⟩ 1).congr fun a _ => by
      have h1 : (1 : Int) % p = 1 := Int.emod_eq_of_lt (by omega) (by have := hV.p2; omega)
      rw [h1]⟩
  | j + 1, hj => by
    obtain ⟨M, hM⟩ := pow_ex hV hk j (by omega)
    obtain ⟨f, hf⟩ := hM.isP
    have hVM := hV.of_isP hf
    obtain ⟨L, hL⟩ := mul_ex hVM hV (fits_of hVM hV (hM.fits hV (by omega) hk))
    exact ⟨L, M, hM, hL⟩
end Go.Proofs.Ytbahejlgfpilnaa
namespace Go.Proofs.Ytbahejlgfpilnaa
open Go.RowKit Go.Sort Go.Maps

/-- L has the terms of the product of the polynomials fs (the last factor first). -/
def PrR (p : Int) : List (List Tm) → List Tm → Prop
  | [], L => IsP p L (fun e => if e = (0, 0, 0) then 1 else 0)
  | g :: r, L => ∃ M, PrR p r M ∧ IsP p L (mulF p M g)
theorem PrR.unique {p : Int} : ∀ {fs : List (List Tm)} {L L' : List Tm}, PrR p fs L → PrR p fs L' → L = L'
  | [], _, _, h, h' => IsP.unique h h'
  | _ :: _, _, _, ⟨_, h1, h2⟩, ⟨_, h1', h2'⟩ => by
    obtain rfl := PrR.unique h1 h1'
    exact h2.unique h2'
theorem PrR.isP {p : Int} {L : List Tm} : ∀ {fs : List (List Tm)}, PrR p fs L → ∃ f, IsP p L f
  | [], h => ⟨_, h⟩
  | _ :: _, ⟨_, _, h⟩ => ⟨_, h⟩
/-- The degree bound of a product. -/
def sumD : List (List Tm) → Int
  | [] => 0
  | g :: r => max (degI g) 0 + sumD r
theorem sumD_nonneg : ∀ fs : List (List Tm), 0 ≤ sumD fs
  | [] => by simp [sumD]
  | g :: r => by
    have h1 := sumD_nonneg r
    have h2 : 0 ≤ max (degI g) 0 := Int.le_max_right _ _
    rw [sumD]
    omega
theorem PrR.deg {p d : Int} : ∀ {fs : List (List Tm)} {L : List Tm}, (∀ g ∈ fs, Valid p d g) → PrR p fs L → ∀ t ∈ L, t.1 + t.2.1 + t.2.2.1 ≤ sumD fs
  | [], L, _, h, t, ht => by
    have h1 := h.2.2 (tmE t) (h.2.1 t ht).1.1
    rw [atL_mem h.1 ht] at h1
    have h2 := (h.2.1 t ht).2.1
    by_cases hx : tmE t = (0, 0, 0)
    · simp [tmE] at hx
      obtain ⟨a, b, c⟩ := hx
      simp [a, b, c, sumD]
    · have h3 : t.2.2.2 = if tmE t = (0, 0, 0) then 1 else 0 := h1
      rw [if_neg hx] at h3
      omega
  | g :: r, L, hV, ⟨M, h, h'⟩, t, ht => by
    have h1 := h'.2.2 (tmE t) (h'.2.1 t ht).1.1
    rw [atL_mem h'.1 ht] at h1
    have h2 := (h'.2.1 t ht).2.1
    have h3 : mulS M g (tmE t) ≠ 0 := fun h0 => by
      rw [mulF, h0] at h1
      simp at h1
      omega
    obtain ⟨s, hs, u, hu, hx⟩ := mulS_ne h3
    have h4 := PrR.deg (fun g hg => hV g (by simp [hg])) h s hs
    have h5 := deg_le (hV g (by simp)) u hu
    have h6 : degI g ≤ max (degI g) 0 := Int.le_max_left _ _
    have h7 : t.1 + t.2.1 + t.2.2.1 = (s.1 + s.2.1 + s.2.2.1) + (u.1 + u.2.1 + u.2.2.1) := by
      have := sum_addE (tmE s) (tmE u)
      rw [hx] at this
      exact this
    rw [sumD]
    omega
/-- The next product keeps the bound. -/
theorem PrR.room {p d : Int} {fs : List (List Tm)} {M g : List Tm} (hV : ∀ g ∈ fs, Valid p d g) (h : PrR p fs M) (hd : sumD (g :: fs) ≤ 12) : M = [] ∨ g = [] ∨ degI M + degI g ≤ 12 := by
  by_cases hM : M = []
  · exact .inl hM
  refine .inr (.inr ?_)
  have h0 : degI M ≤ sumD fs := by
    unfold degI
    cases hl : M.getLast? with
    | none => exact absurd (List.getLast?_eq_none_iff.1 hl) hM
    | some u => exact h.deg hV u (List.mem_of_getLast? hl)
  have h1 : degI g ≤ max (degI g) 0 := Int.le_max_left _ _
  rw [sumD] at hd
  omega
theorem pr_ex {p d : Int} {x : List Tm} (hx : Valid p d x) : ∀ {fs : List (List Tm)}, (∀ g ∈ fs, Valid p d g) → sumD fs ≤ 12 → ∃ L, PrR p fs L
  | [], _, _ => ⟨_, (IsP.one hx.p2 (e := (0, 0, 0)) ⟨by unfold byte3; simp, by simp⟩ 1).congr fun a _ => by
      have h1 : (1 : Int) % p = 1 := Int.emod_eq_of_lt (by omega) (by have := hx.p2; omega)
      rw [h1]⟩
  | g :: r, hV, hd => by
    have hVr : ∀ g ∈ r, Valid p d g := fun g hg => hV g (by simp [hg])
    have hm : 0 ≤ max (degI g) 0 := Int.le_max_right _ _
    obtain ⟨M, hM⟩ := pr_ex hx hVr (by rw [sumD] at hd; omega)
    obtain ⟨f, hf⟩ := hM.isP
    have hVM := hx.of_isP hf
    obtain ⟨L, hL⟩ := mul_ex hVM (hV g (by simp)) (fits_of hVM (hV g (by simp)) (hM.room hVr hd))
    exact ⟨L, M, hM, hL⟩

/-- .. times a number. -/
def PrV (p v : Int) (fs : List (List Tm)) (L : List Tm) : Prop := ∃ M, PrR p fs M ∧ IsP p L (fun e => v * atL M e % p)
theorem PrV.step {p d v : Int} {fs : List (List Tm)} {g L L' : List Tm} (hV : ∀ g ∈ fs, Valid p d g) (hg : Valid p d g) (hd : sumD (g :: fs) ≤ 12) (h : PrV p v fs L) (h' : IsP p L' (mulF p L g)) : PrV p v (g :: fs) L' := by
  obtain ⟨M, hM, hL⟩ := h
  obtain ⟨f, hf⟩ := hM.isP
  have hVM := hg.of_isP hf
  obtain ⟨M', hM'⟩ := mul_ex hVM hg (fits_of hVM hg (hM.room hV hd))
  exact ⟨M', ⟨M, hM, hM'⟩, h'.congr fun e he => by rw [mulF_scale hL hf, hM'.2.2 e he]⟩
/-- A number times a product has no greater degrees. -/
theorem PrV.room {p d v : Int} {fs : List (List Tm)} {g L : List Tm} (hV : ∀ g ∈ fs, Valid p d g) (hd : sumD (g :: fs) ≤ 12) (h : PrV p v fs L) : L = [] ∨ g = [] ∨ degI L + degI g ≤ 12 := by
  obtain ⟨M, hM, hL⟩ := h
  by_cases hn : L = []
  · exact .inl hn
  refine .inr (.inr ?_)
  have h0 : degI L ≤ sumD fs := by
    unfold degI
    cases hl : L.getLast? with
    | none => exact absurd (List.getLast?_eq_none_iff.1 hl) hn
    | some u =>
      have hu := List.mem_of_getLast? hl
      have h1 := hL.2.2 (tmE u) (hL.2.1 u hu).1.1
      rw [atL_mem hL.1 hu] at h1
      have h2 := (hL.2.1 u hu).2.1
      by_cases hm : ∃ t ∈ M, tmE t = tmE u
      · obtain ⟨t, ht, hx⟩ := hm
        have h3 := hM.deg hV t ht
        simp [tmE] at hx
        show u.1 + u.2.1 + u.2.2.1 ≤ _
        omega
      · have h3 : atL M (tmE u) = 0 := atL_none fun t ht hx => hm ⟨t, ht, hx⟩
        simp only [h3, Int.mul_zero, Int.zero_emod] at h1
        omega
  have h1 : degI g ≤ max (degI g) 0 := Int.le_max_left _ _
  rw [sumD] at hd
  omega
end Go.Proofs.Ytbahejlgfpilnaa
namespace Go.Proofs.Ytbahejlgfpilnaa
open Go.RowKit Go.Sort Go.Maps

/-- The polynomial number i of a list. -/
def nthL (Ls : List (List Tm)) (i : Nat) : List Tm := Ls.getD i []
/-- The factors of what a monomial becomes (the last one first). -/
def facN (Ls : List (List Tm)) (a b c : Nat) : List (List Tm) :=
  List.replicate c (nthL Ls 2) ++ (List.replicate b (nthL Ls 1) ++ List.replicate a (nthL Ls 0))
def facL (Ls : List (List Tm)) (e : Int × Int × Int) : List (List Tm) := facN Ls e.1.toNat e.2.1.toNat e.2.2.toNat
theorem facN_c (Ls : List (List Tm)) (a b c : Nat) : facN Ls a b (c + 1) = nthL Ls 2 :: facN Ls a b c := by simp [facN, List.replicate_succ]
theorem facN_b (Ls : List (List Tm)) (a b : Nat) : facN Ls a (b + 1) 0 = nthL Ls 1 :: facN Ls a b 0 := by simp [facN, List.replicate_succ]
theorem facN_a (Ls : List (List Tm)) (a : Nat) : facN Ls (a + 1) 0 0 = nthL Ls 0 :: facN Ls a 0 0 := by simp [facN, List.replicate_succ]
theorem facN_zero (Ls : List (List Tm)) : facN Ls 0 0 0 = [] := by simp [facN]
theorem nthL_lt {Ls : List (List Tm)} {i : Nat} (h : i < Ls.length) : nthL Ls i = Ls[i] := by simp [nthL, List.getD, h]
theorem nthL_ge {Ls : List (List Tm)} {i : Nat} (h : Ls.length ≤ i) : nthL Ls i = [] := by simp [nthL, List.getD, List.getElem?_eq_none h]
/-- The degree of number i, at least 0. -/
def dgN (Ls : List (List Tm)) (i : Nat) : Int := max (degI (nthL Ls i)) 0
theorem dgN_nonneg (Ls : List (List Tm)) (i : Nat) : 0 ≤ dgN Ls i := Int.le_max_right _ _
theorem sumD_append : ∀ a b : List (List Tm), sumD (a ++ b) = sumD a + sumD b
  | [], b => by simp [sumD]
  | g :: r, b => by rw [List.cons_append, sumD, sumD, sumD_append r b, Int.add_assoc]
theorem sumD_replicate (g : List Tm) : ∀ n : Nat, sumD (List.replicate n g) = n * max (degI g) 0
  | 0 => by simp [sumD]
  | n + 1 => by
    rw [List.replicate_succ, sumD, sumD_replicate g n, Int.natCast_add, Int.add_mul]
    simp [Int.add_comm]
theorem sumD_fac (Ls : List (List Tm)) (a b c : Nat) : sumD (facN Ls a b c) = a * dgN Ls 0 + b * dgN Ls 1 + c * dgN Ls 2 := by
  unfold facN dgN
  rw [sumD_append, sumD_append, sumD_replicate, sumD_replicate, sumD_replicate]
  omega
/-- The degree bound of what a monomial becomes. -/
def bndE (Ls : List (List Tm)) (e : Int × Int × Int) : Int := e.1 * dgN Ls 0 + e.2.1 * dgN Ls 1 + e.2.2 * dgN Ls 2
theorem sumD_facL (Ls : List (List Tm)) {e : Int × Int × Int} (he : byte3 e) : sumD (facL Ls e) = bndE Ls e := by
  obtain ⟨⟨a1, a2⟩, ⟨a3, a4⟩, a5, a6⟩ := he
  unfold facL bndE
  rw [sumD_fac, Int.toNat_of_nonneg a1, Int.toNat_of_nonneg a3, Int.toNat_of_nonneg a5]
theorem fac_valid {p d : Int} {Ls : List (List Tm)} {x : List Tm} (hx : Valid p d x) (hL : ∀ g ∈ Ls, Valid p d g) (a b c : Nat) : ∀ g ∈ facN Ls a b c, Valid p d g := by
  have h0 : Valid p d [] := ⟨hx.p2, hx.p13, hx.d1, hx.d3, List.Pairwise.nil, fun t ht => by simp at ht⟩
  have hn : ∀ i, Valid p d (nthL Ls i) := fun i => by
    by_cases h : i < Ls.length
    · rw [nthL_lt h]; exact hL _ (List.getElem_mem h)
    · rw [nthL_ge (by omega)]; exact h0
  intro g hg
  simp only [facN, List.mem_append, List.mem_replicate] at hg
  rcases hg with ⟨_, rfl⟩ | ⟨_, rfl⟩ | ⟨_, rfl⟩ <;> exact hn _

/-- The coefficients of what some terms become: P tells what a monomial becomes. -/
def sumF (P : Int × Int × Int → List Tm) : List Tm → Int × Int × Int → Int
  | [], _ => 0
  | t :: r, e => t.2.2.2 * atL (P (tmE t)) e + sumF P r e
def subF (p : Int) (P : Int × Int × Int → List Tm) (xs : List Tm) (e : Int × Int × Int) : Int := sumF P xs e % p
theorem sumF_snoc (P : Int × Int × Int → List Tm) (t : Tm) (e : Int × Int × Int) : ∀ l : List Tm, sumF P (l ++ [t]) e = sumF P l e + t.2.2.2 * atL (P (tmE t)) e
  | [] => by simp [sumF]
  | u :: r => by rw [List.cons_append, sumF, sumF, sumF_snoc P t e r, Int.add_assoc]
theorem sumF_take (P : Int × Int × Int → List Tm) (xs : List Tm) (k : Nat) (h : k < xs.length) (e : Int × Int × Int) : sumF P (xs.take (k + 1)) e = sumF P (xs.take k) e + xs[k].2.2.2 * atL (P (tmE xs[k])) e := by
  rw [List.take_succ_eq_append_getElem h, sumF_snoc]
theorem subF_take (p : Int) (P : Int × Int × Int → List Tm) (xs : List Tm) (k : Nat) (h : k < xs.length) (e : Int × Int × Int) : subF p P (xs.take (k + 1)) e = (subF p P (xs.take k) e + xs[k].2.2.2 * atL (P (tmE xs[k])) e) % p := by
  unfold subF
  rw [sumF_take P xs k h, Int.emod_add_emod]
theorem subF_zero (p : Int) (P : Int × Int × Int → List Tm) (xs : List Tm) (e : Int × Int × Int) : subF p P (xs.take 0) e = 0 := by simp [subF, sumF]
/-- P tells what the monomials of xs become. -/
def Subs (p : Int) (Ls : List (List Tm)) (xs : List Tm) (P : Int × Int × Int → List Tm) : Prop := ∀ t ∈ xs, PrR p (facL Ls (tmE t)) (P (tmE t))
/-- The degree bound is kept. -/
def Bnd (Ls : List (List Tm)) (xs : List Tm) : Prop := ∀ t ∈ xs, bndE Ls (tmE t) ≤ 12
theorem subs_ex {p d d' : Int} {Ls : List (List Tm)} {xs x : List Tm} (hx : Valid p d x) (hL : ∀ g ∈ Ls, Valid p d g) (hX : Valid p d' xs) (hB : Bnd Ls xs) : ∃ P, Subs p Ls xs P := by
  have h : ∀ e : Int × Int × Int, ∃ L, (∃ t ∈ xs, tmE t = e) → PrR p (facL Ls e) L := fun e => by
    by_cases he : ∃ t ∈ xs, tmE t = e
    · obtain ⟨t, ht, rfl⟩ := he
      obtain ⟨L, hL⟩ := pr_ex hx (fs := facL Ls (tmE t)) (fac_valid hx hL _ _ _) (by rw [sumD_facL Ls (hX.mem t ht).1.1]; exact hB t ht)
      exact ⟨L, fun _ => hL⟩
    · exact ⟨[], fun h => absurd h he⟩
  obtain ⟨P, hP⟩ := Classical.axiomOfChoice h
  exact ⟨P, fun t ht => hP (tmE t) ⟨t, ht, rfl⟩⟩
theorem sumF_ne {P : Int × Int × Int → List Tm} {e : Int × Int × Int} : ∀ {xs : List Tm}, sumF P xs e ≠ 0 → ∃ t ∈ xs, atL (P (tmE t)) e ≠ 0
  | [], h => absurd rfl h
  | t :: r, h => by
    by_cases hx : atL (P (tmE t)) e = 0
    · rw [sumF, hx, Int.mul_zero, Int.zero_add] at h
      obtain ⟨u, hu, h⟩ := sumF_ne h
      exact ⟨u, by simp [hu], h⟩
    · exact ⟨t, by simp, hx⟩
theorem atL_ne_mem {L : List Tm} {e : Int × Int × Int} (h : atL L e ≠ 0) : ∃ t ∈ L, tmE t = e :=
  Classical.byContradiction fun hx => h (atL_none fun t ht he => hx ⟨t, ht, he⟩)
/-- No term of a substitution has a degree beyond the bound. -/
theorem sub_deg {p d d' : Int} {Ls : List (List Tm)} {xs x : List Tm} {P : Int × Int × Int → List Tm} (hx : Valid p d x) (hL : ∀ g ∈ Ls, Valid p d g) (hX : Valid p d' xs) (hB : Bnd Ls xs) (hP : Subs p Ls xs P) {k : Nat} {e : Int × Int × Int} (h : subF p P (xs.take k) e ≠ 0) : e.1 + e.2.1 + e.2.2 ≤ 12 := by
  have h1 : sumF P (xs.take k) e ≠ 0 := fun h0 => h (by rw [subF, h0]; simp)
  obtain ⟨t, ht, h2⟩ := sumF_ne h1
  have ht := List.mem_of_mem_take ht
  obtain ⟨u, hu, rfl⟩ := atL_ne_mem h2
  have h3 := PrR.deg (fs := facL Ls (tmE t)) (fac_valid hx hL _ _ _) (hP t ht) u hu
  rw [sumD_facL Ls (hX.mem t ht).1.1] at h3
  have := hB t ht
  show u.1 + u.2.1 + u.2.2.1 ≤ 12
  omega
/-- A sum taken with a scaled polynomial is the sum with the number. -/
theorem sub_step {p : Int} {P : Int × Int × Int → List Tm} {xs : List Tm} {k : Nat} (h : k < xs.length) {L : List Tm} (hL : ∀ e, byte3 e → atL L e = xs[k].2.2.2 * atL (P (tmE xs[k])) e % p) (e : Int × Int × Int) (he : byte3 e) : (subF p P (xs.take k) e + 1 * atL L e) % p = subF p P (xs.take (k + 1)) e := by
  rw [subF_take p P xs k h, hL e he, Int.one_mul, Int.add_emod_emod]
theorem fac_pos_c {Ls : List (List Tm)} {x y z : Int} (hz : 0 < z) : facL Ls (x, y, z) = nthL Ls 2 :: facL Ls (x, y, z - 1) := by
  unfold facL
  simp only []
  rw [show z.toNat = (z - 1).toNat + 1 by omega, facN_c]
theorem fac_pos_b {Ls : List (List Tm)} {x y : Int} (hy : 0 < y) : facL Ls (x, y, 0) = nthL Ls 1 :: facL Ls (x, y - 1, 0) := by
  unfold facL
  simp only []
  rw [show y.toNat = (y - 1).toNat + 1 by omega]
  exact facN_b Ls _ _
theorem fac_pos_a {Ls : List (List Tm)} {x : Int} (hx : 0 < x) : facL Ls (x, 0, 0) = nthL Ls 0 :: facL Ls (x - 1, 0, 0) := by
  unfold facL
  simp only []
  rw [show x.toNat = (x - 1).toNat + 1 by omega]
  exact facN_a Ls _
theorem fac_zero (Ls : List (List Tm)) : facL Ls (0, 0, 0) = [] := facN_zero Ls
end Go.Proofs.Ytbahejlgfpilnaa
namespace Go.Proofs.Ytbahejlgfpilnaa
open Go.RowKit Go.Sort Go.Maps

/-- The exponent number k. -/
def nthE (e : Int × Int × Int) (k : Nat) : Int := if k = 0 then e.1 else if k = 1 then e.2.1 else if k = 2 then e.2.2 else 0
theorem nthE_bound {e : Int × Int × Int} (h : mono12 e) (k : Nat) : 0 ≤ nthE e k ∧ nthE e k ≤ 12 := by
  obtain ⟨⟨⟨a1, _⟩, ⟨a2, _⟩, a3, _⟩, a4⟩ := h
  unfold nthE
  repeat' split
  all_goals omega
/-- The degree bound of the first k letters. -/
def bndK (Ls : List (List Tm)) (e : Int × Int × Int) : Nat → Int
  | 0 => 0
  | k + 1 => bndK Ls e k + nthE e k * dgN Ls k
theorem dgN_ge {Ls : List (List Tm)} {i : Nat} (h : Ls.length ≤ i) : dgN Ls i = 0 := by
  unfold dgN
  rw [nthL_ge h]
  rfl
theorem bndK_full {Ls : List (List Tm)} (h1 : 1 ≤ Ls.length) (h3 : Ls.length ≤ 3) (e : Int × Int × Int) : bndK Ls e Ls.length = bndE Ls e := by
  have hx : Ls.length = 1 ∨ Ls.length = 2 ∨ Ls.length = 3 := by omega
  rcases hx with h | h | h
  · have d1 := dgN_ge (Ls := Ls) (i := 1) (by omega)
    have d2 := dgN_ge (Ls := Ls) (i := 2) (by omega)
    rw [h]
    simp [bndK, bndE, nthE, d1, d2]
  · have d2 := dgN_ge (Ls := Ls) (i := 2) (by omega)
    rw [h]
    simp [bndK, bndE, nthE, d2]
  · rw [h]
    simp [bndK, bndE, nthE]
theorem bndK_bound {Ls : List (List Tm)} {e : Int × Int × Int} (he : mono12 e) (hd : ∀ i, dgN Ls i ≤ 12) : ∀ k : Nat, 0 ≤ bndK Ls e k ∧ bndK Ls e k ≤ 144 * (k : Int)
  | 0 => ⟨by simp [bndK], by simp [bndK]⟩
  | k + 1 => by
    obtain ⟨h0, h1⟩ := bndK_bound he hd k
    obtain ⟨a0, a1⟩ := nthE_bound he k
    have d0 := dgN_nonneg Ls k
    have m0 : 0 ≤ nthE e k * dgN Ls k := Int.mul_nonneg a0 d0
    have m1 : nthE e k * dgN Ls k ≤ 12 * 12 := Int.mul_le_mul a1 (hd k) d0 (by omega)
    rw [bndK]
    omega
/-- The terms of a list's polynomials. -/
def tmsL (G : List Pm) : List (List Tm) := G.map fun g => g.2.2
theorem tmsL_len (G : List Pm) : (tmsL G).length = G.length := by simp [tmsL]
theorem tmsL_nth {G : List Pm} {i : Nat} (h : i < G.length) : nthL (tmsL G) i = G[i].2.2 := by
  rw [nthL_lt (by rw [tmsL_len]; exact h)]
  simp [tmsL]
/-- The code of a substitution. -/
def subsC (p d : Int) (xs : List Tm) (G : List Pm) : Int :=
  if (isPolyB p d xs && G.all isPm) = true then
    (if (decide ((G.length : Int) = d) && G.all (likeT p (hdP G))) = true then
      (if xs.all (fun t => decide (bndE (tmsL G) (tmE t) ≤ 12)) = true then 0 else 3) else 2) else 1
theorem isPm_valid {g : Pm} (hok : PmOk g) (h : isPm g = true) : Valid g.1 g.2.1 g.2.2 := valid_of h hok.1
theorem dg_bound {G : List Pm} (hok : ∀ g ∈ G, PmOk g) (hp : G.all isPm = true) (i : Nat) : dgN (tmsL G) i ≤ 12 := by
  by_cases h : i < G.length
  · unfold dgN
    rw [tmsL_nth h]
    have hv := isPm_valid (hok _ (List.getElem_mem h)) (List.all_eq_true.1 hp _ (List.getElem_mem h))
    exact (max_deg hv).2
  · rw [dgN_ge (by rw [tmsL_len]; omega)]
    omega
end Go.Proofs.Ytbahejlgfpilnaa
namespace Go.Proofs.Ytbahejlgfpilnaa
open Go.RowKit Go.Sort Go.Maps

/-- The factors of the first k letters; j more of the letter k. -/
def facK (Ls : List (List Tm)) (e : Int × Int × Int) : Nat → List (List Tm)
  | 0 => []
  | k + 1 => List.replicate (nthE e k).toNat (nthL Ls k) ++ facK Ls e k
def facP (Ls : List (List Tm)) (e : Int × Int × Int) (k j : Nat) : List (List Tm) := List.replicate j (nthL Ls k) ++ facK Ls e k
theorem facP_zero (Ls : List (List Tm)) (e : Int × Int × Int) (k : Nat) : facP Ls e k 0 = facK Ls e k := by simp [facP]
theorem facP_succ (Ls : List (List Tm)) (e : Int × Int × Int) (k j : Nat) : facP Ls e k (j + 1) = nthL Ls k :: facP Ls e k j := by simp [facP, List.replicate_succ]
theorem facP_full (Ls : List (List Tm)) (e : Int × Int × Int) (k : Nat) : facP Ls e k (nthE e k).toNat = facK Ls e (k + 1) := rfl
theorem facK_full {Ls : List (List Tm)} {e : Int × Int × Int} {n : Nat} (h1 : 1 ≤ n) (h3 : n ≤ 3) (hz : ∀ i, n ≤ i → nthE e i = 0) : facK Ls e n = facL Ls e := by
  have e0 : nthE e 0 = e.1 := rfl
  have e1 : nthE e 1 = e.2.1 := rfl
  have e2 : nthE e 2 = e.2.2 := rfl
  have hx : n = 1 ∨ n = 2 ∨ n = 3 := by omega
  unfold facL facN
  rcases hx with rfl | rfl | rfl
  · have h1 := hz 1 (by omega)
    have h2 := hz 2 (by omega)
    rw [e1] at h1
    rw [e2] at h2
    simp [facK, e0, h1, h2]
  · have h2 := hz 2 (by omega)
    rw [e2] at h2
    simp [facK, e0, e1, h2]
  · simp [facK, e0, e1, e2]
theorem sumD_facK {Ls : List (List Tm)} {e : Int × Int × Int} (he : mono12 e) : ∀ k : Nat, sumD (facK Ls e k) = bndK Ls e k
  | 0 => rfl
  | k + 1 => by
    rw [facK, bndK, sumD_append, sumD_replicate, sumD_facK he k, Int.toNat_of_nonneg (nthE_bound he k).1, Int.add_comm]
    rfl
theorem bndK_mono {Ls : List (List Tm)} {e : Int × Int × Int} (he : mono12 e) {k n : Nat} (h : k ≤ n) : bndK Ls e k ≤ bndK Ls e n := by
  induction n with
  | zero => obtain rfl : k = 0 := by omega
            exact Int.le_refl _
  | succ n ih =>
    by_cases hk : k = n + 1
    · subst hk; exact Int.le_refl _
    · have h1 := ih (by omega)
      have h2 : 0 ≤ nthE e n * dgN Ls n := Int.mul_nonneg (nthE_bound he n).1 (dgN_nonneg Ls n)
      rw [bndK]
      omega
/-- No part of the road has a greater degree bound. -/
theorem sumD_facP {Ls : List (List Tm)} {e : Int × Int × Int} (he : mono12 e) {k j n : Nat} (hj : (j : Int) ≤ nthE e k) (hk : k < n) (hb : bndK Ls e n ≤ 12) : sumD (facP Ls e k j) ≤ 12 := by
  have h1 := bndK_mono (Ls := Ls) he (show k + 1 ≤ n from hk)
  have h2 : (j : Int) * dgN Ls k ≤ nthE e k * dgN Ls k := Int.mul_le_mul_of_nonneg_right hj (dgN_nonneg Ls k)
  rw [facP, sumD_append, sumD_replicate, sumD_facK he]
  rw [bndK] at h1
  unfold dgN at *
  omega
theorem facK_valid {p d : Int} {Ls : List (List Tm)} {x : List Tm} (hx : Valid p d x) (hL : ∀ g ∈ Ls, Valid p d g) (e : Int × Int × Int) : ∀ k : Nat, ∀ g ∈ facK Ls e k, Valid p d g
  | 0, g, h => by simp [facK] at h
  | k + 1, g, h => by
    simp only [facK, List.mem_append, List.mem_replicate] at h
    rcases h with ⟨_, rfl⟩ | h
    · by_cases hk : k < Ls.length
      · rw [nthL_lt hk]; exact hL _ (List.getElem_mem hk)
      · rw [nthL_ge (by omega)]
        exact ⟨hx.p2, hx.p13, hx.d1, hx.d3, List.Pairwise.nil, fun t ht => by simp at ht⟩
    · exact facK_valid hx hL e k g h
theorem facP_valid {p d : Int} {Ls : List (List Tm)} {x : List Tm} (hx : Valid p d x) (hL : ∀ g ∈ Ls, Valid p d g) (e : Int × Int × Int) (k j : Nat) : ∀ g ∈ facP Ls e k j, Valid p d g := fun g h => by
  simp only [facP, List.mem_append, List.mem_replicate] at h
  rcases h with ⟨_, rfl⟩ | h
  · by_cases hk : k < Ls.length
    · rw [nthL_lt hk]; exact hL _ (List.getElem_mem hk)
    · rw [nthL_ge (by omega)]
      exact ⟨hx.p2, hx.p13, hx.d1, hx.d3, List.Pairwise.nil, fun t ht => by simp at ht⟩
  · exact facK_valid hx hL e k g h
/-- A number stands at the beginning of the road. -/
theorem PrV.one {p d v : Int} {x : List Tm} (hx : Valid p d x) : PrV p v [] (putL p [] (0, 0, 0) v) := by
  obtain ⟨M, hM⟩ := pr_ex hx (fs := []) (fun g hg => by simp at hg) (by simp [sumD])
  refine ⟨M, hM, (IsP.one hx.p2 (e := (0, 0, 0)) ⟨by unfold byte3; simp, by simp⟩ v).congr fun a ha => ?_⟩
  have h := hM.2.2 a ha
  rw [h]
  by_cases h0 : a = (0, 0, 0)
  · simp [h0]
  · simp [h0]
theorem PrV.isP {p v : Int} {fs : List (List Tm)} {L : List Tm} (h : PrV p v fs L) : ∃ f, IsP p L f := by
  obtain ⟨M, _, h⟩ := h
  exact ⟨_, h⟩
/-- At the end of the road. -/
theorem PrV.at {p v : Int} {fs : List (List Tm)} {L M : List Tm} (h : PrV p v fs L) (hM : PrR p fs M) (e : Int × Int × Int) (he : byte3 e) : atL L e = v * atL M e % p := by
  obtain ⟨M', h1, h2⟩ := h
  rw [h2.2.2 e he, h1.unique hM]
end Go.Proofs.Ytbahejlgfpilnaa
namespace Go.Proofs.Ytbahejlgfpilnaa
open Go.RowKit Go.Sort

set_option maxRecDepth 8000 in
set_option maxHeartbeats 8000000 in
theorem specPlus (p d k : Int) (v v' : Value) (xs ys : List Tm) (f : Int × Int × Int → Int) (w : World) (hS : SliceT w v xs) (hS' : SliceT w v' ys) (hP : IsP p xs f) (hV : Valid p d ys) (hk0 : 0 ≤ k) (hk1 : k < p) :
    Calls Try.prog 89 #[.agg #[.int .i64 p, .int .i64 d, v], .agg #[.int .i64 p, .int .i64 d, v'], .int .i64 k] w fun e w' =>
      ∃ v' L, e = .returned (.agg #[.int .i64 p, .int .i64 d, v']) ∧ OwnP w' w.heap.size v' L ∧ IsP p L (fun e => (f e + k * atL ys e) % p) ∧ Below w.heap.size w w' := by
  have hp2 := hV.p2
  have hp13 := hV.p13
  have hlx := hP.len
  have hly := hV.isP.len
  obtain ⟨a, cap, rfl, _⟩ := id hS
  obtain ⟨a', cap', rfl, _⟩ := id hS'
  obtain ⟨W, hW, hbW, ⟨hWs1, hWs2⟩, rx, ry, rr⟩ := pair3 w p d (.slice a xs.length cap) p d (.slice a' ys.length cap')
  obtain ⟨⟨c0, c1, c2⟩, _⟩ := poly3 rx
  go_enter Try.func89, Try.ntmps89
  go_wp2_with fail
  rw [← hW]
  clear hW c0 c1 c2
  ((with_reducible refine (empty_any p d W).mono ?_); rintro e w1 ⟨rfl, hown, hb1⟩)
  obtain ⟨V, hV1, hbV, ⟨hVs1, hVs2⟩, rq⟩ : ∃ V, V = w1.alloc (.cells #[.int .i64 p, .int .i64 d, .slice (some ⟨W.heap.size + 1, 0, none⟩) 0 0] 42) ∧ Below w1.heap.size w1 V ∧ (V.heap.size ≤ w1.heap.size + 1 ∧ w1.heap.size + 1 ≤ V.heap.size) ∧
      V.rowIs w1.heap.size 42 3 (polyF p d (.slice (some ⟨W.heap.size + 1, 0, none⟩) 0 0)) := by
    refine ⟨_, rfl, box1 _ _, ⟨by simp, by simp⟩, ?_⟩
    exact World.rowIs_alloc w1 #[Value.int .i64 p, .int .i64 d, .slice (some ⟨W.heap.size + 1, 0, none⟩) 0 0] _ _ (fun i hi => by simp at hi; match i, hi with | 0, _ => rfl | 1, _ => rfl | 2, _ => rfl)
  have s1 := hb1.size
  have hbWV := hb1.trans (hbV.mono hb1.size)
  have hst : Part2 w V W.heap.size w1.heap.size w.heap.size (w.heap.size + 1) (w.heap.size + 2) p d p d (.slice a xs.length cap) (.slice a' ys.length cap') (.slice (some ⟨W.heap.size + 1, 0, none⟩) 0 0) [] :=
    ⟨⟨owns_belowT hown hbV, rq, rowIs_below rx hbWV rx.lt, rowIs_below rr hbWV rr.lt, hbW.trans (hbWV.mono hbW.size), by omega, by omega, by omega, by omega, by omega, by omega⟩, rowIs_below ry hbWV ry.lt, by omega⟩
  have rx1 := rowIs_below rx hb1 rx.lt
  have xo : ∀ o, (w1.alloc o).cell? ⟨w.heap.size, 2, none⟩ = some (.slice a xs.length cap) := fun o => ((box1 w1 o).cell rx1.lt).trans (poly3 rx1).1.2.2
  have hSV := (hS.below hbW).below hbWV
  have hbV2 := hst.part.b2
  clear rx ry rr rq hown rx1
  go_wp2_with (at_builtin; rw [← hV1]; refine wpList_append_terms _ rfl _ _ rfl W.heap.size (.slice (some ⟨W.heap.size + 1, 0, none⟩) 0 0) 0 [] rfl hst.part.rows (.slice a xs.length cap) xs rfl hSV (by omega) hbV2 ?_)
  intro v3 w3 hown3 hgrow3
  rw [← hV1] at hgrow3
  obtain ⟨hst3, r3⟩ := hst.moreL (ts := xs) hgrow3 (by simpa [cells4] using hown3)
  rw [List.nil_append] at hst3
  obtain ⟨sa3, sc3, rfl⟩ := owns_slice hown3
  have hfz3 := r3.frozen 2
  have hcl3 : w3.cell? ⟨w1.heap.size, 2, none⟩ = some (.slice (some ⟨W.heap.size + 1, 0, none⟩) 0 0) := r3.cell (i := 2) (by omega)
  have hbV3 := hst3.part.below
  clear hV1 xo hown3 hgrow3 r3 hst hSV hbV2
  go_wp2_with fail
  go_loopw [8] (fun j wr => ∃ (i : Nat) (sv : Value) (O : List Tm), i ≤ ys.length ∧ j = .int .i64 i ∧ Hid (IsP p O (fun e => (f e + k * atL (ys.take i) e) % p)) ∧ Part2 w wr W.heap.size w1.heap.size w.heap.size (w.heap.size + 1) (w.heap.size + 2) p d p d (.slice a xs.length cap) (.slice a' ys.length cap') sv O) (fun j _ => ys.length - (intOf j).toNat)
  case atStart => exact ⟨0, _, _, by omega, rfl, Lib.hid (hP.congr fun e he => by simp [atL]; exact (Int.emod_eq_of_lt (hP.bound (by omega) he).1 (hP.bound (by omega) he).2).symm), hst3⟩
  case round =>
    clear hst3 hfz3 hcl3
    obtain ⟨i, sv, O, hi, rfl, HO, hB⟩ := hrel
    have hSr := hS'.below hB.part.below
    obtain ⟨sa, sc, rfl⟩ := owns_slice hB.part.rows
    obtain ⟨⟨m0, m1, m2⟩, _⟩ := poly3 hB.arg2
    obtain ⟨⟨q0, q1, q2⟩, z0, z1, z2⟩ := poly3 hB.part.out
    by_cases hlt1 : i < ys.length
    · have hlt' : (i : Int) < (ys.length : Int) := by omega
      obtain ⟨A', cap2, hv', hcase⟩ := hSr
      simp at hv'
      obtain ⟨rfl, rfl⟩ := hv'
      rcases hcase with h0 | ⟨b, off, rfl, hltb, hTr⟩
      · rw [h0] at hlt1; exact absurd hlt1 (by simp)
      obtain ⟨c0, c1, c2, c3⟩ := hTr i hlt1
      obtain ⟨⟨⟨bx, by1, bz⟩, hs12⟩, bv1, bv2⟩ := hV.mem ys[i] (List.getElem_mem _)
      have hd1 := Lib.hid (fun e => plus_step (p := p) (k := k) (f := f) hV.asc i hlt1 e)
      have hE : mono12 (tmE ys[i]) := ⟨⟨bx, by1, bz⟩, hs12⟩
      have HP : Hid (IsP p (putL p O (tmE ys[i]) (k * ys[i].2.2.2)) (fun e => (f e + k * atL (ys.take (i + 1)) e) % p)) := Lib.hid ((HO.out.put hp2 hE (k * ys[i].2.2.2)).congr fun e he => by
        rw [hd1.out e]
        by_cases hx : e = tmE ys[i]
        · rw [if_pos hx, if_pos hx, atL_take_new hV.asc i hlt1]
          simp [Int.add_comm]
        · rw [if_neg hx, if_neg hx])
      simp only [tmE] at bx by1 bz HP
      generalize hx : ys[i].1 = x at *
      generalize hy : ys[i].2.1 = y at *
      generalize hz : ys[i].2.2.1 = z at *
      generalize hvv : ys[i].2.2.2 = u at *
      have hE1 : byte3 (x, y, z) := ⟨bx, by1, bz⟩
      have g1 : 0 ≤ k * u := Int.mul_nonneg (by omega) (by omega)
      have g2 : k * u ≤ 13 * 13 := Int.mul_le_mul (by omega) (by omega) (by omega) (by omega)
      have hw : IntKind.i64.wrap (k * u) = k * u := IntWalk.i64_in _ (by omega)
      clear hd1 hE hV hS hS' hTr hP z0 z1 z2
      go_wp2_with fail
      refine region_tail 15 (by kernel_rfl) (by kernel_rfl) ?_
      simp only [List.take_succ_cons, List.take_zero, List.drop_succ_cons, List.drop_zero]
      repeat still_step
      refine wpStill_nil ?_
      go_wp2_with fail
      have hBU := hB.later (Below.same wr).drew
      ((with_reducible refine (specPut p d _ O _ _ _ _ _ _ (OwnP.slice hBU.part.rows) HO.out hp2 hp13 hE1 g1 (by omega)).mono ?_); rintro e w2 ⟨v2, rfl, ho2, hb2⟩)
      obtain ⟨sa2, sc2, rfl⟩ := owns_slice ho2
      have hU2 := hBU.later hb2
      have hB3 := hBU.put hb2 ho2 hBU.part.b2
      obtain ⟨⟨j0, j1, j2⟩, jz0, jz1, jz2⟩ := poly3 hU2.part.out
      clear ho2 hBU hB HO q0 q1 q2
      go_wp2_with fail
      go_roundw
      case rel => exact ⟨i + 1, _, _, by omega, by go_num, HP, hB3⟩
      case measure => simp [intOf]; omega
    · obtain rfl : i = ys.length := by omega
      obtain ⟨⟨r0, r1, r2⟩, y0, y1, y2⟩ := poly3 hB.part.res
      have hD := HO.out
      rw [List.take_length] at hD
      obtain ⟨a0, a1, a2, a3, a4⟩ := hB.part.finish p d
      clear hSr HO hV hP z0 z1 z2
      go_wp2_with fail
      exact bodyPost_ret (v := .agg #[.int .i64 p, .int .i64 d, .slice sa O.length sc]) (by simp [results, Try.results89, go_sem, a0, a1, a2]) rfl ⟨_, O, rfl, a3, hD, a4⟩
end Go.Proofs.Ytbahejlgfpilnaa
namespace Go.Proofs.Ytbahejlgfpilnaa
open Go.RowKit Go.Sort Go.Maps

/-- The coefficients of x and k times y together. -/
def addF (p k : Int) (xs ys : List Tm) (e : Int × Int × Int) : Int := (atL xs e + k * atL ys e) % p
theorem plus_ex {p d k : Int} {xs : List Tm} (hP : ∃ f, IsP p xs f) (ys : List Tm) (hV : Valid p d ys) : ∃ L, IsP p L (addF p k xs ys) := by
  obtain ⟨f, hP⟩ := hP
  have hP0 : IsP p xs (atL xs) := ⟨hP.1, hP.2.1, fun _ _ => rfl⟩
  have key : ∀ i, i ≤ ys.length → ∃ O, IsP p O (addF p k xs (ys.take i)) := fun i => by
    induction i with
    | zero => exact fun _ => ⟨xs, hP0.congr fun e he => by
        have hp := hV.p2
        have := hP0.bound (by omega) he
        simp [addF, atL]; exact (Int.emod_eq_of_lt this.1 this.2).symm⟩
    | succ i ih =>
      intro hi
      obtain ⟨O, hO⟩ := ih (by omega)
      have hlt : i < ys.length := by omega
      obtain ⟨hm, _⟩ := hV.mem ys[i] (List.getElem_mem _)
      refine ⟨_, (hO.put hV.p2 (e := tmE ys[i]) hm (k * ys[i].2.2.2)).congr fun e _ => ?_⟩
      unfold addF
      rw [plus_step (p := p) (k := k) (f := atL xs) hV.asc i hlt e]
      by_cases hx : e = tmE ys[i]
      · rw [if_pos hx, if_pos hx, atL_take_new hV.asc i hlt]
        simp [Int.add_comm]
      · rw [if_neg hx, if_neg hx]
  have := key ys.length (Nat.le_refl _)
  rwa [List.take_length] at this
end Go.Proofs.Ytbahejlgfpilnaa
namespace Go.Proofs.Ytbahejlgfpilnaa
open Go.RowKit Go.Sort Go.Maps

theorem cell_beyond {w : World} {b n i : Nat} {t : TypeId} {f : Nat → Value} (h : w.rowIs b t n f) (hi : n ≤ i) : w.cell? ⟨b, i, none⟩ = none := by
  obtain ⟨c, hc, hn, _⟩ := h
  simp [World.cell?, hc]
  omega
/-- A box of a polynomial holds no terms. -/
theorem SliceT.setBox {w : World} {v u : Value} {ts : List Tm} {q i : Nat} {t : TypeId} {F : Nat → Value} (h : SliceT w v ts) (hr : w.rowIs q t 3 F) : SliceT (w.setCell ⟨q, i, none⟩ u) v ts := by
  obtain ⟨a, cap, hv, h | ⟨b1, off, ha, hlt, hT⟩⟩ := h
  · exact ⟨a, cap, hv, .inl h⟩
  by_cases hn : ts = []
  · exact ⟨a, cap, hv, .inl hn⟩
  have hne : b1 ≠ q := fun e => by
    have h0 := (hT 0 (List.length_pos_iff.2 hn)).2.2.2
    rw [e, cell_beyond hr (by omega)] at h0
    simp at h0
  have q1 : ∀ o, (w.setCell ⟨q, i, none⟩ u).cell? ⟨b1, o, none⟩ = w.cell? ⟨b1, o, none⟩ := fun o => by
    unfold World.cell?
    rw [Below.heap_setCell _ ⟨q, i, none⟩ u b1 hne]
  refine ⟨a, cap, hv, .inr ⟨b1, off, ha, by rw [World.size_setCell]; exact hlt, fun k hk => ?_⟩⟩
  obtain ⟨c0, c1, c2, c3⟩ := hT k hk
  exact ⟨(q1 _).trans c0, (q1 _).trans c1, (q1 _).trans c2, (q1 _).trans c3⟩
end Go.Proofs.Ytbahejlgfpilnaa
namespace Go.Proofs.Ytbahejlgfpilnaa
open Go.RowKit Go.Sort Go.Maps

/-- A value as an element: told by itself. -/
def elemP (v : Value) : Option (DataW Value × List MemPlace) := some (.held v, [])
abbrev MapP (w : World) (b n : Nat) (D : DataW Value) : Prop := w.ownsMap Try.prog 107 elemP b n D
/-- The polynomial 0 as a value. -/
abbrev zP : DataW Value := .held (.agg #[.int .i64 0, .int .i64 0, .slice none 0 0])
theorem zeroP (w : World) : (zeroValue 42).run Try.prog w = .ok (.agg #[.int .i64 0, .int .i64 0, .slice none 0 0]) w := by kernel_rfl
/-- A map of what monomials become, in block b: each of them right. -/
structure DoneP (w : World) (b n : Nat) (D : DataW Value) (p d : Int) (Ls : List (List Tm)) : Prop where
  map : MapP w b n D
  one : Maps.has D (kE (0, 0, 0)) = true
  ok : ∀ e, byte3 e → Maps.has D (kE e) = true → ∃ v L, D.atKey (kE e) zP = .held (.agg #[.int .i64 p, .int .i64 d, v]) ∧ SliceT w v L ∧ PrR p (facL Ls e) L
/-- A list of terms is not in the map's block. -/
theorem SliceT.besideP {w w' : World} {b n : Nat} {D : DataW Value} {v : Value} {ts : List Tm} (h : SliceT w v ts) (hM : MapP w b n D) (hg : w.grownBy w' (some b)) : SliceT w' v ts := by
  obtain ⟨a, cap, hv, h | ⟨b1, off, ha, hlt, hT⟩⟩ := h
  · exact ⟨a, cap, hv, .inl h⟩
  by_cases hn : ts = []
  · exact ⟨a, cap, hv, .inl hn⟩
  refine ⟨a, cap, hv, .inr ⟨b1, off, ha, Nat.lt_of_lt_of_le hlt hg.size, ?_⟩⟩
  have hne : b1 ≠ b := fun e => by
    obtain ⟨es, clock, hb, _⟩ := hM
    have h0 := (hT 0 (List.length_pos_iff.2 hn)).1
    rw [e] at h0
    simp [World.cell?, hb] at h0
  have q : ∀ o, w'.cell? ⟨b1, o, none⟩ = w.cell? ⟨b1, o, none⟩ := fun o => hg.cell_far ⟨b1, o, none⟩ hlt (by simpa using hne)
  intro k hk
  obtain ⟨c0, c1, c2, c3⟩ := hT k hk
  exact ⟨(q _).trans c0, (q _).trans c1, (q _).trans c2, (q _).trans c3⟩
theorem DoneP.later {w w' : World} {b n : Nat} {D : DataW Value} {p d : Int} {Ls : List (List Tm)} (h : DoneP w b n D p d Ls) (hb : Below w.heap.size w w') : DoneP w' b n D p d Ls :=
  ⟨h.map.kept (row := none) ⟨hb.os, hb.tape, hb.output, hb.size, fun k hk _ => hb.block k hk⟩ (by simp), h.one, fun e he hh => by
    obtain ⟨v, L, h1, h2, h3⟩ := h.ok e he hh
    exact ⟨v, L, h1, h2.below hb, h3⟩⟩
/-- Other blocks are written: not those that hold what the map has (they are told by a bound). -/
theorem DoneP.most {w : World} {b n n' : Nat} {D : DataW Value} {p d : Int} {Ls : List (List Tm)} (h : DoneP w b n D p d Ls) (hn : n ≤ n') : DoneP w b n' D p d Ls :=
  ⟨h.map.mono hn, h.one, h.ok⟩
theorem DoneP.put {w w' : World} {b n : Nat} {D : DataW Value} {p d : Int} {Ls : List (List Tm)} {e : Int × Int × Int} {v : Value} {L : List Tm} (h : DoneP w b n D p d Ls) (he : byte3 e) (hS : SliceT w v L) (hL : PrR p (facL Ls e) L)
    (hm : MapP w' b (n + 1) (D.put (kE e) (.held (.agg #[.int .i64 p, .int .i64 d, v])))) (hg : w.grownBy w' (some b)) : DoneP w' b (n + 1) (D.put (kE e) (.held (.agg #[.int .i64 p, .int .i64 d, v]))) p d Ls := by
  have hD : IsMap D := h.map.isMap
  have hz : byte3 ((0 : Int), (0 : Int), (0 : Int)) := by unfold byte3; simp
  refine ⟨hm, ?_, fun e' he' hh => ?_⟩
  · by_cases hx : ((0 : Int), (0 : Int), (0 : Int)) = e
    · rw [hx]; exact has_put_same hD (kE_key _) _
    · rw [has_put_other (kE_ne hz he hx)]; exact h.one
  · by_cases hx : e' = e
    · subst hx
      exact ⟨v, L, atKey_put_same hD (kE_key _) _ _, hS.besideP h.map hg, hL⟩
    · rw [has_put_other (kE_ne he' he hx)] at hh
      obtain ⟨v', L', h1, h2, h3⟩ := h.ok e' he' hh
      exact ⟨v', L', by rw [atKey_put_other (kE_ne he' he hx)]; exact h1, h2.besideP h.map hg, h3⟩
end Go.Proofs.Ytbahejlgfpilnaa
namespace Go.Proofs.Ytbahejlgfpilnaa
open Go.RowKit Go.Sort Go.Maps

theorem DoneP.setBox {w : World} {b n : Nat} {D : DataW Value} {p d : Int} {Ls : List (List Tm)} {q i : Nat} {u : Value} {t : TypeId} {F : Nat → Value} (h : DoneP w b n D p d Ls) (hr : w.rowIs q t 3 F) (hne : b ≠ q) : DoneP (w.setCell ⟨q, i, none⟩ u) b n D p d Ls :=
  ⟨h.map.setCell (by simpa using hne) u, h.one, fun e he hh => by
    obtain ⟨v, L, h1, h2, h3⟩ := h.ok e he hh
    exact ⟨v, L, h1, h2.setBox hr, h3⟩⟩
theorem MapP.ne {w : World} {b n B N : Nat} {D : DataW Value} {t : TypeId} {f : Nat → Value} (h : MapP w b n D) (hr : w.rowIs B t N f) : B ≠ b := fun e => by
  obtain ⟨es, clock, hb, _⟩ := h
  obtain ⟨c, hc, _⟩ := hr
  rw [e, hb] at hc
  simp at hc
theorem MapP.noCell {w : World} {b n : Nat} {D : DataW Value} (h : MapP w b n D) (o : Nat) : w.cell? ⟨b, o, none⟩ = none := by
  obtain ⟨es, clock, hb, _⟩ := h
  simp [World.cell?, hb]
theorem PolysW.besideP {w w' : World} {b n b1 off : Nat} {D : DataW Value} {G : List Pm} (h : PolysW w b1 off G) (hlt : b1 < w.heap.size) (hM : MapP w b n D) (hg : w.grownBy w' (some b)) : PolysW w' b1 off G := fun k hk => by
  obtain ⟨u, h0, h1, h2, hS⟩ := h k hk
  have hne : b1 ≠ b := fun e => by
    rw [e, hM.noCell] at h0
    simp at h0
  have q : ∀ o, w'.cell? ⟨b1, o, none⟩ = w.cell? ⟨b1, o, none⟩ := fun o => hg.cell_far ⟨b1, o, none⟩ hlt (by simpa using hne)
  exact ⟨u, (q _).trans h0, (q _).trans h1, (q _).trans h2, hS.besideP hM hg⟩
theorem SlP.besideP {w w' : World} {b n : Nat} {D : DataW Value} {v : Value} {G : List Pm} (h : SlP w v G) (hM : MapP w b n D) (hg : w.grownBy w' (some b)) : SlP w' v G := by
  obtain ⟨a, cap, hv, h | ⟨b1, off, ha, hlt, hT⟩⟩ := h
  · exact ⟨a, cap, hv, .inl h⟩
  · exact ⟨a, cap, hv, .inr ⟨b1, off, ha, Nat.lt_of_lt_of_le hlt hg.size, hT.besideP hlt hM hg⟩⟩
theorem rowG {w w' : World} {b B n : Nat} {t : TypeId} {f : Nat → Value} (h : w.rowIs B t n f) (hg : w.grownBy w' (some b)) (hne : B ≠ b) : w'.rowIs B t n f := h.of_block (hg.block B h.lt (by simpa using hne))
theorem gBelow {w w' : World} {b : Nat} (h : Below w.heap.size w w') : w.grownBy w' (some b) := ⟨h.os, h.tape, h.output, h.size, fun k hk _ => h.block k hk⟩
theorem gSetNew {w w' : World} {b q o : Nat} {v : Value} (h : w.grownBy w' (some b)) (hq : w.heap.size ≤ q) : w.grownBy (w'.setCell ⟨q, o, none⟩ v) (some b) :=
  ⟨h.os, h.tape, h.output, by rw [World.size_setCell]; exact h.size, fun k hk hne => (Below.heap_setCell w' ⟨q, o, none⟩ v k (by show k ≠ q; omega)).trans (h.block k hk hne)⟩
/-- The look-up of what is there. -/
theorem DoneP.yes {w : World} {b n : Nat} {D : DataW Value} {p d : Int} {Ls : List (List Tm)} {x y z : Int} (h : DoneP w b n D p d Ls) (he : byte3 (x, y, z)) (hh : Maps.has D (kE (x, y, z)) = true) : ∃ v L, (Instr.lookup 195 (.map (some b)) (.agg #[.int .u8 x, .int .u8 y, .int .u8 z]) true).run Try.prog w = .ok (.tuple #[.agg #[.int .i64 p, .int .i64 d, v], .bool true]) w ∧ SliceT w v L ∧ PrR p (facL Ls (x, y, z)) L := by
  obtain ⟨v, L, h1, h2, h3⟩ := h.ok _ he hh
  obtain ⟨v', ps, hrun, hv⟩ := h.map.look_ok lawK Try.underlying195 (zeroP w) (zd := zP) (zp := []) rfl (keyOf_vE (x, y, z) he)
  rw [h1] at hv
  simp [elemP] at hv
  rw [hh, hv.1] at hrun
  exact ⟨v, L, hrun, h2, h3⟩
theorem DoneP.no {w : World} {b n : Nat} {D : DataW Value} {p d : Int} {Ls : List (List Tm)} {x y z : Int} (h : DoneP w b n D p d Ls) (he : byte3 (x, y, z)) (hh : Maps.has D (kE (x, y, z)) = false) : (Instr.lookup 195 (.map (some b)) (.agg #[.int .u8 x, .int .u8 y, .int .u8 z]) true).run Try.prog w = .ok (.tuple #[.agg #[.int .i64 0, .int .i64 0, .slice none 0 0], .bool false]) w := by
  obtain ⟨v', ps, hrun, hv⟩ := h.map.look_ok lawK Try.underlying195 (zeroP w) (zd := zP) (zp := []) rfl (keyOf_vE (x, y, z) he)
  rw [atKey_of_not_has hh] at hv
  simp [elemP] at hv
  rw [hh, hv.1] at hrun
  exact hrun

/-- A monomial with one exponent less. -/
def downE (e : Int × Int × Int) (t : Nat) : Int × Int × Int := (if t = 0 then e.1 - 1 else e.1, if t = 1 then e.2.1 - 1 else e.2.1, if t = 2 then e.2.2 - 1 else e.2.2)
theorem downE_facts {Ls : List (List Tm)} {x y z : Int} {t s : Nat} (ht : t < 3) (h0 : 0 < nthE (x, y, z) t) (hb : byte3 (x, y, z)) (hs : x + y + z = s) (hz : ∀ i, t < i → nthE (x, y, z) i = 0) :
    byte3 (downE (x, y, z) t) ∧ (downE (x, y, z) t).1 + (downE (x, y, z) t).2.1 + (downE (x, y, z) t).2.2 = (s : Int) - 1 ∧ (∀ i, t < i → nthE (downE (x, y, z) t) i = 0) ∧ facL Ls (x, y, z) = nthL Ls t :: facL Ls (downE (x, y, z) t) ∧ bndE Ls (downE (x, y, z) t) + dgN Ls t = bndE Ls (x, y, z) := by
  obtain ⟨⟨a1, a2⟩, ⟨a3, a4⟩, a5, a6⟩ : (0 ≤ x ∧ x ≤ 255) ∧ (0 ≤ y ∧ y ≤ 255) ∧ (0 ≤ z ∧ z ≤ 255) := hb
  have z1 := hz 1
  have z2 := hz 2
  match t, ht with
  | 0, _ =>
    have h1 : y = 0 := by simpa [nthE] using z1 (by omega)
    have h2 : z = 0 := by simpa [nthE] using z2 (by omega)
    subst h1 h2
    have hx : 0 < x := by simpa [nthE] using h0
    refine ⟨by unfold byte3 downE; simp; omega, by simp [downE]; omega, fun i hi => ?_, fac_pos_a hx, ?_⟩
    · unfold nthE downE
      rw [if_neg (by omega)]
      simp
    · simp only [bndE, downE]
      simp [Int.sub_mul]
  | 1, _ =>
    have h2 : z = 0 := by simpa [nthE] using z2 (by omega)
    subst h2
    have hx : 0 < y := by simpa [nthE] using h0
    refine ⟨by unfold byte3 downE; simp; omega, by simp [downE]; omega, fun i hi => ?_, fac_pos_b hx, ?_⟩
    · unfold nthE downE
      rw [if_neg (by omega), if_neg (by omega)]
      simp
    · simp only [bndE, downE]
      simp [Int.sub_mul]
      omega
  | 2, _ =>
    have hx : 0 < z := by simpa [nthE] using h0
    refine ⟨by unfold byte3 downE; simp; omega, by simp [downE]; omega, fun i hi => ?_, fac_pos_c hx, ?_⟩
    · unfold nthE
      rw [if_neg (by omega), if_neg (by omega), if_neg (by omega)]
    · simp only [bndE, downE]
      simp [Int.sub_mul]
      omega
theorem down_row {w : World} {B : Nat} {x y z : Int} {t : Nat} (h : w.rowIs B 107 3 (expsF x y z)) (ht : t < 3) : (w.setCell ⟨B, t, none⟩ (.int .u8 (nthE (x, y, z) t - 1))).rowIs B 107 3 (expsF (downE (x, y, z) t).1 (downE (x, y, z) t).2.1 (downE (x, y, z) t).2.2) := by
  refine (h.set t _).congr fun i hi => ?_
  match t, i, ht, hi with
  | 0, 0, _, _ => rfl
  | 0, 1, _, _ => rfl
  | 0, 2, _, _ => rfl
  | 1, 0, _, _ => rfl
  | 1, 1, _, _ => rfl
  | 1, 2, _, _ => rfl
  | 2, 0, _, _ => rfl
  | 2, 1, _, _ => rfl
  | 2, 2, _, _ => rfl
theorem nthX_cell {w : World} {B : Nat} {x y z : Int} (h : w.rowIs B 107 3 (expsF x y z)) {k : Nat} (hk : k < 3) : w.cell? ⟨B, k, none⟩ = some (.int .u8 (nthE (x, y, z) k)) := by
  have := h.cell (i := k) (by omega)
  rw [this]
  match k, hk with
  | 0, _ => rfl
  | 1, _ => rfl
  | 2, _ => rfl
end Go.Proofs.Ytbahejlgfpilnaa
namespace Go.Proofs.Ytbahejlgfpilnaa
open Go.RowKit Go.Sort Go.Maps

/-- A map of coefficients in the making, beside the boxes of two arguments and the result. -/
structure MapSt2 (w wr : World) (b n a a2 r : Nat) (p d : Int) (xv yv : Value) (D : DataW Unit) : Prop where
  st : MapSt w wr b n a r p d xv D
  arg2 : wr.rowIs a2 42 3 (polyF p d yv)
theorem MapSt2.later {w wr w1 : World} {b n a a2 r : Nat} {p d : Int} {xv yv : Value} {D : DataW Unit} (h : MapSt2 w wr b n a a2 r p d xv yv D) (hb : Below wr.heap.size wr w1) : MapSt2 w w1 b n a a2 r p d xv yv D :=
  ⟨h.st.later hb, rowIs_below h.arg2 hb h.arg2.lt⟩
theorem MapSt2.wrote {w wr w1 : World} {b n n' a a2 r : Nat} {p d : Int} {xv yv : Value} {D D' : DataW Unit} (h : MapSt2 w wr b n a a2 r p d xv yv D) (hg : wr.grownBy w1 (some b)) (hm : MapE w1 b n' D') : MapSt2 w w1 b n' a a2 r p d xv yv D' :=
  ⟨h.st.wrote hg hm, h.arg2.of_block (hg.block a2 h.arg2.lt (by simpa using row_not_map h.arg2 h.st.map))⟩
theorem MapSt2.most {w wr : World} {b n n' a a2 r : Nat} {p d : Int} {xv yv : Value} {D : DataW Unit} (h : MapSt2 w wr b n a a2 r p d xv yv D) (hn : n ≤ n') : MapSt2 w wr b n' a a2 r p d xv yv D :=
  ⟨⟨h.st.map.mono hn, h.st.arg, h.st.res, h.st.below, h.st.b1, h.st.r1⟩, h.arg2⟩
/-- The exponents after j letters have been added. -/
def eAdd (x y z x' y' z' : Int) (j : Nat) : Nat → Value := expsF (if 0 < j then x + x' else x) (if 1 < j then y + y' else y) (if 2 < j then z + z' else z)
theorem erow1 (w : World) (o : Obj) (x y z : Int) : ((w.alloc o).alloc (.cells #[.int .u8 x, .int .u8 y, .int .u8 z] 107)).rowIs (w.heap.size + 1) 107 3 (expsF x y z) := by
  have := World.rowIs_alloc (w.alloc o) #[Value.int .u8 x, .int .u8 y, .int .u8 z] 107 (expsF x y z) (fun i hi => by simp at hi; match i, hi with | 0, _ => rfl | 1, _ => rfl | 2, _ => rfl)
  rwa [World.size_alloc] at this
theorem eset {w : World} {b : Nat} {x y z x' y' z' : Int} {j : Nat} (h : w.rowIs b 107 3 (eAdd x y z x' y' z' j)) (u : Int) (hj : j < 3) (hu : u = (if j = 0 then x + x' else if j = 1 then y + y' else z + z')) : (w.setCell ⟨b, j, none⟩ (.int .u8 u)).rowIs b 107 3 (eAdd x y z x' y' z' (j + 1)) := by
  refine (h.set j (.int .u8 u)).congr fun i hi => ?_
  subst hu
  match j, i, hj, hi with
  | 0, 0, _, _ => rfl
  | 0, 1, _, _ => rfl
  | 0, 2, _, _ => rfl
  | 1, 0, _, _ => rfl
  | 1, 1, _, _ => rfl
  | 1, 2, _, _ => rfl
  | 2, 0, _, _ => rfl
  | 2, 1, _, _ => rfl
  | 2, 2, _, _ => rfl

theorem gset {V w : World} {e : Nat} (h : V.grownBy w (some e)) (j : Nat) (v : Value) : V.grownBy (w.setCell ⟨e, j, none⟩ v).drew (some e) :=
  ⟨h.os, h.tape, h.output, by show _ ≤ (w.setCell ⟨e, j, none⟩ v).heap.size; rw [World.size_setCell]; exact h.size, fun k hk hne => (Below.heap_setCell w ⟨e, j, none⟩ v k (fun x => hne (by rw [x]))).trans (h.block k hk hne)⟩

set_option maxRecDepth 8000 in
set_option maxHeartbeats 16000000 in
theorem product_any (p d : Int) (v v' : Value) (xs ys : List Tm) (w : World) (hS : SliceT w v xs) (hS' : SliceT w v' ys) (hV : Valid p d xs) (hV' : Valid p d ys) (hfit : Fits xs ys) :
    Calls Try.prog 158 #[.agg #[.int .i64 p, .int .i64 d, v], .agg #[.int .i64 p, .int .i64 d, v']] w fun e w' =>
      ∃ v' L, e = .returned (.agg #[.int .i64 p, .int .i64 d, v']) ∧ OwnP w' w.heap.size v' L ∧ IsP p L (mulF p xs ys) ∧ Below w.heap.size w w' := by
  have hp2 := hV.p2
  have hp13 := hV.p13
  have hlx := hV.isP.len
  have hly := hV'.isP.len
  obtain ⟨L, hL⟩ := mul_ex hV hV' hfit
  obtain ⟨a, cap, rfl, _⟩ := id hS
  obtain ⟨a', cap', rfl, _⟩ := id hS'
  obtain ⟨W, hW, hbW, ⟨hWs1, hWs2⟩, rx, ry, rr⟩ := pair3 w p d (.slice a xs.length cap) p d (.slice a' ys.length cap')
  have hmm := @run_makeMap Try.prog
  have hm := World.ownsMap_made (H := Unit) W Try.prog 107 (plainElem Try.prog 2)
  obtain ⟨V, hV1, hbV, hVs1⟩ : ∃ V, V = W.alloc (.map #[] 0) ∧ Below W.heap.size W V ∧ W.heap.size + 1 ≤ V.heap.size := ⟨_, rfl, box1 _ _, by simp⟩
  rw [← hV1] at hm
  have hst : MapSt2 w V W.heap.size 0 w.heap.size (w.heap.size + 1) (w.heap.size + 2) p d (.slice a xs.length cap) (.slice a' ys.length cap') (.map []) :=
    ⟨⟨hm, rowIs_below rx hbV rx.lt, rowIs_below rr hbV rr.lt, hbW.trans (hbV.mono hbW.size), hbW.size, by omega⟩, rowIs_below ry hbV ry.lt⟩
  have xo : ∀ o, (W.alloc o).cell? ⟨w.heap.size, 2, none⟩ = some (.slice a xs.length cap) := fun o => ((box1 W o).cell rx.lt).trans (poly3 rx).1.2.2
  go_enter Try.func158, Try.ntmps158
  go_upto_region 1 with fail
  rw [← hW]
  clear hW
  go_wp2_with fail
  rw [← hV1]
  clear hV1 xo hm rx ry rr
  go_loopw [16] (fun j wr => ∃ (i : Nat) (D : DataW Unit), i ≤ xs.length ∧ j = .int .i64 i ∧ Hid (∀ e, byte3 e → cf D e = mulF p (xs.take i) ys e) ∧ MapSt2 w wr W.heap.size (i * 2197) w.heap.size (w.heap.size + 1) (w.heap.size + 2) p d (.slice a xs.length cap) (.slice a' ys.length cap') D) (fun j _ => xs.length - (intOf j).toNat)
  case atStart => exact ⟨0, _, by omega, rfl, Lib.hid (fun e _ => by rw [cf_empty]; simp [mulF_nil]), hst⟩
  case round =>
    clear hst
    obtain ⟨i, D, hi, rfl, HD, hM⟩ := hrel
    obtain ⟨wo, rfl⟩ : ∃ wo : World, wo = wr := ⟨_, rfl⟩
    by_cases hlt1 : i < xs.length
    · have hlt' : (i : Int) < (xs.length : Int) := by omega
      obtain ⟨A1, cap1, hv1, hcase1⟩ := hS.below hM.st.below
      simp at hv1
      obtain ⟨rfl, rfl⟩ := hv1
      rcases hcase1 with h0 | ⟨b1, off1, rfl, hltb1, hTx⟩
      · rw [h0] at hlt1; exact absurd hlt1 (by simp)
      obtain ⟨c0, c1, c2, c3⟩ := hTx i hlt1
      obtain ⟨⟨⟨bx, by1, bz⟩, hs12⟩, bv1, bv2⟩ := hV.mem xs[i] (List.getElem_mem _)
      have HF := Lib.hid (fun k (h : k < ys.length) e => prt_step p xs ys i xs[i] k h e)
      have HZ := Lib.hid (fun e => prt_zero p xs ys i xs[i] e)
      have HN := Lib.hid (fun e => prt_full p xs ys i hlt1 e)
      have HE := Lib.hid (fun (k : Nat) (h : k < ys.length) => hfit xs[i] (List.getElem_mem _) ys[k] (List.getElem_mem _))
      simp only [tmE] at bx by1 bz
      have HB := Lib.hid (fun k e => (⟨Int.emod_nonneg _ (by omega), Int.emod_lt_of_pos _ (by omega)⟩ : 0 ≤ prt p xs ys i xs[i] k e ∧ prt p xs ys i xs[i] k e < p))
      generalize hpr : prt p xs ys i xs[i] = F at HF HZ HN HB
      generalize hx : xs[i].1 = x at *
      generalize hy : xs[i].2.1 = y at *
      generalize hz : xs[i].2.2.1 = z at *
      generalize hvv : xs[i].2.2.2 = u at *
      have htm : tmE xs[i] = (x, y, z) := by simp [tmE, hx, hy, hz]
      rw [htm] at HF
      clear hpr hx hy hz hvv htm hTx hV
      have hM1 := hM.later (box1 wo (.cells #[.int .u8 x, .int .u8 y, .int .u8 z, .int .i64 u] 151))
      have rs := trow wo x y z u
      obtain ⟨⟨m0, m1, m2⟩, _⟩ := poly3 hM.st.arg
      have yo : ∀ o, (wo.alloc o).cell? ⟨w.heap.size + 1, 2, none⟩ = some (.slice a' ys.length cap') := fun o => ((box1 wo o).cell hM.arg2.lt).trans (poly3 hM.arg2).1.2.2
      have HD0 : Hid (∀ e, byte3 e → cf D e = F 0 e) := Lib.hid (fun e he => (HD.out e he).trans (HZ.out e).symm)
      go_wp2_with fail
      clear m0 m1 m2 c0 c1 c2 c3 yo HD HZ
      go_loopw [23] (fun j wr => ∃ (k : Nat) (D : DataW Unit), k ≤ ys.length ∧ j = .int .i64 k ∧ Hid (∀ e, byte3 e → cf D e = F k e) ∧ MapSt2 w wr W.heap.size (i * 2197 + k) w.heap.size (w.heap.size + 1) (w.heap.size + 2) p d (.slice (some ⟨b1, off1, none⟩) xs.length cap) (.slice a' ys.length cap') D ∧ wr.rowIs wo.heap.size 151 4 (tmF x y z u)) (fun j _ => ys.length - (intOf j).toNat)
      case atStart => exact ⟨0, D, by omega, rfl, HD0, hM1, rs⟩
      case round =>
        clear hM1 rs HD0 hM
        obtain ⟨k, D, hk, rfl, HD, hM, rs⟩ := hrel
        obtain ⟨wk, rfl⟩ : ∃ wk : World, wk = wr := ⟨_, rfl⟩
        by_cases hlt2 : k < ys.length
        · have hlt2' : (k : Int) < (ys.length : Int) := by omega
          obtain ⟨A2, cap2, hv2, hcase2⟩ := hS'.below hM.st.below
          simp at hv2
          obtain ⟨rfl, rfl⟩ := hv2
          rcases hcase2 with h0 | ⟨b2, off2, rfl, hltb2, hTy⟩
          · rw [h0] at hlt2; exact absurd hlt2 (by simp)
          obtain ⟨d0, d1, d2, d3⟩ := hTy k hlt2
          obtain ⟨⟨⟨bx', by1', bz'⟩, hs12'⟩, bv1', bv2'⟩ := hV'.mem ys[k] (List.getElem_mem _)
          have HS := Lib.hid (HF.out k hlt2)
          have hft := HE.out k hlt2
          simp only [tmE] at bx' by1' bz'
          generalize hx' : ys[k].1 = x' at *
          generalize hy' : ys[k].2.1 = y' at *
          generalize hz' : ys[k].2.2.1 = z' at *
          generalize hv' : ys[k].2.2.2 = u' at *
          have htm' : tmE ys[k] = (x', y', z') := by simp [tmE, hx', hy', hz']
          rw [htm'] at HS
          clear hx' hy' hz' hv' htm' hTy
          have hE1 : byte3 (x + x', y + y', z + z') := by unfold byte3; simp only []; omega
          have s0 := rs.cell (i := 0) (by omega)
          have s1 := rs.cell (i := 1) (by omega)
          have s2 := rs.cell (i := 2) (by omega)
          have s3 := rs.cell (i := 3) (by omega)
          simp [tmF] at s0 s1 s2 s3
          obtain ⟨V2, hV2, hbV2, ⟨hV2s1, hV2s2⟩, rt, re⟩ : ∃ V2, V2 = (wk.alloc (.cells #[.int .u8 x', .int .u8 y', .int .u8 z', .int .i64 u'] 151)).alloc (.cells #[.int .u8 x, .int .u8 y, .int .u8 z] 107) ∧ Below wk.heap.size wk V2 ∧ (V2.heap.size ≤ wk.heap.size + 2 ∧ wk.heap.size + 2 ≤ V2.heap.size) ∧
              V2.rowIs wk.heap.size 151 4 (tmF x' y' z' u') ∧ V2.rowIs (wk.heap.size + 1) 107 3 (eAdd x y z x' y' z' 0) :=
            ⟨_, rfl, box2 _ _ _, ⟨by simp, by simp⟩, (trow wk x' y' z' u').alloc _, erow1 wk _ x y z⟩
          obtain ⟨⟨m0, m1, m2⟩, _⟩ := poly3 hM.arg2
          have so : ∀ o, ((wk.alloc o).cell? ⟨wo.heap.size, 0, none⟩ = some (.int .u8 x) ∧ (wk.alloc o).cell? ⟨wo.heap.size, 1, none⟩ = some (.int .u8 y) ∧ (wk.alloc o).cell? ⟨wo.heap.size, 2, none⟩ = some (.int .u8 z)) := fun o =>
            ⟨((box1 wk o).cell (p := ⟨_, _, none⟩) rs.lt).trans s0, ((box1 wk o).cell (p := ⟨_, _, none⟩) rs.lt).trans s1, ((box1 wk o).cell (p := ⟨_, _, none⟩) rs.lt).trans s2⟩
          go_wp2_with fail
          rw [← hV2]
          clear hV2 so m0 m1 m2 d0 d1 d2 d3 s0 s1 s2 s3
          go_loopw [11, 29] (fun _ j wr => ∃ (jn : Nat) (ji : Int), ((jn = 0 ∧ ji = 0) ∨ (jn = 1 ∧ ji = 1) ∨ (jn = 2 ∧ ji = 2) ∨ (jn = 3 ∧ ji = 3)) ∧ j = .int .i64 ji ∧ wr.rowIs (wk.heap.size + 1) 107 3 (eAdd x y z x' y' z' jn) ∧ V2.grownBy wr (some (wk.heap.size + 1))) (fun _ j _ => 3 - (intOf j).toNat)
          case atStart => exact ⟨0, 0, .inl ⟨rfl, rfl⟩, rfl, re, World.grownBy.refl _ _⟩
          case round =>
            obtain ⟨jn, ji, hj, rfl, rej, hgr⟩ := hrel
            have rtj := rt.of_block (hgr.block _ rt.lt (by simp))
            rcases hj with ⟨rfl, rfl⟩ | ⟨rfl, rfl⟩ | ⟨rfl, rfl⟩ | ⟨rfl, rfl⟩
            · have m0 : wr.cell? ⟨wk.heap.size + 1, 0, none⟩ = some (.int .u8 x) := rej.cell (i := 0) (by omega)
              have m1 : wr.cell? ⟨wk.heap.size, 0, none⟩ = some (.int .u8 x') := rtj.cell (i := 0) (by omega)
              have m2 := rej.frozen 0
              have g1 : IntKind.u8.wrap (x + x') = x + x' := IntWalk.u8_in _ (by omega)
              have hre := eset rej (x + x') (by omega) rfl
              have hge := gset hgr 0 (.int .u8 (x + x'))
              have Hre := Lib.hid hre
              clear rej rtj re rt hre
              go_wp2_with fail
              refine region_tail 9 (by kernel_rfl) (by kernel_rfl) ?_
              simp only [List.take_succ_cons, List.take_zero, List.drop_succ_cons, List.drop_zero]
              repeat still_step
              refine wpStill_nil ?_
              go_wp2_with fail
              go_roundw
              case rel => exact ⟨1, 1, by omega, by go_num, Hre.out, hge⟩
              case measure => simp [intOf]
            · have m0 : wr.cell? ⟨wk.heap.size + 1, 1, none⟩ = some (.int .u8 y) := rej.cell (i := 1) (by omega)
              have m1 : wr.cell? ⟨wk.heap.size, 1, none⟩ = some (.int .u8 y') := rtj.cell (i := 1) (by omega)
              have m2 := rej.frozen 1
              have g1 : IntKind.u8.wrap (y + y') = y + y' := IntWalk.u8_in _ (by omega)
              have hre := eset rej (y + y') (by omega) rfl
              have hge := gset hgr 1 (.int .u8 (y + y'))
              have Hre := Lib.hid hre
              clear rej rtj re rt hre
              go_wp2_with fail
              refine region_tail 9 (by kernel_rfl) (by kernel_rfl) ?_
              simp only [List.take_succ_cons, List.take_zero, List.drop_succ_cons, List.drop_zero]
              repeat still_step
              refine wpStill_nil ?_
              go_wp2_with fail
              go_roundw
              case rel => exact ⟨2, 2, by omega, by go_num, Hre.out, hge⟩
              case measure => simp [intOf]
            · have m0 : wr.cell? ⟨wk.heap.size + 1, 2, none⟩ = some (.int .u8 z) := rej.cell (i := 2) (by omega)
              have m1 : wr.cell? ⟨wk.heap.size, 2, none⟩ = some (.int .u8 z') := rtj.cell (i := 2) (by omega)
              have m2 := rej.frozen 2
              have g1 : IntKind.u8.wrap (z + z') = z + z' := IntWalk.u8_in _ (by omega)
              have hre := eset rej (z + z') (by omega) rfl
              have hge := gset hgr 2 (.int .u8 (z + z'))
              have Hre := Lib.hid hre
              clear rej rtj re rt hre
              go_wp2_with fail
              refine region_tail 9 (by kernel_rfl) (by kernel_rfl) ?_
              simp only [List.take_succ_cons, List.take_zero, List.drop_succ_cons, List.drop_zero]
              repeat still_step
              refine wpStill_nil ?_
              go_wp2_with fail
              go_roundw
              case rel => exact ⟨3, 3, by omega, by go_num, Hre.out, hge⟩
              case measure => simp [intOf]
            · have hbj : Below wk.heap.size wk wr := hbV2.grown hgr hbV2.size (fun g e => by simp at e; omega)
              have hMj := hM.later hbj
              have rsj := rowIs_below rs hbj rs.lt
              have k0 : wr.cell? ⟨wk.heap.size + 1, 0, none⟩ = some (.int .u8 (x + x')) := rej.cell (i := 0) (by omega)
              have k1 : wr.cell? ⟨wk.heap.size + 1, 1, none⟩ = some (.int .u8 (y + y')) := rej.cell (i := 1) (by omega)
              have k2 : wr.cell? ⟨wk.heap.size + 1, 2, none⟩ = some (.int .u8 (z + z')) := rej.cell (i := 2) (by omega)
              have s3 : wr.cell? ⟨wo.heap.size, 3, none⟩ = some (.int .i64 u) := rsj.cell (i := 3) (by omega)
              have t3 : wr.cell? ⟨wk.heap.size, 3, none⟩ = some (.int .i64 u') := rtj.cell (i := 3) (by omega)
              obtain ⟨⟨p0, _, _⟩, _⟩ := poly3 hMj.st.arg
              have hkey : keyOf Try.prog 107 (.agg #[.int .u8 (x + x'), .int .u8 (y + y'), .int .u8 (z + z')]) = some (kE (x + x', y + y', z + z')) := keyOf_vE (x + x', y + y', z + z') hE1
              have hMd := hMj.later (Below.same wr).drew
              obtain ⟨c, hrun, hat, _⟩ := hMd.st.map.lookup_int lawK Try.underlying168 Try.underlying2 (zero64 _) hkey
              have hce : c = F k (x + x', y + y', z + z') := by rw [← HD.out _ hE1]; exact (cf_of_at hat).symm
              obtain ⟨b0, b1⟩ := HB.out k (x + x', y + y', z + z')
              rw [← hce] at b0 b1
              have HC := Lib.hid hce
              clear hce hat
              have g1 : 0 ≤ u * u' := Int.mul_nonneg (by omega) (by omega)
              have g2 : u * u' ≤ 13 * 13 := Int.mul_le_mul (by omega) (by omega) (by omega) (by omega)
              have hw : IntKind.i64.wrap (u * u') = u * u' := IntWalk.i64_in _ (by omega)
              have hw2 : IntKind.i64.wrap (c + u * u') = c + u * u' := IntWalk.i64_in _ (by omega)
              have hp0 : ¬ p = 0 := by omega
              have hp1 : (p == 0) = false := by simpa using hp0
              have ht : (c + u * u').tmod p = (c + u * u') % p := Int.tmod_eq_emod_of_nonneg (by omega)
              have q1 : 0 ≤ (c + u * u') % p := Int.emod_nonneg _ (by omega)
              have q2 : (c + u * u') % p < p := Int.emod_lt_of_pos _ (by omega)
              have HD2 : Hid (∀ e, byte3 e → cf (D.put (kE (x + x', y + y', z + z')) (.lit (.int .i64 ((c + u * u') % p)))) e = F (k + 1) e) := Lib.hid (fun e he => by
                rw [cf_put hMd.st.map.isMap hE1 he, HS.out e, HD.out e he, HC.out, Int.add_comm (F k _) (u * u')]
                rfl)
              clear HC HD HS HF HE HN hM hMj rej rtj re rt hgr
              go_wp2_with fail
              refine region_tail 14 (by kernel_rfl) (by kernel_rfl) ?_
              simp only [List.take_succ_cons, List.take_zero, List.drop_succ_cons, List.drop_zero]
              repeat still_step
              refine wpStill_nil ?_
              try simp only [hw, hw2, ht]
              go_wp2_with (at_mapUpdate; refine wpList_mapUpdate_own _ rfl _ _ _ 168 rfl 107 2 lawK Try.underlying168 (plainElem Try.prog 2) W.heap.size (i * 2197 + k) D rfl hMd.st.map (by unfold maxLen; omega) (.agg #[.int .u8 (x + x'), .int .u8 (y + y'), .int .u8 (z + z')]) _ _ rfl rfl hkey _ [] (plainElem_int Try.underlying2 (wf64 q1 (by omega))) ?_; intro w3 hown3 hgrow3)
              have rsd := rowIs_below rsj (Below.same wr).drew rsj.lt
              have rs3 := rsd.of_block (hgrow3.block _ rsd.lt (by simpa using row_not_map rsd hMd.st.map))
              have hM3 := (hMd.wrote hgrow3 hown3).most (n' := i * 2197 + (k + 1)) (by omega)
              go_roundw
              case rel => exact ⟨k + 1, _, by omega, by go_num, HD2, hM3, rs3⟩
              case measure => simp [intOf]; omega
        · obtain rfl : k = ys.length := by omega
          have HD2 : Hid (∀ e, byte3 e → cf D e = mulF p (xs.take (i + 1)) ys e) := Lib.hid (fun e he => (HD.out e he).trans (HN.out e))
          have hM2 := hM.most (n' := (i + 1) * 2197) (by omega)
          clear HD HN HF HE hM
          go_wp2_with fail
          go_roundw
          case rel => exact ⟨i + 1, D, by omega, by go_num, HD2, hM2⟩
          case measure => simp [intOf]; omega
    · obtain rfl : i = xs.length := by omega
      have hD := HD.out
      rw [List.take_length] at hD
      have HD2 := Lib.hid hD
      clear HD hD
      obtain ⟨⟨c0, c1, c2⟩, _⟩ := poly3 hM.st.arg
      have hbd : ∀ e, byte3 e → 0 ≤ mulF p xs ys e ∧ mulF p xs ys e < p := fun e he => hL.bound (by omega) he
      have h12 : ∀ e, byte3 e → mulF p xs ys e ≠ 0 → e.1 + e.2.1 + e.2.2 ≤ 12 := fun e he hne => by
        rw [← hL.2.2 e he] at hne
        by_cases hmem : ∃ t ∈ L, tmE t = e
        · obtain ⟨t, ht, rfl⟩ := hmem
          exact (hL.2.1 t ht).1.2
        · exact absurd (atL_none fun t ht hx => hmem ⟨t, ht, hx⟩) hne
      go_wp2_with fail
      ((with_reducible refine (polyOf_any sort_says p d W.heap.size _ D wo hM.st.map (by omega) (fun e he hne => h12 e he (by have := HD2.out e he; rwa [← this]))).mono ?_); rintro e w4 ⟨v4, S, rfl, ho4, hgood, hb4⟩)
      obtain rfl : S = L := (hgood.isP HD2.out hbd h12).unique hL
      obtain ⟨sa2, sc2, rfl⟩ := owns_slice ho4
      have rr2 := rowIs_below hM.st.res hb4 hM.st.res.lt
      obtain ⟨a0, a1, a2, a3, a4⟩ := fill_box rr2 ho4 hM.st.below.size (hM.st.below.trans (hb4.mono hM.st.below.size)) (by omega) p d
      have A0 := Lib.hid a0
      have A1 := Lib.hid a1
      have A2 := Lib.hid a2
      have A3 := Lib.hid a3
      have A4 := Lib.hid a4
      clear a0 a1 a2 a3 a4 c0 c1 c2 ho4 HD2 hbd h12 hgood hM
      obtain ⟨⟨r0, r1, r2⟩, z0, z1, z2⟩ := poly3 rr2
      go_wp2_with fail
      exact bodyPost_ret (v := .agg #[.int .i64 p, .int .i64 d, .slice sa2 S.length sc2]) (by simp [results, Try.results158, go_sem, A0.out, A1.out, A2.out]) rfl ⟨_, S, rfl, A3.out, hL, A4.out⟩
end Go.Proofs.Ytbahejlgfpilnaa
namespace Go.Proofs.Ytbahejlgfpilnaa
open Go.RowKit Go.Sort Go.Maps

theorem box_setD {Z0 w1 : World} {B0 base b n : Nat} {D : DataW Value} {p d : Int} {Ls : List (List Tm)} {F : Nat → Value} {v : Value} {S : List Tm} (hR : w1.rowIs B0 42 3 F) (hD : DoneP w1 b n D p d Ls) (hg : Z0.grownBy w1 (some b)) (hB : Z0.heap.size ≤ B0) (hs : OwnP w1 base v S) (P Q : Int) :
    (((w1.setCell ⟨B0, 0, none⟩ (.int .i64 P)).setCell ⟨B0, 1, none⟩ (.int .i64 Q)).setCell ⟨B0, 2, none⟩ v).rowIs B0 42 3 (polyF P Q v) ∧
    SliceT (((w1.setCell ⟨B0, 0, none⟩ (.int .i64 P)).setCell ⟨B0, 1, none⟩ (.int .i64 Q)).setCell ⟨B0, 2, none⟩ v) v S ∧
    DoneP (((w1.setCell ⟨B0, 0, none⟩ (.int .i64 P)).setCell ⟨B0, 1, none⟩ (.int .i64 Q)).setCell ⟨B0, 2, none⟩ v) b n D p d Ls ∧
    Z0.grownBy (((w1.setCell ⟨B0, 0, none⟩ (.int .i64 P)).setCell ⟨B0, 1, none⟩ (.int .i64 Q)).setCell ⟨B0, 2, none⟩ v) (some b) := by
  have hne := (hD.map.ne hR).symm
  have R1 := hR.set 0 (.int .i64 P)
  have R2 := R1.set 1 (.int .i64 Q)
  refine ⟨(R2.set 2 v).congr fun i hi => ?_, (((OwnP.slice hs).setBox hR).setBox R1).setBox R2, ((hD.setBox hR hne).setBox R1 hne).setBox R2 hne, gSetNew (gSetNew (gSetNew hg hB) hB) hB⟩
  match i, hi with
  | 0, _ => rfl
  | 1, _ => rfl
  | 2, _ => rfl
/-- The same where the terms lie anywhere. -/
theorem box_setS {Z0 w1 : World} {B0 b n : Nat} {D : DataW Value} {p d : Int} {Ls : List (List Tm)} {F : Nat → Value} {v : Value} {S : List Tm} (hR : w1.rowIs B0 42 3 F) (hD : DoneP w1 b n D p d Ls) (hg : Z0.grownBy w1 (some b)) (hB : Z0.heap.size ≤ B0) (hs : SliceT w1 v S) (P Q : Int) :
    (((w1.setCell ⟨B0, 0, none⟩ (.int .i64 P)).setCell ⟨B0, 1, none⟩ (.int .i64 Q)).setCell ⟨B0, 2, none⟩ v).rowIs B0 42 3 (polyF P Q v) ∧
    SliceT (((w1.setCell ⟨B0, 0, none⟩ (.int .i64 P)).setCell ⟨B0, 1, none⟩ (.int .i64 Q)).setCell ⟨B0, 2, none⟩ v) v S ∧
    DoneP (((w1.setCell ⟨B0, 0, none⟩ (.int .i64 P)).setCell ⟨B0, 1, none⟩ (.int .i64 Q)).setCell ⟨B0, 2, none⟩ v) b n D p d Ls ∧
    Z0.grownBy (((w1.setCell ⟨B0, 0, none⟩ (.int .i64 P)).setCell ⟨B0, 1, none⟩ (.int .i64 Q)).setCell ⟨B0, 2, none⟩ v) (some b) := by
  have hne := (hD.map.ne hR).symm
  have R1 := hR.set 0 (.int .i64 P)
  have R2 := R1.set 1 (.int .i64 Q)
  refine ⟨(R2.set 2 v).congr fun i hi => ?_, ((hs.setBox hR).setBox R1).setBox R2, ((hD.setBox hR hne).setBox R1 hne).setBox R2 hne, gSetNew (gSetNew (gSetNew hg hB) hB) hB⟩
  match i, hi with
  | 0, _ => rfl
  | 1, _ => rfl
  | 2, _ => rfl
/-- The boxes of a monomial and of the result. -/
theorem boxER (w : World) (x y z : Int) : ∃ W, W = (w.alloc (.cells #[.int .u8 x, .int .u8 y, .int .u8 z] 107)).alloc (.cells #[.int .i64 0, .int .i64 0, .slice none 0 0] 42) ∧ Below w.heap.size w W ∧ (W.heap.size ≤ w.heap.size + 2 ∧ w.heap.size + 2 ≤ W.heap.size) ∧
      W.rowIs w.heap.size 107 3 (expsF x y z) ∧ W.rowIs (w.heap.size + 1) 42 3 (polyF 0 0 (.slice none 0 0)) := by
  refine ⟨_, rfl, box2 _ _ _, ⟨by simp, by simp⟩, ?_, ?_⟩
  · refine World.rowIs.alloc (World.rowIs_alloc w #[Value.int .u8 x, .int .u8 y, .int .u8 z] _ _ (fun i hi => ?_)) _
    simp at hi; match i, hi with | 0, _ => rfl | 1, _ => rfl | 2, _ => rfl
  · have := World.rowIs_alloc (w.alloc (.cells #[.int .u8 x, .int .u8 y, .int .u8 z] 107)) #[Value.int .i64 0, .int .i64 0, .slice none 0 0] 42 (polyF 0 0 (.slice none 0 0)) (fun i hi => by simp at hi; match i, hi with | 0, _ => rfl | 1, _ => rfl | 2, _ => rfl)
    simpa using this
/-- What is asked of the list. -/
structure ListP (p d : Int) (G : List Pm) : Prop where
  l1 : 1 ≤ G.length
  l3 : G.length ≤ 3
  ok : ∀ g ∈ G, g.1 = p ∧ g.2.1 = d ∧ Valid p d g.2.2
theorem ListP.tms {p d : Int} {G : List Pm} (h : ListP p d G) : ∀ g ∈ tmsL G, Valid p d g := fun g hg => by
  simp only [tmsL, List.mem_map] at hg
  obtain ⟨x, hx, rfl⟩ := hg
  exact (h.ok x hx).2.2
theorem top_ex {x y z : Int} {n s : Nat} (hb : byte3 (x, y, z)) (hs : x + y + z = s) (h0 : 0 < s) (hz : ∀ i, n ≤ i → nthE (x, y, z) i = 0) : ∃ t, t < n ∧ t < 3 ∧ 0 < nthE (x, y, z) t ∧ ∀ i, t < i → nthE (x, y, z) i = 0 := by
  obtain ⟨⟨a1, a2⟩, ⟨a3, a4⟩, a5, a6⟩ : (0 ≤ x ∧ x ≤ 255) ∧ (0 ≤ y ∧ y ≤ 255) ∧ (0 ≤ z ∧ z ≤ 255) := hb
  have e0 : nthE (x, y, z) 0 = x := rfl
  have e1 : nthE (x, y, z) 1 = y := rfl
  have e2 : nthE (x, y, z) 2 = z := rfl
  have hi3 : ∀ i, 3 ≤ i → nthE (x, y, z) i = 0 := fun i hi => by
    unfold nthE; rw [if_neg (by omega), if_neg (by omega), if_neg (by omega)]
  have key : ∀ t, t < 3 → 0 < nthE (x, y, z) t → t < n := fun t _ h => Nat.lt_of_not_le fun hn => by
    have := hz t hn
    omega
  by_cases c2 : 0 < z
  · exact ⟨2, key 2 (by omega) (by rw [e2]; exact c2), by omega, by rw [e2]; exact c2, fun i hi => hi3 i (by omega)⟩
  · by_cases c1 : 0 < y
    · refine ⟨1, key 1 (by omega) (by rw [e1]; exact c1), by omega, by rw [e1]; exact c1, fun i hi => ?_⟩
      by_cases h : i = 2
      · subst h; rw [e2]; omega
      · exact hi3 i (by omega)
    · refine ⟨0, key 0 (by omega) (by rw [e0]; omega), by omega, by rw [e0]; omega, fun i hi => ?_⟩
      by_cases h : i = 2
      · subst h; rw [e2]; omega
      · by_cases h : i = 1
        · subst h; rw [e1]; omega
        · exact hi3 i (by omega)

set_option maxRecDepth 8000 in
set_option maxHeartbeats 16000000 in
theorem putIn_yes (p d : Int) (G : List Pm) (lv : Value) (b s : Nat) (x y z : Int) (n : Nat) (D : DataW Value) (w : World) (hbt : byte3 (x, y, z)) (hD : DoneP w b n D p d (tmsL G)) (hh : Maps.has D (kE (x, y, z)) = true) :
    Calls Try.prog 184 #[.agg #[.int .u8 x, .int .u8 y, .int .u8 z], lv, .map (some b)] w fun e w' =>
      ∃ v L D' n', e = .returned (.agg #[.int .i64 p, .int .i64 d, v]) ∧ SliceT w' v L ∧ PrR p (facL (tmsL G) (x, y, z)) L ∧ DoneP w' b n' D' p d (tmsL G) ∧ n' ≤ n + s ∧ w.grownBy w' (some b) := by
  obtain ⟨W, hW, hbW, ⟨hWs1, hWs2⟩, re, rr⟩ := boxER w x y z
  obtain ⟨v, L, hrun, hSv, hL⟩ := (hD.later hbW).yes hbt hh
  obtain ⟨A, c, rfl, _⟩ := id hSv
  have c0 : W.cell? ⟨w.heap.size, 0, none⟩ = some (.int .u8 x) := re.cell (i := 0) (by omega)
  have c1 : W.cell? ⟨w.heap.size, 1, none⟩ = some (.int .u8 y) := re.cell (i := 1) (by omega)
  have c2 : W.cell? ⟨w.heap.size, 2, none⟩ = some (.int .u8 z) := re.cell (i := 2) (by omega)
  obtain ⟨V, hV, hbV, _, rV⟩ := newbox W p d (.slice A L.length c)
  have rrV := rowIs_below rr hbV rr.lt
  have hDV := (hD.later hbW).later hbV
  obtain ⟨a0, a1, a2, a3⟩ := box_setS (Z0 := w) rrV hDV ((gBelow hbW).trans (gBelow hbV)) (by omega) (hSv.below hbV) p d
  obtain ⟨⟨m0, m1, m2⟩, _⟩ := poly3 a0
  obtain ⟨⟨r0, r1, r2⟩, z0, z1, z2⟩ := poly3 rrV
  obtain ⟨⟨q0, q1, q2⟩, _⟩ := poly3 rV
  have A0 := Lib.hid m0
  have A1 := Lib.hid m1
  have A2 := Lib.hid m2
  have A3 := Lib.hid a1
  have A4 := Lib.hid a2
  have A5 := Lib.hid a3
  clear m0 m1 m2 a0 a1 a2 a3 hDV rrV rV re rr hbV hSv hD
  go_enter Try.func184, Try.ntmps184
  go_upto_region 1 with fail
  rw [← hW]
  clear hW
  go_upto_region 2 with fail
  rw [← hV]
  clear hV c0 c1 c2
  go_wp2_with fail
  exact bodyPost_ret (v := .agg #[.int .i64 p, .int .i64 d, .slice A L.length c]) (by simp [results, Try.results184, go_sem, A0.out, A1.out, A2.out]) rfl ⟨_, L, D, n, rfl, A3.out, hL, A4.out, by omega, A5.out⟩

set_option maxRecDepth 8000 in
set_option maxHeartbeats 32000000 in
theorem putIn_any (p d : Int) (G : List Pm) (lv : Value) (b : Nat) (hLP : ListP p d G) : ∀ (s : Nat) (x y z : Int) (n : Nat) (D : DataW Value) (w : World), byte3 (x, y, z) → x + y + z = s → (∀ i, G.length ≤ i → nthE (x, y, z) i = 0) → bndE (tmsL G) (x, y, z) ≤ 12 → SlP w lv G → DoneP w b n D p d (tmsL G) → n + s ≤ 1048576 →
    Calls Try.prog 184 #[.agg #[.int .u8 x, .int .u8 y, .int .u8 z], lv, .map (some b)] w fun e w' =>
      ∃ v L D' n', e = .returned (.agg #[.int .i64 p, .int .i64 d, v]) ∧ SliceT w' v L ∧ PrR p (facL (tmsL G) (x, y, z)) L ∧ DoneP w' b n' D' p d (tmsL G) ∧ n' ≤ n + s ∧ w.grownBy w' (some b) := by
  intro s
  induction s with
  | zero =>
    intro x y z n D w hbt hs _ _ _ hD _
    obtain ⟨rfl, rfl, rfl⟩ : x = 0 ∧ y = 0 ∧ z = 0 := by
      obtain ⟨⟨a1, a2⟩, ⟨a3, a4⟩, a5, a6⟩ : (0 ≤ x ∧ x ≤ 255) ∧ (0 ≤ y ∧ y ≤ 255) ∧ (0 ≤ z ∧ z ≤ 255) := hbt
      omega
    exact putIn_yes p d G lv b 0 0 0 0 n D w hbt hD hD.one
  | succ s ih =>
    intro x y z n D w hbt hs hz hbd hG hD hn
    cases hh : Maps.has D (kE (x, y, z))
    case true => exact putIn_yes p d G lv b _ x y z n D w hbt hD hh
    obtain ⟨t, htn, ht3, ht0, htz⟩ := top_ex hbt hs (by omega) hz
    obtain ⟨hb', hs', hz0, hfac, hbe⟩ := downE_facts (Ls := tmsL G) ht3 ht0 hbt hs htz
    obtain ⟨x', hx'⟩ : ∃ x', (downE (x, y, z) t).1 = x' := ⟨_, rfl⟩
    obtain ⟨y', hy'⟩ : ∃ y', (downE (x, y, z) t).2.1 = y' := ⟨_, rfl⟩
    obtain ⟨z', hz'⟩ : ∃ z', (downE (x, y, z) t).2.2 = z' := ⟨_, rfl⟩
    have hdown : downE (x, y, z) t = (x', y', z') := by rw [← hx', ← hy', ← hz']
    have hrowD := fun (w : World) (B : Nat) (h : w.rowIs B 107 3 (expsF x y z)) => down_row h ht3
    simp only [hdown] at hb' hs' hz0 hfac hbe hrowD
    have hdg := dgN_nonneg (tmsL G) t
    have hg := hLP.ok G[t] (List.getElem_mem htn)
    have hnth := tmsL_nth htn
    have hzz : ∀ i, G.length ≤ i → nthE (x', y', z') i = 0 := fun i hi => hz0 i (by omega)
    -- the product of the others, and the product
    obtain ⟨L1, hL1⟩ : ∃ L1, PrR p (facL (tmsL G) (x', y', z')) L1 := pr_ex hg.2.2 (fac_valid hg.2.2 hLP.tms _ _ _) (by rw [sumD_facL _ hb']; omega)
    obtain ⟨f1, hf1⟩ := hL1.isP
    have hV1 := hg.2.2.of_isP hf1
    have hfit := fits_of hV1 hg.2.2 (PrR.room (fs := facL (tmsL G) (x', y', z')) (g := G[t].2.2) (fac_valid hg.2.2 hLP.tms _ _ _) hL1 (by rw [sumD, sumD_facL _ hb', ← hnth]; unfold dgN at hbe; omega))
    obtain ⟨L, hL⟩ := mul_ex hV1 hg.2.2 hfit
    have hPL : PrR p (facL (tmsL G) (x, y, z)) L := by rw [hfac, hnth]; exact ⟨L1, hL1, hL⟩
    obtain ⟨W, hW, hbW, ⟨hWs1, hWs2⟩, re, rr⟩ := boxER w x y z
    have hrun := (hD.later hbW).no hbt hh
    have c0 : W.cell? ⟨w.heap.size, 0, none⟩ = some (.int .u8 x) := re.cell (i := 0) (by omega)
    have c1 : W.cell? ⟨w.heap.size, 1, none⟩ = some (.int .u8 y) := re.cell (i := 1) (by omega)
    have c2 : W.cell? ⟨w.heap.size, 2, none⟩ = some (.int .u8 z) := re.cell (i := 2) (by omega)
    obtain ⟨V, hV, hbV, ⟨hVs1, hVs2⟩, rV⟩ := newbox W 0 0 (.slice none 0 0)
    have hbwV := hbW.trans (hbV.mono hbW.size)
    have rrV := rowIs_below rr hbV rr.lt
    have reV := rowIs_below re hbV re.lt
    have hDV := hD.later hbwV
    have hGV := hG.below hbwV
    obtain ⟨la, lc, rfl, hc⟩ := id hG
    have hlen : (1 : Int) ≤ (G.length : Int) ∧ (G.length : Int) ≤ 3 := ⟨by have := hLP.l1; omega, by have := hLP.l3; omega⟩
    obtain ⟨hlen1, hlen3⟩ := hlen
    obtain ⟨e0, e1⟩ : 0 < nthE (x, y, z) t ∧ nthE (x, y, z) t ≤ 255 := ⟨ht0, by
      obtain ⟨⟨a1, a2⟩, ⟨a3, a4⟩, a5, a6⟩ : (0 ≤ x ∧ x ≤ 255) ∧ (0 ≤ y ∧ y ≤ 255) ∧ (0 ≤ z ∧ z ≤ 255) := hbt
      unfold nthE
      repeat' split
      all_goals omega⟩
    have HR := Lib.hid (fun (k : Nat) (h : k < 3) => nthX_cell reV h)
    have HZ := Lib.hid htz
    go_enter Try.func184, Try.ntmps184
    go_upto_region 1 with fail
    rw [← hW]
    clear hW
    go_upto_region 2 with fail
    rw [← hV]
    clear hV c0 c1 c2 hrun
    go_wp2_with fail
    go_loop [9] (fun i => ∃ m : Nat, i = .int .i64 m ∧ t ≤ m ∧ m < G.length) (fun i => (intOf i).toNat)
    case atStart => exact ⟨G.length - 1, by rw [show ((G.length - 1 : Nat) : Int) = (G.length : Int) - 1 by omega], by omega, by omega⟩
    case round =>
      obtain ⟨m, rfl, htm, hmn⟩ := hrel
      have hm3 : m < 3 := by omega
      have hm3' : (m : Int) < 3 := by omega
      have c0 := HR.out m hm3
      by_cases hmt : m = t
      · subst hmt
        have hne : (nthE (x, y, z) m == 0) = false := by simp; omega
        have hw8 : IntKind.u8.wrap (nthE (x, y, z) m - 1) = nthE (x, y, z) m - 1 := IntWalk.u8_in _ (by omega)
        obtain ⟨b0, k0⟩ : V.cell? ⟨w.heap.size, 0, none⟩ = some (.int .u8 x) ∧ V.cell? ⟨w.heap.size, 1, none⟩ = some (.int .u8 y) := ⟨reV.cell (i := 0) (by omega), reV.cell (i := 1) (by omega)⟩
        have k2 : V.cell? ⟨w.heap.size, 2, none⟩ = some (.int .u8 z) := reV.cell (i := 2) (by omega)
        obtain ⟨X, hX, hbX, ⟨hXs1, hXs2⟩, rX⟩ : ∃ X, X = V.alloc (.cells #[.int .u8 x, .int .u8 y, .int .u8 z] 107) ∧ Below V.heap.size V X ∧ (X.heap.size ≤ V.heap.size + 1 ∧ V.heap.size + 1 ≤ X.heap.size) ∧ X.rowIs V.heap.size 107 3 (expsF x y z) :=
          ⟨_, rfl, box1 _ _, ⟨by simp, by simp⟩, World.rowIs_alloc V #[Value.int .u8 x, .int .u8 y, .int .u8 z] _ _ (fun i hi => by simp at hi; match i, hi with | 0, _ => rfl | 1, _ => rfl | 2, _ => rfl)⟩
        have g0 := nthX_cell rX hm3
        have g1 := rX.frozen m
        have rZ := hrowD X _ rX
        go_upto_region 8 with fail
        rw [← hX]
        clear hX
        obtain ⟨Z, hZ, hZ2⟩ : ∃ Z, Z = X.setCell ⟨V.heap.size, m, none⟩ (.int .u8 (nthE (x, y, z) m - 1)) ∧ Z.heap.size = X.heap.size := ⟨_, rfl, World.size_setCell _ _ _⟩
        rw [← hZ] at rZ
        have hbwX := hbwV.trans (hbX.mono hbwV.size)
        have hVw := hbwV.size
        have hbwZ : Below w.heap.size w Z := by rw [hZ]; exact hbwX.setCell (by simpa using hVw) _
        have hDZ := hD.later hbwZ
        have hGZ := hG.below hbwZ
        have reZ : Z.rowIs w.heap.size 107 3 (expsF x y z) := by
          rw [hZ]
          exact (rowIs_below re (hbV.trans (hbX.mono hbV.size)) re.lt).setOther (by simp; omega) _
        have rrZ : Z.rowIs (w.heap.size + 1) 42 3 (polyF 0 0 (.slice none 0 0)) := by
          rw [hZ]
          exact (rowIs_below rr (hbV.trans (hbX.mono hbV.size)) rr.lt).setOther (by simp; omega) _
        obtain ⟨bl, off, rfl, hbl, hT⟩ : ∃ bl off, la = some ⟨bl, off, none⟩ ∧ bl < Z.heap.size ∧ PolysW Z bl off G := by
          obtain ⟨la', lc', hv, hcs⟩ := hGZ
          simp at hv
          obtain ⟨rfl, rfl⟩ := hv
          rcases hcs with h | h
          · rw [h] at htn; simp at htn
          · exact h
        have hne2 : b < w.heap.size := hD.map.lt
        have hnZ : Z.heap.size ≠ b := by have := hbwZ.size; omega
        obtain ⟨u, h0, h1, h2, hu⟩ := hT m htn
        obtain ⟨ua, uc, rfl, _⟩ := id hu
        rw [hg.1] at h0
        rw [hg.2.1] at h1
        have hblb : bl ≠ b := fun e => by
          rw [e, hDZ.map.noCell] at h0
          simp at h0
        have KK := Lib.hid (fun w' (h : Z.grownBy w' (some b)) => show ((w'.cell? ⟨V.heap.size, 0, none⟩ = some (.int .u8 x') ∧ w'.cell? ⟨V.heap.size, 1, none⟩ = some (.int .u8 y') ∧ w'.cell? ⟨V.heap.size, 2, none⟩ = some (.int .u8 z')) ∧ (w'.cell? ⟨bl, off + m * 3, none⟩ = some (.int .i64 p) ∧ w'.cell? ⟨bl, off + m * 3 + 1, none⟩ = some (.int .i64 d) ∧ w'.cell? ⟨bl, off + m * 3 + 2, none⟩ = some (.slice ua G[m].2.2.length uc))) from by
          have r := rowG rZ h (by omega)
          have q : ∀ o, w'.cell? ⟨bl, o, none⟩ = Z.cell? ⟨bl, o, none⟩ := fun o => h.cell_far ⟨bl, o, none⟩ hbl (by simpa using hblb)
          exact ⟨⟨r.cell (i := 0) (by omega), r.cell (i := 1) (by omega), r.cell (i := 2) (by omega)⟩, (q _).trans h0, (q _).trans h1, (q _).trans h2⟩)
        have hnn : n + s ≤ 1048576 := by omega
        have hs'' : x' + y' + z' = (s : Int) := by omega
        have hbd' : bndE (tmsL G) (x', y', z') ≤ 12 := by omega
        have HVS := Lib.hid (And.intro hV1 (And.intro hg.2.2 hfit))
        have hMZ := hDZ.map
        go_upto_region 9 with fail
        rw [← hZ]
        clear hZ hZ2 h0 h1 h2 c0 b0 k0 k2 g0 g1 hrowD hw8 hne HR HZ
        go_cut [11] (fun s11 wx => ∃ (bx : Nat) (A : Option Addr) (c : Nat) (D' : DataW Value) (n' : Nat), s11 = .pointer (some ⟨bx, 0, none⟩) ∧ wx.rowIs bx 42 3 (polyF p d (.slice A L.length c)) ∧ SliceT wx (.slice A L.length c) L ∧ DoneP wx b n' D' p d (tmsL G) ∧ n' ≤ n + s ∧ Z.grownBy wx (some b) ∧ Z.heap.size ≤ bx)
        case first =>
          go_region_held3 (fun w' => ((w'.cell? ⟨V.heap.size, 0, none⟩ = some (.int .u8 x') ∧ w'.cell? ⟨V.heap.size, 1, none⟩ = some (.int .u8 y') ∧ w'.cell? ⟨V.heap.size, 2, none⟩ = some (.int .u8 z')) ∧ (w'.cell? ⟨bl, off + m * 3, none⟩ = some (.int .i64 p) ∧ w'.cell? ⟨bl, off + m * 3 + 1, none⟩ = some (.int .i64 d) ∧ w'.cell? ⟨bl, off + m * 3 + 2, none⟩ = some (.slice ua G[m].2.2.length uc))))
            (first | with_reducible exact KK.out _ (gSetNew (gSetNew (gSetNew HG14 HG13.size) HG13.size) HG13.size) | with_reducible exact KK.out _ (gSetNew (gSetNew (gSetNew HG14 (Nat.le_refl _)) (Nat.le_refl _)) (Nat.le_refl _)) | with_reducible exact KK.out _ (gBelow (Below.same _).drew) | with_reducible exact KK.out _ (gBelow (box1 _ _).drew) | with_reducible exact KK.out _ HG13 | with_reducible exact KK.out _ (HG13.trans (gBelow (box1 _ _))) | with_reducible exact KK.out _ HG14 | with_reducible exact KK.out _ (HG14.trans (gBelow (box1 _ _))))
            (first
            | (go_at_call 184; (with_reducible refine (ih x' y' z' n D _ hb' hs'' hzz hbd' (by first | with_reducible exact hGZ.below (Below.same _).drew | with_reducible exact hGZ.below (box1 _ _).drew) (by first | with_reducible exact hDZ.later (Below.same _).drew | with_reducible exact hDZ.later (box1 _ _).drew) hnn).mono ?_); rintro e w13 ⟨v13, L13, D13, n13, rfl, hS13, hL13, hD13, hn13, hg13⟩; have HG13 : Z.grownBy w13 (some b) := (by first | with_reducible exact (gBelow (Below.same _).drew).trans hg13 | with_reducible exact (gBelow (box1 _ _).drew).trans hg13); (first | (have ZR13 : w13.rowIs Z.heap.size 42 3 (polyF 0 0 (.slice none 0 0)) := rowG (zboxD Z) hg13 hnZ; obtain ⟨⟨e130, e131, e132⟩, f130, f131, f132⟩ := poly3 ZR13) | skip); (obtain rfl : L1 = L13 := hL1.unique hL13); (obtain ⟨a13, c13, rfl, _⟩ := id hS13))
            | (go_at_call 158; (with_reducible refine (product_any p d _ _ L1 G[m].2.2 _ (by first | with_reducible exact hS13 | with_reducible exact hS13.below (box1 _ _)) (by first | with_reducible exact hu.besideP hMZ HG13 | with_reducible exact (hu.besideP hMZ HG13).below (box1 _ _)) HVS.out.1 HVS.out.2.1 HVS.out.2.2).mono ?_); rintro e w14 ⟨v14, L14, rfl, ho14, hL14, hb14⟩; have H14 : Below w13.heap.size w13 w14 := (by first | with_reducible exact hb14 | with_reducible exact (box1 _ _).trans (hb14.mono (by simp))); have HG14 : Z.grownBy w14 (some b) := HG13.trans (gBelow H14); (first | (have ZR14 : w14.rowIs w13.heap.size 42 3 (polyF 0 0 (.slice none 0 0)) := rowIs_below (zbox w13) hb14 (by simp); obtain ⟨⟨e140, e141, e142⟩, f140, f141, f142⟩ := poly3 ZR14) | (have ZR14 := rowIs_below ZR13 H14 ZR13.lt; obtain ⟨⟨e140, e141, e142⟩, f140, f141, f142⟩ := poly3 ZR14) | skip); (obtain rfl : L = L14 := hL.unique hL14); (obtain ⟨sa, sc, rfl⟩ := owns_slice ho14)))
          all_goals
            go_wp2_with fail
            go_meet
            first
              | exact ⟨w14.heap.size, sa, sc, D13, n13, rfl, World.rowIs_alloc w14 #[Value.int .i64 p, .int .i64 d, .slice sa L.length sc] _ _ (fun i hi => by simp at hi; match i, hi with | 0, _ => rfl | 1, _ => rfl | 2, _ => rfl), (OwnP.slice ho14).below (box1 _ _), (hD13.later H14).later (box1 _ _), hn13, HG14.trans (gBelow (box1 _ _)), HG14.size⟩
              | exact ⟨w13.heap.size, sa, sc, D13, n13, rfl, (box_setD ZR14 (hD13.later H14) HG14 HG13.size ho14 p d).1, (box_setD ZR14 (hD13.later H14) HG14 HG13.size ho14 p d).2.1, (box_setD ZR14 (hD13.later H14) HG14 HG13.size ho14 p d).2.2.1, hn13, (box_setD ZR14 (hD13.later H14) HG14 HG13.size ho14 p d).2.2.2, HG13.size⟩
              | exact ⟨Z.heap.size, sa, sc, D13, n13, rfl, (box_setD ZR14 (hD13.later H14) HG14 (Nat.le_refl _) ho14 p d).1, (box_setD ZR14 (hD13.later H14) HG14 (Nat.le_refl _) ho14 p d).2.1, (box_setD ZR14 (hD13.later H14) HG14 (Nat.le_refl _) ho14 p d).2.2.1, hn13, (box_setD ZR14 (hD13.later H14) HG14 (Nat.le_refl _) ho14 p d).2.2.2, Nat.le_refl _⟩
        case rest =>
          obtain ⟨bx, A, c, D', n', rfl, rbx, hSx, hDx, hnx, hgx, hbx⟩ := hcut
          have hgw := (gBelow hbwZ).trans hgx
          have reC := rowG reZ hgx (by omega)
          have rrC := rowG rrZ hgx (by omega)
          have hbxb : bx ≠ b := by have := hbwZ.size; omega
          have hkey : keyOf Try.prog 107 (.agg #[.int .u8 x, .int .u8 y, .int .u8 z]) = some (kE (x, y, z)) := keyOf_vE (x, y, z) hbt
          have HE := Lib.hid (fun w2 (h1 : MapP w2 b (n' + 1) (D'.put (kE (x, y, z)) (.held (.agg #[.int .i64 p, .int .i64 d, .slice A L.length c])))) (h2 : wc.grownBy w2 (some b)) =>
            box_setS (Z0 := w) (rowG rrC h2 (by omega)) (hDx.put hbt hSx hPL h1 h2) (hgw.trans h2) (by omega) (hSx.besideP hDx.map h2) p d)
          have HB := Lib.hid (fun w2 (h2 : wc.grownBy w2 (some b)) => And.intro (rowG rrC h2 (by omega)) (rowG rbx h2 hbxb))
          have c0 : wc.cell? ⟨w.heap.size, 0, none⟩ = some (.int .u8 x) := reC.cell (i := 0) (by omega)
          have c1 : wc.cell? ⟨w.heap.size, 1, none⟩ = some (.int .u8 y) := reC.cell (i := 1) (by omega)
          have c2 : wc.cell? ⟨w.heap.size, 2, none⟩ = some (.int .u8 z) := reC.cell (i := 2) (by omega)
          obtain ⟨⟨b0, b1, b2⟩, _⟩ := poly3 rbx
          have hmap := hDx.map
          have hml : n' < maxLen := by unfold maxLen; omega
          have HPL := Lib.hid hPL
          have HNX : Hid (n' + 1 ≤ n + (s + 1)) := Lib.hid (by omega)
          clear KK HVS hu hT hDZ hGZ hMZ rZ reZ rrZ hD hG hDV hGV reC rrC rbx hSx hDx hPL hc hV1 hfit hL hL1 hf1 hfac hbe hbd hbd' htz hz hzz hz0 hnx hbx hgx hgw re rr reV rrV rV rX hbX hbV hbW hbwV hbwX hbwZ hg hnth ih
          go_wp2_with (at_mapUpdate; refine wpList_mapUpdate_own _ rfl _ _ _ 195 rfl 107 42 lawK Try.underlying195 elemP b n' D' rfl hmap hml (.agg #[.int .u8 x, .int .u8 y, .int .u8 z]) _ _ rfl rfl hkey (.held (.agg #[.int .i64 p, .int .i64 d, .slice A L.length c])) [] rfl ?_; intro w2 hown2 hgrow2; obtain ⟨⟨⟨r0, r1, r2⟩, z0, z1, z2⟩, ⟨q0, q1, q2⟩, _⟩ := And.intro (poly3 (HB.out w2 hgrow2).1) (poly3 (HB.out w2 hgrow2).2))
          obtain ⟨a0, a1, a2, a3⟩ := HE.out w2 hown2 hgrow2
          obtain ⟨⟨m0, m1, m2⟩, _⟩ := poly3 a0
          exact bodyPost_ret (v := .agg #[.int .i64 p, .int .i64 d, .slice A L.length c]) (by simp [results, Try.results184, go_sem, m0, m1, m2]) rfl ⟨_, rfl, L, a1, HPL.out, _, _, a2, HNX.out, a3⟩
      · have hq0 := HZ.out m (by omega)
        rw [hq0] at c0
        go_wp2_with fail
        go_round
        case rel => exact ⟨m - 1, by rw [show ((m - 1 : Nat) : Int) = (m : Int) - 1 by omega], by omega, by omega⟩
        case measure => simp [intOf]; omega
end Go.Proofs.Ytbahejlgfpilnaa
