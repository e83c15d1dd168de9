/-
  WALKS: 'spec.l01Mod', 'spec.l01Empty', 'spec.l01Put'. Conditions: as each theorem states.
-/
import Derived.Test.YtphgpadpffigjaaAt
namespace Go.Proofs.Ytphgpadpffigjaa
open Go.RowKit Go.Sort

theorem mod_any (p x : Int) (w : World) (h2 : 2 ≤ p) (h13 : p ≤ 13) (h0 : 0 ≤ x) (h1 : x ≤ 1000000000) :
    Calls Try.prog 99 #[.int .i64 p, .int .i64 x] w fun e w' => e = .returned (.int .i64 (x % p)) ∧ w = w' := by
  have g0 : 0 ≤ x % p := Int.emod_nonneg _ (by omega)
  have g1 : x % p < p := Int.emod_lt_of_pos _ (by omega)
  have HQ := Lib.hid (show (x % p + p) % p = x % p by rw [Int.add_emod_right, Int.emod_emod_of_dvd _ (Int.dvd_refl p)])
  go_enter Try.func99, Try.ntmps99
  go_wp2
  go_ret
  exact ⟨by show Ending.returned (.int .i64 ((x % p + p) % p)) = _; rw [HQ.out], rfl⟩

theorem empty_any (p d : Int) (w : World) :
    Calls Try.prog 54 #[.int .i64 p, .int .i64 d] w fun e w' => e = .returned (.agg #[.int .i64 p, .int .i64 d, .slice (some ⟨w.heap.size + 1, 0, none⟩) 0 0]) ∧ w'.ownsRow w.heap.size 92 4 (.slice (some ⟨w.heap.size + 1, 0, none⟩) 0 0) 0 [] ∧ Below w.heap.size w w' := by
  go_enter Try.func54, Try.ntmps54
  go_wp2
  exact bodyPost_ret (v := .agg #[.int .i64 p, .int .i64 d, .slice (some ⟨w.heap.size + 1, 0, none⟩) 0 0]) (by simp [results, Try.results54, go_sem]) rfl ⟨rfl, by simpa using World.ownsRow_made (base := w.heap.size) (e := 92) (size := 4) (w.alloc _) #[] 0 (by simp) (by simp [maxLen]) rfl, box2 _ _ _⟩

/-- A term out of exponents and a value; its cells; those of a list. -/
def mkT (e : Int × Int × Int) (v : Int) : Tm := (e.1, e.2.1, e.2.2, v)
def cell4 (t : Tm) : List Value := [.int .u8 t.1, .int .u8 t.2.1, .int .u8 t.2.2.1, .int .i64 t.2.2.2]
def cells4 (l : List Tm) : List Value := l.flatMap cell4
theorem cells4_snoc (l : List Tm) (t : Tm) : cells4 (l ++ [t]) = cells4 l ++ cell4 t := by simp [cells4]
theorem tmE_mkT (e : Int × Int × Int) (v : Int) : tmE (mkT e v) = e := rfl

/-- What 'l01Put' lays down. -/
def putRun (e : Int × Int × Int) (val : Int) : Bool → List Tm → List Tm
  | done, [] => if done then [] else [mkT e val]
  | done, t :: r => (if !done && beforeB e (tmE t) then [mkT e val] else []) ++ ((if tmE t = e then [] else [t]) ++ putRun e val (done || beforeB e (tmE t)) r)
def putL (p : Int) (ts : List Tm) (e : Int × Int × Int) (v : Int) : List Tm := putRun e ((v + atL ts e) % p) ((v + atL ts e) % p == 0) ts

theorem putRun_done_mem {e : Int × Int × Int} {val : Int} : ∀ (ts : List Tm) (done : Bool) (x : Tm), x ∈ putRun e val done ts → (x = mkT e val ∧ done = false) ∨ (x ∈ ts ∧ tmE x ≠ e)
  | [], done, x, h => by
    cases done
    · simp [putRun] at h; exact .inl ⟨h, rfl⟩
    · simp [putRun] at h
  | t :: r, done, x, h => by
    simp only [putRun, List.mem_append] at h
    rcases h with h | h | h
    · cases done
      · by_cases hb : beforeB e (tmE t) = true
        · simp [hb] at h; exact .inl ⟨h, rfl⟩
        · simp [hb] at h
      · simp at h
    · by_cases he : tmE t = e
      · simp [he] at h
      · simp [he] at h; subst h; exact .inr ⟨by simp, he⟩
    · rcases putRun_done_mem r _ x h with ⟨h1, h2⟩ | ⟨h1, h2⟩
      · simp only [Bool.or_eq_false_iff] at h2; exact .inl ⟨h1, h2.1⟩
      · exact .inr ⟨by simp [h1], h2⟩

/-- In an ascending list: what is laid down ascends, and holds val at e (nothing if it was done), and elsewhere what was there. -/
theorem putRun_asc {e : Int × Int × Int} {val : Int} : ∀ (ts : List Tm) (done : Bool), Asc ts → Asc (putRun e val done ts)
  | [], done, _ => by cases done <;> simp [putRun, Asc]
  | t :: r, done, h => by
    have hr := List.pairwise_cons.1 h
    have ih := putRun_asc (e := e) (val := val) r (done || beforeB e (tmE t)) hr.2
    have hmem := @putRun_done_mem e val r (done || beforeB e (tmE t))
    simp only [putRun]
    by_cases he : tmE t = e
    · have hb : beforeB e (tmE t) = false := by rw [he]; exact before_irrefl e
      rw [if_pos he, hb]
      simp only [Bool.and_false, Bool.or_false, List.nil_append]
      rw [hb, Bool.or_false] at ih
      simpa using ih
    · rw [if_neg he]
      cases hb : beforeB e (tmE t)
      · simp only [Bool.and_false, Bool.or_false]
        rw [hb, Bool.or_false] at ih hmem
        show List.Pairwise _ ([] ++ ([t] ++ putRun e val done r))
        simp only [List.nil_append, List.singleton_append]
        refine List.pairwise_cons.2 ⟨fun x hx => ?_, ih⟩
        rcases hmem x hx with ⟨rfl, _⟩ | ⟨hx', _⟩
        · rw [tmE_mkT]
          rcases before_total (tmE t) e with h' | h' | h'
          · exact h'
          · exact absurd h' he
          · rw [hb] at h'; exact absurd h' (by simp)
        · exact hr.1 x hx'
      · rw [hb, Bool.or_true] at ih hmem
        simp only [Bool.and_true, Bool.or_true]
        have htail : Asc (t :: putRun e val true r) := List.pairwise_cons.2 ⟨fun x hx => by
          rcases hmem x hx with ⟨_, h'⟩ | ⟨hx', _⟩
          · exact absurd h' (by simp)
          · exact hr.1 x hx', ih⟩
        cases done
        · show List.Pairwise _ ([mkT e val] ++ ([t] ++ putRun e val true r))
          simp only [List.singleton_append]
          refine List.pairwise_cons.2 ⟨fun x hx => ?_, htail⟩
          rw [tmE_mkT]
          rcases List.mem_cons.1 hx with rfl | hx
          · exact hb
          · rcases hmem x hx with ⟨_, h'⟩ | ⟨hx', _⟩
            · exact absurd h' (by simp)
            · exact before_trans hb (hr.1 x hx')
        · show List.Pairwise _ ([] ++ ([t] ++ putRun e val true r))
          simp only [List.nil_append, List.singleton_append]
          exact htail

theorem putRun_at {e : Int × Int × Int} {val : Int} (e' : Int × Int × Int) : ∀ (ts : List Tm) (done : Bool), atL (putRun e val done ts) e' = if e' = e then (if done then 0 else val) else atL ts e'
  | [], done => by
    cases done
    · by_cases h : e' = e
      · subst h; simp [putRun, atL, tmE, mkT]
      · have h' : ¬ e = e' := fun x => h x.symm
        simp [putRun, atL, tmE_mkT, h, h']
    · simp [putRun, atL]
  | t :: r, done => by
    have ih := putRun_at (e := e) (val := val) e' r (done || beforeB e (tmE t))
    have hcons : ∀ l, atL (((if tmE t = e then [] else [t]) : List Tm) ++ l) e' = if tmE t = e then atL l e' else if tmE t = e' then t.2.2.2 else atL l e' := fun l => by
      by_cases he : tmE t = e
      · simp [he]
      · simp [he, atL]
    simp only [putRun]
    cases hb : beforeB e (tmE t)
    · rw [hb, Bool.or_false] at ih
      simp only [Bool.and_false, Bool.or_false, Bool.false_eq_true, if_false, List.nil_append]
      rw [hcons, ih, atL]
      by_cases h1 : tmE t = e
      · rw [if_pos h1]
        by_cases h2 : e' = e
        · rw [if_pos h2, if_pos h2]
        · rw [if_neg h2, if_neg h2, if_neg (fun x => h2 (x.symm.trans h1))]
      · rw [if_neg h1]
        by_cases h2 : e' = e
        · rw [if_pos h2, if_pos h2, if_neg (fun x => h1 (x.trans h2))]
        · rw [if_neg h2, if_neg h2]
    · rw [hb, Bool.or_true] at ih
      have hne : ¬ tmE t = e := fun x => by rw [x, before_irrefl] at hb; exact absurd hb (by simp)
      cases done
      · simp only [Bool.not_false, Bool.true_and, if_true, Bool.false_or]
        rw [List.singleton_append, atL, tmE_mkT, hcons, ih, if_neg hne, atL]
        by_cases h2 : e' = e
        · rw [if_pos h2.symm, if_pos h2]; rfl
        · rw [if_neg (fun x => h2 x.symm), if_neg h2, if_neg h2]
      · simp only [Bool.not_true, Bool.false_and, Bool.false_eq_true, if_false, List.nil_append, Bool.true_or]
        rw [hcons, ih, if_neg hne, atL]
        by_cases h2 : e' = e
        · rw [if_pos h2, if_pos h2, if_neg (fun x => hne (x.trans h2))]; rfl
        · rw [if_neg h2, if_neg h2]
theorem putL_at (p : Int) (ts : List Tm) (e : Int × Int × Int) (v : Int) (e' : Int × Int × Int) : atL (putL p ts e v) e' = if e' = e then (v + atL ts e) % p else atL ts e' := by
  unfold putL
  rw [putRun_at]
  by_cases h : e' = e
  · rw [if_pos h, if_pos h]
    by_cases h0 : ((v + atL ts e) % p == 0) = true
    · rw [if_pos h0]; simpa using (beq_iff_eq.1 h0).symm
    · rw [if_neg h0]
  · rw [if_neg h, if_neg h]
theorem putL_asc {p : Int} {ts : List Tm} {e : Int × Int × Int} {v : Int} (h : Asc ts) : Asc (putL p ts e v) := putRun_asc ts _ h
theorem putL_mem {p : Int} {ts : List Tm} {e : Int × Int × Int} {v : Int} {x : Tm} (h : x ∈ putL p ts e v) : (x = mkT e ((v + atL ts e) % p) ∧ (v + atL ts e) % p ≠ 0) ∨ (x ∈ ts ∧ tmE x ≠ e) := by
  rcases putRun_done_mem ts _ x h with ⟨h1, h2⟩ | h
  · exact .inl ⟨h1, by simpa using h2⟩
  · exact .inr h

end Go.Proofs.Ytphgpadpffigjaa
