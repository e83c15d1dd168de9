/-
  WALKS of the laws on lists of lists of numbers: comparing, marking, reading back. Conditions: as each theorem states.
-/
import Derived.Test.YtpbdbgajohacoaaUf
import Derived.Test.YtpbdbgajohacoaaJd
namespace Go.Proofs.Ytpbdbgajohacoaa
open Go.RowKit Go.Sort EchM

theorem neqI_r (u u' : Value) (l : List Int) (W : World) (hl : l.length ≤ 1048576) (hS : Sl W u l) (hS' : Sl W u' l) : ∀ dd os,
    Calls Try.prog 26 #[u, u'] (grow (redrawn W dd) os) fun e w'' => e = .returned (.bool true) ∧ ∃ q : Regrown, w'' = grow (redrawn W q.d) q.os := fun dd os =>
  Calls.regrown_of (neqI_same u u' l _ hl (hS.below (below_regrown W dd os)) (hS'.below (below_regrown W dd os)))

set_option maxRecDepth 8000 in
set_option maxHeartbeats 4000000 in
theorem eqrows (v v' : Value) (L : List (List Int)) (w : World) (hl : L.length ≤ 1048576) (hlr : ∀ r ∈ L, r.length ≤ 1048576) (hS : SlR w v L) (hS' : SlR w v' L) :
    Calls Try.prog 25 #[v, v'] w fun e w' => e = .returned (.bool true) ∧ Below w.heap.size w w' := by
  have hnn : ((L.length : Int) != (L.length : Int)) = false := by simp
  obtain ⟨a, cap, rfl, hSc⟩ := id hS
  obtain ⟨a', cap', rfl, hSc'⟩ := id hS'
  go_enter Try.func25, Try.ntmps25
  go_wp2_with fail
  go_loopw [5] (fun i wr => ∃ k : Nat, k ≤ L.length ∧ i = .int .i64 k ∧ Below w.heap.size w wr) (fun i _ => L.length - (intOf i).toNat)
  case atStart => exact ⟨0, by omega, rfl, Below.refl _ _⟩
  case round =>
    obtain ⟨k, hk, rfl, hbel⟩ := hrel
    by_cases hlt : k < L.length
    · have hlt' : (k : Int) < (L.length : Int) := by omega
      obtain ⟨b, off, rfl, hbb, hT⟩ : ∃ b off, a = some ⟨b, off, none⟩ ∧ b < w.heap.size ∧ RowsW w b off L := by
        rcases hSc with rfl | h
        · simp at hlt
        · exact h
      obtain ⟨b', off', rfl, hbb', hT'⟩ : ∃ b off, a' = some ⟨b, off, none⟩ ∧ b < w.heap.size ∧ RowsW w b off L := by
        rcases hSc' with rfl | h
        · simp at hlt
        · exact h
      obtain ⟨u, c0, s0⟩ := (hT.below hbel hbb) k hlt
      obtain ⟨u', c1, s1⟩ := (hT'.below hbel hbb') k hlt
      have kE := neqI_r u u' L[k] wr (hlr _ (List.getElem_mem hlt)) s0 s1
      clear s0 s1
      have e0 := cell_regrown c0
      have e1 := cell_regrown c1
      clear c0 c1
      go_wp2_with fail
      refine wp_region_quiet_below (by kernel_rfl) (by kernel_rfl) ?_
      repeat (go_big_quiet_step (with_reducible exact kE _ _))
      refine wpQuiet_nil ?_
      intro _ hw'
      obtain ⟨⟨dq, osq⟩, hw''⟩ := hw'
      subst hw''
      have hb2 := hbel.trans ((below_regrown wr dq osq).mono hbel.size)
      generalize grow (redrawn wr dq) osq = V at *
      clear e0 e1 kE
      go_wp2_with fail
      go_roundw
      case rel => exact ⟨k + 1, by omega, by go_num, hb2⟩
      case measure => simp [intOf]; omega
    · obtain rfl : k = L.length := by omega
      go_wp2_with fail
      go_ret
      exact ⟨rfl, hbel⟩

/-- The numbers from k on. -/
def seqL (k : Int) (n : Nat) : List Int := (List.range n).map fun (i : Nat) => k + (i : Int)
theorem seqL_len (k : Int) (n : Nat) : (seqL k n).length = n := by simp [seqL]
theorem seqL_at (k : Int) (n q : Nat) (h : q < (seqL k n).length) : (seqL k n)[q] = k + (q : Int) := by simp [seqL]

set_option maxHeartbeats 1000000 in
theorem rmark (base : Nat) (e : Row3) (k0 : Int) (w : World) (h : RowAt w base e) (hn : e.2.1.length ≤ 1048576) (h0 : 0 ≤ k0) (h1 : k0 ≤ 1000000000) :
    Calls Try.prog 27 #[e.1, .int .i64 k0] w fun r w' => r = .returned (.int .i64 (k0 + e.2.1.length)) ∧ RowAt w' base (e.1, seqL k0 e.2.1.length, e.2.2) ∧ w.grownBy w' (some e.2.2) := by
  obtain ⟨u, l, g⟩ := e
  obtain ⟨cap, N, f, hu, hg, hN, hr, hf⟩ := h
  simp only at hu hg hN hr hf hn ⊢
  subst hu
  clear hf
  have hsl := seqL_len k0 l.length
  suffices hh : Calls Try.prog 27 #[.slice (some ⟨g, 0, none⟩) l.length cap, .int .i64 k0] w fun r w' => r = .returned (.int .i64 (k0 + l.length)) ∧ (∃ f', w'.rowIs g 2 N f' ∧ ∀ q, q < l.length → f' q = .int .i64 (k0 + (q : Int))) ∧ w.grownBy w' (some g) by
    refine hh.mono fun r w' ⟨hr', ⟨f', hrow, hf'⟩, hgr⟩ => ⟨hr', ⟨cap, N, f', by simp only [hsl], hg, by simp only [hsl]; exact hN, hrow, fun q hq => ?_⟩, hgr⟩
    rw [hf' q (by simpa [hsl] using hq)]
    simp only [seqL_at]
  clear hsl
  generalize l.length = n at *
  go_enter Try.func27, Try.ntmps27
  go_wp2
  go_loopw [1, 5] (fun m i wr => ∃ k : Nat, k ≤ n ∧ i = .int .i64 k ∧ m = .int .i64 (k0 + k) ∧ (∃ f', wr.rowIs g 2 N f' ∧ Hid (∀ q, q < k → f' q = .int .i64 (k0 + (q : Int)))) ∧ w.grownBy wr (some g)) (fun _ i _ => n - (intOf i).toNat)
  case atStart => exact ⟨0, by omega, rfl, by simp, ⟨f, hr, Lib.hid (fun q h => by omega)⟩, World.grownBy.refl _ _⟩
  case round =>
    obtain ⟨k, hk, rfl, rfl, ⟨f', hr', HF⟩, hg'⟩ := hrel
    by_cases hlt : k < n
    · have hlt' : (k : Int) < (n : Int) := by omega
      have c0 := hr'.cell (i := k) (by omega)
      have z0 := hr'.frozen k
      have hr2 := hr'.set k (.int .i64 (k0 + k))
      have hg2 := ngrown_setT hg' k (.int .i64 (k0 + k))
      have HN : Hid (∀ q, q < k + 1 → (fun j => if j = k then Value.int .i64 (k0 + (k : Int)) else f' j) q = .int .i64 (k0 + (q : Int))) := Lib.hid (fun q hq => by
        by_cases e : q = k
        · subst e; simp
        · simp only [if_neg e]; exact HF.out q (by omega))
      clear hr' hg' hr HF
      go_wp2
      go_roundw
      case rel => exact ⟨k + 1, by omega, by go_num, by go_num, ⟨_, hr2, HN⟩, hg2⟩
      case measure => simp [intOf]; omega
    · obtain rfl : k = n := by omega
      have HN := HF.out
      go_wp2
      go_ret
      exact ⟨rfl, ⟨f', hr', HN⟩, hg'⟩
/-- What a mark makes of the rows. -/
def markL : Int → List Row3 → List Row3
  | _, [] => []
  | k, e :: O => (e.1, seqL k e.2.1.length, e.2.2) :: markL (k + e.2.1.length) O
def totL : List Row3 → Nat
  | [] => 0
  | e :: O => e.2.1.length + totL O
theorem markL_len : ∀ (k : Int) (O : List Row3), (markL k O).length = O.length
  | _, [] => rfl
  | k, e :: O => by simp [markL, markL_len _ O]
theorem markL_at : ∀ (k : Int) (O : List Row3) (q : Nat) (h : q < O.length), (markL k O)[q]'(by rw [markL_len]; exact h) = (O[q].1, seqL (k + totL (O.take q)) O[q].2.1.length, O[q].2.2)
  | _, [], _, h => by simp at h
  | k, e :: O, 0, _ => by simp [markL, totL]
  | k, e :: O, q + 1, h => by
    simp only [markL, List.getElem_cons_succ, List.take_succ_cons, totL]
    rw [markL_at _ O q (by simpa using h)]
    congr 3
    simp
    omega
theorem totL_take {O : List Row3} {q : Nat} (h : q < O.length) : totL (O.take (q + 1)) = totL (O.take q) + O[q].2.1.length := by
  induction O generalizing q with
  | nil => simp at h
  | cons e O ih =>
    cases q with
    | zero => simp [totL]
    | succ q =>
      simp only [List.take_succ_cons, totL, List.getElem_cons_succ]
      rw [ih (by simpa using h)]
      omega
theorem totL_bound {n : Nat} : ∀ {O : List Row3}, (∀ e ∈ O, e.2.1.length ≤ n) → totL O ≤ n * O.length
  | [], _ => by simp [totL]
  | e :: O, h => by
    have h1 := h e (by simp)
    have h2 := totL_bound (n := n) (O := O) fun x hx => h x (by simp [hx])
    simp only [totL, List.length_cons, Nat.mul_succ]
    omega
end Go.Proofs.Ytpbdbgajohacoaa
