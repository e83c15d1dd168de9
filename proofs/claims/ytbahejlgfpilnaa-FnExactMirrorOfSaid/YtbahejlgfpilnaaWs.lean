/-
  DRAWN REGIONS with two loads that may come in either order, and stores one after another: laws. Conditions: as each theorem states.
-/
import Derived.RegionTactic
import Derived.Deep.MidRow
namespace Go.Proofs.Ytbahejlgfpilnaa

section
variable {P : Program} {ops : Array Oper} {Q : Exit → Act → World → Prop} {md : Region.Mode}

theorem op_once {i : Nat} {o : Oper} {a a' : Act} {w w' : World} {K : Act → World → Prop} (ho : ops[i]? = some o) (hg : o.guard = none) (hs : ∀ K : Act → World → Prop, K a' w' → o.wp P a w K Q) (h : K a' w') : wpOp P ops Q i K a w := by
  unfold wpOp
  rw [ho]
  have hw : Region.wanted o (yielded ops a.tmps) = true := by simp [Region.wanted, hg]
  show if Region.wanted o (yielded ops a.tmps) = true then _ else _
  rw [if_pos hw]
  exact .inl (hs K h)
/-- One operation alone may come up. -/
theorem any_once {i fuel : Nat} {o : Oper} {a a' : Act} {w w' : World} {listed : Array Bool} (hr : Region.ready md ops listed = [i]) (ho : ops[i]? = some o) (hg : o.guard = none) (hs : ∀ K : Act → World → Prop, K a' w' → o.wp P a w K Q)
    (h : wpAny P md ops Q fuel (listed.setIfInBounds i true) a' w') : wpAny P md ops Q (fuel + 1) listed a w :=
  wpAny_all hr (by simp) fun j hj => by
    obtain rfl : j = i := by simpa using hj
    exact op_once ho hg hs h
theorem put_swap {di dk : Tmp} (hne : di ≠ dk) (a : Act) (vi vk : Value) : (a.put (some di) vi).put (some dk) vk = (a.put (some dk) vk).put (some di) vi := by
  simp only [Act.put]
  rw [Array.setIfInBounds_comm _ _ hne]
/-- Two operations may come up that leave the world as it is. -/
theorem any_both {i k fuel : Nat} {oi ok : Oper} {di dk : Tmp} {vi vk : Value} {a : Act} {w : World} {listed : Array Bool} (hr : Region.ready md ops listed = [i, k]) (hik : i ≠ k) (hdd : di ≠ dk)
    (ri : Region.ready md ops (listed.setIfInBounds i true) = [k]) (rk : Region.ready md ops (listed.setIfInBounds k true) = [i])
    (hi : ops[i]? = some oi) (hk : ops[k]? = some ok) (gi : oi.guard = none) (gk : ok.guard = none)
    (si : ∀ K : Act → World → Prop, K (a.put (some di) vi) w → oi.wp P a w K Q) (sk : ∀ K : Act → World → Prop, K (a.put (some dk) vk) w → ok.wp P a w K Q)
    (ski : ∀ K : Act → World → Prop, K ((a.put (some di) vi).put (some dk) vk) w → ok.wp P (a.put (some di) vi) w K Q)
    (sik : ∀ K : Act → World → Prop, K ((a.put (some dk) vk).put (some di) vi) w → oi.wp P (a.put (some dk) vk) w K Q)
    (h : wpAny P md ops Q fuel ((listed.setIfInBounds i true).setIfInBounds k true) ((a.put (some di) vi).put (some dk) vk) w) : wpAny P md ops Q (fuel + 1 + 1) listed a w :=
  wpAny_all hr (by simp) fun j hj => by
    simp only [List.mem_cons, List.not_mem_nil, or_false] at hj
    rcases hj with rfl | rfl
    · exact op_once hi gi si (any_once ri hk gk ski h)
    · refine op_once hk gk sk (any_once rk hi gi sik ?_)
      rw [Array.setIfInBounds_comm _ _ hik, put_swap hdd] at h
      exact h
theorem eval_put {d t : Tmp} (h : d ≠ t) (a : Act) (v : Value) : (a.put (some d) v).eval (.tmp t) = a.eval (.tmp t) := by
  simp [Act.put, Act.eval, Array.getD_eq_getD_getElem?, h]
/-- Two loads of rows may come up. -/
theorem any_rows {i k fuel : Nat} {oi ok : Oper} (di dk xi xk : Tmp) {a : Act} {w : World} {listed : Array Bool} (ty : TypeId) (b fi fk : Nat) (ci ck : List Value) (d : TypeDesc) (hr : Region.ready md ops listed = [i, k]) (hik : i ≠ k) (hdd : di ≠ dk) (hdx : di ≠ xk) (hxd : dk ≠ xi)
    (ri : Region.ready md ops (listed.setIfInBounds i true) = [k]) (rk : Region.ready md ops (listed.setIfInBounds k true) = [i])
    (hi : ops[i]? = some oi) (hk : ops[k]? = some ok) (gi : oi.guard = none) (gk : ok.guard = none) (hoi : oi.op = .load ty (.tmp xi)) (hok : ok.op = .load ty (.tmp xk)) (hdi : oi.dst = some di) (hdk : ok.dst = some dk)
    (hu : P.underlying ty = some d) (hd : d.isRow = true) (ei : a.eval (.tmp xi) = .pointer (some ⟨b, fi, none⟩)) (ek : a.eval (.tmp xk) = .pointer (some ⟨b, fk, none⟩))
    (hci : w.rangeAt b fi ci) (hck : w.rangeAt b fk ck) (zi : (P.info? ty).map (·.size) = some ci.length) (zk : (P.info? ty).map (·.size) = some ck.length)
    (h : wpAny P md ops Q fuel ((listed.setIfInBounds i true).setIfInBounds k true) ((a.put (some di) (.agg ci.toArray)).put (some dk) (.agg ck.toArray)) w) : wpAny P md ops Q (fuel + 1 + 1) listed a w :=
  any_both hr hik hdd ri rk hi hk gi gk (fun K h => wp_load_mid ty _ hoi b fi ei ci d hci hu hd zi (by rw [hdi]; exact h)) (fun K h => wp_load_mid ty _ hok b fk ek ck d hck hu hd zk (by rw [hdk]; exact h))
    (fun K h => wp_load_mid ty _ hok b fk ((eval_put hdx _ _).trans ek) ck d hck hu hd zk (by rw [hdk]; exact h)) (fun K h => wp_load_mid ty _ hoi b fi ((eval_put hxd _ _).trans ei) ci d hci hu hd zi (by rw [hdi]; exact h)) h
/-- A row is stored. -/
theorem any_store {i fuel : Nat} {o : Oper} (x y : Tmp) {a : Act} {w w' : World} {listed : Array Bool} (ty : TypeId) (b f : Nat) (cs : List Value) (hr : Region.ready md ops listed = [i]) (ho : ops[i]? = some o) (hg : o.guard = none) (hop : o.op = .store ty (.tmp x) (.tmp y)) (hd : o.dst = none)
    (ex : a.eval (.tmp x) = .pointer (some ⟨b, f, none⟩)) (ey : a.eval (.tmp y) = .agg cs.toArray) (ht : w.there b f cs.length) (hz : (P.info? ty).map (·.size) = some cs.length) (h1 : ∀ v ∈ cs, v.oneCell' = true)
    (hw : w.setCells b f cs = w') (h : wpAny P md ops Q fuel (listed.setIfInBounds i true) a w') : wpAny P md ops Q (fuel + 1) listed a w :=
  any_once hr ho hg (fun K h => wp_store_mid ty _ _ hop b f cs.toArray ex ey (by simpa using ht) (by simpa using hz) (all_oneCell_toArray h1) (by rw [hd]; simpa [Act.put, hw] using h)) h
end
end Go.Proofs.Ytbahejlgfpilnaa
