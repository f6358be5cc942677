import Derived.WalkKit
import Derived.Orders
/-
  A region whose order is open, walked by one invariant that looks at which operations have been done, whatever the order was.
-/
namespace Go.Proofs.Ytnmhnaanpjlniaa

theorem count_setR (l : List Bool) (i : Nat) (h : l[i]? = some false) : (l.set i true).count false + 1 = l.count false := by
  induction l generalizing i with
  | nil => simp at h
  | cons b r ih =>
    cases i with
    | zero =>
      simp at h
      subst h
      simp
    | succ i =>
      have h1 : r[i]? = some false := by simpa using h
      have := ih i h1
      simp only [List.set_cons_succ, List.count_cons]
      omega

theorem ready_false {md : Region.Mode} {ops : Array Oper} {listed : Array Bool} {i : Nat} (h : i ∈ Region.ready md ops listed) :
    listed.getD i true = false ∧ ∀ o, ops[i]? = some o → ∀ e ∈ o.after, Region.binds md e = true → listed.getD e.on false = true := by
  unfold Region.ready at h
  simp only [List.mem_filter, Bool.and_eq_true, Bool.not_eq_true'] at h
  refine ⟨h.2.1, fun o ho e he hb => ?_⟩
  have h2 := h.2.2
  rw [ho] at h2
  simp only [Option.map_some, Option.getD_some] at h2
  have h3 := (Array.all_eq_true_iff_forall_mem.1 h2) e he
  simpa [hb] using h3

theorem ready_nil_of_all {md : Region.Mode} {ops : Array Oper} {listed : Array Bool} (h : listed.toList.count false = 0) : Region.ready md ops listed = [] := by
  rw [List.eq_nil_iff_forall_not_mem]
  intro i hi
  have h1 := (ready_false hi).1
  have h2 : listed[i]? = some false := by
    rw [Array.getD_eq_getD_getElem?] at h1
    cases hl : listed[i]? with
    | none => rw [hl] at h1; simp at h1
    | some b => rw [hl] at h1; simp at h1; rw [h1]
  have h3 : false ∈ listed.toList := by
    have := Array.mem_of_getElem? h2
    simpa using this
  have := List.count_pos_iff.2 h3
  omega

/-- an invariant that every operation keeps, whichever is taken next -/
theorem wpAny_inv {P : Program} {md : Region.Mode} {ops : Array Oper} {Q : Exit → Act → World → Prop} (I : Nat → Array Bool → Act → World → Prop)
    (hstep : ∀ fuel listed a w i, i ∈ Region.ready md ops listed → I (fuel + 1) listed a w → wpOp P ops Q i (I fuel (listed.setIfInBounds i true)) a w)
    (hend : ∀ fuel listed a w, Region.ready md ops listed = [] → I fuel listed a w → Q .normal a w) :
    ∀ (fuel : Nat) (listed : Array Bool) (a : Act) (w : World), listed.toList.count false = fuel → I fuel listed a w → wpAny P md ops Q fuel listed a w := by
  intro fuel
  induction fuel with
  | zero => exact fun listed a w hc h => ⟨ready_nil_of_all hc, hend _ _ _ _ (ready_nil_of_all hc) h⟩
  | succ fuel ih =>
    intro listed a w hc h
    refine ⟨fun hr => hend _ _ _ _ hr h, fun i hi => ?_⟩
    refine wpOp_mono (fun a' w' h' => ih _ a' w' ?_ h') (hstep _ _ _ _ i hi h)
    have h1 := (ready_false hi).1
    have h2 : listed.toList[i]? = some false := by
      rw [Array.getD_eq_getD_getElem?] at h1
      rw [Array.getElem?_toList]
      cases hl : listed[i]? with
      | none => rw [hl] at h1; simp at h1
      | some b => rw [hl] at h1; simp at h1; rw [h1]
    have := count_setR _ i h2
    simp only [Array.toList_setIfInBounds]
    omega

end Go.Proofs.Ytnmhnaanpjlniaa
