import Derived.Test.YtnmhnaanpjlniaaGreatTw
import Derived.Test.YtnmhnaanpjlniaaGreatTj
import Derived.Test.YtnmhnaanpjlniaaGreatTn
/-
  A law for a region that draws its order and writes too: one invariant of what has come up, of the slots' values and of the world; one step an operation.
-/
namespace Go.Proofs.YtnmhnaanpjlniaaGreat
open Go.RowKit

def updL (L : Nat → Bool) (i : Nat) : Nat → Bool := fun j => if j = i then true else L j

def GStep (P : Program) (ops : Array Oper) (Q : Exit → Act → World → Prop) (frame : (Nat → Value) → Act) (G : (Nat → Bool) → (Nat → Value) → World → Prop) (i : Nat) (o : Oper) : Prop :=
  ∀ (L : Nat → Bool) (f : Nat → Value) (w : World), L i = false → (∀ j, waitsOn o j = true → L j = true) → G L f w → ∀ K : Act → World → Prop, Hid (∀ v a' w', a' = (frame f).put o.dst v → G (updL L i) (upd f i v) w' → K a' w') →
    if Region.wanted o (yielded ops (frame f).tmps) = true then Oper.wp P o (frame f) w K Q else K ((frame f).put o.dst undef) w

def GSteps (P : Program) (ops : Array Oper) (Q : Exit → Act → World → Prop) (frame : (Nat → Value) → Act) (G : (Nat → Bool) → (Nat → Value) → World → Prop) : List Oper → Nat → Prop
  | [], _ => True
  | o :: l, i => GStep P ops Q frame G i o ∧ GSteps P ops Q frame G l (i + 1)

theorem GSteps.get {P : Program} {ops : Array Oper} {Q : Exit → Act → World → Prop} {frame : (Nat → Value) → Act} {G : (Nat → Bool) → (Nat → Value) → World → Prop} : ∀ {l : List Oper} {k : Nat}, GSteps P ops Q frame G l k → ∀ {i : Nat} {o : Oper}, l[i]? = some o → GStep P ops Q frame G (k + i) o
  | [], _, _, _, _, h => by simp at h
  | _ :: _, _, h, 0, _, ho => by cases ho; exact h.1
  | _ :: l, k, h, i + 1, o, ho => by
    have := GSteps.get h.2 (i := i) (o := o) (by simpa using ho)
    rw [show k + (i + 1) = k + 1 + i from by omega]
    exact this

section
variable {P : Program} {ops : Array Oper} {Q : Exit → Act → World → Prop} {frame : (Nat → Value) → Act} {G : (Nat → Bool) → (Nat → Value) → World → Prop}

theorem any_inv (hdag : dagB ops.toList 0 = true) (hput : Puts frame ops.toList 0) (hstep : GSteps P ops Q frame G ops.toList 0)
    (hdone : ∀ L f w, (∀ j, j < ops.size → L j = true) → G L f w → Q .normal (frame f) w) :
    ∀ (fuel : Nat) (listed : Array Bool) (f : Nat → Value) (w : World), listed.size = ops.size → listed.toList.count false ≤ fuel → G (fun j => listed.getD j false) f w → wpAny P .any ops Q fuel listed (frame f) w := by
  have all_of : ∀ (listed : Array Bool), listed.size = ops.size → Region.ready .any ops listed = [] → ∀ j, j < ops.size → listed.getD j false = true := by
    intro listed hs hr j
    induction j using Nat.strongRecOn with
    | ind j ih =>
      intro hj
      cases hb : listed.getD j false with
      | true => rfl
      | false =>
        exfalso
        have hm : j ∈ Region.ready .any ops listed := by
          rw [ready_iff]
          refine ⟨hj, ?_, ops[j], by simp [hj], fun i hi => ?_⟩
          · simp only [Array.getD] at hb ⊢
            rw [dif_pos (by omega)] at hb ⊢
            exact hb
          · simp only [waitsOn, Array.any_eq_true', Bool.and_eq_true, beq_iff_eq] at hi
            obtain ⟨e, he, hbe, rfl⟩ := hi
            have := dagB_get hdag (i := j) (o := ops[j]) (by simp [hj]) e he hbe
            exact ih _ (by omega) (by omega)
        rw [hr] at hm; cases hm
  intro fuel
  induction fuel with
  | zero =>
    intro listed f w hs hc hG
    have hall : ∀ j, j < ops.size → listed.getD j false = true := fun j hj => by
      cases hb : listed.getD j false with
      | true => rfl
      | false =>
        exfalso
        have h1 : false ∈ listed.toList := by
          simp only [Array.getD] at hb
          rw [dif_pos (by omega)] at hb
          rw [← hb]
          simp
        have := List.count_pos_iff.2 h1
        omega
    refine ⟨?_, hdone _ f w (fun j hj => hall j hj) hG⟩
    refine List.eq_nil_iff_forall_not_mem.2 fun i hi => ?_
    obtain ⟨h1, h2, _⟩ := (ready_iff listed i).1 hi
    have h3 := hall i h1
    simp only [Array.getD] at h2 h3
    rw [dif_pos (by omega)] at h2 h3
    rw [h2] at h3; cases h3
  | succ fuel ih =>
    intro listed f w hs hc hG
    refine ⟨fun hr => hdone _ f w (fun j hj => all_of listed hs hr j hj) hG, fun i hi => ?_⟩
    obtain ⟨h1, h2, o, ho, h3⟩ := (ready_iff listed i).1 hi
    have hol : ops.toList[i]? = some o := by simpa using ho
    have hli : listed.toList[i]? = some false := by
      simp only [Array.getD] at h2
      rw [dif_pos (by omega)] at h2
      simp only [Array.getElem?_toList]
      rw [Array.getElem?_eq_getElem (by omega)]
      exact congrArg some h2
    have hLi : (fun j => listed.getD j false) i = false := by
      show listed.getD i false = false
      simp only [Array.getD] at h2 ⊢
      rw [dif_pos (by omega)] at h2 ⊢
      exact h2
    have hL : (fun j => (listed.setIfInBounds i true).getD j false) = updL (fun j => listed.getD j false) i := by
      funext j
      simp only [updL]
      by_cases e : j = i
      · subst e
        rw [if_pos rfl]
        simp only [Array.getD, Array.size_setIfInBounds]
        rw [dif_pos (by omega), Array.getInternal_eq_getElem]
        simp
      · rw [if_neg e]
        simp only [Array.getD, Array.size_setIfInBounds]
        split
        · rw [Array.getInternal_eq_getElem, Array.getInternal_eq_getElem, Array.getElem_setIfInBounds_ne _ (fun h => e h.symm)]
        · rfl
    refine wpOp_step ho fun K' hK => ?_
    have hst := GSteps.get hstep hol (fun j => listed.getD j false) f w
    rw [Nat.zero_add] at hst
    refine hst hLi (fun j hj => h3 j hj) hG K' (Lib.hid fun v a' w' ha' hG' => ha' ▸ hK _ _ ?_)
    have hp := Puts.get hput hol f v
    rw [Nat.zero_add] at hp
    rw [hp]
    refine ih _ _ _ (by simp [hs]) ?_ (by rw [hL]; exact hG')
    have := count_set hli
    rw [Array.toList_setIfInBounds]
    omega
end

theorem region_by_inv {P : Program} {ops : Array Oper} {Q : Exit → Act → World → Prop} {id : Nat} {a : Act} {w : World} (G : (Nat → Bool) → (Nat → Value) → World → Prop) (hm : P.follows .mixedOrders = true) (hdag : dagB ops.toList 0 = true) (hap : apartB ops.toList = true)
    (h0 : ∀ f, G (fun _ => false) f w.drew) (hstep : GSteps P ops Q (frameOf a ops.toList 0) G ops.toList 0)
    (hdone : ∀ L f w, (∀ j, j < ops.size → L j = true) → G L f w → Q .normal (frameOf a ops.toList 0 f) w) : (Code.region id ops true).wp P Q a w := by
  rw [← frameOf_self a ops ops.toList 0 fun k => by simp] 
  refine wp_region_any hm ?_
  rw [frameOf_self a ops ops.toList 0 fun k => by simp]
  have h := any_inv hdag (puts_of _ _ (frameOf_put a _ _ hap)) hstep hdone ops.size (Array.replicate ops.size false) (fun j => slotOf a ((ops[j]?).bind (·.dst))) w.drew (by simp) (by simp) (by
    have e : (fun j => (Array.replicate ops.size false).getD j false) = fun _ => false := by
      funext j
      simp only [Array.getD]
      split <;> simp
    rw [e]
    exact h0 _)
  rw [frameOf_self a ops ops.toList 0 fun k => by simp] at h
  exact h








end Go.Proofs.YtnmhnaanpjlniaaGreat
/-
  A law for a region that draws its order and whose last operation writes: each of the others leaves a fact that no growth of memory takes away.
-/
namespace Go.Proofs.YtnmhnaanpjlniaaGreat
open Go.RowKit

/-- each operation but the last is waited for -/
def sinkB (ops : Array Oper) : Bool := (List.range (ops.size - 1)).all fun j => (List.range ops.size).any fun k => decide (j < k) && ((ops[k]?.map fun o => waitsOn o j).getD false)

theorem sink_all {ops : Array Oper} (h : sinkB ops = true) {L : Nat → Bool} (hcl : ∀ (i : Nat) (o : Oper), ops[i]? = some o → (L i = true ∨ i = ops.size - 1) → ∀ j, waitsOn o j = true → L j = true) : ∀ (d j : Nat), j + d = ops.size - 1 → j < ops.size - 1 → L j = true := by
  intro d
  induction d using Nat.strongRecOn with
  | ind d ih =>
    intro j hj hlt
    simp only [sinkB, List.all_eq_true, List.mem_range, List.any_eq_true, Bool.and_eq_true, decide_eq_true_eq] at h
    obtain ⟨k, hk, hjk, hw⟩ := h j hlt
    cases ho : ops[k]? with
    | none => rw [ho] at hw; cases hw
    | some o =>
      rw [ho] at hw
      by_cases e : k = ops.size - 1
      · exact hcl k o ho (.inr e) j hw
      · exact hcl k o ho (.inl (ih (ops.size - 1 - k) (by omega) k (by omega) (by omega))) j hw

/-- the last operation: from the facts of all others to what follows -/
def LastStep (P : Program) (ops : Array Oper) (Q : Exit → Act → World → Prop) (frame : (Nat → Value) → Act) (I : World → Prop) (F : Nat → Value → World → Prop) (i : Nat) (o : Oper) : Prop :=
  ∀ (f : Nat → Value) (w : World), I w → (∀ j, j < i → F j (f j) w) → ∀ K : Act → World → Prop, Hid (∀ v a' w', a' = (frame f).put o.dst v → Q .normal (frame (upd f i v)) w' → K a' w') →
    if Region.wanted o (yielded ops (frame f).tmps) = true then Oper.wp P o (frame f) w K Q else K ((frame f).put o.dst undef) w

def LSteps (P : Program) (ops : Array Oper) (Q : Exit → Act → World → Prop) (frame : (Nat → Value) → Act) (I : World → Prop) (F : Nat → Value → World → Prop) : List Oper → Nat → Prop
  | [], _ => True
  | [o], i => LastStep P ops Q frame I F i o
  | o :: o' :: l, i => RStep P ops Q frame I F i o ∧ LSteps P ops Q frame I F (o' :: l) (i + 1)

theorem LSteps.get {P : Program} {ops : Array Oper} {Q : Exit → Act → World → Prop} {frame : (Nat → Value) → Act} {I : World → Prop} {F : Nat → Value → World → Prop} : ∀ {l : List Oper} {k : Nat}, LSteps P ops Q frame I F l k → ∀ {i : Nat} {o : Oper}, l[i]? = some o → (i + 1 < l.length → RStep P ops Q frame I F (k + i) o) ∧ (i + 1 = l.length → LastStep P ops Q frame I F (k + i) o)
  | [], _, _, _, _, h => by simp at h
  | [_], _, h, 0, _, ho => by cases ho; exact ⟨fun h' => by simp at h', fun _ => h⟩
  | [_], _, _, i + 1, _, ho => by simp at ho
  | _ :: _ :: _, _, h, 0, _, ho => by cases ho; exact ⟨fun _ => h.1, fun h' => by simp at h'⟩
  | _ :: b :: l, k, h, i + 1, o, ho => by
    have := LSteps.get (l := b :: l) h.2 (i := i) (o := o) (by simpa using ho)
    rw [show k + (i + 1) = k + 1 + i from by omega]
    simp only [List.length_cons] at this ⊢
    exact ⟨fun h' => this.1 (by omega), fun h' => this.2 (by omega)⟩

theorem region_facts_last {P : Program} {ops : Array Oper} {Q : Exit → Act → World → Prop} {id : Nat} {a : Act} {w : World} (I : World → Prop) (L : List (Value → World → Prop)) (hL : StableAll L) (hm : P.follows .mixedOrders = true) (hdag : dagB ops.toList 0 = true) (hap : apartB ops.toList = true) (hsink : sinkB ops = true)
    (h0 : I w.drew) (hstep : LSteps P ops Q (frameOf a ops.toList 0) I (factOf L) ops.toList 0) (hne : 0 < ops.size) : (Code.region id ops true).wp P Q a w := by
  have hopt : ∀ {i : Nat} {o : Oper}, ops.toList[i]? = some o → ops[i]? = some o := fun h => by simpa using h
  refine region_by_inv (fun M f W => (∀ (i : Nat) (o : Oper), ops[i]? = some o → M i = true → ∀ j, waitsOn o j = true → M j = true) ∧ (M (ops.size - 1) = false → I W ∧ ∀ j, j < ops.size - 1 → M j = true → factOf L j (f j) W) ∧ (M (ops.size - 1) = true → (∀ j, j < ops.size - 1 → M j = true) ∧ Q .normal (frameOf a ops.toList 0 f) W)) hm hdag hap
    (fun f => ⟨(fun _ _ _ h => by cases h), (fun _ => ⟨h0, (fun _ _ h => by cases h)⟩), (fun h => by cases h)⟩) ?_ (fun M f W hall hG => (hG.2.2 (hall _ (by omega))).2)
  have build : ∀ (l : List Oper) (k : Nat), (∀ i o, l[i]? = some o → GStep P ops Q (frameOf a ops.toList 0) (fun M f W => (∀ (i : Nat) (o : Oper), ops[i]? = some o → M i = true → ∀ j, waitsOn o j = true → M j = true) ∧ (M (ops.size - 1) = false → I W ∧ ∀ j, j < ops.size - 1 → M j = true → factOf L j (f j) W) ∧ (M (ops.size - 1) = true → (∀ j, j < ops.size - 1 → M j = true) ∧ Q .normal (frameOf a ops.toList 0 f) W)) (k + i) o) → GSteps P ops Q (frameOf a ops.toList 0) (fun M f W => (∀ (i : Nat) (o : Oper), ops[i]? = some o → M i = true → ∀ j, waitsOn o j = true → M j = true) ∧ (M (ops.size - 1) = false → I W ∧ ∀ j, j < ops.size - 1 → M j = true → factOf L j (f j) W) ∧ (M (ops.size - 1) = true → (∀ j, j < ops.size - 1 → M j = true) ∧ Q .normal (frameOf a ops.toList 0 f) W)) l k := by
    intro l
    induction l with
    | nil => intro _ _; trivial
    | cons o l ih =>
      intro k h
      exact ⟨h 0 o rfl, ih (k + 1) fun i o' ho => by rw [show k + 1 + i = k + (i + 1) from by omega]; exact h (i + 1) o' (by simpa using ho)⟩
  refine build _ 0 fun i o ho => ?_
  rw [Nat.zero_add]
  have hi : i < ops.size := by have := (List.getElem?_eq_some_iff.1 ho).1; simpa using this
  have hg := LSteps.get hstep ho
  rw [Nat.zero_add] at hg
  simp only [Array.length_toList] at hg
  intro M f W hMi hwait hG K hK
  have hdg : ∀ j, waitsOn o j = true → j < i := fun j hj => by
    simp only [waitsOn, Array.any_eq_true', Bool.and_eq_true, beq_iff_eq] at hj
    obtain ⟨e, he, hbe, rfl⟩ := hj
    have := dagB_get hdag ho e he hbe
    omega
  have hclosed : ∀ (i' : Nat) (o' : Oper), ops[i']? = some o' → updL M i i' = true → ∀ j, waitsOn o' j = true → updL M i j = true := by
    intro i' o' ho' hi' j hj
    simp only [updL] at hi' ⊢
    split
    · rfl
    · by_cases e : i' = i
      · subst e
        rw [hopt ho] at ho'
        cases ho'
        exact hwait j hj
      · rw [if_neg e] at hi'
        exact hG.1 i' o' ho' hi' j hj
  by_cases hlast : i = ops.size - 1
  · -- the last one
    have hMl : M (ops.size - 1) = false := by rw [← hlast]; exact hMi
    have hall : ∀ j, j < ops.size - 1 → M j = true := fun j hj => sink_all hsink (L := M) (fun i' o' ho' h j hj => by
      rcases h with h | h
      · exact hG.1 i' o' ho' h j hj
      · rw [h, ← hlast, hopt ho] at ho'
        cases ho'
        exact hwait j hj) (ops.size - 1 - j) j (by omega) hj
    obtain ⟨hI, hF⟩ := hG.2.1 hMl
    refine hg.2 (by omega) f W hI (fun j hj => hF j (by omega) (hall j (by omega))) K (Lib.hid fun v a' w' ha hq => hK.out v a' w' ha ⟨hclosed, fun h => ?_, fun _ => ⟨fun j hj => ?_, hq⟩⟩)
    · simp only [updL] at h; rw [if_pos hlast.symm] at h; cases h
    · simp only [updL]; rw [if_neg (by omega)]; exact hall j hj
  · have hMl : M (ops.size - 1) = false := by
      cases hb : M (ops.size - 1) with
      | false => rfl
      | true => have := (hG.2.2 hb).1 i (by omega); rw [hMi] at this; cases this
    obtain ⟨hI, hF⟩ := hG.2.1 hMl
    refine hg.1 (by omega) f W hI (fun j hj => hF j (by have := hdg j hj; omega) (hwait j hj)) K (Lib.hid fun v a' w' ha hI' hB hf => hK.out v a' w' ha ⟨hclosed, fun _ => ⟨hI', fun j hj hjt => ?_⟩, fun h => ?_⟩)
    · simp only [updL, upd] at hjt ⊢
      by_cases e : j = i
      · subst e; rw [if_pos rfl]; exact hf
      · rw [if_neg e] at hjt ⊢
        exact factOf_stable hL j _ _ _ (hF j hj hjt) hB
    · simp only [updL] at h; rw [if_neg (fun e => hlast e.symm), hMl] at h; cases h

end Go.Proofs.YtnmhnaanpjlniaaGreat
