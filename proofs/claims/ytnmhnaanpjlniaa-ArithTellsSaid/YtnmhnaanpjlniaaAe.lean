import Derived.Test.YtnmhnaanpjlniaaXo
/-
  A law for a region that draws its order and whose last operation writes: each of the others leaves a fact that no growth of memory takes away.
-/
namespace Go.Proofs.Ytnmhnaanpjlniaa
open Go.RowKit

/-- each operation but the last is waited for -/
def sinkB (ops : Array Oper) : Bool := (List.range (ops.size - 1)).all fun j => (List.range ops.size).any fun k => decide (j < k) && ((ops[k]?.map fun o => waitsOn o j).getD false)

theorem sink_all {ops : Array Oper} (h : sinkB ops = true) {L : Nat → Bool} (hcl : ∀ (i : Nat) (o : Oper), ops[i]? = some o → (L i = true ∨ i = ops.size - 1) → ∀ j, waitsOn o j = true → L j = true) : ∀ (d j : Nat), j + d = ops.size - 1 → j < ops.size - 1 → L j = true := by
  intro d
  induction d using Nat.strongRecOn with
  | ind d ih =>
    intro j hj hlt
    simp only [sinkB, List.all_eq_true, List.mem_range, List.any_eq_true, Bool.and_eq_true, decide_eq_true_eq] at h
    obtain ⟨k, hk, hjk, hw⟩ := h j hlt
    cases ho : ops[k]? with
    | none => rw [ho] at hw; cases hw
    | some o =>
      rw [ho] at hw
      by_cases e : k = ops.size - 1
      · exact hcl k o ho (.inr e) j hw
      · exact hcl k o ho (.inl (ih (ops.size - 1 - k) (by omega) k (by omega) (by omega))) j hw

/-- the last operation: from the facts of all others to what follows -/
def LastStep (P : Program) (ops : Array Oper) (Q : Exit → Act → World → Prop) (frame : (Nat → Value) → Act) (I : World → Prop) (F : Nat → Value → World → Prop) (i : Nat) (o : Oper) : Prop :=
  ∀ (f : Nat → Value) (w : World), I w → (∀ j, j < i → F j (f j) w) → ∀ K : Act → World → Prop, Hid (∀ v a' w', a' = (frame f).put o.dst v → Q .normal (frame (upd f i v)) w' → K a' w') →
    if Region.wanted o (yielded ops (frame f).tmps) = true then Oper.wp P o (frame f) w K Q else K ((frame f).put o.dst undef) w

def LSteps (P : Program) (ops : Array Oper) (Q : Exit → Act → World → Prop) (frame : (Nat → Value) → Act) (I : World → Prop) (F : Nat → Value → World → Prop) : List Oper → Nat → Prop
  | [], _ => True
  | [o], i => LastStep P ops Q frame I F i o
  | o :: o' :: l, i => RStep P ops Q frame I F i o ∧ LSteps P ops Q frame I F (o' :: l) (i + 1)

theorem LSteps.get {P : Program} {ops : Array Oper} {Q : Exit → Act → World → Prop} {frame : (Nat → Value) → Act} {I : World → Prop} {F : Nat → Value → World → Prop} : ∀ {l : List Oper} {k : Nat}, LSteps P ops Q frame I F l k → ∀ {i : Nat} {o : Oper}, l[i]? = some o → (i + 1 < l.length → RStep P ops Q frame I F (k + i) o) ∧ (i + 1 = l.length → LastStep P ops Q frame I F (k + i) o)
  | [], _, _, _, _, h => by simp at h
  | [_], _, h, 0, _, ho => by cases ho; exact ⟨fun h' => by simp at h', fun _ => h⟩
  | [_], _, _, i + 1, _, ho => by simp at ho
  | _ :: _ :: _, _, h, 0, _, ho => by cases ho; exact ⟨fun _ => h.1, fun h' => by simp at h'⟩
  | _ :: b :: l, k, h, i + 1, o, ho => by
    have := LSteps.get (l := b :: l) h.2 (i := i) (o := o) (by simpa using ho)
    rw [show k + (i + 1) = k + 1 + i from by omega]
    simp only [List.length_cons] at this ⊢
    exact ⟨fun h' => this.1 (by omega), fun h' => this.2 (by omega)⟩

theorem region_facts_last {P : Program} {ops : Array Oper} {Q : Exit → Act → World → Prop} {id : Nat} {a : Act} {w : World} (I : World → Prop) (L : List (Value → World → Prop)) (hL : StableAll L) (hm : P.follows .mixedOrders = true) (hdag : dagB ops.toList 0 = true) (hap : apartB ops.toList = true) (hsink : sinkB ops = true)
    (h0 : I w.drew) (hstep : LSteps P ops Q (frameOf a ops.toList 0) I (factOf L) ops.toList 0) (hne : 0 < ops.size) : (Code.region id ops true).wp P Q a w := by
  have hopt : ∀ {i : Nat} {o : Oper}, ops.toList[i]? = some o → ops[i]? = some o := fun h => by simpa using h
  refine region_by_inv (fun M f W => (∀ (i : Nat) (o : Oper), ops[i]? = some o → M i = true → ∀ j, waitsOn o j = true → M j = true) ∧ (M (ops.size - 1) = false → I W ∧ ∀ j, j < ops.size - 1 → M j = true → factOf L j (f j) W) ∧ (M (ops.size - 1) = true → (∀ j, j < ops.size - 1 → M j = true) ∧ Q .normal (frameOf a ops.toList 0 f) W)) hm hdag hap
    (fun f => ⟨(fun _ _ _ h => by cases h), (fun _ => ⟨h0, (fun _ _ h => by cases h)⟩), (fun h => by cases h)⟩) ?_ (fun M f W hall hG => (hG.2.2 (hall _ (by omega))).2)
  have build : ∀ (l : List Oper) (k : Nat), (∀ i o, l[i]? = some o → GStep P ops Q (frameOf a ops.toList 0) (fun M f W => (∀ (i : Nat) (o : Oper), ops[i]? = some o → M i = true → ∀ j, waitsOn o j = true → M j = true) ∧ (M (ops.size - 1) = false → I W ∧ ∀ j, j < ops.size - 1 → M j = true → factOf L j (f j) W) ∧ (M (ops.size - 1) = true → (∀ j, j < ops.size - 1 → M j = true) ∧ Q .normal (frameOf a ops.toList 0 f) W)) (k + i) o) → GSteps P ops Q (frameOf a ops.toList 0) (fun M f W => (∀ (i : Nat) (o : Oper), ops[i]? = some o → M i = true → ∀ j, waitsOn o j = true → M j = true) ∧ (M (ops.size - 1) = false → I W ∧ ∀ j, j < ops.size - 1 → M j = true → factOf L j (f j) W) ∧ (M (ops.size - 1) = true → (∀ j, j < ops.size - 1 → M j = true) ∧ Q .normal (frameOf a ops.toList 0 f) W)) l k := by
    intro l
    induction l with
    | nil => intro _ _; trivial
    | cons o l ih =>
      intro k h
      exact ⟨h 0 o rfl, ih (k + 1) fun i o' ho => by rw [show k + 1 + i = k + (i + 1) from by omega]; exact h (i + 1) o' (by simpa using ho)⟩
  refine build _ 0 fun i o ho => ?_
  rw [Nat.zero_add]
  have hi : i < ops.size := by have := (List.getElem?_eq_some_iff.1 ho).1; simpa using this
  have hg := LSteps.get hstep ho
  rw [Nat.zero_add] at hg
  simp only [Array.length_toList] at hg
  intro M f W hMi hwait hG K hK
  have hdg : ∀ j, waitsOn o j = true → j < i := fun j hj => by
    simp only [waitsOn, Array.any_eq_true', Bool.and_eq_true, beq_iff_eq] at hj
    obtain ⟨e, he, hbe, rfl⟩ := hj
    have := dagB_get hdag ho e he hbe
    omega
  have hclosed : ∀ (i' : Nat) (o' : Oper), ops[i']? = some o' → updL M i i' = true → ∀ j, waitsOn o' j = true → updL M i j = true := by
    intro i' o' ho' hi' j hj
    simp only [updL] at hi' ⊢
    split
    · rfl
    · by_cases e : i' = i
      · subst e
        rw [hopt ho] at ho'
        cases ho'
        exact hwait j hj
      · rw [if_neg e] at hi'
        exact hG.1 i' o' ho' hi' j hj
  by_cases hlast : i = ops.size - 1
  · -- the last one
    have hMl : M (ops.size - 1) = false := by rw [← hlast]; exact hMi
    have hall : ∀ j, j < ops.size - 1 → M j = true := fun j hj => sink_all hsink (L := M) (fun i' o' ho' h j hj => by
      rcases h with h | h
      · exact hG.1 i' o' ho' h j hj
      · rw [h, ← hlast, hopt ho] at ho'
        cases ho'
        exact hwait j hj) (ops.size - 1 - j) j (by omega) hj
    obtain ⟨hI, hF⟩ := hG.2.1 hMl
    refine hg.2 (by omega) f W hI (fun j hj => hF j (by omega) (hall j (by omega))) K (Lib.hid fun v a' w' ha hq => hK.out v a' w' ha ⟨hclosed, fun h => ?_, fun _ => ⟨fun j hj => ?_, hq⟩⟩)
    · simp only [updL] at h; rw [if_pos hlast.symm] at h; cases h
    · simp only [updL]; rw [if_neg (by omega)]; exact hall j hj
  · have hMl : M (ops.size - 1) = false := by
      cases hb : M (ops.size - 1) with
      | false => rfl
      | true => have := (hG.2.2 hb).1 i (by omega); rw [hMi] at this; cases this
    obtain ⟨hI, hF⟩ := hG.2.1 hMl
    refine hg.1 (by omega) f W hI (fun j hj => hF j (by have := hdg j hj; omega) (hwait j hj)) K (Lib.hid fun v a' w' ha hI' hB hf => hK.out v a' w' ha ⟨hclosed, fun _ => ⟨hI', fun j hj hjt => ?_⟩, fun h => ?_⟩)
    · simp only [updL, upd] at hjt ⊢
      by_cases e : j = i
      · subst e; rw [if_pos rfl]; exact hf
      · rw [if_neg e] at hjt ⊢
        exact factOf_stable hL j _ _ _ (hF j hj hjt) hB
    · simp only [updL] at h; rw [if_neg (fun e => hlast e.symm), hMl] at h; cases h

end Go.Proofs.Ytnmhnaanpjlniaa
