import Derived.Test.YtnmhnaanpjlniaaGreatCh
/-
  A law for a region that draws its order, all of whose values are known: what the world is hangs on what has come.
-/
namespace Go.Proofs.YtnmhnaanpjlniaaGreat
open Go.RowKit

/-- all values are known; what the world is hangs on what has come -/
def Closed (ops : Array Oper) (M : Nat → Bool) : Prop := ∀ (i : Nat) (o : Oper), ops[i]? = some o → M i = true → ∀ j, waitsOn o j = true → M j = true

def KnStep (P : Program) (ops : Array Oper) (Q : Exit → Act → World → Prop) (frame : (Nat → Value) → Act) (vals : Nat → Value) (Φ : (Nat → Bool) → World → Prop) (i : Nat) (o : Oper) : Prop :=
  ∀ (M : Nat → Bool) (f : Nat → Value) (w : World), M i = false → Closed ops M → (∀ j, waitsOn o j = true → f j = vals j ∧ M j = true) → Φ M w → ∀ K : Act → World → Prop, Hid (∀ a' w', a' = (frame f).put o.dst (vals i) → Φ (updL M i) w' → K a' w') →
    if Region.wanted o (yielded ops (frame f).tmps) = true then Oper.wp P o (frame f) w K Q else K ((frame f).put o.dst undef) w

def KnSteps (P : Program) (ops : Array Oper) (Q : Exit → Act → World → Prop) (frame : (Nat → Value) → Act) (vals : Nat → Value) (Φ : (Nat → Bool) → World → Prop) : List Oper → Nat → Prop
  | [], _ => True
  | o :: l, i => KnStep P ops Q frame vals Φ i o ∧ KnSteps P ops Q frame vals Φ l (i + 1)

theorem KnSteps.get {P : Program} {ops : Array Oper} {Q : Exit → Act → World → Prop} {frame : (Nat → Value) → Act} {vals : Nat → Value} {Φ : (Nat → Bool) → World → Prop} : ∀ {l : List Oper} {k : Nat}, KnSteps P ops Q frame vals Φ l k → ∀ {i : Nat} {o : Oper}, l[i]? = some o → KnStep P ops Q frame vals Φ (k + i) o
  | [], _, _, _, _, h => by simp at h
  | _ :: _, _, h, 0, _, ho => by cases ho; exact h.1
  | _ :: l, k, h, i + 1, o, ho => by
    have := KnSteps.get h.2 (i := i) (o := o) (by simpa using ho)
    rw [show k + (i + 1) = k + 1 + i from by omega]
    exact this

theorem region_known {P : Program} {ops : Array Oper} {Q : Exit → Act → World → Prop} {id : Nat} {a : Act} {w : World} (vals : Nat → Value) (Φ : (Nat → Bool) → World → Prop) (hm : P.follows .mixedOrders = true) (hdag : dagB ops.toList 0 = true) (hap : apartB ops.toList = true)
    (h0 : Φ (fun _ => false) w.drew) (hstep : KnSteps P ops Q (frameOf a ops.toList 0) vals Φ ops.toList 0)
    (hdone : ∀ M f w, (∀ j, j < ops.size → M j = true ∧ f j = vals j) → Φ M w → Q .normal (frameOf a ops.toList 0 f) w) : (Code.region id ops true).wp P Q a w := by
  refine region_by_inv (fun M f W => Closed ops M ∧ (∀ j, M j = true → f j = vals j) ∧ Φ M W) hm hdag hap (fun _ => ⟨(fun _ _ _ h => by cases h), (fun _ h => by cases h), h0⟩) ?_ (fun M f W hall hG => hdone M f W (fun j hj => ⟨hall j hj, hG.2.1 j (hall j hj)⟩) hG.2.2)
  have build : ∀ (l : List Oper) (k : Nat), (∀ i o, l[i]? = some o → GStep P ops Q (frameOf a ops.toList 0) (fun M f W => Closed ops M ∧ (∀ j, M j = true → f j = vals j) ∧ Φ M W) (k + i) o) → GSteps P ops Q (frameOf a ops.toList 0) (fun M f W => Closed ops M ∧ (∀ j, M j = true → f j = vals j) ∧ Φ M W) l k := by
    intro l
    induction l with
    | nil => intro _ _; trivial
    | cons o l ih =>
      intro k h
      exact ⟨h 0 o rfl, ih (k + 1) fun i o' ho => by rw [show k + 1 + i = k + (i + 1) from by omega]; exact h (i + 1) o' (by simpa using ho)⟩
  refine build _ 0 fun i o ho => ?_
  have hg := KnSteps.get hstep ho
  rw [Nat.zero_add] at hg ⊢
  have ho2 : ops[i]? = some o := by simpa using ho
  intro M f W hMi hwait hG K hK
  refine hg M f W hMi hG.1 (fun j hj => ⟨hG.2.1 j (hwait j hj), hwait j hj⟩) hG.2.2 K (Lib.hid fun a' w' ha hΦ => hK.out _ a' w' ha ⟨fun i' o' ho' h' j hj => ?_, fun j hj => ?_, hΦ⟩)
  · simp only [updL] at h' ⊢
    split
    · rfl
    · by_cases e : i' = i
      · subst e; rw [ho2] at ho'; cases ho'; exact hwait j hj
      · rw [if_neg e] at h'; exact hG.1 i' o' ho' h' j hj
  · simp only [updL, upd] at hj ⊢
    by_cases e : j = i
    · subst e; rw [if_pos rfl]
    · rw [if_neg e] at hj ⊢; exact hG.2.1 j hj

def valOf2 (L : List Value) (i : Nat) : Value := L.getD i undef

end Go.Proofs.YtnmhnaanpjlniaaGreat
