import Derived.Test.YtnmhnaanpjlniaaGreatCf
/-
  A law for a region that draws its order and writes one known block: facts that a relation between worlds keeps.
-/
namespace Go.Proofs.YtnmhnaanpjlniaaGreat
open Go.RowKit

def RStepR (P : Program) (ops : Array Oper) (Q : Exit → Act → World → Prop) (frame : (Nat → Value) → Act) (ρ : World → World → Prop) (I : World → Prop) (F : Nat → Value → World → Prop) (i : Nat) (o : Oper) : Prop :=
  ∀ (f : Nat → Value) (w : World), I w → (∀ j, waitsOn o j = true → F j (f j) w) → ∀ K : Act → World → Prop, Hid (∀ v a' w', a' = (frame f).put o.dst v → I w' → ρ w w' → F i v w' → K a' w') →
    if Region.wanted o (yielded ops (frame f).tmps) = true then Oper.wp P o (frame f) w K Q else K ((frame f).put o.dst undef) w

def RStepsR (P : Program) (ops : Array Oper) (Q : Exit → Act → World → Prop) (frame : (Nat → Value) → Act) (ρ : World → World → Prop) (I : World → Prop) (F : Nat → Value → World → Prop) : List Oper → Nat → Prop
  | [], _ => True
  | o :: l, i => RStepR P ops Q frame ρ I F i o ∧ RStepsR P ops Q frame ρ I F l (i + 1)

theorem RStepsR.gsteps {P : Program} {ops : Array Oper} {Q : Exit → Act → World → Prop} {frame : (Nat → Value) → Act} {ρ : World → World → Prop} {I : World → Prop} {F : Nat → Value → World → Prop} (hρ : ∀ j u w w', F j u w → ρ w w' → F j u w') : ∀ {l : List Oper} {k : Nat}, RStepsR P ops Q frame ρ I F l k → GSteps P ops Q frame (fun M f W => I W ∧ ∀ j, M j = true → F j (f j) W) l k
  | [], _, _ => trivial
  | o :: l, k, h => by
    refine ⟨?_, RStepsR.gsteps hρ h.2⟩
    intro M f w hMi hwait hG K hK
    refine h.1 f w hG.1 (fun j hj => hG.2 j (hwait j hj)) K (Lib.hid fun v a' w' ha hI hr hF => hK.out v a' w' ha ⟨hI, fun j hj => ?_⟩)
    simp only [updL, upd] at hj ⊢
    by_cases e : j = k
    · subst e; rw [if_pos rfl]; exact hF
    · rw [if_neg e] at hj ⊢
      exact hρ _ _ _ _ (hG.2 j hj) hr

theorem region_by_rel {P : Program} {ops : Array Oper} {Q : Exit → Act → World → Prop} {id : Nat} {a : Act} {w : World} (ρ : World → World → Prop) (I : World → Prop) (L : List (Value → World → Prop)) (hρ : ∀ j u w w', factOf L j u w → ρ w w' → factOf L j u w') (hm : P.follows .mixedOrders = true) (hdag : dagB ops.toList 0 = true) (hap : apartB ops.toList = true)
    (h0 : I w.drew) (hstep : RStepsR P ops Q (frameOf a ops.toList 0) ρ I (factOf L) ops.toList 0)
    (hdone : ∀ f w, I w → (∀ j, j < ops.size → factOf L j (f j) w) → Q .normal (frameOf a ops.toList 0 f) w) : (Code.region id ops true).wp P Q a w :=
  region_by_inv (fun M f W => I W ∧ ∀ j, M j = true → factOf L j (f j) W) hm hdag hap (fun _ => ⟨h0, fun _ h => by cases h⟩) (hstep.gsteps hρ) fun M f W hall hG => hdone f W hG.1 fun j hj => hG.2 j (hall j hj)

def Keeps (ρ : World → World → Prop) (p : Value → World → Prop) : Prop := ∀ v w w', p v w → ρ w w' → p v w'
def KeepsAll (ρ : World → World → Prop) : List (Value → World → Prop) → Prop
  | [] => True
  | p :: l => Keeps ρ p ∧ KeepsAll ρ l
theorem Keeps.eq {ρ : World → World → Prop} (u : Value) : Keeps ρ fun v _ => v = u := fun _ _ _ h _ => h
theorem factOf_keeps {ρ : World → World → Prop} : ∀ {L : List (Value → World → Prop)}, KeepsAll ρ L → ∀ i, Keeps ρ (factOf L i)
  | [], _, _ => fun _ _ _ _ _ => trivial
  | _ :: _, h, 0 => h.1
  | _ :: l, h, i + 1 => factOf_keeps (L := l) h.2 i

/-- one block turns, and what is to stand in it stays when it has come -/
structure TurnsTo (R : Nat) (F : World → Prop) (w w' : World) : Prop where
  g : G2 R R w w'
  f : F w → F w'

theorem G2.fresh2 {KB S R : Nat} {w a b : World} (h : G2 KB S w a) (hg : G2 R R a b) (hge : w.heap.size ≤ R) : G2 KB S w b :=
  ⟨hg.os.trans h.os, hg.tape.trans h.tape, hg.output.trans h.output, Nat.le_trans h.size hg.size, fun k hk h1 h2 => (hg.block k (Nat.lt_of_lt_of_le hk h.size) (by omega) (by omega)).trans (h.block k hk h1 h2)⟩

end Go.Proofs.YtnmhnaanpjlniaaGreat
