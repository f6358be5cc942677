/-
  A term is stored into a list's place.
-/
import Derived.Test.YtflomdnjabgnaaaTk
namespace Go.Proofs.Ytflomdnjabgnaaa
open Go.RowKit

/-- a term into a list's place -/
theorem put4 (w' : World) (R x : Nat) (v0 v1 v2 v3 : Value) (r0 : (w'.cell? ⟨R, x, none⟩).isSome) (r1 : (w'.cell? ⟨R, x + 1, none⟩).isSome) (r2 : (w'.cell? ⟨R, x + 2, none⟩).isSome) (r3 : (w'.cell? ⟨R, x + 3, none⟩).isSome) :
    ∃ W, W = ((((w'.setCell ⟨R, x, none⟩ v0).setCell ⟨R, x + 1, none⟩ v1).setCell ⟨R, x + 2, none⟩ v2).setCell ⟨R, x + 3, none⟩ v3) ∧ W.heap.size = w'.heap.size ∧
      (∀ b y, b ≠ R → W.cell? ⟨b, y, none⟩ = w'.cell? ⟨b, y, none⟩) ∧ (∀ y, y < x ∨ x + 4 ≤ y → W.cell? ⟨R, y, none⟩ = w'.cell? ⟨R, y, none⟩) ∧
      W.cell? ⟨R, x, none⟩ = some v0 ∧ W.cell? ⟨R, x + 1, none⟩ = some v1 ∧ W.cell? ⟨R, x + 2, none⟩ = some v2 ∧ W.cell? ⟨R, x + 3, none⟩ = some v3 ∧ (∀ b y, W.frozen? ⟨b, y, none⟩ = w'.frozen? ⟨b, y, none⟩) ∧
      (∀ B (w : World), B ≤ R → Below B w w' → Below B w W) := by
  have hneq : ∀ y z : Nat, y ≠ z → (⟨R, y, none⟩ : Addr) ≠ ⟨R, z, none⟩ := fun y z h e => h (by injection e)
  have other : ∀ (u : World) (p q : Addr) (v : Value), p ≠ q → (u.setCell p v).cell? q = u.cell? q := fun u p q v h => World.cell?_setCell_other _ _ _ _ h
  have same : ∀ (u : World) (p : Addr) (v y : Value), u.cell? p = some y → (u.setCell p v).cell? p = some v := fun u p v y h => World.cell?_setCell_same _ _ _ h
  obtain ⟨u0, r0⟩ := Option.isSome_iff_exists.1 r0
  obtain ⟨u1, r1⟩ := Option.isSome_iff_exists.1 r1
  obtain ⟨u2, r2⟩ := Option.isSome_iff_exists.1 r2
  obtain ⟨u3, r3⟩ := Option.isSome_iff_exists.1 r3
  refine ⟨_, rfl, by simp, fun b y h2 => ?_, fun y hy => ?_, ?_, ?_, ?_, ?_, fun b y => by simp, fun B w hR hB => ?_⟩
  · have hb : ∀ z : Nat, (⟨R, z, none⟩ : Addr) ≠ ⟨b, y, none⟩ := fun z e => h2 (by injection e with e1; exact e1.symm)
    rw [other _ _ _ _ (hb _), other _ _ _ _ (hb _), other _ _ _ _ (hb _), other _ _ _ _ (hb _)]
  · rw [other _ _ _ _ (hneq _ _ (by omega)), other _ _ _ _ (hneq _ _ (by omega)), other _ _ _ _ (hneq _ _ (by omega)), other _ _ _ _ (hneq _ _ (by omega))]
  · rw [other _ _ _ _ (hneq _ _ (by omega)), other _ _ _ _ (hneq _ _ (by omega)), other _ _ _ _ (hneq _ _ (by omega))]
    exact same _ _ _ u0 r0
  · rw [other _ _ _ _ (hneq _ _ (by omega)), other _ _ _ _ (hneq _ _ (by omega))]
    exact same _ _ _ u1 (by rw [other _ _ _ _ (hneq _ _ (by omega))]; exact r1)
  · rw [other _ _ _ _ (hneq _ _ (by omega))]
    exact same _ _ _ u2 (by rw [other _ _ _ _ (hneq _ _ (by omega)), other _ _ _ _ (hneq _ _ (by omega))]; exact r2)
  · exact same _ _ _ u3 (by rw [other _ _ _ _ (hneq _ _ (by omega)), other _ _ _ _ (hneq _ _ (by omega)), other _ _ _ _ (hneq _ _ (by omega))]; exact r3)
  · exact (((hB.setCell (p := ⟨R, x, none⟩) hR _).setCell (p := ⟨R, x + 1, none⟩) hR _).setCell (p := ⟨R, x + 2, none⟩) hR _).setCell (p := ⟨R, x + 3, none⟩) hR _

end Go.Proofs.Ytflomdnjabgnaaa
