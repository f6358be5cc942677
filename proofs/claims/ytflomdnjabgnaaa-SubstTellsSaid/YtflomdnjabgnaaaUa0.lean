import Derived.Test.YtflomdnjabgnaaaTz
import Derived.Deep.DeepCutAuto
/-
  Whether terms are too great, as a Boolean that is known.
-/
namespace Go.Proofs.Ytflomdnjabgnaaa
open Go.RowKit

theorem great_is (ts : Ts) (hok : ts.ok) (b : Bool) (hb : decide (1000 < manyP ts 0) = b) (w : World) (p : Option Addr) (c : Nat) (hat : Ts.At w p ts) (hl : ts.len ≤ 9223372036854775807) :
    Calls Try.prog 15 #[.slice p ts.len c] w fun e w' => e = .returned (.bool b) ∧ Below w.heap.size w w' := by
  subst hb
  refine (great_any ts w p c hat hok hl).mono ?_
  rintro e w' ⟨rfl, q, rfl⟩
  exact ⟨rfl, below_drewN (Below.refl _ _) q⟩

end Go.Proofs.Ytflomdnjabgnaaa
