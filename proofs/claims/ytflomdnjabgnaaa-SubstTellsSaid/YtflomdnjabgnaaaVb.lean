import Derived.Test.YtflomdnjabgnaaaVa
/-
  Layer 5: what a name gives.
-/
namespace Go.Proofs.Ytflomdnjabgnaaa
open Go.RowKit

theorem shift1_any (n m : Int) (NB : Nat) (w : World) (hc : w.cell? ⟨NB, 0, none⟩ = some (.int .i64 m)) :
    Calls Try.prog 75 #[.int .i64 n, .pointer (some ⟨NB, 0, none⟩)] w fun e w' => e = .returned (.int .i64 (wrap64 (n + m))) ∧ w' = w := by
  go_enter Try.func75, Try.ntmps75
  go_wp2
  go_ret
  exact ⟨rfl, rfl⟩
end Go.Proofs.Ytflomdnjabgnaaa
