/-
  The law SubstNil, walked.
-/
import Derived.Test.YtflomdnjabgnaaaAn
import Derived.Test.YtflomdnjabgnaaaZc
namespace Go.Proofs.Ytflomdnjabgnaaa
open Go.RowKit

theorem substNil_true (w : World) (k : Int) (s : ByteArray) (n : Int) (p : Option Addr) (c : Nat) (ts : Ts) (v : Int)
    (hok : Ts.ok (.cons k s n p c ts .nil)) (hat : Ts.At w p ts) (hv : -9223372036854775808 ≤ v ∧ v ≤ 9223372036854775807) :
    Calls Try.prog 3 #[tv k s n p ts.len c, .int .i64 v] w fun e w' => e = .returned (.bool true) ∧ Below w.heap.size w w' :=
  substNil_of wakes3_any w k s n p c ts v hok hat hv

end Go.Proofs.Ytflomdnjabgnaaa
