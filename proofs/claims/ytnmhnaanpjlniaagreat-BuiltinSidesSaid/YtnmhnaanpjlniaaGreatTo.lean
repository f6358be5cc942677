import Derived.Test.YtnmhnaanpjlniaaGreatTn
/-
  Size, by the iterator.
-/
namespace Go.Proofs.YtnmhnaanpjlniaaGreat
open Go.RowKit
attribute [local go_sem] Oper.semAt_some





end Go.Proofs.YtnmhnaanpjlniaaGreat
