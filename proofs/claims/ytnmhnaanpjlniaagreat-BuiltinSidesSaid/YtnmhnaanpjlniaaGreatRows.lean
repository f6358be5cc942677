/-
  NARROWER THAN 'FOR EVERY INPUT', by the rows' own cells (each row's printed sentence says how): BuiltinKinds: loops · BuiltinSides: loops · BuiltinGround: loops · BuiltinOrder: loops · BuiltinTells: loops.
  DERIVED. THE GIVEN ROWS OF THIS SEAT. 5 by the template 'for every input the law returns true; each argument reads behind the call as it read before'; 0 by the template 'total and deterministic' (their statements: YtnmhnaanpjlniaaGreatTotals.lean).
  GIVEN WITH THE SEED: the statements are not yours to turn. If you find one false, say at which input.
  Laid BY PROGRAM, IN A SANDBOX (cutbox-rows.mjs): the forced cells as the released guide's own fill.sh prints them over the translation 7cd72c705c9e0955… (all of the seat's roots in one cut). By AI agents, Wed Nov 11 2026. No macro, syntax, notation, axiom, sorry.
-/
import Derived.Test.YtnmhnaanpjlniaaGreatChecked
import GoSem.Claim
import GoSem.ClaimJoined
import GoSem.ClaimMapViews
import Derived.JoinedTies
import Derived.KernelRfl
namespace Go.Proofs.YtnmhnaanpjlniaaGreat
/- THE CELL 'sum', in the pinned program and in every row, IS THE sha256 OF THE DUMP (.gsa) THAT YtnmhnaanpjlniaaGreatProg.lean LOADS. Nothing in Lean hashes anything: it is a label: what it is worth is what the hold of that sum in a sandbox is worth. -/
noncomputable def Tryz.pinned : Pinned := { name := "ytnmhnaanpjlniaagreat", sum := "7cd72c705c9e09553395ce88ed9b5bc115b8cf9442ae8a1acba293ee1e18fa39", checked := Tryz.checked }
namespace Rows
def none {H : Type} : Left H := { results := [], args := [] }

/-- 'resolventlaw14.BuiltinKinds': WHATEVER THE INPUT: true; the input reads as it did. -/
def builtinKindsSpec : ChangeSpec := { name := "builtinKinds", fn := fun _ => fun
  | [d1, d2] => { results := [.lit (.bool true)], args := [d1, d2] }
  | _ => none }
def builtinKindsRow : OpenClaim := { program := "ytnmhnaanpjlniaagreat", sum := "7cd72c705c9e09553395ce88ed9b5bc115b8cf9442ae8a1acba293ee1e18fa39", func := "resolvent/resolventlaw14.BuiltinKinds", spec := "builtinKinds", inPlace := ["maps.clone", "internal/bytealg.abigen_runtime_cmpstring"], unfollowed := true, recurses := true, loops := true, plainKeys := false, apart := false }
def BuiltinKindsSaid : Prop := builtinKindsRow.holds Tryz.pinned (OpenSpec.ofChange builtinKindsSpec)

/-- ITS FALSE NEIGHBOUR: 'it returns false'. Refute it at one input. -/
def builtinKindsWrong : ChangeSpec := { name := "builtinKinds", fn := fun _ => fun
  | [d1, d2] => { results := [.lit (.bool false)], args := [d1, d2] }
  | _ => none }
def BuiltinKindsWrongFalsely : Prop := builtinKindsRow.holds Tryz.pinned (OpenSpec.ofChange builtinKindsWrong)

/-- 'resolventlaw14.BuiltinSides': WHATEVER THE INPUT: true; the input reads as it did. -/
def builtinSidesSpec : ChangeSpec := { name := "builtinSides", fn := fun _ => fun
  | [d1, d2, d3] => { results := [.lit (.bool true)], args := [d1, d2, d3] }
  | _ => none }
def builtinSidesRow : OpenClaim := { program := "ytnmhnaanpjlniaagreat", sum := "7cd72c705c9e09553395ce88ed9b5bc115b8cf9442ae8a1acba293ee1e18fa39", func := "resolvent/resolventlaw14.BuiltinSides", spec := "builtinSides", inPlace := ["maps.clone", "internal/bytealg.abigen_runtime_cmpstring"], unfollowed := true, recurses := true, loops := true, plainKeys := false, apart := false }
def BuiltinSidesSaid : Prop := builtinSidesRow.holds Tryz.pinned (OpenSpec.ofChange builtinSidesSpec)

/-- ITS FALSE NEIGHBOUR: 'it returns false'. Refute it at one input. -/
def builtinSidesWrong : ChangeSpec := { name := "builtinSides", fn := fun _ => fun
  | [d1, d2, d3] => { results := [.lit (.bool false)], args := [d1, d2, d3] }
  | _ => none }
def BuiltinSidesWrongFalsely : Prop := builtinSidesRow.holds Tryz.pinned (OpenSpec.ofChange builtinSidesWrong)

/-- 'resolventlaw14.BuiltinGround': WHATEVER THE INPUT: true; the input reads as it did. -/
def builtinGroundSpec : ChangeSpec := { name := "builtinGround", fn := fun _ => fun
  | [d1, d2, d3] => { results := [.lit (.bool true)], args := [d1, d2, d3] }
  | _ => none }
def builtinGroundRow : OpenClaim := { program := "ytnmhnaanpjlniaagreat", sum := "7cd72c705c9e09553395ce88ed9b5bc115b8cf9442ae8a1acba293ee1e18fa39", func := "resolvent/resolventlaw14.BuiltinGround", spec := "builtinGround", inPlace := ["maps.clone", "internal/bytealg.abigen_runtime_cmpstring"], unfollowed := true, recurses := true, loops := true, plainKeys := false, apart := false }
def BuiltinGroundSaid : Prop := builtinGroundRow.holds Tryz.pinned (OpenSpec.ofChange builtinGroundSpec)

/-- ITS FALSE NEIGHBOUR: 'it returns false'. Refute it at one input. -/
def builtinGroundWrong : ChangeSpec := { name := "builtinGround", fn := fun _ => fun
  | [d1, d2, d3] => { results := [.lit (.bool false)], args := [d1, d2, d3] }
  | _ => none }
def BuiltinGroundWrongFalsely : Prop := builtinGroundRow.holds Tryz.pinned (OpenSpec.ofChange builtinGroundWrong)

/-- 'resolventlaw14.BuiltinOrder': WHATEVER THE INPUT: true; the input reads as it did. -/
def builtinOrderSpec : ChangeSpec := { name := "builtinOrder", fn := fun _ => fun
  | [d1, d2] => { results := [.lit (.bool true)], args := [d1, d2] }
  | _ => none }
def builtinOrderRow : OpenClaim := { program := "ytnmhnaanpjlniaagreat", sum := "7cd72c705c9e09553395ce88ed9b5bc115b8cf9442ae8a1acba293ee1e18fa39", func := "resolvent/resolventlaw14.BuiltinOrder", spec := "builtinOrder", inPlace := ["maps.clone", "internal/bytealg.abigen_runtime_cmpstring"], unfollowed := true, recurses := true, loops := true, plainKeys := false, apart := false }
def BuiltinOrderSaid : Prop := builtinOrderRow.holds Tryz.pinned (OpenSpec.ofChange builtinOrderSpec)

/-- ITS FALSE NEIGHBOUR: 'it returns false'. Refute it at one input. -/
def builtinOrderWrong : ChangeSpec := { name := "builtinOrder", fn := fun _ => fun
  | [d1, d2] => { results := [.lit (.bool false)], args := [d1, d2] }
  | _ => none }
def BuiltinOrderWrongFalsely : Prop := builtinOrderRow.holds Tryz.pinned (OpenSpec.ofChange builtinOrderWrong)

/-- 'resolventlaw14.BuiltinTells': WHATEVER THE INPUT: true; the input reads as it did. -/
def builtinTellsSpec : ChangeSpec := { name := "builtinTells", fn := fun _ => fun
  | [d1, d2] => { results := [.lit (.bool true)], args := [d1, d2] }
  | _ => none }
def builtinTellsRow : OpenClaim := { program := "ytnmhnaanpjlniaagreat", sum := "7cd72c705c9e09553395ce88ed9b5bc115b8cf9442ae8a1acba293ee1e18fa39", func := "resolvent/resolventlaw14.BuiltinTells", spec := "builtinTells", inPlace := ["maps.clone", "internal/bytealg.abigen_runtime_cmpstring"], unfollowed := true, recurses := true, loops := true, plainKeys := false, apart := false }
def BuiltinTellsSaid : Prop := builtinTellsRow.holds Tryz.pinned (OpenSpec.ofChange builtinTellsSpec)

/-- ITS FALSE NEIGHBOUR: 'it returns false'. Refute it at one input. -/
def builtinTellsWrong : ChangeSpec := { name := "builtinTells", fn := fun _ => fun
  | [d1, d2] => { results := [.lit (.bool false)], args := [d1, d2] }
  | _ => none }
def BuiltinTellsWrongFalsely : Prop := builtinTellsRow.holds Tryz.pinned (OpenSpec.ofChange builtinTellsWrong)

/- THE SECOND FORM. 'bulk': how many values and letters a reading holds, each counted each time it is reached (what is shared counts as often as it is met; a slice's spare places count too). A statement '..UptoSaid' is the law's where the arguments, and the package variables that the reading takes, are together of bulk at most 1048576: NARROWER than '..Said'. Prove '..Said' where nothing that the law and all that it calls make is longer than what came in: it says more and counts as full. Else prove '..UptoSaid'. A law counts once. -/
mutual
def uptoBulk {H : Type} : DataW H → Nat
  | .lit (.string bytes) => bytes.length + 1
  | .lit _ => 1
  | .nil => 1
  | .ptr d => uptoBulk d + 1
  | .slice elems spare => uptoBulkAll elems + uptoBulkAll spare + 1
  | .agg parts => uptoBulkAll parts + 1
  | .iface _ d => uptoBulk d + 1
  | .map entries => uptoBulkEntries entries + 1
  | .held _ => 1
def uptoBulkAll {H : Type} : List (DataW H) → Nat
  | [] => 0
  | d :: r => uptoBulk d + uptoBulkAll r
def uptoBulkEntries {H : Type} : List (Lit × DataW H) → Nat
  | [] => 0
  | x :: r => uptoBulkEntry x + uptoBulkEntries r
def uptoBulkEntry {H : Type} : Lit × DataW H → Nat
  | (.string bytes, d) => bytes.length + uptoBulk d + 1
  | (_, d) => uptoBulk d + 1
 end
def uptoSmall : (H : Type) → List (DataW H) → Bool := fun _ ds => decide (uptoBulkAll ds ≤ 1048576)
def OpenSpec.upto (s : _root_.Go.ChangeSpec) : _root_.Go.OpenSpec := { _root_.Go.OpenSpec.ofChange s with cond := some uptoSmall }

/-- 'resolventlaw14.BuiltinKinds', WHERE WHAT IT READS IS OF BULK AT MOST 1048576: true; the input reads as it did. -/
def builtinKindsUptoRow : OpenClaim := { program := "ytnmhnaanpjlniaagreat", sum := "7cd72c705c9e09553395ce88ed9b5bc115b8cf9442ae8a1acba293ee1e18fa39", func := "resolvent/resolventlaw14.BuiltinKinds", spec := "builtinKinds", inPlace := ["maps.clone", "internal/bytealg.abigen_runtime_cmpstring"], unfollowed := true, recurses := true, loops := true, plainKeys := false, apart := false, narrowed := true }
def BuiltinKindsUptoSaid : Prop := builtinKindsUptoRow.holds Tryz.pinned (OpenSpec.upto builtinKindsSpec)

/-- 'resolventlaw14.BuiltinSides', WHERE WHAT IT READS IS OF BULK AT MOST 1048576: true; the input reads as it did. -/
def builtinSidesUptoRow : OpenClaim := { program := "ytnmhnaanpjlniaagreat", sum := "7cd72c705c9e09553395ce88ed9b5bc115b8cf9442ae8a1acba293ee1e18fa39", func := "resolvent/resolventlaw14.BuiltinSides", spec := "builtinSides", inPlace := ["maps.clone", "internal/bytealg.abigen_runtime_cmpstring"], unfollowed := true, recurses := true, loops := true, plainKeys := false, apart := false, narrowed := true }
def BuiltinSidesUptoSaid : Prop := builtinSidesUptoRow.holds Tryz.pinned (OpenSpec.upto builtinSidesSpec)

/-- 'resolventlaw14.BuiltinGround', WHERE WHAT IT READS IS OF BULK AT MOST 1048576: true; the input reads as it did. -/
def builtinGroundUptoRow : OpenClaim := { program := "ytnmhnaanpjlniaagreat", sum := "7cd72c705c9e09553395ce88ed9b5bc115b8cf9442ae8a1acba293ee1e18fa39", func := "resolvent/resolventlaw14.BuiltinGround", spec := "builtinGround", inPlace := ["maps.clone", "internal/bytealg.abigen_runtime_cmpstring"], unfollowed := true, recurses := true, loops := true, plainKeys := false, apart := false, narrowed := true }
def BuiltinGroundUptoSaid : Prop := builtinGroundUptoRow.holds Tryz.pinned (OpenSpec.upto builtinGroundSpec)

/-- 'resolventlaw14.BuiltinOrder', WHERE WHAT IT READS IS OF BULK AT MOST 1048576: true; the input reads as it did. -/
def builtinOrderUptoRow : OpenClaim := { program := "ytnmhnaanpjlniaagreat", sum := "7cd72c705c9e09553395ce88ed9b5bc115b8cf9442ae8a1acba293ee1e18fa39", func := "resolvent/resolventlaw14.BuiltinOrder", spec := "builtinOrder", inPlace := ["maps.clone", "internal/bytealg.abigen_runtime_cmpstring"], unfollowed := true, recurses := true, loops := true, plainKeys := false, apart := false, narrowed := true }
def BuiltinOrderUptoSaid : Prop := builtinOrderUptoRow.holds Tryz.pinned (OpenSpec.upto builtinOrderSpec)

/-- 'resolventlaw14.BuiltinTells', WHERE WHAT IT READS IS OF BULK AT MOST 1048576: true; the input reads as it did. -/
def builtinTellsUptoRow : OpenClaim := { program := "ytnmhnaanpjlniaagreat", sum := "7cd72c705c9e09553395ce88ed9b5bc115b8cf9442ae8a1acba293ee1e18fa39", func := "resolvent/resolventlaw14.BuiltinTells", spec := "builtinTells", inPlace := ["maps.clone", "internal/bytealg.abigen_runtime_cmpstring"], unfollowed := true, recurses := true, loops := true, plainKeys := false, apart := false, narrowed := true }
def BuiltinTellsUptoSaid : Prop := builtinTellsUptoRow.holds Tryz.pinned (OpenSpec.upto builtinTellsSpec)

end Rows
end Go.Proofs.YtnmhnaanpjlniaaGreat
