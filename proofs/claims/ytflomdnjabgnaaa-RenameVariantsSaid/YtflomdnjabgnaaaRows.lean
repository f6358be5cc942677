/-
  NARROWER THAN 'FOR EVERY INPUT', by the rows' own cells (each row's printed sentence says how): SubstNil: loops · SubstTells: loops · SubstIdem: loops · SubstMore: loops · UnifyNil: loops · UnifyMost: loops · UnifyTurns: loops · UnifyApart: loops · UnifyStructs: loops · RenameVariants: loops · TermTells: loops · TermVars: loops.
  DERIVED. THE GIVEN ROWS OF THIS SEAT. 12 by the template 'for every input the law returns true; each argument reads behind the call as it read before'; 0 by the template 'total and deterministic' (their statements: YtflomdnjabgnaaaTotals.lean).
  GIVEN WITH THE SEED: the statements are not yours to turn. If you find one false, say at which input.
  Laid BY PROGRAM, IN A SANDBOX (cutbox-rows.mjs): the forced cells as the released guide's own fill.sh prints them over the translation 1b7ec8640fe28910… (all of the seat's roots in one cut). By AI agents, Wed Nov 11 2026. No macro, syntax, notation, axiom, sorry.
-/
import Derived.Test.YtflomdnjabgnaaaChecked
import GoSem.Claim
import GoSem.ClaimJoined
import GoSem.ClaimMapViews
import Derived.JoinedTies
import Derived.KernelRfl
namespace Go.Proofs.Ytflomdnjabgnaaa
/- THE CELL 'sum', in the pinned program and in every row, IS THE sha256 OF THE DUMP (.gsa) THAT YtflomdnjabgnaaaProg.lean LOADS. Nothing in Lean hashes anything: it is a label: what it is worth is what the hold of that sum in a sandbox is worth. -/
noncomputable def Try.pinned : Pinned := { name := "ytflomdnjabgnaaa", sum := "1b7ec8640fe28910677da1141e6f439575ad73bf87e7099fe7ff485616892243", checked := Try.checked }
namespace Rows
def none {H : Type} : Left H := { results := [], args := [] }

/-- 'resolventlaw03.SubstNil': WHATEVER THE INPUT: true; the input reads as it did. -/
def substNilSpec : ChangeSpec := { name := "substNil", fn := fun _ => fun
  | [d1, d2] => { results := [.lit (.bool true)], args := [d1, d2] }
  | _ => none }
def substNilRow : OpenClaim := { program := "ytflomdnjabgnaaa", sum := "1b7ec8640fe28910677da1141e6f439575ad73bf87e7099fe7ff485616892243", func := "resolvent/resolventlaw03.SubstNil", spec := "substNil", inPlace := ["maps.clone"], unfollowed := true, recurses := true, loops := true, apart := false }
def SubstNilSaid : Prop := substNilRow.holds Try.pinned (OpenSpec.ofChange substNilSpec)

/-- ITS FALSE NEIGHBOUR: 'it returns false'. Refute it at one input. -/
def substNilWrong : ChangeSpec := { name := "substNil", fn := fun _ => fun
  | [d1, d2] => { results := [.lit (.bool false)], args := [d1, d2] }
  | _ => none }
def SubstNilWrongFalsely : Prop := substNilRow.holds Try.pinned (OpenSpec.ofChange substNilWrong)

/-- 'resolventlaw03.SubstTells': WHATEVER THE INPUT: true; the input reads as it did. -/
def substTellsSpec : ChangeSpec := { name := "substTells", fn := fun _ => fun
  | [d1, d2, d3] => { results := [.lit (.bool true)], args := [d1, d2, d3] }
  | _ => none }
def substTellsRow : OpenClaim := { program := "ytflomdnjabgnaaa", sum := "1b7ec8640fe28910677da1141e6f439575ad73bf87e7099fe7ff485616892243", func := "resolvent/resolventlaw03.SubstTells", spec := "substTells", inPlace := ["maps.clone"], unfollowed := true, recurses := true, loops := true, apart := false }
def SubstTellsSaid : Prop := substTellsRow.holds Try.pinned (OpenSpec.ofChange substTellsSpec)

/-- ITS FALSE NEIGHBOUR: 'it returns false'. Refute it at one input. -/
def substTellsWrong : ChangeSpec := { name := "substTells", fn := fun _ => fun
  | [d1, d2, d3] => { results := [.lit (.bool false)], args := [d1, d2, d3] }
  | _ => none }
def SubstTellsWrongFalsely : Prop := substTellsRow.holds Try.pinned (OpenSpec.ofChange substTellsWrong)

/-- 'resolventlaw03.SubstIdem': WHATEVER THE INPUT: true; the input reads as it did. -/
def substIdemSpec : ChangeSpec := { name := "substIdem", fn := fun _ => fun
  | [d1, d2, d3, d4] => { results := [.lit (.bool true)], args := [d1, d2, d3, d4] }
  | _ => none }
def substIdemRow : OpenClaim := { program := "ytflomdnjabgnaaa", sum := "1b7ec8640fe28910677da1141e6f439575ad73bf87e7099fe7ff485616892243", func := "resolvent/resolventlaw03.SubstIdem", spec := "substIdem", inPlace := ["maps.clone"], unfollowed := true, recurses := true, loops := true, apart := false }
def SubstIdemSaid : Prop := substIdemRow.holds Try.pinned (OpenSpec.ofChange substIdemSpec)

/-- ITS FALSE NEIGHBOUR: 'it returns false'. Refute it at one input. -/
def substIdemWrong : ChangeSpec := { name := "substIdem", fn := fun _ => fun
  | [d1, d2, d3, d4] => { results := [.lit (.bool false)], args := [d1, d2, d3, d4] }
  | _ => none }
def SubstIdemWrongFalsely : Prop := substIdemRow.holds Try.pinned (OpenSpec.ofChange substIdemWrong)

/-- 'resolventlaw03.SubstMore': WHATEVER THE INPUT: true; the input reads as it did. -/
def substMoreSpec : ChangeSpec := { name := "substMore", fn := fun _ => fun
  | [d1, d2, d3, d4] => { results := [.lit (.bool true)], args := [d1, d2, d3, d4] }
  | _ => none }
def substMoreRow : OpenClaim := { program := "ytflomdnjabgnaaa", sum := "1b7ec8640fe28910677da1141e6f439575ad73bf87e7099fe7ff485616892243", func := "resolvent/resolventlaw03.SubstMore", spec := "substMore", inPlace := ["maps.clone"], unfollowed := true, recurses := true, loops := true, apart := false }
def SubstMoreSaid : Prop := substMoreRow.holds Try.pinned (OpenSpec.ofChange substMoreSpec)

/-- ITS FALSE NEIGHBOUR: 'it returns false'. Refute it at one input. -/
def substMoreWrong : ChangeSpec := { name := "substMore", fn := fun _ => fun
  | [d1, d2, d3, d4] => { results := [.lit (.bool false)], args := [d1, d2, d3, d4] }
  | _ => none }
def SubstMoreWrongFalsely : Prop := substMoreRow.holds Try.pinned (OpenSpec.ofChange substMoreWrong)

/-- 'resolventlaw04.UnifyNil': WHATEVER THE INPUT: true; the input reads as it did. -/
def unifyNilSpec : ChangeSpec := { name := "unifyNil", fn := fun _ => fun
  | [d1, d2] => { results := [.lit (.bool true)], args := [d1, d2] }
  | _ => none }
def unifyNilRow : OpenClaim := { program := "ytflomdnjabgnaaa", sum := "1b7ec8640fe28910677da1141e6f439575ad73bf87e7099fe7ff485616892243", func := "resolvent/resolventlaw04.UnifyNil", spec := "unifyNil", inPlace := ["maps.clone"], unfollowed := true, recurses := true, loops := true, apart := false }
def UnifyNilSaid : Prop := unifyNilRow.holds Try.pinned (OpenSpec.ofChange unifyNilSpec)

/-- ITS FALSE NEIGHBOUR: 'it returns false'. Refute it at one input. -/
def unifyNilWrong : ChangeSpec := { name := "unifyNil", fn := fun _ => fun
  | [d1, d2] => { results := [.lit (.bool false)], args := [d1, d2] }
  | _ => none }
def UnifyNilWrongFalsely : Prop := unifyNilRow.holds Try.pinned (OpenSpec.ofChange unifyNilWrong)

/-- 'resolventlaw04.UnifyMost': WHATEVER THE INPUT: true; the input reads as it did. -/
def unifyMostSpec : ChangeSpec := { name := "unifyMost", fn := fun _ => fun
  | [d1, d2, d3] => { results := [.lit (.bool true)], args := [d1, d2, d3] }
  | _ => none }
def unifyMostRow : OpenClaim := { program := "ytflomdnjabgnaaa", sum := "1b7ec8640fe28910677da1141e6f439575ad73bf87e7099fe7ff485616892243", func := "resolvent/resolventlaw04.UnifyMost", spec := "unifyMost", inPlace := ["maps.clone"], unfollowed := true, recurses := true, loops := true, apart := false }
def UnifyMostSaid : Prop := unifyMostRow.holds Try.pinned (OpenSpec.ofChange unifyMostSpec)

/-- ITS FALSE NEIGHBOUR: 'it returns false'. Refute it at one input. -/
def unifyMostWrong : ChangeSpec := { name := "unifyMost", fn := fun _ => fun
  | [d1, d2, d3] => { results := [.lit (.bool false)], args := [d1, d2, d3] }
  | _ => none }
def UnifyMostWrongFalsely : Prop := unifyMostRow.holds Try.pinned (OpenSpec.ofChange unifyMostWrong)

/-- 'resolventlaw04.UnifyTurns': WHATEVER THE INPUT: true; the input reads as it did. -/
def unifyTurnsSpec : ChangeSpec := { name := "unifyTurns", fn := fun _ => fun
  | [d1, d2] => { results := [.lit (.bool true)], args := [d1, d2] }
  | _ => none }
def unifyTurnsRow : OpenClaim := { program := "ytflomdnjabgnaaa", sum := "1b7ec8640fe28910677da1141e6f439575ad73bf87e7099fe7ff485616892243", func := "resolvent/resolventlaw04.UnifyTurns", spec := "unifyTurns", inPlace := ["maps.clone"], unfollowed := true, recurses := true, loops := true, apart := false }
def UnifyTurnsSaid : Prop := unifyTurnsRow.holds Try.pinned (OpenSpec.ofChange unifyTurnsSpec)

/-- ITS FALSE NEIGHBOUR: 'it returns false'. Refute it at one input. -/
def unifyTurnsWrong : ChangeSpec := { name := "unifyTurns", fn := fun _ => fun
  | [d1, d2] => { results := [.lit (.bool false)], args := [d1, d2] }
  | _ => none }
def UnifyTurnsWrongFalsely : Prop := unifyTurnsRow.holds Try.pinned (OpenSpec.ofChange unifyTurnsWrong)

/-- 'resolventlaw04.UnifyApart': WHATEVER THE INPUT: true; the input reads as it did. -/
def unifyApartSpec : ChangeSpec := { name := "unifyApart", fn := fun _ => fun
  | [d1, d2] => { results := [.lit (.bool true)], args := [d1, d2] }
  | _ => none }
def unifyApartRow : OpenClaim := { program := "ytflomdnjabgnaaa", sum := "1b7ec8640fe28910677da1141e6f439575ad73bf87e7099fe7ff485616892243", func := "resolvent/resolventlaw04.UnifyApart", spec := "unifyApart", inPlace := ["maps.clone"], unfollowed := true, recurses := true, loops := true, apart := false }
def UnifyApartSaid : Prop := unifyApartRow.holds Try.pinned (OpenSpec.ofChange unifyApartSpec)

/-- ITS FALSE NEIGHBOUR: 'it returns false'. Refute it at one input. -/
def unifyApartWrong : ChangeSpec := { name := "unifyApart", fn := fun _ => fun
  | [d1, d2] => { results := [.lit (.bool false)], args := [d1, d2] }
  | _ => none }
def UnifyApartWrongFalsely : Prop := unifyApartRow.holds Try.pinned (OpenSpec.ofChange unifyApartWrong)

/-- 'resolventlaw04.UnifyStructs': WHATEVER THE INPUT: true; the input reads as it did. -/
def unifyStructsSpec : ChangeSpec := { name := "unifyStructs", fn := fun _ => fun
  | [d1, d2] => { results := [.lit (.bool true)], args := [d1, d2] }
  | _ => none }
def unifyStructsRow : OpenClaim := { program := "ytflomdnjabgnaaa", sum := "1b7ec8640fe28910677da1141e6f439575ad73bf87e7099fe7ff485616892243", func := "resolvent/resolventlaw04.UnifyStructs", spec := "unifyStructs", inPlace := ["maps.clone"], unfollowed := true, recurses := true, loops := true, apart := false }
def UnifyStructsSaid : Prop := unifyStructsRow.holds Try.pinned (OpenSpec.ofChange unifyStructsSpec)

/-- ITS FALSE NEIGHBOUR: 'it returns false'. Refute it at one input. -/
def unifyStructsWrong : ChangeSpec := { name := "unifyStructs", fn := fun _ => fun
  | [d1, d2] => { results := [.lit (.bool false)], args := [d1, d2] }
  | _ => none }
def UnifyStructsWrongFalsely : Prop := unifyStructsRow.holds Try.pinned (OpenSpec.ofChange unifyStructsWrong)

/-- 'resolventlaw05.RenameVariants': WHATEVER THE INPUT: true; the input reads as it did. -/
def renameVariantsSpec : ChangeSpec := { name := "renameVariants", fn := fun _ => fun
  | [d1, d2, d3, d4] => { results := [.lit (.bool true)], args := [d1, d2, d3, d4] }
  | _ => none }
def renameVariantsRow : OpenClaim := { program := "ytflomdnjabgnaaa", sum := "1b7ec8640fe28910677da1141e6f439575ad73bf87e7099fe7ff485616892243", func := "resolvent/resolventlaw05.RenameVariants", spec := "renameVariants", inPlace := ["maps.clone"], unfollowed := true, recurses := true, loops := true, apart := false }
def RenameVariantsSaid : Prop := renameVariantsRow.holds Try.pinned (OpenSpec.ofChange renameVariantsSpec)

/-- ITS FALSE NEIGHBOUR: 'it returns false'. Refute it at one input. -/
def renameVariantsWrong : ChangeSpec := { name := "renameVariants", fn := fun _ => fun
  | [d1, d2, d3, d4] => { results := [.lit (.bool false)], args := [d1, d2, d3, d4] }
  | _ => none }
def RenameVariantsWrongFalsely : Prop := renameVariantsRow.holds Try.pinned (OpenSpec.ofChange renameVariantsWrong)

/-- 'resolventlaw01.TermTells': WHATEVER THE INPUT: true; the input reads as it did. -/
def termTellsSpec : ChangeSpec := { name := "termTells", fn := fun _ => fun
  | [d1, d2] => { results := [.lit (.bool true)], args := [d1, d2] }
  | _ => none }
def termTellsRow : OpenClaim := { program := "ytflomdnjabgnaaa", sum := "1b7ec8640fe28910677da1141e6f439575ad73bf87e7099fe7ff485616892243", func := "resolvent/resolventlaw01.TermTells", spec := "termTells", unfollowed := true, recurses := true, loops := true, apart := false }
def TermTellsSaid : Prop := termTellsRow.holds Try.pinned (OpenSpec.ofChange termTellsSpec)

/-- ITS FALSE NEIGHBOUR: 'it returns false'. Refute it at one input. -/
def termTellsWrong : ChangeSpec := { name := "termTells", fn := fun _ => fun
  | [d1, d2] => { results := [.lit (.bool false)], args := [d1, d2] }
  | _ => none }
def TermTellsWrongFalsely : Prop := termTellsRow.holds Try.pinned (OpenSpec.ofChange termTellsWrong)

/-- 'resolventlaw01.TermVars': WHATEVER THE INPUT: true; the input reads as it did. -/
def termVarsSpec : ChangeSpec := { name := "termVars", fn := fun _ => fun
  | [d1, d2] => { results := [.lit (.bool true)], args := [d1, d2] }
  | _ => none }
def termVarsRow : OpenClaim := { program := "ytflomdnjabgnaaa", sum := "1b7ec8640fe28910677da1141e6f439575ad73bf87e7099fe7ff485616892243", func := "resolvent/resolventlaw01.TermVars", spec := "termVars", unfollowed := true, recurses := true, loops := true, apart := false }
def TermVarsSaid : Prop := termVarsRow.holds Try.pinned (OpenSpec.ofChange termVarsSpec)

/-- ITS FALSE NEIGHBOUR: 'it returns false'. Refute it at one input. -/
def termVarsWrong : ChangeSpec := { name := "termVars", fn := fun _ => fun
  | [d1, d2] => { results := [.lit (.bool false)], args := [d1, d2] }
  | _ => none }
def TermVarsWrongFalsely : Prop := termVarsRow.holds Try.pinned (OpenSpec.ofChange termVarsWrong)

/- THE SECOND FORM. 'bulk': how many values and letters a reading holds, each counted each time it is reached (what is shared counts as often as it is met; a slice's spare places count too). A statement '..UptoSaid' is the law's where the arguments, and the package variables that the reading takes, are together of bulk at most 1048576: NARROWER than '..Said'. Prove '..Said' where nothing that the law and all that it calls make is longer than what came in: it says more and counts as full. Else prove '..UptoSaid'. A law counts once. -/
mutual
def uptoBulk {H : Type} : DataW H → Nat
  | .lit (.string bytes) => bytes.length + 1
  | .lit _ => 1
  | .nil => 1
  | .ptr d => uptoBulk d + 1
  | .slice elems spare => uptoBulkAll elems + uptoBulkAll spare + 1
  | .agg parts => uptoBulkAll parts + 1
  | .iface _ d => uptoBulk d + 1
  | .map entries => uptoBulkEntries entries + 1
  | .held _ => 1
def uptoBulkAll {H : Type} : List (DataW H) → Nat
  | [] => 0
  | d :: r => uptoBulk d + uptoBulkAll r
def uptoBulkEntries {H : Type} : List (Lit × DataW H) → Nat
  | [] => 0
  | x :: r => uptoBulkEntry x + uptoBulkEntries r
def uptoBulkEntry {H : Type} : Lit × DataW H → Nat
  | (.string bytes, d) => bytes.length + uptoBulk d + 1
  | (_, d) => uptoBulk d + 1
 end
def uptoSmall : (H : Type) → List (DataW H) → Bool := fun _ ds => decide (uptoBulkAll ds ≤ 1048576)
def OpenSpec.upto (s : _root_.Go.ChangeSpec) : _root_.Go.OpenSpec := { _root_.Go.OpenSpec.ofChange s with cond := some uptoSmall }

/-- 'resolventlaw03.SubstNil', WHERE WHAT IT READS IS OF BULK AT MOST 1048576: true; the input reads as it did. -/
def substNilUptoRow : OpenClaim := { program := "ytflomdnjabgnaaa", sum := "1b7ec8640fe28910677da1141e6f439575ad73bf87e7099fe7ff485616892243", func := "resolvent/resolventlaw03.SubstNil", spec := "substNil", inPlace := ["maps.clone"], unfollowed := true, recurses := true, loops := true, apart := false, narrowed := true }
def SubstNilUptoSaid : Prop := substNilUptoRow.holds Try.pinned (OpenSpec.upto substNilSpec)

/-- 'resolventlaw03.SubstTells', WHERE WHAT IT READS IS OF BULK AT MOST 1048576: true; the input reads as it did. -/
def substTellsUptoRow : OpenClaim := { program := "ytflomdnjabgnaaa", sum := "1b7ec8640fe28910677da1141e6f439575ad73bf87e7099fe7ff485616892243", func := "resolvent/resolventlaw03.SubstTells", spec := "substTells", inPlace := ["maps.clone"], unfollowed := true, recurses := true, loops := true, apart := false, narrowed := true }
def SubstTellsUptoSaid : Prop := substTellsUptoRow.holds Try.pinned (OpenSpec.upto substTellsSpec)

/-- 'resolventlaw03.SubstIdem', WHERE WHAT IT READS IS OF BULK AT MOST 1048576: true; the input reads as it did. -/
def substIdemUptoRow : OpenClaim := { program := "ytflomdnjabgnaaa", sum := "1b7ec8640fe28910677da1141e6f439575ad73bf87e7099fe7ff485616892243", func := "resolvent/resolventlaw03.SubstIdem", spec := "substIdem", inPlace := ["maps.clone"], unfollowed := true, recurses := true, loops := true, apart := false, narrowed := true }
def SubstIdemUptoSaid : Prop := substIdemUptoRow.holds Try.pinned (OpenSpec.upto substIdemSpec)

/-- 'resolventlaw03.SubstMore', WHERE WHAT IT READS IS OF BULK AT MOST 1048576: true; the input reads as it did. -/
def substMoreUptoRow : OpenClaim := { program := "ytflomdnjabgnaaa", sum := "1b7ec8640fe28910677da1141e6f439575ad73bf87e7099fe7ff485616892243", func := "resolvent/resolventlaw03.SubstMore", spec := "substMore", inPlace := ["maps.clone"], unfollowed := true, recurses := true, loops := true, apart := false, narrowed := true }
def SubstMoreUptoSaid : Prop := substMoreUptoRow.holds Try.pinned (OpenSpec.upto substMoreSpec)

/-- 'resolventlaw04.UnifyNil', WHERE WHAT IT READS IS OF BULK AT MOST 1048576: true; the input reads as it did. -/
def unifyNilUptoRow : OpenClaim := { program := "ytflomdnjabgnaaa", sum := "1b7ec8640fe28910677da1141e6f439575ad73bf87e7099fe7ff485616892243", func := "resolvent/resolventlaw04.UnifyNil", spec := "unifyNil", inPlace := ["maps.clone"], unfollowed := true, recurses := true, loops := true, apart := false, narrowed := true }
def UnifyNilUptoSaid : Prop := unifyNilUptoRow.holds Try.pinned (OpenSpec.upto unifyNilSpec)

/-- 'resolventlaw04.UnifyMost', WHERE WHAT IT READS IS OF BULK AT MOST 1048576: true; the input reads as it did. -/
def unifyMostUptoRow : OpenClaim := { program := "ytflomdnjabgnaaa", sum := "1b7ec8640fe28910677da1141e6f439575ad73bf87e7099fe7ff485616892243", func := "resolvent/resolventlaw04.UnifyMost", spec := "unifyMost", inPlace := ["maps.clone"], unfollowed := true, recurses := true, loops := true, apart := false, narrowed := true }
def UnifyMostUptoSaid : Prop := unifyMostUptoRow.holds Try.pinned (OpenSpec.upto unifyMostSpec)

/-- 'resolventlaw04.UnifyTurns', WHERE WHAT IT READS IS OF BULK AT MOST 1048576: true; the input reads as it did. -/
def unifyTurnsUptoRow : OpenClaim := { program := "ytflomdnjabgnaaa", sum := "1b7ec8640fe28910677da1141e6f439575ad73bf87e7099fe7ff485616892243", func := "resolvent/resolventlaw04.UnifyTurns", spec := "unifyTurns", inPlace := ["maps.clone"], unfollowed := true, recurses := true, loops := true, apart := false, narrowed := true }
def UnifyTurnsUptoSaid : Prop := unifyTurnsUptoRow.holds Try.pinned (OpenSpec.upto unifyTurnsSpec)

/-- 'resolventlaw04.UnifyApart', WHERE WHAT IT READS IS OF BULK AT MOST 1048576: true; the input reads as it did. -/
def unifyApartUptoRow : OpenClaim := { program := "ytflomdnjabgnaaa", sum := "1b7ec8640fe28910677da1141e6f439575ad73bf87e7099fe7ff485616892243", func := "resolvent/resolventlaw04.UnifyApart", spec := "unifyApart", inPlace := ["maps.clone"], unfollowed := true, recurses := true, loops := true, apart := false, narrowed := true }
def UnifyApartUptoSaid : Prop := unifyApartUptoRow.holds Try.pinned (OpenSpec.upto unifyApartSpec)

/-- 'resolventlaw04.UnifyStructs', WHERE WHAT IT READS IS OF BULK AT MOST 1048576: true; the input reads as it did. -/
def unifyStructsUptoRow : OpenClaim := { program := "ytflomdnjabgnaaa", sum := "1b7ec8640fe28910677da1141e6f439575ad73bf87e7099fe7ff485616892243", func := "resolvent/resolventlaw04.UnifyStructs", spec := "unifyStructs", inPlace := ["maps.clone"], unfollowed := true, recurses := true, loops := true, apart := false, narrowed := true }
def UnifyStructsUptoSaid : Prop := unifyStructsUptoRow.holds Try.pinned (OpenSpec.upto unifyStructsSpec)

/-- 'resolventlaw05.RenameVariants', WHERE WHAT IT READS IS OF BULK AT MOST 1048576: true; the input reads as it did. -/
def renameVariantsUptoRow : OpenClaim := { program := "ytflomdnjabgnaaa", sum := "1b7ec8640fe28910677da1141e6f439575ad73bf87e7099fe7ff485616892243", func := "resolvent/resolventlaw05.RenameVariants", spec := "renameVariants", inPlace := ["maps.clone"], unfollowed := true, recurses := true, loops := true, apart := false, narrowed := true }
def RenameVariantsUptoSaid : Prop := renameVariantsUptoRow.holds Try.pinned (OpenSpec.upto renameVariantsSpec)

/-- 'resolventlaw01.TermTells', WHERE WHAT IT READS IS OF BULK AT MOST 1048576: true; the input reads as it did. -/
def termTellsUptoRow : OpenClaim := { program := "ytflomdnjabgnaaa", sum := "1b7ec8640fe28910677da1141e6f439575ad73bf87e7099fe7ff485616892243", func := "resolvent/resolventlaw01.TermTells", spec := "termTells", unfollowed := true, recurses := true, loops := true, apart := false, narrowed := true }
def TermTellsUptoSaid : Prop := termTellsUptoRow.holds Try.pinned (OpenSpec.upto termTellsSpec)

/-- 'resolventlaw01.TermVars', WHERE WHAT IT READS IS OF BULK AT MOST 1048576: true; the input reads as it did. -/
def termVarsUptoRow : OpenClaim := { program := "ytflomdnjabgnaaa", sum := "1b7ec8640fe28910677da1141e6f439575ad73bf87e7099fe7ff485616892243", func := "resolvent/resolventlaw01.TermVars", spec := "termVars", unfollowed := true, recurses := true, loops := true, apart := false, narrowed := true }
def TermVarsUptoSaid : Prop := termVarsUptoRow.holds Try.pinned (OpenSpec.upto termVarsSpec)

end Rows
end Go.Proofs.Ytflomdnjabgnaaa
