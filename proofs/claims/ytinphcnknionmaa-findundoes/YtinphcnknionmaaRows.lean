/-
  No cell of these rows narrows 'for every input' (looked for: loops, veiled, ifaces, maps, wideKeys, modest, calm, conditions, laid).
  DERIVED. THE GIVEN ROWS OF THIS SEAT. 12 by the template 'for every input the law returns true; each argument reads behind the call as it read before'; 0 by the template 'total and deterministic' (their statements: YtinphcnknionmaaTotals.lean).
  GIVEN WITH THE SEED: the statements are not yours to turn. If you find one false, say at which input.
  Laid BY PROGRAM, IN A SANDBOX (cutbox-rows.mjs): the forced cells as the released guide's own fill.sh prints them over the translation ac51afda29c48d04… (all of the seat's roots in one cut). By AI agents, Wed Nov 11 2026. No macro, syntax, notation, axiom, sorry.
-/
import Derived.Test.YtinphcnknionmaaChecked
import GoSem.Claim
import GoSem.ClaimJoined
import GoSem.ClaimMapViews
import Derived.JoinedTies
import Derived.KernelRfl
namespace Go.Proofs.Ytinphcnknionmaa
/- THE CELL 'sum', in the pinned program and in every row, IS THE sha256 OF THE DUMP (.gsa) THAT YtinphcnknionmaaProg.lean LOADS. Nothing in Lean hashes anything: it is a label: what it is worth is what the hold of that sum in a sandbox is worth. -/
noncomputable def Try.pinned : Pinned := { name := "ytinphcnknionmaa", sum := "ac51afda29c48d04e3ede9eafff335705c3ef411a5384aa25c73b5d7a6b16c57", checked := Try.checked }
namespace Rows
def none {H : Type} : Left H := { results := [], args := [] }

/-- 'equatelaw01.TermReads': WHATEVER THE INPUT: true; the input reads as it did. -/
def termReadsSpec : ChangeSpec := { name := "termReads", fn := fun _ => fun
  | [d1, d2] => { results := [.lit (.bool true)], args := [d1, d2] }
  | _ => none }
def termReadsRow : OpenClaim := { program := "ytinphcnknionmaa", sum := "ac51afda29c48d04e3ede9eafff335705c3ef411a5384aa25c73b5d7a6b16c57", func := "equate/equatelaw01.TermReads", spec := "termReads", inPlace := ["internal/abi.NoEscape"], unfollowed := true, recurses := true, plainKeys := false, apart := false }
def TermReadsSaid : Prop := termReadsRow.holds Try.pinned (OpenSpec.ofChange termReadsSpec)

/-- ITS FALSE NEIGHBOUR: 'it returns false'. Refute it at one input. -/
def termReadsWrong : ChangeSpec := { name := "termReads", fn := fun _ => fun
  | [d1, d2] => { results := [.lit (.bool false)], args := [d1, d2] }
  | _ => none }
def TermReadsWrongFalsely : Prop := termReadsRow.holds Try.pinned (OpenSpec.ofChange termReadsWrong)

/-- 'equatelaw01.TermBack': WHATEVER THE INPUT: true; the input reads as it did. -/
def termBackSpec : ChangeSpec := { name := "termBack", fn := fun _ => fun
  | [d] => { results := [.lit (.bool true)], args := [d] }
  | _ => none }
def termBackRow : OpenClaim := { program := "ytinphcnknionmaa", sum := "ac51afda29c48d04e3ede9eafff335705c3ef411a5384aa25c73b5d7a6b16c57", func := "equate/equatelaw01.TermBack", spec := "termBack", inPlace := ["internal/abi.NoEscape"], unfollowed := true, recurses := true, plainKeys := false, apart := false }
def TermBackSaid : Prop := termBackRow.holds Try.pinned (OpenSpec.ofChange termBackSpec)

/-- ITS FALSE NEIGHBOUR: 'it returns false'. Refute it at one input. -/
def termBackWrong : ChangeSpec := { name := "termBack", fn := fun _ => fun
  | [d] => { results := [.lit (.bool false)], args := [d] }
  | _ => none }
def TermBackWrongFalsely : Prop := termBackRow.holds Try.pinned (OpenSpec.ofChange termBackWrong)

/-- 'equatelaw02.FindAll': WHATEVER THE INPUT: true; the input reads as it did. -/
def findAllSpec : ChangeSpec := { name := "findAll", fn := fun _ => fun
  | [d1, d2, d3, d4] => { results := [.lit (.bool true)], args := [d1, d2, d3, d4] }
  | _ => none }
def findAllRow : OpenClaim := { program := "ytinphcnknionmaa", sum := "ac51afda29c48d04e3ede9eafff335705c3ef411a5384aa25c73b5d7a6b16c57", func := "equate/equatelaw02.FindAll", spec := "findAll", unfollowed := true, recurses := true, plainKeys := false, apart := false }
def FindAllSaid : Prop := findAllRow.holds Try.pinned (OpenSpec.ofChange findAllSpec)

/-- ITS FALSE NEIGHBOUR: 'it returns false'. Refute it at one input. -/
def findAllWrong : ChangeSpec := { name := "findAll", fn := fun _ => fun
  | [d1, d2, d3, d4] => { results := [.lit (.bool false)], args := [d1, d2, d3, d4] }
  | _ => none }
def FindAllWrongFalsely : Prop := findAllRow.holds Try.pinned (OpenSpec.ofChange findAllWrong)

/-- 'equatelaw02.FindLaws': WHATEVER THE INPUT: true; the input reads as it did. -/
def findLawsSpec : ChangeSpec := { name := "findLaws", fn := fun _ => fun
  | [d1, d2, d3, d4, d5] => { results := [.lit (.bool true)], args := [d1, d2, d3, d4, d5] }
  | _ => none }
def findLawsRow : OpenClaim := { program := "ytinphcnknionmaa", sum := "ac51afda29c48d04e3ede9eafff335705c3ef411a5384aa25c73b5d7a6b16c57", func := "equate/equatelaw02.FindLaws", spec := "findLaws", unfollowed := true, recurses := true, plainKeys := false, apart := false }
def FindLawsSaid : Prop := findLawsRow.holds Try.pinned (OpenSpec.ofChange findLawsSpec)

/-- ITS FALSE NEIGHBOUR: 'it returns false'. Refute it at one input. -/
def findLawsWrong : ChangeSpec := { name := "findLaws", fn := fun _ => fun
  | [d1, d2, d3, d4, d5] => { results := [.lit (.bool false)], args := [d1, d2, d3, d4, d5] }
  | _ => none }
def FindLawsWrongFalsely : Prop := findLawsRow.holds Try.pinned (OpenSpec.ofChange findLawsWrong)

/-- 'equatelaw02.FindUndoes': WHATEVER THE INPUT: true; the input reads as it did. -/
def findUndoesSpec : ChangeSpec := { name := "findUndoes", fn := fun _ => fun
  | [d1, d2, d3] => { results := [.lit (.bool true)], args := [d1, d2, d3] }
  | _ => none }
def findUndoesRow : OpenClaim := { program := "ytinphcnknionmaa", sum := "ac51afda29c48d04e3ede9eafff335705c3ef411a5384aa25c73b5d7a6b16c57", func := "equate/equatelaw02.FindUndoes", spec := "findUndoes", unfollowed := true, recurses := true, plainKeys := false, apart := false }
def FindUndoesSaid : Prop := findUndoesRow.holds Try.pinned (OpenSpec.ofChange findUndoesSpec)

/-- ITS FALSE NEIGHBOUR: 'it returns false'. Refute it at one input. -/
def findUndoesWrong : ChangeSpec := { name := "findUndoes", fn := fun _ => fun
  | [d1, d2, d3] => { results := [.lit (.bool false)], args := [d1, d2, d3] }
  | _ => none }
def FindUndoesWrongFalsely : Prop := findUndoesRow.holds Try.pinned (OpenSpec.ofChange findUndoesWrong)

/-- 'equatelaw03.CloseAll': WHATEVER THE INPUT: true; the input reads as it did. -/
def closeAllSpec : ChangeSpec := { name := "closeAll", fn := fun _ => fun
  | [d1, d2, d3, d4] => { results := [.lit (.bool true)], args := [d1, d2, d3, d4] }
  | _ => none }
def closeAllRow : OpenClaim := { program := "ytinphcnknionmaa", sum := "ac51afda29c48d04e3ede9eafff335705c3ef411a5384aa25c73b5d7a6b16c57", func := "equate/equatelaw03.CloseAll", spec := "closeAll", unfollowed := true, recurses := true, plainKeys := false, apart := false }
def CloseAllSaid : Prop := closeAllRow.holds Try.pinned (OpenSpec.ofChange closeAllSpec)

/-- ITS FALSE NEIGHBOUR: 'it returns false'. Refute it at one input. -/
def closeAllWrong : ChangeSpec := { name := "closeAll", fn := fun _ => fun
  | [d1, d2, d3, d4] => { results := [.lit (.bool false)], args := [d1, d2, d3, d4] }
  | _ => none }
def CloseAllWrongFalsely : Prop := closeAllRow.holds Try.pinned (OpenSpec.ofChange closeAllWrong)

/-- 'equatelaw03.CloseLaws': WHATEVER THE INPUT: true; the input reads as it did. -/
def closeLawsSpec : ChangeSpec := { name := "closeLaws", fn := fun _ => fun
  | [d1, d2] => { results := [.lit (.bool true)], args := [d1, d2] }
  | _ => none }
def closeLawsRow : OpenClaim := { program := "ytinphcnknionmaa", sum := "ac51afda29c48d04e3ede9eafff335705c3ef411a5384aa25c73b5d7a6b16c57", func := "equate/equatelaw03.CloseLaws", spec := "closeLaws", unfollowed := true, recurses := true, plainKeys := false, apart := false }
def CloseLawsSaid : Prop := closeLawsRow.holds Try.pinned (OpenSpec.ofChange closeLawsSpec)

/-- ITS FALSE NEIGHBOUR: 'it returns false'. Refute it at one input. -/
def closeLawsWrong : ChangeSpec := { name := "closeLaws", fn := fun _ => fun
  | [d1, d2] => { results := [.lit (.bool false)], args := [d1, d2] }
  | _ => none }
def CloseLawsWrongFalsely : Prop := closeLawsRow.holds Try.pinned (OpenSpec.ofChange closeLawsWrong)

/-- 'equatelaw03.CloseOrder': WHATEVER THE INPUT: true; the input reads as it did. -/
def closeOrderSpec : ChangeSpec := { name := "closeOrder", fn := fun _ => fun
  | [d1, d2] => { results := [.lit (.bool true)], args := [d1, d2] }
  | _ => none }
def closeOrderRow : OpenClaim := { program := "ytinphcnknionmaa", sum := "ac51afda29c48d04e3ede9eafff335705c3ef411a5384aa25c73b5d7a6b16c57", func := "equate/equatelaw03.CloseOrder", spec := "closeOrder", unfollowed := true, recurses := true, plainKeys := false, apart := false }
def CloseOrderSaid : Prop := closeOrderRow.holds Try.pinned (OpenSpec.ofChange closeOrderSpec)

/-- ITS FALSE NEIGHBOUR: 'it returns false'. Refute it at one input. -/
def closeOrderWrong : ChangeSpec := { name := "closeOrder", fn := fun _ => fun
  | [d1, d2] => { results := [.lit (.bool false)], args := [d1, d2] }
  | _ => none }
def CloseOrderWrongFalsely : Prop := closeOrderRow.holds Try.pinned (OpenSpec.ofChange closeOrderWrong)

/-- 'equatelaw04.WhyAll': WHATEVER THE INPUT: true; the input reads as it did. -/
def whyAllSpec : ChangeSpec := { name := "whyAll", fn := fun _ => fun
  | [d1, d2, d3, d4] => { results := [.lit (.bool true)], args := [d1, d2, d3, d4] }
  | _ => none }
def whyAllRow : OpenClaim := { program := "ytinphcnknionmaa", sum := "ac51afda29c48d04e3ede9eafff335705c3ef411a5384aa25c73b5d7a6b16c57", func := "equate/equatelaw04.WhyAll", spec := "whyAll", unfollowed := true, recurses := true, plainKeys := false, apart := false }
def WhyAllSaid : Prop := whyAllRow.holds Try.pinned (OpenSpec.ofChange whyAllSpec)

/-- ITS FALSE NEIGHBOUR: 'it returns false'. Refute it at one input. -/
def whyAllWrong : ChangeSpec := { name := "whyAll", fn := fun _ => fun
  | [d1, d2, d3, d4] => { results := [.lit (.bool false)], args := [d1, d2, d3, d4] }
  | _ => none }
def WhyAllWrongFalsely : Prop := whyAllRow.holds Try.pinned (OpenSpec.ofChange whyAllWrong)

/-- 'equatelaw04.WhyCloses': WHATEVER THE INPUT: true; the input reads as it did. -/
def whyClosesSpec : ChangeSpec := { name := "whyCloses", fn := fun _ => fun
  | [d1, d2, d3, d4] => { results := [.lit (.bool true)], args := [d1, d2, d3, d4] }
  | _ => none }
def whyClosesRow : OpenClaim := { program := "ytinphcnknionmaa", sum := "ac51afda29c48d04e3ede9eafff335705c3ef411a5384aa25c73b5d7a6b16c57", func := "equate/equatelaw04.WhyCloses", spec := "whyCloses", unfollowed := true, recurses := true, plainKeys := false, apart := false }
def WhyClosesSaid : Prop := whyClosesRow.holds Try.pinned (OpenSpec.ofChange whyClosesSpec)

/-- ITS FALSE NEIGHBOUR: 'it returns false'. Refute it at one input. -/
def whyClosesWrong : ChangeSpec := { name := "whyCloses", fn := fun _ => fun
  | [d1, d2, d3, d4] => { results := [.lit (.bool false)], args := [d1, d2, d3, d4] }
  | _ => none }
def WhyClosesWrongFalsely : Prop := whyClosesRow.holds Try.pinned (OpenSpec.ofChange whyClosesWrong)

/-- 'equatelaw05.LogicParses': WHATEVER THE INPUT: true; the input reads as it did. -/
def logicParsesSpec : ChangeSpec := { name := "logicParses", fn := fun _ => fun
  | [d] => { results := [.lit (.bool true)], args := [d] }
  | _ => none }
def logicParsesRow : OpenClaim := { program := "ytinphcnknionmaa", sum := "ac51afda29c48d04e3ede9eafff335705c3ef411a5384aa25c73b5d7a6b16c57", func := "equate/equatelaw05.LogicParses", spec := "logicParses", inPlace := ["internal/abi.NoEscape"], unfollowed := true, recurses := true, plainKeys := false, apart := false }
def LogicParsesSaid : Prop := logicParsesRow.holds Try.pinned (OpenSpec.ofChange logicParsesSpec)

/-- ITS FALSE NEIGHBOUR: 'it returns false'. Refute it at one input. -/
def logicParsesWrong : ChangeSpec := { name := "logicParses", fn := fun _ => fun
  | [d] => { results := [.lit (.bool false)], args := [d] }
  | _ => none }
def LogicParsesWrongFalsely : Prop := logicParsesRow.holds Try.pinned (OpenSpec.ofChange logicParsesWrong)

/-- 'equatelaw05.LogicBack': WHATEVER THE INPUT: true; the input reads as it did. -/
def logicBackSpec : ChangeSpec := { name := "logicBack", fn := fun _ => fun
  | [d] => { results := [.lit (.bool true)], args := [d] }
  | _ => none }
def logicBackRow : OpenClaim := { program := "ytinphcnknionmaa", sum := "ac51afda29c48d04e3ede9eafff335705c3ef411a5384aa25c73b5d7a6b16c57", func := "equate/equatelaw05.LogicBack", spec := "logicBack", inPlace := ["internal/abi.NoEscape"], unfollowed := true, recurses := true, plainKeys := false, apart := false }
def LogicBackSaid : Prop := logicBackRow.holds Try.pinned (OpenSpec.ofChange logicBackSpec)

/-- ITS FALSE NEIGHBOUR: 'it returns false'. Refute it at one input. -/
def logicBackWrong : ChangeSpec := { name := "logicBack", fn := fun _ => fun
  | [d] => { results := [.lit (.bool false)], args := [d] }
  | _ => none }
def LogicBackWrongFalsely : Prop := logicBackRow.holds Try.pinned (OpenSpec.ofChange logicBackWrong)

/- THE SECOND FORM. 'bulk': how many values and letters a reading holds, each counted each time it is reached (what is shared counts as often as it is met; a slice's spare places count too). A statement '..UptoSaid' is the law's where the arguments, and the package variables that the reading takes, are together of bulk at most 1048576: NARROWER than '..Said'. Prove '..Said' where nothing that the law and all that it calls make is longer than what came in: it says more and counts as full. Else prove '..UptoSaid'. A law counts once. -/
mutual
def uptoBulk {H : Type} : DataW H → Nat
  | .lit (.string bytes) => bytes.length + 1
  | .lit _ => 1
  | .nil => 1
  | .ptr d => uptoBulk d + 1
  | .slice elems spare => uptoBulkAll elems + uptoBulkAll spare + 1
  | .agg parts => uptoBulkAll parts + 1
  | .iface _ d => uptoBulk d + 1
  | .map entries => uptoBulkEntries entries + 1
  | .held _ => 1
def uptoBulkAll {H : Type} : List (DataW H) → Nat
  | [] => 0
  | d :: r => uptoBulk d + uptoBulkAll r
def uptoBulkEntries {H : Type} : List (Lit × DataW H) → Nat
  | [] => 0
  | x :: r => uptoBulkEntry x + uptoBulkEntries r
def uptoBulkEntry {H : Type} : Lit × DataW H → Nat
  | (.string bytes, d) => bytes.length + uptoBulk d + 1
  | (_, d) => uptoBulk d + 1
 end
def uptoSmall : (H : Type) → List (DataW H) → Bool := fun _ ds => decide (uptoBulkAll ds ≤ 1048576)
def OpenSpec.upto (s : _root_.Go.ChangeSpec) : _root_.Go.OpenSpec := { _root_.Go.OpenSpec.ofChange s with cond := some uptoSmall }

/-- 'equatelaw01.TermReads', WHERE WHAT IT READS IS OF BULK AT MOST 1048576: true; the input reads as it did. -/
def termReadsUptoRow : OpenClaim := { program := "ytinphcnknionmaa", sum := "ac51afda29c48d04e3ede9eafff335705c3ef411a5384aa25c73b5d7a6b16c57", func := "equate/equatelaw01.TermReads", spec := "termReads", inPlace := ["internal/abi.NoEscape"], unfollowed := true, recurses := true, plainKeys := false, apart := false, narrowed := true }
def TermReadsUptoSaid : Prop := termReadsUptoRow.holds Try.pinned (OpenSpec.upto termReadsSpec)

/-- 'equatelaw01.TermBack', WHERE WHAT IT READS IS OF BULK AT MOST 1048576: true; the input reads as it did. -/
def termBackUptoRow : OpenClaim := { program := "ytinphcnknionmaa", sum := "ac51afda29c48d04e3ede9eafff335705c3ef411a5384aa25c73b5d7a6b16c57", func := "equate/equatelaw01.TermBack", spec := "termBack", inPlace := ["internal/abi.NoEscape"], unfollowed := true, recurses := true, plainKeys := false, apart := false, narrowed := true }
def TermBackUptoSaid : Prop := termBackUptoRow.holds Try.pinned (OpenSpec.upto termBackSpec)

/-- 'equatelaw02.FindAll', WHERE WHAT IT READS IS OF BULK AT MOST 1048576: true; the input reads as it did. -/
def findAllUptoRow : OpenClaim := { program := "ytinphcnknionmaa", sum := "ac51afda29c48d04e3ede9eafff335705c3ef411a5384aa25c73b5d7a6b16c57", func := "equate/equatelaw02.FindAll", spec := "findAll", unfollowed := true, recurses := true, plainKeys := false, apart := false, narrowed := true }
def FindAllUptoSaid : Prop := findAllUptoRow.holds Try.pinned (OpenSpec.upto findAllSpec)

/-- 'equatelaw02.FindLaws', WHERE WHAT IT READS IS OF BULK AT MOST 1048576: true; the input reads as it did. -/
def findLawsUptoRow : OpenClaim := { program := "ytinphcnknionmaa", sum := "ac51afda29c48d04e3ede9eafff335705c3ef411a5384aa25c73b5d7a6b16c57", func := "equate/equatelaw02.FindLaws", spec := "findLaws", unfollowed := true, recurses := true, plainKeys := false, apart := false, narrowed := true }
def FindLawsUptoSaid : Prop := findLawsUptoRow.holds Try.pinned (OpenSpec.upto findLawsSpec)

/-- 'equatelaw02.FindUndoes', WHERE WHAT IT READS IS OF BULK AT MOST 1048576: true; the input reads as it did. -/
def findUndoesUptoRow : OpenClaim := { program := "ytinphcnknionmaa", sum := "ac51afda29c48d04e3ede9eafff335705c3ef411a5384aa25c73b5d7a6b16c57", func := "equate/equatelaw02.FindUndoes", spec := "findUndoes", unfollowed := true, recurses := true, plainKeys := false, apart := false, narrowed := true }
def FindUndoesUptoSaid : Prop := findUndoesUptoRow.holds Try.pinned (OpenSpec.upto findUndoesSpec)

/-- 'equatelaw03.CloseAll', WHERE WHAT IT READS IS OF BULK AT MOST 1048576: true; the input reads as it did. -/
def closeAllUptoRow : OpenClaim := { program := "ytinphcnknionmaa", sum := "ac51afda29c48d04e3ede9eafff335705c3ef411a5384aa25c73b5d7a6b16c57", func := "equate/equatelaw03.CloseAll", spec := "closeAll", unfollowed := true, recurses := true, plainKeys := false, apart := false, narrowed := true }
def CloseAllUptoSaid : Prop := closeAllUptoRow.holds Try.pinned (OpenSpec.upto closeAllSpec)

/-- 'equatelaw03.CloseLaws', WHERE WHAT IT READS IS OF BULK AT MOST 1048576: true; the input reads as it did. -/
def closeLawsUptoRow : OpenClaim := { program := "ytinphcnknionmaa", sum := "ac51afda29c48d04e3ede9eafff335705c3ef411a5384aa25c73b5d7a6b16c57", func := "equate/equatelaw03.CloseLaws", spec := "closeLaws", unfollowed := true, recurses := true, plainKeys := false, apart := false, narrowed := true }
def CloseLawsUptoSaid : Prop := closeLawsUptoRow.holds Try.pinned (OpenSpec.upto closeLawsSpec)

/-- 'equatelaw03.CloseOrder', WHERE WHAT IT READS IS OF BULK AT MOST 1048576: true; the input reads as it did. -/
def closeOrderUptoRow : OpenClaim := { program := "ytinphcnknionmaa", sum := "ac51afda29c48d04e3ede9eafff335705c3ef411a5384aa25c73b5d7a6b16c57", func := "equate/equatelaw03.CloseOrder", spec := "closeOrder", unfollowed := true, recurses := true, plainKeys := false, apart := false, narrowed := true }
def CloseOrderUptoSaid : Prop := closeOrderUptoRow.holds Try.pinned (OpenSpec.upto closeOrderSpec)

/-- 'equatelaw04.WhyAll', WHERE WHAT IT READS IS OF BULK AT MOST 1048576: true; the input reads as it did. -/
def whyAllUptoRow : OpenClaim := { program := "ytinphcnknionmaa", sum := "ac51afda29c48d04e3ede9eafff335705c3ef411a5384aa25c73b5d7a6b16c57", func := "equate/equatelaw04.WhyAll", spec := "whyAll", unfollowed := true, recurses := true, plainKeys := false, apart := false, narrowed := true }
def WhyAllUptoSaid : Prop := whyAllUptoRow.holds Try.pinned (OpenSpec.upto whyAllSpec)

/-- 'equatelaw04.WhyCloses', WHERE WHAT IT READS IS OF BULK AT MOST 1048576: true; the input reads as it did. -/
def whyClosesUptoRow : OpenClaim := { program := "ytinphcnknionmaa", sum := "ac51afda29c48d04e3ede9eafff335705c3ef411a5384aa25c73b5d7a6b16c57", func := "equate/equatelaw04.WhyCloses", spec := "whyCloses", unfollowed := true, recurses := true, plainKeys := false, apart := false, narrowed := true }
def WhyClosesUptoSaid : Prop := whyClosesUptoRow.holds Try.pinned (OpenSpec.upto whyClosesSpec)

/-- 'equatelaw05.LogicParses', WHERE WHAT IT READS IS OF BULK AT MOST 1048576: true; the input reads as it did. -/
def logicParsesUptoRow : OpenClaim := { program := "ytinphcnknionmaa", sum := "ac51afda29c48d04e3ede9eafff335705c3ef411a5384aa25c73b5d7a6b16c57", func := "equate/equatelaw05.LogicParses", spec := "logicParses", inPlace := ["internal/abi.NoEscape"], unfollowed := true, recurses := true, plainKeys := false, apart := false, narrowed := true }
def LogicParsesUptoSaid : Prop := logicParsesUptoRow.holds Try.pinned (OpenSpec.upto logicParsesSpec)

/-- 'equatelaw05.LogicBack', WHERE WHAT IT READS IS OF BULK AT MOST 1048576: true; the input reads as it did. -/
def logicBackUptoRow : OpenClaim := { program := "ytinphcnknionmaa", sum := "ac51afda29c48d04e3ede9eafff335705c3ef411a5384aa25c73b5d7a6b16c57", func := "equate/equatelaw05.LogicBack", spec := "logicBack", inPlace := ["internal/abi.NoEscape"], unfollowed := true, recurses := true, plainKeys := false, apart := false, narrowed := true }
def LogicBackUptoSaid : Prop := logicBackUptoRow.holds Try.pinned (OpenSpec.upto logicBackSpec)

end Rows
end Go.Proofs.Ytinphcnknionmaa
