/-
  No cell of these rows narrows 'for every input' (looked for: loops, veiled, ifaces, maps, wideKeys, modest, calm, conditions, laid).
  DERIVED. THE GIVEN ROWS OF THIS SEAT. 5 by the template 'for every input the law returns true; each argument reads behind the call as it read before'; 0 by the template 'total and deterministic' (their statements: YtclkgjhgchilgaaTotals.lean).
  GIVEN WITH THE SEED: the statements are not yours to turn. If you find one false, say at which input.
  Laid BY PROGRAM, IN A SANDBOX (cutbox-rows.mjs): the forced cells as the released guide's own fill.sh prints them over the translation 02f22092b86c11b3… (all of the seat's roots in one cut). By AI agents, Wed Nov 11 2026. No macro, syntax, notation, axiom, sorry.
-/
import Derived.Test.YtclkgjhgchilgaaChecked
import GoSem.Claim
import GoSem.ClaimJoined
import GoSem.ClaimMapViews
import Derived.JoinedTies
import Derived.KernelRfl
namespace Go.Proofs.Ytclkgjhgchilgaa
/- THE CELL 'sum', in the pinned program and in every row, IS THE sha256 OF THE DUMP (.gsa) THAT YtclkgjhgchilgaaProg.lean LOADS. Nothing in Lean hashes anything: it is a label: what it is worth is what the hold of that sum in a sandbox is worth. -/
noncomputable def Try.pinned : Pinned := { name := "ytclkgjhgchilgaa", sum := "02f22092b86c11b3c9232c03fe4e8e275a812dc46729e340a18043c31461f379", checked := Try.checked }
namespace Rows
def none {H : Type} : Left H := { results := [], args := [] }

/-- 'equatelaw01.TermReads': WHATEVER THE INPUT: true; the input reads as it did. -/
def termReadsSpec : ChangeSpec := { name := "termReads", fn := fun _ => fun
  | [d1, d2] => { results := [.lit (.bool true)], args := [d1, d2] }
  | _ => none }
def termReadsRow : OpenClaim := { program := "ytclkgjhgchilgaa", sum := "02f22092b86c11b3c9232c03fe4e8e275a812dc46729e340a18043c31461f379", func := "equate/equatelaw01.TermReads", spec := "termReads", inPlace := ["internal/abi.NoEscape"], unfollowed := true, recurses := true, plainKeys := false, apart := false }
def TermReadsSaid : Prop := termReadsRow.holds Try.pinned (OpenSpec.ofChange termReadsSpec)

/-- ITS FALSE NEIGHBOUR: 'it returns false'. Refute it at one input. -/
def termReadsWrong : ChangeSpec := { name := "termReads", fn := fun _ => fun
  | [d1, d2] => { results := [.lit (.bool false)], args := [d1, d2] }
  | _ => none }
def TermReadsWrongFalsely : Prop := termReadsRow.holds Try.pinned (OpenSpec.ofChange termReadsWrong)

/-- 'equatelaw01.TermBack': WHATEVER THE INPUT: true; the input reads as it did. -/
def termBackSpec : ChangeSpec := { name := "termBack", fn := fun _ => fun
  | [d] => { results := [.lit (.bool true)], args := [d] }
  | _ => none }
def termBackRow : OpenClaim := { program := "ytclkgjhgchilgaa", sum := "02f22092b86c11b3c9232c03fe4e8e275a812dc46729e340a18043c31461f379", func := "equate/equatelaw01.TermBack", spec := "termBack", inPlace := ["internal/abi.NoEscape"], unfollowed := true, recurses := true, plainKeys := false, apart := false }
def TermBackSaid : Prop := termBackRow.holds Try.pinned (OpenSpec.ofChange termBackSpec)

/-- ITS FALSE NEIGHBOUR: 'it returns false'. Refute it at one input. -/
def termBackWrong : ChangeSpec := { name := "termBack", fn := fun _ => fun
  | [d] => { results := [.lit (.bool false)], args := [d] }
  | _ => none }
def TermBackWrongFalsely : Prop := termBackRow.holds Try.pinned (OpenSpec.ofChange termBackWrong)

/-- 'equatelaw02.FindAll': WHATEVER THE INPUT: true; the input reads as it did. -/
def findAllSpec : ChangeSpec := { name := "findAll", fn := fun _ => fun
  | [d1, d2, d3, d4] => { results := [.lit (.bool true)], args := [d1, d2, d3, d4] }
  | _ => none }
def findAllRow : OpenClaim := { program := "ytclkgjhgchilgaa", sum := "02f22092b86c11b3c9232c03fe4e8e275a812dc46729e340a18043c31461f379", func := "equate/equatelaw02.FindAll", spec := "findAll", unfollowed := true, recurses := true, plainKeys := false, apart := false }
def FindAllSaid : Prop := findAllRow.holds Try.pinned (OpenSpec.ofChange findAllSpec)

/-- ITS FALSE NEIGHBOUR: 'it returns false'. Refute it at one input. -/
def findAllWrong : ChangeSpec := { name := "findAll", fn := fun _ => fun
  | [d1, d2, d3, d4] => { results := [.lit (.bool false)], args := [d1, d2, d3, d4] }
  | _ => none }
def FindAllWrongFalsely : Prop := findAllRow.holds Try.pinned (OpenSpec.ofChange findAllWrong)

/-- 'equatelaw02.FindLaws': WHATEVER THE INPUT: true; the input reads as it did. -/
def findLawsSpec : ChangeSpec := { name := "findLaws", fn := fun _ => fun
  | [d1, d2, d3, d4, d5] => { results := [.lit (.bool true)], args := [d1, d2, d3, d4, d5] }
  | _ => none }
def findLawsRow : OpenClaim := { program := "ytclkgjhgchilgaa", sum := "02f22092b86c11b3c9232c03fe4e8e275a812dc46729e340a18043c31461f379", func := "equate/equatelaw02.FindLaws", spec := "findLaws", unfollowed := true, recurses := true, plainKeys := false, apart := false }
def FindLawsSaid : Prop := findLawsRow.holds Try.pinned (OpenSpec.ofChange findLawsSpec)

/-- ITS FALSE NEIGHBOUR: 'it returns false'. Refute it at one input. -/
def findLawsWrong : ChangeSpec := { name := "findLaws", fn := fun _ => fun
  | [d1, d2, d3, d4, d5] => { results := [.lit (.bool false)], args := [d1, d2, d3, d4, d5] }
  | _ => none }
def FindLawsWrongFalsely : Prop := findLawsRow.holds Try.pinned (OpenSpec.ofChange findLawsWrong)

/-- 'equatelaw02.FindUndoes': WHATEVER THE INPUT: true; the input reads as it did. -/
def findUndoesSpec : ChangeSpec := { name := "findUndoes", fn := fun _ => fun
  | [d1, d2, d3] => { results := [.lit (.bool true)], args := [d1, d2, d3] }
  | _ => none }
def findUndoesRow : OpenClaim := { program := "ytclkgjhgchilgaa", sum := "02f22092b86c11b3c9232c03fe4e8e275a812dc46729e340a18043c31461f379", func := "equate/equatelaw02.FindUndoes", spec := "findUndoes", unfollowed := true, recurses := true, plainKeys := false, apart := false }
def FindUndoesSaid : Prop := findUndoesRow.holds Try.pinned (OpenSpec.ofChange findUndoesSpec)

/-- ITS FALSE NEIGHBOUR: 'it returns false'. Refute it at one input. -/
def findUndoesWrong : ChangeSpec := { name := "findUndoes", fn := fun _ => fun
  | [d1, d2, d3] => { results := [.lit (.bool false)], args := [d1, d2, d3] }
  | _ => none }
def FindUndoesWrongFalsely : Prop := findUndoesRow.holds Try.pinned (OpenSpec.ofChange findUndoesWrong)

/- THE SECOND FORM. 'bulk': how many values and letters a reading holds, each counted each time it is reached (what is shared counts as often as it is met; a slice's spare places count too). A statement '..UptoSaid' is the law's where the arguments, and the package variables that the reading takes, are together of bulk at most 1048576: NARROWER than '..Said'. Prove '..Said' where nothing that the law and all that it calls make is longer than what came in: it says more and counts as full. Else prove '..UptoSaid'. A law counts once. -/
mutual
def uptoBulk {H : Type} : DataW H → Nat
  | .lit (.string bytes) => bytes.length + 1
  | .lit _ => 1
  | .nil => 1
  | .ptr d => uptoBulk d + 1
  | .slice elems spare => uptoBulkAll elems + uptoBulkAll spare + 1
  | .agg parts => uptoBulkAll parts + 1
  | .iface _ d => uptoBulk d + 1
  | .map entries => uptoBulkEntries entries + 1
  | .held _ => 1
def uptoBulkAll {H : Type} : List (DataW H) → Nat
  | [] => 0
  | d :: r => uptoBulk d + uptoBulkAll r
def uptoBulkEntries {H : Type} : List (Lit × DataW H) → Nat
  | [] => 0
  | x :: r => uptoBulkEntry x + uptoBulkEntries r
def uptoBulkEntry {H : Type} : Lit × DataW H → Nat
  | (.string bytes, d) => bytes.length + uptoBulk d + 1
  | (_, d) => uptoBulk d + 1
 end
def uptoSmall : (H : Type) → List (DataW H) → Bool := fun _ ds => decide (uptoBulkAll ds ≤ 1048576)
def OpenSpec.upto (s : _root_.Go.ChangeSpec) : _root_.Go.OpenSpec := { _root_.Go.OpenSpec.ofChange s with cond := some uptoSmall }

/-- 'equatelaw01.TermReads', WHERE WHAT IT READS IS OF BULK AT MOST 1048576: true; the input reads as it did. -/
def termReadsUptoRow : OpenClaim := { program := "ytclkgjhgchilgaa", sum := "02f22092b86c11b3c9232c03fe4e8e275a812dc46729e340a18043c31461f379", func := "equate/equatelaw01.TermReads", spec := "termReads", inPlace := ["internal/abi.NoEscape"], unfollowed := true, recurses := true, plainKeys := false, apart := false, narrowed := true }
def TermReadsUptoSaid : Prop := termReadsUptoRow.holds Try.pinned (OpenSpec.upto termReadsSpec)

/-- 'equatelaw01.TermBack', WHERE WHAT IT READS IS OF BULK AT MOST 1048576: true; the input reads as it did. -/
def termBackUptoRow : OpenClaim := { program := "ytclkgjhgchilgaa", sum := "02f22092b86c11b3c9232c03fe4e8e275a812dc46729e340a18043c31461f379", func := "equate/equatelaw01.TermBack", spec := "termBack", inPlace := ["internal/abi.NoEscape"], unfollowed := true, recurses := true, plainKeys := false, apart := false, narrowed := true }
def TermBackUptoSaid : Prop := termBackUptoRow.holds Try.pinned (OpenSpec.upto termBackSpec)

/-- 'equatelaw02.FindAll', WHERE WHAT IT READS IS OF BULK AT MOST 1048576: true; the input reads as it did. -/
def findAllUptoRow : OpenClaim := { program := "ytclkgjhgchilgaa", sum := "02f22092b86c11b3c9232c03fe4e8e275a812dc46729e340a18043c31461f379", func := "equate/equatelaw02.FindAll", spec := "findAll", unfollowed := true, recurses := true, plainKeys := false, apart := false, narrowed := true }
def FindAllUptoSaid : Prop := findAllUptoRow.holds Try.pinned (OpenSpec.upto findAllSpec)

/-- 'equatelaw02.FindLaws', WHERE WHAT IT READS IS OF BULK AT MOST 1048576: true; the input reads as it did. -/
def findLawsUptoRow : OpenClaim := { program := "ytclkgjhgchilgaa", sum := "02f22092b86c11b3c9232c03fe4e8e275a812dc46729e340a18043c31461f379", func := "equate/equatelaw02.FindLaws", spec := "findLaws", unfollowed := true, recurses := true, plainKeys := false, apart := false, narrowed := true }
def FindLawsUptoSaid : Prop := findLawsUptoRow.holds Try.pinned (OpenSpec.upto findLawsSpec)

/-- 'equatelaw02.FindUndoes', WHERE WHAT IT READS IS OF BULK AT MOST 1048576: true; the input reads as it did. -/
def findUndoesUptoRow : OpenClaim := { program := "ytclkgjhgchilgaa", sum := "02f22092b86c11b3c9232c03fe4e8e275a812dc46729e340a18043c31461f379", func := "equate/equatelaw02.FindUndoes", spec := "findUndoes", unfollowed := true, recurses := true, plainKeys := false, apart := false, narrowed := true }
def FindUndoesUptoSaid : Prop := findUndoesUptoRow.holds Try.pinned (OpenSpec.upto findUndoesSpec)

end Rows
end Go.Proofs.Ytclkgjhgchilgaa
