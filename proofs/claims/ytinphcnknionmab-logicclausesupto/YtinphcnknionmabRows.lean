/-
  NARROWER THAN 'FOR EVERY INPUT', by the rows' own cells (each row's printed sentence says how): LogicEvals: loops · LogicAtoms: loops · LogicClauses: loops.
  DERIVED. THE GIVEN ROWS OF THIS SEAT. 3 by the template 'for every input the law returns true; each argument reads behind the call as it read before'; 0 by the template 'total and deterministic' (their statements: YtinphcnknionmabTotals.lean).
  GIVEN WITH THE SEED: the statements are not yours to turn. If you find one false, say at which input.
  Laid BY PROGRAM, IN A SANDBOX (cutbox-rows.mjs): the forced cells as the released guide's own fill.sh prints them over the translation 98da3dbb72b8663d… (all of the seat's roots in one cut). By AI agents, Wed Nov 11 2026. No macro, syntax, notation, axiom, sorry.
-/
import Derived.Test.YtinphcnknionmabChecked
import GoSem.Claim
import GoSem.ClaimJoined
import GoSem.ClaimMapViews
import Derived.JoinedTies
import Derived.KernelRfl
namespace Go.Proofs.Ytinphcnknionmab
/- THE CELL 'sum', in the pinned program and in every row, IS THE sha256 OF THE DUMP (.gsa) THAT YtinphcnknionmabProg.lean LOADS. Nothing in Lean hashes anything: it is a label: what it is worth is what the hold of that sum in a sandbox is worth. -/
noncomputable def Try.pinned : Pinned := { name := "ytinphcnknionmab", sum := "98da3dbb72b8663d2e36abc174347c5365254404a7b213f0c944663ae1c4a2e9", checked := Try.checked }
namespace Rows
def none {H : Type} : Left H := { results := [], args := [] }

/-- 'equatelaw05.LogicEvals': WHATEVER THE INPUT: true; the input reads as it did. -/
def logicEvalsSpec : ChangeSpec := { name := "logicEvals", fn := fun _ => fun
  | [d1, d2] => { results := [.lit (.bool true)], args := [d1, d2] }
  | _ => none }
def logicEvalsRow : OpenClaim := { program := "ytinphcnknionmab", sum := "98da3dbb72b8663d2e36abc174347c5365254404a7b213f0c944663ae1c4a2e9", func := "equate/equatelaw05.LogicEvals", spec := "logicEvals", inPlace := ["internal/abi.NoEscape"], unfollowed := true, recurses := true, loops := true, plainKeys := false, apart := false }
def LogicEvalsSaid : Prop := logicEvalsRow.holds Try.pinned (OpenSpec.ofChange logicEvalsSpec)

/-- ITS FALSE NEIGHBOUR: 'it returns false'. Refute it at one input. -/
def logicEvalsWrong : ChangeSpec := { name := "logicEvals", fn := fun _ => fun
  | [d1, d2] => { results := [.lit (.bool false)], args := [d1, d2] }
  | _ => none }
def LogicEvalsWrongFalsely : Prop := logicEvalsRow.holds Try.pinned (OpenSpec.ofChange logicEvalsWrong)

/-- 'equatelaw05.LogicAtoms': WHATEVER THE INPUT: true; the input reads as it did. -/
def logicAtomsSpec : ChangeSpec := { name := "logicAtoms", fn := fun _ => fun
  | [d] => { results := [.lit (.bool true)], args := [d] }
  | _ => none }
def logicAtomsRow : OpenClaim := { program := "ytinphcnknionmab", sum := "98da3dbb72b8663d2e36abc174347c5365254404a7b213f0c944663ae1c4a2e9", func := "equate/equatelaw05.LogicAtoms", spec := "logicAtoms", inPlace := ["internal/abi.NoEscape"], unfollowed := true, recurses := true, loops := true, plainKeys := false, apart := false }
def LogicAtomsSaid : Prop := logicAtomsRow.holds Try.pinned (OpenSpec.ofChange logicAtomsSpec)

/-- ITS FALSE NEIGHBOUR: 'it returns false'. Refute it at one input. -/
def logicAtomsWrong : ChangeSpec := { name := "logicAtoms", fn := fun _ => fun
  | [d] => { results := [.lit (.bool false)], args := [d] }
  | _ => none }
def LogicAtomsWrongFalsely : Prop := logicAtomsRow.holds Try.pinned (OpenSpec.ofChange logicAtomsWrong)

/-- 'equatelaw05.LogicClauses': WHATEVER THE INPUT: true; the input reads as it did. -/
def logicClausesSpec : ChangeSpec := { name := "logicClauses", fn := fun _ => fun
  | [d1, d2] => { results := [.lit (.bool true)], args := [d1, d2] }
  | _ => none }
def logicClausesRow : OpenClaim := { program := "ytinphcnknionmab", sum := "98da3dbb72b8663d2e36abc174347c5365254404a7b213f0c944663ae1c4a2e9", func := "equate/equatelaw05.LogicClauses", spec := "logicClauses", inPlace := ["internal/abi.NoEscape"], unfollowed := true, recurses := true, loops := true, plainKeys := false, apart := false }
def LogicClausesSaid : Prop := logicClausesRow.holds Try.pinned (OpenSpec.ofChange logicClausesSpec)

/-- ITS FALSE NEIGHBOUR: 'it returns false'. Refute it at one input. -/
def logicClausesWrong : ChangeSpec := { name := "logicClauses", fn := fun _ => fun
  | [d1, d2] => { results := [.lit (.bool false)], args := [d1, d2] }
  | _ => none }
def LogicClausesWrongFalsely : Prop := logicClausesRow.holds Try.pinned (OpenSpec.ofChange logicClausesWrong)

/- THE SECOND FORM. 'bulk': how many values and letters a reading holds, each counted each time it is reached (what is shared counts as often as it is met; a slice's spare places count too). A statement '..UptoSaid' is the law's where the arguments, and the package variables that the reading takes, are together of bulk at most 1048576: NARROWER than '..Said'. Prove '..Said' where nothing that the law and all that it calls make is longer than what came in: it says more and counts as full. Else prove '..UptoSaid'. A law counts once. -/
mutual
def uptoBulk {H : Type} : DataW H → Nat
  | .lit (.string bytes) => bytes.length + 1
  | .lit _ => 1
  | .nil => 1
  | .ptr d => uptoBulk d + 1
  | .slice elems spare => uptoBulkAll elems + uptoBulkAll spare + 1
  | .agg parts => uptoBulkAll parts + 1
  | .iface _ d => uptoBulk d + 1
  | .map entries => uptoBulkEntries entries + 1
  | .held _ => 1
def uptoBulkAll {H : Type} : List (DataW H) → Nat
  | [] => 0
  | d :: r => uptoBulk d + uptoBulkAll r
def uptoBulkEntries {H : Type} : List (Lit × DataW H) → Nat
  | [] => 0
  | x :: r => uptoBulkEntry x + uptoBulkEntries r
def uptoBulkEntry {H : Type} : Lit × DataW H → Nat
  | (.string bytes, d) => bytes.length + uptoBulk d + 1
  | (_, d) => uptoBulk d + 1
 end
def uptoSmall : (H : Type) → List (DataW H) → Bool := fun _ ds => decide (uptoBulkAll ds ≤ 1048576)
def OpenSpec.upto (s : _root_.Go.ChangeSpec) : _root_.Go.OpenSpec := { _root_.Go.OpenSpec.ofChange s with cond := some uptoSmall }

/-- 'equatelaw05.LogicEvals', WHERE WHAT IT READS IS OF BULK AT MOST 1048576: true; the input reads as it did. -/
def logicEvalsUptoRow : OpenClaim := { program := "ytinphcnknionmab", sum := "98da3dbb72b8663d2e36abc174347c5365254404a7b213f0c944663ae1c4a2e9", func := "equate/equatelaw05.LogicEvals", spec := "logicEvals", inPlace := ["internal/abi.NoEscape"], unfollowed := true, recurses := true, loops := true, plainKeys := false, apart := false, narrowed := true }
def LogicEvalsUptoSaid : Prop := logicEvalsUptoRow.holds Try.pinned (OpenSpec.upto logicEvalsSpec)

/-- 'equatelaw05.LogicAtoms', WHERE WHAT IT READS IS OF BULK AT MOST 1048576: true; the input reads as it did. -/
def logicAtomsUptoRow : OpenClaim := { program := "ytinphcnknionmab", sum := "98da3dbb72b8663d2e36abc174347c5365254404a7b213f0c944663ae1c4a2e9", func := "equate/equatelaw05.LogicAtoms", spec := "logicAtoms", inPlace := ["internal/abi.NoEscape"], unfollowed := true, recurses := true, loops := true, plainKeys := false, apart := false, narrowed := true }
def LogicAtomsUptoSaid : Prop := logicAtomsUptoRow.holds Try.pinned (OpenSpec.upto logicAtomsSpec)

/-- 'equatelaw05.LogicClauses', WHERE WHAT IT READS IS OF BULK AT MOST 1048576: true; the input reads as it did. -/
def logicClausesUptoRow : OpenClaim := { program := "ytinphcnknionmab", sum := "98da3dbb72b8663d2e36abc174347c5365254404a7b213f0c944663ae1c4a2e9", func := "equate/equatelaw05.LogicClauses", spec := "logicClauses", inPlace := ["internal/abi.NoEscape"], unfollowed := true, recurses := true, loops := true, plainKeys := false, apart := false, narrowed := true }
def LogicClausesUptoSaid : Prop := logicClausesUptoRow.holds Try.pinned (OpenSpec.upto logicClausesSpec)

end Rows
end Go.Proofs.Ytinphcnknionmab
