/- Package term: the two maps' keys. -/
import Derived.Test.YtjfekcjhflcnaaaTermB
import Derived.Maps.OwnSet
import Derived.DeepKeys4
namespace Go.Proofs.Ytjfekcjhflcnaaa
open Go.RowKit Go.Maps

theorem tLaid : laidOutB Try.prog = true := by kernel_rfl
theorem tRow : (124 : TypeId) < Try.prog.types.size := of_decide_eq_true (by kernel_rfl)
theorem tCells : Try.prog.cellsOf 124 = 6 := by kernel_rfl
theorem tCells4 : Try.prog.cellsOf 122 = 4 := by kernel_rfl
theorem tCellsI : Try.prog.cellsOf 3 = 1 := by kernel_rfl
theorem tCellsS : Try.prog.cellsOf 9 = 1 := by kernel_rfl
theorem tKeyType : Try.prog.keyType 124 = true := by kernel_rfl
theorem tKeyAt : Try.prog.keyTypeAt 3 124 = true := by kernel_rfl
theorem tLaw : Keyed Try.prog 124 := Keyed.of_law (deep_law_laid tLaid (m := 3) (by omega) tRow tKeyAt (by rw [Try.underlying124]))
theorem sLaw : Keyed Try.prog 9 := string_keyed Try.underlying9
theorem zeroI (w : World) : (zeroValue 3).run Try.prog w = .ok (.int .i64 0) w := by kernel_rfl

/-- A term of a bank. -/
structure Tm where
  name : ByteArray
  args : List Nat
deriving DecidableEq

/-- Arg i as the program keeps it: 0 behind the last one. -/
def Tm.arg (t : Tm) (i : Nat) : Nat := t.args.getD i 0

def entryL (t : Tm) : List Value := [.string t.name, .int .i64 (t.args.length : Int), .int .i64 (t.arg 0 : Int), .int .i64 (t.arg 1 : Int), .int .i64 (t.arg 2 : Int), .int .i64 (t.arg 3 : Int)]
def entryV (t : Tm) : Value := .agg (entryL t).toArray

structure Tm.ok (t : Tm) : Prop where
  name : t.name.size ≤ 6
  args : t.args.length ≤ 4
  small : ∀ a ∈ t.args, a < 1000

theorem Tm.ok.arg {t : Tm} (h : t.ok) (i : Nat) : t.arg i < 1000 := by
  unfold Tm.arg
  rw [List.getD_eq_getElem?_getD]
  cases e : t.args[i]? with
  | none => simp
  | some a => simpa using h.small a (List.mem_of_getElem? e)

theorem wf64 {a : Nat} (h : a < 100000) : (Lit.int .i64 (a : Int)).wf = true := WalkArith.wf_i64 (by omega)

theorem entry_formed (t : Tm) : (entryV t).formed Try.prog 124 = true := by simp [entryV, entryL, Value.formed, Try.underlying124, tCells]

theorem entry_key (t : Tm) (h : t.ok) : ∃ kl, keyOf Try.prog 124 (entryV t) = some kl := by
  have h0 : t.name.size ≤ maxLen := Nat.le_trans h.name (by decide)
  have h1 : (Lit.int .i64 (t.args.length : Int)).wf = true := wf64 (by have := h.args; omega)
  have g0 : (Lit.int .i64 (t.arg 0 : Int)).wf = true := wf64 (by have := h.arg 0; omega)
  have g1 : (Lit.int .i64 (t.arg 1 : Int)).wf = true := wf64 (by have := h.arg 1; omega)
  have g2 : (Lit.int .i64 (t.arg 2 : Int)).wf = true := wf64 (by have := h.arg 2; omega)
  have g3 : (Lit.int .i64 (t.arg 3 : Int)).wf = true := wf64 (by have := h.arg 3; omega)
  unfold keyOf
  rw [Try.underlying124]
  simp only [tKeyType, entry_formed]
  obtain ⟨m, hm⟩ : ∃ m, Try.prog.types.size + 1 = m + 3 := ⟨Try.prog.types.size - 2, by have h9 := tRow; generalize Try.prog.types.size = z at h9 ⊢; exact (by have h8 : 3 ≤ z := Nat.le_trans (by decide) (Nat.le_of_lt h9); omega)⟩
  rw [hm]
  have hr : List.range 4 = [0, 1, 2, 3] := rfl
  simp [Program.keyLits, Try.underlying124, Try.underlying122, Try.underlying3, Try.underlying9, tCells, tCells4, tCellsI, tCellsS, entryV, entryL, Value.cells, hr, h0, h1, g0, g1, g2, g3]
