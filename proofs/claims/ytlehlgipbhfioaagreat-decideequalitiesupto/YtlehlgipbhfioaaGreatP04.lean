/- Package sat: a literal watches one clause more. Package term: the two maps' keys. The plain mathematics of package close: what follows from equalities, by a list of what is to do. No Go here. Package term: the bank in memory. The plain mathematics of package close: the first uses. No Go here. Package term: fits. Package term: add. Package find: New, unhang. Package logic: the parser's small functions: next, skipBlanks, must, refuse, isOfName. Package logic: must, isOfName, termEnd. slices.Backward over the joins. Package find: Undo. Package find: the contracts, over one state. -/
import Derived.Test.YtlehlgipbhfioaaGreatSaF
import Derived.Test.YtlehlgipbhfioaaGreatTermB
import Derived.Maps.OwnSet
import Derived.DeepKeys4
import Derived.Test.YtlehlgipbhfioaaGreatP00
import Derived.Test.YtlehlgipbhfioaaGreatFindC
import Derived.RangeFuncNested
import Derived.RangeFuncBound
import Derived.RangeFuncCalls
import Derived.RangeFuncLeaves
import Derived.Shelf.Abstract
import Derived.Shelf.RegionOpen
import Derived.OwnWalkIn
import Derived.TacticsInMore
import Derived.LoopNIn
import Derived.LoopIn
namespace Go.Proofs.YtlehlgipbhfioaaGreat
open Go.RowKit Go.Maps

theorem wat_addW {s : Sv} {l c o : Nat} (hl : l < s.ws.length) (l' : Nat) : (s.addW l c o).wat l' = if l' = l then s.wat l ++ [(c, o)] else s.wat l' := by
  unfold Sv.addW Sv.wat
  by_cases e : l' = l
  · subst e; simp [hl]
  · rw [if_neg e, List.getElem?_set_ne (fun x => e x.symm)]

/-- A watch more. -/
theorem Mem.pushWin {W w8 : World} {A : Ad} {s : Sv} (h : Mem W A s) {wb : Nat} (hwb : A.blk .wout = some wb) (l c o : Nat) (hl : l < 2 * s.n + 2) {b : Nat} {sp : List Value} {v8 : Value} (hv : v8 = .slice (some ⟨b, 0, none⟩) ((s.wat l).length + 1) ((s.wat l).length + 1 + sp.length / 2)) (hev : ∃ k, sp.length = k * 2) (hcap : (s.wat l).length + 1 + sp.length / 2 ≤ maxLen)
    (hb : w8.heap[b]? = some (Obj.cells (watC A (s.wat l) ++ [A.ptr (.clause c), i32 o] ++ sp).toArray 274 (0, 0))) (ho : ∀ r' b', r' ≠ .win l → A.blk r' = some b' → w8.heap[b']? = W.heap[b']? ∧ b' ≠ b) :
    Mem (w8.setCell ⟨wb, l, none⟩ v8) (A.up (.win l) b sp) (s.addW l c o) := by
  have hlw : l < s.ws.length := by rw [h.lw]; exact hl
  have hbs : wb ≠ b := (ho .wout wb (by intro e; cases e) hwb).2
  have hup : ∀ r, r ≠ .win l → (A.up (.win l) b sp).blk r = A.blk r := fun r hr => if_neg hr
  have hus : ∀ r, r ≠ .win l → (A.up (.win l) b sp).sp r = A.sp r := fun r hr => if_neg hr
  have hslv : ∀ r k z, r ≠ .win l → (A.up (.win l) b sp).slv r k z = A.slv r k z := fun r k z hr => by unfold Ad.slv; rw [hup r hr, hus r hr]
  have hptr : ∀ r, r ≠ .win l → (A.up (.win l) b sp).ptr r = A.ptr r := fun r hr => by unfold Ad.ptr; rw [hup r hr]
  have hslt : (A.up (.win l) b sp).slv (.win l) ((s.wat l).length + 1) 2 = v8 := by rw [hv]; simp [Ad.slv, Ad.up]
  have hwat := wat_addW (c := c) (o := o) hlw
  have hwc : ∀ x, watC (A.up (.win l) b sp) x = watC A x := fun x => by simp [watC, hptr]
  have hcell : ∀ r, r ≠ .win l → r ≠ .wout → cellsR (A.up (.win l) b sp) (s.addW l c o) r = cellsR A s r := by
    intro r h1 h2
    cases r <;> first | exact absurd rfl h2 | skip
    case win l' =>
      have hne : l' ≠ l := fun e => h1 (by rw [e])
      simp only [cellsR, hwc, hus _ h1, hwat, if_neg hne]
    all_goals simp only [cellsR, searchC]
    all_goals first | rfl | skip
    all_goals simp [hslv, hus, hptr, Sv.addW, Sv.lits]
    all_goals first | rfl | exact ⟨rfl, rfl⟩
  have hout : cellsR (A.up (.win l) b sp) (s.addW l c o) .wout = (cellsR A s .wout).set l v8 := by
    simp only [cellsR, Sv.addW]
    apply List.ext_getElem?
    intro j
    by_cases e : l = j
    · subst e
      rw [List.getElem?_mapIdx, List.getElem?_set_self hlw, List.getElem?_set_self (by simpa using hlw)]
      simp [hslt]
    · rw [List.getElem?_mapIdx, List.getElem?_set_ne e, List.getElem?_set_ne e, List.getElem?_mapIdx]
      cases s.ws[j]? with
      | none => rfl
      | some x => simp [hslv _ _ _ (show Role.win j ≠ .win l by intro e2; cases e2; exact e rfl)]
  refine ⟨?_, ?_, fun r hr => ?_, fun d => ?_, fun d => ?_, fun l' e => ?_, fun e => ?_, fun e => ?_, fun r hg => ?_, fun r hg => ?_, ?_, h.lv, by simp [Sv.addW, h.lw], h.ls, h.lp, h.small, h.endk⟩
  · intro r r' b1 h1 h2
    by_cases e1 : r = .win l
    · by_cases e2 : r' = .win l
      · rw [e1, e2]
      · rw [hup r' e2] at h2
        subst e1
        have : b1 = b := by simpa [Ad.up] using h1.symm
        exact absurd this (ho r' b1 e2 h2).2
    · rw [hup r e1] at h1
      by_cases e2 : r' = .win l
      · subst e2
        have : b1 = b := by simpa [Ad.up] using h2.symm
        exact absurd this (ho r b1 e1 h1).2
      · rw [hup r' e2] at h2
        exact h.inj _ _ _ h1 h2
  · intro r b1 h1
    by_cases e1 : r = .win l
    · subst e1
      have e2 : b1 = b := by simpa [Ad.up] using h1.symm
      subst e2
      rw [Below.heap_setCell _ _ _ _ hbs.symm, hb]
      simp only [cellsR, hwc, hwat, if_true, tyR]
      simp [Ad.up, watC]
    · rw [hup r e1] at h1
      by_cases e2 : r = .wout
      · subst e2
        rw [hwb] at h1
        cases h1
        have h3 := (ho .wout wb (by intro e; cases e) hwb).1.trans (h.has _ _ hwb)
        rw [hout]
        unfold World.setCell
        simp [Array.getElem?_modify, h3]
      · rw [hcell r e1 e2, Below.heap_setCell _ _ _ _ (fun e3 => e2 (h.inj _ _ _ h1 (by rw [hwb]; exact congrArg some e3.symm)))]
        exact (ho r b1 e1 h1).1.trans (h.has r b1 h1)
  · rw [hup r (by rintro rfl; cases hr)]
    exact h.fix r hr
  · rw [hup _ (by intro e; cases e)]
    exact h.cls d
  · rw [hup _ (by intro e; cases e)]
    exact h.rows d
  · by_cases e2 : l' = l
    · subst e2; simp [Ad.up] at e
    · rw [hup _ (by intro e3; cases e3; exact e2 rfl)] at e
      rw [hwat, if_neg e2]
      exact h.win l' e
  · rw [hup _ (by intro e; cases e)] at e
    exact h.nil1 e
  · rw [hup _ (by intro e; cases e)] at e
    exact h.nil2 e
  · by_cases e1 : r = .win l
    · subst e1
      simpa [Ad.up, sizR] using hev
    · rw [hus r e1]
      exact h.even r hg
  · by_cases e1 : r = .win l
    · subst e1
      simp only [lenR, hwat, if_true, sizR]
      simpa [Ad.up] using hcap
    · rw [hus r e1]
      have : lenR (s.addW l c o) r = lenR s r := by
        cases r <;> first | rfl | skip
        case win l' =>
          have hne : l' ≠ l := fun e => e1 (by rw [e])
          simp only [lenR, hwat, if_neg hne]
      rw [this]
      exact h.caps r hg
  · have hf := h.flat
    refine ⟨?_, ?_, ?_, ?_, ?_, ?_, ?_, ?_, ?_⟩
    all_goals rw [hus _ (by intro e; cases e)]
    · exact hf.1
    · exact hf.2.1
    · exact hf.2.2.1
    · exact hf.2.2.2.1
    · exact hf.2.2.2.2.1
    · exact hf.2.2.2.2.2.1
    · exact hf.2.2.2.2.2.2.1
    · exact hf.2.2.2.2.2.2.2.1
    · exact hf.2.2.2.2.2.2.2.2

end Go.Proofs.YtlehlgipbhfioaaGreat

namespace Go.Proofs.YtlehlgipbhfioaaGreat
open Go.RowKit Go.Maps

theorem tLaid : laidOutB Tryz.prog = true := by kernel_rfl
theorem tRow : (152 : TypeId) < Tryz.prog.types.size := of_decide_eq_true (by kernel_rfl)
theorem tCells : Tryz.prog.cellsOf 152 = 6 := by kernel_rfl
theorem tCells4 : Tryz.prog.cellsOf 96 = 4 := by kernel_rfl
theorem tCellsI : Tryz.prog.cellsOf 3 = 1 := by kernel_rfl
theorem tCellsS : Tryz.prog.cellsOf 9 = 1 := by kernel_rfl
theorem tKeyType : Tryz.prog.keyType 152 = true := by kernel_rfl
theorem tKeyAt : Tryz.prog.keyTypeAt 3 152 = true := by kernel_rfl
theorem tLaw : Keyed Tryz.prog 152 := Keyed.of_law (deep_law_laid tLaid (m := 3) (by omega) tRow tKeyAt (by rw [Tryz.underlying152]))
theorem sLaw : Keyed Tryz.prog 9 := string_keyed Tryz.underlying9
theorem zeroI (w : World) : (zeroValue 3).run Tryz.prog w = .ok (.int .i64 0) w := by kernel_rfl

/-- A term of a bank. -/
structure Tm where
  name : ByteArray
  args : List Nat
deriving DecidableEq

/-- Arg i as the program keeps it: 0 behind the last one. -/
def Tm.arg (t : Tm) (i : Nat) : Nat := t.args.getD i 0

def entryL (t : Tm) : List Value := [.string t.name, .int .i64 (t.args.length : Int), .int .i64 (t.arg 0 : Int), .int .i64 (t.arg 1 : Int), .int .i64 (t.arg 2 : Int), .int .i64 (t.arg 3 : Int)]
def entryV (t : Tm) : Value := .agg (entryL t).toArray

structure Tm.ok (t : Tm) : Prop where
  name : t.name.size ≤ 6
  args : t.args.length ≤ 4
  small : ∀ a ∈ t.args, a < 1000

theorem Tm.ok.arg {t : Tm} (h : t.ok) (i : Nat) : t.arg i < 1000 := by
  unfold Tm.arg
  rw [List.getD_eq_getElem?_getD]
  cases e : t.args[i]? with
  | none => simp
  | some a => simpa using h.small a (List.mem_of_getElem? e)

theorem wf64 {a : Nat} (h : a < 100000) : (Lit.int .i64 (a : Int)).wf = true := WalkArith.wf_i64 (by omega)

theorem entry_formed (t : Tm) : (entryV t).formed Tryz.prog 152 = true := by simp [entryV, entryL, Value.formed, Tryz.underlying152, tCells]

theorem entry_key (t : Tm) (h : t.ok) : ∃ kl, keyOf Tryz.prog 152 (entryV t) = some kl := by
  have h0 : t.name.size ≤ maxLen := Nat.le_trans h.name (by decide)
  have h1 : (Lit.int .i64 (t.args.length : Int)).wf = true := wf64 (by have := h.args; omega)
  have g0 : (Lit.int .i64 (t.arg 0 : Int)).wf = true := wf64 (by have := h.arg 0; omega)
  have g1 : (Lit.int .i64 (t.arg 1 : Int)).wf = true := wf64 (by have := h.arg 1; omega)
  have g2 : (Lit.int .i64 (t.arg 2 : Int)).wf = true := wf64 (by have := h.arg 2; omega)
  have g3 : (Lit.int .i64 (t.arg 3 : Int)).wf = true := wf64 (by have := h.arg 3; omega)
  unfold keyOf
  rw [Tryz.underlying152]
  simp only [tKeyType, entry_formed]
  obtain ⟨m, hm⟩ : ∃ m, Tryz.prog.types.size + 1 = m + 3 := ⟨Tryz.prog.types.size - 2, by have h9 := tRow; generalize Tryz.prog.types.size = z at h9 ⊢; exact (by have h8 : 3 ≤ z := Nat.le_trans (by decide) (Nat.le_of_lt h9); omega)⟩
  rw [hm]
  have hr : List.range 4 = [0, 1, 2, 3] := rfl
  simp [Program.keyLits, Tryz.underlying152, Tryz.underlying96, Tryz.underlying3, Tryz.underlying9, tCells, tCells4, tCellsI, tCellsS, entryV, entryL, Value.cells, hr, h0, h1, g0, g1, g2, g3]

end Go.Proofs.YtlehlgipbhfioaaGreat

namespace Go.Proofs.YtlehlgipbhfioaaGreat.Cc

/-- What a bank's list keeps to. -/
structure Bd (l : List Tm) : Prop where
  args : ∀ (n : Nat) (t : Tm), l[n]? = some t → ∀ a ∈ t.args, a < l.length
  four : ∀ t ∈ l, t.args.length ≤ 4
  one : ∀ t ∈ l, ∀ u ∈ l, t.name = u.name → t.args.length = u.args.length
  nodup : l.Nodup

/-- The class of arg k, 0 behind the last. -/
def ar (lo : Nat → Nat) (t : Tm) (k : Nat) : Nat := match t.args[k]? with
  | some a => lo a
  | none => 0
/-- A term's signature. -/
def sg (lo : Nat → Nat) (t : Tm) : Tm := ⟨t.name, [ar lo t 0, ar lo t 1, ar lo t 2, ar lo t 3]⟩
theorem sg_arg (lo : Nat → Nat) (t : Tm) (k : Nat) (hk : k < 4) : (sg lo t).arg k = ar lo t k := by
  rcases (by omega : k = 0 ∨ k = 1 ∨ k = 2 ∨ k = 3) with rfl | rfl | rfl | rfl <;> rfl
theorem sg_congr {lo lo' : Nat → Nat} {t : Tm} (h : ∀ a ∈ t.args, lo a = lo' a) : sg lo t = sg lo' t := by
  have : ∀ k, ar lo t k = ar lo' t k := by
    intro k
    unfold ar
    cases e : t.args[k]? with
    | none => rfl
    | some a => exact h a (List.mem_of_getElem? e)
  simp [sg, this]

/-- The closure. -/
inductive Cg (l : List Tm) (P : List (Nat × Nat)) : Nat → Nat → Prop
  | told {a b : Nat} : (a, b) ∈ P → a < l.length → b < l.length → Cg l P a b
  | refl {a : Nat} : a < l.length → Cg l P a a
  | symm {a b : Nat} : Cg l P a b → Cg l P b a
  | trans {a b c : Nat} : Cg l P a b → Cg l P b c → Cg l P a c
  | cong {i j : Nat} {t u : Tm} : l[i]? = some t → l[j]? = some u → t.name = u.name → t.args.length = u.args.length → (∀ k a b : Nat, t.args[k]? = some a → u.args[k]? = some b → Cg l P a b) → Cg l P i j

theorem Cg.mono {l : List Tm} {P Q : List (Nat × Nat)} (h : ∀ a b, (a, b) ∈ P → a < l.length → b < l.length → Cg l Q a b) {i j : Nat} (hc : Cg l P i j) : Cg l Q i j := by
  induction hc with
  | told hm ha hb => exact h _ _ hm ha hb
  | refl ha => exact .refl ha
  | symm _ ih => exact .symm ih
  | trans _ _ i1 i2 => exact .trans i1 i2
  | cong h1 h2 h3 h4 _ ih => exact .cong h1 h2 h3 h4 ih

theorem Cg.lt {l : List Tm} {P : List (Nat × Nat)} {i j : Nat} (hc : Cg l P i j) : i < l.length ∧ j < l.length := by
  induction hc with
  | told _ ha hb => exact ⟨ha, hb⟩
  | refl ha => exact ⟨ha, ha⟩
  | symm _ ih => exact ⟨ih.2, ih.1⟩
  | trans _ _ i1 i2 => exact ⟨i1.1, i2.2⟩
  | cong h1 h2 _ _ _ _ => exact ⟨(List.getElem?_eq_some_iff.1 h1).1, (List.getElem?_eq_some_iff.1 h2).1⟩

/-- The same by the classes and what is to do. -/
inductive Ev (N : Nat) (lo : Nat → Nat) (todo : List (Nat × Nat)) : Nat → Nat → Prop
  | same {i j : Nat} : i < N → j < N → lo i = lo j → Ev N lo todo i j
  | todo {i j : Nat} : (i, j) ∈ todo → Ev N lo todo i j
  | symm {i j : Nat} : Ev N lo todo i j → Ev N lo todo j i
  | trans {i j k : Nat} : Ev N lo todo i j → Ev N lo todo j k → Ev N lo todo i k

theorem Ev.mono {N : Nat} {lo lo' : Nat → Nat} {td td' : List (Nat × Nat)} (h1 : ∀ i j, i < N → j < N → lo i = lo j → lo' i = lo' j) (h2 : ∀ i j, (i, j) ∈ td → Ev N lo' td' i j) {i j : Nat} (h : Ev N lo td i j) : Ev N lo' td' i j := by
  induction h with
  | same hi hj he => exact .same hi hj (h1 _ _ hi hj he)
  | todo hm => exact h2 _ _ hm
  | symm _ ih => exact .symm ih
  | trans _ _ i1 i2 => exact .trans i1 i2
theorem Ev.more {N : Nat} {lo : Nat → Nat} {td : List (Nat × Nat)} (ps : List (Nat × Nat)) {i j : Nat} (h : Ev N lo td i j) : Ev N lo (td ++ ps) i j :=
  h.mono (fun _ _ _ _ e => e) (fun _ _ hm => .todo (List.mem_append_left _ hm))
theorem Ev.done {N : Nat} {lo : Nat → Nat} {i j : Nat} (h : Ev N lo [] i j) : lo i = lo j := by
  induction h with
  | same _ _ he => exact he
  | todo hm => cases hm
  | symm _ ih => exact ih.symm
  | trans _ _ i1 i2 => exact i1.trans i2

/-- How often term n uses class r. -/
def uc (l : List Tm) (lo : Nat → Nat) (r n : Nat) : Nat := match l[n]? with
  | some t => t.args.countP (fun a => lo a == r)
  | none => 0

structure Inv (l : List Tm) (P : List (Nat × Nat)) (lo : Nat → Nat) (us : Nat → List Nat) (kn : Tm → Option Nat) (todo : List (Nat × Nat)) (pend : List Nat) : Prop where
  le : ∀ i, i < l.length → lo i ≤ i
  idem : ∀ i, i < l.length → lo (lo i) = lo i
  inr : ∀ p ∈ todo, p.1 < l.length ∧ p.2 < l.length
  pin : ∀ n ∈ pend, n < l.length
  uses : ∀ r, r < l.length → lo r = r → ∀ n, (us r).count n = uc l lo r n
  keys : ∀ (n : Nat) (t : Tm), l[n]? = some t → n ∉ pend → ∃ m, kn (sg lo t) = some m ∧ Ev l.length lo todo n m
  says : ∀ (s : Tm) (m : Nat), kn s = some m → ∃ u : Tm, l[m]? = some u ∧ u.name = s.name ∧ ∀ k, k < 4 → (∀ a, u.args[k]? = some a → s.arg k < l.length ∧ lo a = lo (s.arg k)) ∧ (u.args[k]? = none → s.arg k = 0)
  snd : ∀ i j, i < l.length → j < l.length → lo i = lo j → Cg l P i j
  tsnd : ∀ p ∈ todo, Cg l P p.1 p.2
  tld : ∀ p ∈ P, p.1 < l.length ∧ p.2 < l.length ∧ Ev l.length lo todo p.1 p.2

theorem Inv.used {l : List Tm} {P : List (Nat × Nat)} {lo : Nat → Nat} {us : Nat → List Nat} {kn : Tm → Option Nat} {todo : List (Nat × Nat)} {pend : List Nat} (h : Inv l P lo us kn todo pend) {n : Nat} {t : Tm} (ht : l[n]? = some t) {a : Nat} (ha : a ∈ t.args) {r : Nat} (hr : r < l.length) (hrr : lo r = r) (hl : lo a = r) : n ∈ us r := by
  have hc := h.uses r hr hrr n
  rw [uc, ht] at hc
  simp only at hc
  have : 0 < t.args.countP (fun a => lo a == r) := List.countP_pos_iff.2 ⟨a, ha, by simp [hl]⟩
  exact List.count_pos_iff.1 (by omega)

theorem uc_le {l : List Tm} (hb : Bd l) (lo : Nat → Nat) (r n : Nat) : uc l lo r n ≤ 4 := by
  unfold uc
  cases e : l[n]? with
  | none => simp
  | some t => exact Nat.le_trans List.countP_le_length (hb.four t (List.mem_of_getElem? e))

theorem length_count (N : Nat) : ∀ xs : List Nat, (∀ x ∈ xs, x < N) → (∀ n, xs.count n ≤ 4) → xs.length ≤ 4 * N := by
  induction N with
  | zero =>
    intro xs h _
    cases xs with
    | nil => simp
    | cons x xs => exact absurd (h x (by simp)) (by omega)
  | succ N ih =>
    intro xs h hc
    have h1 := ih (xs.filter (fun x => !(x == N))) (fun x hx => by
      obtain ⟨hm, hn⟩ := List.mem_filter.1 hx
      have := h x hm
      simp at hn
      omega) (fun n => Nat.le_trans (List.Sublist.count_le n (List.filter_sublist)) (hc n))
    have h2 : xs.length = (xs.filter (fun x => !(x == N))).length + xs.count N := by
      clear h hc h1 ih
      induction xs with
      | nil => rfl
      | cons x xs ih =>
        by_cases e : x = N
        · subst e; simp; omega
        · have e' : (x == N) = false := beq_eq_false_iff_ne.2 e
          simp [e', List.count_cons, ih]; omega
    have := hc N
    omega

theorem Inv.uin {l : List Tm} {P : List (Nat × Nat)} {lo : Nat → Nat} {us : Nat → List Nat} {kn : Tm → Option Nat} {todo : List (Nat × Nat)} {pend : List Nat} (h : Inv l P lo us kn todo pend) {r : Nat} (hr : r < l.length) (hrr : lo r = r) : ∀ n ∈ us r, n < l.length := by
  intro n hn
  have hc := h.uses r hr hrr n
  have hp := List.count_pos_iff.2 hn
  unfold uc at hc
  cases e : l[n]? with
  | none => rw [e] at hc; simp only at hc; omega
  | some t => exact (List.getElem?_eq_some_iff.1 e).1
theorem Inv.ulen {l : List Tm} (hb : Bd l) {P : List (Nat × Nat)} {lo : Nat → Nat} {us : Nat → List Nat} {kn : Tm → Option Nat} {todo : List (Nat × Nat)} {pend : List Nat} (h : Inv l P lo us kn todo pend) {r : Nat} (hr : r < l.length) (hrr : lo r = r) : (us r).length ≤ 4 * l.length :=
  length_count _ _ (h.uin hr hrr) (fun n => by rw [h.uses r hr hrr n]; exact uc_le hb _ _ _)

/-- What stands last is the same already. -/
theorem Inv.drop {l : List Tm} {P : List (Nat × Nat)} {lo : Nat → Nat} {us : Nat → List Nat} {kn : Tm → Option Nat} {todo : List (Nat × Nat)} {a b : Nat} (h : Inv l P lo us kn (todo ++ [(a, b)]) []) (he : lo a = lo b) : Inv l P lo us kn todo [] := by
  have hin := h.inr (a, b) (by simp)
  have E : ∀ {i j}, Ev l.length lo (todo ++ [(a, b)]) i j → Ev l.length lo todo i j := fun x => x.mono (fun _ _ _ _ e => e) (fun i j hm => by
    rcases List.mem_append.1 hm with hm | hm
    · exact .todo hm
    · simp at hm
      obtain ⟨rfl, rfl⟩ := hm
      exact .same hin.1 hin.2 he)
  exact ⟨h.le, h.idem, fun p hp => h.inr p (List.mem_append_left _ hp), h.pin, h.uses, fun n t ht hn => by obtain ⟨m, h1, h2⟩ := h.keys n t ht hn; exact ⟨m, h1, E h2⟩, h.says, h.snd, fun p hp => h.tsnd p (List.mem_append_left _ hp), fun p hp => ⟨(h.tld p hp).1, (h.tld p hp).2.1, E (h.tld p hp).2.2⟩⟩

/-- Two classes become one. -/
theorem Inv.join {l : List Tm} {P : List (Nat × Nat)} {lo lo' : Nat → Nat} {us us' : Nat → List Nat} {kn : Tm → Option Nat} {todo : List (Nat × Nat)} {p : Nat × Nat} (hb : Bd l) (h : Inv l P lo us kn (todo ++ [p]) []) {a b low high : Nat} (hp : p = (a, b) ∨ p = (b, a))
    (ha : lo a = low) (hbh : lo b = high) (hlt : low < high) (hlo : ∀ i, i < l.length → lo' i = if lo i = high then low else lo i) (hus : ∀ r, r < l.length → us' r = if r = low then us low ++ us high else us r) : Inv l P lo' us' kn todo (us high) := by
  have hin := h.inr p (by simp)
  have hab : a < l.length ∧ b < l.length := by rcases hp with rfl | rfl <;> exact ⟨by first | exact hin.1 | exact hin.2, by first | exact hin.2 | exact hin.1⟩
  have cab : Cg l P a b := by
    have := h.tsnd p (by simp)
    rcases hp with rfl | rfl
    · exact this
    · exact this.symm
  have llow : lo low = low := by rw [← ha]; exact h.idem a hab.1
  have lhigh : lo high = high := by rw [← hbh]; exact h.idem b hab.2
  have hhl : high < l.length := by have := h.le b hab.2; omega
  have hll : low < l.length := by omega
  have imp : ∀ i j, i < l.length → j < l.length → lo i = lo j → lo' i = lo' j := fun i j hi hj e => by rw [hlo i hi, hlo j hj, e]
  have lab : lo' a = lo' b := by rw [hlo a hab.1, hlo b hab.2, ha, hbh, if_pos rfl, if_neg (by omega)]
  have E : ∀ {i j}, Ev l.length lo (todo ++ [p]) i j → Ev l.length lo' todo i j := fun x => x.mono imp (fun i j hm => by
    rcases List.mem_append.1 hm with hm | hm
    · exact .todo hm
    · simp at hm
      rcases hp with rfl | rfl
      · obtain ⟨rfl, rfl⟩ := Prod.mk.inj hm; exact .same hab.1 hab.2 lab
      · obtain ⟨rfl, rfl⟩ := Prod.mk.inj hm; exact .same hab.2 hab.1 lab.symm)
  have alt : ∀ {n : Nat} {t : Tm}, l[n]? = some t → ∀ a ∈ t.args, a < l.length := fun ht => hb.args _ _ ht
  refine ⟨?_, ?_, fun p hp => h.inr p (List.mem_append_left _ hp), fun n hn => h.uin hhl lhigh n hn, ?_, ?_, ?_, ?_, fun p hp => h.tsnd p (List.mem_append_left _ hp), fun p hp => ⟨(h.tld p hp).1, (h.tld p hp).2.1, E (h.tld p hp).2.2⟩⟩
  · intro i hi
    rw [hlo i hi]
    have := h.le i hi
    split <;> omega
  · intro i hi
    have hi2 := h.le i hi
    rw [hlo i hi]
    split
    · rw [hlo low hll, llow, if_neg (by omega)]
    · next hne => rw [hlo (lo i) (by omega), h.idem i hi, if_neg hne]
  · intro r hr hrr n
    have hr0 := hlo r hr
    rw [hrr] at hr0
    by_cases e : r = low
    · subst e
      rw [hus r hr, if_pos rfl, List.count_append, h.uses r hll llow n, h.uses high hhl lhigh n]
      unfold uc
      cases ht : l[n]? with
      | none => rfl
      | some t =>
        have : ∀ xs : List Nat, (∀ a ∈ xs, a < l.length) → xs.countP (fun a => lo a == r) + xs.countP (fun a => lo a == high) = xs.countP (fun a => lo' a == r) := by
          intro xs
          induction xs with
          | nil => intro _; rfl
          | cons x xs ih =>
            intro hx
            have hi := ih (fun a ha => hx a (by simp [ha]))
            simp only [List.countP_cons]
            have h0 := hlo x (hx x (by simp))
            rw [h0]
            by_cases e1 : lo x = high
            · have e3 : ¬ high = r := by omega
              rw [if_pos e1, e1]
              simp only [beq_iff_eq, e3, if_false, if_true]
              omega
            · by_cases e2 : lo x = r
              · simp [e2, show ¬ r = high by omega]; omega
              · simp [e1, e2]; omega
        exact this t.args (alt ht)
    · have hne : lo r ≠ high := fun x => by rw [if_pos x] at hr0; exact e hr0
      rw [if_neg hne] at hr0
      rw [hus r hr, if_neg e, h.uses r hr hr0.symm n]
      unfold uc
      cases ht : l[n]? with
      | none => rfl
      | some t =>
        refine List.countP_congr (fun x hx => ?_)
        have h0 := hlo x (alt ht x hx)
        rw [h0]
        by_cases e1 : lo x = high
        · rw [if_pos e1]
          simp only [beq_iff_eq]
          constructor
          · intro x2; exact absurd (hr0.symm.trans (x2.symm.trans e1)) hne
          · intro x2; exact absurd x2.symm e
        · rw [if_neg e1]
  · intro n t ht hn
    obtain ⟨m, h1, h2⟩ := h.keys n t ht (by simp)
    have : sg lo' t = sg lo t := sg_congr (fun a ha => by
      rw [hlo a (alt ht a ha), if_neg (fun x => hn (h.used ht ha hhl lhigh x))])
    exact ⟨m, by rw [this]; exact h1, E h2⟩
  · intro s m hs
    obtain ⟨u, h1, h2, h3⟩ := h.says s m hs
    refine ⟨u, h1, h2, fun k hk => ⟨fun x hx => ?_, (h3 k hk).2⟩⟩
    obtain ⟨q1, q2⟩ := (h3 k hk).1 x hx
    exact ⟨q1, imp _ _ (alt h1 x (List.mem_of_getElem? hx)) q1 q2⟩
  · intro i j hi hj e
    rw [hlo i hi, hlo j hj] at e
    have toA : ∀ i, i < l.length → lo i = low → Cg l P i a := fun i hi x => h.snd i a hi hab.1 (by omega)
    have toB : ∀ i, i < l.length → lo i = high → Cg l P i a := fun i hi x => (h.snd i b hi hab.2 (by omega)).trans cab.symm
    by_cases e1 : lo i = high
    · by_cases e2 : lo j = high
      · exact (toB i hi e1).trans (toB j hj e2).symm
      · rw [if_pos e1, if_neg e2] at e
        exact (toB i hi e1).trans (toA j hj e.symm).symm
    · by_cases e2 : lo j = high
      · rw [if_neg e1, if_pos e2] at e
        exact (toA i hi e).trans (toB j hj e2).symm
      · rw [if_neg e1, if_neg e2] at e
        exact h.snd i j hi hj e

theorem ar_some {lo : Nat → Nat} {t : Tm} {k a : Nat} (h : t.args[k]? = some a) : ar lo t k = lo a := by simp [ar, h]

theorem getElem?_len {α β : Type} {xs : List α} {ys : List β} (h : xs.length = ys.length) {k : Nat} {a : α} (ha : xs[k]? = some a) : ∃ b, ys[k]? = some b := by
  have := (List.getElem?_eq_some_iff.1 ha).1
  exact ⟨ys[k]'(by omega), List.getElem?_eq_getElem (by omega)⟩

/-- A term that has a signature follows to be the same. -/
theorem Inv.alike {l : List Tm} {P : List (Nat × Nat)} {lo : Nat → Nat} {us : Nat → List Nat} {kn : Tm → Option Nat} {todo : List (Nat × Nat)} {pend : List Nat} (hb : Bd l) (h : Inv l P lo us kn todo pend) {n m : Nat} {t : Tm} (ht : l[n]? = some t) (hk : kn (sg lo t) = some m) : Cg l P n m := by
  obtain ⟨u, h1, h2, h3⟩ := h.says _ _ hk
  have hl := hb.one t (List.mem_of_getElem? ht) u (List.mem_of_getElem? h1) h2.symm
  refine .cong ht h1 h2.symm hl (fun k a b ha hb' => ?_)
  have hk4 : k < 4 := by
    have := (List.getElem?_eq_some_iff.1 ha).1
    have := hb.four t (List.mem_of_getElem? ht)
    omega
  obtain ⟨q1, q2⟩ := (h3 k hk4).1 b hb'
  have ha' := hb.args n t ht a (List.mem_of_getElem? ha)
  rw [sg_arg _ _ _ hk4, ar_some ha] at q1 q2
  rw [h.idem a ha'] at q2
  exact h.snd a b ha' (hb.args m u h1 b (List.mem_of_getElem? hb')) q2.symm

/-- One of those that are pending is looked up: there is one like it. -/
theorem Inv.old {l : List Tm} {P : List (Nat × Nat)} {lo : Nat → Nat} {us : Nat → List Nat} {kn : Tm → Option Nat} {todo : List (Nat × Nat)} {pend : List Nat} (hb : Bd l) {n m : Nat} (h : Inv l P lo us kn todo (n :: pend)) {t : Tm} (ht : l[n]? = some t) (hk : kn (sg lo t) = some m) : Inv l P lo us kn (todo ++ [(n, m)]) pend := by
  have hc := h.alike hb ht hk
  refine ⟨h.le, h.idem, ?_, fun x hx => h.pin x (by simp [hx]), h.uses, ?_, h.says, h.snd, ?_, fun p hp => ⟨(h.tld p hp).1, (h.tld p hp).2.1, (h.tld p hp).2.2.more _⟩⟩
  · intro p hp
    rcases List.mem_append.1 hp with hp | hp
    · exact h.inr p hp
    · simp at hp; subst hp; exact hc.lt
  · intro i u hu hi
    by_cases e : i = n
    · subst e
      rw [ht] at hu
      cases hu
      exact ⟨m, hk, .todo (by simp)⟩
    · obtain ⟨m', h1, h2⟩ := h.keys i u hu (by simp [e, hi])
      exact ⟨m', h1, h2.more _⟩
  · intro p hp
    rcases List.mem_append.1 hp with hp | hp
    · exact h.tsnd p hp
    · simp at hp; subst hp; exact hc

/-- .. there is none. -/
theorem Inv.new {l : List Tm} {P : List (Nat × Nat)} {lo : Nat → Nat} {us : Nat → List Nat} {kn kn' : Tm → Option Nat} {todo : List (Nat × Nat)} {pend : List Nat} (hb : Bd l) {n : Nat} (h : Inv l P lo us kn todo (n :: pend)) {t : Tm} (ht : l[n]? = some t) (hk : kn (sg lo t) = none) (hkn : ∀ s, kn' s = if s = sg lo t then some n else kn s) : Inv l P lo us kn' (todo ++ [(n, n)]) pend := by
  have hn : n < l.length := (List.getElem?_eq_some_iff.1 ht).1
  refine ⟨h.le, h.idem, ?_, fun x hx => h.pin x (by simp [hx]), h.uses, ?_, ?_, h.snd, ?_, fun p hp => ⟨(h.tld p hp).1, (h.tld p hp).2.1, (h.tld p hp).2.2.more _⟩⟩
  · intro p hp
    rcases List.mem_append.1 hp with hp | hp
    · exact h.inr p hp
    · simp at hp; subst hp; exact ⟨hn, hn⟩
  · intro i u hu hi
    by_cases e : i = n
    · subst e
      rw [ht] at hu
      cases hu
      exact ⟨i, by rw [hkn, if_pos rfl], .todo (by simp)⟩
    · obtain ⟨m', h1, h2⟩ := h.keys i u hu (by simp [e, hi])
      refine ⟨m', ?_, h2.more _⟩
      rw [hkn, if_neg (fun x => by rw [x, hk] at h1; cases h1)]
      exact h1
  · intro s m hs
    rw [hkn] at hs
    by_cases e : s = sg lo t
    · rw [if_pos e] at hs
      cases hs
      refine ⟨t, ht, by rw [e]; rfl, fun k hk => ?_⟩
      rw [e, sg_arg _ _ _ hk]
      refine ⟨fun a ha => ?_, fun hnone => by simp [ar, hnone]⟩
      rw [ar_some ha]
      have ha' := hb.args n t ht a (List.mem_of_getElem? ha)
      have := h.le a ha'
      exact ⟨by omega, (h.idem a ha').symm⟩
    · rw [if_neg e] at hs
      exact h.says s m hs
  · intro p hp
    rcases List.mem_append.1 hp with hp | hp
    · exact h.tsnd p hp
    · simp at hp; subst hp; exact .refl hn

/-- A pair is told. -/
theorem Inv.tell {l : List Tm} {P : List (Nat × Nat)} {lo : Nat → Nat} {us : Nat → List Nat} {kn : Tm → Option Nat} (h : Inv l P lo us kn [] []) {a b : Nat} (ha : a < l.length) (hb : b < l.length) : Inv l (P ++ [(a, b)]) lo us kn [(a, b)] [] := by
  have M : ∀ {i j}, Cg l P i j → Cg l (P ++ [(a, b)]) i j := fun x => x.mono (fun _ _ hm h1 h2 => .told (List.mem_append_left _ hm) h1 h2)
  refine ⟨h.le, h.idem, fun p hp => by simp at hp; subst hp; exact ⟨ha, hb⟩, h.pin, h.uses, fun n t ht hn => ?_, h.says, fun i j hi hj e => M (h.snd i j hi hj e), fun p hp => ?_, fun p hp => ?_⟩
  · obtain ⟨m, h1, h2⟩ := h.keys n t ht hn
    exact ⟨m, h1, h2.more [(a, b)]⟩
  · simp at hp; subst hp; exact .told (by simp) ha hb
  · rcases List.mem_append.1 hp with hp | hp
    · exact ⟨(h.tld p hp).1, (h.tld p hp).2.1, (h.tld p hp).2.2.more [(a, b)]⟩
    · simp at hp; subst hp; exact ⟨ha, hb, .todo (by simp)⟩

/-- When nothing is to do the classes are the closure's. -/
theorem Inv.fin {l : List Tm} {P : List (Nat × Nat)} {lo : Nat → Nat} {us : Nat → List Nat} {kn : Tm → Option Nat} (h : Inv l P lo us kn [] []) {i j : Nat} (hi : i < l.length) (hj : j < l.length) : lo i = lo j ↔ Cg l P i j := by
  refine ⟨h.snd i j hi hj, fun hc => ?_⟩
  clear hi hj
  induction hc with
  | told hm _ _ => exact (h.tld _ hm).2.2.done
  | refl _ => rfl
  | symm _ ih => exact ih.symm
  | trans _ _ i1 i2 => exact i1.trans i2
  | @cong i j t u h1 h2 h3 h4 _ ih =>
    have : sg lo t = sg lo u := by
      have : ∀ k, ar lo t k = ar lo u k := by
        intro k
        unfold ar
        cases e : t.args[k]? with
        | none =>
          have : u.args[k]? = none := by rw [List.getElem?_eq_none_iff] at e ⊢; omega
          rw [this]
        | some a =>
          obtain ⟨b, hb⟩ := getElem?_len h4 e
          rw [hb]
          exact ih k a b e hb
      simp [sg, h3, this]
    obtain ⟨m, k1, k2⟩ := h.keys i t h1 (by simp)
    obtain ⟨m', k3, k4⟩ := h.keys j u h2 (by simp)
    rw [this, k3] at k1
    cases k1
    exact k2.done.trans k4.done.symm

theorem Inv.low {l : List Tm} {P Q : List (Nat × Nat)} {lo lo' : Nat → Nat} {us us' : Nat → List Nat} {kn kn' : Tm → Option Nat} (h : Inv l P lo us kn [] []) (h' : Inv l Q lo' us' kn' [] []) (hPQ : ∀ i j, Cg l P i j → Cg l Q i j) {i : Nat} (hi : i < l.length) : lo' i = lo' (lo i) := by
  have h1 := h.le i hi
  have h2 := h.idem i hi
  exact (h'.fin hi (by omega)).2 (hPQ _ _ ((h.fin hi (by omega)).1 h2.symm))

/-- The same closure, the same least numbers. -/
theorem Inv.unique {l : List Tm} {P Q : List (Nat × Nat)} {lo lo' : Nat → Nat} {us us' : Nat → List Nat} {kn kn' : Tm → Option Nat} (h : Inv l P lo us kn [] []) (h' : Inv l Q lo' us' kn' [] []) (hPQ : ∀ i j, Cg l P i j → Cg l Q i j) (hQP : ∀ i j, Cg l Q i j → Cg l P i j) {i : Nat} (hi : i < l.length) : lo i = lo' i := by
  have a1 := h.low h' hPQ hi
  have a2 := h'.low h hQP hi
  have := h.le i hi
  have := h'.le i hi
  have b1 := h'.le (lo i) (by omega)
  have b2 := h.le (lo' i) (by omega)
  omega

/-- At the beginning. -/
theorem Inv.start {l : List Tm} {us : Nat → List Nat} {kn : Tm → Option Nat} (hb : Bd l) (hus : ∀ r, r < l.length → ∀ n, (us r).count n = uc l id r n) (hkn : ∀ s m, kn s = some m ↔ ∃ t, l[m]? = some t ∧ sg id t = s) : Inv l [] id us kn [] [] := by
  refine ⟨fun i _ => Nat.le_refl _, fun _ _ => rfl, by simp, by simp, fun r hr _ n => hus r hr n, ?_, ?_, ?_, by simp, by simp⟩
  · intro n t ht _
    exact ⟨n, (hkn _ _).2 ⟨t, ht, rfl⟩, .same (List.getElem?_eq_some_iff.1 ht).1 (List.getElem?_eq_some_iff.1 ht).1 rfl⟩
  · intro s m hs
    obtain ⟨t, ht, rfl⟩ := (hkn s m).1 hs
    refine ⟨t, ht, rfl, fun k hk => ?_⟩
    rw [sg_arg _ _ _ hk]
    refine ⟨fun a ha => ?_, fun hn => by simp [ar, hn]⟩
    rw [ar_some ha]
    exact ⟨hb.args m t ht a (List.mem_of_getElem? ha), rfl⟩
  · intro i j hi _ e
    have : i = j := e
    subst this
    exact .refl hi

/-- No two terms of a bank have one signature at the beginning. -/
theorem sg_inj {l : List Tm} (hb : Bd l) {i j : Nat} {t u : Tm} (ht : l[i]? = some t) (hu : l[j]? = some u) (he : sg id t = sg id u) : i = j := by
  have hn : t.name = u.name := by have := congrArg Tm.name he; exact this
  have hl := hb.one t (List.mem_of_getElem? ht) u (List.mem_of_getElem? hu) hn
  have h4 := hb.four t (List.mem_of_getElem? ht)
  have hk : ∀ k, k < 4 → ar id t k = ar id u k := fun k hk => by rw [← sg_arg id t k hk, ← sg_arg id u k hk, he]
  have ha : t.args = u.args := by
    apply List.ext_getElem hl
    intro k h1 h2
    have := hk k (by omega)
    rw [ar_some (List.getElem?_eq_getElem h1), ar_some (List.getElem?_eq_getElem h2)] at this
    exact this
  have : t = u := by cases t; cases u; simp_all
  subst this
  have h1 := (List.getElem?_eq_some_iff.1 ht)
  have h2 := (List.getElem?_eq_some_iff.1 hu)
  exact (List.getElem_inj hb.nodup).1 (h1.2.trans h2.2.symm)

end Go.Proofs.YtlehlgipbhfioaaGreat.Cc

namespace Go.Proofs.YtlehlgipbhfioaaGreat
open Go.RowKit Go.Maps

/-- A map of numbers, as tight as it is. -/
def mapIs (w : World) (k : TypeId) (b : Nat) (D : DataW Unit) : Prop := w.ownsMap Tryz.prog k (plainElem Tryz.prog 3) b (Maps.size D) D

theorem mapIs_of {w : World} {k : TypeId} {b n : Nat} {D : DataW Unit} (h : w.ownsMap Tryz.prog k (plainElem Tryz.prog 3) b n D) : mapIs w k b D := by
  obtain ⟨es, clock, hb, F, hs, rfl⟩ := h
  exact ⟨es, clock, hb, F, by simp [Maps.size, length_sorted], rfl⟩

/-- What a term reads as in the map of numbers. -/
noncomputable def ekey (t : Tm) : Lit := (keyOf Tryz.prog 152 (entryV t)).getD (.bool false)
theorem ekey_of {t : Tm} (h : t.ok) : keyOf Tryz.prog 152 (entryV t) = some (ekey t) := by
  obtain ⟨kl, hk⟩ := entry_key t h
  simp [ekey, hk]

theorem args_ext {a b : List Nat} (hl : a.length = b.length) (h4 : a.length ≤ 4) (h : ∀ i, i < 4 → a.getD i 0 = b.getD i 0) : a = b := by
  apply List.ext_getElem hl
  intro i h1 h2
  have := h i (by omega)
  rw [List.getD_eq_getElem?_getD, List.getD_eq_getElem?_getD, List.getElem?_eq_getElem h1, List.getElem?_eq_getElem h2] at this
  simpa using this

theorem entryV_inj {t u : Tm} (ht : t.ok) (h : entryV t = entryV u) : t = u := by
  obtain ⟨n, a⟩ := t
  obtain ⟨m, b⟩ := u
  simp [entryV, entryL, Tm.arg] at h
  obtain ⟨h0, h1, h2, h3, h4, h5⟩ := h
  have hl : a.length = b.length := by omega
  have : a = b := args_ext hl ht.args (fun i hi => by
    rcases (by omega : i = 0 ∨ i = 1 ∨ i = 2 ∨ i = 3) with rfl | rfl | rfl | rfl <;> simp only [List.getD_eq_getElem?_getD] <;> omega)
  rw [h0, this]

theorem ekey_inj {t u : Tm} (ht : t.ok) (hu : u.ok) (h : ekey t = ekey u) : t = u :=
  entryV_inj ht (tLaw.inj (ekey_of ht) (by rw [h]; exact ekey_of hu))

def skey (n : ByteArray) : Lit := .string n.data.toList
theorem skey_of {n : ByteArray} (h : n.size ≤ 6) : keyOf Tryz.prog 9 (.string n) = some (skey n) := WideMaps.keyOf_string_mk Tryz.underlying9 (Nat.le_trans h (by decide))
theorem skey_inj {n m : ByteArray} (h : skey n = skey m) : n = m := WideShapes.bytes_inj (by simpa [skey] using h)

/-- The number of a term; of a name's first term. -/
def nix (l : List Tm) (t : Tm) : Option Nat := l.findIdx? (fun x => decide (x = t))
def fst (l : List Tm) (n : ByteArray) : Option Nat := l.findIdx? (fun x => decide (x.name = n))

/-- Is term i the first one of its name? How many are? -/
def isF (l : List Tm) (i : Nat) : Bool := match l[i]? with
  | some t => decide (fst l t.name = some i)
  | none => false
def cntF (l : List Tm) : Nat := ((List.range l.length).filter (isF l)).length
theorem cntF_le (l : List Tm) : cntF l ≤ l.length := by
  have := List.length_filter_le (isF l) (List.range l.length)
  simpa [cntF] using this

/-- A map says at a key what o says. -/
def Says (D : DataW Unit) (kl : Lit) (o : Option Nat) : Prop := Maps.has D kl = o.isSome ∧ D.atKey kl (.lit (.int .i64 0)) = .lit (.int .i64 ((o.getD 0 : Nat) : Int))

theorem Says.put_same {D : DataW Unit} {kl : Lit} (hD : IsMap D) (hk : WideAt.IsKeyLit kl) (n : Nat) : Says (D.put kl (.lit (.int .i64 (n : Int)))) kl (some n) :=
  ⟨has_put_same hD hk _, atKey_put_same hD hk _ _⟩
theorem Says.put_other {D : DataW Unit} {kl kl' : Lit} {o : Option Nat} (h : Says D kl' o) (hne : kl' ≠ kl) (d : DataW Unit) : Says (D.put kl d) kl' o :=
  ⟨by rw [has_put_other hne]; exact h.1, by rw [atKey_put_other hne]; exact h.2⟩
theorem Says.del_same {D : DataW Unit} {kl : Lit} : Says (D.del kl) kl none := ⟨has_del_same, atKey_del_same _⟩
theorem Says.del_other {D : DataW Unit} {kl kl' : Lit} {o : Option Nat} (h : Says D kl' o) (hne : kl' ≠ kl) : Says (D.del kl) kl' o :=
  ⟨by rw [has_del_other hne]; exact h.1, by rw [atKey_del_other hne]; exact h.2⟩

def bankC (ev : Value) (nb fb : Nat) (j : Nat) : Value := if j = 0 then ev else if j = 1 then .map (some nb) else .map (some fb)

/-- A bank at block p: its row of entries, and two maps. -/
structure Bk (w : World) (base p : Nat) (ev : Value) (nb fb : Nat) (l : List Tm) : Prop where
  bank : w.rowIs p 84 3 (bankC ev nb fb)
  rows : w.ownsRow base 152 6 ev l.length (l.flatMap entryL)
  nums : ∃ D, mapIs w 152 nb D ∧ Maps.size D = l.length ∧ ∀ t : Tm, t.ok → Says D (ekey t) (nix l t)
  fsts : ∃ D, mapIs w 9 fb D ∧ Maps.size D = cntF l ∧ ∀ n : ByteArray, n.size ≤ 6 → Says D (skey n) (fst l n)
  oks : ∀ t ∈ l, t.ok
  nodup : l.Nodup
  pn : p ≠ nb
  pf : p ≠ fb
  nf : nb ≠ fb
  ep : ev.ownBlock ≠ some p
  en : ev.ownBlock ≠ some nb
  ef : ev.ownBlock ≠ some fb
  bp : base ≤ p
  bn : base ≤ nb
  bf : base ≤ fb
  small : l.length ≤ 1000

theorem Bk.c0 {w : World} {base p : Nat} {ev : Value} {nb fb : Nat} {l : List Tm} (h : Bk w base p ev nb fb l) : w.cell? ⟨p, 0, none⟩ = some ev := h.bank.cell (by omega)
theorem Bk.c1 {w : World} {base p : Nat} {ev : Value} {nb fb : Nat} {l : List Tm} (h : Bk w base p ev nb fb l) : w.cell? ⟨p, 1, none⟩ = some (.map (some nb)) := h.bank.cell (i := 1) (by omega)
theorem Bk.c2 {w : World} {base p : Nat} {ev : Value} {nb fb : Nat} {l : List Tm} (h : Bk w base p ev nb fb l) : w.cell? ⟨p, 2, none⟩ = some (.map (some fb)) := h.bank.cell (i := 2) (by omega)
theorem Bk.drewN {w : World} {base p : Nat} {ev : Value} {nb fb : Nat} {l : List Tm} (h : Bk w base p ev nb fb l) (m : Nat) : Bk (w.drewN m) base p ev nb fb l :=
  ⟨h.bank, h.rows, h.nums, h.fsts, h.oks, h.nodup, h.pn, h.pf, h.nf, h.ep, h.en, h.ef, h.bp, h.bn, h.bf, h.small⟩
theorem Bk.eform {w : World} {base p : Nat} {ev : Value} {nb fb : Nat} {l : List Tm} (h : Bk w base p ev nb fb l) : ∃ a cap, ev = .slice a l.length cap := by
  rcases h.rows.2 with ⟨rfl, h0⟩ | ⟨b, cap, cur, rfl, _⟩
  · rw [h0]; exact ⟨none, 0, rfl⟩
  · exact ⟨_, cap, rfl⟩

theorem Bk.grown {w w' : World} {base p : Nat} {ev : Value} {nb fb : Nat} {l : List Tm} {row : Option Nat} (h : Bk w base p ev nb fb l) (K : w.grownBy w' row) (hp : some p ≠ row) (hn : some nb ≠ row) (hf : some fb ≠ row) (he : row = none ∨ ev.ownBlock ≠ row) : Bk w' base p ev nb fb l := by
  obtain ⟨Dn, n1, n2, n3⟩ := h.nums
  obtain ⟨Df, f1, f2, f3⟩ := h.fsts
  exact ⟨h.bank.of_block (K.block p h.bank.lt hp), h.rows.kept K (he.elim (fun e => e ▸ Decidable.em (ev.ownBlock = none)) Or.inr), ⟨Dn, World.ownsMap.kept n1 K hn, n2, n3⟩, ⟨Df, World.ownsMap.kept f1 K hf, f2, f3⟩, h.oks, h.nodup, h.pn, h.pf, h.nf, h.ep, h.en, h.ef, h.bp, h.bn, h.bf, h.small⟩

abbrev Kept0 (w w' : World) : Prop := Kept (fun _ => False) w w'
theorem Kept0.grownBy {w w' : World} (h : Kept0 w w') : w.grownBy w' none := ⟨h.os, h.tape, h.output, h.size, fun k hk _ => h.block k hk (fun e => e)⟩
theorem Bk.kept0 {w w' : World} {base p : Nat} {ev : Value} {nb fb : Nat} {l : List Tm} (h : Bk w base p ev nb fb l) (K : Kept0 w w') : Bk w' base p ev nb fb l :=
  h.grown K.grownBy (by simp) (by simp) (by simp) (Or.inl rfl)
theorem Bk.kept1 {w w' : World} {base p : Nat} {ev : Value} {nb fb : Nat} {l : List Tm} {x : Nat} (h : Bk w base p ev nb fb l) (K : Kept1 x w w') (hp : p ≠ x) (hn : nb ≠ x) (hf : fb ≠ x) (he : ev.ownBlock ≠ some x) : Bk w' base p ev nb fb l :=
  h.grown K.grownBy (by simpa using hp) (by simpa using hn) (by simpa using hf) (Or.inr he)

/-- 'v, ok := firsts[n]', 'numbers[e]', 'firsts[n]'. -/
theorem Says.look {w : World} {k t : TypeId} {b : Nat} {D : DataW Unit} {key : Value} {kl : Lit} {o : Option Nat} (h : mapIs w k b D) (S : Says D kl o) (K : Keyed Tryz.prog k) (ht : Tryz.prog.underlying t = some (.map k 3)) (hkey : keyOf Tryz.prog k key = some kl) :
    (Instr.lookup t (.map (some b)) key true).run Tryz.prog w = .ok (.tuple #[.int .i64 ((o.getD 0 : Nat) : Int), .bool o.isSome]) w := by
  obtain ⟨v, ps, hrun, hv⟩ := World.ownsMap.look_ok h K ht (zeroI w) (plainElem_int Tryz.underlying3 (by decide)) hkey
  rw [S.2] at hv
  obtain ⟨c, rfl, hc, _⟩ := plainElem_int_inv Tryz.underlying3 hv
  have hc' := congrArg Prod.fst hc
  simp at hc'
  rw [hrun, S.1, hc']

theorem Bk.lookF {w : World} {base p : Nat} {ev : Value} {nb fb : Nat} {l : List Tm} (h : Bk w base p ev nb fb l) {n : ByteArray} (hn : n.size ≤ 6) :
    (Instr.lookup 81 (.map (some fb)) (.string n) true).run Tryz.prog w = .ok (.tuple #[.int .i64 (((fst l n).getD 0 : Nat) : Int), .bool (fst l n).isSome]) w := by
  obtain ⟨D, f1, _, f3⟩ := h.fsts
  exact (f3 n hn).look f1 sLaw Tryz.underlying81 (skey_of hn)
theorem Bk.lookN {w : World} {base p : Nat} {ev : Value} {nb fb : Nat} {l : List Tm} (h : Bk w base p ev nb fb l) {t : Tm} (ht : t.ok) :
    (Instr.lookup 80 (.map (some nb)) (entryV t) true).run Tryz.prog w = .ok (.tuple #[.int .i64 (((nix l t).getD 0 : Nat) : Int), .bool (nix l t).isSome]) w := by
  obtain ⟨D, f1, _, f3⟩ := h.nums
  exact (f3 t ht).look f1 tLaw Tryz.underlying80 (ekey_of ht)

/-- The entry's cells in the row. -/
theorem flat_getElem (l : List Tm) (i j : Nat) (hj : j < 6) : (l.flatMap entryL)[i * 6 + j]? = (l[i]?).bind (fun t => (entryL t)[j]?) := by
  induction l generalizing i with
  | nil => simp
  | cons t l ih =>
    cases i with
    | zero => rcases (by omega : j = 0 ∨ j = 1 ∨ j = 2 ∨ j = 3 ∨ j = 4 ∨ j = 5) with rfl | rfl | rfl | rfl | rfl | rfl <;> simp [entryL]
    | succ i =>
      have e : (i + 1) * 6 + j = 6 + (i * 6 + j) := by omega
      simp [List.flatMap_cons, e]
      rw [List.getElem?_append_right (by simp [entryL])]
      simpa [entryL] using ih i

theorem Bk.at {w : World} {base p : Nat} {ev : Value} {nb fb : Nat} {l : List Tm} (h : Bk w base p ev nb fb l) {i : Nat} {t : Tm} (hi : l[i]? = some t) :
    ∃ g cap, ev = .slice (some ⟨g, 0, none⟩) l.length cap ∧ ∀ j u, (entryL t)[j]? = some u → w.cell? ⟨g, i * 6 + j, none⟩ = some u := by
  have hlt : i < l.length := (List.getElem?_eq_some_iff.1 hi).1
  rcases h.rows.2 with ⟨e, h0⟩ | ⟨b, cap, cur, e, _⟩
  · omega
  · refine ⟨b, cap, e, fun j u hj => ?_⟩
    have hj6 : j < 6 := by have := (List.getElem?_eq_some_iff.1 hj).1; simpa [entryL] using this
    have := h.rows.cells (g := b) (by rw [e]; rfl) (i * 6 + j) u (by rw [flat_getElem l i j hj6, hi]; exact hj)
    simp [Addr.add] at this
    split at this
    · next e0 => rw [e0.1, e0.2]; exact this
    · exact this

set_option maxHeartbeats 400000 in
theorem size_in (w : World) (base p : Nat) (ev : Value) (nb fb : Nat) (l : List Tm) (h : Bk w base p ev nb fb l) :
    Calls Tryz.prog 35 #[.pointer (some ⟨p, 0, none⟩)] w fun e w' => e = .returned (.int .i64 (l.length : Int)) ∧ w = w' := by
  obtain ⟨a, cap, rfl⟩ := h.eform
  have c0 := h.c0
  have hs := h.small
  clear h
  go_enter Tryz.func35, Tryz.ntmps35
  go_wp2
  go_ret
  exact ⟨rfl, rfl⟩

set_option maxHeartbeats 400000 in
theorem thas_in (w : World) (base p : Nat) (ev : Value) (nb fb : Nat) (l : List Tm) (h : Bk w base p ev nb fb l) (a : Int) :
    Calls Tryz.prog 65 #[.pointer (some ⟨p, 0, none⟩), .int .i64 a] w fun e w' => e = .returned (.bool (inB l.length a)) ∧ w = w' := by
  obtain ⟨x, cap, rfl⟩ := h.eform
  have c0 := h.c0
  have hs := h.small
  clear h
  go_enter Tryz.func65, Tryz.ntmps65
  go_wp2
  · go_ret
    exact ⟨ret_bool (inB_ge ‹_›), rfl⟩
  · go_ret
    exact ⟨ret_bool (inB_lt ‹_›), rfl⟩

end Go.Proofs.YtlehlgipbhfioaaGreat

namespace Go.Proofs.YtlehlgipbhfioaaGreat.Cc

/-- Which terms use which, one after the other. -/
def evn (t : Tm) (n : Nat) : List (Nat × Nat) := t.args.map (fun a => (a, n))
def evs : List Tm → Nat → List (Nat × Nat)
  | [], _ => []
  | t :: l, n => evn t n ++ evs l (n + 1)
def usf (d : List (Nat × Nat)) (i : Nat) : List Nat := (d.filter (fun x => x.1 == i)).map (fun x => x.2)
def cna (d : List (Nat × Nat)) (i : Nat) : Nat := (usf d i).length

theorem evs_app (l m : List Tm) (n : Nat) : evs (l ++ m) n = evs l n ++ evs m (n + l.length) := by
  induction l generalizing n with
  | nil => simp [evs]
  | cons t l ih =>
    have e : n + 1 + l.length = n + (l.length + 1) := by omega
    simp [evs, ih, e]
theorem evs_take {l : List Tm} {n : Nat} {t : Tm} (ht : l[n]? = some t) : evs (l.take (n + 1)) 0 = evs (l.take n) 0 ++ evn t n := by
  have hn := (List.getElem?_eq_some_iff.1 ht).1
  have h1 : l.take (n + 1) = l.take n ++ [t] := by rw [List.take_add_one, ht]; rfl
  rw [h1, evs_app]
  simp [evs, List.length_take, Nat.min_eq_left (Nat.le_of_lt hn)]
/-- What came ahead of arg k of term n. -/
def pre (l : List Tm) (n : Nat) (t : Tm) (k : Nat) : List (Nat × Nat) := evs (l.take n) 0 ++ (t.args.take k).map (fun a => (a, n))
theorem pre_zero (l : List Tm) (n : Nat) (t : Tm) : pre l n t 0 = evs (l.take n) 0 := by simp [pre]
theorem pre_step {l : List Tm} {n : Nat} {t : Tm} {k a : Nat} (ha : t.args[k]? = some a) : pre l n t (k + 1) = pre l n t k ++ [(a, n)] := by
  unfold pre
  rw [List.take_add_one, ha]
  simp
theorem pre_all {l : List Tm} {n : Nat} {t : Tm} (ht : l[n]? = some t) : pre l n t t.args.length = evs (l.take (n + 1)) 0 := by
  rw [evs_take ht]
  simp [pre, evn]
theorem evs_all (l : List Tm) : evs (l.take l.length) 0 = evs l 0 := by rw [List.take_length]

theorem usf_snoc (d : List (Nat × Nat)) (a n i : Nat) : usf (d ++ [(a, n)]) i = if i = a then usf d i ++ [n] else usf d i := by
  unfold usf
  rw [List.filter_append, List.map_append]
  by_cases e : i = a
  · subst e; simp
  · rw [if_neg e]
    have : (a == i) = false := beq_eq_false_iff_ne.2 (Ne.symm e)
    simp [this]
theorem cna_snoc (d : List (Nat × Nat)) (a n i : Nat) : cna (d ++ [(a, n)]) i = if i = a then cna d i + 1 else cna d i := by
  unfold cna
  rw [usf_snoc]
  split <;> simp
theorem usf_app (d e : List (Nat × Nat)) (i : Nat) : usf (d ++ e) i = usf d i ++ usf e i := by simp [usf]
theorem cna_app (d e : List (Nat × Nat)) (i : Nat) : cna (d ++ e) i = cna d i + cna e i := by simp [cna, usf_app]
theorem cna_le (d : List (Nat × Nat)) (i : Nat) : cna d i ≤ d.length := by
  unfold cna usf
  rw [List.length_map]
  exact List.length_filter_le _ _

/-- Where the room of i begins. -/
def offs (c : Nat → Nat) : Nat → Nat
  | 0 => 0
  | i + 1 => offs c i + c i
theorem offs_mono (c : Nat → Nat) {i j : Nat} (h : i < j) : offs c i + c i ≤ offs c j := by
  induction j with
  | zero => omega
  | succ j ih =>
    simp only [offs]
    by_cases e : i = j
    · subst e; omega
    · have := ih (by omega); omega
theorem offs_congr {c c' : Nat → Nat} (h : ∀ i, c i = c' i) (n : Nat) : offs c n = offs c' n := by
  induction n with
  | zero => rfl
  | succ n ih => simp only [offs]; rw [ih, h]
theorem offs_add (c : Nat → Nat) (a n : Nat) : offs (fun i => if i = a then c i + 1 else c i) n = offs c n + if a < n then 1 else 0 := by
  induction n with
  | zero => simp [offs]
  | succ n ih =>
    simp only [offs]
    rw [ih]
    by_cases e : n = a
    · subst e; simp; omega
    · rw [if_neg e]
      by_cases e2 : a < n
      · simp [e2, show a < n + 1 by omega]; omega
      · have : ¬ a < n + 1 := by omega
        simp [e2, this]
/-- The rooms together are what came. -/
theorem offs_all (N : Nat) (d : List (Nat × Nat)) (h : ∀ x ∈ d, x.1 < N) : offs (cna d) N = d.length := by
  have key : ∀ e : List (Nat × Nat), (∀ x ∈ e, x.1 < N) → offs (cna e.reverse) N = e.length := by
    intro e
    induction e with
    | nil =>
      intro _
      have : ∀ n, offs (cna []) n = 0 := by
        intro n
        induction n with
        | zero => rfl
        | succ n ih => simp only [offs]; rw [ih]; rfl
      simpa using this N
    | cons x e ih =>
      intro hx
      obtain ⟨a, n⟩ := x
      have h1 := ih (fun y hy => hx y (by simp [hy]))
      have ha : a < N := hx (a, n) (by simp)
      rw [List.reverse_cons, offs_congr (cna_snoc e.reverse a n) N, offs_add, h1, if_pos ha]
      simp
  have := key d.reverse (fun x hx => h x (by simpa using hx))
  simpa using this

theorem evs_lt {N : Nat} {l : List Tm} (hb : ∀ t ∈ l, ∀ a ∈ t.args, a < N) : ∀ m, ∀ x ∈ evs l m, x.1 < N := by
  induction l with
  | nil => intro m x hx; simp [evs] at hx
  | cons t l ih =>
    intro m x hx
    simp only [evs, List.mem_append] at hx
    rcases hx with hx | hx
    · simp [evn] at hx
      obtain ⟨a, ha, rfl⟩ := hx
      exact hb t (by simp) a ha
    · exact ih (fun t ht => hb t (by simp [ht])) (m + 1) x hx
theorem evs_len {l : List Tm} (h4 : ∀ t ∈ l, t.args.length ≤ 4) : ∀ m, (evs l m).length ≤ 4 * l.length := by
  induction l with
  | nil => intro m; simp [evs]
  | cons t l ih =>
    intro m
    have h1 := ih (fun t ht => h4 t (by simp [ht])) (m + 1)
    have h2 := h4 t (by simp)
    simp [evs, evn]
    omega

theorem pre_len {l : List Tm} (h4 : ∀ t ∈ l, t.args.length ≤ 4) {n : Nat} {t : Tm} (ht : l[n]? = some t) (k : Nat) : (pre l n t k).length ≤ 4 * l.length := by
  have hn := (List.getElem?_eq_some_iff.1 ht).1
  have h1 := evs_len (l := l.take n) (fun u hu => h4 u (List.mem_of_mem_take hu)) 0
  have h2 := h4 t (List.mem_of_getElem? ht)
  rw [List.length_take, Nat.min_eq_left (Nat.le_of_lt hn)] at h1
  unfold pre
  rw [List.length_append, List.length_map, List.length_take]
  have : min k t.args.length ≤ t.args.length := Nat.min_le_right _ _
  omega
/-- What came ahead is the beginning of all. -/
theorem pre_part {l : List Tm} {n : Nat} {t : Tm} (ht : l[n]? = some t) (k : Nat) : ∃ e, evs l 0 = pre l n t k ++ e := by
  have h1 := List.take_append_drop (n + 1) l
  refine ⟨(t.args.drop k).map (fun a => (a, n)) ++ evs (l.drop (n + 1)) (0 + (l.take (n + 1)).length), ?_⟩
  conv => lhs; rw [← h1]
  rw [evs_app, evs_take ht]
  unfold pre evn
  have h2 : t.args.map (fun a => (a, n)) = (t.args.take k).map (fun a => (a, n)) ++ (t.args.drop k).map (fun a => (a, n)) := by rw [← List.map_append, List.take_append_drop]
  rw [h2]
  simp only [List.append_assoc]
theorem pre_cna {l : List Tm} {n : Nat} {t : Tm} (ht : l[n]? = some t) (k i : Nat) : cna (pre l n t k) i ≤ cna (evs l 0) i := by
  obtain ⟨e, he⟩ := pre_part ht k
  rw [he, cna_app]
  omega

/-- The first uses are as told. -/
theorem usf_uc (l : List Tm) (r n : Nat) : (usf (evs l 0) r).count n = uc l id r n := by
  have key : ∀ (l : List Tm) (m : Nat), (usf (evs l m) r).count n = if m ≤ n then uc l id r (n - m) else 0 := by
    intro l
    induction l with
    | nil => intro m; simp [evs, usf, uc]
    | cons t l ih =>
      intro m
      rw [evs, usf_app, List.count_append, ih (m + 1)]
      have h1 : (usf (evn t m) r).count n = if m = n then t.args.countP (fun a => a == r) else 0 := by
        have : ∀ xs : List Nat, (usf (xs.map (fun a => (a, m))) r).count n = if m = n then xs.countP (fun a => a == r) else 0 := by
          intro xs
          induction xs with
          | nil => simp [usf]
          | cons x xs ih =>
            unfold usf at ih ⊢
            by_cases e : x = r
            · subst e
              by_cases e2 : m = n
              · subst e2; simp at ih ⊢; exact ih
              · simp [e2] at ih ⊢; exact ih
            · have e' : (x == r) = false := beq_eq_false_iff_ne.2 e
              simp only [List.map_cons, List.filter_cons, e', List.countP_cons]
              simpa using ih
        exact this t.args
      rw [h1]
      by_cases e : m = n
      · subst e
        have : ¬ m + 1 ≤ m := by omega
        simp [uc, this]
      · by_cases e2 : m + 1 ≤ n
        · have h3 : n - m = (n - (m + 1)) + 1 := by omega
          simp [e, e2, show m ≤ n by omega, uc, h3]
        · have : ¬ m ≤ n := by omega
          simp [e, e2, this]
  simpa using key l 0

end Go.Proofs.YtlehlgipbhfioaaGreat.Cc

namespace Go.Proofs.YtlehlgipbhfioaaGreat
open Go.RowKit Go.Maps

def fitsB (l : List Tm) (t : Tm) : Bool := match fst l t.name with
  | none => true
  | some i => match l[i]? with
    | none => true
    | some u => decide (u.args.length = t.args.length)

theorem fst_some {l : List Tm} {n : ByteArray} {i : Nat} (h : fst l n = some i) : ∃ u, l[i]? = some u ∧ u.name = n := by
  obtain ⟨hi, hp, _⟩ := List.findIdx?_eq_some_iff_getElem.1 h
  exact ⟨l[i], List.getElem?_eq_getElem hi, of_decide_eq_true hp⟩

/-- The box of an entry. -/
theorem boxed (w : World) (t : Tm) : ∀ j u, (entryL t)[j]? = some u → (w.alloc (.cells (entryL t).toArray 152)).cell? ⟨w.heap.size, j, none⟩ = some u := by
  intro j u hj
  rw [World.cell?_alloc_at _ _ _ _ rfl, List.getElem?_toArray]
  exact hj

set_option maxHeartbeats 400000 in
theorem fits_in (w : World) (base p : Nat) (ev : Value) (nb fb : Nat) (l : List Tm) (h : Bk w base p ev nb fb l) (t : Tm) (ht : t.ok) :
    Calls Tryz.prog 104 #[.pointer (some ⟨p, 0, none⟩), entryV t] w fun e w' => e = .returned (.bool (fitsB l t)) ∧ Bk w' base p ev nb fb l ∧ Kept0 w w' := by
  have c0 := h.c0
  have c2 := h.c2
  have b0 := boxed w t 0 _ rfl
  have b1 := boxed w t 1 _ rfl
  unfold entryV entryL
  unfold entryL at b0 b1
  go_enter Tryz.func104, Tryz.ntmps104
  go_wp2_with fail
  generalize hw1 : w.alloc (Obj.cells #[.string t.name, .int .i64 (t.args.length : Int), .int .i64 (t.arg 0 : Int), .int .i64 (t.arg 1 : Int), .int .i64 (t.arg 2 : Int), .int .i64 (t.arg 3 : Int)] 152) = w1 at b0 b1 ⊢
  have K1 : Kept0 w w1 := hw1 ▸ Kept.alloc (Kept.refl _ w) _
  have H1 := h.kept0 K1
  have c0 := H1.c0
  have c2 := H1.c2
  have LF := fun m => (H1.drewN m).lookF ht.name
  cases hf : fst l t.name with
  | none =>
    rw [hf] at LF
    simp only [Option.getD_none, Option.isSome_none] at LF
    have hB : fitsB l t = true := by simp [fitsB, hf]
    go_quiet (fail)
    go_wp2_with fail
    go_quiet (fail)
    go_wp2_with fail
    go_ret
    exact ⟨ret_bool hB.symm, (H1.drewN _).drewN _, (Kept.drewN K1 _).drewN _⟩
  | some i =>
    rw [hf] at LF
    simp only [Option.getD_some, Option.isSome_some] at LF
    obtain ⟨u, hu, hun⟩ := fst_some hf
    have hil : i < l.length := (List.getElem?_eq_some_iff.1 hu).1
    have hsm := h.small
    have hB : fitsB l t = decide (u.args.length = t.args.length) := by simp [fitsB, hf, hu]
    obtain ⟨g, cap, rfl, hg⟩ := H1.at hu
    have g1 := hg 1 _ rfl
    go_quiet (fail)
    go_wp2_with fail
    go_quiet (fail)
    go_wp2_with fail
    go_ret
    refine ⟨ret_bool ?_, (H1.drewN _).drewN _, (Kept.drewN K1 _).drewN _⟩
    rw [hB, Bool.eq_iff_iff]
    simp
    omega

end Go.Proofs.YtlehlgipbhfioaaGreat

namespace Go.Proofs.YtlehlgipbhfioaaGreat
open Go.RowKit Go.Maps

theorem nix_snoc (l : List Tm) (t u : Tm) : nix (l ++ [t]) u = match nix l u with
    | some i => some i
    | none => if t = u then some l.length else none := by
  unfold nix
  rw [List.findIdx?_append]
  cases h : List.findIdx? (fun x => decide (x = u)) l with
  | some i => rfl
  | none => by_cases e : t = u <;> simp [List.findIdx?_cons, e]

theorem fst_snoc (l : List Tm) (t : Tm) (n : ByteArray) : fst (l ++ [t]) n = match fst l n with
    | some i => some i
    | none => if t.name = n then some l.length else none := by
  unfold fst
  rw [List.findIdx?_append]
  cases h : List.findIdx? (fun x => decide (x.name = n)) l with
  | some i => rfl
  | none => by_cases e : t.name = n <;> simp [List.findIdx?_cons, e]

theorem fst_mem {l : List Tm} {t : Tm} (h : t ∈ l) : ∃ i, fst l t.name = some i := by
  cases hf : fst l t.name with
  | some i => exact ⟨i, rfl⟩
  | none =>
    have := List.findIdx?_eq_none_iff.1 hf t h
    simp at this
theorem isF_snoc (l : List Tm) (t : Tm) {i : Nat} (hi : i < l.length) : isF (l ++ [t]) i = isF l i := by
  unfold isF
  rw [List.getElem?_append_left hi, List.getElem?_eq_getElem hi]
  obtain ⟨k, hk⟩ := fst_mem (List.getElem_mem hi)
  simp only [fst_snoc, hk]
theorem isF_last (l : List Tm) (t : Tm) : isF (l ++ [t]) l.length = (fst l t.name).isNone := by
  unfold isF
  rw [List.getElem?_append_right (Nat.le_refl _)]
  simp only [Nat.sub_self, List.getElem?_cons_zero, fst_snoc]
  cases hf : fst l t.name with
  | none => simp
  | some i =>
    have hlt : i < l.length := (List.findIdx?_eq_some_iff_getElem.1 hf).1
    simp
    omega
theorem cntF_snoc (l : List Tm) (t : Tm) : cntF (l ++ [t]) = cntF l + (if (fst l t.name).isNone then 1 else 0) := by
  unfold cntF
  rw [List.length_append, List.length_singleton, List.range_succ, List.filter_append, List.length_append]
  have e : (List.range l.length).filter (isF (l ++ [t])) = (List.range l.length).filter (isF l) := List.filter_congr (fun i hi => isF_snoc l t (List.mem_range.1 hi))
  rw [e]
  simp only [List.filter_cons, isF_last, List.filter_nil]
  split <;> simp

theorem nix_none {l : List Tm} {t : Tm} (h : nix l t = none) : t ∉ l := by
  intro hm
  have := List.findIdx?_eq_none_iff.1 h t hm
  simp at this

theorem ekey_lit {t : Tm} (ht : t.ok) : ∃ k, ekey t = k ∧ WideAt.IsKeyLit k := by
  have h := ekey_of ht
  generalize ekey t = k at h
  exact ⟨k, rfl, tLaw.key h⟩
theorem skey_lit {n : ByteArray} (h : n.size ≤ 6) : WideAt.IsKeyLit (skey n) := by
  have h := skey_of h
  generalize skey n = k at h
  exact sLaw.key h

theorem nums_snoc {D : DataW Unit} {l : List Tm} {t : Tm} (h : ∀ u : Tm, u.ok → Says D (ekey u) (nix l u)) (hD : IsMap D) (ht : t.ok) (hn : nix l t = none) :
    ∀ u : Tm, u.ok → Says (D.put (ekey t) (.lit (.int .i64 (l.length : Int)))) (ekey u) (nix (l ++ [t]) u) := by
  intro u hu
  by_cases e : t = u
  · subst e
    rw [nix_snoc, hn]
    simp only [if_true]
    obtain ⟨kk, e, hk⟩ := ekey_lit ht
    rw [e]
    exact Says.put_same hD hk l.length
  · have e1 : nix (l ++ [t]) u = nix l u := by
      rw [nix_snoc]
      cases nix l u <;> simp [e]
    rw [e1]
    exact (h u hu).put_other (fun x => e (ekey_inj hu ht x).symm) _

theorem fsts_snoc {D : DataW Unit} {l : List Tm} {t : Tm} (h : ∀ n : ByteArray, n.size ≤ 6 → Says D (skey n) (fst l n)) (hD : IsMap D) (ht : t.ok) (hn : fst l t.name = none) :
    ∀ n : ByteArray, n.size ≤ 6 → Says (D.put (skey t.name) (.lit (.int .i64 (l.length : Int)))) (skey n) (fst (l ++ [t]) n) := by
  intro n hz
  by_cases e : t.name = n
  · subst e
    rw [fst_snoc, hn]
    simp only [if_true]
    exact Says.put_same hD (skey_lit ht.name) l.length
  · have e1 : fst (l ++ [t]) n = fst l n := by
      rw [fst_snoc]
      cases fst l n <;> simp [e]
    rw [e1]
    exact (h n hz).put_other (fun x => e (skey_inj x).symm) _

theorem fsts_kept {D : DataW Unit} {l : List Tm} {t : Tm} (h : ∀ n : ByteArray, n.size ≤ 6 → Says D (skey n) (fst l n)) {i : Nat} (hn : fst l t.name = some i) :
    ∀ n : ByteArray, n.size ≤ 6 → Says D (skey n) (fst (l ++ [t]) n) := by
  intro n hz
  have e1 : fst (l ++ [t]) n = fst l n := by
    rw [fst_snoc]
    cases hf : fst l n with
    | some i => rfl
    | none =>
      have : ¬ t.name = n := fun e => by rw [e] at hn; rw [hn] at hf; cases hf
      simp [this]
  rw [e1]
  exact h n hz

/-- What add makes of a bank; the number that it answers. -/
def addL (l : List Tm) (t : Tm) : List Tm := match nix l t with
  | some _ => l
  | none => l ++ [t]
def addN (l : List Tm) (t : Tm) : Nat := (nix l t).getD l.length

def BFoot (p : Nat) (ev : Value) (nb fb k : Nat) : Prop := k = p ∨ k = nb ∨ k = fb ∨ ev.ownBlock = some k

set_option maxHeartbeats 400000 in
theorem add_old (w : World) (base p : Nat) (ev : Value) (nb fb : Nat) (l : List Tm) (h : Bk w base p ev nb fb l) (t : Tm) (ht : t.ok) (i : Nat) (hi : nix l t = some i) :
    Calls Tryz.prog 105 #[.pointer (some ⟨p, 0, none⟩), entryV t] w fun e w' => e = .returned (.int .i64 (i : Int)) ∧ Bk w' base p ev nb fb l ∧ Kept0 w w' := by
  unfold entryV entryL
  have W1 := boxed w t
  unfold entryL at W1
  have b0 := W1 0 _ rfl
  have b1 := W1 1 _ rfl
  have b2 := W1 2 _ rfl
  have b3 := W1 3 _ rfl
  have b4 := W1 4 _ rfl
  have b5 := W1 5 _ rfl
  clear W1
  go_enter Tryz.func105, Tryz.ntmps105
  go_wp2_with fail
  generalize hw1 : w.alloc (Obj.cells #[.string t.name, .int .i64 (t.args.length : Int), .int .i64 (t.arg 0 : Int), .int .i64 (t.arg 1 : Int), .int .i64 (t.arg 2 : Int), .int .i64 (t.arg 3 : Int)] 152) = w1 at b0 b1 b2 b3 b4 b5 ⊢
  have K1 : Kept0 w w1 := hw1 ▸ Kept.alloc (Kept.refl _ w) _
  have H1 := h.kept0 K1
  have c0 := H1.c0
  have c1 := H1.c1
  have LN := fun m => (H1.drewN m).lookN ht
  rw [hi] at LN
  simp only [Option.getD_some, Option.isSome_some, entryV, entryL] at LN
  go_quiet (fail)
  go_wp2_with fail
  go_ret
  exact ⟨rfl, H1.drewN _, Kept.drewN K1 _⟩

end Go.Proofs.YtlehlgipbhfioaaGreat

namespace Go.Proofs.YtlehlgipbhfioaaGreat
open Go.RowKit

set_option maxHeartbeats 400000 in
theorem New_no (w : World) (n : Int) (h : n < 0 ∨ 100000 < n) :
    Calls Tryz.prog 32 #[.int .i64 n] w fun e w' => e = .returned (.pointer none) ∧ w = w' := by
  rcases h with h | h
  · go_enter Tryz.func32, Tryz.ntmps32
    go_wp2
    go_ret
    exact ⟨rfl, rfl⟩
  · have h' : ¬ n < 0 := by omega
    go_enter Tryz.func32, Tryz.ntmps32
    go_wp2
    go_ret
    exact ⟨rfl, rfl⟩

theorem infoNode : (Tryz.prog.info? 150).map (fun i => (i.zero, i.size, i.bytes)) = some (some (.agg #[.int .i64 0, .int .i64 0, .int .i64 0, .int .i64 0]), 4, 32) := by kernel_rfl

theorem made_row (w : World) (C : Array Value) (t : TypeId) : (w.alloc (.cells C t)).rowIs w.heap.size t C.size (fun i => C[i]?.getD undef) :=
  World.rowIs_alloc w C t _ (fun i hi => by rw [Array.getElem?_eq_getElem hi]; rfl)

theorem box_row (w : World) (x y : Value) (t : TypeId) : (w.alloc (.cells #[x, y] t)).rowIs w.heap.size t 2 (fun j => if j = 0 then x else y) :=
  (made_row w #[x, y] t).congr fun i hi => match i, hi with
    | 0, _ => rfl
    | 1, _ => rfl

theorem new_cells (k : Nat) (f : Nat → Value) (hf : ∀ j, j < k * 4 → f j = nodeC Uf.g0 j) : ∀ j, j < (k + 1) * 4 →
    (if j = k * 4 + 3 then Value.int .i64 (k : Int) else if j = k * 4 + 2 then .int .i64 1 else if j = k * 4 + 1 then .int .i64 (k : Int) else if j = k * 4 then .int .i64 (k : Int) else f j) = nodeC Uf.g0 j := by
  intro j hj
  by_cases h3 : j = k * 4 + 3
  · rw [if_pos h3, h3, nodeC_lst]; rfl
  · by_cases h2 : j = k * 4 + 2
    · rw [if_neg h3, if_pos h2, h2, nodeC_siz]; rfl
    · by_cases h1 : j = k * 4 + 1
      · rw [if_neg h3, if_neg h2, if_pos h1, h1, nodeC_nxt]; rfl
      · by_cases h0 : j = k * 4
        · rw [if_neg h3, if_neg h2, if_neg h1, if_pos h0, h0, nodeC_par]; rfl
        · rw [if_neg h3, if_neg h2, if_neg h1, if_neg h0]; exact hf j (by omega)

set_option maxHeartbeats 400000 in
theorem New_in (w : World) (n : Nat) (hn : n ≤ 100000) :
    Calls Tryz.prog 32 #[.int .i64 n] w fun e w' => e = .returned (.pointer (some ⟨w.heap.size + 1, 0, none⟩)) ∧ Lies w' w.heap.size (w.heap.size + 1) w.heap.size n Uf.g0 (.slice none 0 0) [] ∧ Below w.heap.size w w' := by
  obtain ⟨i0, hi0, hz0, hz1, hz2⟩ := info_parts infoNode
  obtain ⟨C, hC, hm1⟩ : ∃ C : Array Value, C.size = n * 4 ∧ (Instr.makeSlice 145 (.int .i64 (n : Int)) (.int .i64 (n : Int))).run Tryz.prog w = .ok (.slice (some ⟨w.heap.size, 0, none⟩) n n) (w.alloc (.cells C 150)) := by
    have hmk := run_make (P := Tryz.prog) w 145 150 i0 _ Tryz.underlying145 hi0 hz0 .i64 .i64 (n : Int) (n : Int) (by omega) (Int.le_refl _) (by rw [hz2]; omega) (by omega)
    simp only [Int.toNat_natCast] at hmk
    exact ⟨_, by rw [size_madeCells, hz1], hmk⟩
  clear hi0 hz0 hz1 hz2 
  have h0 : ¬ (n : Int) < 0 := by omega
  have h1 : ¬ (100000 : Int) < (n : Int) := by omega
  have HC : Hid (C.size = n * 4) := hC
  clear hC
  go_enter Tryz.func32, Tryz.ntmps32
  go_wp2
  clear hm1 h0 h1
  go_loopw [20] (fun t wr => ∃ k : Nat, k ≤ n ∧ t = .int .i64 k ∧ (∃ f, wr.rowIs w.heap.size 150 (n * 4) f ∧ Hid (∀ j, j < k * 4 → f j = nodeC Uf.g0 j)) ∧ wr.rowIs (w.heap.size + 1) 148 2 (setsC w.heap.size n (.slice none 0 0)) ∧ Hid (Below w.heap.size w wr)) (fun t _ => n - (intOf t).toNat)
  case atStart =>
    refine ⟨0, Nat.zero_le _, rfl, ⟨(fun i => C[i]?.getD undef), ?_, (fun j hj => absurd hj (by omega))⟩, ?_, ?_⟩
    · have := made_row w C 150
      rw [HC.out] at this
      exact this.alloc _
    · have := made_row (w.alloc (.cells C 150)) #[.slice (some ⟨w.heap.size, 0, none⟩) n n, .slice none 0 0] 148
      rw [World.size_alloc] at this
      refine this.congr ?_
      intro i hi
      match i, hi with
      | 0, _ => rfl
      | 1, _ => rfl
    · exact ((Below.refl _ _).alloc (Nat.le_refl _) _).alloc (by simp) _
  case round =>
    obtain ⟨k, hk, rfl, ⟨f, hf, hfk⟩, hs, hB⟩ := hrel
    have c0 : wr.cell? ⟨w.heap.size + 1, 0, none⟩ = some (.slice (some ⟨w.heap.size, 0, none⟩) n n) := hs.cell (by omega)
    have hHf : Hid (wr.rowIs w.heap.size 150 (n * 4) f) := hf
    by_cases hlt : k < n
    · have x0 : wr.cell? ⟨w.heap.size, k * 4, none⟩ = some (f (k * 4)) := hf.cell (by omega)
      have x1 : wr.cell? ⟨w.heap.size, k * 4 + 1, none⟩ = some (f (k * 4 + 1)) := hf.cell (by omega)
      have x2 : wr.cell? ⟨w.heap.size, k * 4 + 2, none⟩ = some (f (k * 4 + 2)) := hf.cell (by omega)
      have x3 : wr.cell? ⟨w.heap.size, k * 4 + 3, none⟩ = some (f (k * 4 + 3)) := hf.cell (by omega)
      have y0 := hf.frozen (k * 4)
      have y1 := hf.frozen (k * 4 + 1)
      have y2 := hf.frozen (k * 4 + 2)
      have y3 := hf.frozen (k * 4 + 3)
      have Hs : Hid (wr.rowIs (w.heap.size + 1) 148 2 (setsC w.heap.size n (.slice none 0 0))) := hs
      clear hf hs
      go_wp2
      go_roundw
      case rel =>
        exact ⟨k + 1, by omega, by go_num, ⟨_, (((hHf.out.set _ _).set _ _).set _ _).set _ _, new_cells k f hfk.out⟩, (((Hs.out.setOther (by show _ ≠ w.heap.size; omega) _).setOther (by show _ ≠ w.heap.size; omega) _).setOther (by show _ ≠ w.heap.size; omega) _).setOther (by show _ ≠ w.heap.size; omega) _, (((hB.out.setCell (Nat.le_refl _) _).setCell (Nat.le_refl _) _).setCell (Nat.le_refl _) _).setCell (Nat.le_refl _) _⟩
      case measure => simp [intOf]; omega
    · clear hf
      go_wp2
      go_ret
      obtain rfl : k = n := by omega
      exact ⟨rfl, ⟨hs, hHf.out.congr hfk.out, World.ownsRow_nil _ _ _ _, by omega, by simp [Value.ownBlock], by simp [Value.ownBlock], by omega, Nat.le_refl _, hn⟩, hB.out⟩

theorem Lies.alloc {w : World} {base p nb n : Nat} {g : Uf.G} {jv : Value} {js : List (Nat × Nat)} (h : Lies w base p nb n g jv js) (O : Obj) : Lies (w.alloc O) base p nb n g jv js :=
  ⟨h.sets.alloc O, h.nodes.alloc O, h.joins.alloc O, h.ne, h.jp, h.jn, h.bp, h.bn, h.small⟩

/-- Nodes whose cells are just integers. -/
def intC (F : Nat → Int) (j : Nat) : Value := .int .i64 (F j)

def cutF (F : Nat → Int) (c r : Nat) (l : Int) (j : Nat) : Int :=
  if j = r * 4 + 3 then l else if j = r * 4 + 2 then wrap64 (F (r * 4 + 2) - F (c * 4 + 2)) else if j = r * 4 + 1 then F (c * 4 + 1) else if j = c * 4 + 1 then F (r * 4 + 1) else if j = c * 4 then (c : Int) else F j

set_option maxHeartbeats 1000000 in
theorem unhang_gen (w : World) (p nb n : Nat) (F : Nat → Int) (c0 : w.cell? ⟨p, 0, none⟩ = some (.slice (some ⟨nb, 0, none⟩) n n)) (hN : w.rowIs nb 150 (n * 4) (intC F)) (_hn : n ≤ 100000) (c r : Nat) (hc : c < n) (hr : r < n) (hne : c ≠ r) (hF : F (c * 4) = (r : Int)) (l : Int) :
    Calls Tryz.prog 115 #[.pointer (some ⟨p, 0, none⟩), .agg #[.int .i64 c, .int .i64 l]] w fun e w' => e = .returned (.tuple #[]) ∧ w'.rowIs nb 150 (n * 4) (intC (cutF F c r l)) ∧ Kept1 nb w w' := by
  have plt := World.block_lt_of_cell? _ _ c0
  simp only at plt
  have nlt := hN.lt
  have x0 : w.cell? ⟨nb, c * 4, none⟩ = some (.int .i64 (r : Int)) := by rw [← hF]; exact hN.cell (by omega)
  have x1 : w.cell? ⟨nb, c * 4 + 1, none⟩ = some (.int .i64 (F (c * 4 + 1))) := hN.cell (by omega)
  have y1 : w.cell? ⟨nb, r * 4 + 1, none⟩ = some (.int .i64 (F (r * 4 + 1))) := hN.cell (by omega)
  have fx0 := hN.frozen (c * 4)
  have fx1 := hN.frozen (c * 4 + 1)
  have fy1 := hN.frozen (r * 4 + 1)
  have e1 : ¬ (c * 4 = r * 4 + 1) := by omega
  have e2 : ¬ (c * 4 + 1 = r * 4 + 1) := by omega
  have e3 : ¬ (c = r) := hne
  have HF : Hid (F (c * 4) = (r : Int)) := hF
  have HN : Hid (w.rowIs nb 150 (n * 4) (intC F)) := hN
  clear hF hN
  obtain ⟨cx, hcx⟩ : ∃ z, F (c * 4 + 1) = z := ⟨_, rfl⟩
  obtain ⟨rx, hrx⟩ : ∃ z, F (r * 4 + 1) = z := ⟨_, rfl⟩
  rw [hcx] at x1
  rw [hrx] at y1
  have HX : Hid (F (c * 4 + 1) = cx ∧ F (r * 4 + 1) = rx) := ⟨hcx, hrx⟩
  clear hcx hrx
  go_enter Tryz.func115, Tryz.ntmps115
  go_wp2_with fail
  go_quiet (fail)
  generalize nq = nq1
  go_wp2_with fail
  go_quiet (fail)
  go_wp2_with fail
  go_region
  have h' := HN.out.alloc (.cells #[.int .i64 (c : Int), .int .i64 l] 220)
  have hbox := box_row w (.int .i64 (c : Int)) (.int .i64 l) 220
  have K0 : Kept1 nb w (w.alloc (.cells #[.int .i64 (c : Int), .int .i64 l] 220)) := (Kept.refl _ w).alloc _
  have hbn : w.heap.size ≠ nb := by omega
  generalize (w.alloc (.cells #[.int .i64 (c : Int), .int .i64 l] 220)) = w0 at *
  generalize hw1 : (((w0.drewN (nq1 + nq + 1)).setCell ⟨nb, c * 4, none⟩ (.int .i64 (c : Int))).setCell ⟨nb, c * 4 + 1, none⟩ (.int .i64 rx)).setCell ⟨nb, r * 4 + 1, none⟩ (.int .i64 cx) = w1
  have R1 : w1.rowIs nb 150 (n * 4) (fun j => if j = r * 4 + 1 then .int .i64 cx else if j = c * 4 + 1 then .int .i64 rx else if j = c * 4 then .int .i64 (c : Int) else intC F j) := by
    rw [← hw1]; exact ((World.rowIs.set (w := w0.drewN (nq1 + nq + 1)) h' _ _).set _ _).set _ _
  have K1 : Kept1 nb w w1 := by
    rw [← hw1]; exact Kept1.set (Kept1.set (Kept1.set (K0.drewN _) _ _) _ _) _ _
  have B1 : w1.rowIs w.heap.size 220 2 (fun j => if j = 0 then .int .i64 (c : Int) else .int .i64 l) := by
    rw [← hw1]; exact ((World.rowIs.setOther (w := w0.drewN (nq1 + nq + 1)) hbox hbn _).setOther hbn _).setOther hbn _
  obtain ⟨cs, hcs⟩ : ∃ z, F (c * 4 + 2) = z := ⟨_, rfl⟩
  obtain ⟨rs, hrs⟩ : ∃ z, F (r * 4 + 2) = z := ⟨_, rfl⟩
  have x2 : w1.cell? ⟨nb, c * 4 + 2, none⟩ = some (.int .i64 cs) := by
    rw [R1.cell (i := c * 4 + 2) (by omega), if_neg (by omega), if_neg (by omega), if_neg (by omega), intC, hcs]
  have y2 : w1.cell? ⟨nb, r * 4 + 2, none⟩ = some (.int .i64 rs) := by
    rw [R1.cell (i := r * 4 + 2) (by omega), if_neg (by omega), if_neg (by omega), if_neg (by omega), intC, hrs]
  have HS : Hid (F (c * 4 + 2) = cs ∧ F (r * 4 + 2) = rs) := ⟨hcs, hrs⟩
  have fy2 := R1.frozen (r * 4 + 2)
  clear x0 x1 y1 fx0 fx1 fy1 hw1 e1 e2 c0 hbox h' K0 hcs hrs HN
  go_wp2_with fail
  go_region
  generalize hw2 : (w1.setCell ⟨nb, r * 4 + 2, none⟩ (.int .i64 (wrap64 (rs - cs)))).drew = w2
  have R2 := (R1.set (r * 4 + 2) (.int .i64 (wrap64 (rs - cs)))).drew
  have K2 := (Kept1.set K1 (r * 4 + 2) (.int .i64 (wrap64 (rs - cs)))).drew
  have B2 := (B1.setOther (a := ⟨nb, r * 4 + 2, none⟩) hbn (.int .i64 (wrap64 (rs - cs)))).drew
  rw [hw2] at R2 K2 B2
  have bl : w2.cell? ⟨w.heap.size, 1, none⟩ = some (.int .i64 l) := B2.cell (i := 1) (by omega)
  have y3 : w2.cell? ⟨nb, r * 4 + 3, none⟩ = some (.int .i64 (F (r * 4 + 3))) := by
    rw [R2.cell (i := r * 4 + 3) (by omega), if_neg (by omega), if_neg (by omega), if_neg (by omega), if_neg (by omega)]; rfl
  have fy3 := R2.frozen (r * 4 + 3)
  clear x2 y2 fy2 hw2 K1 R1 B1 B2
  go_wp2
  have R3 := R2.set (r * 4 + 3) (.int .i64 l)
  have K3 := Kept1.set K2 (r * 4 + 3) (.int .i64 l)
  go_end0
  refine ⟨rfl, R3.congr fun j _ => ?_, K3⟩
  unfold intC cutF
  rw [HX.out.1, HX.out.2, HS.out.1, HS.out.2]
  repeat' split
  all_goals rfl

set_option maxHeartbeats 1000000 in
theorem unhang_self (w : World) (p nb n : Nat) (F : Nat → Int) (c0 : w.cell? ⟨p, 0, none⟩ = some (.slice (some ⟨nb, 0, none⟩) n n)) (hN : w.rowIs nb 150 (n * 4) (intC F)) (_hn : n ≤ 100000) (c : Nat) (hc : c < n) (hF : F (c * 4) = (c : Int)) (l : Int) :
    Calls Tryz.prog 115 #[.pointer (some ⟨p, 0, none⟩), .agg #[.int .i64 c, .int .i64 l]] w fun e w' => e = .returned (.tuple #[]) ∧ (∃ F' : Nat → Int, w'.rowIs nb 150 (n * 4) (intC F') ∧ ∀ i, F' (i * 4) = F (i * 4)) ∧ Kept1 nb w w' := by
  have plt := World.block_lt_of_cell? _ _ c0
  simp only at plt
  have nlt := hN.lt
  have x0 : w.cell? ⟨nb, c * 4, none⟩ = some (.int .i64 (c : Int)) := by rw [← hF]; exact hN.cell (by omega)
  have x1 : w.cell? ⟨nb, c * 4 + 1, none⟩ = some (.int .i64 (F (c * 4 + 1))) := hN.cell (by omega)
  have fx0 := hN.frozen (c * 4)
  have fx1 := hN.frozen (c * 4 + 1)
  have e1 : ¬ (c * 4 = c * 4 + 1) := by omega
  have HF : Hid (F (c * 4) = (c : Int)) := hF
  have HN : Hid (w.rowIs nb 150 (n * 4) (intC F)) := hN
  clear hF hN
  obtain ⟨cx, hcx⟩ : ∃ z, F (c * 4 + 1) = z := ⟨_, rfl⟩
  rw [hcx] at x1
  have HX : Hid (F (c * 4 + 1) = cx) := hcx
  clear hcx
  go_enter Tryz.func115, Tryz.ntmps115
  go_wp2_with fail
  go_quiet (fail)
  generalize nq = nq1
  go_wp2_with fail
  go_quiet (fail)
  go_wp2_with fail
  go_region
  have h' := HN.out.alloc (.cells #[.int .i64 (c : Int), .int .i64 l] 220)
  have hbox := box_row w (.int .i64 (c : Int)) (.int .i64 l) 220
  have K0 : Kept1 nb w (w.alloc (.cells #[.int .i64 (c : Int), .int .i64 l] 220)) := (Kept.refl _ w).alloc _
  have hbn : w.heap.size ≠ nb := by omega
  generalize (w.alloc (.cells #[.int .i64 (c : Int), .int .i64 l] 220)) = w0 at *
  generalize hw1 : (((w0.drewN (nq1 + nq + 1)).setCell ⟨nb, c * 4, none⟩ (.int .i64 (c : Int))).setCell ⟨nb, c * 4 + 1, none⟩ (.int .i64 cx)).setCell ⟨nb, c * 4 + 1, none⟩ (.int .i64 cx) = w1
  have R1 : w1.rowIs nb 150 (n * 4) (fun j => if j = c * 4 + 1 then .int .i64 cx else if j = c * 4 + 1 then .int .i64 cx else if j = c * 4 then .int .i64 (c : Int) else intC F j) := by
    rw [← hw1]; exact ((World.rowIs.set (w := w0.drewN (nq1 + nq + 1)) h' _ _).set _ _).set _ _
  have K1 : Kept1 nb w w1 := by
    rw [← hw1]; exact Kept1.set (Kept1.set (Kept1.set (K0.drewN _) _ _) _ _) _ _
  have B1 : w1.rowIs w.heap.size 220 2 (fun j => if j = 0 then .int .i64 (c : Int) else .int .i64 l) := by
    rw [← hw1]; exact ((World.rowIs.setOther (w := w0.drewN (nq1 + nq + 1)) hbox hbn _).setOther hbn _).setOther hbn _
  have x2 : w1.cell? ⟨nb, c * 4 + 2, none⟩ = some (.int .i64 (F (c * 4 + 2))) := by
    rw [R1.cell (i := c * 4 + 2) (by omega), if_neg (by omega), if_neg (by omega), if_neg (by omega), intC]
  have fy2 := R1.frozen (c * 4 + 2)
  clear x0 x1 fx0 fx1 hw1 e1 c0 hbox h' K0 HN
  go_wp2_with fail
  go_region
  generalize hw2 : (w1.setCell ⟨nb, c * 4 + 2, none⟩ (.int .i64 0)).drew = w2
  have R2 := (R1.set (c * 4 + 2) (.int .i64 0)).drew
  have K2 := (Kept1.set K1 (c * 4 + 2) (.int .i64 0)).drew
  have B2 := (B1.setOther (a := ⟨nb, c * 4 + 2, none⟩) hbn (.int .i64 0)).drew
  rw [hw2] at R2 K2 B2
  have bl : w2.cell? ⟨w.heap.size, 1, none⟩ = some (.int .i64 l) := B2.cell (i := 1) (by omega)
  have y3 : w2.cell? ⟨nb, c * 4 + 3, none⟩ = some (.int .i64 (F (c * 4 + 3))) := by
    rw [R2.cell (i := c * 4 + 3) (by omega), if_neg (by omega), if_neg (by omega), if_neg (by omega), if_neg (by omega)]; rfl
  have fy3 := R2.frozen (c * 4 + 3)
  clear x2 fy2 hw2 K1 R1 B1 B2
  go_wp2
  have R3 := R2.set (c * 4 + 3) (.int .i64 l)
  have K3 := Kept1.set K2 (c * 4 + 3) (.int .i64 l)
  go_end0
  refine ⟨rfl, ⟨fun j => if j = c * 4 + 3 then l else if j = c * 4 + 2 then 0 else if j = c * 4 + 1 then cx else if j = c * 4 + 1 then cx else if j = c * 4 then (c : Int) else F j, R3.congr fun j _ => ?_, fun i => ?_⟩, K3⟩
  · unfold intC
    dsimp only
    repeat' split
    all_goals rfl
  · dsimp only
    by_cases e : i = c
    · subst e; simp only [if_neg (show ¬ i * 4 = i * 4 + 3 by omega), if_neg (show ¬ i * 4 = i * 4 + 2 by omega), if_neg (show ¬ i * 4 = i * 4 + 1 by omega), if_true]; exact HF.out.symm
    · rw [if_neg (by omega), if_neg (by omega), if_neg (by omega), if_neg (by omega), if_neg (by omega)]

theorem unhang_cells (g : Uf.G) (c r : Nat) (hne : c ≠ r) (hc : (g.N c).par = c) (j : Nat) :
    (if j = r * 4 + 3 then .int .i64 ((g.N r).lst : Int) else if j = r * 4 + 2 then .int .i64 ((g.N r).siz : Int) else if j = r * 4 + 1 then .int .i64 ((g.N r).nxt : Int) else if j = c * 4 + 1 then .int .i64 ((g.N c).nxt : Int) else if j = c * 4 then .int .i64 (c : Int) else nodeC (Uf.hang g c r) j) = nodeC g j := by
  rw [← hang_cells g c r hne j]
  by_cases h1 : j = r * 4 + 3
  · rw [if_pos h1, h1, nodeC_lst]
  · by_cases h2 : j = r * 4 + 2
    · rw [if_neg h1, if_pos h2, h2, nodeC_siz]
    · by_cases h3 : j = r * 4 + 1
      · rw [if_neg h1, if_neg h2, if_pos h3, h3, nodeC_nxt]
      · by_cases h4 : j = c * 4 + 1
        · rw [if_neg h1, if_neg h2, if_neg h3, if_pos h4, h4, nodeC_nxt]
        · by_cases h5 : j = c * 4
          · rw [if_neg h1, if_neg h2, if_neg h3, if_neg h4, if_pos h5, h5, nodeC_par, hc]
          · rw [if_neg h1, if_neg h2, if_neg h3, if_neg h4, if_neg h5, if_neg h1, if_neg h2, if_neg h3, if_neg h4, if_neg h5]

theorem wrap64_small (a : Int) (h0 : -1000000 ≤ a) (h1 : a ≤ 1000000) : wrap64 a = a := by unfold wrap64; omega

/-- What a take-back makes of the nodes, whatever they are; and of a join's. -/
structure Cut (n : Nat) (F F' : Nat → Int) (c : Nat) (l : Int) : Prop where
  par : ∀ i, i < n → ∃ q : Nat, q < n ∧ F' (i * 4) = (q : Int)
  good : ∀ (g : Uf.G) (r : Nat), c ≠ r → r < n → (g.N c).par = c → l = ((g.N r).lst : Int) → (g.N r).siz + (g.N c).siz ≤ 100000 → (∀ j, j < n * 4 → intC F j = nodeC (Uf.hang g c r) j) → ∀ j, j < n * 4 → intC F' j = nodeC g j

theorem unhang_any (w : World) (p nb n : Nat) (F : Nat → Int) (c0 : w.cell? ⟨p, 0, none⟩ = some (.slice (some ⟨nb, 0, none⟩) n n)) (hN : w.rowIs nb 150 (n * 4) (intC F)) (hn : n ≤ 100000) (hpar : ∀ i, i < n → ∃ q : Nat, q < n ∧ F (i * 4) = (q : Int)) (c : Nat) (hc : c < n) (l : Int) :
    Calls Tryz.prog 115 #[.pointer (some ⟨p, 0, none⟩), .agg #[.int .i64 c, .int .i64 l]] w fun e w' => e = .returned (.tuple #[]) ∧ (∃ F', w'.rowIs nb 150 (n * 4) (intC F') ∧ Cut n F F' c l) ∧ Kept1 nb w w' := by
  obtain ⟨q, hq, hFq⟩ := hpar c hc
  by_cases e : c = q
  · subst e
    refine (unhang_self w p nb n F c0 hN hn c hc hFq l).mono ?_
    rintro e w' ⟨he, ⟨F', h1, h2⟩, hk⟩
    refine ⟨he, ⟨F', h1, ⟨fun i hi => by rw [h2]; exact hpar i hi, ?_⟩⟩, hk⟩
    intro g r hne hr hcc hl hsz hall
    have := hall (c * 4) (by omega)
    rw [nodeC_par] at this
    simp [intC, hFq, Uf.hang] at this
    omega
  · refine (unhang_gen w p nb n F c0 hN hn c q hc hq e hFq l).mono ?_
    rintro e' w' ⟨he, h1, hk⟩
    refine ⟨he, ⟨_, h1, ⟨?_, ?_⟩⟩, hk⟩
    · intro i hi
      by_cases ei : i = c
      · subst ei
        refine ⟨i, hi, ?_⟩
        unfold cutF
        rw [if_neg (by omega), if_neg (by omega), if_neg (by omega), if_neg (by omega), if_pos rfl]
      · unfold cutF
        rw [if_neg (by omega), if_neg (by omega), if_neg (by omega), if_neg (by omega), if_neg (by omega)]
        exact hpar i hi
    · intro g r hne hr hcc hl hsz hall j hj
      have e0 := hall (c * 4) (by omega)
      rw [nodeC_par] at e0
      simp [intC, hFq, Uf.hang] at e0
      obtain rfl : q = r := by omega
      have e1 := hall (c * 4 + 1) (by omega)
      rw [nodeC_nxt] at e1
      have e2 := hall (c * 4 + 2) (by omega)
      rw [nodeC_siz] at e2
      have f1 := hall (q * 4 + 1) (by omega)
      rw [nodeC_nxt] at f1
      have f2 := hall (q * 4 + 2) (by omega)
      rw [nodeC_siz] at f2
      simp [intC, Uf.hang] at e1 e2
      simp [intC, Uf.hang, Ne.symm hne] at f1 f2
      rw [← unhang_cells g c q hne hcc j, ← hall j hj]
      unfold intC cutF
      rw [e1, e2, f1, f2, hl, wrap64_small _ (by omega) (by omega)]
      rw [show ((g.N q).siz + (g.N c).siz : Int) - ((g.N c).siz : Int) = ((g.N q).siz : Int) from by omega]
      repeat' split
      all_goals rfl

end Go.Proofs.YtlehlgipbhfioaaGreat

namespace Go.Proofs.YtlehlgipbhfioaaGreat
open Go.RowKit

def parserC (bp : Value) (s : ByteArray) (i d : Nat) (j : Nat) : Value := if j = 0 then bp else if j = 1 then .string s else if j = 2 then .int .i64 (i : Int) else .int .u64 (d : Int)

/-- A parser at block r: at byte i, within d brackets and signs. -/
structure Lp (w : World) (r : Nat) (bp : Value) (s : ByteArray) (i d : Nat) : Prop where
  row : w.rowIs r 107 4 (parserC bp s i d)
  le : i ≤ s.size
  small : s.size ≤ 400

theorem Lp.c0 {w : World} {r : Nat} {bp : Value} {s : ByteArray} {i d : Nat} (h : Lp w r bp s i d) : w.cell? ⟨r, 0, none⟩ = some bp := h.row.cell (by omega)
theorem Lp.c1 {w : World} {r : Nat} {bp : Value} {s : ByteArray} {i d : Nat} (h : Lp w r bp s i d) : w.cell? ⟨r, 1, none⟩ = some (.string s) := h.row.cell (i := 1) (by omega)
theorem Lp.c2 {w : World} {r : Nat} {bp : Value} {s : ByteArray} {i d : Nat} (h : Lp w r bp s i d) : w.cell? ⟨r, 2, none⟩ = some (.int .i64 (i : Int)) := h.row.cell (i := 2) (by omega)
theorem Lp.c3 {w : World} {r : Nat} {bp : Value} {s : ByteArray} {i d : Nat} (h : Lp w r bp s i d) : w.cell? ⟨r, 3, none⟩ = some (.int .u64 (d : Int)) := h.row.cell (i := 3) (by omega)
theorem Lp.drewN {w : World} {r : Nat} {bp : Value} {s : ByteArray} {i d : Nat} (h : Lp w r bp s i d) (m : Nat) : Lp (w.drewN m) r bp s i d := ⟨h.row, h.le, h.small⟩
theorem Lp.step {w : World} {r : Nat} {bp : Value} {s : ByteArray} {i d : Nat} (h : Lp w r bp s i d) {k : Nat} (hk : k ≤ s.size) : Lp (w.setCell ⟨r, 2, none⟩ (.int .i64 (k : Int))) r bp s k d :=
  ⟨(h.row.set 2 _).congr (fun j hj => by
    rcases (by omega : j = 0 ∨ j = 1 ∨ j = 2 ∨ j = 3) with rfl | rfl | rfl | rfl <;> simp [parserC]), hk, h.small⟩
theorem Lp.deep {w : World} {r : Nat} {bp : Value} {s : ByteArray} {i d : Nat} (h : Lp w r bp s i d) (e : Nat) : Lp (w.setCell ⟨r, 3, none⟩ (.int .u64 (e : Int))) r bp s i e :=
  ⟨(h.row.set 3 _).congr (fun j hj => by
    rcases (by omega : j = 0 ∨ j = 1 ∨ j = 2 ∨ j = 3) with rfl | rfl | rfl | rfl <;> simp [parserC]), h.le, h.small⟩
theorem Lp.of_block {w w' : World} {r : Nat} {bp : Value} {s : ByteArray} {i d : Nat} (h : Lp w r bp s i d) (hb : w'.heap[r]? = w.heap[r]?) : Lp w' r bp s i d := ⟨h.row.of_block hb, h.le, h.small⟩

set_option maxHeartbeats 1000000 in
/-- The byte that stands here; 0 at the end. -/
theorem next_in (w : World) (r : Nat) (bp : Value) (s : ByteArray) (i d : Nat) (h : Lp w r bp s i d) :
    Calls Tryz.prog 110 #[.pointer (some ⟨r, 0, none⟩)] w fun e w' => e = .returned (.int .u8 (byt s i : Int)) ∧ ∃ m, w' = w.drewN m := by
  have hs := h.small
  have c1 := h.c1
  have c2 := h.c2
  have hle := h.le
  clear h
  go_enter Tryz.func110, Tryz.ntmps110
  by_cases h1 : i < s.size
  · have d2 : ((i : Int) == (s.size : Int)) = false := by simp; omega
    have e2 := byt_lt h1
    go_wp2_with fail
    go_quiet (fail)
    go_wp2_with fail
    go_quiet (fail)
    go_wp2_with fail
    go_ret
    refine ⟨?_, _, World.drewN_drewN _ _ _⟩
    rw [← e2]
    rfl
  · have d2 : ((i : Int) == (s.size : Int)) = true := by simp; omega
    have e2 : byt s i = 0 := by simp [byt, h1]
    go_wp2_with fail
    go_quiet (fail)
    go_wp2_with fail
    go_ret
    exact ⟨by rw [e2]; rfl, _, rfl⟩

theorem next_k (w : World) (r : Nat) (bp : Value) (s : ByteArray) (i d : Nat) (h : Lp w r bp s i d) :
    Calls Tryz.prog 110 #[.pointer (some ⟨r, 0, none⟩)] w fun e w' => e = .returned (.int .u8 (byt s i : Int)) ∧ Kept0 w w' :=
  (next_in w r bp s i d h).mono fun _ _ ⟨h1, m, h2⟩ => ⟨h1, h2 ▸ (Kept.refl _ w).drewN m⟩

theorem Lp.kept0 {w w' : World} {r : Nat} {bp : Value} {s : ByteArray} {i d : Nat} (h : Lp w r bp s i d) (K : Kept0 w w') : Lp w' r bp s i d := h.of_block (K.block _ h.row.lt (fun e => e))

set_option maxHeartbeats 1000000 in
theorem gblanks_in (w : World) (r : Nat) (bp : Value) (s : ByteArray) (i d : Nat) (h : Lp w r bp s i d) :
    Calls Tryz.prog 67 #[.pointer (some ⟨r, 0, none⟩)] w fun e w' => e = .returned (.tuple #[]) ∧ Lp w' r bp s (bl s i) d ∧ Kept1 r w w' := by
  go_enter Tryz.func67, Tryz.ntmps67
  go_wp2_with fail
  go_loopw [] (fun W => ∃ k : Nat, Lp W r bp s k d ∧ Hid (bl s k = bl s i) ∧ Hid (Kept1 r w W)) (fun W => s.size - (match W.cell? ⟨r, 2, none⟩ with | some v => (intOf v).toNat | none => 0))
  case atStart => exact ⟨i, h, rfl, Kept.refl _ w⟩
  case round =>
    obtain ⟨k, hR, hb, hK⟩ := hrel
    have NX := next_k wr r bp s k d hR
    have hle := hR.le
    have hsm := hR.small
    have c2r := hR.c2
    by_cases h1 : k < s.size ∧ byt s k = 32
    · rw [h1.2] at NX
      have STP : Hid (∀ W, Kept0 wr W → Lp (W.setCell ⟨r, 2, none⟩ (.int .i64 ((k : Int) + 1))) r bp s (k + 1) d) := fun W K => by
        have := (hR.kept0 K).step (k := k + 1) (by omega)
        simpa using this
      have HC : Hid (∀ W, Kept0 wr W → W.cell? ⟨r, 2, none⟩ = some (.int .i64 (k : Int)) ∧ W.frozen? ⟨r, 2, none⟩ = false) := fun W K => ⟨(hR.kept0 K).c2, (hR.kept0 K).row.frozen 2⟩
      have hb2 : Hid (bl s (k + 1) = bl s i) := (bl_at h1.1 h1.2).symm.trans hb
      have HC2 : Hid (wr.cell? ⟨r, 2, none⟩ = some (.int .i64 (k : Int))) := c2r
      have hk1 : k < s.size := h1.1
      clear hR h1 hb c2r
      go_wp2_with (go_at_call 110; refine NX.mono ?_; rintro e w3 ⟨rfl, K3⟩; obtain ⟨c2, f2⟩ := HC.out w3 K3)
      refine ⟨⟨k + 1, STP.out w3 K3, hb2, Kept1.set (hK.out.trans (Kept.mono K3 (fun _ _ e => e.elim))) _ _⟩, ?_⟩
      rw [(STP.out w3 K3).c2, HC2.out]
      simp only [intOf]
      omega
    · have e : bl s i = k := hb.symm.trans (bl_end h1)
      have hne : ¬ byt s k = 32 := fun e2 => by
        by_cases h2 : k < s.size
        · exact h1 ⟨h2, e2⟩
        · simp [byt, h2] at e2
      have dne : ((byt s k : Int) == 32) = false := by simp; omega
      have HR : Hid (_ ∧ _) := And.intro hR hK.out
      clear hR hb hK h1 c2r
      generalize byt s k = bk at *
      go_wp2_with (go_at_call 110; refine NX.mono ?_; rintro e w3 ⟨rfl, K3⟩)
      go_end0
      exact ⟨rfl, by rw [e]; exact HR.out.1.kept0 K3, HR.out.2.trans (Kept.mono K3 (fun _ _ e => e.elim))⟩

/-- What refuse panics with. -/
def grefusalV (e p : Int) : Value := .iface 155 (.agg #[.int .i64 e, .int .i64 p])

set_option maxHeartbeats 400000 in
theorem grefuse_any (w : World) (e p : Int) :
    Calls Tryz.prog 69 #[.int .i64 e, .int .i64 p] w fun x w' => x = .panicked [{ v := grefusalV e p, recovered := false }] ∧ w = w' := by
  go_enter Tryz.func69, Tryz.ntmps69
  go_wp2
  exact ⟨rfl, rfl, rfl⟩

end Go.Proofs.YtlehlgipbhfioaaGreat

namespace Go.Proofs.YtlehlgipbhfioaaGreat
open Go.RowKit

set_option maxHeartbeats 1000000 in
theorem must_yes (w : World) (r : Nat) (bp : Value) (s : ByteArray) (i d : Nat) (h : Lp w r bp s i d) (c : Nat) (hst : stands s i c = true) :
    Calls Tryz.prog 112 #[.pointer (some ⟨r, 0, none⟩), .int .u8 (c : Int)] w fun e w' => e = .returned (.tuple #[]) ∧ Lp w' r bp s (bl s (i + 1)) d ∧ Kept1 r w w' := by
  have h1 := of_decide_eq_true hst
  have NX := next_k w r bp s i d h
  rw [h1.2] at NX
  have hsm := h.small
  have HC : Hid (∀ W, Kept0 w W → W.cell? ⟨r, 2, none⟩ = some (.int .i64 (i : Int)) ∧ W.frozen? ⟨r, 2, none⟩ = false) := fun W K => ⟨(h.kept0 K).c2, (h.kept0 K).row.frozen 2⟩
  have STP : Hid (∀ W, Kept0 w W → Lp (W.setCell ⟨r, 2, none⟩ (.int .i64 ((i : Int) + 1))) r bp s (i + 1) d) := fun W K => by
    have := (h.kept0 K).step (k := i + 1) (by omega)
    simpa using this
  have hi1 : i < s.size := h1.1
  have dcc : ((c : Int) != (c : Int)) = false := by simp
  clear h h1 hst
  go_enter Tryz.func112, Tryz.ntmps112
  go_wp2_with (first | (go_at_call 110; refine NX.mono ?_; rintro e w3 ⟨rfl, K3⟩; obtain ⟨c2, f2⟩ := HC.out w3 K3; have BL := gblanks_in _ r bp s (i + 1) d (STP.out w3 K3)) | (go_at_call 67; refine BL.mono ?_; rintro e w4 ⟨rfl, L4, K4⟩))
  go_end0
  exact ⟨rfl, L4, Kept.trans (Kept1.set (Kept.mono K3 (fun _ _ e => e.elim)) _ _) K4⟩

set_option maxHeartbeats 1000000 in
theorem must_no (w : World) (r : Nat) (bp : Value) (s : ByteArray) (i d : Nat) (h : Lp w r bp s i d) (c : Nat) (hc : c ≠ 0) (hst : stands s i c = false) :
    Calls Tryz.prog 112 #[.pointer (some ⟨r, 0, none⟩), .int .u8 (c : Int)] w fun e w' => e = .panicked [{ v := grefusalV 2 (i : Int), recovered := false }] ∧ Kept0 w w' := by
  have hne : byt s i ≠ c := fun e => by
    by_cases h2 : i < s.size
    · rw [stands_true h2 e] at hst; cases hst
    · simp [byt, h2] at e; omega
  have NX := next_k w r bp s i d h
  have HC : Hid (∀ W, Kept0 w W → W.cell? ⟨r, 2, none⟩ = some (.int .i64 (i : Int))) := fun W K => (h.kept0 K).c2
  have dne : ((byt s i : Int) != (c : Int)) = true := by simp; omega
  have hle := h.le
  have hsm := h.small
  clear h hst hne
  generalize byt s i = bi at *
  go_enter Tryz.func112, Tryz.ntmps112
  go_wp2_with (first | (go_at_call 110; refine NX.mono ?_; rintro e w3 ⟨rfl, K3⟩; have c2 := HC.out w3 K3) | (go_at_call 69; refine (grefuse_any _ _ _).mono ?_; rintro e w4 ⟨rfl, rfl⟩))
  exact ⟨rfl, rfl, K3⟩

/-- Is it a byte of a name? -/
def ofNm (c : Nat) : Bool := isLet c || isDig c

set_option maxHeartbeats 1000000 in
theorem ofName_any (w : World) (c : Nat) :
    Calls Tryz.prog 259 #[.int .u8 (c : Int)] w fun e w' => e = .returned (.bool (ofNm c)) ∧ w = w' := by
  go_enter Tryz.func259, Tryz.ntmps259
  by_cases h1 : 97 ≤ c
  · have d1 : decide ((97 : Int) ≤ (c : Int)) = true := decide_eq_true (by omega)
    by_cases h2 : c ≤ 122
    · have d2 : decide ((c : Int) ≤ 122) = true := decide_eq_true (by omega)
      have e : ofNm c = true := by simp [ofNm, isLet, isDig]; omega
      go_wp2_with fail
      go_ret
      exact ⟨ret_bool e.symm, rfl⟩
    · have d2 : decide ((c : Int) ≤ 122) = false := decide_eq_false (by omega)
      have d3 : decide ((48 : Int) ≤ (c : Int)) = true := decide_eq_true (by omega)
      have d4 : decide ((c : Int) ≤ 57) = false := decide_eq_false (by omega)
      have e : ofNm c = false := by simp [ofNm, isLet, isDig]; omega
      go_wp2_with fail
      go_ret
      exact ⟨ret_bool e.symm, rfl⟩
  · have d1 : decide ((97 : Int) ≤ (c : Int)) = false := decide_eq_false (by omega)
    by_cases h3 : 48 ≤ c
    · have d3 : decide ((48 : Int) ≤ (c : Int)) = true := decide_eq_true (by omega)
      by_cases h4 : c ≤ 57
      · have d4 : decide ((c : Int) ≤ 57) = true := decide_eq_true (by omega)
        have e : ofNm c = true := by simp [ofNm, isLet, isDig]; omega
        go_wp2_with fail
        go_ret
        exact ⟨ret_bool e.symm, rfl⟩
      · have d4 : decide ((c : Int) ≤ 57) = false := decide_eq_false (by omega)
        have e : ofNm c = false := by simp [ofNm, isLet, isDig]; omega
        go_wp2_with fail
        go_ret
        exact ⟨ret_bool e.symm, rfl⟩
    · have d3 : decide ((48 : Int) ≤ (c : Int)) = false := decide_eq_false (by omega)
      have e : ofNm c = false := by simp [ofNm, isLet, isDig]; omega
      go_wp2_with fail
      go_ret
      exact ⟨ret_bool e.symm, rfl⟩

end Go.Proofs.YtlehlgipbhfioaaGreat

namespace Go.Proofs.YtlehlgipbhfioaaGreat
open Go.RowKit Go.Shelf

attribute [local go_sem] Oper.semAt_some

set_option maxHeartbeats 1000000 in
theorem Backward_in (F : Fence) (n : Nat) (h5 : F.fn 114) (hro : F.round = none) (a : Option Addr) (len cap : Nat) (w : World) :
    CallsIn F n Tryz.prog 114 #[.slice a len cap] w fun e w' => e = .returned (.func (.func 154) #[] #[.pointer (some ⟨w.heap.size, 0, none⟩)]) ∧ w' = w.alloc (.cells #[.slice a len cap] 146) := by
  refine callsIn_of_wp Tryz.func114 rfl h5 ?_ hro
  simp only [Tryz.ntmps114, List.size_toArray, List.length_cons, List.length_nil, Nat.reduceAdd, Nat.reduceSub, Array.replicate_succ, Array.replicate_zero, List.push_toArray, List.append_toArray, List.nil_append, List.cons_append]
  gi_wp2
  go_ret
  exact ⟨rfl, rfl⟩

/-- What has come, from the last one down. -/
def Down (len : Nat) (pre : List { i : Nat // i < len }) : Prop := ∀ r (h : r < pre.length), (pre[r]).1 + r + 1 = len
theorem Down.nil (len : Nat) : Down len [] := fun r h => by simp at h
theorem Down.snoc {len : Nat} {pre : List { i : Nat // i < len }} (h : Down len pre) (x : { i : Nat // i < len }) (hx : x.1 + pre.length + 1 = len) : Down len (pre ++ [x]) := by
  intro r hr
  by_cases e : r < pre.length
  · rw [List.getElem_append_left e]; exact h r e
  · have : r = pre.length := by simp at hr; omega
    subst this
    simpa using hx

/-- What a round keeps: what lay below n₀, but for the nodes. -/
abbrev KeptN (n₀ nb : Nat) (w w' : World) : Prop := Kept (fun k => k = nb ∨ n₀ ≤ k) w w'

def encJ (js : Nat → Nat × Nat) (x : Nat) : Array Value := #[.int .i64 (x : Int), .agg #[.int .i64 ((js x).1 : Int), .int .i64 ((js x).2 : Int)]]

set_option maxRecDepth 100000 in
set_option maxHeartbeats 2000000 in
theorem Back1_in (F : Fence) (n : Nat) (h7 : F.fn 154) (hro : F.round = none) (hn : 1 ≤ n) (l Bs n₀ nb b off len cap : Nat) (js : Nat → Nat × Nat) (hreach : len ≤ 100000) (hb : b < n₀) (hB : Bs < n₀) (hbn : b ≠ nb) (hBn : Bs ≠ nb) (J Jx : List { i : Nat // i < len } → World → Prop)
    (hY : ∀ pre x W, J pre W → pre.length < len → YieldAt F (n - 1) Tryz.prog l (encJ js x.1) W fun e W' =>
      (e = .returned (.bool true) ∧ J (pre ++ [x]) W' ∧ KeptN n₀ nb W W') ∨ (e = .returned (.bool false) ∧ Jx (pre ++ [x]) W'))
    (W : World) (hn₀ : n₀ ≤ W.heap.size) (hBs : W.cell? ⟨Bs, 0, none⟩ = some (.slice (some ⟨b, off, none⟩) len cap))
    (hc : ∀ j, j < len → W.cell? ⟨b, off + j * 2, none⟩ = some (.int .i64 ((js j).1 : Int)) ∧ W.cell? ⟨b, off + j * 2 + 1, none⟩ = some (.int .i64 ((js j).2 : Int))) (h0 : J [] W) :
    CallsIn F n Tryz.prog 154 #[.func (.yield l) #[] #[], .pointer (some ⟨Bs, 0, none⟩)] W fun e W' => (∃ v, e = .returned v) ∧
      ((∃ ys, (Down len ys ∧ ys.length = len) ∧ J ys W') ∨ (∃ pre, True ∧ Jx pre W')) := by
  refine callsIn_of_wp Tryz.func154 rfl h7 ?_ hro
  simp only [Tryz.ntmps154, List.size_toArray, List.length_cons, List.length_nil, Nat.reduceAdd, Nat.reduceSub, Array.replicate_succ, Array.replicate_zero, List.push_toArray, List.append_toArray, List.nil_append, List.cons_append]
  gi_wp2
  gi_loopw [3] (fun i wr => ∃ pre : List { i : Nat // i < len }, pre.length ≤ len ∧ Down len pre ∧ i = .int .i64 ((len : Int) - 1 - pre.length) ∧ J pre wr ∧ KeptN n₀ nb W wr)
    (fun i _ => (intOf i + 1).toNat)
  case atStart => exact ⟨[], Nat.zero_le _, Down.nil _, by simp, h0, Kept.refl _ _⟩
  case round =>
    obtain ⟨pre, hp, hd, rfl, hJs, hnx⟩ := hrel
    have hBs' : wr.cell? ⟨Bs, 0, none⟩ = some (.slice (some ⟨b, off, none⟩) len cap) := (World.cell?_of_block (a := ⟨Bs, 0, none⟩) (hnx.block Bs (by omega) (by omega))).trans hBs
    by_cases hlt : pre.length < len
    · obtain ⟨k, hk⟩ : ∃ k : Nat, k + pre.length + 1 = len := ⟨len - 1 - pre.length, by omega⟩
      have hkl : k < len := by omega
      obtain ⟨fn, tmps, assign, body, hy, hR⟩ := hY pre ⟨k, hkl⟩ wr hJs hlt
      have e1 : ((len : Int) - 1 - pre.length) = (k : Int) := by omega
      rw [e1]
      have hcx := hc k hkl
      have c1 : wr.cell? ⟨b, off + k * 2, none⟩ = some (.int .i64 ((js k).1 : Int)) := (World.cell?_of_block (a := ⟨b, off + k * 2, none⟩) (hnx.block b (by omega) (by omega))).trans hcx.1
      have c2 : wr.cell? ⟨b, off + k * 2 + 1, none⟩ = some (.int .i64 ((js k).2 : Int)) := (World.cell?_of_block (a := ⟨b, off + k * 2 + 1, none⟩) (hnx.block b (by omega) (by omega))).trans hcx.2
      have HK : Hid (k + pre.length + 1 = len) := hk
      clear hk e1 hcx hc hY hBs
      unfold encJ at hy
      gi_wp2
      refine hR.mono ?_
      rintro e W3 (⟨rfl, hJ3, hk3⟩ | ⟨rfl, hJx3⟩)
      · gi_wp2
        go_roundw
        case rel => exact ⟨pre ++ [⟨k, hkl⟩], by simp; omega, hd.snoc _ HK.out, by have := HK.out; simp; omega, hJ3, hnx.trans (hk3.mono fun x _ hx => hx)⟩
        case measure => simp [intOf]
      · gi_wp2
        refine bodyPost_ret (results_none rfl _ _ _) rfl ?_
        exact ⟨⟨_, rfl⟩, .inr ⟨_, trivial, hJx3⟩⟩
    · have e1 : ((len : Int) - 1 - pre.length) = -1 := by omega
      rw [e1]
      have HE : Hid (pre.length = len) := by show pre.length = len; omega
      clear e1
      gi_wp2
      go_end0
      exact ⟨⟨_, rfl⟩, .inl ⟨_, ⟨hd, HE.out⟩, hJs⟩⟩

set_option maxRecDepth 100000 in
set_option maxHeartbeats 1000000 in
/-- .. at the nil slice: no round. -/
theorem Back1_nil (F : Fence) (n : Nat) (h7 : F.fn 154) (hro : F.round = none) (l Bs : Nat) (J : List { i : Nat // i < 0 } → World → Prop) (W : World) (hBs : W.cell? ⟨Bs, 0, none⟩ = some (.slice none 0 0)) (h0 : J [] W) :
    CallsIn F n Tryz.prog 154 #[.func (.yield l) #[] #[], .pointer (some ⟨Bs, 0, none⟩)] W fun e W' => (∃ v, e = .returned v) ∧ J [] W' := by
  refine callsIn_of_wp Tryz.func154 rfl h7 ?_ hro
  simp only [Tryz.ntmps154, List.size_toArray, List.length_cons, List.length_nil, Nat.reduceAdd, Nat.reduceSub, Array.replicate_succ, Array.replicate_zero, List.push_toArray, List.append_toArray, List.nil_append, List.cons_append]
  gi_wp2
  gi_loopw [3] (fun i wr => i = .int .i64 (-1) ∧ J [] wr) (fun _ _ => 0)
  case atStart => exact ⟨rfl, h0⟩
  case round =>
    obtain ⟨rfl, hJs⟩ := hrel
    gi_wp2
    go_end0
    exact ⟨⟨_, rfl⟩, hJs⟩

/-- The slice value sv holds the joins js, in a block below n₀; or it is nil and there are none. -/
def JoinsAt (n₀ nb : Nat) (W : World) (sv : Value) (len : Nat) (js : Nat → Nat × Nat) : Prop :=
  (sv = .slice none 0 0 ∧ len = 0) ∨ ∃ b off cap, sv = .slice (some ⟨b, off, none⟩) len cap ∧ b < n₀ ∧ b ≠ nb ∧
    ∀ j, j < len → W.cell? ⟨b, off + j * 2, none⟩ = some (.int .i64 ((js j).1 : Int)) ∧ W.cell? ⟨b, off + j * 2 + 1, none⟩ = some (.int .i64 ((js j).2 : Int))

theorem JoinsAt.below {n₀ nb : Nat} {A B : World} (h : Below n₀ A B) {sv : Value} {len : Nat} {js : Nat → Nat × Nat} : JoinsAt n₀ nb A sv len js → JoinsAt n₀ nb B sv len js
  | .inl e => .inl e
  | .inr ⟨b, off, cap, e, hb, hn, hc⟩ => .inr ⟨b, off, cap, e, hb, hn, fun j hj => ⟨(h.cell (p := ⟨b, off + j * 2, none⟩) hb).trans (hc j hj).1, (h.cell (p := ⟨b, off + j * 2 + 1, none⟩) hb).trans (hc j hj).2⟩⟩

theorem Backward_stops (F : Fence) (n : Nat) (h7 : F.fn 154) (hro : F.round = none) (hn : 1 ≤ n) (Bs n₀ nb : Nat) (sv : Value) (len : Nat) (js : Nat → Nat × Nat) (hreach : len ≤ 100000) (w : World) (hBs : Bs < n₀) (hBn : Bs ≠ nb) (hn₀ : n₀ ≤ w.heap.size)
    (hc : w.cell? ⟨Bs, 0, none⟩ = some sv) (hI : JoinsAt n₀ nb w sv len js) :
    SeqStopsK F n Tryz.prog 154 #[.pointer (some ⟨Bs, 0, none⟩)] (fun x : { i : Nat // i < len } => encJ js x.1) (KeptN n₀ nb) (fun ys => Down len ys ∧ ys.length = len) (fun _ => True) len w := fun l J Jx W hW _ _ hY h0 => by
  have hc' := (hW.cell (p := ⟨Bs, 0, none⟩) (by show Bs < _; omega)).trans hc
  rcases hI.below (hW.mono hn₀) with ⟨rfl, rfl⟩ | ⟨b, off, cap, rfl, hb, hbn, hcs⟩
  · exact (Back1_nil F n h7 hro l Bs J W hc' h0).mono fun e W' ⟨he, hj⟩ => ⟨he, .inl ⟨[], ⟨Down.nil _, rfl⟩, hj⟩⟩
  · exact Back1_in F n h7 hro hn l Bs n₀ nb b off len cap js hreach hb hBs hbn hBn J Jx hY W (Nat.le_trans hn₀ hW.size) hc' hcs h0

end Go.Proofs.YtlehlgipbhfioaaGreat

namespace Go.Proofs.YtlehlgipbhfioaaGreat
open Go.RowKit Go.Shelf

attribute [local go_sem] Oper.semAt_some

/-- The nodes' cells as integers. -/
def nodeF (g : Uf.G) (j : Nat) : Int := if j % 4 = 0 then ((g.N (j / 4)).par : Int) else if j % 4 = 1 then ((g.N (j / 4)).nxt : Int) else if j % 4 = 2 then ((g.N (j / 4)).siz : Int) else ((g.N (j / 4)).lst : Int)
theorem nodeF_eq (g : Uf.G) (j : Nat) : intC (nodeF g) j = nodeC g j := rfl

theorem rowIs_own {W W' : World} {b : Nat} {t : TypeId} {n : Nat} {f : Nat → Value} {row : Option Nat} (h : W.rowIs b t n f) (hg : W.grownBy W' row) (hr : ∀ r, row = some r → ∃ o : Obj, W.heap[r]? = some o ∧ o.isCells = false) : W'.rowIs b t n f := by
  refine h.of_block (hg.block b h.lt ?_)
  intro e
  obtain ⟨o, ho, hc⟩ := hr b e.symm
  obtain ⟨c, hb, _⟩ := h
  rw [hb] at ho
  cases ho
  cases hc

theorem joinC_get (js : List (Nat × Nat)) : ∀ i, i < js.length → (joinC js)[i * 2]? = some (.int .i64 ((js[i]?.getD (0, 0)).1 : Int)) ∧ (joinC js)[i * 2 + 1]? = some (.int .i64 ((js[i]?.getD (0, 0)).2 : Int)) := by
  induction js with
  | nil => intro i hi; simp at hi
  | cons x t ih =>
    intro i hi
    cases i with
    | zero => simp [joinC]
    | succ i =>
      have := ih i (by simpa using hi)
      simp only [joinC, List.flatMap_cons] at this ⊢
      rw [show (i + 1) * 2 = i * 2 + 1 + 1 from by omega]
      simpa using this

theorem joinsAt_of {W0 : World} {base p nb n jb cap : Nat} {g : Uf.G} {t : List Uf.Rec} (L2 : Lies W0 base p nb n g (.slice (some ⟨jb, 0, none⟩) t.length cap) (Uf.recs t)) (m off c : Nat) (hm : m ≤ t.length) (hoff : m < t.length → off = m * 2) :
    JoinsAt W0.heap.size nb W0 (.slice (some ⟨jb, off, none⟩) (t.length - m) c) (t.length - m) (fun j => (Uf.recs t)[m + j]?.getD (0, 0)) := by
  have hL := Uf.recs_length t
  have hj0 := L2.joins
  rw [hL] at hj0
  refine .inr ⟨jb, off, c, rfl, (L2.joins.lt jb rfl).2, fun e => L2.jn (by rw [e]; rfl), fun j hj => ?_⟩
  rw [hoff (by omega)]
  have hg := joinC_get (Uf.recs t) (m + j) (by omega)
  have h1 := hj0.cellAt ((m + j) * 2) (by omega)
  have h2 := hj0.cellAt ((m + j) * 2 + 1) (by omega)
  rw [hg.1] at h1
  rw [hg.2] at h2
  rw [show m * 2 + j * 2 = (m + j) * 2 from by omega]
  exact ⟨h1, h2⟩

/-- Between two rounds of Undo. -/
structure Mid (W0 : World) (p nb n Bp len : Nat) (g : Uf.G) (t : List Uf.Rec) (pre : List { i : Nat // i < len }) (W : World) : Prop where
  box : W.rowIs Bp 66 1 (fun _ => .pointer (some ⟨p, 0, none⟩))
  nodes : ∃ F : Nat → Int, W.rowIs nb 150 (n * 4) (intC F) ∧ (∀ i, i < n → ∃ q : Nat, q < n ∧ F (i * 4) = (q : Int)) ∧ (Down len pre → ∀ j, j < n * 4 → intC F j = nodeC (Uf.back g t pre.length) j)
  kept : KeptN W0.heap.size nb W0 W

theorem mid_own (W0 : World) (p nb n Bp len : Nat) (g : Uf.G) (t : List Uf.Rec) : OwnFrom W0.heap.size (Mid W0 p nb n Bp len g t) := by
  intro pre A B row hs hg hr
  have hr' := fun r e => (hr r e).2
  obtain ⟨F, f1, f2, f3⟩ := hs.nodes
  exact ⟨rowIs_own hs.box hg hr', ⟨F, rowIs_own f1 hg hr', f2, f3⟩, hs.kept.grown hg (fun k e => Or.inr (hr k e).1)⟩

theorem keeps_of_kept {nb B : Nat} {W W' : World} (h : Kept1 nb W W') (hb : nb < B) : KeepsFrom B W W' :=
  KeepsFrom.of_grownBy h.grownBy (fun j e => by cases e; exact hb)

theorem keptN_alloc {n₀ nb : Nat} (W : World) (o : Obj) : KeptN n₀ nb W (W.alloc o) := (Kept.refl _ W).alloc o

theorem keptN_b {n₀ nb : Nat} {w : World} (hn : n₀ ≤ w.heap.size) (W : World) (l : Nat) (o o' : Obj) (hl : w.heap.size ≤ l) (_ : W.heap[l]? = some o) (_ : o.isCells = false) (_ : o.isWalk = false) : KeptN n₀ nb W (W.putObj l o') :=
  (Kept.refl _ W).grown (grownBy_putObj' W l o') (fun k e => by cases e; exact Or.inr (by omega))

/-- A round, on what it is handed. -/
theorem mid_step {W0 : World} {p nb n Bp len : Nat} {g : Uf.G} {t : List Uf.Rec} {pre : List { i : Nat // i < len }} {W W' : World} {m : Nat} (hh : Uf.Hist n g t) (hn : n ≤ 100000) (hlen : m + len = t.length) (x : { i : Nat // i < len })
    (hM : Mid W0 p nb n Bp len g t pre W) (F F' : Nat → Int) (c : Nat) (l : Int) (hx : ((Uf.recs t)[m + x.1]?.getD (0, 0)) = (c, l.toNat)) (hl : 0 ≤ l)
    (f3 : Down len pre → ∀ j, j < n * 4 → intC F j = nodeC (Uf.back g t pre.length) j) (hR : W'.rowIs nb 150 (n * 4) (intC F')) (hC : Cut n F F' c l) (hk : Kept1 nb W W') (hB : Bp ≠ nb) :
    Mid W0 p nb n Bp len g t (pre ++ [x]) W' := by
  refine ⟨hM.box.of_block (hk.block Bp hM.box.lt hB), ⟨F', hR, hC.par, ?_⟩, hM.kept.trans (hk.mono fun k _ e => Or.inl e)⟩
  intro hd
  have hpre : Down len pre := by
    intro r hr
    have := hd r (by simp; omega)
    rwa [List.getElem_append_left hr] at this
  have hxr : x.1 + pre.length + 1 = len := by simpa using hd pre.length (by simp)
  have hlt : pre.length < t.length := by omega
  have hget := Uf.recs_get t pre.length hlt
  rw [show t.length - 1 - pre.length = m + x.1 from by omega] at hget
  rw [hget] at hx
  simp at hx
  have hb := Uf.hist_back n pre.length t g hh
  rw [List.drop_eq_getElem_cons hlt] at hb
  have hsucc := Uf.back_succ pre.length t g t[pre.length] (List.getElem?_eq_getElem hlt)
  generalize t[pre.length] = y at hb hsucc hx
  obtain ⟨r, hr, hc, hne, cc, rr, hle, hback, ht⟩ := hb
  have hok := Uf.ok_hist n _ _ ht
  have hf := f3 hpre
  rw [hback] at hf
  rw [List.length_append, List.length_singleton, hsucc]
  obtain ⟨rfl, hl2⟩ := hx
  have hsz := hok.sizes y.child r hc hr hne cc rr
  exact hC.good y.was r hne hr (hok.parroot _ hc cc) (by rw [← hle, hl2]; omega) (by omega) hf

theorem joinC_take (js : List (Nat × Nat)) (m : Nat) : joinC (js.take m) = (joinC js).take (m * 2) := by
  induction js generalizing m with
  | nil => simp [joinC]
  | cons x t ih =>
    cases m with
    | zero => simp [joinC]
    | succ m =>
      have := ih m
      simp only [joinC, List.take_succ_cons, List.flatMap_cons] at this ⊢
      rw [this, show (m + 1) * 2 = m * 2 + 1 + 1 from by omega]
      simp

theorem ownsRow_cut {w w' : World} {base : Nat} {e : TypeId} {size jb cap L m : Nat} {xs : List Value} (h : w.ownsRow base e size (.slice (some ⟨jb, 0, none⟩) L cap) L xs) (hb : w'.heap[jb]? = w.heap[jb]?) (hm : m ≤ L) :
    w'.ownsRow base e size (.slice (some ⟨jb, 0, none⟩) m cap) m (xs.take (m * size)) := by
  refine ⟨by rw [List.length_take, h.1]; exact Nat.min_eq_left (Nat.mul_le_mul_right _ hm), ?_⟩
  rcases h.2 with ⟨e', _⟩ | ⟨g, c, cur, e', h1, h2, h3, h4, h5, h6⟩
  · cases e'
  · simp only [Value.slice.injEq, Option.some.injEq, Addr.mk.injEq, and_true, true_and] at e'
    obtain ⟨rfl, rfl⟩ := e'
    refine .inr ⟨jb, cap, cur, rfl, h1, hb.trans h2, by omega, h4, h5, ?_⟩
    rw [← h6, List.take_take, Nat.min_eq_left (Nat.mul_le_mul_right _ hm)]

theorem undo_fin {w W0 W : World} {base p nb n Bp len jb cap m : Nat} {g : Uf.G} {t : List Uf.Rec} {ys : List { i : Nat // i < len }} (L2 : Lies W0 base p nb n g (.slice (some ⟨jb, 0, none⟩) t.length cap) (Uf.recs t)) (K2 : Kept (fun _ => False) w W0) (hM : Mid W0 p nb n Bp len g t ys W)
    (hd : Down len ys) (hlen : ys.length = len) (hml : m + len = t.length) (D : Nat) (hD : W0.heap.size ≤ D) :
    Lies ((W.setCell ⟨p, 1, none⟩ (.slice (some ⟨jb, 0, none⟩) m cap)).drew.putObj D (.deferred none)) base p nb n (Uf.back g t len) (.slice (some ⟨jb, 0, none⟩) m cap) (Uf.recs (t.drop len)) ∧
      Kept (Foot p nb (.slice (some ⟨jb, 0, none⟩) t.length cap)) w ((W.setCell ⟨p, 1, none⟩ (.slice (some ⟨jb, 0, none⟩) m cap)).drew.putObj D (.deferred none)) := by
  have hjl : jb < W0.heap.size := (L2.joins.lt jb rfl).2
  have hjp : jb ≠ p := fun e => L2.jp (by rw [e]; rfl)
  have hjn : jb ≠ nb := fun e => L2.jn (by rw [e]; rfl)
  have hpl := L2.sets.lt
  have hnl := L2.nodes.lt
  have hG := grownBy_putObj' (W.setCell ⟨p, 1, none⟩ (.slice (some ⟨jb, 0, none⟩) m cap)).drew D (.deferred none)
  have hz : (W.setCell ⟨p, 1, none⟩ (.slice (some ⟨jb, 0, none⟩) m cap)).drew.heap.size = W.heap.size := by simp [World.setCell, World.drew]
  have hWs := hM.kept.size
  have blk : ∀ k, k < W0.heap.size → ((W.setCell ⟨p, 1, none⟩ (.slice (some ⟨jb, 0, none⟩) m cap)).drew.putObj D (.deferred none)).heap[k]? = (W.setCell ⟨p, 1, none⟩ (.slice (some ⟨jb, 0, none⟩) m cap)).heap[k]? := fun k hk =>
    hG.block k (by rw [hz]; omega) (fun e => by cases e; omega)
  have RP : W.rowIs p 148 2 (setsC nb n (.slice (some ⟨jb, 0, none⟩) t.length cap)) := L2.sets.of_block (hM.kept.block p hpl (by have := L2.ne; omega))
  obtain ⟨F, f1, _, f3⟩ := hM.nodes
  have KW : Kept (Foot p nb (.slice (some ⟨jb, 0, none⟩) t.length cap)) w W :=
    (K2.mono fun _ _ e => e.elim).trans (b := W0) ⟨hM.kept.os, hM.kept.tape, hM.kept.output, hM.kept.size, fun k hk hs => hM.kept.block k hk (fun e => by
      rcases e with e | e
      · exact hs (Or.inr (Or.inl e))
      · omega)⟩
  refine ⟨⟨?_, ?_, ?_, L2.ne, ?_, ?_, L2.bp, L2.bn, L2.small⟩, ?_⟩
  · refine ((RP.set 1 _).of_block (blk p hpl)).congr ?_
    intro i hi
    unfold setsC
    by_cases e : i = 0
    · simp [e]
    · rw [if_pos (by omega), if_neg e]
  · refine ((f1.setOther (Ne.symm L2.ne) _).of_block (blk nb hnl)).congr ?_
    intro j hj
    rw [f3 hd j hj, hlen]
  · have hL := Uf.recs_length t
    rw [Uf.recs_length, List.length_drop, show t.length - len = m from by omega, Uf.recs_drop, show t.length - len = m from by omega, joinC_take]
    have hj0 := L2.joins
    rw [hL] at hj0
    refine ownsRow_cut hj0 ?_ (by omega)
    rw [blk jb hjl]
    exact (Below.heap_setCell _ _ _ _ hjp).trans (hM.kept.block jb hjl (by omega))
  · simpa [Value.ownBlock] using hjp
  · simpa [Value.ownBlock] using hjn
  · refine ⟨?_, ?_, ?_, ?_, ?_⟩
    · exact hG.os.trans KW.os
    · exact hG.tape.trans KW.tape
    · exact hG.output.trans KW.output
    · exact Nat.le_trans KW.size (by have := hG.size; rw [hz] at this; exact this)
    · intro k hk hs
      have hk0 : k < W0.heap.size := Nat.lt_of_lt_of_le hk K2.size
      rw [blk k hk0]
      exact (Below.heap_setCell _ _ _ _ (fun e => hs (Or.inl e))).trans (KW.block k hk hs)

set_option maxRecDepth 100000 in
set_option maxHeartbeats 2000000 in
theorem Undo_in (w : World) (base p nb n : Nat) (g : Uf.G) (t : List Uf.Rec) (jb cap : Nat) (h : Lies w base p nb n g (.slice (some ⟨jb, 0, none⟩) t.length cap) (Uf.recs t)) (hh : Uf.Hist n g t) (m : Nat) (hm : m ≤ t.length) :
    CallsIn .wide 6 Tryz.prog 74 #[.pointer (some ⟨p, 0, none⟩), .int .i64 m] w fun e w' => e = .returned (.bool true) ∧
      Lies w' base p nb n (Uf.back g t (t.length - m)) (.slice (some ⟨jb, 0, none⟩) m cap) (Uf.recs (t.drop (t.length - m))) ∧ Kept (Foot p nb (.slice (some ⟨jb, 0, none⟩) t.length cap)) w w' := by
  have hL := Uf.recs_length t
  have c1 := h.c1
  refine callsIn_of_wp_marks Tryz.func74 rfl trivial ?_ rfl
  simp only [Tryz.ntmps74, List.size_toArray, List.length_cons, List.length_nil, Nat.reduceAdd, Nat.reduceSub, Array.replicate_succ, Array.replicate_zero, List.push_toArray, List.append_toArray, List.nil_append, List.cons_append]
  have hn := h.small
  have hok := Uf.ok_hist n t g hh
  have htn := hok.num_le
  have hcap : t.length ≤ cap ∧ cap ≤ maxLen := by
    rcases h.joins.2 with ⟨e, _⟩ | ⟨b, c, cur, e, _, _, h1, h2, _⟩
    · cases e
    · simp only [Value.slice.injEq] at e
      obtain ⟨_, _, rfl⟩ := e
      rw [hL] at h1; exact ⟨h1, h2⟩
  unfold maxLen at hcap
  obtain ⟨hc1, hc2⟩ := hcap
  have hm0 : decide ((m : Int) < 0) = false := by simp
  have hm1 : decide ((t.length : Int) < (m : Int)) = false := by simp; omega
  have hm2 : ¬ t.length < m := by omega
  have plt := h.sets.lt
  obtain ⟨off, hoff, hsl⟩ : ∃ off, (m < t.length → off = m * 2) ∧ ∀ W, (Instr.slice 146 (.slice (some ⟨jb, 0, none⟩) t.length cap) (some (.int .i64 (m : Int))) none none).run Tryz.prog W = .ok (.slice (some ⟨jb, off, none⟩) (t.length - m) (cap - m)) W := by
    refine ⟨if cap = m then 0 else m * 2, fun hlt => if_neg (by omega), fun W => ?_⟩
    have hsz : (sizeOf 220).run Tryz.prog W = .ok 2 W := by
      obtain ⟨i0, hi0, _, hz1, _⟩ := info_parts infoJoin
      simp [sizeOf, typeInfo, hi0, hz1]
    rw [run_slice_l W 146 _ _ _ (by kernel_rfl) .i64 (m : Int) (by omega) (by omega)]
    rw [show Tryz.prog.elem 146 = 220 from by kernel_rfl, hsz]
    simp only [Result.andThen, sliced, Int.toNat_natCast]
    by_cases e : cap = m
    · simp [e]
    · simp [e, Addr.add]
      exact fun h => h.symm
  have Hoff : Hid (m < t.length → off = m * 2) := hoff
  clear hoff
  have HL : Hid ((Uf.recs t).length = t.length) := hL
  clear hL
  gi_wp2_with fail
  refine ⟨trivial, (callsIn_wide.2 (Mark_in _ _ _ _ _ _ _ _ (h.alloc _))).mono ?_⟩
  rintro e w' ⟨rfl, rfl⟩
  rw [HL.out]
  gi_wp2_with fail
  refine ⟨trivial, (Backward_in .wide _ trivial rfl _ _ _ _).mono ?_⟩
  rintro e w' ⟨rfl, rfl⟩
  gi_wp2_with fail
  have hnl := h.nodes.lt
  have hne := h.ne
  have hjp := h.jp
  have hjn := h.jn
  have L2 := (h.alloc (.cells #[.pointer (some ⟨p, 0, none⟩)] 66)).alloc (.cells #[.slice (some ⟨jb, off, none⟩) (t.length - m) (cap - m)] 146)
  have K2 : Kept (fun _ => False) w ((w.alloc (.cells #[.pointer (some ⟨p, 0, none⟩)] 66)).alloc (.cells #[.slice (some ⟨jb, off, none⟩) (t.length - m) (cap - m)] 146)) := ((Kept.refl _ w).alloc _).alloc _
  have B2 : ((w.alloc (.cells #[.pointer (some ⟨p, 0, none⟩)] 66)).alloc (.cells #[.slice (some ⟨jb, off, none⟩) (t.length - m) (cap - m)] 146)).rowIs w.heap.size 66 1 (fun _ => .pointer (some ⟨p, 0, none⟩)) := by
    refine ((made_row w #[.pointer (some ⟨p, 0, none⟩)] 66).congr ?_).alloc _
    intro i hi
    obtain rfl : i = 0 := by simpa using hi
    rfl
  have S2 : ((w.alloc (.cells #[.pointer (some ⟨p, 0, none⟩)] 66)).alloc (.cells #[.slice (some ⟨jb, off, none⟩) (t.length - m) (cap - m)] 146)).cell? ⟨w.heap.size + 1, 0, none⟩ = some (.slice (some ⟨jb, off, none⟩) (t.length - m) (cap - m)) := by
    have := (made_row (w.alloc (.cells #[.pointer (some ⟨p, 0, none⟩)] 66)) #[.slice (some ⟨jb, off, none⟩) (t.length - m) (cap - m)] 146).cell (i := 0) (by simp)
    rw [World.size_alloc] at this
    exact this
  have Z2 : ((w.alloc (.cells #[.pointer (some ⟨p, 0, none⟩)] 66)).alloc (.cells #[.slice (some ⟨jb, off, none⟩) (t.length - m) (cap - m)] 146)).heap.size = w.heap.size + 2 := by simp
  generalize ((w.alloc (.cells #[.pointer (some ⟨p, 0, none⟩)] 66)).alloc (.cells #[.slice (some ⟨jb, off, none⟩) (t.length - m) (cap - m)] 146)) = W0 at *
  have hJA : JoinsAt W0.heap.size nb W0 (.slice (some ⟨jb, off, none⟩) (t.length - m) (cap - m)) (t.length - m) (fun j => (Uf.recs t)[m + j]?.getD (0, 0)) :=
    joinsAt_of L2 m off (cap - m) hm Hoff.out
  refine wpIn_rangeFunc_ownH rfl (by omega) (gf := 154) (lb := #[.pointer (some ⟨w.heap.size + 1, 0, none⟩)]) rfl trivial (enters_of Tryz.func154 (by kernel_rfl) rfl)
    (Backward_stops .wide 5 trivial rfl (by omega) (w.heap.size + 1) W0.heap.size nb _ (t.length - m) (fun j => (Uf.recs t)[m + j]?.getD (0, 0)) (by omega) W0 (by omega) (by omega) (Nat.le_refl _) S2 hJA)
    (fun a b => a.trans (b.mono fun k _ hk => hk)) (keptN_b (Nat.le_refl _)) (Below.refl _ _) (fun _ => rfl)
    (Mid W0 p nb n w.heap.size (t.length - m) g t) (fun _ _ _ => False) (mid_own W0 p nb n w.heap.size (t.length - m) g t) (fun _ _ _ _ _ hs _ _ => hs)
    ?start (fun x a' W => ∃ Bx, W.rowIs Bx 220 2 (fun j => if j = 0 then .int .i64 (((Uf.recs t)[m + x.1]?.getD (0, 0)).1 : Int) else .int .i64 (((Uf.recs t)[m + x.1]?.getD (0, 0)).2 : Int)) ∧ ∃ v6 v24 v25, a' = { tmps := #[.pointer (some ⟨p, 0, none⟩), .int .i64 m, .pointer (some ⟨w.heap.size, 0, none⟩), undef, .bool false, undef, .pointer (some ⟨Bx, 0, none⟩),
          .int .i64 m, .bool false, .bool false, .int .i64 m, .pointer (some ⟨p, 0, none⟩), .int .i64 t.length, .bool false, .bool false, .pointer (some ⟨p, 0, none⟩), .bool false, .pointer (some ⟨p, 0, none⟩), .pointer (some ⟨p, 0, none⟩), .pointer (some ⟨p, 1, none⟩),
          .slice (some ⟨jb, 0, none⟩) t.length cap, .int .i64 m, .slice (some ⟨jb, off, none⟩) (t.length - m) (cap - m), .func (.func 154) #[] #[.pointer (some ⟨w.heap.size + 1, 0, none⟩)], v24, v25, v6, undef, undef, undef, undef, undef, undef, undef, undef, undef, undef, undef], defers := [] }) ?hAx ?assign ?body ?done ?stop
  case start =>
    refine ⟨B2, ⟨nodeF g, L2.nodes, fun i hi => ⟨(g.N i).par, hok.parlt i hi, ?_⟩, fun _ j _ => by simp [Uf.back, nodeF_eq]⟩, Kept.refl _ _⟩
    have := nodeC_par g i
    rw [← nodeF_eq] at this
    simpa [intC] using this
  case hAx =>
    rintro x a' _ A B row ⟨Bx, b1, v6, v24, v25, rfl⟩ hg hr
    exact ⟨Bx, rowIs_own b1 hg (fun r e => (hr r e).2), v6, v24, v25, rfl⟩
  case assign =>
    rintro l pre x W K hM hK
    simp only [encJ]
    gi_wp2
    exact hK _ _ ((KeepsOthers.alloc _ _).from _) (keptN_alloc W _) ((mid_own W0 p nb n w.heap.size (t.length - m) g t).alloc _ hM) ⟨W.heap.size, box_row W _ _ _, _, _, _, rfl⟩
  case body =>
    rintro l pre x a' W hl _ hM ⟨Bx, hBx, v6, v24, v25, rfl⟩ hlt
    obtain ⟨F, f1, f2, f3⟩ := hM.nodes
    have hxl := x.2
    have hcn : ((Uf.recs t)[m + x.1]?.getD (0, 0)).1 < n := Uf.recs_child n t g hh _ (by omega)
    have d0 : W.cell? ⟨w.heap.size, 0, none⟩ = some (.pointer (some ⟨p, 0, none⟩)) := hM.box.cell (by omega)
    have d1 := hBx.cell (i := 0) (by omega)
    have d2 := hBx.cell (i := 1) (by omega)
    have d3 : W.cell? ⟨p, 0, none⟩ = some (.slice (some ⟨nb, 0, none⟩) n n) := (World.cell?_of_block (a := ⟨p, 0, none⟩) (hM.kept.block p (by omega) (by omega))).trans L2.c0
    obtain ⟨c, hc⟩ : ∃ c, ((Uf.recs t)[m + x.1]?.getD (0, 0)).1 = c := ⟨_, rfl⟩
    obtain ⟨le, hle⟩ : ∃ c, ((Uf.recs t)[m + x.1]?.getD (0, 0)).2 = c := ⟨_, rfl⟩
    rw [hc] at hcn
    rw [if_pos rfl, hc] at d1
    rw [if_neg (by omega), hle] at d2
    have HX : Hid ((Uf.recs t)[m + x.1]?.getD (0, 0) = (c, (le : Int).toNat)) := by
      show _ = _
      rw [← hc, ← hle]; simp
    clear hc hle hBx
    gi_wp2_with fail
    refine ⟨trivial, (CallsIn.inRound l (callsIn_wide.2 (unhang_any W p nb n F d3 f1 hn f2 c hcn (le : Int)))).mono ?_⟩
    rintro e W' ⟨rfl, ⟨F', hR, hC⟩, hk⟩
    gi_wp2
    exact ⟨keeps_of_kept hk (by omega), hk.mono fun k _ e => Or.inl e, mid_step hh hn (by omega) x hM F F' c (le : Int) HX.out (by omega) f3 hR hC hk (by omega)⟩
  case done =>
    rintro D ys W hD ⟨hd, hlen⟩ hM hK
    have d0 : W.cell? ⟨w.heap.size, 0, none⟩ = some (.pointer (some ⟨p, 0, none⟩)) := hM.box.cell (by omega)
    have RP : W.rowIs p 148 2 (setsC nb n (.slice (some ⟨jb, 0, none⟩) t.length cap)) := L2.sets.of_block (hM.kept.block p (by omega) (by omega))
    have d1 : W.cell? ⟨p, 1, none⟩ = some (.slice (some ⟨jb, 0, none⟩) t.length cap) := RP.cell (i := 1) (by omega)
    have d2 := RP.frozen 1
    have hmc : (m : Int) ≤ (cap : Int) := by omega
    have fin := undo_fin L2 K2 hM hd hlen (m := m) (by omega) D hD
    clear L2 K2 hM
    gi_wp2_with fail
    refine wpIn_wide.2 ?_
    go_region
    gi_wp2
    have hK' := (KeepsOthers.setCell W ⟨p, 1, none⟩ (.slice (some ⟨jb, 0, none⟩) m cap)).same D _ hK rfl
    refine ⟨by simp, .inl ⟨_, _, rfl, run_takeDeferred (w := (W.setCell ⟨p, 1, none⟩ (.slice (some ⟨jb, 0, none⟩) m cap)).drew) hK', ?_⟩⟩
    exact ⟨_, results_tmp rfl _ _ _, rfl, fin.1, fin.2⟩
  case stop =>
    rintro D c pre W _ _ h _
    exact h.elim

theorem undo_fin_nil {w W0 W : World} {base p nb n : Nat} {g : Uf.G} (L2 : Lies W0 base p nb n g (.slice none 0 0) []) (K2 : Kept (fun _ => False) w W0) (hk : Kept (fun k => W0.heap.size ≤ k) W0 W) (D : Nat) (hD : W0.heap.size ≤ D) :
    Lies ((W.setCell ⟨p, 1, none⟩ (.slice none 0 0)).drew.putObj D (.deferred none)) base p nb n g (.slice none 0 0) [] ∧
      Kept (Foot p nb (.slice none 0 0)) w ((W.setCell ⟨p, 1, none⟩ (.slice none 0 0)).drew.putObj D (.deferred none)) := by
  have hpl := L2.sets.lt
  have hnl := L2.nodes.lt
  have hG := grownBy_putObj' (W.setCell ⟨p, 1, none⟩ (.slice none 0 0)).drew D (.deferred none)
  have hz : (W.setCell ⟨p, 1, none⟩ (.slice none 0 0)).drew.heap.size = W.heap.size := by simp [World.setCell, World.drew]
  have hWs := hk.size
  have blk : ∀ k, k < W0.heap.size → ((W.setCell ⟨p, 1, none⟩ (.slice none 0 0)).drew.putObj D (.deferred none)).heap[k]? = (W.setCell ⟨p, 1, none⟩ (.slice none 0 0)).heap[k]? := fun k hk =>
    hG.block k (by rw [hz]; omega) (fun e => by cases e; omega)
  have RP : W.rowIs p 148 2 (setsC nb n (.slice none 0 0)) := L2.sets.of_block (hk.block p hpl (by omega))
  have RN : W.rowIs nb 150 (n * 4) (nodeC g) := L2.nodes.of_block (hk.block nb hnl (by omega))
  refine ⟨⟨?_, (RN.setOther (Ne.symm L2.ne) _).of_block (blk nb hnl), World.ownsRow_nil _ _ _ _, L2.ne, L2.jp, L2.jn, L2.bp, L2.bn, L2.small⟩, ?_⟩
  · refine ((RP.set 1 _).of_block (blk p hpl)).congr ?_
    intro i hi
    unfold setsC
    by_cases e : i = 0
    · simp [e]
    · rw [if_pos (by omega), if_neg e]
  · refine ⟨hG.os.trans (hk.os.trans K2.os), hG.tape.trans (hk.tape.trans K2.tape), hG.output.trans (hk.output.trans K2.output), ?_, ?_⟩
    · have h1 := hG.size
      rw [hz] at h1
      exact Nat.le_trans K2.size (Nat.le_trans hk.size h1)
    · intro k hkk hs
      have hk0 : k < W0.heap.size := Nat.lt_of_lt_of_le hkk K2.size
      rw [blk k hk0]
      exact (Below.heap_setCell _ _ _ _ (fun e => hs (Or.inl e))).trans ((hk.block k hk0 (by omega)).trans (K2.block k hkk (fun e => e)))

set_option maxRecDepth 100000 in
set_option maxHeartbeats 2000000 in
/-- .. without a join. -/
theorem Undo_nil (w : World) (base p nb n : Nat) (g : Uf.G) (h : Lies w base p nb n g (.slice none 0 0) []) :
    CallsIn .wide 6 Tryz.prog 74 #[.pointer (some ⟨p, 0, none⟩), .int .i64 0] w fun e w' => e = .returned (.bool true) ∧
      Lies w' base p nb n g (.slice none 0 0) [] ∧ Kept (Foot p nb (.slice none 0 0)) w w' := by
  have c1 := h.c1
  refine callsIn_of_wp_marks Tryz.func74 rfl trivial ?_ rfl
  simp only [Tryz.ntmps74, List.size_toArray, List.length_cons, List.length_nil, Nat.reduceAdd, Nat.reduceSub, Array.replicate_succ, Array.replicate_zero, List.push_toArray, List.append_toArray, List.nil_append, List.cons_append]
  have plt := h.sets.lt
  gi_wp2_with fail
  refine ⟨trivial, (callsIn_wide.2 (Mark_in _ _ _ _ _ _ _ _ (h.alloc _))).mono ?_⟩
  rintro e w' ⟨rfl, rfl⟩
  gi_wp2_with fail
  refine ⟨trivial, (Backward_in .wide _ trivial rfl _ _ _ _).mono ?_⟩
  rintro e w' ⟨rfl, rfl⟩
  gi_wp2_with fail
  have L2 := (h.alloc (.cells #[.pointer (some ⟨p, 0, none⟩)] 66)).alloc (.cells #[.slice none 0 0] 146)
  have K2 : Kept (fun _ => False) w ((w.alloc (.cells #[.pointer (some ⟨p, 0, none⟩)] 66)).alloc (.cells #[.slice none 0 0] 146)) := ((Kept.refl _ w).alloc _).alloc _
  have B2 : ((w.alloc (.cells #[.pointer (some ⟨p, 0, none⟩)] 66)).alloc (.cells #[.slice none 0 0] 146)).rowIs w.heap.size 66 1 (fun _ => .pointer (some ⟨p, 0, none⟩)) := by
    refine ((made_row w #[.pointer (some ⟨p, 0, none⟩)] 66).congr ?_).alloc _
    intro i hi
    obtain rfl : i = 0 := by simpa using hi
    rfl
  have S2 : ((w.alloc (.cells #[.pointer (some ⟨p, 0, none⟩)] 66)).alloc (.cells #[.slice none 0 0] 146)).cell? ⟨w.heap.size + 1, 0, none⟩ = some (.slice none 0 0) := by
    have := (made_row (w.alloc (.cells #[.pointer (some ⟨p, 0, none⟩)] 66)) #[.slice none 0 0] 146).cell (i := 0) (by simp)
    rw [World.size_alloc] at this
    exact this
  have Z2 : ((w.alloc (.cells #[.pointer (some ⟨p, 0, none⟩)] 66)).alloc (.cells #[.slice none 0 0] 146)).heap.size = w.heap.size + 2 := by simp
  have hnl := h.nodes.lt
  generalize ((w.alloc (.cells #[.pointer (some ⟨p, 0, none⟩)] 66)).alloc (.cells #[.slice none 0 0] 146)) = W0 at *
  refine wpIn_rangeFunc_ownH rfl (by omega) (gf := 154) (lb := #[.pointer (some ⟨w.heap.size + 1, 0, none⟩)]) rfl trivial (enters_of Tryz.func154 (by kernel_rfl) rfl)
    (Backward_stops .wide 5 trivial rfl (by omega) (w.heap.size + 1) W0.heap.size nb _ 0 (fun _ => (0, 0)) (by omega) W0 (by omega) (by omega) (Nat.le_refl _) S2 (.inl ⟨rfl, rfl⟩))
    (fun a b => a.trans (b.mono fun k _ hk => hk)) (keptN_b (Nat.le_refl _)) (Below.refl _ _) (fun _ => rfl)
    (fun _ W => W.rowIs w.heap.size 66 1 (fun _ => .pointer (some ⟨p, 0, none⟩)) ∧ Kept (fun k => W0.heap.size ≤ k) W0 W) (fun _ _ _ => False)
    (fun _ A B row hs hg hr => ⟨rowIs_own hs.1 hg (fun r e => (hr r e).2), hs.2.grown hg (fun k e => (hr k e).1)⟩) (fun _ _ _ _ _ hs _ _ => hs)
    ⟨B2, Kept.refl _ _⟩ (fun _ _ _ => False) (fun _ _ _ _ _ _ hs _ _ => hs) ?assign ?body ?done ?stop
  case assign =>
    rintro l pre x W K _ _
    exact absurd x.2 (Nat.not_lt_zero _)
  case body =>
    rintro l pre x a' W hl _ _ _ hlt
    exact absurd hlt (Nat.not_lt_zero _)
  case done =>
    rintro D ys W hD ⟨hd, hlen⟩ ⟨hb, hk⟩ hK
    have d0 : W.cell? ⟨w.heap.size, 0, none⟩ = some (.pointer (some ⟨p, 0, none⟩)) := hb.cell (by omega)
    have RP : W.rowIs p 148 2 (setsC nb n (.slice none 0 0)) := L2.sets.of_block (hk.block p (by omega) (by omega))
    have d1 : W.cell? ⟨p, 1, none⟩ = some (.slice none 0 0) := RP.cell (i := 1) (by omega)
    have d2 := RP.frozen 1
    have fin := undo_fin_nil L2 K2 hk D hD
    clear L2 K2 hk RP
    gi_wp2_with fail
    refine wpIn_wide.2 ?_
    go_region
    gi_wp2
    have hK' := (KeepsOthers.setCell W ⟨p, 1, none⟩ (.slice none 0 0)).same D _ hK rfl
    refine ⟨by simp, .inl ⟨_, _, rfl, run_takeDeferred (w := (W.setCell ⟨p, 1, none⟩ (.slice none 0 0)).drew) hK', ?_⟩⟩
    exact ⟨_, results_tmp rfl _ _ _, rfl, fin.1, fin.2⟩
  case stop =>
    rintro D c pre W _ _ h _
    exact h.elim

end Go.Proofs.YtlehlgipbhfioaaGreat

namespace Go.Proofs.YtlehlgipbhfioaaGreat
open Go.RowKit Go.Shelf

set_option maxRecDepth 100000 in
set_option maxHeartbeats 1000000 in
theorem Undo_no (w : World) (base p nb n : Nat) (g : Uf.G) (jv : Value) (js : List (Nat × Nat)) (h : Lies w base p nb n g jv js) (m : Int) (hm : m < 0 ∨ (js.length : Int) < m) :
    Calls Tryz.prog 74 #[.pointer (some ⟨p, 0, none⟩), .int .i64 m] w fun e w' => e = .returned (.bool false) ∧
      Lies w' base p nb n g jv js ∧ Kept (Foot p nb jv) w w' := by
  have hA := h.alloc (.cells #[.pointer (some ⟨p, 0, none⟩)] 66)
  have hK : Kept (Foot p nb jv) w (w.alloc (.cells #[.pointer (some ⟨p, 0, none⟩)] 66)) := (Kept.refl _ w).alloc _
  have MA := Mark_in _ _ _ _ _ _ _ _ hA
  have HA : Hid (_ ∧ _) := ⟨hA, hK⟩
  clear hA hK h
  by_cases h0 : m < 0
  · clear MA
    go_enter Tryz.func74, Tryz.ntmps74
    go_wp2
    go_ret
    exact ⟨rfl, HA.out.1, HA.out.2⟩
  · have h1 : (js.length : Int) < m := by omega
    go_enter Tryz.func74, Tryz.ntmps74
    go_wp2_with fail
    refine MA.mono ?_
    rintro e w' ⟨rfl, rfl⟩
    go_wp2
    go_ret
    exact ⟨rfl, HA.out.1, HA.out.2⟩

/-- A Sets with its joins. -/
structure St (w : World) (base p nb : Nat) (jv : Value) (n : Nat) (g : Uf.G) (t : List Uf.Rec) : Prop where
  lies : Lies w base p nb n g jv (Uf.recs t)
  hist : Uf.Hist n g t
  low : base ≤ w.heap.size

theorem St.ok {w : World} {base p nb n : Nat} {jv : Value} {g : Uf.G} {t : List Uf.Rec} (h : St w base p nb jv n g t) : Uf.Ok n g t.length := Uf.ok_hist n t g h.hist

/-- What Join does. -/
def joins (n : Nat) (g : Uf.G) (a b : Int) : Bool := inB n a && inB n b && !(decide (g.rt a.toNat = g.rt b.toNat))
def joinG (n : Nat) (g : Uf.G) (a b : Int) : Uf.G := if joins n g a b then Uf.hang g (Uf.pick g a.toNat b.toNat).1 (Uf.pick g a.toNat b.toNat).2 else g
def joinT (n : Nat) (g : Uf.G) (t : List Uf.Rec) (a b : Int) : List Uf.Rec := if joins n g a b then ⟨(Uf.pick g a.toNat b.toNat).1, (g.N (Uf.pick g a.toNat b.toNat).2).lst, g⟩ :: t else t

theorem Join_st (w : World) (base p nb : Nat) (jv : Value) (n : Nat) (g : Uf.G) (t : List Uf.Rec) (h : St w base p nb jv n g t) (a b : Int) :
    Calls Tryz.prog 71 #[.pointer (some ⟨p, 0, none⟩), .int .i64 a, .int .i64 b] w fun e w' => e = .returned (.bool (joins n g a b)) ∧ ∃ jv', St w' base p nb jv' n (joinG n g a b) (joinT n g t a b) ∧
      Kept (Foot p nb jv) w w' ∧ (jv'.ownBlock = jv.ownBlock ∨ ∀ k, jv'.ownBlock = some k → w.heap.size ≤ k) := by
  have hok := h.ok
  cases hj : joins n g a b
  · have hno : inB n a = false ∨ inB n b = false ∨ sameB n g a b = true := by
      cases ha : inB n a
      · exact Or.inl rfl
      · cases hb : inB n b
        · exact Or.inr (Or.inl rfl)
        · refine Or.inr (Or.inr ?_)
          simpa [joins, sameB, ha, hb] using hj
    refine (Join_no w base p nb n g jv _ h.lies _ hok a b hno).mono ?_
    rintro e w' ⟨he, rfl⟩
    refine ⟨he, jv, ?_, Kept.refl _ _, Or.inl rfl⟩
    rw [joinG, joinT, hj]
    exact h
  · have h3 : inB n a = true ∧ inB n b = true ∧ g.rt a.toNat ≠ g.rt b.toNat := by
      simp only [joins, Bool.and_eq_true, Bool.not_eq_true', decide_eq_false_iff_not] at hj
      exact ⟨hj.1.1, hj.1.2, hj.2⟩
    obtain ⟨ha, hb, hne⟩ := h3
    obtain ⟨a1, a2⟩ := inB_true ha
    obtain ⟨b1, b2⟩ := inB_true hb
    obtain ⟨i, rfl⟩ := Int.eq_ofNat_of_zero_le a1
    obtain ⟨j, rfl⟩ := Int.eq_ofNat_of_zero_le b1
    have hi : i < n := by omega
    have hjn : j < n := by omega
    rw [Int.toNat_natCast, Int.toNat_natCast] at hne
    have hok' : Uf.Ok n g (Uf.recs t).length := by rw [Uf.recs_length]; exact hok
    refine (Join_yes w base p nb n g jv (Uf.recs t) h.lies hok' i j hi hjn hne h.low).mono ?_
    rintro e w' ⟨he, jv', hL, hK, hloc⟩
    refine ⟨he, jv', ⟨?_, ?_, Nat.le_trans h.low hK.size⟩, hK, hloc⟩
    · rw [joinG, joinT, hj, if_pos rfl, if_pos rfl, Uf.recs_cons, Int.toNat_natCast, Int.toNat_natCast]
      exact hL
    · rw [joinG, joinT, hj, if_pos rfl, if_pos rfl, Int.toNat_natCast, Int.toNat_natCast]
      obtain ⟨p1, p2, p3, p4, p5⟩ := hok.pick i j hi hjn hne
      exact ⟨_, p2, p1, p3, p4, p5, rfl, rfl, h.hist⟩

/-- What Undo does. -/
def undoes (t : List Uf.Rec) (m : Int) : Bool := decide (0 ≤ m ∧ m ≤ t.length)
def undoK (t : List Uf.Rec) (m : Int) : Nat := if undoes t m then t.length - m.toNat else 0

theorem back_zero (g : Uf.G) (t : List Uf.Rec) : Uf.back g t 0 = g := by cases t <;> rfl

theorem Undo_st (w : World) (base p nb : Nat) (jv : Value) (n : Nat) (g : Uf.G) (t : List Uf.Rec) (h : St w base p nb jv n g t) (m : Int) :
    Calls Tryz.prog 74 #[.pointer (some ⟨p, 0, none⟩), .int .i64 m] w fun e w' => e = .returned (.bool (undoes t m)) ∧ ∃ jv', St w' base p nb jv' n (Uf.back g t (undoK t m)) (t.drop (undoK t m)) ∧
      Kept (Foot p nb jv) w w' ∧ jv'.ownBlock = jv.ownBlock := by
  cases hu : undoes t m
  · have hno : m < 0 ∨ ((Uf.recs t).length : Int) < m := by
      rw [Uf.recs_length]
      have := of_decide_eq_false hu
      omega
    refine (Undo_no w base p nb n g jv _ h.lies m hno).mono ?_
    rintro e w' ⟨he, hL, hK⟩
    have hk0 : undoK t m = 0 := by rw [undoK, hu]; rfl
    refine ⟨he, jv, ?_, hK, rfl⟩
    rw [hk0, back_zero]
    exact ⟨hL, h.hist, Nat.le_trans h.low hK.size⟩
  · obtain ⟨h1, h2⟩ : 0 ≤ m ∧ m ≤ t.length := of_decide_eq_true hu
    obtain ⟨k, rfl⟩ := Int.eq_ofNat_of_zero_le h1
    have hk : k ≤ t.length := by omega
    have hk0 : undoK t k = t.length - k := by rw [undoK, hu, if_pos rfl, Int.toNat_natCast]
    rw [hk0]
    rcases h.lies.joins.2 with ⟨rfl, h0⟩ | ⟨jb, cap, cur, rfl, _⟩
    · rw [Uf.recs_length] at h0
      obtain rfl : t = [] := List.eq_nil_of_length_eq_zero h0
      obtain rfl : k = 0 := by simpa using hk
      refine (callsIn_wide.1 (Undo_nil w base p nb n g h.lies)).mono ?_
      rintro e w' ⟨he, hL, hK⟩
      exact ⟨he, _, ⟨hL, h.hist, Nat.le_trans h.low hK.size⟩, hK, rfl⟩
    · have hl := h.lies
      rw [Uf.recs_length] at hl
      refine (callsIn_wide.1 (Undo_in w base p nb n g t jb cap hl h.hist k hk)).mono ?_
      rintro e w' ⟨he, hL, hK⟩
      refine ⟨he, _, ⟨hL, Uf.hist_back n _ t g h.hist, Nat.le_trans h.low hK.size⟩, ?_, rfl⟩
      rw [Uf.recs_length]
      exact hK

theorem New_st (w : World) (n : Nat) (hn : n ≤ 100000) :
    Calls Tryz.prog 32 #[.int .i64 n] w fun e w' => e = .returned (.pointer (some ⟨w.heap.size + 1, 0, none⟩)) ∧ St w' w.heap.size (w.heap.size + 1) w.heap.size (.slice none 0 0) n Uf.g0 [] ∧ Below w.heap.size w w' :=
  (New_in w n hn).mono fun _ _ ⟨he, hL, hB⟩ => ⟨he, ⟨hL, rfl, hB.size⟩, hB⟩

/-- Another Sets is as it was, if the two share no block. -/
theorem St.other {w w' : World} {base p nb n : Nat} {jv : Value} {g : Uf.G} {t : List Uf.Rec} (h : St w base p nb jv n g t) {S : Nat → Prop} (hK : Kept S w w') (hp : ¬ S p) (hn : ¬ S nb) (hj : ∀ k, jv.ownBlock = some k → ¬ S k) : St w' base p nb jv n g t := by
  refine ⟨⟨h.lies.sets.of_block (hK.block p h.lies.sets.lt hp), h.lies.nodes.of_block (hK.block nb h.lies.nodes.lt hn), ?_, h.lies.ne, h.lies.jp, h.lies.jn, h.lies.bp, h.lies.bn, h.lies.small⟩, h.hist, Nat.le_trans h.low hK.size⟩
  refine ⟨h.lies.joins.1, ?_⟩
  rcases h.lies.joins.2 with hn | ⟨b, cap, cur, e, h1, h2, h3⟩
  · exact .inl hn
  · refine .inr ⟨b, cap, cur, e, h1, ?_, h3⟩
    rw [hK.block b (Array.getElem?_eq_some_iff.1 h2).1 (hj b (by rw [e]; rfl))]
    exact h2

theorem St.drewN {w : World} {base p nb n : Nat} {jv : Value} {g : Uf.G} {t : List Uf.Rec} (h : St w base p nb jv n g t) {m : Nat} : St (w.drewN m) base p nb jv n g t := ⟨h.lies.drewN, h.hist, h.low⟩

end Go.Proofs.YtlehlgipbhfioaaGreat
