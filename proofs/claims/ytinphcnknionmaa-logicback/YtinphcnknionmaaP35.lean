/- Package logic: Show: what it writes at a Form; isUnequal, signAt. Package logic: Show: what it goes round with. Formulas, plainly: how many steps, which equalities, which text. What is read is a formula, of few Forms; the bank keeps to what it keeps to. The document's Show of a formula. -/
import Derived.Test.YtinphcnknionmaaLoP
import Derived.Test.YtinphcnknionmaaP09
import Derived.OrdersHeld
import Derived.Deep.RegionHeld3
import Derived.Test.YtinphcnknionmaaLoX
import Derived.Test.YtinphcnknionmaaP29
import Derived.Test.YtinphcnknionmaaP13
namespace Go.Proofs.Ytinphcnknionmaa
open Go.RowKit Go.Shelf

/-- A Not of one Equal. -/
def isUn (x : Lf) : Bool := x.op == 1 && (match x.kids with
  | [k] => k.op == 0
  | _ => false)
/-- What stands behind d Kids. -/
def sgnA (x : Lf) (d : Nat) : List UInt8 :=
  if x.op = 1 then (if d = 0 then [33] else []) else if d = 0 then [40] else if d = x.kids.length then [41] else if x.op = 2 then [38] else if x.op = 3 then [124] else if x.op = 4 then [45, 62] else [63]

set_option maxHeartbeats 1000000 in
set_option maxRecDepth 100000 in
theorem unequal_in (w : World) (t : Lf) (h : Here w t) :
    Calls Try.prog 104 #[.pointer (some ⟨t.b, t.o, none⟩)] w fun e w' => e = .returned (.bool (isUn t)) ∧ w' = w := by
  have c0 := h.cells.c0
  have c3 := h.cells.c3
  obtain ⟨a, cap, hkv, hcap, hk⟩ := h.kidsIn
  rw [hkv] at c3
  by_cases h1 : t.op = 1
  · rw [h1] at c0
    by_cases h2 : t.kids.length = 1
    · obtain ⟨k, hkk⟩ := List.length_eq_one_iff.1 h2
      have hke : t.kids[0]? = some k := by rw [hkk]; rfl
      have hks := (h.kid (k := k) (by rw [hkk]; simp)).cells.c0
      rcases hk with hk | ⟨kb, ko, ha, hk⟩
      · rw [hkk] at hk; cases hk
      · obtain ⟨e1, e2⟩ := hk 0 k hke
        rw [e1, e2] at hks
        simp only [Nat.zero_mul, Nat.add_zero] at hks
        rw [h2, ha] at c3
        by_cases h3 : k.op = 0
        · have hr : isUn t = true := by simp [isUn, h1, hkk, h3]
          rw [h3] at hks
          rw [hr]
          go_enter Try.func104, Try.ntmps104
          go_wp2
          go_ret
          exact ⟨rfl, rfl⟩
        · have hr : isUn t = false := by simp [isUn, h1, hkk, h3]
          have d3 : (k.op == 0) = false := by simpa using h3
          rw [hr]
          go_enter Try.func104, Try.ntmps104
          go_wp2
          go_ret
          exact ⟨rfl, rfl⟩
    · have hr : isUn t = false := by
        unfold isUn
        split
        · rename_i k hkk
          rw [hkk] at h2
          exact absurd rfl h2
        · simp
      have d2 : ((t.kids.length : Int) == 1) = false := by simp; omega
      rw [hr]
      generalize t.kids.length = n at *
      clear hkv
      go_enter Try.func104, Try.ntmps104
      go_wp2
      go_ret
      exact ⟨rfl, rfl⟩
  · have hr : isUn t = false := by simp [isUn, h1]
    have d1 : (t.op == 1) = false := by simpa using h1
    rw [hr]
    generalize t.op = n at *
    go_enter Try.func104, Try.ntmps104
    go_wp2
    go_ret
    exact ⟨rfl, rfl⟩

set_option maxHeartbeats 2000000 in
set_option maxRecDepth 100000 in
theorem signAt_in (w : World) (t : Lf) (h : Here w t) (d : Nat) :
    Calls Try.prog 105 #[.pointer (some ⟨t.b, t.o, none⟩), .int .i64 (d : Int)] w fun e w' => e = .returned (.string ⟨(sgnA t d).toArray⟩) ∧ w' = w := by
  have c0 := h.cells.c0
  have c3 := h.cells.c3
  obtain ⟨a, cap, hkv, hcap, hk⟩ := h.kidsIn
  rw [hkv] at c3
  unfold sgnA
  clear hk hkv hcap h
  generalize t.op = o at *
  generalize t.kids.length = n at *
  by_cases h1 : o = 1
  · subst h1
    by_cases h2 : d = 0
    · subst h2
      simp only [if_pos]
      go_enter Try.func105, Try.ntmps105
      go_wp2
      go_ret
      exact ⟨rfl, rfl⟩
    · have d2 : ((d : Int) == 0) = false := by simp; omega
      rw [if_pos rfl, if_neg h2]
      go_enter Try.func105, Try.ntmps105
      go_wp2
      go_ret
      exact ⟨rfl, rfl⟩
  · have d1 : (o == 1) = false := by simpa using h1
    rw [if_neg h1]
    by_cases h2 : d = 0
    · subst h2
      rw [if_pos rfl]
      go_enter Try.func105, Try.ntmps105
      go_wp2
      go_ret
      exact ⟨rfl, rfl⟩
    · have d2 : ((d : Int) == 0) = false := by simp; omega
      rw [if_neg h2]
      by_cases h3 : d = n
      · subst h3
        rw [if_pos rfl]
        go_enter Try.func105, Try.ntmps105
        go_wp2
        go_ret
        exact ⟨rfl, rfl⟩
      · have d3 : ((d : Int) == (n : Int)) = false := by simp; omega
        rw [if_neg h3]
        by_cases h4 : o = 2
        · subst h4
          rw [if_pos rfl]
          go_enter Try.func105, Try.ntmps105
          go_wp2
          go_ret
          exact ⟨rfl, rfl⟩
        · have d4 : (o == 2) = false := by simpa using h4
          rw [if_neg h4]
          by_cases h5 : o = 3
          · subst h5
            rw [if_pos rfl]
            go_enter Try.func105, Try.ntmps105
            go_wp2
            go_ret
            exact ⟨rfl, rfl⟩
          · have d5 : (o == 3) = false := by simpa using h5
            rw [if_neg h5]
            by_cases h6 : o = 4
            · subst h6
              rw [if_pos rfl]
              go_enter Try.func105, Try.ntmps105
              go_wp2
              go_ret
              exact ⟨rfl, rfl⟩
            · have d6 : (o == 4) = false := by simpa using h6
              rw [if_neg h6]
              go_enter Try.func105, Try.ntmps105
              go_wp2
              go_ret
              exact ⟨rfl, rfl⟩

end Go.Proofs.Ytinphcnknionmaa

namespace Go.Proofs.Ytinphcnknionmaa
open Go.RowKit Go.Shelf

def ofB (l : List UInt8) : ByteArray := ⟨l.toArray⟩
theorem ofB_size (l : List UInt8) : (ofB l).size = l.length := by
  show l.toArray.size = l.length
  simp
theorem cat_len {a c : List UInt8} {x y : ByteArray} {N : Nat} (h : (a ++ (x.data.toList ++ c ++ y.data.toList)).length ≤ N) : a.length + (x.size + c.length + y.size) ≤ N := by
  rw [List.length_append, List.length_append, List.length_append, Array.length_toList, Array.length_toList] at h
  exact h
theorem ofB_cells (l : List UInt8) : Lib.strCells (ofB l) = Lib.byteCells l := by
  rw [Lib.strCells_eq]
  rfl
/-- What the program has written, and the sign it keeps for the next equality. -/
abbrev Sh := List UInt8 × List UInt8
def shS (l : List Tm) (s : Sh) (x : Lf × Nat) : Sh :=
  if x.1.op = 0 then (s.1 ++ ((shwB l x.1.x).data.toList ++ s.2 ++ (shwB l x.1.y).data.toList), [61])
  else if isUn x.1 && x.2 == 0 then (s.1, [33, 61])
  else (s.1 ++ sgnA x.1 x.2, s.2)
def shG (l : List Tm) (xs : List (Lf × Nat)) : Sh := xs.foldl (shS l) ([], [61])

theorem bld_keep {W W' : World} {B b : Nat} {bs : List Value} (h : Bld W B b bs) (hk : ∀ (k : Nat) (c : Array Value) (ty : TypeId) (fz : Nat × Nat), W.heap[k]? = some (Obj.cells c ty fz) → (ty = 119 ∨ ty = 5) → W'.heap[k]? = some (Obj.cells c ty fz)) : Bld W' B b bs := by
  have one : ∀ p, Lib.BuilderAtF 119 5 B b p bs W → Lib.BuilderAtF 119 5 B b p bs W' := by
    rintro p ⟨h1, v, h2, h3, h4⟩
    refine ⟨h1, v, hk _ _ _ _ h2 (Or.inl rfl), ⟨h3.1, ?_⟩, h4⟩
    rcases h3.2 with e | ⟨g, cap, cur, fz, e1, e2, e3, e4⟩
    · exact Or.inl e
    · exact Or.inr ⟨g, cap, cur, fz, e1, e2, hk _ _ _ _ e3 (Or.inr rfl), e4⟩
  rcases h with h | h
  · exact Or.inl (one _ h)
  · exact Or.inr (one _ h)

/-- What Show goes round with. -/
structure ShAt (w W : World) (t : Lf) (p : Nat) (s : Sh) : Prop where
  below : Below w.heap.size w W
  here : Here W t
  bbox : W.rowIs w.heap.size 23 1 (fun _ => .pointer (some ⟨p, 0, none⟩))
  bld : Bld W w.heap.size (w.heap.size + 2) (Lib.byteCells s.1)
  ebox : W.rowIs (w.heap.size + 3) 9 1 (fun _ => .string (ofB s.2))

theorem ShAt.ow {w W W' : World} {B : Nat} {t : Lf} {p : Nat} {s : Sh} (h : ShAt w W t p s) (hO : Ow 210 B W W') (hB : w.heap.size ≤ B) : ShAt w W' t p s := by
  refine ⟨h.below.trans ⟨hO.os, hO.tape, hO.output, hO.size, fun k hk => ?_⟩, h.here.keep (hO.fkeep.toA _), hO.rowIs (by decide) h.bbox, bld_keep h.bld (fun k c ty fz hk hty => hO.same k _ hk (Or.inr ⟨rfl, ?_⟩)), hO.rowIs (by decide) h.ebox⟩
  · cases hh : W.heap[k]? with
    | none =>
      have h1 := Array.getElem?_eq_none_iff.1 hh
      have h2 := h.below.size
      omega
    | some o => exact hO.same k o hh (Or.inl (by omega))
  · rintro ⟨c', ty', fz', e, e'⟩
    cases e
    rcases hty with e | e <;> (rw [e] at e'; cases e')

theorem ShAt.grow {w W W' : World} {t : Lf} {p : Nat} {s : Sh} (h : ShAt w W t p s) (hB : Below W.heap.size W W') : ShAt w W' t p s := by
  have nm : ∀ (k : Nat) (o : Obj), W.heap[k]? = some o → W'.heap[k]? = some o := fun k o hk => (hB.block k (Array.getElem?_eq_some_iff.1 hk).1).trans hk
  refine ⟨h.below.trans (hB.mono h.below.size), h.here.keep (fun k c fz _ hk => nm k _ hk), h.bbox.of_block (hB.block _ h.bbox.lt), bld_keep h.bld (fun k c ty fz hk _ => nm k _ hk), h.ebox.of_block (hB.block _ h.ebox.lt)⟩

/-- A text is written. -/
theorem ShAt.write {w W W' : World} {t : Lf} {p : Nat} {s : Sh} (h : ShAt w W t p s) (K : BKept w.heap.size (w.heap.size + 2) W W') {o : List UInt8} (hb : Bld W' w.heap.size (w.heap.size + 2) (Lib.byteCells o)) : ShAt w W' t p (o, s.2) ∧ (∀ (k : Nat) (o : Obj), W.heap[k]? = some o → (o.isCells = false ∨ OfTy (fun t => t ≠ 5 ∧ t ≠ 119) o) → W'.heap[k]? = some o) := by
  have hbk : ∃ c, W.heap[w.heap.size + 2]? = some (Obj.cells c 119 (0, 0)) := by
    rcases h.bld with ⟨_, v, h2, _⟩ | ⟨_, v, h2, _⟩ <;> exact ⟨_, h2⟩
  have nm : ∀ (k : Nat) (o : Obj), W.heap[k]? = some o → (o.isCells = false ∨ OfTy (fun t => t ≠ 5 ∧ t ≠ 119) o) → W'.heap[k]? = some o := fun k o hk ho => by
    refine K.2 k o hk ?_ ?_
    · rintro e
      cases e
      obtain ⟨c, hc⟩ := hbk
      rw [hk] at hc
      cases hc
      rcases ho with ho | ⟨c', ty, fz, e, e1, e2⟩
      · cases ho
      · cases e; exact e2 rfl
    · rintro c fz rfl
      rcases ho with ho | ⟨c', ty, fz, e, e1, e2⟩
      · cases ho
      · cases e; exact e1 rfl
  refine ⟨⟨h.below.trans K.1, h.here.keep (fun k c fz _ hk => nm k _ hk (Or.inr ⟨c, _, fz, rfl, by decide, by decide⟩)), ?_, hb, ?_⟩, nm⟩
  · obtain ⟨c, h1, h2⟩ := h.bbox
    exact ⟨c, nm _ _ h1 (Or.inr ⟨c, _, _, rfl, by decide, by decide⟩), h2⟩
  · obtain ⟨c, h1, h2⟩ := h.ebox
    exact ⟨c, nm _ _ h1 (Or.inr ⟨c, _, _, rfl, by decide, by decide⟩), h2⟩

/-- Another sign is kept. -/
theorem ShAt.sign {w W : World} {t : Lf} {p : Nat} {s : Sh} (h : ShAt w W t p s) (g : List UInt8) : ShAt w (W.setCell ⟨w.heap.size + 3, 0, none⟩ (.string (ofB g))) t p (s.1, g) ∧ (∀ (k : Nat) (o : Obj), W.heap[k]? = some o → (o.isCells = false ∨ OfTy (fun t => t ≠ 9) o) → (W.setCell ⟨w.heap.size + 3, 0, none⟩ (.string (ofB g))).heap[k]? = some o) := by
  have nm : ∀ (k : Nat) (o : Obj), W.heap[k]? = some o → (o.isCells = false ∨ OfTy (fun t => t ≠ 9) o) → (W.setCell ⟨w.heap.size + 3, 0, none⟩ (.string (ofB g))).heap[k]? = some o := fun k o hk ho => by
    refine (Below.heap_setCell W ⟨w.heap.size + 3, 0, none⟩ _ k ?_).trans hk
    rintro e
    obtain ⟨c, hc, _⟩ := h.ebox
    have e' : k = w.heap.size + 3 := e
    rw [← e', hk] at hc
    cases hc
    rcases ho with ho | ⟨c', ty, fz, e, e1⟩
    · cases ho
    · cases e; exact e1 rfl
  refine ⟨⟨h.below.setCell (p := ⟨w.heap.size + 3, 0, none⟩) (by show w.heap.size ≤ w.heap.size + 3; omega) _, h.here.keep (fun k c fz _ hk => nm k _ hk (Or.inr ⟨c, _, fz, rfl, by decide⟩)), ?_, bld_keep h.bld (fun k c ty fz hk hty => nm k _ hk (Or.inr ⟨c, ty, fz, rfl, ?_⟩)), ?_⟩, nm⟩
  · obtain ⟨c, h1, h2⟩ := h.bbox
    exact ⟨c, nm _ _ h1 (Or.inr ⟨c, _, _, rfl, by decide⟩), h2⟩
  · rcases hty with rfl | rfl <;> decide
  · exact World.rowIs.congr (h.ebox.set 0 _) (fun j hj => by
      have : j = 0 := by omega
      subst this; simp)

end Go.Proofs.Ytinphcnknionmaa

namespace Go.Proofs.Ytinphcnknionmaa

/-- Formulas as they are read. -/
inductive WfF : Fo → Prop where
  | eq (x y : Int) : WfF (.mk 0 x y [])
  | neg (f : Fo) : WfF f → WfF (.mk 1 0 0 [f])
  | two (o : Int) (f g : Fo) : (o = 2 ∨ o = 3 ∨ o = 4) → WfF f → WfF g → WfF (.mk o 0 0 [f, g])

def Fo.op : Fo → Int | .mk op _ _ _ => op
/-- How many steps lead through one. -/
def szF : Fo → Nat
  | .mk op _ _ kids => if op = 0 then 1 else 1 + kids.length + (kids.map szF).sum
/-- Its equalities. -/
def eqF : Fo → List (Int × Int)
  | .mk op x y kids => if op = 0 then [(x, y)] else (kids.map eqF).flatten
def opS (o : Int) : List UInt8 := if o = 2 then [38] else if o = 3 then [124] else [45, 62]
/-- Its text, with this sign for an equality. -/
def shF (l : List Tm) (g : List UInt8) : Fo → List UInt8
  | .mk 0 x y _ => (shwB l x).data.toList ++ g ++ (shwB l y).data.toList
  | .mk _ _ _ [k] => if k.op = 0 then shF l [33, 61] k else 33 :: shF l [61] k
  | .mk o _ _ [a, b] => 40 :: (shF l [61] a ++ opS o ++ shF l [61] b ++ [41])
  | _ => []

theorem Lf.er_op (t : Lf) : t.er.op = t.op := by cases t; simp [Lf.er, Fo.op, Lf.op]
theorem Lf.er_kids {t : Lf} {op x y : Int} {ks : List Fo} (h : t.er = .mk op x y ks) : t.op = op ∧ t.x = x ∧ t.y = y ∧ t.kids.map Lf.er = ks := by
  cases t
  simp [Lf.er] at h
  exact h

theorem sum_wk (t : Lf) (n : Nat) : ∀ d, n = t.ks.length - d → d ≤ t.ks.length → (wk t d).length = 1 + (t.ks.length - d) + ((t.ks.drop d).map fun k => (wk k 0).length).sum := by
  induction n with
  | zero =>
    intro d hn hd
    have : t.ks[d]? = none := List.getElem?_eq_none (by omega)
    rw [wk_end this, List.drop_eq_nil_of_le (by omega), ← hn]
    rfl
  | succ n ih =>
    intro d hn hd
    have hlt : d < t.ks.length := by omega
    rw [wk_step (List.getElem?_eq_getElem hlt), List.length_cons, List.length_append, ih (d + 1) (by omega) (by omega), List.drop_eq_getElem_cons hlt, List.map_cons, List.sum_cons]
    omega
theorem len_wk (t : Lf) : (wk t 0).length = szF t.er := by
  have h0 := sum_wk t t.ks.length 0 (by omega) (by omega)
  rw [h0]
  obtain ⟨b, o, op, x, y, kv, kids⟩ := t
  rw [Lf.er, szF]
  by_cases h : op = 0
  · have : (Lf.mk b o op x y kv kids).ks = [] := by simp [Lf.ks, Lf.op, h]
    rw [this, if_pos h]
    rfl
  · have hks : (Lf.mk b o op x y kv kids).ks = kids := by simp [Lf.ks, Lf.op, Lf.kids, h]
    rw [hks, if_neg h, List.drop_zero, List.map_map, List.length_map]
    have : (kids.map fun k => (wk k 0).length) = kids.map (szF ∘ Lf.er) := List.map_congr_left (fun k hk => len_wk k)
    rw [this]
    omega
termination_by t
decreasing_by
  have := List.sizeOf_lt_of_mem hk
  simp
  omega

theorem eqs_wk (t : Lf) (n : Nat) : ∀ d, n = t.ks.length - d → d ≤ t.ks.length → ((wk t d).filterMap isEnd).filterMap isEq = ((t.ks.drop d).map fun k => ((wk k 0).filterMap isEnd).filterMap isEq).flatten ++ (isEq t).toList := by
  induction n with
  | zero =>
    intro d hn hd
    have hde : d = t.ks.length := by omega
    have : t.ks[d]? = none := List.getElem?_eq_none (by omega)
    rw [wk_end this, List.drop_eq_nil_of_le (by omega)]
    have he : isEnd (t, d) = some t := by simp [isEnd, hde]
    rw [List.filterMap_cons_some he, List.filterMap_nil]
    cases h : isEq t with
    | none => simp [h]
    | some y => simp [h]
  | succ n ih =>
    intro d hn hd
    have hlt : d < t.ks.length := by omega
    have he : isEnd (t, d) = none := by simp [isEnd]; omega
    rw [wk_step (List.getElem?_eq_getElem hlt), List.filterMap_cons_none he, List.filterMap_append, List.filterMap_append, ih (d + 1) (by omega) (by omega), List.drop_eq_getElem_cons hlt, List.map_cons, List.flatten_cons, List.append_assoc]
theorem eqs_er (t : Lf) : eqs t = eqF t.er := by
  have h0 := eqs_wk t t.ks.length 0 (by omega) (by omega)
  unfold eqs es
  rw [h0]
  obtain ⟨b, o, op, x, y, kv, kids⟩ := t
  rw [Lf.er, eqF]
  by_cases h : op = 0
  · have : (Lf.mk b o op x y kv kids).ks = [] := by simp [Lf.ks, Lf.op, h]
    rw [this, if_pos h]
    simp [isEq, Lf.op, Lf.x, Lf.y, h]
  · have hks : (Lf.mk b o op x y kv kids).ks = kids := by simp [Lf.ks, Lf.op, Lf.kids, h]
    have hq : isEq (Lf.mk b o op x y kv kids) = none := by simp [isEq, Lf.op, h]
    rw [hks, if_neg h, List.drop_zero, List.map_map, hq]
    have : (kids.map fun k => ((wk k 0).filterMap isEnd).filterMap isEq) = kids.map (eqF ∘ Lf.er) := List.map_congr_left (fun k hk => eqs_er k)
    rw [this]
    simp
termination_by t
decreasing_by
  have := List.sizeOf_lt_of_mem hk
  simp
  omega

theorem map_one {α β : Type} {f : α → β} {xs : List α} {b : β} (h : xs.map f = [b]) : ∃ a, xs = [a] ∧ f a = b := by
  match xs, h with
  | [a], h => exact ⟨a, rfl, by simpa using h⟩
theorem map_two {α β : Type} {f : α → β} {xs : List α} {b c : β} (h : xs.map f = [b, c]) : ∃ a a', xs = [a, a'] ∧ f a = b ∧ f a' = c := by
  match xs, h with
  | [a, a'], h => exact ⟨a, a', rfl, by simpa using h⟩

theorem wk_one {t k : Lf} (h0 : ¬ t.op = 0) (hk : t.kids = [k]) : wk t 0 = (t, 0) :: (wk k 0 ++ [(t, 1)]) := by
  have hks : t.ks = [k] := by simp [Lf.ks, h0, hk]
  rw [wk_step (k := k) (by rw [hks]; rfl), wk_end (t := t) (d := 0 + 1) (by rw [hks]; rfl)]
theorem wk_two {t a b : Lf} (h0 : ¬ t.op = 0) (hk : t.kids = [a, b]) : wk t 0 = (t, 0) :: (wk a 0 ++ ((t, 1) :: (wk b 0 ++ [(t, 2)]))) := by
  have hks : t.ks = [a, b] := by simp [Lf.ks, h0, hk]
  rw [wk_step (k := a) (by rw [hks]; rfl), wk_step (t := t) (k := b) (d := 0 + 1) (by rw [hks]; rfl), wk_end (t := t) (d := 0 + 1 + 1) (by rw [hks]; rfl)]

theorem sh_wk (l : List Tm) {f : Fo} (hf : WfF f) : ∀ (t : Lf), t.er = f → ∀ (o g : List UInt8), (f.op = 0 ∨ g = [61]) → (wk t 0).foldl (shS l) (o, g) = (o ++ shF l g f, [61]) := by
  induction hf with
  | eq x y =>
    intro t ht o g _
    obtain ⟨h1, h2, h3, h4⟩ := Lf.er_kids ht
    have hks : t.ks[0]? = none := by simp [Lf.ks, h1]
    rw [wk_end hks]
    simp [shS, h1, h2, h3, shF]
  | neg f _ ih =>
    intro t ht o g hg
    obtain ⟨h1, h2, h3, h4⟩ := Lf.er_kids ht
    obtain ⟨k, hk, hke⟩ := map_one h4
    have h0 : ¬ t.op = 0 := by rw [h1]; decide
    have hg' : g = [61] := hg.resolve_left (by simp [Fo.op])
    subst hg'
    rw [wk_one h0 hk, List.foldl_cons, List.foldl_append]
    by_cases hz : f.op = 0
    · have hu : isUn t = true := by
        have : k.op = 0 := by rw [← Lf.er_op, hke]; exact hz
        simp [isUn, h1, hk, this]
      have s1 : shS l (o, [61]) (t, 0) = (o, [33, 61]) := by simp [shS, h0, hu]
      rw [s1, ih k hke o [33, 61] (Or.inl hz), List.foldl_cons, List.foldl_nil]
      simp [shS, hu, sgnA, h1, shF, hz]
    · have hu : isUn t = false := by
        have : ¬ k.op = 0 := by rw [← Lf.er_op, hke]; exact hz
        simp [isUn, hk, this]
      have s1 : shS l (o, [61]) (t, 0) = (o ++ [33], [61]) := by simp [shS, hu, sgnA, h1]
      rw [s1, ih k hke (o ++ [33]) [61] (Or.inr rfl), List.foldl_cons, List.foldl_nil]
      simp [shS, hu, sgnA, h1, shF, hz]
  | two op f g hop _ _ ih1 ih2 =>
    intro t ht o s hs
    obtain ⟨h1, h2, h3, h4⟩ := Lf.er_kids ht
    obtain ⟨a, b, hk, ha, hb⟩ := map_two h4
    have h0 : ¬ t.op = 0 := by rw [h1]; rcases hop with rfl | rfl | rfl <;> decide
    have hop0 : ¬ op = 0 := by rcases hop with rfl | rfl | rfl <;> decide
    have hop1 : ¬ t.op = 1 := by rw [h1]; rcases hop with rfl | rfl | rfl <;> decide
    have hs' : s = [61] := hs.resolve_left (by simpa [Fo.op] using hop0)
    subst hs'
    have hu : isUn t = false := by simp [isUn, hop1]
    have s1 : shS l (o, [61]) (t, 0) = (o ++ [40], [61]) := by simp [shS, h0, hu, sgnA, hop1]
    have s2 : ∀ x, shS l (x, [61]) (t, 1) = (x ++ opS op, [61]) := by
      intro x
      simp only [shS, h0, hu, sgnA, hop1, hk, if_false, Bool.false_and, Bool.false_eq_true]
      rcases hop with rfl | rfl | rfl <;> simp [h1, opS]
    have s3 : ∀ x, shS l (x, [61]) (t, 2) = (x ++ [41], [61]) := by
      intro x
      simp [shS, h0, hu, sgnA, hop1, hk]
    rw [wk_two h0 hk, List.foldl_cons, s1, List.foldl_append, ih1 a ha _ _ (Or.inr rfl), List.foldl_cons, s2, List.foldl_append, ih2 b hb _ _ (Or.inr rfl), List.foldl_cons, List.foldl_nil, s3]
    have : shF l [61] (.mk op 0 0 [f, g]) = 40 :: (shF l [61] f ++ opS op ++ shF l [61] g ++ [41]) := by
      rcases hop with rfl | rfl | rfl <;> simp [shF]
    rw [this]
    simp

theorem shG_er (l : List Tm) {t : Lf} (hf : WfF t.er) : (shG l (wk t 0)).1 = shF l [61] t.er := by
  unfold shG
  rw [sh_wk l hf t rfl [] [61] (Or.inr rfl)]
  simp

theorem shS_len (l : List Tm) (s : Sh) (x : Lf × Nat) : s.1.length ≤ (shS l s x).1.length := by
  unfold shS
  split
  · simp
  · split
    · exact Nat.le_refl _
    · simp
theorem foldl_len (l : List Tm) (xs : List (Lf × Nat)) : ∀ s, s.1.length ≤ (xs.foldl (shS l) s).1.length := by
  induction xs with
  | nil => intro s; exact Nat.le_refl _
  | cons x xs ih => intro s; exact Nat.le_trans (shS_len l s x) (ih _)
theorem shG_take (l : List Tm) (xs : List (Lf × Nat)) (i : Nat) : (shG l (xs.take i)).1.length ≤ (shG l xs).1.length := by
  have h : shG l xs = (xs.drop i).foldl (shS l) (shG l (xs.take i)) := by
    unfold shG
    rw [← List.foldl_append, List.take_append_drop]
  rw [h]
  exact foldl_len l _ _

end Go.Proofs.Ytinphcnknionmaa

namespace Go.Proofs.Ytinphcnknionmaa

theorem szF_eq (a b : Int) : szF (.eq a b) = 1 := by simp [Fo.eq, szF]
theorem szF_neg (f : Fo) : szF (.neg f) = szF f + 2 := by simp [Fo.neg, szF]; omega
theorem szF_two (o : Int) (ho : o = 2 ∨ o = 3 ∨ o = 4) (f g : Fo) : szF (.two o f g) = szF f + szF g + 3 := by
  have h0 : ¬ o = 0 := by rcases ho with rfl | rfl | rfl <;> decide
  simp [Fo.two, szF, h0]
  omega
theorem wf_neg {f : Fo} (h : WfF f) : WfF (.neg f) := .neg f h
theorem wf_two {o : Int} (ho : o = 2 ∨ o = 3 ∨ o = 4) {f g : Fo} (h : WfF f) (k : WfF g) : WfF (.two o f g) := .two o f g ho h k
theorem opn_or (lev : Nat) : opn lev = 2 ∨ opn lev = 3 ∨ opn lev = 4 := by
  unfold opn
  split
  · exact Or.inr (Or.inl rfl)
  · exact Or.inl rfl

theorem lTerm_kp {s : ByteArray} {i : Nat} {l : List Tm} (h : Kp l) : Kp (lTerm s i l).list := by
  unfold lTerm
  split <;> exact h.read _

def NiceR (i : Nat) : Res Fo → Prop
  | .ok a k l => WfF a ∧ szF a + 3 * i ≤ 3 * k ∧ Kp l
  | .bad _ _ l => Kp l

theorem gEqu_nice {s : ByteArray} {i : Nat} {l : List Tm} (hi : i ≤ s.size) (h : Kp l) : NiceR i (gEqu s i l) := by
  unfold gEqu
  have k1 := lTerm_kp (s := s) (i := i) h
  cases h1 : lTerm s i l with
  | bad e p l1 => rw [h1] at k1; exact k1
  | ok a k l1 =>
    rw [h1] at k1
    obtain ⟨b1, b2⟩ := lTerm_ok hi h1
    simp only [Res.bind]
    have hq1 : k ≤ (if byt s k = 33 then k + 1 else k) := by split <;> omega
    have hq2 : byt s k = 33 → (if byt s k = 33 then k + 1 else k) = k + 1 := fun h => if_pos h
    generalize (if byt s k = 33 then k + 1 else k) = q at hq1 hq2 ⊢
    cases hs : stands s q 61 with
    | false => simp only [Bool.false_eq_true, if_false]; exact k1
    | true =>
      simp only [if_true]
      have hk := (of_decide_eq_true hs).1
      have hbl := bl_le (s := s) (i := q + 1) (by omega)
      have hbg := bl_ge s (q + 1)
      have k2 := lTerm_kp (s := s) (i := bl s (q + 1)) (l := l1) k1
      cases h2 : lTerm s (bl s (q + 1)) l1 with
      | bad e p l2 => rw [h2] at k2; exact k2
      | ok b k3 l2 =>
        rw [h2] at k2
        obtain ⟨c1, c2⟩ := lTerm_ok hbl h2
        simp only
        by_cases h33 : byt s k = 33
        · rw [if_pos h33]
          have := hq2 h33
          refine ⟨wf_neg (.eq _ _), ?_, k2⟩
          rw [szF_neg, szF_eq]
          omega
        · rw [if_neg h33]
          refine ⟨.eq _ _, ?_, k2⟩
          have : szF (Fo.eq (a : Int) (b : Int)) = 1 := szF_eq _ _
          show szF (Fo.eq (a : Int) (b : Int)) + _ ≤ _
          omega

theorem gp_nice (s : ByteArray) : ∀ f : Nat, (∀ lev d i l, i ≤ s.size → Kp l → NiceR i (gp s f lev d i l)) ∧
    (∀ lev d i l a i0, i ≤ s.size → Kp l → WfF a → szF a + 3 * i0 ≤ 3 * i → NiceR i0 (gl s f lev d i l a))
  | 0 => ⟨fun _ _ _ _ _ h => (by rw [gp]; exact h), fun _ _ _ _ _ _ _ h _ _ => (by rw [gl]; exact h)⟩
  | f + 1 => by
    obtain ⟨IP, IL⟩ := gp_nice s f
    obtain ⟨GP, GL⟩ := gp_ok s f
    constructor
    · intro lev d i l hi h
      rw [gp]
      split
      · have n1 := IP 1 d i l hi h
        cases h1 : gp s f 1 d i l with
        | bad e p l1 => rw [h1] at n1; exact n1
        | ok a1 k1 l1 =>
          rw [h1] at n1
          obtain ⟨w1, z1, q1⟩ := n1
          obtain ⟨b1, b2⟩ := GP _ _ _ _ _ _ _ hi h1
          simp only [Res.bind]
          split
          · split
            · next hs =>
              have hk := (of_decide_eq_true hs).1
              have hbl := bl_le (s := s) (i := k1 + 1 + 1) (by omega)
              have hbg := bl_ge s (k1 + 1 + 1)
              have n2 := IP 0 d (bl s (k1 + 1 + 1)) l1 hbl q1
              cases h2 : gp s f 0 d (bl s (k1 + 1 + 1)) l1 with
              | bad e p l2 => rw [h2] at n2; exact n2
              | ok b k2 l2 =>
                rw [h2] at n2
                obtain ⟨w2, z2, q2⟩ := n2
                refine ⟨wf_two (Or.inr (Or.inr rfl)) w1 w2, ?_, q2⟩
                rw [szF_two 4 (Or.inr (Or.inr rfl))]
                omega
            · exact q1
          · exact ⟨w1, z1, q1⟩
      · split
        · split
          · next h33 =>
            have hi2 := byt_in h33 (by omega)
            have hbl := bl_le (s := s) (i := i + 1) (by omega)
            have hbg := bl_ge s (i + 1)
            split
            · exact h
            · have n1 := IP 3 (d + 1) (bl s (i + 1)) l hbl h
              cases h1 : gp s f 3 (d + 1) (bl s (i + 1)) l with
              | bad e p l1 => rw [h1] at n1; exact n1
              | ok a1 k1 l1 =>
                rw [h1] at n1
                obtain ⟨w1, z1, q1⟩ := n1
                refine ⟨wf_neg w1, ?_, q1⟩
                rw [szF_neg]
                omega
          · split
            · next h40 =>
              have hi2 := byt_in h40 (by omega)
              have hbl := bl_le (s := s) (i := i + 1) (by omega)
              have hbg := bl_ge s (i + 1)
              split
              · exact h
              · have n1 := IP 0 (d + 1) (bl s (i + 1)) l hbl h
                cases h1 : gp s f 0 (d + 1) (bl s (i + 1)) l with
                | bad e p l1 => rw [h1] at n1; exact n1
                | ok a1 k1 l1 =>
                  rw [h1] at n1
                  obtain ⟨w1, z1, q1⟩ := n1
                  simp only [Res.bind]
                  split
                  · next hs =>
                    have hbg2 := bl_ge s (k1 + 1)
                    refine ⟨w1, ?_, q1⟩
                    omega
                  · exact q1
            · exact gEqu_nice hi h
        · have n1 := IP (lev + 1) d i l hi h
          cases h1 : gp s f (lev + 1) d i l with
          | bad e p l1 => rw [h1] at n1; exact n1
          | ok a1 k1 l1 =>
            rw [h1] at n1
            obtain ⟨w1, z1, q1⟩ := n1
            obtain ⟨b1, b2⟩ := GP _ _ _ _ _ _ _ hi h1
            simp only [Res.bind]
            exact IL lev d k1 l1 a1 i b2 q1 w1 z1
    · intro lev d i l a i0 hi h wa za
      rw [gl]
      split
      · next hb =>
        have hi2 := byt_in hb (by unfold sgn; split <;> omega)
        have hbl := bl_le (s := s) (i := i + 1) (by omega)
        have hbg := bl_ge s (i + 1)
        have n1 := IP (lev + 1) d (bl s (i + 1)) l hbl h
        cases h1 : gp s f (lev + 1) d (bl s (i + 1)) l with
        | bad e p l1 => rw [h1] at n1; exact n1
        | ok a1 k1 l1 =>
          rw [h1] at n1
          obtain ⟨w1, z1, q1⟩ := n1
          obtain ⟨b1, b2⟩ := GP _ _ _ _ _ _ _ hbl h1
          simp only [Res.bind]
          refine IL lev d k1 l1 _ i0 b2 q1 (wf_two (opn_or lev) wa w1) ?_
          rw [szF_two _ (opn_or lev)]
          omega
      · exact ⟨wa, za, h⟩

/-- Of a text. -/
theorem gParse_nice (s : ByteArray) (l : List Tm) (h : Kp l) : WfF (gParse s l).1 ∧ szF (gParse s l).1 ≤ 1201 ∧ Kp (gParse s l).2.2.2 := by
  unfold gParse
  split
  · exact ⟨.eq _ _, by rw [szF_eq]; omega, h⟩
  · next hs =>
    unfold gWhole
    have hb := bl_le (s := s) (i := 0) (by omega)
    have n := (gp_nice s (6 * s.size + 5)).1 0 0 (bl s 0) l hb h
    cases h1 : gp s (6 * s.size + 5) 0 0 (bl s 0) l with
    | bad c q l' => rw [h1] at n; exact ⟨.eq _ _, by rw [szF_eq]; omega, n⟩
    | ok f k l' =>
      rw [h1] at n
      obtain ⟨w1, z1, q1⟩ := n
      obtain ⟨b1, b2⟩ := (gp_ok s (6 * s.size + 5)).1 _ _ _ _ _ _ _ hb h1
      simp only
      split
      · exact ⟨.eq _ _, by rw [szF_eq]; omega, q1⟩
      · exact ⟨w1, by simp only; omega, q1⟩

end Go.Proofs.Ytinphcnknionmaa

namespace Go.Proofs.Ytinphcnknionmaa
open Go.RowKit Go.Maps

/-- The numbers of a formula are terms of a list. -/
def InF (l : List Tm) (f : Fo) : Prop := ∀ p ∈ eqF f, inB l.length p.1 = true ∧ inB l.length p.2 = true

/-- A list that can be shown. -/
structure ShL (w : World) (base : Nat) (av : Value) (l : List Tm) (vs : List Value) : Prop where
  ls : Ls w base av l vs
  hs : Hs l
  oks : ∀ t ∈ l, t.ok
  len : l.length ≤ 1000
theorem ShL.kept0 {w w' : World} {base : Nat} {av : Value} {l : List Tm} {vs : List Value} (h : ShL w base av l vs) (K : Kept0 w w') : ShL w' base av l vs := ⟨h.ls.kept0 K, h.hs, h.oks, h.len⟩
theorem ShL.form {w : World} {base : Nat} {av : Value} {l : List Tm} {vs : List Value} (h : ShL w base av l vs) : ∃ a c, av = .slice a l.length c := row_form h.ls.row
theorem ShL.show1 {w : World} {base : Nat} {av : Value} {l : List Tm} {vs : List Value} (h : ShL w base av l vs) (n : Int) (hn : inB l.length n = true) :
    Calls Try.prog 71 #[av, .int .i64 n] w fun e w' => e = .returned (.string (shwB l n)) ∧ Kept0 w w' := by
  obtain ⟨k, hk, rfl⟩ : ∃ k : Nat, k < l.length ∧ n = (k : Int) := ⟨n.toNat, by have := inB_true hn; omega, by have := inB_true hn; omega⟩
  refine (rshow_all 13 w base av l vs k h.ls (h.hs k hk) h.oks h.len (Nat.le_refl _)).mono ?_
  rintro e w' ⟨he, K⟩
  exact ⟨by rw [he, shwB_in hk], K⟩

def RSh (t : Lf) : Prop := ∀ (w : World) (base : Nat) (av : Value) (l : List Tm) (vs : List Value), ShL w base av l vs → KidsIn t.kv t.kids → (∀ k ∈ t.kids, LayC w k) → WfF t.er → InF l t.er → (shF l [61] t.er).length ≤ 1000000000000000 →
  Calls Try.prog 63 #[av, .agg #[.int .i64 t.op, .int .i64 t.x, .int .i64 t.y, t.kv]] w fun e w' => e = .returned (.string (ofB (shF l [61] t.er))) ∧ Kept0 w w'

theorem layC_kept0 {w w' : World} (K : Kept0 w w') {t : Lf} (h : LayC w t) : LayC w' t := by
  have hc : ∀ {b o : Nat} {u : Value}, w.cell? ⟨b, o, none⟩ = some u → w'.cell? ⟨b, o, none⟩ = some u := fun {b o u} hu => (World.cell?_of_block (K.block b (World.block_lt_of_cell? w _ hu) (fun e => e))).trans hu
  induction h with
  | mk c0 c1 c2 c3 hk _ ih => exact .mk (hc c0) (hc c1) (hc c2) (hc c3) hk ih

theorem ofB_app (a b : List UInt8) : ofB a ++ ofB b = ofB (a ++ b) := by
  apply ByteArray.ext
  simp [ofB, ByteArray.data_append]
theorem ofB_data (b : ByteArray) : ofB b.data.toList = b := by
  apply ByteArray.ext
  simp [ofB]

set_option maxRecDepth 100000 in
set_option maxHeartbeats 2000000 in
theorem rsh_eq (w : World) (base : Nat) (av : Value) (l : List Tm) (vs : List Value) (h : ShL w base av l vs) (x y : Int) (hx : inB l.length x = true) (hy : inB l.length y = true) (ka : Option Addr) (kn kc : Nat) (hl : ((shwB l x).data.toList ++ [61] ++ (shwB l y).data.toList).length ≤ 1000000000000000) :
    Calls Try.prog 63 #[av, .agg #[.int .i64 0, .int .i64 x, .int .i64 y, .slice ka kn kc]] w fun e w' => e = .returned (.string (shwB l x ++ ofB [61] ++ shwB l y)) ∧ Kept0 w w' := by
  obtain ⟨aa, ac, rfl⟩ := h.form
  have K5 : Kept0 w (w.alloc (.cells #[.int .i64 0, .int .i64 x, .int .i64 y, .slice ka kn kc] 94)) := Kept.alloc (Kept.refl _ w) _
  have R1 := made_row w #[.int .i64 0, .int .i64 x, .int .i64 y, .slice ka kn kc] 94
  have c0 : (w.alloc (.cells #[.int .i64 0, .int .i64 x, .int .i64 y, .slice ka kn kc] 94)).cell? ⟨w.heap.size, 0, none⟩ = some (.int .i64 0) := R1.cell (i := 0) (by simp)
  have c1 : (w.alloc (.cells #[.int .i64 0, .int .i64 x, .int .i64 y, .slice ka kn kc] 94)).cell? ⟨w.heap.size, 1, none⟩ = some (.int .i64 x) := R1.cell (i := 1) (by simp)
  have c2 : (w.alloc (.cells #[.int .i64 0, .int .i64 x, .int .i64 y, .slice ka kn kc] 94)).cell? ⟨w.heap.size, 2, none⟩ = some (.int .i64 y) := R1.cell (i := 2) (by simp)
  have hcat : (shwB l x).size + 1 + (shwB l y).size ≤ 1000000000000000 := by
    rw [List.length_append, List.length_append, Array.length_toList, Array.length_toList] at hl
    exact hl
  have n1 : ¬ 9223372036854775807 < (shwB l x).size + 1 := by omega
  have n2 : ¬ 9223372036854775807 < (shwB l x).size + 1 + (shwB l y).size := by omega
  have n3 : ¬ 9223372036854775807 < (shwB l x ++ ofB [61]).size + (shwB l y).size := by rw [ByteArray.size_append, ofB_size]; simp only [List.length_singleton]; omega
  have H5 := h.kept0 K5
  go_enter Try.func63, Try.ntmps63
  go_wp2_with fail
  generalize w.alloc (.cells #[.int .i64 0, .int .i64 x, .int .i64 y, .slice ka kn kc] 94) = w5 at K5 c0 c1 c2 H5 ⊢
  have RS : ∀ (W : World) (n : Int), inB l.length n = true → Kept0 w5 W → Calls Try.prog 71 #[.slice aa l.length ac, .int .i64 n] W fun e w' => e = .returned (.string (shwB l n)) ∧ Kept0 W w' := fun W n hn K => (H5.kept0 K).show1 n hn
  have KD : ∀ m, Kept0 w5 (w5.drewN m) := fun m => Kept.drewN (Kept.refl _ w5) m
  have stay : ∀ W, Kept0 w5 W → W.cell? ⟨w.heap.size, 1, none⟩ = some (.int .i64 x) ∧ W.cell? ⟨w.heap.size, 2, none⟩ = some (.int .i64 y) := fun W K => ⟨(World.cell?_of_block (K.block _ (World.block_lt_of_cell? w5 _ c1) (fun e => e))).trans c1, (World.cell?_of_block (K.block _ (World.block_lt_of_cell? w5 _ c2) (fun e => e))).trans c2⟩
  clear H5 hl hcat
  refine wp_region_held_drew (S := fun W => W.cell? ⟨w.heap.size, 1, none⟩ = some (.int .i64 x) ∧ W.cell? ⟨w.heap.size, 2, none⟩ = some (.int .i64 y)) (by kernel_rfl) ⟨c1, c2⟩ (fun hHeld => ?_)
  refine wpAnyH_take (i := 0) (oi := _) (v := ?_) rfl (by kernel_rfl) (by kernel_rfl) (by kernel_rfl) (fun _ _ _ h => h) (Or.inl ⟨by rfl, ?_⟩) (by assumption) ?_
  rotate_left 1
  · intro w hSw; (try dsimp only at hSw); go_simp; (try with_reducible rfl)
  try simp only [Act.put, List.getElem_toArray, List.getElem_cons_zero, List.setIfInBounds_toArray, List.set_cons_zero, List.set_cons_succ]
  refine wpAnyH_take (i := 1) (oi := _) (v := ?_) rfl (by kernel_rfl) (by kernel_rfl) (by kernel_rfl) (fun _ _ _ h => h) (Or.inl ⟨by rfl, ?_⟩) (by assumption) ?_
  rotate_left 1
  · intro w hSw; (try dsimp only at hSw); go_simp; (try with_reducible rfl)
  try simp only [Act.put, List.getElem_toArray, List.getElem_cons_succ, List.getElem_cons_zero, List.setIfInBounds_toArray, List.set_cons_zero, List.set_cons_succ]
  refine wpAnyH_take (i := 2) (oi := _) (v := ?_) rfl (by kernel_rfl) (by kernel_rfl) (by kernel_rfl) (fun _ _ _ h => h) (Or.inl ⟨by rfl, ?_⟩) (by assumption) ?_
  rotate_left 1
  · intro w hSw; (try dsimp only at hSw); go_simp; (try with_reducible rfl)
  try simp only [Act.put, List.getElem_toArray, List.getElem_cons_succ, List.getElem_cons_zero, List.setIfInBounds_toArray, List.set_cons_zero, List.set_cons_succ]
  refine wpAnyH_take (i := 3) (oi := _) (v := ?_) rfl (by kernel_rfl) (by kernel_rfl) (by kernel_rfl) (fun _ _ _ h => h) (Or.inl ⟨by rfl, ?_⟩) (by assumption) ?_
  rotate_left 1
  · intro w hSw; (try dsimp only at hSw); go_simp; (try with_reducible rfl)
  try simp only [Act.put, List.getElem_toArray, List.getElem_cons_succ, List.getElem_cons_zero, List.setIfInBounds_toArray, List.set_cons_zero, List.set_cons_succ]
  refine wpAnyH_take (i := 6) (oi := _) (v := ?_) rfl (by kernel_rfl) (by kernel_rfl) (by kernel_rfl) (fun _ _ _ h => h) (Or.inl ⟨by rfl, ?_⟩) (by assumption) ?_
  rotate_left 1
  · intro w hSw; (try dsimp only at hSw); go_simp; (try with_reducible rfl)
  try simp only [Act.put, List.getElem_toArray, List.getElem_cons_succ, List.getElem_cons_zero, List.setIfInBounds_toArray, List.set_cons_zero, List.set_cons_succ]
  refine wpAnyH_take (i := 7) (oi := _) (v := ?_) rfl (by kernel_rfl) (by kernel_rfl) (by kernel_rfl) (fun _ _ _ h => h) (Or.inl ⟨by rfl, ?_⟩) (by assumption) ?_
  rotate_left 1
  · intro w hSw; (try dsimp only at hSw); go_simp; (try with_reducible rfl)
  try simp only [Act.put, List.getElem_toArray, List.getElem_cons_succ, List.getElem_cons_zero, List.setIfInBounds_toArray, List.set_cons_zero, List.set_cons_succ]
  refine wpAnyH_take (i := 8) (oi := _) (v := ?_) rfl (by kernel_rfl) (by kernel_rfl) (by kernel_rfl) (fun _ _ _ h => h) (Or.inl ⟨by rfl, ?_⟩) (by assumption) ?_
  rotate_left 1
  · intro w hSw; (try dsimp only at hSw); go_simp; (try with_reducible rfl)
  try simp only [Act.put, List.getElem_toArray, List.getElem_cons_succ, List.getElem_cons_zero, List.setIfInBounds_toArray, List.set_cons_zero, List.set_cons_succ]
  refine wpAnyH_take (i := 9) (oi := _) (v := ?_) rfl (by kernel_rfl) (by kernel_rfl) (by kernel_rfl) (fun _ _ _ h => h) (Or.inl ⟨by rfl, ?_⟩) (by assumption) ?_
  rotate_left 1
  · intro w hSw; (try dsimp only at hSw); go_simp; (try with_reducible rfl)
  try simp only [Act.put, List.getElem_toArray, List.getElem_cons_succ, List.getElem_cons_zero, List.setIfInBounds_toArray, List.set_cons_zero, List.set_cons_succ]
  refine wpAnyH_ready (rs := [4]) (by kernel_rfl) (by simp) ?_
  refine AllReadyH.cons rfl (fun K hK => ?_) AllReadyH.nil
  try simp only [List.getElem_toArray, List.getElem_cons_succ, List.getElem_cons_zero]
  go_simp
  go_at_call 71
  refine (RS _ x hx (KD 1)).mono ?_
  rintro e w6 ⟨rfl, K6⟩
  have KS6 : Kept0 w5 w6 := Kept.trans (KD 1) K6
  refine hK.out _ _ ?_ (fun hHeld => ?_)
  · exact stay _ KS6
  clear hK K
  try simp only [Act.put, List.getElem_toArray, List.getElem_cons_succ, List.getElem_cons_zero, List.setIfInBounds_toArray, List.set_cons_zero, List.set_cons_succ]
  refine wpAnyH_take (i := 5) (oi := _) (v := ?_) rfl (by kernel_rfl) (by kernel_rfl) (by kernel_rfl) (fun _ _ _ h => h) (Or.inl ⟨by rfl, ?_⟩) (by assumption) ?_
  rotate_left 1
  · intro w hSw; (try dsimp only at hSw); go_simp; (try with_reducible rfl)
  try simp only [Act.put, List.getElem_toArray, List.getElem_cons_succ, List.getElem_cons_zero, List.setIfInBounds_toArray, List.set_cons_zero, List.set_cons_succ]
  refine wpAnyH_ready (rs := [10]) (by kernel_rfl) (by simp) ?_
  refine AllReadyH.cons rfl (fun K hK => ?_) AllReadyH.nil
  try simp only [List.getElem_toArray, List.getElem_cons_succ, List.getElem_cons_zero]
  go_simp
  go_at_call 71
  refine (RS _ y hy KS6).mono ?_
  rintro e w7 ⟨rfl, K7⟩
  have KS7 : Kept0 w5 w7 := Kept.trans KS6 K7
  refine hK.out _ _ ?_ (fun hHeld => ?_)
  · exact stay _ KS7
  clear hK K
  try simp only [Act.put, List.getElem_toArray, List.getElem_cons_succ, List.getElem_cons_zero, List.setIfInBounds_toArray, List.set_cons_zero, List.set_cons_succ]
  refine wpAnyH_take (i := 11) (oi := _) (v := ?_) rfl (by kernel_rfl) (by kernel_rfl) (by kernel_rfl) (fun _ _ _ h => h) (Or.inl ⟨by rfl, ?_⟩) (by assumption) ?_
  rotate_left 1
  · intro w hSw; (try dsimp only at hSw); go_simp; (try with_reducible rfl)
  try simp only [Act.put, List.getElem_toArray, List.getElem_cons_succ, List.getElem_cons_zero, List.setIfInBounds_toArray, List.set_cons_zero, List.set_cons_succ]
  refine wpAnyH_take (i := 12) (oi := _) (v := ?_) rfl (by kernel_rfl) (by kernel_rfl) (by kernel_rfl) (fun _ _ _ h => h) (Or.inl ⟨by rfl, ?_⟩) (by assumption) ?_
  rotate_left 1
  · intro w hSw; (try dsimp only at hSw); go_simp; (try with_reducible rfl)
  try simp only [Act.put, List.getElem_toArray, List.getElem_cons_succ, List.getElem_cons_zero, List.setIfInBounds_toArray, List.set_cons_zero, List.set_cons_succ]
  refine wpAnyH_done (by kernel_rfl) ?_ _
  go_wp2_with fail
  go_ret
  exact ⟨rfl, Kept.trans K5 KS7⟩

end Go.Proofs.Ytinphcnknionmaa
