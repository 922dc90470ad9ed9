/- Package logic: Show: what it writes at a Form; isUnequal, signAt. Package logic: Show: what it goes round with. Formulas, plainly: how many steps, which equalities, which text. -/
import Derived.Test.YtinphcnknionmabLoP
import Derived.Test.YtinphcnknionmabP15
import Derived.OrdersHeld
import Derived.Deep.RegionHeld3
import Derived.Test.YtinphcnknionmabLoX
namespace Go.Proofs.Ytinphcnknionmab
open Go.RowKit Go.Shelf

/-- A Not of one Equal. -/
def isUn (x : Lf) : Bool := x.op == 1 && (match x.kids with
  | [k] => k.op == 0
  | _ => false)
/-- What stands behind d Kids. -/
def sgnA (x : Lf) (d : Nat) : List UInt8 :=
  if x.op = 1 then (if d = 0 then [33] else []) else if d = 0 then [40] else if d = x.kids.length then [41] else if x.op = 2 then [38] else if x.op = 3 then [124] else if x.op = 4 then [45, 62] else [63]

set_option maxHeartbeats 1000000 in
set_option maxRecDepth 100000 in
theorem unequal_in (w : World) (t : Lf) (h : Here w t) :
    Calls Try.prog 40 #[.pointer (some ⟨t.b, t.o, none⟩)] w fun e w' => e = .returned (.bool (isUn t)) ∧ w' = w := by
  have c0 := h.cells.c0
  have c3 := h.cells.c3
  obtain ⟨a, cap, hkv, hcap, hk⟩ := h.kidsIn
  rw [hkv] at c3
  by_cases h1 : t.op = 1
  · rw [h1] at c0
    by_cases h2 : t.kids.length = 1
    · obtain ⟨k, hkk⟩ := List.length_eq_one_iff.1 h2
      have hke : t.kids[0]? = some k := by rw [hkk]; rfl
      have hks := (h.kid (k := k) (by rw [hkk]; simp)).cells.c0
      rcases hk with hk | ⟨kb, ko, ha, hk⟩
      · rw [hkk] at hk; cases hk
      · obtain ⟨e1, e2⟩ := hk 0 k hke
        rw [e1, e2] at hks
        simp only [Nat.zero_mul, Nat.add_zero] at hks
        rw [h2, ha] at c3
        by_cases h3 : k.op = 0
        · have hr : isUn t = true := by simp [isUn, h1, hkk, h3]
          rw [h3] at hks
          rw [hr]
          go_enter Try.func40, Try.ntmps40
          go_wp2
          go_ret
          exact ⟨rfl, rfl⟩
        · have hr : isUn t = false := by simp [isUn, h1, hkk, h3]
          have d3 : (k.op == 0) = false := by simpa using h3
          rw [hr]
          go_enter Try.func40, Try.ntmps40
          go_wp2
          go_ret
          exact ⟨rfl, rfl⟩
    · have hr : isUn t = false := by
        unfold isUn
        split
        · rename_i k hkk
          rw [hkk] at h2
          exact absurd rfl h2
        · simp
      have d2 : ((t.kids.length : Int) == 1) = false := by simp; omega
      rw [hr]
      generalize t.kids.length = n at *
      clear hkv
      go_enter Try.func40, Try.ntmps40
      go_wp2
      go_ret
      exact ⟨rfl, rfl⟩
  · have hr : isUn t = false := by simp [isUn, h1]
    have d1 : (t.op == 1) = false := by simpa using h1
    rw [hr]
    generalize t.op = n at *
    go_enter Try.func40, Try.ntmps40
    go_wp2
    go_ret
    exact ⟨rfl, rfl⟩

set_option maxHeartbeats 2000000 in
set_option maxRecDepth 100000 in
theorem signAt_in (w : World) (t : Lf) (h : Here w t) (d : Nat) :
    Calls Try.prog 41 #[.pointer (some ⟨t.b, t.o, none⟩), .int .i64 (d : Int)] w fun e w' => e = .returned (.string ⟨(sgnA t d).toArray⟩) ∧ w' = w := by
  have c0 := h.cells.c0
  have c3 := h.cells.c3
  obtain ⟨a, cap, hkv, hcap, hk⟩ := h.kidsIn
  rw [hkv] at c3
  unfold sgnA
  clear hk hkv hcap h
  generalize t.op = o at *
  generalize t.kids.length = n at *
  by_cases h1 : o = 1
  · subst h1
    by_cases h2 : d = 0
    · subst h2
      simp only [if_pos]
      go_enter Try.func41, Try.ntmps41
      go_wp2
      go_ret
      exact ⟨rfl, rfl⟩
    · have d2 : ((d : Int) == 0) = false := by simp; omega
      rw [if_pos rfl, if_neg h2]
      go_enter Try.func41, Try.ntmps41
      go_wp2
      go_ret
      exact ⟨rfl, rfl⟩
  · have d1 : (o == 1) = false := by simpa using h1
    rw [if_neg h1]
    by_cases h2 : d = 0
    · subst h2
      rw [if_pos rfl]
      go_enter Try.func41, Try.ntmps41
      go_wp2
      go_ret
      exact ⟨rfl, rfl⟩
    · have d2 : ((d : Int) == 0) = false := by simp; omega
      rw [if_neg h2]
      by_cases h3 : d = n
      · subst h3
        rw [if_pos rfl]
        go_enter Try.func41, Try.ntmps41
        go_wp2
        go_ret
        exact ⟨rfl, rfl⟩
      · have d3 : ((d : Int) == (n : Int)) = false := by simp; omega
        rw [if_neg h3]
        by_cases h4 : o = 2
        · subst h4
          rw [if_pos rfl]
          go_enter Try.func41, Try.ntmps41
          go_wp2
          go_ret
          exact ⟨rfl, rfl⟩
        · have d4 : (o == 2) = false := by simpa using h4
          rw [if_neg h4]
          by_cases h5 : o = 3
          · subst h5
            rw [if_pos rfl]
            go_enter Try.func41, Try.ntmps41
            go_wp2
            go_ret
            exact ⟨rfl, rfl⟩
          · have d5 : (o == 3) = false := by simpa using h5
            rw [if_neg h5]
            by_cases h6 : o = 4
            · subst h6
              rw [if_pos rfl]
              go_enter Try.func41, Try.ntmps41
              go_wp2
              go_ret
              exact ⟨rfl, rfl⟩
            · have d6 : (o == 4) = false := by simpa using h6
              rw [if_neg h6]
              go_enter Try.func41, Try.ntmps41
              go_wp2
              go_ret
              exact ⟨rfl, rfl⟩

end Go.Proofs.Ytinphcnknionmab

namespace Go.Proofs.Ytinphcnknionmab
open Go.RowKit Go.Shelf

def ofB (l : List UInt8) : ByteArray := ⟨l.toArray⟩
theorem ofB_size (l : List UInt8) : (ofB l).size = l.length := by
  show l.toArray.size = l.length
  simp
theorem cat_len {a c : List UInt8} {x y : ByteArray} {N : Nat} (h : (a ++ (x.data.toList ++ c ++ y.data.toList)).length ≤ N) : a.length + (x.size + c.length + y.size) ≤ N := by
  rw [List.length_append, List.length_append, List.length_append, Array.length_toList, Array.length_toList] at h
  exact h
theorem ofB_cells (l : List UInt8) : Lib.strCells (ofB l) = Lib.byteCells l := by
  rw [Lib.strCells_eq]
  rfl
/-- What the program has written, and the sign it keeps for the next equality. -/
abbrev Sh := List UInt8 × List UInt8
def shS (l : List Tm) (s : Sh) (x : Lf × Nat) : Sh :=
  if x.1.op = 0 then (s.1 ++ ((shwB l x.1.x).data.toList ++ s.2 ++ (shwB l x.1.y).data.toList), [61])
  else if isUn x.1 && x.2 == 0 then (s.1, [33, 61])
  else (s.1 ++ sgnA x.1 x.2, s.2)
def shG (l : List Tm) (xs : List (Lf × Nat)) : Sh := xs.foldl (shS l) ([], [61])

theorem bld_keep {W W' : World} {B b : Nat} {bs : List Value} (h : Bld W B b bs) (hk : ∀ (k : Nat) (c : Array Value) (ty : TypeId) (fz : Nat × Nat), W.heap[k]? = some (Obj.cells c ty fz) → (ty = 92 ∨ ty = 5) → W'.heap[k]? = some (Obj.cells c ty fz)) : Bld W' B b bs := by
  have one : ∀ p, Lib.BuilderAtF 92 5 B b p bs W → Lib.BuilderAtF 92 5 B b p bs W' := by
    rintro p ⟨h1, v, h2, h3, h4⟩
    refine ⟨h1, v, hk _ _ _ _ h2 (Or.inl rfl), ⟨h3.1, ?_⟩, h4⟩
    rcases h3.2 with e | ⟨g, cap, cur, fz, e1, e2, e3, e4⟩
    · exact Or.inl e
    · exact Or.inr ⟨g, cap, cur, fz, e1, e2, hk _ _ _ _ e3 (Or.inr rfl), e4⟩
  rcases h with h | h
  · exact Or.inl (one _ h)
  · exact Or.inr (one _ h)

/-- What Show goes round with. -/
structure ShAt (w W : World) (t : Lf) (p : Nat) (s : Sh) : Prop where
  below : Below w.heap.size w W
  here : Here W t
  bbox : W.rowIs w.heap.size 57 1 (fun _ => .pointer (some ⟨p, 0, none⟩))
  bld : Bld W w.heap.size (w.heap.size + 2) (Lib.byteCells s.1)
  ebox : W.rowIs (w.heap.size + 3) 9 1 (fun _ => .string (ofB s.2))

theorem ShAt.ow {w W W' : World} {B : Nat} {t : Lf} {p : Nat} {s : Sh} (h : ShAt w W t p s) (hO : Ow 115 B W W') (hB : w.heap.size ≤ B) : ShAt w W' t p s := by
  refine ⟨h.below.trans ⟨hO.os, hO.tape, hO.output, hO.size, fun k hk => ?_⟩, h.here.keep (hO.fkeep.toA _), hO.rowIs (by decide) h.bbox, bld_keep h.bld (fun k c ty fz hk hty => hO.same k _ hk (Or.inr ⟨rfl, ?_⟩)), hO.rowIs (by decide) h.ebox⟩
  · cases hh : W.heap[k]? with
    | none =>
      have h1 := Array.getElem?_eq_none_iff.1 hh
      have h2 := h.below.size
      omega
    | some o => exact hO.same k o hh (Or.inl (by omega))
  · rintro ⟨c', ty', fz', e, e'⟩
    cases e
    rcases hty with e | e <;> (rw [e] at e'; cases e')

theorem ShAt.grow {w W W' : World} {t : Lf} {p : Nat} {s : Sh} (h : ShAt w W t p s) (hB : Below W.heap.size W W') : ShAt w W' t p s := by
  have nm : ∀ (k : Nat) (o : Obj), W.heap[k]? = some o → W'.heap[k]? = some o := fun k o hk => (hB.block k (Array.getElem?_eq_some_iff.1 hk).1).trans hk
  refine ⟨h.below.trans (hB.mono h.below.size), h.here.keep (fun k c fz _ hk => nm k _ hk), h.bbox.of_block (hB.block _ h.bbox.lt), bld_keep h.bld (fun k c ty fz hk _ => nm k _ hk), h.ebox.of_block (hB.block _ h.ebox.lt)⟩

/-- A text is written. -/
theorem ShAt.write {w W W' : World} {t : Lf} {p : Nat} {s : Sh} (h : ShAt w W t p s) (K : BKept w.heap.size (w.heap.size + 2) W W') {o : List UInt8} (hb : Bld W' w.heap.size (w.heap.size + 2) (Lib.byteCells o)) : ShAt w W' t p (o, s.2) ∧ (∀ (k : Nat) (o : Obj), W.heap[k]? = some o → (o.isCells = false ∨ OfTy (fun t => t ≠ 5 ∧ t ≠ 92) o) → W'.heap[k]? = some o) := by
  have hbk : ∃ c, W.heap[w.heap.size + 2]? = some (Obj.cells c 92 (0, 0)) := by
    rcases h.bld with ⟨_, v, h2, _⟩ | ⟨_, v, h2, _⟩ <;> exact ⟨_, h2⟩
  have nm : ∀ (k : Nat) (o : Obj), W.heap[k]? = some o → (o.isCells = false ∨ OfTy (fun t => t ≠ 5 ∧ t ≠ 92) o) → W'.heap[k]? = some o := fun k o hk ho => by
    refine K.2 k o hk ?_ ?_
    · rintro e
      cases e
      obtain ⟨c, hc⟩ := hbk
      rw [hk] at hc
      cases hc
      rcases ho with ho | ⟨c', ty, fz, e, e1, e2⟩
      · cases ho
      · cases e; exact e2 rfl
    · rintro c fz rfl
      rcases ho with ho | ⟨c', ty, fz, e, e1, e2⟩
      · cases ho
      · cases e; exact e1 rfl
  refine ⟨⟨h.below.trans K.1, h.here.keep (fun k c fz _ hk => nm k _ hk (Or.inr ⟨c, _, fz, rfl, by decide, by decide⟩)), ?_, hb, ?_⟩, nm⟩
  · obtain ⟨c, h1, h2⟩ := h.bbox
    exact ⟨c, nm _ _ h1 (Or.inr ⟨c, _, _, rfl, by decide, by decide⟩), h2⟩
  · obtain ⟨c, h1, h2⟩ := h.ebox
    exact ⟨c, nm _ _ h1 (Or.inr ⟨c, _, _, rfl, by decide, by decide⟩), h2⟩

/-- Another sign is kept. -/
theorem ShAt.sign {w W : World} {t : Lf} {p : Nat} {s : Sh} (h : ShAt w W t p s) (g : List UInt8) : ShAt w (W.setCell ⟨w.heap.size + 3, 0, none⟩ (.string (ofB g))) t p (s.1, g) ∧ (∀ (k : Nat) (o : Obj), W.heap[k]? = some o → (o.isCells = false ∨ OfTy (fun t => t ≠ 9) o) → (W.setCell ⟨w.heap.size + 3, 0, none⟩ (.string (ofB g))).heap[k]? = some o) := by
  have nm : ∀ (k : Nat) (o : Obj), W.heap[k]? = some o → (o.isCells = false ∨ OfTy (fun t => t ≠ 9) o) → (W.setCell ⟨w.heap.size + 3, 0, none⟩ (.string (ofB g))).heap[k]? = some o := fun k o hk ho => by
    refine (Below.heap_setCell W ⟨w.heap.size + 3, 0, none⟩ _ k ?_).trans hk
    rintro e
    obtain ⟨c, hc, _⟩ := h.ebox
    have e' : k = w.heap.size + 3 := e
    rw [← e', hk] at hc
    cases hc
    rcases ho with ho | ⟨c', ty, fz, e, e1⟩
    · cases ho
    · cases e; exact e1 rfl
  refine ⟨⟨h.below.setCell (p := ⟨w.heap.size + 3, 0, none⟩) (by show w.heap.size ≤ w.heap.size + 3; omega) _, h.here.keep (fun k c fz _ hk => nm k _ hk (Or.inr ⟨c, _, fz, rfl, by decide⟩)), ?_, bld_keep h.bld (fun k c ty fz hk hty => nm k _ hk (Or.inr ⟨c, ty, fz, rfl, ?_⟩)), ?_⟩, nm⟩
  · obtain ⟨c, h1, h2⟩ := h.bbox
    exact ⟨c, nm _ _ h1 (Or.inr ⟨c, _, _, rfl, by decide⟩), h2⟩
  · rcases hty with rfl | rfl <;> decide
  · exact World.rowIs.congr (h.ebox.set 0 _) (fun j hj => by
      have : j = 0 := by omega
      subst this; simp)

end Go.Proofs.Ytinphcnknionmab

namespace Go.Proofs.Ytinphcnknionmab

/-- Formulas as they are read. -/
inductive WfF : Fo → Prop where
  | eq (x y : Int) : WfF (.mk 0 x y [])
  | neg (f : Fo) : WfF f → WfF (.mk 1 0 0 [f])
  | two (o : Int) (f g : Fo) : (o = 2 ∨ o = 3 ∨ o = 4) → WfF f → WfF g → WfF (.mk o 0 0 [f, g])

def Fo.op : Fo → Int | .mk op _ _ _ => op
/-- How many steps lead through one. -/
def szF : Fo → Nat
  | .mk op _ _ kids => if op = 0 then 1 else 1 + kids.length + (kids.map szF).sum
/-- Its equalities. -/
def eqF : Fo → List (Int × Int)
  | .mk op x y kids => if op = 0 then [(x, y)] else (kids.map eqF).flatten
def opS (o : Int) : List UInt8 := if o = 2 then [38] else if o = 3 then [124] else [45, 62]
/-- Its text, with this sign for an equality. -/
def shF (l : List Tm) (g : List UInt8) : Fo → List UInt8
  | .mk 0 x y _ => (shwB l x).data.toList ++ g ++ (shwB l y).data.toList
  | .mk _ _ _ [k] => if k.op = 0 then shF l [33, 61] k else 33 :: shF l [61] k
  | .mk o _ _ [a, b] => 40 :: (shF l [61] a ++ opS o ++ shF l [61] b ++ [41])
  | _ => []

theorem Lf.er_op (t : Lf) : t.er.op = t.op := by cases t; simp [Lf.er, Fo.op, Lf.op]
theorem Lf.er_kids {t : Lf} {op x y : Int} {ks : List Fo} (h : t.er = .mk op x y ks) : t.op = op ∧ t.x = x ∧ t.y = y ∧ t.kids.map Lf.er = ks := by
  cases t
  simp [Lf.er] at h
  exact h

theorem sum_wk (t : Lf) (n : Nat) : ∀ d, n = t.ks.length - d → d ≤ t.ks.length → (wk t d).length = 1 + (t.ks.length - d) + ((t.ks.drop d).map fun k => (wk k 0).length).sum := by
  induction n with
  | zero =>
    intro d hn hd
    have : t.ks[d]? = none := List.getElem?_eq_none (by omega)
    rw [wk_end this, List.drop_eq_nil_of_le (by omega), ← hn]
    rfl
  | succ n ih =>
    intro d hn hd
    have hlt : d < t.ks.length := by omega
    rw [wk_step (List.getElem?_eq_getElem hlt), List.length_cons, List.length_append, ih (d + 1) (by omega) (by omega), List.drop_eq_getElem_cons hlt, List.map_cons, List.sum_cons]
    omega
theorem len_wk (t : Lf) : (wk t 0).length = szF t.er := by
  have h0 := sum_wk t t.ks.length 0 (by omega) (by omega)
  rw [h0]
  obtain ⟨b, o, op, x, y, kv, kids⟩ := t
  rw [Lf.er, szF]
  by_cases h : op = 0
  · have : (Lf.mk b o op x y kv kids).ks = [] := by simp [Lf.ks, Lf.op, h]
    rw [this, if_pos h]
    rfl
  · have hks : (Lf.mk b o op x y kv kids).ks = kids := by simp [Lf.ks, Lf.op, Lf.kids, h]
    rw [hks, if_neg h, List.drop_zero, List.map_map, List.length_map]
    have : (kids.map fun k => (wk k 0).length) = kids.map (szF ∘ Lf.er) := List.map_congr_left (fun k hk => len_wk k)
    rw [this]
    omega
termination_by t
decreasing_by
  have := List.sizeOf_lt_of_mem hk
  simp
  omega

theorem eqs_wk (t : Lf) (n : Nat) : ∀ d, n = t.ks.length - d → d ≤ t.ks.length → ((wk t d).filterMap isEnd).filterMap isEq = ((t.ks.drop d).map fun k => ((wk k 0).filterMap isEnd).filterMap isEq).flatten ++ (isEq t).toList := by
  induction n with
  | zero =>
    intro d hn hd
    have hde : d = t.ks.length := by omega
    have : t.ks[d]? = none := List.getElem?_eq_none (by omega)
    rw [wk_end this, List.drop_eq_nil_of_le (by omega)]
    have he : isEnd (t, d) = some t := by simp [isEnd, hde]
    rw [List.filterMap_cons_some he, List.filterMap_nil]
    cases h : isEq t with
    | none => simp [h]
    | some y => simp [h]
  | succ n ih =>
    intro d hn hd
    have hlt : d < t.ks.length := by omega
    have he : isEnd (t, d) = none := by simp [isEnd]; omega
    rw [wk_step (List.getElem?_eq_getElem hlt), List.filterMap_cons_none he, List.filterMap_append, List.filterMap_append, ih (d + 1) (by omega) (by omega), List.drop_eq_getElem_cons hlt, List.map_cons, List.flatten_cons, List.append_assoc]
theorem eqs_er (t : Lf) : eqs t = eqF t.er := by
  have h0 := eqs_wk t t.ks.length 0 (by omega) (by omega)
  unfold eqs es
  rw [h0]
  obtain ⟨b, o, op, x, y, kv, kids⟩ := t
  rw [Lf.er, eqF]
  by_cases h : op = 0
  · have : (Lf.mk b o op x y kv kids).ks = [] := by simp [Lf.ks, Lf.op, h]
    rw [this, if_pos h]
    simp [isEq, Lf.op, Lf.x, Lf.y, h]
  · have hks : (Lf.mk b o op x y kv kids).ks = kids := by simp [Lf.ks, Lf.op, Lf.kids, h]
    have hq : isEq (Lf.mk b o op x y kv kids) = none := by simp [isEq, Lf.op, h]
    rw [hks, if_neg h, List.drop_zero, List.map_map, hq]
    have : (kids.map fun k => ((wk k 0).filterMap isEnd).filterMap isEq) = kids.map (eqF ∘ Lf.er) := List.map_congr_left (fun k hk => eqs_er k)
    rw [this]
    simp
termination_by t
decreasing_by
  have := List.sizeOf_lt_of_mem hk
  simp
  omega

theorem map_one {α β : Type} {f : α → β} {xs : List α} {b : β} (h : xs.map f = [b]) : ∃ a, xs = [a] ∧ f a = b := by
  match xs, h with
  | [a], h => exact ⟨a, rfl, by simpa using h⟩
theorem map_two {α β : Type} {f : α → β} {xs : List α} {b c : β} (h : xs.map f = [b, c]) : ∃ a a', xs = [a, a'] ∧ f a = b ∧ f a' = c := by
  match xs, h with
  | [a, a'], h => exact ⟨a, a', rfl, by simpa using h⟩

theorem wk_one {t k : Lf} (h0 : ¬ t.op = 0) (hk : t.kids = [k]) : wk t 0 = (t, 0) :: (wk k 0 ++ [(t, 1)]) := by
  have hks : t.ks = [k] := by simp [Lf.ks, h0, hk]
  rw [wk_step (k := k) (by rw [hks]; rfl), wk_end (t := t) (d := 0 + 1) (by rw [hks]; rfl)]
theorem wk_two {t a b : Lf} (h0 : ¬ t.op = 0) (hk : t.kids = [a, b]) : wk t 0 = (t, 0) :: (wk a 0 ++ ((t, 1) :: (wk b 0 ++ [(t, 2)]))) := by
  have hks : t.ks = [a, b] := by simp [Lf.ks, h0, hk]
  rw [wk_step (k := a) (by rw [hks]; rfl), wk_step (t := t) (k := b) (d := 0 + 1) (by rw [hks]; rfl), wk_end (t := t) (d := 0 + 1 + 1) (by rw [hks]; rfl)]

theorem sh_wk (l : List Tm) {f : Fo} (hf : WfF f) : ∀ (t : Lf), t.er = f → ∀ (o g : List UInt8), (f.op = 0 ∨ g = [61]) → (wk t 0).foldl (shS l) (o, g) = (o ++ shF l g f, [61]) := by
  induction hf with
  | eq x y =>
    intro t ht o g _
    obtain ⟨h1, h2, h3, h4⟩ := Lf.er_kids ht
    have hks : t.ks[0]? = none := by simp [Lf.ks, h1]
    rw [wk_end hks]
    simp [shS, h1, h2, h3, shF]
  | neg f _ ih =>
    intro t ht o g hg
    obtain ⟨h1, h2, h3, h4⟩ := Lf.er_kids ht
    obtain ⟨k, hk, hke⟩ := map_one h4
    have h0 : ¬ t.op = 0 := by rw [h1]; decide
    have hg' : g = [61] := hg.resolve_left (by simp [Fo.op])
    subst hg'
    rw [wk_one h0 hk, List.foldl_cons, List.foldl_append]
    by_cases hz : f.op = 0
    · have hu : isUn t = true := by
        have : k.op = 0 := by rw [← Lf.er_op, hke]; exact hz
        simp [isUn, h1, hk, this]
      have s1 : shS l (o, [61]) (t, 0) = (o, [33, 61]) := by simp [shS, h0, hu]
      rw [s1, ih k hke o [33, 61] (Or.inl hz), List.foldl_cons, List.foldl_nil]
      simp [shS, hu, sgnA, h1, shF, hz]
    · have hu : isUn t = false := by
        have : ¬ k.op = 0 := by rw [← Lf.er_op, hke]; exact hz
        simp [isUn, hk, this]
      have s1 : shS l (o, [61]) (t, 0) = (o ++ [33], [61]) := by simp [shS, hu, sgnA, h1]
      rw [s1, ih k hke (o ++ [33]) [61] (Or.inr rfl), List.foldl_cons, List.foldl_nil]
      simp [shS, hu, sgnA, h1, shF, hz]
  | two op f g hop _ _ ih1 ih2 =>
    intro t ht o s hs
    obtain ⟨h1, h2, h3, h4⟩ := Lf.er_kids ht
    obtain ⟨a, b, hk, ha, hb⟩ := map_two h4
    have h0 : ¬ t.op = 0 := by rw [h1]; rcases hop with rfl | rfl | rfl <;> decide
    have hop0 : ¬ op = 0 := by rcases hop with rfl | rfl | rfl <;> decide
    have hop1 : ¬ t.op = 1 := by rw [h1]; rcases hop with rfl | rfl | rfl <;> decide
    have hs' : s = [61] := hs.resolve_left (by simpa [Fo.op] using hop0)
    subst hs'
    have hu : isUn t = false := by simp [isUn, hop1]
    have s1 : shS l (o, [61]) (t, 0) = (o ++ [40], [61]) := by simp [shS, h0, hu, sgnA, hop1]
    have s2 : ∀ x, shS l (x, [61]) (t, 1) = (x ++ opS op, [61]) := by
      intro x
      simp only [shS, h0, hu, sgnA, hop1, hk, if_false, Bool.false_and, Bool.false_eq_true]
      rcases hop with rfl | rfl | rfl <;> simp [h1, opS]
    have s3 : ∀ x, shS l (x, [61]) (t, 2) = (x ++ [41], [61]) := by
      intro x
      simp [shS, h0, hu, sgnA, hop1, hk]
    rw [wk_two h0 hk, List.foldl_cons, s1, List.foldl_append, ih1 a ha _ _ (Or.inr rfl), List.foldl_cons, s2, List.foldl_append, ih2 b hb _ _ (Or.inr rfl), List.foldl_cons, List.foldl_nil, s3]
    have : shF l [61] (.mk op 0 0 [f, g]) = 40 :: (shF l [61] f ++ opS op ++ shF l [61] g ++ [41]) := by
      rcases hop with rfl | rfl | rfl <;> simp [shF]
    rw [this]
    simp

theorem shG_er (l : List Tm) {t : Lf} (hf : WfF t.er) : (shG l (wk t 0)).1 = shF l [61] t.er := by
  unfold shG
  rw [sh_wk l hf t rfl [] [61] (Or.inr rfl)]
  simp

theorem shS_len (l : List Tm) (s : Sh) (x : Lf × Nat) : s.1.length ≤ (shS l s x).1.length := by
  unfold shS
  split
  · simp
  · split
    · exact Nat.le_refl _
    · simp
theorem foldl_len (l : List Tm) (xs : List (Lf × Nat)) : ∀ s, s.1.length ≤ (xs.foldl (shS l) s).1.length := by
  induction xs with
  | nil => intro s; exact Nat.le_refl _
  | cons x xs ih => intro s; exact Nat.le_trans (shS_len l s x) (ih _)
theorem shG_take (l : List Tm) (xs : List (Lf × Nat)) (i : Nat) : (shG l (xs.take i)).1.length ≤ (shG l xs).1.length := by
  have h : shG l xs = (xs.drop i).foldl (shS l) (shG l (xs.take i)) := by
    unfold shG
    rw [← List.foldl_append, List.take_append_drop]
  rw [h]
  exact foldl_len l _ _

end Go.Proofs.Ytinphcnknionmab
