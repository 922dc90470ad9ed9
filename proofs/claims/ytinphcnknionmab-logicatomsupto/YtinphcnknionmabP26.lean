/- Package logic: Show: what it writes at a Form; isUnequal, signAt. Package logic: Show: what it goes round with. -/
import Derived.Test.YtinphcnknionmabLoP
import Derived.Test.YtinphcnknionmabP21
import Derived.OrdersHeld
import Derived.Deep.RegionHeld3
namespace Go.Proofs.Ytinphcnknionmab
open Go.RowKit Go.Shelf

/-- A Not of one Equal. -/
def isUn (x : Lf) : Bool := x.op == 1 && (match x.kids with
  | [k] => k.op == 0
  | _ => false)
/-- What stands behind d Kids. -/
def sgnA (x : Lf) (d : Nat) : List UInt8 :=
  if x.op = 1 then (if d = 0 then [33] else []) else if d = 0 then [40] else if d = x.kids.length then [41] else if x.op = 2 then [38] else if x.op = 3 then [124] else if x.op = 4 then [45, 62] else [63]

set_option maxHeartbeats 1000000 in
set_option maxRecDepth 100000 in
theorem unequal_in (w : World) (t : Lf) (h : Here w t) :
    Calls Try.prog 40 #[.pointer (some ⟨t.b, t.o, none⟩)] w fun e w' => e = .returned (.bool (isUn t)) ∧ w' = w := by
  have c0 := h.cells.c0
  have c3 := h.cells.c3
  obtain ⟨a, cap, hkv, hcap, hk⟩ := h.kidsIn
  rw [hkv] at c3
  by_cases h1 : t.op = 1
  · rw [h1] at c0
    by_cases h2 : t.kids.length = 1
    · obtain ⟨k, hkk⟩ := List.length_eq_one_iff.1 h2
      have hke : t.kids[0]? = some k := by rw [hkk]; rfl
      have hks := (h.kid (k := k) (by rw [hkk]; simp)).cells.c0
      rcases hk with hk | ⟨kb, ko, ha, hk⟩
      · rw [hkk] at hk; cases hk
      · obtain ⟨e1, e2⟩ := hk 0 k hke
        rw [e1, e2] at hks
        simp only [Nat.zero_mul, Nat.add_zero] at hks
        rw [h2, ha] at c3
        by_cases h3 : k.op = 0
        · have hr : isUn t = true := by simp [isUn, h1, hkk, h3]
          rw [h3] at hks
          rw [hr]
          go_enter Try.func40, Try.ntmps40
          go_wp2
          go_ret
          exact ⟨rfl, rfl⟩
        · have hr : isUn t = false := by simp [isUn, h1, hkk, h3]
          have d3 : (k.op == 0) = false := by simpa using h3
          rw [hr]
          go_enter Try.func40, Try.ntmps40
          go_wp2
          go_ret
          exact ⟨rfl, rfl⟩
    · have hr : isUn t = false := by
        unfold isUn
        split
        · rename_i k hkk
          rw [hkk] at h2
          exact absurd rfl h2
        · simp
      have d2 : ((t.kids.length : Int) == 1) = false := by simp; omega
      rw [hr]
      generalize t.kids.length = n at *
      clear hkv
      go_enter Try.func40, Try.ntmps40
      go_wp2
      go_ret
      exact ⟨rfl, rfl⟩
  · have hr : isUn t = false := by simp [isUn, h1]
    have d1 : (t.op == 1) = false := by simpa using h1
    rw [hr]
    generalize t.op = n at *
    go_enter Try.func40, Try.ntmps40
    go_wp2
    go_ret
    exact ⟨rfl, rfl⟩

set_option maxHeartbeats 2000000 in
set_option maxRecDepth 100000 in
theorem signAt_in (w : World) (t : Lf) (h : Here w t) (d : Nat) :
    Calls Try.prog 41 #[.pointer (some ⟨t.b, t.o, none⟩), .int .i64 (d : Int)] w fun e w' => e = .returned (.string ⟨(sgnA t d).toArray⟩) ∧ w' = w := by
  have c0 := h.cells.c0
  have c3 := h.cells.c3
  obtain ⟨a, cap, hkv, hcap, hk⟩ := h.kidsIn
  rw [hkv] at c3
  unfold sgnA
  clear hk hkv hcap h
  generalize t.op = o at *
  generalize t.kids.length = n at *
  by_cases h1 : o = 1
  · subst h1
    by_cases h2 : d = 0
    · subst h2
      simp only [if_pos]
      go_enter Try.func41, Try.ntmps41
      go_wp2
      go_ret
      exact ⟨rfl, rfl⟩
    · have d2 : ((d : Int) == 0) = false := by simp; omega
      rw [if_pos rfl, if_neg h2]
      go_enter Try.func41, Try.ntmps41
      go_wp2
      go_ret
      exact ⟨rfl, rfl⟩
  · have d1 : (o == 1) = false := by simpa using h1
    rw [if_neg h1]
    by_cases h2 : d = 0
    · subst h2
      rw [if_pos rfl]
      go_enter Try.func41, Try.ntmps41
      go_wp2
      go_ret
      exact ⟨rfl, rfl⟩
    · have d2 : ((d : Int) == 0) = false := by simp; omega
      rw [if_neg h2]
      by_cases h3 : d = n
      · subst h3
        rw [if_pos rfl]
        go_enter Try.func41, Try.ntmps41
        go_wp2
        go_ret
        exact ⟨rfl, rfl⟩
      · have d3 : ((d : Int) == (n : Int)) = false := by simp; omega
        rw [if_neg h3]
        by_cases h4 : o = 2
        · subst h4
          rw [if_pos rfl]
          go_enter Try.func41, Try.ntmps41
          go_wp2
          go_ret
          exact ⟨rfl, rfl⟩
        · have d4 : (o == 2) = false := by simpa using h4
          rw [if_neg h4]
          by_cases h5 : o = 3
          · subst h5
            rw [if_pos rfl]
            go_enter Try.func41, Try.ntmps41
            go_wp2
            go_ret
            exact ⟨rfl, rfl⟩
          · have d5 : (o == 3) = false := by simpa using h5
            rw [if_neg h5]
            by_cases h6 : o = 4
            · subst h6
              rw [if_pos rfl]
              go_enter Try.func41, Try.ntmps41
              go_wp2
              go_ret
              exact ⟨rfl, rfl⟩
            · have d6 : (o == 4) = false := by simpa using h6
              rw [if_neg h6]
              go_enter Try.func41, Try.ntmps41
              go_wp2
              go_ret
              exact ⟨rfl, rfl⟩

end Go.Proofs.Ytinphcnknionmab

namespace Go.Proofs.Ytinphcnknionmab
open Go.RowKit Go.Shelf

def ofB (l : List UInt8) : ByteArray := ⟨l.toArray⟩
theorem ofB_size (l : List UInt8) : (ofB l).size = l.length := by
  show l.toArray.size = l.length
  simp
theorem cat_len {a c : List UInt8} {x y : ByteArray} {N : Nat} (h : (a ++ (x.data.toList ++ c ++ y.data.toList)).length ≤ N) : a.length + (x.size + c.length + y.size) ≤ N := by
  rw [List.length_append, List.length_append, List.length_append, Array.length_toList, Array.length_toList] at h
  exact h
theorem ofB_cells (l : List UInt8) : Lib.strCells (ofB l) = Lib.byteCells l := by
  rw [Lib.strCells_eq]
  rfl
/-- What the program has written, and the sign it keeps for the next equality. -/
abbrev Sh := List UInt8 × List UInt8
def shS (l : List Tm) (s : Sh) (x : Lf × Nat) : Sh :=
  if x.1.op = 0 then (s.1 ++ ((shwB l x.1.x).data.toList ++ s.2 ++ (shwB l x.1.y).data.toList), [61])
  else if isUn x.1 && x.2 == 0 then (s.1, [33, 61])
  else (s.1 ++ sgnA x.1 x.2, s.2)
def shG (l : List Tm) (xs : List (Lf × Nat)) : Sh := xs.foldl (shS l) ([], [61])

theorem bld_keep {W W' : World} {B b : Nat} {bs : List Value} (h : Bld W B b bs) (hk : ∀ (k : Nat) (c : Array Value) (ty : TypeId) (fz : Nat × Nat), W.heap[k]? = some (Obj.cells c ty fz) → (ty = 92 ∨ ty = 5) → W'.heap[k]? = some (Obj.cells c ty fz)) : Bld W' B b bs := by
  have one : ∀ p, Lib.BuilderAtF 92 5 B b p bs W → Lib.BuilderAtF 92 5 B b p bs W' := by
    rintro p ⟨h1, v, h2, h3, h4⟩
    refine ⟨h1, v, hk _ _ _ _ h2 (Or.inl rfl), ⟨h3.1, ?_⟩, h4⟩
    rcases h3.2 with e | ⟨g, cap, cur, fz, e1, e2, e3, e4⟩
    · exact Or.inl e
    · exact Or.inr ⟨g, cap, cur, fz, e1, e2, hk _ _ _ _ e3 (Or.inr rfl), e4⟩
  rcases h with h | h
  · exact Or.inl (one _ h)
  · exact Or.inr (one _ h)

/-- What Show goes round with. -/
structure ShAt (w W : World) (t : Lf) (p : Nat) (s : Sh) : Prop where
  below : Below w.heap.size w W
  here : Here W t
  bbox : W.rowIs w.heap.size 57 1 (fun _ => .pointer (some ⟨p, 0, none⟩))
  bld : Bld W w.heap.size (w.heap.size + 2) (Lib.byteCells s.1)
  ebox : W.rowIs (w.heap.size + 3) 9 1 (fun _ => .string (ofB s.2))

theorem ShAt.ow {w W W' : World} {B : Nat} {t : Lf} {p : Nat} {s : Sh} (h : ShAt w W t p s) (hO : Ow 115 B W W') (hB : w.heap.size ≤ B) : ShAt w W' t p s := by
  refine ⟨h.below.trans ⟨hO.os, hO.tape, hO.output, hO.size, fun k hk => ?_⟩, h.here.keep (hO.fkeep.toA _), hO.rowIs (by decide) h.bbox, bld_keep h.bld (fun k c ty fz hk hty => hO.same k _ hk (Or.inr ⟨rfl, ?_⟩)), hO.rowIs (by decide) h.ebox⟩
  · cases hh : W.heap[k]? with
    | none =>
      have h1 := Array.getElem?_eq_none_iff.1 hh
      have h2 := h.below.size
      omega
    | some o => exact hO.same k o hh (Or.inl (by omega))
  · rintro ⟨c', ty', fz', e, e'⟩
    cases e
    rcases hty with e | e <;> (rw [e] at e'; cases e')

theorem ShAt.grow {w W W' : World} {t : Lf} {p : Nat} {s : Sh} (h : ShAt w W t p s) (hB : Below W.heap.size W W') : ShAt w W' t p s := by
  have nm : ∀ (k : Nat) (o : Obj), W.heap[k]? = some o → W'.heap[k]? = some o := fun k o hk => (hB.block k (Array.getElem?_eq_some_iff.1 hk).1).trans hk
  refine ⟨h.below.trans (hB.mono h.below.size), h.here.keep (fun k c fz _ hk => nm k _ hk), h.bbox.of_block (hB.block _ h.bbox.lt), bld_keep h.bld (fun k c ty fz hk _ => nm k _ hk), h.ebox.of_block (hB.block _ h.ebox.lt)⟩

/-- A text is written. -/
theorem ShAt.write {w W W' : World} {t : Lf} {p : Nat} {s : Sh} (h : ShAt w W t p s) (K : BKept w.heap.size (w.heap.size + 2) W W') {o : List UInt8} (hb : Bld W' w.heap.size (w.heap.size + 2) (Lib.byteCells o)) : ShAt w W' t p (o, s.2) ∧ (∀ (k : Nat) (o : Obj), W.heap[k]? = some o → (o.isCells = false ∨ OfTy (fun t => t ≠ 5 ∧ t ≠ 92) o) → W'.heap[k]? = some o) := by
  have hbk : ∃ c, W.heap[w.heap.size + 2]? = some (Obj.cells c 92 (0, 0)) := by
    rcases h.bld with ⟨_, v, h2, _⟩ | ⟨_, v, h2, _⟩ <;> exact ⟨_, h2⟩
  have nm : ∀ (k : Nat) (o : Obj), W.heap[k]? = some o → (o.isCells = false ∨ OfTy (fun t => t ≠ 5 ∧ t ≠ 92) o) → W'.heap[k]? = some o := fun k o hk ho => by
    refine K.2 k o hk ?_ ?_
    · rintro e
      cases e
      obtain ⟨c, hc⟩ := hbk
      rw [hk] at hc
      cases hc
      rcases ho with ho | ⟨c', ty, fz, e, e1, e2⟩
      · cases ho
      · cases e; exact e2 rfl
    · rintro c fz rfl
      rcases ho with ho | ⟨c', ty, fz, e, e1, e2⟩
      · cases ho
      · cases e; exact e1 rfl
  refine ⟨⟨h.below.trans K.1, h.here.keep (fun k c fz _ hk => nm k _ hk (Or.inr ⟨c, _, fz, rfl, by decide, by decide⟩)), ?_, hb, ?_⟩, nm⟩
  · obtain ⟨c, h1, h2⟩ := h.bbox
    exact ⟨c, nm _ _ h1 (Or.inr ⟨c, _, _, rfl, by decide, by decide⟩), h2⟩
  · obtain ⟨c, h1, h2⟩ := h.ebox
    exact ⟨c, nm _ _ h1 (Or.inr ⟨c, _, _, rfl, by decide, by decide⟩), h2⟩

/-- Another sign is kept. -/
theorem ShAt.sign {w W : World} {t : Lf} {p : Nat} {s : Sh} (h : ShAt w W t p s) (g : List UInt8) : ShAt w (W.setCell ⟨w.heap.size + 3, 0, none⟩ (.string (ofB g))) t p (s.1, g) ∧ (∀ (k : Nat) (o : Obj), W.heap[k]? = some o → (o.isCells = false ∨ OfTy (fun t => t ≠ 9) o) → (W.setCell ⟨w.heap.size + 3, 0, none⟩ (.string (ofB g))).heap[k]? = some o) := by
  have nm : ∀ (k : Nat) (o : Obj), W.heap[k]? = some o → (o.isCells = false ∨ OfTy (fun t => t ≠ 9) o) → (W.setCell ⟨w.heap.size + 3, 0, none⟩ (.string (ofB g))).heap[k]? = some o := fun k o hk ho => by
    refine (Below.heap_setCell W ⟨w.heap.size + 3, 0, none⟩ _ k ?_).trans hk
    rintro e
    obtain ⟨c, hc, _⟩ := h.ebox
    have e' : k = w.heap.size + 3 := e
    rw [← e', hk] at hc
    cases hc
    rcases ho with ho | ⟨c', ty, fz, e, e1⟩
    · cases ho
    · cases e; exact e1 rfl
  refine ⟨⟨h.below.setCell (p := ⟨w.heap.size + 3, 0, none⟩) (by show w.heap.size ≤ w.heap.size + 3; omega) _, h.here.keep (fun k c fz _ hk => nm k _ hk (Or.inr ⟨c, _, fz, rfl, by decide⟩)), ?_, bld_keep h.bld (fun k c ty fz hk hty => nm k _ hk (Or.inr ⟨c, ty, fz, rfl, ?_⟩)), ?_⟩, nm⟩
  · obtain ⟨c, h1, h2⟩ := h.bbox
    exact ⟨c, nm _ _ h1 (Or.inr ⟨c, _, _, rfl, by decide⟩), h2⟩
  · rcases hty with rfl | rfl <;> decide
  · exact World.rowIs.congr (h.ebox.set 0 _) (fun j hj => by
      have : j = 0 := by omega
      subst this; simp)

end Go.Proofs.Ytinphcnknionmab
