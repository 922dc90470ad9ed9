/- Package logic: formulas, plainly and in memory. Ranges over a function whose elements come in an order that is known: the body is asked at the next one alone. Package logic: the way through a formula, plainly; kids. -/
import Derived.Test.YtlehlgipbhfioaaGreatLoD
import Derived.Test.YtlehlgipbhfioaaGreatP00
import Derived.RangeFuncNested
import Derived.RangeFuncBound
import Derived.RangeFuncCalls
import Derived.RangeFuncLeaves
import Derived.Shelf.Abstract
import Derived.Shelf.RegionOpen
import Derived.OwnWalkIn
import Derived.TacticsInMore
import Derived.LoopNIn
import Derived.LoopIn
import Derived.Sort.LoopGhostIn
namespace Go.Proofs.YtlehlgipbhfioaaGreat
open Go.RowKit Go.Maps

/-- Four cells of a Form, in a block of Forms. -/
def FCells (W : World) (b o : Nat) (op x y : Int) (kv : Value) : Prop :=
  ∃ c fz, W.heap[b]? = some (Obj.cells c 36 fz) ∧ c[o]? = some (.int .i64 op) ∧ c[o + 1]? = some (.int .i64 x) ∧ c[o + 2]? = some (.int .i64 y) ∧ c[o + 3]? = some kv ∧ fz = (0, 0)

/-- Forms that lie in some blocks. -/
inductive LayA (A : Nat → Prop) (W : World) : Lf → Prop where
  | mk {b o : Nat} {op x y : Int} {kv : Value} {kids : List Lf} (hb : A b) (hc : FCells W b o op x y kv) (hk : KidsIn kv kids) (h : ∀ k ∈ kids, LayA A W k) : LayA A W (.mk b o op x y kv kids)
/-- .. in blocks from B on. -/
abbrev Lay (B : Nat) (W : World) (t : Lf) : Prop := LayA (fun k => B ≤ k) W t

/-- Some blocks of Forms stay. -/
def FKeepA (A : Nat → Prop) (W W' : World) : Prop := ∀ (k : Nat) (c : Array Value) (fz : Nat × Nat), A k → W.heap[k]? = some (Obj.cells c 36 fz) → W'.heap[k]? = some (Obj.cells c 36 fz)
theorem FKeepA.trans {A : Nat → Prop} {X Y Z : World} (h : FKeepA A X Y) (k : FKeepA A Y Z) : FKeepA A X Z := fun i c fz hb x => k i c fz hb (h i c fz hb x)
theorem FKeepA.mono {A A' : Nat → Prop} {X Y : World} (h : FKeepA A X Y) (hA : ∀ k, A' k → A k) : FKeepA A' X Y := fun i c fz hb x => h i c fz (hA i hb) x
theorem FKeepA.setCell {A : Nat → Prop} (W : World) {b : Nat} (hb : ¬ A b) (o : Nat) (u : Value) : FKeepA A W (W.setCell ⟨b, o, none⟩ u) := fun k _ _ hk h => (Below.heap_setCell W ⟨b, o, none⟩ u k (by show k ≠ b; rintro rfl; exact hb hk)).trans h
/-- Blocks of Forms from B on stay. -/
abbrev FKeep (B : Nat) (W W' : World) : Prop := FKeepA (fun k => B ≤ k) W W'
theorem FKeep.refl (B : Nat) (W : World) : FKeep B W W := fun _ _ _ _ h => h
theorem FKeep.trans {B : Nat} {X Y Z : World} (h : FKeep B X Y) (k : FKeep B Y Z) : FKeep B X Z := FKeepA.trans h k
theorem FKeep.mono {B B' : Nat} {X Y : World} (h : FKeep B X Y) (hB : B ≤ B') : FKeep B' X Y := FKeepA.mono h (fun _ hk => Nat.le_trans hB hk)
theorem FKeep.toA {X Y : World} (h : FKeep 0 X Y) (A : Nat → Prop) : FKeepA A X Y := FKeepA.mono h (fun _ _ => Nat.zero_le _)
theorem FKeep.alloc (B : Nat) (W : World) (o : Obj) : FKeep B W (W.alloc o) := fun k _ _ _ h => (Below.heap_alloc W o k (Array.getElem?_eq_some_iff.1 h).1).trans h
theorem FKeep.setCell {B : Nat} (W : World) {b : Nat} (hb : b < B) (o : Nat) (u : Value) : FKeep B W (W.setCell ⟨b, o, none⟩ u) := FKeepA.setCell W (by show ¬ B ≤ b; omega) o u
theorem FKeep.of_kept {S : Nat → Prop} {W W' : World} (K : Kept S W W') (hS : ∀ k, S k → ∀ c fz, W.heap[k]? ≠ some (Obj.cells c 36 fz)) (B : Nat) : FKeep B W W' :=
  fun k c fz _ h => (K.block k (Array.getElem?_eq_some_iff.1 h).1 (fun x => hS k x c fz h)).trans h
theorem FKeep.kept0 {W W' : World} (K : Kept0 W W') (B : Nat) : FKeep B W W' := FKeep.of_kept K (fun _ x => x.elim) B

theorem FCells.keep {A : Nat → Prop} {W W' : World} (K : FKeepA A W W') {b o : Nat} (hb : A b) {op x y : Int} {kv : Value} (h : FCells W b o op x y kv) : FCells W' b o op x y kv := by
  obtain ⟨c, fz, h1, h2⟩ := h
  exact ⟨c, fz, K _ _ _ hb h1, h2⟩
theorem FCells.c0 {W : World} {b o : Nat} {op x y : Int} {kv : Value} (h : FCells W b o op x y kv) : W.cell? ⟨b, o, none⟩ = some (.int .i64 op) := by
  obtain ⟨c, fz, h1, h2, h3, h4, h5, _⟩ := h
  simp only [World.cell?, h1]; exact h2
theorem FCells.c1 {W : World} {b o : Nat} {op x y : Int} {kv : Value} (h : FCells W b o op x y kv) : W.cell? ⟨b, o + 1, none⟩ = some (.int .i64 x) := by
  obtain ⟨c, fz, h1, h2, h3, h4, h5, _⟩ := h
  simp only [World.cell?, h1]; exact h3
theorem FCells.c2 {W : World} {b o : Nat} {op x y : Int} {kv : Value} (h : FCells W b o op x y kv) : W.cell? ⟨b, o + 2, none⟩ = some (.int .i64 y) := by
  obtain ⟨c, fz, h1, h2, h3, h4, h5, _⟩ := h
  simp only [World.cell?, h1]; exact h4
theorem FCells.c3 {W : World} {b o : Nat} {op x y : Int} {kv : Value} (h : FCells W b o op x y kv) : W.cell? ⟨b, o + 3, none⟩ = some kv := by
  obtain ⟨c, fz, h1, h2, h3, h4, h5, _⟩ := h
  simp only [World.cell?, h1]; exact h5

theorem LayA.keep {A : Nat → Prop} {W W' : World} (K : FKeepA A W W') {t : Lf} (h : LayA A W t) : LayA A W' t := by
  induction h with
  | mk hb hc hk _ ih => exact .mk hb (hc.keep K hb) hk ih
theorem LayA.mono {A A' : Nat → Prop} {W : World} (hA : ∀ k, A k → A' k) {t : Lf} (h : LayA A W t) : LayA A' W t := by
  induction h with
  | mk hb hc hk _ ih => exact .mk (hA _ hb) hc hk ih
theorem LayA.lt {A : Nat → Prop} {W : World} {t : Lf} (h : LayA A W t) : LayA (fun k => A k ∧ k < W.heap.size) W t := by
  induction h with
  | mk hb hc hk _ ih => exact .mk ⟨hb, by obtain ⟨c, fz, h1, _⟩ := hc; exact (Array.getElem?_eq_some_iff.1 h1).1⟩ hc hk ih

/-- The value v is the Form f, whose Kids lie in some blocks. -/
def FValA (A : Nat → Prop) (W : World) (v : Value) (f : Fo) : Prop :=
  ∃ (op x y : Int) (kv : Value) (kids : List Lf), v = .agg #[.int .i64 op, .int .i64 x, .int .i64 y, kv] ∧ KidsIn kv kids ∧ (∀ k ∈ kids, LayA A W k) ∧ f = .mk op x y (kids.map Lf.er)
/-- .. from B on. -/
abbrev FVal (B : Nat) (W : World) (v : Value) (f : Fo) : Prop := FValA (fun k => B ≤ k) W v f
theorem FValA.keep {A : Nat → Prop} {W W' : World} (K : FKeepA A W W') {v : Value} {f : Fo} (h : FValA A W v f) : FValA A W' v f := by
  obtain ⟨op, x, y, kv, kids, h1, h2, h3, h4⟩ := h
  exact ⟨op, x, y, kv, kids, h1, h2, fun k hk => (h3 k hk).keep K, h4⟩
theorem FValA.mono {A A' : Nat → Prop} {W : World} (hA : ∀ k, A k → A' k) {v : Value} {f : Fo} (h : FValA A W v f) : FValA A' W v f := by
  obtain ⟨op, x, y, kv, kids, h1, h2, h3, h4⟩ := h
  exact ⟨op, x, y, kv, kids, h1, h2, fun k hk => (h3 k hk).mono hA, h4⟩
theorem FValA.lt {A : Nat → Prop} {W : World} {v : Value} {f : Fo} (h : FValA A W v f) : FValA (fun k => A k ∧ k < W.heap.size) W v f := by
  obtain ⟨op, x, y, kv, kids, h1, h2, h3, h4⟩ := h
  exact ⟨op, x, y, kv, kids, h1, h2, fun k hk => (h3 k hk).lt, h4⟩
theorem FVal.keep {B : Nat} {W W' : World} (K : FKeep B W W') {v : Value} {f : Fo} (h : FVal B W v f) : FVal B W' v f := FValA.keep K h
theorem FVal.mono {B B' : Nat} {W : World} (hB : B' ≤ B) {v : Value} {f : Fo} (h : FVal B W v f) : FVal B' W v f := FValA.mono (fun _ hk => Nat.le_trans hB hk) h
theorem FValA.form {A : Nat → Prop} {W : World} {v : Value} {f : Fo} (h : FValA A W v f) : ∃ (op x y : Int) (a : Option Addr) (n cap : Nat), v = .agg #[.int .i64 op, .int .i64 x, .int .i64 y, .slice a n cap] := by
  obtain ⟨op, x, y, kv, kids, h1, ⟨a, cap, rfl, _⟩, h3, h4⟩ := h
  exact ⟨op, x, y, a, _, cap, h1⟩

theorem FVal.form {B : Nat} {W : World} {v : Value} {f : Fo} (h : FVal B W v f) : ∃ (op x y : Int) (a : Option Addr) (n cap : Nat), v = .agg #[.int .i64 op, .int .i64 x, .int .i64 y, .slice a n cap] := FValA.form h

/-- The formulas that are read. -/
def Fo.eq (a b : Int) : Fo := .mk 0 a b []
def Fo.neg (f : Fo) : Fo := .mk 1 0 0 [f]
def Fo.two (op : Int) (f g : Fo) : Fo := .mk op 0 0 [f, g]

theorem FVal.eq (B : Nat) (W : World) (a b : Int) : FVal B W (.agg #[.int .i64 0, .int .i64 a, .int .i64 b, .slice none 0 0]) (.eq a b) :=
  ⟨0, a, b, .slice none 0 0, [], rfl, ⟨none, 0, rfl, Nat.le_refl _, Or.inl rfl⟩, by simp, rfl⟩

/-- One Form is laid as the Kids of another. -/
theorem FVal.one {B : Nat} {W : World} {op x y : Int} {kv : Value} {f : Fo} (h : FVal B W (.agg #[.int .i64 op, .int .i64 x, .int .i64 y, kv]) f) (hB : B ≤ W.heap.size) :
    FVal B (W.alloc (.cells #[.int .i64 op, .int .i64 x, .int .i64 y, kv] 36)) (.agg #[.int .i64 1, .int .i64 0, .int .i64 0, .slice (some ⟨W.heap.size, 0, none⟩) 1 1]) (.neg f) := by
  obtain ⟨op', x', y', kv', kids, h1, h2, h3, h4⟩ := h
  simp at h1
  obtain ⟨rfl, rfl, rfl, rfl⟩ := h1
  refine ⟨1, 0, 0, _, [.mk W.heap.size 0 op x y kv kids], rfl, ⟨_, 1, rfl, Nat.le_refl _, Or.inr ⟨W.heap.size, 0, rfl, ?_⟩⟩, ?_, ?_⟩
  · intro j t hj
    match j, hj with
    | 0, hj => simp at hj; rw [← hj]; exact ⟨rfl, rfl⟩
  · intro k hk
    obtain rfl := List.mem_singleton.1 hk
    exact .mk (show B ≤ W.heap.size from hB) ⟨_, _, World.alloc_heap_new W _, rfl, rfl, rfl, rfl, rfl⟩ h2 (fun k hk => (h3 k hk).keep (FKeep.alloc B W _))
  · rw [h4]; simp [Fo.neg, Lf.er]

/-- Two Forms are. -/
theorem FVal.pair {A : Nat → Prop} {W : World} {op x y op2 x2 y2 : Int} {kv kv2 : Value} {f g : Fo} (h : FValA A W (.agg #[.int .i64 op, .int .i64 x, .int .i64 y, kv]) f) (k : FValA A W (.agg #[.int .i64 op2, .int .i64 x2, .int .i64 y2, kv2]) g) (o : Int) (hB : A W.heap.size) :
    FValA A (W.alloc (.cells #[.int .i64 op, .int .i64 x, .int .i64 y, kv, .int .i64 op2, .int .i64 x2, .int .i64 y2, kv2] 36)) (.agg #[.int .i64 o, .int .i64 0, .int .i64 0, .slice (some ⟨W.heap.size, 0, none⟩) 2 2]) (.two o f g) := by
  obtain ⟨op', x', y', kv', kids, h1, h2, h3, h4⟩ := h
  simp at h1
  obtain ⟨rfl, rfl, rfl, rfl⟩ := h1
  obtain ⟨op', x', y', kv', kids2, h1, k2, k3, k4⟩ := k
  simp at h1
  obtain ⟨rfl, rfl, rfl, rfl⟩ := h1
  refine ⟨o, 0, 0, _, [.mk W.heap.size 0 op x y kv kids, .mk W.heap.size 4 op2 x2 y2 kv2 kids2], rfl, ⟨_, 2, rfl, Nat.le_refl _, Or.inr ⟨W.heap.size, 0, rfl, ?_⟩⟩, ?_, ?_⟩
  · intro j t hj
    match j, hj with
    | 0, hj => simp at hj; rw [← hj]; exact ⟨rfl, rfl⟩
    | 1, hj => simp at hj; rw [← hj]; exact ⟨rfl, rfl⟩
  · intro k hk
    simp at hk
    rcases hk with rfl | rfl
    · exact .mk hB ⟨_, _, World.alloc_heap_new W _, rfl, rfl, rfl, rfl, rfl⟩ h2 (fun k hk => (h3 k hk).keep ((FKeep.alloc 0 W _).toA A))
    · exact .mk hB ⟨_, _, World.alloc_heap_new W _, rfl, rfl, rfl, rfl, rfl⟩ k2 (fun k hk => (k3 k hk).keep ((FKeep.alloc 0 W _).toA A))
  · rw [h4, k4]; simp [Fo.two, Lf.er]

theorem rowIs_ne {w : World} {b : Nat} {t e : TypeId} {n : Nat} {f : Nat → Value} (h : w.rowIs b t n f) (hne : t ≠ e) (c : Array Value) (fz : Nat × Nat) : w.heap[b]? ≠ some (Obj.cells c e fz) := by
  intro hb
  obtain ⟨c', hc, _⟩ := h
  rw [hc] at hb
  simp at hb
  exact hne hb.2.1
theorem ownsRow_ne {w : World} {base size k b : Nat} {t e : TypeId} {v : Value} {xs : List Value} (hr : w.ownsRow base t size v k xs) (hb : v.ownBlock = some b) (hne : t ≠ e) (c : Array Value) (fz : Nat × Nat) : w.heap[b]? ≠ some (Obj.cells c e fz) := by
  intro hb2
  rcases hr.2 with ⟨rfl, _⟩ | ⟨g, cap, cur, rfl, _, hg, _⟩
  · simp [Value.ownBlock] at hb
  · simp [Value.ownBlock] at hb
    subst hb
    rw [hb2] at hg
    simp at hg
    exact hne hg.2.1.symm
theorem mapIs_ne {w : World} {k : TypeId} {b : Nat} {D : DataW Unit} (h : mapIs w k b D) (c : Array Value) (e : TypeId) (fz : Nat × Nat) : w.heap[b]? ≠ some (Obj.cells c e fz) := by
  obtain ⟨es, clock, hb, _⟩ := h
  rw [hb]
  simp

/-- What the bank may change are no Forms. -/
theorem Bk.noForm {w : World} {base p : Nat} {ev : Value} {nb fb : Nat} {l : List Tm} (h : Bk w base p ev nb fb l) {k : Nat} (hk : BFoot p ev nb fb k) (c : Array Value) (fz : Nat × Nat) : w.heap[k]? ≠ some (Obj.cells c 36 fz) := by
  rcases hk with rfl | rfl | rfl | e
  · exact rowIs_ne h.bank (by decide) c fz
  · obtain ⟨D, h1, _⟩ := h.nums
    exact mapIs_ne h1 c _ fz
  · obtain ⟨D, h1, _⟩ := h.fsts
    exact mapIs_ne h1 c _ fz
  · exact ownsRow_ne h.rows e (by decide) c fz
/-- The parser's steps keep Forms. -/
theorem PB.fkeep {w w' : World} {base r p : Nat} {ev ev' : Value} {nb fb : Nat} {s : ByteArray} {i d : Nat} {l : List Tm} (h : PB w base r p ev nb fb s i d l) (G : Grew (fun k => k = r) p nb fb w ev w' ev')  (B : Nat) : FKeep B w w' :=
  FKeep.of_kept G.kept (fun k hk c fz => hk.elim (fun e => e ▸ rowIs_ne h.lp.row (by decide) c fz) (fun e => h.bk.noForm e c fz)) B

set_option maxHeartbeats 400000 in
/-- A formula is within another. -/
theorem negation_in (w : World) (B : Nat) (v : Value) (f : Fo) (h : FVal B w v f) (hB : B ≤ w.heap.size) :
    Calls Tryz.prog 231 #[v] w fun e w' => ∃ u, e = .returned u ∧ FVal B w' u (.neg f) ∧ Kept0 w w' := by
  obtain ⟨op, x, y, a, n, cap, rfl⟩ := h.form
  have K : ∀ o1 o2 o3 : Obj, Kept0 w (((w.alloc o1).alloc o2).alloc o3) := fun o1 o2 o3 => Kept.alloc (Kept.alloc (Kept.alloc (Kept.refl _ w) _) _) _
  have N := fun o1 o2 : Obj => FVal.one ((h.keep (FKeep.alloc B w o1)).keep (FKeep.alloc B (w.alloc o1) o2)) (by simp; omega)
  go_enter Tryz.func231, Tryz.ntmps231
  go_wp2_with fail
  refine ⟨rfl, .agg #[.int .i64 1, .int .i64 0, .int .i64 0, .slice (some ⟨w.heap.size + 2, 0, none⟩) 1 1], by simp [results, Tryz.results231, go_sem], ?_⟩
  refine ⟨_, rfl, ?_, K _ _ _⟩
  have := N (.cells #[.int .i64 op, .int .i64 x, .int .i64 y, .slice a n cap] 36) (.cells #[.int .i64 1, .int .i64 0, .int .i64 0, .slice (some ⟨w.heap.size + 1 + 1, 0, none⟩) 1 1] 36)
  simpa using this

end Go.Proofs.YtlehlgipbhfioaaGreat

namespace Go.Proofs.YtlehlgipbhfioaaGreat
open Go.RowKit Go.Shelf

/-- Cells of one of some types. -/
def OfTy (tys : TypeId → Prop) (o : Obj) : Prop := ∃ c ty fz, o = Obj.cells c ty fz ∧ tys ty

/-- What an iterator does between two rounds: below B nothing changes, from B on cells stay that are not of type ty. -/
structure Ow (ty : TypeId) (B : Nat) (W W' : World) : Prop where
  os : W'.os = W.os
  tape : W'.tape = W.tape
  output : W'.output = W.output
  size : W.heap.size ≤ W'.heap.size
  same : ∀ (k : Nat) (o : Obj), W.heap[k]? = some o → (k < B ∨ (o.isCells = true ∧ ¬ OfTy (fun t => t = ty) o)) → W'.heap[k]? = some o

/-- What a round keeps: from B on what is no cells, and the cells of some types. -/
structure Kr (tys : TypeId → Prop) (B : Nat) (W W' : World) : Prop where
  size : W.heap.size ≤ W'.heap.size
  same : ∀ (k : Nat) (o : Obj), W.heap[k]? = some o → ((B ≤ k ∧ o.isCells = false) ∨ OfTy tys o) → W'.heap[k]? = some o

theorem Ow.refl (ty : TypeId) (B : Nat) (W : World) : Ow ty B W W := ⟨rfl, rfl, rfl, Nat.le_refl _, fun _ _ h _ => h⟩
theorem Ow.trans {ty : TypeId} {B : Nat} {X Y Z : World} (h : Ow ty B X Y) (k : Ow ty B Y Z) : Ow ty B X Z :=
  ⟨k.os.trans h.os, k.tape.trans h.tape, k.output.trans h.output, Nat.le_trans h.size k.size, fun i o hi ho => k.same i o (h.same i o hi ho) ho⟩
theorem Ow.mono {ty : TypeId} {B B' : Nat} {X Y : World} (h : Ow ty B X Y) (hB : B' ≤ B) : Ow ty B' X Y :=
  ⟨h.os, h.tape, h.output, h.size, fun i o hi ho => h.same i o hi (ho.imp (fun x => by omega) id)⟩
theorem Kr.refl (tys : TypeId → Prop) (B : Nat) (W : World) : Kr tys B W W := ⟨Nat.le_refl _, fun _ _ h _ => h⟩
theorem Kr.trans {tys : TypeId → Prop} {B : Nat} {X Y Z : World} (h : Kr tys B X Y) (k : Kr tys B Y Z) : Kr tys B X Z :=
  ⟨Nat.le_trans h.size k.size, fun i o hi ho => k.same i o (h.same i o hi ho) ho⟩
theorem Kr.mono {tys : TypeId → Prop} {B B' : Nat} {X Y : World} (h : Kr tys B X Y) (hB : B ≤ B') : Kr tys B' X Y :=
  ⟨h.size, fun i o hi ho => h.same i o hi (ho.imp (fun x => ⟨by omega, x.2⟩) id)⟩

theorem OfTy.isCells {tys : TypeId → Prop} {o : Obj} (h : OfTy tys o) : o.isCells = true := by
  obtain ⟨c, ty, fz, rfl, _⟩ := h
  rfl

/-- A block that is no cells is laid anew. -/
theorem Ow.putObj {ty : TypeId} {B : Nat} {W : World} {l : Nat} {o : Obj} (o' : Obj) (hB : B ≤ l) (hl : W.heap[l]? = some o) (ho : o.isCells = false) : Ow ty B W (W.putObj l o') := by
  refine ⟨rfl, rfl, rfl, by simp, fun k x hk hx => ?_⟩
  rw [World.putObj_heap_other]
  · exact hk
  · rintro rfl
    rcases hx with hx | hx
    · omega
    · rw [hl] at hk
      cases hk
      rw [ho] at hx
      cases hx.1
theorem Kr.putObj {tys : TypeId → Prop} {B : Nat} {W : World} {l : Nat} {o : Obj} (o' : Obj) (hB : l < B) (hl : W.heap[l]? = some o) (ho : o.isCells = false) : Kr tys B W (W.putObj l o') := by
  refine ⟨by simp, fun k x hk hx => ?_⟩
  rw [World.putObj_heap_other]
  · exact hk
  · rintro rfl
    rcases hx with hx | hx
    · omega
    · rw [hl] at hk
      cases hk
      rw [hx.isCells] at ho
      cases ho
theorem Ow.alloc {ty : TypeId} {B : Nat} (W : World) (o : Obj) : Ow ty B W (W.alloc o) :=
  ⟨rfl, rfl, rfl, by simp, fun k _ hk _ => (Below.heap_alloc W o k (Array.getElem?_eq_some_iff.1 hk).1).trans hk⟩
theorem Kr.alloc {tys : TypeId → Prop} {B : Nat} (W : World) (o : Obj) : Kr tys B W (W.alloc o) :=
  ⟨by simp, fun k _ hk _ => (Below.heap_alloc W o k (Array.getElem?_eq_some_iff.1 hk).1).trans hk⟩

/-- An iterator whose elements are tr, in this order, under a body that always goes on. -/
def SeqT {α : Type} (n : Nat) (P : Program) (tys : TypeId → Prop) (ty : TypeId) (g : Nat) (lb : Array Value) (encs : α → Array Value) (tr : List α) (w : World) : Prop :=
  ∀ (l : Nat) (J : Nat → World → Prop) (W : World), Below w.heap.size w W → (∀ i A B, J i A → Ow ty W.heap.size A B → J i B) →
    (∀ i x W1, tr[i]? = some x → J i W1 → YieldAt Fence.wide (n - 1) P l (encs x) W1 fun e W' => e = .returned (.bool true) ∧ J (i + 1) W' ∧ Kr tys W.heap.size W1 W') →
    J 0 W → CallsIn Fence.wide n P g (#[.func (.yield l) #[] #[]] ++ lb) W fun e W' => (∃ v, e = .returned v) ∧ J tr.length W'

/-- How the body of a round ends. -/
def goesOn (tys : TypeId → Prop) (B : Nat) (I : World → Prop) (W : World) : Exit → Act → World → Prop
  | .normal, _, W' => Kr tys B W W' ∧ I W'
  | _, _, _ => False

theorem rangeT {α : Type} {n : Nat} {P : Program} {tys : TypeId → Prop} {ty : TypeId} {g : Operand} {ps : Array Tmp} {assign body : Code} {Q : Exit → Act → World → Prop} {a : Act} {w : World}
    (h1 : 1 ≤ n) {gf : Nat} {lb : Array Value} (hg : a.eval g = .func (.func gf) #[] lb) (eg : ∀ args w, (callFunc gf args).run P w = .ok (.enter gf args) w)
    {encs : α → Array Value} {tr : List α} {w0 : World} (hseq : SeqT (n - 1) P tys ty gf lb encs tr w0) (hb0 : Below w0.heap.size w0 w) (hps : ∀ x, (encs x).size = ps.size)
    (I : Nat → World → Prop) (hI : ∀ i A B, I i A → Ow ty w.heap.size A B → I i B) (h0 : I 0 w) (a₁ : α → Act)
    (hassign : ∀ (l : Nat) (x : α) (W : World) (K : Act → World → Prop), K (a₁ x) W →
      assign.wpIn (Fence.wide.inRound l) (n - 1 - 1) P (Exit.then K (fun _ _ _ => False)) { tmps := (ps.zip (encs x)).foldl (fun t (p, v) => t.setIfInBounds p v) a.tmps, defers := [] } W)
    (hbody : ∀ (l i : Nat) (x : α) (W : World), tr[i]? = some x → w.heap.size ≤ W.heap.size → I i W → body.wpIn (Fence.wide.inRound l) (n - 1 - 1) P (goesOn tys w.heap.size (I (i + 1)) W) (a₁ x) W)
    (hdone : ∀ (D : Nat) (W : World), w.heap.size ≤ D → I tr.length W → W.heap[D]? = some (.deferred (some [])) → Q .normal { a with defers := { target := .collected D, args := #[] } :: a.defers } W) :
    (Code.rangeFunc g ps assign body).wpIn Fence.wide n P Q a w := by
  refine wpIn_rangeFunc ?_
  intro fn hfn
  show ∃ _, _
  rw [show Fence.wide.round = none from rfl]
  obtain ⟨rec, hrec⟩ : ∃ rec : LoopState → Option Code → Loop, rec = fun st pe => { state := st, pending := pe, fn, tmps := a.tmps, params := ps, assign, body, defers := w.heap.size } := ⟨_, rfl⟩
  obtain ⟨W1, hW1⟩ : ∃ W1, (w.alloc (.deferred (some []))).alloc (.loop (rec .ready none)) = W1 := ⟨_, rfl⟩
  have hsz : W1.heap.size = w.heap.size + 2 := by rw [← hW1]; simp
  have hL1 : W1.heap[w.heap.size + 1]? = some (.loop (rec .ready none)) := by
    have := World.alloc_heap_new (w.alloc (.deferred (some []))) (.loop (rec .ready none))
    rw [World.size_alloc, hW1] at this
    exact this
  have hD1 : W1.heap[w.heap.size]? = some (.deferred (some [])) := by
    rw [← hW1]
    exact (Below.heap_alloc _ _ _ (by simp)).trans (World.alloc_heap_new w _)
  have hO1 : Ow ty w.heap.size w W1 := by rw [← hW1]; exact (Ow.alloc w _).trans (Ow.alloc _ _)
  have hb1 : Below w0.heap.size w0 W1 := by
    rw [← hW1]
    exact hb0.trans ((((Below.refl _ w).alloc (Nat.le_refl _) _).alloc (by simp) _).mono hb0.size)
  refine ⟨w.heap.size + 1, [{ target := .collected w.heap.size, args := #[] }], W1, { target := .fn (.func gf) lb, args := #[.func (.yield (w.heap.size + 1)) #[] #[]] }, W1, gf, #[.func (.yield (w.heap.size + 1)) #[] #[]] ++ lb, W1, ?_, ?_, ?_, ?_, fun _ => h1, ?_⟩
  · rw [← hW1, hrec]; exact run_enterLoop_outer _ _ _ _ _
  · simp only [resolve, hg]
    simp [go_sem]
  · intro f' _; trivial
  · simp [invoke, go_sem, eg]
  · refine (hseq (w.heap.size + 1) (fun i W => I i W ∧ W.heap[w.heap.size + 1]? = some (.loop (rec .ready none)) ∧ W.heap[w.heap.size]? = some (.deferred (some [])) ∧ w.heap.size ≤ W.heap.size) W1 hb1 ?_ ?_ ⟨hI 0 _ _ h0 hO1, hL1, hD1, by omega⟩).mono ?_
    · rintro i A B ⟨hi, hl, hd, hs⟩ hO
      exact ⟨hI i A B hi (hO.mono (by omega)), hO.same _ _ hl (Or.inl (by omega)), hO.same _ _ hd (Or.inl (by omega)), Nat.le_trans hs hO.size⟩
    · rintro i x W hx ⟨hi, hl, hd, hs⟩
      have hlt : w.heap.size + 1 < W.heap.size := (Array.getElem?_eq_some_iff.1 hl).1
      have hy := run_yield (P := P) (args := encs x) hl (by rw [hrec]; exact hps x)
      rw [hrec] at hy
      refine ⟨fn, _, assign, body, hy, roundIn_of_wpIn hfn (hassign _ x W _ ?_)⟩
      clear hy
      refine ⟨_, run_beginRound hl (by rw [hrec]), ?_⟩
      obtain ⟨W2, hW2⟩ : ∃ W2, W.putObj (w.heap.size + 1) (.loop { rec .ready none with state := .busy }) = W2 := ⟨_, rfl⟩
      have hl2 : W2.heap[w.heap.size + 1]? = some (.loop { rec .ready none with state := .busy }) := by rw [← hW2]; exact World.putObj_heap_same hlt
      have hd2 : W2.heap[w.heap.size]? = some (.deferred (some [])) := by rw [← hW2]; exact (World.putObj_heap_other (by omega)).trans hd
      have hO2 : Ow ty w.heap.size W W2 := by rw [← hW2]; exact Ow.putObj _ (by omega) hl rfl
      have hK2 : Kr tys W1.heap.size W W2 := by rw [← hW2]; exact Kr.putObj _ (by omega) hl rfl
      rw [hW2]
      refine wpIn_mono (hbody _ i x W2 hx (Nat.le_trans hs hO2.size) (hI i _ _ hi hO2)) ?_
      rintro e a3 W3 hp
      cases e with
      | normal =>
        obtain ⟨hk3, hi3⟩ := hp
        have hl3 := hk3.same _ _ hl2 (Or.inl ⟨by omega, rfl⟩)
        have hd3 := hk3.same _ _ hd2 (Or.inl ⟨by omega, rfl⟩)
        have hlt3 := (Array.getElem?_eq_some_iff.1 hl3).1
        have hr := run_endRound (P := P) none hl3
        refine ⟨_, _, hr, rfl, ⟨hI _ _ _ hi3 (Ow.putObj _ (by omega) hl3 rfl), ?_, (World.putObj_heap_other (by omega)).trans hd3, by simp; omega⟩, (hK2.trans (hk3.mono (by omega))).trans (Kr.putObj _ (by omega) hl3 rfl)⟩
        rw [World.putObj_heap_same hlt3, hrec]
        rfl
      | ret => exact hp.elim
      | exit id => exact hp.elim
      | goto t => exact hp.elim
      | panic ch => exact hp.elim
      | outgrown => exact hp.elim
    · rintro e W2 ⟨⟨v, rfl⟩, hi, hl, hd, hs⟩
      exact ⟨none, _, by have := run_endLoop (P := P) hl (by rw [hrec]; simp); rw [hrec] at this; exact this, hdone _ _ (Nat.le_refl _) (hI _ _ _ hi (Ow.putObj _ (by omega) hl rfl)) ((World.putObj_heap_other (by omega)).trans hd)⟩

end Go.Proofs.YtlehlgipbhfioaaGreat

namespace Go.Proofs.YtlehlgipbhfioaaGreat
open Go.RowKit Go.Shelf

/-- The Forms that are gone through within one. -/
def Lf.ks (t : Lf) : List Lf := if t.op = 0 then [] else t.kids

theorem ks_lt {t k : Lf} (h : k ∈ t.ks) : SizeOf.sizeOf k < SizeOf.sizeOf t := by
  unfold Lf.ks at h
  split at h
  · cases h
  · cases t with
    | mk b o op x y kv kids =>
      have : k ∈ kids := h
      have := List.sizeOf_lt_of_mem this
      simp
      omega

/-- What comes, from a Form of which d Kids are done. -/
def wk (t : Lf) (d : Nat) : List (Lf × Nat) := (t, d) :: (match _h : t.ks[d]? with
  | none => []
  | some k => wk k 0 ++ wk t (d + 1))
termination_by (SizeOf.sizeOf t, t.ks.length - d)
decreasing_by
  · exact Prod.Lex.left _ _ (ks_lt (List.mem_of_getElem? _h))
  · have := (List.getElem?_eq_some_iff.1 _h).1
    exact Prod.Lex.right _ (by omega)

theorem wk_end {t : Lf} {d : Nat} (h : t.ks[d]? = none) : wk t d = [(t, d)] := by
  rw [wk]
  split
  · rfl
  · next k hk => rw [h] at hk; cases hk
theorem wk_step {t k : Lf} {d : Nat} (h : t.ks[d]? = some k) : wk t d = (t, d) :: (wk k 0 ++ wk t (d + 1)) := by
  rw [wk]
  split
  · next hk => rw [h] at hk; cases hk
  · next k' hk => rw [h] at hk; cases hk; rfl

/-- What is still to come, by the way down (the last one first). -/
def rem (st : List (Lf × Nat)) : List (Lf × Nat) := st.flatMap fun x => wk x.1 x.2

/-- All Forms of one lie in memory. -/
abbrev Here (W : World) (t : Lf) : Prop := LayA (fun _ => True) W t

theorem Here.cells {W : World} {t : Lf} (h : Here W t) : FCells W t.b t.o t.op t.x t.y t.kv := by
  cases h with
  | mk hb hc hk _ => exact hc
theorem Here.kidsIn {W : World} {t : Lf} (h : Here W t) : KidsIn t.kv t.kids := by
  cases h with
  | mk hb hc hk _ => exact hk
theorem Here.kid {W : World} {t k : Lf} (h : Here W t) (hk : k ∈ t.kids) : Here W k := by
  cases h with
  | mk _ _ _ hh => exact hh k hk

set_option maxHeartbeats 1000000 in
/-- kids. -/
theorem kids_in (w : World) (t : Lf) (h : Here w t) :
    Calls Tryz.prog 156 #[.pointer (some ⟨t.b, t.o, none⟩)] w fun e w' => e = .returned (if t.op = 0 then .slice none 0 0 else t.kv) ∧ w' = w := by
  have c0 := h.cells.c0
  have c3 := h.cells.c3
  obtain ⟨a, cap, hkv, _⟩ := h.kidsIn
  rw [hkv] at c3 ⊢
  go_enter Tryz.func156, Tryz.ntmps156
  by_cases h0 : t.op = 0
  · rw [if_pos h0]
    rw [h0] at c0
    go_wp2_with fail
    go_ret
    exact ⟨rfl, rfl⟩
  · rw [if_neg h0]
    have d0 : (t.op == 0) = false := by simpa using h0
    go_wp2_with fail
    go_ret
    exact ⟨rfl, rfl⟩

end Go.Proofs.YtlehlgipbhfioaaGreat
