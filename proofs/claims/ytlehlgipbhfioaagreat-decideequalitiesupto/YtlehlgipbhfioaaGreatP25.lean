/- Package logic: formulas, plainly and in memory. Package close: what a closure says, plainly. Package logic: the way through a formula, plainly; kids. law05: Given. Package logic: the parser, plainly. -/
import Derived.Test.YtlehlgipbhfioaaGreatLoD
import Derived.Test.YtlehlgipbhfioaaGreatP00
import Derived.Test.YtlehlgipbhfioaaGreatCloN
import Derived.Sort.LoopGhostIn
import Derived.Maps.AppendAt
namespace Go.Proofs.YtlehlgipbhfioaaGreat
open Go.RowKit Go.Maps

/-- Four cells of a Form, in a block of Forms. -/
def FCells (W : World) (b o : Nat) (op x y : Int) (kv : Value) : Prop :=
  ∃ c fz, W.heap[b]? = some (Obj.cells c 36 fz) ∧ c[o]? = some (.int .i64 op) ∧ c[o + 1]? = some (.int .i64 x) ∧ c[o + 2]? = some (.int .i64 y) ∧ c[o + 3]? = some kv ∧ fz = (0, 0)

/-- Forms that lie in some blocks. -/
inductive LayA (A : Nat → Prop) (W : World) : Lf → Prop where
  | mk {b o : Nat} {op x y : Int} {kv : Value} {kids : List Lf} (hb : A b) (hc : FCells W b o op x y kv) (hk : KidsIn kv kids) (h : ∀ k ∈ kids, LayA A W k) : LayA A W (.mk b o op x y kv kids)
/-- .. in blocks from B on. -/
abbrev Lay (B : Nat) (W : World) (t : Lf) : Prop := LayA (fun k => B ≤ k) W t

/-- Some blocks of Forms stay. -/
def FKeepA (A : Nat → Prop) (W W' : World) : Prop := ∀ (k : Nat) (c : Array Value) (fz : Nat × Nat), A k → W.heap[k]? = some (Obj.cells c 36 fz) → W'.heap[k]? = some (Obj.cells c 36 fz)
theorem FKeepA.trans {A : Nat → Prop} {X Y Z : World} (h : FKeepA A X Y) (k : FKeepA A Y Z) : FKeepA A X Z := fun i c fz hb x => k i c fz hb (h i c fz hb x)
theorem FKeepA.mono {A A' : Nat → Prop} {X Y : World} (h : FKeepA A X Y) (hA : ∀ k, A' k → A k) : FKeepA A' X Y := fun i c fz hb x => h i c fz (hA i hb) x
theorem FKeepA.setCell {A : Nat → Prop} (W : World) {b : Nat} (hb : ¬ A b) (o : Nat) (u : Value) : FKeepA A W (W.setCell ⟨b, o, none⟩ u) := fun k _ _ hk h => (Below.heap_setCell W ⟨b, o, none⟩ u k (by show k ≠ b; rintro rfl; exact hb hk)).trans h
/-- Blocks of Forms from B on stay. -/
abbrev FKeep (B : Nat) (W W' : World) : Prop := FKeepA (fun k => B ≤ k) W W'
theorem FKeep.refl (B : Nat) (W : World) : FKeep B W W := fun _ _ _ _ h => h
theorem FKeep.trans {B : Nat} {X Y Z : World} (h : FKeep B X Y) (k : FKeep B Y Z) : FKeep B X Z := FKeepA.trans h k
theorem FKeep.mono {B B' : Nat} {X Y : World} (h : FKeep B X Y) (hB : B ≤ B') : FKeep B' X Y := FKeepA.mono h (fun _ hk => Nat.le_trans hB hk)
theorem FKeep.toA {X Y : World} (h : FKeep 0 X Y) (A : Nat → Prop) : FKeepA A X Y := FKeepA.mono h (fun _ _ => Nat.zero_le _)
theorem FKeep.alloc (B : Nat) (W : World) (o : Obj) : FKeep B W (W.alloc o) := fun k _ _ _ h => (Below.heap_alloc W o k (Array.getElem?_eq_some_iff.1 h).1).trans h
theorem FKeep.setCell {B : Nat} (W : World) {b : Nat} (hb : b < B) (o : Nat) (u : Value) : FKeep B W (W.setCell ⟨b, o, none⟩ u) := FKeepA.setCell W (by show ¬ B ≤ b; omega) o u
theorem FKeep.of_kept {S : Nat → Prop} {W W' : World} (K : Kept S W W') (hS : ∀ k, S k → ∀ c fz, W.heap[k]? ≠ some (Obj.cells c 36 fz)) (B : Nat) : FKeep B W W' :=
  fun k c fz _ h => (K.block k (Array.getElem?_eq_some_iff.1 h).1 (fun x => hS k x c fz h)).trans h
theorem FKeep.kept0 {W W' : World} (K : Kept0 W W') (B : Nat) : FKeep B W W' := FKeep.of_kept K (fun _ x => x.elim) B

theorem FCells.keep {A : Nat → Prop} {W W' : World} (K : FKeepA A W W') {b o : Nat} (hb : A b) {op x y : Int} {kv : Value} (h : FCells W b o op x y kv) : FCells W' b o op x y kv := by
  obtain ⟨c, fz, h1, h2⟩ := h
  exact ⟨c, fz, K _ _ _ hb h1, h2⟩
theorem FCells.c0 {W : World} {b o : Nat} {op x y : Int} {kv : Value} (h : FCells W b o op x y kv) : W.cell? ⟨b, o, none⟩ = some (.int .i64 op) := by
  obtain ⟨c, fz, h1, h2, h3, h4, h5, _⟩ := h
  simp only [World.cell?, h1]; exact h2
theorem FCells.c1 {W : World} {b o : Nat} {op x y : Int} {kv : Value} (h : FCells W b o op x y kv) : W.cell? ⟨b, o + 1, none⟩ = some (.int .i64 x) := by
  obtain ⟨c, fz, h1, h2, h3, h4, h5, _⟩ := h
  simp only [World.cell?, h1]; exact h3
theorem FCells.c2 {W : World} {b o : Nat} {op x y : Int} {kv : Value} (h : FCells W b o op x y kv) : W.cell? ⟨b, o + 2, none⟩ = some (.int .i64 y) := by
  obtain ⟨c, fz, h1, h2, h3, h4, h5, _⟩ := h
  simp only [World.cell?, h1]; exact h4
theorem FCells.c3 {W : World} {b o : Nat} {op x y : Int} {kv : Value} (h : FCells W b o op x y kv) : W.cell? ⟨b, o + 3, none⟩ = some kv := by
  obtain ⟨c, fz, h1, h2, h3, h4, h5, _⟩ := h
  simp only [World.cell?, h1]; exact h5

theorem LayA.keep {A : Nat → Prop} {W W' : World} (K : FKeepA A W W') {t : Lf} (h : LayA A W t) : LayA A W' t := by
  induction h with
  | mk hb hc hk _ ih => exact .mk hb (hc.keep K hb) hk ih
theorem LayA.mono {A A' : Nat → Prop} {W : World} (hA : ∀ k, A k → A' k) {t : Lf} (h : LayA A W t) : LayA A' W t := by
  induction h with
  | mk hb hc hk _ ih => exact .mk (hA _ hb) hc hk ih
theorem LayA.lt {A : Nat → Prop} {W : World} {t : Lf} (h : LayA A W t) : LayA (fun k => A k ∧ k < W.heap.size) W t := by
  induction h with
  | mk hb hc hk _ ih => exact .mk ⟨hb, by obtain ⟨c, fz, h1, _⟩ := hc; exact (Array.getElem?_eq_some_iff.1 h1).1⟩ hc hk ih

/-- The value v is the Form f, whose Kids lie in some blocks. -/
def FValA (A : Nat → Prop) (W : World) (v : Value) (f : Fo) : Prop :=
  ∃ (op x y : Int) (kv : Value) (kids : List Lf), v = .agg #[.int .i64 op, .int .i64 x, .int .i64 y, kv] ∧ KidsIn kv kids ∧ (∀ k ∈ kids, LayA A W k) ∧ f = .mk op x y (kids.map Lf.er)
/-- .. from B on. -/
abbrev FVal (B : Nat) (W : World) (v : Value) (f : Fo) : Prop := FValA (fun k => B ≤ k) W v f
theorem FValA.keep {A : Nat → Prop} {W W' : World} (K : FKeepA A W W') {v : Value} {f : Fo} (h : FValA A W v f) : FValA A W' v f := by
  obtain ⟨op, x, y, kv, kids, h1, h2, h3, h4⟩ := h
  exact ⟨op, x, y, kv, kids, h1, h2, fun k hk => (h3 k hk).keep K, h4⟩
theorem FValA.mono {A A' : Nat → Prop} {W : World} (hA : ∀ k, A k → A' k) {v : Value} {f : Fo} (h : FValA A W v f) : FValA A' W v f := by
  obtain ⟨op, x, y, kv, kids, h1, h2, h3, h4⟩ := h
  exact ⟨op, x, y, kv, kids, h1, h2, fun k hk => (h3 k hk).mono hA, h4⟩
theorem FValA.lt {A : Nat → Prop} {W : World} {v : Value} {f : Fo} (h : FValA A W v f) : FValA (fun k => A k ∧ k < W.heap.size) W v f := by
  obtain ⟨op, x, y, kv, kids, h1, h2, h3, h4⟩ := h
  exact ⟨op, x, y, kv, kids, h1, h2, fun k hk => (h3 k hk).lt, h4⟩
theorem FVal.keep {B : Nat} {W W' : World} (K : FKeep B W W') {v : Value} {f : Fo} (h : FVal B W v f) : FVal B W' v f := FValA.keep K h
theorem FVal.mono {B B' : Nat} {W : World} (hB : B' ≤ B) {v : Value} {f : Fo} (h : FVal B W v f) : FVal B' W v f := FValA.mono (fun _ hk => Nat.le_trans hB hk) h
theorem FValA.form {A : Nat → Prop} {W : World} {v : Value} {f : Fo} (h : FValA A W v f) : ∃ (op x y : Int) (a : Option Addr) (n cap : Nat), v = .agg #[.int .i64 op, .int .i64 x, .int .i64 y, .slice a n cap] := by
  obtain ⟨op, x, y, kv, kids, h1, ⟨a, cap, rfl, _⟩, h3, h4⟩ := h
  exact ⟨op, x, y, a, _, cap, h1⟩

theorem FVal.form {B : Nat} {W : World} {v : Value} {f : Fo} (h : FVal B W v f) : ∃ (op x y : Int) (a : Option Addr) (n cap : Nat), v = .agg #[.int .i64 op, .int .i64 x, .int .i64 y, .slice a n cap] := FValA.form h

/-- The formulas that are read. -/
def Fo.eq (a b : Int) : Fo := .mk 0 a b []
def Fo.neg (f : Fo) : Fo := .mk 1 0 0 [f]
def Fo.two (op : Int) (f g : Fo) : Fo := .mk op 0 0 [f, g]

theorem FVal.eq (B : Nat) (W : World) (a b : Int) : FVal B W (.agg #[.int .i64 0, .int .i64 a, .int .i64 b, .slice none 0 0]) (.eq a b) :=
  ⟨0, a, b, .slice none 0 0, [], rfl, ⟨none, 0, rfl, Nat.le_refl _, Or.inl rfl⟩, by simp, rfl⟩

/-- One Form is laid as the Kids of another. -/
theorem FVal.one {B : Nat} {W : World} {op x y : Int} {kv : Value} {f : Fo} (h : FVal B W (.agg #[.int .i64 op, .int .i64 x, .int .i64 y, kv]) f) (hB : B ≤ W.heap.size) :
    FVal B (W.alloc (.cells #[.int .i64 op, .int .i64 x, .int .i64 y, kv] 36)) (.agg #[.int .i64 1, .int .i64 0, .int .i64 0, .slice (some ⟨W.heap.size, 0, none⟩) 1 1]) (.neg f) := by
  obtain ⟨op', x', y', kv', kids, h1, h2, h3, h4⟩ := h
  simp at h1
  obtain ⟨rfl, rfl, rfl, rfl⟩ := h1
  refine ⟨1, 0, 0, _, [.mk W.heap.size 0 op x y kv kids], rfl, ⟨_, 1, rfl, Nat.le_refl _, Or.inr ⟨W.heap.size, 0, rfl, ?_⟩⟩, ?_, ?_⟩
  · intro j t hj
    match j, hj with
    | 0, hj => simp at hj; rw [← hj]; exact ⟨rfl, rfl⟩
  · intro k hk
    obtain rfl := List.mem_singleton.1 hk
    exact .mk (show B ≤ W.heap.size from hB) ⟨_, _, World.alloc_heap_new W _, rfl, rfl, rfl, rfl, rfl⟩ h2 (fun k hk => (h3 k hk).keep (FKeep.alloc B W _))
  · rw [h4]; simp [Fo.neg, Lf.er]

/-- Two Forms are. -/
theorem FVal.pair {A : Nat → Prop} {W : World} {op x y op2 x2 y2 : Int} {kv kv2 : Value} {f g : Fo} (h : FValA A W (.agg #[.int .i64 op, .int .i64 x, .int .i64 y, kv]) f) (k : FValA A W (.agg #[.int .i64 op2, .int .i64 x2, .int .i64 y2, kv2]) g) (o : Int) (hB : A W.heap.size) :
    FValA A (W.alloc (.cells #[.int .i64 op, .int .i64 x, .int .i64 y, kv, .int .i64 op2, .int .i64 x2, .int .i64 y2, kv2] 36)) (.agg #[.int .i64 o, .int .i64 0, .int .i64 0, .slice (some ⟨W.heap.size, 0, none⟩) 2 2]) (.two o f g) := by
  obtain ⟨op', x', y', kv', kids, h1, h2, h3, h4⟩ := h
  simp at h1
  obtain ⟨rfl, rfl, rfl, rfl⟩ := h1
  obtain ⟨op', x', y', kv', kids2, h1, k2, k3, k4⟩ := k
  simp at h1
  obtain ⟨rfl, rfl, rfl, rfl⟩ := h1
  refine ⟨o, 0, 0, _, [.mk W.heap.size 0 op x y kv kids, .mk W.heap.size 4 op2 x2 y2 kv2 kids2], rfl, ⟨_, 2, rfl, Nat.le_refl _, Or.inr ⟨W.heap.size, 0, rfl, ?_⟩⟩, ?_, ?_⟩
  · intro j t hj
    match j, hj with
    | 0, hj => simp at hj; rw [← hj]; exact ⟨rfl, rfl⟩
    | 1, hj => simp at hj; rw [← hj]; exact ⟨rfl, rfl⟩
  · intro k hk
    simp at hk
    rcases hk with rfl | rfl
    · exact .mk hB ⟨_, _, World.alloc_heap_new W _, rfl, rfl, rfl, rfl, rfl⟩ h2 (fun k hk => (h3 k hk).keep ((FKeep.alloc 0 W _).toA A))
    · exact .mk hB ⟨_, _, World.alloc_heap_new W _, rfl, rfl, rfl, rfl, rfl⟩ k2 (fun k hk => (k3 k hk).keep ((FKeep.alloc 0 W _).toA A))
  · rw [h4, k4]; simp [Fo.two, Lf.er]

theorem rowIs_ne {w : World} {b : Nat} {t e : TypeId} {n : Nat} {f : Nat → Value} (h : w.rowIs b t n f) (hne : t ≠ e) (c : Array Value) (fz : Nat × Nat) : w.heap[b]? ≠ some (Obj.cells c e fz) := by
  intro hb
  obtain ⟨c', hc, _⟩ := h
  rw [hc] at hb
  simp at hb
  exact hne hb.2.1
theorem ownsRow_ne {w : World} {base size k b : Nat} {t e : TypeId} {v : Value} {xs : List Value} (hr : w.ownsRow base t size v k xs) (hb : v.ownBlock = some b) (hne : t ≠ e) (c : Array Value) (fz : Nat × Nat) : w.heap[b]? ≠ some (Obj.cells c e fz) := by
  intro hb2
  rcases hr.2 with ⟨rfl, _⟩ | ⟨g, cap, cur, rfl, _, hg, _⟩
  · simp [Value.ownBlock] at hb
  · simp [Value.ownBlock] at hb
    subst hb
    rw [hb2] at hg
    simp at hg
    exact hne hg.2.1.symm
theorem mapIs_ne {w : World} {k : TypeId} {b : Nat} {D : DataW Unit} (h : mapIs w k b D) (c : Array Value) (e : TypeId) (fz : Nat × Nat) : w.heap[b]? ≠ some (Obj.cells c e fz) := by
  obtain ⟨es, clock, hb, _⟩ := h
  rw [hb]
  simp

/-- What the bank may change are no Forms. -/
theorem Bk.noForm {w : World} {base p : Nat} {ev : Value} {nb fb : Nat} {l : List Tm} (h : Bk w base p ev nb fb l) {k : Nat} (hk : BFoot p ev nb fb k) (c : Array Value) (fz : Nat × Nat) : w.heap[k]? ≠ some (Obj.cells c 36 fz) := by
  rcases hk with rfl | rfl | rfl | e
  · exact rowIs_ne h.bank (by decide) c fz
  · obtain ⟨D, h1, _⟩ := h.nums
    exact mapIs_ne h1 c _ fz
  · obtain ⟨D, h1, _⟩ := h.fsts
    exact mapIs_ne h1 c _ fz
  · exact ownsRow_ne h.rows e (by decide) c fz
/-- The parser's steps keep Forms. -/
theorem PB.fkeep {w w' : World} {base r p : Nat} {ev ev' : Value} {nb fb : Nat} {s : ByteArray} {i d : Nat} {l : List Tm} (h : PB w base r p ev nb fb s i d l) (G : Grew (fun k => k = r) p nb fb w ev w' ev')  (B : Nat) : FKeep B w w' :=
  FKeep.of_kept G.kept (fun k hk c fz => hk.elim (fun e => e ▸ rowIs_ne h.lp.row (by decide) c fz) (fun e => h.bk.noForm e c fz)) B

set_option maxHeartbeats 400000 in
/-- A formula is within another. -/
theorem negation_in (w : World) (B : Nat) (v : Value) (f : Fo) (h : FVal B w v f) (hB : B ≤ w.heap.size) :
    Calls Tryz.prog 231 #[v] w fun e w' => ∃ u, e = .returned u ∧ FVal B w' u (.neg f) ∧ Kept0 w w' := by
  obtain ⟨op, x, y, a, n, cap, rfl⟩ := h.form
  have K : ∀ o1 o2 o3 : Obj, Kept0 w (((w.alloc o1).alloc o2).alloc o3) := fun o1 o2 o3 => Kept.alloc (Kept.alloc (Kept.alloc (Kept.refl _ w) _) _) _
  have N := fun o1 o2 : Obj => FVal.one ((h.keep (FKeep.alloc B w o1)).keep (FKeep.alloc B (w.alloc o1) o2)) (by simp; omega)
  go_enter Tryz.func231, Tryz.ntmps231
  go_wp2_with fail
  refine ⟨rfl, .agg #[.int .i64 1, .int .i64 0, .int .i64 0, .slice (some ⟨w.heap.size + 2, 0, none⟩) 1 1], by simp [results, Tryz.results231, go_sem], ?_⟩
  refine ⟨_, rfl, ?_, K _ _ _⟩
  have := N (.cells #[.int .i64 op, .int .i64 x, .int .i64 y, .slice a n cap] 36) (.cells #[.int .i64 1, .int .i64 0, .int .i64 0, .slice (some ⟨w.heap.size + 1 + 1, 0, none⟩) 1 1] 36)
  simpa using this

end Go.Proofs.YtlehlgipbhfioaaGreat

namespace Go.Proofs.YtlehlgipbhfioaaGreat
open Go.RowKit Go.Maps

theorem row_baseK {w : World} {B B' : Nat} {e : TypeId} {k n : Nat} {v : Value} {xs : List Value} (h : w.ownsRow B e k v n xs) (hb : B' ≤ B) : w.ownsRow B' e k v n xs := by
  refine ⟨h.1, ?_⟩
  rcases h.2 with x | ⟨b, cap, cur, e1, e2, e3⟩
  · exact Or.inl x
  · exact Or.inr ⟨b, cap, cur, e1, Nat.le_trans hb e2, e3⟩

theorem Un.same {w : World} {base : Nat} {l : List Tm} {z : Zs} {P : List (Nat × Nat)} (h : Un w base l z P [] []) {i j : Nat} (hi : i < l.length) (hj : j < l.length) : (sameB l.length z.g (i : Int) (j : Int) = true) ↔ Cc.Cg l P i j := by
  rw [← h.inv.fin hi hj]
  simp only [sameB, inB_nat hi, inB_nat hj, Bool.true_and, Int.toNat_natCast, decide_eq_true_eq]
  exact ⟨lo_of_rt, rt_of_lo h.cz.ok hi hj⟩

theorem Un.base {w : World} {base base' : Nat} {l : List Tm} {z : Zs} {P todo : List (Nat × Nat)} {pend : List Nat} (h : Un w base l z P todo pend) (hb : base' ≤ base) : Un w base' l z P todo pend := by
  have C := h.cz
  have L := C.sets.lies
  exact ⟨⟨C.cls, ⟨⟨L.sets, L.nodes, row_baseK L.joins hb, L.ne, L.jp, L.jn, Nat.le_trans hb L.bp, Nat.le_trans hb L.bn, L.small⟩, C.sets.hist, Nat.le_trans hb C.sets.low⟩, C.terms, C.uses, C.known, row_baseK C.back hb, C.sat, fun x hx => ⟨Nat.le_trans hb (C.far x hx).1, (C.far x hx).2⟩, C.argsAt, C.usesAt, C.bd, C.oks, C.len, Nat.le_trans hb C.bp, Nat.le_trans hb C.bt, Nat.le_trans hb C.bu, Nat.le_trans hb C.bm⟩, h.inv, h.ms, h.bs, h.td, Nat.le_trans hb h.low⟩
theorem Cl.base {w : World} {base base' : Nat} {l : List Tm} {c : Ks} {P : List (Nat × Nat)} (h : Cl w base l c P) (hb : base' ≤ base) : Cl w base' l c P :=
  ⟨h.clo, row_baseK h.told hb, h.un.base hb, h.farP, h.farT, Nat.le_trans hb h.bp, h.num⟩

theorem Cl.foot_ge {w : World} {base : Nat} {l : List Tm} {c : Ks} {P : List (Nat × Nat)} (h : Cl w base l c P) {k : Nat} (hk : c.Foot k) : base ≤ k := h.all_ge hk.all

end Go.Proofs.YtlehlgipbhfioaaGreat

namespace Go.Proofs.YtlehlgipbhfioaaGreat
open Go.RowKit Go.Shelf

/-- The Forms that are gone through within one. -/
def Lf.ks (t : Lf) : List Lf := if t.op = 0 then [] else t.kids

theorem ks_lt {t k : Lf} (h : k ∈ t.ks) : SizeOf.sizeOf k < SizeOf.sizeOf t := by
  unfold Lf.ks at h
  split at h
  · cases h
  · cases t with
    | mk b o op x y kv kids =>
      have : k ∈ kids := h
      have := List.sizeOf_lt_of_mem this
      simp
      omega

/-- What comes, from a Form of which d Kids are done. -/
def wk (t : Lf) (d : Nat) : List (Lf × Nat) := (t, d) :: (match _h : t.ks[d]? with
  | none => []
  | some k => wk k 0 ++ wk t (d + 1))
termination_by (SizeOf.sizeOf t, t.ks.length - d)
decreasing_by
  · exact Prod.Lex.left _ _ (ks_lt (List.mem_of_getElem? _h))
  · have := (List.getElem?_eq_some_iff.1 _h).1
    exact Prod.Lex.right _ (by omega)

theorem wk_end {t : Lf} {d : Nat} (h : t.ks[d]? = none) : wk t d = [(t, d)] := by
  rw [wk]
  split
  · rfl
  · next k hk => rw [h] at hk; cases hk
theorem wk_step {t k : Lf} {d : Nat} (h : t.ks[d]? = some k) : wk t d = (t, d) :: (wk k 0 ++ wk t (d + 1)) := by
  rw [wk]
  split
  · next hk => rw [h] at hk; cases hk
  · next k' hk => rw [h] at hk; cases hk; rfl

/-- What is still to come, by the way down (the last one first). -/
def rem (st : List (Lf × Nat)) : List (Lf × Nat) := st.flatMap fun x => wk x.1 x.2

/-- All Forms of one lie in memory. -/
abbrev Here (W : World) (t : Lf) : Prop := LayA (fun _ => True) W t

theorem Here.cells {W : World} {t : Lf} (h : Here W t) : FCells W t.b t.o t.op t.x t.y t.kv := by
  cases h with
  | mk hb hc hk _ => exact hc
theorem Here.kidsIn {W : World} {t : Lf} (h : Here W t) : KidsIn t.kv t.kids := by
  cases h with
  | mk hb hc hk _ => exact hk
theorem Here.kid {W : World} {t k : Lf} (h : Here W t) (hk : k ∈ t.kids) : Here W k := by
  cases h with
  | mk _ _ _ hh => exact hh k hk

set_option maxHeartbeats 1000000 in
/-- kids. -/
theorem kids_in (w : World) (t : Lf) (h : Here w t) :
    Calls Tryz.prog 156 #[.pointer (some ⟨t.b, t.o, none⟩)] w fun e w' => e = .returned (if t.op = 0 then .slice none 0 0 else t.kv) ∧ w' = w := by
  have c0 := h.cells.c0
  have c3 := h.cells.c3
  obtain ⟨a, cap, hkv, _⟩ := h.kidsIn
  rw [hkv] at c3 ⊢
  go_enter Tryz.func156, Tryz.ntmps156
  by_cases h0 : t.op = 0
  · rw [if_pos h0]
    rw [h0] at c0
    go_wp2_with fail
    go_ret
    exact ⟨rfl, rfl⟩
  · rw [if_neg h0]
    have d0 : (t.op == 0) = false := by simpa using h0
    go_wp2_with fail
    go_ret
    exact ⟨rfl, rfl⟩

end Go.Proofs.YtlehlgipbhfioaaGreat

namespace Go.Proofs.YtlehlgipbhfioaaGreat
open Go.RowKit Go.Maps

/-- No Form has more Kids than that. -/
inductive Sml : Lf → Prop where
  | mk {b o : Nat} {op x y : Int} {kv : Value} {kids : List Lf} (hn : kids.length ≤ 1048576) (h : ∀ k ∈ kids, Sml k) : Sml (.mk b o op x y kv kids)
theorem Sml.szd {t : Lf} (h : Sml t) : Szd t := by
  induction h with
  | mk hn _ ih => exact .mk (by omega) ih

def formC (c : Lf) : List Value := [.int .i64 c.op, .int .i64 c.x, .int .i64 c.y, c.kv]
theorem formC_len (cs : List Lf) : (cs.flatMap formC).length = cs.length * 4 := by
  induction cs with
  | nil => rfl
  | cons c cs ih => simp [List.flatMap_cons, formC] at ih ⊢; omega
theorem formC_at (cs : List Lf) (i j : Nat) (hj : j < 4) : (cs.flatMap formC)[i * 4 + j]? = (cs[i]?).bind (fun t => (formC t)[j]?) := by
  induction cs generalizing i with
  | nil => simp
  | cons t l ih =>
    cases i with
    | zero => rcases (by omega : j = 0 ∨ j = 1 ∨ j = 2 ∨ j = 3) with rfl | rfl | rfl | rfl <;> simp [formC]
    | succ i =>
      have e : (i + 1) * 4 + j = 4 + (i * 4 + j) := by omega
      simp [List.flatMap_cons, e]
      rw [List.getElem?_append_right (by simp [formC])]
      simpa [formC] using ih i

/-- A row of Forms that is being made; their Kids lie elsewhere. -/
def KR (B : Nat) (W : World) (v : Value) (cs : List Lf) : Prop :=
  W.ownsRow B 36 4 v cs.length (cs.flatMap formC) ∧ ∀ c ∈ cs, KidsIn c.kv c.kids ∧ ∀ k ∈ c.kids, LayA (fun b => B ≤ b ∧ v.ownBlock ≠ some b) W k

theorem KR.nil (B : Nat) (W : World) : KR B W (.slice none 0 0) [] := ⟨World.ownsRow_nil _ _ _ _, by simp⟩
theorem row_formG {w : World} {base : Nat} {e : TypeId} {size : Nat} {v : Value} {n : Nat} {xs : List Value} (h : w.ownsRow base e size v n xs) : ∃ a c, v = .slice a n c := by
  rcases h.2 with ⟨rfl, h0⟩ | ⟨b, cap, cur, rfl, _⟩
  · rw [h0]; exact ⟨none, 0, rfl⟩
  · exact ⟨_, cap, rfl⟩
theorem row_blockG {W W' : World} {base size k : Nat} {ty : TypeId} {v : Value} {xs : List Value} (h : W.ownsRow base ty size v k xs) (hb : ∀ b, v.ownBlock = some b → W'.heap[b]? = W.heap[b]?) : W'.ownsRow base ty size v k xs := by
  refine ⟨h.1, ?_⟩
  rcases h.2 with e | ⟨g, cap, cur, e, e1, e2, e3⟩
  · exact Or.inl e
  · exact Or.inr ⟨g, cap, cur, e, e1, (hb g (by rw [e]; rfl)).trans e2, e3⟩
theorem KR.form {B : Nat} {W : World} {v : Value} {cs : List Lf} (h : KR B W v cs) : ∃ a c, v = .slice a cs.length c := row_formG h.1
theorem ownsRow_at {W : World} {base size k : Nat} {ty : TypeId} {v : Value} {xs : List Value} (h : W.ownsRow base ty size v k xs) {b : Nat} (hb : v.ownBlock = some b) : base ≤ b ∧ b < W.heap.size := by
  rcases h.2 with ⟨e, _⟩ | ⟨g, cap, cur, e, e1, e2, _⟩
  · rw [e] at hb; simp [Value.ownBlock] at hb
  · rw [e] at hb
    simp [Value.ownBlock] at hb
    subst hb
    exact ⟨e1, (Array.getElem?_eq_some_iff.1 e2).1⟩
theorem KR.below {B : Nat} {W W' : World} {v : Value} {cs : List Lf} (h : KR B W v cs) (hB : Below W.heap.size W W') : KR B W' v cs := by
  refine ⟨row_blockG h.1 (fun k hk => hB.block k (ownsRow_at h.1 hk).2), fun c hc => ⟨(h.2 c hc).1, fun k hk => ((h.2 c hc).2 k hk).keep (fun i _ _ _ hi => (hB.block i (Array.getElem?_eq_some_iff.1 hi).1).trans hi)⟩⟩

theorem KR.push {B : Nat} {W w7 w8 : World} {v v8 : Value} {cs : List Lf} {c : Lf} (h : KR B W v cs) (hBW : B ≤ W.heap.size) (hB : Below W.heap.size W w7) (hk : KidsIn c.kv c.kids) (hks : ∀ k ∈ c.kids, LayA (fun b => W.heap.size ≤ b) w7 k)
    (hown : w8.ownsRow B 36 4 v8 (cs.length + 1) (cs.flatMap formC ++ formC c)) (hgrow : w7.grownBy w8 v.ownBlock) (hat : v8.ownBlock = v.ownBlock ∨ v8.ownBlock = some w7.heap.size) : KR B w8 v8 (cs ++ [c]) := by
  have hv : ∀ b, v.ownBlock = some b → B ≤ b ∧ b < W.heap.size := fun b hb => ownsRow_at h.1 hb
  have K8 : FKeepA (fun b => v.ownBlock ≠ some b) w7 w8 := fun k c fz hk hc => (hgrow.block k (Array.getElem?_eq_some_iff.1 hc).1 (fun e => hk e.symm)).trans hc
  refine ⟨by simpa using hown, fun c' hc' => ?_⟩
  rcases List.mem_append.1 hc' with hc' | hc'
  · refine ⟨(h.2 c' hc').1, fun k hk => ?_⟩
    have h1 := ((h.2 c' hc').2 k hk).lt
    have h2 : LayA (fun b => (B ≤ b ∧ v.ownBlock ≠ some b) ∧ b < W.heap.size) w7 k := h1.keep (fun i _ _ _ hi => (hB.block i (Array.getElem?_eq_some_iff.1 hi).1).trans hi)
    refine (h2.keep (K8.mono (fun b hb => hb.1.2))).mono (fun b hb => ⟨hb.1.1, ?_⟩)
    rcases hat with e | e
    · rw [e]; exact hb.1.2
    · rw [e]
      have := hB.size
      intro e'
      cases e'
      omega
  · obtain rfl := List.mem_singleton.1 hc'
    refine ⟨hk, fun k hkk => ?_⟩
    have h1 := (hks k hkk).lt
    refine (h1.keep (K8.mono (fun b hb e => by have := (hv b e).2; omega))).mono (fun b hb => ⟨by omega, ?_⟩)
    rcases hat with e | e
    · rw [e]
      intro e'
      have := (hv b e').2
      omega
    · rw [e]
      intro e'
      cases e'
      omega

/-- When it is made, it is the Kids of a Form. -/
theorem KR.done {B : Nat} {W : World} {v : Value} {cs : List Lf} (h : KR B W v cs) (op x y : Int) : FVal B W (.agg #[.int .i64 op, .int .i64 x, .int .i64 y, v]) (.mk op x y (cs.map Lf.er)) := by
  obtain ⟨h1, h2⟩ := h
  rcases h1.2 with ⟨e, h0⟩ | ⟨g, cap, cur, e, e1, e2, e3, e4, e5, e6⟩
  · have : cs = [] := List.length_eq_zero_iff.1 h0
    subst this
    exact ⟨op, x, y, v, [], rfl, ⟨none, 0, e, Nat.le_refl _, Or.inl rfl⟩, by simp, rfl⟩
  · refine ⟨op, x, y, v, cs.mapIdx (fun j c => .mk g (j * 4) c.op c.x c.y c.kv c.kids), rfl, ⟨_, cap, by rw [List.length_mapIdx]; exact e, by rw [List.length_mapIdx]; exact e3, Or.inr ⟨g, 0, rfl, fun j t hj => ?_⟩⟩, fun k hk => ?_, ?_⟩
    · rw [List.getElem?_mapIdx] at hj
      obtain ⟨c, _, rfl⟩ := Option.map_eq_some_iff.1 hj
      simp [Lf.b, Lf.o]
    · obtain ⟨j, hj⟩ := List.getElem?_of_mem hk
      rw [List.getElem?_mapIdx] at hj
      obtain ⟨c, hc, rfl⟩ := Option.map_eq_some_iff.1 hj
      have hcm := List.mem_of_getElem? hc
      have hlt := (List.getElem?_eq_some_iff.1 hc).1
      have cell : ∀ i u, i < 4 → (formC c)[i]? = some u → cur[j * 4 + i]? = some u := fun i u hi hu => by
        have h3 : (cs.flatMap formC)[j * 4 + i]? = some u := by rw [formC_at cs j i hi, hc]; exact hu
        rw [← e6, List.getElem?_take] at h3
        split at h3
        · simpa using h3
        · cases h3
      exact .mk e1 ⟨cur, (0, 0), e2, cell 0 _ (by omega) rfl, cell 1 _ (by omega) rfl, cell 2 _ (by omega) rfl, cell 3 _ (by omega) rfl, rfl⟩ (h2 c hcm).1 (fun k hk => ((h2 c hcm).2 k hk).mono (fun b hb => hb.1))
    · congr 1
      apply List.ext_getElem?
      intro j
      simp only [List.getElem?_map, List.getElem?_mapIdx, Option.map_map]
      cases cs[j]? with
      | none => rfl
      | some c => simp [Lf.er]; cases c; simp [Lf.er, Lf.op, Lf.x, Lf.y, Lf.kids]

theorem infoForm : (Tryz.prog.info? 36).map (fun i => (i.zero, i.size, i.bytes)) = some (some (.agg #[.int .i64 0, .int .i64 0, .int .i64 0, .slice none 0 0]), 4, 48) := by kernel_rfl

end Go.Proofs.YtlehlgipbhfioaaGreat

namespace Go.Proofs.YtlehlgipbhfioaaGreat
open Go.RowKit Go.Maps

/-- What reading answers: a value, or an error. -/
def Res.bind {α β : Type} (r : Res α) (g : α → Nat → List Tm → Res β) : Res β := match r with
  | .ok x i l => g x i l
  | .bad e p l => .bad e p l

def gEqu (s : ByteArray) (i : Nat) (l : List Tm) : Res Fo :=
  (lTerm s i l).bind fun a k l1 =>
    if stands s (if byt s k = 33 then k + 1 else k) 61 then
      (lTerm s (bl s ((if byt s k = 33 then k + 1 else k) + 1)) l1).bind fun b k2 l2 => .ok (if byt s k = 33 then .neg (.eq a b) else .eq a b) k2 l2
    else .bad 2 (if byt s k = 33 then k + 1 else k) l1

def sgn (lev : Nat) : Nat := if lev = 1 then 124 else 38
def opn (lev : Nat) : Int := if lev = 1 then 3 else 2

mutual
/-- form, or, and, not: the levels 0 to 3. -/
def gp (s : ByteArray) : Nat → Nat → Nat → Nat → List Tm → Res Fo
  | 0, _, _, _, l => .bad 0 0 l
  | f + 1, lev, d, i, l =>
    if lev = 0 then
      (gp s f 1 d i l).bind fun a k l1 =>
        if byt s k = 45 then
          if stands s (k + 1) 62 then (gp s f 0 d (bl s (k + 1 + 1)) l1).bind fun b k2 l2 => .ok (.two 4 a b) k2 l2
          else .bad 2 (k + 1) l1
        else .ok a k l1
    else if lev = 3 then
      if byt s i = 33 then
        if 20 ≤ d then .bad 4 i l else (gp s f 3 (d + 1) (bl s (i + 1)) l).bind fun a k l1 => .ok (.neg a) k l1
      else if byt s i = 40 then
        if 20 ≤ d then .bad 4 i l else (gp s f 0 (d + 1) (bl s (i + 1)) l).bind fun a k l1 => if stands s k 41 then .ok a (bl s (k + 1)) l1 else .bad 2 k l1
      else gEqu s i l
    else (gp s f (lev + 1) d i l).bind fun a k l1 => gl s f lev d k l1 a
/-- The rest of a row. -/
def gl (s : ByteArray) : Nat → Nat → Nat → Nat → List Tm → Fo → Res Fo
  | 0, _, _, _, l, _ => .bad 0 0 l
  | f + 1, lev, d, k, l, a =>
    if byt s k = sgn lev then (gp s f (lev + 1) d (bl s (k + 1)) l).bind fun b k2 l2 => gl s f lev d k2 l2 (.two (opn lev) a b)
    else .ok a k l
end

theorem byt_in {s : ByteArray} {i c : Nat} (h : byt s i = c) (hc : c ≠ 0) : i < s.size := by
  refine Decidable.byContradiction fun hn => ?_
  simp [byt, hn] at h
  exact hc h.symm
theorem stands_of {s : ByteArray} {i c : Nat} (h : byt s i = c) (hc : c ≠ 0) : stands s i c = true := stands_true (byt_in h hc) h

theorem gEqu_ok {s : ByteArray} {i : Nat} {l : List Tm} (hi : i ≤ s.size) {f : Fo} {k : Nat} {l' : List Tm} (h : gEqu s i l = .ok f k l') : i < k ∧ k ≤ s.size := by
  unfold gEqu at h
  cases h1 : lTerm s i l with
  | bad e p l1 => rw [h1] at h; simp [Res.bind] at h
  | ok a k1 l1 =>
    obtain ⟨b1, b2⟩ := lTerm_ok hi h1
    rw [h1] at h
    simp only [Res.bind] at h
    have hq1 : k1 ≤ (if byt s k1 = 33 then k1 + 1 else k1) := by split <;> omega
    generalize (if byt s k1 = 33 then k1 + 1 else k1) = q at h hq1
    cases hs : stands s q 61 with
    | false => rw [hs] at h; simp at h
    | true =>
      rw [hs, if_pos rfl] at h
      have hk := (of_decide_eq_true hs).1
      have hbl := bl_le (s := s) (i := q + 1) (by omega)
      have hbg := bl_ge s (q + 1)
      cases h2 : lTerm s (bl s (q + 1)) l1 with
      | bad e p l2 => rw [h2] at h; simp at h
      | ok b k2 l2 =>
        obtain ⟨c1, c2⟩ := lTerm_ok hbl h2
        rw [h2] at h
        simp only at h
        injection h with _ e2 _
        omega

/-- Places grow. -/
theorem gp_ok (s : ByteArray) : ∀ f : Nat, (∀ lev d i l a k l', i ≤ s.size → gp s f lev d i l = .ok a k l' → i < k ∧ k ≤ s.size) ∧
    (∀ lev d i l a b k l', i ≤ s.size → gl s f lev d i l a = .ok b k l' → i ≤ k ∧ k ≤ s.size)
  | 0 => ⟨fun _ _ _ _ _ _ _ _ e => (by rw [gp] at e; cases e), fun _ _ _ _ _ _ _ _ _ e => (by rw [gl] at e; cases e)⟩
  | f + 1 => by
    obtain ⟨IP, IL⟩ := gp_ok s f
    constructor
    · intro lev d i l a k l' hi h
      rw [gp] at h
      split at h
      · cases h1 : gp s f 1 d i l with
        | bad e p l1 => rw [h1] at h; simp [Res.bind] at h
        | ok a1 k1 l1 =>
          obtain ⟨b1, b2⟩ := IP _ _ _ _ _ _ _ hi h1
          rw [h1] at h
          simp only [Res.bind] at h
          split at h
          · split at h
            · next hs =>
              have hk := (of_decide_eq_true hs).1
              have hbl := bl_le (s := s) (i := k1 + 1 + 1) (by omega)
              have hbg := bl_ge s (k1 + 1 + 1)
              split at h
              · next b k2 l2 h2 =>
                obtain ⟨c1, c2⟩ := IP _ _ _ _ _ _ _ hbl h2
                injection h with _ e2 _
                omega
              · cases h
            · cases h
          · injection h with _ e2 _
            omega
      · split at h
        · split at h
          · next h33 =>
            have hi2 := byt_in h33 (by omega)
            have hbl := bl_le (s := s) (i := i + 1) (by omega)
            have hbg := bl_ge s (i + 1)
            split at h
            · cases h
            · cases h1 : gp s f 3 (d + 1) (bl s (i + 1)) l with
              | bad e p l1 => rw [h1] at h; simp [Res.bind] at h
              | ok a1 k1 l1 =>
                obtain ⟨b1, b2⟩ := IP _ _ _ _ _ _ _ hbl h1
                rw [h1] at h
                simp only [Res.bind] at h
                injection h with _ e2 _
                omega
          · split at h
            · next h40 =>
              have hi2 := byt_in h40 (by omega)
              have hbl := bl_le (s := s) (i := i + 1) (by omega)
              have hbg := bl_ge s (i + 1)
              split at h
              · cases h
              · cases h1 : gp s f 0 (d + 1) (bl s (i + 1)) l with
                | bad e p l1 => rw [h1] at h; simp [Res.bind] at h
                | ok a1 k1 l1 =>
                  obtain ⟨b1, b2⟩ := IP _ _ _ _ _ _ _ hbl h1
                  rw [h1] at h
                  simp only [Res.bind] at h
                  split at h
                  · next hs =>
                    have hk := (of_decide_eq_true hs).1
                    have hbl2 := bl_le (s := s) (i := k1 + 1) (by omega)
                    have hbg2 := bl_ge s (k1 + 1)
                    injection h with _ e2 _
                    omega
                  · cases h
            · exact gEqu_ok hi h
        · cases h1 : gp s f (lev + 1) d i l with
          | bad e p l1 => rw [h1] at h; simp [Res.bind] at h
          | ok a1 k1 l1 =>
            obtain ⟨b1, b2⟩ := IP _ _ _ _ _ _ _ hi h1
            rw [h1] at h
            simp only [Res.bind] at h
            have := IL _ _ _ _ _ _ _ _ b2 h
            omega
    · intro lev d i l a b k l' hi h
      rw [gl] at h
      split at h
      · next hb =>
        have hi2 := byt_in hb (by unfold sgn; split <;> omega)
        have hbl := bl_le (s := s) (i := i + 1) (by omega)
        have hbg := bl_ge s (i + 1)
        cases h1 : gp s f (lev + 1) d (bl s (i + 1)) l with
        | bad e p l1 => rw [h1] at h; simp [Res.bind] at h
        | ok a1 k1 l1 =>
          obtain ⟨b1, b2⟩ := IP _ _ _ _ _ _ _ hbl h1
          rw [h1] at h
          simp only [Res.bind] at h
          have := IL _ _ _ _ _ _ _ _ b2 h
          omega
      · injection h with _ e2 _
        omega

end Go.Proofs.YtlehlgipbhfioaaGreat
