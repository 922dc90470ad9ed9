/- Formulas, plainly and in memory, whichever package they are of. Package logic: formulas, plainly and in memory. The document's Forms in memory: what LoE says of the program's. -/
import Derived.Test.YtinphcnknionmaaProg
import Derived.Test.YtinphcnknionmaaLoD
import Derived.Test.YtinphcnknionmaaP17
namespace Go.Proofs.Ytinphcnknionmaa

/-- A Form. -/
inductive Fo where
  | mk (op x y : Int) (kids : List Fo)

/-- A Form that lies at an address; its slice of Kids. -/
inductive Lf where
  | mk (b o : Nat) (op x y : Int) (kv : Value) (kids : List Lf)

def Lf.b : Lf → Nat | .mk b _ _ _ _ _ _ => b
def Lf.o : Lf → Nat | .mk _ o _ _ _ _ _ => o
def Lf.op : Lf → Int | .mk _ _ op _ _ _ _ => op
def Lf.x : Lf → Int | .mk _ _ _ x _ _ _ => x
def Lf.y : Lf → Int | .mk _ _ _ _ y _ _ => y
def Lf.kv : Lf → Value | .mk _ _ _ _ _ kv _ => kv
def Lf.kids : Lf → List Lf | .mk _ _ _ _ _ _ ks => ks

/-- What it is. -/
def Lf.er : Lf → Fo
  | .mk _ _ op x y _ kids => .mk op x y (kids.map Lf.er)

/-- The slice kv holds these Kids. -/
def KidsIn (kv : Value) (kids : List Lf) : Prop :=
  ∃ a cap, kv = .slice a kids.length cap ∧ kids.length ≤ cap ∧ (kids = [] ∨ ∃ kb ko, a = some ⟨kb, ko, none⟩ ∧ ∀ (j : Nat) (t : Lf), kids[j]? = some t → t.b = kb ∧ t.o = ko + j * 4)

def inC (n : Nat) (a : Int) : Bool := decide (0 ≤ a ∧ a < n)
def sameC (cls : List Int) (a b : Int) : Bool := inC cls.length a && inC cls.length b && (cls[a.toNat]?.getD 0 == cls[b.toNat]?.getD 0)

/-- A number of the program. -/
def R64 (a : Int) : Prop := -9223372036854775808 ≤ a ∧ a ≤ 9223372036854775807

/-- One Form of so many Kids, by what these come to. -/
def evN (cls : List Int) (op x y : Int) (n : Nat) (args : List Bool) : Bool :=
  if op = 0 then n == 0 && sameC cls x y
  else if op = 1 then n == 1 && !(args[0]?.getD false)
  else if op = 2 then n == 2 && (args[0]?.getD false && args[1]?.getD false)
  else if op = 3 then n == 2 && (args[0]?.getD false || args[1]?.getD false)
  else if op = 4 then n == 2 && (!(args[0]?.getD false) || args[1]?.getD false)
  else false

/-- The document's Eval. -/
def evF (cls : List Int) : Fo → Bool
  | .mk op x y kids => evN cls op x y kids.length (kids.map (evF cls))

/-- A Form and all its Kids in cells, of whichever type. -/
inductive LayC (W : World) : Lf → Prop where
  | mk {b o : Nat} {op x y : Int} {kv : Value} {kids : List Lf} (c0 : W.cell? ⟨b, o, none⟩ = some (.int .i64 op)) (c1 : W.cell? ⟨b, o + 1, none⟩ = some (.int .i64 x)) (c2 : W.cell? ⟨b, o + 2, none⟩ = some (.int .i64 y)) (c3 : W.cell? ⟨b, o + 3, none⟩ = some kv) (hk : KidsIn kv kids) (h : ∀ k ∈ kids, LayC W k) : LayC W (.mk b o op x y kv kids)

end Go.Proofs.Ytinphcnknionmaa

namespace Go.Proofs.Ytinphcnknionmaa
open Go.RowKit Go.Maps

/-- Four cells of a Form, in a block of Forms. -/
def FCells (W : World) (b o : Nat) (op x y : Int) (kv : Value) : Prop :=
  ∃ c fz, W.heap[b]? = some (Obj.cells c 89 fz) ∧ c[o]? = some (.int .i64 op) ∧ c[o + 1]? = some (.int .i64 x) ∧ c[o + 2]? = some (.int .i64 y) ∧ c[o + 3]? = some kv

/-- Forms that lie in some blocks. -/
inductive LayA (A : Nat → Prop) (W : World) : Lf → Prop where
  | mk {b o : Nat} {op x y : Int} {kv : Value} {kids : List Lf} (hb : A b) (hc : FCells W b o op x y kv) (hk : KidsIn kv kids) (h : ∀ k ∈ kids, LayA A W k) : LayA A W (.mk b o op x y kv kids)
/-- .. in blocks from B on. -/
abbrev Lay (B : Nat) (W : World) (t : Lf) : Prop := LayA (fun k => B ≤ k) W t

/-- Some blocks of Forms stay. -/
def FKeepA (A : Nat → Prop) (W W' : World) : Prop := ∀ (k : Nat) (c : Array Value) (fz : Nat × Nat), A k → W.heap[k]? = some (Obj.cells c 89 fz) → W'.heap[k]? = some (Obj.cells c 89 fz)
theorem FKeepA.trans {A : Nat → Prop} {X Y Z : World} (h : FKeepA A X Y) (k : FKeepA A Y Z) : FKeepA A X Z := fun i c fz hb x => k i c fz hb (h i c fz hb x)
theorem FKeepA.mono {A A' : Nat → Prop} {X Y : World} (h : FKeepA A X Y) (hA : ∀ k, A' k → A k) : FKeepA A' X Y := fun i c fz hb x => h i c fz (hA i hb) x
theorem FKeepA.setCell {A : Nat → Prop} (W : World) {b : Nat} (hb : ¬ A b) (o : Nat) (u : Value) : FKeepA A W (W.setCell ⟨b, o, none⟩ u) := fun k _ _ hk h => (Below.heap_setCell W ⟨b, o, none⟩ u k (by show k ≠ b; rintro rfl; exact hb hk)).trans h
/-- Blocks of Forms from B on stay. -/
abbrev FKeep (B : Nat) (W W' : World) : Prop := FKeepA (fun k => B ≤ k) W W'
theorem FKeep.refl (B : Nat) (W : World) : FKeep B W W := fun _ _ _ _ h => h
theorem FKeep.trans {B : Nat} {X Y Z : World} (h : FKeep B X Y) (k : FKeep B Y Z) : FKeep B X Z := FKeepA.trans h k
theorem FKeep.mono {B B' : Nat} {X Y : World} (h : FKeep B X Y) (hB : B ≤ B') : FKeep B' X Y := FKeepA.mono h (fun _ hk => Nat.le_trans hB hk)
theorem FKeep.toA {X Y : World} (h : FKeep 0 X Y) (A : Nat → Prop) : FKeepA A X Y := FKeepA.mono h (fun _ _ => Nat.zero_le _)
theorem FKeep.alloc (B : Nat) (W : World) (o : Obj) : FKeep B W (W.alloc o) := fun k _ _ _ h => (Below.heap_alloc W o k (Array.getElem?_eq_some_iff.1 h).1).trans h
theorem FKeep.setCell {B : Nat} (W : World) {b : Nat} (hb : b < B) (o : Nat) (u : Value) : FKeep B W (W.setCell ⟨b, o, none⟩ u) := FKeepA.setCell W (by show ¬ B ≤ b; omega) o u
theorem FKeep.of_kept {S : Nat → Prop} {W W' : World} (K : Kept S W W') (hS : ∀ k, S k → ∀ c fz, W.heap[k]? ≠ some (Obj.cells c 89 fz)) (B : Nat) : FKeep B W W' :=
  fun k c fz _ h => (K.block k (Array.getElem?_eq_some_iff.1 h).1 (fun x => hS k x c fz h)).trans h
theorem FKeep.kept0 {W W' : World} (K : Kept0 W W') (B : Nat) : FKeep B W W' := FKeep.of_kept K (fun _ x => x.elim) B

theorem FCells.keep {A : Nat → Prop} {W W' : World} (K : FKeepA A W W') {b o : Nat} (hb : A b) {op x y : Int} {kv : Value} (h : FCells W b o op x y kv) : FCells W' b o op x y kv := by
  obtain ⟨c, fz, h1, h2⟩ := h
  exact ⟨c, fz, K _ _ _ hb h1, h2⟩
theorem FCells.c0 {W : World} {b o : Nat} {op x y : Int} {kv : Value} (h : FCells W b o op x y kv) : W.cell? ⟨b, o, none⟩ = some (.int .i64 op) := by
  obtain ⟨c, fz, h1, h2, h3, h4, h5⟩ := h
  simp only [World.cell?, h1]; exact h2
theorem FCells.c1 {W : World} {b o : Nat} {op x y : Int} {kv : Value} (h : FCells W b o op x y kv) : W.cell? ⟨b, o + 1, none⟩ = some (.int .i64 x) := by
  obtain ⟨c, fz, h1, h2, h3, h4, h5⟩ := h
  simp only [World.cell?, h1]; exact h3
theorem FCells.c2 {W : World} {b o : Nat} {op x y : Int} {kv : Value} (h : FCells W b o op x y kv) : W.cell? ⟨b, o + 2, none⟩ = some (.int .i64 y) := by
  obtain ⟨c, fz, h1, h2, h3, h4, h5⟩ := h
  simp only [World.cell?, h1]; exact h4
theorem FCells.c3 {W : World} {b o : Nat} {op x y : Int} {kv : Value} (h : FCells W b o op x y kv) : W.cell? ⟨b, o + 3, none⟩ = some kv := by
  obtain ⟨c, fz, h1, h2, h3, h4, h5⟩ := h
  simp only [World.cell?, h1]; exact h5

theorem LayA.keep {A : Nat → Prop} {W W' : World} (K : FKeepA A W W') {t : Lf} (h : LayA A W t) : LayA A W' t := by
  induction h with
  | mk hb hc hk _ ih => exact .mk hb (hc.keep K hb) hk ih
theorem LayA.mono {A A' : Nat → Prop} {W : World} (hA : ∀ k, A k → A' k) {t : Lf} (h : LayA A W t) : LayA A' W t := by
  induction h with
  | mk hb hc hk _ ih => exact .mk (hA _ hb) hc hk ih
theorem LayA.lt {A : Nat → Prop} {W : World} {t : Lf} (h : LayA A W t) : LayA (fun k => A k ∧ k < W.heap.size) W t := by
  induction h with
  | mk hb hc hk _ ih => exact .mk ⟨hb, by obtain ⟨c, fz, h1, _⟩ := hc; exact (Array.getElem?_eq_some_iff.1 h1).1⟩ hc hk ih

/-- The value v is the Form f, whose Kids lie in some blocks. -/
def FValA (A : Nat → Prop) (W : World) (v : Value) (f : Fo) : Prop :=
  ∃ (op x y : Int) (kv : Value) (kids : List Lf), v = .agg #[.int .i64 op, .int .i64 x, .int .i64 y, kv] ∧ KidsIn kv kids ∧ (∀ k ∈ kids, LayA A W k) ∧ f = .mk op x y (kids.map Lf.er)
/-- .. from B on. -/
abbrev FVal (B : Nat) (W : World) (v : Value) (f : Fo) : Prop := FValA (fun k => B ≤ k) W v f
theorem FValA.keep {A : Nat → Prop} {W W' : World} (K : FKeepA A W W') {v : Value} {f : Fo} (h : FValA A W v f) : FValA A W' v f := by
  obtain ⟨op, x, y, kv, kids, h1, h2, h3, h4⟩ := h
  exact ⟨op, x, y, kv, kids, h1, h2, fun k hk => (h3 k hk).keep K, h4⟩
theorem FValA.mono {A A' : Nat → Prop} {W : World} (hA : ∀ k, A k → A' k) {v : Value} {f : Fo} (h : FValA A W v f) : FValA A' W v f := by
  obtain ⟨op, x, y, kv, kids, h1, h2, h3, h4⟩ := h
  exact ⟨op, x, y, kv, kids, h1, h2, fun k hk => (h3 k hk).mono hA, h4⟩
theorem FValA.lt {A : Nat → Prop} {W : World} {v : Value} {f : Fo} (h : FValA A W v f) : FValA (fun k => A k ∧ k < W.heap.size) W v f := by
  obtain ⟨op, x, y, kv, kids, h1, h2, h3, h4⟩ := h
  exact ⟨op, x, y, kv, kids, h1, h2, fun k hk => (h3 k hk).lt, h4⟩
theorem FVal.keep {B : Nat} {W W' : World} (K : FKeep B W W') {v : Value} {f : Fo} (h : FVal B W v f) : FVal B W' v f := FValA.keep K h
theorem FVal.mono {B B' : Nat} {W : World} (hB : B' ≤ B) {v : Value} {f : Fo} (h : FVal B W v f) : FVal B' W v f := FValA.mono (fun _ hk => Nat.le_trans hB hk) h
theorem FValA.form {A : Nat → Prop} {W : World} {v : Value} {f : Fo} (h : FValA A W v f) : ∃ (op x y : Int) (a : Option Addr) (n cap : Nat), v = .agg #[.int .i64 op, .int .i64 x, .int .i64 y, .slice a n cap] := by
  obtain ⟨op, x, y, kv, kids, h1, ⟨a, cap, rfl, _⟩, h3, h4⟩ := h
  exact ⟨op, x, y, a, _, cap, h1⟩

theorem FVal.form {B : Nat} {W : World} {v : Value} {f : Fo} (h : FVal B W v f) : ∃ (op x y : Int) (a : Option Addr) (n cap : Nat), v = .agg #[.int .i64 op, .int .i64 x, .int .i64 y, .slice a n cap] := FValA.form h

/-- The formulas that are read. -/
def Fo.eq (a b : Int) : Fo := .mk 0 a b []
def Fo.neg (f : Fo) : Fo := .mk 1 0 0 [f]
def Fo.two (op : Int) (f g : Fo) : Fo := .mk op 0 0 [f, g]

theorem FVal.eq (B : Nat) (W : World) (a b : Int) : FVal B W (.agg #[.int .i64 0, .int .i64 a, .int .i64 b, .slice none 0 0]) (.eq a b) :=
  ⟨0, a, b, .slice none 0 0, [], rfl, ⟨none, 0, rfl, Nat.le_refl _, Or.inl rfl⟩, by simp, rfl⟩

/-- One Form is laid as the Kids of another. -/
theorem FVal.one {B : Nat} {W : World} {op x y : Int} {kv : Value} {f : Fo} (h : FVal B W (.agg #[.int .i64 op, .int .i64 x, .int .i64 y, kv]) f) (hB : B ≤ W.heap.size) :
    FVal B (W.alloc (.cells #[.int .i64 op, .int .i64 x, .int .i64 y, kv] 89)) (.agg #[.int .i64 1, .int .i64 0, .int .i64 0, .slice (some ⟨W.heap.size, 0, none⟩) 1 1]) (.neg f) := by
  obtain ⟨op', x', y', kv', kids, h1, h2, h3, h4⟩ := h
  simp at h1
  obtain ⟨rfl, rfl, rfl, rfl⟩ := h1
  refine ⟨1, 0, 0, _, [.mk W.heap.size 0 op x y kv kids], rfl, ⟨_, 1, rfl, Nat.le_refl _, Or.inr ⟨W.heap.size, 0, rfl, ?_⟩⟩, ?_, ?_⟩
  · intro j t hj
    match j, hj with
    | 0, hj => simp at hj; rw [← hj]; exact ⟨rfl, rfl⟩
  · intro k hk
    obtain rfl := List.mem_singleton.1 hk
    exact .mk (show B ≤ W.heap.size from hB) ⟨_, _, World.alloc_heap_new W _, rfl, rfl, rfl, rfl⟩ h2 (fun k hk => (h3 k hk).keep (FKeep.alloc B W _))
  · rw [h4]; simp [Fo.neg, Lf.er]

/-- Two Forms are. -/
theorem FVal.pair {A : Nat → Prop} {W : World} {op x y op2 x2 y2 : Int} {kv kv2 : Value} {f g : Fo} (h : FValA A W (.agg #[.int .i64 op, .int .i64 x, .int .i64 y, kv]) f) (k : FValA A W (.agg #[.int .i64 op2, .int .i64 x2, .int .i64 y2, kv2]) g) (o : Int) (hB : A W.heap.size) :
    FValA A (W.alloc (.cells #[.int .i64 op, .int .i64 x, .int .i64 y, kv, .int .i64 op2, .int .i64 x2, .int .i64 y2, kv2] 89)) (.agg #[.int .i64 o, .int .i64 0, .int .i64 0, .slice (some ⟨W.heap.size, 0, none⟩) 2 2]) (.two o f g) := by
  obtain ⟨op', x', y', kv', kids, h1, h2, h3, h4⟩ := h
  simp at h1
  obtain ⟨rfl, rfl, rfl, rfl⟩ := h1
  obtain ⟨op', x', y', kv', kids2, h1, k2, k3, k4⟩ := k
  simp at h1
  obtain ⟨rfl, rfl, rfl, rfl⟩ := h1
  refine ⟨o, 0, 0, _, [.mk W.heap.size 0 op x y kv kids, .mk W.heap.size 4 op2 x2 y2 kv2 kids2], rfl, ⟨_, 2, rfl, Nat.le_refl _, Or.inr ⟨W.heap.size, 0, rfl, ?_⟩⟩, ?_, ?_⟩
  · intro j t hj
    match j, hj with
    | 0, hj => simp at hj; rw [← hj]; exact ⟨rfl, rfl⟩
    | 1, hj => simp at hj; rw [← hj]; exact ⟨rfl, rfl⟩
  · intro k hk
    simp at hk
    rcases hk with rfl | rfl
    · exact .mk hB ⟨_, _, World.alloc_heap_new W _, rfl, rfl, rfl, rfl⟩ h2 (fun k hk => (h3 k hk).keep ((FKeep.alloc 0 W _).toA A))
    · exact .mk hB ⟨_, _, World.alloc_heap_new W _, rfl, rfl, rfl, rfl⟩ k2 (fun k hk => (k3 k hk).keep ((FKeep.alloc 0 W _).toA A))
  · rw [h4, k4]; simp [Fo.two, Lf.er]

theorem rowIs_ne {w : World} {b : Nat} {t e : TypeId} {n : Nat} {f : Nat → Value} (h : w.rowIs b t n f) (hne : t ≠ e) (c : Array Value) (fz : Nat × Nat) : w.heap[b]? ≠ some (Obj.cells c e fz) := by
  intro hb
  obtain ⟨c', hc, _⟩ := h
  rw [hc] at hb
  simp at hb
  exact hne hb.2.1
theorem ownsRow_ne {w : World} {base size k b : Nat} {t e : TypeId} {v : Value} {xs : List Value} (hr : w.ownsRow base t size v k xs) (hb : v.ownBlock = some b) (hne : t ≠ e) (c : Array Value) (fz : Nat × Nat) : w.heap[b]? ≠ some (Obj.cells c e fz) := by
  intro hb2
  rcases hr.2 with ⟨rfl, _⟩ | ⟨g, cap, cur, rfl, _, hg, _⟩
  · simp [Value.ownBlock] at hb
  · simp [Value.ownBlock] at hb
    subst hb
    rw [hb2] at hg
    simp at hg
    exact hne hg.2.1.symm
theorem mapIs_ne {w : World} {k : TypeId} {b : Nat} {D : DataW Unit} (h : mapIs w k b D) (c : Array Value) (e : TypeId) (fz : Nat × Nat) : w.heap[b]? ≠ some (Obj.cells c e fz) := by
  obtain ⟨es, clock, hb, _⟩ := h
  rw [hb]
  simp

/-- What the bank may change are no Forms. -/
theorem Bk.noForm {w : World} {base p : Nat} {ev : Value} {nb fb : Nat} {l : List Tm} (h : Bk w base p ev nb fb l) {k : Nat} (hk : BFoot p ev nb fb k) (c : Array Value) (fz : Nat × Nat) : w.heap[k]? ≠ some (Obj.cells c 89 fz) := by
  rcases hk with rfl | rfl | rfl | e
  · exact rowIs_ne h.bank (by decide) c fz
  · obtain ⟨D, h1, _⟩ := h.nums
    exact mapIs_ne h1 c _ fz
  · obtain ⟨D, h1, _⟩ := h.fsts
    exact mapIs_ne h1 c _ fz
  · exact ownsRow_ne h.rows e (by decide) c fz
/-- The parser's steps keep Forms. -/
theorem PB.fkeep {w w' : World} {base r p : Nat} {ev ev' : Value} {nb fb : Nat} {s : ByteArray} {i d : Nat} {l : List Tm} (h : PB w base r p ev nb fb s i d l) (G : Grew (fun k => k = r) p nb fb w ev w' ev')  (B : Nat) : FKeep B w w' :=
  FKeep.of_kept G.kept (fun k hk c fz => hk.elim (fun e => e ▸ rowIs_ne h.lp.row (by decide) c fz) (fun e => h.bk.noForm e c fz)) B

set_option maxHeartbeats 400000 in
/-- A formula is within another. -/
theorem negation_in (w : World) (B : Nat) (v : Value) (f : Fo) (h : FVal B w v f) (hB : B ≤ w.heap.size) :
    Calls Try.prog 191 #[v] w fun e w' => ∃ u, e = .returned u ∧ FVal B w' u (.neg f) ∧ Kept0 w w' := by
  obtain ⟨op, x, y, a, n, cap, rfl⟩ := h.form
  have K : ∀ o1 o2 o3 : Obj, Kept0 w (((w.alloc o1).alloc o2).alloc o3) := fun o1 o2 o3 => Kept.alloc (Kept.alloc (Kept.alloc (Kept.refl _ w) _) _) _
  have N := fun o1 o2 : Obj => FVal.one ((h.keep (FKeep.alloc B w o1)).keep (FKeep.alloc B (w.alloc o1) o2)) (by simp; omega)
  go_enter Try.func191, Try.ntmps191
  go_wp2_with fail
  refine ⟨rfl, .agg #[.int .i64 1, .int .i64 0, .int .i64 0, .slice (some ⟨w.heap.size + 2, 0, none⟩) 1 1], by simp [results, Try.results191, go_sem], ?_⟩
  refine ⟨_, rfl, ?_, K _ _ _⟩
  have := N (.cells #[.int .i64 op, .int .i64 x, .int .i64 y, .slice a n cap] 89) (.cells #[.int .i64 1, .int .i64 0, .int .i64 0, .slice (some ⟨w.heap.size + 1 + 1, 0, none⟩) 1 1] 89)
  simpa using this

end Go.Proofs.Ytinphcnknionmaa

namespace Go.Proofs.Ytinphcnknionmaa
open Go.RowKit Go.Maps

/-- Four cells of a Form, in a block of the document's Forms. -/
def RCells (W : World) (b o : Nat) (op x y : Int) (kv : Value) : Prop :=
  ∃ c fz, W.heap[b]? = some (Obj.cells c 94 fz) ∧ c[o]? = some (.int .i64 op) ∧ c[o + 1]? = some (.int .i64 x) ∧ c[o + 2]? = some (.int .i64 y) ∧ c[o + 3]? = some kv

/-- Forms that lie in some blocks. -/
inductive LayR (A : Nat → Prop) (W : World) : Lf → Prop where
  | mk {b o : Nat} {op x y : Int} {kv : Value} {kids : List Lf} (hb : A b) (hc : RCells W b o op x y kv) (hk : KidsIn kv kids) (h : ∀ k ∈ kids, LayR A W k) : LayR A W (.mk b o op x y kv kids)

/-- Some blocks of Forms stay. -/
def RKeep (A : Nat → Prop) (W W' : World) : Prop := ∀ (k : Nat) (c : Array Value) (fz : Nat × Nat), A k → W.heap[k]? = some (Obj.cells c 94 fz) → W'.heap[k]? = some (Obj.cells c 94 fz)
theorem RKeep.refl (A : Nat → Prop) (W : World) : RKeep A W W := fun _ _ _ _ h => h
theorem RKeep.trans {A : Nat → Prop} {X Y Z : World} (h : RKeep A X Y) (k : RKeep A Y Z) : RKeep A X Z := fun i c fz hb x => k i c fz hb (h i c fz hb x)
theorem RKeep.mono {A A' : Nat → Prop} {X Y : World} (h : RKeep A X Y) (hA : ∀ k, A' k → A k) : RKeep A' X Y := fun i c fz hb x => h i c fz (hA i hb) x
theorem RKeep.setCell {A : Nat → Prop} (W : World) {b : Nat} (hb : ¬ A b) (o : Nat) (u : Value) : RKeep A W (W.setCell ⟨b, o, none⟩ u) := fun k _ _ hk h => (Below.heap_setCell W ⟨b, o, none⟩ u k (by show k ≠ b; rintro rfl; exact hb hk)).trans h
theorem RKeep.alloc (A : Nat → Prop) (W : World) (o : Obj) : RKeep A W (W.alloc o) := fun k _ _ _ h => (Below.heap_alloc W o k (Array.getElem?_eq_some_iff.1 h).1).trans h
theorem RKeep.of_kept {S : Nat → Prop} {W W' : World} (K : Kept S W W') (hS : ∀ k, S k → ∀ c fz, W.heap[k]? ≠ some (Obj.cells c 94 fz)) (A : Nat → Prop) : RKeep A W W' :=
  fun k c fz _ h => (K.block k (Array.getElem?_eq_some_iff.1 h).1 (fun x => hS k x c fz h)).trans h
theorem RKeep.kept0 {W W' : World} (K : Kept0 W W') (A : Nat → Prop) : RKeep A W W' := RKeep.of_kept K (fun _ x => x.elim) A

theorem RCells.keep {A : Nat → Prop} {W W' : World} (K : RKeep A W W') {b o : Nat} (hb : A b) {op x y : Int} {kv : Value} (h : RCells W b o op x y kv) : RCells W' b o op x y kv := by
  obtain ⟨c, fz, h1, h2⟩ := h
  exact ⟨c, fz, K _ _ _ hb h1, h2⟩
theorem LayR.keep {A : Nat → Prop} {W W' : World} (K : RKeep A W W') {t : Lf} (h : LayR A W t) : LayR A W' t := by
  induction h with
  | mk hb hc hk _ ih => exact .mk hb (hc.keep K hb) hk ih
theorem LayR.mono {A A' : Nat → Prop} {W : World} (hA : ∀ k, A k → A' k) {t : Lf} (h : LayR A W t) : LayR A' W t := by
  induction h with
  | mk hb hc hk _ ih => exact .mk (hA _ hb) hc hk ih
theorem LayR.lt {A : Nat → Prop} {W : World} {t : Lf} (h : LayR A W t) : LayR (fun k => A k ∧ k < W.heap.size) W t := by
  induction h with
  | mk hb hc hk _ ih => exact .mk ⟨hb, by obtain ⟨c, fz, h1, _⟩ := hc; exact (Array.getElem?_eq_some_iff.1 h1).1⟩ hc hk ih
theorem LayR.layC {A : Nat → Prop} {W : World} {t : Lf} (h : LayR A W t) : LayC W t := by
  induction h with
  | mk _ hc hk _ ih =>
    obtain ⟨c, fz, h1, h2, h3, h4, h5⟩ := hc
    exact .mk (by simp only [World.cell?, h1]; exact h2) (by simp only [World.cell?, h1]; exact h3) (by simp only [World.cell?, h1]; exact h4) (by simp only [World.cell?, h1]; exact h5) hk ih

/-- The value v is the Form f, whose Kids lie in some blocks. -/
def RVal (A : Nat → Prop) (W : World) (v : Value) (f : Fo) : Prop :=
  ∃ (op x y : Int) (kv : Value) (kids : List Lf), v = .agg #[.int .i64 op, .int .i64 x, .int .i64 y, kv] ∧ KidsIn kv kids ∧ (∀ k ∈ kids, LayR A W k) ∧ f = .mk op x y (kids.map Lf.er)
theorem RVal.keep {A : Nat → Prop} {W W' : World} (K : RKeep A W W') {v : Value} {f : Fo} (h : RVal A W v f) : RVal A W' v f := by
  obtain ⟨op, x, y, kv, kids, h1, h2, h3, h4⟩ := h
  exact ⟨op, x, y, kv, kids, h1, h2, fun k hk => (h3 k hk).keep K, h4⟩
theorem RVal.mono {A A' : Nat → Prop} {W : World} (hA : ∀ k, A k → A' k) {v : Value} {f : Fo} (h : RVal A W v f) : RVal A' W v f := by
  obtain ⟨op, x, y, kv, kids, h1, h2, h3, h4⟩ := h
  exact ⟨op, x, y, kv, kids, h1, h2, fun k hk => (h3 k hk).mono hA, h4⟩
theorem RVal.lt {A : Nat → Prop} {W : World} {v : Value} {f : Fo} (h : RVal A W v f) : RVal (fun k => A k ∧ k < W.heap.size) W v f := by
  obtain ⟨op, x, y, kv, kids, h1, h2, h3, h4⟩ := h
  exact ⟨op, x, y, kv, kids, h1, h2, fun k hk => (h3 k hk).lt, h4⟩
theorem RVal.form {A : Nat → Prop} {W : World} {v : Value} {f : Fo} (h : RVal A W v f) : ∃ (op x y : Int) (a : Option Addr) (n cap : Nat), v = .agg #[.int .i64 op, .int .i64 x, .int .i64 y, .slice a n cap] := by
  obtain ⟨op, x, y, kv, kids, h1, ⟨a, cap, rfl, _⟩, h3, h4⟩ := h
  exact ⟨op, x, y, a, _, cap, h1⟩
theorem RVal.eq (A : Nat → Prop) (W : World) (a b : Int) : RVal A W (.agg #[.int .i64 0, .int .i64 a, .int .i64 b, .slice none 0 0]) (.eq a b) :=
  ⟨0, a, b, .slice none 0 0, [], rfl, ⟨none, 0, rfl, Nat.le_refl _, Or.inl rfl⟩, by simp, rfl⟩

/-- One Form is laid as the Kids of another. -/
theorem RVal.one {A : Nat → Prop} {W : World} {op x y : Int} {kv : Value} {f : Fo} (h : RVal A W (.agg #[.int .i64 op, .int .i64 x, .int .i64 y, kv]) f) (hB : A W.heap.size) :
    RVal A (W.alloc (.cells #[.int .i64 op, .int .i64 x, .int .i64 y, kv] 94)) (.agg #[.int .i64 1, .int .i64 0, .int .i64 0, .slice (some ⟨W.heap.size, 0, none⟩) 1 1]) (.neg f) := by
  obtain ⟨op', x', y', kv', kids, h1, h2, h3, h4⟩ := h
  simp at h1
  obtain ⟨rfl, rfl, rfl, rfl⟩ := h1
  refine ⟨1, 0, 0, _, [.mk W.heap.size 0 op x y kv kids], rfl, ⟨_, 1, rfl, Nat.le_refl _, Or.inr ⟨W.heap.size, 0, rfl, ?_⟩⟩, ?_, ?_⟩
  · intro j t hj
    match j, hj with
    | 0, hj => simp at hj; rw [← hj]; exact ⟨rfl, rfl⟩
  · intro k hk
    obtain rfl := List.mem_singleton.1 hk
    exact .mk hB ⟨_, _, World.alloc_heap_new W _, rfl, rfl, rfl, rfl⟩ h2 (fun k hk => (h3 k hk).keep (RKeep.alloc A W _))
  · rw [h4]; simp [Fo.neg, Lf.er]
/-- Two Forms are. -/
theorem RVal.pair {A : Nat → Prop} {W : World} {op x y op2 x2 y2 : Int} {kv kv2 : Value} {f g : Fo} (h : RVal A W (.agg #[.int .i64 op, .int .i64 x, .int .i64 y, kv]) f) (k : RVal A W (.agg #[.int .i64 op2, .int .i64 x2, .int .i64 y2, kv2]) g) (o : Int) (hB : A W.heap.size) :
    RVal A (W.alloc (.cells #[.int .i64 op, .int .i64 x, .int .i64 y, kv, .int .i64 op2, .int .i64 x2, .int .i64 y2, kv2] 94)) (.agg #[.int .i64 o, .int .i64 0, .int .i64 0, .slice (some ⟨W.heap.size, 0, none⟩) 2 2]) (.two o f g) := by
  obtain ⟨op', x', y', kv', kids, h1, h2, h3, h4⟩ := h
  simp at h1
  obtain ⟨rfl, rfl, rfl, rfl⟩ := h1
  obtain ⟨op', x', y', kv', kids2, h1, k2, k3, k4⟩ := k
  simp at h1
  obtain ⟨rfl, rfl, rfl, rfl⟩ := h1
  refine ⟨o, 0, 0, _, [.mk W.heap.size 0 op x y kv kids, .mk W.heap.size 4 op2 x2 y2 kv2 kids2], rfl, ⟨_, 2, rfl, Nat.le_refl _, Or.inr ⟨W.heap.size, 0, rfl, ?_⟩⟩, ?_, ?_⟩
  · intro j t hj
    match j, hj with
    | 0, hj => simp at hj; rw [← hj]; exact ⟨rfl, rfl⟩
    | 1, hj => simp at hj; rw [← hj]; exact ⟨rfl, rfl⟩
  · intro k hk
    simp at hk
    rcases hk with rfl | rfl
    · exact .mk hB ⟨_, _, World.alloc_heap_new W _, rfl, rfl, rfl, rfl⟩ h2 (fun k hk => (h3 k hk).keep (RKeep.alloc A W _))
    · exact .mk hB ⟨_, _, World.alloc_heap_new W _, rfl, rfl, rfl, rfl⟩ k2 (fun k hk => (k3 k hk).keep (RKeep.alloc A W _))
  · rw [h4, k4]; simp [Fo.two, Lf.er]

set_option maxHeartbeats 1000000 in
/-- two. -/
theorem rtwo_in (w : World) (A : Nat → Prop) (pv u v : Value) (o : Int) (f g : Fo) (hu : RVal A w u f) (hv : RVal A w v g) (hA : ∀ k, w.heap.size ≤ k → A k) :
    Calls Try.prog 131 #[pv, .int .i64 o, u, v] w fun e w' => ∃ z, e = .returned z ∧ RVal A w' z (.two o f g) ∧ Kept0 w w' := by
  obtain ⟨op, x, y, a, n, cap, rfl⟩ := hu.form
  obtain ⟨op2, x2, y2, a2, n2, cap2, rfl⟩ := hv.form
  have K1 : Kept0 w (((w.alloc (.cells #[.int .i64 op, .int .i64 x, .int .i64 y, .slice a n cap] 94)).alloc (.cells #[.int .i64 op2, .int .i64 x2, .int .i64 y2, .slice a2 n2 cap2] 94)).alloc (.cells #[.int .i64 o, .int .i64 0, .int .i64 0, .slice (some ⟨w.heap.size + 1 + 1 + 1, 0, none⟩) 2 2] 94)) := Kept.alloc (Kept.alloc (Kept.alloc (Kept.refl _ w) _) _) _
  have hz : (((w.alloc (.cells #[.int .i64 op, .int .i64 x, .int .i64 y, .slice a n cap] 94)).alloc (.cells #[.int .i64 op2, .int .i64 x2, .int .i64 y2, .slice a2 n2 cap2] 94)).alloc (.cells #[.int .i64 o, .int .i64 0, .int .i64 0, .slice (some ⟨w.heap.size + 1 + 1 + 1, 0, none⟩) 2 2] 94)).heap.size = w.heap.size + 1 + 1 + 1 := by simp
  go_enter Try.func131, Try.ntmps131
  go_wp2_with fail
  refine ⟨rfl, .agg #[.int .i64 o, .int .i64 0, .int .i64 0, .slice (some ⟨w.heap.size + 1 + 1 + 1, 0, none⟩) 2 2], by simp [results, Try.results131, go_sem], _, rfl, ?_, Kept.alloc K1 _⟩
  have P := (hu.keep (RKeep.kept0 K1 A)).pair (hv.keep (RKeep.kept0 K1 A)) o (hA _ (by rw [hz]; omega))
  rw [hz] at P
  exact P

end Go.Proofs.Ytinphcnknionmaa
