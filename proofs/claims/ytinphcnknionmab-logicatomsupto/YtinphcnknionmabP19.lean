/- law05: Given. Ranges over a function whose elements come in an order that is known: the body is asked at the next one alone. -/
import Derived.Test.YtinphcnknionmabP16
import Derived.Test.YtinphcnknionmabP18
import Derived.Maps.AppendAt
import Derived.Test.YtinphcnknionmabP01
import Derived.RangeFuncNested
import Derived.RangeFuncBound
import Derived.RangeFuncCalls
import Derived.RangeFuncLeaves
import Derived.Shelf.Abstract
import Derived.Shelf.RegionOpen
import Derived.OwnWalkIn
import Derived.TacticsInMore
import Derived.LoopNIn
import Derived.LoopIn
namespace Go.Proofs.Ytinphcnknionmab
open Go.RowKit Go.Maps

/-- No Form has more Kids than that. -/
inductive Sml : Lf → Prop where
  | mk {b o : Nat} {op x y : Int} {kv : Value} {kids : List Lf} (hn : kids.length ≤ 1048576) (h : ∀ k ∈ kids, Sml k) : Sml (.mk b o op x y kv kids)
theorem Sml.szd {t : Lf} (h : Sml t) : Szd t := by
  induction h with
  | mk hn _ ih => exact .mk (by omega) ih

def formC (c : Lf) : List Value := [.int .i64 c.op, .int .i64 c.x, .int .i64 c.y, c.kv]
theorem formC_len (cs : List Lf) : (cs.flatMap formC).length = cs.length * 4 := by
  induction cs with
  | nil => rfl
  | cons c cs ih => simp [List.flatMap_cons, formC] at ih ⊢; omega
theorem formC_at (cs : List Lf) (i j : Nat) (hj : j < 4) : (cs.flatMap formC)[i * 4 + j]? = (cs[i]?).bind (fun t => (formC t)[j]?) := by
  induction cs generalizing i with
  | nil => simp
  | cons t l ih =>
    cases i with
    | zero => rcases (by omega : j = 0 ∨ j = 1 ∨ j = 2 ∨ j = 3) with rfl | rfl | rfl | rfl <;> simp [formC]
    | succ i =>
      have e : (i + 1) * 4 + j = 4 + (i * 4 + j) := by omega
      simp [List.flatMap_cons, e]
      rw [List.getElem?_append_right (by simp [formC])]
      simpa [formC] using ih i

/-- A row of Forms that is being made; their Kids lie elsewhere. -/
def KR (B : Nat) (W : World) (v : Value) (cs : List Lf) : Prop :=
  W.ownsRow B 31 4 v cs.length (cs.flatMap formC) ∧ ∀ c ∈ cs, KidsIn c.kv c.kids ∧ ∀ k ∈ c.kids, LayA (fun b => B ≤ b ∧ v.ownBlock ≠ some b) W k

theorem KR.nil (B : Nat) (W : World) : KR B W (.slice none 0 0) [] := ⟨World.ownsRow_nil _ _ _ _, by simp⟩
theorem row_formG {w : World} {base : Nat} {e : TypeId} {size : Nat} {v : Value} {n : Nat} {xs : List Value} (h : w.ownsRow base e size v n xs) : ∃ a c, v = .slice a n c := by
  rcases h.2 with ⟨rfl, h0⟩ | ⟨b, cap, cur, rfl, _⟩
  · rw [h0]; exact ⟨none, 0, rfl⟩
  · exact ⟨_, cap, rfl⟩
theorem row_blockG {W W' : World} {base size k : Nat} {ty : TypeId} {v : Value} {xs : List Value} (h : W.ownsRow base ty size v k xs) (hb : ∀ b, v.ownBlock = some b → W'.heap[b]? = W.heap[b]?) : W'.ownsRow base ty size v k xs := by
  refine ⟨h.1, ?_⟩
  rcases h.2 with e | ⟨g, cap, cur, e, e1, e2, e3⟩
  · exact Or.inl e
  · exact Or.inr ⟨g, cap, cur, e, e1, (hb g (by rw [e]; rfl)).trans e2, e3⟩
theorem KR.form {B : Nat} {W : World} {v : Value} {cs : List Lf} (h : KR B W v cs) : ∃ a c, v = .slice a cs.length c := row_formG h.1
theorem ownsRow_at {W : World} {base size k : Nat} {ty : TypeId} {v : Value} {xs : List Value} (h : W.ownsRow base ty size v k xs) {b : Nat} (hb : v.ownBlock = some b) : base ≤ b ∧ b < W.heap.size := by
  rcases h.2 with ⟨e, _⟩ | ⟨g, cap, cur, e, e1, e2, _⟩
  · rw [e] at hb; simp [Value.ownBlock] at hb
  · rw [e] at hb
    simp [Value.ownBlock] at hb
    subst hb
    exact ⟨e1, (Array.getElem?_eq_some_iff.1 e2).1⟩
theorem KR.below {B : Nat} {W W' : World} {v : Value} {cs : List Lf} (h : KR B W v cs) (hB : Below W.heap.size W W') : KR B W' v cs := by
  refine ⟨row_blockG h.1 (fun k hk => hB.block k (ownsRow_at h.1 hk).2), fun c hc => ⟨(h.2 c hc).1, fun k hk => ((h.2 c hc).2 k hk).keep (fun i _ _ _ hi => (hB.block i (Array.getElem?_eq_some_iff.1 hi).1).trans hi)⟩⟩

theorem KR.push {B : Nat} {W w7 w8 : World} {v v8 : Value} {cs : List Lf} {c : Lf} (h : KR B W v cs) (hBW : B ≤ W.heap.size) (hB : Below W.heap.size W w7) (hk : KidsIn c.kv c.kids) (hks : ∀ k ∈ c.kids, LayA (fun b => W.heap.size ≤ b) w7 k)
    (hown : w8.ownsRow B 31 4 v8 (cs.length + 1) (cs.flatMap formC ++ formC c)) (hgrow : w7.grownBy w8 v.ownBlock) (hat : v8.ownBlock = v.ownBlock ∨ v8.ownBlock = some w7.heap.size) : KR B w8 v8 (cs ++ [c]) := by
  have hv : ∀ b, v.ownBlock = some b → B ≤ b ∧ b < W.heap.size := fun b hb => ownsRow_at h.1 hb
  have K8 : FKeepA (fun b => v.ownBlock ≠ some b) w7 w8 := fun k c fz hk hc => (hgrow.block k (Array.getElem?_eq_some_iff.1 hc).1 (fun e => hk e.symm)).trans hc
  refine ⟨by simpa using hown, fun c' hc' => ?_⟩
  rcases List.mem_append.1 hc' with hc' | hc'
  · refine ⟨(h.2 c' hc').1, fun k hk => ?_⟩
    have h1 := ((h.2 c' hc').2 k hk).lt
    have h2 : LayA (fun b => (B ≤ b ∧ v.ownBlock ≠ some b) ∧ b < W.heap.size) w7 k := h1.keep (fun i _ _ _ hi => (hB.block i (Array.getElem?_eq_some_iff.1 hi).1).trans hi)
    refine (h2.keep (K8.mono (fun b hb => hb.1.2))).mono (fun b hb => ⟨hb.1.1, ?_⟩)
    rcases hat with e | e
    · rw [e]; exact hb.1.2
    · rw [e]
      have := hB.size
      intro e'
      cases e'
      omega
  · obtain rfl := List.mem_singleton.1 hc'
    refine ⟨hk, fun k hkk => ?_⟩
    have h1 := (hks k hkk).lt
    refine (h1.keep (K8.mono (fun b hb e => by have := (hv b e).2; omega))).mono (fun b hb => ⟨by omega, ?_⟩)
    rcases hat with e | e
    · rw [e]
      intro e'
      have := (hv b e').2
      omega
    · rw [e]
      intro e'
      cases e'
      omega

/-- When it is made, it is the Kids of a Form. -/
theorem KR.done {B : Nat} {W : World} {v : Value} {cs : List Lf} (h : KR B W v cs) (op x y : Int) : FVal B W (.agg #[.int .i64 op, .int .i64 x, .int .i64 y, v]) (.mk op x y (cs.map Lf.er)) := by
  obtain ⟨h1, h2⟩ := h
  rcases h1.2 with ⟨e, h0⟩ | ⟨g, cap, cur, e, e1, e2, e3, e4, e5, e6⟩
  · have : cs = [] := List.length_eq_zero_iff.1 h0
    subst this
    exact ⟨op, x, y, v, [], rfl, ⟨none, 0, e, Nat.le_refl _, Or.inl rfl⟩, by simp, rfl⟩
  · refine ⟨op, x, y, v, cs.mapIdx (fun j c => .mk g (j * 4) c.op c.x c.y c.kv c.kids), rfl, ⟨_, cap, by rw [List.length_mapIdx]; exact e, by rw [List.length_mapIdx]; exact e3, Or.inr ⟨g, 0, rfl, fun j t hj => ?_⟩⟩, fun k hk => ?_, ?_⟩
    · rw [List.getElem?_mapIdx] at hj
      obtain ⟨c, _, rfl⟩ := Option.map_eq_some_iff.1 hj
      simp [Lf.b, Lf.o]
    · obtain ⟨j, hj⟩ := List.getElem?_of_mem hk
      rw [List.getElem?_mapIdx] at hj
      obtain ⟨c, hc, rfl⟩ := Option.map_eq_some_iff.1 hj
      have hcm := List.mem_of_getElem? hc
      have hlt := (List.getElem?_eq_some_iff.1 hc).1
      have cell : ∀ i u, i < 4 → (formC c)[i]? = some u → cur[j * 4 + i]? = some u := fun i u hi hu => by
        have h3 : (cs.flatMap formC)[j * 4 + i]? = some u := by rw [formC_at cs j i hi, hc]; exact hu
        rw [← e6, List.getElem?_take] at h3
        split at h3
        · simpa using h3
        · cases h3
      exact .mk e1 ⟨cur, (0, 0), e2, cell 0 _ (by omega) rfl, cell 1 _ (by omega) rfl, cell 2 _ (by omega) rfl, cell 3 _ (by omega) rfl⟩ (h2 c hcm).1 (fun k hk => ((h2 c hcm).2 k hk).mono (fun b hb => hb.1))
    · congr 1
      apply List.ext_getElem?
      intro j
      simp only [List.getElem?_map, List.getElem?_mapIdx, Option.map_map]
      cases cs[j]? with
      | none => rfl
      | some c => simp [Lf.er]; cases c; simp [Lf.er, Lf.op, Lf.x, Lf.y, Lf.kids]

theorem infoForm : (Try.prog.info? 31).map (fun i => (i.zero, i.size, i.bytes)) = some (some (.agg #[.int .i64 0, .int .i64 0, .int .i64 0, .slice none 0 0]), 4, 48) := by kernel_rfl

end Go.Proofs.Ytinphcnknionmab

namespace Go.Proofs.Ytinphcnknionmab
open Go.RowKit Go.Shelf

/-- Cells of one of some types. -/
def OfTy (tys : TypeId → Prop) (o : Obj) : Prop := ∃ c ty fz, o = Obj.cells c ty fz ∧ tys ty

/-- What an iterator does between two rounds: below B nothing changes, from B on cells stay that are not of type ty. -/
structure Ow (ty : TypeId) (B : Nat) (W W' : World) : Prop where
  os : W'.os = W.os
  tape : W'.tape = W.tape
  output : W'.output = W.output
  size : W.heap.size ≤ W'.heap.size
  same : ∀ (k : Nat) (o : Obj), W.heap[k]? = some o → (k < B ∨ (o.isCells = true ∧ ¬ OfTy (fun t => t = ty) o)) → W'.heap[k]? = some o

/-- What a round keeps: from B on what is no cells, and the cells of some types. -/
structure Kr (tys : TypeId → Prop) (B : Nat) (W W' : World) : Prop where
  size : W.heap.size ≤ W'.heap.size
  same : ∀ (k : Nat) (o : Obj), W.heap[k]? = some o → ((B ≤ k ∧ o.isCells = false) ∨ OfTy tys o) → W'.heap[k]? = some o

theorem Ow.refl (ty : TypeId) (B : Nat) (W : World) : Ow ty B W W := ⟨rfl, rfl, rfl, Nat.le_refl _, fun _ _ h _ => h⟩
theorem Ow.trans {ty : TypeId} {B : Nat} {X Y Z : World} (h : Ow ty B X Y) (k : Ow ty B Y Z) : Ow ty B X Z :=
  ⟨k.os.trans h.os, k.tape.trans h.tape, k.output.trans h.output, Nat.le_trans h.size k.size, fun i o hi ho => k.same i o (h.same i o hi ho) ho⟩
theorem Ow.mono {ty : TypeId} {B B' : Nat} {X Y : World} (h : Ow ty B X Y) (hB : B' ≤ B) : Ow ty B' X Y :=
  ⟨h.os, h.tape, h.output, h.size, fun i o hi ho => h.same i o hi (ho.imp (fun x => by omega) id)⟩
theorem Kr.refl (tys : TypeId → Prop) (B : Nat) (W : World) : Kr tys B W W := ⟨Nat.le_refl _, fun _ _ h _ => h⟩
theorem Kr.trans {tys : TypeId → Prop} {B : Nat} {X Y Z : World} (h : Kr tys B X Y) (k : Kr tys B Y Z) : Kr tys B X Z :=
  ⟨Nat.le_trans h.size k.size, fun i o hi ho => k.same i o (h.same i o hi ho) ho⟩
theorem Kr.mono {tys : TypeId → Prop} {B B' : Nat} {X Y : World} (h : Kr tys B X Y) (hB : B ≤ B') : Kr tys B' X Y :=
  ⟨h.size, fun i o hi ho => h.same i o hi (ho.imp (fun x => ⟨by omega, x.2⟩) id)⟩

theorem OfTy.isCells {tys : TypeId → Prop} {o : Obj} (h : OfTy tys o) : o.isCells = true := by
  obtain ⟨c, ty, fz, rfl, _⟩ := h
  rfl

/-- A block that is no cells is laid anew. -/
theorem Ow.putObj {ty : TypeId} {B : Nat} {W : World} {l : Nat} {o : Obj} (o' : Obj) (hB : B ≤ l) (hl : W.heap[l]? = some o) (ho : o.isCells = false) : Ow ty B W (W.putObj l o') := by
  refine ⟨rfl, rfl, rfl, by simp, fun k x hk hx => ?_⟩
  rw [World.putObj_heap_other]
  · exact hk
  · rintro rfl
    rcases hx with hx | hx
    · omega
    · rw [hl] at hk
      cases hk
      rw [ho] at hx
      cases hx.1
theorem Kr.putObj {tys : TypeId → Prop} {B : Nat} {W : World} {l : Nat} {o : Obj} (o' : Obj) (hB : l < B) (hl : W.heap[l]? = some o) (ho : o.isCells = false) : Kr tys B W (W.putObj l o') := by
  refine ⟨by simp, fun k x hk hx => ?_⟩
  rw [World.putObj_heap_other]
  · exact hk
  · rintro rfl
    rcases hx with hx | hx
    · omega
    · rw [hl] at hk
      cases hk
      rw [hx.isCells] at ho
      cases ho
theorem Ow.alloc {ty : TypeId} {B : Nat} (W : World) (o : Obj) : Ow ty B W (W.alloc o) :=
  ⟨rfl, rfl, rfl, by simp, fun k _ hk _ => (Below.heap_alloc W o k (Array.getElem?_eq_some_iff.1 hk).1).trans hk⟩
theorem Kr.alloc {tys : TypeId → Prop} {B : Nat} (W : World) (o : Obj) : Kr tys B W (W.alloc o) :=
  ⟨by simp, fun k _ hk _ => (Below.heap_alloc W o k (Array.getElem?_eq_some_iff.1 hk).1).trans hk⟩

/-- An iterator whose elements are tr, in this order, under a body that always goes on. -/
def SeqT {α : Type} (n : Nat) (P : Program) (tys : TypeId → Prop) (ty : TypeId) (g : Nat) (lb : Array Value) (encs : α → Array Value) (tr : List α) (w : World) : Prop :=
  ∀ (l : Nat) (J : Nat → World → Prop) (W : World), Below w.heap.size w W → (∀ i A B, J i A → Ow ty W.heap.size A B → J i B) →
    (∀ i x W1, tr[i]? = some x → J i W1 → YieldAt Fence.wide (n - 1) P l (encs x) W1 fun e W' => e = .returned (.bool true) ∧ J (i + 1) W' ∧ Kr tys W.heap.size W1 W') →
    J 0 W → CallsIn Fence.wide n P g (#[.func (.yield l) #[] #[]] ++ lb) W fun e W' => (∃ v, e = .returned v) ∧ J tr.length W'

/-- How the body of a round ends. -/
def goesOn (tys : TypeId → Prop) (B : Nat) (I : World → Prop) (W : World) : Exit → Act → World → Prop
  | .normal, _, W' => Kr tys B W W' ∧ I W'
  | _, _, _ => False

theorem rangeT {α : Type} {n : Nat} {P : Program} {tys : TypeId → Prop} {ty : TypeId} {g : Operand} {ps : Array Tmp} {assign body : Code} {Q : Exit → Act → World → Prop} {a : Act} {w : World}
    (h1 : 1 ≤ n) {gf : Nat} {lb : Array Value} (hg : a.eval g = .func (.func gf) #[] lb) (eg : ∀ args w, (callFunc gf args).run P w = .ok (.enter gf args) w)
    {encs : α → Array Value} {tr : List α} {w0 : World} (hseq : SeqT (n - 1) P tys ty gf lb encs tr w0) (hb0 : Below w0.heap.size w0 w) (hps : ∀ x, (encs x).size = ps.size)
    (I : Nat → World → Prop) (hI : ∀ i A B, I i A → Ow ty w.heap.size A B → I i B) (h0 : I 0 w) (a₁ : α → Act)
    (hassign : ∀ (l : Nat) (x : α) (W : World) (K : Act → World → Prop), K (a₁ x) W →
      assign.wpIn (Fence.wide.inRound l) (n - 1 - 1) P (Exit.then K (fun _ _ _ => False)) { tmps := (ps.zip (encs x)).foldl (fun t (p, v) => t.setIfInBounds p v) a.tmps, defers := [] } W)
    (hbody : ∀ (l i : Nat) (x : α) (W : World), tr[i]? = some x → w.heap.size ≤ W.heap.size → I i W → body.wpIn (Fence.wide.inRound l) (n - 1 - 1) P (goesOn tys w.heap.size (I (i + 1)) W) (a₁ x) W)
    (hdone : ∀ (D : Nat) (W : World), w.heap.size ≤ D → I tr.length W → W.heap[D]? = some (.deferred (some [])) → Q .normal { a with defers := { target := .collected D, args := #[] } :: a.defers } W) :
    (Code.rangeFunc g ps assign body).wpIn Fence.wide n P Q a w := by
  refine wpIn_rangeFunc ?_
  intro fn hfn
  show ∃ _, _
  rw [show Fence.wide.round = none from rfl]
  obtain ⟨rec, hrec⟩ : ∃ rec : LoopState → Option Code → Loop, rec = fun st pe => { state := st, pending := pe, fn, tmps := a.tmps, params := ps, assign, body, defers := w.heap.size } := ⟨_, rfl⟩
  obtain ⟨W1, hW1⟩ : ∃ W1, (w.alloc (.deferred (some []))).alloc (.loop (rec .ready none)) = W1 := ⟨_, rfl⟩
  have hsz : W1.heap.size = w.heap.size + 2 := by rw [← hW1]; simp
  have hL1 : W1.heap[w.heap.size + 1]? = some (.loop (rec .ready none)) := by
    have := World.alloc_heap_new (w.alloc (.deferred (some []))) (.loop (rec .ready none))
    rw [World.size_alloc, hW1] at this
    exact this
  have hD1 : W1.heap[w.heap.size]? = some (.deferred (some [])) := by
    rw [← hW1]
    exact (Below.heap_alloc _ _ _ (by simp)).trans (World.alloc_heap_new w _)
  have hO1 : Ow ty w.heap.size w W1 := by rw [← hW1]; exact (Ow.alloc w _).trans (Ow.alloc _ _)
  have hb1 : Below w0.heap.size w0 W1 := by
    rw [← hW1]
    exact hb0.trans ((((Below.refl _ w).alloc (Nat.le_refl _) _).alloc (by simp) _).mono hb0.size)
  refine ⟨w.heap.size + 1, [{ target := .collected w.heap.size, args := #[] }], W1, { target := .fn (.func gf) lb, args := #[.func (.yield (w.heap.size + 1)) #[] #[]] }, W1, gf, #[.func (.yield (w.heap.size + 1)) #[] #[]] ++ lb, W1, ?_, ?_, ?_, ?_, fun _ => h1, ?_⟩
  · rw [← hW1, hrec]; exact run_enterLoop_outer _ _ _ _ _
  · simp only [resolve, hg]
    simp [go_sem]
  · intro f' _; trivial
  · simp [invoke, go_sem, eg]
  · refine (hseq (w.heap.size + 1) (fun i W => I i W ∧ W.heap[w.heap.size + 1]? = some (.loop (rec .ready none)) ∧ W.heap[w.heap.size]? = some (.deferred (some [])) ∧ w.heap.size ≤ W.heap.size) W1 hb1 ?_ ?_ ⟨hI 0 _ _ h0 hO1, hL1, hD1, by omega⟩).mono ?_
    · rintro i A B ⟨hi, hl, hd, hs⟩ hO
      exact ⟨hI i A B hi (hO.mono (by omega)), hO.same _ _ hl (Or.inl (by omega)), hO.same _ _ hd (Or.inl (by omega)), Nat.le_trans hs hO.size⟩
    · rintro i x W hx ⟨hi, hl, hd, hs⟩
      have hlt : w.heap.size + 1 < W.heap.size := (Array.getElem?_eq_some_iff.1 hl).1
      have hy := run_yield (P := P) (args := encs x) hl (by rw [hrec]; exact hps x)
      rw [hrec] at hy
      refine ⟨fn, _, assign, body, hy, roundIn_of_wpIn hfn (hassign _ x W _ ?_)⟩
      clear hy
      refine ⟨_, run_beginRound hl (by rw [hrec]), ?_⟩
      obtain ⟨W2, hW2⟩ : ∃ W2, W.putObj (w.heap.size + 1) (.loop { rec .ready none with state := .busy }) = W2 := ⟨_, rfl⟩
      have hl2 : W2.heap[w.heap.size + 1]? = some (.loop { rec .ready none with state := .busy }) := by rw [← hW2]; exact World.putObj_heap_same hlt
      have hd2 : W2.heap[w.heap.size]? = some (.deferred (some [])) := by rw [← hW2]; exact (World.putObj_heap_other (by omega)).trans hd
      have hO2 : Ow ty w.heap.size W W2 := by rw [← hW2]; exact Ow.putObj _ (by omega) hl rfl
      have hK2 : Kr tys W1.heap.size W W2 := by rw [← hW2]; exact Kr.putObj _ (by omega) hl rfl
      rw [hW2]
      refine wpIn_mono (hbody _ i x W2 hx (Nat.le_trans hs hO2.size) (hI i _ _ hi hO2)) ?_
      rintro e a3 W3 hp
      cases e with
      | normal =>
        obtain ⟨hk3, hi3⟩ := hp
        have hl3 := hk3.same _ _ hl2 (Or.inl ⟨by omega, rfl⟩)
        have hd3 := hk3.same _ _ hd2 (Or.inl ⟨by omega, rfl⟩)
        have hlt3 := (Array.getElem?_eq_some_iff.1 hl3).1
        have hr := run_endRound (P := P) none hl3
        refine ⟨_, _, hr, rfl, ⟨hI _ _ _ hi3 (Ow.putObj _ (by omega) hl3 rfl), ?_, (World.putObj_heap_other (by omega)).trans hd3, by simp; omega⟩, (hK2.trans (hk3.mono (by omega))).trans (Kr.putObj _ (by omega) hl3 rfl)⟩
        rw [World.putObj_heap_same hlt3, hrec]
        rfl
      | ret => exact hp.elim
      | exit id => exact hp.elim
      | goto t => exact hp.elim
      | panic ch => exact hp.elim
      | outgrown => exact hp.elim
    · rintro e W2 ⟨⟨v, rfl⟩, hi, hl, hd, hs⟩
      exact ⟨none, _, by have := run_endLoop (P := P) hl (by rw [hrec]; simp); rw [hrec] at this; exact this, hdone _ _ (Nat.le_refl _) (hI _ _ _ hi (Ow.putObj _ (by omega) hl rfl)) ((World.putObj_heap_other (by omega)).trans hd)⟩

end Go.Proofs.Ytinphcnknionmab
