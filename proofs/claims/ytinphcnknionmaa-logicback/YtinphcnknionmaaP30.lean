/- Ranges over a function whose elements come in an order that is known: the body is asked at the next one alone. Package logic: the way through a formula, plainly; kids. -/
import Derived.Test.YtinphcnknionmaaP00
import Derived.RangeFuncNested
import Derived.RangeFuncBound
import Derived.RangeFuncCalls
import Derived.RangeFuncLeaves
import Derived.Shelf.Abstract
import Derived.Shelf.RegionOpen
import Derived.OwnWalkIn
import Derived.TacticsInMore
import Derived.LoopNIn
import Derived.LoopIn
import Derived.Test.YtinphcnknionmaaP16
import Derived.Sort.LoopGhostIn
namespace Go.Proofs.Ytinphcnknionmaa
open Go.RowKit Go.Shelf

/-- Cells of one of some types. -/
def OfTy (tys : TypeId → Prop) (o : Obj) : Prop := ∃ c ty fz, o = Obj.cells c ty fz ∧ tys ty

/-- What an iterator does between two rounds: below B nothing changes, from B on cells stay that are not of type ty. -/
structure Ow (ty : TypeId) (B : Nat) (W W' : World) : Prop where
  os : W'.os = W.os
  tape : W'.tape = W.tape
  output : W'.output = W.output
  size : W.heap.size ≤ W'.heap.size
  same : ∀ (k : Nat) (o : Obj), W.heap[k]? = some o → (k < B ∨ (o.isCells = true ∧ ¬ OfTy (fun t => t = ty) o)) → W'.heap[k]? = some o

/-- What a round keeps: from B on what is no cells, and the cells of some types. -/
structure Kr (tys : TypeId → Prop) (B : Nat) (W W' : World) : Prop where
  size : W.heap.size ≤ W'.heap.size
  same : ∀ (k : Nat) (o : Obj), W.heap[k]? = some o → ((B ≤ k ∧ o.isCells = false) ∨ OfTy tys o) → W'.heap[k]? = some o

theorem Ow.refl (ty : TypeId) (B : Nat) (W : World) : Ow ty B W W := ⟨rfl, rfl, rfl, Nat.le_refl _, fun _ _ h _ => h⟩
theorem Ow.trans {ty : TypeId} {B : Nat} {X Y Z : World} (h : Ow ty B X Y) (k : Ow ty B Y Z) : Ow ty B X Z :=
  ⟨k.os.trans h.os, k.tape.trans h.tape, k.output.trans h.output, Nat.le_trans h.size k.size, fun i o hi ho => k.same i o (h.same i o hi ho) ho⟩
theorem Ow.mono {ty : TypeId} {B B' : Nat} {X Y : World} (h : Ow ty B X Y) (hB : B' ≤ B) : Ow ty B' X Y :=
  ⟨h.os, h.tape, h.output, h.size, fun i o hi ho => h.same i o hi (ho.imp (fun x => by omega) id)⟩
theorem Kr.refl (tys : TypeId → Prop) (B : Nat) (W : World) : Kr tys B W W := ⟨Nat.le_refl _, fun _ _ h _ => h⟩
theorem Kr.trans {tys : TypeId → Prop} {B : Nat} {X Y Z : World} (h : Kr tys B X Y) (k : Kr tys B Y Z) : Kr tys B X Z :=
  ⟨Nat.le_trans h.size k.size, fun i o hi ho => k.same i o (h.same i o hi ho) ho⟩
theorem Kr.mono {tys : TypeId → Prop} {B B' : Nat} {X Y : World} (h : Kr tys B X Y) (hB : B ≤ B') : Kr tys B' X Y :=
  ⟨h.size, fun i o hi ho => h.same i o hi (ho.imp (fun x => ⟨by omega, x.2⟩) id)⟩

theorem OfTy.isCells {tys : TypeId → Prop} {o : Obj} (h : OfTy tys o) : o.isCells = true := by
  obtain ⟨c, ty, fz, rfl, _⟩ := h
  rfl

/-- A block that is no cells is laid anew. -/
theorem Ow.putObj {ty : TypeId} {B : Nat} {W : World} {l : Nat} {o : Obj} (o' : Obj) (hB : B ≤ l) (hl : W.heap[l]? = some o) (ho : o.isCells = false) : Ow ty B W (W.putObj l o') := by
  refine ⟨rfl, rfl, rfl, by simp, fun k x hk hx => ?_⟩
  rw [World.putObj_heap_other]
  · exact hk
  · rintro rfl
    rcases hx with hx | hx
    · omega
    · rw [hl] at hk
      cases hk
      rw [ho] at hx
      cases hx.1
theorem Kr.putObj {tys : TypeId → Prop} {B : Nat} {W : World} {l : Nat} {o : Obj} (o' : Obj) (hB : l < B) (hl : W.heap[l]? = some o) (ho : o.isCells = false) : Kr tys B W (W.putObj l o') := by
  refine ⟨by simp, fun k x hk hx => ?_⟩
  rw [World.putObj_heap_other]
  · exact hk
  · rintro rfl
    rcases hx with hx | hx
    · omega
    · rw [hl] at hk
      cases hk
      rw [hx.isCells] at ho
      cases ho
theorem Ow.alloc {ty : TypeId} {B : Nat} (W : World) (o : Obj) : Ow ty B W (W.alloc o) :=
  ⟨rfl, rfl, rfl, by simp, fun k _ hk _ => (Below.heap_alloc W o k (Array.getElem?_eq_some_iff.1 hk).1).trans hk⟩
theorem Kr.alloc {tys : TypeId → Prop} {B : Nat} (W : World) (o : Obj) : Kr tys B W (W.alloc o) :=
  ⟨by simp, fun k _ hk _ => (Below.heap_alloc W o k (Array.getElem?_eq_some_iff.1 hk).1).trans hk⟩

/-- An iterator whose elements are tr, in this order, under a body that always goes on. -/
def SeqT {α : Type} (n : Nat) (P : Program) (tys : TypeId → Prop) (ty : TypeId) (g : Nat) (lb : Array Value) (encs : α → Array Value) (tr : List α) (w : World) : Prop :=
  ∀ (l : Nat) (J : Nat → World → Prop) (W : World), Below w.heap.size w W → (∀ i A B, J i A → Ow ty W.heap.size A B → J i B) →
    (∀ i x W1, tr[i]? = some x → J i W1 → YieldAt Fence.wide (n - 1) P l (encs x) W1 fun e W' => e = .returned (.bool true) ∧ J (i + 1) W' ∧ Kr tys W.heap.size W1 W') →
    J 0 W → CallsIn Fence.wide n P g (#[.func (.yield l) #[] #[]] ++ lb) W fun e W' => (∃ v, e = .returned v) ∧ J tr.length W'

/-- How the body of a round ends. -/
def goesOn (tys : TypeId → Prop) (B : Nat) (I : World → Prop) (W : World) : Exit → Act → World → Prop
  | .normal, _, W' => Kr tys B W W' ∧ I W'
  | _, _, _ => False

theorem rangeT {α : Type} {n : Nat} {P : Program} {tys : TypeId → Prop} {ty : TypeId} {g : Operand} {ps : Array Tmp} {assign body : Code} {Q : Exit → Act → World → Prop} {a : Act} {w : World}
    (h1 : 1 ≤ n) {gf : Nat} {lb : Array Value} (hg : a.eval g = .func (.func gf) #[] lb) (eg : ∀ args w, (callFunc gf args).run P w = .ok (.enter gf args) w)
    {encs : α → Array Value} {tr : List α} {w0 : World} (hseq : SeqT (n - 1) P tys ty gf lb encs tr w0) (hb0 : Below w0.heap.size w0 w) (hps : ∀ x, (encs x).size = ps.size)
    (I : Nat → World → Prop) (hI : ∀ i A B, I i A → Ow ty w.heap.size A B → I i B) (h0 : I 0 w) (a₁ : α → Act)
    (hassign : ∀ (l : Nat) (x : α) (W : World) (K : Act → World → Prop), K (a₁ x) W →
      assign.wpIn (Fence.wide.inRound l) (n - 1 - 1) P (Exit.then K (fun _ _ _ => False)) { tmps := (ps.zip (encs x)).foldl (fun t (p, v) => t.setIfInBounds p v) a.tmps, defers := [] } W)
    (hbody : ∀ (l i : Nat) (x : α) (W : World), tr[i]? = some x → w.heap.size ≤ W.heap.size → I i W → body.wpIn (Fence.wide.inRound l) (n - 1 - 1) P (goesOn tys w.heap.size (I (i + 1)) W) (a₁ x) W)
    (hdone : ∀ (D : Nat) (W : World), w.heap.size ≤ D → I tr.length W → W.heap[D]? = some (.deferred (some [])) → Q .normal { a with defers := { target := .collected D, args := #[] } :: a.defers } W) :
    (Code.rangeFunc g ps assign body).wpIn Fence.wide n P Q a w := by
  refine wpIn_rangeFunc ?_
  intro fn hfn
  show ∃ _, _
  rw [show Fence.wide.round = none from rfl]
  obtain ⟨rec, hrec⟩ : ∃ rec : LoopState → Option Code → Loop, rec = fun st pe => { state := st, pending := pe, fn, tmps := a.tmps, params := ps, assign, body, defers := w.heap.size } := ⟨_, rfl⟩
  obtain ⟨W1, hW1⟩ : ∃ W1, (w.alloc (.deferred (some []))).alloc (.loop (rec .ready none)) = W1 := ⟨_, rfl⟩
  have hsz : W1.heap.size = w.heap.size + 2 := by rw [← hW1]; simp
  have hL1 : W1.heap[w.heap.size + 1]? = some (.loop (rec .ready none)) := by
    have := World.alloc_heap_new (w.alloc (.deferred (some []))) (.loop (rec .ready none))
    rw [World.size_alloc, hW1] at this
    exact this
  have hD1 : W1.heap[w.heap.size]? = some (.deferred (some [])) := by
    rw [← hW1]
    exact (Below.heap_alloc _ _ _ (by simp)).trans (World.alloc_heap_new w _)
  have hO1 : Ow ty w.heap.size w W1 := by rw [← hW1]; exact (Ow.alloc w _).trans (Ow.alloc _ _)
  have hb1 : Below w0.heap.size w0 W1 := by
    rw [← hW1]
    exact hb0.trans ((((Below.refl _ w).alloc (Nat.le_refl _) _).alloc (by simp) _).mono hb0.size)
  refine ⟨w.heap.size + 1, [{ target := .collected w.heap.size, args := #[] }], W1, { target := .fn (.func gf) lb, args := #[.func (.yield (w.heap.size + 1)) #[] #[]] }, W1, gf, #[.func (.yield (w.heap.size + 1)) #[] #[]] ++ lb, W1, ?_, ?_, ?_, ?_, fun _ => h1, ?_⟩
  · rw [← hW1, hrec]; exact run_enterLoop_outer _ _ _ _ _
  · simp only [resolve, hg]
    simp [go_sem]
  · intro f' _; trivial
  · simp [invoke, go_sem, eg]
  · refine (hseq (w.heap.size + 1) (fun i W => I i W ∧ W.heap[w.heap.size + 1]? = some (.loop (rec .ready none)) ∧ W.heap[w.heap.size]? = some (.deferred (some [])) ∧ w.heap.size ≤ W.heap.size) W1 hb1 ?_ ?_ ⟨hI 0 _ _ h0 hO1, hL1, hD1, by omega⟩).mono ?_
    · rintro i A B ⟨hi, hl, hd, hs⟩ hO
      exact ⟨hI i A B hi (hO.mono (by omega)), hO.same _ _ hl (Or.inl (by omega)), hO.same _ _ hd (Or.inl (by omega)), Nat.le_trans hs hO.size⟩
    · rintro i x W hx ⟨hi, hl, hd, hs⟩
      have hlt : w.heap.size + 1 < W.heap.size := (Array.getElem?_eq_some_iff.1 hl).1
      have hy := run_yield (P := P) (args := encs x) hl (by rw [hrec]; exact hps x)
      rw [hrec] at hy
      refine ⟨fn, _, assign, body, hy, roundIn_of_wpIn hfn (hassign _ x W _ ?_)⟩
      clear hy
      refine ⟨_, run_beginRound hl (by rw [hrec]), ?_⟩
      obtain ⟨W2, hW2⟩ : ∃ W2, W.putObj (w.heap.size + 1) (.loop { rec .ready none with state := .busy }) = W2 := ⟨_, rfl⟩
      have hl2 : W2.heap[w.heap.size + 1]? = some (.loop { rec .ready none with state := .busy }) := by rw [← hW2]; exact World.putObj_heap_same hlt
      have hd2 : W2.heap[w.heap.size]? = some (.deferred (some [])) := by rw [← hW2]; exact (World.putObj_heap_other (by omega)).trans hd
      have hO2 : Ow ty w.heap.size W W2 := by rw [← hW2]; exact Ow.putObj _ (by omega) hl rfl
      have hK2 : Kr tys W1.heap.size W W2 := by rw [← hW2]; exact Kr.putObj _ (by omega) hl rfl
      rw [hW2]
      refine wpIn_mono (hbody _ i x W2 hx (Nat.le_trans hs hO2.size) (hI i _ _ hi hO2)) ?_
      rintro e a3 W3 hp
      cases e with
      | normal =>
        obtain ⟨hk3, hi3⟩ := hp
        have hl3 := hk3.same _ _ hl2 (Or.inl ⟨by omega, rfl⟩)
        have hd3 := hk3.same _ _ hd2 (Or.inl ⟨by omega, rfl⟩)
        have hlt3 := (Array.getElem?_eq_some_iff.1 hl3).1
        have hr := run_endRound (P := P) none hl3
        refine ⟨_, _, hr, rfl, ⟨hI _ _ _ hi3 (Ow.putObj _ (by omega) hl3 rfl), ?_, (World.putObj_heap_other (by omega)).trans hd3, by simp; omega⟩, (hK2.trans (hk3.mono (by omega))).trans (Kr.putObj _ (by omega) hl3 rfl)⟩
        rw [World.putObj_heap_same hlt3, hrec]
        rfl
      | ret => exact hp.elim
      | exit id => exact hp.elim
      | goto t => exact hp.elim
      | panic ch => exact hp.elim
      | outgrown => exact hp.elim
    · rintro e W2 ⟨⟨v, rfl⟩, hi, hl, hd, hs⟩
      exact ⟨none, _, by have := run_endLoop (P := P) hl (by rw [hrec]; simp); rw [hrec] at this; exact this, hdone _ _ (Nat.le_refl _) (hI _ _ _ hi (Ow.putObj _ (by omega) hl rfl)) ((World.putObj_heap_other (by omega)).trans hd)⟩

end Go.Proofs.Ytinphcnknionmaa

namespace Go.Proofs.Ytinphcnknionmaa
open Go.RowKit Go.Shelf

/-- The Forms that are gone through within one. -/
def Lf.ks (t : Lf) : List Lf := if t.op = 0 then [] else t.kids

theorem ks_lt {t k : Lf} (h : k ∈ t.ks) : SizeOf.sizeOf k < SizeOf.sizeOf t := by
  unfold Lf.ks at h
  split at h
  · cases h
  · cases t with
    | mk b o op x y kv kids =>
      have : k ∈ kids := h
      have := List.sizeOf_lt_of_mem this
      simp
      omega

/-- What comes, from a Form of which d Kids are done. -/
def wk (t : Lf) (d : Nat) : List (Lf × Nat) := (t, d) :: (match _h : t.ks[d]? with
  | none => []
  | some k => wk k 0 ++ wk t (d + 1))
termination_by (SizeOf.sizeOf t, t.ks.length - d)
decreasing_by
  · exact Prod.Lex.left _ _ (ks_lt (List.mem_of_getElem? _h))
  · have := (List.getElem?_eq_some_iff.1 _h).1
    exact Prod.Lex.right _ (by omega)

theorem wk_end {t : Lf} {d : Nat} (h : t.ks[d]? = none) : wk t d = [(t, d)] := by
  rw [wk]
  split
  · rfl
  · next k hk => rw [h] at hk; cases hk
theorem wk_step {t k : Lf} {d : Nat} (h : t.ks[d]? = some k) : wk t d = (t, d) :: (wk k 0 ++ wk t (d + 1)) := by
  rw [wk]
  split
  · next hk => rw [h] at hk; cases hk
  · next k' hk => rw [h] at hk; cases hk; rfl

/-- What is still to come, by the way down (the last one first). -/
def rem (st : List (Lf × Nat)) : List (Lf × Nat) := st.flatMap fun x => wk x.1 x.2

/-- All Forms of one lie in memory. -/
abbrev Here (W : World) (t : Lf) : Prop := LayA (fun _ => True) W t

theorem Here.cells {W : World} {t : Lf} (h : Here W t) : FCells W t.b t.o t.op t.x t.y t.kv := by
  cases h with
  | mk hb hc hk _ => exact hc
theorem Here.kidsIn {W : World} {t : Lf} (h : Here W t) : KidsIn t.kv t.kids := by
  cases h with
  | mk hb hc hk _ => exact hk
theorem Here.kid {W : World} {t k : Lf} (h : Here W t) (hk : k ∈ t.kids) : Here W k := by
  cases h with
  | mk _ _ _ hh => exact hh k hk

set_option maxHeartbeats 1000000 in
/-- kids. -/
theorem kids_in (w : World) (t : Lf) (h : Here w t) :
    Calls Try.prog 133 #[.pointer (some ⟨t.b, t.o, none⟩)] w fun e w' => e = .returned (if t.op = 0 then .slice none 0 0 else t.kv) ∧ w' = w := by
  have c0 := h.cells.c0
  have c3 := h.cells.c3
  obtain ⟨a, cap, hkv, _⟩ := h.kidsIn
  rw [hkv] at c3 ⊢
  go_enter Try.func133, Try.ntmps133
  by_cases h0 : t.op = 0
  · rw [if_pos h0]
    rw [h0] at c0
    go_wp2_with fail
    go_ret
    exact ⟨rfl, rfl⟩
  · rw [if_neg h0]
    have d0 : (t.op == 0) = false := by simpa using h0
    go_wp2_with fail
    go_ret
    exact ⟨rfl, rfl⟩

end Go.Proofs.Ytinphcnknionmaa
