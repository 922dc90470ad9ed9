/- Ranges over a function whose loop variable lies in cells of its own, made anew in each round. Package logic: Atoms. -/
import Derived.Test.YtlehlgipbhfioaaGreatP27
import Derived.Test.YtlehlgipbhfioaaGreatLoX
import Derived.Test.YtlehlgipbhfioaaGreatP13
namespace Go.Proofs.YtlehlgipbhfioaaGreat
open Go.RowKit Go.Shelf

theorem rangeTB {α : Type} {n : Nat} {P : Program} {tys : TypeId → Prop} {ty : TypeId} {g : Operand} {ps : Array Tmp} {assign body : Code} {Q : Exit → Act → World → Prop} {a : Act} {w : World}
    (h1 : 1 ≤ n) {gf : Nat} {lb : Array Value} (hg : a.eval g = .func (.func gf) #[] lb) (eg : ∀ args w, (callFunc gf args).run P w = .ok (.enter gf args) w)
    {encs : α → Array Value} {tr : List α} {w0 : World} (hseq : SeqT (n - 1) P tys ty gf lb encs tr w0) (hb0 : Below w0.heap.size w0 w) (hps : ∀ x, (encs x).size = ps.size)
    (I : Nat → World → Prop) (hI : ∀ i A B, I i A → Ow ty w.heap.size A B → I i B) (h0 : I 0 w) (a₁ : α → Nat → Act) (C : α → Obj) (hC : ∀ x, (C x).isCells = true ∧ ¬ OfTy (fun t => t = ty) (C x))
    (hassign : ∀ (l : Nat) (x : α) (W : World) (K : Act → World → Prop), w.heap.size ≤ W.heap.size → (∀ W1, Ow ty w.heap.size W W1 → Kr tys w.heap.size W W1 → W1.heap[W.heap.size]? = some (C x) → K (a₁ x W.heap.size) W1) →
      assign.wpIn (Fence.wide.inRound l) (n - 1 - 1) P (Exit.then K (fun _ _ _ => False)) { tmps := (ps.zip (encs x)).foldl (fun t (p, v) => t.setIfInBounds p v) a.tmps, defers := [] } W)
    (hbody : ∀ (l i s : Nat) (x : α) (W : World), tr[i]? = some x → w.heap.size ≤ s → W.heap[s]? = some (C x) → I i W → body.wpIn (Fence.wide.inRound l) (n - 1 - 1) P (goesOn tys w.heap.size (I (i + 1)) W) (a₁ x s) W)
    (hdone : ∀ (D : Nat) (W : World), w.heap.size ≤ D → I tr.length W → W.heap[D]? = some (.deferred (some [])) → Q .normal { a with defers := { target := .collected D, args := #[] } :: a.defers } W) :
    (Code.rangeFunc g ps assign body).wpIn Fence.wide n P Q a w := by
  refine wpIn_rangeFunc ?_
  intro fn hfn
  show ∃ _, _
  rw [show Fence.wide.round = none from rfl]
  obtain ⟨rec, hrec⟩ : ∃ rec : LoopState → Option Code → Loop, rec = fun st pe => { state := st, pending := pe, fn, tmps := a.tmps, params := ps, assign, body, defers := w.heap.size } := ⟨_, rfl⟩
  obtain ⟨W1, hW1⟩ : ∃ W1, (w.alloc (.deferred (some []))).alloc (.loop (rec .ready none)) = W1 := ⟨_, rfl⟩
  have hsz : W1.heap.size = w.heap.size + 2 := by rw [← hW1]; simp
  have hL1 : W1.heap[w.heap.size + 1]? = some (.loop (rec .ready none)) := by
    have := World.alloc_heap_new (w.alloc (.deferred (some []))) (.loop (rec .ready none))
    rw [World.size_alloc, hW1] at this
    exact this
  have hD1 : W1.heap[w.heap.size]? = some (.deferred (some [])) := by
    rw [← hW1]
    exact (Below.heap_alloc _ _ _ (by simp)).trans (World.alloc_heap_new w _)
  have hO1 : Ow ty w.heap.size w W1 := by rw [← hW1]; exact (Ow.alloc w _).trans (Ow.alloc _ _)
  have hb1 : Below w0.heap.size w0 W1 := by
    rw [← hW1]
    exact hb0.trans ((((Below.refl _ w).alloc (Nat.le_refl _) _).alloc (by simp) _).mono hb0.size)
  refine ⟨w.heap.size + 1, [{ target := .collected w.heap.size, args := #[] }], W1, { target := .fn (.func gf) lb, args := #[.func (.yield (w.heap.size + 1)) #[] #[]] }, W1, gf, #[.func (.yield (w.heap.size + 1)) #[] #[]] ++ lb, W1, ?_, ?_, ?_, ?_, fun _ => h1, ?_⟩
  · rw [← hW1, hrec]; exact run_enterLoop_outer _ _ _ _ _
  · simp only [resolve, hg]
    simp [go_sem]
  · intro f' _; trivial
  · simp [invoke, go_sem, eg]
  · refine (hseq (w.heap.size + 1) (fun i W => I i W ∧ W.heap[w.heap.size + 1]? = some (.loop (rec .ready none)) ∧ W.heap[w.heap.size]? = some (.deferred (some [])) ∧ w.heap.size ≤ W.heap.size) W1 hb1 ?_ ?_ ⟨hI 0 _ _ h0 hO1, hL1, hD1, by omega⟩).mono ?_
    · rintro i A B ⟨hi, hl, hd, hs⟩ hO
      exact ⟨hI i A B hi (hO.mono (by omega)), hO.same _ _ hl (Or.inl (by omega)), hO.same _ _ hd (Or.inl (by omega)), Nat.le_trans hs hO.size⟩
    · rintro i x W hx ⟨hi, hl, hd, hs⟩
      have hy := run_yield (P := P) (args := encs x) hl (by rw [hrec]; exact hps x)
      rw [hrec] at hy
      refine ⟨fn, _, assign, body, hy, roundIn_of_wpIn hfn (hassign _ x W _ hs ?_)⟩
      clear hy
      intro Wa hOa hKa hCa
      have hla := hKa.same _ _ hl (Or.inl ⟨by omega, rfl⟩)
      have hda := hKa.same _ _ hd (Or.inl ⟨by omega, rfl⟩)
      have hlt : w.heap.size + 1 < Wa.heap.size := (Array.getElem?_eq_some_iff.1 hla).1
      refine ⟨_, run_beginRound hla (by rw [hrec]), ?_⟩
      obtain ⟨W2, hW2⟩ : ∃ W2, Wa.putObj (w.heap.size + 1) (.loop { rec .ready none with state := .busy }) = W2 := ⟨_, rfl⟩
      have hl2 : W2.heap[w.heap.size + 1]? = some (.loop { rec .ready none with state := .busy }) := by rw [← hW2]; exact World.putObj_heap_same hlt
      have hd2 : W2.heap[w.heap.size]? = some (.deferred (some [])) := by rw [← hW2]; exact (World.putObj_heap_other (by omega)).trans hda
      have hO2 : Ow ty w.heap.size Wa W2 := by rw [← hW2]; exact Ow.putObj _ (by omega) hla rfl
      have hK2 : Kr tys W1.heap.size Wa W2 := by rw [← hW2]; exact Kr.putObj _ (by omega) hla rfl
      rw [hW2]
      refine wpIn_mono (hbody _ i W.heap.size x W2 hx hs (hO2.same _ _ hCa (Or.inr (hC x))) (hI i _ _ (hI i _ _ hi hOa) hO2)) ?_
      rintro e a3 W3 hp
      cases e with
      | normal =>
        obtain ⟨hk3, hi3⟩ := hp
        have hl3 := hk3.same _ _ hl2 (Or.inl ⟨by omega, rfl⟩)
        have hd3 := hk3.same _ _ hd2 (Or.inl ⟨by omega, rfl⟩)
        have hlt3 := (Array.getElem?_eq_some_iff.1 hl3).1
        have hr := run_endRound (P := P) none hl3
        refine ⟨_, _, hr, rfl, ⟨hI _ _ _ hi3 (Ow.putObj _ (by omega) hl3 rfl), ?_, (World.putObj_heap_other (by omega)).trans hd3, ?_⟩, (((hKa.mono (by omega)).trans hK2).trans (hk3.mono (by omega))).trans (Kr.putObj _ (by omega) hl3 rfl)⟩
        · rw [World.putObj_heap_same hlt3, hrec]
          rfl
        · simp; omega
      | ret => exact hp.elim
      | exit id => exact hp.elim
      | goto t => exact hp.elim
      | panic ch => exact hp.elim
      | outgrown => exact hp.elim
    · rintro e W2 ⟨⟨v, rfl⟩, hi, hl, hd, hs⟩
      exact ⟨none, _, by have := run_endLoop (P := P) hl (by rw [hrec]; simp); rw [hrec] at this; exact this, hdone _ _ (Nat.le_refl _) (hI _ _ _ hi (Ow.putObj _ (by omega) hl rfl)) ((World.putObj_heap_other (by omega)).trans hd)⟩

end Go.Proofs.YtlehlgipbhfioaaGreat

namespace Go.Proofs.YtlehlgipbhfioaaGreat
open Go.RowKit Go.Shelf

attribute [local go_sem] Oper.semAt_some

/-- Each once, in the order in which they come. -/
def ats (l : List (Int × Int)) : List (Int × Int) := l.foldl (fun acc p => if p ∈ acc then acc else acc ++ [p]) []
theorem ats_snoc (l : List (Int × Int)) (p : Int × Int) : ats (l ++ [p]) = if p ∈ ats l then ats l else ats l ++ [p] := by
  unfold ats
  rw [List.foldl_append]
  rfl
theorem snocInd {α : Type} {P : List α → Prop} (h0 : P []) (hs : ∀ l a, P l → P (l ++ [a])) (l : List α) : P l := by
  rw [← List.reverse_reverse l]
  induction l.reverse with
  | nil => exact h0
  | cons a r ih => rw [List.reverse_cons]; exact hs _ _ ih
theorem mem_ats {l : List (Int × Int)} : ∀ {p : Int × Int}, p ∈ ats l ↔ p ∈ l := by
  refine snocInd (P := fun l => ∀ {p : Int × Int}, p ∈ ats l ↔ p ∈ l) ?_ ?_ l
  · simp [ats]
  · intro l q ih p
    rw [ats_snoc]
    split
    · rename_i h
      rw [ih] at h ⊢
      simp
      rintro rfl
      exact h
    · simp [ih]
theorem ats_len (l : List (Int × Int)) : (ats l).length ≤ l.length := by
  refine snocInd (P := fun l => (ats l).length ≤ l.length) ?_ ?_ l
  · simp [ats]
  · intro l q ih
    show (ats (l ++ [q])).length ≤ (l ++ [q]).length
    rw [ats_snoc]
    split <;> simp <;> omega
def pairC (l : List (Int × Int)) : List Value := l.flatMap fun p => [.int .i64 p.1, .int .i64 p.2]

/-- What Atoms goes round with. -/
structure AtAt (w W : World) (t : Lf) (v : Value) (l m : List (Int × Int)) : Prop where
  below : Below w.heap.size w W
  here : Here W t
  box : W.rowIs (w.heap.size + 1) 109 1 (fun _ => v)
  mbox : W.rowIs (w.heap.size + 3) 113 1 (fun _ => .map (some (w.heap.size + 2)))
  cnt : CntIs W (w.heap.size + 2) l
  row : W.ownsRow w.heap.size 34 2 v m.length (pairC m)

theorem Ow.ownsRowA {B : Nat} {W W' : World} (h : Ow 335 B W W') {base size k : Nat} {ty : TypeId} {v : Value} {xs : List Value} (hne : ty ≠ 335) (hr : W.ownsRow base ty size v k xs) : W'.ownsRow base ty size v k xs := by
  refine ⟨hr.1, ?_⟩
  rcases hr.2 with e | ⟨g, cap, cur, e, e1, e2, e3⟩
  · exact Or.inl e
  · exact Or.inr ⟨g, cap, cur, e, e1, h.same g _ e2 (Or.inr ⟨rfl, by rintro ⟨c', ty', fz', e, e'⟩; cases e; exact hne e'⟩), e3⟩

theorem AtAt.ow {w W W' : World} {B : Nat} {t : Lf} {v : Value} {l m : List (Int × Int)} (h : AtAt w W t v l m) (hO : Ow 335 B W W') (hB : w.heap.size + 4 ≤ B) : AtAt w W' t v l m := by
  refine ⟨h.below.trans ⟨hO.os, hO.tape, hO.output, hO.size, fun k hk => ?_⟩, h.here.keep (hO.fkeep.toA _), hO.rowIs (by decide) h.box, hO.rowIs (by decide) h.mbox, h.cnt.keep ?_, hO.ownsRowA (by decide) h.row⟩
  · cases hh : W.heap[k]? with
    | none =>
      have h1 := Array.getElem?_eq_none_iff.1 hh
      have h2 := h.below.size
      omega
    | some o => exact hO.same k o hh (Or.inl (by omega))
  · obtain ⟨es, ck, e⟩ := h.cnt.lt
    rw [e]
    exact hO.same _ _ e (Or.inl (by omega))

/-- The count is one more. -/
theorem AtAt.inc {w W W' : World} {t : Lf} {v : Value} {l l' m : List (Int × Int)} (h : AtAt w W t v l m) (hK : Kept1 (w.heap.size + 2) W W') (hC : CntIs W' (w.heap.size + 2) l') : AtAt w W' t v l' m := by
  obtain ⟨es, ck, e⟩ := h.cnt.lt
  have nm : ∀ k, k < W.heap.size → k ≠ w.heap.size + 2 → W'.heap[k]? = W.heap[k]? := fun k hk hne => hK.block k hk hne
  refine ⟨h.below.trans ⟨hK.os, hK.tape, hK.output, hK.size, fun k hk => nm k (by have := h.below.size; omega) (by omega)⟩, h.here.keep ?_, h.box.of_block (nm _ h.box.lt (by omega)), h.mbox.of_block (nm _ h.mbox.lt (by omega)), hC, ?_⟩
  · intro k c fz _ hk
    refine (nm k (Array.getElem?_eq_some_iff.1 hk).1 ?_).trans hk
    rintro rfl
    rw [e] at hk
    cases hk
  · refine ⟨h.row.1, ?_⟩
    rcases h.row.2 with e' | ⟨g, cap, cur, e1, e2, e3, e4⟩
    · exact Or.inl e'
    · refine Or.inr ⟨g, cap, cur, e1, e2, (nm g (Array.getElem?_eq_some_iff.1 e3).1 ?_).trans e3, e4⟩
      rintro rfl
      rw [e] at e3
      cases e3

theorem infoPairA : (Tryz.prog.info? 34).map (fun i => (i.zero, i.size, i.bytes)) = some (some (.agg #[.int .i64 0, .int .i64 0]), 2, 16) := by kernel_rfl

theorem AtAt.box8 {w W w8 : World} {O : Obj} {t : Lf} {v : Value} {l m : List (Int × Int)} (h : AtAt w W t v l m) (hgrow : (W.alloc O).grownBy w8 v.ownBlock) : w8.cell? ⟨w.heap.size + 1, 0, none⟩ = some v ∧ w8.frozen? ⟨w.heap.size + 1, 0, none⟩ = false := by
  have hne : v.ownBlock ≠ some (w.heap.size + 1) := rowIs_type h.box (by decide) h.row
  have hb8 : w8.rowIs (w.heap.size + 1) 109 1 (fun _ => v) := h.box.of_block ((hgrow.block _ (by simp; have := h.box.lt; omega) (fun e => hne e.symm)).trans (Below.heap_alloc W O _ h.box.lt))
  exact ⟨hb8.cell (i := 0) (by omega), hb8.frozen 0⟩

/-- Cells of other types than the rows' stay, and what is no cells. -/
theorem AtAt.push {w W w7 w8 : World} {O : Obj} {t : Lf} {v v8 : Value} {l m : List (Int × Int)} {p : Int × Int} (h : AtAt w W t v l m) (hw7 : w7 = W.alloc O) (hown : w8.ownsRow w.heap.size 34 2 v8 (m.length + 1) (pairC m ++ [.int .i64 p.1, .int .i64 p.2])) (hgrow : w7.grownBy w8 v.ownBlock) :
    AtAt w (w8.setCell ⟨w.heap.size + 1, 0, none⟩ v8) t v8 l (m ++ [p]) ∧ (∀ (k : Nat) (o : Obj), W.heap[k]? = some o → (o.isCells = false ∨ OfTy (fun t => t ≠ 34 ∧ t ≠ 109) o) → (w8.setCell ⟨w.heap.size + 1, 0, none⟩ v8).heap[k]? = some o) ∧ W.heap.size ≤ (w8.setCell ⟨w.heap.size + 1, 0, none⟩ v8).heap.size := by
  subst hw7
  have hne : v.ownBlock ≠ some (w.heap.size + 1) := rowIs_type h.box (by decide) h.row
  have K8 : Kept (fun k => v.ownBlock = some k ∨ k = w.heap.size + 1) W w8 := Kept.grown ((Kept.refl _ W).alloc O) hgrow (fun k e => Or.inl e)
  have hb8 : w8.rowIs (w.heap.size + 1) 109 1 (fun _ => v) := h.box.of_block ((hgrow.block _ (by simp; have := h.box.lt; omega) (fun e => hne e.symm)).trans (Below.heap_alloc W O _ h.box.lt))
  have hne8 : v8.ownBlock ≠ some (w.heap.size + 1) := rowIs_type hb8 (by decide) hown
  have K9 := K8.setCell (p := ⟨w.heap.size + 1, 0, none⟩) (Or.inr rfl) v8
  have hbt : ∀ k, v.ownBlock = some k → w.heap.size ≤ k ∧ ∃ c, W.heap[k]? = some (Obj.cells c 34 (0, 0)) := fun k hk => by
    rcases h.row.2 with ⟨e, _⟩ | ⟨g, cap, cur, e, e1, e2, _⟩
    · rw [e] at hk; simp [Value.ownBlock] at hk
    · rw [e] at hk
      simp [Value.ownBlock] at hk
      subst hk
      exact ⟨e1, cur, e2⟩
  have nm : ∀ (k : Nat) (o : Obj), W.heap[k]? = some o → (o.isCells = false ∨ OfTy (fun t => t ≠ 34 ∧ t ≠ 109) o) → (w8.setCell ⟨w.heap.size + 1, 0, none⟩ v8).heap[k]? = some o := fun k o hk ho => by
    refine (K9.block k (Array.getElem?_eq_some_iff.1 hk).1 ?_).trans hk
    rintro (e | e)
    · obtain ⟨_, c, hc⟩ := hbt k e
      rw [hk] at hc
      cases hc
      rcases ho with ho | ⟨c', ty, fz, e, e1, e2⟩
      · cases ho
      · cases e; exact e1 rfl
    · obtain ⟨c, hc, _⟩ := h.box
      rw [← e, hk] at hc
      cases hc
      rcases ho with ho | ⟨c', ty, fz, e, e1, e2⟩
      · cases ho
      · cases e; exact e2 rfl
  have e1 : pairC (m ++ [p]) = pairC m ++ [.int .i64 p.1, .int .i64 p.2] := by simp [pairC]
  have e2 : (m ++ [p]).length = m.length + 1 := by simp
  refine ⟨⟨h.below.trans ⟨K9.os, K9.tape, K9.output, K9.size, fun k hk => K9.block k (by have := h.below.size; omega) ?_⟩, h.here.keep (fun k c fz _ hk => nm k _ hk (Or.inr ⟨c, _, fz, rfl, by decide, by decide⟩)), ?_, ?_, h.cnt.keep ?_, ?_⟩, nm, K9.size⟩
  · rintro (e | e)
    · have := (hbt k e).1; omega
    · omega
  · exact World.rowIs.congr (hb8.set 0 v8) (fun j hj => by
      have : j = 0 := by omega
      subst this; simp)
  · obtain ⟨c, h1, h2⟩ := h.mbox
    exact ⟨c, nm _ _ h1 (Or.inr ⟨c, _, _, rfl, by decide, by decide⟩), h2⟩
  · obtain ⟨es, ck, e⟩ := h.cnt.lt
    rw [e]
    exact nm _ _ e (Or.inl rfl)
  · rw [e1, e2]
    exact ownsRow_setCell_other hown hne8 v8

end Go.Proofs.YtlehlgipbhfioaaGreat
