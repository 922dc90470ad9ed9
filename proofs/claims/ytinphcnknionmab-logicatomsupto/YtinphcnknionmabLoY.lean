/- Package logic: Atoms. -/
import Derived.Test.YtinphcnknionmabLoX
import Derived.Test.YtinphcnknionmabP29
namespace Go.Proofs.Ytinphcnknionmab
open Go.RowKit Go.Shelf

attribute [local go_sem] Oper.semAt_some

/-- Each once, in the order in which they come. -/
def ats (l : List (Int × Int)) : List (Int × Int) := l.foldl (fun acc p => if p ∈ acc then acc else acc ++ [p]) []
theorem ats_snoc (l : List (Int × Int)) (p : Int × Int) : ats (l ++ [p]) = if p ∈ ats l then ats l else ats l ++ [p] := by
  unfold ats
  rw [List.foldl_append]
  rfl
theorem snocInd {α : Type} {P : List α → Prop} (h0 : P []) (hs : ∀ l a, P l → P (l ++ [a])) (l : List α) : P l := by
  rw [← List.reverse_reverse l]
  induction l.reverse with
  | nil => exact h0
  | cons a r ih => rw [List.reverse_cons]; exact hs _ _ ih
theorem mem_ats {l : List (Int × Int)} : ∀ {p : Int × Int}, p ∈ ats l ↔ p ∈ l := by
  refine snocInd (P := fun l => ∀ {p : Int × Int}, p ∈ ats l ↔ p ∈ l) ?_ ?_ l
  · simp [ats]
  · intro l q ih p
    rw [ats_snoc]
    split
    · rename_i h
      rw [ih] at h ⊢
      simp
      rintro rfl
      exact h
    · simp [ih]
theorem ats_len (l : List (Int × Int)) : (ats l).length ≤ l.length := by
  refine snocInd (P := fun l => (ats l).length ≤ l.length) ?_ ?_ l
  · simp [ats]
  · intro l q ih
    show (ats (l ++ [q])).length ≤ (l ++ [q]).length
    rw [ats_snoc]
    split <;> simp <;> omega
def pairC (l : List (Int × Int)) : List Value := l.flatMap fun p => [.int .i64 p.1, .int .i64 p.2]

/-- What Atoms goes round with. -/
structure AtAt (w W : World) (t : Lf) (v : Value) (l m : List (Int × Int)) : Prop where
  below : Below w.heap.size w W
  here : Here W t
  box : W.rowIs (w.heap.size + 1) 37 1 (fun _ => v)
  mbox : W.rowIs (w.heap.size + 3) 64 1 (fun _ => .map (some (w.heap.size + 2)))
  cnt : CntIs W (w.heap.size + 2) l
  row : W.ownsRow w.heap.size 28 2 v m.length (pairC m)

theorem Ow.ownsRowA {B : Nat} {W W' : World} (h : Ow 115 B W W') {base size k : Nat} {ty : TypeId} {v : Value} {xs : List Value} (hne : ty ≠ 115) (hr : W.ownsRow base ty size v k xs) : W'.ownsRow base ty size v k xs := by
  refine ⟨hr.1, ?_⟩
  rcases hr.2 with e | ⟨g, cap, cur, e, e1, e2, e3⟩
  · exact Or.inl e
  · exact Or.inr ⟨g, cap, cur, e, e1, h.same g _ e2 (Or.inr ⟨rfl, by rintro ⟨c', ty', fz', e, e'⟩; cases e; exact hne e'⟩), e3⟩

theorem AtAt.ow {w W W' : World} {B : Nat} {t : Lf} {v : Value} {l m : List (Int × Int)} (h : AtAt w W t v l m) (hO : Ow 115 B W W') (hB : w.heap.size + 4 ≤ B) : AtAt w W' t v l m := by
  refine ⟨h.below.trans ⟨hO.os, hO.tape, hO.output, hO.size, fun k hk => ?_⟩, h.here.keep (hO.fkeep.toA _), hO.rowIs (by decide) h.box, hO.rowIs (by decide) h.mbox, h.cnt.keep ?_, hO.ownsRowA (by decide) h.row⟩
  · cases hh : W.heap[k]? with
    | none =>
      have h1 := Array.getElem?_eq_none_iff.1 hh
      have h2 := h.below.size
      omega
    | some o => exact hO.same k o hh (Or.inl (by omega))
  · obtain ⟨es, ck, e⟩ := h.cnt.lt
    rw [e]
    exact hO.same _ _ e (Or.inl (by omega))

/-- The count is one more. -/
theorem AtAt.inc {w W W' : World} {t : Lf} {v : Value} {l l' m : List (Int × Int)} (h : AtAt w W t v l m) (hK : Kept1 (w.heap.size + 2) W W') (hC : CntIs W' (w.heap.size + 2) l') : AtAt w W' t v l' m := by
  obtain ⟨es, ck, e⟩ := h.cnt.lt
  have nm : ∀ k, k < W.heap.size → k ≠ w.heap.size + 2 → W'.heap[k]? = W.heap[k]? := fun k hk hne => hK.block k hk hne
  refine ⟨h.below.trans ⟨hK.os, hK.tape, hK.output, hK.size, fun k hk => nm k (by have := h.below.size; omega) (by omega)⟩, h.here.keep ?_, h.box.of_block (nm _ h.box.lt (by omega)), h.mbox.of_block (nm _ h.mbox.lt (by omega)), hC, ?_⟩
  · intro k c fz _ hk
    refine (nm k (Array.getElem?_eq_some_iff.1 hk).1 ?_).trans hk
    rintro rfl
    rw [e] at hk
    cases hk
  · refine ⟨h.row.1, ?_⟩
    rcases h.row.2 with e' | ⟨g, cap, cur, e1, e2, e3, e4⟩
    · exact Or.inl e'
    · refine Or.inr ⟨g, cap, cur, e1, e2, (nm g (Array.getElem?_eq_some_iff.1 e3).1 ?_).trans e3, e4⟩
      rintro rfl
      rw [e] at e3
      cases e3

theorem infoPairA : (Try.prog.info? 28).map (fun i => (i.zero, i.size, i.bytes)) = some (some (.agg #[.int .i64 0, .int .i64 0]), 2, 16) := by kernel_rfl

theorem AtAt.box8 {w W w8 : World} {O : Obj} {t : Lf} {v : Value} {l m : List (Int × Int)} (h : AtAt w W t v l m) (hgrow : (W.alloc O).grownBy w8 v.ownBlock) : w8.cell? ⟨w.heap.size + 1, 0, none⟩ = some v ∧ w8.frozen? ⟨w.heap.size + 1, 0, none⟩ = false := by
  have hne : v.ownBlock ≠ some (w.heap.size + 1) := rowIs_type h.box (by decide) h.row
  have hb8 : w8.rowIs (w.heap.size + 1) 37 1 (fun _ => v) := h.box.of_block ((hgrow.block _ (by simp; have := h.box.lt; omega) (fun e => hne e.symm)).trans (Below.heap_alloc W O _ h.box.lt))
  exact ⟨hb8.cell (i := 0) (by omega), hb8.frozen 0⟩

/-- Cells of other types than the rows' stay, and what is no cells. -/
theorem AtAt.push {w W w7 w8 : World} {O : Obj} {t : Lf} {v v8 : Value} {l m : List (Int × Int)} {p : Int × Int} (h : AtAt w W t v l m) (hw7 : w7 = W.alloc O) (hown : w8.ownsRow w.heap.size 28 2 v8 (m.length + 1) (pairC m ++ [.int .i64 p.1, .int .i64 p.2])) (hgrow : w7.grownBy w8 v.ownBlock) :
    AtAt w (w8.setCell ⟨w.heap.size + 1, 0, none⟩ v8) t v8 l (m ++ [p]) ∧ (∀ (k : Nat) (o : Obj), W.heap[k]? = some o → (o.isCells = false ∨ OfTy (fun t => t ≠ 28 ∧ t ≠ 37) o) → (w8.setCell ⟨w.heap.size + 1, 0, none⟩ v8).heap[k]? = some o) ∧ W.heap.size ≤ (w8.setCell ⟨w.heap.size + 1, 0, none⟩ v8).heap.size := by
  subst hw7
  have hne : v.ownBlock ≠ some (w.heap.size + 1) := rowIs_type h.box (by decide) h.row
  have K8 : Kept (fun k => v.ownBlock = some k ∨ k = w.heap.size + 1) W w8 := Kept.grown ((Kept.refl _ W).alloc O) hgrow (fun k e => Or.inl e)
  have hb8 : w8.rowIs (w.heap.size + 1) 37 1 (fun _ => v) := h.box.of_block ((hgrow.block _ (by simp; have := h.box.lt; omega) (fun e => hne e.symm)).trans (Below.heap_alloc W O _ h.box.lt))
  have hne8 : v8.ownBlock ≠ some (w.heap.size + 1) := rowIs_type hb8 (by decide) hown
  have K9 := K8.setCell (p := ⟨w.heap.size + 1, 0, none⟩) (Or.inr rfl) v8
  have hbt : ∀ k, v.ownBlock = some k → w.heap.size ≤ k ∧ ∃ c, W.heap[k]? = some (Obj.cells c 28 (0, 0)) := fun k hk => by
    rcases h.row.2 with ⟨e, _⟩ | ⟨g, cap, cur, e, e1, e2, _⟩
    · rw [e] at hk; simp [Value.ownBlock] at hk
    · rw [e] at hk
      simp [Value.ownBlock] at hk
      subst hk
      exact ⟨e1, cur, e2⟩
  have nm : ∀ (k : Nat) (o : Obj), W.heap[k]? = some o → (o.isCells = false ∨ OfTy (fun t => t ≠ 28 ∧ t ≠ 37) o) → (w8.setCell ⟨w.heap.size + 1, 0, none⟩ v8).heap[k]? = some o := fun k o hk ho => by
    refine (K9.block k (Array.getElem?_eq_some_iff.1 hk).1 ?_).trans hk
    rintro (e | e)
    · obtain ⟨_, c, hc⟩ := hbt k e
      rw [hk] at hc
      cases hc
      rcases ho with ho | ⟨c', ty, fz, e, e1, e2⟩
      · cases ho
      · cases e; exact e1 rfl
    · obtain ⟨c, hc, _⟩ := h.box
      rw [← e, hk] at hc
      cases hc
      rcases ho with ho | ⟨c', ty, fz, e, e1, e2⟩
      · cases ho
      · cases e; exact e2 rfl
  have e1 : pairC (m ++ [p]) = pairC m ++ [.int .i64 p.1, .int .i64 p.2] := by simp [pairC]
  have e2 : (m ++ [p]).length = m.length + 1 := by simp
  refine ⟨⟨h.below.trans ⟨K9.os, K9.tape, K9.output, K9.size, fun k hk => K9.block k (by have := h.below.size; omega) ?_⟩, h.here.keep (fun k c fz _ hk => nm k _ hk (Or.inr ⟨c, _, fz, rfl, by decide, by decide⟩)), ?_, ?_, h.cnt.keep ?_, ?_⟩, nm, K9.size⟩
  · rintro (e | e)
    · have := (hbt k e).1; omega
    · omega
  · exact World.rowIs.congr (hb8.set 0 v8) (fun j hj => by
      have : j = 0 := by omega
      subst this; simp)
  · obtain ⟨c, h1, h2⟩ := h.mbox
    exact ⟨c, nm _ _ h1 (Or.inr ⟨c, _, _, rfl, by decide, by decide⟩), h2⟩
  · obtain ⟨es, ck, e⟩ := h.cnt.lt
    rw [e]
    exact nm _ _ e (Or.inl rfl)
  · rw [e1, e2]
    exact ownsRow_setCell_other hown hne8 v8

end Go.Proofs.Ytinphcnknionmab
