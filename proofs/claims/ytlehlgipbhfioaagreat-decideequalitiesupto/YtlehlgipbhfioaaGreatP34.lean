/- Formulas, plainly: how many steps, which equalities, which text. Package logic: Atoms. The document's Atoms. LogicClauses, plainly: what the clauses of a formula say. The document's search (chapter 6), plainly. Package sat: slices.Sort of a clause whose greatest literal stands first and whose others rise: insertion, partition. The document's search: size, holds. LogicClauses, plainly: how many variables and clauses. The document's search: forced. LogicClauses: the literals along a formula's Forms. Package why: Follows and Why. Package logic: Atoms, the walk. -/
import Derived.Test.YtlehlgipbhfioaaGreatLoX
import Derived.Test.YtlehlgipbhfioaaGreatP28
import Derived.Test.YtlehlgipbhfioaaGreatP00
import Derived.Test.YtlehlgipbhfioaaGreatP05
import Derived.Test.YtlehlgipbhfioaaGreatP25
import Derived.Test.YtlehlgipbhfioaaGreatP32
import Derived.CellFam
import Derived.Deep.RegionWith
import Derived.Carry
namespace Go.Proofs.YtlehlgipbhfioaaGreat

/-- Formulas as they are read. -/
inductive WfF : Fo → Prop where
  | eq (x y : Int) : WfF (.mk 0 x y [])
  | neg (f : Fo) : WfF f → WfF (.mk 1 0 0 [f])
  | two (o : Int) (f g : Fo) : (o = 2 ∨ o = 3 ∨ o = 4) → WfF f → WfF g → WfF (.mk o 0 0 [f, g])

def Fo.op : Fo → Int | .mk op _ _ _ => op
/-- How many steps lead through one. -/
def szF : Fo → Nat
  | .mk op _ _ kids => if op = 0 then 1 else 1 + kids.length + (kids.map szF).sum
/-- Its equalities. -/
def eqF : Fo → List (Int × Int)
  | .mk op x y kids => if op = 0 then [(x, y)] else (kids.map eqF).flatten
def opS (o : Int) : List UInt8 := if o = 2 then [38] else if o = 3 then [124] else [45, 62]
/-- Its text, with this sign for an equality. -/
def shF (l : List Tm) (g : List UInt8) : Fo → List UInt8
  | .mk 0 x y _ => (shwB l x).data.toList ++ g ++ (shwB l y).data.toList
  | .mk _ _ _ [k] => if k.op = 0 then shF l [33, 61] k else 33 :: shF l [61] k
  | .mk o _ _ [a, b] => 40 :: (shF l [61] a ++ opS o ++ shF l [61] b ++ [41])
  | _ => []

theorem Lf.er_op (t : Lf) : t.er.op = t.op := by cases t; simp [Lf.er, Fo.op, Lf.op]
theorem Lf.er_kids {t : Lf} {op x y : Int} {ks : List Fo} (h : t.er = .mk op x y ks) : t.op = op ∧ t.x = x ∧ t.y = y ∧ t.kids.map Lf.er = ks := by
  cases t
  simp [Lf.er] at h
  exact h

theorem sum_wk (t : Lf) (n : Nat) : ∀ d, n = t.ks.length - d → d ≤ t.ks.length → (wk t d).length = 1 + (t.ks.length - d) + ((t.ks.drop d).map fun k => (wk k 0).length).sum := by
  induction n with
  | zero =>
    intro d hn hd
    have : t.ks[d]? = none := List.getElem?_eq_none (by omega)
    rw [wk_end this, List.drop_eq_nil_of_le (by omega), ← hn]
    rfl
  | succ n ih =>
    intro d hn hd
    have hlt : d < t.ks.length := by omega
    rw [wk_step (List.getElem?_eq_getElem hlt), List.length_cons, List.length_append, ih (d + 1) (by omega) (by omega), List.drop_eq_getElem_cons hlt, List.map_cons, List.sum_cons]
    omega
theorem len_wk (t : Lf) : (wk t 0).length = szF t.er := by
  have h0 := sum_wk t t.ks.length 0 (by omega) (by omega)
  rw [h0]
  obtain ⟨b, o, op, x, y, kv, kids⟩ := t
  rw [Lf.er, szF]
  by_cases h : op = 0
  · have : (Lf.mk b o op x y kv kids).ks = [] := by simp [Lf.ks, Lf.op, h]
    rw [this, if_pos h]
    rfl
  · have hks : (Lf.mk b o op x y kv kids).ks = kids := by simp [Lf.ks, Lf.op, Lf.kids, h]
    rw [hks, if_neg h, List.drop_zero, List.map_map, List.length_map]
    have : (kids.map fun k => (wk k 0).length) = kids.map (szF ∘ Lf.er) := List.map_congr_left (fun k hk => len_wk k)
    rw [this]
    omega
termination_by t
decreasing_by
  have := List.sizeOf_lt_of_mem hk
  simp
  omega

theorem eqs_wk (t : Lf) (n : Nat) : ∀ d, n = t.ks.length - d → d ≤ t.ks.length → ((wk t d).filterMap isEnd).filterMap isEq = ((t.ks.drop d).map fun k => ((wk k 0).filterMap isEnd).filterMap isEq).flatten ++ (isEq t).toList := by
  induction n with
  | zero =>
    intro d hn hd
    have hde : d = t.ks.length := by omega
    have : t.ks[d]? = none := List.getElem?_eq_none (by omega)
    rw [wk_end this, List.drop_eq_nil_of_le (by omega)]
    have he : isEnd (t, d) = some t := by simp [isEnd, hde]
    rw [List.filterMap_cons_some he, List.filterMap_nil]
    cases h : isEq t with
    | none => simp [h]
    | some y => simp [h]
  | succ n ih =>
    intro d hn hd
    have hlt : d < t.ks.length := by omega
    have he : isEnd (t, d) = none := by simp [isEnd]; omega
    rw [wk_step (List.getElem?_eq_getElem hlt), List.filterMap_cons_none he, List.filterMap_append, List.filterMap_append, ih (d + 1) (by omega) (by omega), List.drop_eq_getElem_cons hlt, List.map_cons, List.flatten_cons, List.append_assoc]
theorem eqs_er (t : Lf) : eqs t = eqF t.er := by
  have h0 := eqs_wk t t.ks.length 0 (by omega) (by omega)
  unfold eqs es
  rw [h0]
  obtain ⟨b, o, op, x, y, kv, kids⟩ := t
  rw [Lf.er, eqF]
  by_cases h : op = 0
  · have : (Lf.mk b o op x y kv kids).ks = [] := by simp [Lf.ks, Lf.op, h]
    rw [this, if_pos h]
    simp [isEq, Lf.op, Lf.x, Lf.y, h]
  · have hks : (Lf.mk b o op x y kv kids).ks = kids := by simp [Lf.ks, Lf.op, Lf.kids, h]
    have hq : isEq (Lf.mk b o op x y kv kids) = none := by simp [isEq, Lf.op, h]
    rw [hks, if_neg h, List.drop_zero, List.map_map, hq]
    have : (kids.map fun k => ((wk k 0).filterMap isEnd).filterMap isEq) = kids.map (eqF ∘ Lf.er) := List.map_congr_left (fun k hk => eqs_er k)
    rw [this]
    simp
termination_by t
decreasing_by
  have := List.sizeOf_lt_of_mem hk
  simp
  omega

theorem map_one {α β : Type} {f : α → β} {xs : List α} {b : β} (h : xs.map f = [b]) : ∃ a, xs = [a] ∧ f a = b := by
  match xs, h with
  | [a], h => exact ⟨a, rfl, by simpa using h⟩
theorem map_two {α β : Type} {f : α → β} {xs : List α} {b c : β} (h : xs.map f = [b, c]) : ∃ a a', xs = [a, a'] ∧ f a = b ∧ f a' = c := by
  match xs, h with
  | [a, a'], h => exact ⟨a, a', rfl, by simpa using h⟩

theorem wk_one {t k : Lf} (h0 : ¬ t.op = 0) (hk : t.kids = [k]) : wk t 0 = (t, 0) :: (wk k 0 ++ [(t, 1)]) := by
  have hks : t.ks = [k] := by simp [Lf.ks, h0, hk]
  rw [wk_step (k := k) (by rw [hks]; rfl), wk_end (t := t) (d := 0 + 1) (by rw [hks]; rfl)]
theorem wk_two {t a b : Lf} (h0 : ¬ t.op = 0) (hk : t.kids = [a, b]) : wk t 0 = (t, 0) :: (wk a 0 ++ ((t, 1) :: (wk b 0 ++ [(t, 2)]))) := by
  have hks : t.ks = [a, b] := by simp [Lf.ks, h0, hk]
  rw [wk_step (k := a) (by rw [hks]; rfl), wk_step (t := t) (k := b) (d := 0 + 1) (by rw [hks]; rfl), wk_end (t := t) (d := 0 + 1 + 1) (by rw [hks]; rfl)]

theorem sh_wk (l : List Tm) {f : Fo} (hf : WfF f) : ∀ (t : Lf), t.er = f → ∀ (o g : List UInt8), (f.op = 0 ∨ g = [61]) → (wk t 0).foldl (shS l) (o, g) = (o ++ shF l g f, [61]) := by
  induction hf with
  | eq x y =>
    intro t ht o g _
    obtain ⟨h1, h2, h3, h4⟩ := Lf.er_kids ht
    have hks : t.ks[0]? = none := by simp [Lf.ks, h1]
    rw [wk_end hks]
    simp [shS, h1, h2, h3, shF]
  | neg f _ ih =>
    intro t ht o g hg
    obtain ⟨h1, h2, h3, h4⟩ := Lf.er_kids ht
    obtain ⟨k, hk, hke⟩ := map_one h4
    have h0 : ¬ t.op = 0 := by rw [h1]; decide
    have hg' : g = [61] := hg.resolve_left (by simp [Fo.op])
    subst hg'
    rw [wk_one h0 hk, List.foldl_cons, List.foldl_append]
    by_cases hz : f.op = 0
    · have hu : isUn t = true := by
        have : k.op = 0 := by rw [← Lf.er_op, hke]; exact hz
        simp [isUn, h1, hk, this]
      have s1 : shS l (o, [61]) (t, 0) = (o, [33, 61]) := by simp [shS, h0, hu]
      rw [s1, ih k hke o [33, 61] (Or.inl hz), List.foldl_cons, List.foldl_nil]
      simp [shS, hu, sgnA, h1, shF, hz]
    · have hu : isUn t = false := by
        have : ¬ k.op = 0 := by rw [← Lf.er_op, hke]; exact hz
        simp [isUn, hk, this]
      have s1 : shS l (o, [61]) (t, 0) = (o ++ [33], [61]) := by simp [shS, hu, sgnA, h1]
      rw [s1, ih k hke (o ++ [33]) [61] (Or.inr rfl), List.foldl_cons, List.foldl_nil]
      simp [shS, hu, sgnA, h1, shF, hz]
  | two op f g hop _ _ ih1 ih2 =>
    intro t ht o s hs
    obtain ⟨h1, h2, h3, h4⟩ := Lf.er_kids ht
    obtain ⟨a, b, hk, ha, hb⟩ := map_two h4
    have h0 : ¬ t.op = 0 := by rw [h1]; rcases hop with rfl | rfl | rfl <;> decide
    have hop0 : ¬ op = 0 := by rcases hop with rfl | rfl | rfl <;> decide
    have hop1 : ¬ t.op = 1 := by rw [h1]; rcases hop with rfl | rfl | rfl <;> decide
    have hs' : s = [61] := hs.resolve_left (by simpa [Fo.op] using hop0)
    subst hs'
    have hu : isUn t = false := by simp [isUn, hop1]
    have s1 : shS l (o, [61]) (t, 0) = (o ++ [40], [61]) := by simp [shS, h0, hu, sgnA, hop1]
    have s2 : ∀ x, shS l (x, [61]) (t, 1) = (x ++ opS op, [61]) := by
      intro x
      simp only [shS, h0, hu, sgnA, hop1, hk, if_false, Bool.false_and, Bool.false_eq_true]
      rcases hop with rfl | rfl | rfl <;> simp [h1, opS]
    have s3 : ∀ x, shS l (x, [61]) (t, 2) = (x ++ [41], [61]) := by
      intro x
      simp [shS, h0, hu, sgnA, hop1, hk]
    rw [wk_two h0 hk, List.foldl_cons, s1, List.foldl_append, ih1 a ha _ _ (Or.inr rfl), List.foldl_cons, s2, List.foldl_append, ih2 b hb _ _ (Or.inr rfl), List.foldl_cons, List.foldl_nil, s3]
    have : shF l [61] (.mk op 0 0 [f, g]) = 40 :: (shF l [61] f ++ opS op ++ shF l [61] g ++ [41]) := by
      rcases hop with rfl | rfl | rfl <;> simp [shF]
    rw [this]
    simp

theorem shG_er (l : List Tm) {t : Lf} (hf : WfF t.er) : (shG l (wk t 0)).1 = shF l [61] t.er := by
  unfold shG
  rw [sh_wk l hf t rfl [] [61] (Or.inr rfl)]
  simp

theorem shS_len (l : List Tm) (s : Sh) (x : Lf × Nat) : s.1.length ≤ (shS l s x).1.length := by
  unfold shS
  split
  · simp
  · split
    · exact Nat.le_refl _
    · simp
theorem foldl_len (l : List Tm) (xs : List (Lf × Nat)) : ∀ s, s.1.length ≤ (xs.foldl (shS l) s).1.length := by
  induction xs with
  | nil => intro s; exact Nat.le_refl _
  | cons x xs ih => intro s; exact Nat.le_trans (shS_len l s x) (ih _)
theorem shG_take (l : List Tm) (xs : List (Lf × Nat)) (i : Nat) : (shG l (xs.take i)).1.length ≤ (shG l xs).1.length := by
  have h : shG l xs = (xs.drop i).foldl (shS l) (shG l (xs.take i)) := by
    unfold shG
    rw [← List.foldl_append, List.take_append_drop]
  rw [h]
  exact foldl_len l _ _

end Go.Proofs.YtlehlgipbhfioaaGreat

namespace Go.Proofs.YtlehlgipbhfioaaGreat
open Go.RowKit Go.Shelf

attribute [local go_sem] Oper.semAt_some

/-- Each once, in the order in which they come. -/
def ats (l : List (Int × Int)) : List (Int × Int) := l.foldl (fun acc p => if p ∈ acc then acc else acc ++ [p]) []
theorem ats_snoc (l : List (Int × Int)) (p : Int × Int) : ats (l ++ [p]) = if p ∈ ats l then ats l else ats l ++ [p] := by
  unfold ats
  rw [List.foldl_append]
  rfl
theorem snocInd {α : Type} {P : List α → Prop} (h0 : P []) (hs : ∀ l a, P l → P (l ++ [a])) (l : List α) : P l := by
  rw [← List.reverse_reverse l]
  induction l.reverse with
  | nil => exact h0
  | cons a r ih => rw [List.reverse_cons]; exact hs _ _ ih
theorem mem_ats {l : List (Int × Int)} : ∀ {p : Int × Int}, p ∈ ats l ↔ p ∈ l := by
  refine snocInd (P := fun l => ∀ {p : Int × Int}, p ∈ ats l ↔ p ∈ l) ?_ ?_ l
  · simp [ats]
  · intro l q ih p
    rw [ats_snoc]
    split
    · rename_i h
      rw [ih] at h ⊢
      simp
      rintro rfl
      exact h
    · simp [ih]
theorem ats_len (l : List (Int × Int)) : (ats l).length ≤ l.length := by
  refine snocInd (P := fun l => (ats l).length ≤ l.length) ?_ ?_ l
  · simp [ats]
  · intro l q ih
    show (ats (l ++ [q])).length ≤ (l ++ [q]).length
    rw [ats_snoc]
    split <;> simp <;> omega
def pairC (l : List (Int × Int)) : List Value := l.flatMap fun p => [.int .i64 p.1, .int .i64 p.2]

/-- What Atoms goes round with. -/
structure AtAt (w W : World) (t : Lf) (v : Value) (l m : List (Int × Int)) : Prop where
  below : Below w.heap.size w W
  here : Here W t
  box : W.rowIs (w.heap.size + 1) 109 1 (fun _ => v)
  mbox : W.rowIs (w.heap.size + 3) 113 1 (fun _ => .map (some (w.heap.size + 2)))
  cnt : CntIs W (w.heap.size + 2) l
  row : W.ownsRow w.heap.size 34 2 v m.length (pairC m)

theorem Ow.ownsRowA {B : Nat} {W W' : World} (h : Ow 335 B W W') {base size k : Nat} {ty : TypeId} {v : Value} {xs : List Value} (hne : ty ≠ 335) (hr : W.ownsRow base ty size v k xs) : W'.ownsRow base ty size v k xs := by
  refine ⟨hr.1, ?_⟩
  rcases hr.2 with e | ⟨g, cap, cur, e, e1, e2, e3⟩
  · exact Or.inl e
  · exact Or.inr ⟨g, cap, cur, e, e1, h.same g _ e2 (Or.inr ⟨rfl, by rintro ⟨c', ty', fz', e, e'⟩; cases e; exact hne e'⟩), e3⟩

theorem AtAt.ow {w W W' : World} {B : Nat} {t : Lf} {v : Value} {l m : List (Int × Int)} (h : AtAt w W t v l m) (hO : Ow 335 B W W') (hB : w.heap.size + 4 ≤ B) : AtAt w W' t v l m := by
  refine ⟨h.below.trans ⟨hO.os, hO.tape, hO.output, hO.size, fun k hk => ?_⟩, h.here.keep (hO.fkeep.toA _), hO.rowIs (by decide) h.box, hO.rowIs (by decide) h.mbox, h.cnt.keep ?_, hO.ownsRowA (by decide) h.row⟩
  · cases hh : W.heap[k]? with
    | none =>
      have h1 := Array.getElem?_eq_none_iff.1 hh
      have h2 := h.below.size
      omega
    | some o => exact hO.same k o hh (Or.inl (by omega))
  · obtain ⟨es, ck, e⟩ := h.cnt.lt
    rw [e]
    exact hO.same _ _ e (Or.inl (by omega))

/-- The count is one more. -/
theorem AtAt.inc {w W W' : World} {t : Lf} {v : Value} {l l' m : List (Int × Int)} (h : AtAt w W t v l m) (hK : Kept1 (w.heap.size + 2) W W') (hC : CntIs W' (w.heap.size + 2) l') : AtAt w W' t v l' m := by
  obtain ⟨es, ck, e⟩ := h.cnt.lt
  have nm : ∀ k, k < W.heap.size → k ≠ w.heap.size + 2 → W'.heap[k]? = W.heap[k]? := fun k hk hne => hK.block k hk hne
  refine ⟨h.below.trans ⟨hK.os, hK.tape, hK.output, hK.size, fun k hk => nm k (by have := h.below.size; omega) (by omega)⟩, h.here.keep ?_, h.box.of_block (nm _ h.box.lt (by omega)), h.mbox.of_block (nm _ h.mbox.lt (by omega)), hC, ?_⟩
  · intro k c fz _ hk
    refine (nm k (Array.getElem?_eq_some_iff.1 hk).1 ?_).trans hk
    rintro rfl
    rw [e] at hk
    cases hk
  · refine ⟨h.row.1, ?_⟩
    rcases h.row.2 with e' | ⟨g, cap, cur, e1, e2, e3, e4⟩
    · exact Or.inl e'
    · refine Or.inr ⟨g, cap, cur, e1, e2, (nm g (Array.getElem?_eq_some_iff.1 e3).1 ?_).trans e3, e4⟩
      rintro rfl
      rw [e] at e3
      cases e3

theorem infoPairA : (Tryz.prog.info? 34).map (fun i => (i.zero, i.size, i.bytes)) = some (some (.agg #[.int .i64 0, .int .i64 0]), 2, 16) := by kernel_rfl

theorem AtAt.box8 {w W w8 : World} {O : Obj} {t : Lf} {v : Value} {l m : List (Int × Int)} (h : AtAt w W t v l m) (hgrow : (W.alloc O).grownBy w8 v.ownBlock) : w8.cell? ⟨w.heap.size + 1, 0, none⟩ = some v ∧ w8.frozen? ⟨w.heap.size + 1, 0, none⟩ = false := by
  have hne : v.ownBlock ≠ some (w.heap.size + 1) := rowIs_type h.box (by decide) h.row
  have hb8 : w8.rowIs (w.heap.size + 1) 109 1 (fun _ => v) := h.box.of_block ((hgrow.block _ (by simp; have := h.box.lt; omega) (fun e => hne e.symm)).trans (Below.heap_alloc W O _ h.box.lt))
  exact ⟨hb8.cell (i := 0) (by omega), hb8.frozen 0⟩

/-- Cells of other types than the rows' stay, and what is no cells. -/
theorem AtAt.push {w W w7 w8 : World} {O : Obj} {t : Lf} {v v8 : Value} {l m : List (Int × Int)} {p : Int × Int} (h : AtAt w W t v l m) (hw7 : w7 = W.alloc O) (hown : w8.ownsRow w.heap.size 34 2 v8 (m.length + 1) (pairC m ++ [.int .i64 p.1, .int .i64 p.2])) (hgrow : w7.grownBy w8 v.ownBlock) :
    AtAt w (w8.setCell ⟨w.heap.size + 1, 0, none⟩ v8) t v8 l (m ++ [p]) ∧ (∀ (k : Nat) (o : Obj), W.heap[k]? = some o → (o.isCells = false ∨ OfTy (fun t => t ≠ 34 ∧ t ≠ 109) o) → (w8.setCell ⟨w.heap.size + 1, 0, none⟩ v8).heap[k]? = some o) ∧ W.heap.size ≤ (w8.setCell ⟨w.heap.size + 1, 0, none⟩ v8).heap.size := by
  subst hw7
  have hne : v.ownBlock ≠ some (w.heap.size + 1) := rowIs_type h.box (by decide) h.row
  have K8 : Kept (fun k => v.ownBlock = some k ∨ k = w.heap.size + 1) W w8 := Kept.grown ((Kept.refl _ W).alloc O) hgrow (fun k e => Or.inl e)
  have hb8 : w8.rowIs (w.heap.size + 1) 109 1 (fun _ => v) := h.box.of_block ((hgrow.block _ (by simp; have := h.box.lt; omega) (fun e => hne e.symm)).trans (Below.heap_alloc W O _ h.box.lt))
  have hne8 : v8.ownBlock ≠ some (w.heap.size + 1) := rowIs_type hb8 (by decide) hown
  have K9 := K8.setCell (p := ⟨w.heap.size + 1, 0, none⟩) (Or.inr rfl) v8
  have hbt : ∀ k, v.ownBlock = some k → w.heap.size ≤ k ∧ ∃ c, W.heap[k]? = some (Obj.cells c 34 (0, 0)) := fun k hk => by
    rcases h.row.2 with ⟨e, _⟩ | ⟨g, cap, cur, e, e1, e2, _⟩
    · rw [e] at hk; simp [Value.ownBlock] at hk
    · rw [e] at hk
      simp [Value.ownBlock] at hk
      subst hk
      exact ⟨e1, cur, e2⟩
  have nm : ∀ (k : Nat) (o : Obj), W.heap[k]? = some o → (o.isCells = false ∨ OfTy (fun t => t ≠ 34 ∧ t ≠ 109) o) → (w8.setCell ⟨w.heap.size + 1, 0, none⟩ v8).heap[k]? = some o := fun k o hk ho => by
    refine (K9.block k (Array.getElem?_eq_some_iff.1 hk).1 ?_).trans hk
    rintro (e | e)
    · obtain ⟨_, c, hc⟩ := hbt k e
      rw [hk] at hc
      cases hc
      rcases ho with ho | ⟨c', ty, fz, e, e1, e2⟩
      · cases ho
      · cases e; exact e1 rfl
    · obtain ⟨c, hc, _⟩ := h.box
      rw [← e, hk] at hc
      cases hc
      rcases ho with ho | ⟨c', ty, fz, e, e1, e2⟩
      · cases ho
      · cases e; exact e2 rfl
  have e1 : pairC (m ++ [p]) = pairC m ++ [.int .i64 p.1, .int .i64 p.2] := by simp [pairC]
  have e2 : (m ++ [p]).length = m.length + 1 := by simp
  refine ⟨⟨h.below.trans ⟨K9.os, K9.tape, K9.output, K9.size, fun k hk => K9.block k (by have := h.below.size; omega) ?_⟩, h.here.keep (fun k c fz _ hk => nm k _ hk (Or.inr ⟨c, _, fz, rfl, by decide, by decide⟩)), ?_, ?_, h.cnt.keep ?_, ?_⟩, nm, K9.size⟩
  · rintro (e | e)
    · have := (hbt k e).1; omega
    · omega
  · exact World.rowIs.congr (hb8.set 0 v8) (fun j hj => by
      have : j = 0 := by omega
      subst this; simp)
  · obtain ⟨c, h1, h2⟩ := h.mbox
    exact ⟨c, nm _ _ h1 (Or.inr ⟨c, _, _, rfl, by decide, by decide⟩), h2⟩
  · obtain ⟨es, ck, e⟩ := h.cnt.lt
    rw [e]
    exact nm _ _ e (Or.inl rfl)
  · rw [e1, e2]
    exact ownsRow_setCell_other hown hne8 v8

end Go.Proofs.YtlehlgipbhfioaaGreat

namespace Go.Proofs.YtlehlgipbhfioaaGreat
open Go.RowKit Go.Maps

/-- Each once, behind some others. -/
def atsG (l0 l : List (Int × Int)) : List (Int × Int) := l.foldl (fun acc p => if p ∈ acc then acc else acc ++ [p]) l0
theorem atsG_nil (l : List (Int × Int)) : atsG [] l = ats l := rfl
theorem atsG_app (l0 a b : List (Int × Int)) : atsG l0 (a ++ b) = atsG (atsG l0 a) b := by simp [atsG, List.foldl_append]
theorem atsG_len (l : List (Int × Int)) : ∀ l0, (atsG l0 l).length ≤ l0.length + l.length := by
  induction l with
  | nil => intro l0; simp [atsG]
  | cons p l ih =>
    intro l0
    have h := ih (if p ∈ l0 then l0 else l0 ++ [p])
    have e : atsG l0 (p :: l) = atsG (if p ∈ l0 then l0 else l0 ++ [p]) l := rfl
    rw [e]
    refine Nat.le_trans h ?_
    split <;> simp <;> omega

theorem pairC_len (l : List (Int × Int)) : (pairC l).length = l.length * 2 := by
  induction l with
  | nil => rfl
  | cons c cs ih => simp [pairC, List.flatMap_cons] at ih ⊢; omega
theorem pairC_at (l : List (Int × Int)) (i : Nat) : (pairC l)[i * 2]? = (l[i]?).map (fun p => Value.int .i64 p.1) ∧ (pairC l)[i * 2 + 1]? = (l[i]?).map (fun p => Value.int .i64 p.2) := by
  induction l generalizing i with
  | nil => simp [pairC]
  | cons t l ih =>
    cases i with
    | zero => simp [pairC]
    | succ i =>
      have e : (i + 1) * 2 = (i * 2) + 1 + 1 := by omega
      have h := ih i
      unfold pairC at h ⊢
      rw [List.flatMap_cons, e]
      simpa using h

theorem row_cells {W : World} {base : Nat} {ty : TypeId} {v : Value} {l : List (Int × Int)} (h : W.ownsRow base ty 2 v l.length (pairC l)) {i : Nat} {p : Int × Int} (hi : l[i]? = some p) :
    ∃ g cap, v = .slice (some ⟨g, 0, none⟩) l.length cap ∧ base ≤ g ∧ l.length ≤ cap ∧ W.cell? ⟨g, i * 2, none⟩ = some (.int .i64 p.1) ∧ W.cell? ⟨g, i * 2 + 1, none⟩ = some (.int .i64 p.2) := by
  have hlt := (List.getElem?_eq_some_iff.1 hi).1
  rcases h.2 with ⟨e, h0⟩ | ⟨g, cap, cur, e, e1, e2, e3, e4, e5, e6⟩
  · omega
  · have get : ∀ j u, (pairC l)[j]? = some u → cur[j]? = some u := fun j u hu => by
      rw [← e6, List.getElem?_take] at hu
      split at hu
      · simpa using hu
      · cases hu
    obtain ⟨h1, h2⟩ := pairC_at l i
    rw [hi] at h1 h2
    refine ⟨g, cap, e, e1, e3, ?_, ?_⟩
    · simp only [World.cell?, e2]; exact get _ _ h1
    · simp only [World.cell?, e2]; exact get _ _ h2

theorem infoRP : (Tryz.prog.info? 32).map (fun i => (i.zero, i.size, i.bytes)) = some (some (.agg #[.int .i64 0, .int .i64 0]), 2, 16) := by kernel_rfl

end Go.Proofs.YtlehlgipbhfioaaGreat

namespace Go.Proofs.YtlehlgipbhfioaaGreat.Cn

/-- A literal's value. -/
def lit (σ : Nat → Bool) (x : Int) : Bool := if x < 0 then !σ x.natAbs else σ x.natAbs
theorem lit_neg (σ : Nat → Bool) {x : Int} (h : x ≠ 0) : lit σ (-x) = !lit σ x := by
  unfold lit
  by_cases h1 : x < 0
  · rw [if_pos h1, if_neg (by omega)]
    simp
  · rw [if_neg h1, if_pos (by omega)]
    simp
def Tru (σ : Nat → Bool) (c : List Int) : Prop := ∃ x ∈ c, lit σ x = true
def Sat (σ : Nat → Bool) (cs : List (List Int)) : Prop := ∀ c ∈ cs, Tru σ c

/-- A formula's truth, by the values of its equalities. -/
def trF (τ : Int × Int → Bool) : Fo → Bool
  | .mk 0 x y _ => τ (x, y)
  | .mk _ _ _ [k] => !trF τ k
  | .mk o _ _ [a, b] => if o = 2 then trF τ a && trF τ b else if o = 3 then trF τ a || trF τ b else !trF τ a || trF τ b
  | _ => false

theorem trF_congr {τ τ' : Int × Int → Bool} {f : Fo} (hw : WfF f) : (∀ p ∈ eqF f, τ p = τ' p) → trF τ f = trF τ' f := by
  induction hw with
  | eq x y => intro h; simp only [trF]; exact h _ (by simp [eqF])
  | neg f hf ih =>
    intro h
    have := ih (fun p hp => h p (by simp [eqF]; exact hp))
    simp [trF, this]
  | two o f g ho hf hg ih1 ih2 =>
    intro h
    have h0 : ¬ o = 0 := by rcases ho with rfl | rfl | rfl <;> decide
    have e1 := ih1 (fun p hp => h p (by simp [eqF, h0]; exact Or.inl hp))
    have e2 := ih2 (fun p hp => h p (by simp [eqF, h0]; exact Or.inr hp))
    rcases ho with rfl | rfl | rfl <;> simp [trF, e1, e2]

/-- A variable for both. -/
def both (p q : Int) (st : Nat × List (List Int)) : Int × (Nat × List (List Int)) :=
  (((st.1 + 1 : Nat) : Int), (st.1 + 1, st.2 ++ [[-((st.1 + 1 : Nat) : Int), p], [-((st.1 + 1 : Nat) : Int), q], [((st.1 + 1 : Nat) : Int), -p, -q]]))
/-- The literal of a formula. -/
def tse (an : Int × Int → Nat) : Fo → Nat × List (List Int) → Int × (Nat × List (List Int))
  | .mk 0 x y _, st => ((an (x, y) : Int), st)
  | .mk _ _ _ [k], st => (-(tse an k st).1, (tse an k st).2)
  | .mk o _ _ [a, b], st =>
    if o = 2 then both (tse an a st).1 (tse an b (tse an a st).2).1 (tse an b (tse an a st).2).2
    else if o = 3 then (-(both (-(tse an a st).1) (-(tse an b (tse an a st).2).1) (tse an b (tse an a st).2).2).1, (both (-(tse an a st).1) (-(tse an b (tse an a st).2).1) (tse an b (tse an a st).2).2).2)
    else (-(both (tse an a st).1 (-(tse an b (tse an a st).2).1) (tse an b (tse an a st).2).2).1, (both (tse an a st).1 (-(tse an b (tse an a st).2).1) (tse an b (tse an a st).2).2).2)
  | _, st => (0, st)

/-- A literal of one of the first n variables. -/
def LitLe (n : Nat) (x : Int) : Prop := x ≠ 0 ∧ x.natAbs ≤ n
def Agree (n : Nat) (σ σ' : Nat → Bool) : Prop := ∀ v, v ≤ n → σ' v = σ v
theorem Agree.lit {n : Nat} {σ σ' : Nat → Bool} (h : Agree n σ σ') {x : Int} (hx : x.natAbs ≤ n) : lit σ' x = lit σ x := by
  unfold Cn.lit
  rw [h _ hx]

/-- What a literal and the clauses behind it keep to: news are the clauses that came. -/
structure Told (an : Int × Int → Nat) (f : Fo) (st : Nat × List (List Int)) (r : Int) (st' : Nat × List (List Int)) (news : List (List Int)) : Prop where
  cls : st'.2 = st.2 ++ news
  up : st.1 ≤ st'.1
  le : LitLe st'.1 r
  all : ∀ c ∈ news, ∀ x ∈ c, LitLe st'.1 x
  sound : ∀ σ, Sat σ news → lit σ r = trF (fun p => σ (an p)) f
  ex : ∀ σ, ∃ σ', Agree st.1 σ σ' ∧ Sat σ' news

theorem Sat.app {σ : Nat → Bool} {a b : List (List Int)} : Sat σ (a ++ b) ↔ Sat σ a ∧ Sat σ b := by
  unfold Sat
  constructor
  · intro h
    exact ⟨fun c hc => h c (by simp [hc]), fun c hc => h c (by simp [hc])⟩
  · rintro ⟨h1, h2⟩ c hc
    rcases List.mem_append.1 hc with hc | hc
    · exact h1 c hc
    · exact h2 c hc
theorem Sat.agree {n : Nat} {σ σ' : Nat → Bool} (h : Agree n σ σ') {cs : List (List Int)} (hl : ∀ c ∈ cs, ∀ x ∈ c, LitLe n x) (hs : Sat σ cs) : Sat σ' cs := by
  intro c hc
  obtain ⟨x, hx, hx2⟩ := hs c hc
  exact ⟨x, hx, by rw [h.lit (hl c hc x hx).2]; exact hx2⟩

theorem both_sat (n : Nat) (p q : Int) (hp : LitLe n p) (hq : LitLe n q) (σ : Nat → Bool) : Sat σ [[-((n + 1 : Nat) : Int), p], [-((n + 1 : Nat) : Int), q], [((n + 1 : Nat) : Int), -p, -q]] ↔ σ (n + 1) = (lit σ p && lit σ q) := by
  have e1 : lit σ ((n + 1 : Nat) : Int) = σ (n + 1) := by unfold lit; rw [if_neg (by omega)]; congr 1
  have e2 : lit σ (-((n + 1 : Nat) : Int)) = !σ (n + 1) := by rw [lit_neg σ (by omega), e1]
  have e3 := lit_neg σ hp.1
  have e4 := lit_neg σ hq.1
  simp only [Sat, Tru, List.mem_cons, List.not_mem_nil, or_false, forall_eq_or_imp, forall_eq, exists_eq_or_imp, exists_eq_left, e1, e2, e3, e4]
  cases σ (n + 1) <;> cases lit σ p <;> cases lit σ q <;> simp

/-- Two that are told, and both. -/
theorem Told.both {an : Int × Int → Nat} {f g : Fo} {st s1 s2 : Nat × List (List Int)} {r1 r2 : Int} {n1 n2 : List (List Int)} (h1 : Told an f st r1 s1 n1) (h2 : Told an g s1 r2 s2 n2) (e1 e2 : Bool) :
    let p := if e1 then -r1 else r1
    let q := if e2 then -r2 else r2
    ∃ news, (both p q s2).2.2 = st.2 ++ news ∧ st.1 ≤ (both p q s2).2.1 ∧ LitLe (both p q s2).2.1 (both p q s2).1 ∧ (∀ c ∈ news, ∀ x ∈ c, LitLe (both p q s2).2.1 x) ∧
      (∀ σ, Sat σ news → lit σ (both p q s2).1 = ((trF (fun p => σ (an p)) f != e1) && (trF (fun p => σ (an p)) g != e2))) ∧ (∀ σ, ∃ σ', Agree st.1 σ σ' ∧ Sat σ' news) := by
  intro p q
  have hp : LitLe s2.1 p := by
    have a := h1.le
    have b := h2.up
    show LitLe s2.1 (if e1 then -r1 else r1)
    cases e1 <;> simp [LitLe] <;> exact ⟨a.1, by have := a.2; omega⟩
  have hq : LitLe s2.1 q := by
    have a := h2.le
    show LitLe s2.1 (if e2 then -r2 else r2)
    cases e2 <;> simp [LitLe] <;> exact ⟨a.1, a.2⟩
  have lp : ∀ σ, lit σ p = (lit σ r1 != e1) := fun σ => by
    show lit σ (if e1 then -r1 else r1) = _
    cases e1
    · simp
    · simp [lit_neg σ h1.le.1]
  have lq : ∀ σ, lit σ q = (lit σ r2 != e2) := fun σ => by
    show lit σ (if e2 then -r2 else r2) = _
    cases e2
    · simp
    · simp [lit_neg σ h2.le.1]
  have hb : ∀ σ, lit σ (Cn.both p q s2).1 = σ (s2.1 + 1) := fun σ => by
    show lit σ ((s2.1 + 1 : Nat) : Int) = _
    unfold lit
    rw [if_neg (by omega)]
    congr 1
  refine ⟨n1 ++ n2 ++ [[-((s2.1 + 1 : Nat) : Int), p], [-((s2.1 + 1 : Nat) : Int), q], [((s2.1 + 1 : Nat) : Int), -p, -q]], ?_, ?_, ?_, ?_, ?_, ?_⟩
  · show s2.2 ++ _ = _
    rw [h2.cls, h1.cls]
    simp
  · show st.1 ≤ s2.1 + 1
    have := h1.up
    have := h2.up
    omega
  · show LitLe (s2.1 + 1) ((s2.1 + 1 : Nat) : Int)
    exact ⟨by omega, by omega⟩
  · show ∀ c ∈ _, ∀ x ∈ c, LitLe (s2.1 + 1) x
    have hu := h2.up
    intro c hc x hx
    rcases List.mem_append.1 hc with hc | hc
    · rcases List.mem_append.1 hc with hc | hc
      · have := h1.all c hc x hx
        exact ⟨this.1, by have := this.2; omega⟩
      · have := h2.all c hc x hx
        exact ⟨this.1, by have := this.2; omega⟩
    · have a := hp.1
      have b := hp.2
      have a' := hq.1
      have b' := hq.2
      simp at hc
      rcases hc with rfl | rfl | rfl <;> simp at hx
      · rcases hx with rfl | rfl
        · exact ⟨by omega, by omega⟩
        · exact ⟨a, by omega⟩
      · rcases hx with rfl | rfl
        · exact ⟨by omega, by omega⟩
        · exact ⟨a', by omega⟩
      · rcases hx with rfl | rfl | rfl
        · exact ⟨by omega, by omega⟩
        · exact ⟨by omega, by omega⟩
        · exact ⟨by omega, by omega⟩
  · intro σ hs
    obtain ⟨hs1, hs3⟩ := Sat.app.1 hs
    obtain ⟨hs1, hs2⟩ := Sat.app.1 hs1
    rw [hb, (both_sat s2.1 p q hp hq σ).1 hs3, lp, lq, h1.sound σ hs1, h2.sound σ hs2]
  · intro σ
    obtain ⟨σ1, a1, b1⟩ := h1.ex σ
    obtain ⟨σ2, a2, b2⟩ := h2.ex σ1
    refine ⟨fun v => if v = s2.1 + 1 then (lit σ2 p && lit σ2 q) else σ2 v, ?_, ?_⟩
    · intro v hv
      have := h1.up
      have := h2.up
      show (if v = s2.1 + 1 then (lit σ2 p && lit σ2 q) else σ2 v) = σ v
      rw [if_neg (by omega), a2 v (by omega), a1 v hv]
    · have ag : Agree s2.1 σ2 (fun v => if v = s2.1 + 1 then (lit σ2 p && lit σ2 q) else σ2 v) := fun v hv => if_neg (by omega)
      refine Sat.app.2 ⟨Sat.app.2 ⟨?_, Sat.agree ag h2.all b2⟩, ?_⟩
      · refine Sat.agree (n := s1.1) (fun v hv => ?_) h1.all b1
        have := h2.up
        show (if v = s2.1 + 1 then (lit σ2 p && lit σ2 q) else σ2 v) = σ1 v
        rw [if_neg (by omega), a2 v hv]
      · rw [both_sat s2.1 p q hp hq, ag.lit hp.2, ag.lit hq.2]
        simp

/-- Of every formula. -/
theorem tse_told (an : Int × Int → Nat) {f : Fo} (hw : WfF f) : ∀ st : Nat × List (List Int), (∀ p ∈ eqF f, 1 ≤ an p ∧ an p ≤ st.1) → ∃ news, Told an f st (tse an f st).1 (tse an f st).2 news := by
  induction hw with
  | eq x y =>
    intro st h
    obtain ⟨h1, h2⟩ := h (x, y) (by simp [eqF])
    refine ⟨[], ⟨by simp [tse], by simp [tse], ⟨by simp [tse]; omega, by simp [tse]; omega⟩, by simp, fun σ _ => ?_, fun σ => ⟨σ, fun _ _ => rfl, fun c hc => by cases hc⟩⟩⟩
    simp only [tse, trF, lit]
    rw [if_neg (by omega)]
    congr 1
  | neg f hf ih =>
    intro st h
    obtain ⟨news, T⟩ := ih st (fun p hp => h p (by simp [eqF]; exact hp))
    have e : tse an (.mk 1 0 0 [f]) st = (-(tse an f st).1, (tse an f st).2) := by rw [tse]; simp
    rw [e]
    refine ⟨news, ⟨T.cls, T.up, ⟨by have := T.le.1; simp; omega, by have := T.le.2; simp; omega⟩, T.all, fun σ hs => ?_, T.ex⟩⟩
    have e2 : trF (fun p => σ (an p)) (.mk 1 0 0 [f]) = !trF (fun p => σ (an p)) f := by rw [trF]; simp
    rw [e2, lit_neg σ T.le.1, T.sound σ hs]
  | two o f g ho hf hg ih1 ih2 =>
    intro st h
    have h0 : ¬ o = 0 := by rcases ho with rfl | rfl | rfl <;> decide
    have hf' : ∀ p ∈ eqF f, 1 ≤ an p ∧ an p ≤ st.1 := fun p hp => h p (by simp [eqF, h0]; exact Or.inl hp)
    obtain ⟨n1, T1⟩ := ih1 st hf'
    obtain ⟨n2, T2⟩ := ih2 (tse an f st).2 (fun p hp => by
      have := h p (by simp [eqF, h0]; exact Or.inr hp)
      have := T1.up
      omega)
    rcases ho with rfl | rfl | rfl
    · obtain ⟨news, b1, b2, b3, b4, b5, b6⟩ := Told.both T1 T2 false false
      simp only [Bool.false_eq_true, if_false] at b1 b2 b3 b4 b5
      have e : tse an (.mk 2 0 0 [f, g]) st = both (tse an f st).1 (tse an g (tse an f st).2).1 (tse an g (tse an f st).2).2 := by rw [tse] <;> simp
      rw [e]
      refine ⟨news, ⟨b1, b2, b3, b4, fun σ hs => ?_, b6⟩⟩
      rw [b5 σ hs, trF]
      · simp
      · intro x; cases x
    · obtain ⟨news, b1, b2, b3, b4, b5, b6⟩ := Told.both T1 T2 true true
      simp only [if_true] at b1 b2 b3 b4 b5
      have e : tse an (.mk 3 0 0 [f, g]) st = (-(both (-(tse an f st).1) (-(tse an g (tse an f st).2).1) (tse an g (tse an f st).2).2).1, (both (-(tse an f st).1) (-(tse an g (tse an f st).2).1) (tse an g (tse an f st).2).2).2) := by rw [tse] <;> simp
      rw [e]
      refine ⟨news, ⟨b1, b2, ⟨by have := b3.1; simp; omega, by have := b3.2; simp; omega⟩, b4, fun σ hs => ?_, b6⟩⟩
      rw [lit_neg σ b3.1, b5 σ hs, trF]
      · simp
      · intro x; cases x
    · obtain ⟨news, b1, b2, b3, b4, b5, b6⟩ := Told.both T1 T2 false true
      simp only [Bool.false_eq_true, if_false, if_true] at b1 b2 b3 b4 b5
      have e : tse an (.mk 4 0 0 [f, g]) st = (-(both (tse an f st).1 (-(tse an g (tse an f st).2).1) (tse an g (tse an f st).2).2).1, (both (tse an f st).1 (-(tse an g (tse an f st).2).1) (tse an g (tse an f st).2).2).2) := by rw [tse] <;> simp
      rw [e]
      refine ⟨news, ⟨b1, b2, ⟨by have := b3.1; simp; omega, by have := b3.2; simp; omega⟩, b4, fun σ hs => ?_, b6⟩⟩
      rw [lit_neg σ b3.1, b5 σ hs, trF]
      · simp
      · intro x; cases x

/-- The theorem of clauses: they can be true, with these values of the equalities, just if the formula is. -/
theorem tse_sat (an : Int × Int → Nat) {f : Fo} (hw : WfF f) (n : Nat) (h : ∀ p ∈ eqF f, 1 ≤ an p ∧ an p ≤ n) (τ : Nat → Bool) :
    (∃ σ, Agree n τ σ ∧ Sat σ ((tse an f (n, [])).2.2 ++ [[(tse an f (n, [])).1]])) ↔ trF (fun p => τ (an p)) f = true := by
  obtain ⟨news, T⟩ := tse_told an hw (n, []) h
  have hc : (tse an f (n, [])).2.2 = news := by rw [T.cls]; rfl
  have same : ∀ σ, Agree n τ σ → trF (fun p => σ (an p)) f = trF (fun p => τ (an p)) f := fun σ hA => trF_congr hw (fun p hp => hA _ (h p hp).2)
  rw [hc]
  constructor
  · rintro ⟨σ, hA, hs⟩
    obtain ⟨h1, h2⟩ := Sat.app.1 hs
    obtain ⟨x, hx, hx2⟩ := h2 _ (List.mem_singleton.2 rfl)
    obtain rfl := List.mem_singleton.1 hx
    rw [← same σ hA, ← T.sound σ h1]
    exact hx2
  · intro ht
    obtain ⟨σ, hA, hs⟩ := T.ex τ
    refine ⟨σ, hA, Sat.app.2 ⟨hs, fun c hc => ?_⟩⟩
    obtain rfl := List.mem_singleton.1 hc
    exact ⟨_, List.mem_singleton.2 rfl, by rw [T.sound σ hs, same σ hA]; exact ht⟩

end Go.Proofs.YtlehlgipbhfioaaGreat.Cn

namespace Go.Proofs.YtlehlgipbhfioaaGreat.Cn

/-- A literal's value: 0 none yet, 1 true, -1 false. -/
def hold (vs : List Int) (x : Int) : Int := if x < 0 then -(vs[x.natAbs]?.getD 0) else vs[x.natAbs]?.getD 0
/-- These values are kept to. -/
def Ext (vs : List Int) (σ : Nat → Bool) : Prop := ∀ v : Nat, (vs[v]?.getD 0 = 1 → σ v = true) ∧ (vs[v]?.getD 0 = -1 → σ v = false)
/-- Values are 0, 1, -1. -/
def Tri (vs : List Int) : Prop := ∀ v : Nat, vs[v]?.getD 0 = 0 ∨ vs[v]?.getD 0 = 1 ∨ vs[v]?.getD 0 = -1

theorem hold_tri {vs : List Int} (h : Tri vs) (x : Int) : hold vs x = 0 ∨ hold vs x = 1 ∨ hold vs x = -1 := by
  unfold hold
  have := h x.natAbs
  split <;> omega
theorem hold_true {vs : List Int} {σ : Nat → Bool} (h : Ext vs σ) {x : Int} (hx : hold vs x = 1) : lit σ x = true := by
  unfold hold at hx
  unfold lit
  split at hx
  · next h0 => rw [if_pos h0, (h x.natAbs).2 (by omega)]; rfl
  · next h0 => rw [if_neg h0, (h x.natAbs).1 hx]
theorem hold_false {vs : List Int} {σ : Nat → Bool} (h : Ext vs σ) {x : Int} (hx : hold vs x = -1) : lit σ x = false := by
  unfold hold at hx
  unfold lit
  split at hx
  · next h0 => rw [if_pos h0, (h x.natAbs).1 (by omega)]; rfl
  · next h0 => rw [if_neg h0, (h x.natAbs).2 hx]

/-- A clause is looked through: the open literal, how often it was another one, and whether one is true. -/
def scan (vs : List Int) : List Int → Int → Nat → Int × Nat × Bool
  | [], o, n => (o, n, false)
  | x :: xs, o, n => if hold vs x = 1 then (o, n, true) else if hold vs x = 0 ∧ x ≠ o then scan vs xs x (n + 1) else scan vs xs o n
def forc (vs : List Int) : List (List Int) → Int × Bool
  | [] => (0, true)
  | c :: cs => if (scan vs c 0 0).2.2 = false ∧ (scan vs c 0 0).2.1 = 0 then (0, false) else if (scan vs c 0 0).2.2 = false ∧ (scan vs c 0 0).2.1 = 1 then ((scan vs c 0 0).1, true) else forc vs cs

theorem scan_done {vs : List Int} : ∀ {c : List Int} {o : Int} {n : Nat}, (scan vs c o n).2.2 = true → ∃ x ∈ c, hold vs x = 1
  | [], o, n, h => by cases h
  | x :: xs, o, n, h => by
    rw [scan] at h
    split at h
    · next h1 => exact ⟨x, by simp, h1⟩
    · split at h
      · obtain ⟨y, hy, hy2⟩ := scan_done h
        exact ⟨y, by simp [hy], hy2⟩
      · obtain ⟨y, hy, hy2⟩ := scan_done h
        exact ⟨y, by simp [hy], hy2⟩
theorem scan_not {vs : List Int} : ∀ {c : List Int} {o : Int} {n : Nat}, (scan vs c o n).2.2 = false → (∀ x ∈ c, hold vs x ≠ 1) ∧ n ≤ (scan vs c o n).2.1 ∧
    ((scan vs c o n).2.1 = n → (scan vs c o n).1 = o ∧ ∀ x ∈ c, hold vs x = 0 → x = o) ∧
    ((scan vs c o n).2.1 = n + 1 → (scan vs c o n).1 ∈ c ∧ hold vs (scan vs c o n).1 = 0 ∧ ∀ x ∈ c, hold vs x = 0 → x = o ∨ x = (scan vs c o n).1)
  | [], o, n, h => by
    simp [scan]
  | x :: xs, o, n, h => by
    rw [scan] at h ⊢
    split at h
    · cases h
    · next h1 =>
      rw [if_neg h1]
      split at h
      · next h2 =>
        rw [if_pos h2]
        obtain ⟨a1, a2, a3, a4⟩ := scan_not h
        refine ⟨fun y hy => ?_, by omega, fun e => by omega, fun e => ?_⟩
        · rcases List.mem_cons.1 hy with rfl | hy
          · exact h1
          · exact a1 y hy
        · obtain ⟨b1, b2⟩ := a3 e
          rw [b1]
          refine ⟨by simp, h2.1, fun y hy hy0 => ?_⟩
          rcases List.mem_cons.1 hy with rfl | hy
          · exact Or.inr rfl
          · exact Or.inr (b2 y hy hy0)
      · next h2 =>
        rw [if_neg h2]
        obtain ⟨a1, a2, a3, a4⟩ := scan_not h
        have hx : hold vs x = 0 → x = o := fun h0 => Decidable.byContradiction fun hn => h2 ⟨h0, hn⟩
        refine ⟨fun y hy => ?_, a2, fun e => ?_, fun e => ?_⟩
        · rcases List.mem_cons.1 hy with rfl | hy
          · exact h1
          · exact a1 y hy
        · obtain ⟨b1, b2⟩ := a3 e
          refine ⟨b1, fun y hy hy0 => ?_⟩
          rcases List.mem_cons.1 hy with rfl | hy
          · exact hx hy0
          · exact b2 y hy hy0
        · obtain ⟨b1, b2, b3⟩ := a4 e
          refine ⟨by simp [b1], b2, fun y hy hy0 => ?_⟩
          rcases List.mem_cons.1 hy with rfl | hy
          · exact Or.inl (hx hy0)
          · exact b3 y hy hy0

theorem scan_shut {vs : List Int} : ∀ {c : List Int} {o : Int} {n : Nat}, (∀ x ∈ c, hold vs x ≠ 0) → (scan vs c o n).2.1 = n
  | [], o, n, h => rfl
  | x :: xs, o, n, h => by
    rw [scan]
    split
    · rfl
    · rw [if_neg (fun e => h x (by simp) e.1)]
      exact scan_shut (fun y hy => h y (by simp [hy]))

def Nz (cs : List (List Int)) : Prop := ∀ c ∈ cs, ∀ x ∈ c, x ≠ 0

/-- A clause is false. -/
theorem forc_no {vs : List Int} (hv : Tri vs) {cs : List (List Int)} (hz : Nz cs) {x : Int} (h : forc vs cs = (x, false)) (σ : Nat → Bool) (he : Ext vs σ) : ¬ Sat σ cs := by
  induction cs with
  | nil => cases h
  | cons c cs ih =>
    intro hs
    rw [forc] at h
    split at h
    · next h1 =>
      obtain ⟨a1, _, a3, _⟩ := scan_not h1.1
      obtain ⟨y, hy, hy2⟩ := hs c (by simp)
      rcases hold_tri hv y with e | e | e
      · exact hz c (by simp) y hy ((a3 h1.2).2 y hy e)
      · exact a1 y hy e
      · rw [hold_false he e] at hy2; cases hy2
    · split at h
      · cases h
      · exact ih (fun c hc => hz c (by simp [hc])) h (fun c hc => hs c (by simp [hc]))
/-- A literal is forced. -/
theorem forc_yes {vs : List Int} (hv : Tri vs) {cs : List (List Int)} (hz : Nz cs) {x : Int} (h0 : x ≠ 0) (h : forc vs cs = (x, true)) : (∃ c ∈ cs, x ∈ c) ∧ hold vs x = 0 ∧ ∀ σ, Ext vs σ → Sat σ cs → lit σ x = true := by
  induction cs with
  | nil => rw [forc] at h; injection h with h _; exact absurd h.symm h0
  | cons c cs ih =>
    rw [forc] at h
    split at h
    · injection h with _ h; cases h
    · split at h
      · next h1 =>
        injection h with h _
        subst h
        obtain ⟨a1, _, _, a4⟩ := scan_not h1.1
        obtain ⟨b1, b2, b3⟩ := a4 h1.2
        refine ⟨⟨c, by simp, b1⟩, b2, fun σ he hs => ?_⟩
        obtain ⟨y, hy, hy2⟩ := hs c (by simp)
        rcases hold_tri hv y with e | e | e
        · rcases b3 y hy e with e2 | e2
          · exact absurd e2 (hz c (by simp) y hy)
          · rw [← e2]; exact hy2
        · exact absurd e (a1 y hy)
        · rw [hold_false he e] at hy2; cases hy2
      · obtain ⟨⟨c', hc', hx⟩, b2, b3⟩ := ih (fun c hc => hz c (by simp [hc])) h
        exact ⟨⟨c', by simp [hc'], hx⟩, b2, fun σ he hs => b3 σ he (fun c hc => hs c (by simp [hc]))⟩
/-- None is forced, and all have values: all clauses are true. -/
theorem forc_all {vs : List Int} {cs : List (List Int)} (hz : Nz cs) (h : forc vs cs = (0, true)) (hf : ∀ c ∈ cs, ∀ x ∈ c, hold vs x ≠ 0) (σ : Nat → Bool) (he : Ext vs σ) : Sat σ cs := by
  induction cs with
  | nil => intro c hc; cases hc
  | cons c cs ih =>
    rw [forc] at h
    split at h
    · injection h with _ h; cases h
    · next h1 =>
      split at h
      · next h2 =>
        obtain ⟨a1, _, _, a4⟩ := scan_not h2.1
        obtain ⟨b1, b2, _⟩ := a4 h2.2
        exact absurd b2 (hf c (by simp) _ b1)
      · next h2 =>
        intro c' hc'
        rcases List.mem_cons.1 hc' with rfl | hc'
        · cases hd : (scan vs c' 0 0).2.2 with
          | true =>
            obtain ⟨x, hx, hx2⟩ := scan_done hd
            exact ⟨x, hx, hold_true he hx2⟩
          | false =>
            have hn : (scan vs c' 0 0).2.1 = 0 := scan_shut (fun x hx => hf c' (by simp) x hx)
            exact absurd ⟨hd, hn⟩ h1
        · exact ih (fun c hc => hz c (by simp [hc])) h (fun c hc => hf c (by simp [hc])) c' hc'

/-- A value is set. -/
theorem set_ext {vs : List Int} {v : Nat} (hv : v < vs.length) (h0 : vs[v]?.getD 0 = 0) (b : Bool) (σ : Nat → Bool) : Ext (vs.set v (if b then 1 else -1)) σ ↔ Ext vs σ ∧ σ v = b := by
  have hs : ∀ u : Nat, (vs.set v (if b then 1 else -1))[u]?.getD 0 = if u = v then (if b then 1 else -1) else vs[u]?.getD 0 := fun u => by
    by_cases e : u = v
    · subst e
      simp [hv]
    · rw [if_neg e, List.getElem?_set_ne (fun x => e x.symm)]
  constructor
  · intro h
    refine ⟨fun u => ?_, ?_⟩
    · by_cases e : u = v
      · subst e
        rw [h0]
        exact ⟨fun x => by omega, fun x => by omega⟩
      · have := h u
        rw [hs, if_neg e] at this
        exact this
    · have := h v
      rw [hs, if_pos rfl] at this
      cases b
      · exact this.2 rfl
      · exact this.1 rfl
  · rintro ⟨h, hb⟩ u
    rw [hs]
    by_cases e : u = v
    · subst e
      rw [if_pos rfl, hb]
      cases b <;> simp
    · rw [if_neg e]
      exact h u
theorem set_tri {vs : List Int} (h : Tri vs) (v : Nat) (b : Bool) : Tri (vs.set v (if b then 1 else -1)) := fun u => by
  by_cases e : v = u
  · subst e
    by_cases hl : v < vs.length
    · simp [hl]
    · rw [List.set_eq_of_length_le (by omega)]
      exact h v
  · rw [List.getElem?_set_ne e]
    exact h u

/-- How many have no value yet. -/
def zs (vs : List Int) : Nat := vs.count 0

theorem zs_set {vs : List Int} {v : Nat} (hv : v < vs.length) (h0 : vs[v]?.getD 0 = 0) (b : Bool) : zs (vs.set v (if b then 1 else -1)) + 1 = zs vs := by
  have h1 : vs[v] = 0 := by simpa [hv] using h0
  unfold zs
  rw [List.count_set hv]
  have h2 : 0 < vs.count 0 := List.count_pos_iff.2 (h1 ▸ List.getElem_mem hv)
  cases b <;> simp [h1] <;> omega

/-- Literals of the values' variables. -/
def InV (n : Nat) (cs : List (List Int)) : Prop := ∀ c ∈ cs, ∀ x ∈ c, x ≠ 0 ∧ x.natAbs < n

/-- What is forced is set, one by one. -/
def prop (cs : List (List Int)) : Nat → List Int → Option (List Int)
  | 0, _ => none
  | f + 1, vs => if (forc vs cs).2 = false then none else if (forc vs cs).1 = 0 then some vs else prop cs f (vs.set (forc vs cs).1.natAbs (if decide (0 < (forc vs cs).1) then 1 else -1))

theorem hold_zero {vs : List Int} {x : Int} (h : hold vs x = 0) : vs[x.natAbs]?.getD 0 = 0 := by
  unfold hold at h
  split at h <;> omega
theorem lit_is {σ : Nat → Bool} {x : Int} (h0 : x ≠ 0) : lit σ x = true ↔ σ x.natAbs = decide (0 < x) := by
  unfold lit
  by_cases h : x < 0
  · rw [if_pos h, decide_eq_false (by omega)]
    simp
  · rw [if_neg h, decide_eq_true (by omega)]

theorem prop_told {cs : List (List Int)} : ∀ (f : Nat) (vs : List Int), Tri vs → InV vs.length cs → zs vs < f → match prop cs f vs with
    | none => ∀ σ, Ext vs σ → ¬ Sat σ cs
    | some us => (∀ σ, Sat σ cs → (Ext vs σ ↔ Ext us σ)) ∧ forc us cs = (0, true) ∧ Tri us ∧ zs us ≤ zs vs ∧ us.length = vs.length
  | 0, _, _, _, h => absurd h (by omega)
  | f + 1, vs, ht, hi, hf => by
    have hz : Nz cs := fun c hc x hx => (hi c hc x hx).1
    rw [prop]
    cases hc : forc vs cs with
    | mk x b =>
      cases b with
      | false =>
        simp only [if_true]
        exact fun σ he => forc_no ht hz hc σ he
      | true =>
        simp only [Bool.true_eq_false, if_false]
        by_cases h0 : x = 0
        · subst h0
          rw [if_pos rfl]
          exact ⟨fun σ _ => Iff.rfl, hc, ht, Nat.le_refl _, rfl⟩
        · rw [if_neg h0]
          obtain ⟨⟨c, hcc, hxc⟩, h1, h2⟩ := forc_yes ht hz h0 hc
          have hl := (hi c hcc x hxc).2
          have hv0 := hold_zero h1
          have hzs := zs_set hl hv0 (decide (0 < x))
          have R := prop_told f (vs.set x.natAbs (if decide (0 < x) then 1 else -1)) (set_tri ht _ _) (by rw [List.length_set]; exact hi) (by omega)
          have hE := fun σ => set_ext hl hv0 (decide (0 < x)) σ
          revert R
          cases prop cs f (vs.set x.natAbs (if decide (0 < x) then 1 else -1)) with
          | none =>
            intro R σ he hs
            exact R σ ((hE σ).2 ⟨he, (lit_is h0).1 (h2 σ he hs)⟩) hs
          | some us =>
            rintro ⟨r1, r2, r3, r4, r5⟩
            refine ⟨fun σ hs => ?_, r2, r3, by omega, by rw [r5, List.length_set]⟩
            rw [← r1 σ hs, hE σ]
            exact ⟨fun he => ⟨he, (lit_is h0).1 (h2 σ he hs)⟩, fun h => h.1⟩

/-- The first that has no value, from v on. -/
def fst0 (vs : List Int) : Nat → Nat → Option Nat
  | 0, _ => none
  | f + 1, v => if v < vs.length then (if vs[v]?.getD 0 ≠ 0 then fst0 vs f (v + 1) else some v) else none
theorem fst0_some {vs : List Int} : ∀ {f v u : Nat}, fst0 vs f v = some u → v ≤ u ∧ u < vs.length ∧ vs[u]?.getD 0 = 0
  | 0, v, u, h => by cases h
  | f + 1, v, u, h => by
    rw [fst0] at h
    split at h
    · next h1 =>
      split at h
      · have := fst0_some h
        exact ⟨by omega, this.2⟩
      · next h2 =>
        injection h with h
        subst h
        exact ⟨Nat.le_refl _, h1, Decidable.not_not.1 h2⟩
    · cases h
theorem fst0_none {vs : List Int} : ∀ {f v : Nat}, vs.length ≤ v + f → fst0 vs f v = none → ∀ u, v ≤ u → u < vs.length → vs[u]?.getD 0 ≠ 0
  | 0, v, hf, h, u, h1, h2 => absurd h2 (by omega)
  | f + 1, v, hf, h, u, h1, h2 => by
    rw [fst0] at h
    rw [if_pos (by omega)] at h
    split at h
    · next h3 =>
      by_cases e : u = v
      · subst e; exact h3
      · exact fst0_none (by omega) h u (by omega) h2
    · cases h

/-- Search: can the values be filled up? -/
def srch (cs : List (List Int)) : Nat → List Int → Bool
  | 0, _ => false
  | f + 1, vs => match prop cs (zs vs + 1) vs with
    | none => false
    | some us => match fst0 us us.length 1 with
      | none => true
      | some v => srch cs f (us.set v 1) || srch cs f (us.set v (-1))

theorem hold_set {vs : List Int} {x : Int} (h : vs[x.natAbs]?.getD 0 ≠ 0) : hold vs x ≠ 0 := by
  unfold hold
  split <;> omega

theorem ext_any (vs : List Int) : ∃ σ, Ext vs σ := ⟨fun v => decide (vs[v]?.getD 0 = 1), fun v => ⟨fun h => decide_eq_true h, fun h => decide_eq_false (by omega)⟩⟩

theorem srch_told {cs : List (List Int)} : ∀ (f : Nat) (vs : List Int), Tri vs → InV vs.length cs → zs vs < f → (srch cs f vs = true ↔ ∃ σ, Ext vs σ ∧ Sat σ cs)
  | 0, _, _, _, h => absurd h (by omega)
  | f + 1, vs, ht, hi, hf => by
    have P := prop_told (cs := cs) (zs vs + 1) vs ht hi (by omega)
    rw [srch]
    revert P
    cases prop cs (zs vs + 1) vs with
    | none =>
      intro P
      simp only [Bool.false_eq_true, false_iff]
      rintro ⟨σ, h1, h2⟩
      exact P σ h1 h2
    | some us =>
      rintro ⟨r1, r2, r3, r4, r5⟩
      simp only
      cases hz : fst0 us us.length 1 with
      | none =>
        simp only [true_iff]
        have hall := fst0_none (by omega) hz
        obtain ⟨σ, hσ⟩ := ext_any us
        have hs : Sat σ cs := forc_all (fun c hc x hx => (hi c hc x hx).1) r2 (fun c hc x hx => hold_set (hall _ (by have := (hi c hc x hx).1; omega) (by rw [r5]; exact (hi c hc x hx).2))) σ hσ
        exact ⟨σ, (r1 σ hs).2 hσ, hs⟩
      | some v =>
        obtain ⟨h1, h2, h3⟩ := fst0_some hz
        have z1 := zs_set h2 h3 true
        have z2 := zs_set h2 h3 false
        have E1 := fun σ => set_ext h2 h3 true σ
        have E2 := fun σ => set_ext h2 h3 false σ
        have t1 := set_tri r3 v true
        have t2 := set_tri r3 v false
        simp only [if_true, Bool.false_eq_true, if_false] at z1 z2 E1 E2 t1 t2
        have R1 := srch_told f (us.set v 1) t1 (by rw [List.length_set, r5]; exact hi) (by omega)
        have R2 := srch_told f (us.set v (-1)) t2 (by rw [List.length_set, r5]; exact hi) (by omega)
        simp only [Bool.or_eq_true, R1, R2, E1, E2]
        constructor
        · rintro (⟨σ, ⟨a, _⟩, b⟩ | ⟨σ, ⟨a, _⟩, b⟩)
          · exact ⟨σ, (r1 σ b).2 a, b⟩
          · exact ⟨σ, (r1 σ b).2 a, b⟩
        · rintro ⟨σ, a, b⟩
          cases hb : σ v with
          | true => exact Or.inl ⟨σ, ⟨(r1 σ b).1 a, hb⟩, b⟩
          | false => exact Or.inr ⟨σ, ⟨(r1 σ b).1 a, hb⟩, b⟩

end Go.Proofs.YtlehlgipbhfioaaGreat.Cn

namespace Go.Proofs.YtlehlgipbhfioaaGreat
open Go.RowKit Go.Maps

/-- The greatest is put behind the others. -/
def rotG (a b : Nat) (G : Nat → Nat) : Nat → Nat := fun t => if a ≤ t ∧ t + 1 < b then G (t + 1) else if a ≤ t ∧ t + 1 = b then G a else G t
/-- The greatest stands first, the others rise. -/
structure ShG (a b : Nat) (G : Nat → Nat) : Prop where
  up : ∀ s t, a < s → s < t → t < b → G s < G t
  top : ∀ t, a < t → t < b → G t < G a
theorem RowG.kept {W W' : World} {g n : Nat} {G : Nat → Nat} (h : RowG W g n G) (hk : W'.heap[g]? = W.heap[g]?) : RowG W' g n G := hk.trans h

set_option maxRecDepth 100000 in
set_option maxHeartbeats 1000000 in
/-- Insertion: each but the first is put ahead of the greatest. -/
theorem insR_in (w : World) (g n c a b : Nat) (G : Nat → Nat) (h : RowG w g n G) (hab : a ≤ b) (hb : b ≤ n) (hn : n ≤ 1000000) (hs : ShG a b G) :
    Calls Tryz.prog 201 #[.slice (some ⟨g, 0, none⟩) n c, .int .i64 (a : Int), .int .i64 (b : Int)] w fun e w' => e = .returned (.tuple #[]) ∧ RowG w' g n (rotG a b G) ∧ Kept (fun k => k = g) w w' := by
  have V0 : Hid (RowG w g n (rotG a (min (a + 1) b) G) ∧ Kept (fun k => k = g) w w) := by
    refine ⟨h.congr fun t ht => ?_, Kept.refl _ _⟩
    unfold rotG
    by_cases e : a + 1 ≤ b
    · rw [Nat.min_eq_left e]
      by_cases e2 : t = a
      · subst e2; simp
      · rw [if_neg (by omega), if_neg (by omega)]
    · rw [Nat.min_eq_right (by omega), if_neg (by omega), if_neg (by omega)]
  have HS : Hid (ShG a b G) := hs
  clear h hs
  go_enter Tryz.func201, Tryz.ntmps201
  go_wp2_with fail
  go_loopw [6] (fun t6 W => ∃ i : Nat, a + 1 ≤ i ∧ i ≤ b + 1 ∧ t6 = .int .i64 (i : Int) ∧ Hid (RowG W g n (rotG a (min i b) G) ∧ Kept (fun k => k = g) w W)) (fun t6 _ => b + 1 - (intOf t6).toNat)
  case atStart => exact ⟨a + 1, Nat.le_refl _, by omega, by go_num, V0⟩
  case round =>
    obtain ⟨i, hi1, hi2, rfl, HV⟩ := hrel
    clear V0
    by_cases hin : i < b
    · have di : decide ((i : Int) < (b : Int)) = true := decide_eq_true (by omega)
      have hwrap : IntKind.i64.wrap ((i : Int) + 1) = (i : Int) + 1 := by rw [IntKind.wrap_i64]; omega
      obtain ⟨k, rfl⟩ : ∃ k, i = k + 1 := ⟨i - 1, by omega⟩
      have V1 : Hid (RowG wr g n (rotG a (k + 1) G) ∧ Kept (fun k => k = g) w wr) := by
        have := HV.out
        rw [Nat.min_eq_left (Nat.le_of_lt hin)] at this
        exact this
      clear HV
      have hak : a ≤ k := by omega
      have hkn : k + 1 < n := by omega
      clear hi1
      go_wp2_with fail
      go_loopw [7] (fun t7 W => (t7 = .int .i64 ((k : Int) + 1) ∧ Hid (RowG W g n (rotG a (k + 1) G) ∧ Kept (fun k => k = g) w W)) ∨ (t7 = .int .i64 (k : Int) ∧ Hid (RowG W g n (rotG a (k + 2) G) ∧ Kept (fun k => k = g) w W))) (fun t7 _ => (intOf t7).toNat)
      case atStart => exact Or.inl ⟨by go_num, V1⟩
      case round =>
        clear V1
        rcases hrel with ⟨rfl, HI⟩ | ⟨rfl, HI⟩
        · have cx := HI.out.1.cell (k + 1) hkn
          have cp := HI.out.1.cell k (by omega)
          have fx := HI.out.1.frozen (k + 1)
          have fp := HI.out.1.frozen k
          have ex : rotG a (k + 1) G (k + 1) = G (k + 1) := by unfold rotG; rw [if_neg (by omega), if_neg (by omega)]
          have ep : rotG a (k + 1) G k = G a := by unfold rotG; rw [if_neg (by omega), if_pos (by omega)]
          rw [ex] at cx
          rw [ep] at cp
          have hlt : G (k + 1) < G a := HS.out.top (k + 1) (by omega) hin
          have HF : Hid (∀ m, RowG (((wr.drewN m).setCell ⟨g, k + 1, none⟩ (.int .i32 (G a : Int))).setCell ⟨g, k, none⟩ (.int .i32 (G (k + 1) : Int))) g n (rotG a (k + 2) G) ∧ Kept (fun k => k = g) w (((wr.drewN m).setCell ⟨g, k + 1, none⟩ (.int .i32 (G a : Int))).setCell ⟨g, k, none⟩ (.int .i32 (G (k + 1) : Int)))) := fun m => by
            refine ⟨(((HI.out.1.drew m).set (k + 1) (G a)).set k (G (k + 1))).congr fun t ht => ?_, Kept.setCell (Kept.setCell (HI.out.2.drewN m) (p := ⟨g, k + 1, none⟩) rfl _) (p := ⟨g, k, none⟩) rfl _⟩
            unfold rotG
            by_cases e1 : t = k
            · subst e1; rw [if_pos (by omega), if_pos rfl]
            · by_cases e2 : t = k + 1
              · subst e2; rw [if_neg (by omega), if_pos (by omega), if_neg e1, if_pos rfl]
              · rw [if_neg e1, if_neg e2]
                by_cases e3 : a ≤ t ∧ t + 1 < k + 1
                · rw [if_pos (by omega), if_pos e3]
                · rw [if_neg (by omega), if_neg (by omega), if_neg e3, if_neg (by omega)]
          have LS := fun W : World => sLess_in W (G (k + 1) : Int) (G a : Int)
          have dx : decide ((G (k + 1) : Int) < (G a : Int)) = true := decide_eq_true (by omega)
          have da : decide ((a : Int) < (k : Int) + 1) = true := decide_eq_true (by omega)
          have hkw : IntKind.i64.wrap ((k : Int) + 1 - 1) = (k : Int) := by rw [IntKind.wrap_i64]; omega
          clear HI ex ep
          generalize G (k + 1) = x at *
          generalize G a = y at *
          go_wp2_with fail
          go_quiet ((go_at_call 207; exact Calls.quiet_of_same ((LS _).mono fun _ _ x => ⟨x.1, x.2.symm⟩)))
          go_wp2_with fail
          go_region
          all_goals go_wp2_with fail
          exact ⟨Or.inr ⟨rfl, HF.out _⟩, by simp [intOf]⟩
        · have HO : Hid (∀ m, RowG (wr.drewN m) g n (rotG a (min (k + 1 + 1) b) G) ∧ Kept (fun k => k = g) w (wr.drewN m)) := fun m => by
            rw [Nat.min_eq_left (by omega)]
            exact ⟨HI.out.1.drew m, HI.out.2.drewN m⟩
          by_cases hka : a < k
          · have cx := HI.out.1.cell k (by omega)
            have cp := HI.out.1.cell (k - 1) (by omega)
            have ex : rotG a (k + 2) G k = G (k + 1) := by unfold rotG; rw [if_pos (by omega)]
            have ep : rotG a (k + 2) G (k - 1) = G k := by unfold rotG; rw [if_pos (by omega), Nat.sub_add_cancel (by omega)]
            rw [ex] at cx
            rw [ep] at cp
            have hlt : G k < G (k + 1) := HS.out.up k (k + 1) hka (by omega) hin
            have LS := fun W : World => sLess_in W (G (k + 1) : Int) (G k : Int)
            have dx : decide ((G (k + 1) : Int) < (G k : Int)) = false := decide_eq_false (by omega)
            obtain ⟨q, rfl⟩ : ∃ q, k = q + 1 := ⟨k - 1, by omega⟩
            rw [Nat.add_sub_cancel] at cp
            have da : decide ((a : Int) < (q : Int) + 1) = true := decide_eq_true (by omega)
            have hkw : IntKind.i64.wrap ((q : Int) + 1 - 1) = (q : Int) := by rw [IntKind.wrap_i64]; omega
            have hq : q + 1 < n := by omega
            clear HI ex ep hka
            simp only [Int.natCast_add, Int.cast_ofNat_Int]
            generalize G (q + 1 + 1) = x at *
            generalize G (q + 1) = y at *
            go_wp2_with fail
            go_quiet ((go_at_call 207; exact Calls.quiet_of_same ((LS _).mono fun _ _ x => ⟨x.1, x.2.symm⟩)))
            go_wp2_with fail
            exact ⟨⟨q + 1 + 1 + 1, by omega, by omega, by simp, HO.out _⟩, by simp [intOf]; omega⟩
          · have da : decide ((a : Int) < (k : Int)) = false := decide_eq_false (by omega)
            clear HI
            go_wp2_with fail
            go_quiet (fail)
            go_wp2_with fail
            exact ⟨⟨k + 1 + 1, by omega, by omega, by simp, HO.out _⟩, by simp [intOf]; omega⟩
    · have di : decide ((i : Int) < (b : Int)) = false := decide_eq_false (by omega)
      have HF : Hid (RowG wr g n (rotG a b G) ∧ Kept (fun k => k = g) w wr) := by
        have := HV.out
        rw [Nat.min_eq_right (by omega)] at this
        exact this
      clear HV
      go_wp2_with fail
      go_end0
      exact ⟨rfl, HF.out⟩
end Go.Proofs.YtlehlgipbhfioaaGreat

namespace Go.Proofs.YtlehlgipbhfioaaGreat
open Go.RowKit

end Go.Proofs.YtlehlgipbhfioaaGreat

namespace Go.Proofs.YtlehlgipbhfioaaGreat.Cn

/-- Forms with two Kids. -/
def twos : Fo → Nat
  | .mk 0 _ _ _ => 0
  | .mk _ _ _ [k] => twos k
  | .mk _ _ _ [a, b] => twos a + twos b + 1
  | _ => 0
/-- Forms, and those that are no equality: the document's Count. -/
def cnt : Fo → Nat × Nat
  | .mk 0 _ _ _ => (1, 0)
  | .mk _ _ _ [k] => ((cnt k).1 + 1, (cnt k).2 + 1)
  | .mk _ _ _ [a, b] => ((cnt a).1 + (cnt b).1 + 1, (cnt a).2 + (cnt b).2 + 1)
  | _ => (1, 1)

theorem both_count (p q : Int) (st : Nat × List (List Int)) : (both p q st).2.1 = st.1 + 1 ∧ (both p q st).2.2.length = st.2.length + 3 := by simp [both]

theorem tse_count (an : Int × Int → Nat) {f : Fo} (hw : WfF f) : ∀ st : Nat × List (List Int), (tse an f st).2.1 = st.1 + twos f ∧ (tse an f st).2.2.length = st.2.length + 3 * twos f := by
  induction hw with
  | eq x y => intro st; simp [tse, twos]
  | neg f hf ih =>
    intro st
    have := ih st
    simp [tse, twos]
    exact this
  | two o f g ho hf hg ih1 ih2 =>
    intro st
    have a := ih1 st
    have b := ih2 (tse an f st).2
    have e : twos (.mk o 0 0 [f, g]) = twos f + twos g + 1 := by rcases ho with rfl | rfl | rfl <;> simp [twos]
    have key : ∀ p q, (both p q (tse an g (tse an f st).2).2).2.1 = st.1 + (twos f + twos g + 1) ∧ (both p q (tse an g (tse an f st).2).2).2.2.length = st.2.length + 3 * (twos f + twos g + 1) := fun p q => by
      obtain ⟨c1, c2⟩ := both_count p q (tse an g (tse an f st).2).2
      rw [c1, c2]
      omega
    rw [e]
    rcases ho with rfl | rfl | rfl
    · rw [show tse an (.mk 2 0 0 [f, g]) st = both (tse an f st).1 (tse an g (tse an f st).2).1 (tse an g (tse an f st).2).2 by rw [tse] <;> simp]
      exact key _ _
    · rw [show tse an (.mk 3 0 0 [f, g]) st = (-(both (-(tse an f st).1) (-(tse an g (tse an f st).2).1) (tse an g (tse an f st).2).2).1, (both (-(tse an f st).1) (-(tse an g (tse an f st).2).1) (tse an g (tse an f st).2).2).2) by rw [tse] <;> simp]
      exact key _ _
    · rw [show tse an (.mk 4 0 0 [f, g]) st = (-(both (tse an f st).1 (-(tse an g (tse an f st).2).1) (tse an g (tse an f st).2).2).1, (both (tse an f st).1 (-(tse an g (tse an f st).2).1) (tse an g (tse an f st).2).2).2) by rw [tse] <;> simp]
      exact key _ _

theorem cnt_told {f : Fo} (hw : WfF f) : (cnt f).1 = (eqF f).length + (cnt f).2 ∧ twos f ≤ (cnt f).2 := by
  induction hw with
  | eq x y => simp [cnt, eqF, twos]
  | neg f hf ih =>
    simp [cnt, eqF, twos]
    omega
  | two o f g ho hf hg ih1 ih2 =>
    rcases ho with rfl | rfl | rfl <;> simp [cnt, eqF, twos] <;> omega

end Go.Proofs.YtlehlgipbhfioaaGreat.Cn
namespace Go.Proofs.YtlehlgipbhfioaaGreat
theorem cnt_le {f : Fo} (h : WfF f) : (Cn.cnt f).1 ≤ szF f ∧ (Cn.cnt f).2 ≤ (Cn.cnt f).1 := by
  induction h with
  | eq x y => simp [Cn.cnt, szF]
  | neg f hf ih => simp [Cn.cnt, szF]; omega
  | two o f g ho hf hg ih1 ih2 => rcases ho with rfl | rfl | rfl <;> simp [Cn.cnt, szF] <;> omega
end Go.Proofs.YtlehlgipbhfioaaGreat

namespace Go.Proofs.YtlehlgipbhfioaaGreat
open Go.RowKit

/-- Clauses in memory. -/
def Cl2 (w : World) (ca : Option Addr) (cs : List (List Int)) : Prop :=
  cs = [] ∨ ∃ g off, ca = some ⟨g, off, none⟩ ∧ ∀ (i : Nat) (c : List Int), cs[i]? = some c → ∃ a cap, w.cell? ⟨g, off + i, none⟩ = some (.slice a c.length cap) ∧ ClsAt w a c

end Go.Proofs.YtlehlgipbhfioaaGreat

namespace Go.Proofs.YtlehlgipbhfioaaGreat
open Go.RowKit Go.Shelf

theorem es_leaf {t : Lf} (h0 : t.op = 0) : es t = [t] := by
  have hks : t.ks = [] := by simp [Lf.ks, h0]
  unfold es
  rw [wk_end (by rw [hks]; rfl)]
  simp [isEnd, hks]
theorem es_one {t k : Lf} (h0 : ¬ t.op = 0) (hk : t.kids = [k]) : es t = es k ++ [t] := by
  have hks : t.ks = [k] := by simp [Lf.ks, h0, hk]
  unfold es
  rw [wk_one h0 hk, List.filterMap_cons_none (by simp [isEnd, hks]), List.filterMap_append]
  simp [isEnd, hks]
theorem es_two {t a b : Lf} (h0 : ¬ t.op = 0) (hk : t.kids = [a, b]) : es t = es a ++ es b ++ [t] := by
  have hks : t.ks = [a, b] := by simp [Lf.ks, h0, hk]
  unfold es
  rw [wk_two h0 hk, List.filterMap_cons_none (by simp [isEnd, hks]), List.filterMap_append, List.filterMap_cons_none (by simp [isEnd, hks]), List.filterMap_append]
  simp [isEnd, hks]

/-- All Forms of a formula are formulas. -/
theorem es_wf {f : Fo} (hw : WfF f) : ∀ t : Lf, t.er = f → ∀ x ∈ es t, WfF x.er := by
  induction hw with
  | eq x y =>
    intro t ht z hz
    obtain ⟨h1, _, _, _⟩ := Lf.er_kids ht
    rw [es_leaf h1] at hz
    obtain rfl := List.mem_singleton.1 hz
    rw [ht]
    exact .eq x y
  | neg f hf ih =>
    intro t ht z hz
    obtain ⟨h1, _, _, h4⟩ := Lf.er_kids ht
    obtain ⟨k, hk, hke⟩ := map_one h4
    rw [es_one (by rw [h1]; decide) hk] at hz
    rcases List.mem_append.1 hz with hz | hz
    · exact ih k hke z hz
    · obtain rfl := List.mem_singleton.1 hz
      rw [ht]
      exact .neg f hf
  | two o f g ho hf hg ih1 ih2 =>
    intro t ht z hz
    obtain ⟨h1, _, _, h4⟩ := Lf.er_kids ht
    obtain ⟨a, b, hk, ha, hb⟩ := map_two h4
    rw [es_two (by rw [h1]; rcases ho with rfl | rfl | rfl <;> decide) hk] at hz
    rcases List.mem_append.1 hz with hz | hz
    · rcases List.mem_append.1 hz with hz | hz
      · exact ih1 a ha z hz
      · exact ih2 b hb z hz
    · obtain rfl := List.mem_singleton.1 hz
      rw [ht]
      exact .two o f g ho hf hg


/-- What literal answers, and what it leaves. -/
def litG (an : Int × Int → Nat) (x : Lf) (args : List Int) (st : Sc) : Int × Sc :=
  if x.op = 1 then (-(args[0]?.getD 0), st)
  else if x.op = 2 then Cn.both (args[0]?.getD 0) (args[1]?.getD 0) st
  else if x.op = 3 then (-(Cn.both (-(args[0]?.getD 0)) (-(args[1]?.getD 0)) st).1, (Cn.both (-(args[0]?.getD 0)) (-(args[1]?.getD 0)) st).2)
  else if x.op = 4 then (-(Cn.both (args[0]?.getD 0) (-(args[1]?.getD 0)) st).1, (Cn.both (args[0]?.getD 0) (-(args[1]?.getD 0)) st).2)
  else ((an (x.x, x.y) : Int), st)

/-- One Form further. -/
def stepL (an : Int × Int → Nat) (s : List Int × Sc) (x : Lf) : List Int × Sc :=
  (s.1.take (s.1.length - x.ks.length) ++ [(litG an x (s.1.drop (s.1.length - x.ks.length)) s.2).1], (litG an x (s.1.drop (s.1.length - x.ks.length)) s.2).2)

theorem stepL_app (an : Int × Int → Nat) (vs args : List Int) (st : Sc) (x : Lf) (h : args.length = x.ks.length) : stepL an (vs ++ args, st) x = (vs ++ [(litG an x args st).1], (litG an x args st).2) := by
  have e : (vs ++ args).length - x.ks.length = vs.length := by simp; omega
  unfold stepL
  simp only [e, List.take_left', List.drop_left']

theorem es_fold (an : Int × Int → Nat) {f : Fo} (hw : WfF f) : ∀ t : Lf, t.er = f → ∀ (vs : List Int) (st : Sc), (es t).foldl (stepL an) (vs, st) = (vs ++ [(Cn.tse an f st).1], (Cn.tse an f st).2) := by
  induction hw with
  | eq x y =>
    intro t ht vs st
    obtain ⟨h1, h2, h3, _⟩ := Lf.er_kids ht
    have hks : t.ks = [] := by simp [Lf.ks, h1]
    have := stepL_app an vs [] st t (by rw [hks]; rfl)
    rw [List.append_nil] at this
    rw [es_leaf h1, List.foldl_cons, List.foldl_nil, this]
    simp [litG, h1, h2, h3, Cn.tse]
  | neg f hf ih =>
    intro t ht vs st
    obtain ⟨h1, _, _, h4⟩ := Lf.er_kids ht
    obtain ⟨k, hk, hke⟩ := map_one h4
    have h0 : ¬ t.op = 0 := by rw [h1]; decide
    have hks : t.ks = [k] := by simp [Lf.ks, h0, hk]
    rw [es_one h0 hk, List.foldl_append, ih k hke, List.foldl_cons, List.foldl_nil, stepL_app an _ _ _ _ (by rw [hks]; rfl)]
    simp [litG, h1, Cn.tse]
  | two o f g ho hf hg ih1 ih2 =>
    intro t ht vs st
    obtain ⟨h1, _, _, h4⟩ := Lf.er_kids ht
    obtain ⟨a, b, hk, ha, hb⟩ := map_two h4
    have h0 : ¬ t.op = 0 := by rw [h1]; rcases ho with rfl | rfl | rfl <;> decide
    have hks : t.ks = [a, b] := by simp [Lf.ks, h0, hk]
    rw [es_two h0 hk, List.foldl_append, List.foldl_append, ih1 a ha, ih2 b hb, List.foldl_cons, List.foldl_nil, List.append_assoc, stepL_app an vs _ _ _ (by rw [hks]; rfl)]
    rcases ho with rfl | rfl | rfl
    · rw [Cn.tse] <;> simp [litG, h1]
    · rw [Cn.tse] <;> simp [litG, h1]
    · rw [Cn.tse] <;> simp [litG, h1]

/-- Behind the first i Forms. -/
def stC (an : Int × Int → Nat) (t : Lf) (n : Nat) (i : Nat) : List Int × Sc := ((es t).take i).foldl (stepL an) ([], (n, []))
theorem stC_step {an : Int × Int → Nat} {t x : Lf} {n i : Nat} (h : (es t)[i]? = some x) : stC an t n (i + 1) = stepL an (stC an t n i) x := by
  unfold stC
  rw [List.take_add_one, h]
  simp
theorem stC_all (an : Int × Int → Nat) {t : Lf} (hw : WfF t.er) (n : Nat) : stC an t n (es t).length = ([(Cn.tse an t.er (n, [])).1], (Cn.tse an t.er (n, [])).2) := by
  unfold stC
  rw [List.take_length, es_fold an hw t rfl]
  rfl
theorem stC_len (an : Int × Int → Nat) (t : Lf) (n : Nat) : ∀ i, (stC an t n i).1.length = (stV (fun _ _ => ()) t i).length
  | 0 => rfl
  | i + 1 => by
    have ih := stC_len an t n i
    cases h : (es t)[i]? with
    | none =>
      have e1 : stC an t n (i + 1) = stC an t n i := by unfold stC; rw [List.take_add_one, h]; simp
      have e2 : stV (fun _ _ => ()) t (i + 1) = stV (fun _ _ => ()) t i := by unfold stV; rw [List.take_add_one, h]; simp
      rw [e1, e2, ih]
    | some x =>
      rw [stC_step h, (stV_step h).1]
      simp [stepL, foS, ih]
theorem stC_enough {an : Int × Int → Nat} {t x : Lf} {n i : Nat} (h : (es t)[i]? = some x) : x.ks.length ≤ (stC an t n i).1.length := by
  rw [stC_len]
  exact (stV_step h).2

theorem litG_ok {an : Int × Int → Nat} {x : Lf} {args : List Int} {st : Sc} (ha : ∀ v ∈ args, v.natAbs ≤ st.1) (hx : x.op = 0 → an (x.x, x.y) ≤ st.1) (hop : x.op = 0 ∨ x.op = 1 ∨ x.op = 2 ∨ x.op = 3 ∨ x.op = 4) :
    (litG an x args st).1.natAbs ≤ (litG an x args st).2.1 ∧ st.1 ≤ (litG an x args st).2.1 ∧ (litG an x args st).2.1 ≤ st.1 + 1 ∧ (litG an x args st).2.2.length ≤ st.2.length + 3 := by
  have h0 : ∀ j : Nat, (args[j]?.getD 0).natAbs ≤ st.1 := fun j => by
    cases h : args[j]? with
    | none => simp
    | some v => exact ha v (List.mem_of_getElem? h)
  unfold litG
  rcases hop with h | h | h | h | h
  · have := hx h
    simp [h]
    omega
  · have := h0 0
    simp [h] at this ⊢
    omega
  · simp [h, Cn.both]
    omega
  · simp [h, Cn.both]
    omega
  · simp [h, Cn.both]
    omega

theorem wf_op {t : Lf} (h : WfF t.er) : t.op = 0 ∨ t.op = 1 ∨ t.op = 2 ∨ t.op = 3 ∨ t.op = 4 := by
  rw [← Lf.er_op]
  generalize t.er = f at h
  cases h with
  | eq => exact Or.inl rfl
  | neg => exact Or.inr (Or.inl rfl)
  | two o _ _ ho => rcases ho with rfl | rfl | rfl <;> simp [Fo.op]

theorem stC_ok (an : Int × Int → Nat) {t : Lf} (hw : WfF t.er) (n : Nat) (ha : ∀ p ∈ eqF t.er, an p ≤ n) : ∀ i, i ≤ (es t).length → (∀ v ∈ (stC an t n i).1, v.natAbs ≤ (stC an t n i).2.1) ∧ n ≤ (stC an t n i).2.1 ∧ (stC an t n i).2.1 ≤ n + i ∧ (stC an t n i).2.2.length ≤ 3 * i
  | 0, _ => by simp [stC]
  | i + 1, hi => by
    obtain ⟨h1, h2, h3, h4⟩ := stC_ok an hw n ha i (by omega)
    have hx : (es t)[i]? = some (es t)[i] := List.getElem?_eq_getElem (by omega)
    have hm := List.mem_of_getElem? hx
    rw [stC_step hx]
    generalize (es t)[i] = x at *
    have hwx := es_wf hw t rfl x hm
    have hq : x.op = 0 → an (x.x, x.y) ≤ (stC an t n i).2.1 := fun h0 => by
      refine Nat.le_trans (ha _ ?_) h2
      rw [← eqs_er]
      exact List.mem_filterMap.2 ⟨x, hm, by simp [isEq, h0]⟩
    obtain ⟨g1, g2, g3, g4⟩ := litG_ok (an := an) (args := (stC an t n i).1.drop ((stC an t n i).1.length - x.ks.length)) (st := (stC an t n i).2) (fun v hv => h1 v (List.mem_of_mem_drop hv)) hq (wf_op hwx)
    unfold stepL
    refine ⟨fun v hv => ?_, by dsimp only; omega, by dsimp only; omega, by dsimp only; omega⟩
    dsimp only at hv ⊢
    rcases List.mem_append.1 hv with hv | hv
    · have := h1 v (List.mem_of_mem_take hv)
      omega
    · obtain rfl := List.mem_singleton.1 hv
      exact g1

end Go.Proofs.YtlehlgipbhfioaaGreat

namespace Go.Proofs.YtlehlgipbhfioaaGreat
open Go.RowKit Go.Maps

/-- What Why answers. -/
def WhyIs (w : World) (l : List Tm) (ps : List (Int × Int)) (x y : Int) (e : Ending) (w' : World) : Prop :=
  Kept0 w w' ∧ ((cgB l (Wm.prs l.length ps (List.range ps.length)) x y = false ∧ e = .returned (.tuple #[.slice none 0 0, .bool false])) ∨
    (cgB l (Wm.prs l.length ps (List.range ps.length)) x y = true ∧ ∃ (ns : List Nat) (v : Value), e = .returned (.tuple #[v, .bool true]) ∧ w'.ownsRow w.heap.size 3 1 v ns.length (natC ns) ∧ Fits l ps x y ns ∧ ns.length ≤ ps.length))

/-- What Why's loop keeps to. -/
structure Yl (w W : World) (l : List Tm) (ps : List (Int × Int)) (x y : Int) (c : Ks) (needed rest : List Nat) (nv rv : Value) : Prop where
  yz : Yz w W l c (Wm.prs l.length ps needed) needed rest nv rv
  wy : Wm.Wy (Wm.Fol l ps x.toNat y.toNat) needed rest
  ok : ∀ n, n ∈ needed ++ rest → ∃ q, (ps[n]?).bind (Wm.okP l.length) = some q
  few : needed.length + rest.length ≤ ps.length

theorem Yl.next {w W : World} {l : List Tm} {ps : List (Int × Int)} {x y : Int} {c : Ks} {needed rest : List Nat} {nv rv : Value} (h : Yl w W l ps x y c needed rest nv rv) (hx : inB l.length x = true) (hy : inB l.length y = true) (hn : cgB l (Wm.prs l.length ps needed) x y = false) :
    ∃ i n, rest[i]? = some n ∧ cgB l (Wm.prs l.length ps needed ++ Wm.prs l.length ps (rest.take (i + 1))) x y = true ∧ (∀ j, j ≤ i → cgB l (Wm.prs l.length ps needed ++ Wm.prs l.length ps (rest.take j)) x y = false) ∧ Wm.Wy (Wm.Fol l ps x.toNat y.toNat) (needed ++ [n]) (rest.take i) ∧
      (∀ k, k ∈ (needed ++ [n]) ++ rest.take i → ∃ q, (ps[k]?).bind (Wm.okP l.length) = some q) ∧ (needed ++ [n]).length + (rest.take i).length ≤ ps.length := by
  have hF := Wm.fol_mon l ps x.toNat y.toNat
  obtain ⟨i, hi, h1, h2⟩ := h.wy.turn hF (fun e => by rw [(cgB_fol hx hy _).2 e] at hn; cases hn)
  have hfew := h.few
  refine ⟨i, rest[i], List.getElem?_eq_getElem hi, ?_, fun j hj => ?_, h.wy.step hF hi h1 (h2 i (Nat.le_refl _)), fun k hk => h.ok k ?_, by simp; omega⟩
  · rw [← Wm.prs_app]
    exact (cgB_fol hx hy _).2 h1
  · rw [← Wm.prs_app, Bool.eq_false_iff]
    exact fun e => h2 j hj ((cgB_fol hx hy _).1 e)
  · simp only [List.mem_append, List.mem_singleton] at hk ⊢
    rcases hk with (hk | hk) | hk
    · exact .inl hk
    · exact .inr (hk ▸ List.getElem_mem hi)
    · exact .inr (List.mem_of_mem_take hk)

set_option maxHeartbeats 4000000 in
set_option maxRecDepth 100000 in
theorem why_in (w : World) (base p : Nat) (ev : Value) (nb fb : Nat) (l : List Tm) (h : Bk w base p ev nb fb l) (hb : Cc.Bd l) (hl : l.length ≤ 150) (a : Option Addr) (cp : Nat) (ps : List (Int × Int)) (hP : Prw w a ps) (hr : ps.length * 16 ≤ 140737488355328) (x y : Int) :
    Calls Tryz.prog 143 #[.pointer (some ⟨p, 0, none⟩), .slice a ps.length cp, .int .i64 x, .int .i64 y] w (WhyIs w l ps x y) := by
  have EN := enough_in w base p ev nb fb l h hb hl a cp ps hP hr x y
  have hps : ps.length ≤ 8796093022208 := by omega
  cases hB : cgB l (Wm.prs l.length ps (List.range ps.length)) x y
  · have EN' : Calls Tryz.prog 179 #[.pointer (some ⟨p, 0, none⟩), .slice a ps.length cp, .int .i64 x, .int .i64 y] w fun e w' => ∃ va n vc, e = .returned (.tuple #[.slice va n vc, .bool false]) ∧ Kept0 w w' := by
      refine EN.mono ?_
      rintro e w' ⟨ns, v, k, rfl, R, E, hk, hn, K, _⟩
      obtain ⟨va, vc, rfl⟩ := row_form' R
      exact ⟨va, _, vc, by rw [enough_all E hk hn, hB], K⟩
    have HB : Hid _ := hB
    clear h hP hr EN hB
    go_enter Tryz.func143, Tryz.ntmps143
    go_wp2_with (go_at_call 179; refine EN'.mono ?_; rintro e w1 ⟨va, n, vc, rfl, K1⟩)
    go_ret2
    exact ⟨K1, .inl ⟨HB.out, rfl⟩⟩
  · obtain ⟨hx, hy⟩ := cgB_in hB
    have EN' : Calls Tryz.prog 179 #[.pointer (some ⟨p, 0, none⟩), .slice a ps.length cp, .int .i64 x, .int .i64 y] w fun e w' => ∃ (ns : List Nat) (va : Option Addr) (vc : Nat), e = .returned (.tuple #[.slice va ns.length vc, .bool true]) ∧ w'.ownsRow w.heap.size 3 1 (.slice va ns.length vc) ns.length (natC ns) ∧
        Wm.Wy (Wm.Fol l ps x.toNat y.toNat) [] ns ∧ (∀ n, n ∈ ns → ∃ q, (ps[n]?).bind (Wm.okP l.length) = some q) ∧ Kept0 w w' ∧ ns.length ≤ ps.length := by
      refine EN.mono ?_
      rintro e w' ⟨ns, v, k, rfl, R, E, hk, hn, K, hf⟩
      obtain ⟨va, vc, rfl⟩ := row_form' R
      have e1 := enough_all E hk hn
      rw [hB] at e1
      exact ⟨ns, va, vc, by rw [e1], R, .start ((cgB_fol hx hy _).1 e1) E.up, E.ok, K, hf⟩
    have HB : Hid _ := hB
    have HX : Hid (_ ∧ _) := And.intro hx hy
    have HP : Hid (Prw w a ps) := hP
    have HR : Hid (ps.length * 16 ≤ 140737488355328) := hr
    have NC : ∀ W, Kept0 w W → Calls Tryz.prog 5 #[.pointer (some ⟨p, 0, none⟩)] W fun e w' => ∃ c : Ks, e = .returned (.pointer (some ⟨c.pc, 0, none⟩)) ∧ Cl w' W.heap.size l c [] ∧ Kept0 W w' := fun W K => kNew_in W base p ev nb fb l (h.kept0 K) hb hl
    have HN : Hid _ := NC
    obtain ⟨i0, hi0, hz0, hz1, hz2⟩ := info_parts infoIntK
    clear h hP hr EN hB hx hy NC
    go_enter Tryz.func143, Tryz.ntmps143
    go_wp2_with (first | (go_at_call 179; refine EN'.mono ?_; rintro e w1 ⟨ns, va, vc, rfl, R1, Y1, ok1, K1, few1⟩; have NC1 := HN.out w1 K1) | (go_at_call 5; refine NC1.mono ?_; rintro e w2 ⟨c, rfl, C2, K2⟩))
    have L0 : Yl w w2 l ps x y c [] ns (.slice none 0 0) (.slice va ns.length vc) := by
      refine ⟨⟨(C2.base K1.size).fresh, World.ownsRow_nil _ _ _ _, ownsRow_blockC R1 (fun j hj => K2.block j (R1.lt j hj).2 (fun e => e)), fun j hj => by simp [Value.ownBlock] at hj, fun j hj hA => ?_, fun j hj => by simp [Value.ownBlock] at hj, K1.trans K2⟩, Y1, fun n hn => ok1 n hn, by simpa using few1⟩
      have h1 := C2.all_ge hA
      have h2 := (R1.lt j hj).2
      omega
    clear R1 Y1 ok1 K1 few1 C2 K2 EN' NC1
    go_loopw [10, 12] (fun t10 t12 W => ∃ (c' : Ks) (needed rest : List Nat), c'.pc = c.pc ∧ Yl w W l ps x y c' needed rest t12 t10) (fun t10 _ _ => slLenW t10)
    case atStart => exact ⟨c, [], ns, rfl, L0⟩
    case round =>
      clear L0
      obtain ⟨c', needed, rest, hpc, L⟩ := hrel
      obtain ⟨na, nc, hnv⟩ := row_form' L.yz.nrow
      obtain ⟨ra, rc, hrv⟩ := row_form' L.yz.rrow
      subst hnv hrv
      have hfew := L.few
      have SM : Calls Tryz.prog 11 #[.pointer (some ⟨c.pc, 0, none⟩), .int .i64 x, .int .i64 y] wr fun e w' => e = .returned (.bool (cgB l (Wm.prs l.length ps needed) x y)) ∧ Kept0 wr w' := by
        rw [← hpc]
        exact qSame_k wr w.heap.size l c' _ L.yz.cq.cl x y
      cases hc : cgB l (Wm.prs l.length ps needed) x y
      · obtain ⟨i, n, hin, hyes, hno, hWy, hok, hfw⟩ := L.next HX.out.1 HX.out.2 hc
        rw [hc] at SM
        have hil : i < rest.length := (List.getElem?_eq_some_iff.1 hin).1
        obtain ⟨g, hg, hrc⟩ : ∃ g, ra = some ⟨g, 0, none⟩ ∧ rest.length ≤ rc := by
          rcases L.yz.rrow.2 with ⟨_, e2⟩ | ⟨g, c9, cur, e', _, _, h3, _⟩
          · omega
          · simp only [Value.slice.injEq] at e'
            exact ⟨g, e'.1, by rw [e'.2.2]; exact h3⟩
        subst hg
        obtain ⟨q, hq⟩ := hok n (by simp)
        obtain ⟨pr, hpr, hpo⟩ := Option.bind_eq_some_iff.1 hq
        obtain ⟨hpin, _⟩ := okP_some hpo
        have hnl : n < ps.length := (List.getElem?_eq_some_iff.1 hpr).1
        have TN : Hid (∀ W, Kept0 wr W → Calls Tryz.prog 180 #[.pointer (some ⟨c.pc, 0, none⟩), .slice a ps.length cp, .slice (some ⟨g, 0, none⟩) rest.length rc, .int .i64 x, .int .i64 y] W fun e w' => e = .returned (.int .i64 (i : Int)) ∧ ∃ c2 : Ks, c2.pc = c.pc ∧ Yz w w' l c2 (Wm.prs l.length ps needed) needed rest (.slice na needed.length nc) (.slice (some ⟨g, 0, none⟩) rest.length rc)) := fun W K => by
          have Lk := L.yz.kept0 K
          have hpl := Wm.prs_len l.length ps needed
          have hRR := HR.out
          rw [← hpc]
          refine (turn_in W w.heap.size l c' _ Lk.cq a cp ps g rc rest (fun W' K' => ⟨?_, fun j m hj => ?_⟩) (fun m hm => L.ok m (List.mem_append_right _ hm)) x y i hil hyes hno (by omega)).mono ?_
          · exact HP.out.kept0 (Lk.bel.into K' (fun i hi => .inr (Lk.cq.cl.all_ge hi)))
          · have R' := ownsRow_blockC Lk.rrow (fun j hj => K'.block j (Lk.rrow.lt j hj).2 (Lk.farR j hj))
            have hcell := R'.cellAt j (by rw [Nat.mul_one]; exact (List.getElem?_eq_some_iff.1 hj).1)
            rw [natC_get, hj] at hcell
            exact hcell
          · rintro e w' ⟨he, c2, C2, K2, p2, A2⟩
            exact ⟨he, c2, p2, Lk.moved K2 C2 A2⟩
        have CN : Hid (∀ W c2, Yz w W l c2 (Wm.prs l.length ps needed) needed rest (.slice na needed.length nc) (.slice (some ⟨g, 0, none⟩) rest.length rc) → W.cell? ⟨g, i, none⟩ = some (.int .i64 (n : Int))) := fun W c2 Z => by
          have hcell := Z.rrow.cellAt i (by rw [Nat.mul_one]; exact hil)
          rw [natC_get, hin] at hcell
          exact hcell
        obtain ⟨b, off, rfl, hbl, _, _⟩ := HP.out n pr hpr
        have PC : Hid (∀ W, Kept0 w W → W.cell? ⟨b, off + n * 2, none⟩ = some (.int .i64 pr.1) ∧ W.cell? ⟨b, off + n * 2 + 1, none⟩ = some (.int .i64 pr.2)) := fun W K => by
          obtain ⟨b', off', he, _, y1, y2⟩ := HP.out.kept0 K n pr hpr
          cases he
          exact ⟨y1, y2⟩
        have MGX : Hid (∀ W c2 m, c2.pc = c.pc → Yz w W l c2 (Wm.prs l.length ps needed) needed rest (.slice na needed.length nc) (.slice (some ⟨g, 0, none⟩) rest.length rc) → Calls Tryz.prog 7 #[.pointer (some ⟨c.pc, 0, none⟩), .int .i64 pr.1, .int .i64 pr.2] (W.drewN m) fun e W' => (∃ x, e = .returned (.int .i64 x)) ∧ ∃ c3 : Ks, c3.pc = c.pc ∧ Yz w W' l c3 (Wm.prs l.length ps (needed ++ [n])) needed rest (.slice na needed.length nc) (.slice (some ⟨g, 0, none⟩) rest.length rc)) := fun W c2 m h2 Z => by
          have hRR := HR.out
          rw [← h2]
          exact (Z.kept0 ((Kept.refl _ W).drewN m)).tell hpr hpin (by omega)
        have LN : Hid (∀ W c3 v', Yz w W l c3 (Wm.prs l.length ps (needed ++ [n])) (needed ++ [n]) rest v' (.slice (some ⟨g, 0, none⟩) rest.length rc) → Yl w W l ps x y c3 (needed ++ [n]) (rest.take i) v' (.slice (some ⟨g, 0, none⟩) i rc)) := fun W c3 v' Z => ⟨Z.cut i (by omega), hWy, hok, hfw⟩
        have hirc : i ≤ rc := by omega
        clear L hc hpc hyes hno hWy hok hfw hq hpr hpo hpin hin HP HN
        generalize pr.1 = pa at *
        generalize pr.2 = pb at *
        go_wp2_with (first | (go_at_call 11; refine SM.mono ?_; rintro e w3 ⟨rfl, K3⟩; have TN3 := TN.out w3 K3) | (go_at_call 180; refine TN3.mono ?_; rintro e w4 ⟨rfl, c4, hc4, Z4⟩; have cn := CN.out w4 c4 Z4; obtain ⟨y1, y2⟩ := PC.out w4 Z4.bel; have MG := fun m => MGX.out w4 c4 m hc4 Z4; replace Z4 : Hid _ := Z4))
        clear TN3 SM
        go_region_with (go_at_call 7; refine (MG 1).mono ?_; rintro e w5 ⟨⟨x5, rfl⟩, c5, hc5, Z5⟩)
        all_goals
          have R5 := Z5.nrow
          have K5 := Z5.bel
          replace Z5 : Hid _ := Z5
          clear cn y1 y2 MG
          go_wp2_with (at_builtin; go_loud (refine wpList_append_here rfl _ _ 39 rfl w.heap.size 3 i0 _ 1 8 Tryz.underlying39 hi0 hz0 hz1 hz2 rfl (by decide) _ _ (natC needed) rfl (R5.alloc _) ⟨w5.heap.size, 0, none⟩ 1 1 [.int .i64 (n : Int)] rfl rfl (by exact one_newD w5 0 _ _) (by simp [Value.oneCell']) (by unfold maxLen; omega) (by omega) (by have := K5.size; simp; omega) ?_; intro v6 w6 hown6 hgr6 hloc6))
          exact ⟨⟨c5, needed ++ [n], rest.take i, hc5, LN.out w6 c5 v6 (Z5.out.note ((Kept.refl _ w5).alloc _) hown6 hgr6 hloc6)⟩, by simp [slLenW]; omega⟩
      · rw [hc] at SM
        have RV : Hid (∀ W, Kept0 wr W → Calls Tryz.prog 181 #[.slice na needed.length nc] W fun e w' => e = .returned (.tuple #[]) ∧ w'.ownsRow w.heap.size 3 1 (.slice na needed.length nc) needed.length (natC needed.reverse) ∧ Kept0 w w') := fun W K => by
          have Lk := L.yz.kept0 K
          refine (reverse_in W w.heap.size _ needed Lk.nrow (by omega)).mono ?_
          rintro e w' ⟨he, R, KR⟩
          exact ⟨he, R, Lk.bel.into KR (fun j hj => .inr (Lk.nrow.lt j hj).1)⟩
        have FT : Hid (Fits l ps x y needed.reverse) := Fits.of HX.out.1 HX.out.2 L.wy (fun n hn => L.ok n (List.mem_append_left _ hn)) hc
        clear L hc hpc
        go_wp2_with (first | (go_at_call 11; refine SM.mono ?_; rintro e w3 ⟨rfl, K3⟩; have RV3 := RV.out w3 K3) | (go_at_call 181; refine RV3.mono ?_; rintro e w4 ⟨rfl, R4, K4⟩))
        go_ret2
        exact ⟨K4, .inr ⟨HB.out, needed.reverse, .slice na needed.length nc, rfl, by rw [List.length_reverse]; exact R4, FT.out, by rw [List.length_reverse]; omega⟩⟩

end Go.Proofs.YtlehlgipbhfioaaGreat

namespace Go.Proofs.YtlehlgipbhfioaaGreat
open Go.RowKit Go.Shelf

attribute [local go_sem] Oper.semAt_some

theorem store_map (P : Program) (W : World) (a : Addr) (m : Mode) (b : Nat) : (store a (.map (some b)) m).run P W = stored P W a (.map (some b)) m := run_store P W a _ m rfl
attribute [local go_sem] store_map

/-- What Atoms makes before it ranges. -/
def atW (w : World) (op x y : Int) (kv : Value) : World :=
  ((((w.alloc (.cells #[.int .i64 op, .int .i64 x, .int .i64 y, kv] 36)).alloc (.cells #[.slice none 0 0] 109)).alloc (.map #[] 0)).alloc (.cells #[.map (some (w.heap.size + 1 + 1))] 113)).alloc (.cells #[.pointer (some ⟨w.heap.size, 0, none⟩)] 161)

theorem one_rowA (w : World) (v : Value) (ty : TypeId) : (w.alloc (.cells #[v] ty)).rowIs w.heap.size ty 1 (fun _ => v) := World.rowIs.congr (made_row w #[v] ty) (fun j hj => by
  have : j = 0 := by simp at hj; omega
  subst this; rfl)
theorem row_allocA {w : World} {b n : Nat} {f : Nat → Value} {ty : TypeId} (o : Obj) (h : w.rowIs b ty n f) : (w.alloc o).rowIs b ty n f := h.of_block (Below.heap_alloc w o b (World.rowIs.lt h))

theorem atW_at (w : World) (op x y : Int) (kv : Value) (kids : List Lf) (hk : KidsIn kv kids) (hks : ∀ k ∈ kids, Here w k) :
    AtAt w (atW w op x y kv) (.mk w.heap.size 0 op x y kv kids) (.slice none 0 0) [] [] ∧ (atW w op x y kv).rowIs (w.heap.size + 4) 161 1 (fun _ => .pointer (some ⟨w.heap.size, 0, none⟩)) ∧ (atW w op x y kv).heap.size = w.heap.size + 5 := by
  have hz1 : (w.alloc (.cells #[.int .i64 op, .int .i64 x, .int .i64 y, kv] 36)).heap.size = w.heap.size + 1 := by simp
  have hz2 : ((w.alloc (.cells #[.int .i64 op, .int .i64 x, .int .i64 y, kv] 36)).alloc (.cells #[.slice none 0 0] 109)).heap.size = w.heap.size + 2 := by simp
  have hz3 : (((w.alloc (.cells #[.int .i64 op, .int .i64 x, .int .i64 y, kv] 36)).alloc (.cells #[.slice none 0 0] 109)).alloc (.map #[] 0)).heap.size = w.heap.size + 3 := by simp
  have hz4 : ((((w.alloc (.cells #[.int .i64 op, .int .i64 x, .int .i64 y, kv] 36)).alloc (.cells #[.slice none 0 0] 109)).alloc (.map #[] 0)).alloc (.cells #[.map (some (w.heap.size + 1 + 1))] 113)).heap.size = w.heap.size + 4 := by simp
  have hB : Below w.heap.size w (atW w op x y kv) := (((((Below.refl _ w).alloc (Nat.le_refl _) _).alloc (by simp) _).alloc (by simp; omega) _).alloc (by simp; omega) _).alloc (by simp; omega) _
  have K : FKeepA (fun k => k < w.heap.size) w (atW w op x y kv) := fun k _ _ hlt hk => (hB.block k hlt).trans hk
  refine ⟨⟨hB, LayA.mk trivial ?_ hk (fun k hkk => ?_), ?_, ?_, ?_, World.ownsRow_nil _ _ _ _⟩, ?_, by simp [atW]⟩
  · refine ⟨#[.int .i64 op, .int .i64 x, .int .i64 y, kv], (0, 0), ?_, rfl, rfl, rfl, rfl, rfl⟩
    unfold atW
    rw [Below.heap_alloc _ _ _ (by simp; omega), Below.heap_alloc _ _ _ (by simp; omega), Below.heap_alloc _ _ _ (by simp; omega), Below.heap_alloc _ _ _ (by simp)]
    exact World.alloc_heap_new w _
  · exact ((hks k hkk).lt.mono (fun _ h => h.2)).keep K |>.mono (fun _ _ => trivial)
  · exact row_allocA _ (row_allocA _ (row_allocA _ (hz1 ▸ one_rowA _ (.slice none 0 0) 109)))
  · exact row_allocA _ (hz3 ▸ one_rowA _ (.map (some (w.heap.size + 1 + 1))) 113)
  · have := CntIs.new ((w.alloc (.cells #[.int .i64 op, .int .i64 x, .int .i64 y, kv] 36)).alloc (.cells #[.slice none 0 0] 109))
    rw [hz2] at this
    refine this.keep ?_
    unfold atW
    rw [Below.heap_alloc _ _ _ (by simp), Below.heap_alloc _ _ _ (by simp)]
  · exact hz4 ▸ one_rowA _ (.pointer (some ⟨w.heap.size, 0, none⟩)) 161

set_option maxRecDepth 100000 in
set_option maxHeartbeats 6000000 in
theorem atoms_in (w : World) (op x y : Int) (kv : Value) (kids : List Lf) (hk : KidsIn kv kids) (hks : ∀ k ∈ kids, Here w k)
    (hN : (wk (.mk w.heap.size 0 op x y kv kids) 0).length * 16 ≤ 140737488355328) (hR : ∀ p ∈ eqs (.mk w.heap.size 0 op x y kv kids), P64 p) :
    Calls Tryz.prog 78 #[.agg #[.int .i64 op, .int .i64 x, .int .i64 y, kv]] w fun e w' => ∃ v, e = .returned v ∧ w'.ownsRow w.heap.size 34 2 v (ats (eqs (.mk w.heap.size 0 op x y kv kids))).length (pairC (ats (eqs (.mk w.heap.size 0 op x y kv kids)))) ∧ Below w.heap.size w w' := by
  obtain ⟨F3, b3, hz3⟩ := atW_at w op x y kv kids hk hks
  obtain ⟨t, ht⟩ : ∃ t, t = Lf.mk w.heap.size 0 op x y kv kids := ⟨_, rfl⟩
  rw [← ht] at F3 hN hR ⊢
  have hb3 : (atW w op x y kv).rowIs (w.heap.size + 4) 161 1 (fun _ => .pointer (some ⟨t.b, t.o, none⟩)) := by rw [ht]; exact b3
  clear ht b3
  obtain ⟨ka, kc, rfl, hk2⟩ := hk
  have hmm := @run_makeMap Tryz.prog
  refine (callsIn_wide (n := 9)).1 ?_
  refine callsIn_of_wp_marks Tryz.func78 rfl trivial ?_ rfl
  simp only [Tryz.ntmps78, List.size_toArray, List.length_cons, List.length_nil, Nat.reduceAdd, Nat.reduceSub, Array.replicate_succ, Array.replicate_zero, List.push_toArray, List.append_toArray, List.nil_append, List.cons_append]
  gi_wp2_with (first | (refine ⟨trivial, ?_⟩; gi_at_call 121; refine (callsIn_wide.2 (equs_in _ _)).mono ?_; rintro e w5 ⟨rfl, rfl⟩) | (gi_at_call 121; refine (callsIn_wide.2 (equs_in _ _)).mono ?_; rintro e w5 ⟨rfl, rfl⟩))
  unfold atW at F3 hb3 hz3
  generalize (((((w.alloc (Obj.cells #[.int .i64 op, .int .i64 x, .int .i64 y, .slice ka kids.length kc] 36)).alloc (Obj.cells #[.slice none 0 0] 109)).alloc (Obj.map #[] 0)).alloc (Obj.cells #[.map (some (w.heap.size + 1 + 1))] 113)).alloc (Obj.cells #[.pointer (some ⟨w.heap.size, 0, none⟩)] 161)) = w3 at F3 hb3 hz3 ⊢
  rw [show w.heap.size + 1 + 1 + 1 + 1 = w.heap.size + 4 from rfl, show w.heap.size + 1 + 1 + 1 = w.heap.size + 3 from rfl, show w.heap.size + 1 + 1 = w.heap.size + 2 from rfl]
  clear hks hk2 hmm
  refine rangeTB (by decide : 1 ≤ 9) (gf := 159) (lb := #[.pointer (some ⟨w.heap.size + 4, 0, none⟩)]) rfl (enters_of Tryz.func159 (by kernel_rfl) rfl) (equs1_in 8 (by decide) (w.heap.size + 4) t w3 hb3 F3.here hN) (Below.refl _ _) (fun _ => rfl)
    (fun i W => ∃ v, AtAt w W t v ((eqs t).take i) (ats ((eqs t).take i)))
    ?hI ?h0 (fun p s => { tmps := #[.agg #[.int .i64 op, .int .i64 x, .int .i64 y, .slice ka kids.length kc], .pointer (some ⟨w.heap.size, 0, none⟩), .slice none 0 0, .pointer (some ⟨w.heap.size + 1, 0, none⟩), .pointer (some ⟨w.heap.size + 3, 0, none⟩), .pointer (some ⟨s, 0, none⟩), .map (some (w.heap.size + 2)), .func (.func 159) #[] #[.pointer (some ⟨w.heap.size + 4, 0, none⟩)], .agg #[.int .i64 p.1, .int .i64 p.2], undef, undef, undef, undef, undef, undef, undef, undef, undef, undef, undef, undef, undef, undef, undef], defers := [] })
    (fun p => .cells #[.int .i64 p.1, .int .i64 p.2] 34) (fun p => ⟨rfl, by rintro ⟨c, ty, fz, e, e'⟩; cases e; cases e'⟩) ?assign ?body ?done
  case hI =>
    rintro i A B ⟨v, h⟩ hO
    exact ⟨v, h.ow hO (by omega)⟩
  case h0 => exact ⟨_, F3⟩
  case assign =>
    intro l2 p W1 K hw1 hK
    unfold encP
    gi_wp2
    exact hK _ (Ow.alloc _ _) (Kr.alloc _ _) (World.alloc_heap_new _ _)
  case body =>
    rintro l2 i s p W1 hx hs hc ⟨v, h⟩
    have hp : P64 p := hR p (List.mem_of_getElem? hx)
    have hlt := (List.getElem?_eq_some_iff.1 hx).1
    have hel : (eqs t).length ≤ 8796093022208 := by
      have h1 : (eqs t).length ≤ (es t).length := List.length_filterMap_le _ _
      have h2 : (es t).length ≤ (wk t 0).length := List.length_filterMap_le isEnd (wk t 0)
      omega
    have htk : (eqs t).take (i + 1) = (eqs t).take i ++ [p] := by rw [List.take_add_one, hx]; rfl
    have htl : ((eqs t).take i).length < 8796093022208 := by rw [List.length_take]; omega
    rw [htk]
    clear htk hlt
    generalize (eqs t).take i = l at h htl ⊢
    obtain ⟨v0, st, Wa, Wb, hME, hES, hC, hK1, hLK1⟩ := (CntIs.keep h.cnt rfl : CntIs W1.drew (w.heap.size + 2) l).inc hp (by omega)
    have hLK := (CntIs.keep h.cnt rfl : CntIs W1.drew (w.heap.size + 2) l).look hp
    have hLK2 := hC.look hp
    have hcl : l.count p ≤ l.length := List.count_le_length
    have hmem : l.count p = 0 ↔ p ∉ ats l := by rw [mem_ats, List.count_eq_zero]
    have hcnt : (l ++ [p]).count p = l.count p + 1 := by rw [List.count_append]; simp
    rw [hcnt] at hLK2
    simp only [pairV, goInt] at hME hES hLK hLK2 hLK1
    have hwr : IntKind.i64.wrap ((l.count p : Int) + 1) = ((l.count p + 1 : Nat) : Int) := by
      rw [show (l.count p : Int) + 1 = ((l.count p + 1 : Nat) : Int) by omega]
      exact wrap_small _ (by omega) (by omega)
    have c0 : W1.cell? ⟨s, 0, none⟩ = some (.int .i64 p.1) := by simp [World.cell?, hc]
    have c1 : W1.cell? ⟨s, 1, none⟩ = some (.int .i64 p.2) := by simp [World.cell?, hc]
    have c4 := h.mbox.cell (i := 0) (by omega)
    rw [show ((l.count p + 1 : Nat) : Int) = (l.count p : Int) + 1 by omega] at hES hLK2 hwr
    obtain ⟨va, vc, hv⟩ := row_form h.row
    subst hv
    have hsz := h.box.lt
    have hsl : s < W1.heap.size := (Array.getElem?_eq_some_iff.1 hc).1
    have nm : ∀ k, k < W1.heap.size → k ≠ w.heap.size + 2 → Wb.heap[k]? = W1.heap[k]? := fun k hk hne => hK1.block k hk hne
    have d0 : Wb.cell? ⟨s, 0, none⟩ = some (.int .i64 p.1) := (World.cell?_of_block (nm s hsl (by omega))).trans c0
    have d1 : Wb.cell? ⟨s, 1, none⟩ = some (.int .i64 p.2) := (World.cell?_of_block (nm s hsl (by omega))).trans c1
    have d4 : Wb.cell? ⟨w.heap.size + 3, 0, none⟩ = some (.map (some (w.heap.size + 2))) := (World.cell?_of_block (nm (w.heap.size + 3) h.mbox.lt (by omega))).trans c4
    have d3 : Wb.cell? ⟨w.heap.size + 1, 0, none⟩ = some (.slice va (ats l).length vc) := (World.cell?_of_block (nm (w.heap.size + 1) hsz (by omega))).trans (h.box.cell (i := 0) (by omega))
    have A0 : AtAt w W1.drew t (.slice va (ats l).length vc) l (ats l) := h.ow (Ow.drewN (B := w.heap.size + 4) W1 1) (by omega)
    have A1 : AtAt w Wb t (.slice va (ats l).length vc) (l ++ [p]) (ats l) := A0.inc hK1 hC
    have Kr1 : Kr WTy w3.heap.size W1 Wb := ⟨hK1.size, fun k o hk ho => (nm k (Array.getElem?_eq_some_iff.1 hk).1 (by
      rintro rfl
      obtain ⟨es, ck, e⟩ := h.cnt.lt
      rw [e] at hk
      cases hk
      rcases ho with ho | ho
      · omega
      · have := ho.isCells
        cases this)).trans hk⟩
    have hh : Hid (_ ∧ _) := And.intro A1 Kr1
    have hcl2 := ats_len l
    have hS := ats_snoc l p
    have hw3 : w.heap.size ≤ Wb.heap.size := by have := A1.below.size; omega
    have hrow := A1.row
    have hbz := A1.box.lt
    generalize l.count p = c at *
    clear hcnt h hK1 hC A0 A1 Kr1 hc nm hR hN
    by_cases h0 : c = 0
    · have hbq : ((c : Int) + 1 == 1) = true := by simp [h0]
      rw [if_neg (hmem.1 h0)] at hS
      rw [hS]
      obtain ⟨i0, hi0, hz0, hz1, hz2⟩ := info_parts infoPairA
      have hd : Hid (c = 0 ∧ _) := And.intro h0 hS
      clear h0 hS hmem
      gi_wp2
      refine region_round (by kernel_rfl) (by rintro ⟨_, _, hh⟩; exact hh) ?_
      refine any_of W1 ?_
      go_region_law (first | (refine redirect (by assumption) ?_))
      all_goals
        try simp only [Act.put, List.getElem_toArray, List.getElem_cons_succ, List.getElem_cons_zero, List.setIfInBounds_toArray, List.set_cons_succ, List.set_cons_zero]
        clear hME hES hLK1 hLK
        gi_wp2_with (first | (gi_at_builtin; refine Aside.out ?_))
        delta Aside
        refine wpListIn_append_own _ rfl _ _ 109 rfl w.heap.size 34 i0 _ 2 16 Tryz.underlying109 hi0 hz0 hz1 hz2 rfl (by decide) _ _ _ rfl (hrow.alloc _) ⟨_, 0, none⟩ 1 1 [.int .i64 p.1, .int .i64 p.2] rfl rfl (cell_twos Wb _ _ _) (by simp [Value.oneCell']) (by unfold maxLen; omega) (by omega) (by simp; omega) ?_
        intro v8 w8 hown8 hgrow8 _
        obtain ⟨A1, K1⟩ := hh.out
        obtain ⟨b8, f8⟩ := A1.box8 hgrow8
        obtain ⟨g8, cap8, hv8⟩ := ownsRow_succ hown8
        obtain ⟨P1, P2, P3⟩ := A1.push rfl hown8 hgrow8
        subst hv8
        have hP : Hid (_ ∧ _ ∧ _) := And.intro P1 (And.intro P2 P3)
        clear P1 P2 P3 A1 hown8 hgrow8
        gi_wp2
        obtain ⟨P1, P2, P3⟩ := hP.out
        refine ⟨K1.trans ⟨P3, fun k o hk ho => P2 k o hk (ho.imp (fun x => x.2) ?_)⟩, _, P1⟩
        rintro ⟨c, ty, fz, e, hty⟩
        refine ⟨c, ty, fz, e, ?_⟩
        rcases hty with rfl | rfl | rfl | rfl | rfl <;> exact ⟨by decide, by decide⟩
    · have hbq : ((c : Int) + 1 == 1) = false := by simp; omega
      rw [if_pos (by have := mt hmem.2 h0; simpa using this)] at hS
      rw [hS]
      clear hS hmem
      gi_wp2
      refine region_round (by kernel_rfl) (by rintro ⟨_, _, hh⟩; exact hh) ?_
      refine any_of W1 ?_
      go_region_law (first | (refine redirect (by assumption) ?_))
      all_goals
        try simp only [Act.put, List.getElem_toArray, List.getElem_cons_succ, List.getElem_cons_zero, List.setIfInBounds_toArray, List.set_cons_succ, List.set_cons_zero]
        gi_wp2
        obtain ⟨A1, K1⟩ := hh.out
        exact ⟨K1, _, A1⟩
  case done =>
    rintro D W3 hD ⟨v, h⟩ hK
    rw [List.take_length] at h
    have c5 := h.box.cell (i := 0) (by omega)
    obtain ⟨va, vc, hv⟩ := row_form h.row
    subst hv
    have hBl := h.below
    have hrw := h.row
    clear h
    gi_wp2
    refine ⟨by simp, .inl ⟨_, _, rfl, run_takeDeferred hK, ?_⟩⟩
    have hrw2 := (Ow.putObj (ty := 335) (B := w.heap.size) (.deferred none) (by omega) hK rfl).ownsRowA (by decide) hrw
    refine ⟨_, results_tmp rfl _ _ _, ?_⟩
    exact ⟨_, rfl, hrw2, hBl.trans (belowK_b (w := w) (Nat.le_refl _) W3 D _ _ (by omega) hK rfl rfl)⟩

end Go.Proofs.YtlehlgipbhfioaaGreat
