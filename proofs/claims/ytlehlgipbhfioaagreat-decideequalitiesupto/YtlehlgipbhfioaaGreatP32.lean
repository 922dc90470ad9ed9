/- Package logic: Show: what it writes at a Form; isUnequal, signAt. Package logic: Show: what it goes round with. Formulas, plainly: how many steps, which equalities, which text. -/
import Derived.Test.YtlehlgipbhfioaaGreatLoP
import Derived.Test.YtlehlgipbhfioaaGreatP19
import Derived.OrdersHeld
import Derived.Deep.RegionHeld3
import Derived.Test.YtlehlgipbhfioaaGreatLoX
namespace Go.Proofs.YtlehlgipbhfioaaGreat
open Go.RowKit Go.Shelf

/-- A Not of one Equal. -/
def isUn (x : Lf) : Bool := x.op == 1 && (match x.kids with
  | [k] => k.op == 0
  | _ => false)
/-- What stands behind d Kids. -/
def sgnA (x : Lf) (d : Nat) : List UInt8 :=
  if x.op = 1 then (if d = 0 then [33] else []) else if d = 0 then [40] else if d = x.kids.length then [41] else if x.op = 2 then [38] else if x.op = 3 then [124] else if x.op = 4 then [45, 62] else [63]

end Go.Proofs.YtlehlgipbhfioaaGreat

namespace Go.Proofs.YtlehlgipbhfioaaGreat
open Go.RowKit Go.Shelf

def ofB (l : List UInt8) : ByteArray := ⟨l.toArray⟩
theorem ofB_size (l : List UInt8) : (ofB l).size = l.length := by
  show l.toArray.size = l.length
  simp
theorem cat_len {a c : List UInt8} {x y : ByteArray} {N : Nat} (h : (a ++ (x.data.toList ++ c ++ y.data.toList)).length ≤ N) : a.length + (x.size + c.length + y.size) ≤ N := by
  rw [List.length_append, List.length_append, List.length_append, Array.length_toList, Array.length_toList] at h
  exact h
theorem ofB_cells (l : List UInt8) : Lib.strCells (ofB l) = Lib.byteCells l := by
  rw [Lib.strCells_eq]
  rfl
/-- What the program has written, and the sign it keeps for the next equality. -/
abbrev Sh := List UInt8 × List UInt8
def shS (l : List Tm) (s : Sh) (x : Lf × Nat) : Sh :=
  if x.1.op = 0 then (s.1 ++ ((shwB l x.1.x).data.toList ++ s.2 ++ (shwB l x.1.y).data.toList), [61])
  else if isUn x.1 && x.2 == 0 then (s.1, [33, 61])
  else (s.1 ++ sgnA x.1 x.2, s.2)
def shG (l : List Tm) (xs : List (Lf × Nat)) : Sh := xs.foldl (shS l) ([], [61])

end Go.Proofs.YtlehlgipbhfioaaGreat

namespace Go.Proofs.YtlehlgipbhfioaaGreat

/-- Formulas as they are read. -/
inductive WfF : Fo → Prop where
  | eq (x y : Int) : WfF (.mk 0 x y [])
  | neg (f : Fo) : WfF f → WfF (.mk 1 0 0 [f])
  | two (o : Int) (f g : Fo) : (o = 2 ∨ o = 3 ∨ o = 4) → WfF f → WfF g → WfF (.mk o 0 0 [f, g])

def Fo.op : Fo → Int | .mk op _ _ _ => op
/-- How many steps lead through one. -/
def szF : Fo → Nat
  | .mk op _ _ kids => if op = 0 then 1 else 1 + kids.length + (kids.map szF).sum
/-- Its equalities. -/
def eqF : Fo → List (Int × Int)
  | .mk op x y kids => if op = 0 then [(x, y)] else (kids.map eqF).flatten
def opS (o : Int) : List UInt8 := if o = 2 then [38] else if o = 3 then [124] else [45, 62]
/-- Its text, with this sign for an equality. -/
def shF (l : List Tm) (g : List UInt8) : Fo → List UInt8
  | .mk 0 x y _ => (shwB l x).data.toList ++ g ++ (shwB l y).data.toList
  | .mk _ _ _ [k] => if k.op = 0 then shF l [33, 61] k else 33 :: shF l [61] k
  | .mk o _ _ [a, b] => 40 :: (shF l [61] a ++ opS o ++ shF l [61] b ++ [41])
  | _ => []

theorem Lf.er_op (t : Lf) : t.er.op = t.op := by cases t; simp [Lf.er, Fo.op, Lf.op]
theorem Lf.er_kids {t : Lf} {op x y : Int} {ks : List Fo} (h : t.er = .mk op x y ks) : t.op = op ∧ t.x = x ∧ t.y = y ∧ t.kids.map Lf.er = ks := by
  cases t
  simp [Lf.er] at h
  exact h

theorem sum_wk (t : Lf) (n : Nat) : ∀ d, n = t.ks.length - d → d ≤ t.ks.length → (wk t d).length = 1 + (t.ks.length - d) + ((t.ks.drop d).map fun k => (wk k 0).length).sum := by
  induction n with
  | zero =>
    intro d hn hd
    have : t.ks[d]? = none := List.getElem?_eq_none (by omega)
    rw [wk_end this, List.drop_eq_nil_of_le (by omega), ← hn]
    rfl
  | succ n ih =>
    intro d hn hd
    have hlt : d < t.ks.length := by omega
    rw [wk_step (List.getElem?_eq_getElem hlt), List.length_cons, List.length_append, ih (d + 1) (by omega) (by omega), List.drop_eq_getElem_cons hlt, List.map_cons, List.sum_cons]
    omega
theorem len_wk (t : Lf) : (wk t 0).length = szF t.er := by
  have h0 := sum_wk t t.ks.length 0 (by omega) (by omega)
  rw [h0]
  obtain ⟨b, o, op, x, y, kv, kids⟩ := t
  rw [Lf.er, szF]
  by_cases h : op = 0
  · have : (Lf.mk b o op x y kv kids).ks = [] := by simp [Lf.ks, Lf.op, h]
    rw [this, if_pos h]
    rfl
  · have hks : (Lf.mk b o op x y kv kids).ks = kids := by simp [Lf.ks, Lf.op, Lf.kids, h]
    rw [hks, if_neg h, List.drop_zero, List.map_map, List.length_map]
    have : (kids.map fun k => (wk k 0).length) = kids.map (szF ∘ Lf.er) := List.map_congr_left (fun k hk => len_wk k)
    rw [this]
    omega
termination_by t
decreasing_by
  have := List.sizeOf_lt_of_mem hk
  simp
  omega

theorem eqs_wk (t : Lf) (n : Nat) : ∀ d, n = t.ks.length - d → d ≤ t.ks.length → ((wk t d).filterMap isEnd).filterMap isEq = ((t.ks.drop d).map fun k => ((wk k 0).filterMap isEnd).filterMap isEq).flatten ++ (isEq t).toList := by
  induction n with
  | zero =>
    intro d hn hd
    have hde : d = t.ks.length := by omega
    have : t.ks[d]? = none := List.getElem?_eq_none (by omega)
    rw [wk_end this, List.drop_eq_nil_of_le (by omega)]
    have he : isEnd (t, d) = some t := by simp [isEnd, hde]
    rw [List.filterMap_cons_some he, List.filterMap_nil]
    cases h : isEq t with
    | none => simp [h]
    | some y => simp [h]
  | succ n ih =>
    intro d hn hd
    have hlt : d < t.ks.length := by omega
    have he : isEnd (t, d) = none := by simp [isEnd]; omega
    rw [wk_step (List.getElem?_eq_getElem hlt), List.filterMap_cons_none he, List.filterMap_append, List.filterMap_append, ih (d + 1) (by omega) (by omega), List.drop_eq_getElem_cons hlt, List.map_cons, List.flatten_cons, List.append_assoc]
theorem eqs_er (t : Lf) : eqs t = eqF t.er := by
  have h0 := eqs_wk t t.ks.length 0 (by omega) (by omega)
  unfold eqs es
  rw [h0]
  obtain ⟨b, o, op, x, y, kv, kids⟩ := t
  rw [Lf.er, eqF]
  by_cases h : op = 0
  · have : (Lf.mk b o op x y kv kids).ks = [] := by simp [Lf.ks, Lf.op, h]
    rw [this, if_pos h]
    simp [isEq, Lf.op, Lf.x, Lf.y, h]
  · have hks : (Lf.mk b o op x y kv kids).ks = kids := by simp [Lf.ks, Lf.op, Lf.kids, h]
    have hq : isEq (Lf.mk b o op x y kv kids) = none := by simp [isEq, Lf.op, h]
    rw [hks, if_neg h, List.drop_zero, List.map_map, hq]
    have : (kids.map fun k => ((wk k 0).filterMap isEnd).filterMap isEq) = kids.map (eqF ∘ Lf.er) := List.map_congr_left (fun k hk => eqs_er k)
    rw [this]
    simp
termination_by t
decreasing_by
  have := List.sizeOf_lt_of_mem hk
  simp
  omega

theorem map_one {α β : Type} {f : α → β} {xs : List α} {b : β} (h : xs.map f = [b]) : ∃ a, xs = [a] ∧ f a = b := by
  match xs, h with
  | [a], h => exact ⟨a, rfl, by simpa using h⟩
theorem map_two {α β : Type} {f : α → β} {xs : List α} {b c : β} (h : xs.map f = [b, c]) : ∃ a a', xs = [a, a'] ∧ f a = b ∧ f a' = c := by
  match xs, h with
  | [a, a'], h => exact ⟨a, a', rfl, by simpa using h⟩

theorem wk_one {t k : Lf} (h0 : ¬ t.op = 0) (hk : t.kids = [k]) : wk t 0 = (t, 0) :: (wk k 0 ++ [(t, 1)]) := by
  have hks : t.ks = [k] := by simp [Lf.ks, h0, hk]
  rw [wk_step (k := k) (by rw [hks]; rfl), wk_end (t := t) (d := 0 + 1) (by rw [hks]; rfl)]
theorem wk_two {t a b : Lf} (h0 : ¬ t.op = 0) (hk : t.kids = [a, b]) : wk t 0 = (t, 0) :: (wk a 0 ++ ((t, 1) :: (wk b 0 ++ [(t, 2)]))) := by
  have hks : t.ks = [a, b] := by simp [Lf.ks, h0, hk]
  rw [wk_step (k := a) (by rw [hks]; rfl), wk_step (t := t) (k := b) (d := 0 + 1) (by rw [hks]; rfl), wk_end (t := t) (d := 0 + 1 + 1) (by rw [hks]; rfl)]

theorem sh_wk (l : List Tm) {f : Fo} (hf : WfF f) : ∀ (t : Lf), t.er = f → ∀ (o g : List UInt8), (f.op = 0 ∨ g = [61]) → (wk t 0).foldl (shS l) (o, g) = (o ++ shF l g f, [61]) := by
  induction hf with
  | eq x y =>
    intro t ht o g _
    obtain ⟨h1, h2, h3, h4⟩ := Lf.er_kids ht
    have hks : t.ks[0]? = none := by simp [Lf.ks, h1]
    rw [wk_end hks]
    simp [shS, h1, h2, h3, shF]
  | neg f _ ih =>
    intro t ht o g hg
    obtain ⟨h1, h2, h3, h4⟩ := Lf.er_kids ht
    obtain ⟨k, hk, hke⟩ := map_one h4
    have h0 : ¬ t.op = 0 := by rw [h1]; decide
    have hg' : g = [61] := hg.resolve_left (by simp [Fo.op])
    subst hg'
    rw [wk_one h0 hk, List.foldl_cons, List.foldl_append]
    by_cases hz : f.op = 0
    · have hu : isUn t = true := by
        have : k.op = 0 := by rw [← Lf.er_op, hke]; exact hz
        simp [isUn, h1, hk, this]
      have s1 : shS l (o, [61]) (t, 0) = (o, [33, 61]) := by simp [shS, h0, hu]
      rw [s1, ih k hke o [33, 61] (Or.inl hz), List.foldl_cons, List.foldl_nil]
      simp [shS, hu, sgnA, h1, shF, hz]
    · have hu : isUn t = false := by
        have : ¬ k.op = 0 := by rw [← Lf.er_op, hke]; exact hz
        simp [isUn, hk, this]
      have s1 : shS l (o, [61]) (t, 0) = (o ++ [33], [61]) := by simp [shS, hu, sgnA, h1]
      rw [s1, ih k hke (o ++ [33]) [61] (Or.inr rfl), List.foldl_cons, List.foldl_nil]
      simp [shS, hu, sgnA, h1, shF, hz]
  | two op f g hop _ _ ih1 ih2 =>
    intro t ht o s hs
    obtain ⟨h1, h2, h3, h4⟩ := Lf.er_kids ht
    obtain ⟨a, b, hk, ha, hb⟩ := map_two h4
    have h0 : ¬ t.op = 0 := by rw [h1]; rcases hop with rfl | rfl | rfl <;> decide
    have hop0 : ¬ op = 0 := by rcases hop with rfl | rfl | rfl <;> decide
    have hop1 : ¬ t.op = 1 := by rw [h1]; rcases hop with rfl | rfl | rfl <;> decide
    have hs' : s = [61] := hs.resolve_left (by simpa [Fo.op] using hop0)
    subst hs'
    have hu : isUn t = false := by simp [isUn, hop1]
    have s1 : shS l (o, [61]) (t, 0) = (o ++ [40], [61]) := by simp [shS, h0, hu, sgnA, hop1]
    have s2 : ∀ x, shS l (x, [61]) (t, 1) = (x ++ opS op, [61]) := by
      intro x
      simp only [shS, h0, hu, sgnA, hop1, hk, if_false, Bool.false_and, Bool.false_eq_true]
      rcases hop with rfl | rfl | rfl <;> simp [h1, opS]
    have s3 : ∀ x, shS l (x, [61]) (t, 2) = (x ++ [41], [61]) := by
      intro x
      simp [shS, h0, hu, sgnA, hop1, hk]
    rw [wk_two h0 hk, List.foldl_cons, s1, List.foldl_append, ih1 a ha _ _ (Or.inr rfl), List.foldl_cons, s2, List.foldl_append, ih2 b hb _ _ (Or.inr rfl), List.foldl_cons, List.foldl_nil, s3]
    have : shF l [61] (.mk op 0 0 [f, g]) = 40 :: (shF l [61] f ++ opS op ++ shF l [61] g ++ [41]) := by
      rcases hop with rfl | rfl | rfl <;> simp [shF]
    rw [this]
    simp

theorem shG_er (l : List Tm) {t : Lf} (hf : WfF t.er) : (shG l (wk t 0)).1 = shF l [61] t.er := by
  unfold shG
  rw [sh_wk l hf t rfl [] [61] (Or.inr rfl)]
  simp

theorem shS_len (l : List Tm) (s : Sh) (x : Lf × Nat) : s.1.length ≤ (shS l s x).1.length := by
  unfold shS
  split
  · simp
  · split
    · exact Nat.le_refl _
    · simp
theorem foldl_len (l : List Tm) (xs : List (Lf × Nat)) : ∀ s, s.1.length ≤ (xs.foldl (shS l) s).1.length := by
  induction xs with
  | nil => intro s; exact Nat.le_refl _
  | cons x xs ih => intro s; exact Nat.le_trans (shS_len l s x) (ih _)
theorem shG_take (l : List Tm) (xs : List (Lf × Nat)) (i : Nat) : (shG l (xs.take i)).1.length ≤ (shG l xs).1.length := by
  have h : shG l xs = (xs.drop i).foldl (shS l) (shG l (xs.take i)) := by
    unfold shG
    rw [← List.foldl_append, List.take_append_drop]
  rw [h]
  exact foldl_len l _ _

end Go.Proofs.YtlehlgipbhfioaaGreat
