/- Formulas, plainly and in memory, whichever package they are of. strings.Builder's String at this program, laid by the kit's own tool, in plain words. The plain mathematics of package find: trees with a least number, and joins that can be taken back. No Go here. The document's Eval. A row of numbers of one's own. The document's Eval, whole. slices.Sort's contract at this program, laid by the kit's own tool, in plain words. The statements' Same: of a Form that is the document's. Package find, the functions that only read: has, root, Count, Mark, Least, Same. Package find: hang. internal/stringslite.Clone's contract at this program, by the kit's shelf; strings.Clone. strings.Builder at this program: copyCheck, WriteByte, WriteString. Ranges over a function whose elements come in an order that is known: the body is asked at the next one alone. Package sat: literals and variables. Ranges over a function whose loop variable lies in cells of its own, made anew in each round. Memory that is known to the cell: a list of blocks with their types and cells, each block once. Package sat: the search plainly, as long as no conflict comes above level 0; and how it lies in memory. Package sat: where a search lies: each part in a block of its own. Package sat: assign. Package term: the reader's small functions: skipBlanks, isLetter, isDigit. -/
import Derived.Test.YtlehlgipbhfioaaGreatProg
import Derived.Shelf.Strings.BuilderK
import Derived.WalkKit
import Derived.WalkSpells
import Derived.WalkLawsBesides
import Derived.Deep.OwnRows
import Derived.Deep.LoopGhost
import Derived.Deep.QuietTactic
import Derived.BigRegion
import Derived.BigQuiet
import Derived.Deep.RegionWith
import Derived.Below
import Derived.Shelf.Sort.Plain
import Derived.Deep.CutRange
import Derived.Laws.Bits64
import Derived.Test.YtlehlgipbhfioaaGreatRows
import Derived.Shelf.LaysM
import Derived.Shelf.Strconv.Clone
import Derived.Lib.FrozenHead2
import Derived.Lib.OthersKept
import Derived.Lib.Builder
import Derived.RangeFuncNested
import Derived.RangeFuncBound
import Derived.RangeFuncCalls
import Derived.RangeFuncLeaves
import Derived.Shelf.Abstract
import Derived.Shelf.RegionOpen
import Derived.OwnWalkIn
import Derived.TacticsInMore
import Derived.LoopNIn
import Derived.LoopIn
import Derived.Laws.BitsAllLaws
import Derived.Maps.AppendAt
import Derived.RangeFuncRecord
import Derived.Deep.DeepCutAuto
namespace Go.Proofs.YtlehlgipbhfioaaGreat

/-- A Form. -/
inductive Fo where
  | mk (op x y : Int) (kids : List Fo)

/-- A Form that lies at an address; its slice of Kids. -/
inductive Lf where
  | mk (b o : Nat) (op x y : Int) (kv : Value) (kids : List Lf)

def Lf.b : Lf → Nat | .mk b _ _ _ _ _ _ => b
def Lf.o : Lf → Nat | .mk _ o _ _ _ _ _ => o
def Lf.op : Lf → Int | .mk _ _ op _ _ _ _ => op
def Lf.x : Lf → Int | .mk _ _ _ x _ _ _ => x
def Lf.y : Lf → Int | .mk _ _ _ _ y _ _ => y
def Lf.kv : Lf → Value | .mk _ _ _ _ _ kv _ => kv
def Lf.kids : Lf → List Lf | .mk _ _ _ _ _ _ ks => ks

/-- What it is. -/
def Lf.er : Lf → Fo
  | .mk _ _ op x y _ kids => .mk op x y (kids.map Lf.er)

/-- The slice kv holds these Kids. -/
def KidsIn (kv : Value) (kids : List Lf) : Prop :=
  ∃ a cap, kv = .slice a kids.length cap ∧ kids.length ≤ cap ∧ (kids = [] ∨ ∃ kb ko, a = some ⟨kb, ko, none⟩ ∧ ∀ (j : Nat) (t : Lf), kids[j]? = some t → t.b = kb ∧ t.o = ko + j * 4)

def inC (n : Nat) (a : Int) : Bool := decide (0 ≤ a ∧ a < n)
def sameC (cls : List Int) (a b : Int) : Bool := inC cls.length a && inC cls.length b && (cls[a.toNat]?.getD 0 == cls[b.toNat]?.getD 0)

/-- A number of the program. -/
def R64 (a : Int) : Prop := -9223372036854775808 ≤ a ∧ a ≤ 9223372036854775807

/-- One Form of so many Kids, by what these come to. -/
def evN (cls : List Int) (op x y : Int) (n : Nat) (args : List Bool) : Bool :=
  if op = 0 then n == 0 && sameC cls x y
  else if op = 1 then n == 1 && !(args[0]?.getD false)
  else if op = 2 then n == 2 && (args[0]?.getD false && args[1]?.getD false)
  else if op = 3 then n == 2 && (args[0]?.getD false || args[1]?.getD false)
  else if op = 4 then n == 2 && (!(args[0]?.getD false) || args[1]?.getD false)
  else false

/-- The document's Eval. -/
def evF (cls : List Int) : Fo → Bool
  | .mk op x y kids => evN cls op x y kids.length (kids.map (evF cls))

/-- A Form and all its Kids in cells, of whichever type. -/
inductive LayC (W : World) : Lf → Prop where
  | mk {b o : Nat} {op x y : Int} {kv : Value} {kids : List Lf} (c0 : W.cell? ⟨b, o, none⟩ = some (.int .i64 op)) (c1 : W.cell? ⟨b, o + 1, none⟩ = some (.int .i64 x)) (c2 : W.cell? ⟨b, o + 2, none⟩ = some (.int .i64 y)) (c3 : W.cell? ⟨b, o + 3, none⟩ = some kv) (hk : KidsIn kv kids) (h : ∀ k ∈ kids, LayC W k) : LayC W (.mk b o op x y kv kids)

end Go.Proofs.YtlehlgipbhfioaaGreat

namespace Go.Proofs
open Go.Shelf
end Go.Proofs

namespace Go.Proofs.YtlehlgipbhfioaaGreat.Uf

structure Nd where
  par : Nat
  nxt : Nat
  siz : Nat
  lst : Nat

/-- A state: the nodes, and beside them what each number's root is, and how deep it lies. -/
structure G where
  N : Nat → Nd
  rt : Nat → Nat
  dp : Nat → Nat

def cnt : Nat → (Nat → Bool) → Nat
  | 0, _ => 0
  | n + 1, p => cnt n p + (if p n then 1 else 0)

theorem cnt_le (n : Nat) (p : Nat → Bool) : cnt n p ≤ n := by
  induction n with
  | zero => simp [cnt]
  | succ n ih => simp only [cnt]; split <;> omega

theorem cnt_congr (n : Nat) (p q : Nat → Bool) (h : ∀ i, i < n → p i = q i) : cnt n p = cnt n q := by
  induction n with
  | zero => rfl
  | succ n ih => simp only [cnt]; rw [ih (fun i hi => h i (by omega)), h n (by omega)]

theorem cnt_or (n : Nat) (p q : Nat → Bool) (h : ∀ i, i < n → ¬ (p i = true ∧ q i = true)) : cnt n (fun i => p i || q i) = cnt n p + cnt n q := by
  induction n with
  | zero => rfl
  | succ n ih =>
    simp only [cnt]
    rw [ih (fun i hi => h i (by omega))]
    have := h n (by omega)
    by_cases hp : p n = true <;> by_cases hq : q n = true <;> simp [hp, hq] at this ⊢ <;> omega

theorem cnt_pos (n : Nat) (p : Nat → Bool) (i : Nat) (hi : i < n) (h : p i = true) : 0 < cnt n p := by
  induction n with
  | zero => omega
  | succ n ih =>
    simp only [cnt]
    by_cases e : i = n
    · subst e; simp [h]
    · have := ih (by omega); omega

theorem cnt_one (n : Nat) (p q : Nat → Bool) (k : Nat) (hk : k < n) (hp : p k = true) (hq : q k = false) (h : ∀ i, i < n → i ≠ k → p i = q i) : cnt n q + 1 = cnt n p := by
  induction n with
  | zero => omega
  | succ n ih =>
    simp only [cnt]
    by_cases e : k = n
    · subst e
      rw [cnt_congr k p q (fun i hi => h i (by omega) (by omega))]; simp [hp, hq]
    · have := ih (by omega) (fun i hi hne => h i (by omega) hne)
      rw [h n (by omega) (by omega)]; split <;> omega

theorem cnt_all (n : Nat) (p : Nat → Bool) (h : ∀ i, i < n → p i = true) : cnt n p = n := by
  induction n with
  | zero => rfl
  | succ n ih => simp only [cnt]; rw [ih (fun i hi => h i (by omega)), h n (by omega)]; simp

theorem cnt_only (n : Nat) (k : Nat) (hk : k < n) : cnt n (fun i => decide (i = k)) = 1 := by
  have h := cnt_one n (fun i => decide (i = k)) (fun _ => false) k hk (by simp) rfl (fun i _ hne => by simp [hne])
  have z : ∀ m, cnt m (fun _ => false) = 0 := by
    intro m; induction m with
    | zero => rfl
    | succ m ih => simp [cnt, ih]
  rw [z] at h; omega

def g0 : G := { N := fun i => ⟨i, i, 1, i⟩, rt := fun i => i, dp := fun _ => 0 }

/-- Root c is hung below root r. -/
def hang (g : G) (c r : Nat) : G :=
  { N := fun k => if k = c then ⟨r, (g.N r).nxt, (g.N c).siz, (g.N c).lst⟩ else if k = r then ⟨(g.N r).par, (g.N c).nxt, (g.N r).siz + (g.N c).siz, min (g.N r).lst (g.N c).lst⟩ else g.N k
    rt := fun i => if g.rt i = c then r else g.rt i
    dp := fun i => if g.rt i = c then g.dp i + g.dp r + 1 else g.dp i }

/-- The least number of the class of i. -/
def G.lo (g : G) (i : Nat) : Nat := (g.N (g.rt i)).lst

structure Ok (n : Nat) (g : G) (k : Nat) : Prop where
  parlt : ∀ i, i < n → (g.N i).par < n
  rtlt : ∀ i, i < n → g.rt i < n
  root : ∀ i, i < n → (g.N i).par = i → g.rt i = i
  step : ∀ i, i < n → (g.N i).par ≠ i → g.rt (g.N i).par = g.rt i ∧ g.dp (g.N i).par < g.dp i
  top : ∀ i, i < n → (g.N (g.rt i)).par = g.rt i
  siz : ∀ i, i < n → g.rt i = i → (g.N i).siz = cnt n (fun j => decide (g.rt j = i))
  lole : ∀ i, i < n → g.lo i ≤ i
  loin : ∀ i, i < n → g.rt (g.lo i) = g.rt i
  num : cnt n (fun i => decide (g.lo i = i)) + k = n

theorem ok_g0 (n : Nat) : Ok n g0 0 := by
  refine ⟨fun i h => h, fun i h => h, fun i _ _ => rfl, fun i _ h => absurd rfl h, fun i _ => rfl, ?_, fun i _ => Nat.le_refl _, fun i _ => rfl, ?_⟩
  · intro i hi _
    exact (cnt_only n i hi).symm
  · rw [cnt_all n _ (fun i _ => by simp [G.lo, g0])]; rfl

theorem Ok.rtrt {n : Nat} {g : G} {k : Nat} (h : Ok n g k) (i : Nat) (hi : i < n) : g.rt (g.rt i) = g.rt i :=
  h.root _ (h.rtlt i hi) (h.top i hi)

theorem Ok.parroot {n : Nat} {g : G} {k : Nat} (h : Ok n g k) (i : Nat) (hi : i < n) (hr : g.rt i = i) : (g.N i).par = i := by
  have := h.top i hi; rw [hr] at this; exact this

theorem hang_lo (g : G) (c r i : Nat) (hne : c ≠ r) :
    (hang g c r).lo i = if g.rt i = c ∨ g.rt i = r then min (g.N r).lst (g.N c).lst else g.lo i := by
  simp only [G.lo, hang]
  by_cases h1 : g.rt i = c
  · simp [h1, Ne.symm hne]
  · by_cases h2 : g.rt i = r
    · simp [h2, Ne.symm hne]
    · simp [h1, h2]

theorem Ok.hang {n : Nat} {g : G} {k : Nat} (h : Ok n g k) (c r : Nat) (hc : c < n) (hr : r < n) (hne : c ≠ r) (cc : g.rt c = c) (rr : g.rt r = r) :
    Ok n (hang g c r) (k + 1) := by
  have pc := h.parroot c hc cc
  have pr := h.parroot r hr rr
  have lc : (g.N c).lst = g.lo c := by simp [G.lo, cc]
  have lr : (g.N r).lst = g.lo r := by simp [G.lo, rr]
  have hlo := fun i => hang_lo g c r i hne
  have lcle := h.lole c hc
  have lrle := h.lole r hr
  have lcin := h.loin c hc
  have lrin := h.loin r hr
  rw [cc] at lcin
  rw [rr] at lrin
  have lne : g.lo c ≠ g.lo r := by intro e; rw [e, lrin] at lcin; exact hne lcin.symm
  have lcself : g.lo (g.lo c) = g.lo c := by simp only [G.lo] at lcin ⊢; rw [lcin, cc]
  have lrself : g.lo (g.lo r) = g.lo r := by simp only [G.lo] at lrin ⊢; rw [lrin, rr]
  refine ⟨?_, ?_, ?_, ?_, ?_, ?_, ?_, ?_, ?_⟩
  · intro i hi
    simp only [Uf.hang]
    split
    · exact hr
    · split
      · exact h.parlt r hr
      · exact h.parlt i hi
  · intro i hi
    simp only [Uf.hang]
    split
    · exact hr
    · exact h.rtlt i hi
  · intro i hi hp
    simp only [Uf.hang] at hp ⊢
    by_cases e1 : i = c
    · subst e1; simp at hp; exact absurd hp.symm hne
    · by_cases e2 : i = r
      · subst e2; rw [rr]; simp [e1]
      · simp [e1, e2] at hp
        have := h.root i hi hp
        rw [this]; simp [e1]
  · intro i hi hp
    simp only [Uf.hang] at hp ⊢
    by_cases e1 : i = c
    · subst e1
      simp only [if_true]
      rw [rr, cc]
      simp [Ne.symm hne]
      omega
    · by_cases e2 : i = r
      · subst e2
        simp only [e1, if_false, if_true] at hp
        exact absurd pr hp
      · simp only [e1, e2, if_false] at hp ⊢
        obtain ⟨s1, s2⟩ := h.step i hi hp
        rw [s1]
        refine ⟨rfl, ?_⟩
        split <;> omega
  · intro i hi
    simp only [Uf.hang]
    by_cases e1 : g.rt i = c
    · simp [e1, Ne.symm hne, pr]
    · by_cases e2 : g.rt i = r
      · simp [e2, Ne.symm hne, pr]
      · simp [e1, e2, h.top i hi]
  · intro i hi hrt
    simp only [Uf.hang] at hrt ⊢
    by_cases e1 : i = c
    · subst e1; simp [cc] at hrt; exact absurd hrt.symm hne
    · by_cases e2 : i = r
      · subst e2
        simp only [e1, if_false, if_true]
        rw [h.siz i hi rr, h.siz c hc cc, ← cnt_or]
        · apply cnt_congr
          intro j hj
          by_cases q1 : g.rt j = c <;> by_cases q2 : g.rt j = i <;> simp [q1, q2]
        · intro j hj
          simp
          intro q1 q2
          exact e1 (by rw [← q1, ← q2])
      · have hi' : g.rt i = i := by
          by_cases q : g.rt i = c
          · simp [q] at hrt; exact absurd hrt.symm e2
          · simpa [q] using hrt
        simp only [e1, e2, if_false]
        rw [h.siz i hi hi']
        apply cnt_congr
        intro j hj
        by_cases q1 : g.rt j = c
        · simp [q1, Ne.symm e1, Ne.symm e2]
        · simp [q1]
  · intro i hi
    rw [hlo, lc, lr]
    have li := h.lole i hi
    split
    · rename_i hx
      rcases hx with hx | hx
      · have : g.lo i = g.lo c := by simp only [G.lo]; rw [hx, cc]
        omega
      · have : g.lo i = g.lo r := by simp only [G.lo]; rw [hx, rr]
        omega
    · exact li
  · intro i hi
    rw [hlo, lc, lr]
    by_cases hx : g.rt i = c ∨ g.rt i = r
    · rw [if_pos hx]
      have e : (Uf.hang g c r).rt i = r := by
        simp only [Uf.hang]
        rcases hx with hx | hx
        · simp [hx]
        · simp [hx, Ne.symm hne]
      rw [e]
      by_cases q : g.lo r ≤ g.lo c
      · rw [Nat.min_eq_left q]; simp [Uf.hang, lrin, Ne.symm hne]
      · rw [Nat.min_eq_right (by omega)]; simp [Uf.hang, lcin]
    · rw [if_neg hx]
      have := h.loin i hi
      simp only [Uf.hang]
      rw [this]
  · have key : cnt n (fun i => decide ((Uf.hang g c r).lo i = i)) + 1 = cnt n (fun i => decide (g.lo i = i)) := by
      apply cnt_one n _ _ (max (g.lo c) (g.lo r)) (by omega)
      · by_cases q : g.lo r ≤ g.lo c
        · rw [Nat.max_eq_left q]; simp [lcself]
        · rw [Nat.max_eq_right (by omega)]; simp [lrself]
      · rw [hlo, lc, lr]
        by_cases q : g.lo r ≤ g.lo c
        · rw [Nat.max_eq_left q, if_pos (Or.inl lcin)]; simp; omega
        · rw [Nat.max_eq_right (by omega), if_pos (Or.inr lrin)]; simp; omega
      · intro i hi hne'
        rw [hlo, lc, lr]
        by_cases hx : g.rt i = c ∨ g.rt i = r
        · rw [if_pos hx]
          rcases hx with hx | hx
          · have : g.lo i = g.lo c := by simp only [G.lo]; rw [hx, cc]
            rw [this, decide_eq_decide]
            constructor
            · intro e; omega
            · intro e
              rcases Nat.lt_or_ge (g.lo r) (g.lo c) with q | q
              · exfalso
                have e2 : i = g.lo r := by omega
                rw [e2, lrin] at hx; exact hne hx.symm
              · omega
          · have : g.lo i = g.lo r := by simp only [G.lo]; rw [hx, rr]
            rw [this, decide_eq_decide]
            constructor
            · intro e; omega
            · intro e
              rcases Nat.lt_or_ge (g.lo c) (g.lo r) with q | q
              · exfalso
                have e2 : i = g.lo c := by omega
                rw [e2, lcin] at hx; exact hne hx
              · omega
        · rw [if_neg hx]
    have := h.num
    omega

theorem Ok.sizes {n : Nat} {g : G} {k : Nat} (h : Ok n g k) (c r : Nat) (hc : c < n) (hr : r < n) (hne : c ≠ r) (cc : g.rt c = c) (rr : g.rt r = r) : (g.N r).siz + (g.N c).siz ≤ n := by
  rw [h.siz r hr rr, h.siz c hc cc, ← cnt_or]
  · exact cnt_le _ _
  · intro i _ hx
    simp at hx
    exact hne (hx.2.symm.trans hx.1)

/-- Which root is hung below which. -/
def pick (g : G) (a b : Nat) : Nat × Nat := if (g.N (g.rt b)).siz < (g.N (g.rt a)).siz then (g.rt b, g.rt a) else (g.rt a, g.rt b)

/-- The state, and the joins with the states ahead of them, the last one first. -/
structure Rec where
  child : Nat
  least : Nat
  was : G

def Hist (n : Nat) : G → List Rec → Prop
  | g, [] => g = g0
  | g, x :: t => ∃ r, r < n ∧ x.child < n ∧ x.child ≠ r ∧ x.was.rt x.child = x.child ∧ x.was.rt r = r ∧ x.least = (x.was.N r).lst ∧ g = hang x.was x.child r ∧ Hist n x.was t

theorem ok_hist (n : Nat) : ∀ (t : List Rec) (g : G), Hist n g t → Ok n g t.length
  | [], g, h => by cases h; exact ok_g0 n
  | x :: t, g, h => by
    obtain ⟨r, hr, hc, hne, cc, rr, _, rfl, ht⟩ := h
    exact (ok_hist n t x.was ht).hang _ _ hc hr hne cc rr

theorem Ok.num_le {n : Nat} {g : G} {k : Nat} (h : Ok n g k) : k ≤ n := by have := h.num; omega

theorem Ok.pick {n : Nat} {g : G} {k : Nat} (h : Ok n g k) (a b : Nat) (ha : a < n) (hb : b < n) (hne : g.rt a ≠ g.rt b) :
    (pick g a b).1 < n ∧ (pick g a b).2 < n ∧ (pick g a b).1 ≠ (pick g a b).2 ∧ g.rt (pick g a b).1 = (pick g a b).1 ∧ g.rt (pick g a b).2 = (pick g a b).2 := by
  unfold Uf.pick
  split
  · exact ⟨h.rtlt b hb, h.rtlt a ha, Ne.symm hne, h.rtrt b hb, h.rtrt a ha⟩
  · exact ⟨h.rtlt a ha, h.rtlt b hb, hne, h.rtrt a ha, h.rtrt b hb⟩

/-- The state k joins ago. -/
def back : G → List Rec → Nat → G
  | g, _, 0 => g
  | g, [], _ + 1 => g
  | _, x :: t, k + 1 => back x.was t k

theorem hist_back (n : Nat) : ∀ (k : Nat) (t : List Rec) (g : G), Hist n g t → Hist n (back g t k) (t.drop k)
  | 0, t, g, h => by simpa [back] using h
  | k + 1, [], g, h => by simpa [back] using h
  | k + 1, x :: t, g, h => by
    obtain ⟨_, _, _, _, _, _, _, _, ht⟩ := h
    simpa [back] using hist_back n k t x.was ht

theorem back_succ : ∀ (k : Nat) (t : List Rec) (g : G) (x : Rec), t[k]? = some x → back g t (k + 1) = x.was
  | 0, [], _, _, h => by simp at h
  | 0, y :: t, g, x, h => by simp at h; subst h; simp [back]
  | k + 1, [], _, _, h => by simp at h
  | k + 1, y :: t, g, x, h => by
    simp at h
    simpa [back] using back_succ k t y.was x h

/-- The joins as the program keeps them. -/
def recs (t : List Rec) : List (Nat × Nat) := (t.map fun x => (x.child, x.least)).reverse

theorem recs_length (t : List Rec) : (recs t).length = t.length := by simp [recs]
theorem recs_cons (x : Rec) (t : List Rec) : recs (x :: t) = recs t ++ [(x.child, x.least)] := by simp [recs]
theorem recs_drop (t : List Rec) (k : Nat) : recs (t.drop k) = (recs t).take (t.length - k) := by
  simp only [recs, List.map_drop, List.reverse_drop, List.length_map]

theorem recs_get (t : List Rec) (k : Nat) (hk : k < t.length) : (recs t)[t.length - 1 - k]? = some ((t[k]).child, (t[k]).least) := by
  simp only [recs]
  rw [List.getElem?_reverse (by simp; omega)]
  simp
  refine ⟨t[k], ?_, rfl, rfl⟩
  rw [List.getElem?_eq_some_iff]
  refine ⟨by omega, ?_⟩
  congr 1
  omega

theorem hist_child (n : Nat) : ∀ (t : List Rec) (g : G), Hist n g t → ∀ x ∈ t, x.child < n
  | [], _, _, x, hx => by simp at hx
  | y :: t, g, h, x, hx => by
    obtain ⟨_, _, hc, _, _, _, _, _, ht⟩ := h
    rcases List.mem_cons.1 hx with rfl | hx
    · exact hc
    · exact hist_child n t y.was ht x hx

theorem recs_child (n : Nat) (t : List Rec) (g : G) (h : Hist n g t) (i : Nat) (hi : i < t.length) : ((recs t)[i]?.getD (0, 0)).1 < n := by
  have hl : i < (recs t).length := by rw [recs_length]; exact hi
  rw [List.getElem?_eq_getElem hl, Option.getD_some]
  have hm : (recs t)[i] ∈ recs t := List.getElem_mem hl
  generalize (recs t)[i] = y at hm
  simp only [recs, List.mem_reverse, List.mem_map] at hm
  obtain ⟨x, hx, rfl⟩ := hm
  exact hist_child n t g h x hx

end Go.Proofs.YtlehlgipbhfioaaGreat.Uf

namespace Go.Proofs.YtlehlgipbhfioaaGreat
open Go.RowKit

theorem ret_b {p q : Bool} (h : p = q) : Ending.returned (.bool p) = Ending.returned (.bool q) := by rw [h]

/-- Has a Form as many Kids as told? -/
def whN (op : Int) (n : Nat) : Bool := if op = 0 then n == 0 else if op = 1 then n == 1 else if op = 2 ∨ op = 3 ∨ op = 4 then n == 2 else false

theorem LayC.kept {w w' : World} (hB : Below w.heap.size w w') {t : Lf} (h : LayC w t) : LayC w' t := by
  induction h with
  | mk c0 c1 c2 c3 hk _ ih =>
    have kc : ∀ p v, w.cell? p = some v → w'.cell? p = some v := fun p v hp => (hB.cell (World.block_lt_of_cell? w p hp)).trans hp
    exact .mk (kc _ _ c0) (kc _ _ c1) (kc _ _ c2) (kc _ _ c3) hk ih

/-- Classes in memory. -/
def ClsAt (w : World) (ca : Option Addr) (cls : List Int) : Prop :=
  cls = [] ∨ ∃ g off, ca = some ⟨g, off, none⟩ ∧ ∀ (j : Nat) (c : Int), cls[j]? = some c → w.cell? ⟨g, off + j, none⟩ = some (.int .i64 c)
theorem ClsAt.below {w w' : World} {ca : Option Addr} {cls : List Int} (hB : Below w.heap.size w w') (h : ClsAt w ca cls) : ClsAt w' ca cls := by
  rcases h with e | ⟨g, off, h1, h2⟩
  · exact Or.inl e
  · exact Or.inr ⟨g, off, h1, fun j c hj => (hB.cell (World.block_lt_of_cell? w _ (h2 j c hj))).trans (h2 j c hj)⟩

end Go.Proofs.YtlehlgipbhfioaaGreat

namespace Go.Proofs.YtlehlgipbhfioaaGreat
open Go.RowKit

/-- A row of numbers of one's own. -/
def Rw (W : World) (g : Nat) (vs : List Int) : Prop := ∃ N F, vs.length ≤ N ∧ W.rowIs g 3 N F ∧ ∀ (j : Nat) (c : Int), vs[j]? = some c → F j = .int .i64 c
theorem Rw.cls {W : World} {g : Nat} {vs : List Int} (h : Rw W g vs) : ClsAt W (some ⟨g, 0, none⟩) vs := by
  obtain ⟨N, F, h1, h2, h3⟩ := h
  refine Or.inr ⟨g, 0, rfl, fun j c hj => ?_⟩
  have hlt := (List.getElem?_eq_some_iff.1 hj).1
  rw [Nat.zero_add, h2.cell (i := j) (by omega), h3 j c hj]
theorem Rw.at {W : World} {g : Nat} {vs : List Int} (h : Rw W g vs) {j : Nat} {c : Int} (hj : vs[j]? = some c) : W.cell? ⟨g, j, none⟩ = some (.int .i64 c) ∧ W.frozen? ⟨g, j, none⟩ = false := by
  obtain ⟨N, F, h1, h2, h3⟩ := h
  have hlt := (List.getElem?_eq_some_iff.1 hj).1
  exact ⟨by rw [h2.cell (i := j) (by omega), h3 j c hj], h2.frozen j⟩
theorem Rw.set {W : World} {g : Nat} {vs : List Int} (h : Rw W g vs) (i : Nat) (c : Int) : Rw (W.setCell ⟨g, i, none⟩ (.int .i64 c)) g (vs.set i c) := by
  obtain ⟨N, F, h1, h2, h3⟩ := h
  refine ⟨N, _, by rw [List.length_set]; exact h1, h2.set i _, fun j d hj => ?_⟩
  by_cases e : j = i
  · subst e
    rw [if_pos rfl]
    have hl := (List.getElem?_eq_some_iff.1 hj).1
    rw [List.length_set] at hl
    rw [List.getElem?_set_self hl] at hj
    cases hj
    rfl
  · rw [if_neg e]
    rw [List.getElem?_set_ne (fun x => e x.symm)] at hj
    exact h3 j d hj
theorem Rw.lt {W : World} {g : Nat} {vs : List Int} (h : Rw W g vs) : g < W.heap.size := by
  obtain ⟨N, F, h1, h2, h3⟩ := h
  exact h2.lt
theorem Rw.block {W W' : World} {g : Nat} {vs : List Int} (h : Rw W g vs) (hB : W'.heap[g]? = W.heap[g]?) : Rw W' g vs := by
  obtain ⟨N, F, h1, h2, h3⟩ := h
  exact ⟨N, F, h1, h2.of_block hB, h3⟩

end Go.Proofs.YtlehlgipbhfioaaGreat

namespace Go.Proofs.YtlehlgipbhfioaaGreat
open Go.RowKit

theorem kid_cells {w : World} {kids : List Lf} (hks : ∀ k ∈ kids, LayC w k) {kb ko : Nat} (hadr : ∀ (j : Nat) (t : Lf), kids[j]? = some t → t.b = kb ∧ t.o = ko + j * 4) (j : Nat) (k : Lf) (hj : kids[j]? = some k) (w2 : World) (hB : Below w.heap.size w w2) :
    w2.cell? ⟨kb, ko + j * 4, none⟩ = some (.int .i64 k.op) ∧ w2.cell? ⟨kb, ko + j * 4 + 1, none⟩ = some (.int .i64 k.x) ∧ w2.cell? ⟨kb, ko + j * 4 + 2, none⟩ = some (.int .i64 k.y) ∧ ∃ sa sn sc, k.kv = .slice sa sn sc ∧ w2.cell? ⟨kb, ko + j * 4 + 3, none⟩ = some (.slice sa sn sc) := by
  have hm := List.mem_of_getElem? hj
  have hl := (hks k hm).kept hB
  obtain ⟨a1, a2⟩ := hadr j k hj
  cases hl with
  | mk d0 d1 d2 d3 dk dh =>
    simp only [Lf.b, Lf.o] at a1 a2
    subst a1 a2
    obtain ⟨sa, sc, rfl, _⟩ := dk
    exact ⟨d0, d1, d2, sa, _, sc, rfl, d3⟩

end Go.Proofs.YtlehlgipbhfioaaGreat

namespace Go.Proofs
open Go.Shelf
def Tryz.lays189_ren : Go.Shelf.Ren := ⟨fun | 189 => 97 | 125 => 145 | 257 => 144 | 128 => 191 | 129 => 192 | 294 => 182 | 295 => 183 | 296 => 184 | 297 => 185 | 298 => 186 | 299 => 187 | 216 => 188 | 300 => 189 | 301 => 190 | 328 => 226 | 329 => 227 | 330 => 228 | 331 => 229 | 332 => 230 | 215 => 221 | 343 => 250 | n => n, fun | 28 => 39 | 3 => 3 | 46 => 105 | 0 => 0 | 51 => 298 | 53 => 268 | 4 => 4 | 183 => 292 | 182 => 291 | 131 => 159 | 5 => 5 | 9 => 9 | 218 => 324 | 222 => 328 | 228 => 346 | 229 => 347 | n => n, fun | n => n⟩
theorem Tryz.lays189 : Go.Proofs.Lays.n189 Tryz.prog Tryz.lays189_ren := {
  mixed := by kernel_rfl
  f125 := Tryz.func145.trans (congrArg some (by kernel_rfl))
  f128 := Tryz.func191.trans (congrArg some (by kernel_rfl))
  f129 := Tryz.func192.trans (congrArg some (by kernel_rfl))
  f189 := Tryz.func97.trans (congrArg some (by kernel_rfl))
  f215 := Tryz.func221.trans (congrArg some (by kernel_rfl))
  f216 := Tryz.func188.trans (congrArg some (by kernel_rfl))
  f257 := Tryz.func144.trans (congrArg some (by kernel_rfl))
  f294 := Tryz.func182.trans (congrArg some (by kernel_rfl))
  f295 := Tryz.func183.trans (congrArg some (by kernel_rfl))
  f296 := Tryz.func184.trans (congrArg some (by kernel_rfl))
  f297 := Tryz.func185.trans (congrArg some (by kernel_rfl))
  f298 := Tryz.func186.trans (congrArg some (by kernel_rfl))
  f299 := Tryz.func187.trans (congrArg some (by kernel_rfl))
  f300 := Tryz.func189.trans (congrArg some (by kernel_rfl))
  f301 := Tryz.func190.trans (congrArg some (by kernel_rfl))
  f328 := Tryz.func226.trans (congrArg some (by kernel_rfl))
  f329 := Tryz.func227.trans (congrArg some (by kernel_rfl))
  f330 := Tryz.func228.trans (congrArg some (by kernel_rfl))
  f331 := Tryz.func229.trans (congrArg some (by kernel_rfl))
  f332 := Tryz.func230.trans (congrArg some (by kernel_rfl))
  f343 := Tryz.func250.trans (congrArg some (by kernel_rfl))
  t0 := Tryz.underlying0
  a0 := Tryz.isAgg0
  z0 := Tryz.sizeOf0
  v0 := Tryz.zeroValue0
  t3 := Tryz.underlying3
  a3 := Tryz.isAgg3
  z3 := Tryz.sizeOf3
  v3 := Tryz.zeroValue3
  t4 := Tryz.underlying4
  a4 := Tryz.isAgg4
  z4 := Tryz.sizeOf4
  v4 := Tryz.zeroValue4
  t5 := Tryz.underlying5
  a5 := Tryz.isAgg5
  z5 := Tryz.sizeOf5
  v5 := Tryz.zeroValue5
  t9 := Tryz.underlying9
  a9 := Tryz.isAgg9
  z9 := Tryz.sizeOf9
  v9 := Tryz.zeroValue9
  t28 := Tryz.underlying39
  a28 := Tryz.isAgg39
  z28 := Tryz.sizeOf39
  v28 := Tryz.zeroValue39
  t46 := Tryz.underlying105
  a46 := Tryz.isAgg105
  z46 := Tryz.sizeOf105
  v46 := Tryz.zeroValue105
  t51 := Tryz.underlying298
  a51 := Tryz.isAgg298
  z51 := Tryz.sizeOf298
  v51 := Tryz.zeroValue298
  t53 := Tryz.underlying268
  a53 := Tryz.isAgg268
  z53 := Tryz.sizeOf268
  v53 := Tryz.zeroValue268
  t131 := Tryz.underlying159
  a131 := Tryz.isAgg159
  z131 := Tryz.sizeOf159
  v131 := Tryz.zeroValue159
  t182 := Tryz.underlying291
  a182 := Tryz.isAgg291
  z182 := Tryz.sizeOf291
  v182 := Tryz.zeroValue291
  t183 := Tryz.underlying292
  a183 := Tryz.isAgg292
  z183 := Tryz.sizeOf292
  v183 := Tryz.zeroValue292
  t218 := Tryz.underlying324
  a218 := Tryz.isAgg324
  z218 := Tryz.sizeOf324
  v218 := Tryz.zeroValue324
  t222 := Tryz.underlying328
  a222 := Tryz.isAgg328
  z222 := Tryz.sizeOf328
  v222 := Tryz.zeroValue328
  t228 := Tryz.underlying346
  a228 := Tryz.isAgg346
  z228 := Tryz.sizeOf346
  v228 := Tryz.zeroValue346
  t229 := Tryz.underlying347
  a229 := Tryz.isAgg347
  z229 := Tryz.sizeOf347
  v229 := Tryz.zeroValue347 }
open Go.Sort Go.RowKit in
theorem Tryz.slices_Sort_int (blk off cap : Nat) (zs : List Int) (w : World) (hH : Holds (Value.int .i64) w blk off zs.toArray) (hblk : blk < w.heap.size) (hsz : zs.length < 4611686018427387904) :
    Calls Tryz.prog 97 #[.slice (some ⟨blk, off, none⟩) zs.length cap] w fun e w' =>
      e = .returned (.tuple #[]) ∧ ∃ n os, w' = grow (putRow (Value.int .i64) (Sort.ahead w n) blk off (zs.mergeSort fun x y => decide (x ≤ y)).toArray) os := Any.slices_Sort_int Tryz.lays189 blk off cap zs w hH hblk hsz
end Go.Proofs

namespace Go.Proofs.YtlehlgipbhfioaaGreat
open Go.RowKit

/-- No Form of it has too many Kids. -/
inductive Szd : Lf → Prop where
  | mk {b o : Nat} {op x y : Int} {kv : Value} {kids : List Lf} (hn : kids.length ≤ 140737488355328) (h : ∀ k ∈ kids, Szd k) : Szd (.mk b o op x y kv kids)

end Go.Proofs.YtlehlgipbhfioaaGreat

namespace Go.Proofs.YtlehlgipbhfioaaGreat
open Go.RowKit

/-- What cell j of the nodes' array holds. -/
def nodeC (g : Uf.G) (j : Nat) : Value :=
  .int .i64 (if j % 4 = 0 then ((g.N (j / 4)).par : Int) else if j % 4 = 1 then ((g.N (j / 4)).nxt : Int) else if j % 4 = 2 then ((g.N (j / 4)).siz : Int) else ((g.N (j / 4)).lst : Int))

def joinC (js : List (Nat × Nat)) : List Value := js.flatMap fun x => [.int .i64 (x.1 : Int), .int .i64 (x.2 : Int)]

def setsC (nb n : Nat) (jv : Value) (j : Nat) : Value := if j = 0 then .slice (some ⟨nb, 0, none⟩) n n else jv

/-- A Sets that lies at block p, its nodes at block nb, its joins owned from base on. -/
structure Lies (w : World) (base p nb n : Nat) (g : Uf.G) (jv : Value) (js : List (Nat × Nat)) : Prop where
  sets : w.rowIs p 148 2 (setsC nb n jv)
  nodes : w.rowIs nb 150 (n * 4) (nodeC g)
  joins : w.ownsRow base 220 2 jv js.length (joinC js)
  ne : p ≠ nb
  jp : jv.ownBlock ≠ some p
  jn : jv.ownBlock ≠ some nb
  bp : base ≤ p
  bn : base ≤ nb
  small : n ≤ 100000

theorem Lies.jform {w : World} {base p nb n : Nat} {g : Uf.G} {jv : Value} {js : List (Nat × Nat)} (h : Lies w base p nb n g jv js) : ∃ a cap, jv = .slice a js.length cap := by
  rcases h.joins.2 with ⟨rfl, h0⟩ | ⟨b, cap, cur, rfl, _⟩
  · rw [h0]; exact ⟨none, 0, rfl⟩
  · exact ⟨_, cap, rfl⟩

theorem Lies.c0 {w : World} {base p nb n : Nat} {g : Uf.G} {jv : Value} {js : List (Nat × Nat)} (h : Lies w base p nb n g jv js) : w.cell? ⟨p, 0, none⟩ = some (.slice (some ⟨nb, 0, none⟩) n n) := h.sets.cell (by omega)
theorem Lies.c1 {w : World} {base p nb n : Nat} {g : Uf.G} {jv : Value} {js : List (Nat × Nat)} (h : Lies w base p nb n g jv js) : w.cell? ⟨p, 1, none⟩ = some jv := h.sets.cell (i := 1) (by omega)

/-- Is it a number of it? -/
def inB (n : Nat) (a : Int) : Bool := decide (0 ≤ a ∧ a < n)
theorem inB_true {n : Nat} {a : Int} (h : inB n a = true) : 0 ≤ a ∧ a < n := of_decide_eq_true h
theorem inB_false {n : Nat} {a : Int} (h : inB n a = false) : ¬ (0 ≤ a ∧ a < n) := of_decide_eq_false h
theorem inB_nat {n a : Nat} (h : a < n) : inB n a = true := decide_eq_true (by omega)
theorem ret_bool {a b : Bool} (h : a = b) : Ending.returned (.bool a) = .returned (.bool b) := by rw [h]
theorem ret_int {k : IntKind} {a b : Int} (h : a = b) : Ending.returned (.int k a) = .returned (.int k b) := by rw [h]
theorem inB_lt {n : Nat} {a : Int} (h : a < 0) : false = inB n a := (decide_eq_false (by omega)).symm
theorem inB_ge {n : Nat} {a : Int} (h : 0 ≤ a) : decide (a < n) = inB n a := by unfold inB; simp [h]

set_option maxHeartbeats 400000 in
theorem has_in (w : World) (base p nb n : Nat) (g : Uf.G) (jv : Value) (js : List (Nat × Nat)) (h : Lies w base p nb n g jv js) (a : Int) :
    Calls Tryz.prog 54 #[.pointer (some ⟨p, 0, none⟩), .int .i64 a] w fun e w' => e = .returned (.bool (inB n a)) ∧ w = w' := by
  have c0 := h.c0
  have hn := h.small
  clear h
  go_enter Tryz.func54, Tryz.ntmps54
  go_wp2
  · go_ret
    exact ⟨ret_bool (inB_ge ‹_›), rfl⟩
  · go_ret
    exact ⟨ret_bool (inB_lt ‹_›), rfl⟩

set_option maxHeartbeats 400000 in
theorem has_nil (w : World) (a : Int) :
    Calls Tryz.prog 54 #[.pointer none, .int .i64 a] w fun e w' => e = .returned (.bool false) ∧ w = w' := by
  go_enter Tryz.func54, Tryz.ntmps54
  go_wp2
  go_ret
  exact ⟨rfl, rfl⟩

theorem nodeC_par (g : Uf.G) (i : Nat) : nodeC g (i * 4) = .int .i64 ((g.N i).par : Int) := by
  have h1 : (i * 4) % 4 = 0 := by omega
  have h2 : (i * 4) / 4 = i := by omega
  simp [nodeC]
theorem nodeC_nxt (g : Uf.G) (i : Nat) : nodeC g (i * 4 + 1) = .int .i64 ((g.N i).nxt : Int) := by
  have h1 : (i * 4 + 1) % 4 = 1 := by omega
  have h2 : (i * 4 + 1) / 4 = i := by omega
  simp [nodeC, h1, h2]
theorem nodeC_siz (g : Uf.G) (i : Nat) : nodeC g (i * 4 + 2) = .int .i64 ((g.N i).siz : Int) := by
  have h1 : (i * 4 + 2) % 4 = 2 := by omega
  have h2 : (i * 4 + 2) / 4 = i := by omega
  simp [nodeC, h1, h2]
theorem nodeC_lst (g : Uf.G) (i : Nat) : nodeC g (i * 4 + 3) = .int .i64 ((g.N i).lst : Int) := by
  have h1 : (i * 4 + 3) % 4 = 3 := by omega
  have h2 : (i * 4 + 3) / 4 = i := by omega
  simp [nodeC, h1, h2]

theorem Lies.par {w : World} {base p nb n : Nat} {g : Uf.G} {jv : Value} {js : List (Nat × Nat)} (h : Lies w base p nb n g jv js) {i : Nat} (hi : i < n) : w.cell? ⟨nb, i * 4, none⟩ = some (.int .i64 ((g.N i).par : Int)) := by
  rw [← nodeC_par]; exact h.nodes.cell (by omega)
theorem Lies.nxt {w : World} {base p nb n : Nat} {g : Uf.G} {jv : Value} {js : List (Nat × Nat)} (h : Lies w base p nb n g jv js) {i : Nat} (hi : i < n) : w.cell? ⟨nb, i * 4 + 1, none⟩ = some (.int .i64 ((g.N i).nxt : Int)) := by
  rw [← nodeC_nxt]; exact h.nodes.cell (by omega)
theorem Lies.siz {w : World} {base p nb n : Nat} {g : Uf.G} {jv : Value} {js : List (Nat × Nat)} (h : Lies w base p nb n g jv js) {i : Nat} (hi : i < n) : w.cell? ⟨nb, i * 4 + 2, none⟩ = some (.int .i64 ((g.N i).siz : Int)) := by
  rw [← nodeC_siz]; exact h.nodes.cell (by omega)
theorem Lies.lst {w : World} {base p nb n : Nat} {g : Uf.G} {jv : Value} {js : List (Nat × Nat)} (h : Lies w base p nb n g jv js) {i : Nat} (hi : i < n) : w.cell? ⟨nb, i * 4 + 3, none⟩ = some (.int .i64 ((g.N i).lst : Int)) := by
  rw [← nodeC_lst]; exact h.nodes.cell (by omega)

set_option maxHeartbeats 400000 in
theorem root_in (w : World) (base p nb n : Nat) (g : Uf.G) (jv : Value) (js : List (Nat × Nat)) (h : Lies w base p nb n g jv js) (k : Nat) (hg : Uf.Ok n g k) (a : Nat) (ha : a < n) :
    Calls Tryz.prog 55 #[.pointer (some ⟨p, 0, none⟩), .int .i64 a] w fun e w' => e = .returned (.int .i64 (g.rt a)) ∧ w = w' := by
  have c0 := h.c0
  have hn := h.small
  go_enter Tryz.func55, Tryz.ntmps55
  go_wp2
  go_loop [1] (fun t => ∃ i : Nat, i < n ∧ t = .int .i64 i ∧ Hid (g.rt i = g.rt a)) (fun t => g.dp (intOf t).toNat)
  case atStart => exact ⟨a, ha, rfl, rfl⟩
  case round =>
    obtain ⟨i, hi, rfl, hrt⟩ := hrel
    have cp := h.par hi
    have hpl := hg.parlt i hi
    by_cases hr : (g.N i).par = i
    · have hroot := hg.root i hi hr
      have Hroot : Hid (g.rt i = i) := hroot
      rw [hr] at cp
      clear hroot hr h hg
      go_wp2
      go_ret
      exact ⟨ret_int (by rw [← hrt.out, Hroot.out]), rfl⟩
    · have hst := hg.step i hi hr
      have Hst : Hid (_ ∧ _) := hst
      have hne : (((g.N i).par : Int) != (i : Int)) = true := by rw [bne_iff_ne]; omega
      generalize hq : (g.N i).par = q at *
      clear hst h hg hr
      go_wp2
      go_round
      case rel => exact ⟨q, hpl, rfl, Hst.out.1.trans hrt.out⟩
      case measure => simp [intOf]; exact Hst.out.2

set_option maxHeartbeats 400000 in
theorem Mark_in (w : World) (base p nb n : Nat) (g : Uf.G) (jv : Value) (js : List (Nat × Nat)) (h : Lies w base p nb n g jv js) :
    Calls Tryz.prog 70 #[.pointer (some ⟨p, 0, none⟩)] w fun e w' => e = .returned (.int .i64 (js.length : Int)) ∧ w = w' := by
  have c1 := h.c1
  obtain ⟨ja, jc, rfl⟩ := h.jform
  clear h
  go_enter Tryz.func70, Tryz.ntmps70
  go_wp2
  go_ret
  exact ⟨rfl, rfl⟩

theorem Lies.drewN {w : World} {base p nb n : Nat} {g : Uf.G} {jv : Value} {js : List (Nat × Nat)} (h : Lies w base p nb n g jv js) {m : Nat} : Lies (w.drewN m) base p nb n g jv js :=
  ⟨h.sets, h.nodes, h.joins, h.ne, h.jp, h.jn, h.bp, h.bn, h.small⟩

set_option maxHeartbeats 400000 in
theorem Least_in (w : World) (base p nb n : Nat) (g : Uf.G) (jv : Value) (js : List (Nat × Nat)) (h : Lies w base p nb n g jv js) (k : Nat) (hg : Uf.Ok n g k) (a : Int) :
    Calls Tryz.prog 38 #[.pointer (some ⟨p, 0, none⟩), .int .i64 a] w fun e w' => e = .returned (.int .i64 (if inB n a then (g.lo a.toNat : Int) else -1)) ∧ ∃ m, w' = w.drewN m := by
  have c0 := h.c0
  have hn := h.small
  cases hb : inB n a
  · have hb' := inB_false hb
    go_enter Tryz.func38, Tryz.ntmps38
    go_wp2_with (go_at_call 54; refine (has_in _ _ _ _ _ _ _ _ h _).mono ?_; rintro e w' ⟨rfl, rfl⟩; rw [hb])
    go_ret
    exact ⟨rfl, 0, rfl⟩
  · obtain ⟨h1, h2⟩ := inB_true hb
    obtain ⟨i, rfl⟩ := Int.eq_ofNat_of_zero_le h1
    have hi : i < n := by omega
    have hlt := hg.rtlt i hi
    have cl := h.lst hlt
    go_enter Tryz.func38, Tryz.ntmps38
    go_wp2_with (go_at_call 54; refine (has_in _ _ _ _ _ _ _ _ h _).mono ?_; rintro e w' ⟨rfl, rfl⟩; rw [hb])
    go_quiet ((go_at_call 55; exact Calls.quiet_of_same ((root_in _ _ _ _ _ _ _ _ h.drewN _ hg _ hi).mono fun _ _ x => ⟨x.1, x.2.symm⟩)))
    go_wp2
    go_ret
    exact ⟨rfl, _, rfl⟩

/-- Are two numbers in one class? -/
def sameB (n : Nat) (g : Uf.G) (a b : Int) : Bool := inB n a && inB n b && decide (g.rt a.toNat = g.rt b.toNat)

set_option maxHeartbeats 400000 in
theorem Same_in (w : World) (base p nb n : Nat) (g : Uf.G) (jv : Value) (js : List (Nat × Nat)) (h : Lies w base p nb n g jv js) (k : Nat) (hg : Uf.Ok n g k) (a b : Int) :
    Calls Tryz.prog 26 #[.pointer (some ⟨p, 0, none⟩), .int .i64 a, .int .i64 b] w fun e w' => e = .returned (.bool (sameB n g a b)) ∧ ∃ m, w' = w.drewN m := by
  cases ha : inB n a
  · have fin : sameB n g a b = false := by simp [sameB, ha]
    rw [fin]
    clear fin
    go_enter Tryz.func26, Tryz.ntmps26
    go_wp2_with fail
    refine (has_in _ _ _ _ _ _ _ _ h a).mono ?_
    rintro e w' ⟨rfl, rfl⟩
    rw [ha]
    go_wp2
    go_ret
    exact ⟨rfl, 0, rfl⟩
  · cases hb : inB n b
    · have fin : sameB n g a b = false := by simp [sameB, hb]
      rw [fin]
      clear fin
      go_enter Tryz.func26, Tryz.ntmps26
      go_wp2_with fail
      refine (has_in _ _ _ _ _ _ _ _ h a).mono ?_
      rintro e w' ⟨rfl, rfl⟩
      rw [ha]
      go_wp2_with fail
      refine (has_in _ _ _ _ _ _ _ _ h b).mono ?_
      rintro e w' ⟨rfl, rfl⟩
      rw [hb]
      go_wp2
      go_ret
      exact ⟨rfl, 0, rfl⟩
    · obtain ⟨a1, a2⟩ := inB_true ha
      obtain ⟨b1, b2⟩ := inB_true hb
      obtain ⟨i, rfl⟩ := Int.eq_ofNat_of_zero_le a1
      obtain ⟨j, rfl⟩ := Int.eq_ofNat_of_zero_le b1
      have hi : i < n := by omega
      have hj : j < n := by omega
      have fin : sameB n g i j = ((g.rt i : Int) == (g.rt j : Int)) := by
        simp only [sameB, ha, hb, Bool.true_and, Int.toNat_natCast]
        by_cases e : g.rt i = g.rt j
        · simp [e]
        · rw [decide_eq_false e]; exact (beq_eq_false_iff_ne.2 (by omega)).symm
      rw [fin]
      clear fin
      go_enter Tryz.func26, Tryz.ntmps26
      go_wp2_with fail
      refine (has_in _ _ _ _ _ _ _ _ h i).mono ?_
      rintro e w' ⟨rfl, rfl⟩
      rw [ha]
      go_wp2_with fail
      refine (has_in _ _ _ _ _ _ _ _ h j).mono ?_
      rintro e w' ⟨rfl, rfl⟩
      rw [hb]
      go_wp2_with fail
      refine (root_in _ _ _ _ _ _ _ _ h _ hg i hi).mono ?_
      rintro e w' ⟨rfl, rfl⟩
      go_wp2_with fail
      refine (root_in _ _ _ _ _ _ _ _ h _ hg j hj).mono ?_
      rintro e w' ⟨rfl, rfl⟩
      go_wp2
      go_ret
      exact ⟨rfl, 0, rfl⟩

end Go.Proofs.YtlehlgipbhfioaaGreat

namespace Go.Proofs.YtlehlgipbhfioaaGreat
open Go.RowKit

/-- All blocks but those of S are as they were. -/
structure Kept (S : Nat → Prop) (w w' : World) : Prop where
  os : w'.os = w.os
  tape : w'.tape = w.tape
  output : w'.output = w.output
  size : w.heap.size ≤ w'.heap.size
  block : ∀ k, k < w.heap.size → ¬ S k → w'.heap[k]? = w.heap[k]?

theorem Kept.refl (S : Nat → Prop) (w : World) : Kept S w w := ⟨rfl, rfl, rfl, Nat.le_refl _, fun _ _ _ => rfl⟩
theorem Kept.trans {S : Nat → Prop} {a b c : World} (h : Kept S a b) (k : Kept S b c) : Kept S a c :=
  ⟨k.os.trans h.os, k.tape.trans h.tape, k.output.trans h.output, Nat.le_trans h.size k.size, fun i hi hs => (k.block i (Nat.lt_of_lt_of_le hi h.size) hs).trans (h.block i hi hs)⟩
theorem Kept.mono {S T : Nat → Prop} {w w' : World} (h : Kept S w w') (hst : ∀ k, k < w.heap.size → S k → T k) : Kept T w w' :=
  ⟨h.os, h.tape, h.output, h.size, fun k hk hs => h.block k hk (fun x => hs (hst k hk x))⟩
theorem Kept.drewN {S : Nat → Prop} {a w : World} (h : Kept S a w) (m : Nat) : Kept S a (w.drewN m) := ⟨h.os, h.tape, h.output, h.size, h.block⟩
theorem Kept.drew {S : Nat → Prop} {a w : World} (h : Kept S a w) : Kept S a w.drew := ⟨h.os, h.tape, h.output, h.size, h.block⟩
theorem Kept.setCell {S : Nat → Prop} {a w : World} (h : Kept S a w) {p : Addr} (hp : S p.block) (u : Value) : Kept S a (w.setCell p u) :=
  h.trans ⟨rfl, rfl, rfl, by simp [World.setCell], fun k _ hs => Below.heap_setCell _ _ _ _ (fun e => hs (e ▸ hp))⟩
theorem Kept.alloc {S : Nat → Prop} {a w : World} (h : Kept S a w) (o : Obj) : Kept S a (w.alloc o) :=
  h.trans ⟨rfl, rfl, rfl, by simp, fun k hk _ => Below.heap_alloc _ _ _ hk⟩
theorem Kept.grown {S : Nat → Prop} {a w w' : World} {row : Option Nat} (h : Kept S a w) (hg : w.grownBy w' row) (hr : ∀ k, row = some k → S k) : Kept S a w' :=
  h.trans ⟨hg.os, hg.tape, hg.output, hg.size, fun k hk hs => hg.block k hk (fun e => hs (hr k e.symm))⟩
theorem Kept.below {S : Nat → Prop} {w w' : World} {B : Nat} (h : Kept S w w') (hB : B ≤ w.heap.size) (hs : ∀ k, S k → B ≤ k) : Below B w w' :=
  ⟨h.os, h.tape, h.output, h.size, fun k hk => h.block k (by omega) (fun x => by have := hs k x; omega)⟩

abbrev Kept1 (nb : Nat) (w w' : World) : Prop := Kept (fun k => k = nb) w w'
theorem Kept1.set {nb : Nat} {a w : World} (h : Kept1 nb a w) (o : Nat) (u : Value) : Kept1 nb a (w.setCell ⟨nb, o, none⟩ u) := Kept.setCell h rfl u

theorem Kept1.grownBy {nb : Nat} {w w' : World} (h : Kept1 nb w w') : w.grownBy w' (some nb) :=
  ⟨h.os, h.tape, h.output, h.size, fun k hk hs => h.block k hk (fun e => hs (by rw [e]))⟩

/-- New nodes, all else as it was. -/
theorem Lies.renode {w w' : World} {base p nb n : Nat} {g g' : Uf.G} {jv : Value} {js : List (Nat × Nat)} (h : Lies w base p nb n g jv js) (K : Kept1 nb w w') {f : Nat → Value} (R : w'.rowIs nb 150 (n * 4) f) (hf : ∀ j, j < n * 4 → f j = nodeC g' j) : Lies w' base p nb n g' jv js :=
  ⟨h.sets.of_block (K.block p h.sets.lt h.ne), R.congr hf, h.joins.kept K.grownBy (Or.inr h.jn), h.ne, h.jp, h.jn, h.bp, h.bn, h.small⟩

theorem quarters (j : Nat) : ∃ q, j = q * 4 ∨ j = q * 4 + 1 ∨ j = q * 4 + 2 ∨ j = q * 4 + 3 := ⟨j / 4, by omega⟩

theorem hang_cells (g : Uf.G) (c r : Nat) (hne : c ≠ r) (j : Nat) :
    (if j = r * 4 + 3 then .int .i64 (if (g.N c).lst < (g.N r).lst then ((g.N c).lst : Int) else ((g.N r).lst : Int)) else if j = r * 4 + 2 then .int .i64 ((g.N r).siz + (g.N c).siz : Int) else if j = r * 4 + 1 then .int .i64 ((g.N c).nxt : Int) else if j = c * 4 + 1 then .int .i64 ((g.N r).nxt : Int) else if j = c * 4 then .int .i64 (r : Int) else nodeC g j) = nodeC (Uf.hang g c r) j := by
  obtain ⟨q, hq⟩ := quarters j
  by_cases e1 : q = c
  · subst e1
    rcases hq with rfl | rfl | rfl | rfl
    · rw [if_neg (by omega), if_neg (by omega), if_neg (by omega), if_neg (by omega), if_pos rfl, nodeC_par]; simp [Uf.hang]
    · rw [if_neg (by omega), if_neg (by omega), if_neg (by omega), if_pos rfl, nodeC_nxt]; simp [Uf.hang]
    · rw [if_neg (by omega), if_neg (by omega), if_neg (by omega), if_neg (by omega), if_neg (by omega), nodeC_siz, nodeC_siz]; simp [Uf.hang]
    · rw [if_neg (by omega), if_neg (by omega), if_neg (by omega), if_neg (by omega), if_neg (by omega), nodeC_lst, nodeC_lst]; simp [Uf.hang]
  · by_cases e2 : q = r
    · subst e2
      rcases hq with rfl | rfl | rfl | rfl
      · rw [if_neg (by omega), if_neg (by omega), if_neg (by omega), if_neg (by omega), if_neg (by omega), nodeC_par, nodeC_par]; simp [Uf.hang, e1]
      · rw [if_neg (by omega), if_neg (by omega), if_pos rfl, nodeC_nxt]; simp [Uf.hang, e1]
      · rw [if_neg (by omega), if_pos rfl, nodeC_siz]; simp [Uf.hang, e1]
      · rw [if_pos rfl, nodeC_lst]; simp only [Uf.hang, e1, if_false, if_true]; split <;> (congr 1; omega)
    · have e : (Uf.hang g c r).N q = g.N q := by simp [Uf.hang, e1, e2]
      rcases hq with rfl | rfl | rfl | rfl
      · rw [if_neg (by omega), if_neg (by omega), if_neg (by omega), if_neg (by omega), if_neg (by omega), nodeC_par, nodeC_par, e]
      · rw [if_neg (by omega), if_neg (by omega), if_neg (by omega), if_neg (by omega), if_neg (by omega), nodeC_nxt, nodeC_nxt, e]
      · rw [if_neg (by omega), if_neg (by omega), if_neg (by omega), if_neg (by omega), if_neg (by omega), nodeC_siz, nodeC_siz, e]
      · rw [if_neg (by omega), if_neg (by omega), if_neg (by omega), if_neg (by omega), if_neg (by omega), nodeC_lst, nodeC_lst, e]

set_option maxHeartbeats 1000000 in
theorem hang_in (w : World) (base p nb n : Nat) (g : Uf.G) (jv : Value) (js : List (Nat × Nat)) (h : Lies w base p nb n g jv js) (c r : Nat) (hc : c < n) (hr : r < n) (hne : c ≠ r)
    (hsz : (g.N r).siz + (g.N c).siz ≤ 100000) :
    Calls Tryz.prog 113 #[.pointer (some ⟨p, 0, none⟩), .int .i64 c, .int .i64 r] w fun e w' => e = .returned (.tuple #[]) ∧ Lies w' base p nb n (Uf.hang g c r) jv js ∧ Kept1 nb w w' := by
  have c0 := h.c0
  have hn := h.small
  have x0 := h.par hc
  have x1 := h.nxt hc
  have y1 := h.nxt hr
  have fx0 := h.nodes.frozen (c * 4)
  have fx1 := h.nodes.frozen (c * 4 + 1)
  have fy1 := h.nodes.frozen (r * 4 + 1)
  have e1 : ¬ (c * 4 = r * 4 + 1) := by omega
  have e2 : ¬ (c * 4 + 1 = r * 4 + 1) := by omega
  have e3 : ¬ (c = r) := hne
  go_enter Tryz.func113, Tryz.ntmps113
  go_wp2_with fail
  go_quiet (fail)
  go_wp2_with fail
  go_region
  generalize hw1 : (((w.drewN (nq + 1)).setCell ⟨nb, c * 4, none⟩ (.int .i64 (r : Int))).setCell ⟨nb, c * 4 + 1, none⟩ (.int .i64 ((g.N r).nxt : Int))).setCell ⟨nb, r * 4 + 1, none⟩ (.int .i64 ((g.N c).nxt : Int)) = w1
  have R1 : w1.rowIs nb 150 (n * 4) (fun j => if j = r * 4 + 1 then .int .i64 ((g.N c).nxt : Int) else if j = c * 4 + 1 then .int .i64 ((g.N r).nxt : Int) else if j = c * 4 then .int .i64 (r : Int) else nodeC g j) := by
    rw [← hw1]; exact ((h.drewN.nodes.set _ _).set _ _).set _ _
  have K1 : Kept1 nb w w1 := by
    rw [← hw1]; exact Kept1.set (Kept1.set (Kept1.set ((Kept.refl _ w).drewN _) _ _) _ _) _ _
  have x2 : w1.cell? ⟨nb, c * 4 + 2, none⟩ = some (.int .i64 ((g.N c).siz : Int)) := by
    rw [R1.cell (i := c * 4 + 2) (by omega), if_neg (by omega), if_neg (by omega), if_neg (by omega), nodeC_siz]
  have y2 : w1.cell? ⟨nb, r * 4 + 2, none⟩ = some (.int .i64 ((g.N r).siz : Int)) := by
    rw [R1.cell (i := r * 4 + 2) (by omega), if_neg (by omega), if_neg (by omega), if_neg (by omega), nodeC_siz]
  have fy2 := R1.frozen (r * 4 + 2)
  clear x0 x1 y1 fx0 fx1 fy1 hw1 e1 e2 c0
  go_wp2_with fail
  go_region
  generalize hw2 : (w1.setCell ⟨nb, r * 4 + 2, none⟩ (.int .i64 ((g.N r).siz + (g.N c).siz : Int))).drew = w2
  have R2 := (R1.set (r * 4 + 2) (.int .i64 ((g.N r).siz + (g.N c).siz : Int))).drew
  have K2 := (Kept1.set K1 (r * 4 + 2) (.int .i64 ((g.N r).siz + (g.N c).siz : Int))).drew
  rw [hw2] at R2 K2
  have x3 : w2.cell? ⟨nb, c * 4 + 3, none⟩ = some (.int .i64 ((g.N c).lst : Int)) := by
    rw [R2.cell (i := c * 4 + 3) (by omega), if_neg (by omega), if_neg (by omega), if_neg (by omega), if_neg (by omega), nodeC_lst]
  have y3 : w2.cell? ⟨nb, r * 4 + 3, none⟩ = some (.int .i64 ((g.N r).lst : Int)) := by
    rw [R2.cell (i := r * 4 + 3) (by omega), if_neg (by omega), if_neg (by omega), if_neg (by omega), if_neg (by omega), nodeC_lst]
  have fy3 := R2.frozen (r * 4 + 3)
  clear x2 y2 fy2 hw2 K1 R1
  go_wp2_with fail
  go_region
  have R3 := (R2.set (r * 4 + 3) (.int .i64 (if (g.N c).lst < (g.N r).lst then ((g.N c).lst : Int) else ((g.N r).lst : Int)))).drew
  have K3 := (Kept1.set K2 (r * 4 + 3) (.int .i64 (if (g.N c).lst < (g.N r).lst then ((g.N c).lst : Int) else ((g.N r).lst : Int)))).drew
  go_end0
  exact ⟨rfl, h.renode K3 R3 (fun j _ => hang_cells g c r hne j), K3⟩

end Go.Proofs.YtlehlgipbhfioaaGreat

namespace Go.Proofs
open Go.Shelf
def Tryz.laysM316_ren : Go.Shelf.Ren := ⟨fun | 316 => 193 | n => n, fun | 9 => 9 | 3 => 3 | 4 => 4 | 37 => 330 | 0 => 0 | 127 => 331 | 5 => 5 | n => n, fun | n => n⟩
theorem Tryz.laysM316 : Go.Proofs.LaysM.n316 Tryz.prog Tryz.laysM316_ren := {
  mixed := by kernel_rfl
  f316 := Tryz.func193.trans (congrArg some (by kernel_rfl))
  t0 := Tryz.underlying0
  a0 := Tryz.isAgg0
  z0 := Tryz.sizeOf0
  v0 := Tryz.zeroValue0
  t3 := Tryz.underlying3
  a3 := Tryz.isAgg3
  z3 := Tryz.sizeOf3
  v3 := Tryz.zeroValue3
  t4 := Tryz.underlying4
  a4 := Tryz.isAgg4
  z4 := Tryz.sizeOf4
  v4 := Tryz.zeroValue4
  t9 := Tryz.underlying9
  a9 := Tryz.isAgg9
  z9 := Tryz.sizeOf9
  v9 := Tryz.zeroValue9
  t37 := Tryz.underlying330
  a37 := Tryz.isAgg330
  z37 := Tryz.sizeOf330
  v37 := Tryz.zeroValue330
  t127 := Tryz.underlying331
  a127 := Tryz.isAgg331
  z127 := Tryz.sizeOf331
  v127 := Tryz.zeroValue331
  t5 := Tryz.underlying5
  a5 := Tryz.isAgg5
  z5 := Tryz.sizeOf5
  v5 := Tryz.zeroValue5
  i0 := by kernel_rfl
  i3 := by kernel_rfl
  i4 := by kernel_rfl
  i5 := by kernel_rfl
  i9 := by kernel_rfl
  i37 := by kernel_rfl
  i127 := by kernel_rfl }
end Go.Proofs
namespace Go.Proofs.YtlehlgipbhfioaaGreat
open Go.RowKit
theorem slClone_any (s : ByteArray) (w : World) (h : s.size ≤ 6) :
    Calls Tryz.prog 193 #[.string s] w fun e w' => e = .returned (.string s) ∧ Below w.heap.size w w' := Any.stringslite_Clone Tryz.laysM316 s w (by omega)

theorem Below.kept0 {w w' : World} (h : Below w.heap.size w w') : Kept (fun _ => False) w w' := ⟨h.os, h.tape, h.output, h.size, fun k hk _ => h.block k hk⟩

set_option maxHeartbeats 400000 in
theorem clone_any (s : ByteArray) (w : World) (h : s.size ≤ 6) :
    Calls Tryz.prog 151 #[.string s] w fun e w' => e = .returned (.string s) ∧ Kept (fun _ => False) w w' := by
  go_enter Tryz.func151, Tryz.ntmps151
  go_wp2_with (go_at_call 193; refine (slClone_any _ _ h).mono ?_; rintro e w2 ⟨rfl, hb⟩)
  go_ret
  exact ⟨rfl, Below.kept0 hb⟩

end Go.Proofs.YtlehlgipbhfioaaGreat

namespace Go.Proofs.YtlehlgipbhfioaaGreat
open Go.RowKit

theorem infoByte : (Tryz.prog.info? 5).map (fun i => (i.zero, i.size, i.bytes)) = some (some (.int .u8 0), 1, 1) := by kernel_rfl

/-- What a builder leaves alone. -/
def BKept (B b : Nat) (w w' : World) : Prop := Below B w w' ∧ Lib.OthersKept 5 (some b) w w'

end Go.Proofs.YtlehlgipbhfioaaGreat

namespace Go.Proofs.YtlehlgipbhfioaaGreat
open Go.RowKit Go.Shelf

/-- Cells of one of some types. -/
def OfTy (tys : TypeId → Prop) (o : Obj) : Prop := ∃ c ty fz, o = Obj.cells c ty fz ∧ tys ty

/-- What an iterator does between two rounds: below B nothing changes, from B on cells stay that are not of type ty. -/
structure Ow (ty : TypeId) (B : Nat) (W W' : World) : Prop where
  os : W'.os = W.os
  tape : W'.tape = W.tape
  output : W'.output = W.output
  size : W.heap.size ≤ W'.heap.size
  same : ∀ (k : Nat) (o : Obj), W.heap[k]? = some o → (k < B ∨ (o.isCells = true ∧ ¬ OfTy (fun t => t = ty) o)) → W'.heap[k]? = some o

/-- What a round keeps: from B on what is no cells, and the cells of some types. -/
structure Kr (tys : TypeId → Prop) (B : Nat) (W W' : World) : Prop where
  size : W.heap.size ≤ W'.heap.size
  same : ∀ (k : Nat) (o : Obj), W.heap[k]? = some o → ((B ≤ k ∧ o.isCells = false) ∨ OfTy tys o) → W'.heap[k]? = some o

theorem Ow.refl (ty : TypeId) (B : Nat) (W : World) : Ow ty B W W := ⟨rfl, rfl, rfl, Nat.le_refl _, fun _ _ h _ => h⟩
theorem Ow.trans {ty : TypeId} {B : Nat} {X Y Z : World} (h : Ow ty B X Y) (k : Ow ty B Y Z) : Ow ty B X Z :=
  ⟨k.os.trans h.os, k.tape.trans h.tape, k.output.trans h.output, Nat.le_trans h.size k.size, fun i o hi ho => k.same i o (h.same i o hi ho) ho⟩
theorem Ow.mono {ty : TypeId} {B B' : Nat} {X Y : World} (h : Ow ty B X Y) (hB : B' ≤ B) : Ow ty B' X Y :=
  ⟨h.os, h.tape, h.output, h.size, fun i o hi ho => h.same i o hi (ho.imp (fun x => by omega) id)⟩
theorem Kr.refl (tys : TypeId → Prop) (B : Nat) (W : World) : Kr tys B W W := ⟨Nat.le_refl _, fun _ _ h _ => h⟩
theorem Kr.trans {tys : TypeId → Prop} {B : Nat} {X Y Z : World} (h : Kr tys B X Y) (k : Kr tys B Y Z) : Kr tys B X Z :=
  ⟨Nat.le_trans h.size k.size, fun i o hi ho => k.same i o (h.same i o hi ho) ho⟩
theorem Kr.mono {tys : TypeId → Prop} {B B' : Nat} {X Y : World} (h : Kr tys B X Y) (hB : B ≤ B') : Kr tys B' X Y :=
  ⟨h.size, fun i o hi ho => h.same i o hi (ho.imp (fun x => ⟨by omega, x.2⟩) id)⟩

theorem OfTy.isCells {tys : TypeId → Prop} {o : Obj} (h : OfTy tys o) : o.isCells = true := by
  obtain ⟨c, ty, fz, rfl, _⟩ := h
  rfl

/-- A block that is no cells is laid anew. -/
theorem Ow.putObj {ty : TypeId} {B : Nat} {W : World} {l : Nat} {o : Obj} (o' : Obj) (hB : B ≤ l) (hl : W.heap[l]? = some o) (ho : o.isCells = false) : Ow ty B W (W.putObj l o') := by
  refine ⟨rfl, rfl, rfl, by simp, fun k x hk hx => ?_⟩
  rw [World.putObj_heap_other]
  · exact hk
  · rintro rfl
    rcases hx with hx | hx
    · omega
    · rw [hl] at hk
      cases hk
      rw [ho] at hx
      cases hx.1
theorem Kr.putObj {tys : TypeId → Prop} {B : Nat} {W : World} {l : Nat} {o : Obj} (o' : Obj) (hB : l < B) (hl : W.heap[l]? = some o) (ho : o.isCells = false) : Kr tys B W (W.putObj l o') := by
  refine ⟨by simp, fun k x hk hx => ?_⟩
  rw [World.putObj_heap_other]
  · exact hk
  · rintro rfl
    rcases hx with hx | hx
    · omega
    · rw [hl] at hk
      cases hk
      rw [hx.isCells] at ho
      cases ho
theorem Ow.alloc {ty : TypeId} {B : Nat} (W : World) (o : Obj) : Ow ty B W (W.alloc o) :=
  ⟨rfl, rfl, rfl, by simp, fun k _ hk _ => (Below.heap_alloc W o k (Array.getElem?_eq_some_iff.1 hk).1).trans hk⟩
theorem Kr.alloc {tys : TypeId → Prop} {B : Nat} (W : World) (o : Obj) : Kr tys B W (W.alloc o) :=
  ⟨by simp, fun k _ hk _ => (Below.heap_alloc W o k (Array.getElem?_eq_some_iff.1 hk).1).trans hk⟩

/-- An iterator whose elements are tr, in this order, under a body that always goes on. -/
def SeqT {α : Type} (n : Nat) (P : Program) (tys : TypeId → Prop) (ty : TypeId) (g : Nat) (lb : Array Value) (encs : α → Array Value) (tr : List α) (w : World) : Prop :=
  ∀ (l : Nat) (J : Nat → World → Prop) (W : World), Below w.heap.size w W → (∀ i A B, J i A → Ow ty W.heap.size A B → J i B) →
    (∀ i x W1, tr[i]? = some x → J i W1 → YieldAt Fence.wide (n - 1) P l (encs x) W1 fun e W' => e = .returned (.bool true) ∧ J (i + 1) W' ∧ Kr tys W.heap.size W1 W') →
    J 0 W → CallsIn Fence.wide n P g (#[.func (.yield l) #[] #[]] ++ lb) W fun e W' => (∃ v, e = .returned v) ∧ J tr.length W'

/-- How the body of a round ends. -/
def goesOn (tys : TypeId → Prop) (B : Nat) (I : World → Prop) (W : World) : Exit → Act → World → Prop
  | .normal, _, W' => Kr tys B W W' ∧ I W'
  | _, _, _ => False

theorem rangeT {α : Type} {n : Nat} {P : Program} {tys : TypeId → Prop} {ty : TypeId} {g : Operand} {ps : Array Tmp} {assign body : Code} {Q : Exit → Act → World → Prop} {a : Act} {w : World}
    (h1 : 1 ≤ n) {gf : Nat} {lb : Array Value} (hg : a.eval g = .func (.func gf) #[] lb) (eg : ∀ args w, (callFunc gf args).run P w = .ok (.enter gf args) w)
    {encs : α → Array Value} {tr : List α} {w0 : World} (hseq : SeqT (n - 1) P tys ty gf lb encs tr w0) (hb0 : Below w0.heap.size w0 w) (hps : ∀ x, (encs x).size = ps.size)
    (I : Nat → World → Prop) (hI : ∀ i A B, I i A → Ow ty w.heap.size A B → I i B) (h0 : I 0 w) (a₁ : α → Act)
    (hassign : ∀ (l : Nat) (x : α) (W : World) (K : Act → World → Prop), K (a₁ x) W →
      assign.wpIn (Fence.wide.inRound l) (n - 1 - 1) P (Exit.then K (fun _ _ _ => False)) { tmps := (ps.zip (encs x)).foldl (fun t (p, v) => t.setIfInBounds p v) a.tmps, defers := [] } W)
    (hbody : ∀ (l i : Nat) (x : α) (W : World), tr[i]? = some x → w.heap.size ≤ W.heap.size → I i W → body.wpIn (Fence.wide.inRound l) (n - 1 - 1) P (goesOn tys w.heap.size (I (i + 1)) W) (a₁ x) W)
    (hdone : ∀ (D : Nat) (W : World), w.heap.size ≤ D → I tr.length W → W.heap[D]? = some (.deferred (some [])) → Q .normal { a with defers := { target := .collected D, args := #[] } :: a.defers } W) :
    (Code.rangeFunc g ps assign body).wpIn Fence.wide n P Q a w := by
  refine wpIn_rangeFunc ?_
  intro fn hfn
  show ∃ _, _
  rw [show Fence.wide.round = none from rfl]
  obtain ⟨rec, hrec⟩ : ∃ rec : LoopState → Option Code → Loop, rec = fun st pe => { state := st, pending := pe, fn, tmps := a.tmps, params := ps, assign, body, defers := w.heap.size } := ⟨_, rfl⟩
  obtain ⟨W1, hW1⟩ : ∃ W1, (w.alloc (.deferred (some []))).alloc (.loop (rec .ready none)) = W1 := ⟨_, rfl⟩
  have hsz : W1.heap.size = w.heap.size + 2 := by rw [← hW1]; simp
  have hL1 : W1.heap[w.heap.size + 1]? = some (.loop (rec .ready none)) := by
    have := World.alloc_heap_new (w.alloc (.deferred (some []))) (.loop (rec .ready none))
    rw [World.size_alloc, hW1] at this
    exact this
  have hD1 : W1.heap[w.heap.size]? = some (.deferred (some [])) := by
    rw [← hW1]
    exact (Below.heap_alloc _ _ _ (by simp)).trans (World.alloc_heap_new w _)
  have hO1 : Ow ty w.heap.size w W1 := by rw [← hW1]; exact (Ow.alloc w _).trans (Ow.alloc _ _)
  have hb1 : Below w0.heap.size w0 W1 := by
    rw [← hW1]
    exact hb0.trans ((((Below.refl _ w).alloc (Nat.le_refl _) _).alloc (by simp) _).mono hb0.size)
  refine ⟨w.heap.size + 1, [{ target := .collected w.heap.size, args := #[] }], W1, { target := .fn (.func gf) lb, args := #[.func (.yield (w.heap.size + 1)) #[] #[]] }, W1, gf, #[.func (.yield (w.heap.size + 1)) #[] #[]] ++ lb, W1, ?_, ?_, ?_, ?_, fun _ => h1, ?_⟩
  · rw [← hW1, hrec]; exact run_enterLoop_outer _ _ _ _ _
  · simp only [resolve, hg]
    simp [go_sem]
  · intro f' _; trivial
  · simp [invoke, go_sem, eg]
  · refine (hseq (w.heap.size + 1) (fun i W => I i W ∧ W.heap[w.heap.size + 1]? = some (.loop (rec .ready none)) ∧ W.heap[w.heap.size]? = some (.deferred (some [])) ∧ w.heap.size ≤ W.heap.size) W1 hb1 ?_ ?_ ⟨hI 0 _ _ h0 hO1, hL1, hD1, by omega⟩).mono ?_
    · rintro i A B ⟨hi, hl, hd, hs⟩ hO
      exact ⟨hI i A B hi (hO.mono (by omega)), hO.same _ _ hl (Or.inl (by omega)), hO.same _ _ hd (Or.inl (by omega)), Nat.le_trans hs hO.size⟩
    · rintro i x W hx ⟨hi, hl, hd, hs⟩
      have hlt : w.heap.size + 1 < W.heap.size := (Array.getElem?_eq_some_iff.1 hl).1
      have hy := run_yield (P := P) (args := encs x) hl (by rw [hrec]; exact hps x)
      rw [hrec] at hy
      refine ⟨fn, _, assign, body, hy, roundIn_of_wpIn hfn (hassign _ x W _ ?_)⟩
      clear hy
      refine ⟨_, run_beginRound hl (by rw [hrec]), ?_⟩
      obtain ⟨W2, hW2⟩ : ∃ W2, W.putObj (w.heap.size + 1) (.loop { rec .ready none with state := .busy }) = W2 := ⟨_, rfl⟩
      have hl2 : W2.heap[w.heap.size + 1]? = some (.loop { rec .ready none with state := .busy }) := by rw [← hW2]; exact World.putObj_heap_same hlt
      have hd2 : W2.heap[w.heap.size]? = some (.deferred (some [])) := by rw [← hW2]; exact (World.putObj_heap_other (by omega)).trans hd
      have hO2 : Ow ty w.heap.size W W2 := by rw [← hW2]; exact Ow.putObj _ (by omega) hl rfl
      have hK2 : Kr tys W1.heap.size W W2 := by rw [← hW2]; exact Kr.putObj _ (by omega) hl rfl
      rw [hW2]
      refine wpIn_mono (hbody _ i x W2 hx (Nat.le_trans hs hO2.size) (hI i _ _ hi hO2)) ?_
      rintro e a3 W3 hp
      cases e with
      | normal =>
        obtain ⟨hk3, hi3⟩ := hp
        have hl3 := hk3.same _ _ hl2 (Or.inl ⟨by omega, rfl⟩)
        have hd3 := hk3.same _ _ hd2 (Or.inl ⟨by omega, rfl⟩)
        have hlt3 := (Array.getElem?_eq_some_iff.1 hl3).1
        have hr := run_endRound (P := P) none hl3
        refine ⟨_, _, hr, rfl, ⟨hI _ _ _ hi3 (Ow.putObj _ (by omega) hl3 rfl), ?_, (World.putObj_heap_other (by omega)).trans hd3, by simp; omega⟩, (hK2.trans (hk3.mono (by omega))).trans (Kr.putObj _ (by omega) hl3 rfl)⟩
        rw [World.putObj_heap_same hlt3, hrec]
        rfl
      | ret => exact hp.elim
      | exit id => exact hp.elim
      | goto t => exact hp.elim
      | panic ch => exact hp.elim
      | outgrown => exact hp.elim
    · rintro e W2 ⟨⟨v, rfl⟩, hi, hl, hd, hs⟩
      exact ⟨none, _, by have := run_endLoop (P := P) hl (by rw [hrec]; simp); rw [hrec] at this; exact this, hdone _ _ (Nat.le_refl _) (hI _ _ _ hi (Ow.putObj _ (by omega) hl rfl)) ((World.putObj_heap_other (by omega)).trans hd)⟩

end Go.Proofs.YtlehlgipbhfioaaGreat

namespace Go.Proofs.YtlehlgipbhfioaaGreat
open Go.RowKit

def opp (l : Nat) : Nat := if l % 2 = 0 then l + 1 else l - 1

theorem xor_one (l : Nat) : l ^^^ 1 = opp l := by
  unfold opp
  have h : (l ^^^ 1) % 2 = (l % 2 + 1) % 2 := by
    have h0 := Nat.testBit_xor l 1 0
    simp only [Nat.testBit_zero] at h0
    rcases Nat.mod_two_eq_zero_or_one (l ^^^ 1) with a | a <;> rcases Nat.mod_two_eq_zero_or_one l with b | b <;> simp [a, b] at h0 ⊢
  have h2 : (l ^^^ 1) / 2 = l / 2 := by
    have : (l ^^^ 1) / 2 = l / 2 ^^^ 1 / 2 := Nat.xor_div_two
    simpa using this
  split <;> omega
theorem i32_xor_one (l : Nat) (hl : l < 1073741824) : bits .xor .i32 (l : Int) 1 = (opp l : Int) := by
  have h1 : (BitVec.ofInt 32 (l : Int)).toNat = l := by
    rw [BitVec.ofInt_natCast, BitVec.toNat_ofNat]; exact Nat.mod_eq_of_lt (by omega)
  have h2 : (BitVec.ofInt 32 (1 : Int)).toNat = 1 := by decide
  have hw : ∀ n : Nat, n < 2147483648 → IntKind.i32.wrap (n : Int) = (n : Int) := fun n hn => by
    simp [IntKind.wrap, IntKind.bits, IntKind.signed]
    omega
  show IntKind.i32.wrap ((BitVec.ofInt 32 (l : Int) ^^^ BitVec.ofInt 32 (1 : Int)).toNat : Int) = _
  rw [BitVec.toNat_xor, h1, h2, xor_one]
  exact hw _ (by unfold opp; split <;> omega)

set_option maxHeartbeats 400000 in
theorem opp_in (w : World) (l : Nat) (hl : l < 1073741824) : Calls Tryz.prog 177 #[.int .i32 (l : Int)] w fun e w' => e = .returned (.int .i32 (opp l : Int)) ∧ w = w' := by
  have hx := i32_xor_one l hl
  go_enter Tryz.func177, Tryz.ntmps177
  go_wp2
  go_ret
  exact ⟨by simp, rfl⟩
set_option maxHeartbeats 400000 in
theorem var_in (w : World) (l : Nat) : Calls Tryz.prog 200 #[.int .i32 (l : Int)] w fun e w' => e = .returned (.int .i32 ((l / 2 : Nat) : Int)) ∧ w = w' := by
  have h2 : ((l / 2 : Nat) : Int) = (l : Int) / 2 := by omega
  go_enter Tryz.func200, Tryz.ntmps200
  go_wp2
  go_ret
  exact ⟨by rw [h2]; rfl, rfl⟩
/-- The literal of a variable. -/
def litV (v : Nat) (t : Int) : Nat := if t = -1 then 2 * v + 1 else 2 * v
set_option maxHeartbeats 400000 in
theorem is_in (w : World) (v : Nat) (t : Int) (hv : v < 268435456) : Calls Tryz.prog 131 #[.int .i32 (v : Int), .int .i8 t] w fun e w' => e = .returned (.int .i32 (litV v t : Int)) ∧ w = w' := by
  have hx := i32_xor_one (2 * v) (by omega)
  have ho : opp (2 * v) = 2 * v + 1 := by unfold opp; rw [if_pos (by omega)]
  rw [ho, show ((2 * v : Nat) : Int) = (v : Int) * 2 by omega] at hx
  have HL : Hid (litV v t = _) := litV.eq_1 v t
  clear ho
  by_cases ht : t = -1
  · subst ht
    go_enter Tryz.func131, Tryz.ntmps131
    go_wp2
    go_ret
    rw [show litV v (-1) = 2 * v + 1 from rfl]
    exact ⟨by simp, rfl⟩
  · have d : (t == -1) = false := by simpa using ht
    go_enter Tryz.func131, Tryz.ntmps131
    go_wp2
    go_ret
    rw [HL.out, if_neg ht]
    exact ⟨by simp; omega, rfl⟩
/-- The literal of a number. -/
def litN (x : Int) : Nat := if x < 0 then 2 * x.natAbs + 1 else 2 * x.natAbs
set_option maxHeartbeats 400000 in
theorem litOf_in (w : World) (x : Int) (h1 : -2000 ≤ x) (h2 : x ≤ 2000) : Calls Tryz.prog 87 #[.int .i64 x] w fun e w' => e = .returned (.int .i32 (litN x : Int)) ∧ w = w' := by
  have HL : Hid (litN x = _) := litN.eq_1 x
  by_cases hx : x < 0
  · have d : decide (x < 0) = true := decide_eq_true hx
    obtain ⟨v, rfl⟩ : ∃ v : Nat, x = -(v : Int) := ⟨x.natAbs, by omega⟩
    have I1 := is_in w v (-1) (by omega)
    have w1 : IntKind.i64.wrap (-(-(v : Int))) = (v : Int) := by rw [IntKind.wrap_i64]; omega
    have w2 : IntKind.i32.wrap (v : Int) = (v : Int) := by simp [IntKind.wrap, IntKind.bits, IntKind.signed]; omega
    go_enter Tryz.func87, Tryz.ntmps87
    go_wp2_with (first | (go_at_call 131; refine I1.mono ?_; rintro e w2 ⟨rfl, rfl⟩))
    go_ret
    rw [show litN (-(v : Int)) = 2 * v + 1 by unfold litN; rw [if_pos (by omega)]; simp]
    exact ⟨by simp [litV], rfl⟩
  · have d : decide (x < 0) = false := decide_eq_false hx
    obtain ⟨v, rfl⟩ : ∃ v : Nat, x = (v : Int) := ⟨x.natAbs, by omega⟩
    have I1 := is_in w v 1 (by omega)
    have w2 : IntKind.i32.wrap (v : Int) = (v : Int) := by simp [IntKind.wrap, IntKind.bits, IntKind.signed]; omega
    go_enter Tryz.func87, Tryz.ntmps87
    go_wp2_with (first | (go_at_call 131; refine I1.mono ?_; rintro e w2 ⟨rfl, rfl⟩))
    go_ret
    rw [show litN (v : Int) = 2 * v by unfold litN; rw [if_neg (by omega)]; simp]
    exact ⟨by simp [litV], rfl⟩

end Go.Proofs.YtlehlgipbhfioaaGreat

namespace Go.Proofs.YtlehlgipbhfioaaGreat
open Go.RowKit Go.Shelf

theorem rangeTB {α : Type} {n : Nat} {P : Program} {tys : TypeId → Prop} {ty : TypeId} {g : Operand} {ps : Array Tmp} {assign body : Code} {Q : Exit → Act → World → Prop} {a : Act} {w : World}
    (h1 : 1 ≤ n) {gf : Nat} {lb : Array Value} (hg : a.eval g = .func (.func gf) #[] lb) (eg : ∀ args w, (callFunc gf args).run P w = .ok (.enter gf args) w)
    {encs : α → Array Value} {tr : List α} {w0 : World} (hseq : SeqT (n - 1) P tys ty gf lb encs tr w0) (hb0 : Below w0.heap.size w0 w) (hps : ∀ x, (encs x).size = ps.size)
    (I : Nat → World → Prop) (hI : ∀ i A B, I i A → Ow ty w.heap.size A B → I i B) (h0 : I 0 w) (a₁ : α → Nat → Act) (C : α → Obj) (hC : ∀ x, (C x).isCells = true ∧ ¬ OfTy (fun t => t = ty) (C x))
    (hassign : ∀ (l : Nat) (x : α) (W : World) (K : Act → World → Prop), w.heap.size ≤ W.heap.size → (∀ W1, Ow ty w.heap.size W W1 → Kr tys w.heap.size W W1 → W1.heap[W.heap.size]? = some (C x) → K (a₁ x W.heap.size) W1) →
      assign.wpIn (Fence.wide.inRound l) (n - 1 - 1) P (Exit.then K (fun _ _ _ => False)) { tmps := (ps.zip (encs x)).foldl (fun t (p, v) => t.setIfInBounds p v) a.tmps, defers := [] } W)
    (hbody : ∀ (l i s : Nat) (x : α) (W : World), tr[i]? = some x → w.heap.size ≤ s → W.heap[s]? = some (C x) → I i W → body.wpIn (Fence.wide.inRound l) (n - 1 - 1) P (goesOn tys w.heap.size (I (i + 1)) W) (a₁ x s) W)
    (hdone : ∀ (D : Nat) (W : World), w.heap.size ≤ D → I tr.length W → W.heap[D]? = some (.deferred (some [])) → Q .normal { a with defers := { target := .collected D, args := #[] } :: a.defers } W) :
    (Code.rangeFunc g ps assign body).wpIn Fence.wide n P Q a w := by
  refine wpIn_rangeFunc ?_
  intro fn hfn
  show ∃ _, _
  rw [show Fence.wide.round = none from rfl]
  obtain ⟨rec, hrec⟩ : ∃ rec : LoopState → Option Code → Loop, rec = fun st pe => { state := st, pending := pe, fn, tmps := a.tmps, params := ps, assign, body, defers := w.heap.size } := ⟨_, rfl⟩
  obtain ⟨W1, hW1⟩ : ∃ W1, (w.alloc (.deferred (some []))).alloc (.loop (rec .ready none)) = W1 := ⟨_, rfl⟩
  have hsz : W1.heap.size = w.heap.size + 2 := by rw [← hW1]; simp
  have hL1 : W1.heap[w.heap.size + 1]? = some (.loop (rec .ready none)) := by
    have := World.alloc_heap_new (w.alloc (.deferred (some []))) (.loop (rec .ready none))
    rw [World.size_alloc, hW1] at this
    exact this
  have hD1 : W1.heap[w.heap.size]? = some (.deferred (some [])) := by
    rw [← hW1]
    exact (Below.heap_alloc _ _ _ (by simp)).trans (World.alloc_heap_new w _)
  have hO1 : Ow ty w.heap.size w W1 := by rw [← hW1]; exact (Ow.alloc w _).trans (Ow.alloc _ _)
  have hb1 : Below w0.heap.size w0 W1 := by
    rw [← hW1]
    exact hb0.trans ((((Below.refl _ w).alloc (Nat.le_refl _) _).alloc (by simp) _).mono hb0.size)
  refine ⟨w.heap.size + 1, [{ target := .collected w.heap.size, args := #[] }], W1, { target := .fn (.func gf) lb, args := #[.func (.yield (w.heap.size + 1)) #[] #[]] }, W1, gf, #[.func (.yield (w.heap.size + 1)) #[] #[]] ++ lb, W1, ?_, ?_, ?_, ?_, fun _ => h1, ?_⟩
  · rw [← hW1, hrec]; exact run_enterLoop_outer _ _ _ _ _
  · simp only [resolve, hg]
    simp [go_sem]
  · intro f' _; trivial
  · simp [invoke, go_sem, eg]
  · refine (hseq (w.heap.size + 1) (fun i W => I i W ∧ W.heap[w.heap.size + 1]? = some (.loop (rec .ready none)) ∧ W.heap[w.heap.size]? = some (.deferred (some [])) ∧ w.heap.size ≤ W.heap.size) W1 hb1 ?_ ?_ ⟨hI 0 _ _ h0 hO1, hL1, hD1, by omega⟩).mono ?_
    · rintro i A B ⟨hi, hl, hd, hs⟩ hO
      exact ⟨hI i A B hi (hO.mono (by omega)), hO.same _ _ hl (Or.inl (by omega)), hO.same _ _ hd (Or.inl (by omega)), Nat.le_trans hs hO.size⟩
    · rintro i x W hx ⟨hi, hl, hd, hs⟩
      have hy := run_yield (P := P) (args := encs x) hl (by rw [hrec]; exact hps x)
      rw [hrec] at hy
      refine ⟨fn, _, assign, body, hy, roundIn_of_wpIn hfn (hassign _ x W _ hs ?_)⟩
      clear hy
      intro Wa hOa hKa hCa
      have hla := hKa.same _ _ hl (Or.inl ⟨by omega, rfl⟩)
      have hda := hKa.same _ _ hd (Or.inl ⟨by omega, rfl⟩)
      have hlt : w.heap.size + 1 < Wa.heap.size := (Array.getElem?_eq_some_iff.1 hla).1
      refine ⟨_, run_beginRound hla (by rw [hrec]), ?_⟩
      obtain ⟨W2, hW2⟩ : ∃ W2, Wa.putObj (w.heap.size + 1) (.loop { rec .ready none with state := .busy }) = W2 := ⟨_, rfl⟩
      have hl2 : W2.heap[w.heap.size + 1]? = some (.loop { rec .ready none with state := .busy }) := by rw [← hW2]; exact World.putObj_heap_same hlt
      have hd2 : W2.heap[w.heap.size]? = some (.deferred (some [])) := by rw [← hW2]; exact (World.putObj_heap_other (by omega)).trans hda
      have hO2 : Ow ty w.heap.size Wa W2 := by rw [← hW2]; exact Ow.putObj _ (by omega) hla rfl
      have hK2 : Kr tys W1.heap.size Wa W2 := by rw [← hW2]; exact Kr.putObj _ (by omega) hla rfl
      rw [hW2]
      refine wpIn_mono (hbody _ i W.heap.size x W2 hx hs (hO2.same _ _ hCa (Or.inr (hC x))) (hI i _ _ (hI i _ _ hi hOa) hO2)) ?_
      rintro e a3 W3 hp
      cases e with
      | normal =>
        obtain ⟨hk3, hi3⟩ := hp
        have hl3 := hk3.same _ _ hl2 (Or.inl ⟨by omega, rfl⟩)
        have hd3 := hk3.same _ _ hd2 (Or.inl ⟨by omega, rfl⟩)
        have hlt3 := (Array.getElem?_eq_some_iff.1 hl3).1
        have hr := run_endRound (P := P) none hl3
        refine ⟨_, _, hr, rfl, ⟨hI _ _ _ hi3 (Ow.putObj _ (by omega) hl3 rfl), ?_, (World.putObj_heap_other (by omega)).trans hd3, ?_⟩, (((hKa.mono (by omega)).trans hK2).trans (hk3.mono (by omega))).trans (Kr.putObj _ (by omega) hl3 rfl)⟩
        · rw [World.putObj_heap_same hlt3, hrec]
          rfl
        · simp; omega
      | ret => exact hp.elim
      | exit id => exact hp.elim
      | goto t => exact hp.elim
      | panic ch => exact hp.elim
      | outgrown => exact hp.elim
    · rintro e W2 ⟨⟨v, rfl⟩, hi, hl, hd, hs⟩
      exact ⟨none, _, by have := run_endLoop (P := P) hl (by rw [hrec]; simp); rw [hrec] at this; exact this, hdone _ _ (Nat.le_refl _) (hI _ _ _ hi (Ow.putObj _ (by omega) hl rfl)) ((World.putObj_heap_other (by omega)).trans hd)⟩

end Go.Proofs.YtlehlgipbhfioaaGreat

namespace Go.Proofs.YtlehlgipbhfioaaGreat
open Go.RowKit Go.Maps

/-- A block, its type, its cells. -/
abbrev Ent := Nat × TypeId × List Value
structure Own (W : World) (L : List Ent) : Prop where
  nodup : (L.map (fun e => e.1)).Nodup
  holds : ∀ e ∈ L, W.heap[e.1]? = some (Obj.cells e.2.2.toArray e.2.1 (0, 0))

theorem Own.lt {W : World} {L : List Ent} (h : Own W L) {e : Ent} (he : e ∈ L) : e.1 < W.heap.size := (Array.getElem?_eq_some_iff.1 (h.holds e he)).1
theorem Own.cell {W : World} {L : List Ent} (h : Own W L) {b : Nat} {ty : TypeId} {cs : List Value} (he : (b, ty, cs) ∈ L) {i : Nat} {v : Value} (hi : cs[i]? = some v) : W.cell? ⟨b, i, none⟩ = some v := by
  have := h.holds _ he
  simp only at this
  simp [World.cell?, this, hi]
theorem Own.frozen {W : World} {L : List Ent} (h : Own W L) {b : Nat} {ty : TypeId} {cs : List Value} (he : (b, ty, cs) ∈ L) (i : Nat) : W.frozen? ⟨b, i, none⟩ = false := by
  have := h.holds _ he
  simp only at this
  have hr : W.rowIs b ty cs.length (fun j => cs[j]?.getD undef) := ⟨cs.toArray, this, by simp, fun j hj => by simp [hj]⟩
  exact hr.frozen i
theorem Own.rowIs {W : World} {L : List Ent} (h : Own W L) {b : Nat} {ty : TypeId} {cs : List Value} (he : (b, ty, cs) ∈ L) : W.rowIs b ty cs.length (fun j => cs[j]?.getD undef) :=
  ⟨cs.toArray, h.holds _ he, by simp, fun j hj => by simp [hj]⟩
theorem Own.keep {W W' : World} {L : List Ent} (h : Own W L) (hb : ∀ e ∈ L, W'.heap[e.1]? = W.heap[e.1]?) : Own W' L := ⟨h.nodup, fun e he => (hb e he).trans (h.holds e he)⟩
theorem Own.kept {W W' : World} {L : List Ent} {S : Nat → Prop} (h : Own W L) (K : Kept S W W') (hs : ∀ e ∈ L, ¬ S e.1) : Own W' L := h.keep (fun e he => K.block _ (h.lt he) (hs e he))

theorem mem_key {L : List Ent} (h : (L.map (fun e => e.1)).Nodup) {k : Nat} {e e' : Ent} (hk : L[k]? = some e) (he' : e' ∈ L.set k e) (hb : e'.1 = e.1) : e' = e := by
  obtain ⟨j, hj⟩ := List.getElem?_of_mem he'
  have hkl := (List.getElem?_eq_some_iff.1 hk).1
  by_cases ejk : k = j
  · subst ejk
    rw [List.getElem?_set_self hkl] at hj
    cases hj
    rfl
  · rw [List.getElem?_set_ne ejk] at hj
    have h1 : (L.map (fun e => e.1))[k]? = some e.1 := by rw [List.getElem?_map, hk]; rfl
    have h2 : (L.map (fun e => e.1))[j]? = some e'.1 := by rw [List.getElem?_map, hj]; rfl
    obtain ⟨a1, b1⟩ := List.getElem?_eq_some_iff.1 h1
    obtain ⟨a2, b2⟩ := List.getElem?_eq_some_iff.1 h2
    exact absurd ((List.getElem_inj h).1 (b1.trans (hb.symm.trans b2.symm))) ejk

/-- One block is others' cells: all else stays. -/
theorem Own.put {W W' : World} {L : List Ent} (h : Own W L) {k : Nat} {b : Nat} {ty : TypeId} {cs cs' : List Value} (hk : L[k]? = some (b, ty, cs)) (hb : W'.heap[b]? = some (Obj.cells cs'.toArray ty (0, 0))) (ho : ∀ e ∈ L, e.1 ≠ b → W'.heap[e.1]? = W.heap[e.1]?) : Own W' (L.set k (b, ty, cs')) := by
  have hkl := (List.getElem?_eq_some_iff.1 hk).1
  refine ⟨?_, fun e he => ?_⟩
  · have : (L.set k (b, ty, cs')).map (fun e => e.1) = L.map (fun e => e.1) := by
      rw [List.map_set]
      apply List.ext_getElem?
      intro j
      by_cases e : k = j
      · subst e
        rw [List.getElem?_set_self (by simpa using hkl), List.getElem?_map, hk]
        rfl
      · rw [List.getElem?_set_ne e]
    rw [this]
    exact h.nodup
  · obtain ⟨j, hj⟩ := List.getElem?_of_mem he
    by_cases ejk : k = j
    · subst ejk
      rw [List.getElem?_set_self hkl] at hj
      cases hj
      exact hb
    · rw [List.getElem?_set_ne ejk] at hj
      have hm := List.mem_of_getElem? hj
      refine (ho e hm (fun e2 => ?_)).trans (h.holds e hm)
      have h1 : (L.map (fun e => e.1))[k]? = some b := by rw [List.getElem?_map, hk]; rfl
      have h2 : (L.map (fun e => e.1))[j]? = some e.1 := by rw [List.getElem?_map, hj]; rfl
      obtain ⟨a1, b1⟩ := List.getElem?_eq_some_iff.1 h1
      obtain ⟨a2, b2⟩ := List.getElem?_eq_some_iff.1 h2
      exact ejk ((List.getElem_inj h.nodup).1 (b1.trans (e2.symm.trans b2.symm)))
/-- A cell is set. -/
theorem Own.set {W : World} {L : List Ent} (h : Own W L) {k : Nat} {b : Nat} {ty : TypeId} {cs : List Value} (hk : L[k]? = some (b, ty, cs)) (i : Nat) (v : Value) : Own (W.setCell ⟨b, i, none⟩ v) (L.set k (b, ty, cs.set i v)) := by
  refine h.put hk ?_ (fun e _ hne => Below.heap_setCell _ _ _ _ hne)
  have hb := h.holds _ (List.mem_of_getElem? hk)
  have hlt := h.lt (List.mem_of_getElem? hk)
  simp only at hb hlt
  unfold World.setCell
  simp [Array.getElem?_modify, hb]
/-- A block more. -/
theorem Own.alloc {W : World} {L : List Ent} (h : Own W L) (ty : TypeId) (cs : List Value) : Own (W.alloc (.cells cs.toArray ty)) (L ++ [(W.heap.size, ty, cs)]) := by
  refine ⟨?_, fun e he => ?_⟩
  · rw [List.map_append, List.nodup_append]
    refine ⟨h.nodup, by simp, fun a ha b hb => ?_⟩
    simp at hb
    subst hb
    obtain ⟨e, he, rfl⟩ := List.mem_map.1 ha
    have := h.lt he
    omega
  · rcases List.mem_append.1 he with he | he
    · exact (Below.heap_alloc W _ _ (h.lt he)).trans (h.holds e he)
    · obtain rfl := List.mem_singleton.1 he
      exact World.alloc_heap_new W _
theorem Own.other {W : World} {L : List Ent} (h : Own W L) (o : Obj) : Own (W.alloc o) L := h.keep (fun _ he => Below.heap_alloc W o _ (h.lt he))
/-- In another order, or less. -/
theorem Own.sub {W : World} {L L' : List Ent} (h : Own W L) (hs : L'.Sublist L) : Own W L' := ⟨h.nodup.sublist (hs.map _), fun e he => h.holds e (hs.subset he)⟩
theorem Own.perm {W : World} {L L' : List Ent} (h : Own W L) (hp : L.Perm L') : Own W L' := ⟨(hp.map _).nodup_iff.1 h.nodup, fun e he => h.holds e (hp.mem_iff.2 he)⟩

end Go.Proofs.YtlehlgipbhfioaaGreat

namespace Go.Proofs.YtlehlgipbhfioaaGreat
open Go.RowKit Go.Maps

/-- A search. -/
structure Sv where
  n : Nat
  vals : List Int
  ws : List (List (Nat × Nat))
  cl : List (List Nat)
  trail : List Nat
  starts : List Nat
  seen : Nat
  hp : List Nat
  fin : Bool

namespace Sv
def val (s : Sv) (l : Nat) : Int := s.vals[l]?.getD 0
def wat (s : Sv) (l : Nat) : List (Nat × Nat) := s.ws[l]?.getD []
def lits (s : Sv) (c : Nat) : List Nat := s.cl[c]?.getD []
def assign (s : Sv) (l : Nat) : Sv := { s with vals := (s.vals.set l 1).set (opp l) (-1), trail := s.trail ++ [l] }
/-- A literal watches one clause more. -/
def addW (s : Sv) (l c o : Nat) : Sv := { s with ws := s.ws.set l (s.wat l ++ [(c, o)]) }
def watch (s : Sv) (c : Nat) : Sv := (s.addW ((s.lits c)[0]?.getD 0) c ((s.lits c)[1]?.getD 0)).addW ((s.lits c)[1]?.getD 0) c ((s.lits c)[0]?.getD 0)
def addFact (s : Sv) (l : Nat) : Sv := if s.val l = -1 then { s with fin := true } else if s.val l = 0 then s.assign l else s
/-- A clause is taken in. -/
def add (s : Sv) (ls : List Nat) : Sv :=
  match ls with
  | [] => { s with cl := s.cl ++ [ls], fin := true }
  | [l] => Sv.addFact { s with cl := s.cl ++ [ls] } l
  | _ => Sv.watch { s with cl := s.cl ++ [ls] } s.cl.length
/-- The first literal from i on that is not false. -/
def free (s : Sv) : List Nat → Nat → Option Nat
  | [], _ => none
  | l :: ls, i => if s.val l ≠ -1 then some i else free s ls (i + 1)
def front (ls : List Nat) (gone : Nat) : List Nat := if ls[0]?.getD 0 = gone then (ls.set 0 (ls[1]?.getD 0)).set 1 gone else ls
def moves (s : Sv) (c gone : Nat) : Bool × Sv :=
  if s.val ((front (s.lits c) gone)[0]?.getD 0) = 1 then (false, { s with cl := s.cl.set c (front (s.lits c) gone) })
  else match s.free ((front (s.lits c) gone).drop 2) 2 with
    | none => (false, { s with cl := s.cl.set c (front (s.lits c) gone) })
    | some i => (true, Sv.addW { s with cl := s.cl.set c (((front (s.lits c) gone).set 1 ((front (s.lits c) gone)[i]?.getD 0)).set i gone) } ((front (s.lits c) gone)[i]?.getD 0) c ((front (s.lits c) gone)[0]?.getD 0))
/-- The watches of a literal that is false are gone through. -/
def visitL (gone : Nat) : List (Nat × Nat) → List (Nat × Nat) → Sv → Option Nat × Sv
  | [], stay, s => (none, { s with ws := s.ws.set gone stay })
  | w :: rest, stay, s =>
    if s.val w.2 = 1 then visitL gone rest (stay ++ [w]) s
    else if (s.moves w.1 gone).1 then visitL gone rest stay (s.moves w.1 gone).2
    else if (s.moves w.1 gone).2.val (((s.moves w.1 gone).2.lits w.1)[0]?.getD 0) = 0 then
      visitL gone rest (stay ++ [(w.1, ((s.moves w.1 gone).2.lits w.1)[0]?.getD 0)]) ((s.moves w.1 gone).2.assign (((s.moves w.1 gone).2.lits w.1)[0]?.getD 0))
    else if (s.moves w.1 gone).2.val (((s.moves w.1 gone).2.lits w.1)[0]?.getD 0) = -1 then
      (some w.1, { (s.moves w.1 gone).2 with ws := (s.moves w.1 gone).2.ws.set gone (stay ++ [(w.1, ((s.moves w.1 gone).2.lits w.1)[0]?.getD 0)] ++ rest) })
    else visitL gone rest (stay ++ [(w.1, ((s.moves w.1 gone).2.lits w.1)[0]?.getD 0)]) (s.moves w.1 gone).2
def visit (s : Sv) (gone : Nat) : Option Nat × Sv := visitL gone (s.wat gone) [] s
def follow : Nat → Sv → Option (Option Nat × Sv)
  | 0, _ => none
  | f + 1, s => match s.trail[s.seen]? with
    | none => some (none, s)
    | some l => match Sv.visit { s with seen := s.seen + 1 } (opp l) with
      | (some c, s') => some (some c, s')
      | (none, s') => follow f s'
/-- The next variable of the heap (no score is above another). -/
def pop (s : Sv) : Option Nat × Sv :=
  if s.hp.length ≤ 1 then (none, s)
  else (some (s.hp[1]?.getD 0), { s with hp := (s.hp.set 1 (s.hp[s.hp.length - 1]?.getD 0)).take (s.hp.length - 1) })
def tryN : Nat → Sv → Option (Bool × Sv)
  | 0, _ => none
  | f + 1, s => match s.pop with
    | (none, s') => some (false, s')
    | (some v, s') => if s'.val (2 * v + 1) = 0 then some (true, Sv.assign { s' with starts := s'.starts ++ [s'.trail.length] } (2 * v + 1)) else tryN f s'
/-- none: it does not end within the fuel, or a conflict comes above level 0. -/
def run : Nat → Sv → Option (Bool × Sv)
  | 0, _ => none
  | f + 1, s => if s.fin then some (false, s) else match follow (2 * s.n + 3) s with
    | none => none
    | some (some _, s') => if s'.starts.length = 0 then run f { s' with fin := true } else none
    | some (none, s') => match tryN (s'.hp.length + 1) s' with
      | none => none
      | some (false, s2) => some (true, s2)
      | some (true, s2) => run f s2
def new (n : Nat) : Sv := { n := n, vals := List.replicate (2 * n + 2) 0, ws := List.replicate (2 * n + 2) [], cl := [], trail := [], starts := [], seen := 0, hp := List.range (n + 1), fin := false }
end Sv

/-- Sorted, each once. -/
def insS (x : Nat) : List Nat → List Nat
  | [] => [x]
  | y :: ys => if x < y then x :: y :: ys else if x = y then y :: ys else y :: insS x ys
def litsN (c : List Int) : List Nat := c.foldl (fun acc x => insS (litN x) acc) []
/-- Solve. -/
def solveN (n : Nat) (cs : List (List Int)) : Option (Option (List Bool)) :=
  match Sv.run (n + 2) ((cs.foldl (fun s c => s.add (litsN c)) (Sv.new n))) with
  | none => none
  | some (false, _) => some none
  | some (true, s) => some (some ((List.range n).map fun i => decide (s.val (2 * (i + 1)) = 1)))

-- what the clauses come to that law07's alive asks for
theorem alive_solve0 : solveN 5 [[1], [-4,-2], [-4,-3], [4,2,3], [-4], [-5]] = some (some [true, true, false, false, false]) := by decide +kernel
theorem alive_solve1 : solveN 6 [[6,-2], [5,-1,-6], [1], [-4,-2], [-4,-3], [4,2,3], [-4], [-5]] = some (some [true, false, true, false, false, false]) := by decide +kernel
theorem alive_solve2 : solveN 5 [[1], [-4,-2], [-4,-3], [4,2,3], [-4], [-5], [-3]] = some (some [true, true, false, false, false]) := by decide +kernel
theorem alive_solve3 : solveN 6 [[6,-2], [5,-1,-6], [1], [-4,-2], [-4,-3], [4,2,3], [-4], [-5], [-3]] = some none := by decide +kernel
theorem alive_solve4 : solveN 6 [[6,-2], [5,-1,-6]] = some (some [false, false, false, false, false, false]) := by decide +kernel
theorem alive_solve5 : solveN 6 [[6,-2], [5,-1,-6], [1]] = some (some [true, false, false, false, false, false]) := by decide +kernel
theorem alive_solve6 : solveN 6 [[6,-2], [5,-1,-6], [1], [-4,-2], [-4,-3], [4,2,3], [-4]] = some (some [true, false, true, false, false, false]) := by decide +kernel
theorem alive_solve7 : solveN 6 [[6,-2], [5,-1,-6], [1], [-4,-2], [-4,-3], [4,2,3], [-4], [-3]] = some (some [true, true, false, false, true, true]) := by decide +kernel
theorem alive_solve8 : solveN 6 [[6,-2], [5,-1,-6], [1], [-4,-2], [-4,-3], [4,2,3], [-4], [-3], [-5]] = some none := by decide +kernel
theorem alive_solve9 : solveN 6 [[6,-2], [5,-1,-6], [-4,-2], [-4,-3], [4,2,3], [-4], [-5], [-3]] = some (some [false, true, false, false, false, true]) := by decide +kernel
theorem alive_solve10 : solveN 6 [[6,-2], [5,-1,-6], [1], [-5], [-3]] = some (some [true, false, false, false, false, false]) := by decide +kernel
theorem alive_solve11 : solveN 6 [[6,-2], [5,-1,-6], [1], [-4,-2], [-4,-3], [4,2,3], [-4], [-3]] = some (some [true, true, false, false, true, true]) := by decide +kernel
theorem alive_solve12 : solveN 6 [[6,-2], [5,-1,-6], [1], [-4,-2], [-4,-3], [4,2,3], [-4], [-5]] = some (some [true, false, true, false, false, false]) := by decide +kernel

end Go.Proofs.YtlehlgipbhfioaaGreat

namespace Go.Proofs.YtlehlgipbhfioaaGreat
open Go.RowKit Go.Maps

/-- The parts of a search. -/
inductive Role where
  | search | vals | wout | src | trail | starts | order | heap | places | scores | wishes | best | marks | levels
  | win (l : Nat) | clause (c : Nat) | crow (c : Nat)
deriving DecidableEq

/-- Where they lie, and what the document of the search does not say: spare cells, sources, places. -/
structure Ad where
  blk : Role → Option Nat
  sp : Role → List Value
  src : List Value
  pl : List Value
  room : Value
  endv : Value

/-- A slice over a part. -/
def Ad.slv (A : Ad) (r : Role) (len size : Nat) : Value :=
  match A.blk r with
  | none => .slice none 0 0
  | some b => .slice (some ⟨b, 0, none⟩) len (len + (A.sp r).length / size)
def Ad.ptr (A : Ad) (r : Role) : Value := .pointer ((A.blk r).map fun b => ⟨b, 0, none⟩)

def tyR : Role → TypeId
  | .search => 191 | .vals => 184 | .wout => 272 | .src => 306 | .trail => 192 | .starts => 3 | .order => 270 | .heap => 237
  | .places => 3 | .scores => 268 | .wishes => 184 | .best => 184 | .marks => 4 | .levels => 3 | .win _ => 274 | .clause _ => 182 | .crow _ => 192

def i32 (n : Nat) : Value := .int .i32 (n : Int)
def i64 (n : Nat) : Value := .int .i64 (n : Int)
def watC (A : Ad) (l : List (Nat × Nat)) : List Value := l.flatMap fun w => [A.ptr (.clause w.1), i32 w.2]
def searchC (A : Ad) (s : Sv) : List Value :=
  [A.slv .vals (2 * s.n + 2) 1, A.slv .wout (2 * s.n + 2) 1, A.slv .src (s.n + 1) 2, A.slv .trail s.trail.length 1, A.slv .starts s.starts.length 1, .int .i64 (s.seen : Int), A.ptr .order,
   A.slv .wishes (s.n + 1) 1, A.slv .best (s.n + 1) 1, .int .i64 0, .slice none 0 0, A.room, .bool false, if s.fin then A.endv else .pointer none, A.slv .marks (s.n + 1) 1, .slice none 0 0, .slice none 0 0, A.slv .levels (s.n + 1) 1, .int .i64 0]

def cellsR (A : Ad) (s : Sv) : Role → List Value
  | .search => searchC A s
  | .vals => s.vals.map fun v => .int .i8 v
  | .wout => s.ws.mapIdx fun l x => A.slv (.win l) x.length 2
  | .src => A.src
  | .trail => s.trail.map i32 ++ A.sp .trail
  | .starts => s.starts.map i64 ++ A.sp .starts
  | .order => [A.slv .scores (s.n + 1) 1, A.slv .heap s.hp.length 1, A.slv .places (s.n + 1) 1, .int .u64 1024]
  | .heap => s.hp.map i32 ++ A.sp .heap
  | .places => A.pl
  | .scores => List.replicate (s.n + 1) (.int .u64 0)
  | .wishes => List.replicate (s.n + 1) (.int .i8 (-1))
  | .best => List.replicate (s.n + 1) (.int .i8 (-1))
  | .marks => List.replicate (s.n + 1) (.bool false)
  | .levels => List.replicate (s.n + 1) (.int .i64 0)
  | .win l => watC A (s.wat l) ++ A.sp (.win l)
  | .clause c => [A.slv (.crow c) (s.lits c).length 1, .int .i64 0, .slice none 0 0, .int .i64 0, .bool false, .bool false]
  | .crow c => (s.lits c).map i32 ++ A.sp (.crow c)

/-- The parts that are always there. -/
def fixedR : Role → Bool
  | .trail | .starts | .win _ | .clause _ | .crow _ => false
  | _ => true

/-- Rows that grow. -/
def growR : Role → Bool
  | .trail | .starts | .win _ => true
  | _ => false
def lenR (s : Sv) : Role → Nat
  | .trail => s.trail.length | .starts => s.starts.length | .win l => (s.wat l).length
  | _ => 0
def sizR : Role → Nat
  | .win _ => 2
  | _ => 1
def usedR (A : Ad) (s : Sv) : Role → List Value
  | .trail => s.trail.map i32 | .starts => s.starts.map i64 | .win l => watC A (s.wat l)
  | _ => []

structure Mem (W : World) (A : Ad) (s : Sv) : Prop where
  inj : ∀ r r' b, A.blk r = some b → A.blk r' = some b → r = r'
  has : ∀ r b, A.blk r = some b → W.heap[b]? = some (Obj.cells (cellsR A s r).toArray (tyR r) (0, 0))
  fix : ∀ r, fixedR r = true → ∃ b, A.blk r = some b
  cls : ∀ c, (∃ b, A.blk (.clause c) = some b) ↔ c < s.cl.length
  rows : ∀ c, (∃ b, A.blk (.crow c) = some b) ↔ c < s.cl.length
  win : ∀ l, A.blk (.win l) = none → s.wat l = []
  nil1 : A.blk .trail = none → s.trail = []
  nil2 : A.blk .starts = none → s.starts = []
  even : ∀ r, growR r = true → ∃ k, (A.sp r).length = k * sizR r
  caps : ∀ r, growR r = true → lenR s r + (A.sp r).length / sizR r ≤ maxLen
  flat : A.sp .vals = [] ∧ A.sp .wout = [] ∧ A.sp .src = [] ∧ A.sp .places = [] ∧ A.sp .scores = [] ∧ A.sp .wishes = [] ∧ A.sp .best = [] ∧ A.sp .marks = [] ∧ A.sp .levels = []
  lv : s.vals.length = 2 * s.n + 2
  lw : s.ws.length = 2 * s.n + 2
  ls : A.src.length = (s.n + 1) * 2
  lp : A.pl.length = s.n + 1
  small : s.n ≤ 2000
  endk : ∃ p, A.endv = .pointer (some p)

theorem Mem.lt {W : World} {A : Ad} {s : Sv} (h : Mem W A s) {r : Role} {b : Nat} (hb : A.blk r = some b) : b < W.heap.size := (Array.getElem?_eq_some_iff.1 (h.has r b hb)).1
theorem Mem.row {W : World} {A : Ad} {s : Sv} (h : Mem W A s) {r : Role} {b : Nat} (hb : A.blk r = some b) : W.rowIs b (tyR r) (cellsR A s r).length (fun j => (cellsR A s r)[j]?.getD undef) :=
  ⟨_, h.has r b hb, by simp, fun j hj => by simp [hj]⟩
theorem Mem.cell {W : World} {A : Ad} {s : Sv} (h : Mem W A s) {r : Role} {b : Nat} (hb : A.blk r = some b) {i : Nat} {v : Value} (hi : (cellsR A s r)[i]? = some v) : W.cell? ⟨b, i, none⟩ = some v := by
  simp [World.cell?, h.has r b hb, hi]
theorem Mem.frozen {W : World} {A : Ad} {s : Sv} (h : Mem W A s) {r : Role} {b : Nat} (hb : A.blk r = some b) (i : Nat) : W.frozen? ⟨b, i, none⟩ = false := (h.row hb).frozen i

theorem watC_len (A : Ad) (l : List (Nat × Nat)) : (watC A l).length = l.length * 2 := by
  induction l with
  | nil => rfl
  | cons c cs ih => simp [watC, List.flatMap_cons] at ih ⊢; omega
theorem usedR_len (A : Ad) (s : Sv) {r : Role} (hg : growR r = true) : (usedR A s r).length = lenR s r * sizR r := by
  cases r <;> first | (simp [growR] at hg; done) | (simp [usedR, lenR, sizR, watC_len])
theorem cellsR_grow (A : Ad) (s : Sv) {r : Role} (hg : growR r = true) : cellsR A s r = usedR A s r ++ A.sp r := by
  cases r <;> first | (simp [growR] at hg; done) | rfl
/-- A row that grows, as the laws of append want it. -/
theorem Mem.owns {W : World} {A : Ad} {s : Sv} (h : Mem W A s) {r : Role} (hg : growR r = true) : W.ownsRow 0 (tyR r) (sizR r) (A.slv r (lenR s r) (sizR r)) (lenR s r) (usedR A s r) := by
  have hl := usedR_len A s hg
  refine ⟨hl, ?_⟩
  cases hb : A.blk r with
  | none =>
    have h0 : lenR s r = 0 := by
      cases r <;> first | (simp [growR] at hg; done) | skip
      · simp [lenR, h.nil1 hb]
      · simp [lenR, h.nil2 hb]
      · next l => simp [lenR, h.win l hb]
    exact Or.inl ⟨by simp [Ad.slv, hb], h0⟩
  | some b =>
    obtain ⟨k, hk⟩ := h.even r hg
    have hc := h.caps r hg
    have hs : 0 < sizR r := by cases r <;> simp [sizR]
    have hd : (A.sp r).length / sizR r = k := by rw [hk]; exact Nat.mul_div_cancel _ hs
    rw [hd] at hc
    refine Or.inr ⟨b, lenR s r + k, (cellsR A s r).toArray, by simp [Ad.slv, hb, hd], Nat.zero_le _, h.has r b hb, by omega, hc, ?_, ?_⟩
    · rw [cellsR_grow A s hg]
      simp [hl, hk, Nat.add_mul]
    · rw [cellsR_grow A s hg]
      simp [← hl]

/-- A row lies elsewhere, or has other spare cells. -/
def Ad.up (A : Ad) (r : Role) (b : Nat) (sp : List Value) : Ad := { A with blk := fun r' => if r' = r then some b else A.blk r', sp := fun r' => if r' = r then sp else A.sp r' }

/-- What append leaves of such a row. -/
theorem Mem.grown {W w8 : World} {O : Obj} {A : Ad} {s : Sv} (h : Mem W A s) {r : Role} (hg : growR r = true) {v8 : Value} {news : List Value} (hown : w8.ownsRow 0 (tyR r) (sizR r) v8 (lenR s r + 1) (usedR A s r ++ news)) (hgrow : (W.alloc O).grownBy w8 (A.slv r (lenR s r) (sizR r)).ownBlock) (hat : v8.ownBlock = (A.slv r (lenR s r) (sizR r)).ownBlock ∨ ∀ k, v8.ownBlock = some k → (W.alloc O).heap.size ≤ k) :
    ∃ b sp, v8 = .slice (some ⟨b, 0, none⟩) (lenR s r + 1) (lenR s r + 1 + sp.length / sizR r) ∧ (∃ k, sp.length = k * sizR r) ∧ lenR s r + 1 + sp.length / sizR r ≤ maxLen ∧ w8.heap[b]? = some (Obj.cells (usedR A s r ++ news ++ sp).toArray (tyR r) (0, 0)) ∧ (A.blk r = some b ∨ W.heap.size ≤ b) ∧ ∀ r' b', r' ≠ r → A.blk r' = some b' → w8.heap[b']? = W.heap[b']? ∧ b' ≠ b := by
  have hs : 0 < sizR r := by cases r <;> simp [sizR]
  rcases hown.2 with ⟨_, h0⟩ | ⟨b, cap, cur, e, _, e2, e3, e4, e5, e6⟩
  · omega
  · have hlen := hown.1
    have hcur : cur.toList = (usedR A s r ++ news) ++ cur.toList.drop ((lenR s r + 1) * sizR r) := by rw [← e6, List.take_append_drop]
    have hdl : (cur.toList.drop ((lenR s r + 1) * sizR r)).length = (cap - (lenR s r + 1)) * sizR r := by
      rw [List.length_drop]
      simp only [Array.length_toList, e5]
      rw [Nat.sub_mul]
    have hdd : (cur.toList.drop ((lenR s r + 1) * sizR r)).length / sizR r = cap - (lenR s r + 1) := by rw [hdl]; exact Nat.mul_div_cancel _ hs
    have hbb : v8.ownBlock = some b := by rw [e]; rfl
    have hold : (A.slv r (lenR s r) (sizR r)).ownBlock = A.blk r := by unfold Ad.slv; cases A.blk r <;> rfl
    rw [hbb, hold] at hat
    have hat : A.blk r = some b ∨ W.heap.size < b := hat.imp (fun e => e.symm) (fun e => by have := e b rfl; simp at this; omega)
    refine ⟨b, cur.toList.drop ((lenR s r + 1) * sizR r), by rw [hdd, e]; congr 1; omega, ⟨_, hdl⟩, by rw [hdd]; omega, ?_, ?_, fun r' b' hr hb' => ?_⟩
    · rw [e2, ← hcur]
    · rcases hat with e | e
      · exact Or.inl e
      · exact Or.inr (by omega)
    · have hlt := h.lt hb'
      have hne : A.blk r ≠ some b' := fun e2 => hr (h.inj _ _ _ hb' e2)
      refine ⟨(hgrow.block b' (by simp; omega) (fun e2 => hne (by rw [← hold]; exact e2.symm))).trans (Below.heap_alloc W O b' hlt), ?_⟩
      rintro rfl
      rcases hat with e | e
      · exact hne e
      · omega

/-- The blocks of a search. -/
def Ad.Foot (A : Ad) (k : Nat) : Prop := ∃ r, A.blk r = some k
theorem Mem.keep {W W' : World} {A : Ad} {s : Sv} (h : Mem W A s) (hb : ∀ k, A.Foot k → W'.heap[k]? = W.heap[k]?) : Mem W' A s :=
  { h with has := fun r b hr => (hb b ⟨r, hr⟩).trans (h.has r b hr) }

/-- What a step leaves: a search at s', the others' blocks as they were. -/
structure Step (w w' : World) (A A' : Ad) (s' : Sv) : Prop where
  mem : Mem w' A' s'
  kept : Kept A.Foot w w'
  new : ∀ k, A'.Foot k → A.Foot k ∨ w.heap.size ≤ k
theorem Step.trans {w w1 w2 : World} {A A1 A2 : Ad} {s1 s2 : Sv} (h1 : Step w w1 A A1 s1) (h2 : Step w1 w2 A1 A2 s2) : Step w w2 A A2 s2 := by
  have z := h1.kept.size
  refine ⟨h2.mem, ⟨h2.kept.os.trans h1.kept.os, h2.kept.tape.trans h1.kept.tape, h2.kept.output.trans h1.kept.output, Nat.le_trans z h2.kept.size, fun k hk hn => ?_⟩, fun k hk => ?_⟩
  · refine (h2.kept.block k (Nat.lt_of_lt_of_le hk z) (fun hf => ?_)).trans (h1.kept.block k hk hn)
    rcases h1.new k hf with e | e
    · exact hn e
    · omega
  · rcases h2.new k hk with e | e
    · exact h1.new k e
    · exact Or.inr (by omega)
theorem Step.drew {w : World} {A : Ad} {s : Sv} (h : Mem w A s) (m : Nat) : Step w (w.drewN m) A A s := ⟨h.keep (fun _ _ => rfl), (Kept.refl _ w).drewN m, fun _ hk => Or.inl hk⟩

/-- A cell of a part is set. -/
theorem Mem.set {W : World} {A : Ad} {s s' : Sv} (h : Mem W A s) {r : Role} {b : Nat} (hb : A.blk r = some b) (i : Nat) (v : Value)
    (hr : cellsR A s' r = (cellsR A s r).set i v) (ho : ∀ r', r' ≠ r → cellsR A s' r' = cellsR A s r') : ∀ r' b', A.blk r' = some b' → (W.setCell ⟨b, i, none⟩ v).heap[b']? = some (Obj.cells (cellsR A s' r').toArray (tyR r') (0, 0)) := by
  intro r' b' hb'
  by_cases e : r' = r
  · subst e
    rw [hb] at hb'
    cases hb'
    rw [hr]
    have := h.has r' b hb
    unfold World.setCell
    simp [Array.getElem?_modify, this]
  · rw [ho r' e, Below.heap_setCell _ _ _ _ (fun e2 => e (h.inj _ _ _ hb' (by rw [hb]; exact congrArg some e2.symm)))]
    exact h.has r' b' hb'

end Go.Proofs.YtlehlgipbhfioaaGreat

namespace Go.Proofs.YtlehlgipbhfioaaGreat
open Go.RowKit Go.Maps

theorem opp_lt {l n : Nat} (h : l < 2 * n + 2) : opp l < 2 * n + 2 := by unfold opp; split <;> omega

set_option maxHeartbeats 400000 in
theorem level_in (w : World) (A : Ad) (s : Sv) (h : Mem w A s) (sb : Nat) (hsb : A.blk .search = some sb) :
    Calls Tryz.prog 164 #[.pointer (some ⟨sb, 0, none⟩)] w fun e w' => e = .returned (.int .i64 (s.starts.length : Int)) ∧ w = w' := by
  have c4 := h.cell hsb (i := 4) rfl
  have hs : ∃ a c, A.slv .starts s.starts.length 1 = .slice a s.starts.length c := by
    unfold Ad.slv
    cases hb : A.blk .starts with
    | none => rw [h.nil2 hb]; exact ⟨none, 0, rfl⟩
    | some b => exact ⟨_, _, rfl⟩
  obtain ⟨a, c, hs⟩ := hs
  rw [hs] at c4
  go_enter Tryz.func164, Tryz.ntmps164
  go_wp2_with fail
  go_ret
  exact ⟨rfl, rfl⟩

/-- Two values are set. -/
theorem Mem.two {W : World} {A : Ad} {s : Sv} (h : Mem W A s) {vb : Nat} (hvb : A.blk .vals = some vb) (i j : Nat) (x y : Int) :
    Mem ((W.setCell ⟨vb, i, none⟩ (.int .i8 x)).setCell ⟨vb, j, none⟩ (.int .i8 y)) A { s with vals := (s.vals.set i x).set j y } := by
  have h1 : Mem (W.setCell ⟨vb, i, none⟩ (.int .i8 x)) A { s with vals := s.vals.set i x } :=
    { h with has := h.set hvb i (.int .i8 x) (by simp [cellsR, List.map_set]) (fun r' hr => by cases r' <;> first | rfl | exact absurd rfl hr), lv := by simp [h.lv] }
  exact { h1 with has := h1.set hvb j (.int .i8 y) (by simp [cellsR, List.map_set]) (fun r' hr => by cases r' <;> first | rfl | exact absurd rfl hr), lv := by simp [h.lv] }

/-- A source is set. -/
theorem Mem.source {W : World} {A : Ad} {s : Sv} (h : Mem W A s) {so : Nat} (hso : A.blk .src = some so) (i : Nat) (x y : Value) :
    Mem ((W.setCell ⟨so, i, none⟩ x).setCell ⟨so, i + 1, none⟩ y) { A with src := (A.src.set i x).set (i + 1) y } s := by
  have e : ∀ (S : List Value) (r : Role), r ≠ .src → cellsR { A with src := S } s r = cellsR A s r := fun S r hr => by cases r <;> first | rfl | exact absurd rfl hr
  refine { h with has := fun r b hb => ?_, ls := by simp [h.ls] }
  have hb' : A.blk r = some b := hb
  by_cases er : r = .src
  · subst er
    rw [hso] at hb'
    cases hb'
    have := h.has _ _ hso
    unfold World.setCell
    simp [Array.getElem?_modify, this, cellsR]
  · have hne : b ≠ so := fun e2 => er (h.inj _ _ _ hb' (by rw [hso, e2]))
    rw [e _ r er, Below.heap_setCell _ _ _ _ hne, Below.heap_setCell _ _ _ _ hne]
    exact h.has r b hb'

theorem slv_form {W : World} {A : Ad} {s : Sv} (h : Mem W A s) {r : Role} (hg : growR r = true) : ∃ a c, A.slv r (lenR s r) (sizR r) = .slice a (lenR s r) c := by
  rcases (h.owns hg).2 with ⟨e, h0⟩ | ⟨g, cap, cur, e, _⟩
  · exact ⟨none, 0, by rw [e, h0]⟩
  · exact ⟨_, _, e⟩

/-- A literal more on the trail. -/
theorem Mem.pushTrail {W w8 : World} {A : Ad} {s : Sv} (h : Mem W A s) {sb : Nat} (hsb : A.blk .search = some sb) (l : Nat) {b : Nat} {sp : List Value} {v8 : Value} (hv : v8 = .slice (some ⟨b, 0, none⟩) (s.trail.length + 1) (s.trail.length + 1 + sp.length / 1)) (hcap : s.trail.length + 1 + sp.length / 1 ≤ maxLen)
    (hb : w8.heap[b]? = some (Obj.cells (s.trail.map i32 ++ [i32 l] ++ sp).toArray 192 (0, 0))) (ho : ∀ r' b', r' ≠ .trail → A.blk r' = some b' → w8.heap[b']? = W.heap[b']? ∧ b' ≠ b) :
    Mem (w8.setCell ⟨sb, 3, none⟩ v8) (A.up .trail b sp) { s with trail := s.trail ++ [l] } := by
  have hbs : sb ≠ b := (ho .search sb (by decide) hsb).2
  have hup : ∀ r, r ≠ .trail → (A.up .trail b sp).blk r = A.blk r := fun r hr => if_neg hr
  have hus : ∀ r, r ≠ .trail → (A.up .trail b sp).sp r = A.sp r := fun r hr => if_neg hr
  have hslv : ∀ r k z, r ≠ .trail → (A.up .trail b sp).slv r k z = A.slv r k z := fun r k z hr => by unfold Ad.slv; rw [hup r hr, hus r hr]
  have hptr : ∀ r, r ≠ .trail → (A.up .trail b sp).ptr r = A.ptr r := fun r hr => by unfold Ad.ptr; rw [hup r hr]
  have hslt : (A.up .trail b sp).slv .trail (s.trail.length + 1) 1 = v8 := by rw [hv]; simp [Ad.slv, Ad.up]
  have hcell : ∀ r, r ≠ .trail → r ≠ .search → cellsR (A.up .trail b sp) { s with trail := s.trail ++ [l] } r = cellsR A s r := by
    intro r h1 h2
    cases r <;> first | exact absurd rfl h1 | exact absurd rfl h2 | skip
    all_goals simp only [cellsR]
    all_goals first | rfl | skip
    all_goals simp [hslv, hus, watC, hptr]
    all_goals rfl
  have hsea : cellsR (A.up .trail b sp) { s with trail := s.trail ++ [l] } .search = (cellsR A s .search).set 3 v8 := by
    simp only [cellsR, searchC, List.length_append, List.length_singleton, hslt]
    simp [hslv, hptr]
    exact ⟨rfl, rfl⟩
  refine ⟨?_, ?_, fun r hr => ?_, fun c => ?_, fun c => ?_, fun l => ?_, fun e => ?_, fun e => ?_, fun r hg => ?_, fun r hg => ?_, ?_, h.lv, h.lw, h.ls, h.lp, h.small, h.endk⟩
  · intro r r' b1 h1 h2
    by_cases e1 : r = .trail
    · by_cases e2 : r' = .trail
      · rw [e1, e2]
      · rw [hup r' e2] at h2
        subst e1
        have : b1 = b := by simpa [Ad.up] using h1.symm
        exact absurd this (ho r' b1 e2 h2).2
    · rw [hup r e1] at h1
      by_cases e2 : r' = .trail
      · subst e2
        have : b1 = b := by simpa [Ad.up] using h2.symm
        exact absurd this (ho r b1 e1 h1).2
      · rw [hup r' e2] at h2
        exact h.inj _ _ _ h1 h2
  · intro r b1 h1
    by_cases e1 : r = .trail
    · subst e1
      have e2 : b1 = b := by simpa [Ad.up] using h1.symm
      subst e2
      rw [Below.heap_setCell _ _ _ _ hbs.symm, hb]
      simp [cellsR, Ad.up, tyR]
    · rw [hup r e1] at h1
      by_cases e2 : r = .search
      · subst e2
        rw [hsb] at h1
        cases h1
        have h3 := (ho .search sb (by decide) hsb).1.trans (h.has _ _ hsb)
        rw [hsea]
        unfold World.setCell
        simp [Array.getElem?_modify, h3]
      · rw [hcell r e1 e2, Below.heap_setCell _ _ _ _ (fun e3 => e2 (h.inj _ _ _ h1 (by rw [hsb]; exact congrArg some e3.symm)))]
        exact (ho r b1 e1 h1).1.trans (h.has r b1 h1)
  · rw [hup r (by rintro rfl; cases hr)]
    exact h.fix r hr
  · rw [hup _ (by intro e; cases e)]
    exact h.cls c
  · rw [hup _ (by intro e; cases e)]
    exact h.rows c
  · rw [hup _ (by intro e; cases e)]
    exact h.win l
  · simp [Ad.up] at e
  · rw [hup _ (by intro e; cases e)] at e
    exact h.nil2 e
  · by_cases e1 : r = .trail
    · subst e1
      exact ⟨sp.length, by simp [Ad.up, sizR]⟩
    · rw [hus r e1]
      exact h.even r hg
  · by_cases e1 : r = .trail
    · subst e1
      simpa [Ad.up, sizR, lenR] using hcap
    · rw [hus r e1]
      have : lenR { s with trail := s.trail ++ [l] } r = lenR s r := by
        cases r <;> first | exact absurd rfl e1 | rfl
      rw [this]
      exact h.caps r hg
  · have hf := h.flat
    refine ⟨?_, ?_, ?_, ?_, ?_, ?_, ?_, ?_, ?_⟩
    all_goals rw [hus _ (by intro e; cases e)]
    · exact hf.1
    · exact hf.2.1
    · exact hf.2.2.1
    · exact hf.2.2.2.1
    · exact hf.2.2.2.2.1
    · exact hf.2.2.2.2.2.1
    · exact hf.2.2.2.2.2.2.1
    · exact hf.2.2.2.2.2.2.2.1
    · exact hf.2.2.2.2.2.2.2.2

end Go.Proofs.YtlehlgipbhfioaaGreat

namespace Go.Proofs.YtlehlgipbhfioaaGreat
open Go.RowKit

/-- The byte at i; 0 behind the end. -/
def byt (s : ByteArray) (i : Nat) : Nat := if h : i < s.size then (s[i]).toNat else 0
theorem byt_lt {s : ByteArray} {i : Nat} (h : i < s.size) : (s[i]).toNat = byt s i := by simp [byt, h]

/-- Where the blanks from i on end. -/
def bl (s : ByteArray) (i : Nat) : Nat := if h : i < s.size ∧ byt s i = 32 then bl s (i + 1) else i
termination_by s.size - i
decreasing_by omega

theorem bl_at {s : ByteArray} {i : Nat} (h : i < s.size) (hb : byt s i = 32) : bl s i = bl s (i + 1) := by rw [bl]; simp [h, hb]
theorem bl_end {s : ByteArray} {i : Nat} (h : ¬ (i < s.size ∧ byt s i = 32)) : bl s i = i := by rw [bl]; simp [h]
theorem bl_ge (s : ByteArray) (i : Nat) : i ≤ bl s i := by
  induction i using bl.induct s with
  | case1 i h ih => rw [bl_at h.1 h.2]; omega
  | case2 i h => rw [bl_end h]; omega
theorem bl_le {s : ByteArray} {i : Nat} (hi : i ≤ s.size) : bl s i ≤ s.size := by
  induction i using bl.induct s with
  | case1 i h ih => rw [bl_at h.1 h.2]; exact ih (by omega)
  | case2 i h => rw [bl_end h]; exact hi

def readerC (bp : Value) (s : ByteArray) (i : Nat) (j : Nat) : Value := if j = 0 then bp else if j = 1 then .string s else .int .i64 (i : Int)

/-- A reader at block r. -/
structure Rd (w : World) (r : Nat) (bp : Value) (s : ByteArray) (i : Nat) : Prop where
  row : w.rowIs r 86 3 (readerC bp s i)
  le : i ≤ s.size
  small : s.size ≤ 400

theorem Rd.c0 {w : World} {r : Nat} {bp : Value} {s : ByteArray} {i : Nat} (h : Rd w r bp s i) : w.cell? ⟨r, 0, none⟩ = some bp := h.row.cell (by omega)
theorem Rd.c1 {w : World} {r : Nat} {bp : Value} {s : ByteArray} {i : Nat} (h : Rd w r bp s i) : w.cell? ⟨r, 1, none⟩ = some (.string s) := h.row.cell (i := 1) (by omega)
theorem Rd.c2 {w : World} {r : Nat} {bp : Value} {s : ByteArray} {i : Nat} (h : Rd w r bp s i) : w.cell? ⟨r, 2, none⟩ = some (.int .i64 (i : Int)) := h.row.cell (i := 2) (by omega)
theorem Rd.drewN {w : World} {r : Nat} {bp : Value} {s : ByteArray} {i : Nat} (h : Rd w r bp s i) (m : Nat) : Rd (w.drewN m) r bp s i := ⟨h.row, h.le, h.small⟩
theorem Rd.step {w : World} {r : Nat} {bp : Value} {s : ByteArray} {i : Nat} (h : Rd w r bp s i) {k : Nat} (hk : k ≤ s.size) : Rd (w.setCell ⟨r, 2, none⟩ (.int .i64 (k : Int))) r bp s k :=
  ⟨(h.row.set 2 _).congr (fun j hj => by
    rcases (by omega : j = 0 ∨ j = 1 ∨ j = 2) with rfl | rfl | rfl <;> simp [readerC]), hk, h.small⟩

def isLet (c : Nat) : Bool := decide (97 ≤ c ∧ c ≤ 122)
def isDig (c : Nat) : Bool := decide (48 ≤ c ∧ c ≤ 57)
theorem isLet_lt {c : Nat} (h : (c : Int) < 97) : false = isLet c := (decide_eq_false (by omega)).symm
theorem isLet_ge {c : Nat} (h : (97 : Int) ≤ c) : decide ((c : Int) ≤ 122) = isLet c := by
  unfold isLet; exact decide_eq_decide.2 (by omega)
theorem isDig_lt {c : Nat} (h : (c : Int) < 48) : false = isDig c := (decide_eq_false (by omega)).symm
theorem isDig_ge {c : Nat} (h : (48 : Int) ≤ c) : decide ((c : Int) ≤ 57) = isDig c := by
  unfold isDig; exact decide_eq_decide.2 (by omega)

set_option maxHeartbeats 400000 in
theorem letter_any (w : World) (c : Nat) :
    Calls Tryz.prog 149 #[.int .u8 c] w fun e w' => e = .returned (.bool (isLet c)) ∧ w = w' := by
  go_enter Tryz.func149, Tryz.ntmps149
  go_wp2
  · go_ret
    exact ⟨ret_bool (isLet_ge ‹_›), rfl⟩
  · go_ret
    exact ⟨ret_bool (isLet_lt ‹_›), rfl⟩

set_option maxHeartbeats 400000 in
theorem digit_any (w : World) (c : Nat) :
    Calls Tryz.prog 150 #[.int .u8 c] w fun e w' => e = .returned (.bool (isDig c)) ∧ w = w' := by
  go_enter Tryz.func150, Tryz.ntmps150
  go_wp2
  · go_ret
    exact ⟨ret_bool (isDig_ge ‹_›), rfl⟩
  · go_ret
    exact ⟨ret_bool (isDig_lt ‹_›), rfl⟩

set_option maxHeartbeats 400000 in
theorem blanks_in (w : World) (r : Nat) (bp : Value) (s : ByteArray) (i : Nat) (h : Rd w r bp s i) :
    Calls Tryz.prog 58 #[.pointer (some ⟨r, 0, none⟩)] w fun e w' => e = .returned (.tuple #[]) ∧ Rd w' r bp s (bl s i) ∧ Kept1 r w w' := by
  have hs := h.small
  go_enter Tryz.func58, Tryz.ntmps58
  go_wp2
  go_loopw [] (fun W => ∃ k : Nat, Rd W r bp s k ∧ Hid (bl s k = bl s i) ∧ Hid (Kept1 r w W)) (fun W => s.size - (match W.cell? ⟨r, 2, none⟩ with | some v => (intOf v).toNat | none => 0))
  case atStart => exact ⟨i, h, rfl, Kept.refl _ w⟩
  case round =>
    obtain ⟨k, hR, hb, hK⟩ := hrel
    have c1 := hR.c1
    have c2 := hR.c2
    have f2 := hR.row.frozen 2
    have hle := hR.le
    by_cases h1 : k < s.size
    · by_cases h2 : byt s k = 32
      · have d1 : decide ((k : Int) < s.size) = true := decide_eq_true (by omega)
        have e2 : (s[k]).toNat = 32 := (byt_lt h1).trans h2
        go_wp2_with fail
        go_quiet (fail)
        go_wp2_with fail
        refine ⟨⟨k + 1, ?_, (bl_at h1 h2).symm.trans hb, Kept1.set (hK.drewN _) _ _⟩, ?_⟩
        · have := (hR.drewN nq).step (k := k + 1) (by omega)
          simpa using this
        · have hn := ((hR.drewN nq).step (k := k + 1) (by omega)).c2
          have hn' : ((wr.drewN nq).setCell ⟨r, 2, none⟩ (.int .i64 ((k : Int) + 1))).cell? ⟨r, 2, none⟩ = some (.int .i64 ((k : Int) + 1)) := by simpa using hn
          rw [c2, hn']
          simp only [intOf]
          omega
      · have d1 : decide ((k : Int) < s.size) = true := decide_eq_true (by omega)
        have e2 : ¬ (s[k]).toNat = 32 := fun e => h2 ((byt_lt h1).symm.trans e)
        go_wp2_with fail
        go_quiet (fail)
        go_wp2_with fail
        go_end0
        have e : bl s i = k := hb.symm.trans (bl_end (fun x => h2 x.2))
        exact ⟨rfl, e ▸ hR.drewN nq, Kept.drewN hK nq⟩
    · have d1 : decide ((k : Int) < s.size) = false := decide_eq_false (by omega)
      go_wp2_with fail
      go_quiet (fail)
      go_wp2_with fail
      go_end0
      have e : bl s i = k := hb.symm.trans (bl_end (fun x => h1 x.1))
      exact ⟨rfl, e ▸ hR.drewN nq, Kept.drewN hK nq⟩

/-- What refuse panics with. -/
def refusalV (e p : Int) : Value := .iface 134 (.agg #[.int .i64 e, .int .i64 p])

set_option maxHeartbeats 400000 in
theorem refuse_any (w : World) (e p : Int) :
    Calls Tryz.prog 60 #[.int .i64 e, .int .i64 p] w fun x w' => x = .panicked [{ v := refusalV e p, recovered := false }] ∧ w = w' := by
  go_enter Tryz.func60, Tryz.ntmps60
  go_wp2
  exact ⟨rfl, rfl, rfl⟩

/-- Does c stand at i? -/
def stands (s : ByteArray) (i c : Nat) : Bool := decide (i < s.size ∧ byt s i = c)
/-- Where it goes on behind it. -/
def behind (s : ByteArray) (i c : Nat) : Nat := if stands s i c then bl s (i + 1) else i
theorem stands_true {s : ByteArray} {i c : Nat} (h : i < s.size) (hb : byt s i = c) : stands s i c = true := decide_eq_true ⟨h, hb⟩
theorem stands_ne {s : ByteArray} {i c : Nat} (hb : ¬ byt s i = c) : stands s i c = false := decide_eq_false fun x => hb x.2
theorem stands_end {s : ByteArray} {i c : Nat} (h : ¬ i < s.size) : stands s i c = false := decide_eq_false fun x => h x.1
theorem behind_true {s : ByteArray} {i c : Nat} (h : stands s i c = true) : behind s i c = bl s (i + 1) := by simp [behind, h]
theorem behind_false {s : ByteArray} {i c : Nat} (h : stands s i c = false) : behind s i c = i := by simp [behind, h]

set_option maxHeartbeats 400000 in
theorem sign_in (w : World) (r : Nat) (bp : Value) (s : ByteArray) (i : Nat) (h : Rd w r bp s i) (c : Nat) :
    Calls Tryz.prog 102 #[.pointer (some ⟨r, 0, none⟩), .int .u8 c] w fun e w' =>
      e = .returned (.bool (stands s i c)) ∧ Rd w' r bp s (behind s i c) ∧ Kept1 r w w' := by
  have hs := h.small
  have c1 := h.c1
  have c2 := h.c2
  have f2 := h.row.frozen 2
  have hle := h.le
  go_enter Tryz.func102, Tryz.ntmps102
  by_cases h1 : i < s.size
  · have d2 : ¬ ((i : Int) = s.size) := by omega
    by_cases h2 : byt s i = c
    · have e2 : (s[i]).toNat = c := (byt_lt h1).trans h2
      have hst := stands_true h1 h2
      go_wp2_with fail
      go_quiet (fail)
      go_wp2_with (go_at_call 58; refine (blanks_in _ _ _ _ _ (Rd.step (Rd.drewN h nq) (k := i + 1) (by omega))).mono ?_; rintro e w2 ⟨rfl, hR, hK⟩)
      go_ret
      exact ⟨ret_bool (stands_true h1 h2).symm, by rw [behind_true (stands_true h1 h2)]; exact hR, Kept.trans (Kept1.set (Kept.drewN (Kept.refl _ w) nq) _ _) hK⟩
    · have e2 : ¬ (s[i]).toNat = c := fun e => h2 ((byt_lt h1).symm.trans e)
      have e3 : (((s[i]).toNat : Int) != (c : Int)) = true := by simp; omega
      have e4 : ((i : Int) == (s.size : Int)) = false := by simp; omega
      have hst := stands_ne h2
      go_wp2_with fail
      go_quiet (fail)
      go_wp2_with fail
      go_ret
      exact ⟨ret_bool (stands_ne h2).symm, by rw [behind_false (stands_ne h2)]; exact h.drewN nq, Kept.drewN (Kept.refl _ w) nq⟩
  · have d2 : (i : Int) = s.size := by omega
    have hst : stands s i c = false := stands_end h1
    go_wp2_with fail
    go_quiet (fail)
    go_wp2_with fail
    go_ret
    exact ⟨ret_bool (stands_end h1).symm, by rw [behind_false (stands_end h1)]; exact h.drewN nq, Kept.drewN (Kept.refl _ w) nq⟩

end Go.Proofs.YtlehlgipbhfioaaGreat
