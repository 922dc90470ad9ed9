/- Formulas, plainly and in memory, whichever package they are of. The plain mathematics of package find: trees with a least number, and joins that can be taken back. No Go here. Package find, the functions that only read: has, root, Count, Mark, Least, Same. Package find: hang. Package sat: literals and variables. Memory that is known to the cell: a list of blocks with their types and cells, each block once. Package sat: the search plainly, as long as no conflict comes above level 0; and how it lies in memory. Package sat: where a search lies: each part in a block of its own. Package sat: assign. Package sat: assign, the walk. Package sat: a literal watches one clause more. -/
import Derived.Test.YtlehlgipbhfioaaGreatProg
import Derived.Test.YtlehlgipbhfioaaGreatRows
import Derived.WalkKit
import Derived.WalkSpells
import Derived.WalkLawsBesides
import Derived.Deep.OwnRows
import Derived.Deep.LoopGhost
import Derived.Deep.QuietTactic
import Derived.BigRegion
import Derived.BigQuiet
import Derived.Deep.RegionWith
import Derived.Below
import Derived.Laws.BitsAllLaws
import Derived.Maps.AppendAt
import Derived.RangeFuncRecord
import Derived.Deep.CutRange
import Derived.Deep.DeepCutAuto
namespace Go.Proofs.YtlehlgipbhfioaaGreat

/-- A Form. -/
inductive Fo where
  | mk (op x y : Int) (kids : List Fo)

/-- A Form that lies at an address; its slice of Kids. -/
inductive Lf where
  | mk (b o : Nat) (op x y : Int) (kv : Value) (kids : List Lf)

def Lf.b : Lf → Nat | .mk b _ _ _ _ _ _ => b
def Lf.o : Lf → Nat | .mk _ o _ _ _ _ _ => o
def Lf.op : Lf → Int | .mk _ _ op _ _ _ _ => op
def Lf.x : Lf → Int | .mk _ _ _ x _ _ _ => x
def Lf.y : Lf → Int | .mk _ _ _ _ y _ _ => y
def Lf.kv : Lf → Value | .mk _ _ _ _ _ kv _ => kv
def Lf.kids : Lf → List Lf | .mk _ _ _ _ _ _ ks => ks

/-- What it is. -/
def Lf.er : Lf → Fo
  | .mk _ _ op x y _ kids => .mk op x y (kids.map Lf.er)

/-- The slice kv holds these Kids. -/
def KidsIn (kv : Value) (kids : List Lf) : Prop :=
  ∃ a cap, kv = .slice a kids.length cap ∧ kids.length ≤ cap ∧ (kids = [] ∨ ∃ kb ko, a = some ⟨kb, ko, none⟩ ∧ ∀ (j : Nat) (t : Lf), kids[j]? = some t → t.b = kb ∧ t.o = ko + j * 4)

def inC (n : Nat) (a : Int) : Bool := decide (0 ≤ a ∧ a < n)
def sameC (cls : List Int) (a b : Int) : Bool := inC cls.length a && inC cls.length b && (cls[a.toNat]?.getD 0 == cls[b.toNat]?.getD 0)

/-- A number of the program. -/
def R64 (a : Int) : Prop := -9223372036854775808 ≤ a ∧ a ≤ 9223372036854775807

/-- One Form of so many Kids, by what these come to. -/
def evN (cls : List Int) (op x y : Int) (n : Nat) (args : List Bool) : Bool :=
  if op = 0 then n == 0 && sameC cls x y
  else if op = 1 then n == 1 && !(args[0]?.getD false)
  else if op = 2 then n == 2 && (args[0]?.getD false && args[1]?.getD false)
  else if op = 3 then n == 2 && (args[0]?.getD false || args[1]?.getD false)
  else if op = 4 then n == 2 && (!(args[0]?.getD false) || args[1]?.getD false)
  else false

/-- The document's Eval. -/
def evF (cls : List Int) : Fo → Bool
  | .mk op x y kids => evN cls op x y kids.length (kids.map (evF cls))

/-- A Form and all its Kids in cells, of whichever type. -/
inductive LayC (W : World) : Lf → Prop where
  | mk {b o : Nat} {op x y : Int} {kv : Value} {kids : List Lf} (c0 : W.cell? ⟨b, o, none⟩ = some (.int .i64 op)) (c1 : W.cell? ⟨b, o + 1, none⟩ = some (.int .i64 x)) (c2 : W.cell? ⟨b, o + 2, none⟩ = some (.int .i64 y)) (c3 : W.cell? ⟨b, o + 3, none⟩ = some kv) (hk : KidsIn kv kids) (h : ∀ k ∈ kids, LayC W k) : LayC W (.mk b o op x y kv kids)

end Go.Proofs.YtlehlgipbhfioaaGreat

namespace Go.Proofs.YtlehlgipbhfioaaGreat.Uf

structure Nd where
  par : Nat
  nxt : Nat
  siz : Nat
  lst : Nat

/-- A state: the nodes, and beside them what each number's root is, and how deep it lies. -/
structure G where
  N : Nat → Nd
  rt : Nat → Nat
  dp : Nat → Nat

def cnt : Nat → (Nat → Bool) → Nat
  | 0, _ => 0
  | n + 1, p => cnt n p + (if p n then 1 else 0)

theorem cnt_le (n : Nat) (p : Nat → Bool) : cnt n p ≤ n := by
  induction n with
  | zero => simp [cnt]
  | succ n ih => simp only [cnt]; split <;> omega

theorem cnt_congr (n : Nat) (p q : Nat → Bool) (h : ∀ i, i < n → p i = q i) : cnt n p = cnt n q := by
  induction n with
  | zero => rfl
  | succ n ih => simp only [cnt]; rw [ih (fun i hi => h i (by omega)), h n (by omega)]

theorem cnt_or (n : Nat) (p q : Nat → Bool) (h : ∀ i, i < n → ¬ (p i = true ∧ q i = true)) : cnt n (fun i => p i || q i) = cnt n p + cnt n q := by
  induction n with
  | zero => rfl
  | succ n ih =>
    simp only [cnt]
    rw [ih (fun i hi => h i (by omega))]
    have := h n (by omega)
    by_cases hp : p n = true <;> by_cases hq : q n = true <;> simp [hp, hq] at this ⊢ <;> omega

theorem cnt_pos (n : Nat) (p : Nat → Bool) (i : Nat) (hi : i < n) (h : p i = true) : 0 < cnt n p := by
  induction n with
  | zero => omega
  | succ n ih =>
    simp only [cnt]
    by_cases e : i = n
    · subst e; simp [h]
    · have := ih (by omega); omega

theorem cnt_one (n : Nat) (p q : Nat → Bool) (k : Nat) (hk : k < n) (hp : p k = true) (hq : q k = false) (h : ∀ i, i < n → i ≠ k → p i = q i) : cnt n q + 1 = cnt n p := by
  induction n with
  | zero => omega
  | succ n ih =>
    simp only [cnt]
    by_cases e : k = n
    · subst e
      rw [cnt_congr k p q (fun i hi => h i (by omega) (by omega))]; simp [hp, hq]
    · have := ih (by omega) (fun i hi hne => h i (by omega) hne)
      rw [h n (by omega) (by omega)]; split <;> omega

theorem cnt_all (n : Nat) (p : Nat → Bool) (h : ∀ i, i < n → p i = true) : cnt n p = n := by
  induction n with
  | zero => rfl
  | succ n ih => simp only [cnt]; rw [ih (fun i hi => h i (by omega)), h n (by omega)]; simp

theorem cnt_only (n : Nat) (k : Nat) (hk : k < n) : cnt n (fun i => decide (i = k)) = 1 := by
  have h := cnt_one n (fun i => decide (i = k)) (fun _ => false) k hk (by simp) rfl (fun i _ hne => by simp [hne])
  have z : ∀ m, cnt m (fun _ => false) = 0 := by
    intro m; induction m with
    | zero => rfl
    | succ m ih => simp [cnt, ih]
  rw [z] at h; omega

def g0 : G := { N := fun i => ⟨i, i, 1, i⟩, rt := fun i => i, dp := fun _ => 0 }

/-- Root c is hung below root r. -/
def hang (g : G) (c r : Nat) : G :=
  { N := fun k => if k = c then ⟨r, (g.N r).nxt, (g.N c).siz, (g.N c).lst⟩ else if k = r then ⟨(g.N r).par, (g.N c).nxt, (g.N r).siz + (g.N c).siz, min (g.N r).lst (g.N c).lst⟩ else g.N k
    rt := fun i => if g.rt i = c then r else g.rt i
    dp := fun i => if g.rt i = c then g.dp i + g.dp r + 1 else g.dp i }

/-- The least number of the class of i. -/
def G.lo (g : G) (i : Nat) : Nat := (g.N (g.rt i)).lst

structure Ok (n : Nat) (g : G) (k : Nat) : Prop where
  parlt : ∀ i, i < n → (g.N i).par < n
  rtlt : ∀ i, i < n → g.rt i < n
  root : ∀ i, i < n → (g.N i).par = i → g.rt i = i
  step : ∀ i, i < n → (g.N i).par ≠ i → g.rt (g.N i).par = g.rt i ∧ g.dp (g.N i).par < g.dp i
  top : ∀ i, i < n → (g.N (g.rt i)).par = g.rt i
  siz : ∀ i, i < n → g.rt i = i → (g.N i).siz = cnt n (fun j => decide (g.rt j = i))
  lole : ∀ i, i < n → g.lo i ≤ i
  loin : ∀ i, i < n → g.rt (g.lo i) = g.rt i
  num : cnt n (fun i => decide (g.lo i = i)) + k = n

theorem ok_g0 (n : Nat) : Ok n g0 0 := by
  refine ⟨fun i h => h, fun i h => h, fun i _ _ => rfl, fun i _ h => absurd rfl h, fun i _ => rfl, ?_, fun i _ => Nat.le_refl _, fun i _ => rfl, ?_⟩
  · intro i hi _
    exact (cnt_only n i hi).symm
  · rw [cnt_all n _ (fun i _ => by simp [G.lo, g0])]; rfl

theorem Ok.rtrt {n : Nat} {g : G} {k : Nat} (h : Ok n g k) (i : Nat) (hi : i < n) : g.rt (g.rt i) = g.rt i :=
  h.root _ (h.rtlt i hi) (h.top i hi)

theorem Ok.parroot {n : Nat} {g : G} {k : Nat} (h : Ok n g k) (i : Nat) (hi : i < n) (hr : g.rt i = i) : (g.N i).par = i := by
  have := h.top i hi; rw [hr] at this; exact this

theorem hang_lo (g : G) (c r i : Nat) (hne : c ≠ r) :
    (hang g c r).lo i = if g.rt i = c ∨ g.rt i = r then min (g.N r).lst (g.N c).lst else g.lo i := by
  simp only [G.lo, hang]
  by_cases h1 : g.rt i = c
  · simp [h1, Ne.symm hne]
  · by_cases h2 : g.rt i = r
    · simp [h2, Ne.symm hne]
    · simp [h1, h2]

theorem Ok.hang {n : Nat} {g : G} {k : Nat} (h : Ok n g k) (c r : Nat) (hc : c < n) (hr : r < n) (hne : c ≠ r) (cc : g.rt c = c) (rr : g.rt r = r) :
    Ok n (hang g c r) (k + 1) := by
  have pc := h.parroot c hc cc
  have pr := h.parroot r hr rr
  have lc : (g.N c).lst = g.lo c := by simp [G.lo, cc]
  have lr : (g.N r).lst = g.lo r := by simp [G.lo, rr]
  have hlo := fun i => hang_lo g c r i hne
  have lcle := h.lole c hc
  have lrle := h.lole r hr
  have lcin := h.loin c hc
  have lrin := h.loin r hr
  rw [cc] at lcin
  rw [rr] at lrin
  have lne : g.lo c ≠ g.lo r := by intro e; rw [e, lrin] at lcin; exact hne lcin.symm
  have lcself : g.lo (g.lo c) = g.lo c := by simp only [G.lo] at lcin ⊢; rw [lcin, cc]
  have lrself : g.lo (g.lo r) = g.lo r := by simp only [G.lo] at lrin ⊢; rw [lrin, rr]
  refine ⟨?_, ?_, ?_, ?_, ?_, ?_, ?_, ?_, ?_⟩
  · intro i hi
    simp only [Uf.hang]
    split
    · exact hr
    · split
      · exact h.parlt r hr
      · exact h.parlt i hi
  · intro i hi
    simp only [Uf.hang]
    split
    · exact hr
    · exact h.rtlt i hi
  · intro i hi hp
    simp only [Uf.hang] at hp ⊢
    by_cases e1 : i = c
    · subst e1; simp at hp; exact absurd hp.symm hne
    · by_cases e2 : i = r
      · subst e2; rw [rr]; simp [e1]
      · simp [e1, e2] at hp
        have := h.root i hi hp
        rw [this]; simp [e1]
  · intro i hi hp
    simp only [Uf.hang] at hp ⊢
    by_cases e1 : i = c
    · subst e1
      simp only [if_true]
      rw [rr, cc]
      simp [Ne.symm hne]
      omega
    · by_cases e2 : i = r
      · subst e2
        simp only [e1, if_false, if_true] at hp
        exact absurd pr hp
      · simp only [e1, e2, if_false] at hp ⊢
        obtain ⟨s1, s2⟩ := h.step i hi hp
        rw [s1]
        refine ⟨rfl, ?_⟩
        split <;> omega
  · intro i hi
    simp only [Uf.hang]
    by_cases e1 : g.rt i = c
    · simp [e1, Ne.symm hne, pr]
    · by_cases e2 : g.rt i = r
      · simp [e2, Ne.symm hne, pr]
      · simp [e1, e2, h.top i hi]
  · intro i hi hrt
    simp only [Uf.hang] at hrt ⊢
    by_cases e1 : i = c
    · subst e1; simp [cc] at hrt; exact absurd hrt.symm hne
    · by_cases e2 : i = r
      · subst e2
        simp only [e1, if_false, if_true]
        rw [h.siz i hi rr, h.siz c hc cc, ← cnt_or]
        · apply cnt_congr
          intro j hj
          by_cases q1 : g.rt j = c <;> by_cases q2 : g.rt j = i <;> simp [q1, q2]
        · intro j hj
          simp
          intro q1 q2
          exact e1 (by rw [← q1, ← q2])
      · have hi' : g.rt i = i := by
          by_cases q : g.rt i = c
          · simp [q] at hrt; exact absurd hrt.symm e2
          · simpa [q] using hrt
        simp only [e1, e2, if_false]
        rw [h.siz i hi hi']
        apply cnt_congr
        intro j hj
        by_cases q1 : g.rt j = c
        · simp [q1, Ne.symm e1, Ne.symm e2]
        · simp [q1]
  · intro i hi
    rw [hlo, lc, lr]
    have li := h.lole i hi
    split
    · rename_i hx
      rcases hx with hx | hx
      · have : g.lo i = g.lo c := by simp only [G.lo]; rw [hx, cc]
        omega
      · have : g.lo i = g.lo r := by simp only [G.lo]; rw [hx, rr]
        omega
    · exact li
  · intro i hi
    rw [hlo, lc, lr]
    by_cases hx : g.rt i = c ∨ g.rt i = r
    · rw [if_pos hx]
      have e : (Uf.hang g c r).rt i = r := by
        simp only [Uf.hang]
        rcases hx with hx | hx
        · simp [hx]
        · simp [hx, Ne.symm hne]
      rw [e]
      by_cases q : g.lo r ≤ g.lo c
      · rw [Nat.min_eq_left q]; simp [Uf.hang, lrin, Ne.symm hne]
      · rw [Nat.min_eq_right (by omega)]; simp [Uf.hang, lcin]
    · rw [if_neg hx]
      have := h.loin i hi
      simp only [Uf.hang]
      rw [this]
  · have key : cnt n (fun i => decide ((Uf.hang g c r).lo i = i)) + 1 = cnt n (fun i => decide (g.lo i = i)) := by
      apply cnt_one n _ _ (max (g.lo c) (g.lo r)) (by omega)
      · by_cases q : g.lo r ≤ g.lo c
        · rw [Nat.max_eq_left q]; simp [lcself]
        · rw [Nat.max_eq_right (by omega)]; simp [lrself]
      · rw [hlo, lc, lr]
        by_cases q : g.lo r ≤ g.lo c
        · rw [Nat.max_eq_left q, if_pos (Or.inl lcin)]; simp; omega
        · rw [Nat.max_eq_right (by omega), if_pos (Or.inr lrin)]; simp; omega
      · intro i hi hne'
        rw [hlo, lc, lr]
        by_cases hx : g.rt i = c ∨ g.rt i = r
        · rw [if_pos hx]
          rcases hx with hx | hx
          · have : g.lo i = g.lo c := by simp only [G.lo]; rw [hx, cc]
            rw [this, decide_eq_decide]
            constructor
            · intro e; omega
            · intro e
              rcases Nat.lt_or_ge (g.lo r) (g.lo c) with q | q
              · exfalso
                have e2 : i = g.lo r := by omega
                rw [e2, lrin] at hx; exact hne hx.symm
              · omega
          · have : g.lo i = g.lo r := by simp only [G.lo]; rw [hx, rr]
            rw [this, decide_eq_decide]
            constructor
            · intro e; omega
            · intro e
              rcases Nat.lt_or_ge (g.lo c) (g.lo r) with q | q
              · exfalso
                have e2 : i = g.lo c := by omega
                rw [e2, lcin] at hx; exact hne hx
              · omega
        · rw [if_neg hx]
    have := h.num
    omega

theorem Ok.sizes {n : Nat} {g : G} {k : Nat} (h : Ok n g k) (c r : Nat) (hc : c < n) (hr : r < n) (hne : c ≠ r) (cc : g.rt c = c) (rr : g.rt r = r) : (g.N r).siz + (g.N c).siz ≤ n := by
  rw [h.siz r hr rr, h.siz c hc cc, ← cnt_or]
  · exact cnt_le _ _
  · intro i _ hx
    simp at hx
    exact hne (hx.2.symm.trans hx.1)

/-- Which root is hung below which. -/
def pick (g : G) (a b : Nat) : Nat × Nat := if (g.N (g.rt b)).siz < (g.N (g.rt a)).siz then (g.rt b, g.rt a) else (g.rt a, g.rt b)

/-- The state, and the joins with the states ahead of them, the last one first. -/
structure Rec where
  child : Nat
  least : Nat
  was : G

def Hist (n : Nat) : G → List Rec → Prop
  | g, [] => g = g0
  | g, x :: t => ∃ r, r < n ∧ x.child < n ∧ x.child ≠ r ∧ x.was.rt x.child = x.child ∧ x.was.rt r = r ∧ x.least = (x.was.N r).lst ∧ g = hang x.was x.child r ∧ Hist n x.was t

theorem ok_hist (n : Nat) : ∀ (t : List Rec) (g : G), Hist n g t → Ok n g t.length
  | [], g, h => by cases h; exact ok_g0 n
  | x :: t, g, h => by
    obtain ⟨r, hr, hc, hne, cc, rr, _, rfl, ht⟩ := h
    exact (ok_hist n t x.was ht).hang _ _ hc hr hne cc rr

theorem Ok.num_le {n : Nat} {g : G} {k : Nat} (h : Ok n g k) : k ≤ n := by have := h.num; omega

theorem Ok.pick {n : Nat} {g : G} {k : Nat} (h : Ok n g k) (a b : Nat) (ha : a < n) (hb : b < n) (hne : g.rt a ≠ g.rt b) :
    (pick g a b).1 < n ∧ (pick g a b).2 < n ∧ (pick g a b).1 ≠ (pick g a b).2 ∧ g.rt (pick g a b).1 = (pick g a b).1 ∧ g.rt (pick g a b).2 = (pick g a b).2 := by
  unfold Uf.pick
  split
  · exact ⟨h.rtlt b hb, h.rtlt a ha, Ne.symm hne, h.rtrt b hb, h.rtrt a ha⟩
  · exact ⟨h.rtlt a ha, h.rtlt b hb, hne, h.rtrt a ha, h.rtrt b hb⟩

/-- The state k joins ago. -/
def back : G → List Rec → Nat → G
  | g, _, 0 => g
  | g, [], _ + 1 => g
  | _, x :: t, k + 1 => back x.was t k

theorem hist_back (n : Nat) : ∀ (k : Nat) (t : List Rec) (g : G), Hist n g t → Hist n (back g t k) (t.drop k)
  | 0, t, g, h => by simpa [back] using h
  | k + 1, [], g, h => by simpa [back] using h
  | k + 1, x :: t, g, h => by
    obtain ⟨_, _, _, _, _, _, _, _, ht⟩ := h
    simpa [back] using hist_back n k t x.was ht

theorem back_succ : ∀ (k : Nat) (t : List Rec) (g : G) (x : Rec), t[k]? = some x → back g t (k + 1) = x.was
  | 0, [], _, _, h => by simp at h
  | 0, y :: t, g, x, h => by simp at h; subst h; simp [back]
  | k + 1, [], _, _, h => by simp at h
  | k + 1, y :: t, g, x, h => by
    simp at h
    simpa [back] using back_succ k t y.was x h

/-- The joins as the program keeps them. -/
def recs (t : List Rec) : List (Nat × Nat) := (t.map fun x => (x.child, x.least)).reverse

theorem recs_length (t : List Rec) : (recs t).length = t.length := by simp [recs]
theorem recs_cons (x : Rec) (t : List Rec) : recs (x :: t) = recs t ++ [(x.child, x.least)] := by simp [recs]
theorem recs_drop (t : List Rec) (k : Nat) : recs (t.drop k) = (recs t).take (t.length - k) := by
  simp only [recs, List.map_drop, List.reverse_drop, List.length_map]

theorem recs_get (t : List Rec) (k : Nat) (hk : k < t.length) : (recs t)[t.length - 1 - k]? = some ((t[k]).child, (t[k]).least) := by
  simp only [recs]
  rw [List.getElem?_reverse (by simp; omega)]
  simp
  refine ⟨t[k], ?_, rfl, rfl⟩
  rw [List.getElem?_eq_some_iff]
  refine ⟨by omega, ?_⟩
  congr 1
  omega

theorem hist_child (n : Nat) : ∀ (t : List Rec) (g : G), Hist n g t → ∀ x ∈ t, x.child < n
  | [], _, _, x, hx => by simp at hx
  | y :: t, g, h, x, hx => by
    obtain ⟨_, _, hc, _, _, _, _, _, ht⟩ := h
    rcases List.mem_cons.1 hx with rfl | hx
    · exact hc
    · exact hist_child n t y.was ht x hx

theorem recs_child (n : Nat) (t : List Rec) (g : G) (h : Hist n g t) (i : Nat) (hi : i < t.length) : ((recs t)[i]?.getD (0, 0)).1 < n := by
  have hl : i < (recs t).length := by rw [recs_length]; exact hi
  rw [List.getElem?_eq_getElem hl, Option.getD_some]
  have hm : (recs t)[i] ∈ recs t := List.getElem_mem hl
  generalize (recs t)[i] = y at hm
  simp only [recs, List.mem_reverse, List.mem_map] at hm
  obtain ⟨x, hx, rfl⟩ := hm
  exact hist_child n t g h x hx

end Go.Proofs.YtlehlgipbhfioaaGreat.Uf

namespace Go.Proofs.YtlehlgipbhfioaaGreat
open Go.RowKit

/-- What cell j of the nodes' array holds. -/
def nodeC (g : Uf.G) (j : Nat) : Value :=
  .int .i64 (if j % 4 = 0 then ((g.N (j / 4)).par : Int) else if j % 4 = 1 then ((g.N (j / 4)).nxt : Int) else if j % 4 = 2 then ((g.N (j / 4)).siz : Int) else ((g.N (j / 4)).lst : Int))

def joinC (js : List (Nat × Nat)) : List Value := js.flatMap fun x => [.int .i64 (x.1 : Int), .int .i64 (x.2 : Int)]

def setsC (nb n : Nat) (jv : Value) (j : Nat) : Value := if j = 0 then .slice (some ⟨nb, 0, none⟩) n n else jv

/-- A Sets that lies at block p, its nodes at block nb, its joins owned from base on. -/
structure Lies (w : World) (base p nb n : Nat) (g : Uf.G) (jv : Value) (js : List (Nat × Nat)) : Prop where
  sets : w.rowIs p 148 2 (setsC nb n jv)
  nodes : w.rowIs nb 150 (n * 4) (nodeC g)
  joins : w.ownsRow base 220 2 jv js.length (joinC js)
  ne : p ≠ nb
  jp : jv.ownBlock ≠ some p
  jn : jv.ownBlock ≠ some nb
  bp : base ≤ p
  bn : base ≤ nb
  small : n ≤ 100000

theorem Lies.jform {w : World} {base p nb n : Nat} {g : Uf.G} {jv : Value} {js : List (Nat × Nat)} (h : Lies w base p nb n g jv js) : ∃ a cap, jv = .slice a js.length cap := by
  rcases h.joins.2 with ⟨rfl, h0⟩ | ⟨b, cap, cur, rfl, _⟩
  · rw [h0]; exact ⟨none, 0, rfl⟩
  · exact ⟨_, cap, rfl⟩

theorem Lies.c0 {w : World} {base p nb n : Nat} {g : Uf.G} {jv : Value} {js : List (Nat × Nat)} (h : Lies w base p nb n g jv js) : w.cell? ⟨p, 0, none⟩ = some (.slice (some ⟨nb, 0, none⟩) n n) := h.sets.cell (by omega)
theorem Lies.c1 {w : World} {base p nb n : Nat} {g : Uf.G} {jv : Value} {js : List (Nat × Nat)} (h : Lies w base p nb n g jv js) : w.cell? ⟨p, 1, none⟩ = some jv := h.sets.cell (i := 1) (by omega)

/-- Is it a number of it? -/
def inB (n : Nat) (a : Int) : Bool := decide (0 ≤ a ∧ a < n)
theorem inB_true {n : Nat} {a : Int} (h : inB n a = true) : 0 ≤ a ∧ a < n := of_decide_eq_true h
theorem inB_false {n : Nat} {a : Int} (h : inB n a = false) : ¬ (0 ≤ a ∧ a < n) := of_decide_eq_false h
theorem inB_nat {n a : Nat} (h : a < n) : inB n a = true := decide_eq_true (by omega)
theorem ret_bool {a b : Bool} (h : a = b) : Ending.returned (.bool a) = .returned (.bool b) := by rw [h]
theorem ret_int {k : IntKind} {a b : Int} (h : a = b) : Ending.returned (.int k a) = .returned (.int k b) := by rw [h]
theorem inB_lt {n : Nat} {a : Int} (h : a < 0) : false = inB n a := (decide_eq_false (by omega)).symm
theorem inB_ge {n : Nat} {a : Int} (h : 0 ≤ a) : decide (a < n) = inB n a := by unfold inB; simp [h]

set_option maxHeartbeats 400000 in
theorem has_in (w : World) (base p nb n : Nat) (g : Uf.G) (jv : Value) (js : List (Nat × Nat)) (h : Lies w base p nb n g jv js) (a : Int) :
    Calls Tryz.prog 54 #[.pointer (some ⟨p, 0, none⟩), .int .i64 a] w fun e w' => e = .returned (.bool (inB n a)) ∧ w = w' := by
  have c0 := h.c0
  have hn := h.small
  clear h
  go_enter Tryz.func54, Tryz.ntmps54
  go_wp2
  · go_ret
    exact ⟨ret_bool (inB_ge ‹_›), rfl⟩
  · go_ret
    exact ⟨ret_bool (inB_lt ‹_›), rfl⟩

set_option maxHeartbeats 400000 in
theorem has_nil (w : World) (a : Int) :
    Calls Tryz.prog 54 #[.pointer none, .int .i64 a] w fun e w' => e = .returned (.bool false) ∧ w = w' := by
  go_enter Tryz.func54, Tryz.ntmps54
  go_wp2
  go_ret
  exact ⟨rfl, rfl⟩

theorem nodeC_par (g : Uf.G) (i : Nat) : nodeC g (i * 4) = .int .i64 ((g.N i).par : Int) := by
  have h1 : (i * 4) % 4 = 0 := by omega
  have h2 : (i * 4) / 4 = i := by omega
  simp [nodeC]
theorem nodeC_nxt (g : Uf.G) (i : Nat) : nodeC g (i * 4 + 1) = .int .i64 ((g.N i).nxt : Int) := by
  have h1 : (i * 4 + 1) % 4 = 1 := by omega
  have h2 : (i * 4 + 1) / 4 = i := by omega
  simp [nodeC, h1, h2]
theorem nodeC_siz (g : Uf.G) (i : Nat) : nodeC g (i * 4 + 2) = .int .i64 ((g.N i).siz : Int) := by
  have h1 : (i * 4 + 2) % 4 = 2 := by omega
  have h2 : (i * 4 + 2) / 4 = i := by omega
  simp [nodeC, h1, h2]
theorem nodeC_lst (g : Uf.G) (i : Nat) : nodeC g (i * 4 + 3) = .int .i64 ((g.N i).lst : Int) := by
  have h1 : (i * 4 + 3) % 4 = 3 := by omega
  have h2 : (i * 4 + 3) / 4 = i := by omega
  simp [nodeC, h1, h2]

theorem Lies.par {w : World} {base p nb n : Nat} {g : Uf.G} {jv : Value} {js : List (Nat × Nat)} (h : Lies w base p nb n g jv js) {i : Nat} (hi : i < n) : w.cell? ⟨nb, i * 4, none⟩ = some (.int .i64 ((g.N i).par : Int)) := by
  rw [← nodeC_par]; exact h.nodes.cell (by omega)
theorem Lies.nxt {w : World} {base p nb n : Nat} {g : Uf.G} {jv : Value} {js : List (Nat × Nat)} (h : Lies w base p nb n g jv js) {i : Nat} (hi : i < n) : w.cell? ⟨nb, i * 4 + 1, none⟩ = some (.int .i64 ((g.N i).nxt : Int)) := by
  rw [← nodeC_nxt]; exact h.nodes.cell (by omega)
theorem Lies.siz {w : World} {base p nb n : Nat} {g : Uf.G} {jv : Value} {js : List (Nat × Nat)} (h : Lies w base p nb n g jv js) {i : Nat} (hi : i < n) : w.cell? ⟨nb, i * 4 + 2, none⟩ = some (.int .i64 ((g.N i).siz : Int)) := by
  rw [← nodeC_siz]; exact h.nodes.cell (by omega)
theorem Lies.lst {w : World} {base p nb n : Nat} {g : Uf.G} {jv : Value} {js : List (Nat × Nat)} (h : Lies w base p nb n g jv js) {i : Nat} (hi : i < n) : w.cell? ⟨nb, i * 4 + 3, none⟩ = some (.int .i64 ((g.N i).lst : Int)) := by
  rw [← nodeC_lst]; exact h.nodes.cell (by omega)

set_option maxHeartbeats 400000 in
theorem root_in (w : World) (base p nb n : Nat) (g : Uf.G) (jv : Value) (js : List (Nat × Nat)) (h : Lies w base p nb n g jv js) (k : Nat) (hg : Uf.Ok n g k) (a : Nat) (ha : a < n) :
    Calls Tryz.prog 55 #[.pointer (some ⟨p, 0, none⟩), .int .i64 a] w fun e w' => e = .returned (.int .i64 (g.rt a)) ∧ w = w' := by
  have c0 := h.c0
  have hn := h.small
  go_enter Tryz.func55, Tryz.ntmps55
  go_wp2
  go_loop [1] (fun t => ∃ i : Nat, i < n ∧ t = .int .i64 i ∧ Hid (g.rt i = g.rt a)) (fun t => g.dp (intOf t).toNat)
  case atStart => exact ⟨a, ha, rfl, rfl⟩
  case round =>
    obtain ⟨i, hi, rfl, hrt⟩ := hrel
    have cp := h.par hi
    have hpl := hg.parlt i hi
    by_cases hr : (g.N i).par = i
    · have hroot := hg.root i hi hr
      have Hroot : Hid (g.rt i = i) := hroot
      rw [hr] at cp
      clear hroot hr h hg
      go_wp2
      go_ret
      exact ⟨ret_int (by rw [← hrt.out, Hroot.out]), rfl⟩
    · have hst := hg.step i hi hr
      have Hst : Hid (_ ∧ _) := hst
      have hne : (((g.N i).par : Int) != (i : Int)) = true := by rw [bne_iff_ne]; omega
      generalize hq : (g.N i).par = q at *
      clear hst h hg hr
      go_wp2
      go_round
      case rel => exact ⟨q, hpl, rfl, Hst.out.1.trans hrt.out⟩
      case measure => simp [intOf]; exact Hst.out.2

set_option maxHeartbeats 400000 in
theorem Mark_in (w : World) (base p nb n : Nat) (g : Uf.G) (jv : Value) (js : List (Nat × Nat)) (h : Lies w base p nb n g jv js) :
    Calls Tryz.prog 70 #[.pointer (some ⟨p, 0, none⟩)] w fun e w' => e = .returned (.int .i64 (js.length : Int)) ∧ w = w' := by
  have c1 := h.c1
  obtain ⟨ja, jc, rfl⟩ := h.jform
  clear h
  go_enter Tryz.func70, Tryz.ntmps70
  go_wp2
  go_ret
  exact ⟨rfl, rfl⟩

theorem Lies.drewN {w : World} {base p nb n : Nat} {g : Uf.G} {jv : Value} {js : List (Nat × Nat)} (h : Lies w base p nb n g jv js) {m : Nat} : Lies (w.drewN m) base p nb n g jv js :=
  ⟨h.sets, h.nodes, h.joins, h.ne, h.jp, h.jn, h.bp, h.bn, h.small⟩

set_option maxHeartbeats 400000 in
theorem Least_in (w : World) (base p nb n : Nat) (g : Uf.G) (jv : Value) (js : List (Nat × Nat)) (h : Lies w base p nb n g jv js) (k : Nat) (hg : Uf.Ok n g k) (a : Int) :
    Calls Tryz.prog 38 #[.pointer (some ⟨p, 0, none⟩), .int .i64 a] w fun e w' => e = .returned (.int .i64 (if inB n a then (g.lo a.toNat : Int) else -1)) ∧ ∃ m, w' = w.drewN m := by
  have c0 := h.c0
  have hn := h.small
  cases hb : inB n a
  · have hb' := inB_false hb
    go_enter Tryz.func38, Tryz.ntmps38
    go_wp2_with (go_at_call 54; refine (has_in _ _ _ _ _ _ _ _ h _).mono ?_; rintro e w' ⟨rfl, rfl⟩; rw [hb])
    go_ret
    exact ⟨rfl, 0, rfl⟩
  · obtain ⟨h1, h2⟩ := inB_true hb
    obtain ⟨i, rfl⟩ := Int.eq_ofNat_of_zero_le h1
    have hi : i < n := by omega
    have hlt := hg.rtlt i hi
    have cl := h.lst hlt
    go_enter Tryz.func38, Tryz.ntmps38
    go_wp2_with (go_at_call 54; refine (has_in _ _ _ _ _ _ _ _ h _).mono ?_; rintro e w' ⟨rfl, rfl⟩; rw [hb])
    go_quiet ((go_at_call 55; exact Calls.quiet_of_same ((root_in _ _ _ _ _ _ _ _ h.drewN _ hg _ hi).mono fun _ _ x => ⟨x.1, x.2.symm⟩)))
    go_wp2
    go_ret
    exact ⟨rfl, _, rfl⟩

/-- Are two numbers in one class? -/
def sameB (n : Nat) (g : Uf.G) (a b : Int) : Bool := inB n a && inB n b && decide (g.rt a.toNat = g.rt b.toNat)

set_option maxHeartbeats 400000 in
theorem Same_in (w : World) (base p nb n : Nat) (g : Uf.G) (jv : Value) (js : List (Nat × Nat)) (h : Lies w base p nb n g jv js) (k : Nat) (hg : Uf.Ok n g k) (a b : Int) :
    Calls Tryz.prog 26 #[.pointer (some ⟨p, 0, none⟩), .int .i64 a, .int .i64 b] w fun e w' => e = .returned (.bool (sameB n g a b)) ∧ ∃ m, w' = w.drewN m := by
  cases ha : inB n a
  · have fin : sameB n g a b = false := by simp [sameB, ha]
    rw [fin]
    clear fin
    go_enter Tryz.func26, Tryz.ntmps26
    go_wp2_with fail
    refine (has_in _ _ _ _ _ _ _ _ h a).mono ?_
    rintro e w' ⟨rfl, rfl⟩
    rw [ha]
    go_wp2
    go_ret
    exact ⟨rfl, 0, rfl⟩
  · cases hb : inB n b
    · have fin : sameB n g a b = false := by simp [sameB, hb]
      rw [fin]
      clear fin
      go_enter Tryz.func26, Tryz.ntmps26
      go_wp2_with fail
      refine (has_in _ _ _ _ _ _ _ _ h a).mono ?_
      rintro e w' ⟨rfl, rfl⟩
      rw [ha]
      go_wp2_with fail
      refine (has_in _ _ _ _ _ _ _ _ h b).mono ?_
      rintro e w' ⟨rfl, rfl⟩
      rw [hb]
      go_wp2
      go_ret
      exact ⟨rfl, 0, rfl⟩
    · obtain ⟨a1, a2⟩ := inB_true ha
      obtain ⟨b1, b2⟩ := inB_true hb
      obtain ⟨i, rfl⟩ := Int.eq_ofNat_of_zero_le a1
      obtain ⟨j, rfl⟩ := Int.eq_ofNat_of_zero_le b1
      have hi : i < n := by omega
      have hj : j < n := by omega
      have fin : sameB n g i j = ((g.rt i : Int) == (g.rt j : Int)) := by
        simp only [sameB, ha, hb, Bool.true_and, Int.toNat_natCast]
        by_cases e : g.rt i = g.rt j
        · simp [e]
        · rw [decide_eq_false e]; exact (beq_eq_false_iff_ne.2 (by omega)).symm
      rw [fin]
      clear fin
      go_enter Tryz.func26, Tryz.ntmps26
      go_wp2_with fail
      refine (has_in _ _ _ _ _ _ _ _ h i).mono ?_
      rintro e w' ⟨rfl, rfl⟩
      rw [ha]
      go_wp2_with fail
      refine (has_in _ _ _ _ _ _ _ _ h j).mono ?_
      rintro e w' ⟨rfl, rfl⟩
      rw [hb]
      go_wp2_with fail
      refine (root_in _ _ _ _ _ _ _ _ h _ hg i hi).mono ?_
      rintro e w' ⟨rfl, rfl⟩
      go_wp2_with fail
      refine (root_in _ _ _ _ _ _ _ _ h _ hg j hj).mono ?_
      rintro e w' ⟨rfl, rfl⟩
      go_wp2
      go_ret
      exact ⟨rfl, 0, rfl⟩

end Go.Proofs.YtlehlgipbhfioaaGreat

namespace Go.Proofs.YtlehlgipbhfioaaGreat
open Go.RowKit

/-- All blocks but those of S are as they were. -/
structure Kept (S : Nat → Prop) (w w' : World) : Prop where
  os : w'.os = w.os
  tape : w'.tape = w.tape
  output : w'.output = w.output
  size : w.heap.size ≤ w'.heap.size
  block : ∀ k, k < w.heap.size → ¬ S k → w'.heap[k]? = w.heap[k]?

theorem Kept.refl (S : Nat → Prop) (w : World) : Kept S w w := ⟨rfl, rfl, rfl, Nat.le_refl _, fun _ _ _ => rfl⟩
theorem Kept.trans {S : Nat → Prop} {a b c : World} (h : Kept S a b) (k : Kept S b c) : Kept S a c :=
  ⟨k.os.trans h.os, k.tape.trans h.tape, k.output.trans h.output, Nat.le_trans h.size k.size, fun i hi hs => (k.block i (Nat.lt_of_lt_of_le hi h.size) hs).trans (h.block i hi hs)⟩
theorem Kept.mono {S T : Nat → Prop} {w w' : World} (h : Kept S w w') (hst : ∀ k, k < w.heap.size → S k → T k) : Kept T w w' :=
  ⟨h.os, h.tape, h.output, h.size, fun k hk hs => h.block k hk (fun x => hs (hst k hk x))⟩
theorem Kept.drewN {S : Nat → Prop} {a w : World} (h : Kept S a w) (m : Nat) : Kept S a (w.drewN m) := ⟨h.os, h.tape, h.output, h.size, h.block⟩
theorem Kept.drew {S : Nat → Prop} {a w : World} (h : Kept S a w) : Kept S a w.drew := ⟨h.os, h.tape, h.output, h.size, h.block⟩
theorem Kept.setCell {S : Nat → Prop} {a w : World} (h : Kept S a w) {p : Addr} (hp : S p.block) (u : Value) : Kept S a (w.setCell p u) :=
  h.trans ⟨rfl, rfl, rfl, by simp [World.setCell], fun k _ hs => Below.heap_setCell _ _ _ _ (fun e => hs (e ▸ hp))⟩
theorem Kept.alloc {S : Nat → Prop} {a w : World} (h : Kept S a w) (o : Obj) : Kept S a (w.alloc o) :=
  h.trans ⟨rfl, rfl, rfl, by simp, fun k hk _ => Below.heap_alloc _ _ _ hk⟩
theorem Kept.grown {S : Nat → Prop} {a w w' : World} {row : Option Nat} (h : Kept S a w) (hg : w.grownBy w' row) (hr : ∀ k, row = some k → S k) : Kept S a w' :=
  h.trans ⟨hg.os, hg.tape, hg.output, hg.size, fun k hk hs => hg.block k hk (fun e => hs (hr k e.symm))⟩
theorem Kept.below {S : Nat → Prop} {w w' : World} {B : Nat} (h : Kept S w w') (hB : B ≤ w.heap.size) (hs : ∀ k, S k → B ≤ k) : Below B w w' :=
  ⟨h.os, h.tape, h.output, h.size, fun k hk => h.block k (by omega) (fun x => by have := hs k x; omega)⟩

abbrev Kept1 (nb : Nat) (w w' : World) : Prop := Kept (fun k => k = nb) w w'
theorem Kept1.set {nb : Nat} {a w : World} (h : Kept1 nb a w) (o : Nat) (u : Value) : Kept1 nb a (w.setCell ⟨nb, o, none⟩ u) := Kept.setCell h rfl u

theorem Kept1.grownBy {nb : Nat} {w w' : World} (h : Kept1 nb w w') : w.grownBy w' (some nb) :=
  ⟨h.os, h.tape, h.output, h.size, fun k hk hs => h.block k hk (fun e => hs (by rw [e]))⟩

/-- New nodes, all else as it was. -/
theorem Lies.renode {w w' : World} {base p nb n : Nat} {g g' : Uf.G} {jv : Value} {js : List (Nat × Nat)} (h : Lies w base p nb n g jv js) (K : Kept1 nb w w') {f : Nat → Value} (R : w'.rowIs nb 150 (n * 4) f) (hf : ∀ j, j < n * 4 → f j = nodeC g' j) : Lies w' base p nb n g' jv js :=
  ⟨h.sets.of_block (K.block p h.sets.lt h.ne), R.congr hf, h.joins.kept K.grownBy (Or.inr h.jn), h.ne, h.jp, h.jn, h.bp, h.bn, h.small⟩

theorem quarters (j : Nat) : ∃ q, j = q * 4 ∨ j = q * 4 + 1 ∨ j = q * 4 + 2 ∨ j = q * 4 + 3 := ⟨j / 4, by omega⟩

theorem hang_cells (g : Uf.G) (c r : Nat) (hne : c ≠ r) (j : Nat) :
    (if j = r * 4 + 3 then .int .i64 (if (g.N c).lst < (g.N r).lst then ((g.N c).lst : Int) else ((g.N r).lst : Int)) else if j = r * 4 + 2 then .int .i64 ((g.N r).siz + (g.N c).siz : Int) else if j = r * 4 + 1 then .int .i64 ((g.N c).nxt : Int) else if j = c * 4 + 1 then .int .i64 ((g.N r).nxt : Int) else if j = c * 4 then .int .i64 (r : Int) else nodeC g j) = nodeC (Uf.hang g c r) j := by
  obtain ⟨q, hq⟩ := quarters j
  by_cases e1 : q = c
  · subst e1
    rcases hq with rfl | rfl | rfl | rfl
    · rw [if_neg (by omega), if_neg (by omega), if_neg (by omega), if_neg (by omega), if_pos rfl, nodeC_par]; simp [Uf.hang]
    · rw [if_neg (by omega), if_neg (by omega), if_neg (by omega), if_pos rfl, nodeC_nxt]; simp [Uf.hang]
    · rw [if_neg (by omega), if_neg (by omega), if_neg (by omega), if_neg (by omega), if_neg (by omega), nodeC_siz, nodeC_siz]; simp [Uf.hang]
    · rw [if_neg (by omega), if_neg (by omega), if_neg (by omega), if_neg (by omega), if_neg (by omega), nodeC_lst, nodeC_lst]; simp [Uf.hang]
  · by_cases e2 : q = r
    · subst e2
      rcases hq with rfl | rfl | rfl | rfl
      · rw [if_neg (by omega), if_neg (by omega), if_neg (by omega), if_neg (by omega), if_neg (by omega), nodeC_par, nodeC_par]; simp [Uf.hang, e1]
      · rw [if_neg (by omega), if_neg (by omega), if_pos rfl, nodeC_nxt]; simp [Uf.hang, e1]
      · rw [if_neg (by omega), if_pos rfl, nodeC_siz]; simp [Uf.hang, e1]
      · rw [if_pos rfl, nodeC_lst]; simp only [Uf.hang, e1, if_false, if_true]; split <;> (congr 1; omega)
    · have e : (Uf.hang g c r).N q = g.N q := by simp [Uf.hang, e1, e2]
      rcases hq with rfl | rfl | rfl | rfl
      · rw [if_neg (by omega), if_neg (by omega), if_neg (by omega), if_neg (by omega), if_neg (by omega), nodeC_par, nodeC_par, e]
      · rw [if_neg (by omega), if_neg (by omega), if_neg (by omega), if_neg (by omega), if_neg (by omega), nodeC_nxt, nodeC_nxt, e]
      · rw [if_neg (by omega), if_neg (by omega), if_neg (by omega), if_neg (by omega), if_neg (by omega), nodeC_siz, nodeC_siz, e]
      · rw [if_neg (by omega), if_neg (by omega), if_neg (by omega), if_neg (by omega), if_neg (by omega), nodeC_lst, nodeC_lst, e]

set_option maxHeartbeats 1000000 in
theorem hang_in (w : World) (base p nb n : Nat) (g : Uf.G) (jv : Value) (js : List (Nat × Nat)) (h : Lies w base p nb n g jv js) (c r : Nat) (hc : c < n) (hr : r < n) (hne : c ≠ r)
    (hsz : (g.N r).siz + (g.N c).siz ≤ 100000) :
    Calls Tryz.prog 113 #[.pointer (some ⟨p, 0, none⟩), .int .i64 c, .int .i64 r] w fun e w' => e = .returned (.tuple #[]) ∧ Lies w' base p nb n (Uf.hang g c r) jv js ∧ Kept1 nb w w' := by
  have c0 := h.c0
  have hn := h.small
  have x0 := h.par hc
  have x1 := h.nxt hc
  have y1 := h.nxt hr
  have fx0 := h.nodes.frozen (c * 4)
  have fx1 := h.nodes.frozen (c * 4 + 1)
  have fy1 := h.nodes.frozen (r * 4 + 1)
  have e1 : ¬ (c * 4 = r * 4 + 1) := by omega
  have e2 : ¬ (c * 4 + 1 = r * 4 + 1) := by omega
  have e3 : ¬ (c = r) := hne
  go_enter Tryz.func113, Tryz.ntmps113
  go_wp2_with fail
  go_quiet (fail)
  go_wp2_with fail
  go_region
  generalize hw1 : (((w.drewN (nq + 1)).setCell ⟨nb, c * 4, none⟩ (.int .i64 (r : Int))).setCell ⟨nb, c * 4 + 1, none⟩ (.int .i64 ((g.N r).nxt : Int))).setCell ⟨nb, r * 4 + 1, none⟩ (.int .i64 ((g.N c).nxt : Int)) = w1
  have R1 : w1.rowIs nb 150 (n * 4) (fun j => if j = r * 4 + 1 then .int .i64 ((g.N c).nxt : Int) else if j = c * 4 + 1 then .int .i64 ((g.N r).nxt : Int) else if j = c * 4 then .int .i64 (r : Int) else nodeC g j) := by
    rw [← hw1]; exact ((h.drewN.nodes.set _ _).set _ _).set _ _
  have K1 : Kept1 nb w w1 := by
    rw [← hw1]; exact Kept1.set (Kept1.set (Kept1.set ((Kept.refl _ w).drewN _) _ _) _ _) _ _
  have x2 : w1.cell? ⟨nb, c * 4 + 2, none⟩ = some (.int .i64 ((g.N c).siz : Int)) := by
    rw [R1.cell (i := c * 4 + 2) (by omega), if_neg (by omega), if_neg (by omega), if_neg (by omega), nodeC_siz]
  have y2 : w1.cell? ⟨nb, r * 4 + 2, none⟩ = some (.int .i64 ((g.N r).siz : Int)) := by
    rw [R1.cell (i := r * 4 + 2) (by omega), if_neg (by omega), if_neg (by omega), if_neg (by omega), nodeC_siz]
  have fy2 := R1.frozen (r * 4 + 2)
  clear x0 x1 y1 fx0 fx1 fy1 hw1 e1 e2 c0
  go_wp2_with fail
  go_region
  generalize hw2 : (w1.setCell ⟨nb, r * 4 + 2, none⟩ (.int .i64 ((g.N r).siz + (g.N c).siz : Int))).drew = w2
  have R2 := (R1.set (r * 4 + 2) (.int .i64 ((g.N r).siz + (g.N c).siz : Int))).drew
  have K2 := (Kept1.set K1 (r * 4 + 2) (.int .i64 ((g.N r).siz + (g.N c).siz : Int))).drew
  rw [hw2] at R2 K2
  have x3 : w2.cell? ⟨nb, c * 4 + 3, none⟩ = some (.int .i64 ((g.N c).lst : Int)) := by
    rw [R2.cell (i := c * 4 + 3) (by omega), if_neg (by omega), if_neg (by omega), if_neg (by omega), if_neg (by omega), nodeC_lst]
  have y3 : w2.cell? ⟨nb, r * 4 + 3, none⟩ = some (.int .i64 ((g.N r).lst : Int)) := by
    rw [R2.cell (i := r * 4 + 3) (by omega), if_neg (by omega), if_neg (by omega), if_neg (by omega), if_neg (by omega), nodeC_lst]
  have fy3 := R2.frozen (r * 4 + 3)
  clear x2 y2 fy2 hw2 K1 R1
  go_wp2_with fail
  go_region
  have R3 := (R2.set (r * 4 + 3) (.int .i64 (if (g.N c).lst < (g.N r).lst then ((g.N c).lst : Int) else ((g.N r).lst : Int)))).drew
  have K3 := (Kept1.set K2 (r * 4 + 3) (.int .i64 (if (g.N c).lst < (g.N r).lst then ((g.N c).lst : Int) else ((g.N r).lst : Int)))).drew
  go_end0
  exact ⟨rfl, h.renode K3 R3 (fun j _ => hang_cells g c r hne j), K3⟩

end Go.Proofs.YtlehlgipbhfioaaGreat

namespace Go.Proofs.YtlehlgipbhfioaaGreat
open Go.RowKit

def opp (l : Nat) : Nat := if l % 2 = 0 then l + 1 else l - 1

theorem xor_one (l : Nat) : l ^^^ 1 = opp l := by
  unfold opp
  have h : (l ^^^ 1) % 2 = (l % 2 + 1) % 2 := by
    have h0 := Nat.testBit_xor l 1 0
    simp only [Nat.testBit_zero] at h0
    rcases Nat.mod_two_eq_zero_or_one (l ^^^ 1) with a | a <;> rcases Nat.mod_two_eq_zero_or_one l with b | b <;> simp [a, b] at h0 ⊢
  have h2 : (l ^^^ 1) / 2 = l / 2 := by
    have : (l ^^^ 1) / 2 = l / 2 ^^^ 1 / 2 := Nat.xor_div_two
    simpa using this
  split <;> omega
theorem i32_xor_one (l : Nat) (hl : l < 1073741824) : bits .xor .i32 (l : Int) 1 = (opp l : Int) := by
  have h1 : (BitVec.ofInt 32 (l : Int)).toNat = l := by
    rw [BitVec.ofInt_natCast, BitVec.toNat_ofNat]; exact Nat.mod_eq_of_lt (by omega)
  have h2 : (BitVec.ofInt 32 (1 : Int)).toNat = 1 := by decide
  have hw : ∀ n : Nat, n < 2147483648 → IntKind.i32.wrap (n : Int) = (n : Int) := fun n hn => by
    simp [IntKind.wrap, IntKind.bits, IntKind.signed]
    omega
  show IntKind.i32.wrap ((BitVec.ofInt 32 (l : Int) ^^^ BitVec.ofInt 32 (1 : Int)).toNat : Int) = _
  rw [BitVec.toNat_xor, h1, h2, xor_one]
  exact hw _ (by unfold opp; split <;> omega)

set_option maxHeartbeats 400000 in
theorem opp_in (w : World) (l : Nat) (hl : l < 1073741824) : Calls Tryz.prog 177 #[.int .i32 (l : Int)] w fun e w' => e = .returned (.int .i32 (opp l : Int)) ∧ w = w' := by
  have hx := i32_xor_one l hl
  go_enter Tryz.func177, Tryz.ntmps177
  go_wp2
  go_ret
  exact ⟨by simp, rfl⟩
set_option maxHeartbeats 400000 in
theorem var_in (w : World) (l : Nat) : Calls Tryz.prog 200 #[.int .i32 (l : Int)] w fun e w' => e = .returned (.int .i32 ((l / 2 : Nat) : Int)) ∧ w = w' := by
  have h2 : ((l / 2 : Nat) : Int) = (l : Int) / 2 := by omega
  go_enter Tryz.func200, Tryz.ntmps200
  go_wp2
  go_ret
  exact ⟨by rw [h2]; rfl, rfl⟩
/-- The literal of a variable. -/
def litV (v : Nat) (t : Int) : Nat := if t = -1 then 2 * v + 1 else 2 * v
set_option maxHeartbeats 400000 in
theorem is_in (w : World) (v : Nat) (t : Int) (hv : v < 268435456) : Calls Tryz.prog 131 #[.int .i32 (v : Int), .int .i8 t] w fun e w' => e = .returned (.int .i32 (litV v t : Int)) ∧ w = w' := by
  have hx := i32_xor_one (2 * v) (by omega)
  have ho : opp (2 * v) = 2 * v + 1 := by unfold opp; rw [if_pos (by omega)]
  rw [ho, show ((2 * v : Nat) : Int) = (v : Int) * 2 by omega] at hx
  have HL : Hid (litV v t = _) := litV.eq_1 v t
  clear ho
  by_cases ht : t = -1
  · subst ht
    go_enter Tryz.func131, Tryz.ntmps131
    go_wp2
    go_ret
    rw [show litV v (-1) = 2 * v + 1 from rfl]
    exact ⟨by simp, rfl⟩
  · have d : (t == -1) = false := by simpa using ht
    go_enter Tryz.func131, Tryz.ntmps131
    go_wp2
    go_ret
    rw [HL.out, if_neg ht]
    exact ⟨by simp; omega, rfl⟩
/-- The literal of a number. -/
def litN (x : Int) : Nat := if x < 0 then 2 * x.natAbs + 1 else 2 * x.natAbs
set_option maxHeartbeats 400000 in
theorem litOf_in (w : World) (x : Int) (h1 : -2000 ≤ x) (h2 : x ≤ 2000) : Calls Tryz.prog 87 #[.int .i64 x] w fun e w' => e = .returned (.int .i32 (litN x : Int)) ∧ w = w' := by
  have HL : Hid (litN x = _) := litN.eq_1 x
  by_cases hx : x < 0
  · have d : decide (x < 0) = true := decide_eq_true hx
    obtain ⟨v, rfl⟩ : ∃ v : Nat, x = -(v : Int) := ⟨x.natAbs, by omega⟩
    have I1 := is_in w v (-1) (by omega)
    have w1 : IntKind.i64.wrap (-(-(v : Int))) = (v : Int) := by rw [IntKind.wrap_i64]; omega
    have w2 : IntKind.i32.wrap (v : Int) = (v : Int) := by simp [IntKind.wrap, IntKind.bits, IntKind.signed]; omega
    go_enter Tryz.func87, Tryz.ntmps87
    go_wp2_with (first | (go_at_call 131; refine I1.mono ?_; rintro e w2 ⟨rfl, rfl⟩))
    go_ret
    rw [show litN (-(v : Int)) = 2 * v + 1 by unfold litN; rw [if_pos (by omega)]; simp]
    exact ⟨by simp [litV], rfl⟩
  · have d : decide (x < 0) = false := decide_eq_false hx
    obtain ⟨v, rfl⟩ : ∃ v : Nat, x = (v : Int) := ⟨x.natAbs, by omega⟩
    have I1 := is_in w v 1 (by omega)
    have w2 : IntKind.i32.wrap (v : Int) = (v : Int) := by simp [IntKind.wrap, IntKind.bits, IntKind.signed]; omega
    go_enter Tryz.func87, Tryz.ntmps87
    go_wp2_with (first | (go_at_call 131; refine I1.mono ?_; rintro e w2 ⟨rfl, rfl⟩))
    go_ret
    rw [show litN (v : Int) = 2 * v by unfold litN; rw [if_neg (by omega)]; simp]
    exact ⟨by simp [litV], rfl⟩

end Go.Proofs.YtlehlgipbhfioaaGreat

namespace Go.Proofs.YtlehlgipbhfioaaGreat
open Go.RowKit Go.Maps

/-- A block, its type, its cells. -/
abbrev Ent := Nat × TypeId × List Value
structure Own (W : World) (L : List Ent) : Prop where
  nodup : (L.map (fun e => e.1)).Nodup
  holds : ∀ e ∈ L, W.heap[e.1]? = some (Obj.cells e.2.2.toArray e.2.1 (0, 0))

theorem Own.lt {W : World} {L : List Ent} (h : Own W L) {e : Ent} (he : e ∈ L) : e.1 < W.heap.size := (Array.getElem?_eq_some_iff.1 (h.holds e he)).1
theorem Own.cell {W : World} {L : List Ent} (h : Own W L) {b : Nat} {ty : TypeId} {cs : List Value} (he : (b, ty, cs) ∈ L) {i : Nat} {v : Value} (hi : cs[i]? = some v) : W.cell? ⟨b, i, none⟩ = some v := by
  have := h.holds _ he
  simp only at this
  simp [World.cell?, this, hi]
theorem Own.frozen {W : World} {L : List Ent} (h : Own W L) {b : Nat} {ty : TypeId} {cs : List Value} (he : (b, ty, cs) ∈ L) (i : Nat) : W.frozen? ⟨b, i, none⟩ = false := by
  have := h.holds _ he
  simp only at this
  have hr : W.rowIs b ty cs.length (fun j => cs[j]?.getD undef) := ⟨cs.toArray, this, by simp, fun j hj => by simp [hj]⟩
  exact hr.frozen i
theorem Own.rowIs {W : World} {L : List Ent} (h : Own W L) {b : Nat} {ty : TypeId} {cs : List Value} (he : (b, ty, cs) ∈ L) : W.rowIs b ty cs.length (fun j => cs[j]?.getD undef) :=
  ⟨cs.toArray, h.holds _ he, by simp, fun j hj => by simp [hj]⟩
theorem Own.keep {W W' : World} {L : List Ent} (h : Own W L) (hb : ∀ e ∈ L, W'.heap[e.1]? = W.heap[e.1]?) : Own W' L := ⟨h.nodup, fun e he => (hb e he).trans (h.holds e he)⟩
theorem Own.kept {W W' : World} {L : List Ent} {S : Nat → Prop} (h : Own W L) (K : Kept S W W') (hs : ∀ e ∈ L, ¬ S e.1) : Own W' L := h.keep (fun e he => K.block _ (h.lt he) (hs e he))

theorem mem_key {L : List Ent} (h : (L.map (fun e => e.1)).Nodup) {k : Nat} {e e' : Ent} (hk : L[k]? = some e) (he' : e' ∈ L.set k e) (hb : e'.1 = e.1) : e' = e := by
  obtain ⟨j, hj⟩ := List.getElem?_of_mem he'
  have hkl := (List.getElem?_eq_some_iff.1 hk).1
  by_cases ejk : k = j
  · subst ejk
    rw [List.getElem?_set_self hkl] at hj
    cases hj
    rfl
  · rw [List.getElem?_set_ne ejk] at hj
    have h1 : (L.map (fun e => e.1))[k]? = some e.1 := by rw [List.getElem?_map, hk]; rfl
    have h2 : (L.map (fun e => e.1))[j]? = some e'.1 := by rw [List.getElem?_map, hj]; rfl
    obtain ⟨a1, b1⟩ := List.getElem?_eq_some_iff.1 h1
    obtain ⟨a2, b2⟩ := List.getElem?_eq_some_iff.1 h2
    exact absurd ((List.getElem_inj h).1 (b1.trans (hb.symm.trans b2.symm))) ejk

/-- One block is others' cells: all else stays. -/
theorem Own.put {W W' : World} {L : List Ent} (h : Own W L) {k : Nat} {b : Nat} {ty : TypeId} {cs cs' : List Value} (hk : L[k]? = some (b, ty, cs)) (hb : W'.heap[b]? = some (Obj.cells cs'.toArray ty (0, 0))) (ho : ∀ e ∈ L, e.1 ≠ b → W'.heap[e.1]? = W.heap[e.1]?) : Own W' (L.set k (b, ty, cs')) := by
  have hkl := (List.getElem?_eq_some_iff.1 hk).1
  refine ⟨?_, fun e he => ?_⟩
  · have : (L.set k (b, ty, cs')).map (fun e => e.1) = L.map (fun e => e.1) := by
      rw [List.map_set]
      apply List.ext_getElem?
      intro j
      by_cases e : k = j
      · subst e
        rw [List.getElem?_set_self (by simpa using hkl), List.getElem?_map, hk]
        rfl
      · rw [List.getElem?_set_ne e]
    rw [this]
    exact h.nodup
  · obtain ⟨j, hj⟩ := List.getElem?_of_mem he
    by_cases ejk : k = j
    · subst ejk
      rw [List.getElem?_set_self hkl] at hj
      cases hj
      exact hb
    · rw [List.getElem?_set_ne ejk] at hj
      have hm := List.mem_of_getElem? hj
      refine (ho e hm (fun e2 => ?_)).trans (h.holds e hm)
      have h1 : (L.map (fun e => e.1))[k]? = some b := by rw [List.getElem?_map, hk]; rfl
      have h2 : (L.map (fun e => e.1))[j]? = some e.1 := by rw [List.getElem?_map, hj]; rfl
      obtain ⟨a1, b1⟩ := List.getElem?_eq_some_iff.1 h1
      obtain ⟨a2, b2⟩ := List.getElem?_eq_some_iff.1 h2
      exact ejk ((List.getElem_inj h.nodup).1 (b1.trans (e2.symm.trans b2.symm)))
/-- A cell is set. -/
theorem Own.set {W : World} {L : List Ent} (h : Own W L) {k : Nat} {b : Nat} {ty : TypeId} {cs : List Value} (hk : L[k]? = some (b, ty, cs)) (i : Nat) (v : Value) : Own (W.setCell ⟨b, i, none⟩ v) (L.set k (b, ty, cs.set i v)) := by
  refine h.put hk ?_ (fun e _ hne => Below.heap_setCell _ _ _ _ hne)
  have hb := h.holds _ (List.mem_of_getElem? hk)
  have hlt := h.lt (List.mem_of_getElem? hk)
  simp only at hb hlt
  unfold World.setCell
  simp [Array.getElem?_modify, hb]
/-- A block more. -/
theorem Own.alloc {W : World} {L : List Ent} (h : Own W L) (ty : TypeId) (cs : List Value) : Own (W.alloc (.cells cs.toArray ty)) (L ++ [(W.heap.size, ty, cs)]) := by
  refine ⟨?_, fun e he => ?_⟩
  · rw [List.map_append, List.nodup_append]
    refine ⟨h.nodup, by simp, fun a ha b hb => ?_⟩
    simp at hb
    subst hb
    obtain ⟨e, he, rfl⟩ := List.mem_map.1 ha
    have := h.lt he
    omega
  · rcases List.mem_append.1 he with he | he
    · exact (Below.heap_alloc W _ _ (h.lt he)).trans (h.holds e he)
    · obtain rfl := List.mem_singleton.1 he
      exact World.alloc_heap_new W _
theorem Own.other {W : World} {L : List Ent} (h : Own W L) (o : Obj) : Own (W.alloc o) L := h.keep (fun _ he => Below.heap_alloc W o _ (h.lt he))
/-- In another order, or less. -/
theorem Own.sub {W : World} {L L' : List Ent} (h : Own W L) (hs : L'.Sublist L) : Own W L' := ⟨h.nodup.sublist (hs.map _), fun e he => h.holds e (hs.subset he)⟩
theorem Own.perm {W : World} {L L' : List Ent} (h : Own W L) (hp : L.Perm L') : Own W L' := ⟨(hp.map _).nodup_iff.1 h.nodup, fun e he => h.holds e (hp.mem_iff.2 he)⟩

end Go.Proofs.YtlehlgipbhfioaaGreat

namespace Go.Proofs.YtlehlgipbhfioaaGreat
open Go.RowKit Go.Maps

/-- A search. -/
structure Sv where
  n : Nat
  vals : List Int
  ws : List (List (Nat × Nat))
  cl : List (List Nat)
  trail : List Nat
  starts : List Nat
  seen : Nat
  hp : List Nat
  fin : Bool

namespace Sv
def val (s : Sv) (l : Nat) : Int := s.vals[l]?.getD 0
def wat (s : Sv) (l : Nat) : List (Nat × Nat) := s.ws[l]?.getD []
def lits (s : Sv) (c : Nat) : List Nat := s.cl[c]?.getD []
def assign (s : Sv) (l : Nat) : Sv := { s with vals := (s.vals.set l 1).set (opp l) (-1), trail := s.trail ++ [l] }
/-- A literal watches one clause more. -/
def addW (s : Sv) (l c o : Nat) : Sv := { s with ws := s.ws.set l (s.wat l ++ [(c, o)]) }
def watch (s : Sv) (c : Nat) : Sv := (s.addW ((s.lits c)[0]?.getD 0) c ((s.lits c)[1]?.getD 0)).addW ((s.lits c)[1]?.getD 0) c ((s.lits c)[0]?.getD 0)
def addFact (s : Sv) (l : Nat) : Sv := if s.val l = -1 then { s with fin := true } else if s.val l = 0 then s.assign l else s
/-- A clause is taken in. -/
def add (s : Sv) (ls : List Nat) : Sv :=
  match ls with
  | [] => { s with cl := s.cl ++ [ls], fin := true }
  | [l] => Sv.addFact { s with cl := s.cl ++ [ls] } l
  | _ => Sv.watch { s with cl := s.cl ++ [ls] } s.cl.length
/-- The first literal from i on that is not false. -/
def free (s : Sv) : List Nat → Nat → Option Nat
  | [], _ => none
  | l :: ls, i => if s.val l ≠ -1 then some i else free s ls (i + 1)
def front (ls : List Nat) (gone : Nat) : List Nat := if ls[0]?.getD 0 = gone then (ls.set 0 (ls[1]?.getD 0)).set 1 gone else ls
def moves (s : Sv) (c gone : Nat) : Bool × Sv :=
  if s.val ((front (s.lits c) gone)[0]?.getD 0) = 1 then (false, { s with cl := s.cl.set c (front (s.lits c) gone) })
  else match s.free ((front (s.lits c) gone).drop 2) 2 with
    | none => (false, { s with cl := s.cl.set c (front (s.lits c) gone) })
    | some i => (true, Sv.addW { s with cl := s.cl.set c (((front (s.lits c) gone).set 1 ((front (s.lits c) gone)[i]?.getD 0)).set i gone) } ((front (s.lits c) gone)[i]?.getD 0) c ((front (s.lits c) gone)[0]?.getD 0))
/-- The watches of a literal that is false are gone through. -/
def visitL (gone : Nat) : List (Nat × Nat) → List (Nat × Nat) → Sv → Option Nat × Sv
  | [], stay, s => (none, { s with ws := s.ws.set gone stay })
  | w :: rest, stay, s =>
    if s.val w.2 = 1 then visitL gone rest (stay ++ [w]) s
    else if (s.moves w.1 gone).1 then visitL gone rest stay (s.moves w.1 gone).2
    else if (s.moves w.1 gone).2.val (((s.moves w.1 gone).2.lits w.1)[0]?.getD 0) = 0 then
      visitL gone rest (stay ++ [(w.1, ((s.moves w.1 gone).2.lits w.1)[0]?.getD 0)]) ((s.moves w.1 gone).2.assign (((s.moves w.1 gone).2.lits w.1)[0]?.getD 0))
    else if (s.moves w.1 gone).2.val (((s.moves w.1 gone).2.lits w.1)[0]?.getD 0) = -1 then
      (some w.1, { (s.moves w.1 gone).2 with ws := (s.moves w.1 gone).2.ws.set gone (stay ++ [(w.1, ((s.moves w.1 gone).2.lits w.1)[0]?.getD 0)] ++ rest) })
    else visitL gone rest (stay ++ [(w.1, ((s.moves w.1 gone).2.lits w.1)[0]?.getD 0)]) (s.moves w.1 gone).2
def visit (s : Sv) (gone : Nat) : Option Nat × Sv := visitL gone (s.wat gone) [] s
def follow : Nat → Sv → Option (Option Nat × Sv)
  | 0, _ => none
  | f + 1, s => match s.trail[s.seen]? with
    | none => some (none, s)
    | some l => match Sv.visit { s with seen := s.seen + 1 } (opp l) with
      | (some c, s') => some (some c, s')
      | (none, s') => follow f s'
/-- The next variable of the heap (no score is above another). -/
def pop (s : Sv) : Option Nat × Sv :=
  if s.hp.length ≤ 1 then (none, s)
  else (some (s.hp[1]?.getD 0), { s with hp := (s.hp.set 1 (s.hp[s.hp.length - 1]?.getD 0)).take (s.hp.length - 1) })
def tryN : Nat → Sv → Option (Bool × Sv)
  | 0, _ => none
  | f + 1, s => match s.pop with
    | (none, s') => some (false, s')
    | (some v, s') => if s'.val (2 * v + 1) = 0 then some (true, Sv.assign { s' with starts := s'.starts ++ [s'.trail.length] } (2 * v + 1)) else tryN f s'
/-- none: it does not end within the fuel, or a conflict comes above level 0. -/
def run : Nat → Sv → Option (Bool × Sv)
  | 0, _ => none
  | f + 1, s => if s.fin then some (false, s) else match follow (2 * s.n + 3) s with
    | none => none
    | some (some _, s') => if s'.starts.length = 0 then run f { s' with fin := true } else none
    | some (none, s') => match tryN (s'.hp.length + 1) s' with
      | none => none
      | some (false, s2) => some (true, s2)
      | some (true, s2) => run f s2
def new (n : Nat) : Sv := { n := n, vals := List.replicate (2 * n + 2) 0, ws := List.replicate (2 * n + 2) [], cl := [], trail := [], starts := [], seen := 0, hp := List.range (n + 1), fin := false }
end Sv

/-- Sorted, each once. -/
def insS (x : Nat) : List Nat → List Nat
  | [] => [x]
  | y :: ys => if x < y then x :: y :: ys else if x = y then y :: ys else y :: insS x ys
def litsN (c : List Int) : List Nat := c.foldl (fun acc x => insS (litN x) acc) []
/-- Solve. -/
def solveN (n : Nat) (cs : List (List Int)) : Option (Option (List Bool)) :=
  match Sv.run (n + 2) ((cs.foldl (fun s c => s.add (litsN c)) (Sv.new n))) with
  | none => none
  | some (false, _) => some none
  | some (true, s) => some (some ((List.range n).map fun i => decide (s.val (2 * (i + 1)) = 1)))

-- what the clauses come to that law07's alive asks for
theorem alive_solve0 : solveN 5 [[1], [-4,-2], [-4,-3], [4,2,3], [-4], [-5]] = some (some [true, true, false, false, false]) := by decide +kernel
theorem alive_solve1 : solveN 6 [[6,-2], [5,-1,-6], [1], [-4,-2], [-4,-3], [4,2,3], [-4], [-5]] = some (some [true, false, true, false, false, false]) := by decide +kernel
theorem alive_solve2 : solveN 5 [[1], [-4,-2], [-4,-3], [4,2,3], [-4], [-5], [-3]] = some (some [true, true, false, false, false]) := by decide +kernel
theorem alive_solve3 : solveN 6 [[6,-2], [5,-1,-6], [1], [-4,-2], [-4,-3], [4,2,3], [-4], [-5], [-3]] = some none := by decide +kernel
theorem alive_solve4 : solveN 6 [[6,-2], [5,-1,-6]] = some (some [false, false, false, false, false, false]) := by decide +kernel
theorem alive_solve5 : solveN 6 [[6,-2], [5,-1,-6], [1]] = some (some [true, false, false, false, false, false]) := by decide +kernel
theorem alive_solve6 : solveN 6 [[6,-2], [5,-1,-6], [1], [-4,-2], [-4,-3], [4,2,3], [-4]] = some (some [true, false, true, false, false, false]) := by decide +kernel
theorem alive_solve7 : solveN 6 [[6,-2], [5,-1,-6], [1], [-4,-2], [-4,-3], [4,2,3], [-4], [-3]] = some (some [true, true, false, false, true, true]) := by decide +kernel
theorem alive_solve8 : solveN 6 [[6,-2], [5,-1,-6], [1], [-4,-2], [-4,-3], [4,2,3], [-4], [-3], [-5]] = some none := by decide +kernel
theorem alive_solve9 : solveN 6 [[6,-2], [5,-1,-6], [-4,-2], [-4,-3], [4,2,3], [-4], [-5], [-3]] = some (some [false, true, false, false, false, true]) := by decide +kernel
theorem alive_solve10 : solveN 6 [[6,-2], [5,-1,-6], [1], [-5], [-3]] = some (some [true, false, false, false, false, false]) := by decide +kernel
theorem alive_solve11 : solveN 6 [[6,-2], [5,-1,-6], [1], [-4,-2], [-4,-3], [4,2,3], [-4], [-3]] = some (some [true, true, false, false, true, true]) := by decide +kernel
theorem alive_solve12 : solveN 6 [[6,-2], [5,-1,-6], [1], [-4,-2], [-4,-3], [4,2,3], [-4], [-5]] = some (some [true, false, true, false, false, false]) := by decide +kernel

end Go.Proofs.YtlehlgipbhfioaaGreat

namespace Go.Proofs.YtlehlgipbhfioaaGreat
open Go.RowKit Go.Maps

/-- The parts of a search. -/
inductive Role where
  | search | vals | wout | src | trail | starts | order | heap | places | scores | wishes | best | marks | levels
  | win (l : Nat) | clause (c : Nat) | crow (c : Nat)
deriving DecidableEq

/-- Where they lie, and what the document of the search does not say: spare cells, sources, places. -/
structure Ad where
  blk : Role → Option Nat
  sp : Role → List Value
  src : List Value
  pl : List Value
  room : Value
  endv : Value

/-- A slice over a part. -/
def Ad.slv (A : Ad) (r : Role) (len size : Nat) : Value :=
  match A.blk r with
  | none => .slice none 0 0
  | some b => .slice (some ⟨b, 0, none⟩) len (len + (A.sp r).length / size)
def Ad.ptr (A : Ad) (r : Role) : Value := .pointer ((A.blk r).map fun b => ⟨b, 0, none⟩)

def tyR : Role → TypeId
  | .search => 191 | .vals => 184 | .wout => 272 | .src => 306 | .trail => 192 | .starts => 3 | .order => 270 | .heap => 237
  | .places => 3 | .scores => 268 | .wishes => 184 | .best => 184 | .marks => 4 | .levels => 3 | .win _ => 274 | .clause _ => 182 | .crow _ => 192

def i32 (n : Nat) : Value := .int .i32 (n : Int)
def i64 (n : Nat) : Value := .int .i64 (n : Int)
def watC (A : Ad) (l : List (Nat × Nat)) : List Value := l.flatMap fun w => [A.ptr (.clause w.1), i32 w.2]
def searchC (A : Ad) (s : Sv) : List Value :=
  [A.slv .vals (2 * s.n + 2) 1, A.slv .wout (2 * s.n + 2) 1, A.slv .src (s.n + 1) 2, A.slv .trail s.trail.length 1, A.slv .starts s.starts.length 1, .int .i64 (s.seen : Int), A.ptr .order,
   A.slv .wishes (s.n + 1) 1, A.slv .best (s.n + 1) 1, .int .i64 0, .slice none 0 0, A.room, .bool false, if s.fin then A.endv else .pointer none, A.slv .marks (s.n + 1) 1, .slice none 0 0, .slice none 0 0, A.slv .levels (s.n + 1) 1, .int .i64 0]

def cellsR (A : Ad) (s : Sv) : Role → List Value
  | .search => searchC A s
  | .vals => s.vals.map fun v => .int .i8 v
  | .wout => s.ws.mapIdx fun l x => A.slv (.win l) x.length 2
  | .src => A.src
  | .trail => s.trail.map i32 ++ A.sp .trail
  | .starts => s.starts.map i64 ++ A.sp .starts
  | .order => [A.slv .scores (s.n + 1) 1, A.slv .heap s.hp.length 1, A.slv .places (s.n + 1) 1, .int .u64 1024]
  | .heap => s.hp.map i32 ++ A.sp .heap
  | .places => A.pl
  | .scores => List.replicate (s.n + 1) (.int .u64 0)
  | .wishes => List.replicate (s.n + 1) (.int .i8 (-1))
  | .best => List.replicate (s.n + 1) (.int .i8 (-1))
  | .marks => List.replicate (s.n + 1) (.bool false)
  | .levels => List.replicate (s.n + 1) (.int .i64 0)
  | .win l => watC A (s.wat l) ++ A.sp (.win l)
  | .clause c => [A.slv (.crow c) (s.lits c).length 1, .int .i64 0, .slice none 0 0, .int .i64 0, .bool false, .bool false]
  | .crow c => (s.lits c).map i32 ++ A.sp (.crow c)

/-- The parts that are always there. -/
def fixedR : Role → Bool
  | .trail | .starts | .win _ | .clause _ | .crow _ => false
  | _ => true

/-- Rows that grow. -/
def growR : Role → Bool
  | .trail | .starts | .win _ => true
  | _ => false
def lenR (s : Sv) : Role → Nat
  | .trail => s.trail.length | .starts => s.starts.length | .win l => (s.wat l).length
  | _ => 0
def sizR : Role → Nat
  | .win _ => 2
  | _ => 1
def usedR (A : Ad) (s : Sv) : Role → List Value
  | .trail => s.trail.map i32 | .starts => s.starts.map i64 | .win l => watC A (s.wat l)
  | _ => []

structure Mem (W : World) (A : Ad) (s : Sv) : Prop where
  inj : ∀ r r' b, A.blk r = some b → A.blk r' = some b → r = r'
  has : ∀ r b, A.blk r = some b → W.heap[b]? = some (Obj.cells (cellsR A s r).toArray (tyR r) (0, 0))
  fix : ∀ r, fixedR r = true → ∃ b, A.blk r = some b
  cls : ∀ c, (∃ b, A.blk (.clause c) = some b) ↔ c < s.cl.length
  rows : ∀ c, (∃ b, A.blk (.crow c) = some b) ↔ c < s.cl.length
  win : ∀ l, A.blk (.win l) = none → s.wat l = []
  nil1 : A.blk .trail = none → s.trail = []
  nil2 : A.blk .starts = none → s.starts = []
  even : ∀ r, growR r = true → ∃ k, (A.sp r).length = k * sizR r
  caps : ∀ r, growR r = true → lenR s r + (A.sp r).length / sizR r ≤ maxLen
  flat : A.sp .vals = [] ∧ A.sp .wout = [] ∧ A.sp .src = [] ∧ A.sp .places = [] ∧ A.sp .scores = [] ∧ A.sp .wishes = [] ∧ A.sp .best = [] ∧ A.sp .marks = [] ∧ A.sp .levels = []
  lv : s.vals.length = 2 * s.n + 2
  lw : s.ws.length = 2 * s.n + 2
  ls : A.src.length = (s.n + 1) * 2
  lp : A.pl.length = s.n + 1
  small : s.n ≤ 2000
  endk : ∃ p, A.endv = .pointer (some p)

theorem Mem.lt {W : World} {A : Ad} {s : Sv} (h : Mem W A s) {r : Role} {b : Nat} (hb : A.blk r = some b) : b < W.heap.size := (Array.getElem?_eq_some_iff.1 (h.has r b hb)).1
theorem Mem.row {W : World} {A : Ad} {s : Sv} (h : Mem W A s) {r : Role} {b : Nat} (hb : A.blk r = some b) : W.rowIs b (tyR r) (cellsR A s r).length (fun j => (cellsR A s r)[j]?.getD undef) :=
  ⟨_, h.has r b hb, by simp, fun j hj => by simp [hj]⟩
theorem Mem.cell {W : World} {A : Ad} {s : Sv} (h : Mem W A s) {r : Role} {b : Nat} (hb : A.blk r = some b) {i : Nat} {v : Value} (hi : (cellsR A s r)[i]? = some v) : W.cell? ⟨b, i, none⟩ = some v := by
  simp [World.cell?, h.has r b hb, hi]
theorem Mem.frozen {W : World} {A : Ad} {s : Sv} (h : Mem W A s) {r : Role} {b : Nat} (hb : A.blk r = some b) (i : Nat) : W.frozen? ⟨b, i, none⟩ = false := (h.row hb).frozen i

theorem watC_len (A : Ad) (l : List (Nat × Nat)) : (watC A l).length = l.length * 2 := by
  induction l with
  | nil => rfl
  | cons c cs ih => simp [watC, List.flatMap_cons] at ih ⊢; omega
theorem usedR_len (A : Ad) (s : Sv) {r : Role} (hg : growR r = true) : (usedR A s r).length = lenR s r * sizR r := by
  cases r <;> first | (simp [growR] at hg; done) | (simp [usedR, lenR, sizR, watC_len])
theorem cellsR_grow (A : Ad) (s : Sv) {r : Role} (hg : growR r = true) : cellsR A s r = usedR A s r ++ A.sp r := by
  cases r <;> first | (simp [growR] at hg; done) | rfl
/-- A row that grows, as the laws of append want it. -/
theorem Mem.owns {W : World} {A : Ad} {s : Sv} (h : Mem W A s) {r : Role} (hg : growR r = true) : W.ownsRow 0 (tyR r) (sizR r) (A.slv r (lenR s r) (sizR r)) (lenR s r) (usedR A s r) := by
  have hl := usedR_len A s hg
  refine ⟨hl, ?_⟩
  cases hb : A.blk r with
  | none =>
    have h0 : lenR s r = 0 := by
      cases r <;> first | (simp [growR] at hg; done) | skip
      · simp [lenR, h.nil1 hb]
      · simp [lenR, h.nil2 hb]
      · next l => simp [lenR, h.win l hb]
    exact Or.inl ⟨by simp [Ad.slv, hb], h0⟩
  | some b =>
    obtain ⟨k, hk⟩ := h.even r hg
    have hc := h.caps r hg
    have hs : 0 < sizR r := by cases r <;> simp [sizR]
    have hd : (A.sp r).length / sizR r = k := by rw [hk]; exact Nat.mul_div_cancel _ hs
    rw [hd] at hc
    refine Or.inr ⟨b, lenR s r + k, (cellsR A s r).toArray, by simp [Ad.slv, hb, hd], Nat.zero_le _, h.has r b hb, by omega, hc, ?_, ?_⟩
    · rw [cellsR_grow A s hg]
      simp [hl, hk, Nat.add_mul]
    · rw [cellsR_grow A s hg]
      simp [← hl]

/-- A row lies elsewhere, or has other spare cells. -/
def Ad.up (A : Ad) (r : Role) (b : Nat) (sp : List Value) : Ad := { A with blk := fun r' => if r' = r then some b else A.blk r', sp := fun r' => if r' = r then sp else A.sp r' }

/-- What append leaves of such a row. -/
theorem Mem.grown {W w8 : World} {O : Obj} {A : Ad} {s : Sv} (h : Mem W A s) {r : Role} (hg : growR r = true) {v8 : Value} {news : List Value} (hown : w8.ownsRow 0 (tyR r) (sizR r) v8 (lenR s r + 1) (usedR A s r ++ news)) (hgrow : (W.alloc O).grownBy w8 (A.slv r (lenR s r) (sizR r)).ownBlock) (hat : v8.ownBlock = (A.slv r (lenR s r) (sizR r)).ownBlock ∨ ∀ k, v8.ownBlock = some k → (W.alloc O).heap.size ≤ k) :
    ∃ b sp, v8 = .slice (some ⟨b, 0, none⟩) (lenR s r + 1) (lenR s r + 1 + sp.length / sizR r) ∧ (∃ k, sp.length = k * sizR r) ∧ lenR s r + 1 + sp.length / sizR r ≤ maxLen ∧ w8.heap[b]? = some (Obj.cells (usedR A s r ++ news ++ sp).toArray (tyR r) (0, 0)) ∧ (A.blk r = some b ∨ W.heap.size ≤ b) ∧ ∀ r' b', r' ≠ r → A.blk r' = some b' → w8.heap[b']? = W.heap[b']? ∧ b' ≠ b := by
  have hs : 0 < sizR r := by cases r <;> simp [sizR]
  rcases hown.2 with ⟨_, h0⟩ | ⟨b, cap, cur, e, _, e2, e3, e4, e5, e6⟩
  · omega
  · have hlen := hown.1
    have hcur : cur.toList = (usedR A s r ++ news) ++ cur.toList.drop ((lenR s r + 1) * sizR r) := by rw [← e6, List.take_append_drop]
    have hdl : (cur.toList.drop ((lenR s r + 1) * sizR r)).length = (cap - (lenR s r + 1)) * sizR r := by
      rw [List.length_drop]
      simp only [Array.length_toList, e5]
      rw [Nat.sub_mul]
    have hdd : (cur.toList.drop ((lenR s r + 1) * sizR r)).length / sizR r = cap - (lenR s r + 1) := by rw [hdl]; exact Nat.mul_div_cancel _ hs
    have hbb : v8.ownBlock = some b := by rw [e]; rfl
    have hold : (A.slv r (lenR s r) (sizR r)).ownBlock = A.blk r := by unfold Ad.slv; cases A.blk r <;> rfl
    rw [hbb, hold] at hat
    have hat : A.blk r = some b ∨ W.heap.size < b := hat.imp (fun e => e.symm) (fun e => by have := e b rfl; simp at this; omega)
    refine ⟨b, cur.toList.drop ((lenR s r + 1) * sizR r), by rw [hdd, e]; congr 1; omega, ⟨_, hdl⟩, by rw [hdd]; omega, ?_, ?_, fun r' b' hr hb' => ?_⟩
    · rw [e2, ← hcur]
    · rcases hat with e | e
      · exact Or.inl e
      · exact Or.inr (by omega)
    · have hlt := h.lt hb'
      have hne : A.blk r ≠ some b' := fun e2 => hr (h.inj _ _ _ hb' e2)
      refine ⟨(hgrow.block b' (by simp; omega) (fun e2 => hne (by rw [← hold]; exact e2.symm))).trans (Below.heap_alloc W O b' hlt), ?_⟩
      rintro rfl
      rcases hat with e | e
      · exact hne e
      · omega

/-- The blocks of a search. -/
def Ad.Foot (A : Ad) (k : Nat) : Prop := ∃ r, A.blk r = some k
theorem Mem.keep {W W' : World} {A : Ad} {s : Sv} (h : Mem W A s) (hb : ∀ k, A.Foot k → W'.heap[k]? = W.heap[k]?) : Mem W' A s :=
  { h with has := fun r b hr => (hb b ⟨r, hr⟩).trans (h.has r b hr) }

/-- What a step leaves: a search at s', the others' blocks as they were. -/
structure Step (w w' : World) (A A' : Ad) (s' : Sv) : Prop where
  mem : Mem w' A' s'
  kept : Kept A.Foot w w'
  new : ∀ k, A'.Foot k → A.Foot k ∨ w.heap.size ≤ k
theorem Step.trans {w w1 w2 : World} {A A1 A2 : Ad} {s1 s2 : Sv} (h1 : Step w w1 A A1 s1) (h2 : Step w1 w2 A1 A2 s2) : Step w w2 A A2 s2 := by
  have z := h1.kept.size
  refine ⟨h2.mem, ⟨h2.kept.os.trans h1.kept.os, h2.kept.tape.trans h1.kept.tape, h2.kept.output.trans h1.kept.output, Nat.le_trans z h2.kept.size, fun k hk hn => ?_⟩, fun k hk => ?_⟩
  · refine (h2.kept.block k (Nat.lt_of_lt_of_le hk z) (fun hf => ?_)).trans (h1.kept.block k hk hn)
    rcases h1.new k hf with e | e
    · exact hn e
    · omega
  · rcases h2.new k hk with e | e
    · exact h1.new k e
    · exact Or.inr (by omega)
theorem Step.drew {w : World} {A : Ad} {s : Sv} (h : Mem w A s) (m : Nat) : Step w (w.drewN m) A A s := ⟨h.keep (fun _ _ => rfl), (Kept.refl _ w).drewN m, fun _ hk => Or.inl hk⟩

/-- A cell of a part is set. -/
theorem Mem.set {W : World} {A : Ad} {s s' : Sv} (h : Mem W A s) {r : Role} {b : Nat} (hb : A.blk r = some b) (i : Nat) (v : Value)
    (hr : cellsR A s' r = (cellsR A s r).set i v) (ho : ∀ r', r' ≠ r → cellsR A s' r' = cellsR A s r') : ∀ r' b', A.blk r' = some b' → (W.setCell ⟨b, i, none⟩ v).heap[b']? = some (Obj.cells (cellsR A s' r').toArray (tyR r') (0, 0)) := by
  intro r' b' hb'
  by_cases e : r' = r
  · subst e
    rw [hb] at hb'
    cases hb'
    rw [hr]
    have := h.has r' b hb
    unfold World.setCell
    simp [Array.getElem?_modify, this]
  · rw [ho r' e, Below.heap_setCell _ _ _ _ (fun e2 => e (h.inj _ _ _ hb' (by rw [hb]; exact congrArg some e2.symm)))]
    exact h.has r' b' hb'

end Go.Proofs.YtlehlgipbhfioaaGreat

namespace Go.Proofs.YtlehlgipbhfioaaGreat
open Go.RowKit Go.Maps

theorem opp_lt {l n : Nat} (h : l < 2 * n + 2) : opp l < 2 * n + 2 := by unfold opp; split <;> omega

set_option maxHeartbeats 400000 in
theorem level_in (w : World) (A : Ad) (s : Sv) (h : Mem w A s) (sb : Nat) (hsb : A.blk .search = some sb) :
    Calls Tryz.prog 164 #[.pointer (some ⟨sb, 0, none⟩)] w fun e w' => e = .returned (.int .i64 (s.starts.length : Int)) ∧ w = w' := by
  have c4 := h.cell hsb (i := 4) rfl
  have hs : ∃ a c, A.slv .starts s.starts.length 1 = .slice a s.starts.length c := by
    unfold Ad.slv
    cases hb : A.blk .starts with
    | none => rw [h.nil2 hb]; exact ⟨none, 0, rfl⟩
    | some b => exact ⟨_, _, rfl⟩
  obtain ⟨a, c, hs⟩ := hs
  rw [hs] at c4
  go_enter Tryz.func164, Tryz.ntmps164
  go_wp2_with fail
  go_ret
  exact ⟨rfl, rfl⟩

/-- Two values are set. -/
theorem Mem.two {W : World} {A : Ad} {s : Sv} (h : Mem W A s) {vb : Nat} (hvb : A.blk .vals = some vb) (i j : Nat) (x y : Int) :
    Mem ((W.setCell ⟨vb, i, none⟩ (.int .i8 x)).setCell ⟨vb, j, none⟩ (.int .i8 y)) A { s with vals := (s.vals.set i x).set j y } := by
  have h1 : Mem (W.setCell ⟨vb, i, none⟩ (.int .i8 x)) A { s with vals := s.vals.set i x } :=
    { h with has := h.set hvb i (.int .i8 x) (by simp [cellsR, List.map_set]) (fun r' hr => by cases r' <;> first | rfl | exact absurd rfl hr), lv := by simp [h.lv] }
  exact { h1 with has := h1.set hvb j (.int .i8 y) (by simp [cellsR, List.map_set]) (fun r' hr => by cases r' <;> first | rfl | exact absurd rfl hr), lv := by simp [h.lv] }

/-- A source is set. -/
theorem Mem.source {W : World} {A : Ad} {s : Sv} (h : Mem W A s) {so : Nat} (hso : A.blk .src = some so) (i : Nat) (x y : Value) :
    Mem ((W.setCell ⟨so, i, none⟩ x).setCell ⟨so, i + 1, none⟩ y) { A with src := (A.src.set i x).set (i + 1) y } s := by
  have e : ∀ (S : List Value) (r : Role), r ≠ .src → cellsR { A with src := S } s r = cellsR A s r := fun S r hr => by cases r <;> first | rfl | exact absurd rfl hr
  refine { h with has := fun r b hb => ?_, ls := by simp [h.ls] }
  have hb' : A.blk r = some b := hb
  by_cases er : r = .src
  · subst er
    rw [hso] at hb'
    cases hb'
    have := h.has _ _ hso
    unfold World.setCell
    simp [Array.getElem?_modify, this, cellsR]
  · have hne : b ≠ so := fun e2 => er (h.inj _ _ _ hb' (by rw [hso, e2]))
    rw [e _ r er, Below.heap_setCell _ _ _ _ hne, Below.heap_setCell _ _ _ _ hne]
    exact h.has r b hb'

theorem slv_form {W : World} {A : Ad} {s : Sv} (h : Mem W A s) {r : Role} (hg : growR r = true) : ∃ a c, A.slv r (lenR s r) (sizR r) = .slice a (lenR s r) c := by
  rcases (h.owns hg).2 with ⟨e, h0⟩ | ⟨g, cap, cur, e, _⟩
  · exact ⟨none, 0, by rw [e, h0]⟩
  · exact ⟨_, _, e⟩

/-- A literal more on the trail. -/
theorem Mem.pushTrail {W w8 : World} {A : Ad} {s : Sv} (h : Mem W A s) {sb : Nat} (hsb : A.blk .search = some sb) (l : Nat) {b : Nat} {sp : List Value} {v8 : Value} (hv : v8 = .slice (some ⟨b, 0, none⟩) (s.trail.length + 1) (s.trail.length + 1 + sp.length / 1)) (hcap : s.trail.length + 1 + sp.length / 1 ≤ maxLen)
    (hb : w8.heap[b]? = some (Obj.cells (s.trail.map i32 ++ [i32 l] ++ sp).toArray 192 (0, 0))) (ho : ∀ r' b', r' ≠ .trail → A.blk r' = some b' → w8.heap[b']? = W.heap[b']? ∧ b' ≠ b) :
    Mem (w8.setCell ⟨sb, 3, none⟩ v8) (A.up .trail b sp) { s with trail := s.trail ++ [l] } := by
  have hbs : sb ≠ b := (ho .search sb (by decide) hsb).2
  have hup : ∀ r, r ≠ .trail → (A.up .trail b sp).blk r = A.blk r := fun r hr => if_neg hr
  have hus : ∀ r, r ≠ .trail → (A.up .trail b sp).sp r = A.sp r := fun r hr => if_neg hr
  have hslv : ∀ r k z, r ≠ .trail → (A.up .trail b sp).slv r k z = A.slv r k z := fun r k z hr => by unfold Ad.slv; rw [hup r hr, hus r hr]
  have hptr : ∀ r, r ≠ .trail → (A.up .trail b sp).ptr r = A.ptr r := fun r hr => by unfold Ad.ptr; rw [hup r hr]
  have hslt : (A.up .trail b sp).slv .trail (s.trail.length + 1) 1 = v8 := by rw [hv]; simp [Ad.slv, Ad.up]
  have hcell : ∀ r, r ≠ .trail → r ≠ .search → cellsR (A.up .trail b sp) { s with trail := s.trail ++ [l] } r = cellsR A s r := by
    intro r h1 h2
    cases r <;> first | exact absurd rfl h1 | exact absurd rfl h2 | skip
    all_goals simp only [cellsR]
    all_goals first | rfl | skip
    all_goals simp [hslv, hus, watC, hptr]
    all_goals rfl
  have hsea : cellsR (A.up .trail b sp) { s with trail := s.trail ++ [l] } .search = (cellsR A s .search).set 3 v8 := by
    simp only [cellsR, searchC, List.length_append, List.length_singleton, hslt]
    simp [hslv, hptr]
    exact ⟨rfl, rfl⟩
  refine ⟨?_, ?_, fun r hr => ?_, fun c => ?_, fun c => ?_, fun l => ?_, fun e => ?_, fun e => ?_, fun r hg => ?_, fun r hg => ?_, ?_, h.lv, h.lw, h.ls, h.lp, h.small, h.endk⟩
  · intro r r' b1 h1 h2
    by_cases e1 : r = .trail
    · by_cases e2 : r' = .trail
      · rw [e1, e2]
      · rw [hup r' e2] at h2
        subst e1
        have : b1 = b := by simpa [Ad.up] using h1.symm
        exact absurd this (ho r' b1 e2 h2).2
    · rw [hup r e1] at h1
      by_cases e2 : r' = .trail
      · subst e2
        have : b1 = b := by simpa [Ad.up] using h2.symm
        exact absurd this (ho r b1 e1 h1).2
      · rw [hup r' e2] at h2
        exact h.inj _ _ _ h1 h2
  · intro r b1 h1
    by_cases e1 : r = .trail
    · subst e1
      have e2 : b1 = b := by simpa [Ad.up] using h1.symm
      subst e2
      rw [Below.heap_setCell _ _ _ _ hbs.symm, hb]
      simp [cellsR, Ad.up, tyR]
    · rw [hup r e1] at h1
      by_cases e2 : r = .search
      · subst e2
        rw [hsb] at h1
        cases h1
        have h3 := (ho .search sb (by decide) hsb).1.trans (h.has _ _ hsb)
        rw [hsea]
        unfold World.setCell
        simp [Array.getElem?_modify, h3]
      · rw [hcell r e1 e2, Below.heap_setCell _ _ _ _ (fun e3 => e2 (h.inj _ _ _ h1 (by rw [hsb]; exact congrArg some e3.symm)))]
        exact (ho r b1 e1 h1).1.trans (h.has r b1 h1)
  · rw [hup r (by rintro rfl; cases hr)]
    exact h.fix r hr
  · rw [hup _ (by intro e; cases e)]
    exact h.cls c
  · rw [hup _ (by intro e; cases e)]
    exact h.rows c
  · rw [hup _ (by intro e; cases e)]
    exact h.win l
  · simp [Ad.up] at e
  · rw [hup _ (by intro e; cases e)] at e
    exact h.nil2 e
  · by_cases e1 : r = .trail
    · subst e1
      exact ⟨sp.length, by simp [Ad.up, sizR]⟩
    · rw [hus r e1]
      exact h.even r hg
  · by_cases e1 : r = .trail
    · subst e1
      simpa [Ad.up, sizR, lenR] using hcap
    · rw [hus r e1]
      have : lenR { s with trail := s.trail ++ [l] } r = lenR s r := by
        cases r <;> first | exact absurd rfl e1 | rfl
      rw [this]
      exact h.caps r hg
  · have hf := h.flat
    refine ⟨?_, ?_, ?_, ?_, ?_, ?_, ?_, ?_, ?_⟩
    all_goals rw [hus _ (by intro e; cases e)]
    · exact hf.1
    · exact hf.2.1
    · exact hf.2.2.1
    · exact hf.2.2.2.1
    · exact hf.2.2.2.2.1
    · exact hf.2.2.2.2.2.1
    · exact hf.2.2.2.2.2.2.1
    · exact hf.2.2.2.2.2.2.2.1
    · exact hf.2.2.2.2.2.2.2.2

end Go.Proofs.YtlehlgipbhfioaaGreat

namespace Go.Proofs.YtlehlgipbhfioaaGreat
open Go.RowKit Go.Maps

theorem cell_one1 (w : World) (a : Value) (ty : TypeId) : ∀ j u, [a][j]? = some u → (w.alloc (.cells #[a] ty)).cell? ((⟨w.heap.size, 0, none⟩ : Addr).add j) = some u := by
  intro j u hj
  match j, hj with
  | 0, hj =>
    simp at hj
    subst hj
    have h := World.alloc_heap_new w (Obj.cells #[a] ty)
    have e : ((⟨w.heap.size, 0, none⟩ : Addr).add 0) = ⟨w.heap.size, 0, none⟩ := by simp [Addr.add]
    rw [e]
    unfold World.cell?
    simp only [h]
    rfl
theorem infoLit : (Tryz.prog.info? 192).map (fun i => (i.zero, i.size, i.bytes)) = some (some (.int .i32 0), 1, 4) := by kernel_rfl

set_option maxRecDepth 100000 in
set_option maxHeartbeats 2000000 in
theorem assign_in (w : World) (A : Ad) (s : Sv) (h : Mem w A s) (sb : Nat) (hsb : A.blk .search = some sb) (l : Nat) (hl : l < 2 * s.n + 2) (hlim : s.trail.length ≤ 1073741824) (by_ : Option Addr) :
    Calls Tryz.prog 161 #[.pointer (some ⟨sb, 0, none⟩), i32 l, .pointer by_] w fun e w' => e = .returned (.tuple #[]) ∧ ∃ A', Step w w' A A' (s.assign l) ∧ ∀ r, r ≠ .trail → A'.blk r = A.blk r ∧ A'.sp r = A.sp r := by
  obtain ⟨vb, hvb⟩ := h.fix .vals rfl
  obtain ⟨so, hso⟩ := h.fix .src rfl
  have c12 := h.cell hsb (i := 12) (v := .bool false) rfl
  have c0 := h.cell hsb (i := 0) rfl
  simp only [Ad.slv, hvb, h.flat.1, List.length_nil, Nat.zero_div, Nat.add_zero] at c0
  have hol := opp_lt hl
  have hne : l ≠ opp l := by unfold opp; split <;> omega
  have hsm := h.small
  have OP := fun m => opp_in (w.drewN m) l (by omega)
  have hvl : (cellsR A s .vals)[l]? = some (.int .i8 (s.val l)) := by
    show (s.vals.map _)[l]? = _
    rw [List.getElem?_map, List.getElem?_eq_getElem (by rw [h.lv]; exact hl)]
    simp [Sv.val, List.getElem?_eq_getElem (show l < s.vals.length by rw [h.lv]; exact hl)]
  have hvo : (cellsR A s .vals)[opp l]? = some (.int .i8 (s.val (opp l))) := by
    show (s.vals.map _)[opp l]? = _
    rw [List.getElem?_map, List.getElem?_eq_getElem (by rw [h.lv]; exact hol)]
    simp [Sv.val, List.getElem?_eq_getElem (show opp l < s.vals.length by rw [h.lv]; exact hol)]
  have v1 := h.cell hvb hvl
  have v2 := h.cell hvb hvo
  have g1 := h.frozen hvb l
  have g2 := h.frozen hvb (opp l)
  have dl : (l : Int) < 2 * (s.n : Int) + 2 := by omega
  have dol : (opp l : Int) < 2 * (s.n : Int) + 2 := by omega
  have HM : Hid (Mem w A s) := h
  clear hvl hvo h
  unfold i32
  go_enter Tryz.func161, Tryz.ntmps161
  go_wp2_with fail
  go_cut [19] from 20 to 31 (fun _ wx => wx = ((w.drewN 1).setCell ⟨vb, l, none⟩ (.int .i8 1)).setCell ⟨vb, opp l, none⟩ (.int .i8 (-1)))
  case first =>
    go_region_with (go_at_call 177; refine (OP 1).mono ?_; rintro e w3 ⟨rfl, rfl⟩)
    all_goals
      try simp only [Act.put, List.getElem_toArray, List.getElem_cons_succ, List.getElem_cons_zero, List.setIfInBounds_toArray, List.set_cons_succ, List.set_cons_zero]
      go_wp2_with fail
      go_meet
      case rel => rfl
  case rest =>
    have M1 : Mem wc A { s with vals := (s.vals.set l 1).set (opp l) (-1) } := by
      rw [hcut]
      exact (HM.out.keep (W' := w.drewN 1) (fun _ _ => rfl)).two hvb l (opp l) 1 (-1)
    have S1 : Step w wc A A { s with vals := (s.vals.set l 1).set (opp l) (-1) } := ⟨M1, by rw [hcut]; exact (((Kept.refl _ w).drewN 1).setCell (p := ⟨vb, l, none⟩) ⟨_, hvb⟩ _).setCell (p := ⟨vb, opp l, none⟩) ⟨_, hvb⟩ _, fun _ hk => Or.inl hk⟩
    have HS1 : Hid _ := S1
    have c2 := M1.cell hsb (i := 2) rfl
    simp only [Ad.slv, hso, M1.flat.2.2.1, List.length_nil, Nat.zero_div, Nat.add_zero] at c2
    have VA := fun m => var_in (wc.drewN m) l
    have LE := fun m => level_in (wc.drewN m) A _ (M1.keep (fun _ _ => rfl)) sb hsb
    have hvn : l / 2 < s.n + 1 := by omega
    have hs1 : l / 2 * 2 < A.src.length := by rw [HM.out.ls]; omega
    have hs2 : l / 2 * 2 + 1 < A.src.length := by rw [HM.out.ls]; omega
    have x1 := M1.cell hso (i := l / 2 * 2) (show (cellsR A _ .src)[l / 2 * 2]? = _ from List.getElem?_eq_getElem hs1)
    have x2 := M1.cell hso (i := l / 2 * 2 + 1) (show (cellsR A _ .src)[l / 2 * 2 + 1]? = _ from List.getElem?_eq_getElem hs2)
    have y1 := M1.frozen hso (l / 2 * 2)
    have y2 := M1.frozen hso (l / 2 * 2 + 1)
    have HM1 : Hid _ := M1
    have dv : ((l / 2 : Nat) : Int) < (s.n : Int) + 1 := by omega
    clear hcut M1 S1 v1 v2 g1 g2 OP c0 c12 dl dol HM
    obtain ⟨w1, rfl⟩ : ∃ w1, w1 = wc := ⟨_, rfl⟩
    generalize hlv : l / 2 = v at *
    generalize A.src[v * 2] = z1 at *
    generalize A.src[v * 2 + 1] = z2 at *
    apply_assumption
    go_wp2_with fail
    go_cut [32] from 33 to 42 (fun _ wx => wx = ((w1.drewN 1).setCell ⟨so, v * 2, none⟩ (.int .i64 (s.starts.length : Int))).setCell ⟨so, v * 2 + 1, none⟩ (.pointer by_))
    case first =>
      go_region_with (first | (go_at_call 200; refine (VA 1).mono ?_; rintro e w3 ⟨rfl, rfl⟩) | (go_at_call 164; refine (LE 1).mono ?_; rintro e w3 ⟨rfl, rfl⟩))
      all_goals
        try simp only [Act.put, List.getElem_toArray, List.getElem_cons_succ, List.getElem_cons_zero, List.setIfInBounds_toArray, List.set_cons_succ, List.set_cons_zero]
        go_wp2_with fail
        go_meet
        case rel => rfl
    case rest =>
      have M2 : Mem wc { A with src := (A.src.set (v * 2) (.int .i64 (s.starts.length : Int))).set (v * 2 + 1) (.pointer by_) } { s with vals := (s.vals.set l 1).set (opp l) (-1) } := by
        rw [hcut]
        exact (HM1.out.keep (W' := w1.drewN 1) (fun _ _ => rfl)).source hso (v * 2) _ _
      have S2 : Step w wc A { A with src := (A.src.set (v * 2) (.int .i64 (s.starts.length : Int))).set (v * 2 + 1) (.pointer by_) } { s with vals := (s.vals.set l 1).set (opp l) (-1) } :=
        HS1.out.trans ⟨M2, by rw [hcut]; exact (((Kept.refl _ w1).drewN 1).setCell (p := ⟨so, v * 2, none⟩) ⟨_, hso⟩ _).setCell (p := ⟨so, v * 2 + 1, none⟩) ⟨_, hso⟩ _, fun _ hk => Or.inl hk⟩
      have hA2 : ∀ r, ({ A with src := (A.src.set (v * 2) (.int .i64 (s.starts.length : Int))).set (v * 2 + 1) (.pointer by_) } : Ad).blk r = A.blk r ∧ ({ A with src := (A.src.set (v * 2) (.int .i64 (s.starts.length : Int))).set (v * 2 + 1) (.pointer by_) } : Ad).sp r = A.sp r := fun r => ⟨rfl, rfl⟩
      generalize ({ A with src := (A.src.set (v * 2) (.int .i64 (s.starts.length : Int))).set (v * 2 + 1) (.pointer by_) } : Ad) = A2 at M2 S2 hA2
      have hsb2 : A2.blk .search = some sb := (hA2 .search).1.trans hsb
      clear hcut HS1 HM1 x1 x2 y1 y2 VA LE c2
      have HT : Hid (∀ (w8 : World) (O : Obj) (v8 : Value), w8.ownsRow 0 192 1 v8 (s.trail.length + 1) (s.trail.map i32 ++ [i32 l]) → (wc.alloc O).grownBy w8 (A2.slv .trail s.trail.length 1).ownBlock → (v8.ownBlock = (A2.slv .trail s.trail.length 1).ownBlock ∨ v8.ownBlock = some (wc.alloc O).heap.size) →
          w8.cell? ⟨sb, 3, none⟩ = some (A2.slv .trail s.trail.length 1) ∧ w8.frozen? ⟨sb, 3, none⟩ = false ∧ ∃ b k, v8 = .slice (some ⟨b, 0, none⟩) (s.trail.length + 1) k ∧ ∃ A', Step w (w8.setCell ⟨sb, 3, none⟩ v8) A A' (s.assign l) ∧ ∀ r, r ≠ .trail → A'.blk r = A.blk r ∧ A'.sp r = A.sp r) := fun w8 O v8 h1 h2 h3 => by
        obtain ⟨b, sp, e1, _, e3, e4, e5, e6⟩ := M2.grown (r := .trail) rfl (news := [i32 l]) h1 h2 (h3.imp id (fun e k hk => by rw [e] at hk; cases hk; exact Nat.le_refl _))
        have hs := (e6 .search sb (by decide) hsb2)
        have P := M2.pushTrail hsb2 l e1 e3 e4 e6
        refine ⟨(World.cell?_of_block (a := ⟨sb, 3, none⟩) hs.1).trans (M2.cell hsb2 (i := 3) rfl), (World.frozen?_of_block (a := ⟨sb, 3, none⟩) hs.1).trans (M2.frozen hsb2 3), b, _, e1, A2.up .trail b sp, S2.trans ⟨P, ?_, fun k hk => ?_⟩, fun r hr => ?_⟩
        · have K : Kept A2.Foot wc w8 := Kept.grown ((Kept.refl _ wc).alloc O) h2 (fun k hk => ⟨.trail, by
            have : (A2.slv .trail s.trail.length 1).ownBlock = A2.blk .trail := by unfold Ad.slv; cases A2.blk .trail <;> rfl
            rw [← this]; exact hk⟩)
          exact K.setCell (p := ⟨sb, 3, none⟩) ⟨_, hsb2⟩ _
        · obtain ⟨r, hr⟩ := hk
          by_cases er : r = .trail
          · subst er
            have : k = b := by simpa [Ad.up] using hr.symm
            subst this
            rcases e5 with e5 | e5
            · exact Or.inl ⟨_, e5⟩
            · exact Or.inr e5
          · exact Or.inl ⟨r, by simpa [Ad.up, er] using hr⟩
        · exact ⟨(if_neg hr).trans (hA2 r).1, (if_neg hr).trans (hA2 r).2⟩
      have OW : Hid _ := M2.owns (r := .trail) rfl
      obtain ⟨ta, tc, hts⟩ := slv_form M2 (r := .trail) rfl
      have c3 := M2.cell hsb2 (i := 3) rfl
      have hcap := M2.caps .trail rfl
      have hTL : s.trail.length ≤ 1073741824 := hlim
      rw [show lenR { s with vals := (s.vals.set l 1).set (opp l) (-1) } .trail = s.trail.length from rfl, show sizR .trail = 1 from rfl] at hts
      rw [show A2.slv .trail ({ s with vals := (s.vals.set l 1).set (opp l) (-1) } : Sv).trail.length 1 = .slice ta s.trail.length tc from hts] at c3
      have HTS : Hid _ := hts
      obtain ⟨i0, hi0, hz0, hz1, hz2⟩ := info_parts infoLit
      clear M2 S2 hA2 hcap hts
      apply_assumption
      go_wp2_with (first | (at_builtin; refine Aside.out ?_))
      delta Aside
      have OW2 : wc.ownsRow 0 192 1 (.slice ta s.trail.length tc) s.trail.length (s.trail.map i32) := HTS.out ▸ OW.out
      refine wpList_append_own_at _ rfl _ _ 178 rfl 0 192 i0 _ 1 4 Tryz.underlying178 hi0 hz0 hz1 hz2 rfl (by decide) _ _ _ rfl (OW2.alloc _) ⟨_, 0, none⟩ 1 1 [.int .i32 (l : Int)] rfl rfl (cell_one1 wc _ _) (by simp [Value.oneCell']) (by unfold maxLen; omega) (by omega) (by simp) ?_
      intro v8 w8 hown8 hgrow8 _ hat8
      obtain ⟨d3, f3, b8, k8, hv8, A', ST, hsame⟩ := HT.out w8 _ v8 hown8 (by rw [HTS.out]; exact hgrow8) (by rw [HTS.out]; exact hat8)
      rw [HTS.out] at d3
      subst hv8
      have HF : Hid (_ ∧ _) := And.intro ST hsame
      clear hown8 hgrow8 hat8 ST hsame HT OW OW2 HTS c3
      go_wp2_with fail
      refine ⟨rfl, .tuple #[], by simp [results, Tryz.results161], rfl, A', HF.out⟩

end Go.Proofs.YtlehlgipbhfioaaGreat

namespace Go.Proofs.YtlehlgipbhfioaaGreat
open Go.RowKit Go.Maps

theorem wat_addW {s : Sv} {l c o : Nat} (hl : l < s.ws.length) (l' : Nat) : (s.addW l c o).wat l' = if l' = l then s.wat l ++ [(c, o)] else s.wat l' := by
  unfold Sv.addW Sv.wat
  by_cases e : l' = l
  · subst e; simp [hl]
  · rw [if_neg e, List.getElem?_set_ne (fun x => e x.symm)]

/-- A watch more. -/
theorem Mem.pushWin {W w8 : World} {A : Ad} {s : Sv} (h : Mem W A s) {wb : Nat} (hwb : A.blk .wout = some wb) (l c o : Nat) (hl : l < 2 * s.n + 2) {b : Nat} {sp : List Value} {v8 : Value} (hv : v8 = .slice (some ⟨b, 0, none⟩) ((s.wat l).length + 1) ((s.wat l).length + 1 + sp.length / 2)) (hev : ∃ k, sp.length = k * 2) (hcap : (s.wat l).length + 1 + sp.length / 2 ≤ maxLen)
    (hb : w8.heap[b]? = some (Obj.cells (watC A (s.wat l) ++ [A.ptr (.clause c), i32 o] ++ sp).toArray 274 (0, 0))) (ho : ∀ r' b', r' ≠ .win l → A.blk r' = some b' → w8.heap[b']? = W.heap[b']? ∧ b' ≠ b) :
    Mem (w8.setCell ⟨wb, l, none⟩ v8) (A.up (.win l) b sp) (s.addW l c o) := by
  have hlw : l < s.ws.length := by rw [h.lw]; exact hl
  have hbs : wb ≠ b := (ho .wout wb (by intro e; cases e) hwb).2
  have hup : ∀ r, r ≠ .win l → (A.up (.win l) b sp).blk r = A.blk r := fun r hr => if_neg hr
  have hus : ∀ r, r ≠ .win l → (A.up (.win l) b sp).sp r = A.sp r := fun r hr => if_neg hr
  have hslv : ∀ r k z, r ≠ .win l → (A.up (.win l) b sp).slv r k z = A.slv r k z := fun r k z hr => by unfold Ad.slv; rw [hup r hr, hus r hr]
  have hptr : ∀ r, r ≠ .win l → (A.up (.win l) b sp).ptr r = A.ptr r := fun r hr => by unfold Ad.ptr; rw [hup r hr]
  have hslt : (A.up (.win l) b sp).slv (.win l) ((s.wat l).length + 1) 2 = v8 := by rw [hv]; simp [Ad.slv, Ad.up]
  have hwat := wat_addW (c := c) (o := o) hlw
  have hwc : ∀ x, watC (A.up (.win l) b sp) x = watC A x := fun x => by simp [watC, hptr]
  have hcell : ∀ r, r ≠ .win l → r ≠ .wout → cellsR (A.up (.win l) b sp) (s.addW l c o) r = cellsR A s r := by
    intro r h1 h2
    cases r <;> first | exact absurd rfl h2 | skip
    case win l' =>
      have hne : l' ≠ l := fun e => h1 (by rw [e])
      simp only [cellsR, hwc, hus _ h1, hwat, if_neg hne]
    all_goals simp only [cellsR, searchC]
    all_goals first | rfl | skip
    all_goals simp [hslv, hus, hptr, Sv.addW, Sv.lits]
    all_goals first | rfl | exact ⟨rfl, rfl⟩
  have hout : cellsR (A.up (.win l) b sp) (s.addW l c o) .wout = (cellsR A s .wout).set l v8 := by
    simp only [cellsR, Sv.addW]
    apply List.ext_getElem?
    intro j
    by_cases e : l = j
    · subst e
      rw [List.getElem?_mapIdx, List.getElem?_set_self hlw, List.getElem?_set_self (by simpa using hlw)]
      simp [hslt]
    · rw [List.getElem?_mapIdx, List.getElem?_set_ne e, List.getElem?_set_ne e, List.getElem?_mapIdx]
      cases s.ws[j]? with
      | none => rfl
      | some x => simp [hslv _ _ _ (show Role.win j ≠ .win l by intro e2; cases e2; exact e rfl)]
  refine ⟨?_, ?_, fun r hr => ?_, fun d => ?_, fun d => ?_, fun l' e => ?_, fun e => ?_, fun e => ?_, fun r hg => ?_, fun r hg => ?_, ?_, h.lv, by simp [Sv.addW, h.lw], h.ls, h.lp, h.small, h.endk⟩
  · intro r r' b1 h1 h2
    by_cases e1 : r = .win l
    · by_cases e2 : r' = .win l
      · rw [e1, e2]
      · rw [hup r' e2] at h2
        subst e1
        have : b1 = b := by simpa [Ad.up] using h1.symm
        exact absurd this (ho r' b1 e2 h2).2
    · rw [hup r e1] at h1
      by_cases e2 : r' = .win l
      · subst e2
        have : b1 = b := by simpa [Ad.up] using h2.symm
        exact absurd this (ho r b1 e1 h1).2
      · rw [hup r' e2] at h2
        exact h.inj _ _ _ h1 h2
  · intro r b1 h1
    by_cases e1 : r = .win l
    · subst e1
      have e2 : b1 = b := by simpa [Ad.up] using h1.symm
      subst e2
      rw [Below.heap_setCell _ _ _ _ hbs.symm, hb]
      simp only [cellsR, hwc, hwat, if_true, tyR]
      simp [Ad.up, watC]
    · rw [hup r e1] at h1
      by_cases e2 : r = .wout
      · subst e2
        rw [hwb] at h1
        cases h1
        have h3 := (ho .wout wb (by intro e; cases e) hwb).1.trans (h.has _ _ hwb)
        rw [hout]
        unfold World.setCell
        simp [Array.getElem?_modify, h3]
      · rw [hcell r e1 e2, Below.heap_setCell _ _ _ _ (fun e3 => e2 (h.inj _ _ _ h1 (by rw [hwb]; exact congrArg some e3.symm)))]
        exact (ho r b1 e1 h1).1.trans (h.has r b1 h1)
  · rw [hup r (by rintro rfl; cases hr)]
    exact h.fix r hr
  · rw [hup _ (by intro e; cases e)]
    exact h.cls d
  · rw [hup _ (by intro e; cases e)]
    exact h.rows d
  · by_cases e2 : l' = l
    · subst e2; simp [Ad.up] at e
    · rw [hup _ (by intro e3; cases e3; exact e2 rfl)] at e
      rw [hwat, if_neg e2]
      exact h.win l' e
  · rw [hup _ (by intro e; cases e)] at e
    exact h.nil1 e
  · rw [hup _ (by intro e; cases e)] at e
    exact h.nil2 e
  · by_cases e1 : r = .win l
    · subst e1
      simpa [Ad.up, sizR] using hev
    · rw [hus r e1]
      exact h.even r hg
  · by_cases e1 : r = .win l
    · subst e1
      simp only [lenR, hwat, if_true, sizR]
      simpa [Ad.up] using hcap
    · rw [hus r e1]
      have : lenR (s.addW l c o) r = lenR s r := by
        cases r <;> first | rfl | skip
        case win l' =>
          have hne : l' ≠ l := fun e => e1 (by rw [e])
          simp only [lenR, hwat, if_neg hne]
      rw [this]
      exact h.caps r hg
  · have hf := h.flat
    refine ⟨?_, ?_, ?_, ?_, ?_, ?_, ?_, ?_, ?_⟩
    all_goals rw [hus _ (by intro e; cases e)]
    · exact hf.1
    · exact hf.2.1
    · exact hf.2.2.1
    · exact hf.2.2.2.1
    · exact hf.2.2.2.2.1
    · exact hf.2.2.2.2.2.1
    · exact hf.2.2.2.2.2.2.1
    · exact hf.2.2.2.2.2.2.2.1
    · exact hf.2.2.2.2.2.2.2.2

end Go.Proofs.YtlehlgipbhfioaaGreat
