/- The plain mathematics of package find: trees with a least number, and joins that can be taken back. No Go here. Package find, the functions that only read: has, root, Count, Mark, Least, Same. Package find: hang. Package find: Join. Package find: New, unhang. slices.Backward over the joins. Package find: Undo. Package find: the contracts, over one state. -/
import Derived.Test.YtjfekcjhflcnaaaRows
import Derived.WalkKit
import Derived.WalkSpells
import Derived.WalkLawsBesides
import Derived.Deep.OwnRows
import Derived.Deep.LoopGhost
import Derived.Deep.QuietTactic
import Derived.BigRegion
import Derived.BigQuiet
import Derived.Deep.RegionLaw
import Derived.RangeFuncBox
import Derived.RangeFuncNested
import Derived.RangeFuncBound
import Derived.RangeFuncCalls
import Derived.RangeFuncLeaves
import Derived.Shelf.Abstract
import Derived.Shelf.RegionOpen
import Derived.OwnWalkIn
import Derived.TacticsInMore
import Derived.LoopNIn
import Derived.LoopIn
namespace Go.Proofs.Ytjfekcjhflcnaaa.Uf

structure Nd where
  par : Nat
  nxt : Nat
  siz : Nat
  lst : Nat

/-- A state: the nodes, and beside them what each number's root is, and how deep it lies. -/
structure G where
  N : Nat → Nd
  rt : Nat → Nat
  dp : Nat → Nat

def cnt : Nat → (Nat → Bool) → Nat
  | 0, _ => 0
  | n + 1, p => cnt n p + (if p n then 1 else 0)

theorem cnt_le (n : Nat) (p : Nat → Bool) : cnt n p ≤ n := by
  induction n with
  | zero => simp [cnt]
  | succ n ih => simp only [cnt]; split <;> omega

theorem cnt_congr (n : Nat) (p q : Nat → Bool) (h : ∀ i, i < n → p i = q i) : cnt n p = cnt n q := by
  induction n with
  | zero => rfl
  | succ n ih => simp only [cnt]; rw [ih (fun i hi => h i (by omega)), h n (by omega)]

theorem cnt_or (n : Nat) (p q : Nat → Bool) (h : ∀ i, i < n → ¬ (p i = true ∧ q i = true)) : cnt n (fun i => p i || q i) = cnt n p + cnt n q := by
  induction n with
  | zero => rfl
  | succ n ih =>
    simp only [cnt]
    rw [ih (fun i hi => h i (by omega))]
    have := h n (by omega)
    by_cases hp : p n = true <;> by_cases hq : q n = true <;> simp [hp, hq] at this ⊢ <;> omega

theorem cnt_pos (n : Nat) (p : Nat → Bool) (i : Nat) (hi : i < n) (h : p i = true) : 0 < cnt n p := by
  induction n with
  | zero => omega
  | succ n ih =>
    simp only [cnt]
    by_cases e : i = n
    · subst e; simp [h]
    · have := ih (by omega); omega

theorem cnt_one (n : Nat) (p q : Nat → Bool) (k : Nat) (hk : k < n) (hp : p k = true) (hq : q k = false) (h : ∀ i, i < n → i ≠ k → p i = q i) : cnt n q + 1 = cnt n p := by
  induction n with
  | zero => omega
  | succ n ih =>
    simp only [cnt]
    by_cases e : k = n
    · subst e
      rw [cnt_congr k p q (fun i hi => h i (by omega) (by omega))]; simp [hp, hq]
    · have := ih (by omega) (fun i hi hne => h i (by omega) hne)
      rw [h n (by omega) (by omega)]; split <;> omega

theorem cnt_all (n : Nat) (p : Nat → Bool) (h : ∀ i, i < n → p i = true) : cnt n p = n := by
  induction n with
  | zero => rfl
  | succ n ih => simp only [cnt]; rw [ih (fun i hi => h i (by omega)), h n (by omega)]; simp

theorem cnt_only (n : Nat) (k : Nat) (hk : k < n) : cnt n (fun i => decide (i = k)) = 1 := by
  have h := cnt_one n (fun i => decide (i = k)) (fun _ => false) k hk (by simp) rfl (fun i _ hne => by simp [hne])
  have z : ∀ m, cnt m (fun _ => false) = 0 := by
    intro m; induction m with
    | zero => rfl
    | succ m ih => simp [cnt, ih]
  rw [z] at h; omega

def g0 : G := { N := fun i => ⟨i, i, 1, i⟩, rt := fun i => i, dp := fun _ => 0 }

/-- Root c is hung below root r. -/
def hang (g : G) (c r : Nat) : G :=
  { N := fun k => if k = c then ⟨r, (g.N r).nxt, (g.N c).siz, (g.N c).lst⟩ else if k = r then ⟨(g.N r).par, (g.N c).nxt, (g.N r).siz + (g.N c).siz, min (g.N r).lst (g.N c).lst⟩ else g.N k
    rt := fun i => if g.rt i = c then r else g.rt i
    dp := fun i => if g.rt i = c then g.dp i + g.dp r + 1 else g.dp i }

/-- The least number of the class of i. -/
def G.lo (g : G) (i : Nat) : Nat := (g.N (g.rt i)).lst

structure Ok (n : Nat) (g : G) (k : Nat) : Prop where
  parlt : ∀ i, i < n → (g.N i).par < n
  rtlt : ∀ i, i < n → g.rt i < n
  root : ∀ i, i < n → (g.N i).par = i → g.rt i = i
  step : ∀ i, i < n → (g.N i).par ≠ i → g.rt (g.N i).par = g.rt i ∧ g.dp (g.N i).par < g.dp i
  top : ∀ i, i < n → (g.N (g.rt i)).par = g.rt i
  siz : ∀ i, i < n → g.rt i = i → (g.N i).siz = cnt n (fun j => decide (g.rt j = i))
  lole : ∀ i, i < n → g.lo i ≤ i
  loin : ∀ i, i < n → g.rt (g.lo i) = g.rt i
  num : cnt n (fun i => decide (g.lo i = i)) + k = n

theorem ok_g0 (n : Nat) : Ok n g0 0 := by
  refine ⟨fun i h => h, fun i h => h, fun i _ _ => rfl, fun i _ h => absurd rfl h, fun i _ => rfl, ?_, fun i _ => Nat.le_refl _, fun i _ => rfl, ?_⟩
  · intro i hi _
    exact (cnt_only n i hi).symm
  · rw [cnt_all n _ (fun i _ => by simp [G.lo, g0])]; rfl

theorem Ok.rtrt {n : Nat} {g : G} {k : Nat} (h : Ok n g k) (i : Nat) (hi : i < n) : g.rt (g.rt i) = g.rt i :=
  h.root _ (h.rtlt i hi) (h.top i hi)

theorem Ok.parroot {n : Nat} {g : G} {k : Nat} (h : Ok n g k) (i : Nat) (hi : i < n) (hr : g.rt i = i) : (g.N i).par = i := by
  have := h.top i hi; rw [hr] at this; exact this

theorem hang_lo (g : G) (c r i : Nat) (hne : c ≠ r) :
    (hang g c r).lo i = if g.rt i = c ∨ g.rt i = r then min (g.N r).lst (g.N c).lst else g.lo i := by
  simp only [G.lo, hang]
  by_cases h1 : g.rt i = c
  · simp [h1, Ne.symm hne]
  · by_cases h2 : g.rt i = r
    · simp [h2, Ne.symm hne]
    · simp [h1, h2]

theorem Ok.hang {n : Nat} {g : G} {k : Nat} (h : Ok n g k) (c r : Nat) (hc : c < n) (hr : r < n) (hne : c ≠ r) (cc : g.rt c = c) (rr : g.rt r = r) :
    Ok n (hang g c r) (k + 1) := by
  have pc := h.parroot c hc cc
  have pr := h.parroot r hr rr
  have lc : (g.N c).lst = g.lo c := by simp [G.lo, cc]
  have lr : (g.N r).lst = g.lo r := by simp [G.lo, rr]
  have hlo := fun i => hang_lo g c r i hne
  have lcle := h.lole c hc
  have lrle := h.lole r hr
  have lcin := h.loin c hc
  have lrin := h.loin r hr
  rw [cc] at lcin
  rw [rr] at lrin
  have lne : g.lo c ≠ g.lo r := by intro e; rw [e, lrin] at lcin; exact hne lcin.symm
  have lcself : g.lo (g.lo c) = g.lo c := by simp only [G.lo] at lcin ⊢; rw [lcin, cc]
  have lrself : g.lo (g.lo r) = g.lo r := by simp only [G.lo] at lrin ⊢; rw [lrin, rr]
  refine ⟨?_, ?_, ?_, ?_, ?_, ?_, ?_, ?_, ?_⟩
  · intro i hi
    simp only [Uf.hang]
    split
    · exact hr
    · split
      · exact h.parlt r hr
      · exact h.parlt i hi
  · intro i hi
    simp only [Uf.hang]
    split
    · exact hr
    · exact h.rtlt i hi
  · intro i hi hp
    simp only [Uf.hang] at hp ⊢
    by_cases e1 : i = c
    · subst e1; simp at hp; exact absurd hp.symm hne
    · by_cases e2 : i = r
      · subst e2; rw [rr]; simp [e1]
      · simp [e1, e2] at hp
        have := h.root i hi hp
        rw [this]; simp [e1]
  · intro i hi hp
    simp only [Uf.hang] at hp ⊢
    by_cases e1 : i = c
    · subst e1
      simp only [if_true]
      rw [rr, cc]
      simp [Ne.symm hne]
      omega
    · by_cases e2 : i = r
      · subst e2
        simp only [e1, if_false, if_true] at hp
        exact absurd pr hp
      · simp only [e1, e2, if_false] at hp ⊢
        obtain ⟨s1, s2⟩ := h.step i hi hp
        rw [s1]
        refine ⟨rfl, ?_⟩
        split <;> omega
  · intro i hi
    simp only [Uf.hang]
    by_cases e1 : g.rt i = c
    · simp [e1, Ne.symm hne, pr]
    · by_cases e2 : g.rt i = r
      · simp [e2, Ne.symm hne, pr]
      · simp [e1, e2, h.top i hi]
  · intro i hi hrt
    simp only [Uf.hang] at hrt ⊢
    by_cases e1 : i = c
    · subst e1; simp [cc] at hrt; exact absurd hrt.symm hne
    · by_cases e2 : i = r
      · subst e2
        simp only [e1, if_false, if_true]
        rw [h.siz i hi rr, h.siz c hc cc, ← cnt_or]
        · apply cnt_congr
          intro j hj
          by_cases q1 : g.rt j = c <;> by_cases q2 : g.rt j = i <;> simp [q1, q2]
        · intro j hj
          simp
          intro q1 q2
          exact e1 (by rw [← q1, ← q2])
      · have hi' : g.rt i = i := by
          by_cases q : g.rt i = c
          · simp [q] at hrt; exact absurd hrt.symm e2
          · simpa [q] using hrt
        simp only [e1, e2, if_false]
        rw [h.siz i hi hi']
        apply cnt_congr
        intro j hj
        by_cases q1 : g.rt j = c
        · simp [q1, Ne.symm e1, Ne.symm e2]
        · simp [q1]
  · intro i hi
    rw [hlo, lc, lr]
    have li := h.lole i hi
    split
    · rename_i hx
      rcases hx with hx | hx
      · have : g.lo i = g.lo c := by simp only [G.lo]; rw [hx, cc]
        omega
      · have : g.lo i = g.lo r := by simp only [G.lo]; rw [hx, rr]
        omega
    · exact li
  · intro i hi
    rw [hlo, lc, lr]
    by_cases hx : g.rt i = c ∨ g.rt i = r
    · rw [if_pos hx]
      have e : (Uf.hang g c r).rt i = r := by
        simp only [Uf.hang]
        rcases hx with hx | hx
        · simp [hx]
        · simp [hx, Ne.symm hne]
      rw [e]
      by_cases q : g.lo r ≤ g.lo c
      · rw [Nat.min_eq_left q]; simp [Uf.hang, lrin, Ne.symm hne]
      · rw [Nat.min_eq_right (by omega)]; simp [Uf.hang, lcin]
    · rw [if_neg hx]
      have := h.loin i hi
      simp only [Uf.hang]
      rw [this]
  · have key : cnt n (fun i => decide ((Uf.hang g c r).lo i = i)) + 1 = cnt n (fun i => decide (g.lo i = i)) := by
      apply cnt_one n _ _ (max (g.lo c) (g.lo r)) (by omega)
      · by_cases q : g.lo r ≤ g.lo c
        · rw [Nat.max_eq_left q]; simp [lcself]
        · rw [Nat.max_eq_right (by omega)]; simp [lrself]
      · rw [hlo, lc, lr]
        by_cases q : g.lo r ≤ g.lo c
        · rw [Nat.max_eq_left q, if_pos (Or.inl lcin)]; simp; omega
        · rw [Nat.max_eq_right (by omega), if_pos (Or.inr lrin)]; simp; omega
      · intro i hi hne'
        rw [hlo, lc, lr]
        by_cases hx : g.rt i = c ∨ g.rt i = r
        · rw [if_pos hx]
          rcases hx with hx | hx
          · have : g.lo i = g.lo c := by simp only [G.lo]; rw [hx, cc]
            rw [this, decide_eq_decide]
            constructor
            · intro e; omega
            · intro e
              rcases Nat.lt_or_ge (g.lo r) (g.lo c) with q | q
              · exfalso
                have e2 : i = g.lo r := by omega
                rw [e2, lrin] at hx; exact hne hx.symm
              · omega
          · have : g.lo i = g.lo r := by simp only [G.lo]; rw [hx, rr]
            rw [this, decide_eq_decide]
            constructor
            · intro e; omega
            · intro e
              rcases Nat.lt_or_ge (g.lo c) (g.lo r) with q | q
              · exfalso
                have e2 : i = g.lo c := by omega
                rw [e2, lcin] at hx; exact hne hx
              · omega
        · rw [if_neg hx]
    have := h.num
    omega

theorem Ok.sizes {n : Nat} {g : G} {k : Nat} (h : Ok n g k) (c r : Nat) (hc : c < n) (hr : r < n) (hne : c ≠ r) (cc : g.rt c = c) (rr : g.rt r = r) : (g.N r).siz + (g.N c).siz ≤ n := by
  rw [h.siz r hr rr, h.siz c hc cc, ← cnt_or]
  · exact cnt_le _ _
  · intro i _ hx
    simp at hx
    exact hne (hx.2.symm.trans hx.1)

/-- Which root is hung below which. -/
def pick (g : G) (a b : Nat) : Nat × Nat := if (g.N (g.rt b)).siz < (g.N (g.rt a)).siz then (g.rt b, g.rt a) else (g.rt a, g.rt b)

/-- The state, and the joins with the states ahead of them, the last one first. -/
structure Rec where
  child : Nat
  least : Nat
  was : G

def Hist (n : Nat) : G → List Rec → Prop
  | g, [] => g = g0
  | g, x :: t => ∃ r, r < n ∧ x.child < n ∧ x.child ≠ r ∧ x.was.rt x.child = x.child ∧ x.was.rt r = r ∧ x.least = (x.was.N r).lst ∧ g = hang x.was x.child r ∧ Hist n x.was t

theorem ok_hist (n : Nat) : ∀ (t : List Rec) (g : G), Hist n g t → Ok n g t.length
  | [], g, h => by cases h; exact ok_g0 n
  | x :: t, g, h => by
    obtain ⟨r, hr, hc, hne, cc, rr, _, rfl, ht⟩ := h
    exact (ok_hist n t x.was ht).hang _ _ hc hr hne cc rr

theorem Ok.num_le {n : Nat} {g : G} {k : Nat} (h : Ok n g k) : k ≤ n := by have := h.num; omega

theorem Ok.pick {n : Nat} {g : G} {k : Nat} (h : Ok n g k) (a b : Nat) (ha : a < n) (hb : b < n) (hne : g.rt a ≠ g.rt b) :
    (pick g a b).1 < n ∧ (pick g a b).2 < n ∧ (pick g a b).1 ≠ (pick g a b).2 ∧ g.rt (pick g a b).1 = (pick g a b).1 ∧ g.rt (pick g a b).2 = (pick g a b).2 := by
  unfold Uf.pick
  split
  · exact ⟨h.rtlt b hb, h.rtlt a ha, Ne.symm hne, h.rtrt b hb, h.rtrt a ha⟩
  · exact ⟨h.rtlt a ha, h.rtlt b hb, hne, h.rtrt a ha, h.rtrt b hb⟩

/-- The state k joins ago. -/
def back : G → List Rec → Nat → G
  | g, _, 0 => g
  | g, [], _ + 1 => g
  | _, x :: t, k + 1 => back x.was t k

theorem hist_back (n : Nat) : ∀ (k : Nat) (t : List Rec) (g : G), Hist n g t → Hist n (back g t k) (t.drop k)
  | 0, t, g, h => by simpa [back] using h
  | k + 1, [], g, h => by simpa [back] using h
  | k + 1, x :: t, g, h => by
    obtain ⟨_, _, _, _, _, _, _, _, ht⟩ := h
    simpa [back] using hist_back n k t x.was ht

theorem back_succ : ∀ (k : Nat) (t : List Rec) (g : G) (x : Rec), t[k]? = some x → back g t (k + 1) = x.was
  | 0, [], _, _, h => by simp at h
  | 0, y :: t, g, x, h => by simp at h; subst h; simp [back]
  | k + 1, [], _, _, h => by simp at h
  | k + 1, y :: t, g, x, h => by
    simp at h
    simpa [back] using back_succ k t y.was x h

/-- The joins as the program keeps them. -/
def recs (t : List Rec) : List (Nat × Nat) := (t.map fun x => (x.child, x.least)).reverse

theorem recs_length (t : List Rec) : (recs t).length = t.length := by simp [recs]
theorem recs_cons (x : Rec) (t : List Rec) : recs (x :: t) = recs t ++ [(x.child, x.least)] := by simp [recs]
theorem recs_drop (t : List Rec) (k : Nat) : recs (t.drop k) = (recs t).take (t.length - k) := by
  simp only [recs, List.map_drop, List.reverse_drop, List.length_map]

theorem recs_get (t : List Rec) (k : Nat) (hk : k < t.length) : (recs t)[t.length - 1 - k]? = some ((t[k]).child, (t[k]).least) := by
  simp only [recs]
  rw [List.getElem?_reverse (by simp; omega)]
  simp
  refine ⟨t[k], ?_, rfl, rfl⟩
  rw [List.getElem?_eq_some_iff]
  refine ⟨by omega, ?_⟩
  congr 1
  omega

theorem hist_child (n : Nat) : ∀ (t : List Rec) (g : G), Hist n g t → ∀ x ∈ t, x.child < n
  | [], _, _, x, hx => by simp at hx
  | y :: t, g, h, x, hx => by
    obtain ⟨_, _, hc, _, _, _, _, _, ht⟩ := h
    rcases List.mem_cons.1 hx with rfl | hx
    · exact hc
    · exact hist_child n t y.was ht x hx

theorem recs_child (n : Nat) (t : List Rec) (g : G) (h : Hist n g t) (i : Nat) (hi : i < t.length) : ((recs t)[i]?.getD (0, 0)).1 < n := by
  have hl : i < (recs t).length := by rw [recs_length]; exact hi
  rw [List.getElem?_eq_getElem hl, Option.getD_some]
  have hm : (recs t)[i] ∈ recs t := List.getElem_mem hl
  generalize (recs t)[i] = y at hm
  simp only [recs, List.mem_reverse, List.mem_map] at hm
  obtain ⟨x, hx, rfl⟩ := hm
  exact hist_child n t g h x hx

end Go.Proofs.Ytjfekcjhflcnaaa.Uf

namespace Go.Proofs.Ytjfekcjhflcnaaa
open Go.RowKit

/-- What cell j of the nodes' array holds. -/
def nodeC (g : Uf.G) (j : Nat) : Value :=
  .int .i64 (if j % 4 = 0 then ((g.N (j / 4)).par : Int) else if j % 4 = 1 then ((g.N (j / 4)).nxt : Int) else if j % 4 = 2 then ((g.N (j / 4)).siz : Int) else ((g.N (j / 4)).lst : Int))

def joinC (js : List (Nat × Nat)) : List Value := js.flatMap fun x => [.int .i64 (x.1 : Int), .int .i64 (x.2 : Int)]

def setsC (nb n : Nat) (jv : Value) (j : Nat) : Value := if j = 0 then .slice (some ⟨nb, 0, none⟩) n n else jv

/-- A Sets that lies at block p, its nodes at block nb, its joins owned from base on. -/
structure Lies (w : World) (base p nb n : Nat) (g : Uf.G) (jv : Value) (js : List (Nat × Nat)) : Prop where
  sets : w.rowIs p 128 2 (setsC nb n jv)
  nodes : w.rowIs nb 130 (n * 4) (nodeC g)
  joins : w.ownsRow base 135 2 jv js.length (joinC js)
  ne : p ≠ nb
  jp : jv.ownBlock ≠ some p
  jn : jv.ownBlock ≠ some nb
  bp : base ≤ p
  bn : base ≤ nb
  small : n ≤ 100000

theorem Lies.jform {w : World} {base p nb n : Nat} {g : Uf.G} {jv : Value} {js : List (Nat × Nat)} (h : Lies w base p nb n g jv js) : ∃ a cap, jv = .slice a js.length cap := by
  rcases h.joins.2 with ⟨rfl, h0⟩ | ⟨b, cap, cur, rfl, _⟩
  · rw [h0]; exact ⟨none, 0, rfl⟩
  · exact ⟨_, cap, rfl⟩

theorem Lies.c0 {w : World} {base p nb n : Nat} {g : Uf.G} {jv : Value} {js : List (Nat × Nat)} (h : Lies w base p nb n g jv js) : w.cell? ⟨p, 0, none⟩ = some (.slice (some ⟨nb, 0, none⟩) n n) := h.sets.cell (by omega)
theorem Lies.c1 {w : World} {base p nb n : Nat} {g : Uf.G} {jv : Value} {js : List (Nat × Nat)} (h : Lies w base p nb n g jv js) : w.cell? ⟨p, 1, none⟩ = some jv := h.sets.cell (i := 1) (by omega)

/-- Is it a number of it? -/
def inB (n : Nat) (a : Int) : Bool := decide (0 ≤ a ∧ a < n)
theorem inB_true {n : Nat} {a : Int} (h : inB n a = true) : 0 ≤ a ∧ a < n := of_decide_eq_true h
theorem inB_false {n : Nat} {a : Int} (h : inB n a = false) : ¬ (0 ≤ a ∧ a < n) := of_decide_eq_false h
theorem inB_nat {n a : Nat} (h : a < n) : inB n a = true := decide_eq_true (by omega)
theorem ret_bool {a b : Bool} (h : a = b) : Ending.returned (.bool a) = .returned (.bool b) := by rw [h]
theorem ret_int {k : IntKind} {a b : Int} (h : a = b) : Ending.returned (.int k a) = .returned (.int k b) := by rw [h]
theorem inB_lt {n : Nat} {a : Int} (h : a < 0) : false = inB n a := (decide_eq_false (by omega)).symm
theorem inB_ge {n : Nat} {a : Int} (h : 0 ≤ a) : decide (a < n) = inB n a := by unfold inB; simp [h]

set_option maxHeartbeats 400000 in
theorem has_in (w : World) (base p nb n : Nat) (g : Uf.G) (jv : Value) (js : List (Nat × Nat)) (h : Lies w base p nb n g jv js) (a : Int) :
    Calls Try.prog 75 #[.pointer (some ⟨p, 0, none⟩), .int .i64 a] w fun e w' => e = .returned (.bool (inB n a)) ∧ w = w' := by
  have c0 := h.c0
  have hn := h.small
  clear h
  go_enter Try.func75, Try.ntmps75
  go_wp2
  · go_ret
    exact ⟨ret_bool (inB_ge ‹_›), rfl⟩
  · go_ret
    exact ⟨ret_bool (inB_lt ‹_›), rfl⟩

set_option maxHeartbeats 400000 in
theorem has_nil (w : World) (a : Int) :
    Calls Try.prog 75 #[.pointer none, .int .i64 a] w fun e w' => e = .returned (.bool false) ∧ w = w' := by
  go_enter Try.func75, Try.ntmps75
  go_wp2
  go_ret
  exact ⟨rfl, rfl⟩

theorem nodeC_par (g : Uf.G) (i : Nat) : nodeC g (i * 4) = .int .i64 ((g.N i).par : Int) := by
  have h1 : (i * 4) % 4 = 0 := by omega
  have h2 : (i * 4) / 4 = i := by omega
  simp [nodeC]
theorem nodeC_nxt (g : Uf.G) (i : Nat) : nodeC g (i * 4 + 1) = .int .i64 ((g.N i).nxt : Int) := by
  have h1 : (i * 4 + 1) % 4 = 1 := by omega
  have h2 : (i * 4 + 1) / 4 = i := by omega
  simp [nodeC, h1, h2]
theorem nodeC_siz (g : Uf.G) (i : Nat) : nodeC g (i * 4 + 2) = .int .i64 ((g.N i).siz : Int) := by
  have h1 : (i * 4 + 2) % 4 = 2 := by omega
  have h2 : (i * 4 + 2) / 4 = i := by omega
  simp [nodeC, h1, h2]
theorem nodeC_lst (g : Uf.G) (i : Nat) : nodeC g (i * 4 + 3) = .int .i64 ((g.N i).lst : Int) := by
  have h1 : (i * 4 + 3) % 4 = 3 := by omega
  have h2 : (i * 4 + 3) / 4 = i := by omega
  simp [nodeC, h1, h2]

theorem Lies.par {w : World} {base p nb n : Nat} {g : Uf.G} {jv : Value} {js : List (Nat × Nat)} (h : Lies w base p nb n g jv js) {i : Nat} (hi : i < n) : w.cell? ⟨nb, i * 4, none⟩ = some (.int .i64 ((g.N i).par : Int)) := by
  rw [← nodeC_par]; exact h.nodes.cell (by omega)
theorem Lies.nxt {w : World} {base p nb n : Nat} {g : Uf.G} {jv : Value} {js : List (Nat × Nat)} (h : Lies w base p nb n g jv js) {i : Nat} (hi : i < n) : w.cell? ⟨nb, i * 4 + 1, none⟩ = some (.int .i64 ((g.N i).nxt : Int)) := by
  rw [← nodeC_nxt]; exact h.nodes.cell (by omega)
theorem Lies.siz {w : World} {base p nb n : Nat} {g : Uf.G} {jv : Value} {js : List (Nat × Nat)} (h : Lies w base p nb n g jv js) {i : Nat} (hi : i < n) : w.cell? ⟨nb, i * 4 + 2, none⟩ = some (.int .i64 ((g.N i).siz : Int)) := by
  rw [← nodeC_siz]; exact h.nodes.cell (by omega)
theorem Lies.lst {w : World} {base p nb n : Nat} {g : Uf.G} {jv : Value} {js : List (Nat × Nat)} (h : Lies w base p nb n g jv js) {i : Nat} (hi : i < n) : w.cell? ⟨nb, i * 4 + 3, none⟩ = some (.int .i64 ((g.N i).lst : Int)) := by
  rw [← nodeC_lst]; exact h.nodes.cell (by omega)

set_option maxHeartbeats 400000 in
theorem root_in (w : World) (base p nb n : Nat) (g : Uf.G) (jv : Value) (js : List (Nat × Nat)) (h : Lies w base p nb n g jv js) (k : Nat) (hg : Uf.Ok n g k) (a : Nat) (ha : a < n) :
    Calls Try.prog 76 #[.pointer (some ⟨p, 0, none⟩), .int .i64 a] w fun e w' => e = .returned (.int .i64 (g.rt a)) ∧ w = w' := by
  have c0 := h.c0
  have hn := h.small
  go_enter Try.func76, Try.ntmps76
  go_wp2
  go_loop [1] (fun t => ∃ i : Nat, i < n ∧ t = .int .i64 i ∧ Hid (g.rt i = g.rt a)) (fun t => g.dp (intOf t).toNat)
  case atStart => exact ⟨a, ha, rfl, rfl⟩
  case round =>
    obtain ⟨i, hi, rfl, hrt⟩ := hrel
    have cp := h.par hi
    have hpl := hg.parlt i hi
    by_cases hr : (g.N i).par = i
    · have hroot := hg.root i hi hr
      have Hroot : Hid (g.rt i = i) := hroot
      rw [hr] at cp
      clear hroot hr h hg
      go_wp2
      go_ret
      exact ⟨ret_int (by rw [← hrt.out, Hroot.out]), rfl⟩
    · have hst := hg.step i hi hr
      have Hst : Hid (_ ∧ _) := hst
      have hne : (((g.N i).par : Int) != (i : Int)) = true := by rw [bne_iff_ne]; omega
      generalize hq : (g.N i).par = q at *
      clear hst h hg hr
      go_wp2
      go_round
      case rel => exact ⟨q, hpl, rfl, Hst.out.1.trans hrt.out⟩
      case measure => simp [intOf]; exact Hst.out.2

set_option maxHeartbeats 400000 in
theorem Count_in (w : World) (base p nb n : Nat) (g : Uf.G) (jv : Value) (js : List (Nat × Nat)) (h : Lies w base p nb n g jv js) (hj : js.length ≤ n) :
    Calls Try.prog 26 #[.pointer (some ⟨p, 0, none⟩)] w fun e w' => e = .returned (.int .i64 ((n : Int) - js.length)) ∧ ∃ m, w' = w.drewN m := by
  have c0 := h.c0
  have c1 := h.c1
  have hn := h.small
  obtain ⟨ja, jc, rfl⟩ := h.jform
  clear h
  go_enter Try.func26, Try.ntmps26
  go_wp2_with fail
  go_quiet (fail)
  go_wp2
  go_ret
  exact ⟨rfl, _, rfl⟩

set_option maxHeartbeats 400000 in
theorem Mark_in (w : World) (base p nb n : Nat) (g : Uf.G) (jv : Value) (js : List (Nat × Nat)) (h : Lies w base p nb n g jv js) :
    Calls Try.prog 36 #[.pointer (some ⟨p, 0, none⟩)] w fun e w' => e = .returned (.int .i64 (js.length : Int)) ∧ w = w' := by
  have c1 := h.c1
  obtain ⟨ja, jc, rfl⟩ := h.jform
  clear h
  go_enter Try.func36, Try.ntmps36
  go_wp2
  go_ret
  exact ⟨rfl, rfl⟩

theorem Lies.drewN {w : World} {base p nb n : Nat} {g : Uf.G} {jv : Value} {js : List (Nat × Nat)} (h : Lies w base p nb n g jv js) {m : Nat} : Lies (w.drewN m) base p nb n g jv js :=
  ⟨h.sets, h.nodes, h.joins, h.ne, h.jp, h.jn, h.bp, h.bn, h.small⟩

set_option maxHeartbeats 400000 in
theorem Least_in (w : World) (base p nb n : Nat) (g : Uf.G) (jv : Value) (js : List (Nat × Nat)) (h : Lies w base p nb n g jv js) (k : Nat) (hg : Uf.Ok n g k) (a : Int) :
    Calls Try.prog 27 #[.pointer (some ⟨p, 0, none⟩), .int .i64 a] w fun e w' => e = .returned (.int .i64 (if inB n a then (g.lo a.toNat : Int) else -1)) ∧ ∃ m, w' = w.drewN m := by
  have c0 := h.c0
  have hn := h.small
  cases hb : inB n a
  · have hb' := inB_false hb
    go_enter Try.func27, Try.ntmps27
    go_wp2_with (go_at_call 75; refine (has_in _ _ _ _ _ _ _ _ h _).mono ?_; rintro e w' ⟨rfl, rfl⟩; rw [hb])
    go_ret
    exact ⟨rfl, 0, rfl⟩
  · obtain ⟨h1, h2⟩ := inB_true hb
    obtain ⟨i, rfl⟩ := Int.eq_ofNat_of_zero_le h1
    have hi : i < n := by omega
    have hlt := hg.rtlt i hi
    have cl := h.lst hlt
    go_enter Try.func27, Try.ntmps27
    go_wp2_with (go_at_call 75; refine (has_in _ _ _ _ _ _ _ _ h _).mono ?_; rintro e w' ⟨rfl, rfl⟩; rw [hb])
    go_quiet ((go_at_call 76; exact Calls.quiet_of_same ((root_in _ _ _ _ _ _ _ _ h.drewN _ hg _ hi).mono fun _ _ x => ⟨x.1, x.2.symm⟩)))
    go_wp2
    go_ret
    exact ⟨rfl, _, rfl⟩

/-- Are two numbers in one class? -/
def sameB (n : Nat) (g : Uf.G) (a b : Int) : Bool := inB n a && inB n b && decide (g.rt a.toNat = g.rt b.toNat)

set_option maxHeartbeats 400000 in
theorem Same_in (w : World) (base p nb n : Nat) (g : Uf.G) (jv : Value) (js : List (Nat × Nat)) (h : Lies w base p nb n g jv js) (k : Nat) (hg : Uf.Ok n g k) (a b : Int) :
    Calls Try.prog 34 #[.pointer (some ⟨p, 0, none⟩), .int .i64 a, .int .i64 b] w fun e w' => e = .returned (.bool (sameB n g a b)) ∧ ∃ m, w' = w.drewN m := by
  cases ha : inB n a
  · have fin : sameB n g a b = false := by simp [sameB, ha]
    rw [fin]
    clear fin
    go_enter Try.func34, Try.ntmps34
    go_wp2_with fail
    refine (has_in _ _ _ _ _ _ _ _ h a).mono ?_
    rintro e w' ⟨rfl, rfl⟩
    rw [ha]
    go_wp2
    go_ret
    exact ⟨rfl, 0, rfl⟩
  · cases hb : inB n b
    · have fin : sameB n g a b = false := by simp [sameB, hb]
      rw [fin]
      clear fin
      go_enter Try.func34, Try.ntmps34
      go_wp2_with fail
      refine (has_in _ _ _ _ _ _ _ _ h a).mono ?_
      rintro e w' ⟨rfl, rfl⟩
      rw [ha]
      go_wp2_with fail
      refine (has_in _ _ _ _ _ _ _ _ h b).mono ?_
      rintro e w' ⟨rfl, rfl⟩
      rw [hb]
      go_wp2
      go_ret
      exact ⟨rfl, 0, rfl⟩
    · obtain ⟨a1, a2⟩ := inB_true ha
      obtain ⟨b1, b2⟩ := inB_true hb
      obtain ⟨i, rfl⟩ := Int.eq_ofNat_of_zero_le a1
      obtain ⟨j, rfl⟩ := Int.eq_ofNat_of_zero_le b1
      have hi : i < n := by omega
      have hj : j < n := by omega
      have fin : sameB n g i j = ((g.rt i : Int) == (g.rt j : Int)) := by
        simp only [sameB, ha, hb, Bool.true_and, Int.toNat_natCast]
        by_cases e : g.rt i = g.rt j
        · simp [e]
        · rw [decide_eq_false e]; exact (beq_eq_false_iff_ne.2 (by omega)).symm
      rw [fin]
      clear fin
      go_enter Try.func34, Try.ntmps34
      go_wp2_with fail
      refine (has_in _ _ _ _ _ _ _ _ h i).mono ?_
      rintro e w' ⟨rfl, rfl⟩
      rw [ha]
      go_wp2_with fail
      refine (has_in _ _ _ _ _ _ _ _ h j).mono ?_
      rintro e w' ⟨rfl, rfl⟩
      rw [hb]
      go_wp2_with fail
      refine (root_in _ _ _ _ _ _ _ _ h _ hg i hi).mono ?_
      rintro e w' ⟨rfl, rfl⟩
      go_wp2_with fail
      refine (root_in _ _ _ _ _ _ _ _ h _ hg j hj).mono ?_
      rintro e w' ⟨rfl, rfl⟩
      go_wp2
      go_ret
      exact ⟨rfl, 0, rfl⟩

end Go.Proofs.Ytjfekcjhflcnaaa

namespace Go.Proofs.Ytjfekcjhflcnaaa
open Go.RowKit

/-- All blocks but those of S are as they were. -/
structure Kept (S : Nat → Prop) (w w' : World) : Prop where
  os : w'.os = w.os
  tape : w'.tape = w.tape
  output : w'.output = w.output
  size : w.heap.size ≤ w'.heap.size
  block : ∀ k, k < w.heap.size → ¬ S k → w'.heap[k]? = w.heap[k]?

theorem Kept.refl (S : Nat → Prop) (w : World) : Kept S w w := ⟨rfl, rfl, rfl, Nat.le_refl _, fun _ _ _ => rfl⟩
theorem Kept.trans {S : Nat → Prop} {a b c : World} (h : Kept S a b) (k : Kept S b c) : Kept S a c :=
  ⟨k.os.trans h.os, k.tape.trans h.tape, k.output.trans h.output, Nat.le_trans h.size k.size, fun i hi hs => (k.block i (Nat.lt_of_lt_of_le hi h.size) hs).trans (h.block i hi hs)⟩
theorem Kept.mono {S T : Nat → Prop} {w w' : World} (h : Kept S w w') (hst : ∀ k, k < w.heap.size → S k → T k) : Kept T w w' :=
  ⟨h.os, h.tape, h.output, h.size, fun k hk hs => h.block k hk (fun x => hs (hst k hk x))⟩
theorem Kept.drewN {S : Nat → Prop} {a w : World} (h : Kept S a w) (m : Nat) : Kept S a (w.drewN m) := ⟨h.os, h.tape, h.output, h.size, h.block⟩
theorem Kept.drew {S : Nat → Prop} {a w : World} (h : Kept S a w) : Kept S a w.drew := ⟨h.os, h.tape, h.output, h.size, h.block⟩
theorem Kept.setCell {S : Nat → Prop} {a w : World} (h : Kept S a w) {p : Addr} (hp : S p.block) (u : Value) : Kept S a (w.setCell p u) :=
  h.trans ⟨rfl, rfl, rfl, by simp [World.setCell], fun k _ hs => Below.heap_setCell _ _ _ _ (fun e => hs (e ▸ hp))⟩
theorem Kept.alloc {S : Nat → Prop} {a w : World} (h : Kept S a w) (o : Obj) : Kept S a (w.alloc o) :=
  h.trans ⟨rfl, rfl, rfl, by simp, fun k hk _ => Below.heap_alloc _ _ _ hk⟩
theorem Kept.grown {S : Nat → Prop} {a w w' : World} {row : Option Nat} (h : Kept S a w) (hg : w.grownBy w' row) (hr : ∀ k, row = some k → S k) : Kept S a w' :=
  h.trans ⟨hg.os, hg.tape, hg.output, hg.size, fun k hk hs => hg.block k hk (fun e => hs (hr k e.symm))⟩
theorem Kept.below {S : Nat → Prop} {w w' : World} {B : Nat} (h : Kept S w w') (hB : B ≤ w.heap.size) (hs : ∀ k, S k → B ≤ k) : Below B w w' :=
  ⟨h.os, h.tape, h.output, h.size, fun k hk => h.block k (by omega) (fun x => by have := hs k x; omega)⟩

abbrev Kept1 (nb : Nat) (w w' : World) : Prop := Kept (fun k => k = nb) w w'
theorem Kept1.set {nb : Nat} {a w : World} (h : Kept1 nb a w) (o : Nat) (u : Value) : Kept1 nb a (w.setCell ⟨nb, o, none⟩ u) := Kept.setCell h rfl u

theorem Kept1.grownBy {nb : Nat} {w w' : World} (h : Kept1 nb w w') : w.grownBy w' (some nb) :=
  ⟨h.os, h.tape, h.output, h.size, fun k hk hs => h.block k hk (fun e => hs (by rw [e]))⟩

/-- New nodes, all else as it was. -/
theorem Lies.renode {w w' : World} {base p nb n : Nat} {g g' : Uf.G} {jv : Value} {js : List (Nat × Nat)} (h : Lies w base p nb n g jv js) (K : Kept1 nb w w') {f : Nat → Value} (R : w'.rowIs nb 130 (n * 4) f) (hf : ∀ j, j < n * 4 → f j = nodeC g' j) : Lies w' base p nb n g' jv js :=
  ⟨h.sets.of_block (K.block p h.sets.lt h.ne), R.congr hf, h.joins.kept K.grownBy (Or.inr h.jn), h.ne, h.jp, h.jn, h.bp, h.bn, h.small⟩

theorem quarters (j : Nat) : ∃ q, j = q * 4 ∨ j = q * 4 + 1 ∨ j = q * 4 + 2 ∨ j = q * 4 + 3 := ⟨j / 4, by omega⟩

theorem hang_cells (g : Uf.G) (c r : Nat) (hne : c ≠ r) (j : Nat) :
    (if j = r * 4 + 3 then .int .i64 (if (g.N c).lst < (g.N r).lst then ((g.N c).lst : Int) else ((g.N r).lst : Int)) else if j = r * 4 + 2 then .int .i64 ((g.N r).siz + (g.N c).siz : Int) else if j = r * 4 + 1 then .int .i64 ((g.N c).nxt : Int) else if j = c * 4 + 1 then .int .i64 ((g.N r).nxt : Int) else if j = c * 4 then .int .i64 (r : Int) else nodeC g j) = nodeC (Uf.hang g c r) j := by
  obtain ⟨q, hq⟩ := quarters j
  by_cases e1 : q = c
  · subst e1
    rcases hq with rfl | rfl | rfl | rfl
    · rw [if_neg (by omega), if_neg (by omega), if_neg (by omega), if_neg (by omega), if_pos rfl, nodeC_par]; simp [Uf.hang]
    · rw [if_neg (by omega), if_neg (by omega), if_neg (by omega), if_pos rfl, nodeC_nxt]; simp [Uf.hang]
    · rw [if_neg (by omega), if_neg (by omega), if_neg (by omega), if_neg (by omega), if_neg (by omega), nodeC_siz, nodeC_siz]; simp [Uf.hang]
    · rw [if_neg (by omega), if_neg (by omega), if_neg (by omega), if_neg (by omega), if_neg (by omega), nodeC_lst, nodeC_lst]; simp [Uf.hang]
  · by_cases e2 : q = r
    · subst e2
      rcases hq with rfl | rfl | rfl | rfl
      · rw [if_neg (by omega), if_neg (by omega), if_neg (by omega), if_neg (by omega), if_neg (by omega), nodeC_par, nodeC_par]; simp [Uf.hang, e1]
      · rw [if_neg (by omega), if_neg (by omega), if_pos rfl, nodeC_nxt]; simp [Uf.hang, e1]
      · rw [if_neg (by omega), if_pos rfl, nodeC_siz]; simp [Uf.hang, e1]
      · rw [if_pos rfl, nodeC_lst]; simp only [Uf.hang, e1, if_false, if_true]; split <;> (congr 1; omega)
    · have e : (Uf.hang g c r).N q = g.N q := by simp [Uf.hang, e1, e2]
      rcases hq with rfl | rfl | rfl | rfl
      · rw [if_neg (by omega), if_neg (by omega), if_neg (by omega), if_neg (by omega), if_neg (by omega), nodeC_par, nodeC_par, e]
      · rw [if_neg (by omega), if_neg (by omega), if_neg (by omega), if_neg (by omega), if_neg (by omega), nodeC_nxt, nodeC_nxt, e]
      · rw [if_neg (by omega), if_neg (by omega), if_neg (by omega), if_neg (by omega), if_neg (by omega), nodeC_siz, nodeC_siz, e]
      · rw [if_neg (by omega), if_neg (by omega), if_neg (by omega), if_neg (by omega), if_neg (by omega), nodeC_lst, nodeC_lst, e]

set_option maxHeartbeats 1000000 in
theorem hang_in (w : World) (base p nb n : Nat) (g : Uf.G) (jv : Value) (js : List (Nat × Nat)) (h : Lies w base p nb n g jv js) (c r : Nat) (hc : c < n) (hr : r < n) (hne : c ≠ r)
    (hsz : (g.N r).siz + (g.N c).siz ≤ 100000) :
    Calls Try.prog 77 #[.pointer (some ⟨p, 0, none⟩), .int .i64 c, .int .i64 r] w fun e w' => e = .returned (.tuple #[]) ∧ Lies w' base p nb n (Uf.hang g c r) jv js ∧ Kept1 nb w w' := by
  have c0 := h.c0
  have hn := h.small
  have x0 := h.par hc
  have x1 := h.nxt hc
  have y1 := h.nxt hr
  have fx0 := h.nodes.frozen (c * 4)
  have fx1 := h.nodes.frozen (c * 4 + 1)
  have fy1 := h.nodes.frozen (r * 4 + 1)
  have e1 : ¬ (c * 4 = r * 4 + 1) := by omega
  have e2 : ¬ (c * 4 + 1 = r * 4 + 1) := by omega
  have e3 : ¬ (c = r) := hne
  go_enter Try.func77, Try.ntmps77
  go_wp2_with fail
  go_quiet (fail)
  go_wp2_with fail
  go_region
  generalize hw1 : (((w.drewN (nq + 1)).setCell ⟨nb, c * 4, none⟩ (.int .i64 (r : Int))).setCell ⟨nb, c * 4 + 1, none⟩ (.int .i64 ((g.N r).nxt : Int))).setCell ⟨nb, r * 4 + 1, none⟩ (.int .i64 ((g.N c).nxt : Int)) = w1
  have R1 : w1.rowIs nb 130 (n * 4) (fun j => if j = r * 4 + 1 then .int .i64 ((g.N c).nxt : Int) else if j = c * 4 + 1 then .int .i64 ((g.N r).nxt : Int) else if j = c * 4 then .int .i64 (r : Int) else nodeC g j) := by
    rw [← hw1]; exact ((h.drewN.nodes.set _ _).set _ _).set _ _
  have K1 : Kept1 nb w w1 := by
    rw [← hw1]; exact Kept1.set (Kept1.set (Kept1.set ((Kept.refl _ w).drewN _) _ _) _ _) _ _
  have x2 : w1.cell? ⟨nb, c * 4 + 2, none⟩ = some (.int .i64 ((g.N c).siz : Int)) := by
    rw [R1.cell (i := c * 4 + 2) (by omega), if_neg (by omega), if_neg (by omega), if_neg (by omega), nodeC_siz]
  have y2 : w1.cell? ⟨nb, r * 4 + 2, none⟩ = some (.int .i64 ((g.N r).siz : Int)) := by
    rw [R1.cell (i := r * 4 + 2) (by omega), if_neg (by omega), if_neg (by omega), if_neg (by omega), nodeC_siz]
  have fy2 := R1.frozen (r * 4 + 2)
  clear x0 x1 y1 fx0 fx1 fy1 hw1 e1 e2 c0
  go_wp2_with fail
  go_region
  generalize hw2 : (w1.setCell ⟨nb, r * 4 + 2, none⟩ (.int .i64 ((g.N r).siz + (g.N c).siz : Int))).drew = w2
  have R2 := (R1.set (r * 4 + 2) (.int .i64 ((g.N r).siz + (g.N c).siz : Int))).drew
  have K2 := (Kept1.set K1 (r * 4 + 2) (.int .i64 ((g.N r).siz + (g.N c).siz : Int))).drew
  rw [hw2] at R2 K2
  have x3 : w2.cell? ⟨nb, c * 4 + 3, none⟩ = some (.int .i64 ((g.N c).lst : Int)) := by
    rw [R2.cell (i := c * 4 + 3) (by omega), if_neg (by omega), if_neg (by omega), if_neg (by omega), if_neg (by omega), nodeC_lst]
  have y3 : w2.cell? ⟨nb, r * 4 + 3, none⟩ = some (.int .i64 ((g.N r).lst : Int)) := by
    rw [R2.cell (i := r * 4 + 3) (by omega), if_neg (by omega), if_neg (by omega), if_neg (by omega), if_neg (by omega), nodeC_lst]
  have fy3 := R2.frozen (r * 4 + 3)
  clear x2 y2 fy2 hw2 K1 R1
  go_wp2_with fail
  go_region
  have R3 := (R2.set (r * 4 + 3) (.int .i64 (if (g.N c).lst < (g.N r).lst then ((g.N c).lst : Int) else ((g.N r).lst : Int)))).drew
  have K3 := (Kept1.set K2 (r * 4 + 3) (.int .i64 (if (g.N c).lst < (g.N r).lst then ((g.N c).lst : Int) else ((g.N r).lst : Int)))).drew
  go_end0
  exact ⟨rfl, h.renode K3 R3 (fun j _ => hang_cells g c r hne j), K3⟩

end Go.Proofs.Ytjfekcjhflcnaaa

namespace Go.Proofs.Ytjfekcjhflcnaaa
open Go.RowKit

/-- append onto a row of one's own: told besides: what comes lies where the row lay, or in a new block. -/
theorem run_append_here {P : Program} (w : World) (base : Nat) (t ty e : TypeId) (i : TypeInfo) (z : Value) (size bytes : Nat) (ht : P.underlying t = some (.slice e)) (hi : P.info? e = some i) (hz : i.zero = some z)
    (hsize : i.size = size) (hby : i.bytes = bytes) (hzs : z.cells.size = size) (hsz : 0 < size)
    (v : Value) (n : Nat) (xs : List Value) (hown : w.ownsRow base e size v n xs)
    (a : Addr) (m c : Nat) (news : List Value) (hl : news.length = m * size) (hnews : ∀ j u, news[j]? = some u → w.cell? (a.add j) = some u) (h1 : ∀ u ∈ news, u.oneCell' = true)
    (h63 : n + m ≤ maxLen) (hbytes : (n + m) * bytes ≤ 140737488355328) (hbase : base ≤ w.heap.size) :
    ∃ v' w', (Builtin.append_ #[t, t] ty #[v, .slice (some a) m c]).run P w = .ok v' w' ∧ w'.ownsRow base e size v' (n + m) (xs ++ news) ∧ w.grownBy w' v.ownBlock ∧
      (v'.ownBlock = v.ownBlock ∨ ∀ k, v'.ownBlock = some k → w.heap.size ≤ k) := by
  obtain ⟨v', w', hr, r1, r2, _⟩ := run_append_own (P := P) w base t ty e i z size bytes ht hi hz hsize hby hzs hsz v n xs hown a m c news hl hnews h1 h63 hbytes hbase
  refine ⟨v', w', hr, r1, r2, ?_⟩
  rcases hown.2 with ⟨rfl, rfl⟩ | ⟨g, cap, cur, rfl, hbg, hg, hnc, hcm, hcs, htake⟩
  · obtain rfl : xs = [] := List.eq_nil_of_length_eq_zero (by simpa using hown.1)
    obtain ⟨v2, w2, hr2, s1, _⟩ := run_append_own (P := P) w w.heap.size t ty e i z size bytes ht hi hz hsize hby hzs hsz (.slice none 0 0) 0 [] (World.ownsRow_nil w _ e size) a m c news hl hnews h1 h63 hbytes (Nat.le_refl _)
    rw [hr] at hr2
    cases hr2
    exact Or.inr fun k hk => (s1.lt k hk).1
  · by_cases hroom : n + m ≤ cap
    · subst hsize
      have hfit : n * i.size + news.length ≤ cur.size := by rw [hl, hcs, ← Nat.add_mul]; exact Nat.mul_le_mul_right _ hroom
      have hr2 := run_append_room (P := P) w t ty e i ht hi g n cap cur hg a m c news hl hnews h1 hroom hfit
      rw [hr] at hr2
      cases hr2
      exact Or.inl rfl
    · obtain ⟨v2, w2, hr2, s1, _⟩ := run_append_arg_grows (P := P) w t ty e i z size bytes ht hi hz hsize hby hzs hsz ⟨g, 0, none⟩ n cap xs hown.1 (hown.cells (g := g) rfl) a m c news hl hnews (by omega) h63 hbytes
      rw [hr] at hr2
      cases hr2
      exact Or.inr fun k hk => (s1.lt k hk).1

/-- .. as one step of a region that draws. -/
theorem step_append_here {P : Program} {ops : Array Oper} {o : Oper} {a : Act} {w : World} {K : Act → World → Prop} {Q : Exit → Act → World → Prop} {E : Prop}
    (hg : o.guard = none) (s x : Operand) (t : TypeId) (hop : o.op = Op.call { callee := Callee.builtin Builtin.append, args := #[s, x], argTypes := #[t, t] })
    (base : Nat) (e : TypeId) (i : TypeInfo) (z : Value) (size bytes : Nat) (h1 : P.underlying t = some (.slice e)) (h2 : P.info? e = some i) (h3 : i.zero = some z) (h4 : i.size = size) (h5 : i.bytes = bytes) (h6 : z.cells.size = size) (h7 : 0 < size)
    (v : Value) (n : Nat) (xs : List Value) (hs : a.eval s = v) (hown : w.ownsRow base e size v n xs)
    (ad : Addr) (m c : Nat) (news : List Value) (hx : a.eval x = .slice (some ad) m c) (hn : news.length = m * size) (hc : ∀ j u, news[j]? = some u → w.cell? (ad.add j) = some u) (h1c : ∀ u ∈ news, u.oneCell' = true)
    (b1 : n + m ≤ maxLen) (b2 : (n + m) * bytes ≤ 140737488355328) (hbase : base ≤ w.heap.size)
    (hK : ∀ v' w', w'.ownsRow base e size v' (n + m) (xs ++ news) → w.grownBy w' v.ownBlock → (v'.ownBlock = v.ownBlock ∨ ∀ k, v'.ownBlock = some k → w.heap.size ≤ k) → K (a.put o.dst v') w') :
    if Region.wanted o (yielded ops a.tmps) = true then Oper.wp P o a w K Q else E := by
  have hw : Region.wanted o (yielded ops a.tmps) = true := by simp [Region.wanted, hg]
  rw [if_pos hw]
  obtain ⟨v', w', hrun, r1, r2, r3⟩ := run_append_here (P := P) w base t o.type e i z size bytes h1 h2 h3 h4 h5 h6 h7 v n xs hown ad m c news hn hc h1c b1 b2 hbase
  unfold Oper.wp
  simp [execOp, hop, resolve, invoke, builtin, hs, hx, hrun, Result.andThen]
  exact hK v' w' r1 r2 r3

theorem cell_two_news (w : World) (m : Nat) (x y : Value) (t : TypeId) : ∀ j u, [x, y][j]? = some u → ((w.drewN m).alloc (.cells #[x, y] t)).cell? ((⟨w.heap.size, 0, none⟩ : Addr).add j) = some u := by
  intro j u hj
  have e : ∀ k, ((w.drewN m).alloc (.cells #[x, y] t)).cell? ⟨w.heap.size, k, none⟩ = #[x, y][k]? := fun k => World.cell?_alloc_at (w := w.drewN m) _ t _ k rfl
  match j, hj with
  | 0, hj => simp at hj; subst hj; rw [show (⟨w.heap.size, 0, none⟩ : Addr).add 0 = ⟨w.heap.size, 0, none⟩ from by simp [Addr.add], e]; rfl
  | 1, hj => simp at hj; subst hj; rw [show (⟨w.heap.size, 0, none⟩ : Addr).add 1 = ⟨w.heap.size, 1, none⟩ from by simp [Addr.add], e]; rfl
  | j + 2, hj => simp at hj

theorem infoJoin : (Try.prog.info? 135).map (fun i => (i.zero, i.size, i.bytes)) = some (some (.agg #[.int .i64 0, .int .i64 0]), 2, 16) := by kernel_rfl

set_option maxHeartbeats 1000000 in
theorem Join_no (w : World) (base p nb n : Nat) (g : Uf.G) (jv : Value) (js : List (Nat × Nat)) (h : Lies w base p nb n g jv js) (k : Nat) (hg : Uf.Ok n g k) (a b : Int) (hno : inB n a = false ∨ inB n b = false ∨ sameB n g a b = true) :
    Calls Try.prog 29 #[.pointer (some ⟨p, 0, none⟩), .int .i64 a, .int .i64 b] w fun e w' => e = .returned (.bool false) ∧ w = w' := by
  cases ha : inB n a
  · clear hno
    go_enter Try.func29, Try.ntmps29
    go_wp2_with fail
    refine (has_in _ _ _ _ _ _ _ _ h a).mono ?_
    rintro e w' ⟨rfl, rfl⟩
    rw [ha]
    go_wp2
    go_ret
    exact ⟨rfl, rfl⟩
  · cases hb : inB n b
    · clear hno
      go_enter Try.func29, Try.ntmps29
      go_wp2_with fail
      refine (has_in _ _ _ _ _ _ _ _ h a).mono ?_
      rintro e w' ⟨rfl, rfl⟩
      rw [ha]
      go_wp2_with fail
      refine (has_in _ _ _ _ _ _ _ _ h b).mono ?_
      rintro e w' ⟨rfl, rfl⟩
      rw [hb]
      go_wp2
      go_ret
      exact ⟨rfl, rfl⟩
    · have hs : sameB n g a b = true := by
        rcases hno with x | x | x
        · rw [ha] at x; cases x
        · rw [hb] at x; cases x
        · exact x
      obtain ⟨a1, a2⟩ := inB_true ha
      obtain ⟨b1, b2⟩ := inB_true hb
      obtain ⟨i, rfl⟩ := Int.eq_ofNat_of_zero_le a1
      obtain ⟨j, rfl⟩ := Int.eq_ofNat_of_zero_le b1
      have hi : i < n := by omega
      have hj : j < n := by omega
      have heq : g.rt i = g.rt j := by simpa [sameB, ha, hb] using hs
      have hr := root_in w base p nb n g jv js h k hg j hj
      rw [← heq] at hr
      clear hno hs heq
      go_enter Try.func29, Try.ntmps29
      go_wp2_with fail
      refine (has_in _ _ _ _ _ _ _ _ h i).mono ?_
      rintro e w' ⟨rfl, rfl⟩
      rw [ha]
      go_wp2_with fail
      refine (has_in _ _ _ _ _ _ _ _ h j).mono ?_
      rintro e w' ⟨rfl, rfl⟩
      rw [hb]
      go_wp2_with fail
      refine (root_in _ _ _ _ _ _ _ _ h _ hg i hi).mono ?_
      rintro e w' ⟨rfl, rfl⟩
      go_wp2_with fail
      refine hr.mono ?_
      rintro e w' ⟨rfl, rfl⟩
      go_wp2
      go_ret
      exact ⟨rfl, rfl⟩

theorem joinC_snoc (js : List (Nat × Nat)) (c l : Nat) : joinC (js ++ [(c, l)]) = joinC js ++ [.int .i64 (c : Int), .int .i64 (l : Int)] := by simp [joinC]

/-- A join is kept: all else as it was. -/
theorem Lies.kept {w w1 : World} {base p nb n : Nat} {g : Uf.G} {jv : Value} {js : List (Nat × Nat)} (h : Lies w base p nb n g jv js) (m : Nat) (O : Obj) (hgrow : ((w.drewN m).alloc O).grownBy w1 jv.ownBlock) :
    w1.cell? ⟨p, 1, none⟩ = some jv ∧ w1.frozen? ⟨p, 1, none⟩ = false ∧ w1.rowIs p 128 2 (setsC nb n jv) ∧ w1.rowIs nb 130 (n * 4) (nodeC g) := by
  have hp : w1.rowIs p 128 2 (setsC nb n jv) := (h.drewN.sets.alloc O).of_block (hgrow.block p (h.drewN.sets.alloc O).lt (fun e => h.jp e.symm))
  have hn : w1.rowIs nb 130 (n * 4) (nodeC g) := (h.drewN.nodes.alloc O).of_block (hgrow.block nb (h.drewN.nodes.alloc O).lt (fun e => h.jn e.symm))
  exact ⟨hp.cell (i := 1) (by omega), hp.frozen 1, hp, hn⟩

abbrev Foot (p nb : Nat) (jv : Value) (k : Nat) : Prop := k = p ∨ k = nb ∨ jv.ownBlock = some k

theorem rowIs_type {w : World} {b : Nat} {t e : TypeId} {n : Nat} {f : Nat → Value} (h : w.rowIs b t n f) (hne : t ≠ e) {base size k : Nat} {v : Value} {xs : List Value} (hr : w.ownsRow base e size v k xs) : v.ownBlock ≠ some b := by
  intro hb
  rcases hr.2 with ⟨rfl, _⟩ | ⟨g, cap, cur, rfl, _, hg, _⟩
  · simp [Value.ownBlock] at hb
  · simp [Value.ownBlock] at hb
    subst hb
    obtain ⟨c, hc, _⟩ := h
    rw [hc] at hg
    simp at hg
    exact hne hg.2

theorem joined_lies {w w1 : World} {base p nb n : Nat} {g : Uf.G} {jv : Value} {js : List (Nat × Nat)} (h : Lies w base p nb n g jv js) (m : Nat) (O : Obj) (c l : Nat) (v' : Value)
    (hown : w1.ownsRow base 135 2 v' (js.length + 1) (joinC js ++ [.int .i64 (c : Int), .int .i64 (l : Int)])) (hgrow : ((w.drewN m).alloc O).grownBy w1 jv.ownBlock)
    (hloc : v'.ownBlock = jv.ownBlock ∨ ∀ k, v'.ownBlock = some k → ((w.drewN m).alloc O).heap.size ≤ k) :
    Lies (w1.setCell ⟨p, 1, none⟩ v') base p nb n g v' (js ++ [(c, l)]) ∧ Kept (Foot p nb jv) w (w1.setCell ⟨p, 1, none⟩ v') ∧ (v'.ownBlock = jv.ownBlock ∨ ∀ k, v'.ownBlock = some k → w.heap.size ≤ k) := by
  obtain ⟨_, _, hp, hn⟩ := h.kept m O hgrow
  have np := rowIs_type hp (by decide) hown
  have nn := rowIs_type hn (by decide) hown
  refine ⟨⟨(hp.set 1 v').congr ?_, hn.setOther (Ne.symm h.ne) _, ?_, h.ne, np, nn, h.bp, h.bn, h.small⟩, ?_, ?_⟩
  · intro i hi
    unfold setsC
    by_cases e : i = 0
    · simp [e]
    · rw [if_pos (by omega), if_neg e]
  · rw [joinC_snoc, List.length_append]
    exact ownsRow_setCell_other hown np _
  · exact Kept.setCell (S := Foot p nb jv) (p := ⟨p, 1, none⟩) (Kept.grown (((Kept.refl (Foot p nb jv) w).drewN m).alloc O) hgrow (fun k hk => Or.inr (Or.inr hk))) (Or.inl rfl) _
  · rcases hloc with e | e
    · exact Or.inl e
    · exact Or.inr fun k hk => by have := e k hk; simp at this; omega

/-- What the two ways of Join have in common at their end. -/
theorem Join_fin {w w1 w2 : World} {base p nb n : Nat} {g : Uf.G} {jv v' : Value} {js : List (Nat × Nat)} {c r : Nat} (hL : Kept (Foot p nb jv) w w1) (hloc : v'.ownBlock = jv.ownBlock ∨ ∀ k, v'.ownBlock = some k → w.heap.size ≤ k)
    (hn : Lies w2 base p nb n (Uf.hang g c r) v' (js ++ [(c, (g.N r).lst)])) (hk : Kept1 nb w1 w2) :
    ∃ jv', Lies w2 base p nb n (Uf.hang g c r) jv' (js ++ [(c, (g.N r).lst)]) ∧ Kept (Foot p nb jv) w w2 ∧ (jv'.ownBlock = jv.ownBlock ∨ ∀ k, jv'.ownBlock = some k → w.heap.size ≤ k) :=
  ⟨v', hn, hL.trans (hk.mono fun _ _ hk => Or.inr (Or.inl hk)), hloc⟩

set_option maxHeartbeats 2000000 in
theorem Join_yes (w : World) (base p nb n : Nat) (g : Uf.G) (jv : Value) (js : List (Nat × Nat)) (h : Lies w base p nb n g jv js) (hg : Uf.Ok n g js.length) (i j : Nat) (hi : i < n) (hj : j < n) (hne : g.rt i ≠ g.rt j) (hb : base ≤ w.heap.size) :
    Calls Try.prog 29 #[.pointer (some ⟨p, 0, none⟩), .int .i64 i, .int .i64 j] w fun e w' => e = .returned (.bool true) ∧ ∃ jv', Lies w' base p nb n (Uf.hang g (Uf.pick g i j).1 (Uf.pick g i j).2) jv' (js ++ [((Uf.pick g i j).1, (g.N (Uf.pick g i j).2).lst)]) ∧
      Kept (Foot p nb jv) w w' ∧ (jv'.ownBlock = jv.ownBlock ∨ ∀ k, jv'.ownBlock = some k → w.heap.size ≤ k) := by
  have ha := inB_nat hi
  have hb' := inB_nat hj
  have hri := hg.rtlt i hi
  have hrj := hg.rtlt j hj
  have hjn := hg.num_le
  have hn := h.small
  have c0 := h.c0
  have c1 := h.c1
  have si := h.siz hri
  have sj := h.siz hrj
  have Ri := root_in w base p nb n g jv js h _ hg i hi
  have Rj := root_in w base p nb n g jv js h _ hg j hj
  have hsz := hg.sizes (g.rt i) (g.rt j) hri hrj hne (hg.rtrt i hi) (hg.rtrt j hj)
  have hp : Uf.pick g i j = if (g.N (g.rt j)).siz < (g.N (g.rt i)).siz then (g.rt j, g.rt i) else (g.rt i, g.rt j) := rfl
  rw [hp]
  clear hp hg
  generalize g.rt i = x at *
  generalize g.rt j = y at *
  have hne' : ((x : Int) == (y : Int)) = false := beq_eq_false_iff_ne.2 (by omega)
  obtain ⟨i0, hi0, hz0, hz1, hz2⟩ := info_parts infoJoin
  have f1 := h.sets.frozen 1
  obtain ⟨ja, jc, rfl⟩ := h.jform
  have plt := h.sets.lt
  have nlt := h.nodes.lt
  have A0 : ∀ m O, ((w.drewN m).alloc O).cell? ⟨p, 0, none⟩ = some (.slice (some ⟨nb, 0, none⟩) n n) := fun m O => (h.drewN.sets.alloc O).cell (by omega)
  have A1 : ∀ m O, ((w.drewN m).alloc O).cell? ⟨p, 1, none⟩ = some (.slice ja js.length jc) := fun m O => (h.drewN.sets.alloc O).cell (i := 1) (by omega)
  have OWN := fun m O => (h.drewN (m := m)).joins.alloc O
  by_cases hs : (g.N y).siz < (g.N x).siz
  · rw [if_pos hs]
    go_enter Try.func29, Try.ntmps29
    go_wp2_with fail
    refine (has_in _ _ _ _ _ _ _ _ h i).mono ?_
    rintro e w' ⟨rfl, rfl⟩
    rw [ha]
    go_wp2_with fail
    refine (has_in _ _ _ _ _ _ _ _ h j).mono ?_
    rintro e w' ⟨rfl, rfl⟩
    rw [hb']
    go_wp2_with fail
    refine Ri.mono ?_
    rintro e w' ⟨rfl, rfl⟩
    go_wp2_with fail
    refine Rj.mono ?_
    rintro e w' ⟨rfl, rfl⟩
    clear Ri Rj
    go_wp2_with fail
    go_quiet (fail)
    go_wp2_with fail
    have ll := h.lst hri
    have A2 : ∀ m O, ((w.drewN m).alloc O).cell? ⟨nb, x * 4 + 3, none⟩ = some (.int .i64 ((g.N x).lst : Int)) := fun m O => by rw [← nodeC_lst]; exact (h.drewN.nodes.alloc O).cell (by omega)
    have NEW := fun m => cell_two_news w m (.int .i64 (y : Int)) (.int .i64 ((g.N x).lst : Int)) 135
    clear si sj hs hne'
    go_region_law (refine step_append_here rfl (.tmp 51) (.tmp 62) 126 rfl base 135 i0 _ 2 16 Try.underlying126 hi0 hz0 hz1 hz2 rfl (by decide) _ js.length (joinC js) (by simp [Act.eval]; rfl) (by exact OWN _ _) ⟨w.heap.size, 0, none⟩ 1 1 [.int .i64 (y : Int), .int .i64 ((g.N x).lst : Int)] (by simp [Act.eval]) rfl (by exact NEW _) (by simp [Value.oneCell']) (by unfold maxLen; omega) (by omega) (by simp; omega) ?_; intro v' w1 hown1 hgrow hloc; obtain ⟨kp1, kf1, _, _⟩ := h.kept _ _ hgrow; obtain ⟨b1, cap1, hv1⟩ := ownsRow_succ hown1; subst hv1)
    all_goals
      obtain ⟨L1, L2, L3⟩ := joined_lies h _ _ y (g.N x).lst _ hown1 hgrow hloc
      clear hown1 hgrow hloc kp1 kf1 A0 A1 A2 OWN NEW ll c0 c1 f1
      go_wp2_with fail
      refine (hang_in _ base p nb n g _ _ L1 y x hrj hri (Ne.symm hne) (by omega)).mono ?_
      rintro e w2 ⟨rfl, H1, H2⟩
      clear L1
      go_wp2
      go_ret
      exact ⟨rfl, Join_fin L2 L3 H1 H2⟩
  · rw [if_neg hs]
    go_enter Try.func29, Try.ntmps29
    go_wp2_with fail
    refine (has_in _ _ _ _ _ _ _ _ h i).mono ?_
    rintro e w' ⟨rfl, rfl⟩
    rw [ha]
    go_wp2_with fail
    refine (has_in _ _ _ _ _ _ _ _ h j).mono ?_
    rintro e w' ⟨rfl, rfl⟩
    rw [hb']
    go_wp2_with fail
    refine Ri.mono ?_
    rintro e w' ⟨rfl, rfl⟩
    go_wp2_with fail
    refine Rj.mono ?_
    rintro e w' ⟨rfl, rfl⟩
    clear Ri Rj
    go_wp2_with fail
    go_quiet (fail)
    go_wp2_with fail
    have ll := h.lst hrj
    have A2 : ∀ m O, ((w.drewN m).alloc O).cell? ⟨nb, y * 4 + 3, none⟩ = some (.int .i64 ((g.N y).lst : Int)) := fun m O => by rw [← nodeC_lst]; exact (h.drewN.nodes.alloc O).cell (by omega)
    have NEW := fun m => cell_two_news w m (.int .i64 (x : Int)) (.int .i64 ((g.N y).lst : Int)) 135
    clear si sj hs hne'
    go_region_law (refine step_append_here rfl (.tmp 51) (.tmp 62) 126 rfl base 135 i0 _ 2 16 Try.underlying126 hi0 hz0 hz1 hz2 rfl (by decide) _ js.length (joinC js) (by simp [Act.eval]; rfl) (by exact OWN _ _) ⟨w.heap.size, 0, none⟩ 1 1 [.int .i64 (x : Int), .int .i64 ((g.N y).lst : Int)] (by simp [Act.eval]) rfl (by exact NEW _) (by simp [Value.oneCell']) (by unfold maxLen; omega) (by omega) (by simp; omega) ?_; intro v' w1 hown1 hgrow hloc; obtain ⟨kp1, kf1, _, _⟩ := h.kept _ _ hgrow; obtain ⟨b1, cap1, hv1⟩ := ownsRow_succ hown1; subst hv1)
    all_goals
      obtain ⟨L1, L2, L3⟩ := joined_lies h _ _ x (g.N y).lst _ hown1 hgrow hloc
      clear hown1 hgrow hloc kp1 kf1 A0 A1 A2 OWN NEW ll c0 c1 f1
      go_wp2_with fail
      refine (hang_in _ base p nb n g _ _ L1 x y hri hrj hne (by omega)).mono ?_
      rintro e w2 ⟨rfl, H1, H2⟩
      clear L1
      go_wp2
      go_ret
      exact ⟨rfl, Join_fin L2 L3 H1 H2⟩

end Go.Proofs.Ytjfekcjhflcnaaa

namespace Go.Proofs.Ytjfekcjhflcnaaa
open Go.RowKit

set_option maxHeartbeats 400000 in
theorem New_no (w : World) (n : Int) (h : n < 0 ∨ 100000 < n) :
    Calls Try.prog 24 #[.int .i64 n] w fun e w' => e = .returned (.pointer none) ∧ w = w' := by
  rcases h with h | h
  · go_enter Try.func24, Try.ntmps24
    go_wp2
    go_ret
    exact ⟨rfl, rfl⟩
  · have h' : ¬ n < 0 := by omega
    go_enter Try.func24, Try.ntmps24
    go_wp2
    go_ret
    exact ⟨rfl, rfl⟩

theorem infoNode : (Try.prog.info? 130).map (fun i => (i.zero, i.size, i.bytes)) = some (some (.agg #[.int .i64 0, .int .i64 0, .int .i64 0, .int .i64 0]), 4, 32) := by kernel_rfl

theorem made_row (w : World) (C : Array Value) (t : TypeId) : (w.alloc (.cells C t)).rowIs w.heap.size t C.size (fun i => C[i]?.getD undef) :=
  World.rowIs_alloc w C t _ (fun i hi => by rw [Array.getElem?_eq_getElem hi]; rfl)

theorem box_row (w : World) (x y : Value) (t : TypeId) : (w.alloc (.cells #[x, y] t)).rowIs w.heap.size t 2 (fun j => if j = 0 then x else y) :=
  (made_row w #[x, y] t).congr fun i hi => match i, hi with
    | 0, _ => rfl
    | 1, _ => rfl

theorem new_cells (k : Nat) (f : Nat → Value) (hf : ∀ j, j < k * 4 → f j = nodeC Uf.g0 j) : ∀ j, j < (k + 1) * 4 →
    (if j = k * 4 + 3 then Value.int .i64 (k : Int) else if j = k * 4 + 2 then .int .i64 1 else if j = k * 4 + 1 then .int .i64 (k : Int) else if j = k * 4 then .int .i64 (k : Int) else f j) = nodeC Uf.g0 j := by
  intro j hj
  by_cases h3 : j = k * 4 + 3
  · rw [if_pos h3, h3, nodeC_lst]; rfl
  · by_cases h2 : j = k * 4 + 2
    · rw [if_neg h3, if_pos h2, h2, nodeC_siz]; rfl
    · by_cases h1 : j = k * 4 + 1
      · rw [if_neg h3, if_neg h2, if_pos h1, h1, nodeC_nxt]; rfl
      · by_cases h0 : j = k * 4
        · rw [if_neg h3, if_neg h2, if_neg h1, if_pos h0, h0, nodeC_par]; rfl
        · rw [if_neg h3, if_neg h2, if_neg h1, if_neg h0]; exact hf j (by omega)

set_option maxHeartbeats 400000 in
theorem New_in (w : World) (n : Nat) (hn : n ≤ 100000) :
    Calls Try.prog 24 #[.int .i64 n] w fun e w' => e = .returned (.pointer (some ⟨w.heap.size + 1, 0, none⟩)) ∧ Lies w' w.heap.size (w.heap.size + 1) w.heap.size n Uf.g0 (.slice none 0 0) [] ∧ Below w.heap.size w w' := by
  obtain ⟨i0, hi0, hz0, hz1, hz2⟩ := info_parts infoNode
  obtain ⟨C, hC, hm1⟩ : ∃ C : Array Value, C.size = n * 4 ∧ (Instr.makeSlice 125 (.int .i64 (n : Int)) (.int .i64 (n : Int))).run Try.prog w = .ok (.slice (some ⟨w.heap.size, 0, none⟩) n n) (w.alloc (.cells C 130)) := by
    have hmk := run_make (P := Try.prog) w 125 130 i0 _ Try.underlying125 hi0 hz0 .i64 .i64 (n : Int) (n : Int) (by omega) (Int.le_refl _) (by rw [hz2]; omega) (by omega)
    simp only [Int.toNat_natCast] at hmk
    exact ⟨_, by rw [size_madeCells, hz1], hmk⟩
  clear hi0 hz0 hz1 hz2 
  have h0 : ¬ (n : Int) < 0 := by omega
  have h1 : ¬ (100000 : Int) < (n : Int) := by omega
  have HC : Hid (C.size = n * 4) := hC
  clear hC
  go_enter Try.func24, Try.ntmps24
  go_wp2
  clear hm1 h0 h1
  go_loopw [20] (fun t wr => ∃ k : Nat, k ≤ n ∧ t = .int .i64 k ∧ (∃ f, wr.rowIs w.heap.size 130 (n * 4) f ∧ Hid (∀ j, j < k * 4 → f j = nodeC Uf.g0 j)) ∧ wr.rowIs (w.heap.size + 1) 128 2 (setsC w.heap.size n (.slice none 0 0)) ∧ Hid (Below w.heap.size w wr)) (fun t _ => n - (intOf t).toNat)
  case atStart =>
    refine ⟨0, Nat.zero_le _, rfl, ⟨(fun i => C[i]?.getD undef), ?_, (fun j hj => absurd hj (by omega))⟩, ?_, ?_⟩
    · have := made_row w C 130
      rw [HC.out] at this
      exact this.alloc _
    · have := made_row (w.alloc (.cells C 130)) #[.slice (some ⟨w.heap.size, 0, none⟩) n n, .slice none 0 0] 128
      rw [World.size_alloc] at this
      refine this.congr ?_
      intro i hi
      match i, hi with
      | 0, _ => rfl
      | 1, _ => rfl
    · exact ((Below.refl _ _).alloc (Nat.le_refl _) _).alloc (by simp) _
  case round =>
    obtain ⟨k, hk, rfl, ⟨f, hf, hfk⟩, hs, hB⟩ := hrel
    have c0 : wr.cell? ⟨w.heap.size + 1, 0, none⟩ = some (.slice (some ⟨w.heap.size, 0, none⟩) n n) := hs.cell (by omega)
    have hHf : Hid (wr.rowIs w.heap.size 130 (n * 4) f) := hf
    by_cases hlt : k < n
    · have x0 : wr.cell? ⟨w.heap.size, k * 4, none⟩ = some (f (k * 4)) := hf.cell (by omega)
      have x1 : wr.cell? ⟨w.heap.size, k * 4 + 1, none⟩ = some (f (k * 4 + 1)) := hf.cell (by omega)
      have x2 : wr.cell? ⟨w.heap.size, k * 4 + 2, none⟩ = some (f (k * 4 + 2)) := hf.cell (by omega)
      have x3 : wr.cell? ⟨w.heap.size, k * 4 + 3, none⟩ = some (f (k * 4 + 3)) := hf.cell (by omega)
      have y0 := hf.frozen (k * 4)
      have y1 := hf.frozen (k * 4 + 1)
      have y2 := hf.frozen (k * 4 + 2)
      have y3 := hf.frozen (k * 4 + 3)
      have Hs : Hid (wr.rowIs (w.heap.size + 1) 128 2 (setsC w.heap.size n (.slice none 0 0))) := hs
      clear hf hs
      go_wp2
      go_roundw
      case rel =>
        exact ⟨k + 1, by omega, by go_num, ⟨_, (((hHf.out.set _ _).set _ _).set _ _).set _ _, new_cells k f hfk.out⟩, (((Hs.out.setOther (by show _ ≠ w.heap.size; omega) _).setOther (by show _ ≠ w.heap.size; omega) _).setOther (by show _ ≠ w.heap.size; omega) _).setOther (by show _ ≠ w.heap.size; omega) _, (((hB.out.setCell (Nat.le_refl _) _).setCell (Nat.le_refl _) _).setCell (Nat.le_refl _) _).setCell (Nat.le_refl _) _⟩
      case measure => simp [intOf]; omega
    · clear hf
      go_wp2
      go_ret
      obtain rfl : k = n := by omega
      exact ⟨rfl, ⟨hs, hHf.out.congr hfk.out, World.ownsRow_nil _ _ _ _, by omega, by simp [Value.ownBlock], by simp [Value.ownBlock], by omega, Nat.le_refl _, hn⟩, hB.out⟩

theorem Lies.alloc {w : World} {base p nb n : Nat} {g : Uf.G} {jv : Value} {js : List (Nat × Nat)} (h : Lies w base p nb n g jv js) (O : Obj) : Lies (w.alloc O) base p nb n g jv js :=
  ⟨h.sets.alloc O, h.nodes.alloc O, h.joins.alloc O, h.ne, h.jp, h.jn, h.bp, h.bn, h.small⟩

/-- Nodes whose cells are just integers. -/
def intC (F : Nat → Int) (j : Nat) : Value := .int .i64 (F j)

def cutF (F : Nat → Int) (c r : Nat) (l : Int) (j : Nat) : Int :=
  if j = r * 4 + 3 then l else if j = r * 4 + 2 then wrap64 (F (r * 4 + 2) - F (c * 4 + 2)) else if j = r * 4 + 1 then F (c * 4 + 1) else if j = c * 4 + 1 then F (r * 4 + 1) else if j = c * 4 then (c : Int) else F j

set_option maxHeartbeats 1000000 in
theorem unhang_gen (w : World) (p nb n : Nat) (F : Nat → Int) (c0 : w.cell? ⟨p, 0, none⟩ = some (.slice (some ⟨nb, 0, none⟩) n n)) (hN : w.rowIs nb 130 (n * 4) (intC F)) (_hn : n ≤ 100000) (c r : Nat) (hc : c < n) (hr : r < n) (hne : c ≠ r) (hF : F (c * 4) = (r : Int)) (l : Int) :
    Calls Try.prog 82 #[.pointer (some ⟨p, 0, none⟩), .agg #[.int .i64 c, .int .i64 l]] w fun e w' => e = .returned (.tuple #[]) ∧ w'.rowIs nb 130 (n * 4) (intC (cutF F c r l)) ∧ Kept1 nb w w' := by
  have plt := World.block_lt_of_cell? _ _ c0
  simp only at plt
  have nlt := hN.lt
  have x0 : w.cell? ⟨nb, c * 4, none⟩ = some (.int .i64 (r : Int)) := by rw [← hF]; exact hN.cell (by omega)
  have x1 : w.cell? ⟨nb, c * 4 + 1, none⟩ = some (.int .i64 (F (c * 4 + 1))) := hN.cell (by omega)
  have y1 : w.cell? ⟨nb, r * 4 + 1, none⟩ = some (.int .i64 (F (r * 4 + 1))) := hN.cell (by omega)
  have fx0 := hN.frozen (c * 4)
  have fx1 := hN.frozen (c * 4 + 1)
  have fy1 := hN.frozen (r * 4 + 1)
  have e1 : ¬ (c * 4 = r * 4 + 1) := by omega
  have e2 : ¬ (c * 4 + 1 = r * 4 + 1) := by omega
  have e3 : ¬ (c = r) := hne
  have HF : Hid (F (c * 4) = (r : Int)) := hF
  have HN : Hid (w.rowIs nb 130 (n * 4) (intC F)) := hN
  clear hF hN
  obtain ⟨cx, hcx⟩ : ∃ z, F (c * 4 + 1) = z := ⟨_, rfl⟩
  obtain ⟨rx, hrx⟩ : ∃ z, F (r * 4 + 1) = z := ⟨_, rfl⟩
  rw [hcx] at x1
  rw [hrx] at y1
  have HX : Hid (F (c * 4 + 1) = cx ∧ F (r * 4 + 1) = rx) := ⟨hcx, hrx⟩
  clear hcx hrx
  go_enter Try.func82, Try.ntmps82
  go_wp2_with fail
  go_quiet (fail)
  generalize nq = nq1
  go_wp2_with fail
  go_quiet (fail)
  go_wp2_with fail
  go_region
  have h' := HN.out.alloc (.cells #[.int .i64 (c : Int), .int .i64 l] 135)
  have hbox := box_row w (.int .i64 (c : Int)) (.int .i64 l) 135
  have K0 : Kept1 nb w (w.alloc (.cells #[.int .i64 (c : Int), .int .i64 l] 135)) := (Kept.refl _ w).alloc _
  have hbn : w.heap.size ≠ nb := by omega
  generalize (w.alloc (.cells #[.int .i64 (c : Int), .int .i64 l] 135)) = w0 at *
  generalize hw1 : (((w0.drewN (nq1 + nq + 1)).setCell ⟨nb, c * 4, none⟩ (.int .i64 (c : Int))).setCell ⟨nb, c * 4 + 1, none⟩ (.int .i64 rx)).setCell ⟨nb, r * 4 + 1, none⟩ (.int .i64 cx) = w1
  have R1 : w1.rowIs nb 130 (n * 4) (fun j => if j = r * 4 + 1 then .int .i64 cx else if j = c * 4 + 1 then .int .i64 rx else if j = c * 4 then .int .i64 (c : Int) else intC F j) := by
    rw [← hw1]; exact ((World.rowIs.set (w := w0.drewN (nq1 + nq + 1)) h' _ _).set _ _).set _ _
  have K1 : Kept1 nb w w1 := by
    rw [← hw1]; exact Kept1.set (Kept1.set (Kept1.set (K0.drewN _) _ _) _ _) _ _
  have B1 : w1.rowIs w.heap.size 135 2 (fun j => if j = 0 then .int .i64 (c : Int) else .int .i64 l) := by
    rw [← hw1]; exact ((World.rowIs.setOther (w := w0.drewN (nq1 + nq + 1)) hbox hbn _).setOther hbn _).setOther hbn _
  obtain ⟨cs, hcs⟩ : ∃ z, F (c * 4 + 2) = z := ⟨_, rfl⟩
  obtain ⟨rs, hrs⟩ : ∃ z, F (r * 4 + 2) = z := ⟨_, rfl⟩
  have x2 : w1.cell? ⟨nb, c * 4 + 2, none⟩ = some (.int .i64 cs) := by
    rw [R1.cell (i := c * 4 + 2) (by omega), if_neg (by omega), if_neg (by omega), if_neg (by omega), intC, hcs]
  have y2 : w1.cell? ⟨nb, r * 4 + 2, none⟩ = some (.int .i64 rs) := by
    rw [R1.cell (i := r * 4 + 2) (by omega), if_neg (by omega), if_neg (by omega), if_neg (by omega), intC, hrs]
  have HS : Hid (F (c * 4 + 2) = cs ∧ F (r * 4 + 2) = rs) := ⟨hcs, hrs⟩
  have fy2 := R1.frozen (r * 4 + 2)
  clear x0 x1 y1 fx0 fx1 fy1 hw1 e1 e2 c0 hbox h' K0 hcs hrs HN
  go_wp2_with fail
  go_region
  generalize hw2 : (w1.setCell ⟨nb, r * 4 + 2, none⟩ (.int .i64 (wrap64 (rs - cs)))).drew = w2
  have R2 := (R1.set (r * 4 + 2) (.int .i64 (wrap64 (rs - cs)))).drew
  have K2 := (Kept1.set K1 (r * 4 + 2) (.int .i64 (wrap64 (rs - cs)))).drew
  have B2 := (B1.setOther (a := ⟨nb, r * 4 + 2, none⟩) hbn (.int .i64 (wrap64 (rs - cs)))).drew
  rw [hw2] at R2 K2 B2
  have bl : w2.cell? ⟨w.heap.size, 1, none⟩ = some (.int .i64 l) := B2.cell (i := 1) (by omega)
  have y3 : w2.cell? ⟨nb, r * 4 + 3, none⟩ = some (.int .i64 (F (r * 4 + 3))) := by
    rw [R2.cell (i := r * 4 + 3) (by omega), if_neg (by omega), if_neg (by omega), if_neg (by omega), if_neg (by omega)]; rfl
  have fy3 := R2.frozen (r * 4 + 3)
  clear x2 y2 fy2 hw2 K1 R1 B1 B2
  go_wp2
  have R3 := R2.set (r * 4 + 3) (.int .i64 l)
  have K3 := Kept1.set K2 (r * 4 + 3) (.int .i64 l)
  go_end0
  refine ⟨rfl, R3.congr fun j _ => ?_, K3⟩
  unfold intC cutF
  rw [HX.out.1, HX.out.2, HS.out.1, HS.out.2]
  repeat' split
  all_goals rfl

set_option maxHeartbeats 1000000 in
theorem unhang_self (w : World) (p nb n : Nat) (F : Nat → Int) (c0 : w.cell? ⟨p, 0, none⟩ = some (.slice (some ⟨nb, 0, none⟩) n n)) (hN : w.rowIs nb 130 (n * 4) (intC F)) (_hn : n ≤ 100000) (c : Nat) (hc : c < n) (hF : F (c * 4) = (c : Int)) (l : Int) :
    Calls Try.prog 82 #[.pointer (some ⟨p, 0, none⟩), .agg #[.int .i64 c, .int .i64 l]] w fun e w' => e = .returned (.tuple #[]) ∧ (∃ F' : Nat → Int, w'.rowIs nb 130 (n * 4) (intC F') ∧ ∀ i, F' (i * 4) = F (i * 4)) ∧ Kept1 nb w w' := by
  have plt := World.block_lt_of_cell? _ _ c0
  simp only at plt
  have nlt := hN.lt
  have x0 : w.cell? ⟨nb, c * 4, none⟩ = some (.int .i64 (c : Int)) := by rw [← hF]; exact hN.cell (by omega)
  have x1 : w.cell? ⟨nb, c * 4 + 1, none⟩ = some (.int .i64 (F (c * 4 + 1))) := hN.cell (by omega)
  have fx0 := hN.frozen (c * 4)
  have fx1 := hN.frozen (c * 4 + 1)
  have e1 : ¬ (c * 4 = c * 4 + 1) := by omega
  have HF : Hid (F (c * 4) = (c : Int)) := hF
  have HN : Hid (w.rowIs nb 130 (n * 4) (intC F)) := hN
  clear hF hN
  obtain ⟨cx, hcx⟩ : ∃ z, F (c * 4 + 1) = z := ⟨_, rfl⟩
  rw [hcx] at x1
  have HX : Hid (F (c * 4 + 1) = cx) := hcx
  clear hcx
  go_enter Try.func82, Try.ntmps82
  go_wp2_with fail
  go_quiet (fail)
  generalize nq = nq1
  go_wp2_with fail
  go_quiet (fail)
  go_wp2_with fail
  go_region
  have h' := HN.out.alloc (.cells #[.int .i64 (c : Int), .int .i64 l] 135)
  have hbox := box_row w (.int .i64 (c : Int)) (.int .i64 l) 135
  have K0 : Kept1 nb w (w.alloc (.cells #[.int .i64 (c : Int), .int .i64 l] 135)) := (Kept.refl _ w).alloc _
  have hbn : w.heap.size ≠ nb := by omega
  generalize (w.alloc (.cells #[.int .i64 (c : Int), .int .i64 l] 135)) = w0 at *
  generalize hw1 : (((w0.drewN (nq1 + nq + 1)).setCell ⟨nb, c * 4, none⟩ (.int .i64 (c : Int))).setCell ⟨nb, c * 4 + 1, none⟩ (.int .i64 cx)).setCell ⟨nb, c * 4 + 1, none⟩ (.int .i64 cx) = w1
  have R1 : w1.rowIs nb 130 (n * 4) (fun j => if j = c * 4 + 1 then .int .i64 cx else if j = c * 4 + 1 then .int .i64 cx else if j = c * 4 then .int .i64 (c : Int) else intC F j) := by
    rw [← hw1]; exact ((World.rowIs.set (w := w0.drewN (nq1 + nq + 1)) h' _ _).set _ _).set _ _
  have K1 : Kept1 nb w w1 := by
    rw [← hw1]; exact Kept1.set (Kept1.set (Kept1.set (K0.drewN _) _ _) _ _) _ _
  have B1 : w1.rowIs w.heap.size 135 2 (fun j => if j = 0 then .int .i64 (c : Int) else .int .i64 l) := by
    rw [← hw1]; exact ((World.rowIs.setOther (w := w0.drewN (nq1 + nq + 1)) hbox hbn _).setOther hbn _).setOther hbn _
  have x2 : w1.cell? ⟨nb, c * 4 + 2, none⟩ = some (.int .i64 (F (c * 4 + 2))) := by
    rw [R1.cell (i := c * 4 + 2) (by omega), if_neg (by omega), if_neg (by omega), if_neg (by omega), intC]
  have fy2 := R1.frozen (c * 4 + 2)
  clear x0 x1 fx0 fx1 hw1 e1 c0 hbox h' K0 HN
  go_wp2_with fail
  go_region
  generalize hw2 : (w1.setCell ⟨nb, c * 4 + 2, none⟩ (.int .i64 0)).drew = w2
  have R2 := (R1.set (c * 4 + 2) (.int .i64 0)).drew
  have K2 := (Kept1.set K1 (c * 4 + 2) (.int .i64 0)).drew
  have B2 := (B1.setOther (a := ⟨nb, c * 4 + 2, none⟩) hbn (.int .i64 0)).drew
  rw [hw2] at R2 K2 B2
  have bl : w2.cell? ⟨w.heap.size, 1, none⟩ = some (.int .i64 l) := B2.cell (i := 1) (by omega)
  have y3 : w2.cell? ⟨nb, c * 4 + 3, none⟩ = some (.int .i64 (F (c * 4 + 3))) := by
    rw [R2.cell (i := c * 4 + 3) (by omega), if_neg (by omega), if_neg (by omega), if_neg (by omega), if_neg (by omega)]; rfl
  have fy3 := R2.frozen (c * 4 + 3)
  clear x2 fy2 hw2 K1 R1 B1 B2
  go_wp2
  have R3 := R2.set (c * 4 + 3) (.int .i64 l)
  have K3 := Kept1.set K2 (c * 4 + 3) (.int .i64 l)
  go_end0
  refine ⟨rfl, ⟨fun j => if j = c * 4 + 3 then l else if j = c * 4 + 2 then 0 else if j = c * 4 + 1 then cx else if j = c * 4 + 1 then cx else if j = c * 4 then (c : Int) else F j, R3.congr fun j _ => ?_, fun i => ?_⟩, K3⟩
  · unfold intC
    dsimp only
    repeat' split
    all_goals rfl
  · dsimp only
    by_cases e : i = c
    · subst e; simp only [if_neg (show ¬ i * 4 = i * 4 + 3 by omega), if_neg (show ¬ i * 4 = i * 4 + 2 by omega), if_neg (show ¬ i * 4 = i * 4 + 1 by omega), if_true]; exact HF.out.symm
    · rw [if_neg (by omega), if_neg (by omega), if_neg (by omega), if_neg (by omega), if_neg (by omega)]

theorem unhang_cells (g : Uf.G) (c r : Nat) (hne : c ≠ r) (hc : (g.N c).par = c) (j : Nat) :
    (if j = r * 4 + 3 then .int .i64 ((g.N r).lst : Int) else if j = r * 4 + 2 then .int .i64 ((g.N r).siz : Int) else if j = r * 4 + 1 then .int .i64 ((g.N r).nxt : Int) else if j = c * 4 + 1 then .int .i64 ((g.N c).nxt : Int) else if j = c * 4 then .int .i64 (c : Int) else nodeC (Uf.hang g c r) j) = nodeC g j := by
  rw [← hang_cells g c r hne j]
  by_cases h1 : j = r * 4 + 3
  · rw [if_pos h1, h1, nodeC_lst]
  · by_cases h2 : j = r * 4 + 2
    · rw [if_neg h1, if_pos h2, h2, nodeC_siz]
    · by_cases h3 : j = r * 4 + 1
      · rw [if_neg h1, if_neg h2, if_pos h3, h3, nodeC_nxt]
      · by_cases h4 : j = c * 4 + 1
        · rw [if_neg h1, if_neg h2, if_neg h3, if_pos h4, h4, nodeC_nxt]
        · by_cases h5 : j = c * 4
          · rw [if_neg h1, if_neg h2, if_neg h3, if_neg h4, if_pos h5, h5, nodeC_par, hc]
          · rw [if_neg h1, if_neg h2, if_neg h3, if_neg h4, if_neg h5, if_neg h1, if_neg h2, if_neg h3, if_neg h4, if_neg h5]

theorem wrap64_small (a : Int) (h0 : -1000000 ≤ a) (h1 : a ≤ 1000000) : wrap64 a = a := by unfold wrap64; omega

/-- What a take-back makes of the nodes, whatever they are; and of a join's. -/
structure Cut (n : Nat) (F F' : Nat → Int) (c : Nat) (l : Int) : Prop where
  par : ∀ i, i < n → ∃ q : Nat, q < n ∧ F' (i * 4) = (q : Int)
  good : ∀ (g : Uf.G) (r : Nat), c ≠ r → r < n → (g.N c).par = c → l = ((g.N r).lst : Int) → (g.N r).siz + (g.N c).siz ≤ 100000 → (∀ j, j < n * 4 → intC F j = nodeC (Uf.hang g c r) j) → ∀ j, j < n * 4 → intC F' j = nodeC g j

theorem unhang_any (w : World) (p nb n : Nat) (F : Nat → Int) (c0 : w.cell? ⟨p, 0, none⟩ = some (.slice (some ⟨nb, 0, none⟩) n n)) (hN : w.rowIs nb 130 (n * 4) (intC F)) (hn : n ≤ 100000) (hpar : ∀ i, i < n → ∃ q : Nat, q < n ∧ F (i * 4) = (q : Int)) (c : Nat) (hc : c < n) (l : Int) :
    Calls Try.prog 82 #[.pointer (some ⟨p, 0, none⟩), .agg #[.int .i64 c, .int .i64 l]] w fun e w' => e = .returned (.tuple #[]) ∧ (∃ F', w'.rowIs nb 130 (n * 4) (intC F') ∧ Cut n F F' c l) ∧ Kept1 nb w w' := by
  obtain ⟨q, hq, hFq⟩ := hpar c hc
  by_cases e : c = q
  · subst e
    refine (unhang_self w p nb n F c0 hN hn c hc hFq l).mono ?_
    rintro e w' ⟨he, ⟨F', h1, h2⟩, hk⟩
    refine ⟨he, ⟨F', h1, ⟨fun i hi => by rw [h2]; exact hpar i hi, ?_⟩⟩, hk⟩
    intro g r hne hr hcc hl hsz hall
    have := hall (c * 4) (by omega)
    rw [nodeC_par] at this
    simp [intC, hFq, Uf.hang] at this
    omega
  · refine (unhang_gen w p nb n F c0 hN hn c q hc hq e hFq l).mono ?_
    rintro e' w' ⟨he, h1, hk⟩
    refine ⟨he, ⟨_, h1, ⟨?_, ?_⟩⟩, hk⟩
    · intro i hi
      by_cases ei : i = c
      · subst ei
        refine ⟨i, hi, ?_⟩
        unfold cutF
        rw [if_neg (by omega), if_neg (by omega), if_neg (by omega), if_neg (by omega), if_pos rfl]
      · unfold cutF
        rw [if_neg (by omega), if_neg (by omega), if_neg (by omega), if_neg (by omega), if_neg (by omega)]
        exact hpar i hi
    · intro g r hne hr hcc hl hsz hall j hj
      have e0 := hall (c * 4) (by omega)
      rw [nodeC_par] at e0
      simp [intC, hFq, Uf.hang] at e0
      obtain rfl : q = r := by omega
      have e1 := hall (c * 4 + 1) (by omega)
      rw [nodeC_nxt] at e1
      have e2 := hall (c * 4 + 2) (by omega)
      rw [nodeC_siz] at e2
      have f1 := hall (q * 4 + 1) (by omega)
      rw [nodeC_nxt] at f1
      have f2 := hall (q * 4 + 2) (by omega)
      rw [nodeC_siz] at f2
      simp [intC, Uf.hang] at e1 e2
      simp [intC, Uf.hang, Ne.symm hne] at f1 f2
      rw [← unhang_cells g c q hne hcc j, ← hall j hj]
      unfold intC cutF
      rw [e1, e2, f1, f2, hl, wrap64_small _ (by omega) (by omega)]
      rw [show ((g.N q).siz + (g.N c).siz : Int) - ((g.N c).siz : Int) = ((g.N q).siz : Int) from by omega]
      repeat' split
      all_goals rfl

end Go.Proofs.Ytjfekcjhflcnaaa

namespace Go.Proofs.Ytjfekcjhflcnaaa
open Go.RowKit Go.Shelf

attribute [local go_sem] Oper.semAt_some

set_option maxHeartbeats 1000000 in
theorem Backward_in (F : Fence) (n : Nat) (h5 : F.fn 81) (hro : F.round = none) (a : Option Addr) (len cap : Nat) (w : World) :
    CallsIn F n Try.prog 81 #[.slice a len cap] w fun e w' => e = .returned (.func (.func 118) #[] #[.pointer (some ⟨w.heap.size, 0, none⟩)]) ∧ w' = w.alloc (.cells #[.slice a len cap] 126) := by
  refine callsIn_of_wp Try.func81 rfl h5 ?_ hro
  simp only [Try.ntmps81, List.size_toArray, List.length_cons, List.length_nil, Nat.reduceAdd, Nat.reduceSub, Array.replicate_succ, Array.replicate_zero, List.push_toArray, List.append_toArray, List.nil_append, List.cons_append]
  gi_wp2
  go_ret
  exact ⟨rfl, rfl⟩

/-- What has come, from the last one down. -/
def Down (len : Nat) (pre : List { i : Nat // i < len }) : Prop := ∀ r (h : r < pre.length), (pre[r]).1 + r + 1 = len
theorem Down.nil (len : Nat) : Down len [] := fun r h => by simp at h
theorem Down.snoc {len : Nat} {pre : List { i : Nat // i < len }} (h : Down len pre) (x : { i : Nat // i < len }) (hx : x.1 + pre.length + 1 = len) : Down len (pre ++ [x]) := by
  intro r hr
  by_cases e : r < pre.length
  · rw [List.getElem_append_left e]; exact h r e
  · have : r = pre.length := by simp at hr; omega
    subst this
    simpa using hx

/-- What a round keeps: what lay below n₀, but for the nodes. -/
abbrev KeptN (n₀ nb : Nat) (w w' : World) : Prop := Kept (fun k => k = nb ∨ n₀ ≤ k) w w'

def encJ (js : Nat → Nat × Nat) (x : Nat) : Array Value := #[.int .i64 (x : Int), .agg #[.int .i64 ((js x).1 : Int), .int .i64 ((js x).2 : Int)]]

set_option maxRecDepth 100000 in
set_option maxHeartbeats 2000000 in
theorem Back1_in (F : Fence) (n : Nat) (h7 : F.fn 118) (hro : F.round = none) (hn : 1 ≤ n) (l Bs n₀ nb b off len cap : Nat) (js : Nat → Nat × Nat) (hreach : len ≤ 100000) (hb : b < n₀) (hB : Bs < n₀) (hbn : b ≠ nb) (hBn : Bs ≠ nb) (J Jx : List { i : Nat // i < len } → World → Prop)
    (hY : ∀ pre x W, J pre W → pre.length < len → YieldAt F (n - 1) Try.prog l (encJ js x.1) W fun e W' =>
      (e = .returned (.bool true) ∧ J (pre ++ [x]) W' ∧ KeptN n₀ nb W W') ∨ (e = .returned (.bool false) ∧ Jx (pre ++ [x]) W'))
    (W : World) (hn₀ : n₀ ≤ W.heap.size) (hBs : W.cell? ⟨Bs, 0, none⟩ = some (.slice (some ⟨b, off, none⟩) len cap))
    (hc : ∀ j, j < len → W.cell? ⟨b, off + j * 2, none⟩ = some (.int .i64 ((js j).1 : Int)) ∧ W.cell? ⟨b, off + j * 2 + 1, none⟩ = some (.int .i64 ((js j).2 : Int))) (h0 : J [] W) :
    CallsIn F n Try.prog 118 #[.func (.yield l) #[] #[], .pointer (some ⟨Bs, 0, none⟩)] W fun e W' => (∃ v, e = .returned v) ∧
      ((∃ ys, (Down len ys ∧ ys.length = len) ∧ J ys W') ∨ (∃ pre, True ∧ Jx pre W')) := by
  refine callsIn_of_wp Try.func118 rfl h7 ?_ hro
  simp only [Try.ntmps118, List.size_toArray, List.length_cons, List.length_nil, Nat.reduceAdd, Nat.reduceSub, Array.replicate_succ, Array.replicate_zero, List.push_toArray, List.append_toArray, List.nil_append, List.cons_append]
  gi_wp2
  gi_loopw [3] (fun i wr => ∃ pre : List { i : Nat // i < len }, pre.length ≤ len ∧ Down len pre ∧ i = .int .i64 ((len : Int) - 1 - pre.length) ∧ J pre wr ∧ KeptN n₀ nb W wr)
    (fun i _ => (intOf i + 1).toNat)
  case atStart => exact ⟨[], Nat.zero_le _, Down.nil _, by simp, h0, Kept.refl _ _⟩
  case round =>
    obtain ⟨pre, hp, hd, rfl, hJs, hnx⟩ := hrel
    have hBs' : wr.cell? ⟨Bs, 0, none⟩ = some (.slice (some ⟨b, off, none⟩) len cap) := (World.cell?_of_block (a := ⟨Bs, 0, none⟩) (hnx.block Bs (by omega) (by omega))).trans hBs
    by_cases hlt : pre.length < len
    · obtain ⟨k, hk⟩ : ∃ k : Nat, k + pre.length + 1 = len := ⟨len - 1 - pre.length, by omega⟩
      have hkl : k < len := by omega
      obtain ⟨fn, tmps, assign, body, hy, hR⟩ := hY pre ⟨k, hkl⟩ wr hJs hlt
      have e1 : ((len : Int) - 1 - pre.length) = (k : Int) := by omega
      rw [e1]
      have hcx := hc k hkl
      have c1 : wr.cell? ⟨b, off + k * 2, none⟩ = some (.int .i64 ((js k).1 : Int)) := (World.cell?_of_block (a := ⟨b, off + k * 2, none⟩) (hnx.block b (by omega) (by omega))).trans hcx.1
      have c2 : wr.cell? ⟨b, off + k * 2 + 1, none⟩ = some (.int .i64 ((js k).2 : Int)) := (World.cell?_of_block (a := ⟨b, off + k * 2 + 1, none⟩) (hnx.block b (by omega) (by omega))).trans hcx.2
      have HK : Hid (k + pre.length + 1 = len) := hk
      clear hk e1 hcx hc hY hBs
      unfold encJ at hy
      gi_wp2
      refine hR.mono ?_
      rintro e W3 (⟨rfl, hJ3, hk3⟩ | ⟨rfl, hJx3⟩)
      · gi_wp2
        go_roundw
        case rel => exact ⟨pre ++ [⟨k, hkl⟩], by simp; omega, hd.snoc _ HK.out, by have := HK.out; simp; omega, hJ3, hnx.trans (hk3.mono fun x _ hx => hx)⟩
        case measure => simp [intOf]
      · gi_wp2
        refine bodyPost_ret (results_none rfl _ _ _) rfl ?_
        exact ⟨⟨_, rfl⟩, .inr ⟨_, trivial, hJx3⟩⟩
    · have e1 : ((len : Int) - 1 - pre.length) = -1 := by omega
      rw [e1]
      have HE : Hid (pre.length = len) := by show pre.length = len; omega
      clear e1
      gi_wp2
      go_end0
      exact ⟨⟨_, rfl⟩, .inl ⟨_, ⟨hd, HE.out⟩, hJs⟩⟩

set_option maxRecDepth 100000 in
set_option maxHeartbeats 1000000 in
/-- .. at the nil slice: no round. -/
theorem Back1_nil (F : Fence) (n : Nat) (h7 : F.fn 118) (hro : F.round = none) (l Bs : Nat) (J : List { i : Nat // i < 0 } → World → Prop) (W : World) (hBs : W.cell? ⟨Bs, 0, none⟩ = some (.slice none 0 0)) (h0 : J [] W) :
    CallsIn F n Try.prog 118 #[.func (.yield l) #[] #[], .pointer (some ⟨Bs, 0, none⟩)] W fun e W' => (∃ v, e = .returned v) ∧ J [] W' := by
  refine callsIn_of_wp Try.func118 rfl h7 ?_ hro
  simp only [Try.ntmps118, List.size_toArray, List.length_cons, List.length_nil, Nat.reduceAdd, Nat.reduceSub, Array.replicate_succ, Array.replicate_zero, List.push_toArray, List.append_toArray, List.nil_append, List.cons_append]
  gi_wp2
  gi_loopw [3] (fun i wr => i = .int .i64 (-1) ∧ J [] wr) (fun _ _ => 0)
  case atStart => exact ⟨rfl, h0⟩
  case round =>
    obtain ⟨rfl, hJs⟩ := hrel
    gi_wp2
    go_end0
    exact ⟨⟨_, rfl⟩, hJs⟩

/-- The slice value sv holds the joins js, in a block below n₀; or it is nil and there are none. -/
def JoinsAt (n₀ nb : Nat) (W : World) (sv : Value) (len : Nat) (js : Nat → Nat × Nat) : Prop :=
  (sv = .slice none 0 0 ∧ len = 0) ∨ ∃ b off cap, sv = .slice (some ⟨b, off, none⟩) len cap ∧ b < n₀ ∧ b ≠ nb ∧
    ∀ j, j < len → W.cell? ⟨b, off + j * 2, none⟩ = some (.int .i64 ((js j).1 : Int)) ∧ W.cell? ⟨b, off + j * 2 + 1, none⟩ = some (.int .i64 ((js j).2 : Int))

theorem JoinsAt.below {n₀ nb : Nat} {A B : World} (h : Below n₀ A B) {sv : Value} {len : Nat} {js : Nat → Nat × Nat} : JoinsAt n₀ nb A sv len js → JoinsAt n₀ nb B sv len js
  | .inl e => .inl e
  | .inr ⟨b, off, cap, e, hb, hn, hc⟩ => .inr ⟨b, off, cap, e, hb, hn, fun j hj => ⟨(h.cell (p := ⟨b, off + j * 2, none⟩) hb).trans (hc j hj).1, (h.cell (p := ⟨b, off + j * 2 + 1, none⟩) hb).trans (hc j hj).2⟩⟩

theorem Backward_stops (F : Fence) (n : Nat) (h7 : F.fn 118) (hro : F.round = none) (hn : 1 ≤ n) (Bs n₀ nb : Nat) (sv : Value) (len : Nat) (js : Nat → Nat × Nat) (hreach : len ≤ 100000) (w : World) (hBs : Bs < n₀) (hBn : Bs ≠ nb) (hn₀ : n₀ ≤ w.heap.size)
    (hc : w.cell? ⟨Bs, 0, none⟩ = some sv) (hI : JoinsAt n₀ nb w sv len js) :
    SeqStopsK F n Try.prog 118 #[.pointer (some ⟨Bs, 0, none⟩)] (fun x : { i : Nat // i < len } => encJ js x.1) (KeptN n₀ nb) (fun ys => Down len ys ∧ ys.length = len) (fun _ => True) len w := fun l J Jx W hW _ _ hY h0 => by
  have hc' := (hW.cell (p := ⟨Bs, 0, none⟩) (by show Bs < _; omega)).trans hc
  rcases hI.below (hW.mono hn₀) with ⟨rfl, rfl⟩ | ⟨b, off, cap, rfl, hb, hbn, hcs⟩
  · exact (Back1_nil F n h7 hro l Bs J W hc' h0).mono fun e W' ⟨he, hj⟩ => ⟨he, .inl ⟨[], ⟨Down.nil _, rfl⟩, hj⟩⟩
  · exact Back1_in F n h7 hro hn l Bs n₀ nb b off len cap js hreach hb hBs hbn hBn J Jx hY W (Nat.le_trans hn₀ hW.size) hc' hcs h0

end Go.Proofs.Ytjfekcjhflcnaaa

namespace Go.Proofs.Ytjfekcjhflcnaaa
open Go.RowKit Go.Shelf

attribute [local go_sem] Oper.semAt_some

/-- The nodes' cells as integers. -/
def nodeF (g : Uf.G) (j : Nat) : Int := if j % 4 = 0 then ((g.N (j / 4)).par : Int) else if j % 4 = 1 then ((g.N (j / 4)).nxt : Int) else if j % 4 = 2 then ((g.N (j / 4)).siz : Int) else ((g.N (j / 4)).lst : Int)
theorem nodeF_eq (g : Uf.G) (j : Nat) : intC (nodeF g) j = nodeC g j := rfl

theorem rowIs_own {W W' : World} {b : Nat} {t : TypeId} {n : Nat} {f : Nat → Value} {row : Option Nat} (h : W.rowIs b t n f) (hg : W.grownBy W' row) (hr : ∀ r, row = some r → ∃ o : Obj, W.heap[r]? = some o ∧ o.isCells = false) : W'.rowIs b t n f := by
  refine h.of_block (hg.block b h.lt ?_)
  intro e
  obtain ⟨o, ho, hc⟩ := hr b e.symm
  obtain ⟨c, hb, _⟩ := h
  rw [hb] at ho
  cases ho
  cases hc

theorem joinC_get (js : List (Nat × Nat)) : ∀ i, i < js.length → (joinC js)[i * 2]? = some (.int .i64 ((js[i]?.getD (0, 0)).1 : Int)) ∧ (joinC js)[i * 2 + 1]? = some (.int .i64 ((js[i]?.getD (0, 0)).2 : Int)) := by
  induction js with
  | nil => intro i hi; simp at hi
  | cons x t ih =>
    intro i hi
    cases i with
    | zero => simp [joinC]
    | succ i =>
      have := ih i (by simpa using hi)
      simp only [joinC, List.flatMap_cons] at this ⊢
      rw [show (i + 1) * 2 = i * 2 + 1 + 1 from by omega]
      simpa using this

theorem joinsAt_of {W0 : World} {base p nb n jb cap : Nat} {g : Uf.G} {t : List Uf.Rec} (L2 : Lies W0 base p nb n g (.slice (some ⟨jb, 0, none⟩) t.length cap) (Uf.recs t)) (m off c : Nat) (hm : m ≤ t.length) (hoff : m < t.length → off = m * 2) :
    JoinsAt W0.heap.size nb W0 (.slice (some ⟨jb, off, none⟩) (t.length - m) c) (t.length - m) (fun j => (Uf.recs t)[m + j]?.getD (0, 0)) := by
  have hL := Uf.recs_length t
  have hj0 := L2.joins
  rw [hL] at hj0
  refine .inr ⟨jb, off, c, rfl, (L2.joins.lt jb rfl).2, fun e => L2.jn (by rw [e]; rfl), fun j hj => ?_⟩
  rw [hoff (by omega)]
  have hg := joinC_get (Uf.recs t) (m + j) (by omega)
  have h1 := hj0.cellAt ((m + j) * 2) (by omega)
  have h2 := hj0.cellAt ((m + j) * 2 + 1) (by omega)
  rw [hg.1] at h1
  rw [hg.2] at h2
  rw [show m * 2 + j * 2 = (m + j) * 2 from by omega]
  exact ⟨h1, h2⟩

/-- Between two rounds of Undo. -/
structure Mid (W0 : World) (p nb n Bp len : Nat) (g : Uf.G) (t : List Uf.Rec) (pre : List { i : Nat // i < len }) (W : World) : Prop where
  box : W.rowIs Bp 47 1 (fun _ => .pointer (some ⟨p, 0, none⟩))
  nodes : ∃ F : Nat → Int, W.rowIs nb 130 (n * 4) (intC F) ∧ (∀ i, i < n → ∃ q : Nat, q < n ∧ F (i * 4) = (q : Int)) ∧ (Down len pre → ∀ j, j < n * 4 → intC F j = nodeC (Uf.back g t pre.length) j)
  kept : KeptN W0.heap.size nb W0 W

theorem mid_own (W0 : World) (p nb n Bp len : Nat) (g : Uf.G) (t : List Uf.Rec) : OwnFrom W0.heap.size (Mid W0 p nb n Bp len g t) := by
  intro pre A B row hs hg hr
  have hr' := fun r e => (hr r e).2
  obtain ⟨F, f1, f2, f3⟩ := hs.nodes
  exact ⟨rowIs_own hs.box hg hr', ⟨F, rowIs_own f1 hg hr', f2, f3⟩, hs.kept.grown hg (fun k e => Or.inr (hr k e).1)⟩

theorem keeps_of_kept {nb B : Nat} {W W' : World} (h : Kept1 nb W W') (hb : nb < B) : KeepsFrom B W W' :=
  KeepsFrom.of_grownBy h.grownBy (fun j e => by cases e; exact hb)

theorem keptN_alloc {n₀ nb : Nat} (W : World) (o : Obj) : KeptN n₀ nb W (W.alloc o) := (Kept.refl _ W).alloc o

theorem keptN_b {n₀ nb : Nat} {w : World} (hn : n₀ ≤ w.heap.size) (W : World) (l : Nat) (o o' : Obj) (hl : w.heap.size ≤ l) (_ : W.heap[l]? = some o) (_ : o.isCells = false) (_ : o.isWalk = false) : KeptN n₀ nb W (W.putObj l o') :=
  (Kept.refl _ W).grown (grownBy_putObj' W l o') (fun k e => by cases e; exact Or.inr (by omega))

/-- A round, on what it is handed. -/
theorem mid_step {W0 : World} {p nb n Bp len : Nat} {g : Uf.G} {t : List Uf.Rec} {pre : List { i : Nat // i < len }} {W W' : World} {m : Nat} (hh : Uf.Hist n g t) (hn : n ≤ 100000) (hlen : m + len = t.length) (x : { i : Nat // i < len })
    (hM : Mid W0 p nb n Bp len g t pre W) (F F' : Nat → Int) (c : Nat) (l : Int) (hx : ((Uf.recs t)[m + x.1]?.getD (0, 0)) = (c, l.toNat)) (hl : 0 ≤ l)
    (f3 : Down len pre → ∀ j, j < n * 4 → intC F j = nodeC (Uf.back g t pre.length) j) (hR : W'.rowIs nb 130 (n * 4) (intC F')) (hC : Cut n F F' c l) (hk : Kept1 nb W W') (hB : Bp ≠ nb) :
    Mid W0 p nb n Bp len g t (pre ++ [x]) W' := by
  refine ⟨hM.box.of_block (hk.block Bp hM.box.lt hB), ⟨F', hR, hC.par, ?_⟩, hM.kept.trans (hk.mono fun k _ e => Or.inl e)⟩
  intro hd
  have hpre : Down len pre := by
    intro r hr
    have := hd r (by simp; omega)
    rwa [List.getElem_append_left hr] at this
  have hxr : x.1 + pre.length + 1 = len := by simpa using hd pre.length (by simp)
  have hlt : pre.length < t.length := by omega
  have hget := Uf.recs_get t pre.length hlt
  rw [show t.length - 1 - pre.length = m + x.1 from by omega] at hget
  rw [hget] at hx
  simp at hx
  have hb := Uf.hist_back n pre.length t g hh
  rw [List.drop_eq_getElem_cons hlt] at hb
  have hsucc := Uf.back_succ pre.length t g t[pre.length] (List.getElem?_eq_getElem hlt)
  generalize t[pre.length] = y at hb hsucc hx
  obtain ⟨r, hr, hc, hne, cc, rr, hle, hback, ht⟩ := hb
  have hok := Uf.ok_hist n _ _ ht
  have hf := f3 hpre
  rw [hback] at hf
  rw [List.length_append, List.length_singleton, hsucc]
  obtain ⟨rfl, hl2⟩ := hx
  have hsz := hok.sizes y.child r hc hr hne cc rr
  exact hC.good y.was r hne hr (hok.parroot _ hc cc) (by rw [← hle, hl2]; omega) (by omega) hf

theorem joinC_take (js : List (Nat × Nat)) (m : Nat) : joinC (js.take m) = (joinC js).take (m * 2) := by
  induction js generalizing m with
  | nil => simp [joinC]
  | cons x t ih =>
    cases m with
    | zero => simp [joinC]
    | succ m =>
      have := ih m
      simp only [joinC, List.take_succ_cons, List.flatMap_cons] at this ⊢
      rw [this, show (m + 1) * 2 = m * 2 + 1 + 1 from by omega]
      simp

theorem ownsRow_cut {w w' : World} {base : Nat} {e : TypeId} {size jb cap L m : Nat} {xs : List Value} (h : w.ownsRow base e size (.slice (some ⟨jb, 0, none⟩) L cap) L xs) (hb : w'.heap[jb]? = w.heap[jb]?) (hm : m ≤ L) :
    w'.ownsRow base e size (.slice (some ⟨jb, 0, none⟩) m cap) m (xs.take (m * size)) := by
  refine ⟨by rw [List.length_take, h.1]; exact Nat.min_eq_left (Nat.mul_le_mul_right _ hm), ?_⟩
  rcases h.2 with ⟨e', _⟩ | ⟨g, c, cur, e', h1, h2, h3, h4, h5, h6⟩
  · cases e'
  · simp only [Value.slice.injEq, Option.some.injEq, Addr.mk.injEq, and_true, true_and] at e'
    obtain ⟨rfl, rfl⟩ := e'
    refine .inr ⟨jb, cap, cur, rfl, h1, hb.trans h2, by omega, h4, h5, ?_⟩
    rw [← h6, List.take_take, Nat.min_eq_left (Nat.mul_le_mul_right _ hm)]

theorem undo_fin {w W0 W : World} {base p nb n Bp len jb cap m : Nat} {g : Uf.G} {t : List Uf.Rec} {ys : List { i : Nat // i < len }} (L2 : Lies W0 base p nb n g (.slice (some ⟨jb, 0, none⟩) t.length cap) (Uf.recs t)) (K2 : Kept (fun _ => False) w W0) (hM : Mid W0 p nb n Bp len g t ys W)
    (hd : Down len ys) (hlen : ys.length = len) (hml : m + len = t.length) (D : Nat) (hD : W0.heap.size ≤ D) :
    Lies ((W.setCell ⟨p, 1, none⟩ (.slice (some ⟨jb, 0, none⟩) m cap)).drew.putObj D (.deferred none)) base p nb n (Uf.back g t len) (.slice (some ⟨jb, 0, none⟩) m cap) (Uf.recs (t.drop len)) ∧
      Kept (Foot p nb (.slice (some ⟨jb, 0, none⟩) t.length cap)) w ((W.setCell ⟨p, 1, none⟩ (.slice (some ⟨jb, 0, none⟩) m cap)).drew.putObj D (.deferred none)) := by
  have hjl : jb < W0.heap.size := (L2.joins.lt jb rfl).2
  have hjp : jb ≠ p := fun e => L2.jp (by rw [e]; rfl)
  have hjn : jb ≠ nb := fun e => L2.jn (by rw [e]; rfl)
  have hpl := L2.sets.lt
  have hnl := L2.nodes.lt
  have hG := grownBy_putObj' (W.setCell ⟨p, 1, none⟩ (.slice (some ⟨jb, 0, none⟩) m cap)).drew D (.deferred none)
  have hz : (W.setCell ⟨p, 1, none⟩ (.slice (some ⟨jb, 0, none⟩) m cap)).drew.heap.size = W.heap.size := by simp [World.setCell, World.drew]
  have hWs := hM.kept.size
  have blk : ∀ k, k < W0.heap.size → ((W.setCell ⟨p, 1, none⟩ (.slice (some ⟨jb, 0, none⟩) m cap)).drew.putObj D (.deferred none)).heap[k]? = (W.setCell ⟨p, 1, none⟩ (.slice (some ⟨jb, 0, none⟩) m cap)).heap[k]? := fun k hk =>
    hG.block k (by rw [hz]; omega) (fun e => by cases e; omega)
  have RP : W.rowIs p 128 2 (setsC nb n (.slice (some ⟨jb, 0, none⟩) t.length cap)) := L2.sets.of_block (hM.kept.block p hpl (by have := L2.ne; omega))
  obtain ⟨F, f1, _, f3⟩ := hM.nodes
  have KW : Kept (Foot p nb (.slice (some ⟨jb, 0, none⟩) t.length cap)) w W :=
    (K2.mono fun _ _ e => e.elim).trans (b := W0) ⟨hM.kept.os, hM.kept.tape, hM.kept.output, hM.kept.size, fun k hk hs => hM.kept.block k hk (fun e => by
      rcases e with e | e
      · exact hs (Or.inr (Or.inl e))
      · omega)⟩
  refine ⟨⟨?_, ?_, ?_, L2.ne, ?_, ?_, L2.bp, L2.bn, L2.small⟩, ?_⟩
  · refine ((RP.set 1 _).of_block (blk p hpl)).congr ?_
    intro i hi
    unfold setsC
    by_cases e : i = 0
    · simp [e]
    · rw [if_pos (by omega), if_neg e]
  · refine ((f1.setOther (Ne.symm L2.ne) _).of_block (blk nb hnl)).congr ?_
    intro j hj
    rw [f3 hd j hj, hlen]
  · have hL := Uf.recs_length t
    rw [Uf.recs_length, List.length_drop, show t.length - len = m from by omega, Uf.recs_drop, show t.length - len = m from by omega, joinC_take]
    have hj0 := L2.joins
    rw [hL] at hj0
    refine ownsRow_cut hj0 ?_ (by omega)
    rw [blk jb hjl]
    exact (Below.heap_setCell _ _ _ _ hjp).trans (hM.kept.block jb hjl (by omega))
  · simpa [Value.ownBlock] using hjp
  · simpa [Value.ownBlock] using hjn
  · refine ⟨?_, ?_, ?_, ?_, ?_⟩
    · exact hG.os.trans KW.os
    · exact hG.tape.trans KW.tape
    · exact hG.output.trans KW.output
    · exact Nat.le_trans KW.size (by have := hG.size; rw [hz] at this; exact this)
    · intro k hk hs
      have hk0 : k < W0.heap.size := Nat.lt_of_lt_of_le hk K2.size
      rw [blk k hk0]
      exact (Below.heap_setCell _ _ _ _ (fun e => hs (Or.inl e))).trans (KW.block k hk hs)

set_option maxRecDepth 100000 in
set_option maxHeartbeats 2000000 in
theorem Undo_in (w : World) (base p nb n : Nat) (g : Uf.G) (t : List Uf.Rec) (jb cap : Nat) (h : Lies w base p nb n g (.slice (some ⟨jb, 0, none⟩) t.length cap) (Uf.recs t)) (hh : Uf.Hist n g t) (m : Nat) (hm : m ≤ t.length) :
    CallsIn .wide 6 Try.prog 31 #[.pointer (some ⟨p, 0, none⟩), .int .i64 m] w fun e w' => e = .returned (.bool true) ∧
      Lies w' base p nb n (Uf.back g t (t.length - m)) (.slice (some ⟨jb, 0, none⟩) m cap) (Uf.recs (t.drop (t.length - m))) ∧ Kept (Foot p nb (.slice (some ⟨jb, 0, none⟩) t.length cap)) w w' := by
  have hL := Uf.recs_length t
  have c1 := h.c1
  refine callsIn_of_wp_marks Try.func31 rfl trivial ?_ rfl
  simp only [Try.ntmps31, List.size_toArray, List.length_cons, List.length_nil, Nat.reduceAdd, Nat.reduceSub, Array.replicate_succ, Array.replicate_zero, List.push_toArray, List.append_toArray, List.nil_append, List.cons_append]
  have hn := h.small
  have hok := Uf.ok_hist n t g hh
  have htn := hok.num_le
  have hcap : t.length ≤ cap ∧ cap ≤ maxLen := by
    rcases h.joins.2 with ⟨e, _⟩ | ⟨b, c, cur, e, _, _, h1, h2, _⟩
    · cases e
    · simp only [Value.slice.injEq] at e
      obtain ⟨_, _, rfl⟩ := e
      rw [hL] at h1; exact ⟨h1, h2⟩
  unfold maxLen at hcap
  obtain ⟨hc1, hc2⟩ := hcap
  have hm0 : decide ((m : Int) < 0) = false := by simp
  have hm1 : decide ((t.length : Int) < (m : Int)) = false := by simp; omega
  have hm2 : ¬ t.length < m := by omega
  have plt := h.sets.lt
  obtain ⟨off, hoff, hsl⟩ : ∃ off, (m < t.length → off = m * 2) ∧ ∀ W, (Instr.slice 126 (.slice (some ⟨jb, 0, none⟩) t.length cap) (some (.int .i64 (m : Int))) none none).run Try.prog W = .ok (.slice (some ⟨jb, off, none⟩) (t.length - m) (cap - m)) W := by
    refine ⟨if cap = m then 0 else m * 2, fun hlt => if_neg (by omega), fun W => ?_⟩
    have hsz : (sizeOf 135).run Try.prog W = .ok 2 W := by
      obtain ⟨i0, hi0, _, hz1, _⟩ := info_parts infoJoin
      simp [sizeOf, typeInfo, hi0, hz1]
    rw [run_slice_l W 126 _ _ _ (by kernel_rfl) .i64 (m : Int) (by omega) (by omega)]
    rw [show Try.prog.elem 126 = 135 from by kernel_rfl, hsz]
    simp only [Result.andThen, sliced, Int.toNat_natCast]
    by_cases e : cap = m
    · simp [e]
    · simp [e, Addr.add]
      exact fun h => h.symm
  have Hoff : Hid (m < t.length → off = m * 2) := hoff
  clear hoff
  have HL : Hid ((Uf.recs t).length = t.length) := hL
  clear hL
  gi_wp2_with fail
  refine ⟨trivial, (callsIn_wide.2 (Mark_in _ _ _ _ _ _ _ _ (h.alloc _))).mono ?_⟩
  rintro e w' ⟨rfl, rfl⟩
  rw [HL.out]
  gi_wp2_with fail
  refine ⟨trivial, (Backward_in .wide _ trivial rfl _ _ _ _).mono ?_⟩
  rintro e w' ⟨rfl, rfl⟩
  gi_wp2_with fail
  have hnl := h.nodes.lt
  have hne := h.ne
  have hjp := h.jp
  have hjn := h.jn
  have L2 := (h.alloc (.cells #[.pointer (some ⟨p, 0, none⟩)] 47)).alloc (.cells #[.slice (some ⟨jb, off, none⟩) (t.length - m) (cap - m)] 126)
  have K2 : Kept (fun _ => False) w ((w.alloc (.cells #[.pointer (some ⟨p, 0, none⟩)] 47)).alloc (.cells #[.slice (some ⟨jb, off, none⟩) (t.length - m) (cap - m)] 126)) := ((Kept.refl _ w).alloc _).alloc _
  have B2 : ((w.alloc (.cells #[.pointer (some ⟨p, 0, none⟩)] 47)).alloc (.cells #[.slice (some ⟨jb, off, none⟩) (t.length - m) (cap - m)] 126)).rowIs w.heap.size 47 1 (fun _ => .pointer (some ⟨p, 0, none⟩)) := by
    refine ((made_row w #[.pointer (some ⟨p, 0, none⟩)] 47).congr ?_).alloc _
    intro i hi
    obtain rfl : i = 0 := by simpa using hi
    rfl
  have S2 : ((w.alloc (.cells #[.pointer (some ⟨p, 0, none⟩)] 47)).alloc (.cells #[.slice (some ⟨jb, off, none⟩) (t.length - m) (cap - m)] 126)).cell? ⟨w.heap.size + 1, 0, none⟩ = some (.slice (some ⟨jb, off, none⟩) (t.length - m) (cap - m)) := by
    have := (made_row (w.alloc (.cells #[.pointer (some ⟨p, 0, none⟩)] 47)) #[.slice (some ⟨jb, off, none⟩) (t.length - m) (cap - m)] 126).cell (i := 0) (by simp)
    rw [World.size_alloc] at this
    exact this
  have Z2 : ((w.alloc (.cells #[.pointer (some ⟨p, 0, none⟩)] 47)).alloc (.cells #[.slice (some ⟨jb, off, none⟩) (t.length - m) (cap - m)] 126)).heap.size = w.heap.size + 2 := by simp
  generalize ((w.alloc (.cells #[.pointer (some ⟨p, 0, none⟩)] 47)).alloc (.cells #[.slice (some ⟨jb, off, none⟩) (t.length - m) (cap - m)] 126)) = W0 at *
  have hJA : JoinsAt W0.heap.size nb W0 (.slice (some ⟨jb, off, none⟩) (t.length - m) (cap - m)) (t.length - m) (fun j => (Uf.recs t)[m + j]?.getD (0, 0)) :=
    joinsAt_of L2 m off (cap - m) hm Hoff.out
  refine wpIn_rangeFunc_ownH rfl (by omega) (gf := 118) (lb := #[.pointer (some ⟨w.heap.size + 1, 0, none⟩)]) rfl trivial (enters_of Try.func118 (by kernel_rfl) rfl)
    (Backward_stops .wide 5 trivial rfl (by omega) (w.heap.size + 1) W0.heap.size nb _ (t.length - m) (fun j => (Uf.recs t)[m + j]?.getD (0, 0)) (by omega) W0 (by omega) (by omega) (Nat.le_refl _) S2 hJA)
    (fun a b => a.trans (b.mono fun k _ hk => hk)) (keptN_b (Nat.le_refl _)) (Below.refl _ _) (fun _ => rfl)
    (Mid W0 p nb n w.heap.size (t.length - m) g t) (fun _ _ _ => False) (mid_own W0 p nb n w.heap.size (t.length - m) g t) (fun _ _ _ _ _ hs _ _ => hs)
    ?start (fun x a' W => ∃ Bx, W.rowIs Bx 135 2 (fun j => if j = 0 then .int .i64 (((Uf.recs t)[m + x.1]?.getD (0, 0)).1 : Int) else .int .i64 (((Uf.recs t)[m + x.1]?.getD (0, 0)).2 : Int)) ∧ ∃ v6 v24 v25, a' = { tmps := #[.pointer (some ⟨p, 0, none⟩), .int .i64 m, .pointer (some ⟨w.heap.size, 0, none⟩), undef, .bool false, undef, .pointer (some ⟨Bx, 0, none⟩),
          .int .i64 m, .bool false, .bool false, .int .i64 m, .pointer (some ⟨p, 0, none⟩), .int .i64 t.length, .bool false, .bool false, .pointer (some ⟨p, 0, none⟩), .bool false, .pointer (some ⟨p, 0, none⟩), .pointer (some ⟨p, 0, none⟩), .pointer (some ⟨p, 1, none⟩),
          .slice (some ⟨jb, 0, none⟩) t.length cap, .int .i64 m, .slice (some ⟨jb, off, none⟩) (t.length - m) (cap - m), .func (.func 118) #[] #[.pointer (some ⟨w.heap.size + 1, 0, none⟩)], v24, v25, v6, undef, undef, undef, undef, undef, undef, undef, undef, undef, undef, undef], defers := [] }) ?hAx ?assign ?body ?done ?stop
  case start =>
    refine ⟨B2, ⟨nodeF g, L2.nodes, fun i hi => ⟨(g.N i).par, hok.parlt i hi, ?_⟩, fun _ j _ => by simp [Uf.back, nodeF_eq]⟩, Kept.refl _ _⟩
    have := nodeC_par g i
    rw [← nodeF_eq] at this
    simpa [intC] using this
  case hAx =>
    rintro x a' _ A B row ⟨Bx, b1, v6, v24, v25, rfl⟩ hg hr
    exact ⟨Bx, rowIs_own b1 hg (fun r e => (hr r e).2), v6, v24, v25, rfl⟩
  case assign =>
    rintro l pre x W K hM hK
    simp only [encJ]
    gi_wp2
    exact hK _ _ ((KeepsOthers.alloc _ _).from _) (keptN_alloc W _) ((mid_own W0 p nb n w.heap.size (t.length - m) g t).alloc _ hM) ⟨W.heap.size, box_row W _ _ _, _, _, _, rfl⟩
  case body =>
    rintro l pre x a' W hl _ hM ⟨Bx, hBx, v6, v24, v25, rfl⟩ hlt
    obtain ⟨F, f1, f2, f3⟩ := hM.nodes
    have hxl := x.2
    have hcn : ((Uf.recs t)[m + x.1]?.getD (0, 0)).1 < n := Uf.recs_child n t g hh _ (by omega)
    have d0 : W.cell? ⟨w.heap.size, 0, none⟩ = some (.pointer (some ⟨p, 0, none⟩)) := hM.box.cell (by omega)
    have d1 := hBx.cell (i := 0) (by omega)
    have d2 := hBx.cell (i := 1) (by omega)
    have d3 : W.cell? ⟨p, 0, none⟩ = some (.slice (some ⟨nb, 0, none⟩) n n) := (World.cell?_of_block (a := ⟨p, 0, none⟩) (hM.kept.block p (by omega) (by omega))).trans L2.c0
    obtain ⟨c, hc⟩ : ∃ c, ((Uf.recs t)[m + x.1]?.getD (0, 0)).1 = c := ⟨_, rfl⟩
    obtain ⟨le, hle⟩ : ∃ c, ((Uf.recs t)[m + x.1]?.getD (0, 0)).2 = c := ⟨_, rfl⟩
    rw [hc] at hcn
    rw [if_pos rfl, hc] at d1
    rw [if_neg (by omega), hle] at d2
    have HX : Hid ((Uf.recs t)[m + x.1]?.getD (0, 0) = (c, (le : Int).toNat)) := by
      show _ = _
      rw [← hc, ← hle]; simp
    clear hc hle hBx
    gi_wp2_with fail
    refine ⟨trivial, (CallsIn.inRound l (callsIn_wide.2 (unhang_any W p nb n F d3 f1 hn f2 c hcn (le : Int)))).mono ?_⟩
    rintro e W' ⟨rfl, ⟨F', hR, hC⟩, hk⟩
    gi_wp2
    exact ⟨keeps_of_kept hk (by omega), hk.mono fun k _ e => Or.inl e, mid_step hh hn (by omega) x hM F F' c (le : Int) HX.out (by omega) f3 hR hC hk (by omega)⟩
  case done =>
    rintro D ys W hD ⟨hd, hlen⟩ hM hK
    have d0 : W.cell? ⟨w.heap.size, 0, none⟩ = some (.pointer (some ⟨p, 0, none⟩)) := hM.box.cell (by omega)
    have RP : W.rowIs p 128 2 (setsC nb n (.slice (some ⟨jb, 0, none⟩) t.length cap)) := L2.sets.of_block (hM.kept.block p (by omega) (by omega))
    have d1 : W.cell? ⟨p, 1, none⟩ = some (.slice (some ⟨jb, 0, none⟩) t.length cap) := RP.cell (i := 1) (by omega)
    have d2 := RP.frozen 1
    have hmc : (m : Int) ≤ (cap : Int) := by omega
    have fin := undo_fin L2 K2 hM hd hlen (m := m) (by omega) D hD
    clear L2 K2 hM
    gi_wp2_with fail
    refine wpIn_wide.2 ?_
    go_region
    gi_wp2
    have hK' := (KeepsOthers.setCell W ⟨p, 1, none⟩ (.slice (some ⟨jb, 0, none⟩) m cap)).same D _ hK rfl
    refine ⟨by simp, .inl ⟨_, _, rfl, run_takeDeferred (w := (W.setCell ⟨p, 1, none⟩ (.slice (some ⟨jb, 0, none⟩) m cap)).drew) hK', ?_⟩⟩
    exact ⟨_, results_tmp rfl _ _ _, rfl, fin.1, fin.2⟩
  case stop =>
    rintro D c pre W _ _ h _
    exact h.elim

theorem undo_fin_nil {w W0 W : World} {base p nb n : Nat} {g : Uf.G} (L2 : Lies W0 base p nb n g (.slice none 0 0) []) (K2 : Kept (fun _ => False) w W0) (hk : Kept (fun k => W0.heap.size ≤ k) W0 W) (D : Nat) (hD : W0.heap.size ≤ D) :
    Lies ((W.setCell ⟨p, 1, none⟩ (.slice none 0 0)).drew.putObj D (.deferred none)) base p nb n g (.slice none 0 0) [] ∧
      Kept (Foot p nb (.slice none 0 0)) w ((W.setCell ⟨p, 1, none⟩ (.slice none 0 0)).drew.putObj D (.deferred none)) := by
  have hpl := L2.sets.lt
  have hnl := L2.nodes.lt
  have hG := grownBy_putObj' (W.setCell ⟨p, 1, none⟩ (.slice none 0 0)).drew D (.deferred none)
  have hz : (W.setCell ⟨p, 1, none⟩ (.slice none 0 0)).drew.heap.size = W.heap.size := by simp [World.setCell, World.drew]
  have hWs := hk.size
  have blk : ∀ k, k < W0.heap.size → ((W.setCell ⟨p, 1, none⟩ (.slice none 0 0)).drew.putObj D (.deferred none)).heap[k]? = (W.setCell ⟨p, 1, none⟩ (.slice none 0 0)).heap[k]? := fun k hk =>
    hG.block k (by rw [hz]; omega) (fun e => by cases e; omega)
  have RP : W.rowIs p 128 2 (setsC nb n (.slice none 0 0)) := L2.sets.of_block (hk.block p hpl (by omega))
  have RN : W.rowIs nb 130 (n * 4) (nodeC g) := L2.nodes.of_block (hk.block nb hnl (by omega))
  refine ⟨⟨?_, (RN.setOther (Ne.symm L2.ne) _).of_block (blk nb hnl), World.ownsRow_nil _ _ _ _, L2.ne, L2.jp, L2.jn, L2.bp, L2.bn, L2.small⟩, ?_⟩
  · refine ((RP.set 1 _).of_block (blk p hpl)).congr ?_
    intro i hi
    unfold setsC
    by_cases e : i = 0
    · simp [e]
    · rw [if_pos (by omega), if_neg e]
  · refine ⟨hG.os.trans (hk.os.trans K2.os), hG.tape.trans (hk.tape.trans K2.tape), hG.output.trans (hk.output.trans K2.output), ?_, ?_⟩
    · have h1 := hG.size
      rw [hz] at h1
      exact Nat.le_trans K2.size (Nat.le_trans hk.size h1)
    · intro k hkk hs
      have hk0 : k < W0.heap.size := Nat.lt_of_lt_of_le hkk K2.size
      rw [blk k hk0]
      exact (Below.heap_setCell _ _ _ _ (fun e => hs (Or.inl e))).trans ((hk.block k hk0 (by omega)).trans (K2.block k hkk (fun e => e)))

set_option maxRecDepth 100000 in
set_option maxHeartbeats 2000000 in
/-- .. without a join. -/
theorem Undo_nil (w : World) (base p nb n : Nat) (g : Uf.G) (h : Lies w base p nb n g (.slice none 0 0) []) :
    CallsIn .wide 6 Try.prog 31 #[.pointer (some ⟨p, 0, none⟩), .int .i64 0] w fun e w' => e = .returned (.bool true) ∧
      Lies w' base p nb n g (.slice none 0 0) [] ∧ Kept (Foot p nb (.slice none 0 0)) w w' := by
  have c1 := h.c1
  refine callsIn_of_wp_marks Try.func31 rfl trivial ?_ rfl
  simp only [Try.ntmps31, List.size_toArray, List.length_cons, List.length_nil, Nat.reduceAdd, Nat.reduceSub, Array.replicate_succ, Array.replicate_zero, List.push_toArray, List.append_toArray, List.nil_append, List.cons_append]
  have plt := h.sets.lt
  gi_wp2_with fail
  refine ⟨trivial, (callsIn_wide.2 (Mark_in _ _ _ _ _ _ _ _ (h.alloc _))).mono ?_⟩
  rintro e w' ⟨rfl, rfl⟩
  gi_wp2_with fail
  refine ⟨trivial, (Backward_in .wide _ trivial rfl _ _ _ _).mono ?_⟩
  rintro e w' ⟨rfl, rfl⟩
  gi_wp2_with fail
  have L2 := (h.alloc (.cells #[.pointer (some ⟨p, 0, none⟩)] 47)).alloc (.cells #[.slice none 0 0] 126)
  have K2 : Kept (fun _ => False) w ((w.alloc (.cells #[.pointer (some ⟨p, 0, none⟩)] 47)).alloc (.cells #[.slice none 0 0] 126)) := ((Kept.refl _ w).alloc _).alloc _
  have B2 : ((w.alloc (.cells #[.pointer (some ⟨p, 0, none⟩)] 47)).alloc (.cells #[.slice none 0 0] 126)).rowIs w.heap.size 47 1 (fun _ => .pointer (some ⟨p, 0, none⟩)) := by
    refine ((made_row w #[.pointer (some ⟨p, 0, none⟩)] 47).congr ?_).alloc _
    intro i hi
    obtain rfl : i = 0 := by simpa using hi
    rfl
  have S2 : ((w.alloc (.cells #[.pointer (some ⟨p, 0, none⟩)] 47)).alloc (.cells #[.slice none 0 0] 126)).cell? ⟨w.heap.size + 1, 0, none⟩ = some (.slice none 0 0) := by
    have := (made_row (w.alloc (.cells #[.pointer (some ⟨p, 0, none⟩)] 47)) #[.slice none 0 0] 126).cell (i := 0) (by simp)
    rw [World.size_alloc] at this
    exact this
  have Z2 : ((w.alloc (.cells #[.pointer (some ⟨p, 0, none⟩)] 47)).alloc (.cells #[.slice none 0 0] 126)).heap.size = w.heap.size + 2 := by simp
  have hnl := h.nodes.lt
  generalize ((w.alloc (.cells #[.pointer (some ⟨p, 0, none⟩)] 47)).alloc (.cells #[.slice none 0 0] 126)) = W0 at *
  refine wpIn_rangeFunc_ownH rfl (by omega) (gf := 118) (lb := #[.pointer (some ⟨w.heap.size + 1, 0, none⟩)]) rfl trivial (enters_of Try.func118 (by kernel_rfl) rfl)
    (Backward_stops .wide 5 trivial rfl (by omega) (w.heap.size + 1) W0.heap.size nb _ 0 (fun _ => (0, 0)) (by omega) W0 (by omega) (by omega) (Nat.le_refl _) S2 (.inl ⟨rfl, rfl⟩))
    (fun a b => a.trans (b.mono fun k _ hk => hk)) (keptN_b (Nat.le_refl _)) (Below.refl _ _) (fun _ => rfl)
    (fun _ W => W.rowIs w.heap.size 47 1 (fun _ => .pointer (some ⟨p, 0, none⟩)) ∧ Kept (fun k => W0.heap.size ≤ k) W0 W) (fun _ _ _ => False)
    (fun _ A B row hs hg hr => ⟨rowIs_own hs.1 hg (fun r e => (hr r e).2), hs.2.grown hg (fun k e => (hr k e).1)⟩) (fun _ _ _ _ _ hs _ _ => hs)
    ⟨B2, Kept.refl _ _⟩ (fun _ _ _ => False) (fun _ _ _ _ _ _ hs _ _ => hs) ?assign ?body ?done ?stop
  case assign =>
    rintro l pre x W K _ _
    exact absurd x.2 (Nat.not_lt_zero _)
  case body =>
    rintro l pre x a' W hl _ _ _ hlt
    exact absurd hlt (Nat.not_lt_zero _)
  case done =>
    rintro D ys W hD ⟨hd, hlen⟩ ⟨hb, hk⟩ hK
    have d0 : W.cell? ⟨w.heap.size, 0, none⟩ = some (.pointer (some ⟨p, 0, none⟩)) := hb.cell (by omega)
    have RP : W.rowIs p 128 2 (setsC nb n (.slice none 0 0)) := L2.sets.of_block (hk.block p (by omega) (by omega))
    have d1 : W.cell? ⟨p, 1, none⟩ = some (.slice none 0 0) := RP.cell (i := 1) (by omega)
    have d2 := RP.frozen 1
    have fin := undo_fin_nil L2 K2 hk D hD
    clear L2 K2 hk RP
    gi_wp2_with fail
    refine wpIn_wide.2 ?_
    go_region
    gi_wp2
    have hK' := (KeepsOthers.setCell W ⟨p, 1, none⟩ (.slice none 0 0)).same D _ hK rfl
    refine ⟨by simp, .inl ⟨_, _, rfl, run_takeDeferred (w := (W.setCell ⟨p, 1, none⟩ (.slice none 0 0)).drew) hK', ?_⟩⟩
    exact ⟨_, results_tmp rfl _ _ _, rfl, fin.1, fin.2⟩
  case stop =>
    rintro D c pre W _ _ h _
    exact h.elim

end Go.Proofs.Ytjfekcjhflcnaaa

namespace Go.Proofs.Ytjfekcjhflcnaaa
open Go.RowKit Go.Shelf

set_option maxRecDepth 100000 in
set_option maxHeartbeats 1000000 in
theorem Undo_no (w : World) (base p nb n : Nat) (g : Uf.G) (jv : Value) (js : List (Nat × Nat)) (h : Lies w base p nb n g jv js) (m : Int) (hm : m < 0 ∨ (js.length : Int) < m) :
    Calls Try.prog 31 #[.pointer (some ⟨p, 0, none⟩), .int .i64 m] w fun e w' => e = .returned (.bool false) ∧
      Lies w' base p nb n g jv js ∧ Kept (Foot p nb jv) w w' := by
  have hA := h.alloc (.cells #[.pointer (some ⟨p, 0, none⟩)] 47)
  have hK : Kept (Foot p nb jv) w (w.alloc (.cells #[.pointer (some ⟨p, 0, none⟩)] 47)) := (Kept.refl _ w).alloc _
  have MA := Mark_in _ _ _ _ _ _ _ _ hA
  have HA : Hid (_ ∧ _) := ⟨hA, hK⟩
  clear hA hK h
  by_cases h0 : m < 0
  · clear MA
    go_enter Try.func31, Try.ntmps31
    go_wp2
    go_ret
    exact ⟨rfl, HA.out.1, HA.out.2⟩
  · have h1 : (js.length : Int) < m := by omega
    go_enter Try.func31, Try.ntmps31
    go_wp2_with fail
    refine MA.mono ?_
    rintro e w' ⟨rfl, rfl⟩
    go_wp2
    go_ret
    exact ⟨rfl, HA.out.1, HA.out.2⟩

/-- A Sets with its joins. -/
structure St (w : World) (base p nb : Nat) (jv : Value) (n : Nat) (g : Uf.G) (t : List Uf.Rec) : Prop where
  lies : Lies w base p nb n g jv (Uf.recs t)
  hist : Uf.Hist n g t
  low : base ≤ w.heap.size

theorem St.ok {w : World} {base p nb n : Nat} {jv : Value} {g : Uf.G} {t : List Uf.Rec} (h : St w base p nb jv n g t) : Uf.Ok n g t.length := Uf.ok_hist n t g h.hist

/-- What Join does. -/
def joins (n : Nat) (g : Uf.G) (a b : Int) : Bool := inB n a && inB n b && !(decide (g.rt a.toNat = g.rt b.toNat))
def joinG (n : Nat) (g : Uf.G) (a b : Int) : Uf.G := if joins n g a b then Uf.hang g (Uf.pick g a.toNat b.toNat).1 (Uf.pick g a.toNat b.toNat).2 else g
def joinT (n : Nat) (g : Uf.G) (t : List Uf.Rec) (a b : Int) : List Uf.Rec := if joins n g a b then ⟨(Uf.pick g a.toNat b.toNat).1, (g.N (Uf.pick g a.toNat b.toNat).2).lst, g⟩ :: t else t

theorem Join_st (w : World) (base p nb : Nat) (jv : Value) (n : Nat) (g : Uf.G) (t : List Uf.Rec) (h : St w base p nb jv n g t) (a b : Int) :
    Calls Try.prog 29 #[.pointer (some ⟨p, 0, none⟩), .int .i64 a, .int .i64 b] w fun e w' => e = .returned (.bool (joins n g a b)) ∧ ∃ jv', St w' base p nb jv' n (joinG n g a b) (joinT n g t a b) ∧
      Kept (Foot p nb jv) w w' ∧ (jv'.ownBlock = jv.ownBlock ∨ ∀ k, jv'.ownBlock = some k → w.heap.size ≤ k) := by
  have hok := h.ok
  cases hj : joins n g a b
  · have hno : inB n a = false ∨ inB n b = false ∨ sameB n g a b = true := by
      cases ha : inB n a
      · exact Or.inl rfl
      · cases hb : inB n b
        · exact Or.inr (Or.inl rfl)
        · refine Or.inr (Or.inr ?_)
          simpa [joins, sameB, ha, hb] using hj
    refine (Join_no w base p nb n g jv _ h.lies _ hok a b hno).mono ?_
    rintro e w' ⟨he, rfl⟩
    refine ⟨he, jv, ?_, Kept.refl _ _, Or.inl rfl⟩
    rw [joinG, joinT, hj]
    exact h
  · have h3 : inB n a = true ∧ inB n b = true ∧ g.rt a.toNat ≠ g.rt b.toNat := by
      simp only [joins, Bool.and_eq_true, Bool.not_eq_true', decide_eq_false_iff_not] at hj
      exact ⟨hj.1.1, hj.1.2, hj.2⟩
    obtain ⟨ha, hb, hne⟩ := h3
    obtain ⟨a1, a2⟩ := inB_true ha
    obtain ⟨b1, b2⟩ := inB_true hb
    obtain ⟨i, rfl⟩ := Int.eq_ofNat_of_zero_le a1
    obtain ⟨j, rfl⟩ := Int.eq_ofNat_of_zero_le b1
    have hi : i < n := by omega
    have hjn : j < n := by omega
    rw [Int.toNat_natCast, Int.toNat_natCast] at hne
    have hok' : Uf.Ok n g (Uf.recs t).length := by rw [Uf.recs_length]; exact hok
    refine (Join_yes w base p nb n g jv (Uf.recs t) h.lies hok' i j hi hjn hne h.low).mono ?_
    rintro e w' ⟨he, jv', hL, hK, hloc⟩
    refine ⟨he, jv', ⟨?_, ?_, Nat.le_trans h.low hK.size⟩, hK, hloc⟩
    · rw [joinG, joinT, hj, if_pos rfl, if_pos rfl, Uf.recs_cons, Int.toNat_natCast, Int.toNat_natCast]
      exact hL
    · rw [joinG, joinT, hj, if_pos rfl, if_pos rfl, Int.toNat_natCast, Int.toNat_natCast]
      obtain ⟨p1, p2, p3, p4, p5⟩ := hok.pick i j hi hjn hne
      exact ⟨_, p2, p1, p3, p4, p5, rfl, rfl, h.hist⟩

/-- What Undo does. -/
def undoes (t : List Uf.Rec) (m : Int) : Bool := decide (0 ≤ m ∧ m ≤ t.length)
def undoK (t : List Uf.Rec) (m : Int) : Nat := if undoes t m then t.length - m.toNat else 0

theorem back_zero (g : Uf.G) (t : List Uf.Rec) : Uf.back g t 0 = g := by cases t <;> rfl

theorem Undo_st (w : World) (base p nb : Nat) (jv : Value) (n : Nat) (g : Uf.G) (t : List Uf.Rec) (h : St w base p nb jv n g t) (m : Int) :
    Calls Try.prog 31 #[.pointer (some ⟨p, 0, none⟩), .int .i64 m] w fun e w' => e = .returned (.bool (undoes t m)) ∧ ∃ jv', St w' base p nb jv' n (Uf.back g t (undoK t m)) (t.drop (undoK t m)) ∧
      Kept (Foot p nb jv) w w' ∧ jv'.ownBlock = jv.ownBlock := by
  cases hu : undoes t m
  · have hno : m < 0 ∨ ((Uf.recs t).length : Int) < m := by
      rw [Uf.recs_length]
      have := of_decide_eq_false hu
      omega
    refine (Undo_no w base p nb n g jv _ h.lies m hno).mono ?_
    rintro e w' ⟨he, hL, hK⟩
    have hk0 : undoK t m = 0 := by rw [undoK, hu]; rfl
    refine ⟨he, jv, ?_, hK, rfl⟩
    rw [hk0, back_zero]
    exact ⟨hL, h.hist, Nat.le_trans h.low hK.size⟩
  · obtain ⟨h1, h2⟩ : 0 ≤ m ∧ m ≤ t.length := of_decide_eq_true hu
    obtain ⟨k, rfl⟩ := Int.eq_ofNat_of_zero_le h1
    have hk : k ≤ t.length := by omega
    have hk0 : undoK t k = t.length - k := by rw [undoK, hu, if_pos rfl, Int.toNat_natCast]
    rw [hk0]
    rcases h.lies.joins.2 with ⟨rfl, h0⟩ | ⟨jb, cap, cur, rfl, _⟩
    · rw [Uf.recs_length] at h0
      obtain rfl : t = [] := List.eq_nil_of_length_eq_zero h0
      obtain rfl : k = 0 := by simpa using hk
      refine (callsIn_wide.1 (Undo_nil w base p nb n g h.lies)).mono ?_
      rintro e w' ⟨he, hL, hK⟩
      exact ⟨he, _, ⟨hL, h.hist, Nat.le_trans h.low hK.size⟩, hK, rfl⟩
    · have hl := h.lies
      rw [Uf.recs_length] at hl
      refine (callsIn_wide.1 (Undo_in w base p nb n g t jb cap hl h.hist k hk)).mono ?_
      rintro e w' ⟨he, hL, hK⟩
      refine ⟨he, _, ⟨hL, Uf.hist_back n _ t g h.hist, Nat.le_trans h.low hK.size⟩, ?_, rfl⟩
      rw [Uf.recs_length]
      exact hK

theorem New_st (w : World) (n : Nat) (hn : n ≤ 100000) :
    Calls Try.prog 24 #[.int .i64 n] w fun e w' => e = .returned (.pointer (some ⟨w.heap.size + 1, 0, none⟩)) ∧ St w' w.heap.size (w.heap.size + 1) w.heap.size (.slice none 0 0) n Uf.g0 [] ∧ Below w.heap.size w w' :=
  (New_in w n hn).mono fun _ _ ⟨he, hL, hB⟩ => ⟨he, ⟨hL, rfl, hB.size⟩, hB⟩

/-- Another Sets is as it was, if the two share no block. -/
theorem St.other {w w' : World} {base p nb n : Nat} {jv : Value} {g : Uf.G} {t : List Uf.Rec} (h : St w base p nb jv n g t) {S : Nat → Prop} (hK : Kept S w w') (hp : ¬ S p) (hn : ¬ S nb) (hj : ∀ k, jv.ownBlock = some k → ¬ S k) : St w' base p nb jv n g t := by
  refine ⟨⟨h.lies.sets.of_block (hK.block p h.lies.sets.lt hp), h.lies.nodes.of_block (hK.block nb h.lies.nodes.lt hn), ?_, h.lies.ne, h.lies.jp, h.lies.jn, h.lies.bp, h.lies.bn, h.lies.small⟩, h.hist, Nat.le_trans h.low hK.size⟩
  refine ⟨h.lies.joins.1, ?_⟩
  rcases h.lies.joins.2 with hn | ⟨b, cap, cur, e, h1, h2, h3⟩
  · exact .inl hn
  · refine .inr ⟨b, cap, cur, e, h1, ?_, h3⟩
    rw [hK.block b (Array.getElem?_eq_some_iff.1 h2).1 (hj b (by rw [e]; rfl))]
    exact h2

theorem St.drewN {w : World} {base p nb n : Nat} {jv : Value} {g : Uf.G} {t : List Uf.Rec} (h : St w base p nb jv n g t) {m : Nat} : St (w.drewN m) base p nb jv n g t := ⟨h.lies.drewN, h.hist, h.low⟩

end Go.Proofs.Ytjfekcjhflcnaaa
