/- The plain mathematics of package find: trees with a least number, and joins that can be taken back. No Go here. Package find, the functions that only read: has, root, Count, Mark, Least, Same. Package find: hang. -/
import Derived.Test.YtinphcnknionmaaRows
import Derived.WalkKit
import Derived.WalkSpells
import Derived.WalkLawsBesides
import Derived.Deep.OwnRows
import Derived.Deep.LoopGhost
import Derived.Deep.QuietTactic
import Derived.BigRegion
import Derived.BigQuiet
namespace Go.Proofs.Ytinphcnknionmaa.Uf

structure Nd where
  par : Nat
  nxt : Nat
  siz : Nat
  lst : Nat

/-- A state: the nodes, and beside them what each number's root is, and how deep it lies. -/
structure G where
  N : Nat → Nd
  rt : Nat → Nat
  dp : Nat → Nat

def cnt : Nat → (Nat → Bool) → Nat
  | 0, _ => 0
  | n + 1, p => cnt n p + (if p n then 1 else 0)

theorem cnt_le (n : Nat) (p : Nat → Bool) : cnt n p ≤ n := by
  induction n with
  | zero => simp [cnt]
  | succ n ih => simp only [cnt]; split <;> omega

theorem cnt_congr (n : Nat) (p q : Nat → Bool) (h : ∀ i, i < n → p i = q i) : cnt n p = cnt n q := by
  induction n with
  | zero => rfl
  | succ n ih => simp only [cnt]; rw [ih (fun i hi => h i (by omega)), h n (by omega)]

theorem cnt_or (n : Nat) (p q : Nat → Bool) (h : ∀ i, i < n → ¬ (p i = true ∧ q i = true)) : cnt n (fun i => p i || q i) = cnt n p + cnt n q := by
  induction n with
  | zero => rfl
  | succ n ih =>
    simp only [cnt]
    rw [ih (fun i hi => h i (by omega))]
    have := h n (by omega)
    by_cases hp : p n = true <;> by_cases hq : q n = true <;> simp [hp, hq] at this ⊢ <;> omega

theorem cnt_pos (n : Nat) (p : Nat → Bool) (i : Nat) (hi : i < n) (h : p i = true) : 0 < cnt n p := by
  induction n with
  | zero => omega
  | succ n ih =>
    simp only [cnt]
    by_cases e : i = n
    · subst e; simp [h]
    · have := ih (by omega); omega

theorem cnt_one (n : Nat) (p q : Nat → Bool) (k : Nat) (hk : k < n) (hp : p k = true) (hq : q k = false) (h : ∀ i, i < n → i ≠ k → p i = q i) : cnt n q + 1 = cnt n p := by
  induction n with
  | zero => omega
  | succ n ih =>
    simp only [cnt]
    by_cases e : k = n
    · subst e
      rw [cnt_congr k p q (fun i hi => h i (by omega) (by omega))]; simp [hp, hq]
    · have := ih (by omega) (fun i hi hne => h i (by omega) hne)
      rw [h n (by omega) (by omega)]; split <;> omega

theorem cnt_all (n : Nat) (p : Nat → Bool) (h : ∀ i, i < n → p i = true) : cnt n p = n := by
  induction n with
  | zero => rfl
  | succ n ih => simp only [cnt]; rw [ih (fun i hi => h i (by omega)), h n (by omega)]; simp

theorem cnt_only (n : Nat) (k : Nat) (hk : k < n) : cnt n (fun i => decide (i = k)) = 1 := by
  have h := cnt_one n (fun i => decide (i = k)) (fun _ => false) k hk (by simp) rfl (fun i _ hne => by simp [hne])
  have z : ∀ m, cnt m (fun _ => false) = 0 := by
    intro m; induction m with
    | zero => rfl
    | succ m ih => simp [cnt, ih]
  rw [z] at h; omega

def g0 : G := { N := fun i => ⟨i, i, 1, i⟩, rt := fun i => i, dp := fun _ => 0 }

/-- Root c is hung below root r. -/
def hang (g : G) (c r : Nat) : G :=
  { N := fun k => if k = c then ⟨r, (g.N r).nxt, (g.N c).siz, (g.N c).lst⟩ else if k = r then ⟨(g.N r).par, (g.N c).nxt, (g.N r).siz + (g.N c).siz, min (g.N r).lst (g.N c).lst⟩ else g.N k
    rt := fun i => if g.rt i = c then r else g.rt i
    dp := fun i => if g.rt i = c then g.dp i + g.dp r + 1 else g.dp i }

/-- The least number of the class of i. -/
def G.lo (g : G) (i : Nat) : Nat := (g.N (g.rt i)).lst

structure Ok (n : Nat) (g : G) (k : Nat) : Prop where
  parlt : ∀ i, i < n → (g.N i).par < n
  rtlt : ∀ i, i < n → g.rt i < n
  root : ∀ i, i < n → (g.N i).par = i → g.rt i = i
  step : ∀ i, i < n → (g.N i).par ≠ i → g.rt (g.N i).par = g.rt i ∧ g.dp (g.N i).par < g.dp i
  top : ∀ i, i < n → (g.N (g.rt i)).par = g.rt i
  siz : ∀ i, i < n → g.rt i = i → (g.N i).siz = cnt n (fun j => decide (g.rt j = i))
  lole : ∀ i, i < n → g.lo i ≤ i
  loin : ∀ i, i < n → g.rt (g.lo i) = g.rt i
  num : cnt n (fun i => decide (g.lo i = i)) + k = n

theorem ok_g0 (n : Nat) : Ok n g0 0 := by
  refine ⟨fun i h => h, fun i h => h, fun i _ _ => rfl, fun i _ h => absurd rfl h, fun i _ => rfl, ?_, fun i _ => Nat.le_refl _, fun i _ => rfl, ?_⟩
  · intro i hi _
    exact (cnt_only n i hi).symm
  · rw [cnt_all n _ (fun i _ => by simp [G.lo, g0])]; rfl

theorem Ok.rtrt {n : Nat} {g : G} {k : Nat} (h : Ok n g k) (i : Nat) (hi : i < n) : g.rt (g.rt i) = g.rt i :=
  h.root _ (h.rtlt i hi) (h.top i hi)

theorem Ok.parroot {n : Nat} {g : G} {k : Nat} (h : Ok n g k) (i : Nat) (hi : i < n) (hr : g.rt i = i) : (g.N i).par = i := by
  have := h.top i hi; rw [hr] at this; exact this

theorem hang_lo (g : G) (c r i : Nat) (hne : c ≠ r) :
    (hang g c r).lo i = if g.rt i = c ∨ g.rt i = r then min (g.N r).lst (g.N c).lst else g.lo i := by
  simp only [G.lo, hang]
  by_cases h1 : g.rt i = c
  · simp [h1, Ne.symm hne]
  · by_cases h2 : g.rt i = r
    · simp [h2, Ne.symm hne]
    · simp [h1, h2]

theorem Ok.hang {n : Nat} {g : G} {k : Nat} (h : Ok n g k) (c r : Nat) (hc : c < n) (hr : r < n) (hne : c ≠ r) (cc : g.rt c = c) (rr : g.rt r = r) :
    Ok n (hang g c r) (k + 1) := by
  have pc := h.parroot c hc cc
  have pr := h.parroot r hr rr
  have lc : (g.N c).lst = g.lo c := by simp [G.lo, cc]
  have lr : (g.N r).lst = g.lo r := by simp [G.lo, rr]
  have hlo := fun i => hang_lo g c r i hne
  have lcle := h.lole c hc
  have lrle := h.lole r hr
  have lcin := h.loin c hc
  have lrin := h.loin r hr
  rw [cc] at lcin
  rw [rr] at lrin
  have lne : g.lo c ≠ g.lo r := by intro e; rw [e, lrin] at lcin; exact hne lcin.symm
  have lcself : g.lo (g.lo c) = g.lo c := by simp only [G.lo] at lcin ⊢; rw [lcin, cc]
  have lrself : g.lo (g.lo r) = g.lo r := by simp only [G.lo] at lrin ⊢; rw [lrin, rr]
  refine ⟨?_, ?_, ?_, ?_, ?_, ?_, ?_, ?_, ?_⟩
  · intro i hi
    simp only [Uf.hang]
    split
    · exact hr
    · split
      · exact h.parlt r hr
      · exact h.parlt i hi
  · intro i hi
    simp only [Uf.hang]
    split
    · exact hr
    · exact h.rtlt i hi
  · intro i hi hp
    simp only [Uf.hang] at hp ⊢
    by_cases e1 : i = c
    · subst e1; simp at hp; exact absurd hp.symm hne
    · by_cases e2 : i = r
      · subst e2; rw [rr]; simp [e1]
      · simp [e1, e2] at hp
        have := h.root i hi hp
        rw [this]; simp [e1]
  · intro i hi hp
    simp only [Uf.hang] at hp ⊢
    by_cases e1 : i = c
    · subst e1
      simp only [if_true]
      rw [rr, cc]
      simp [Ne.symm hne]
      omega
    · by_cases e2 : i = r
      · subst e2
        simp only [e1, if_false, if_true] at hp
        exact absurd pr hp
      · simp only [e1, e2, if_false] at hp ⊢
        obtain ⟨s1, s2⟩ := h.step i hi hp
        rw [s1]
        refine ⟨rfl, ?_⟩
        split <;> omega
  · intro i hi
    simp only [Uf.hang]
    by_cases e1 : g.rt i = c
    · simp [e1, Ne.symm hne, pr]
    · by_cases e2 : g.rt i = r
      · simp [e2, Ne.symm hne, pr]
      · simp [e1, e2, h.top i hi]
  · intro i hi hrt
    simp only [Uf.hang] at hrt ⊢
    by_cases e1 : i = c
    · subst e1; simp [cc] at hrt; exact absurd hrt.symm hne
    · by_cases e2 : i = r
      · subst e2
        simp only [e1, if_false, if_true]
        rw [h.siz i hi rr, h.siz c hc cc, ← cnt_or]
        · apply cnt_congr
          intro j hj
          by_cases q1 : g.rt j = c <;> by_cases q2 : g.rt j = i <;> simp [q1, q2]
        · intro j hj
          simp
          intro q1 q2
          exact e1 (by rw [← q1, ← q2])
      · have hi' : g.rt i = i := by
          by_cases q : g.rt i = c
          · simp [q] at hrt; exact absurd hrt.symm e2
          · simpa [q] using hrt
        simp only [e1, e2, if_false]
        rw [h.siz i hi hi']
        apply cnt_congr
        intro j hj
        by_cases q1 : g.rt j = c
        · simp [q1, Ne.symm e1, Ne.symm e2]
        · simp [q1]
  · intro i hi
    rw [hlo, lc, lr]
    have li := h.lole i hi
    split
    · rename_i hx
      rcases hx with hx | hx
      · have : g.lo i = g.lo c := by simp only [G.lo]; rw [hx, cc]
        omega
      · have : g.lo i = g.lo r := by simp only [G.lo]; rw [hx, rr]
        omega
    · exact li
  · intro i hi
    rw [hlo, lc, lr]
    by_cases hx : g.rt i = c ∨ g.rt i = r
    · rw [if_pos hx]
      have e : (Uf.hang g c r).rt i = r := by
        simp only [Uf.hang]
        rcases hx with hx | hx
        · simp [hx]
        · simp [hx, Ne.symm hne]
      rw [e]
      by_cases q : g.lo r ≤ g.lo c
      · rw [Nat.min_eq_left q]; simp [Uf.hang, lrin, Ne.symm hne]
      · rw [Nat.min_eq_right (by omega)]; simp [Uf.hang, lcin]
    · rw [if_neg hx]
      have := h.loin i hi
      simp only [Uf.hang]
      rw [this]
  · have key : cnt n (fun i => decide ((Uf.hang g c r).lo i = i)) + 1 = cnt n (fun i => decide (g.lo i = i)) := by
      apply cnt_one n _ _ (max (g.lo c) (g.lo r)) (by omega)
      · by_cases q : g.lo r ≤ g.lo c
        · rw [Nat.max_eq_left q]; simp [lcself]
        · rw [Nat.max_eq_right (by omega)]; simp [lrself]
      · rw [hlo, lc, lr]
        by_cases q : g.lo r ≤ g.lo c
        · rw [Nat.max_eq_left q, if_pos (Or.inl lcin)]; simp; omega
        · rw [Nat.max_eq_right (by omega), if_pos (Or.inr lrin)]; simp; omega
      · intro i hi hne'
        rw [hlo, lc, lr]
        by_cases hx : g.rt i = c ∨ g.rt i = r
        · rw [if_pos hx]
          rcases hx with hx | hx
          · have : g.lo i = g.lo c := by simp only [G.lo]; rw [hx, cc]
            rw [this, decide_eq_decide]
            constructor
            · intro e; omega
            · intro e
              rcases Nat.lt_or_ge (g.lo r) (g.lo c) with q | q
              · exfalso
                have e2 : i = g.lo r := by omega
                rw [e2, lrin] at hx; exact hne hx.symm
              · omega
          · have : g.lo i = g.lo r := by simp only [G.lo]; rw [hx, rr]
            rw [this, decide_eq_decide]
            constructor
            · intro e; omega
            · intro e
              rcases Nat.lt_or_ge (g.lo c) (g.lo r) with q | q
              · exfalso
                have e2 : i = g.lo c := by omega
                rw [e2, lcin] at hx; exact hne hx
              · omega
        · rw [if_neg hx]
    have := h.num
    omega

theorem Ok.sizes {n : Nat} {g : G} {k : Nat} (h : Ok n g k) (c r : Nat) (hc : c < n) (hr : r < n) (hne : c ≠ r) (cc : g.rt c = c) (rr : g.rt r = r) : (g.N r).siz + (g.N c).siz ≤ n := by
  rw [h.siz r hr rr, h.siz c hc cc, ← cnt_or]
  · exact cnt_le _ _
  · intro i _ hx
    simp at hx
    exact hne (hx.2.symm.trans hx.1)

/-- Which root is hung below which. -/
def pick (g : G) (a b : Nat) : Nat × Nat := if (g.N (g.rt b)).siz < (g.N (g.rt a)).siz then (g.rt b, g.rt a) else (g.rt a, g.rt b)

/-- The state, and the joins with the states ahead of them, the last one first. -/
structure Rec where
  child : Nat
  least : Nat
  was : G

def Hist (n : Nat) : G → List Rec → Prop
  | g, [] => g = g0
  | g, x :: t => ∃ r, r < n ∧ x.child < n ∧ x.child ≠ r ∧ x.was.rt x.child = x.child ∧ x.was.rt r = r ∧ x.least = (x.was.N r).lst ∧ g = hang x.was x.child r ∧ Hist n x.was t

theorem ok_hist (n : Nat) : ∀ (t : List Rec) (g : G), Hist n g t → Ok n g t.length
  | [], g, h => by cases h; exact ok_g0 n
  | x :: t, g, h => by
    obtain ⟨r, hr, hc, hne, cc, rr, _, rfl, ht⟩ := h
    exact (ok_hist n t x.was ht).hang _ _ hc hr hne cc rr

theorem Ok.num_le {n : Nat} {g : G} {k : Nat} (h : Ok n g k) : k ≤ n := by have := h.num; omega

theorem Ok.pick {n : Nat} {g : G} {k : Nat} (h : Ok n g k) (a b : Nat) (ha : a < n) (hb : b < n) (hne : g.rt a ≠ g.rt b) :
    (pick g a b).1 < n ∧ (pick g a b).2 < n ∧ (pick g a b).1 ≠ (pick g a b).2 ∧ g.rt (pick g a b).1 = (pick g a b).1 ∧ g.rt (pick g a b).2 = (pick g a b).2 := by
  unfold Uf.pick
  split
  · exact ⟨h.rtlt b hb, h.rtlt a ha, Ne.symm hne, h.rtrt b hb, h.rtrt a ha⟩
  · exact ⟨h.rtlt a ha, h.rtlt b hb, hne, h.rtrt a ha, h.rtrt b hb⟩

/-- The state k joins ago. -/
def back : G → List Rec → Nat → G
  | g, _, 0 => g
  | g, [], _ + 1 => g
  | _, x :: t, k + 1 => back x.was t k

theorem hist_back (n : Nat) : ∀ (k : Nat) (t : List Rec) (g : G), Hist n g t → Hist n (back g t k) (t.drop k)
  | 0, t, g, h => by simpa [back] using h
  | k + 1, [], g, h => by simpa [back] using h
  | k + 1, x :: t, g, h => by
    obtain ⟨_, _, _, _, _, _, _, _, ht⟩ := h
    simpa [back] using hist_back n k t x.was ht

theorem back_succ : ∀ (k : Nat) (t : List Rec) (g : G) (x : Rec), t[k]? = some x → back g t (k + 1) = x.was
  | 0, [], _, _, h => by simp at h
  | 0, y :: t, g, x, h => by simp at h; subst h; simp [back]
  | k + 1, [], _, _, h => by simp at h
  | k + 1, y :: t, g, x, h => by
    simp at h
    simpa [back] using back_succ k t y.was x h

/-- The joins as the program keeps them. -/
def recs (t : List Rec) : List (Nat × Nat) := (t.map fun x => (x.child, x.least)).reverse

theorem recs_length (t : List Rec) : (recs t).length = t.length := by simp [recs]
theorem recs_cons (x : Rec) (t : List Rec) : recs (x :: t) = recs t ++ [(x.child, x.least)] := by simp [recs]
theorem recs_drop (t : List Rec) (k : Nat) : recs (t.drop k) = (recs t).take (t.length - k) := by
  simp only [recs, List.map_drop, List.reverse_drop, List.length_map]

theorem recs_get (t : List Rec) (k : Nat) (hk : k < t.length) : (recs t)[t.length - 1 - k]? = some ((t[k]).child, (t[k]).least) := by
  simp only [recs]
  rw [List.getElem?_reverse (by simp; omega)]
  simp
  refine ⟨t[k], ?_, rfl, rfl⟩
  rw [List.getElem?_eq_some_iff]
  refine ⟨by omega, ?_⟩
  congr 1
  omega

theorem hist_child (n : Nat) : ∀ (t : List Rec) (g : G), Hist n g t → ∀ x ∈ t, x.child < n
  | [], _, _, x, hx => by simp at hx
  | y :: t, g, h, x, hx => by
    obtain ⟨_, _, hc, _, _, _, _, _, ht⟩ := h
    rcases List.mem_cons.1 hx with rfl | hx
    · exact hc
    · exact hist_child n t y.was ht x hx

theorem recs_child (n : Nat) (t : List Rec) (g : G) (h : Hist n g t) (i : Nat) (hi : i < t.length) : ((recs t)[i]?.getD (0, 0)).1 < n := by
  have hl : i < (recs t).length := by rw [recs_length]; exact hi
  rw [List.getElem?_eq_getElem hl, Option.getD_some]
  have hm : (recs t)[i] ∈ recs t := List.getElem_mem hl
  generalize (recs t)[i] = y at hm
  simp only [recs, List.mem_reverse, List.mem_map] at hm
  obtain ⟨x, hx, rfl⟩ := hm
  exact hist_child n t g h x hx

end Go.Proofs.Ytinphcnknionmaa.Uf

namespace Go.Proofs.Ytinphcnknionmaa
open Go.RowKit

/-- What cell j of the nodes' array holds. -/
def nodeC (g : Uf.G) (j : Nat) : Value :=
  .int .i64 (if j % 4 = 0 then ((g.N (j / 4)).par : Int) else if j % 4 = 1 then ((g.N (j / 4)).nxt : Int) else if j % 4 = 2 then ((g.N (j / 4)).siz : Int) else ((g.N (j / 4)).lst : Int))

def joinC (js : List (Nat × Nat)) : List Value := js.flatMap fun x => [.int .i64 (x.1 : Int), .int .i64 (x.2 : Int)]

def setsC (nb n : Nat) (jv : Value) (j : Nat) : Value := if j = 0 then .slice (some ⟨nb, 0, none⟩) n n else jv

/-- A Sets that lies at block p, its nodes at block nb, its joins owned from base on. -/
structure Lies (w : World) (base p nb n : Nat) (g : Uf.G) (jv : Value) (js : List (Nat × Nat)) : Prop where
  sets : w.rowIs p 128 2 (setsC nb n jv)
  nodes : w.rowIs nb 130 (n * 4) (nodeC g)
  joins : w.ownsRow base 135 2 jv js.length (joinC js)
  ne : p ≠ nb
  jp : jv.ownBlock ≠ some p
  jn : jv.ownBlock ≠ some nb
  bp : base ≤ p
  bn : base ≤ nb
  small : n ≤ 100000

theorem Lies.jform {w : World} {base p nb n : Nat} {g : Uf.G} {jv : Value} {js : List (Nat × Nat)} (h : Lies w base p nb n g jv js) : ∃ a cap, jv = .slice a js.length cap := by
  rcases h.joins.2 with ⟨rfl, h0⟩ | ⟨b, cap, cur, rfl, _⟩
  · rw [h0]; exact ⟨none, 0, rfl⟩
  · exact ⟨_, cap, rfl⟩

theorem Lies.c0 {w : World} {base p nb n : Nat} {g : Uf.G} {jv : Value} {js : List (Nat × Nat)} (h : Lies w base p nb n g jv js) : w.cell? ⟨p, 0, none⟩ = some (.slice (some ⟨nb, 0, none⟩) n n) := h.sets.cell (by omega)
theorem Lies.c1 {w : World} {base p nb n : Nat} {g : Uf.G} {jv : Value} {js : List (Nat × Nat)} (h : Lies w base p nb n g jv js) : w.cell? ⟨p, 1, none⟩ = some jv := h.sets.cell (i := 1) (by omega)

/-- Is it a number of it? -/
def inB (n : Nat) (a : Int) : Bool := decide (0 ≤ a ∧ a < n)
theorem inB_true {n : Nat} {a : Int} (h : inB n a = true) : 0 ≤ a ∧ a < n := of_decide_eq_true h
theorem inB_false {n : Nat} {a : Int} (h : inB n a = false) : ¬ (0 ≤ a ∧ a < n) := of_decide_eq_false h
theorem inB_nat {n a : Nat} (h : a < n) : inB n a = true := decide_eq_true (by omega)
theorem ret_bool {a b : Bool} (h : a = b) : Ending.returned (.bool a) = .returned (.bool b) := by rw [h]
theorem ret_int {k : IntKind} {a b : Int} (h : a = b) : Ending.returned (.int k a) = .returned (.int k b) := by rw [h]
theorem inB_lt {n : Nat} {a : Int} (h : a < 0) : false = inB n a := (decide_eq_false (by omega)).symm
theorem inB_ge {n : Nat} {a : Int} (h : 0 ≤ a) : decide (a < n) = inB n a := by unfold inB; simp [h]

set_option maxHeartbeats 400000 in
theorem has_in (w : World) (base p nb n : Nat) (g : Uf.G) (jv : Value) (js : List (Nat × Nat)) (h : Lies w base p nb n g jv js) (a : Int) :
    Calls Try.prog 75 #[.pointer (some ⟨p, 0, none⟩), .int .i64 a] w fun e w' => e = .returned (.bool (inB n a)) ∧ w = w' := by
  have c0 := h.c0
  have hn := h.small
  clear h
  go_enter Try.func75, Try.ntmps75
  go_wp2
  · go_ret
    exact ⟨ret_bool (inB_ge ‹_›), rfl⟩
  · go_ret
    exact ⟨ret_bool (inB_lt ‹_›), rfl⟩

set_option maxHeartbeats 400000 in
theorem has_nil (w : World) (a : Int) :
    Calls Try.prog 75 #[.pointer none, .int .i64 a] w fun e w' => e = .returned (.bool false) ∧ w = w' := by
  go_enter Try.func75, Try.ntmps75
  go_wp2
  go_ret
  exact ⟨rfl, rfl⟩

theorem nodeC_par (g : Uf.G) (i : Nat) : nodeC g (i * 4) = .int .i64 ((g.N i).par : Int) := by
  have h1 : (i * 4) % 4 = 0 := by omega
  have h2 : (i * 4) / 4 = i := by omega
  simp [nodeC]
theorem nodeC_nxt (g : Uf.G) (i : Nat) : nodeC g (i * 4 + 1) = .int .i64 ((g.N i).nxt : Int) := by
  have h1 : (i * 4 + 1) % 4 = 1 := by omega
  have h2 : (i * 4 + 1) / 4 = i := by omega
  simp [nodeC, h1, h2]
theorem nodeC_siz (g : Uf.G) (i : Nat) : nodeC g (i * 4 + 2) = .int .i64 ((g.N i).siz : Int) := by
  have h1 : (i * 4 + 2) % 4 = 2 := by omega
  have h2 : (i * 4 + 2) / 4 = i := by omega
  simp [nodeC, h1, h2]
theorem nodeC_lst (g : Uf.G) (i : Nat) : nodeC g (i * 4 + 3) = .int .i64 ((g.N i).lst : Int) := by
  have h1 : (i * 4 + 3) % 4 = 3 := by omega
  have h2 : (i * 4 + 3) / 4 = i := by omega
  simp [nodeC, h1, h2]

theorem Lies.par {w : World} {base p nb n : Nat} {g : Uf.G} {jv : Value} {js : List (Nat × Nat)} (h : Lies w base p nb n g jv js) {i : Nat} (hi : i < n) : w.cell? ⟨nb, i * 4, none⟩ = some (.int .i64 ((g.N i).par : Int)) := by
  rw [← nodeC_par]; exact h.nodes.cell (by omega)
theorem Lies.nxt {w : World} {base p nb n : Nat} {g : Uf.G} {jv : Value} {js : List (Nat × Nat)} (h : Lies w base p nb n g jv js) {i : Nat} (hi : i < n) : w.cell? ⟨nb, i * 4 + 1, none⟩ = some (.int .i64 ((g.N i).nxt : Int)) := by
  rw [← nodeC_nxt]; exact h.nodes.cell (by omega)
theorem Lies.siz {w : World} {base p nb n : Nat} {g : Uf.G} {jv : Value} {js : List (Nat × Nat)} (h : Lies w base p nb n g jv js) {i : Nat} (hi : i < n) : w.cell? ⟨nb, i * 4 + 2, none⟩ = some (.int .i64 ((g.N i).siz : Int)) := by
  rw [← nodeC_siz]; exact h.nodes.cell (by omega)
theorem Lies.lst {w : World} {base p nb n : Nat} {g : Uf.G} {jv : Value} {js : List (Nat × Nat)} (h : Lies w base p nb n g jv js) {i : Nat} (hi : i < n) : w.cell? ⟨nb, i * 4 + 3, none⟩ = some (.int .i64 ((g.N i).lst : Int)) := by
  rw [← nodeC_lst]; exact h.nodes.cell (by omega)

set_option maxHeartbeats 400000 in
theorem root_in (w : World) (base p nb n : Nat) (g : Uf.G) (jv : Value) (js : List (Nat × Nat)) (h : Lies w base p nb n g jv js) (k : Nat) (hg : Uf.Ok n g k) (a : Nat) (ha : a < n) :
    Calls Try.prog 76 #[.pointer (some ⟨p, 0, none⟩), .int .i64 a] w fun e w' => e = .returned (.int .i64 (g.rt a)) ∧ w = w' := by
  have c0 := h.c0
  have hn := h.small
  go_enter Try.func76, Try.ntmps76
  go_wp2
  go_loop [1] (fun t => ∃ i : Nat, i < n ∧ t = .int .i64 i ∧ Hid (g.rt i = g.rt a)) (fun t => g.dp (intOf t).toNat)
  case atStart => exact ⟨a, ha, rfl, rfl⟩
  case round =>
    obtain ⟨i, hi, rfl, hrt⟩ := hrel
    have cp := h.par hi
    have hpl := hg.parlt i hi
    by_cases hr : (g.N i).par = i
    · have hroot := hg.root i hi hr
      have Hroot : Hid (g.rt i = i) := hroot
      rw [hr] at cp
      clear hroot hr h hg
      go_wp2
      go_ret
      exact ⟨ret_int (by rw [← hrt.out, Hroot.out]), rfl⟩
    · have hst := hg.step i hi hr
      have Hst : Hid (_ ∧ _) := hst
      have hne : (((g.N i).par : Int) != (i : Int)) = true := by rw [bne_iff_ne]; omega
      generalize hq : (g.N i).par = q at *
      clear hst h hg hr
      go_wp2
      go_round
      case rel => exact ⟨q, hpl, rfl, Hst.out.1.trans hrt.out⟩
      case measure => simp [intOf]; exact Hst.out.2

set_option maxHeartbeats 400000 in
theorem Count_in (w : World) (base p nb n : Nat) (g : Uf.G) (jv : Value) (js : List (Nat × Nat)) (h : Lies w base p nb n g jv js) (hj : js.length ≤ n) :
    Calls Try.prog 26 #[.pointer (some ⟨p, 0, none⟩)] w fun e w' => e = .returned (.int .i64 ((n : Int) - js.length)) ∧ ∃ m, w' = w.drewN m := by
  have c0 := h.c0
  have c1 := h.c1
  have hn := h.small
  obtain ⟨ja, jc, rfl⟩ := h.jform
  clear h
  go_enter Try.func26, Try.ntmps26
  go_wp2_with fail
  go_quiet (fail)
  go_wp2
  go_ret
  exact ⟨rfl, _, rfl⟩

set_option maxHeartbeats 400000 in
theorem Mark_in (w : World) (base p nb n : Nat) (g : Uf.G) (jv : Value) (js : List (Nat × Nat)) (h : Lies w base p nb n g jv js) :
    Calls Try.prog 36 #[.pointer (some ⟨p, 0, none⟩)] w fun e w' => e = .returned (.int .i64 (js.length : Int)) ∧ w = w' := by
  have c1 := h.c1
  obtain ⟨ja, jc, rfl⟩ := h.jform
  clear h
  go_enter Try.func36, Try.ntmps36
  go_wp2
  go_ret
  exact ⟨rfl, rfl⟩

theorem Lies.drewN {w : World} {base p nb n : Nat} {g : Uf.G} {jv : Value} {js : List (Nat × Nat)} (h : Lies w base p nb n g jv js) {m : Nat} : Lies (w.drewN m) base p nb n g jv js :=
  ⟨h.sets, h.nodes, h.joins, h.ne, h.jp, h.jn, h.bp, h.bn, h.small⟩

set_option maxHeartbeats 400000 in
theorem Least_in (w : World) (base p nb n : Nat) (g : Uf.G) (jv : Value) (js : List (Nat × Nat)) (h : Lies w base p nb n g jv js) (k : Nat) (hg : Uf.Ok n g k) (a : Int) :
    Calls Try.prog 27 #[.pointer (some ⟨p, 0, none⟩), .int .i64 a] w fun e w' => e = .returned (.int .i64 (if inB n a then (g.lo a.toNat : Int) else -1)) ∧ ∃ m, w' = w.drewN m := by
  have c0 := h.c0
  have hn := h.small
  cases hb : inB n a
  · have hb' := inB_false hb
    go_enter Try.func27, Try.ntmps27
    go_wp2_with (go_at_call 75; refine (has_in _ _ _ _ _ _ _ _ h _).mono ?_; rintro e w' ⟨rfl, rfl⟩; rw [hb])
    go_ret
    exact ⟨rfl, 0, rfl⟩
  · obtain ⟨h1, h2⟩ := inB_true hb
    obtain ⟨i, rfl⟩ := Int.eq_ofNat_of_zero_le h1
    have hi : i < n := by omega
    have hlt := hg.rtlt i hi
    have cl := h.lst hlt
    go_enter Try.func27, Try.ntmps27
    go_wp2_with (go_at_call 75; refine (has_in _ _ _ _ _ _ _ _ h _).mono ?_; rintro e w' ⟨rfl, rfl⟩; rw [hb])
    go_quiet ((go_at_call 76; exact Calls.quiet_of_same ((root_in _ _ _ _ _ _ _ _ h.drewN _ hg _ hi).mono fun _ _ x => ⟨x.1, x.2.symm⟩)))
    go_wp2
    go_ret
    exact ⟨rfl, _, rfl⟩

/-- Are two numbers in one class? -/
def sameB (n : Nat) (g : Uf.G) (a b : Int) : Bool := inB n a && inB n b && decide (g.rt a.toNat = g.rt b.toNat)

set_option maxHeartbeats 400000 in
theorem Same_in (w : World) (base p nb n : Nat) (g : Uf.G) (jv : Value) (js : List (Nat × Nat)) (h : Lies w base p nb n g jv js) (k : Nat) (hg : Uf.Ok n g k) (a b : Int) :
    Calls Try.prog 34 #[.pointer (some ⟨p, 0, none⟩), .int .i64 a, .int .i64 b] w fun e w' => e = .returned (.bool (sameB n g a b)) ∧ ∃ m, w' = w.drewN m := by
  cases ha : inB n a
  · have fin : sameB n g a b = false := by simp [sameB, ha]
    rw [fin]
    clear fin
    go_enter Try.func34, Try.ntmps34
    go_wp2_with fail
    refine (has_in _ _ _ _ _ _ _ _ h a).mono ?_
    rintro e w' ⟨rfl, rfl⟩
    rw [ha]
    go_wp2
    go_ret
    exact ⟨rfl, 0, rfl⟩
  · cases hb : inB n b
    · have fin : sameB n g a b = false := by simp [sameB, hb]
      rw [fin]
      clear fin
      go_enter Try.func34, Try.ntmps34
      go_wp2_with fail
      refine (has_in _ _ _ _ _ _ _ _ h a).mono ?_
      rintro e w' ⟨rfl, rfl⟩
      rw [ha]
      go_wp2_with fail
      refine (has_in _ _ _ _ _ _ _ _ h b).mono ?_
      rintro e w' ⟨rfl, rfl⟩
      rw [hb]
      go_wp2
      go_ret
      exact ⟨rfl, 0, rfl⟩
    · obtain ⟨a1, a2⟩ := inB_true ha
      obtain ⟨b1, b2⟩ := inB_true hb
      obtain ⟨i, rfl⟩ := Int.eq_ofNat_of_zero_le a1
      obtain ⟨j, rfl⟩ := Int.eq_ofNat_of_zero_le b1
      have hi : i < n := by omega
      have hj : j < n := by omega
      have fin : sameB n g i j = ((g.rt i : Int) == (g.rt j : Int)) := by
        simp only [sameB, ha, hb, Bool.true_and, Int.toNat_natCast]
        by_cases e : g.rt i = g.rt j
        · simp [e]
        · rw [decide_eq_false e]; exact (beq_eq_false_iff_ne.2 (by omega)).symm
      rw [fin]
      clear fin
      go_enter Try.func34, Try.ntmps34
      go_wp2_with fail
      refine (has_in _ _ _ _ _ _ _ _ h i).mono ?_
      rintro e w' ⟨rfl, rfl⟩
      rw [ha]
      go_wp2_with fail
      refine (has_in _ _ _ _ _ _ _ _ h j).mono ?_
      rintro e w' ⟨rfl, rfl⟩
      rw [hb]
      go_wp2_with fail
      refine (root_in _ _ _ _ _ _ _ _ h _ hg i hi).mono ?_
      rintro e w' ⟨rfl, rfl⟩
      go_wp2_with fail
      refine (root_in _ _ _ _ _ _ _ _ h _ hg j hj).mono ?_
      rintro e w' ⟨rfl, rfl⟩
      go_wp2
      go_ret
      exact ⟨rfl, 0, rfl⟩

end Go.Proofs.Ytinphcnknionmaa

namespace Go.Proofs.Ytinphcnknionmaa
open Go.RowKit

/-- All blocks but those of S are as they were. -/
structure Kept (S : Nat → Prop) (w w' : World) : Prop where
  os : w'.os = w.os
  tape : w'.tape = w.tape
  output : w'.output = w.output
  size : w.heap.size ≤ w'.heap.size
  block : ∀ k, k < w.heap.size → ¬ S k → w'.heap[k]? = w.heap[k]?

theorem Kept.refl (S : Nat → Prop) (w : World) : Kept S w w := ⟨rfl, rfl, rfl, Nat.le_refl _, fun _ _ _ => rfl⟩
theorem Kept.trans {S : Nat → Prop} {a b c : World} (h : Kept S a b) (k : Kept S b c) : Kept S a c :=
  ⟨k.os.trans h.os, k.tape.trans h.tape, k.output.trans h.output, Nat.le_trans h.size k.size, fun i hi hs => (k.block i (Nat.lt_of_lt_of_le hi h.size) hs).trans (h.block i hi hs)⟩
theorem Kept.mono {S T : Nat → Prop} {w w' : World} (h : Kept S w w') (hst : ∀ k, k < w.heap.size → S k → T k) : Kept T w w' :=
  ⟨h.os, h.tape, h.output, h.size, fun k hk hs => h.block k hk (fun x => hs (hst k hk x))⟩
theorem Kept.drewN {S : Nat → Prop} {a w : World} (h : Kept S a w) (m : Nat) : Kept S a (w.drewN m) := ⟨h.os, h.tape, h.output, h.size, h.block⟩
theorem Kept.drew {S : Nat → Prop} {a w : World} (h : Kept S a w) : Kept S a w.drew := ⟨h.os, h.tape, h.output, h.size, h.block⟩
theorem Kept.setCell {S : Nat → Prop} {a w : World} (h : Kept S a w) {p : Addr} (hp : S p.block) (u : Value) : Kept S a (w.setCell p u) :=
  h.trans ⟨rfl, rfl, rfl, by simp [World.setCell], fun k _ hs => Below.heap_setCell _ _ _ _ (fun e => hs (e ▸ hp))⟩
theorem Kept.alloc {S : Nat → Prop} {a w : World} (h : Kept S a w) (o : Obj) : Kept S a (w.alloc o) :=
  h.trans ⟨rfl, rfl, rfl, by simp, fun k hk _ => Below.heap_alloc _ _ _ hk⟩
theorem Kept.grown {S : Nat → Prop} {a w w' : World} {row : Option Nat} (h : Kept S a w) (hg : w.grownBy w' row) (hr : ∀ k, row = some k → S k) : Kept S a w' :=
  h.trans ⟨hg.os, hg.tape, hg.output, hg.size, fun k hk hs => hg.block k hk (fun e => hs (hr k e.symm))⟩
theorem Kept.below {S : Nat → Prop} {w w' : World} {B : Nat} (h : Kept S w w') (hB : B ≤ w.heap.size) (hs : ∀ k, S k → B ≤ k) : Below B w w' :=
  ⟨h.os, h.tape, h.output, h.size, fun k hk => h.block k (by omega) (fun x => by have := hs k x; omega)⟩

abbrev Kept1 (nb : Nat) (w w' : World) : Prop := Kept (fun k => k = nb) w w'
theorem Kept1.set {nb : Nat} {a w : World} (h : Kept1 nb a w) (o : Nat) (u : Value) : Kept1 nb a (w.setCell ⟨nb, o, none⟩ u) := Kept.setCell h rfl u

theorem Kept1.grownBy {nb : Nat} {w w' : World} (h : Kept1 nb w w') : w.grownBy w' (some nb) :=
  ⟨h.os, h.tape, h.output, h.size, fun k hk hs => h.block k hk (fun e => hs (by rw [e]))⟩

/-- New nodes, all else as it was. -/
theorem Lies.renode {w w' : World} {base p nb n : Nat} {g g' : Uf.G} {jv : Value} {js : List (Nat × Nat)} (h : Lies w base p nb n g jv js) (K : Kept1 nb w w') {f : Nat → Value} (R : w'.rowIs nb 130 (n * 4) f) (hf : ∀ j, j < n * 4 → f j = nodeC g' j) : Lies w' base p nb n g' jv js :=
  ⟨h.sets.of_block (K.block p h.sets.lt h.ne), R.congr hf, h.joins.kept K.grownBy (Or.inr h.jn), h.ne, h.jp, h.jn, h.bp, h.bn, h.small⟩

theorem quarters (j : Nat) : ∃ q, j = q * 4 ∨ j = q * 4 + 1 ∨ j = q * 4 + 2 ∨ j = q * 4 + 3 := ⟨j / 4, by omega⟩

theorem hang_cells (g : Uf.G) (c r : Nat) (hne : c ≠ r) (j : Nat) :
    (if j = r * 4 + 3 then .int .i64 (if (g.N c).lst < (g.N r).lst then ((g.N c).lst : Int) else ((g.N r).lst : Int)) else if j = r * 4 + 2 then .int .i64 ((g.N r).siz + (g.N c).siz : Int) else if j = r * 4 + 1 then .int .i64 ((g.N c).nxt : Int) else if j = c * 4 + 1 then .int .i64 ((g.N r).nxt : Int) else if j = c * 4 then .int .i64 (r : Int) else nodeC g j) = nodeC (Uf.hang g c r) j := by
  obtain ⟨q, hq⟩ := quarters j
  by_cases e1 : q = c
  · subst e1
    rcases hq with rfl | rfl | rfl | rfl
    · rw [if_neg (by omega), if_neg (by omega), if_neg (by omega), if_neg (by omega), if_pos rfl, nodeC_par]; simp [Uf.hang]
    · rw [if_neg (by omega), if_neg (by omega), if_neg (by omega), if_pos rfl, nodeC_nxt]; simp [Uf.hang]
    · rw [if_neg (by omega), if_neg (by omega), if_neg (by omega), if_neg (by omega), if_neg (by omega), nodeC_siz, nodeC_siz]; simp [Uf.hang]
    · rw [if_neg (by omega), if_neg (by omega), if_neg (by omega), if_neg (by omega), if_neg (by omega), nodeC_lst, nodeC_lst]; simp [Uf.hang]
  · by_cases e2 : q = r
    · subst e2
      rcases hq with rfl | rfl | rfl | rfl
      · rw [if_neg (by omega), if_neg (by omega), if_neg (by omega), if_neg (by omega), if_neg (by omega), nodeC_par, nodeC_par]; simp [Uf.hang, e1]
      · rw [if_neg (by omega), if_neg (by omega), if_pos rfl, nodeC_nxt]; simp [Uf.hang, e1]
      · rw [if_neg (by omega), if_pos rfl, nodeC_siz]; simp [Uf.hang, e1]
      · rw [if_pos rfl, nodeC_lst]; simp only [Uf.hang, e1, if_false, if_true]; split <;> (congr 1; omega)
    · have e : (Uf.hang g c r).N q = g.N q := by simp [Uf.hang, e1, e2]
      rcases hq with rfl | rfl | rfl | rfl
      · rw [if_neg (by omega), if_neg (by omega), if_neg (by omega), if_neg (by omega), if_neg (by omega), nodeC_par, nodeC_par, e]
      · rw [if_neg (by omega), if_neg (by omega), if_neg (by omega), if_neg (by omega), if_neg (by omega), nodeC_nxt, nodeC_nxt, e]
      · rw [if_neg (by omega), if_neg (by omega), if_neg (by omega), if_neg (by omega), if_neg (by omega), nodeC_siz, nodeC_siz, e]
      · rw [if_neg (by omega), if_neg (by omega), if_neg (by omega), if_neg (by omega), if_neg (by omega), nodeC_lst, nodeC_lst, e]

set_option maxHeartbeats 1000000 in
theorem hang_in (w : World) (base p nb n : Nat) (g : Uf.G) (jv : Value) (js : List (Nat × Nat)) (h : Lies w base p nb n g jv js) (c r : Nat) (hc : c < n) (hr : r < n) (hne : c ≠ r)
    (hsz : (g.N r).siz + (g.N c).siz ≤ 100000) :
    Calls Try.prog 77 #[.pointer (some ⟨p, 0, none⟩), .int .i64 c, .int .i64 r] w fun e w' => e = .returned (.tuple #[]) ∧ Lies w' base p nb n (Uf.hang g c r) jv js ∧ Kept1 nb w w' := by
  have c0 := h.c0
  have hn := h.small
  have x0 := h.par hc
  have x1 := h.nxt hc
  have y1 := h.nxt hr
  have fx0 := h.nodes.frozen (c * 4)
  have fx1 := h.nodes.frozen (c * 4 + 1)
  have fy1 := h.nodes.frozen (r * 4 + 1)
  have e1 : ¬ (c * 4 = r * 4 + 1) := by omega
  have e2 : ¬ (c * 4 + 1 = r * 4 + 1) := by omega
  have e3 : ¬ (c = r) := hne
  go_enter Try.func77, Try.ntmps77
  go_wp2_with fail
  go_quiet (fail)
  go_wp2_with fail
  go_region
  generalize hw1 : (((w.drewN (nq + 1)).setCell ⟨nb, c * 4, none⟩ (.int .i64 (r : Int))).setCell ⟨nb, c * 4 + 1, none⟩ (.int .i64 ((g.N r).nxt : Int))).setCell ⟨nb, r * 4 + 1, none⟩ (.int .i64 ((g.N c).nxt : Int)) = w1
  have R1 : w1.rowIs nb 130 (n * 4) (fun j => if j = r * 4 + 1 then .int .i64 ((g.N c).nxt : Int) else if j = c * 4 + 1 then .int .i64 ((g.N r).nxt : Int) else if j = c * 4 then .int .i64 (r : Int) else nodeC g j) := by
    rw [← hw1]; exact ((h.drewN.nodes.set _ _).set _ _).set _ _
  have K1 : Kept1 nb w w1 := by
    rw [← hw1]; exact Kept1.set (Kept1.set (Kept1.set ((Kept.refl _ w).drewN _) _ _) _ _) _ _
  have x2 : w1.cell? ⟨nb, c * 4 + 2, none⟩ = some (.int .i64 ((g.N c).siz : Int)) := by
    rw [R1.cell (i := c * 4 + 2) (by omega), if_neg (by omega), if_neg (by omega), if_neg (by omega), nodeC_siz]
  have y2 : w1.cell? ⟨nb, r * 4 + 2, none⟩ = some (.int .i64 ((g.N r).siz : Int)) := by
    rw [R1.cell (i := r * 4 + 2) (by omega), if_neg (by omega), if_neg (by omega), if_neg (by omega), nodeC_siz]
  have fy2 := R1.frozen (r * 4 + 2)
  clear x0 x1 y1 fx0 fx1 fy1 hw1 e1 e2 c0
  go_wp2_with fail
  go_region
  generalize hw2 : (w1.setCell ⟨nb, r * 4 + 2, none⟩ (.int .i64 ((g.N r).siz + (g.N c).siz : Int))).drew = w2
  have R2 := (R1.set (r * 4 + 2) (.int .i64 ((g.N r).siz + (g.N c).siz : Int))).drew
  have K2 := (Kept1.set K1 (r * 4 + 2) (.int .i64 ((g.N r).siz + (g.N c).siz : Int))).drew
  rw [hw2] at R2 K2
  have x3 : w2.cell? ⟨nb, c * 4 + 3, none⟩ = some (.int .i64 ((g.N c).lst : Int)) := by
    rw [R2.cell (i := c * 4 + 3) (by omega), if_neg (by omega), if_neg (by omega), if_neg (by omega), if_neg (by omega), nodeC_lst]
  have y3 : w2.cell? ⟨nb, r * 4 + 3, none⟩ = some (.int .i64 ((g.N r).lst : Int)) := by
    rw [R2.cell (i := r * 4 + 3) (by omega), if_neg (by omega), if_neg (by omega), if_neg (by omega), if_neg (by omega), nodeC_lst]
  have fy3 := R2.frozen (r * 4 + 3)
  clear x2 y2 fy2 hw2 K1 R1
  go_wp2_with fail
  go_region
  have R3 := (R2.set (r * 4 + 3) (.int .i64 (if (g.N c).lst < (g.N r).lst then ((g.N c).lst : Int) else ((g.N r).lst : Int)))).drew
  have K3 := (Kept1.set K2 (r * 4 + 3) (.int .i64 (if (g.N c).lst < (g.N r).lst then ((g.N c).lst : Int) else ((g.N r).lst : Int)))).drew
  go_end0
  exact ⟨rfl, h.renode K3 R3 (fun j _ => hang_cells g c r hne j), K3⟩

end Go.Proofs.Ytinphcnknionmaa
