/- The plain mathematics of package find, more: rings; the list of least numbers, a row a join. The document's own Sets (equateref02): what it is in memory; has, Now, Count, Least, Same, Undo. The document's own Sets (equateref02): Least, Same, Undo; ints. slices.Sort's contract at this program, laid by the kit's own tool, in plain words. Package find: Class. The document's own Sets (equateref02): New, Join, Class. -/
import Derived.Test.YtinphcnknionmaaG00
import Derived.Test.YtinphcnknionmaaG06
import Derived.Test.YtinphcnknionmaaSLawC
import Derived.Deep.RegionLaw
import Derived.Shelf.Sort.Plain
import Derived.Test.YtinphcnknionmaaProg
import Derived.Sort.OwnSortedInts
import Derived.Deep.RegionWith
import Derived.Deep.CutRange
import Derived.Maps.AppendAt
namespace Go.Proofs.Ytinphcnknionmaa.Uf

/-- From a by what is next through l to b. -/
def Path (N : Nat → Nd) : Nat → Nat → List Nat → Prop
  | a, b, [] => (N a).nxt = b
  | a, b, x :: l => (N a).nxt = x ∧ Path N x b l

theorem path_append (N : Nat → Nd) : ∀ (l1 : List Nat) (a x b : Nat) (l2 : List Nat), Path N a b (l1 ++ x :: l2) ↔ Path N a x l1 ∧ Path N x b l2
  | [], a, x, b, l2 => Iff.rfl
  | y :: l1, a, x, b, l2 => by
    simp only [List.cons_append, Path, path_append N l1 y x b l2, and_assoc]

theorem path_congr (N N' : Nat → Nd) : ∀ (l : List Nat) (a b : Nat), (N' a).nxt = (N a).nxt → (∀ x ∈ l, (N' x).nxt = (N x).nxt) → Path N a b l → Path N' a b l
  | [], a, b, h, _, p => by simp only [Path] at p ⊢; rw [h]; exact p
  | x :: l, a, b, h, hl, p => ⟨by rw [h]; exact p.1, path_congr N N' l x b (hl x (by simp)) (fun y hy => hl y (by simp [hy])) p.2⟩

/-- Path from a node whose next is another's: the first step alone is turned. -/
theorem path_first (N N' : Nat → Nd) (l : List Nat) (a a' b : Nat) (h : (N' a').nxt = (N a).nxt) (hl : ∀ x ∈ l, (N' x).nxt = (N x).nxt) (p : Path N a b l) : Path N' a' b l := by
  cases l with
  | nil => simp only [Path] at p ⊢; rw [h]; exact p
  | cons x l => exact ⟨by rw [h]; exact p.1, path_congr N N' l x b (hl x (by simp)) (fun y hy => hl y (by simp [hy])) p.2⟩

/-- The ring through r: all numbers of its class, each once. -/
def RingAt (n : Nat) (g : G) (r : Nat) : Prop := ∃ l, Path g.N r r l ∧ (r :: l).Nodup ∧ ∀ i, i ∈ r :: l ↔ i < n ∧ g.rt i = g.rt r

def Rings (n : Nat) (g : G) : Prop := ∀ r, r < n → g.rt r = r → RingAt n g r

theorem rings_g0 (n : Nat) : Rings n g0 := by
  intro r hr _
  refine ⟨[], rfl, by simp, fun i => ?_⟩
  simp only [List.mem_singleton, g0]
  constructor
  · rintro rfl; exact ⟨hr, rfl⟩
  · exact fun h => h.2

theorem Rings.hang {n : Nat} {g : G} (h : Rings n g) (c r : Nat) (hc : c < n) (hr : r < n) (hne : c ≠ r) (cc : g.rt c = c) (rr : g.rt r = r) : Rings n (hang g c r) := by
  obtain ⟨l1, p1, d1, m1⟩ := h c hc cc
  obtain ⟨l2, p2, d2, m2⟩ := h r hr rr
  rw [cc] at m1
  rw [rr] at m2
  have n1 : (r ∉ c :: l1) := fun e => by have := (m1 r).1 e; rw [rr] at this; exact hne this.2.symm
  have n2 : (c ∉ r :: l2) := fun e => by have := (m2 c).1 e; rw [cc] at this; exact hne this.2
  have dj : ∀ x, x ∈ c :: l1 → x ∈ r :: l2 → False := fun x e1 e2 => hne (((m1 x).1 e1).2.symm.trans ((m2 x).1 e2).2)
  have nc : ((Uf.hang g c r).N c).nxt = (g.N r).nxt := by simp [Uf.hang]
  have nr : ((Uf.hang g c r).N r).nxt = (g.N c).nxt := by simp [Uf.hang, Ne.symm hne]
  have no : ∀ x, x ≠ c → x ≠ r → ((Uf.hang g c r).N x) = g.N x := fun x e1 e2 => by simp [Uf.hang, e1, e2]
  intro q hq hqq
  by_cases hqr : q = r
  · subst hqr
    refine ⟨l1 ++ c :: l2, ?_, ?_, ?_⟩
    · rw [path_append]
      constructor
      · exact path_first g.N _ l1 c q c nr (fun x hx => by
          rw [no x (fun e => by rw [e] at hx; simp [hx] at d1) (fun e => n1 (by rw [← e]; simp [hx]))]) p1
      · exact path_first g.N _ l2 q c q nc (fun x hx => by
          rw [no x (fun e => n2 (by rw [← e]; simp [hx])) (fun e => by rw [e] at hx; simp [hx] at d2)]) p2
    · have hp : (q :: (l1 ++ c :: l2)).Perm ((c :: l1) ++ (q :: l2)) := by
        have h1 : (l1 ++ c :: l2).Perm (c :: (l1 ++ l2)) := List.perm_middle
        have h2 : ((c :: l1) ++ (q :: l2)).Perm (q :: ((c :: l1) ++ l2)) := List.perm_middle
        exact (List.Perm.cons q h1).trans h2.symm
      rw [hp.nodup_iff, List.nodup_append]
      exact ⟨d1, d2, fun a ha b hb e => dj a ha (by rw [e]; exact hb)⟩
    · intro i
      have e0 : (Uf.hang g c q).rt q = q := by simp [Uf.hang, rr, Ne.symm hne]
      rw [e0]
      have hmem : i ∈ q :: (l1 ++ c :: l2) ↔ i ∈ c :: l1 ∨ i ∈ q :: l2 := by
        simp only [List.mem_cons, List.mem_append]
        constructor
        · rintro (a | a | a | a) <;> simp [a]
        · rintro ((a | a) | (a | a)) <;> simp [a]
      rw [hmem, m1, m2]
      simp only [Uf.hang]
      constructor
      · rintro (⟨a, b⟩ | ⟨a, b⟩)
        · exact ⟨a, by simp [b]⟩
        · exact ⟨a, by simp [b, Ne.symm hne]⟩
      · rintro ⟨a, b⟩
        by_cases e : g.rt i = c
        · exact Or.inl ⟨a, e⟩
        · exact Or.inr ⟨a, by simpa [e] using b⟩
  · have hqc : q ≠ c := by
      rintro rfl
      simp [Uf.hang, cc] at hqq
      exact hne hqq.symm
    have hq0 : g.rt q = q := by
      simp only [Uf.hang] at hqq
      by_cases e : g.rt q = c
      · simp [e] at hqq; exact absurd hqq.symm hqr
      · simpa [e] using hqq
    obtain ⟨l, p, d, m⟩ := h q hq hq0
    rw [hq0] at m
    refine ⟨l, ?_, d, ?_⟩
    · refine path_congr g.N _ l q q ?_ ?_ p
      · rw [no q hqc hqr]
      · intro x hx
        have := (m x).1 (by simp [hx])
        rw [no x (fun e => hqc (by rw [← this.2, e, cc])) (fun e => hqr (by rw [← this.2, e, rr]))]
    · intro i
      have e0 : (Uf.hang g c r).rt q = q := hqq
      rw [e0, m]
      simp only [Uf.hang]
      constructor
      · rintro ⟨a, b⟩
        exact ⟨a, by simp [b, hqc]⟩
      · rintro ⟨a, b⟩
        by_cases e : g.rt i = c
        · simp [e] at b; exact absurd b.symm hqr
        · exact ⟨a, by simpa [e] using b⟩

theorem rings_hist (n : Nat) : ∀ (t : List Rec) (g : G), Hist n g t → Rings n g
  | [], g, h => by cases h; exact rings_g0 n
  | x :: t, g, h => by
    obtain ⟨r, hr, hc, hne, cc, rr, _, rfl, ht⟩ := h
    exact Rings.hang (rings_hist n t x.was ht) _ _ hc hr hne cc rr

/-- The ring through whatever number. -/
theorem ring_any {n : Nat} {g : G} {k : Nat} (hok : Ok n g k) (h : Rings n g) (a : Nat) (ha : a < n) : RingAt n g a := by
  obtain ⟨l, p, d, m⟩ := h (g.rt a) (hok.rtlt a ha) (hok.rtrt a ha)
  rw [hok.rtrt a ha] at m
  have hmem : a ∈ g.rt a :: l := (m a).2 ⟨ha, rfl⟩
  by_cases e : a = g.rt a
  · rw [e, RingAt]
    refine ⟨l, p, d, fun i => ?_⟩
    rw [m, hok.rtrt a ha]
  · have hal : a ∈ l := by
      rcases List.mem_cons.1 hmem with h | h
      · exact absurd h e
      · exact h
    obtain ⟨l1, l2, rfl⟩ := List.append_of_mem hal
    rw [path_append] at p
    refine ⟨l2 ++ g.rt a :: l1, (path_append _ _ _ _ _ _).2 ⟨p.2, p.1⟩, ?_, ?_⟩
    · have hp : (a :: (l2 ++ g.rt a :: l1)).Perm (g.rt a :: (l1 ++ a :: l2)) := by
        have h1 : (l2 ++ g.rt a :: l1).Perm (g.rt a :: l1 ++ l2) := (List.perm_append_comm)
        have h2 : (l1 ++ a :: l2).Perm (a :: (l1 ++ l2)) := List.perm_middle
        exact ((List.Perm.cons a h1).trans (List.Perm.swap _ _ _)).trans (List.Perm.cons _ h2.symm)
      rw [hp.nodup_iff]; exact d
    · intro i
      rw [← m]
      simp only [List.mem_cons, List.mem_append]
      constructor
      · rintro (a | a | a | a) <;> simp [a]
      · rintro (a | a | a | a) <;> simp [a]

/-- Each number's least one. -/
def los (n : Nat) (g : G) : List Nat := (List.range n).map g.lo

def logOf (n : Nat) : G → List Rec → List (List Nat)
  | g, [] => [los n g]
  | g, x :: t => logOf n x.was t ++ [los n g]

theorem logOf_length (n : Nat) : ∀ (t : List Rec) (g : G), (logOf n g t).length = t.length + 1
  | [], _ => rfl
  | x :: t, g => by simp [logOf, logOf_length n t x.was]

theorem logOf_last (n : Nat) (t : List Rec) (g : G) : (logOf n g t)[t.length]? = some (los n g) := by
  cases t with
  | nil => rfl
  | cons x t => simp [logOf, logOf_length]

theorem logOf_back (n : Nat) : ∀ (k : Nat) (t : List Rec) (g : G), k ≤ t.length → logOf n (back g t k) (t.drop k) = (logOf n g t).take (t.length - k + 1)
  | 0, t, g, _ => by
    rw [List.take_of_length_le (by rw [logOf_length]; omega)]
    cases t <;> rfl
  | k + 1, [], g, h => by simp at h
  | k + 1, x :: t, g, h => by
    have h' : k ≤ t.length := by simpa using h
    simp only [back, List.drop_succ_cons, logOf, List.length_cons]
    rw [logOf_back n k t x.was h', List.take_append_of_le_length (by rw [logOf_length]; omega)]
    congr 1
    omega

end Go.Proofs.Ytinphcnknionmaa.Uf

namespace Go.Proofs.Ytinphcnknionmaa
open Go.RowKit

def rsetsC (n : Nat) (lv : Value) (j : Nat) : Value := if j = 0 then .int .i64 (n : Int) else lv
def intsC (l : List Nat) : List Value := l.map fun x : Nat => Value.int .i64 (x : Int)

/-- The document's Sets at block rp: n numbers, its log. -/
structure Ref (w : World) (base rp n : Nat) (lv : Value) (log : List (List Nat)) : Prop where
  sets : w.rowIs rp 133 2 (rsetsC n lv)
  low : base ≤ rp
  rows : ∃ vals : List Value, vals.length = log.length ∧ w.ownsRow base 40 1 lv log.length vals ∧ ∀ (k : Nat) (l : List Nat), log[k]? = some l → ∃ v, vals[k]? = some v ∧ w.ownsRow base 3 1 v l.length (intsC l)
  small : n ≤ 150

theorem Ref.form {w : World} {base rp n : Nat} {lv : Value} {log : List (List Nat)} (h : Ref w base rp n lv log) : ∃ a cap, lv = .slice a log.length cap := by
  obtain ⟨vals, _, h2, _⟩ := h.rows
  rcases h2.2 with ⟨rfl, h0⟩ | ⟨b, cap, cur, rfl, _⟩
  · rw [h0]; exact ⟨none, 0, rfl⟩
  · exact ⟨_, cap, rfl⟩
theorem Ref.c0 {w : World} {base rp n : Nat} {lv : Value} {log : List (List Nat)} (h : Ref w base rp n lv log) : w.cell? ⟨rp, 0, none⟩ = some (.int .i64 (n : Int)) := h.sets.cell (by omega)
theorem Ref.c1 {w : World} {base rp n : Nat} {lv : Value} {log : List (List Nat)} (h : Ref w base rp n lv log) : w.cell? ⟨rp, 1, none⟩ = some lv := h.sets.cell (i := 1) (by omega)
theorem Ref.drewN {w : World} {base rp n : Nat} {lv : Value} {log : List (List Nat)} (h : Ref w base rp n lv log) {m : Nat} : Ref (w.drewN m) base rp n lv log := ⟨h.sets, h.low, h.rows, h.small⟩

/-- A row's own block is a row of that type. -/
theorem row_block {w : World} {base e size n k : Nat} {v : Value} {xs : List Value} (h : w.ownsRow base e size v n xs) (hk : v.ownBlock = some k) : ∃ cur, w.heap[k]? = some (.cells cur e (0, 0)) := by
  rcases h.2 with ⟨rfl, _⟩ | ⟨g, cap, cur, rfl, _, hg, _⟩
  · simp [Value.ownBlock] at hk
  · simp [Value.ownBlock] at hk
    subst hk
    exact ⟨cur, hg⟩

theorem owns_kept {w w' : World} {base e size n : Nat} {v : Value} {xs : List Value} (h : w.ownsRow base e size v n xs) {S : Nat → Prop} (hK : Kept S w w') (hS : ∀ k, v.ownBlock = some k → ¬ S k) : w'.ownsRow base e size v n xs := by
  refine ⟨h.1, ?_⟩
  rcases h.2 with hn | ⟨g, cap, cur, e1, h1, h2, h3⟩
  · exact .inl hn
  · refine .inr ⟨g, cap, cur, e1, h1, ?_, h3⟩
    rw [hK.block g (Array.getElem?_eq_some_iff.1 h2).1 (hS g (by rw [e1]; rfl))]
    exact h2

/-- What turns blocks of other types alone leaves it. -/
theorem Ref.other {w w' : World} {base rp n : Nat} {lv : Value} {log : List (List Nat)} (h : Ref w base rp n lv log) {S : Nat → Prop} (hK : Kept S w w')
    (hS : ∀ k cur e, w.heap[k]? = some (.cells cur e (0, 0)) → e = 133 ∨ e = 40 ∨ e = 3 → ¬ S k) : Ref w' base rp n lv log := by
  obtain ⟨vals, h1, h2, h3⟩ := h.rows
  have hrp : ∃ cur, w.heap[rp]? = some (.cells cur 133 (0, 0)) := by obtain ⟨c, hc, _⟩ := h.sets; exact ⟨c, hc⟩
  obtain ⟨cr, hcr⟩ := hrp
  refine ⟨h.sets.of_block (hK.block rp h.sets.lt (hS rp cr _ hcr (Or.inl rfl))), h.low, ⟨vals, h1, owns_kept h2 hK ?_, ?_⟩, h.small⟩
  · intro k hk
    obtain ⟨cur, hc⟩ := row_block h2 hk
    exact hS k cur _ hc (Or.inr (Or.inl rfl))
  · intro k l hl
    obtain ⟨v, hv, ho⟩ := h3 k l hl
    refine ⟨v, hv, owns_kept ho hK ?_⟩
    intro j hj
    obtain ⟨cur, hc⟩ := row_block ho hj
    exact hS j cur _ hc (Or.inr (Or.inr rfl))

/-- A Sets' own blocks are of other types. -/
theorem foot_types {w : World} {B p nb n : Nat} {jv : Value} {g : Uf.G} {t : List Uf.Rec} (h : St w B p nb jv n g t) : ∀ k cur e, w.heap[k]? = some (.cells cur e (0, 0)) → e = 133 ∨ e = 40 ∨ e = 3 → ¬ Foot p nb jv k := by
  intro k cur e hk he hf
  have key : e = 128 ∨ e = 130 ∨ e = 135 := by
    rcases hf with rfl | rfl | hf
    · obtain ⟨c, hc, _⟩ := h.lies.sets
      rw [hc] at hk; cases hk; exact Or.inl rfl
    · obtain ⟨c, hc, _⟩ := h.lies.nodes
      rw [hc] at hk; cases hk; exact Or.inr (Or.inl rfl)
    · obtain ⟨c, hc⟩ := row_block h.lies.joins hf
      rw [hc] at hk; cases hk; exact Or.inr (Or.inr rfl)
  rcases key with rfl | rfl | rfl <;> rcases he with h | h | h <;> exact absurd h (by decide)

/-- The document's blocks that it turns: the Sets itself, the log's row. -/
abbrev SFoot (rp : Nat) (lv : Value) (k : Nat) : Prop := k = rp ∨ lv.ownBlock = some k
theorem rfoot_types {w : World} {B rp n : Nat} {lv : Value} {log : List (List Nat)} (h : Ref w B rp n lv log) {k : Nat} {cur : Array Value} {e : TypeId} (hk : w.heap[k]? = some (.cells cur e (0, 0))) (hf : SFoot rp lv k) : e = 133 ∨ e = 40 := by
  rcases hf with rfl | hf
  · obtain ⟨c, hc, _⟩ := h.sets
    rw [hc] at hk; cases hk; exact Or.inl rfl
  · obtain ⟨vals, _, h2, _⟩ := h.rows
    obtain ⟨c, hc⟩ := row_block h2 hf
    rw [hc] at hk; cases hk; exact Or.inr rfl

set_option maxHeartbeats 400000 in
theorem rhas_in (w : World) (base rp n : Nat) (lv : Value) (log : List (List Nat)) (h : Ref w base rp n lv log) (a : Int) :
    Calls Try.prog 78 #[.pointer (some ⟨rp, 0, none⟩), .int .i64 a] w fun e w' => e = .returned (.bool (inB n a)) ∧ w = w' := by
  have c0 := h.c0
  have hn := h.small
  clear h
  go_enter Try.func78, Try.ntmps78
  go_wp2
  · go_ret
    exact ⟨ret_bool (inB_ge ‹_›), rfl⟩
  · go_ret
    exact ⟨ret_bool (inB_lt ‹_›), rfl⟩

set_option maxHeartbeats 400000 in
theorem rNow_in (w : World) (base rp n : Nat) (lv : Value) (log : List (List Nat)) (h : Ref w base rp n lv log) (t : Nat) (ht : log.length = t + 1) (hts : t ≤ 150) (l : List Nat) (hl : log[t]? = some l) :
    Calls Try.prog 80 #[.pointer (some ⟨rp, 0, none⟩)] w fun e w' => ∃ v m, e = .returned v ∧ w' = w.drewN m ∧ w.ownsRow base 3 1 v l.length (intsC l) := by
  obtain ⟨vals, h1, h2, h3⟩ := h.rows
  obtain ⟨v, hv, ho⟩ := h3 t l hl
  have c1 := h.c1
  obtain ⟨av, lv2, cv, hvf⟩ : ∃ a l c, v = .slice a l c := by
    rcases ho.2 with ⟨rfl, _⟩ | ⟨b, cap, cur, rfl, _⟩
    · exact ⟨none, 0, 0, rfl⟩
    · exact ⟨_, _, _, rfl⟩
  subst hvf
  obtain ⟨b, cap, rfl⟩ : ∃ b cap, lv = .slice (some ⟨b, 0, none⟩) (t + 1) cap := by
    rw [ht] at h2
    exact ownsRow_succ h2
  have hcell : w.cell? ⟨b, t, none⟩ = some (.slice av lv2 cv) := by
    rw [ht] at h2
    rw [h2.cellAt t (by omega), hv]
  have HO : Hid (w.ownsRow base 3 1 (.slice av lv2 cv) l.length (intsC l)) := ho
  clear h1 h2 h3 hv ho hl h ht
  go_enter Try.func80, Try.ntmps80
  go_wp2_with fail
  go_quiet (fail)
  go_wp2
  go_ret
  exact ⟨_, _, rfl, rfl, HO.out⟩

set_option maxHeartbeats 400000 in
theorem rCount_in (w : World) (base rp n : Nat) (lv : Value) (log : List (List Nat)) (h : Ref w base rp n lv log) (t : Nat) (ht : log.length = t + 1) (hts : t ≤ 150) :
    Calls Try.prog 83 #[.pointer (some ⟨rp, 0, none⟩)] w fun e w' => e = .returned (.int .i64 ((n : Int) - t)) ∧ ∃ m, w' = w.drewN m := by
  have c0 := h.c0
  have c1 := h.c1
  have hn := h.small
  obtain ⟨a, cap, rfl⟩ := h.form
  rw [ht] at c1
  clear h ht
  go_enter Try.func83, Try.ntmps83
  go_wp2_with fail
  go_quiet (fail)
  go_wp2
  go_ret
  exact ⟨rfl, _, rfl⟩

end Go.Proofs.Ytinphcnknionmaa

namespace Go.Proofs.Ytinphcnknionmaa
open Go.RowKit

theorem los_length (n : Nat) (g : Uf.G) : (Uf.los n g).length = n := by simp [Uf.los]
theorem intsC_length (l : List Nat) : (intsC l).length = l.length := by simp [intsC]
theorem intsC_get (l : List Nat) (i : Nat) (h : i < l.length) : (intsC l)[i]? = some (.int .i64 ((l[i]?.getD 0 : Nat) : Int)) := by
  simp only [intsC, List.getElem?_map, List.getElem?_eq_getElem h]; rfl
theorem los_get (n : Nat) (g : Uf.G) (i : Nat) (h : i < n) : ((Uf.los n g)[i]?.getD 0) = g.lo i := by simp [Uf.los, h]

/-- The log of a state. -/
abbrev RefS (w : World) (base rp n : Nat) (lv : Value) (s : GT) : Prop := Ref w base rp n lv (Uf.logOf n s.1 s.2)

theorem RefS.now (w : World) (base rp n : Nat) (lv : Value) (s : GT) (h : RefS w base rp n lv s) (ht : s.2.length ≤ 150) :
    Calls Try.prog 80 #[.pointer (some ⟨rp, 0, none⟩)] w fun e w' => ∃ v m, e = .returned v ∧ w' = w.drewN m ∧ w.ownsRow base 3 1 v n (intsC (Uf.los n s.1)) := by
  have := rNow_in w base rp n lv _ h s.2.length (Uf.logOf_length n s.2 s.1) ht _ (Uf.logOf_last n s.2 s.1)
  rw [los_length] at this
  exact this

set_option maxHeartbeats 400000 in
theorem rLeast_in (w : World) (base rp n : Nat) (lv : Value) (s : GT) (h : RefS w base rp n lv s) (ht : s.2.length ≤ 150) (a : Int) :
    Calls Try.prog 79 #[.pointer (some ⟨rp, 0, none⟩), .int .i64 a] w fun e w' => e = .returned (.int .i64 (leastV n s.1 a)) ∧ ∃ m, w' = w.drewN m := by
  have HAS := rhas_in _ _ _ _ _ _ h a
  cases hb : inB n a
  · rw [leastV_out hb]
    rw [hb] at HAS
    go_enter Try.func79, Try.ntmps79
    go_wp2_with fail
    refine HAS.mono ?_
    rintro e w' ⟨rfl, rfl⟩
    go_wp2
    go_ret
    exact ⟨rfl, 0, rfl⟩
  · rw [leastV_in hb]
    rw [hb] at HAS
    obtain ⟨b1, b2⟩ := inB_true hb
    obtain ⟨i, rfl⟩ := Int.eq_ofNat_of_zero_le b1
    rw [Int.toNat_natCast]
    have hi : i < n := by omega
    obtain ⟨k, hk⟩ : ∃ k, n = k + 1 := ⟨n - 1, by omega⟩
    have NOW := RefS.now w base rp n lv s h ht
    have hn := h.small
    clear h
    go_enter Try.func79, Try.ntmps79
    go_wp2_with fail
    refine HAS.mono ?_
    rintro e w' ⟨rfl, rfl⟩
    clear HAS
    go_wp2_with fail
    refine NOW.mono ?_
    rintro e w' ⟨v, m, rfl, rfl, ho⟩
    clear NOW
    have hoc := ho
    rw [hk] at hoc
    obtain ⟨b, cap, hv⟩ := ownsRow_succ hoc
    rw [← hk] at hv
    subst hv
    have hcell := ho.cellAt i (by omega)
    rw [intsC_get _ i (by rw [los_length]; exact hi), los_get n s.1 i hi] at hcell
    clear hoc ho hk
    go_wp2
    go_ret
    exact ⟨rfl, _, rfl⟩

set_option maxHeartbeats 400000 in
theorem rSame_in (w : World) (base rp n : Nat) (lv : Value) (s : GT) (h : RefS w base rp n lv s) (ht : s.2.length ≤ 150) (k : Nat) (hok : Uf.Ok n s.1 k) (a b : Int) :
    Calls Try.prog 35 #[.pointer (some ⟨rp, 0, none⟩), .int .i64 a, .int .i64 b] w fun e w' => e = .returned (.bool (sameB n s.1 a b)) ∧ ∃ m, w' = w.drewN m := by
  have HA := rhas_in _ _ _ _ _ _ h a
  have HB := rhas_in _ _ _ _ _ _ h b
  cases ha : inB n a
  · rw [same_out (Or.inl ha)]
    rw [ha] at HA
    go_enter Try.func35, Try.ntmps35
    go_wp2_with fail
    refine HA.mono ?_
    rintro e w' ⟨rfl, rfl⟩
    go_wp2
    go_ret
    exact ⟨rfl, 0, rfl⟩
  · cases hb : inB n b
    · rw [same_out (Or.inr hb)]
      rw [ha] at HA
      rw [hb] at HB
      go_enter Try.func35, Try.ntmps35
      go_wp2_with fail
      refine HA.mono ?_
      rintro e w' ⟨rfl, rfl⟩
      go_wp2_with fail
      refine HB.mono ?_
      rintro e w' ⟨rfl, rfl⟩
      go_wp2
      go_ret
      exact ⟨rfl, 0, rfl⟩
    · rw [← same_least hok a b, ha, Bool.true_and]
      rw [ha] at HA
      rw [hb] at HB
      have LA := rLeast_in w base rp n lv s h ht a
      have LB := fun m => rLeast_in (w.drewN m) base rp n lv s h.drewN ht b
      clear h ha hb
      generalize leastV n s.1 a = la at *
      generalize leastV n s.1 b = lb at *
      go_enter Try.func35, Try.ntmps35
      go_wp2_with fail
      refine HA.mono ?_
      rintro e w' ⟨rfl, rfl⟩
      go_wp2_with fail
      refine HB.mono ?_
      rintro e w' ⟨rfl, rfl⟩
      clear HA HB
      go_wp2_with fail
      refine LA.mono ?_
      rintro e w' ⟨rfl, m, rfl⟩
      go_wp2_with fail
      refine (LB _).mono ?_
      rintro e w' ⟨rfl, m', rfl⟩
      go_wp2
      go_ret
      exact ⟨rfl, _, rfl⟩

/-- What a Log that is cut holds. -/
theorem Ref.cut {w : World} {base rp n b cap : Nat} {log : List (List Nat)} (h : Ref w base rp n (.slice (some ⟨b, 0, none⟩) log.length cap) log) (k : Nat) (hk : k ≤ log.length) (hb : b ≠ rp) :
    Ref (w.setCell ⟨rp, 1, none⟩ (.slice (some ⟨b, 0, none⟩) k cap)) base rp n (.slice (some ⟨b, 0, none⟩) k cap) (log.take k) ∧ Kept (SFoot rp (.slice (some ⟨b, 0, none⟩) log.length cap)) w (w.setCell ⟨rp, 1, none⟩ (.slice (some ⟨b, 0, none⟩) k cap)) := by
  obtain ⟨vals, h1, h2, h3⟩ := h.rows
  have hl : (log.take k).length = k := by simp [hk]
  have HK : Kept (SFoot rp (.slice (some ⟨b, 0, none⟩) log.length cap)) w (w.setCell ⟨rp, 1, none⟩ (.slice (some ⟨b, 0, none⟩) k cap)) :=
    Kept.setCell (S := SFoot rp (.slice (some ⟨b, 0, none⟩) log.length cap)) (p := ⟨rp, 1, none⟩) (Kept.refl _ w) (Or.inl rfl) _
  have K1 : Kept (fun k => k = rp) w (w.setCell ⟨rp, 1, none⟩ (.slice (some ⟨b, 0, none⟩) k cap)) := Kept.setCell (S := fun k => k = rp) (p := ⟨rp, 1, none⟩) (Kept.refl _ w) rfl _
  refine ⟨⟨(h.sets.set 1 _).congr ?_, h.low, ⟨vals.take k, by simp [h1, hk], ?_, ?_⟩, h.small⟩, HK⟩
  · intro i hi
    unfold rsetsC
    by_cases e : i = 0
    · simp [e]
    · rw [if_pos (by omega), if_neg e]
  · rw [hl]
    have := ownsRow_cut (w' := w.setCell ⟨rp, 1, none⟩ (.slice (some ⟨b, 0, none⟩) k cap)) h2 (Below.heap_setCell _ _ _ _ hb) hk
    rw [Nat.mul_one] at this
    exact this
  · intro j l hjl
    have hj : j < k := by
      rcases Nat.lt_or_ge j k with q | q
      · exact q
      · rw [List.getElem?_eq_none (by rw [hl]; exact q)] at hjl; cases hjl
    rw [List.getElem?_take_of_lt hj] at hjl
    obtain ⟨v, hv, ho⟩ := h3 j l hjl
    refine ⟨v, by rw [List.getElem?_take_of_lt hj]; exact hv, owns_kept ho K1 ?_⟩
    intro x hx e
    subst e
    obtain ⟨cur, hc⟩ := row_block ho hx
    obtain ⟨c, hc', _⟩ := h.sets
    rw [hc'] at hc
    cases hc

set_option maxRecDepth 100000 in
set_option maxHeartbeats 400000 in
theorem rUndo_in (w : World) (base rp n : Nat) (lv : Value) (s : GT) (h : RefS w base rp n lv s) (ht : s.2.length ≤ 150) (m : Int) :
    Calls Try.prog 32 #[.pointer (some ⟨rp, 0, none⟩), .int .i64 m] w fun e w' => e = .returned (.bool (undoes s.2 m)) ∧ ∃ lv', RefS w' base rp n lv' (Uf.back s.1 s.2 (undoK s.2 m), s.2.drop (undoK s.2 m)) ∧ Kept (SFoot rp lv) w w' := by
  have c1 := h.c1
  have f1 := h.sets.frozen 1
  have hL := Uf.logOf_length n s.2 s.1
  cases hu : undoes s.2 m
  · have hno := of_decide_eq_false hu
    have hk0 : undoK s.2 m = 0 := by rw [undoK, hu]; rfl
    rw [hk0, back_zero, List.drop_zero]
    obtain ⟨a, cap, rfl⟩ := h.form
    rw [hL] at c1
    have HH : Hid (RefS w base rp n (.slice a (Uf.logOf n s.1 s.2).length cap) s) := h
    clear h hu hk0 hL
    by_cases h0 : m < 0
    · have d0 : decide (m < 0) = true := by simp [h0]
      clear hno
      go_enter Try.func32, Try.ntmps32
      go_wp2
      go_ret
      first | exact ⟨rfl, ⟨_, HH.out⟩, Kept.refl _ _⟩ | exact ⟨rfl, _, HH.out, Kept.refl _ _⟩
    · have d0 : decide (m < 0) = false := by simp; omega
      have d1 : ((s.2.length : Int) + 1 ≤ m) := by omega
      clear hno
      go_enter Try.func32, Try.ntmps32
      go_wp2
      go_ret
      first | exact ⟨rfl, ⟨_, HH.out⟩, Kept.refl _ _⟩ | exact ⟨rfl, _, HH.out, Kept.refl _ _⟩
  · obtain ⟨q1, q2⟩ : 0 ≤ m ∧ m ≤ s.2.length := of_decide_eq_true hu
    obtain ⟨k, rfl⟩ := Int.eq_ofNat_of_zero_le q1
    have hk : k ≤ s.2.length := by omega
    have hk0 : undoK s.2 k = s.2.length - k := by rw [undoK, hu, if_pos rfl, Int.toNat_natCast]
    rw [hk0]
    obtain ⟨vals, v1, v2, v3⟩ := h.rows
    obtain ⟨b, cap, rfl⟩ : ∃ b cap, lv = .slice (some ⟨b, 0, none⟩) (s.2.length + 1) cap := by
      rw [hL] at v2
      exact ownsRow_succ v2
    have hcap : s.2.length + 1 ≤ cap := by
      rcases v2.2 with ⟨e, _⟩ | ⟨g, c, cur, e, _, _, h1, h2, _⟩
      · cases e
      · simp only [Value.slice.injEq] at e
        obtain ⟨_, _, rfl⟩ := e
        omega
    have hbr : b ≠ rp := by
      intro e
      have := rowIs_type h.sets (by decide) v2
      rw [e] at this
      exact this rfl
    have h' := h
    rw [← hL] at h'
    have fin := Ref.cut h' (k + 1) (by omega) hbr
    rw [hL] at fin
    have hlog := Uf.logOf_back n (s.2.length - k) s.2 s.1 (by omega)
    rw [show s.2.length - (s.2.length - k) + 1 = k + 1 from by omega] at hlog
    have HF : Hid (_ ∧ _) := fin
    have HG : Hid (_ = _) := hlog
    have d0 : decide ((k : Int) < 0) = false := by simp
    have d1 : ¬ ((s.2.length : Int) + 1 ≤ (k : Int)) := by omega
    have d2 : (k : Int) + 1 ≤ (cap : Int) := by omega
    clear h' fin h v1 v2 v3 hL hu hk0 hlog
    go_enter Try.func32, Try.ntmps32
    go_wp2
    go_ret
    refine ⟨rfl, ⟨.slice (some ⟨b, 0, none⟩) (k + 1) cap, ?_⟩, HF.out.2⟩
    unfold RefS
    dsimp only
    rw [HG.out]
    exact HF.out.1

/-- Two rows of numbers are compared. -/
def sameL (a b : List Nat) : Bool := decide (a = b)

set_option maxHeartbeats 1000000 in
theorem ints_eq (w : World) (B1 B2 : Nat) (v1 v2 : Value) (l : List Nat) (hl : l.length ≤ 150) (h1 : w.ownsRow B1 3 1 v1 l.length (intsC l)) (h2 : w.ownsRow B2 3 1 v2 l.length (intsC l)) :
    Calls Try.prog 85 #[v1, v2] w fun e w' => e = .returned (.bool true) ∧ ∃ m, w' = w.drewN m := by
  by_cases h0 : l.length = 0
  · have hf1 : ∃ a c, v1 = .slice a 0 c := by
      rw [h0] at h1
      rcases h1.2 with ⟨rfl, _⟩ | ⟨b, cap, cur, rfl, _⟩
      · exact ⟨_, _, rfl⟩
      · exact ⟨_, _, rfl⟩
    have hf2 : ∃ a c, v2 = .slice a 0 c := by
      rw [h0] at h2
      rcases h2.2 with ⟨rfl, _⟩ | ⟨b, cap, cur, rfl, _⟩
      · exact ⟨_, _, rfl⟩
      · exact ⟨_, _, rfl⟩
    obtain ⟨a1, k1, rfl⟩ := hf1
    obtain ⟨a2, k2, rfl⟩ := hf2
    clear h1 h2 h0 hl
    go_enter Try.func85, Try.ntmps85
    go_wp2
    refine wp_loop_rounds 1 ?_
    rw [rounds_succ]
    go_wp2
    go_ret
    exact ⟨rfl, 0, rfl⟩
  · obtain ⟨k, hk⟩ : ∃ k, l.length = k + 1 := ⟨l.length - 1, by omega⟩
    obtain ⟨b1, cap1, rfl⟩ : ∃ b cap, v1 = .slice (some ⟨b, 0, none⟩) l.length cap := by
      have := h1
      rw [hk] at this ⊢
      exact ownsRow_succ this
    obtain ⟨b2, cap2, rfl⟩ : ∃ b cap, v2 = .slice (some ⟨b, 0, none⟩) l.length cap := by
      have := h2
      rw [hk] at this ⊢
      exact ownsRow_succ this
    have C1 : ∀ i, i < l.length → w.cell? ⟨b1, i, none⟩ = some (.int .i64 ((l[i]?.getD 0 : Nat) : Int)) := fun i hi => by rw [h1.cellAt i (by omega), intsC_get l i hi]
    have C2 : ∀ i, i < l.length → w.cell? ⟨b2, i, none⟩ = some (.int .i64 ((l[i]?.getD 0 : Nat) : Int)) := fun i hi => by rw [h2.cellAt i (by omega), intsC_get l i hi]
    generalize l.length = L at *
    clear h1 h2 hk h0
    go_enter Try.func85, Try.ntmps85
    go_wp2
    go_loopw [5] (fun t W => ∃ k : Nat, k ≤ L ∧ t = .int .i64 k ∧ ∃ m, W = w.drewN m) (fun t _ => L - (intOf t).toNat)
    case atStart => exact ⟨0, Nat.zero_le _, rfl, 0, rfl⟩
    case round =>
      obtain ⟨k, hk, rfl, m, rfl⟩ := hrel
      by_cases hlt : k < L
      · have c1 := C1 k hlt
        have c2 := C2 k hlt
        generalize ((l[k]?.getD 0 : Nat) : Int) = z at c1 c2
        clear C1 C2
        go_wp2_with fail
        go_quiet (fail)
        go_wp2
        go_roundw
        case rel => exact ⟨k + 1, by omega, by go_num, _, rfl⟩
        case measure => simp [intOf]; omega
      · clear C1 C2
        go_wp2
        go_ret
        exact ⟨rfl, _, rfl⟩

end Go.Proofs.Ytinphcnknionmaa

namespace Go.Proofs
open Go.Shelf
def Try.lays189_ren : Go.Shelf.Ren := ⟨fun | 189 => 119 | 125 => 150 | 257 => 149 | 128 => 174 | 129 => 175 | 294 => 165 | 295 => 166 | 296 => 167 | 297 => 168 | 298 => 169 | 299 => 170 | 216 => 171 | 300 => 172 | 301 => 173 | 328 => 181 | 329 => 182 | 330 => 183 | 331 => 184 | 332 => 185 | 215 => 186 | 343 => 190 | n => n, fun | 28 => 40 | 3 => 3 | 46 => 159 | 0 => 0 | 51 => 248 | 53 => 250 | 4 => 4 | 183 => 242 | 182 => 241 | 131 => 230 | 5 => 5 | 9 => 9 | 218 => 252 | 222 => 256 | 228 => 258 | 229 => 259 | n => n, fun | n => n⟩
theorem Try.lays189 : Go.Proofs.Lays.n189 Try.prog Try.lays189_ren := {
  mixed := by kernel_rfl
  f125 := Try.func150.trans (congrArg some (by kernel_rfl))
  f128 := Try.func174.trans (congrArg some (by kernel_rfl))
  f129 := Try.func175.trans (congrArg some (by kernel_rfl))
  f189 := Try.func119.trans (congrArg some (by kernel_rfl))
  f215 := Try.func186.trans (congrArg some (by kernel_rfl))
  f216 := Try.func171.trans (congrArg some (by kernel_rfl))
  f257 := Try.func149.trans (congrArg some (by kernel_rfl))
  f294 := Try.func165.trans (congrArg some (by kernel_rfl))
  f295 := Try.func166.trans (congrArg some (by kernel_rfl))
  f296 := Try.func167.trans (congrArg some (by kernel_rfl))
  f297 := Try.func168.trans (congrArg some (by kernel_rfl))
  f298 := Try.func169.trans (congrArg some (by kernel_rfl))
  f299 := Try.func170.trans (congrArg some (by kernel_rfl))
  f300 := Try.func172.trans (congrArg some (by kernel_rfl))
  f301 := Try.func173.trans (congrArg some (by kernel_rfl))
  f328 := Try.func181.trans (congrArg some (by kernel_rfl))
  f329 := Try.func182.trans (congrArg some (by kernel_rfl))
  f330 := Try.func183.trans (congrArg some (by kernel_rfl))
  f331 := Try.func184.trans (congrArg some (by kernel_rfl))
  f332 := Try.func185.trans (congrArg some (by kernel_rfl))
  f343 := Try.func190.trans (congrArg some (by kernel_rfl))
  t0 := Try.underlying0
  a0 := Try.isAgg0
  z0 := Try.sizeOf0
  v0 := Try.zeroValue0
  t3 := Try.underlying3
  a3 := Try.isAgg3
  z3 := Try.sizeOf3
  v3 := Try.zeroValue3
  t4 := Try.underlying4
  a4 := Try.isAgg4
  z4 := Try.sizeOf4
  v4 := Try.zeroValue4
  t5 := Try.underlying5
  a5 := Try.isAgg5
  z5 := Try.sizeOf5
  v5 := Try.zeroValue5
  t9 := Try.underlying9
  a9 := Try.isAgg9
  z9 := Try.sizeOf9
  v9 := Try.zeroValue9
  t28 := Try.underlying40
  a28 := Try.isAgg40
  z28 := Try.sizeOf40
  v28 := Try.zeroValue40
  t46 := Try.underlying159
  a46 := Try.isAgg159
  z46 := Try.sizeOf159
  v46 := Try.zeroValue159
  t51 := Try.underlying248
  a51 := Try.isAgg248
  z51 := Try.sizeOf248
  v51 := Try.zeroValue248
  t53 := Try.underlying250
  a53 := Try.isAgg250
  z53 := Try.sizeOf250
  v53 := Try.zeroValue250
  t131 := Try.underlying230
  a131 := Try.isAgg230
  z131 := Try.sizeOf230
  v131 := Try.zeroValue230
  t182 := Try.underlying241
  a182 := Try.isAgg241
  z182 := Try.sizeOf241
  v182 := Try.zeroValue241
  t183 := Try.underlying242
  a183 := Try.isAgg242
  z183 := Try.sizeOf242
  v183 := Try.zeroValue242
  t218 := Try.underlying252
  a218 := Try.isAgg252
  z218 := Try.sizeOf252
  v218 := Try.zeroValue252
  t222 := Try.underlying256
  a222 := Try.isAgg256
  z222 := Try.sizeOf256
  v222 := Try.zeroValue256
  t228 := Try.underlying258
  a228 := Try.isAgg258
  z228 := Try.sizeOf258
  v228 := Try.zeroValue258
  t229 := Try.underlying259
  a229 := Try.isAgg259
  z229 := Try.sizeOf259
  v229 := Try.zeroValue259 }
open Go.Sort Go.RowKit in
theorem Try.slices_Sort_int (blk off cap : Nat) (zs : List Int) (w : World) (hH : Holds (Value.int .i64) w blk off zs.toArray) (hblk : blk < w.heap.size) (hsz : zs.length < 4611686018427387904) :
    Calls Try.prog 119 #[.slice (some ⟨blk, off, none⟩) zs.length cap] w fun e w' =>
      e = .returned (.tuple #[]) ∧ ∃ n os, w' = grow (putRow (Value.int .i64) (Sort.ahead w n) blk off (zs.mergeSort fun x y => decide (x ≤ y)).toArray) os := Any.slices_Sort_int Try.lays189 blk off cap zs w hH hblk hsz
end Go.Proofs

namespace Go.Proofs.Ytinphcnknionmaa
open Go.RowKit Go.Sort

theorem intsC_map (l : List Nat) : intsC l = (l.map fun x : Nat => (x : Int)).map (Value.int .i64) := by simp [intsC]

theorem sorted_is (l T : List Nat) (hp : T.Perm l) (hs : T.Pairwise (· < ·)) : ((l.map fun x : Nat => (x : Int)).mergeSort fun x y => decide (x ≤ y)) = T.map fun x : Nat => (x : Int) := by
  refine List.Perm.eq_of_pairwise (le := fun a b : Int => decide (a ≤ b) = true) (fun a b _ _ h1 h2 => ?_) (List.pairwise_mergeSort (fun a b c h1 h2 => ?_) (fun a b => ?_) _) ?_ ((List.mergeSort_perm _ _).trans (hp.symm.map _))
  · simp only [decide_eq_true_eq] at h1 h2; omega
  · simp only [decide_eq_true_eq] at h1 h2 ⊢; omega
  · simp only [Bool.or_eq_true, decide_eq_true_eq]; omega
  · refine List.pairwise_map.2 (hs.imp ?_)
    intro a b hab
    simp only [decide_eq_true_eq]; omega

theorem Sort_row (w : World) (base : Nat) (v : Value) (l T : List Nat) (k : Nat) (hk : l.length = k + 1) (hsm : l.length ≤ 100000) (ho : w.ownsRow base 3 1 v l.length (intsC l)) (hp : T.Perm l) (hs : T.Pairwise (· < ·)) :
    Calls Try.prog 119 #[v] w fun e w' => e = .returned (.tuple #[]) ∧ w'.ownsRow base 3 1 v T.length (intsC T) ∧ w.grownBy w' v.ownBlock := by
  have hlen : T.length = l.length := hp.length_eq
  rcases ho.2 with ⟨_, h0⟩ | ⟨g, cap, cur, rfl, hb, hg, h1, h2, h3, h4⟩
  · omega
  · rw [intsC_map, Nat.mul_one] at h4
    have hH : Holds (Value.int .i64) w g 0 (l.map fun x : Nat => (x : Int)).toArray := holds_of_blockI hg (by rw [List.length_map]; exact h4)
    have hc := Try.slices_Sort_int g 0 cap (l.map fun x : Nat => (x : Int)) w hH (Array.getElem?_eq_some_iff.1 hg).1 (by rw [List.length_map]; omega)
    rw [sorted_is l T hp hs, List.length_map] at hc
    refine hc.mono ?_
    rintro e w' ⟨he, n, os, rfl⟩
    refine ⟨he, ?_, grownBy_sortedI _⟩
    rw [intsC_map, hlen]
    have := ownsRow_sortedI (n := n) (os := os) (ss := l.map fun x : Nat => (x : Int)) (ts := T.map fun x : Nat => (x : Int)) (by simp [hlen]) hb hg (by simpa using h1) h2 h3
    simpa using this

/-- The numbers of a class, rising. -/
def classL (n : Nat) (g : Uf.G) (a : Int) : List Nat := if inB n a then (List.range n).filter fun i => decide (g.rt i = g.rt a.toNat) else []

theorem class_perm {n : Nat} {g : Uf.G} {i : Nat} {l : List Nat} (hi : i < n) (hd : (i :: l).Nodup) (hm : ∀ j, j ∈ i :: l ↔ j < n ∧ g.rt j = g.rt i) : (classL n g (i : Int)).Perm (i :: l) := by
  unfold classL
  rw [if_pos (inB_nat hi), Int.toNat_natCast]
  refine (List.perm_ext_iff_of_nodup (List.nodup_range.filter _) hd).2 fun j => ?_
  rw [hm, List.mem_filter, List.mem_range, decide_eq_true_eq]

theorem class_rising (n : Nat) (g : Uf.G) (a : Int) : (classL n g a).Pairwise (· < ·) := by
  unfold classL
  split
  · exact List.pairwise_lt_range.filter _
  · exact List.Pairwise.nil

theorem class_length (n : Nat) (g : Uf.G) (a : Int) : (classL n g a).length ≤ n := by
  unfold classL
  split
  · have := List.length_filter_le (fun i => decide (g.rt i = g.rt a.toNat)) (List.range n)
    simpa using this
  · simp

theorem infoInt : (Try.prog.info? 3).map (fun i => (i.zero, i.size, i.bytes)) = some (some (.int .i64 0), 1, 8) := by kernel_rfl

/-- Where the walk round a ring stands: d has been met, x comes next. -/
def Round (N : Nat → Uf.Nd) (i : Nat) (l d : List Nat) (x : Nat) : Prop := (x = i ∧ d = l) ∨ ∃ r, l = d ++ x :: r ∧ Uf.Path N x i r

theorem round_start {N : Nat → Uf.Nd} {i : Nat} {l : List Nat} (h : Uf.Path N i i l) : Round N i l [] (N i).nxt := by
  cases l with
  | nil => exact Or.inl ⟨h, rfl⟩
  | cons y r => exact Or.inr ⟨r, by rw [h.1]; rfl, by rw [h.1]; exact h.2⟩

theorem round_next {N : Nat → Uf.Nd} {i x : Nat} {l d r : List Nat} (e : l = d ++ x :: r) (h : Uf.Path N x i r) : Round N i l (d ++ [x]) (N x).nxt := by
  cases r with
  | nil => exact Or.inl ⟨h, by rw [e]⟩
  | cons y r => exact Or.inr ⟨r, by rw [h.1, e]; simp, by rw [h.1]; exact h.2⟩

theorem intsC_snoc (l : List Nat) (x : Nat) : intsC (l ++ [x]) = intsC l ++ [.int .i64 (x : Int)] := by simp [intsC]

set_option maxRecDepth 100000 in
set_option maxHeartbeats 2000000 in
theorem Class_in (w : World) (base p nb : Nat) (jv : Value) (n : Nat) (s : GT) (h : St w base p nb jv n s.1 s.2) (hn60 : n ≤ 60) (a : Int) :
    Calls Try.prog 84 #[.pointer (some ⟨p, 0, none⟩), .int .i64 a] w fun e w' => ∃ v, e = .returned v ∧ Below w.heap.size w w' ∧ w'.ownsRow w.heap.size 3 1 v (classL n s.1 a).length (intsC (classL n s.1 a)) := by
  have HAS := has_in w base p nb n s.1 jv _ h.lies a
  cases hb : inB n a
  · have hcl : classL n s.1 a = [] := by unfold classL; rw [hb]; rfl
    rw [hcl]
    rw [hb] at HAS
    clear h
    go_enter Try.func84, Try.ntmps84
    go_wp2_with fail
    refine HAS.mono ?_
    rintro e w' ⟨rfl, rfl⟩
    go_wp2
    go_ret
    exact ⟨_, rfl, Below.refl _ _, World.ownsRow_nil _ _ _ _⟩
  · rw [hb] at HAS
    obtain ⟨b1, b2⟩ := inB_true hb
    obtain ⟨i, rfl⟩ := Int.eq_ofNat_of_zero_le b1
    have hi : i < n := by omega
    have hok := h.ok
    obtain ⟨l, hpath, hnd, hmem⟩ := Uf.ring_any hok (Uf.rings_hist n s.2 s.1 h.hist) i hi
    have hperm := class_perm hi hnd hmem
    have hris := class_rising n s.1 (i : Int)
    have hclen := class_length n s.1 (i : Int)
    have hll : (classL n s.1 (i : Int)).length = l.length + 1 := by rw [hperm.length_eq]; rfl
    have hrt := hok.rtlt i hi
    have ROOT := fun m => root_in (w.drewN m) base p nb n s.1 jv _ h.lies.drewN _ hok i hi
    have c0 := h.lies.c0
    have cs := h.lies.siz hrt
    have hsz : (s.1.N (s.1.rt i)).siz ≤ n := by
      rw [hok.siz _ hrt (hok.rtrt i hi)]; exact Uf.cnt_le _ _
    obtain ⟨i0, hi0, hz0, hz1, hz2⟩ := info_parts infoInt
    have MK : ∀ (W : World) (k : Nat), k ≤ 60 → ∃ C : Array Value, C.size = k ∧ (Instr.makeSlice 40 (.int .i64 0) (.int .i64 (k : Int))).run Try.prog W = .ok (.slice (some ⟨W.heap.size, 0, none⟩) 0 k) (W.alloc (.cells C 3)) := by
      intro W k hk
      have hmk := run_make (P := Try.prog) W 40 3 i0 _ Try.underlying40 hi0 hz0 .i64 .i64 (0 : Int) (k : Int) (by omega) (by omega) (by rw [hz2]; omega) (by omega)
      simp only [Int.toNat_natCast, Int.toNat_zero] at hmk
      exact ⟨_, by rw [size_madeCells, hz1, Nat.mul_one], hmk⟩
    generalize hsg : (s.1.N (s.1.rt i)).siz = sz at *
    have MK' : ∃ C : Array Value, C.size = sz ∧ ∀ W : World, (Instr.makeSlice 40 (.int .i64 0) (.int .i64 (sz : Int))).run Try.prog W = .ok (.slice (some ⟨W.heap.size, 0, none⟩) 0 sz) (W.alloc (.cells C 3)) := by
      refine ⟨madeCells (Value.int .i64 0).cells (sz * 1), by rw [size_madeCells, Nat.mul_one], fun W => ?_⟩
      have hmk := run_make (P := Try.prog) W 40 3 i0 _ Try.underlying40 hi0 hz0 .i64 .i64 (0 : Int) (sz : Int) (by omega) (by omega) (by rw [hz2]; omega) (by omega)
      simp only [Int.toNat_natCast, Int.toNat_zero, hz1] at hmk
      exact hmk
    obtain ⟨C, hC, hmk⟩ := MK'
    clear MK
    have HC : Hid (C.size = sz) := hC
    clear hC
    have hne := h.lies.ne
    have plt := h.lies.sets.lt
    have nlt := h.lies.nodes.lt
    go_enter Try.func84, Try.ntmps84
    go_wp2_with fail
    refine HAS.mono ?_
    rintro e w' ⟨rfl, rfl⟩
    clear HAS
    go_upto_region 3 with fail
    go_cut [5] from 11 to 21 (fun v wx => wx.ownsRow w.heap.size 3 1 v 0 [] ∧ Below w.heap.size w wx)
    case first =>
      go_region_with (go_at_call 76; refine (ROOT _).mono ?_; rintro e w3 ⟨rfl, rfl⟩)
      all_goals
        go_wp2_with fail
        go_meet
        case rel => exact ⟨World.ownsRow_made (w.drewN _) C sz (Nat.le_refl _) (by unfold maxLen; omega) (by rw [HC.out, Nat.mul_one]), (below_drewN (Below.refl _ w) _).alloc (Nat.le_refl _) _⟩
    case rest =>
      obtain ⟨hv, hbw⟩ := hcut
      have ci : ∀ W, Below w.heap.size w W → ∀ x, x < n → W.cell? ⟨nb, x * 4 + 1, none⟩ = some (.int .i64 ((s.1.N x).nxt : Int)) := fun W hB x hx => (hB.cell (p := ⟨nb, x * 4 + 1, none⟩) nlt).trans (h.lies.nxt hx)
      have cp : ∀ W, Below w.heap.size w W → W.cell? ⟨p, 0, none⟩ = some (.slice (some ⟨nb, 0, none⟩) n n) := fun W hB => (hB.cell (p := ⟨p, 0, none⟩) plt).trans c0
      have Hci : Hid (∀ W, Below w.heap.size w W → ∀ x, x < n → W.cell? ⟨nb, x * 4 + 1, none⟩ = some (.int .i64 ((s.1.N x).nxt : Int))) := ci
      have Hcp : Hid (∀ W, Below w.heap.size w W → W.cell? ⟨p, 0, none⟩ = some (.slice (some ⟨nb, 0, none⟩) n n)) := cp
      clear ci cp ROOT hmk HC c0 cs hsg hsz
      go_wp2_with (at_builtin; refine wpList_append_own _ rfl _ _ 40 rfl w.heap.size 3 i0 _ 1 8 Try.underlying40 hi0 hz0 hz1 hz2 rfl (by decide) _ _ _ rfl (hv.alloc _) ⟨wc.heap.size, 0, none⟩ 1 1 [.int .i64 (i : Int)] rfl rfl (cell_one_new _ _ _) (by simp [Value.oneCell']) (by unfold maxLen; omega) (by omega) (by have := hbw.size; simp; omega) ?_; intro v' w1 hown' hgrow _; have d0 := Hcp.out _ ((hbw.alloc hbw.size _).grown hgrow (by have := hbw.size; simp; omega) (fun k hk => (hv.lt k hk).1)); have d1 := Hci.out _ ((hbw.alloc hbw.size _).grown hgrow (by have := hbw.size; simp; omega) (fun k hk => (hv.lt k hk).1)) i hi)
      have hB1 : Below w.heap.size w w1 := (hbw.alloc hbw.size _).grown hgrow (by have := hbw.size; simp; omega) (fun k hk => (hv.lt k hk).1)
      clear hgrow hbw hv d0 d1
      have hR0 := round_start hpath
      have HM : Hid ((i :: l).Nodup ∧ (∀ j, j ∈ i :: l ↔ j < n ∧ s.1.rt j = s.1.rt i) ∧ (classL n s.1 (i : Int)).Perm (i :: l) ∧ List.Pairwise (· < ·) (classL n s.1 (i : Int)) ∧ (classL n s.1 (i : Int)).length = l.length + 1) := ⟨hnd, hmem, hperm, hris, hll⟩
      have hl59 : l.length + 1 ≤ n := by omega
      clear hnd hmem hperm hris hll hpath hclen
      go_loopg [5, 6] l.length (fun k v t W => ∃ (d : List Nat) (x : Nat), k + d.length = l.length ∧ t = .int .i64 (x : Int) ∧ Hid (Round s.1.N i l d x) ∧ W.ownsRow w.heap.size 3 1 v (d.length + 1) (intsC (i :: d)) ∧ Hid (Below w.heap.size w W))
      case atStart => exact ⟨[], _, rfl, rfl, hR0, hown', hB1⟩
      case round =>
        clear hown' hB1 hR0
        obtain ⟨d, x, hkd, rfl, hR, hown, hB⟩ := hrel
        rcases hR.out with ⟨hxi, hdl⟩ | ⟨r, hl, hp⟩
        · subst hxi hdl
          clear hR
          have e1 : Hid (Below w.heap.size w wr) := hB
          have hS := Sort_row wr w.heap.size _ (x :: d) (classL n s.1 (x : Int)) d.length rfl (by simp; omega) hown HM.out.2.2.1 HM.out.2.2.2.1
          have hvb : ∀ k, Value.ownBlock _ = some k → w.heap.size ≤ k := fun k hk => (hown.lt k hk).1
          have HV : Hid _ := hvb
          clear hvb hown
          go_wp2_with fail
          refine hS.mono ?_
          rintro e w5 ⟨rfl, ho5, hg5⟩
          go_wp2
          go_ret
          exact ⟨_, rfl, hB.out.grown hg5 hB.out.size (fun k hk => HV.out k hk), ho5⟩
        · have hxm : x ∈ i :: l := by rw [hl]; simp
          have hxn : x < n := ((HM.out.2.1 x).1 hxm).1
          have hxi : x ≠ i := by
            rintro rfl
            have := HM.out.1
            rw [hl] at this
            simp at this
          have hne2 : ((x : Int) != (i : Int)) = true := by rw [bne_iff_ne]; omega
          have hdl : d.length + 1 ≤ l.length := by rw [hl]; simp
          have HR : Hid (Round s.1.N i l (d ++ [x]) (s.1.N x).nxt) := round_next hl hp
          have hlt := hown.lt
          have HLT : Hid (∀ k, Value.ownBlock _ = some k → w.heap.size ≤ k) := fun k hk => (hlt k hk).1
          clear hlt hl hp hxm hxi hR
          go_wp2_with (at_builtin; refine wpList_append_own _ rfl _ _ 40 rfl w.heap.size 3 i0 _ 1 8 Try.underlying40 hi0 hz0 hz1 hz2 rfl (by decide) _ _ _ rfl (hown.alloc _) ⟨wr.heap.size, 0, none⟩ 1 1 [.int .i64 (x : Int)] rfl rfl (cell_one_new _ _ _) (by simp [Value.oneCell']) (by unfold maxLen; omega) (by omega) (by have := hB.out.size; simp; omega) ?_; intro v' w5 hown5 hgrow5 _; have hB5 := (hB.out.alloc hB.out.size _).grown hgrow5 (by have := hB.out.size; simp; omega) (fun k hk => HLT.out k hk); have d0 := Hcp.out _ hB5; have d1 := Hci.out _ hB5 x hxn)
          go_roundg (gk - 1)
          case measure => omega
          case rel => exact ⟨d ++ [x], _, by simp; omega, rfl, HR.out, by rw [List.length_append]; rw [show i :: (d ++ [x]) = (i :: d) ++ [x] from rfl, intsC_snoc]; exact hown5, hB5⟩

end Go.Proofs.Ytinphcnknionmaa

namespace Go.Proofs.Ytinphcnknionmaa
open Go.RowKit

theorem los_g0 (n : Nat) : Uf.los n Uf.g0 = List.range n := by
  unfold Uf.los
  conv => rhs; rw [← List.map_id (List.range n)]
  rfl

theorem range_snoc (k : Nat) : intsC (List.range (k + 1)) = intsC (List.range k) ++ [.int .i64 (k : Int)] := by rw [List.range_succ, intsC_snoc]

theorem rNew_fin {w wr : World} {k : Nat} {v : Value} (hB : Below w.heap.size w wr) (ho : wr.ownsRow w.heap.size 3 1 v k (intsC (List.range k))) (hk : k ≤ 150) :
    RefS ((wr.alloc (.cells #[v] 40)).alloc (.cells #[.int .i64 (k : Int), .slice (some ⟨wr.heap.size, 0, none⟩) 1 1] 133)) w.heap.size (wr.heap.size + 1) k (.slice (some ⟨wr.heap.size, 0, none⟩) 1 1) (Uf.g0, []) ∧
      Below w.heap.size w ((wr.alloc (.cells #[v] 40)).alloc (.cells #[.int .i64 (k : Int), .slice (some ⟨wr.heap.size, 0, none⟩) 1 1] 133)) := by
  have hs := hB.size
  refine ⟨⟨?_, by omega, ⟨[v], rfl, ?_, ?_⟩, hk⟩, (hB.alloc hs _).alloc (by simp; omega) _⟩
  · have := box_row (wr.alloc (.cells #[v] 40)) (.int .i64 (k : Int)) (.slice (some ⟨wr.heap.size, 0, none⟩) 1 1) 133
    rw [World.size_alloc] at this
    exact this
  · exact (World.ownsRow_lit wr #[v] 1 hs (by unfold maxLen; omega) rfl).alloc _
  · intro j l hj
    match j, hj with
    | 0, hj =>
      simp only [Uf.logOf, List.getElem?_cons_zero, Option.some.injEq] at hj
      subst hj
      refine ⟨v, rfl, ?_⟩
      rw [los_g0, List.length_range]
      exact (ho.alloc _).alloc _
    | j + 1, hj => simp [Uf.logOf] at hj

set_option maxRecDepth 100000 in
set_option maxHeartbeats 1000000 in
theorem rNew_in (w : World) (n : Nat) (hn : n ≤ 150) :
    Calls Try.prog 28 #[.int .i64 n] w fun e w' => ∃ rp lv, e = .returned (.pointer (some ⟨rp, 0, none⟩)) ∧ RefS w' w.heap.size rp n lv (Uf.g0, []) ∧ Below w.heap.size w w' := by
  obtain ⟨i0, hi0, hz0, hz1, hz2⟩ := info_parts infoInt
  go_enter Try.func28, Try.ntmps28
  go_wp2_with fail
  go_loopw [3, 4] (fun v t W => ∃ k : Nat, k ≤ n ∧ t = .int .i64 k ∧ W.ownsRow w.heap.size 3 1 v k (intsC (List.range k)) ∧ Hid (Below w.heap.size w W)) (fun _ t _ => n - (intOf t).toNat)
  case atStart => exact ⟨0, Nat.zero_le _, rfl, World.ownsRow_nil _ _ _ _, Below.refl _ _⟩
  case round =>
    obtain ⟨k, hk, rfl, hown, hB⟩ := hrel
    by_cases hlt : k < n
    · have hl := hown.lt
      have HLT : Hid (∀ k, Value.ownBlock _ = some k → w.heap.size ≤ k) := fun k hk => (hl k hk).1
      clear hl
      go_wp2_with (at_builtin; refine wpList_append_own _ rfl _ _ 40 rfl w.heap.size 3 i0 _ 1 8 Try.underlying40 hi0 hz0 hz1 hz2 rfl (by decide) _ _ _ rfl (hown.alloc _) ⟨wr.heap.size, 0, none⟩ 1 1 [.int .i64 (k : Int)] rfl rfl (cell_one_new _ _ _) (by simp [Value.oneCell']) (by unfold maxLen; omega) (by omega) (by have := hB.out.size; simp; omega) ?_; intro v' w5 hown5 hgrow5 _; have hB5 : Hid (Below w.heap.size w w5) := (hB.out.alloc hB.out.size _).grown hgrow5 (by have := hB.out.size; simp; omega) (fun k hk => HLT.out k hk))
      go_roundw
      case rel => exact ⟨k + 1, by omega, by go_num, by rw [range_snoc]; exact hown5, hB5⟩
      case measure => simp [intOf]; omega
    · obtain rfl : k = n := by omega
      obtain ⟨av, lv2, cv, hvf⟩ : ∃ a l c, _ = Value.slice a l c := by
        rcases hown.2 with ⟨e, _⟩ | ⟨b, cap, cur, e, _⟩
        · exact ⟨_, _, _, e⟩
        · exact ⟨_, _, _, e⟩
      subst hvf
      have HO : Hid (wr.ownsRow w.heap.size 3 1 (.slice av lv2 cv) k (intsC (List.range k))) := hown
      clear hown
      have fin := rNew_fin (w := w) hB.out HO.out hn
      have HF : Hid (_ ∧ _) := fin
      clear fin HO
      go_wp2
      go_ret
      exact ⟨wr.heap.size + 1, .slice (some ⟨wr.heap.size, 0, none⟩) 1 1, rfl, HF.out.1, HF.out.2⟩

end Go.Proofs.Ytinphcnknionmaa
