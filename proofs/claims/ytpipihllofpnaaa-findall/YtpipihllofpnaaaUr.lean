/- The plain mathematics of package find, more: rings; the list of least numbers, a row a join. -/
import Derived.Test.YtpipihllofpnaaaUf
namespace Go.Proofs.Ytpipihllofpnaaa.Uf

/-- From a by what is next through l to b. -/
def Path (N : Nat → Nd) : Nat → Nat → List Nat → Prop
  | a, b, [] => (N a).nxt = b
  | a, b, x :: l => (N a).nxt = x ∧ Path N x b l

theorem path_append (N : Nat → Nd) : ∀ (l1 : List Nat) (a x b : Nat) (l2 : List Nat), Path N a b (l1 ++ x :: l2) ↔ Path N a x l1 ∧ Path N x b l2
  | [], a, x, b, l2 => Iff.rfl
  | y :: l1, a, x, b, l2 => by
    simp only [List.cons_append, Path, path_append N l1 y x b l2, and_assoc]

theorem path_congr (N N' : Nat → Nd) : ∀ (l : List Nat) (a b : Nat), (N' a).nxt = (N a).nxt → (∀ x ∈ l, (N' x).nxt = (N x).nxt) → Path N a b l → Path N' a b l
  | [], a, b, h, _, p => by simp only [Path] at p ⊢; rw [h]; exact p
  | x :: l, a, b, h, hl, p => ⟨by rw [h]; exact p.1, path_congr N N' l x b (hl x (by simp)) (fun y hy => hl y (by simp [hy])) p.2⟩

/-- Path from a node whose next is another's: the first step alone is turned. -/
theorem path_first (N N' : Nat → Nd) (l : List Nat) (a a' b : Nat) (h : (N' a').nxt = (N a).nxt) (hl : ∀ x ∈ l, (N' x).nxt = (N x).nxt) (p : Path N a b l) : Path N' a' b l := by
  cases l with
  | nil => simp only [Path] at p ⊢; rw [h]; exact p
  | cons x l => exact ⟨by rw [h]; exact p.1, path_congr N N' l x b (hl x (by simp)) (fun y hy => hl y (by simp [hy])) p.2⟩

/-- The ring through r: all numbers of its class, each once. -/
def RingAt (n : Nat) (g : G) (r : Nat) : Prop := ∃ l, Path g.N r r l ∧ (r :: l).Nodup ∧ ∀ i, i ∈ r :: l ↔ i < n ∧ g.rt i = g.rt r

def Rings (n : Nat) (g : G) : Prop := ∀ r, r < n → g.rt r = r → RingAt n g r

theorem rings_g0 (n : Nat) : Rings n g0 := by
  intro r hr _
  refine ⟨[], rfl, by simp, fun i => ?_⟩
  simp only [List.mem_singleton, g0]
  constructor
  · rintro rfl; exact ⟨hr, rfl⟩
  · exact fun h => h.2

theorem Rings.hang {n : Nat} {g : G} (h : Rings n g) (c r : Nat) (hc : c < n) (hr : r < n) (hne : c ≠ r) (cc : g.rt c = c) (rr : g.rt r = r) : Rings n (hang g c r) := by
  obtain ⟨l1, p1, d1, m1⟩ := h c hc cc
  obtain ⟨l2, p2, d2, m2⟩ := h r hr rr
  rw [cc] at m1
  rw [rr] at m2
  have n1 : (r ∉ c :: l1) := fun e => by have := (m1 r).1 e; rw [rr] at this; exact hne this.2.symm
  have n2 : (c ∉ r :: l2) := fun e => by have := (m2 c).1 e; rw [cc] at this; exact hne this.2
  have dj : ∀ x, x ∈ c :: l1 → x ∈ r :: l2 → False := fun x e1 e2 => hne (((m1 x).1 e1).2.symm.trans ((m2 x).1 e2).2)
  have nc : ((Uf.hang g c r).N c).nxt = (g.N r).nxt := by simp [Uf.hang]
  have nr : ((Uf.hang g c r).N r).nxt = (g.N c).nxt := by simp [Uf.hang, Ne.symm hne]
  have no : ∀ x, x ≠ c → x ≠ r → ((Uf.hang g c r).N x) = g.N x := fun x e1 e2 => by simp [Uf.hang, e1, e2]
  intro q hq hqq
  by_cases hqr : q = r
  · subst hqr
    refine ⟨l1 ++ c :: l2, ?_, ?_, ?_⟩
    · rw [path_append]
      constructor
      · exact path_first g.N _ l1 c q c nr (fun x hx => by
          rw [no x (fun e => by rw [e] at hx; simp [hx] at d1) (fun e => n1 (by rw [← e]; simp [hx]))]) p1
      · exact path_first g.N _ l2 q c q nc (fun x hx => by
          rw [no x (fun e => n2 (by rw [← e]; simp [hx])) (fun e => by rw [e] at hx; simp [hx] at d2)]) p2
    · have hp : (q :: (l1 ++ c :: l2)).Perm ((c :: l1) ++ (q :: l2)) := by
        have h1 : (l1 ++ c :: l2).Perm (c :: (l1 ++ l2)) := List.perm_middle
        have h2 : ((c :: l1) ++ (q :: l2)).Perm (q :: ((c :: l1) ++ l2)) := List.perm_middle
        exact (List.Perm.cons q h1).trans h2.symm
      rw [hp.nodup_iff, List.nodup_append]
      exact ⟨d1, d2, fun a ha b hb e => dj a ha (by rw [e]; exact hb)⟩
    · intro i
      have e0 : (Uf.hang g c q).rt q = q := by simp [Uf.hang, rr, Ne.symm hne]
      rw [e0]
      have hmem : i ∈ q :: (l1 ++ c :: l2) ↔ i ∈ c :: l1 ∨ i ∈ q :: l2 := by
        simp only [List.mem_cons, List.mem_append]
        constructor
        · rintro (a | a | a | a) <;> simp [a]
        · rintro ((a | a) | (a | a)) <;> simp [a]
      rw [hmem, m1, m2]
      simp only [Uf.hang]
      constructor
      · rintro (⟨a, b⟩ | ⟨a, b⟩)
        · exact ⟨a, by simp [b]⟩
        · exact ⟨a, by simp [b, Ne.symm hne]⟩
      · rintro ⟨a, b⟩
        by_cases e : g.rt i = c
        · exact Or.inl ⟨a, e⟩
        · exact Or.inr ⟨a, by simpa [e] using b⟩
  · have hqc : q ≠ c := by
      rintro rfl
      simp [Uf.hang, cc] at hqq
      exact hne hqq.symm
    have hq0 : g.rt q = q := by
      simp only [Uf.hang] at hqq
      by_cases e : g.rt q = c
      · simp [e] at hqq; exact absurd hqq.symm hqr
      · simpa [e] using hqq
    obtain ⟨l, p, d, m⟩ := h q hq hq0
    rw [hq0] at m
    refine ⟨l, ?_, d, ?_⟩
    · refine path_congr g.N _ l q q ?_ ?_ p
      · rw [no q hqc hqr]
      · intro x hx
        have := (m x).1 (by simp [hx])
        rw [no x (fun e => hqc (by rw [← this.2, e, cc])) (fun e => hqr (by rw [← this.2, e, rr]))]
    · intro i
      have e0 : (Uf.hang g c r).rt q = q := hqq
      rw [e0, m]
      simp only [Uf.hang]
      constructor
      · rintro ⟨a, b⟩
        exact ⟨a, by simp [b, hqc]⟩
      · rintro ⟨a, b⟩
        by_cases e : g.rt i = c
        · simp [e] at b; exact absurd b.symm hqr
        · exact ⟨a, by simpa [e] using b⟩

theorem rings_hist (n : Nat) : ∀ (t : List Rec) (g : G), Hist n g t → Rings n g
  | [], g, h => by cases h; exact rings_g0 n
  | x :: t, g, h => by
    obtain ⟨r, hr, hc, hne, cc, rr, _, rfl, ht⟩ := h
    exact Rings.hang (rings_hist n t x.was ht) _ _ hc hr hne cc rr

/-- The ring through whatever number. -/
theorem ring_any {n : Nat} {g : G} {k : Nat} (hok : Ok n g k) (h : Rings n g) (a : Nat) (ha : a < n) : RingAt n g a := by
  obtain ⟨l, p, d, m⟩ := h (g.rt a) (hok.rtlt a ha) (hok.rtrt a ha)
  rw [hok.rtrt a ha] at m
  have hmem : a ∈ g.rt a :: l := (m a).2 ⟨ha, rfl⟩
  by_cases e : a = g.rt a
  · rw [e, RingAt]
    refine ⟨l, p, d, fun i => ?_⟩
    rw [m, hok.rtrt a ha]
  · have hal : a ∈ l := by
      rcases List.mem_cons.1 hmem with h | h
      · exact absurd h e
      · exact h
    obtain ⟨l1, l2, rfl⟩ := List.append_of_mem hal
    rw [path_append] at p
    refine ⟨l2 ++ g.rt a :: l1, (path_append _ _ _ _ _ _).2 ⟨p.2, p.1⟩, ?_, ?_⟩
    · have hp : (a :: (l2 ++ g.rt a :: l1)).Perm (g.rt a :: (l1 ++ a :: l2)) := by
        have h1 : (l2 ++ g.rt a :: l1).Perm (g.rt a :: l1 ++ l2) := (List.perm_append_comm)
        have h2 : (l1 ++ a :: l2).Perm (a :: (l1 ++ l2)) := List.perm_middle
        exact ((List.Perm.cons a h1).trans (List.Perm.swap _ _ _)).trans (List.Perm.cons _ h2.symm)
      rw [hp.nodup_iff]; exact d
    · intro i
      rw [← m]
      simp only [List.mem_cons, List.mem_append]
      constructor
      · rintro (a | a | a | a) <;> simp [a]
      · rintro (a | a | a | a) <;> simp [a]

/-- Each number's least one. -/
def los (n : Nat) (g : G) : List Nat := (List.range n).map g.lo

def logOf (n : Nat) : G → List Rec → List (List Nat)
  | g, [] => [los n g]
  | g, x :: t => logOf n x.was t ++ [los n g]

theorem logOf_length (n : Nat) : ∀ (t : List Rec) (g : G), (logOf n g t).length = t.length + 1
  | [], _ => rfl
  | x :: t, g => by simp [logOf, logOf_length n t x.was]

theorem logOf_last (n : Nat) (t : List Rec) (g : G) : (logOf n g t)[t.length]? = some (los n g) := by
  cases t with
  | nil => rfl
  | cons x t => simp [logOf, logOf_length]

theorem logOf_back (n : Nat) : ∀ (k : Nat) (t : List Rec) (g : G), k ≤ t.length → logOf n (back g t k) (t.drop k) = (logOf n g t).take (t.length - k + 1)
  | 0, t, g, _ => by
    rw [List.take_of_length_le (by rw [logOf_length]; omega)]
    cases t <;> rfl
  | k + 1, [], g, h => by simp at h
  | k + 1, x :: t, g, h => by
    have h' : k ≤ t.length := by simpa using h
    simp only [back, List.drop_succ_cons, logOf, List.length_cons]
    rw [logOf_back n k t x.was h', List.take_append_of_le_length (by rw [logOf_length]; omega)]
    congr 1
    omega

end Go.Proofs.Ytpipihllofpnaaa.Uf
