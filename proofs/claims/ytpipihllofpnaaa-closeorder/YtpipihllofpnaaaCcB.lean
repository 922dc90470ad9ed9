/- The plain mathematics of package close: the first uses. No Go here. -/
import Derived.Test.YtpipihllofpnaaaCc
namespace Go.Proofs.Ytpipihllofpnaaa.Cc

/-- Which terms use which, one after the other. -/
def evn (t : Tm) (n : Nat) : List (Nat × Nat) := t.args.map (fun a => (a, n))
def evs : List Tm → Nat → List (Nat × Nat)
  | [], _ => []
  | t :: l, n => evn t n ++ evs l (n + 1)
def usf (d : List (Nat × Nat)) (i : Nat) : List Nat := (d.filter (fun x => x.1 == i)).map (fun x => x.2)
def cna (d : List (Nat × Nat)) (i : Nat) : Nat := (usf d i).length

theorem evs_app (l m : List Tm) (n : Nat) : evs (l ++ m) n = evs l n ++ evs m (n + l.length) := by
  induction l generalizing n with
  | nil => simp [evs]
  | cons t l ih =>
    have e : n + 1 + l.length = n + (l.length + 1) := by omega
    simp [evs, ih, e]
theorem evs_take {l : List Tm} {n : Nat} {t : Tm} (ht : l[n]? = some t) : evs (l.take (n + 1)) 0 = evs (l.take n) 0 ++ evn t n := by
  have hn := (List.getElem?_eq_some_iff.1 ht).1
  have h1 : l.take (n + 1) = l.take n ++ [t] := by rw [List.take_add_one, ht]; rfl
  rw [h1, evs_app]
  simp [evs, List.length_take, Nat.min_eq_left (Nat.le_of_lt hn)]
/-- What came ahead of arg k of term n. -/
def pre (l : List Tm) (n : Nat) (t : Tm) (k : Nat) : List (Nat × Nat) := evs (l.take n) 0 ++ (t.args.take k).map (fun a => (a, n))
theorem pre_zero (l : List Tm) (n : Nat) (t : Tm) : pre l n t 0 = evs (l.take n) 0 := by simp [pre]
theorem pre_step {l : List Tm} {n : Nat} {t : Tm} {k a : Nat} (ha : t.args[k]? = some a) : pre l n t (k + 1) = pre l n t k ++ [(a, n)] := by
  unfold pre
  rw [List.take_add_one, ha]
  simp
theorem pre_all {l : List Tm} {n : Nat} {t : Tm} (ht : l[n]? = some t) : pre l n t t.args.length = evs (l.take (n + 1)) 0 := by
  rw [evs_take ht]
  simp [pre, evn]
theorem evs_all (l : List Tm) : evs (l.take l.length) 0 = evs l 0 := by rw [List.take_length]

theorem usf_snoc (d : List (Nat × Nat)) (a n i : Nat) : usf (d ++ [(a, n)]) i = if i = a then usf d i ++ [n] else usf d i := by
  unfold usf
  rw [List.filter_append, List.map_append]
  by_cases e : i = a
  · subst e; simp
  · rw [if_neg e]
    have : (a == i) = false := beq_eq_false_iff_ne.2 (Ne.symm e)
    simp [this]
theorem cna_snoc (d : List (Nat × Nat)) (a n i : Nat) : cna (d ++ [(a, n)]) i = if i = a then cna d i + 1 else cna d i := by
  unfold cna
  rw [usf_snoc]
  split <;> simp
theorem usf_app (d e : List (Nat × Nat)) (i : Nat) : usf (d ++ e) i = usf d i ++ usf e i := by simp [usf]
theorem cna_app (d e : List (Nat × Nat)) (i : Nat) : cna (d ++ e) i = cna d i + cna e i := by simp [cna, usf_app]
theorem cna_le (d : List (Nat × Nat)) (i : Nat) : cna d i ≤ d.length := by
  unfold cna usf
  rw [List.length_map]
  exact List.length_filter_le _ _

/-- Where the room of i begins. -/
def offs (c : Nat → Nat) : Nat → Nat
  | 0 => 0
  | i + 1 => offs c i + c i
theorem offs_mono (c : Nat → Nat) {i j : Nat} (h : i < j) : offs c i + c i ≤ offs c j := by
  induction j with
  | zero => omega
  | succ j ih =>
    simp only [offs]
    by_cases e : i = j
    · subst e; omega
    · have := ih (by omega); omega
theorem offs_congr {c c' : Nat → Nat} (h : ∀ i, c i = c' i) (n : Nat) : offs c n = offs c' n := by
  induction n with
  | zero => rfl
  | succ n ih => simp only [offs]; rw [ih, h]
theorem offs_add (c : Nat → Nat) (a n : Nat) : offs (fun i => if i = a then c i + 1 else c i) n = offs c n + if a < n then 1 else 0 := by
  induction n with
  | zero => simp [offs]
  | succ n ih =>
    simp only [offs]
    rw [ih]
    by_cases e : n = a
    · subst e; simp; omega
    · rw [if_neg e]
      by_cases e2 : a < n
      · simp [e2, show a < n + 1 by omega]; omega
      · have : ¬ a < n + 1 := by omega
        simp [e2, this]
/-- The rooms together are what came. -/
theorem offs_all (N : Nat) (d : List (Nat × Nat)) (h : ∀ x ∈ d, x.1 < N) : offs (cna d) N = d.length := by
  have key : ∀ e : List (Nat × Nat), (∀ x ∈ e, x.1 < N) → offs (cna e.reverse) N = e.length := by
    intro e
    induction e with
    | nil =>
      intro _
      have : ∀ n, offs (cna []) n = 0 := by
        intro n
        induction n with
        | zero => rfl
        | succ n ih => simp only [offs]; rw [ih]; rfl
      simpa using this N
    | cons x e ih =>
      intro hx
      obtain ⟨a, n⟩ := x
      have h1 := ih (fun y hy => hx y (by simp [hy]))
      have ha : a < N := hx (a, n) (by simp)
      rw [List.reverse_cons, offs_congr (cna_snoc e.reverse a n) N, offs_add, h1, if_pos ha]
      simp
  have := key d.reverse (fun x hx => h x (by simpa using hx))
  simpa using this

theorem evs_lt {N : Nat} {l : List Tm} (hb : ∀ t ∈ l, ∀ a ∈ t.args, a < N) : ∀ m, ∀ x ∈ evs l m, x.1 < N := by
  induction l with
  | nil => intro m x hx; simp [evs] at hx
  | cons t l ih =>
    intro m x hx
    simp only [evs, List.mem_append] at hx
    rcases hx with hx | hx
    · simp [evn] at hx
      obtain ⟨a, ha, rfl⟩ := hx
      exact hb t (by simp) a ha
    · exact ih (fun t ht => hb t (by simp [ht])) (m + 1) x hx
theorem evs_len {l : List Tm} (h4 : ∀ t ∈ l, t.args.length ≤ 4) : ∀ m, (evs l m).length ≤ 4 * l.length := by
  induction l with
  | nil => intro m; simp [evs]
  | cons t l ih =>
    intro m
    have h1 := ih (fun t ht => h4 t (by simp [ht])) (m + 1)
    have h2 := h4 t (by simp)
    simp [evs, evn]
    omega

theorem pre_len {l : List Tm} (h4 : ∀ t ∈ l, t.args.length ≤ 4) {n : Nat} {t : Tm} (ht : l[n]? = some t) (k : Nat) : (pre l n t k).length ≤ 4 * l.length := by
  have hn := (List.getElem?_eq_some_iff.1 ht).1
  have h1 := evs_len (l := l.take n) (fun u hu => h4 u (List.mem_of_mem_take hu)) 0
  have h2 := h4 t (List.mem_of_getElem? ht)
  rw [List.length_take, Nat.min_eq_left (Nat.le_of_lt hn)] at h1
  unfold pre
  rw [List.length_append, List.length_map, List.length_take]
  have : min k t.args.length ≤ t.args.length := Nat.min_le_right _ _
  omega
/-- What came ahead is the beginning of all. -/
theorem pre_part {l : List Tm} {n : Nat} {t : Tm} (ht : l[n]? = some t) (k : Nat) : ∃ e, evs l 0 = pre l n t k ++ e := by
  have h1 := List.take_append_drop (n + 1) l
  refine ⟨(t.args.drop k).map (fun a => (a, n)) ++ evs (l.drop (n + 1)) (0 + (l.take (n + 1)).length), ?_⟩
  conv => lhs; rw [← h1]
  rw [evs_app, evs_take ht]
  unfold pre evn
  have h2 : t.args.map (fun a => (a, n)) = (t.args.take k).map (fun a => (a, n)) ++ (t.args.drop k).map (fun a => (a, n)) := by rw [← List.map_append, List.take_append_drop]
  rw [h2]
  simp only [List.append_assoc]
theorem pre_cna {l : List Tm} {n : Nat} {t : Tm} (ht : l[n]? = some t) (k i : Nat) : cna (pre l n t k) i ≤ cna (evs l 0) i := by
  obtain ⟨e, he⟩ := pre_part ht k
  rw [he, cna_app]
  omega

/-- The first uses are as told. -/
theorem usf_uc (l : List Tm) (r n : Nat) : (usf (evs l 0) r).count n = uc l id r n := by
  have key : ∀ (l : List Tm) (m : Nat), (usf (evs l m) r).count n = if m ≤ n then uc l id r (n - m) else 0 := by
    intro l
    induction l with
    | nil => intro m; simp [evs, usf, uc]
    | cons t l ih =>
      intro m
      rw [evs, usf_app, List.count_append, ih (m + 1)]
      have h1 : (usf (evn t m) r).count n = if m = n then t.args.countP (fun a => a == r) else 0 := by
        have : ∀ xs : List Nat, (usf (xs.map (fun a => (a, m))) r).count n = if m = n then xs.countP (fun a => a == r) else 0 := by
          intro xs
          induction xs with
          | nil => simp [usf]
          | cons x xs ih =>
            unfold usf at ih ⊢
            by_cases e : x = r
            · subst e
              by_cases e2 : m = n
              · subst e2; simp at ih ⊢; exact ih
              · simp [e2] at ih ⊢; exact ih
            · have e' : (x == r) = false := beq_eq_false_iff_ne.2 e
              simp only [List.map_cons, List.filter_cons, e', List.countP_cons]
              simpa using ih
        exact this t.args
      rw [h1]
      by_cases e : m = n
      · subst e
        have : ¬ m + 1 ≤ m := by omega
        simp [uc, this]
      · by_cases e2 : m + 1 ≤ n
        · have h3 : n - m = (n - (m + 1)) + 1 := by omega
          simp [e, e2, show m ≤ n by omega, uc, h3]
        · have : ¬ m ≤ n := by omega
          simp [e, e2, this]
  simpa using key l 0

end Go.Proofs.Ytpipihllofpnaaa.Cc
