/- The plain mathematics of package close: what follows from equalities, by a list of what is to do. No Go here. Package close: a closure in memory. Package close: signature. -/
import Derived.Test.YtinphcnknionmaaG17
import Derived.Test.YtinphcnknionmaaG18
import Derived.Test.YtinphcnknionmaaSFindG
namespace Go.Proofs.Ytinphcnknionmaa.Cc

/-- What a bank's list keeps to. -/
structure Bd (l : List Tm) : Prop where
  args : ∀ (n : Nat) (t : Tm), l[n]? = some t → ∀ a ∈ t.args, a < l.length
  four : ∀ t ∈ l, t.args.length ≤ 4
  one : ∀ t ∈ l, ∀ u ∈ l, t.name = u.name → t.args.length = u.args.length
  nodup : l.Nodup

/-- The class of arg k, 0 behind the last. -/
def ar (lo : Nat → Nat) (t : Tm) (k : Nat) : Nat := match t.args[k]? with
  | some a => lo a
  | none => 0
/-- A term's signature. -/
def sg (lo : Nat → Nat) (t : Tm) : Tm := ⟨t.name, [ar lo t 0, ar lo t 1, ar lo t 2, ar lo t 3]⟩
theorem sg_arg (lo : Nat → Nat) (t : Tm) (k : Nat) (hk : k < 4) : (sg lo t).arg k = ar lo t k := by
  rcases (by omega : k = 0 ∨ k = 1 ∨ k = 2 ∨ k = 3) with rfl | rfl | rfl | rfl <;> rfl
theorem sg_congr {lo lo' : Nat → Nat} {t : Tm} (h : ∀ a ∈ t.args, lo a = lo' a) : sg lo t = sg lo' t := by
  have : ∀ k, ar lo t k = ar lo' t k := by
    intro k
    unfold ar
    cases e : t.args[k]? with
    | none => rfl
    | some a => exact h a (List.mem_of_getElem? e)
  simp [sg, this]

/-- The closure. -/
inductive Cg (l : List Tm) (P : List (Nat × Nat)) : Nat → Nat → Prop
  | told {a b : Nat} : (a, b) ∈ P → a < l.length → b < l.length → Cg l P a b
  | refl {a : Nat} : a < l.length → Cg l P a a
  | symm {a b : Nat} : Cg l P a b → Cg l P b a
  | trans {a b c : Nat} : Cg l P a b → Cg l P b c → Cg l P a c
  | cong {i j : Nat} {t u : Tm} : l[i]? = some t → l[j]? = some u → t.name = u.name → t.args.length = u.args.length → (∀ k a b : Nat, t.args[k]? = some a → u.args[k]? = some b → Cg l P a b) → Cg l P i j

theorem Cg.mono {l : List Tm} {P Q : List (Nat × Nat)} (h : ∀ a b, (a, b) ∈ P → a < l.length → b < l.length → Cg l Q a b) {i j : Nat} (hc : Cg l P i j) : Cg l Q i j := by
  induction hc with
  | told hm ha hb => exact h _ _ hm ha hb
  | refl ha => exact .refl ha
  | symm _ ih => exact .symm ih
  | trans _ _ i1 i2 => exact .trans i1 i2
  | cong h1 h2 h3 h4 _ ih => exact .cong h1 h2 h3 h4 ih

theorem Cg.lt {l : List Tm} {P : List (Nat × Nat)} {i j : Nat} (hc : Cg l P i j) : i < l.length ∧ j < l.length := by
  induction hc with
  | told _ ha hb => exact ⟨ha, hb⟩
  | refl ha => exact ⟨ha, ha⟩
  | symm _ ih => exact ⟨ih.2, ih.1⟩
  | trans _ _ i1 i2 => exact ⟨i1.1, i2.2⟩
  | cong h1 h2 _ _ _ _ => exact ⟨(List.getElem?_eq_some_iff.1 h1).1, (List.getElem?_eq_some_iff.1 h2).1⟩

/-- The same by the classes and what is to do. -/
inductive Ev (N : Nat) (lo : Nat → Nat) (todo : List (Nat × Nat)) : Nat → Nat → Prop
  | same {i j : Nat} : i < N → j < N → lo i = lo j → Ev N lo todo i j
  | todo {i j : Nat} : (i, j) ∈ todo → Ev N lo todo i j
  | symm {i j : Nat} : Ev N lo todo i j → Ev N lo todo j i
  | trans {i j k : Nat} : Ev N lo todo i j → Ev N lo todo j k → Ev N lo todo i k

theorem Ev.mono {N : Nat} {lo lo' : Nat → Nat} {td td' : List (Nat × Nat)} (h1 : ∀ i j, i < N → j < N → lo i = lo j → lo' i = lo' j) (h2 : ∀ i j, (i, j) ∈ td → Ev N lo' td' i j) {i j : Nat} (h : Ev N lo td i j) : Ev N lo' td' i j := by
  induction h with
  | same hi hj he => exact .same hi hj (h1 _ _ hi hj he)
  | todo hm => exact h2 _ _ hm
  | symm _ ih => exact .symm ih
  | trans _ _ i1 i2 => exact .trans i1 i2
theorem Ev.more {N : Nat} {lo : Nat → Nat} {td : List (Nat × Nat)} (ps : List (Nat × Nat)) {i j : Nat} (h : Ev N lo td i j) : Ev N lo (td ++ ps) i j :=
  h.mono (fun _ _ _ _ e => e) (fun _ _ hm => .todo (List.mem_append_left _ hm))
theorem Ev.done {N : Nat} {lo : Nat → Nat} {i j : Nat} (h : Ev N lo [] i j) : lo i = lo j := by
  induction h with
  | same _ _ he => exact he
  | todo hm => cases hm
  | symm _ ih => exact ih.symm
  | trans _ _ i1 i2 => exact i1.trans i2

/-- How often term n uses class r. -/
def uc (l : List Tm) (lo : Nat → Nat) (r n : Nat) : Nat := match l[n]? with
  | some t => t.args.countP (fun a => lo a == r)
  | none => 0

structure Inv (l : List Tm) (P : List (Nat × Nat)) (lo : Nat → Nat) (us : Nat → List Nat) (kn : Tm → Option Nat) (todo : List (Nat × Nat)) (pend : List Nat) : Prop where
  le : ∀ i, i < l.length → lo i ≤ i
  idem : ∀ i, i < l.length → lo (lo i) = lo i
  inr : ∀ p ∈ todo, p.1 < l.length ∧ p.2 < l.length
  pin : ∀ n ∈ pend, n < l.length
  uses : ∀ r, r < l.length → lo r = r → ∀ n, (us r).count n = uc l lo r n
  keys : ∀ (n : Nat) (t : Tm), l[n]? = some t → n ∉ pend → ∃ m, kn (sg lo t) = some m ∧ Ev l.length lo todo n m
  says : ∀ (s : Tm) (m : Nat), kn s = some m → ∃ u : Tm, l[m]? = some u ∧ u.name = s.name ∧ ∀ k, k < 4 → (∀ a, u.args[k]? = some a → s.arg k < l.length ∧ lo a = lo (s.arg k)) ∧ (u.args[k]? = none → s.arg k = 0)
  snd : ∀ i j, i < l.length → j < l.length → lo i = lo j → Cg l P i j
  tsnd : ∀ p ∈ todo, Cg l P p.1 p.2
  tld : ∀ p ∈ P, p.1 < l.length ∧ p.2 < l.length ∧ Ev l.length lo todo p.1 p.2

theorem Inv.used {l : List Tm} {P : List (Nat × Nat)} {lo : Nat → Nat} {us : Nat → List Nat} {kn : Tm → Option Nat} {todo : List (Nat × Nat)} {pend : List Nat} (h : Inv l P lo us kn todo pend) {n : Nat} {t : Tm} (ht : l[n]? = some t) {a : Nat} (ha : a ∈ t.args) {r : Nat} (hr : r < l.length) (hrr : lo r = r) (hl : lo a = r) : n ∈ us r := by
  have hc := h.uses r hr hrr n
  rw [uc, ht] at hc
  simp only at hc
  have : 0 < t.args.countP (fun a => lo a == r) := List.countP_pos_iff.2 ⟨a, ha, by simp [hl]⟩
  exact List.count_pos_iff.1 (by omega)

theorem uc_le {l : List Tm} (hb : Bd l) (lo : Nat → Nat) (r n : Nat) : uc l lo r n ≤ 4 := by
  unfold uc
  cases e : l[n]? with
  | none => simp
  | some t => exact Nat.le_trans List.countP_le_length (hb.four t (List.mem_of_getElem? e))

theorem length_count (N : Nat) : ∀ xs : List Nat, (∀ x ∈ xs, x < N) → (∀ n, xs.count n ≤ 4) → xs.length ≤ 4 * N := by
  induction N with
  | zero =>
    intro xs h _
    cases xs with
    | nil => simp
    | cons x xs => exact absurd (h x (by simp)) (by omega)
  | succ N ih =>
    intro xs h hc
    have h1 := ih (xs.filter (fun x => !(x == N))) (fun x hx => by
      obtain ⟨hm, hn⟩ := List.mem_filter.1 hx
      have := h x hm
      simp at hn
      omega) (fun n => Nat.le_trans (List.Sublist.count_le n (List.filter_sublist)) (hc n))
    have h2 : xs.length = (xs.filter (fun x => !(x == N))).length + xs.count N := by
      clear h hc h1 ih
      induction xs with
      | nil => rfl
      | cons x xs ih =>
        by_cases e : x = N
        · subst e; simp; omega
        · have e' : (x == N) = false := beq_eq_false_iff_ne.2 e
          simp [e', List.count_cons, ih]; omega
    have := hc N
    omega

theorem Inv.uin {l : List Tm} {P : List (Nat × Nat)} {lo : Nat → Nat} {us : Nat → List Nat} {kn : Tm → Option Nat} {todo : List (Nat × Nat)} {pend : List Nat} (h : Inv l P lo us kn todo pend) {r : Nat} (hr : r < l.length) (hrr : lo r = r) : ∀ n ∈ us r, n < l.length := by
  intro n hn
  have hc := h.uses r hr hrr n
  have hp := List.count_pos_iff.2 hn
  unfold uc at hc
  cases e : l[n]? with
  | none => rw [e] at hc; simp only at hc; omega
  | some t => exact (List.getElem?_eq_some_iff.1 e).1
theorem Inv.ulen {l : List Tm} (hb : Bd l) {P : List (Nat × Nat)} {lo : Nat → Nat} {us : Nat → List Nat} {kn : Tm → Option Nat} {todo : List (Nat × Nat)} {pend : List Nat} (h : Inv l P lo us kn todo pend) {r : Nat} (hr : r < l.length) (hrr : lo r = r) : (us r).length ≤ 4 * l.length :=
  length_count _ _ (h.uin hr hrr) (fun n => by rw [h.uses r hr hrr n]; exact uc_le hb _ _ _)

/-- What stands last is the same already. -/
theorem Inv.drop {l : List Tm} {P : List (Nat × Nat)} {lo : Nat → Nat} {us : Nat → List Nat} {kn : Tm → Option Nat} {todo : List (Nat × Nat)} {a b : Nat} (h : Inv l P lo us kn (todo ++ [(a, b)]) []) (he : lo a = lo b) : Inv l P lo us kn todo [] := by
  have hin := h.inr (a, b) (by simp)
  have E : ∀ {i j}, Ev l.length lo (todo ++ [(a, b)]) i j → Ev l.length lo todo i j := fun x => x.mono (fun _ _ _ _ e => e) (fun i j hm => by
    rcases List.mem_append.1 hm with hm | hm
    · exact .todo hm
    · simp at hm
      obtain ⟨rfl, rfl⟩ := hm
      exact .same hin.1 hin.2 he)
  exact ⟨h.le, h.idem, fun p hp => h.inr p (List.mem_append_left _ hp), h.pin, h.uses, fun n t ht hn => by obtain ⟨m, h1, h2⟩ := h.keys n t ht hn; exact ⟨m, h1, E h2⟩, h.says, h.snd, fun p hp => h.tsnd p (List.mem_append_left _ hp), fun p hp => ⟨(h.tld p hp).1, (h.tld p hp).2.1, E (h.tld p hp).2.2⟩⟩

/-- Two classes become one. -/
theorem Inv.join {l : List Tm} {P : List (Nat × Nat)} {lo lo' : Nat → Nat} {us us' : Nat → List Nat} {kn : Tm → Option Nat} {todo : List (Nat × Nat)} {p : Nat × Nat} (hb : Bd l) (h : Inv l P lo us kn (todo ++ [p]) []) {a b low high : Nat} (hp : p = (a, b) ∨ p = (b, a))
    (ha : lo a = low) (hbh : lo b = high) (hlt : low < high) (hlo : ∀ i, i < l.length → lo' i = if lo i = high then low else lo i) (hus : ∀ r, r < l.length → us' r = if r = low then us low ++ us high else us r) : Inv l P lo' us' kn todo (us high) := by
  have hin := h.inr p (by simp)
  have hab : a < l.length ∧ b < l.length := by rcases hp with rfl | rfl <;> exact ⟨by first | exact hin.1 | exact hin.2, by first | exact hin.2 | exact hin.1⟩
  have cab : Cg l P a b := by
    have := h.tsnd p (by simp)
    rcases hp with rfl | rfl
    · exact this
    · exact this.symm
  have llow : lo low = low := by rw [← ha]; exact h.idem a hab.1
  have lhigh : lo high = high := by rw [← hbh]; exact h.idem b hab.2
  have hhl : high < l.length := by have := h.le b hab.2; omega
  have hll : low < l.length := by omega
  have imp : ∀ i j, i < l.length → j < l.length → lo i = lo j → lo' i = lo' j := fun i j hi hj e => by rw [hlo i hi, hlo j hj, e]
  have lab : lo' a = lo' b := by rw [hlo a hab.1, hlo b hab.2, ha, hbh, if_pos rfl, if_neg (by omega)]
  have E : ∀ {i j}, Ev l.length lo (todo ++ [p]) i j → Ev l.length lo' todo i j := fun x => x.mono imp (fun i j hm => by
    rcases List.mem_append.1 hm with hm | hm
    · exact .todo hm
    · simp at hm
      rcases hp with rfl | rfl
      · obtain ⟨rfl, rfl⟩ := Prod.mk.inj hm; exact .same hab.1 hab.2 lab
      · obtain ⟨rfl, rfl⟩ := Prod.mk.inj hm; exact .same hab.2 hab.1 lab.symm)
  have alt : ∀ {n : Nat} {t : Tm}, l[n]? = some t → ∀ a ∈ t.args, a < l.length := fun ht => hb.args _ _ ht
  refine ⟨?_, ?_, fun p hp => h.inr p (List.mem_append_left _ hp), fun n hn => h.uin hhl lhigh n hn, ?_, ?_, ?_, ?_, fun p hp => h.tsnd p (List.mem_append_left _ hp), fun p hp => ⟨(h.tld p hp).1, (h.tld p hp).2.1, E (h.tld p hp).2.2⟩⟩
  · intro i hi
    rw [hlo i hi]
    have := h.le i hi
    split <;> omega
  · intro i hi
    have hi2 := h.le i hi
    rw [hlo i hi]
    split
    · rw [hlo low hll, llow, if_neg (by omega)]
    · next hne => rw [hlo (lo i) (by omega), h.idem i hi, if_neg hne]
  · intro r hr hrr n
    have hr0 := hlo r hr
    rw [hrr] at hr0
    by_cases e : r = low
    · subst e
      rw [hus r hr, if_pos rfl, List.count_append, h.uses r hll llow n, h.uses high hhl lhigh n]
      unfold uc
      cases ht : l[n]? with
      | none => rfl
      | some t =>
        have : ∀ xs : List Nat, (∀ a ∈ xs, a < l.length) → xs.countP (fun a => lo a == r) + xs.countP (fun a => lo a == high) = xs.countP (fun a => lo' a == r) := by
          intro xs
          induction xs with
          | nil => intro _; rfl
          | cons x xs ih =>
            intro hx
            have hi := ih (fun a ha => hx a (by simp [ha]))
            simp only [List.countP_cons]
            have h0 := hlo x (hx x (by simp))
            rw [h0]
            by_cases e1 : lo x = high
            · have e3 : ¬ high = r := by omega
              rw [if_pos e1, e1]
              simp only [beq_iff_eq, e3, if_false, if_true]
              omega
            · by_cases e2 : lo x = r
              · simp [e2, show ¬ r = high by omega]; omega
              · simp [e1, e2]; omega
        exact this t.args (alt ht)
    · have hne : lo r ≠ high := fun x => by rw [if_pos x] at hr0; exact e hr0
      rw [if_neg hne] at hr0
      rw [hus r hr, if_neg e, h.uses r hr hr0.symm n]
      unfold uc
      cases ht : l[n]? with
      | none => rfl
      | some t =>
        refine List.countP_congr (fun x hx => ?_)
        have h0 := hlo x (alt ht x hx)
        rw [h0]
        by_cases e1 : lo x = high
        · rw [if_pos e1]
          simp only [beq_iff_eq]
          constructor
          · intro x2; exact absurd (hr0.symm.trans (x2.symm.trans e1)) hne
          · intro x2; exact absurd x2.symm e
        · rw [if_neg e1]
  · intro n t ht hn
    obtain ⟨m, h1, h2⟩ := h.keys n t ht (by simp)
    have : sg lo' t = sg lo t := sg_congr (fun a ha => by
      rw [hlo a (alt ht a ha), if_neg (fun x => hn (h.used ht ha hhl lhigh x))])
    exact ⟨m, by rw [this]; exact h1, E h2⟩
  · intro s m hs
    obtain ⟨u, h1, h2, h3⟩ := h.says s m hs
    refine ⟨u, h1, h2, fun k hk => ⟨fun x hx => ?_, (h3 k hk).2⟩⟩
    obtain ⟨q1, q2⟩ := (h3 k hk).1 x hx
    exact ⟨q1, imp _ _ (alt h1 x (List.mem_of_getElem? hx)) q1 q2⟩
  · intro i j hi hj e
    rw [hlo i hi, hlo j hj] at e
    have toA : ∀ i, i < l.length → lo i = low → Cg l P i a := fun i hi x => h.snd i a hi hab.1 (by omega)
    have toB : ∀ i, i < l.length → lo i = high → Cg l P i a := fun i hi x => (h.snd i b hi hab.2 (by omega)).trans cab.symm
    by_cases e1 : lo i = high
    · by_cases e2 : lo j = high
      · exact (toB i hi e1).trans (toB j hj e2).symm
      · rw [if_pos e1, if_neg e2] at e
        exact (toB i hi e1).trans (toA j hj e.symm).symm
    · by_cases e2 : lo j = high
      · rw [if_neg e1, if_pos e2] at e
        exact (toA i hi e).trans (toB j hj e2).symm
      · rw [if_neg e1, if_neg e2] at e
        exact h.snd i j hi hj e

theorem ar_some {lo : Nat → Nat} {t : Tm} {k a : Nat} (h : t.args[k]? = some a) : ar lo t k = lo a := by simp [ar, h]

theorem getElem?_len {α β : Type} {xs : List α} {ys : List β} (h : xs.length = ys.length) {k : Nat} {a : α} (ha : xs[k]? = some a) : ∃ b, ys[k]? = some b := by
  have := (List.getElem?_eq_some_iff.1 ha).1
  exact ⟨ys[k]'(by omega), List.getElem?_eq_getElem (by omega)⟩

/-- A term that has a signature follows to be the same. -/
theorem Inv.alike {l : List Tm} {P : List (Nat × Nat)} {lo : Nat → Nat} {us : Nat → List Nat} {kn : Tm → Option Nat} {todo : List (Nat × Nat)} {pend : List Nat} (hb : Bd l) (h : Inv l P lo us kn todo pend) {n m : Nat} {t : Tm} (ht : l[n]? = some t) (hk : kn (sg lo t) = some m) : Cg l P n m := by
  obtain ⟨u, h1, h2, h3⟩ := h.says _ _ hk
  have hl := hb.one t (List.mem_of_getElem? ht) u (List.mem_of_getElem? h1) h2.symm
  refine .cong ht h1 h2.symm hl (fun k a b ha hb' => ?_)
  have hk4 : k < 4 := by
    have := (List.getElem?_eq_some_iff.1 ha).1
    have := hb.four t (List.mem_of_getElem? ht)
    omega
  obtain ⟨q1, q2⟩ := (h3 k hk4).1 b hb'
  have ha' := hb.args n t ht a (List.mem_of_getElem? ha)
  rw [sg_arg _ _ _ hk4, ar_some ha] at q1 q2
  rw [h.idem a ha'] at q2
  exact h.snd a b ha' (hb.args m u h1 b (List.mem_of_getElem? hb')) q2.symm

/-- One of those that are pending is looked up: there is one like it. -/
theorem Inv.old {l : List Tm} {P : List (Nat × Nat)} {lo : Nat → Nat} {us : Nat → List Nat} {kn : Tm → Option Nat} {todo : List (Nat × Nat)} {pend : List Nat} (hb : Bd l) {n m : Nat} (h : Inv l P lo us kn todo (n :: pend)) {t : Tm} (ht : l[n]? = some t) (hk : kn (sg lo t) = some m) : Inv l P lo us kn (todo ++ [(n, m)]) pend := by
  have hc := h.alike hb ht hk
  refine ⟨h.le, h.idem, ?_, fun x hx => h.pin x (by simp [hx]), h.uses, ?_, h.says, h.snd, ?_, fun p hp => ⟨(h.tld p hp).1, (h.tld p hp).2.1, (h.tld p hp).2.2.more _⟩⟩
  · intro p hp
    rcases List.mem_append.1 hp with hp | hp
    · exact h.inr p hp
    · simp at hp; subst hp; exact hc.lt
  · intro i u hu hi
    by_cases e : i = n
    · subst e
      rw [ht] at hu
      cases hu
      exact ⟨m, hk, .todo (by simp)⟩
    · obtain ⟨m', h1, h2⟩ := h.keys i u hu (by simp [e, hi])
      exact ⟨m', h1, h2.more _⟩
  · intro p hp
    rcases List.mem_append.1 hp with hp | hp
    · exact h.tsnd p hp
    · simp at hp; subst hp; exact hc

/-- .. there is none. -/
theorem Inv.new {l : List Tm} {P : List (Nat × Nat)} {lo : Nat → Nat} {us : Nat → List Nat} {kn kn' : Tm → Option Nat} {todo : List (Nat × Nat)} {pend : List Nat} (hb : Bd l) {n : Nat} (h : Inv l P lo us kn todo (n :: pend)) {t : Tm} (ht : l[n]? = some t) (hk : kn (sg lo t) = none) (hkn : ∀ s, kn' s = if s = sg lo t then some n else kn s) : Inv l P lo us kn' (todo ++ [(n, n)]) pend := by
  have hn : n < l.length := (List.getElem?_eq_some_iff.1 ht).1
  refine ⟨h.le, h.idem, ?_, fun x hx => h.pin x (by simp [hx]), h.uses, ?_, ?_, h.snd, ?_, fun p hp => ⟨(h.tld p hp).1, (h.tld p hp).2.1, (h.tld p hp).2.2.more _⟩⟩
  · intro p hp
    rcases List.mem_append.1 hp with hp | hp
    · exact h.inr p hp
    · simp at hp; subst hp; exact ⟨hn, hn⟩
  · intro i u hu hi
    by_cases e : i = n
    · subst e
      rw [ht] at hu
      cases hu
      exact ⟨i, by rw [hkn, if_pos rfl], .todo (by simp)⟩
    · obtain ⟨m', h1, h2⟩ := h.keys i u hu (by simp [e, hi])
      refine ⟨m', ?_, h2.more _⟩
      rw [hkn, if_neg (fun x => by rw [x, hk] at h1; cases h1)]
      exact h1
  · intro s m hs
    rw [hkn] at hs
    by_cases e : s = sg lo t
    · rw [if_pos e] at hs
      cases hs
      refine ⟨t, ht, by rw [e]; rfl, fun k hk => ?_⟩
      rw [e, sg_arg _ _ _ hk]
      refine ⟨fun a ha => ?_, fun hnone => by simp [ar, hnone]⟩
      rw [ar_some ha]
      have ha' := hb.args n t ht a (List.mem_of_getElem? ha)
      have := h.le a ha'
      exact ⟨by omega, (h.idem a ha').symm⟩
    · rw [if_neg e] at hs
      exact h.says s m hs
  · intro p hp
    rcases List.mem_append.1 hp with hp | hp
    · exact h.tsnd p hp
    · simp at hp; subst hp; exact .refl hn

/-- A pair is told. -/
theorem Inv.tell {l : List Tm} {P : List (Nat × Nat)} {lo : Nat → Nat} {us : Nat → List Nat} {kn : Tm → Option Nat} (h : Inv l P lo us kn [] []) {a b : Nat} (ha : a < l.length) (hb : b < l.length) : Inv l (P ++ [(a, b)]) lo us kn [(a, b)] [] := by
  have M : ∀ {i j}, Cg l P i j → Cg l (P ++ [(a, b)]) i j := fun x => x.mono (fun _ _ hm h1 h2 => .told (List.mem_append_left _ hm) h1 h2)
  refine ⟨h.le, h.idem, fun p hp => by simp at hp; subst hp; exact ⟨ha, hb⟩, h.pin, h.uses, fun n t ht hn => ?_, h.says, fun i j hi hj e => M (h.snd i j hi hj e), fun p hp => ?_, fun p hp => ?_⟩
  · obtain ⟨m, h1, h2⟩ := h.keys n t ht hn
    exact ⟨m, h1, h2.more [(a, b)]⟩
  · simp at hp; subst hp; exact .told (by simp) ha hb
  · rcases List.mem_append.1 hp with hp | hp
    · exact ⟨(h.tld p hp).1, (h.tld p hp).2.1, (h.tld p hp).2.2.more [(a, b)]⟩
    · simp at hp; subst hp; exact ⟨ha, hb, .todo (by simp)⟩

/-- When nothing is to do the classes are the closure's. -/
theorem Inv.fin {l : List Tm} {P : List (Nat × Nat)} {lo : Nat → Nat} {us : Nat → List Nat} {kn : Tm → Option Nat} (h : Inv l P lo us kn [] []) {i j : Nat} (hi : i < l.length) (hj : j < l.length) : lo i = lo j ↔ Cg l P i j := by
  refine ⟨h.snd i j hi hj, fun hc => ?_⟩
  clear hi hj
  induction hc with
  | told hm _ _ => exact (h.tld _ hm).2.2.done
  | refl _ => rfl
  | symm _ ih => exact ih.symm
  | trans _ _ i1 i2 => exact i1.trans i2
  | @cong i j t u h1 h2 h3 h4 _ ih =>
    have : sg lo t = sg lo u := by
      have : ∀ k, ar lo t k = ar lo u k := by
        intro k
        unfold ar
        cases e : t.args[k]? with
        | none =>
          have : u.args[k]? = none := by rw [List.getElem?_eq_none_iff] at e ⊢; omega
          rw [this]
        | some a =>
          obtain ⟨b, hb⟩ := getElem?_len h4 e
          rw [hb]
          exact ih k a b e hb
      simp [sg, h3, this]
    obtain ⟨m, k1, k2⟩ := h.keys i t h1 (by simp)
    obtain ⟨m', k3, k4⟩ := h.keys j u h2 (by simp)
    rw [this, k3] at k1
    cases k1
    exact k2.done.trans k4.done.symm

theorem Inv.low {l : List Tm} {P Q : List (Nat × Nat)} {lo lo' : Nat → Nat} {us us' : Nat → List Nat} {kn kn' : Tm → Option Nat} (h : Inv l P lo us kn [] []) (h' : Inv l Q lo' us' kn' [] []) (hPQ : ∀ i j, Cg l P i j → Cg l Q i j) {i : Nat} (hi : i < l.length) : lo' i = lo' (lo i) := by
  have h1 := h.le i hi
  have h2 := h.idem i hi
  exact (h'.fin hi (by omega)).2 (hPQ _ _ ((h.fin hi (by omega)).1 h2.symm))

/-- The same closure, the same least numbers. -/
theorem Inv.unique {l : List Tm} {P Q : List (Nat × Nat)} {lo lo' : Nat → Nat} {us us' : Nat → List Nat} {kn kn' : Tm → Option Nat} (h : Inv l P lo us kn [] []) (h' : Inv l Q lo' us' kn' [] []) (hPQ : ∀ i j, Cg l P i j → Cg l Q i j) (hQP : ∀ i j, Cg l Q i j → Cg l P i j) {i : Nat} (hi : i < l.length) : lo i = lo' i := by
  have a1 := h.low h' hPQ hi
  have a2 := h'.low h hQP hi
  have := h.le i hi
  have := h'.le i hi
  have b1 := h'.le (lo i) (by omega)
  have b2 := h.le (lo' i) (by omega)
  omega

/-- At the beginning. -/
theorem Inv.start {l : List Tm} {us : Nat → List Nat} {kn : Tm → Option Nat} (hb : Bd l) (hus : ∀ r, r < l.length → ∀ n, (us r).count n = uc l id r n) (hkn : ∀ s m, kn s = some m ↔ ∃ t, l[m]? = some t ∧ sg id t = s) : Inv l [] id us kn [] [] := by
  refine ⟨fun i _ => Nat.le_refl _, fun _ _ => rfl, by simp, by simp, fun r hr _ n => hus r hr n, ?_, ?_, ?_, by simp, by simp⟩
  · intro n t ht _
    exact ⟨n, (hkn _ _).2 ⟨t, ht, rfl⟩, .same (List.getElem?_eq_some_iff.1 ht).1 (List.getElem?_eq_some_iff.1 ht).1 rfl⟩
  · intro s m hs
    obtain ⟨t, ht, rfl⟩ := (hkn s m).1 hs
    refine ⟨t, ht, rfl, fun k hk => ?_⟩
    rw [sg_arg _ _ _ hk]
    refine ⟨fun a ha => ?_, fun hn => by simp [ar, hn]⟩
    rw [ar_some ha]
    exact ⟨hb.args m t ht a (List.mem_of_getElem? ha), rfl⟩
  · intro i j hi _ e
    have : i = j := e
    subst this
    exact .refl hi

/-- No two terms of a bank have one signature at the beginning. -/
theorem sg_inj {l : List Tm} (hb : Bd l) {i j : Nat} {t u : Tm} (ht : l[i]? = some t) (hu : l[j]? = some u) (he : sg id t = sg id u) : i = j := by
  have hn : t.name = u.name := by have := congrArg Tm.name he; exact this
  have hl := hb.one t (List.mem_of_getElem? ht) u (List.mem_of_getElem? hu) hn
  have h4 := hb.four t (List.mem_of_getElem? ht)
  have hk : ∀ k, k < 4 → ar id t k = ar id u k := fun k hk => by rw [← sg_arg id t k hk, ← sg_arg id u k hk, he]
  have ha : t.args = u.args := by
    apply List.ext_getElem hl
    intro k h1 h2
    have := hk k (by omega)
    rw [ar_some (List.getElem?_eq_getElem h1), ar_some (List.getElem?_eq_getElem h2)] at this
    exact this
  have : t = u := by cases t; cases u; simp_all
  subst this
  have h1 := (List.getElem?_eq_some_iff.1 ht)
  have h2 := (List.getElem?_eq_some_iff.1 hu)
  exact (List.getElem_inj hb.nodup).1 (h1.2.trans h2.2.symm)

end Go.Proofs.Ytinphcnknionmaa.Cc

namespace Go.Proofs.Ytinphcnknionmaa
open Go.RowKit Go.Maps

theorem gRow : (196 : TypeId) < Try.prog.types.size := of_decide_eq_true (by kernel_rfl)
theorem gCells : Try.prog.cellsOf 196 = 5 := by kernel_rfl
theorem gKeyType : Try.prog.keyType 196 = true := by kernel_rfl
theorem gKeyAt : Try.prog.keyTypeAt 3 196 = true := by kernel_rfl
theorem gLaw : Keyed Try.prog 196 := Keyed.of_law (deep_law_laid tLaid (m := 3) (by omega) gRow gKeyAt (by rw [Try.underlying196]))

/-- A signature, as the program keeps it. -/
def sigL (s : Tm) : List Value := [.string s.name, .int .i64 (s.arg 0 : Int), .int .i64 (s.arg 1 : Int), .int .i64 (s.arg 2 : Int), .int .i64 (s.arg 3 : Int)]
def sigV (s : Tm) : Value := .agg (sigL s).toArray

theorem sig_formed (t : Tm) : (sigV t).formed Try.prog 196 = true := by simp [sigV, sigL, Value.formed, Try.underlying196, gCells]

theorem sig_key (t : Tm) (h : t.ok) : ∃ kl, keyOf Try.prog 196 (sigV t) = some kl := by
  have h0 : t.name.size ≤ maxLen := Nat.le_trans h.name (by decide)
  have g0 : (Lit.int .i64 (t.arg 0 : Int)).wf = true := wf64 (by have := h.arg 0; omega)
  have g1 : (Lit.int .i64 (t.arg 1 : Int)).wf = true := wf64 (by have := h.arg 1; omega)
  have g2 : (Lit.int .i64 (t.arg 2 : Int)).wf = true := wf64 (by have := h.arg 2; omega)
  have g3 : (Lit.int .i64 (t.arg 3 : Int)).wf = true := wf64 (by have := h.arg 3; omega)
  unfold keyOf
  rw [Try.underlying196]
  simp only [gKeyType, sig_formed]
  obtain ⟨m, hm⟩ : ∃ m, Try.prog.types.size + 1 = m + 3 := ⟨Try.prog.types.size - 2, by have h9 := gRow; generalize Try.prog.types.size = z at h9 ⊢; exact (by have h8 : 3 ≤ z := Nat.le_trans (by decide) (Nat.le_of_lt h9); omega)⟩
  rw [hm]
  have hr : List.range 4 = [0, 1, 2, 3] := rfl
  simp [Program.keyLits, Try.underlying196, Try.underlying122, Try.underlying3, Try.underlying9, gCells, tCells4, tCellsI, tCellsS, sigV, sigL, Value.cells, hr, h0, g0, g1, g2, g3]

noncomputable def gkey (t : Tm) : Lit := (keyOf Try.prog 196 (sigV t)).getD (.bool false)
theorem gkey_of {t : Tm} (h : t.ok) : keyOf Try.prog 196 (sigV t) = some (gkey t) := by
  obtain ⟨kl, hk⟩ := sig_key t h
  simp [gkey, hk]
/-- A signature that may be asked for. -/
structure Sk (s : Tm) : Prop where
  ok : s.ok
  four : s.args.length = 4
theorem sigV_inj {t u : Tm} (ht : Sk t) (hu : Sk u) (h : sigV t = sigV u) : t = u := by
  have h4 := ht.four
  have k4 := hu.four
  have hok := ht.ok
  clear ht hu
  obtain ⟨n, a⟩ := t
  obtain ⟨m, b⟩ := u
  simp [sigV, sigL, Tm.arg] at h
  obtain ⟨h0, h2, h3, h4', h5⟩ := h
  have hl : a.length = b.length := by simp at h4 k4; omega
  have : a = b := args_ext hl hok.args (fun i hi => by
    rcases (by omega : i = 0 ∨ i = 1 ∨ i = 2 ∨ i = 3) with rfl | rfl | rfl | rfl <;> simp only [List.getD_eq_getElem?_getD] <;> omega)
  rw [h0, this]
theorem gkey_inj {t u : Tm} (ht : Sk t) (hu : Sk u) (h : gkey t = gkey u) : t = u :=
  sigV_inj ht hu (gLaw.inj (gkey_of ht.ok) (by rw [h]; exact gkey_of hu.ok))
theorem gkey_lit {t : Tm} (ht : t.ok) : ∃ k, gkey t = k ∧ WideAt.IsKeyLit k := by
  have h := gkey_of ht
  generalize gkey t = k at h
  exact ⟨k, rfl, gLaw.key h⟩

theorem sg_sk {l : List Tm} (hb : Cc.Bd l) {lo : Nat → Nat} (hle : ∀ i, i < l.length → lo i ≤ i) (hl : l.length ≤ 1000) {n : Nat} {t : Tm} (ht : l[n]? = some t) (hok : t.ok) : Sk (Cc.sg lo t) := by
  have ha : ∀ k, Cc.ar lo t k < 1000 := by
    intro k
    unfold Cc.ar
    cases e : t.args[k]? with
    | none => simp
    | some a =>
      have h1 := hb.args n t ht a (List.mem_of_getElem? e)
      have h2 := hle a h1
      show lo a < 1000
      omega
  refine ⟨⟨hok.name, by simp [Cc.sg], ?_⟩, rfl⟩
  intro a hm
  simp [Cc.sg] at hm
  rcases hm with rfl | rfl | rfl | rfl <;> exact ha _

/-- Blocks that never change. -/
def Sat (st : List (Nat × Obj)) (w : World) : Prop := ∀ x ∈ st, w.heap[x.1]? = some x.2
/-- A slice of numbers in them. -/
def UseIs (st : List (Nat × Obj)) (v : Value) (xs : List Nat) : Prop :=
  ∃ a cap, v = .slice a xs.length cap ∧ xs.length ≤ cap ∧ (xs = [] ∨ ∃ (b off : Nat) (c : Array Value) (fz : Nat × Nat), a = some ⟨b, off, none⟩ ∧ (b, Obj.cells c 3 fz) ∈ st ∧ ∀ j x : Nat, xs[j]? = some x → c[off + j]? = some (Value.int .i64 (x : Int)))
theorem UseIs.mono {st st' : List (Nat × Obj)} {v : Value} {xs : List Nat} (h : UseIs st v xs) (hs : ∀ x ∈ st, x ∈ st') : UseIs st' v xs := by
  obtain ⟨a, cap, e, hc, h⟩ := h
  refine ⟨a, cap, e, hc, h.imp id ?_⟩
  rintro ⟨b, off, c, fz, e1, e2, e3⟩
  exact ⟨b, off, c, fz, e1, hs _ e2, e3⟩
theorem UseIs.cell {st : List (Nat × Obj)} {v : Value} {xs : List Nat} (h : UseIs st v xs) {w : World} (hw : Sat st w) {j x : Nat} (hj : xs[j]? = some x) :
    ∃ b off cap, v = .slice (some ⟨b, off, none⟩) xs.length cap ∧ xs.length ≤ cap ∧ ∀ i y : Nat, xs[i]? = some y → w.cell? ⟨b, off + i, none⟩ = some (.int .i64 (y : Int)) := by
  obtain ⟨a, cap, e, hcap, h⟩ := h
  rcases h with rfl | ⟨b, off, c, fz, e1, e2, e3⟩
  · simp at hj
  · refine ⟨b, off, cap, by rw [e, e1], hcap, fun i y hi => ?_⟩
    have := hw _ e2
    simp only [World.cell?, this]
    exact e3 i y hi
theorem UseIs.form {st : List (Nat × Obj)} {v : Value} {xs : List Nat} (h : UseIs st v xs) : ∃ a cap, v = .slice a xs.length cap := by
  obtain ⟨a, cap, e, _, _⟩ := h
  exact ⟨a, cap, e⟩

/-- All of the classes. -/
structure Zs where
  pk : Nat
  ps : Nat
  nb : Nat
  tb : Nat
  ub : Nat
  mb : Nat
  jv : Value
  bv : Value
  av : Nat → Value
  uv : Nat → Value
  g : Uf.G
  t : List Uf.Rec
  bs : List Value
  st : List (Nat × Obj)
  us : Nat → List Nat
  kn : Tm → Option Nat
  ms : Nat

def Zs.Foot (z : Zs) (k : Nat) : Prop := k = z.pk ∨ Go.Proofs.Ytinphcnknionmaa.Foot z.ps z.nb z.jv k ∨ k = z.ub ∨ k = z.mb ∨ z.bv.ownBlock = some k

def clsC (z : Zs) (n : Nat) (j : Nat) : Value :=
  if j = 0 then .pointer (some ⟨z.ps, 0, none⟩) else if j = 1 then .slice (some ⟨z.tb, 0, none⟩) n n else if j = 2 then .slice (some ⟨z.ub, 0, none⟩) n n else if j = 3 then .map (some z.mb) else z.bv
def termC (l : List Tm) (av : Nat → Value) (j : Nat) : Value := if j % 2 = 0 then .string ((l[j / 2]?).map Tm.name |>.getD ⟨#[]⟩) else av (j / 2)

/-- The classes lie at block pk. -/
structure Cz (w : World) (base : Nat) (l : List Tm) (z : Zs) : Prop where
  cls : w.rowIs z.pk 150 5 (clsC z l.length)
  sets : St w base z.ps z.nb z.jv l.length z.g z.t
  terms : w.rowIs z.tb 42 (l.length * 2) (termC l z.av)
  uses : w.rowIs z.ub 198 l.length z.uv
  known : ∃ D, mapIs w 196 z.mb D ∧ Maps.size D ≤ z.ms ∧ ∀ s : Tm, Sk s → Says D (gkey s) (z.kn s)
  back : w.ownsRow base 1 1 z.bv z.bs.length z.bs
  sat : Sat z.st w
  far : ∀ x ∈ z.st, base ≤ x.1 ∧ ¬ z.Foot x.1
  argsAt : ∀ (i : Nat) (t : Tm), l[i]? = some t → UseIs z.st (z.av i) t.args
  usesAt : ∀ i, i < l.length → UseIs z.st (z.uv i) (z.us i)
  bd : Cc.Bd l
  oks : ∀ t ∈ l, t.ok
  len : l.length ≤ 150
  bp : base ≤ z.pk
  bt : base ≤ z.tb
  bu : base ≤ z.ub
  bm : base ≤ z.mb

theorem ownsRow_block {w w' : World} {base size n : Nat} {e : TypeId} {v : Value} {xs : List Value} (h : w.ownsRow base e size v n xs) (he : ∀ k, v.ownBlock = some k → w'.heap[k]? = w.heap[k]?) : w'.ownsRow base e size v n xs := by
  refine ⟨h.1, ?_⟩
  rcases h.2 with e | ⟨b, cap, cur, e, e1, e2, e3⟩
  · exact Or.inl e
  · exact Or.inr ⟨b, cap, cur, e, e1, (he b (by rw [e]; rfl)).trans e2, e3⟩
theorem mapIs_block {w w' : World} {k : TypeId} {b : Nat} {D : DataW Unit} (h : mapIs w k b D) (hn : w'.heap[b]? = w.heap[b]?) : mapIs w' k b D := by
  obtain ⟨es, ck, n1, n2, n3, n4⟩ := h
  exact ⟨es, ck, hn.trans n1, n2, n3, n4⟩

/-- All blocks that it lies in. -/
def Zs.All (z : Zs) (k : Nat) : Prop := z.Foot k ∨ k = z.tb ∨ ∃ o, (k, o) ∈ z.st

theorem Cz.foot_lt {w : World} {base : Nat} {l : List Tm} {z : Zs} (h : Cz w base l z) {k : Nat} (hk : z.Foot k) : k < w.heap.size := by
  obtain ⟨D, d1, _⟩ := h.known
  rcases hk with e | (e | e | e) | e | e | e
  · rw [e]; exact h.cls.lt
  · rw [e]; exact h.sets.lies.sets.lt
  · rw [e]; exact h.sets.lies.nodes.lt
  · exact (h.sets.lies.joins.lt k e).2
  · rw [e]; exact h.uses.lt
  · rw [e]; exact World.ownsMap.lt d1
  · exact (h.back.lt k e).2
theorem Cz.foot_ge {w : World} {base : Nat} {l : List Tm} {z : Zs} (h : Cz w base l z) {k : Nat} (hk : z.Foot k) : base ≤ k := by
  rcases hk with e | (e | e | e) | e | e | e
  · rw [e]; exact h.bp
  · rw [e]; exact h.sets.lies.bp
  · rw [e]; exact h.sets.lies.bn
  · exact (h.sets.lies.joins.lt k e).1
  · rw [e]; exact h.bu
  · rw [e]; exact h.bm
  · exact (h.back.lt k e).1
theorem Cz.all_lt {w : World} {base : Nat} {l : List Tm} {z : Zs} (h : Cz w base l z) {k : Nat} (hk : z.All k) : k < w.heap.size := by
  rcases hk with e | e | ⟨o, e⟩
  · exact h.foot_lt e
  · rw [e]; exact h.terms.lt
  · exact (Array.getElem?_eq_some_iff.1 (h.sat _ e)).1
theorem Cz.all_ge {w : World} {base : Nat} {l : List Tm} {z : Zs} (h : Cz w base l z) {k : Nat} (hk : z.All k) : base ≤ k := by
  rcases hk with e | e | ⟨o, e⟩
  · exact h.foot_ge e
  · rw [e]; exact h.bt
  · exact (h.far _ e).1

/-- Others' changes leave it alone. -/
theorem Cz.keep {w w' : World} {base : Nat} {l : List Tm} {z : Zs} (h : Cz w base l z) {S : Nat → Prop} (K : Kept S w w') (hS : ∀ k, z.All k → ¬ S k) : Cz w' base l z := by
  have B : ∀ k, z.All k → w'.heap[k]? = w.heap[k]? := fun k hk => K.block k (h.all_lt hk) (hS k hk)
  obtain ⟨D, d1, d2, d3⟩ := h.known
  refine ⟨h.cls.of_block (B _ (.inl (.inl rfl))), h.sets.other K (hS _ (.inl (.inr (.inl (.inl rfl))))) (hS _ (.inl (.inr (.inl (.inr (.inl rfl)))))) (fun k hk => hS k (.inl (.inr (.inl (.inr (.inr hk)))))), h.terms.of_block (B _ (.inr (.inl rfl))), h.uses.of_block (B _ (.inl (.inr (.inr (.inl rfl))))),
    ⟨D, mapIs_block d1 (B _ (.inl (.inr (.inr (.inr (.inl rfl)))))), d2, d3⟩, ownsRow_block h.back (fun k hk => B k (.inl (.inr (.inr (.inr (.inr hk)))))), fun x hx => (B x.1 (.inr (.inr ⟨x.2, hx⟩))).trans (h.sat x hx), h.far, h.argsAt, h.usesAt, h.bd, h.oks, h.len, h.bp, h.bt, h.bu, h.bm⟩
theorem Cz.kept0 {w w' : World} {base : Nat} {l : List Tm} {z : Zs} (h : Cz w base l z) (K : Kept0 w w') : Cz w' base l z := h.keep K (fun _ _ e => e)
theorem Cz.drewN {w : World} {base : Nat} {l : List Tm} {z : Zs} (h : Cz w base l z) (m : Nat) : Cz (w.drewN m) base l z := h.kept0 ((Kept.refl _ w).drewN m)
theorem Cz.drew {w : World} {base : Nat} {l : List Tm} {z : Zs} (h : Cz w base l z) : Cz w.drew base l z := h.kept0 (Kept.refl _ w).drew

theorem Cz.k0 {w : World} {base : Nat} {l : List Tm} {z : Zs} (h : Cz w base l z) : w.cell? ⟨z.pk, 0, none⟩ = some (.pointer (some ⟨z.ps, 0, none⟩)) := h.cls.cell (i := 0) (by omega)
theorem Cz.k1 {w : World} {base : Nat} {l : List Tm} {z : Zs} (h : Cz w base l z) : w.cell? ⟨z.pk, 1, none⟩ = some (.slice (some ⟨z.tb, 0, none⟩) l.length l.length) := h.cls.cell (i := 1) (by omega)
theorem Cz.k2 {w : World} {base : Nat} {l : List Tm} {z : Zs} (h : Cz w base l z) : w.cell? ⟨z.pk, 2, none⟩ = some (.slice (some ⟨z.ub, 0, none⟩) l.length l.length) := h.cls.cell (i := 2) (by omega)
theorem Cz.k3 {w : World} {base : Nat} {l : List Tm} {z : Zs} (h : Cz w base l z) : w.cell? ⟨z.pk, 3, none⟩ = some (.map (some z.mb)) := h.cls.cell (i := 3) (by omega)
theorem Cz.k4 {w : World} {base : Nat} {l : List Tm} {z : Zs} (h : Cz w base l z) : w.cell? ⟨z.pk, 4, none⟩ = some z.bv := h.cls.cell (i := 4) (by omega)
theorem Cz.t0 {w : World} {base : Nat} {l : List Tm} {z : Zs} (h : Cz w base l z) {n : Nat} {t : Tm} (ht : l[n]? = some t) : w.cell? ⟨z.tb, n * 2, none⟩ = some (.string t.name) := by
  have hn := (List.getElem?_eq_some_iff.1 ht).1
  rw [h.terms.cell (i := n * 2) (by omega)]
  simp [termC, ht]
theorem Cz.t1 {w : World} {base : Nat} {l : List Tm} {z : Zs} (h : Cz w base l z) {n : Nat} {t : Tm} (ht : l[n]? = some t) : w.cell? ⟨z.tb, n * 2 + 1, none⟩ = some (z.av n) := by
  have hn := (List.getElem?_eq_some_iff.1 ht).1
  rw [h.terms.cell (i := n * 2 + 1) (by omega)]
  have h1 : (n * 2 + 1) % 2 = 1 := by omega
  have h2 : (n * 2 + 1) / 2 = n := by omega
  simp [termC, h1, h2]
theorem Cz.u {w : World} {base : Nat} {l : List Tm} {z : Zs} (h : Cz w base l z) {n : Nat} (hn : n < l.length) : w.cell? ⟨z.ub, n, none⟩ = some (z.uv n) := h.uses.cell (by omega)
theorem Cz.ok {w : World} {base : Nat} {l : List Tm} {z : Zs} (h : Cz w base l z) : Uf.Ok l.length z.g z.t.length := h.sets.ok

/-- The least term of a class. -/
theorem Cz.least {w : World} {base : Nat} {l : List Tm} {z : Zs} (h : Cz w base l z) {a : Nat} (ha : a < l.length) :
    Calls Try.prog 27 #[.pointer (some ⟨z.ps, 0, none⟩), .int .i64 (a : Int)] w fun e w' => e = .returned (.int .i64 (z.g.lo a : Int)) ∧ ∃ m, w' = w.drewN m := by
  have := Least_in w base z.ps z.nb l.length z.g z.jv _ h.sets.lies _ h.ok a
  rw [inB_nat ha, if_pos rfl, Int.toNat_natCast] at this
  exact this

end Go.Proofs.Ytinphcnknionmaa

namespace Go.Proofs.Ytinphcnknionmaa
open Go.RowKit Go.Maps

theorem Kept.setNew {S : Nat → Prop} {w W : World} (h : Kept S w W) {b off : Nat} (hb : w.heap.size ≤ b) (u : Value) : Kept S w (W.setCell ⟨b, off, none⟩ u) :=
  ⟨h.os, h.tape, h.output, by simpa [World.setCell] using h.size, fun k hk hs => (Below.heap_setCell _ _ _ _ (fun e => by have : k = b := e; omega)).trans (h.block k hk hs)⟩

/-- A signature that is filled in as far as k. -/
def sgF (s : Tm) (k : Nat) (j : Nat) : Value := if j = 0 then .string s.name else if j ≤ k then .int .i64 (s.arg (j - 1) : Int) else .int .i64 0

theorem sgF_step {lo : Nat → Nat} {t : Tm} {k a : Nat} (h4 : t.args.length ≤ 4) (hk : t.args[k]? = some a) : ∀ j, j < 5 → (if j = 1 + k then Value.int .i64 (lo a : Int) else sgF (Cc.sg lo t) k j) = sgF (Cc.sg lo t) (k + 1) j := by
  intro j hj
  have hkl := (List.getElem?_eq_some_iff.1 hk).1
  have ha : (Cc.sg lo t).arg k = lo a := by rw [Cc.sg_arg _ _ _ (by omega), Cc.ar_some hk]
  unfold sgF
  by_cases e : j = 1 + k
  · subst e
    rw [if_pos rfl, if_neg (by omega), if_pos (by omega), show 1 + k - 1 = k by omega, ha]
  · rw [if_neg e]
    by_cases e0 : j = 0
    · rw [if_pos e0, if_pos e0]
    · rw [if_neg e0, if_neg e0]
      by_cases e1 : j ≤ k
      · rw [if_pos e1, if_pos (by omega)]
      · rw [if_neg e1, if_neg (by omega)]


theorem sgF_all {lo : Nat → Nat} {t : Tm} {j : Nat} (h4 : t.args.length ≤ 4) (hj : j < 5) : (sigL (Cc.sg lo t)).toArray[j]?.getD undef = sgF (Cc.sg lo t) t.args.length j := by
  have hz : ∀ k, t.args.length ≤ k → k < 4 → (Cc.sg lo t).arg k = 0 := fun k h1 h2 => by
    rw [Cc.sg_arg _ _ _ h2]
    unfold Cc.ar
    rw [List.getElem?_eq_none h1]
  unfold sgF
  rcases (by omega : j = 0 ∨ j = 1 ∨ j = 2 ∨ j = 3 ∨ j = 4) with rfl | rfl | rfl | rfl | rfl
  · rfl
  · by_cases e : 1 ≤ t.args.length
    · simp [sigL, e]
    · simp [sigL, e, hz 0 (by omega)]
  · by_cases e : 2 ≤ t.args.length
    · simp [sigL, e]
    · simp [sigL, e, hz 1 (by omega)]
  · by_cases e : 3 ≤ t.args.length
    · simp [sigL, e]
    · simp [sigL, e, hz 2 (by omega)]
  · by_cases e : 4 ≤ t.args.length
    · simp [sigL, e]
    · simp [sigL, e, hz 3 (by omega)]

set_option maxHeartbeats 1000000 in
set_option maxRecDepth 100000 in
theorem sig_in (w : World) (base : Nat) (l : List Tm) (z : Zs) (h : Cz w base l z) (n : Nat) (t : Tm) (ht : l[n]? = some t) :
    Calls Try.prog 121 #[.pointer (some ⟨z.pk, 0, none⟩), .int .i64 (n : Int)] w fun e w' => e = .returned (sigV (Cc.sg z.g.lo t)) ∧ Kept0 w w' := by
  have hn : n < l.length := (List.getElem?_eq_some_iff.1 ht).1
  have hlen := h.len
  have hok := h.oks t (List.mem_of_getElem? ht)
  have h4 := hok.args
  have hargs := h.argsAt n t ht
  have hV : sigV (Cc.sg z.g.lo t) = .agg #[.string (Cc.sg z.g.lo t).name, .int .i64 ((Cc.sg z.g.lo t).arg 0 : Int), .int .i64 ((Cc.sg z.g.lo t).arg 1 : Int), .int .i64 ((Cc.sg z.g.lo t).arg 2 : Int), .int .i64 ((Cc.sg z.g.lo t).arg 3 : Int)] := rfl
  rw [hV]
  clear hV
  have K1 : Kept0 w (w.alloc (.cells #[.string ⟨#[]⟩, .int .i64 0, .int .i64 0, .int .i64 0, .int .i64 0] 196)) := Kept.alloc (Kept.refl _ w) _
  have R1 := made_row w #[.string ⟨#[]⟩, .int .i64 0, .int .i64 0, .int .i64 0, .int .i64 0] 196
  have k1 := (h.kept0 K1).k1
  have t0 := (h.kept0 K1).t0 ht
  have t1 := (h.kept0 K1).t1 ht
  obtain ⟨aa, ac, hav⟩ := hargs.form
  rw [hav] at t1 hargs
  go_enter Try.func121, Try.ntmps121
  go_wp2_with fail
  have F0 : ∀ W : World, (W.alloc (.cells #[.string t.name, .int .i64 0, .int .i64 0, .int .i64 0, .int .i64 0] 196)).rowIs W.heap.size 196 5 (sgF (Cc.sg z.g.lo t) 0) := fun W => (made_row W #[.string t.name, .int .i64 0, .int .i64 0, .int .i64 0, .int .i64 0] 196).congr (fun j hj => by
    have hj' : j < 5 := hj
    rcases (by omega : j = 0 ∨ j = 1 ∨ j = 2 ∨ j = 3 ∨ j = 4) with rfl | rfl | rfl | rfl | rfl <;> rfl)
  have F1 := F0 ((w.alloc (.cells #[.string ⟨#[]⟩, .int .i64 0, .int .i64 0, .int .i64 0, .int .i64 0] 196)).alloc (.cells #[.string t.name, .slice aa t.args.length ac] 42))
  have hsz : ((w.alloc (.cells #[.string ⟨#[]⟩, .int .i64 0, .int .i64 0, .int .i64 0, .int .i64 0] 196)).alloc (.cells #[.string t.name, .slice aa t.args.length ac] 42)).heap.size = w.heap.size + 1 + 1 := by simp
  rw [hsz] at F1
  have K3 := (K1.alloc (.cells #[.string t.name, .slice aa t.args.length ac] 42)).alloc (.cells #[.string t.name, .int .i64 0, .int .i64 0, .int .i64 0, .int .i64 0] 196)
  have R3 := World.rowIs.alloc (World.rowIs.alloc R1 (.cells #[.string t.name, .slice aa t.args.length ac] 42)) (.cells #[.string t.name, .int .i64 0, .int .i64 0, .int .i64 0, .int .i64 0] 196)
  generalize ((w.alloc (.cells #[.string ⟨#[]⟩, .int .i64 0, .int .i64 0, .int .i64 0, .int .i64 0] 196)).alloc (.cells #[.string t.name, .slice aa t.args.length ac] 42)).alloc (.cells #[.string t.name, .int .i64 0, .int .i64 0, .int .i64 0, .int .i64 0] 196) = w3 at F1 K3 R3 ⊢
  clear F0 hsz K1 R1 k1 t0 t1
  have hb6 : w.heap.size < w.heap.size + 1 + 1 := by omega
  generalize w.heap.size + 1 + 1 = b6 at F1 hb6 ⊢
  go_loopw [22] (fun t22 W => ∃ k : Nat, k ≤ t.args.length ∧ t22 = .int .i64 (k : Int) ∧ W.rowIs b6 196 5 (sgF (Cc.sg z.g.lo t) k) ∧ (∃ f, W.rowIs w.heap.size 196 5 f) ∧ Kept0 w W) (fun t22 _ => t.args.length - (intOf t22).toNat)
  case atStart => exact ⟨0, by omega, rfl, F1, ⟨_, R3⟩, K3⟩
  case round =>
    clear F1 R3 K3
    obtain ⟨k, hk, rfl, F, ⟨f4, R4⟩, K⟩ := hrel
    have H := h.kept0 K
    have k0 := H.k0
    by_cases hk2 : k < t.args.length
    · have dk : decide ((k : Int) < (t.args.length : Int)) = true := decide_eq_true (by omega)
      have hka : t.args[k]? = some t.args[k] := List.getElem?_eq_getElem hk2
      obtain ⟨b, off, cap, hv, _, hc⟩ := hargs.cell H.sat hka
      injection hv with e1 e2 e3
      subst e1 e3
      have ck := hc k _ hka
      have hlt := h.bd.args n t ht _ (List.getElem_mem hk2)
      have LE := fun m => (H.drewN m).least hlt
      have hka4 := h.bd.four t (List.mem_of_getElem? ht)
      have x1 : wr.cell? ⟨b6, 1 + k, none⟩ = some (.int .i64 0) := by
        rw [F.cell (i := 1 + k) (by omega)]
        simp [sgF]
        omega
      have x2 := F.frozen (1 + k)
      clear hc
      go_wp2_with (go_at_call 27; refine (LE 0).mono ?_; rintro e w9 ⟨rfl, m9, rfl⟩)
      refine ⟨⟨k + 1, by omega, by simp, ?_, ⟨_, World.rowIs.setOther (World.rowIs.of_block R4 rfl) (show w.heap.size ≠ b6 by omega) _⟩, Kept.setNew (K.drewN _) (by omega) _⟩, by simp [intOf]; omega⟩
      exact World.rowIs.congr (World.rowIs.set (World.rowIs.of_block F rfl : (wr.drewN m9).rowIs b6 196 5 _) (1 + k) _) (sgF_step hka4 hka)
    · have dk : decide ((k : Int) < (t.args.length : Int)) = false := decide_eq_false (by omega)
      obtain rfl : k = t.args.length := by omega
      have FA : wr.rowIs b6 196 5 (fun j => (sigL (Cc.sg z.g.lo t)).toArray[j]?.getD undef) := F.congr (fun j hj => (sgF_all h4 hj).symm)
      have x0 : wr.cell? ⟨b6, 0, none⟩ = some (.string (Cc.sg z.g.lo t).name) := FA.cell (i := 0) (by omega)
      have x1 : wr.cell? ⟨b6, 1, none⟩ = some (.int .i64 ((Cc.sg z.g.lo t).arg 0 : Int)) := FA.cell (i := 1) (by omega)
      have x2 : wr.cell? ⟨b6, 2, none⟩ = some (.int .i64 ((Cc.sg z.g.lo t).arg 1 : Int)) := FA.cell (i := 2) (by omega)
      have x3 : wr.cell? ⟨b6, 3, none⟩ = some (.int .i64 ((Cc.sg z.g.lo t).arg 2 : Int)) := FA.cell (i := 3) (by omega)
      have x4 : wr.cell? ⟨b6, 4, none⟩ = some (.int .i64 ((Cc.sg z.g.lo t).arg 3 : Int)) := FA.cell (i := 4) (by omega)
      have y0 := R4.cell (i := 0) (by omega)
      have y1 := R4.cell (i := 1) (by omega)
      have y2 := R4.cell (i := 2) (by omega)
      have y3 := R4.cell (i := 3) (by omega)
      have y4 := R4.cell (i := 4) (by omega)
      have v0 := R4.frozen 0
      have v1 := R4.frozen 1
      have v2 := R4.frozen 2
      have v3 := R4.frozen 3
      have v4 := R4.frozen 4
      have hbne : ¬ w.heap.size = b6 := by omega
      go_wp2_with fail
      generalize Cc.sg z.g.lo t = s at *
      have K5 := Kept.setNew (off := 4) (Kept.setNew (off := 3) (Kept.setNew (off := 2) (Kept.setNew (off := 1) (Kept.setNew (off := 0) K (Nat.le_refl _) (.string s.name)) (Nat.le_refl _) (.int .i64 (s.arg 0 : Int))) (Nat.le_refl _) (.int .i64 (s.arg 1 : Int))) (Nat.le_refl _) (.int .i64 (s.arg 2 : Int))) (Nat.le_refl _) (.int .i64 (s.arg 3 : Int))
      have R5 := ((((R4.set 0 (.string s.name)).set 1 (.int .i64 (s.arg 0 : Int))).set 2 (.int .i64 (s.arg 1 : Int))).set 3 (.int .i64 (s.arg 2 : Int))).set 4 (.int .i64 (s.arg 3 : Int))
      generalize ((((wr.setCell ⟨w.heap.size, 0, none⟩ (.string s.name)).setCell ⟨w.heap.size, 1, none⟩ (.int .i64 (s.arg 0 : Int))).setCell ⟨w.heap.size, 2, none⟩ (.int .i64 (s.arg 1 : Int))).setCell ⟨w.heap.size, 3, none⟩ (.int .i64 (s.arg 2 : Int))).setCell ⟨w.heap.size, 4, none⟩ (.int .i64 (s.arg 3 : Int)) = w5 at K5 R5 ⊢
      have z0 : w5.cell? ⟨w.heap.size, 0, none⟩ = some (.string s.name) := R5.cell (i := 0) (by omega)
      have z1 : w5.cell? ⟨w.heap.size, 1, none⟩ = some (.int .i64 (s.arg 0 : Int)) := R5.cell (i := 1) (by omega)
      have z2 : w5.cell? ⟨w.heap.size, 2, none⟩ = some (.int .i64 (s.arg 1 : Int)) := R5.cell (i := 2) (by omega)
      have z3 : w5.cell? ⟨w.heap.size, 3, none⟩ = some (.int .i64 (s.arg 2 : Int)) := R5.cell (i := 3) (by omega)
      have z4 : w5.cell? ⟨w.heap.size, 4, none⟩ = some (.int .i64 (s.arg 3 : Int)) := R5.cell (i := 4) (by omega)
      refine ⟨rfl, .agg #[.string s.name, .int .i64 (s.arg 0 : Int), .int .i64 (s.arg 1 : Int), .int .i64 (s.arg 2 : Int), .int .i64 (s.arg 3 : Int)], by simp [results, Try.results121, go_sem, z0, z1, z2, z3, z4], rfl, K5⟩

end Go.Proofs.Ytinphcnknionmaa
