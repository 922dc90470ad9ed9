/- The plain mathematics of package close: what follows from equalities, by a list of what is to do. No Go here. The plain mathematics of package close: the first uses. No Go here. Package close: a closure in memory. Package close: signature. Package close: what changes the classes, part by part. Package close: together. Package close: termsOf. Package close: firstUses. -/
import Derived.Test.YtjfekcjhflcnaaaTe1
import Derived.Test.YtjfekcjhflcnaaaTe2
import Derived.Test.YtjfekcjhflcnaaaFiG
import Derived.Deep.RegionLaw
import Derived.Test.YtjfekcjhflcnaaaTermT
import Derived.Test.YtjfekcjhflcnaaaRefE
namespace Go.Proofs.Ytjfekcjhflcnaaa.Cc

/-- What a bank's list keeps to. -/
structure Bd (l : List Tm) : Prop where
  args : ∀ (n : Nat) (t : Tm), l[n]? = some t → ∀ a ∈ t.args, a < l.length
  four : ∀ t ∈ l, t.args.length ≤ 4
  one : ∀ t ∈ l, ∀ u ∈ l, t.name = u.name → t.args.length = u.args.length
  nodup : l.Nodup

/-- The class of arg k, 0 behind the last. -/
def ar (lo : Nat → Nat) (t : Tm) (k : Nat) : Nat := match t.args[k]? with
  | some a => lo a
  | none => 0
/-- A term's signature. -/
def sg (lo : Nat → Nat) (t : Tm) : Tm := ⟨t.name, [ar lo t 0, ar lo t 1, ar lo t 2, ar lo t 3]⟩
theorem sg_arg (lo : Nat → Nat) (t : Tm) (k : Nat) (hk : k < 4) : (sg lo t).arg k = ar lo t k := by
  rcases (by omega : k = 0 ∨ k = 1 ∨ k = 2 ∨ k = 3) with rfl | rfl | rfl | rfl <;> rfl
theorem sg_congr {lo lo' : Nat → Nat} {t : Tm} (h : ∀ a ∈ t.args, lo a = lo' a) : sg lo t = sg lo' t := by
  have : ∀ k, ar lo t k = ar lo' t k := by
    intro k
    unfold ar
    cases e : t.args[k]? with
    | none => rfl
    | some a => exact h a (List.mem_of_getElem? e)
  simp [sg, this]

/-- The closure. -/
inductive Cg (l : List Tm) (P : List (Nat × Nat)) : Nat → Nat → Prop
  | told {a b : Nat} : (a, b) ∈ P → a < l.length → b < l.length → Cg l P a b
  | refl {a : Nat} : a < l.length → Cg l P a a
  | symm {a b : Nat} : Cg l P a b → Cg l P b a
  | trans {a b c : Nat} : Cg l P a b → Cg l P b c → Cg l P a c
  | cong {i j : Nat} {t u : Tm} : l[i]? = some t → l[j]? = some u → t.name = u.name → t.args.length = u.args.length → (∀ k a b : Nat, t.args[k]? = some a → u.args[k]? = some b → Cg l P a b) → Cg l P i j

theorem Cg.mono {l : List Tm} {P Q : List (Nat × Nat)} (h : ∀ a b, (a, b) ∈ P → a < l.length → b < l.length → Cg l Q a b) {i j : Nat} (hc : Cg l P i j) : Cg l Q i j := by
  induction hc with
  | told hm ha hb => exact h _ _ hm ha hb
  | refl ha => exact .refl ha
  | symm _ ih => exact .symm ih
  | trans _ _ i1 i2 => exact .trans i1 i2
  | cong h1 h2 h3 h4 _ ih => exact .cong h1 h2 h3 h4 ih

theorem Cg.lt {l : List Tm} {P : List (Nat × Nat)} {i j : Nat} (hc : Cg l P i j) : i < l.length ∧ j < l.length := by
  induction hc with
  | told _ ha hb => exact ⟨ha, hb⟩
  | refl ha => exact ⟨ha, ha⟩
  | symm _ ih => exact ⟨ih.2, ih.1⟩
  | trans _ _ i1 i2 => exact ⟨i1.1, i2.2⟩
  | cong h1 h2 _ _ _ _ => exact ⟨(List.getElem?_eq_some_iff.1 h1).1, (List.getElem?_eq_some_iff.1 h2).1⟩

/-- The same by the classes and what is to do. -/
inductive Ev (N : Nat) (lo : Nat → Nat) (todo : List (Nat × Nat)) : Nat → Nat → Prop
  | same {i j : Nat} : i < N → j < N → lo i = lo j → Ev N lo todo i j
  | todo {i j : Nat} : (i, j) ∈ todo → Ev N lo todo i j
  | symm {i j : Nat} : Ev N lo todo i j → Ev N lo todo j i
  | trans {i j k : Nat} : Ev N lo todo i j → Ev N lo todo j k → Ev N lo todo i k

theorem Ev.mono {N : Nat} {lo lo' : Nat → Nat} {td td' : List (Nat × Nat)} (h1 : ∀ i j, i < N → j < N → lo i = lo j → lo' i = lo' j) (h2 : ∀ i j, (i, j) ∈ td → Ev N lo' td' i j) {i j : Nat} (h : Ev N lo td i j) : Ev N lo' td' i j := by
  induction h with
  | same hi hj he => exact .same hi hj (h1 _ _ hi hj he)
  | todo hm => exact h2 _ _ hm
  | symm _ ih => exact .symm ih
  | trans _ _ i1 i2 => exact .trans i1 i2
theorem Ev.more {N : Nat} {lo : Nat → Nat} {td : List (Nat × Nat)} (ps : List (Nat × Nat)) {i j : Nat} (h : Ev N lo td i j) : Ev N lo (td ++ ps) i j :=
  h.mono (fun _ _ _ _ e => e) (fun _ _ hm => .todo (List.mem_append_left _ hm))
theorem Ev.done {N : Nat} {lo : Nat → Nat} {i j : Nat} (h : Ev N lo [] i j) : lo i = lo j := by
  induction h with
  | same _ _ he => exact he
  | todo hm => cases hm
  | symm _ ih => exact ih.symm
  | trans _ _ i1 i2 => exact i1.trans i2

/-- How often term n uses class r. -/
def uc (l : List Tm) (lo : Nat → Nat) (r n : Nat) : Nat := match l[n]? with
  | some t => t.args.countP (fun a => lo a == r)
  | none => 0

structure Inv (l : List Tm) (P : List (Nat × Nat)) (lo : Nat → Nat) (us : Nat → List Nat) (kn : Tm → Option Nat) (todo : List (Nat × Nat)) (pend : List Nat) : Prop where
  le : ∀ i, i < l.length → lo i ≤ i
  idem : ∀ i, i < l.length → lo (lo i) = lo i
  inr : ∀ p ∈ todo, p.1 < l.length ∧ p.2 < l.length
  pin : ∀ n ∈ pend, n < l.length
  uses : ∀ r, r < l.length → lo r = r → ∀ n, (us r).count n = uc l lo r n
  keys : ∀ (n : Nat) (t : Tm), l[n]? = some t → n ∉ pend → ∃ m, kn (sg lo t) = some m ∧ Ev l.length lo todo n m
  says : ∀ (s : Tm) (m : Nat), kn s = some m → ∃ u : Tm, l[m]? = some u ∧ u.name = s.name ∧ ∀ k, k < 4 → (∀ a, u.args[k]? = some a → s.arg k < l.length ∧ lo a = lo (s.arg k)) ∧ (u.args[k]? = none → s.arg k = 0)
  snd : ∀ i j, i < l.length → j < l.length → lo i = lo j → Cg l P i j
  tsnd : ∀ p ∈ todo, Cg l P p.1 p.2
  tld : ∀ p ∈ P, p.1 < l.length ∧ p.2 < l.length ∧ Ev l.length lo todo p.1 p.2

theorem Inv.used {l : List Tm} {P : List (Nat × Nat)} {lo : Nat → Nat} {us : Nat → List Nat} {kn : Tm → Option Nat} {todo : List (Nat × Nat)} {pend : List Nat} (h : Inv l P lo us kn todo pend) {n : Nat} {t : Tm} (ht : l[n]? = some t) {a : Nat} (ha : a ∈ t.args) {r : Nat} (hr : r < l.length) (hrr : lo r = r) (hl : lo a = r) : n ∈ us r := by
  have hc := h.uses r hr hrr n
  rw [uc, ht] at hc
  simp only at hc
  have : 0 < t.args.countP (fun a => lo a == r) := List.countP_pos_iff.2 ⟨a, ha, by simp [hl]⟩
  exact List.count_pos_iff.1 (by omega)

theorem uc_le {l : List Tm} (hb : Bd l) (lo : Nat → Nat) (r n : Nat) : uc l lo r n ≤ 4 := by
  unfold uc
  cases e : l[n]? with
  | none => simp
  | some t => exact Nat.le_trans List.countP_le_length (hb.four t (List.mem_of_getElem? e))

theorem length_count (N : Nat) : ∀ xs : List Nat, (∀ x ∈ xs, x < N) → (∀ n, xs.count n ≤ 4) → xs.length ≤ 4 * N := by
  induction N with
  | zero =>
    intro xs h _
    cases xs with
    | nil => simp
    | cons x xs => exact absurd (h x (by simp)) (by omega)
  | succ N ih =>
    intro xs h hc
    have h1 := ih (xs.filter (fun x => !(x == N))) (fun x hx => by
      obtain ⟨hm, hn⟩ := List.mem_filter.1 hx
      have := h x hm
      simp at hn
      omega) (fun n => Nat.le_trans (List.Sublist.count_le n (List.filter_sublist)) (hc n))
    have h2 : xs.length = (xs.filter (fun x => !(x == N))).length + xs.count N := by
      clear h hc h1 ih
      induction xs with
      | nil => rfl
      | cons x xs ih =>
        by_cases e : x = N
        · subst e; simp; omega
        · have e' : (x == N) = false := beq_eq_false_iff_ne.2 e
          simp [e', List.count_cons, ih]; omega
    have := hc N
    omega

theorem Inv.uin {l : List Tm} {P : List (Nat × Nat)} {lo : Nat → Nat} {us : Nat → List Nat} {kn : Tm → Option Nat} {todo : List (Nat × Nat)} {pend : List Nat} (h : Inv l P lo us kn todo pend) {r : Nat} (hr : r < l.length) (hrr : lo r = r) : ∀ n ∈ us r, n < l.length := by
  intro n hn
  have hc := h.uses r hr hrr n
  have hp := List.count_pos_iff.2 hn
  unfold uc at hc
  cases e : l[n]? with
  | none => rw [e] at hc; simp only at hc; omega
  | some t => exact (List.getElem?_eq_some_iff.1 e).1
theorem Inv.ulen {l : List Tm} (hb : Bd l) {P : List (Nat × Nat)} {lo : Nat → Nat} {us : Nat → List Nat} {kn : Tm → Option Nat} {todo : List (Nat × Nat)} {pend : List Nat} (h : Inv l P lo us kn todo pend) {r : Nat} (hr : r < l.length) (hrr : lo r = r) : (us r).length ≤ 4 * l.length :=
  length_count _ _ (h.uin hr hrr) (fun n => by rw [h.uses r hr hrr n]; exact uc_le hb _ _ _)

/-- What stands last is the same already. -/
theorem Inv.drop {l : List Tm} {P : List (Nat × Nat)} {lo : Nat → Nat} {us : Nat → List Nat} {kn : Tm → Option Nat} {todo : List (Nat × Nat)} {a b : Nat} (h : Inv l P lo us kn (todo ++ [(a, b)]) []) (he : lo a = lo b) : Inv l P lo us kn todo [] := by
  have hin := h.inr (a, b) (by simp)
  have E : ∀ {i j}, Ev l.length lo (todo ++ [(a, b)]) i j → Ev l.length lo todo i j := fun x => x.mono (fun _ _ _ _ e => e) (fun i j hm => by
    rcases List.mem_append.1 hm with hm | hm
    · exact .todo hm
    · simp at hm
      obtain ⟨rfl, rfl⟩ := hm
      exact .same hin.1 hin.2 he)
  exact ⟨h.le, h.idem, fun p hp => h.inr p (List.mem_append_left _ hp), h.pin, h.uses, fun n t ht hn => by obtain ⟨m, h1, h2⟩ := h.keys n t ht hn; exact ⟨m, h1, E h2⟩, h.says, h.snd, fun p hp => h.tsnd p (List.mem_append_left _ hp), fun p hp => ⟨(h.tld p hp).1, (h.tld p hp).2.1, E (h.tld p hp).2.2⟩⟩

/-- Two classes become one. -/
theorem Inv.join {l : List Tm} {P : List (Nat × Nat)} {lo lo' : Nat → Nat} {us us' : Nat → List Nat} {kn : Tm → Option Nat} {todo : List (Nat × Nat)} {p : Nat × Nat} (hb : Bd l) (h : Inv l P lo us kn (todo ++ [p]) []) {a b low high : Nat} (hp : p = (a, b) ∨ p = (b, a))
    (ha : lo a = low) (hbh : lo b = high) (hlt : low < high) (hlo : ∀ i, i < l.length → lo' i = if lo i = high then low else lo i) (hus : ∀ r, r < l.length → us' r = if r = low then us low ++ us high else us r) : Inv l P lo' us' kn todo (us high) := by
  have hin := h.inr p (by simp)
  have hab : a < l.length ∧ b < l.length := by rcases hp with rfl | rfl <;> exact ⟨by first | exact hin.1 | exact hin.2, by first | exact hin.2 | exact hin.1⟩
  have cab : Cg l P a b := by
    have := h.tsnd p (by simp)
    rcases hp with rfl | rfl
    · exact this
    · exact this.symm
  have llow : lo low = low := by rw [← ha]; exact h.idem a hab.1
  have lhigh : lo high = high := by rw [← hbh]; exact h.idem b hab.2
  have hhl : high < l.length := by have := h.le b hab.2; omega
  have hll : low < l.length := by omega
  have imp : ∀ i j, i < l.length → j < l.length → lo i = lo j → lo' i = lo' j := fun i j hi hj e => by rw [hlo i hi, hlo j hj, e]
  have lab : lo' a = lo' b := by rw [hlo a hab.1, hlo b hab.2, ha, hbh, if_pos rfl, if_neg (by omega)]
  have E : ∀ {i j}, Ev l.length lo (todo ++ [p]) i j → Ev l.length lo' todo i j := fun x => x.mono imp (fun i j hm => by
    rcases List.mem_append.1 hm with hm | hm
    · exact .todo hm
    · simp at hm
      rcases hp with rfl | rfl
      · obtain ⟨rfl, rfl⟩ := Prod.mk.inj hm; exact .same hab.1 hab.2 lab
      · obtain ⟨rfl, rfl⟩ := Prod.mk.inj hm; exact .same hab.2 hab.1 lab.symm)
  have alt : ∀ {n : Nat} {t : Tm}, l[n]? = some t → ∀ a ∈ t.args, a < l.length := fun ht => hb.args _ _ ht
  refine ⟨?_, ?_, fun p hp => h.inr p (List.mem_append_left _ hp), fun n hn => h.uin hhl lhigh n hn, ?_, ?_, ?_, ?_, fun p hp => h.tsnd p (List.mem_append_left _ hp), fun p hp => ⟨(h.tld p hp).1, (h.tld p hp).2.1, E (h.tld p hp).2.2⟩⟩
  · intro i hi
    rw [hlo i hi]
    have := h.le i hi
    split <;> omega
  · intro i hi
    have hi2 := h.le i hi
    rw [hlo i hi]
    split
    · rw [hlo low hll, llow, if_neg (by omega)]
    · next hne => rw [hlo (lo i) (by omega), h.idem i hi, if_neg hne]
  · intro r hr hrr n
    have hr0 := hlo r hr
    rw [hrr] at hr0
    by_cases e : r = low
    · subst e
      rw [hus r hr, if_pos rfl, List.count_append, h.uses r hll llow n, h.uses high hhl lhigh n]
      unfold uc
      cases ht : l[n]? with
      | none => rfl
      | some t =>
        have : ∀ xs : List Nat, (∀ a ∈ xs, a < l.length) → xs.countP (fun a => lo a == r) + xs.countP (fun a => lo a == high) = xs.countP (fun a => lo' a == r) := by
          intro xs
          induction xs with
          | nil => intro _; rfl
          | cons x xs ih =>
            intro hx
            have hi := ih (fun a ha => hx a (by simp [ha]))
            simp only [List.countP_cons]
            have h0 := hlo x (hx x (by simp))
            rw [h0]
            by_cases e1 : lo x = high
            · have e3 : ¬ high = r := by omega
              rw [if_pos e1, e1]
              simp only [beq_iff_eq, e3, if_false, if_true]
              omega
            · by_cases e2 : lo x = r
              · simp [e2, show ¬ r = high by omega]; omega
              · simp [e1, e2]; omega
        exact this t.args (alt ht)
    · have hne : lo r ≠ high := fun x => by rw [if_pos x] at hr0; exact e hr0
      rw [if_neg hne] at hr0
      rw [hus r hr, if_neg e, h.uses r hr hr0.symm n]
      unfold uc
      cases ht : l[n]? with
      | none => rfl
      | some t =>
        refine List.countP_congr (fun x hx => ?_)
        have h0 := hlo x (alt ht x hx)
        rw [h0]
        by_cases e1 : lo x = high
        · rw [if_pos e1]
          simp only [beq_iff_eq]
          constructor
          · intro x2; exact absurd (hr0.symm.trans (x2.symm.trans e1)) hne
          · intro x2; exact absurd x2.symm e
        · rw [if_neg e1]
  · intro n t ht hn
    obtain ⟨m, h1, h2⟩ := h.keys n t ht (by simp)
    have : sg lo' t = sg lo t := sg_congr (fun a ha => by
      rw [hlo a (alt ht a ha), if_neg (fun x => hn (h.used ht ha hhl lhigh x))])
    exact ⟨m, by rw [this]; exact h1, E h2⟩
  · intro s m hs
    obtain ⟨u, h1, h2, h3⟩ := h.says s m hs
    refine ⟨u, h1, h2, fun k hk => ⟨fun x hx => ?_, (h3 k hk).2⟩⟩
    obtain ⟨q1, q2⟩ := (h3 k hk).1 x hx
    exact ⟨q1, imp _ _ (alt h1 x (List.mem_of_getElem? hx)) q1 q2⟩
  · intro i j hi hj e
    rw [hlo i hi, hlo j hj] at e
    have toA : ∀ i, i < l.length → lo i = low → Cg l P i a := fun i hi x => h.snd i a hi hab.1 (by omega)
    have toB : ∀ i, i < l.length → lo i = high → Cg l P i a := fun i hi x => (h.snd i b hi hab.2 (by omega)).trans cab.symm
    by_cases e1 : lo i = high
    · by_cases e2 : lo j = high
      · exact (toB i hi e1).trans (toB j hj e2).symm
      · rw [if_pos e1, if_neg e2] at e
        exact (toB i hi e1).trans (toA j hj e.symm).symm
    · by_cases e2 : lo j = high
      · rw [if_neg e1, if_pos e2] at e
        exact (toA i hi e).trans (toB j hj e2).symm
      · rw [if_neg e1, if_neg e2] at e
        exact h.snd i j hi hj e

theorem ar_some {lo : Nat → Nat} {t : Tm} {k a : Nat} (h : t.args[k]? = some a) : ar lo t k = lo a := by simp [ar, h]

theorem getElem?_len {α β : Type} {xs : List α} {ys : List β} (h : xs.length = ys.length) {k : Nat} {a : α} (ha : xs[k]? = some a) : ∃ b, ys[k]? = some b := by
  have := (List.getElem?_eq_some_iff.1 ha).1
  exact ⟨ys[k]'(by omega), List.getElem?_eq_getElem (by omega)⟩

/-- A term that has a signature follows to be the same. -/
theorem Inv.alike {l : List Tm} {P : List (Nat × Nat)} {lo : Nat → Nat} {us : Nat → List Nat} {kn : Tm → Option Nat} {todo : List (Nat × Nat)} {pend : List Nat} (hb : Bd l) (h : Inv l P lo us kn todo pend) {n m : Nat} {t : Tm} (ht : l[n]? = some t) (hk : kn (sg lo t) = some m) : Cg l P n m := by
  obtain ⟨u, h1, h2, h3⟩ := h.says _ _ hk
  have hl := hb.one t (List.mem_of_getElem? ht) u (List.mem_of_getElem? h1) h2.symm
  refine .cong ht h1 h2.symm hl (fun k a b ha hb' => ?_)
  have hk4 : k < 4 := by
    have := (List.getElem?_eq_some_iff.1 ha).1
    have := hb.four t (List.mem_of_getElem? ht)
    omega
  obtain ⟨q1, q2⟩ := (h3 k hk4).1 b hb'
  have ha' := hb.args n t ht a (List.mem_of_getElem? ha)
  rw [sg_arg _ _ _ hk4, ar_some ha] at q1 q2
  rw [h.idem a ha'] at q2
  exact h.snd a b ha' (hb.args m u h1 b (List.mem_of_getElem? hb')) q2.symm

/-- One of those that are pending is looked up: there is one like it. -/
theorem Inv.old {l : List Tm} {P : List (Nat × Nat)} {lo : Nat → Nat} {us : Nat → List Nat} {kn : Tm → Option Nat} {todo : List (Nat × Nat)} {pend : List Nat} (hb : Bd l) {n m : Nat} (h : Inv l P lo us kn todo (n :: pend)) {t : Tm} (ht : l[n]? = some t) (hk : kn (sg lo t) = some m) : Inv l P lo us kn (todo ++ [(n, m)]) pend := by
  have hc := h.alike hb ht hk
  refine ⟨h.le, h.idem, ?_, fun x hx => h.pin x (by simp [hx]), h.uses, ?_, h.says, h.snd, ?_, fun p hp => ⟨(h.tld p hp).1, (h.tld p hp).2.1, (h.tld p hp).2.2.more _⟩⟩
  · intro p hp
    rcases List.mem_append.1 hp with hp | hp
    · exact h.inr p hp
    · simp at hp; subst hp; exact hc.lt
  · intro i u hu hi
    by_cases e : i = n
    · subst e
      rw [ht] at hu
      cases hu
      exact ⟨m, hk, .todo (by simp)⟩
    · obtain ⟨m', h1, h2⟩ := h.keys i u hu (by simp [e, hi])
      exact ⟨m', h1, h2.more _⟩
  · intro p hp
    rcases List.mem_append.1 hp with hp | hp
    · exact h.tsnd p hp
    · simp at hp; subst hp; exact hc

/-- .. there is none. -/
theorem Inv.new {l : List Tm} {P : List (Nat × Nat)} {lo : Nat → Nat} {us : Nat → List Nat} {kn kn' : Tm → Option Nat} {todo : List (Nat × Nat)} {pend : List Nat} (hb : Bd l) {n : Nat} (h : Inv l P lo us kn todo (n :: pend)) {t : Tm} (ht : l[n]? = some t) (hk : kn (sg lo t) = none) (hkn : ∀ s, kn' s = if s = sg lo t then some n else kn s) : Inv l P lo us kn' (todo ++ [(n, n)]) pend := by
  have hn : n < l.length := (List.getElem?_eq_some_iff.1 ht).1
  refine ⟨h.le, h.idem, ?_, fun x hx => h.pin x (by simp [hx]), h.uses, ?_, ?_, h.snd, ?_, fun p hp => ⟨(h.tld p hp).1, (h.tld p hp).2.1, (h.tld p hp).2.2.more _⟩⟩
  · intro p hp
    rcases List.mem_append.1 hp with hp | hp
    · exact h.inr p hp
    · simp at hp; subst hp; exact ⟨hn, hn⟩
  · intro i u hu hi
    by_cases e : i = n
    · subst e
      rw [ht] at hu
      cases hu
      exact ⟨i, by rw [hkn, if_pos rfl], .todo (by simp)⟩
    · obtain ⟨m', h1, h2⟩ := h.keys i u hu (by simp [e, hi])
      refine ⟨m', ?_, h2.more _⟩
      rw [hkn, if_neg (fun x => by rw [x, hk] at h1; cases h1)]
      exact h1
  · intro s m hs
    rw [hkn] at hs
    by_cases e : s = sg lo t
    · rw [if_pos e] at hs
      cases hs
      refine ⟨t, ht, by rw [e]; rfl, fun k hk => ?_⟩
      rw [e, sg_arg _ _ _ hk]
      refine ⟨fun a ha => ?_, fun hnone => by simp [ar, hnone]⟩
      rw [ar_some ha]
      have ha' := hb.args n t ht a (List.mem_of_getElem? ha)
      have := h.le a ha'
      exact ⟨by omega, (h.idem a ha').symm⟩
    · rw [if_neg e] at hs
      exact h.says s m hs
  · intro p hp
    rcases List.mem_append.1 hp with hp | hp
    · exact h.tsnd p hp
    · simp at hp; subst hp; exact .refl hn

/-- A pair is told. -/
theorem Inv.tell {l : List Tm} {P : List (Nat × Nat)} {lo : Nat → Nat} {us : Nat → List Nat} {kn : Tm → Option Nat} (h : Inv l P lo us kn [] []) {a b : Nat} (ha : a < l.length) (hb : b < l.length) : Inv l (P ++ [(a, b)]) lo us kn [(a, b)] [] := by
  have M : ∀ {i j}, Cg l P i j → Cg l (P ++ [(a, b)]) i j := fun x => x.mono (fun _ _ hm h1 h2 => .told (List.mem_append_left _ hm) h1 h2)
  refine ⟨h.le, h.idem, fun p hp => by simp at hp; subst hp; exact ⟨ha, hb⟩, h.pin, h.uses, fun n t ht hn => ?_, h.says, fun i j hi hj e => M (h.snd i j hi hj e), fun p hp => ?_, fun p hp => ?_⟩
  · obtain ⟨m, h1, h2⟩ := h.keys n t ht hn
    exact ⟨m, h1, h2.more [(a, b)]⟩
  · simp at hp; subst hp; exact .told (by simp) ha hb
  · rcases List.mem_append.1 hp with hp | hp
    · exact ⟨(h.tld p hp).1, (h.tld p hp).2.1, (h.tld p hp).2.2.more [(a, b)]⟩
    · simp at hp; subst hp; exact ⟨ha, hb, .todo (by simp)⟩

/-- When nothing is to do the classes are the closure's. -/
theorem Inv.fin {l : List Tm} {P : List (Nat × Nat)} {lo : Nat → Nat} {us : Nat → List Nat} {kn : Tm → Option Nat} (h : Inv l P lo us kn [] []) {i j : Nat} (hi : i < l.length) (hj : j < l.length) : lo i = lo j ↔ Cg l P i j := by
  refine ⟨h.snd i j hi hj, fun hc => ?_⟩
  clear hi hj
  induction hc with
  | told hm _ _ => exact (h.tld _ hm).2.2.done
  | refl _ => rfl
  | symm _ ih => exact ih.symm
  | trans _ _ i1 i2 => exact i1.trans i2
  | @cong i j t u h1 h2 h3 h4 _ ih =>
    have : sg lo t = sg lo u := by
      have : ∀ k, ar lo t k = ar lo u k := by
        intro k
        unfold ar
        cases e : t.args[k]? with
        | none =>
          have : u.args[k]? = none := by rw [List.getElem?_eq_none_iff] at e ⊢; omega
          rw [this]
        | some a =>
          obtain ⟨b, hb⟩ := getElem?_len h4 e
          rw [hb]
          exact ih k a b e hb
      simp [sg, h3, this]
    obtain ⟨m, k1, k2⟩ := h.keys i t h1 (by simp)
    obtain ⟨m', k3, k4⟩ := h.keys j u h2 (by simp)
    rw [this, k3] at k1
    cases k1
    exact k2.done.trans k4.done.symm

theorem Inv.low {l : List Tm} {P Q : List (Nat × Nat)} {lo lo' : Nat → Nat} {us us' : Nat → List Nat} {kn kn' : Tm → Option Nat} (h : Inv l P lo us kn [] []) (h' : Inv l Q lo' us' kn' [] []) (hPQ : ∀ i j, Cg l P i j → Cg l Q i j) {i : Nat} (hi : i < l.length) : lo' i = lo' (lo i) := by
  have h1 := h.le i hi
  have h2 := h.idem i hi
  exact (h'.fin hi (by omega)).2 (hPQ _ _ ((h.fin hi (by omega)).1 h2.symm))

/-- The same closure, the same least numbers. -/
theorem Inv.unique {l : List Tm} {P Q : List (Nat × Nat)} {lo lo' : Nat → Nat} {us us' : Nat → List Nat} {kn kn' : Tm → Option Nat} (h : Inv l P lo us kn [] []) (h' : Inv l Q lo' us' kn' [] []) (hPQ : ∀ i j, Cg l P i j → Cg l Q i j) (hQP : ∀ i j, Cg l Q i j → Cg l P i j) {i : Nat} (hi : i < l.length) : lo i = lo' i := by
  have a1 := h.low h' hPQ hi
  have a2 := h'.low h hQP hi
  have := h.le i hi
  have := h'.le i hi
  have b1 := h'.le (lo i) (by omega)
  have b2 := h.le (lo' i) (by omega)
  omega

/-- At the beginning. -/
theorem Inv.start {l : List Tm} {us : Nat → List Nat} {kn : Tm → Option Nat} (hb : Bd l) (hus : ∀ r, r < l.length → ∀ n, (us r).count n = uc l id r n) (hkn : ∀ s m, kn s = some m ↔ ∃ t, l[m]? = some t ∧ sg id t = s) : Inv l [] id us kn [] [] := by
  refine ⟨fun i _ => Nat.le_refl _, fun _ _ => rfl, by simp, by simp, fun r hr _ n => hus r hr n, ?_, ?_, ?_, by simp, by simp⟩
  · intro n t ht _
    exact ⟨n, (hkn _ _).2 ⟨t, ht, rfl⟩, .same (List.getElem?_eq_some_iff.1 ht).1 (List.getElem?_eq_some_iff.1 ht).1 rfl⟩
  · intro s m hs
    obtain ⟨t, ht, rfl⟩ := (hkn s m).1 hs
    refine ⟨t, ht, rfl, fun k hk => ?_⟩
    rw [sg_arg _ _ _ hk]
    refine ⟨fun a ha => ?_, fun hn => by simp [ar, hn]⟩
    rw [ar_some ha]
    exact ⟨hb.args m t ht a (List.mem_of_getElem? ha), rfl⟩
  · intro i j hi _ e
    have : i = j := e
    subst this
    exact .refl hi

/-- No two terms of a bank have one signature at the beginning. -/
theorem sg_inj {l : List Tm} (hb : Bd l) {i j : Nat} {t u : Tm} (ht : l[i]? = some t) (hu : l[j]? = some u) (he : sg id t = sg id u) : i = j := by
  have hn : t.name = u.name := by have := congrArg Tm.name he; exact this
  have hl := hb.one t (List.mem_of_getElem? ht) u (List.mem_of_getElem? hu) hn
  have h4 := hb.four t (List.mem_of_getElem? ht)
  have hk : ∀ k, k < 4 → ar id t k = ar id u k := fun k hk => by rw [← sg_arg id t k hk, ← sg_arg id u k hk, he]
  have ha : t.args = u.args := by
    apply List.ext_getElem hl
    intro k h1 h2
    have := hk k (by omega)
    rw [ar_some (List.getElem?_eq_getElem h1), ar_some (List.getElem?_eq_getElem h2)] at this
    exact this
  have : t = u := by cases t; cases u; simp_all
  subst this
  have h1 := (List.getElem?_eq_some_iff.1 ht)
  have h2 := (List.getElem?_eq_some_iff.1 hu)
  exact (List.getElem_inj hb.nodup).1 (h1.2.trans h2.2.symm)

end Go.Proofs.Ytjfekcjhflcnaaa.Cc

namespace Go.Proofs.Ytjfekcjhflcnaaa.Cc

/-- Which terms use which, one after the other. -/
def evn (t : Tm) (n : Nat) : List (Nat × Nat) := t.args.map (fun a => (a, n))
def evs : List Tm → Nat → List (Nat × Nat)
  | [], _ => []
  | t :: l, n => evn t n ++ evs l (n + 1)
def usf (d : List (Nat × Nat)) (i : Nat) : List Nat := (d.filter (fun x => x.1 == i)).map (fun x => x.2)
def cna (d : List (Nat × Nat)) (i : Nat) : Nat := (usf d i).length

theorem evs_app (l m : List Tm) (n : Nat) : evs (l ++ m) n = evs l n ++ evs m (n + l.length) := by
  induction l generalizing n with
  | nil => simp [evs]
  | cons t l ih =>
    have e : n + 1 + l.length = n + (l.length + 1) := by omega
    simp [evs, ih, e]
theorem evs_take {l : List Tm} {n : Nat} {t : Tm} (ht : l[n]? = some t) : evs (l.take (n + 1)) 0 = evs (l.take n) 0 ++ evn t n := by
  have hn := (List.getElem?_eq_some_iff.1 ht).1
  have h1 : l.take (n + 1) = l.take n ++ [t] := by rw [List.take_add_one, ht]; rfl
  rw [h1, evs_app]
  simp [evs, List.length_take, Nat.min_eq_left (Nat.le_of_lt hn)]
/-- What came ahead of arg k of term n. -/
def pre (l : List Tm) (n : Nat) (t : Tm) (k : Nat) : List (Nat × Nat) := evs (l.take n) 0 ++ (t.args.take k).map (fun a => (a, n))
theorem pre_zero (l : List Tm) (n : Nat) (t : Tm) : pre l n t 0 = evs (l.take n) 0 := by simp [pre]
theorem pre_step {l : List Tm} {n : Nat} {t : Tm} {k a : Nat} (ha : t.args[k]? = some a) : pre l n t (k + 1) = pre l n t k ++ [(a, n)] := by
  unfold pre
  rw [List.take_add_one, ha]
  simp
theorem pre_all {l : List Tm} {n : Nat} {t : Tm} (ht : l[n]? = some t) : pre l n t t.args.length = evs (l.take (n + 1)) 0 := by
  rw [evs_take ht]
  simp [pre, evn]
theorem evs_all (l : List Tm) : evs (l.take l.length) 0 = evs l 0 := by rw [List.take_length]

theorem usf_snoc (d : List (Nat × Nat)) (a n i : Nat) : usf (d ++ [(a, n)]) i = if i = a then usf d i ++ [n] else usf d i := by
  unfold usf
  rw [List.filter_append, List.map_append]
  by_cases e : i = a
  · subst e; simp
  · rw [if_neg e]
    have : (a == i) = false := beq_eq_false_iff_ne.2 (Ne.symm e)
    simp [this]
theorem cna_snoc (d : List (Nat × Nat)) (a n i : Nat) : cna (d ++ [(a, n)]) i = if i = a then cna d i + 1 else cna d i := by
  unfold cna
  rw [usf_snoc]
  split <;> simp
theorem usf_app (d e : List (Nat × Nat)) (i : Nat) : usf (d ++ e) i = usf d i ++ usf e i := by simp [usf]
theorem cna_app (d e : List (Nat × Nat)) (i : Nat) : cna (d ++ e) i = cna d i + cna e i := by simp [cna, usf_app]
theorem cna_le (d : List (Nat × Nat)) (i : Nat) : cna d i ≤ d.length := by
  unfold cna usf
  rw [List.length_map]
  exact List.length_filter_le _ _

/-- Where the room of i begins. -/
def offs (c : Nat → Nat) : Nat → Nat
  | 0 => 0
  | i + 1 => offs c i + c i
theorem offs_mono (c : Nat → Nat) {i j : Nat} (h : i < j) : offs c i + c i ≤ offs c j := by
  induction j with
  | zero => omega
  | succ j ih =>
    simp only [offs]
    by_cases e : i = j
    · subst e; omega
    · have := ih (by omega); omega
theorem offs_congr {c c' : Nat → Nat} (h : ∀ i, c i = c' i) (n : Nat) : offs c n = offs c' n := by
  induction n with
  | zero => rfl
  | succ n ih => simp only [offs]; rw [ih, h]
theorem offs_add (c : Nat → Nat) (a n : Nat) : offs (fun i => if i = a then c i + 1 else c i) n = offs c n + if a < n then 1 else 0 := by
  induction n with
  | zero => simp [offs]
  | succ n ih =>
    simp only [offs]
    rw [ih]
    by_cases e : n = a
    · subst e; simp; omega
    · rw [if_neg e]
      by_cases e2 : a < n
      · simp [e2, show a < n + 1 by omega]; omega
      · have : ¬ a < n + 1 := by omega
        simp [e2, this]
/-- The rooms together are what came. -/
theorem offs_all (N : Nat) (d : List (Nat × Nat)) (h : ∀ x ∈ d, x.1 < N) : offs (cna d) N = d.length := by
  have key : ∀ e : List (Nat × Nat), (∀ x ∈ e, x.1 < N) → offs (cna e.reverse) N = e.length := by
    intro e
    induction e with
    | nil =>
      intro _
      have : ∀ n, offs (cna []) n = 0 := by
        intro n
        induction n with
        | zero => rfl
        | succ n ih => simp only [offs]; rw [ih]; rfl
      simpa using this N
    | cons x e ih =>
      intro hx
      obtain ⟨a, n⟩ := x
      have h1 := ih (fun y hy => hx y (by simp [hy]))
      have ha : a < N := hx (a, n) (by simp)
      rw [List.reverse_cons, offs_congr (cna_snoc e.reverse a n) N, offs_add, h1, if_pos ha]
      simp
  have := key d.reverse (fun x hx => h x (by simpa using hx))
  simpa using this

theorem evs_lt {N : Nat} {l : List Tm} (hb : ∀ t ∈ l, ∀ a ∈ t.args, a < N) : ∀ m, ∀ x ∈ evs l m, x.1 < N := by
  induction l with
  | nil => intro m x hx; simp [evs] at hx
  | cons t l ih =>
    intro m x hx
    simp only [evs, List.mem_append] at hx
    rcases hx with hx | hx
    · simp [evn] at hx
      obtain ⟨a, ha, rfl⟩ := hx
      exact hb t (by simp) a ha
    · exact ih (fun t ht => hb t (by simp [ht])) (m + 1) x hx
theorem evs_len {l : List Tm} (h4 : ∀ t ∈ l, t.args.length ≤ 4) : ∀ m, (evs l m).length ≤ 4 * l.length := by
  induction l with
  | nil => intro m; simp [evs]
  | cons t l ih =>
    intro m
    have h1 := ih (fun t ht => h4 t (by simp [ht])) (m + 1)
    have h2 := h4 t (by simp)
    simp [evs, evn]
    omega

theorem pre_len {l : List Tm} (h4 : ∀ t ∈ l, t.args.length ≤ 4) {n : Nat} {t : Tm} (ht : l[n]? = some t) (k : Nat) : (pre l n t k).length ≤ 4 * l.length := by
  have hn := (List.getElem?_eq_some_iff.1 ht).1
  have h1 := evs_len (l := l.take n) (fun u hu => h4 u (List.mem_of_mem_take hu)) 0
  have h2 := h4 t (List.mem_of_getElem? ht)
  rw [List.length_take, Nat.min_eq_left (Nat.le_of_lt hn)] at h1
  unfold pre
  rw [List.length_append, List.length_map, List.length_take]
  have : min k t.args.length ≤ t.args.length := Nat.min_le_right _ _
  omega
/-- What came ahead is the beginning of all. -/
theorem pre_part {l : List Tm} {n : Nat} {t : Tm} (ht : l[n]? = some t) (k : Nat) : ∃ e, evs l 0 = pre l n t k ++ e := by
  have h1 := List.take_append_drop (n + 1) l
  refine ⟨(t.args.drop k).map (fun a => (a, n)) ++ evs (l.drop (n + 1)) (0 + (l.take (n + 1)).length), ?_⟩
  conv => lhs; rw [← h1]
  rw [evs_app, evs_take ht]
  unfold pre evn
  have h2 : t.args.map (fun a => (a, n)) = (t.args.take k).map (fun a => (a, n)) ++ (t.args.drop k).map (fun a => (a, n)) := by rw [← List.map_append, List.take_append_drop]
  rw [h2]
  simp only [List.append_assoc]
theorem pre_cna {l : List Tm} {n : Nat} {t : Tm} (ht : l[n]? = some t) (k i : Nat) : cna (pre l n t k) i ≤ cna (evs l 0) i := by
  obtain ⟨e, he⟩ := pre_part ht k
  rw [he, cna_app]
  omega

/-- The first uses are as told. -/
theorem usf_uc (l : List Tm) (r n : Nat) : (usf (evs l 0) r).count n = uc l id r n := by
  have key : ∀ (l : List Tm) (m : Nat), (usf (evs l m) r).count n = if m ≤ n then uc l id r (n - m) else 0 := by
    intro l
    induction l with
    | nil => intro m; simp [evs, usf, uc]
    | cons t l ih =>
      intro m
      rw [evs, usf_app, List.count_append, ih (m + 1)]
      have h1 : (usf (evn t m) r).count n = if m = n then t.args.countP (fun a => a == r) else 0 := by
        have : ∀ xs : List Nat, (usf (xs.map (fun a => (a, m))) r).count n = if m = n then xs.countP (fun a => a == r) else 0 := by
          intro xs
          induction xs with
          | nil => simp [usf]
          | cons x xs ih =>
            unfold usf at ih ⊢
            by_cases e : x = r
            · subst e
              by_cases e2 : m = n
              · subst e2; simp at ih ⊢; exact ih
              · simp [e2] at ih ⊢; exact ih
            · have e' : (x == r) = false := beq_eq_false_iff_ne.2 e
              simp only [List.map_cons, List.filter_cons, e', List.countP_cons]
              simpa using ih
        exact this t.args
      rw [h1]
      by_cases e : m = n
      · subst e
        have : ¬ m + 1 ≤ m := by omega
        simp [uc, this]
      · by_cases e2 : m + 1 ≤ n
        · have h3 : n - m = (n - (m + 1)) + 1 := by omega
          simp [e, e2, show m ≤ n by omega, uc, h3]
        · have : ¬ m ≤ n := by omega
          simp [e, e2, this]
  simpa using key l 0

end Go.Proofs.Ytjfekcjhflcnaaa.Cc

namespace Go.Proofs.Ytjfekcjhflcnaaa
open Go.RowKit Go.Maps

theorem gRow : (196 : TypeId) < Try.prog.types.size := of_decide_eq_true (by kernel_rfl)
theorem gCells : Try.prog.cellsOf 196 = 5 := by kernel_rfl
theorem gKeyType : Try.prog.keyType 196 = true := by kernel_rfl
theorem gKeyAt : Try.prog.keyTypeAt 3 196 = true := by kernel_rfl
theorem gLaw : Keyed Try.prog 196 := Keyed.of_law (deep_law_laid tLaid (m := 3) (by omega) gRow gKeyAt (by rw [Try.underlying196]))

/-- A signature, as the program keeps it. -/
def sigL (s : Tm) : List Value := [.string s.name, .int .i64 (s.arg 0 : Int), .int .i64 (s.arg 1 : Int), .int .i64 (s.arg 2 : Int), .int .i64 (s.arg 3 : Int)]
def sigV (s : Tm) : Value := .agg (sigL s).toArray

theorem sig_formed (t : Tm) : (sigV t).formed Try.prog 196 = true := by simp [sigV, sigL, Value.formed, Try.underlying196, gCells]

theorem sig_key (t : Tm) (h : t.ok) : ∃ kl, keyOf Try.prog 196 (sigV t) = some kl := by
  have h0 : t.name.size ≤ maxLen := Nat.le_trans h.name (by decide)
  have g0 : (Lit.int .i64 (t.arg 0 : Int)).wf = true := wf64 (by have := h.arg 0; omega)
  have g1 : (Lit.int .i64 (t.arg 1 : Int)).wf = true := wf64 (by have := h.arg 1; omega)
  have g2 : (Lit.int .i64 (t.arg 2 : Int)).wf = true := wf64 (by have := h.arg 2; omega)
  have g3 : (Lit.int .i64 (t.arg 3 : Int)).wf = true := wf64 (by have := h.arg 3; omega)
  unfold keyOf
  rw [Try.underlying196]
  simp only [gKeyType, sig_formed]
  obtain ⟨m, hm⟩ : ∃ m, Try.prog.types.size + 1 = m + 3 := ⟨Try.prog.types.size - 2, by have h9 := gRow; generalize Try.prog.types.size = z at h9 ⊢; exact (by have h8 : 3 ≤ z := Nat.le_trans (by decide) (Nat.le_of_lt h9); omega)⟩
  rw [hm]
  have hr : List.range 4 = [0, 1, 2, 3] := rfl
  simp [Program.keyLits, Try.underlying196, Try.underlying122, Try.underlying3, Try.underlying9, gCells, tCells4, tCellsI, tCellsS, sigV, sigL, Value.cells, hr, h0, g0, g1, g2, g3]

noncomputable def gkey (t : Tm) : Lit := (keyOf Try.prog 196 (sigV t)).getD (.bool false)
theorem gkey_of {t : Tm} (h : t.ok) : keyOf Try.prog 196 (sigV t) = some (gkey t) := by
  obtain ⟨kl, hk⟩ := sig_key t h
  simp [gkey, hk]
/-- A signature that may be asked for. -/
structure Sk (s : Tm) : Prop where
  ok : s.ok
  four : s.args.length = 4
theorem sigV_inj {t u : Tm} (ht : Sk t) (hu : Sk u) (h : sigV t = sigV u) : t = u := by
  have h4 := ht.four
  have k4 := hu.four
  have hok := ht.ok
  clear ht hu
  obtain ⟨n, a⟩ := t
  obtain ⟨m, b⟩ := u
  simp [sigV, sigL, Tm.arg] at h
  obtain ⟨h0, h2, h3, h4', h5⟩ := h
  have hl : a.length = b.length := by simp at h4 k4; omega
  have : a = b := args_ext hl hok.args (fun i hi => by
    rcases (by omega : i = 0 ∨ i = 1 ∨ i = 2 ∨ i = 3) with rfl | rfl | rfl | rfl <;> simp only [List.getD_eq_getElem?_getD] <;> omega)
  rw [h0, this]
theorem gkey_inj {t u : Tm} (ht : Sk t) (hu : Sk u) (h : gkey t = gkey u) : t = u :=
  sigV_inj ht hu (gLaw.inj (gkey_of ht.ok) (by rw [h]; exact gkey_of hu.ok))
theorem gkey_lit {t : Tm} (ht : t.ok) : ∃ k, gkey t = k ∧ WideAt.IsKeyLit k := by
  have h := gkey_of ht
  generalize gkey t = k at h
  exact ⟨k, rfl, gLaw.key h⟩

theorem sg_sk {l : List Tm} (hb : Cc.Bd l) {lo : Nat → Nat} (hle : ∀ i, i < l.length → lo i ≤ i) (hl : l.length ≤ 1000) {n : Nat} {t : Tm} (ht : l[n]? = some t) (hok : t.ok) : Sk (Cc.sg lo t) := by
  have ha : ∀ k, Cc.ar lo t k < 1000 := by
    intro k
    unfold Cc.ar
    cases e : t.args[k]? with
    | none => simp
    | some a =>
      have h1 := hb.args n t ht a (List.mem_of_getElem? e)
      have h2 := hle a h1
      show lo a < 1000
      omega
  refine ⟨⟨hok.name, by simp [Cc.sg], ?_⟩, rfl⟩
  intro a hm
  simp [Cc.sg] at hm
  rcases hm with rfl | rfl | rfl | rfl <;> exact ha _

/-- Blocks that never change. -/
def Sat (st : List (Nat × Obj)) (w : World) : Prop := ∀ x ∈ st, w.heap[x.1]? = some x.2
/-- A slice of numbers in them. -/
def UseIs (st : List (Nat × Obj)) (v : Value) (xs : List Nat) : Prop :=
  ∃ a cap, v = .slice a xs.length cap ∧ xs.length ≤ cap ∧ (xs = [] ∨ ∃ (b off : Nat) (c : Array Value) (fz : Nat × Nat), a = some ⟨b, off, none⟩ ∧ (b, Obj.cells c 3 fz) ∈ st ∧ ∀ j x : Nat, xs[j]? = some x → c[off + j]? = some (Value.int .i64 (x : Int)))
theorem UseIs.mono {st st' : List (Nat × Obj)} {v : Value} {xs : List Nat} (h : UseIs st v xs) (hs : ∀ x ∈ st, x ∈ st') : UseIs st' v xs := by
  obtain ⟨a, cap, e, hc, h⟩ := h
  refine ⟨a, cap, e, hc, h.imp id ?_⟩
  rintro ⟨b, off, c, fz, e1, e2, e3⟩
  exact ⟨b, off, c, fz, e1, hs _ e2, e3⟩
theorem UseIs.cell {st : List (Nat × Obj)} {v : Value} {xs : List Nat} (h : UseIs st v xs) {w : World} (hw : Sat st w) {j x : Nat} (hj : xs[j]? = some x) :
    ∃ b off cap, v = .slice (some ⟨b, off, none⟩) xs.length cap ∧ xs.length ≤ cap ∧ ∀ i y : Nat, xs[i]? = some y → w.cell? ⟨b, off + i, none⟩ = some (.int .i64 (y : Int)) := by
  obtain ⟨a, cap, e, hcap, h⟩ := h
  rcases h with rfl | ⟨b, off, c, fz, e1, e2, e3⟩
  · simp at hj
  · refine ⟨b, off, cap, by rw [e, e1], hcap, fun i y hi => ?_⟩
    have := hw _ e2
    simp only [World.cell?, this]
    exact e3 i y hi
theorem UseIs.form {st : List (Nat × Obj)} {v : Value} {xs : List Nat} (h : UseIs st v xs) : ∃ a cap, v = .slice a xs.length cap := by
  obtain ⟨a, cap, e, _, _⟩ := h
  exact ⟨a, cap, e⟩

/-- All of the classes. -/
structure Zs where
  pk : Nat
  ps : Nat
  nb : Nat
  tb : Nat
  ub : Nat
  mb : Nat
  jv : Value
  bv : Value
  av : Nat → Value
  uv : Nat → Value
  g : Uf.G
  t : List Uf.Rec
  bs : List Value
  st : List (Nat × Obj)
  us : Nat → List Nat
  kn : Tm → Option Nat
  ms : Nat

def Zs.Foot (z : Zs) (k : Nat) : Prop := k = z.pk ∨ Go.Proofs.Ytjfekcjhflcnaaa.Foot z.ps z.nb z.jv k ∨ k = z.ub ∨ k = z.mb ∨ z.bv.ownBlock = some k

def clsC (z : Zs) (n : Nat) (j : Nat) : Value :=
  if j = 0 then .pointer (some ⟨z.ps, 0, none⟩) else if j = 1 then .slice (some ⟨z.tb, 0, none⟩) n n else if j = 2 then .slice (some ⟨z.ub, 0, none⟩) n n else if j = 3 then .map (some z.mb) else z.bv
def termC (l : List Tm) (av : Nat → Value) (j : Nat) : Value := if j % 2 = 0 then .string ((l[j / 2]?).map Tm.name |>.getD ⟨#[]⟩) else av (j / 2)

/-- The classes lie at block pk. -/
structure Cz (w : World) (base : Nat) (l : List Tm) (z : Zs) : Prop where
  cls : w.rowIs z.pk 150 5 (clsC z l.length)
  sets : St w base z.ps z.nb z.jv l.length z.g z.t
  terms : w.rowIs z.tb 42 (l.length * 2) (termC l z.av)
  uses : w.rowIs z.ub 198 l.length z.uv
  known : ∃ D, mapIs w 196 z.mb D ∧ Maps.size D ≤ z.ms ∧ ∀ s : Tm, Sk s → Says D (gkey s) (z.kn s)
  back : w.ownsRow base 1 1 z.bv z.bs.length z.bs
  sat : Sat z.st w
  far : ∀ x ∈ z.st, base ≤ x.1 ∧ ¬ z.Foot x.1
  argsAt : ∀ (i : Nat) (t : Tm), l[i]? = some t → UseIs z.st (z.av i) t.args
  usesAt : ∀ i, i < l.length → UseIs z.st (z.uv i) (z.us i)
  bd : Cc.Bd l
  oks : ∀ t ∈ l, t.ok
  len : l.length ≤ 150
  bp : base ≤ z.pk
  bt : base ≤ z.tb
  bu : base ≤ z.ub
  bm : base ≤ z.mb

theorem ownsRow_block {w w' : World} {base size n : Nat} {e : TypeId} {v : Value} {xs : List Value} (h : w.ownsRow base e size v n xs) (he : ∀ k, v.ownBlock = some k → w'.heap[k]? = w.heap[k]?) : w'.ownsRow base e size v n xs := by
  refine ⟨h.1, ?_⟩
  rcases h.2 with e | ⟨b, cap, cur, e, e1, e2, e3⟩
  · exact Or.inl e
  · exact Or.inr ⟨b, cap, cur, e, e1, (he b (by rw [e]; rfl)).trans e2, e3⟩
theorem mapIs_block {w w' : World} {k : TypeId} {b : Nat} {D : DataW Unit} (h : mapIs w k b D) (hn : w'.heap[b]? = w.heap[b]?) : mapIs w' k b D := by
  obtain ⟨es, ck, n1, n2, n3, n4⟩ := h
  exact ⟨es, ck, hn.trans n1, n2, n3, n4⟩

/-- All blocks that it lies in. -/
def Zs.All (z : Zs) (k : Nat) : Prop := z.Foot k ∨ k = z.tb ∨ ∃ o, (k, o) ∈ z.st

theorem Cz.foot_lt {w : World} {base : Nat} {l : List Tm} {z : Zs} (h : Cz w base l z) {k : Nat} (hk : z.Foot k) : k < w.heap.size := by
  obtain ⟨D, d1, _⟩ := h.known
  rcases hk with e | (e | e | e) | e | e | e
  · rw [e]; exact h.cls.lt
  · rw [e]; exact h.sets.lies.sets.lt
  · rw [e]; exact h.sets.lies.nodes.lt
  · exact (h.sets.lies.joins.lt k e).2
  · rw [e]; exact h.uses.lt
  · rw [e]; exact World.ownsMap.lt d1
  · exact (h.back.lt k e).2
theorem Cz.foot_ge {w : World} {base : Nat} {l : List Tm} {z : Zs} (h : Cz w base l z) {k : Nat} (hk : z.Foot k) : base ≤ k := by
  rcases hk with e | (e | e | e) | e | e | e
  · rw [e]; exact h.bp
  · rw [e]; exact h.sets.lies.bp
  · rw [e]; exact h.sets.lies.bn
  · exact (h.sets.lies.joins.lt k e).1
  · rw [e]; exact h.bu
  · rw [e]; exact h.bm
  · exact (h.back.lt k e).1
theorem Cz.all_lt {w : World} {base : Nat} {l : List Tm} {z : Zs} (h : Cz w base l z) {k : Nat} (hk : z.All k) : k < w.heap.size := by
  rcases hk with e | e | ⟨o, e⟩
  · exact h.foot_lt e
  · rw [e]; exact h.terms.lt
  · exact (Array.getElem?_eq_some_iff.1 (h.sat _ e)).1
theorem Cz.all_ge {w : World} {base : Nat} {l : List Tm} {z : Zs} (h : Cz w base l z) {k : Nat} (hk : z.All k) : base ≤ k := by
  rcases hk with e | e | ⟨o, e⟩
  · exact h.foot_ge e
  · rw [e]; exact h.bt
  · exact (h.far _ e).1

/-- Others' changes leave it alone. -/
theorem Cz.keep {w w' : World} {base : Nat} {l : List Tm} {z : Zs} (h : Cz w base l z) {S : Nat → Prop} (K : Kept S w w') (hS : ∀ k, z.All k → ¬ S k) : Cz w' base l z := by
  have B : ∀ k, z.All k → w'.heap[k]? = w.heap[k]? := fun k hk => K.block k (h.all_lt hk) (hS k hk)
  obtain ⟨D, d1, d2, d3⟩ := h.known
  refine ⟨h.cls.of_block (B _ (.inl (.inl rfl))), h.sets.other K (hS _ (.inl (.inr (.inl (.inl rfl))))) (hS _ (.inl (.inr (.inl (.inr (.inl rfl)))))) (fun k hk => hS k (.inl (.inr (.inl (.inr (.inr hk)))))), h.terms.of_block (B _ (.inr (.inl rfl))), h.uses.of_block (B _ (.inl (.inr (.inr (.inl rfl))))),
    ⟨D, mapIs_block d1 (B _ (.inl (.inr (.inr (.inr (.inl rfl)))))), d2, d3⟩, ownsRow_block h.back (fun k hk => B k (.inl (.inr (.inr (.inr (.inr hk)))))), fun x hx => (B x.1 (.inr (.inr ⟨x.2, hx⟩))).trans (h.sat x hx), h.far, h.argsAt, h.usesAt, h.bd, h.oks, h.len, h.bp, h.bt, h.bu, h.bm⟩
theorem Cz.kept0 {w w' : World} {base : Nat} {l : List Tm} {z : Zs} (h : Cz w base l z) (K : Kept0 w w') : Cz w' base l z := h.keep K (fun _ _ e => e)
theorem Cz.drewN {w : World} {base : Nat} {l : List Tm} {z : Zs} (h : Cz w base l z) (m : Nat) : Cz (w.drewN m) base l z := h.kept0 ((Kept.refl _ w).drewN m)
theorem Cz.drew {w : World} {base : Nat} {l : List Tm} {z : Zs} (h : Cz w base l z) : Cz w.drew base l z := h.kept0 (Kept.refl _ w).drew

theorem Cz.k0 {w : World} {base : Nat} {l : List Tm} {z : Zs} (h : Cz w base l z) : w.cell? ⟨z.pk, 0, none⟩ = some (.pointer (some ⟨z.ps, 0, none⟩)) := h.cls.cell (i := 0) (by omega)
theorem Cz.k1 {w : World} {base : Nat} {l : List Tm} {z : Zs} (h : Cz w base l z) : w.cell? ⟨z.pk, 1, none⟩ = some (.slice (some ⟨z.tb, 0, none⟩) l.length l.length) := h.cls.cell (i := 1) (by omega)
theorem Cz.k2 {w : World} {base : Nat} {l : List Tm} {z : Zs} (h : Cz w base l z) : w.cell? ⟨z.pk, 2, none⟩ = some (.slice (some ⟨z.ub, 0, none⟩) l.length l.length) := h.cls.cell (i := 2) (by omega)
theorem Cz.k3 {w : World} {base : Nat} {l : List Tm} {z : Zs} (h : Cz w base l z) : w.cell? ⟨z.pk, 3, none⟩ = some (.map (some z.mb)) := h.cls.cell (i := 3) (by omega)
theorem Cz.k4 {w : World} {base : Nat} {l : List Tm} {z : Zs} (h : Cz w base l z) : w.cell? ⟨z.pk, 4, none⟩ = some z.bv := h.cls.cell (i := 4) (by omega)
theorem Cz.t0 {w : World} {base : Nat} {l : List Tm} {z : Zs} (h : Cz w base l z) {n : Nat} {t : Tm} (ht : l[n]? = some t) : w.cell? ⟨z.tb, n * 2, none⟩ = some (.string t.name) := by
  have hn := (List.getElem?_eq_some_iff.1 ht).1
  rw [h.terms.cell (i := n * 2) (by omega)]
  simp [termC, ht]
theorem Cz.t1 {w : World} {base : Nat} {l : List Tm} {z : Zs} (h : Cz w base l z) {n : Nat} {t : Tm} (ht : l[n]? = some t) : w.cell? ⟨z.tb, n * 2 + 1, none⟩ = some (z.av n) := by
  have hn := (List.getElem?_eq_some_iff.1 ht).1
  rw [h.terms.cell (i := n * 2 + 1) (by omega)]
  have h1 : (n * 2 + 1) % 2 = 1 := by omega
  have h2 : (n * 2 + 1) / 2 = n := by omega
  simp [termC, h1, h2]
theorem Cz.u {w : World} {base : Nat} {l : List Tm} {z : Zs} (h : Cz w base l z) {n : Nat} (hn : n < l.length) : w.cell? ⟨z.ub, n, none⟩ = some (z.uv n) := h.uses.cell (by omega)
theorem Cz.ok {w : World} {base : Nat} {l : List Tm} {z : Zs} (h : Cz w base l z) : Uf.Ok l.length z.g z.t.length := h.sets.ok

/-- The least term of a class. -/
theorem Cz.least {w : World} {base : Nat} {l : List Tm} {z : Zs} (h : Cz w base l z) {a : Nat} (ha : a < l.length) :
    Calls Try.prog 27 #[.pointer (some ⟨z.ps, 0, none⟩), .int .i64 (a : Int)] w fun e w' => e = .returned (.int .i64 (z.g.lo a : Int)) ∧ ∃ m, w' = w.drewN m := by
  have := Least_in w base z.ps z.nb l.length z.g z.jv _ h.sets.lies _ h.ok a
  rw [inB_nat ha, if_pos rfl, Int.toNat_natCast] at this
  exact this

end Go.Proofs.Ytjfekcjhflcnaaa

namespace Go.Proofs.Ytjfekcjhflcnaaa
open Go.RowKit Go.Maps

theorem Kept.setNew {S : Nat → Prop} {w W : World} (h : Kept S w W) {b off : Nat} (hb : w.heap.size ≤ b) (u : Value) : Kept S w (W.setCell ⟨b, off, none⟩ u) :=
  ⟨h.os, h.tape, h.output, by simpa [World.setCell] using h.size, fun k hk hs => (Below.heap_setCell _ _ _ _ (fun e => by have : k = b := e; omega)).trans (h.block k hk hs)⟩

/-- A signature that is filled in as far as k. -/
def sgF (s : Tm) (k : Nat) (j : Nat) : Value := if j = 0 then .string s.name else if j ≤ k then .int .i64 (s.arg (j - 1) : Int) else .int .i64 0

theorem sgF_step {lo : Nat → Nat} {t : Tm} {k a : Nat} (h4 : t.args.length ≤ 4) (hk : t.args[k]? = some a) : ∀ j, j < 5 → (if j = 1 + k then Value.int .i64 (lo a : Int) else sgF (Cc.sg lo t) k j) = sgF (Cc.sg lo t) (k + 1) j := by
  intro j hj
  have hkl := (List.getElem?_eq_some_iff.1 hk).1
  have ha : (Cc.sg lo t).arg k = lo a := by rw [Cc.sg_arg _ _ _ (by omega), Cc.ar_some hk]
  unfold sgF
  by_cases e : j = 1 + k
  · subst e
    rw [if_pos rfl, if_neg (by omega), if_pos (by omega), show 1 + k - 1 = k by omega, ha]
  · rw [if_neg e]
    by_cases e0 : j = 0
    · rw [if_pos e0, if_pos e0]
    · rw [if_neg e0, if_neg e0]
      by_cases e1 : j ≤ k
      · rw [if_pos e1, if_pos (by omega)]
      · rw [if_neg e1, if_neg (by omega)]


theorem sgF_all {lo : Nat → Nat} {t : Tm} {j : Nat} (h4 : t.args.length ≤ 4) (hj : j < 5) : (sigL (Cc.sg lo t)).toArray[j]?.getD undef = sgF (Cc.sg lo t) t.args.length j := by
  have hz : ∀ k, t.args.length ≤ k → k < 4 → (Cc.sg lo t).arg k = 0 := fun k h1 h2 => by
    rw [Cc.sg_arg _ _ _ h2]
    unfold Cc.ar
    rw [List.getElem?_eq_none h1]
  unfold sgF
  rcases (by omega : j = 0 ∨ j = 1 ∨ j = 2 ∨ j = 3 ∨ j = 4) with rfl | rfl | rfl | rfl | rfl
  · rfl
  · by_cases e : 1 ≤ t.args.length
    · simp [sigL, e]
    · simp [sigL, e, hz 0 (by omega)]
  · by_cases e : 2 ≤ t.args.length
    · simp [sigL, e]
    · simp [sigL, e, hz 1 (by omega)]
  · by_cases e : 3 ≤ t.args.length
    · simp [sigL, e]
    · simp [sigL, e, hz 2 (by omega)]
  · by_cases e : 4 ≤ t.args.length
    · simp [sigL, e]
    · simp [sigL, e, hz 3 (by omega)]

set_option maxHeartbeats 1000000 in
set_option maxRecDepth 100000 in
theorem sig_in (w : World) (base : Nat) (l : List Tm) (z : Zs) (h : Cz w base l z) (n : Nat) (t : Tm) (ht : l[n]? = some t) :
    Calls Try.prog 121 #[.pointer (some ⟨z.pk, 0, none⟩), .int .i64 (n : Int)] w fun e w' => e = .returned (sigV (Cc.sg z.g.lo t)) ∧ Kept0 w w' := by
  have hn : n < l.length := (List.getElem?_eq_some_iff.1 ht).1
  have hlen := h.len
  have hok := h.oks t (List.mem_of_getElem? ht)
  have h4 := hok.args
  have hargs := h.argsAt n t ht
  have hV : sigV (Cc.sg z.g.lo t) = .agg #[.string (Cc.sg z.g.lo t).name, .int .i64 ((Cc.sg z.g.lo t).arg 0 : Int), .int .i64 ((Cc.sg z.g.lo t).arg 1 : Int), .int .i64 ((Cc.sg z.g.lo t).arg 2 : Int), .int .i64 ((Cc.sg z.g.lo t).arg 3 : Int)] := rfl
  rw [hV]
  clear hV
  have K1 : Kept0 w (w.alloc (.cells #[.string ⟨#[]⟩, .int .i64 0, .int .i64 0, .int .i64 0, .int .i64 0] 196)) := Kept.alloc (Kept.refl _ w) _
  have R1 := made_row w #[.string ⟨#[]⟩, .int .i64 0, .int .i64 0, .int .i64 0, .int .i64 0] 196
  have k1 := (h.kept0 K1).k1
  have t0 := (h.kept0 K1).t0 ht
  have t1 := (h.kept0 K1).t1 ht
  obtain ⟨aa, ac, hav⟩ := hargs.form
  rw [hav] at t1 hargs
  go_enter Try.func121, Try.ntmps121
  go_wp2_with fail
  have F0 : ∀ W : World, (W.alloc (.cells #[.string t.name, .int .i64 0, .int .i64 0, .int .i64 0, .int .i64 0] 196)).rowIs W.heap.size 196 5 (sgF (Cc.sg z.g.lo t) 0) := fun W => (made_row W #[.string t.name, .int .i64 0, .int .i64 0, .int .i64 0, .int .i64 0] 196).congr (fun j hj => by
    have hj' : j < 5 := hj
    rcases (by omega : j = 0 ∨ j = 1 ∨ j = 2 ∨ j = 3 ∨ j = 4) with rfl | rfl | rfl | rfl | rfl <;> rfl)
  have F1 := F0 ((w.alloc (.cells #[.string ⟨#[]⟩, .int .i64 0, .int .i64 0, .int .i64 0, .int .i64 0] 196)).alloc (.cells #[.string t.name, .slice aa t.args.length ac] 42))
  have hsz : ((w.alloc (.cells #[.string ⟨#[]⟩, .int .i64 0, .int .i64 0, .int .i64 0, .int .i64 0] 196)).alloc (.cells #[.string t.name, .slice aa t.args.length ac] 42)).heap.size = w.heap.size + 1 + 1 := by simp
  rw [hsz] at F1
  have K3 := (K1.alloc (.cells #[.string t.name, .slice aa t.args.length ac] 42)).alloc (.cells #[.string t.name, .int .i64 0, .int .i64 0, .int .i64 0, .int .i64 0] 196)
  have R3 := World.rowIs.alloc (World.rowIs.alloc R1 (.cells #[.string t.name, .slice aa t.args.length ac] 42)) (.cells #[.string t.name, .int .i64 0, .int .i64 0, .int .i64 0, .int .i64 0] 196)
  generalize ((w.alloc (.cells #[.string ⟨#[]⟩, .int .i64 0, .int .i64 0, .int .i64 0, .int .i64 0] 196)).alloc (.cells #[.string t.name, .slice aa t.args.length ac] 42)).alloc (.cells #[.string t.name, .int .i64 0, .int .i64 0, .int .i64 0, .int .i64 0] 196) = w3 at F1 K3 R3 ⊢
  clear F0 hsz K1 R1 k1 t0 t1
  have hb6 : w.heap.size < w.heap.size + 1 + 1 := by omega
  generalize w.heap.size + 1 + 1 = b6 at F1 hb6 ⊢
  go_loopw [22] (fun t22 W => ∃ k : Nat, k ≤ t.args.length ∧ t22 = .int .i64 (k : Int) ∧ W.rowIs b6 196 5 (sgF (Cc.sg z.g.lo t) k) ∧ (∃ f, W.rowIs w.heap.size 196 5 f) ∧ Kept0 w W) (fun t22 _ => t.args.length - (intOf t22).toNat)
  case atStart => exact ⟨0, by omega, rfl, F1, ⟨_, R3⟩, K3⟩
  case round =>
    clear F1 R3 K3
    obtain ⟨k, hk, rfl, F, ⟨f4, R4⟩, K⟩ := hrel
    have H := h.kept0 K
    have k0 := H.k0
    by_cases hk2 : k < t.args.length
    · have dk : decide ((k : Int) < (t.args.length : Int)) = true := decide_eq_true (by omega)
      have hka : t.args[k]? = some t.args[k] := List.getElem?_eq_getElem hk2
      obtain ⟨b, off, cap, hv, _, hc⟩ := hargs.cell H.sat hka
      injection hv with e1 e2 e3
      subst e1 e3
      have ck := hc k _ hka
      have hlt := h.bd.args n t ht _ (List.getElem_mem hk2)
      have LE := fun m => (H.drewN m).least hlt
      have hka4 := h.bd.four t (List.mem_of_getElem? ht)
      have x1 : wr.cell? ⟨b6, 1 + k, none⟩ = some (.int .i64 0) := by
        rw [F.cell (i := 1 + k) (by omega)]
        simp [sgF]
        omega
      have x2 := F.frozen (1 + k)
      clear hc
      go_wp2_with (go_at_call 27; refine (LE 0).mono ?_; rintro e w9 ⟨rfl, m9, rfl⟩)
      refine ⟨⟨k + 1, by omega, by simp, ?_, ⟨_, World.rowIs.setOther (World.rowIs.of_block R4 rfl) (show w.heap.size ≠ b6 by omega) _⟩, Kept.setNew (K.drewN _) (by omega) _⟩, by simp [intOf]; omega⟩
      exact World.rowIs.congr (World.rowIs.set (World.rowIs.of_block F rfl : (wr.drewN m9).rowIs b6 196 5 _) (1 + k) _) (sgF_step hka4 hka)
    · have dk : decide ((k : Int) < (t.args.length : Int)) = false := decide_eq_false (by omega)
      obtain rfl : k = t.args.length := by omega
      have FA : wr.rowIs b6 196 5 (fun j => (sigL (Cc.sg z.g.lo t)).toArray[j]?.getD undef) := F.congr (fun j hj => (sgF_all h4 hj).symm)
      have x0 : wr.cell? ⟨b6, 0, none⟩ = some (.string (Cc.sg z.g.lo t).name) := FA.cell (i := 0) (by omega)
      have x1 : wr.cell? ⟨b6, 1, none⟩ = some (.int .i64 ((Cc.sg z.g.lo t).arg 0 : Int)) := FA.cell (i := 1) (by omega)
      have x2 : wr.cell? ⟨b6, 2, none⟩ = some (.int .i64 ((Cc.sg z.g.lo t).arg 1 : Int)) := FA.cell (i := 2) (by omega)
      have x3 : wr.cell? ⟨b6, 3, none⟩ = some (.int .i64 ((Cc.sg z.g.lo t).arg 2 : Int)) := FA.cell (i := 3) (by omega)
      have x4 : wr.cell? ⟨b6, 4, none⟩ = some (.int .i64 ((Cc.sg z.g.lo t).arg 3 : Int)) := FA.cell (i := 4) (by omega)
      have y0 := R4.cell (i := 0) (by omega)
      have y1 := R4.cell (i := 1) (by omega)
      have y2 := R4.cell (i := 2) (by omega)
      have y3 := R4.cell (i := 3) (by omega)
      have y4 := R4.cell (i := 4) (by omega)
      have v0 := R4.frozen 0
      have v1 := R4.frozen 1
      have v2 := R4.frozen 2
      have v3 := R4.frozen 3
      have v4 := R4.frozen 4
      have hbne : ¬ w.heap.size = b6 := by omega
      go_wp2_with fail
      generalize Cc.sg z.g.lo t = s at *
      have K5 := Kept.setNew (off := 4) (Kept.setNew (off := 3) (Kept.setNew (off := 2) (Kept.setNew (off := 1) (Kept.setNew (off := 0) K (Nat.le_refl _) (.string s.name)) (Nat.le_refl _) (.int .i64 (s.arg 0 : Int))) (Nat.le_refl _) (.int .i64 (s.arg 1 : Int))) (Nat.le_refl _) (.int .i64 (s.arg 2 : Int))) (Nat.le_refl _) (.int .i64 (s.arg 3 : Int))
      have R5 := ((((R4.set 0 (.string s.name)).set 1 (.int .i64 (s.arg 0 : Int))).set 2 (.int .i64 (s.arg 1 : Int))).set 3 (.int .i64 (s.arg 2 : Int))).set 4 (.int .i64 (s.arg 3 : Int))
      generalize ((((wr.setCell ⟨w.heap.size, 0, none⟩ (.string s.name)).setCell ⟨w.heap.size, 1, none⟩ (.int .i64 (s.arg 0 : Int))).setCell ⟨w.heap.size, 2, none⟩ (.int .i64 (s.arg 1 : Int))).setCell ⟨w.heap.size, 3, none⟩ (.int .i64 (s.arg 2 : Int))).setCell ⟨w.heap.size, 4, none⟩ (.int .i64 (s.arg 3 : Int)) = w5 at K5 R5 ⊢
      have z0 : w5.cell? ⟨w.heap.size, 0, none⟩ = some (.string s.name) := R5.cell (i := 0) (by omega)
      have z1 : w5.cell? ⟨w.heap.size, 1, none⟩ = some (.int .i64 (s.arg 0 : Int)) := R5.cell (i := 1) (by omega)
      have z2 : w5.cell? ⟨w.heap.size, 2, none⟩ = some (.int .i64 (s.arg 1 : Int)) := R5.cell (i := 2) (by omega)
      have z3 : w5.cell? ⟨w.heap.size, 3, none⟩ = some (.int .i64 (s.arg 2 : Int)) := R5.cell (i := 3) (by omega)
      have z4 : w5.cell? ⟨w.heap.size, 4, none⟩ = some (.int .i64 (s.arg 3 : Int)) := R5.cell (i := 4) (by omega)
      refine ⟨rfl, .agg #[.string s.name, .int .i64 (s.arg 0 : Int), .int .i64 (s.arg 1 : Int), .int .i64 (s.arg 2 : Int), .int .i64 (s.arg 3 : Int)], by simp [results, Try.results121, go_sem, z0, z1, z2, z3, z4], rfl, K5⟩

end Go.Proofs.Ytjfekcjhflcnaaa

namespace Go.Proofs.Ytjfekcjhflcnaaa
open Go.RowKit Go.Maps

theorem rowIs_ne {w : World} {b b' : Nat} {t t' : TypeId} {n n' : Nat} {f f' : Nat → Value} (h : w.rowIs b t n f) (h' : w.rowIs b' t' n' f') (ht : t ≠ t') : b ≠ b' := by
  rintro rfl
  obtain ⟨c, hc, _⟩ := h
  obtain ⟨c', hc', _⟩ := h'
  rw [hc] at hc'
  injection hc' with hc'
  injection hc' with _ e
  exact ht e
theorem rowIs_map {w : World} {b b' : Nat} {t k : TypeId} {n : Nat} {f : Nat → Value} {D : DataW Unit} (h : w.rowIs b t n f) (h' : mapIs w k b' D) : b ≠ b' := by
  rintro rfl
  obtain ⟨c, hc, _⟩ := h
  obtain ⟨es, ck, n1, _⟩ := h'
  rw [hc] at n1
  cases n1
theorem ownsRow_ne {w : World} {B B' s s' n n' : Nat} {e e' : TypeId} {v v' : Value} {xs xs' : List Value} (h : w.ownsRow B e s v n xs) (h' : w.ownsRow B' e' s' v' n' xs') (he : e ≠ e') {k : Nat} (hk : v.ownBlock = some k) : v'.ownBlock ≠ some k := by
  intro hk'
  rcases h.2 with ⟨r, _⟩ | ⟨b, cap, cur, r, _, hb, _⟩
  · rw [r] at hk; simp [Value.ownBlock] at hk
  · rcases h'.2 with ⟨r', _⟩ | ⟨b', cap', cur', r', _, hb', _⟩
    · rw [r'] at hk'; simp [Value.ownBlock] at hk'
    · rw [r] at hk
      rw [r'] at hk'
      simp [Value.ownBlock] at hk hk'
      subst hk
      subst hk'
      rw [hb] at hb'
      injection hb' with hb'
      injection hb' with _ e
      exact he e

/-- No two of its parts share a block. -/
structure ApartZ (z : Zs) : Prop where
  kp : z.pk ≠ z.ps
  kn : z.pk ≠ z.nb
  kj : z.jv.ownBlock ≠ some z.pk
  kt : z.pk ≠ z.tb
  ku : z.pk ≠ z.ub
  km : z.pk ≠ z.mb
  kb : z.bv.ownBlock ≠ some z.pk
  pt : z.ps ≠ z.tb
  nt : z.nb ≠ z.tb
  jt : z.jv.ownBlock ≠ some z.tb
  ut : z.ub ≠ z.tb
  mt : z.mb ≠ z.tb
  bt : z.bv.ownBlock ≠ some z.tb
  pu : z.ps ≠ z.ub
  nu : z.nb ≠ z.ub
  ju : z.jv.ownBlock ≠ some z.ub
  pm : z.ps ≠ z.mb
  nm : z.nb ≠ z.mb
  jm : z.jv.ownBlock ≠ some z.mb
  pb : z.bv.ownBlock ≠ some z.ps
  nb : z.bv.ownBlock ≠ some z.nb
  jb : ∀ k, z.jv.ownBlock = some k → z.bv.ownBlock ≠ some k
  um : z.ub ≠ z.mb
  ub : z.bv.ownBlock ≠ some z.ub
  mb : z.bv.ownBlock ≠ some z.mb

theorem Cz.apart {w : World} {base : Nat} {l : List Tm} {z : Zs} (h : Cz w base l z) : ApartZ z := by
  obtain ⟨D, d1, _⟩ := h.known
  have L := h.sets.lies
  exact ⟨rowIs_ne h.cls L.sets (by decide), rowIs_ne h.cls L.nodes (by decide), rowIs_type h.cls (by decide) L.joins, rowIs_ne h.cls h.terms (by decide), rowIs_ne h.cls h.uses (by decide), rowIs_map h.cls d1, rowIs_type h.cls (by decide) h.back,
    rowIs_ne L.sets h.terms (by decide), rowIs_ne L.nodes h.terms (by decide), rowIs_type h.terms (by decide) L.joins, rowIs_ne h.uses h.terms (by decide), (rowIs_map h.terms d1).symm, rowIs_type h.terms (by decide) h.back,
    rowIs_ne L.sets h.uses (by decide), rowIs_ne L.nodes h.uses (by decide), rowIs_type h.uses (by decide) L.joins, rowIs_map L.sets d1, rowIs_map L.nodes d1, mapIs_type d1 L.joins, rowIs_type L.sets (by decide) h.back, rowIs_type L.nodes (by decide) h.back,
    fun k hk => ownsRow_ne L.joins h.back (by decide) hk, rowIs_map h.uses d1, rowIs_type h.uses (by decide) h.back, mapIs_type d1 h.back⟩

theorem Cz.st_lt {w : World} {base : Nat} {l : List Tm} {z : Zs} (h : Cz w base l z) {x : Nat × Obj} (hx : x ∈ z.st) : x.1 < w.heap.size := (Array.getElem?_eq_some_iff.1 (h.sat x hx)).1

/-- How the parts come to change. -/
structure Grows (w : World) (z z' : Zs) : Prop where
  pk : z'.pk = z.pk
  foot : ∀ k, z'.Foot k → z.Foot k ∨ w.heap.size ≤ k
  tb : z'.tb = z.tb
  st : ∀ x ∈ z'.st, x ∈ z.st ∨ w.heap.size ≤ x.1
theorem Grows.refl (w : World) (z : Zs) : Grows w z z := ⟨rfl, fun _ h => .inl h, rfl, fun _ h => .inl h⟩
theorem Grows.trans {w w' : World} {a b c : Zs} (h : Grows w a b) (k : Grows w' b c) (hs : w.heap.size ≤ w'.heap.size) : Grows w a c :=
  ⟨k.pk.trans h.pk, fun i hi => (k.foot i hi).elim (h.foot i) (fun x => .inr (Nat.le_trans hs x)), k.tb.trans h.tb, fun x hx => (k.st x hx).elim (h.st x) (fun x => .inr (Nat.le_trans hs x))⟩
theorem Grows.all {w : World} {z z' : Zs} (h : Grows w z z') {k : Nat} (hk : z'.All k) : z.All k ∨ w.heap.size ≤ k := by
  rcases hk with e | e | ⟨o, e⟩
  · exact (h.foot k e).imp .inl id
  · exact .inl (.inr (.inl (e.trans h.tb)))
  · exact (h.st _ e).imp (fun x => .inr (.inr ⟨o, x⟩)) id

/-- One more block that never changes. -/
theorem Cz.addStat {w : World} {base : Nat} {l : List Tm} {z : Zs} (h : Cz w base l z) (x : Nat × Obj) (hx : w.heap[x.1]? = some x.2) (hb : base ≤ x.1) (hf : ¬ z.Foot x.1) : Cz w base l { z with st := z.st ++ [x] } := by
  refine ⟨h.cls, h.sets, h.terms, h.uses, h.known, h.back, ?_, ?_, fun i t ht => (h.argsAt i t ht).mono (fun y hy => List.mem_append_left _ hy), fun i hi => (h.usesAt i hi).mono (fun y hy => List.mem_append_left _ hy), h.bd, h.oks, h.len, h.bp, h.bt, h.bu, h.bm⟩
  · intro y hy
    rcases List.mem_append.1 hy with hy | hy
    · exact h.sat y hy
    · simp at hy; subst hy; exact hx
  · intro y hy
    rcases List.mem_append.1 hy with hy | hy
    · exact h.far y hy
    · simp at hy; subst hy; exact ⟨hb, hf⟩

/-- A signature becomes known. -/
theorem Cz.store {w : World} {base : Nat} {l : List Tm} {z : Zs} (h : Cz w base l z) {s : Tm} (hs : Sk s) {n : Nat} (hn : n < 100000) (hms : z.ms < 1000000) :
    ∃ w', (Instr.mapUpdate 147 (.map (some z.mb)) (sigV s) (.int .i64 (n : Int))).run Try.prog w = .ok () w' ∧ Cz w' base l { z with kn := fun u => if u = s then some n else z.kn u, ms := z.ms + 1 } ∧ Kept1 z.mb w w' := by
  obtain ⟨D, d1, d2, d3⟩ := h.known
  obtain ⟨w', hr, ho, hturn⟩ := World.ownsMap.store d1 gLaw Try.underlying147 (by unfold maxLen; omega) (gkey_of hs.ok) (plainElem_int Try.underlying3 (wf64 hn))
  have K : Kept1 z.mb w w' := Kept1.of_grown hturn.grown
  have A := h.apart
  have tidy := World.ownsMap.tidy d1 gLaw
  refine ⟨w', hr, ⟨h.cls.of_block (K.block _ h.cls.lt A.km), h.sets.other K A.pm A.nm (fun k hk e => A.jm (by rw [hk, e])), h.terms.of_block (K.block _ h.terms.lt A.mt.symm), h.uses.of_block (K.block _ h.uses.lt A.um), ⟨_, mapIs_of ho, ?_, ?_⟩,
    ownsRow_block h.back (fun k hk => K.block k (h.back.lt k hk).2 (fun e => A.mb (by rw [hk, e]))), fun x hx => (K.block x.1 (h.st_lt hx) (fun e => (h.far x hx).2 (.inr (.inr (.inr (.inl e)))))).trans (h.sat x hx), h.far, h.argsAt, h.usesAt, h.bd, h.oks, h.len, h.bp, h.bt, h.bu, h.bm⟩, K⟩
  · rw [size_put tidy]
    show _ ≤ z.ms + 1
    split <;> omega
  · intro u hu
    show Says _ (gkey u) (if u = s then some n else z.kn u)
    by_cases e : u = s
    · subst e
      rw [if_pos rfl]
      obtain ⟨kk, e, hk⟩ := gkey_lit hu.ok
      rw [e]
      exact Says.put_same tidy.isMap hk n
    · rw [if_neg e]
      exact (d3 u hu).put_other (fun x => e (gkey_inj hu hs x)) _

theorem Cz.look {w : World} {base : Nat} {l : List Tm} {z : Zs} (h : Cz w base l z) {s : Tm} (hs : Sk s) :
    (Instr.lookup 147 (.map (some z.mb)) (sigV s) true).run Try.prog w = .ok (.tuple #[.int .i64 (((z.kn s).getD 0 : Nat) : Int), .bool (z.kn s).isSome]) w := by
  obtain ⟨D, d1, d2, d3⟩ := h.known
  exact (d3 s hs).look d1 gLaw Try.underlying147 (gkey_of hs.ok)

/-- A step is kept. -/
theorem Cz.push {w wa w1 : World} {base : Nat} {l : List Tm} {z : Zs} (h : Cz w base l z) (K0 : Kept0 w wa) (f v' : Value) (hown : w1.ownsRow base 1 1 v' (z.bs.length + 1) (z.bs ++ [f])) (hgrow : wa.grownBy w1 z.bv.ownBlock)
    (hloc : v'.ownBlock = z.bv.ownBlock ∨ ∀ k, v'.ownBlock = some k → wa.heap.size ≤ k) :
    Cz (w1.setCell ⟨z.pk, 4, none⟩ v') base l { z with bv := v', bs := z.bs ++ [f] } ∧ Kept z.Foot w (w1.setCell ⟨z.pk, 4, none⟩ v') ∧ Grows w z { z with bv := v', bs := z.bs ++ [f] } ∧ w1.cell? ⟨z.pk, 4, none⟩ = some z.bv ∧ w1.frozen? ⟨z.pk, 4, none⟩ = false ∧ Kept (fun k => z.bv.ownBlock = some k) w w1 := by
  have K1 : Kept (fun k => z.bv.ownBlock = some k) w w1 := Kept.grown (Kept.mono K0 (fun _ _ e => e.elim)) hgrow (fun _ e => e)
  have K2 : Kept (fun k => k = z.pk ∨ z.bv.ownBlock = some k) w (w1.setCell ⟨z.pk, 4, none⟩ v') := Kept.setCell (p := ⟨z.pk, 4, none⟩) (Kept.mono K1 (fun _ _ e => .inr e)) (.inl rfl) _
  have A := h.apart
  have hp : w1.rowIs z.pk 150 5 (clsC z l.length) := h.cls.of_block (K1.block _ h.cls.lt A.kb)
  have np := rowIs_type hp (by decide) hown
  obtain ⟨D, d1, d2, d3⟩ := h.known
  have hfoot : ∀ k, Zs.Foot { z with bv := v', bs := z.bs ++ [f] } k → z.Foot k ∨ w.heap.size ≤ k := by
    rintro k (e | e | e | e | e)
    · exact .inl (.inl e)
    · exact .inl (.inr (.inl e))
    · exact .inl (.inr (.inr (.inl e)))
    · exact .inl (.inr (.inr (.inr (.inl e))))
    · rcases hloc with e2 | e2
      · exact .inl (.inr (.inr (.inr (.inr (e2 ▸ e)))))
      · exact .inr (Nat.le_trans K0.size (e2 k e))
  refine ⟨⟨(hp.set 4 v').congr ?_, h.sets.other K2 ?_ ?_ ?_, h.terms.of_block (K2.block _ h.terms.lt ?_), h.uses.of_block (K2.block _ h.uses.lt ?_), ⟨D, mapIs_block d1 (K2.block _ (World.ownsMap.lt d1) ?_), d2, d3⟩, ?_, ?_, ?_, h.argsAt, h.usesAt, h.bd, h.oks, h.len, h.bp, h.bt, h.bu, h.bm⟩, ?_, ⟨rfl, hfoot, rfl, fun _ hx => .inl hx⟩, hp.cell (i := 4) (by omega), hp.frozen 4, K1⟩
  · intro i hi
    rcases (by omega : i = 0 ∨ i = 1 ∨ i = 2 ∨ i = 3 ∨ i = 4) with rfl | rfl | rfl | rfl | rfl <;> simp [clsC]
  · rintro (e | e)
    · exact A.kp e.symm
    · exact A.pb e
  · rintro (e | e)
    · exact A.kn e.symm
    · exact A.nb e
  · rintro k hk (e | e)
    · exact A.kj (by rw [hk, e])
    · exact A.jb k hk e
  · rintro (e | e)
    · exact A.kt e.symm
    · exact A.bt e
  · rintro (e | e)
    · exact A.ku e.symm
    · exact A.ub e
  · rintro (e | e)
    · exact A.km e.symm
    · exact A.mb e
  · simpa using ownsRow_setCell_other hown np _
  · intro x hx
    refine (K2.block x.1 (h.st_lt hx) ?_).trans (h.sat x hx)
    rintro (e | e)
    · exact (h.far x hx).2 (.inl e)
    · exact (h.far x hx).2 (.inr (.inr (.inr (.inr e))))
  · intro x hx
    refine ⟨(h.far x hx).1, fun hk => ?_⟩
    rcases hfoot _ hk with e | e
    · exact (h.far x hx).2 e
    · have := h.st_lt hx; omega
  · refine Kept.mono K2 ?_
    rintro k _ (e | e)
    · exact .inl e
    · exact .inr (.inr (.inr (.inr e)))

theorem row_form' {w : World} {base : Nat} {e : TypeId} {size : Nat} {v : Value} {n : Nat} {xs : List Value} (h : w.ownsRow base e size v n xs) : ∃ a c, v = .slice a n c := by
  rcases h.2 with ⟨rfl, h0⟩ | ⟨b, cap, cur, rfl, _⟩
  · rw [h0]; exact ⟨none, 0, rfl⟩
  · exact ⟨_, cap, rfl⟩
theorem rowIs_obj {w : World} {b : Nat} {t : TypeId} {n : Nat} {f : Nat → Value} (h : w.rowIs b t n f) (C : Array Value) (hs : C.size = n) (hC : ∀ i, i < n → C[i]? = some (f i)) : w.heap[b]? = some (.cells C t) := by
  obtain ⟨c, h1, h2, h3⟩ := h
  have : c = C := by
    apply Array.ext_getElem?
    intro i
    by_cases hi : i < n
    · rw [h3 i hi, hC i hi]
    · rw [Array.getElem?_eq_none (by omega), Array.getElem?_eq_none (by omega)]
  rw [h1, this]
theorem one_newD (w : World) (m : Nat) (x : Value) (t : TypeId) : ∀ j u, [x][j]? = some u → ((w.drewN m).alloc (.cells #[x] t)).cell? ((⟨w.heap.size, 0, none⟩ : Addr).add j) = some u := by
  intro j u hj
  have e : ∀ k, ((w.drewN m).alloc (.cells #[x] t)).cell? ⟨w.heap.size, k, none⟩ = #[x][k]? := fun k => World.cell?_alloc_at (w := w.drewN m) _ t _ k rfl
  match j, hj with
  | 0, hj => simp at hj; subst hj; rw [show (⟨w.heap.size, 0, none⟩ : Addr).add 0 = ⟨w.heap.size, 0, none⟩ from by simp [Addr.add], e]; rfl
  | j + 1, hj => simp at hj

theorem infoStep : (Try.prog.info? 1).map (fun i => (i.zero, i.size, i.bytes)) = some (some .nilFunc, 1, 8) := by kernel_rfl

end Go.Proofs.Ytjfekcjhflcnaaa

namespace Go.Proofs.Ytjfekcjhflcnaaa
open Go.RowKit Go.Maps

theorem infoIntK : (Try.prog.info? 3).map (fun i => (i.zero, i.size, i.bytes)) = some (some (.int .i64 0), 1, 8) := by kernel_rfl
def natC (l : List Nat) : List Value := l.map fun x : Nat => Value.int .i64 (x : Int)
theorem natC_len (l : List Nat) : (natC l).length = l.length := by simp [natC]
theorem natC_app (a b : List Nat) : natC a ++ natC b = natC (a ++ b) := by simp [natC]
theorem natC_get (l : List Nat) (j : Nat) : (natC l)[j]? = (l[j]?).map (fun x : Nat => Value.int .i64 (x : Int)) := by simp [natC]
theorem natC_one (l : List Nat) : ∀ u ∈ natC l, u.oneCell' = true := by
  intro u hu
  simp [natC] at hu
  obtain ⟨a, _, rfl⟩ := hu
  rfl

/-- A row of one's own is a block that need not change any more. -/
theorem UseIs.own {w : World} {base : Nat} {v : Value} {xs : List Nat} (h : w.ownsRow base 3 1 v xs.length (natC xs)) (hx : xs ≠ []) :
    ∃ x : Nat × Obj, UseIs [x] v xs ∧ w.heap[x.1]? = some x.2 ∧ v.ownBlock = some x.1 := by
  rcases h.2 with ⟨_, h0⟩ | ⟨g, cap, cur, rfl, hbg, hg, hnc, hcm, hcs, htake⟩
  · exact absurd (List.eq_nil_of_length_eq_zero h0) hx
  · refine ⟨(g, .cells cur 3 (0, 0)), ⟨some ⟨g, 0, none⟩, cap, rfl, hnc, .inr ⟨g, 0, cur, (0, 0), rfl, by simp, fun j x hj => ?_⟩⟩, hg, rfl⟩
    have hlt := (List.getElem?_eq_some_iff.1 hj).1
    have h1 : (natC xs)[j]? = some (.int .i64 (x : Int)) := by rw [natC_get, hj]; rfl
    rw [← htake, List.getElem?_take_of_lt (by omega)] at h1
    rw [Nat.zero_add]
    simpa using h1

theorem UseIs.cells {st : List (Nat × Obj)} {v : Value} {xs : List Nat} (h : UseIs st v xs) {w : World} (hw : Sat st w) (hx : xs ≠ []) :
    ∃ ad cap, v = .slice (some ad) xs.length cap ∧ xs.length ≤ cap ∧ ∀ j u, (natC xs)[j]? = some u → w.cell? (ad.add j) = some u := by
  obtain ⟨x, xs', rfl⟩ := List.exists_cons_of_ne_nil hx
  obtain ⟨b, off, cap, e, hcap, hc⟩ := h.cell hw (j := 0) (x := x) rfl
  refine ⟨⟨b, off, none⟩, cap, e, hcap, fun j u hj => ?_⟩
  rw [natC_get] at hj
  cases e2 : (x :: xs')[j]? with
  | none => rw [e2] at hj; cases hj
  | some y =>
    rw [e2] at hj
    cases hj
    have := hc j y e2
    simp only [Addr.add]
    by_cases hj0 : j = 0
    · subst hj0; simpa using this
    · simpa [hj0] using this

set_option maxHeartbeats 1000000 in
set_option maxRecDepth 100000 in
theorem together_in (w : World) (st : List (Nat × Obj)) (hw : Sat st w) (v1 v2 : Value) (xs ys : List Nat) (h1 : UseIs st v1 xs) (h2 : UseIs st v2 ys) (hl : xs.length + ys.length ≤ 1000000) :
    Calls Try.prog 151 #[v1, v2] w fun e w' => ∃ v' st2, e = .returned v' ∧ Kept0 w w' ∧ UseIs (st ++ st2) v' (xs ++ ys) ∧ Sat st2 w' ∧ ∀ x ∈ st2, w.heap.size ≤ x.1 := by
  by_cases hx : xs = []
  · subst hx
    obtain ⟨a1, c1, e1⟩ := h1.form
    subst e1
    have h2' : UseIs (st ++ []) v2 ([] ++ ys) := by simpa using h2
    obtain ⟨a2, c2, e2⟩ := h2.form
    subst e2
    have H2 : Hid _ := h2'
    clear h1 h2 h2' hw
    go_enter Try.func151, Try.ntmps151
    go_wp2_with fail
    go_ret
    exact ⟨_, [], rfl, Kept.refl _ w, H2.out, fun x hx => by simp at hx, fun x hx => by simp at hx⟩
  · have lx : 0 < xs.length := List.length_pos_iff.2 hx
    have dx : ((xs.length : Int) == 0) = false := beq_eq_false_iff_ne.2 (by omega)
    by_cases hy : ys = []
    · subst hy
      have h1' : UseIs (st ++ []) v1 (xs ++ []) := by simpa using h1
      obtain ⟨a1, c1, e1⟩ := h1.form
      subst e1
      obtain ⟨a2, c2, e2⟩ := h2.form
      subst e2
      have H1 : Hid _ := h1'
      clear h1 h2 h1' hw
      go_enter Try.func151, Try.ntmps151
      go_wp2_with fail
      go_ret
      exact ⟨_, [], rfl, Kept.refl _ w, H1.out, fun x hx => by simp at hx, fun x hx => by simp at hx⟩
    · have ly : 0 < ys.length := List.length_pos_iff.2 hy
      have dy : ((ys.length : Int) == 0) = false := beq_eq_false_iff_ne.2 (by omega)
      obtain ⟨ad1, c1, e1, p1, g1⟩ := h1.cells hw hx
      obtain ⟨ad2, c2, e2, p2, g2⟩ := h2.cells hw hy
      subst e1 e2
      obtain ⟨i0, hi0, hz0, hz1, hz2⟩ := info_parts infoIntK
      go_enter Try.func151, Try.ntmps151
      go_wp2_with (at_builtin; refine wpList_append_grows w rfl _ _ 198 rfl 3 i0 _ 1 8 Try.underlying198 hi0 hz0 hz1 hz2 rfl (by decide) (some ad1) xs.length xs.length (natC xs) rfl (by simp) (by simp [natC_len]) (fun b hb => by cases hb; exact g1) ad2 ys.length c2 (natC ys) rfl (by simp [natC_len]) g2 (natC_one _) (by omega) (by unfold maxLen; omega) (by omega) ?_; intro v' w' r1 r2)
      have K : Kept0 w w' := Kept.grown (Kept.refl _ w) r2 (fun _ e => by cases e)
      rw [natC_app] at r1
      have r1' : w'.ownsRow w.heap.size 3 1 v' (xs ++ ys).length (natC (xs ++ ys)) := by rw [List.length_append]; exact r1
      obtain ⟨x, u1, u2, u3⟩ := UseIs.own r1' (by simp [hx])
      go_ret
      refine ⟨v', [x], rfl, K, u1.mono (fun y hy => List.mem_append_right _ hy), fun y hy => ?_, fun y hy => ?_⟩
      · simp at hy; subst hy; exact u2
      · simp at hy; subst hy; exact (r1'.lt _ u3).1

end Go.Proofs.Ytjfekcjhflcnaaa

namespace Go.Proofs.Ytjfekcjhflcnaaa
open Go.RowKit Go.Maps

theorem infoTerm : (Try.prog.info? 42).map (fun i => (i.zero, i.size, i.bytes)) = some (some (.agg #[.string ⟨#[]⟩, .slice none 0 0]), 2, 40) := by kernel_rfl

theorem UseIs.of_row {w : World} {base : Nat} {v : Value} {xs : List Nat} (h : w.ownsRow base 3 1 v xs.length (natC xs)) :
    ∃ st : List (Nat × Obj), UseIs st v xs ∧ Sat st w ∧ ∀ x ∈ st, v.ownBlock = some x.1 := by
  by_cases hx : xs = []
  · subst hx
    rcases h.2 with ⟨rfl, _⟩ | ⟨g, cap, cur, rfl, _⟩
    · exact ⟨[], ⟨none, 0, rfl, by simp, .inl rfl⟩, fun x hx => by simp at hx, fun x hx => by simp at hx⟩
    · exact ⟨[], ⟨_, cap, rfl, by simp, .inl rfl⟩, fun x hx => by simp at hx, fun x hx => by simp at hx⟩
  · obtain ⟨x, h1, h2, h3⟩ := UseIs.own h hx
    exact ⟨[x], h1, fun y hy => by simp at hy; subst hy; exact h2, fun y hy => by simp at hy; subst hy; exact h3⟩

/-- The first k terms are filled in. -/
structure Tf (w W : World) (tb : Nat) (l : List Tm) (k : Nat) (av : Nat → Value) (st : List (Nat × Obj)) : Prop where
  row : ∃ f, W.rowIs tb 42 (l.length * 2) f ∧ ∀ j, j < k * 2 → f j = termC l av j
  sat : Sat st W
  far : ∀ x ∈ st, w.heap.size ≤ x.1 ∧ x.1 ≠ tb
  args : ∀ (i : Nat) (t : Tm), i < k → l[i]? = some t → UseIs st (av i) t.args
  kept : Kept0 w W
  tb : w.heap.size ≤ tb

theorem below_kept0 {w w' : World} (h : Below w.heap.size w w') : Kept0 w w' := ⟨h.os, h.tape, h.output, h.size, fun k hk _ => h.block k hk⟩

theorem Tf.step {w wr w2 : World} {tb : Nat} {l : List Tm} {k : Nat} {av : Nat → Value} {st : List (Nat × Obj)} {t : Tm} {v : Value} (T : Tf w wr tb l k av st) (ht : l[k]? = some t) (O2 : w2.ownsRow wr.heap.size 3 1 v t.args.length (argC t.args)) (B2 : Below wr.heap.size wr w2) :
    ∃ st', Tf w ((w2.setCell ⟨tb, k * 2, none⟩ (.string t.name)).setCell ⟨tb, k * 2 + 1, none⟩ v) tb l (k + 1) (fun i => if i = k then v else av i) st' := by
  obtain ⟨st2, u1, u2, u3⟩ := UseIs.of_row (xs := t.args) O2
  obtain ⟨f, R, hf⟩ := T.row
  have hlt := R.lt
  have R2 : w2.rowIs tb 42 (l.length * 2) f := R.of_block (B2.block _ hlt)
  have far2 : ∀ x ∈ st2, wr.heap.size ≤ x.1 := fun x hx => (O2.lt _ (u3 x hx)).1
  have blk : ∀ b, b ≠ tb → ((w2.setCell ⟨tb, k * 2, none⟩ (.string t.name)).setCell ⟨tb, k * 2 + 1, none⟩ v).heap[b]? = w2.heap[b]? := fun b hb => (Below.heap_setCell _ _ _ _ hb).trans (Below.heap_setCell _ _ _ _ hb)
  refine ⟨st ++ st2, ⟨⟨_, (R2.set (k * 2) (.string t.name)).set (k * 2 + 1) v, fun j hj => ?_⟩, fun x hx => ?_, fun x hx => ?_, fun i u hi hu => ?_, ?_, T.tb⟩⟩
  · show (if j = k * 2 + 1 then v else if j = k * 2 then .string t.name else f j) = termC l (fun i => if i = k then v else av i) j
    unfold termC
    by_cases e1 : j = k * 2 + 1
    · subst e1
      have h1 : (k * 2 + 1) % 2 = 1 := by omega
      have h2 : (k * 2 + 1) / 2 = k := by omega
      simp [h1, h2]
    · by_cases e0 : j = k * 2
      · subst e0
        have h1 : k * 2 % 2 = 0 := by omega
        have h2 : k * 2 / 2 = k := by omega
        simp [h2, ht]
      · rw [if_neg e1, if_neg e0, hf j (by omega)]
        unfold termC
        have h3 : j / 2 ≠ k := by omega
        simp [h3]
  · rcases List.mem_append.1 hx with hx | hx
    · have hlx : x.1 < wr.heap.size := (Array.getElem?_eq_some_iff.1 (T.sat x hx)).1
      exact (blk _ (T.far x hx).2).trans ((B2.block _ hlx).trans (T.sat x hx))
    · have := far2 x hx
      exact (blk _ (by omega)).trans (u2 x hx)
  · rcases List.mem_append.1 hx with hx | hx
    · exact T.far x hx
    · have := far2 x hx
      have := T.kept.size
      exact ⟨by omega, by omega⟩
  · by_cases e : i = k
    · subst e
      rw [ht] at hu
      cases hu
      show UseIs _ (if i = i then v else av i) t.args
      rw [if_pos rfl]
      exact u1.mono (fun y hy => List.mem_append_right _ hy)
    · show UseIs _ (if i = k then v else av i) u.args
      rw [if_neg e]
      exact (T.args i u (by omega) hu).mono (fun y hy => List.mem_append_left _ hy)
  · exact Kept.setNew (Kept.setNew (T.kept.trans (below_kept0 B2)) T.tb _) T.tb _

set_option maxHeartbeats 2000000 in
set_option maxRecDepth 100000 in
theorem termsOf_in (w : World) (base p : Nat) (ev : Value) (nb fb : Nat) (l : List Tm) (h : Bk w base p ev nb fb l) :
    Calls Try.prog 88 #[.pointer (some ⟨p, 0, none⟩)] w fun e w' => ∃ tb av st, e = .returned (.slice (some ⟨tb, 0, none⟩) l.length l.length) ∧ Tf w w' tb l l.length av st := by
  have SZ := size_in w base p ev nb fb l h
  have hsm := h.small
  obtain ⟨i0, hi0, hz0, hz1, hz2⟩ := info_parts infoTerm
  obtain ⟨C, hC, hm1⟩ : ∃ C : Array Value, C.size = l.length * 2 ∧ (Instr.makeSlice 142 (.int .i64 (l.length : Int)) (.int .i64 (l.length : Int))).run Try.prog w = .ok (.slice (some ⟨w.heap.size, 0, none⟩) l.length l.length) (w.alloc (.cells C 42)) := by
    have hmk := run_make (P := Try.prog) w 142 42 i0 _ Try.underlying142 hi0 hz0 .i64 .i64 (l.length : Int) (l.length : Int) (by omega) (Int.le_refl _) (by rw [hz2]; omega) (by omega)
    simp only [Int.toNat_natCast] at hmk
    exact ⟨_, by rw [size_madeCells, hz1], hmk⟩
  have R0 := made_row w C 42
  rw [hC] at R0
  have K0 : Kept0 w (w.alloc (.cells C 42)) := Kept.alloc (Kept.refl _ w) _
  clear hi0 hz0 hz1 hz2 hC
  go_enter Try.func88, Try.ntmps88
  go_wp2_with (go_at_call 21; refine SZ.mono ?_; rintro e w9 ⟨rfl, rfl⟩)
  clear hm1 SZ
  generalize w.alloc (.cells C 42) = w1 at *
  go_loopw [10] (fun t10 W => ∃ (k : Nat) (av : Nat → Value) (st : List (Nat × Obj)), k ≤ l.length ∧ t10 = .int .i64 (k : Int) ∧ Tf w W w.heap.size l k av st) (fun t10 _ => l.length - (intOf t10).toNat)
  case atStart => exact ⟨0, fun _ => .slice none 0 0, [], by omega, rfl, ⟨⟨_, R0, fun j hj => by omega⟩, fun x hx => by simp at hx, fun x hx => by simp at hx, fun i t hi => by omega, K0, Nat.le_refl _⟩⟩
  case round =>
    clear R0 K0
    obtain ⟨k, av, st, hk, rfl, T⟩ := hrel
    by_cases hk2 : k < l.length
    · have dk : decide ((k : Int) < (l.length : Int)) = true := decide_eq_true (by omega)
      have ht : l[k]? = some l[k] := List.getElem?_eq_getElem hk2
      have TS := term_some wr base p ev nb fb l (h.kept0 T.kept) k l[k] ht
      obtain ⟨f, R, hf⟩ := T.row
      have CE : ∀ W, Below wr.heap.size wr W → W.rowIs w.heap.size 42 (l.length * 2) f := fun W B => R.of_block (B.block _ R.lt)
      generalize hlk : l[k] = t at *
      go_wp2_with (go_at_call 23; refine TS.mono ?_; rintro e w2 ⟨v, rfl, O2, B2⟩; have R2 := CE w2 B2; have y0 := R2.cell (i := k * 2) (by omega); have y1 := R2.cell (i := k * 2 + 1) (by omega); have f0 := R2.frozen (k * 2); have f1 := R2.frozen (k * 2 + 1); obtain ⟨va, vc, hv⟩ := row_form' O2; subst hv)
      obtain ⟨st', T'⟩ := T.step ht O2 B2
      exact ⟨⟨k + 1, _, st', by omega, by simp, T'⟩, by simp [intOf]; omega⟩
    · have dk : decide ((k : Int) < (l.length : Int)) = false := decide_eq_false (by omega)
      obtain rfl : k = l.length := by omega
      go_wp2_with fail
      go_ret
      exact ⟨_, av, st, rfl, T⟩

end Go.Proofs.Ytjfekcjhflcnaaa

namespace Go.Proofs.Ytjfekcjhflcnaaa
open Go.RowKit Go.Maps

/-- append where there is room, in the walk. -/
theorem wpList_append_spare {P : Program} {ops : Array Oper} {rest : List Oper} {o : Oper} {a : Act} {w : World} {Q : Exit → Act → World → Prop} (hgd : o.guard = none) (sl x : Operand) (t : TypeId)
    (ho : o.op = .call { callee := .builtin .append, args := #[sl, x], argTypes := #[t, t] })
    (e : TypeId) (i : TypeInfo) (size : Nat) (h1 : P.underlying t = some (.slice e)) (h2 : P.info? e = some i) (h4 : i.size = size)
    (b off n cap : Nat) (hs : a.eval sl = .slice (some ⟨b, off, none⟩) n cap)
    (ad : Addr) (m c : Nat) (news : List Value) (hx : a.eval x = .slice (some ad) m c) (hn : news.length = m * size) (hc : ∀ j u, news[j]? = some u → w.cell? (ad.add j) = some u) (h1c : ∀ u ∈ news, u.oneCell' = true)
    (hroom : n + m ≤ cap) (hspare : ∀ j, j < news.length → (w.cell? ⟨b, off + n * size + j, none⟩).isSome = true ∧ w.frozen? ⟨b, off + n * size + j, none⟩ = false)
    (h : wpList P ops Q rest (a.put o.dst (.slice (some ⟨b, off, none⟩) (n + m) cap)) (w.setCells b (off + n * size) news)) : wpList P ops Q (o :: rest) a w := by
  refine wpList_plain hgd fun K hK => ?_
  subst h4
  have hr := run_append_room_cells (P := P) w t o.type e i h1 h2 b off n cap ad m c news hn hc h1c hroom (fun j hj => (hspare j hj).1) (fun j hj => (hspare j hj).2)
  unfold Oper.wp execOp
  simp only [ho, resolve, invoke, builtin, Sem.run_bind, Sem.run_pure, Result.andThen_ok, List.map_toArray, List.map_cons, List.map_nil, hs, hx, hr]
  exact hK _ _ h

/-- A row of numbers, one for each term. -/
theorem make_ints (w : World) (ty : TypeId) (hty : Try.prog.underlying ty = some (.slice 3)) (n : Nat) (hn : n ≤ 1000000) : (Instr.makeSlice ty (.int .i64 (n : Int)) (.int .i64 (n : Int))).run Try.prog w = .ok (.slice (some ⟨w.heap.size, 0, none⟩) n n) (w.alloc (.cells (madeCells #[.int .i64 0] n) 3)) := by
  obtain ⟨i0, hi0, hz0, hz1, hz2⟩ := info_parts infoIntK
  have hmk := run_make (P := Try.prog) w ty 3 i0 _ hty hi0 hz0 .i64 .i64 (n : Int) (n : Int) (by omega) (Int.le_refl _) (by rw [hz2]; omega) (by omega)
  rw [hz1] at hmk
  simp only [Int.toNat_natCast, Nat.mul_one] at hmk
  exact hmk

theorem infoUses : (Try.prog.info? 198).map (fun i => (i.zero, i.size, i.bytes)) = some (some (.slice none 0 0), 1, 24) := by kernel_rfl
theorem make_uses (w : World) (n : Nat) (hn : n ≤ 1000000) : (Instr.makeSlice 146 (.int .i64 (n : Int)) (.int .i64 (n : Int))).run Try.prog w = .ok (.slice (some ⟨w.heap.size, 0, none⟩) n n) (w.alloc (.cells (madeCells #[.slice none 0 0] n) 198)) := by
  obtain ⟨i0, hi0, hz0, hz1, hz2⟩ := info_parts infoUses
  have hmk := run_make (P := Try.prog) w 146 198 i0 _ Try.underlying146 hi0 hz0 .i64 .i64 (n : Int) (n : Int) (by omega) (Int.le_refl _) (by rw [hz2]; omega) (by omega)
  rw [hz1] at hmk
  simp only [Int.toNat_natCast, Nat.mul_one] at hmk
  exact hmk

/-- The room as far as it is filled. -/
def Rm (W : World) (rb total N : Nat) (c : Nat → Nat) (d : List (Nat × Nat)) : Prop := ∃ g, W.rowIs rb 3 total g ∧ ∀ i, i < N → ∀ j x : Nat, (Cc.usf d i)[j]? = some x → g (Cc.offs c i + j) = .int .i64 (x : Int)
theorem Rm.step {W : World} {rb total N : Nat} {c : Nat → Nat} {d : List (Nat × Nat)} (h : Rm W rb total N c d) {a n : Nat} (hd : Cc.cna d a < c a) (hle : ∀ i, Cc.cna d i ≤ c i) :
    Rm (W.setCell ⟨rb, Cc.offs c a + Cc.cna d a, none⟩ (.int .i64 (n : Int))) rb total N c (d ++ [(a, n)]) := by
  obtain ⟨g, R, hg⟩ := h
  refine ⟨_, R.set (Cc.offs c a + Cc.cna d a) (.int .i64 (n : Int)), fun i hi j x hj => ?_⟩
  rw [Cc.usf_snoc] at hj
  show (if Cc.offs c i + j = Cc.offs c a + Cc.cna d a then Value.int .i64 (n : Int) else g (Cc.offs c i + j)) = _
  by_cases e : i = a
  · subst e
    rw [if_pos rfl] at hj
    by_cases ej : j < Cc.cna d i
    · rw [List.getElem?_append_left ej] at hj
      rw [if_neg (by omega)]
      exact hg i hi j x hj
    · have hjl := (List.getElem?_eq_some_iff.1 hj).1
      rw [List.length_append, List.length_singleton] at hjl
      have ej2 : j = Cc.cna d i := by unfold Cc.cna at ej ⊢; omega
      subst ej2
      rw [if_pos rfl]
      unfold Cc.cna at hj
      rw [List.getElem?_append_right (Nat.le_refl _), Nat.sub_self] at hj
      simp at hj
      rw [hj]
  · rw [if_neg e] at hj
    have hjl : j < Cc.cna d i := (List.getElem?_eq_some_iff.1 hj).1
    have h1 := hle i
    have : ¬ Cc.offs c i + j = Cc.offs c a + Cc.cna d a := by
      rcases Nat.lt_or_gt_of_ne e with e | e
      · have := Cc.offs_mono c e; omega
      · have := Cc.offs_mono c e; omega
    rw [if_neg this]
    exact hg i hi j x hj

/-- The slice of term i, behind d. -/
def slD (rb : Nat) (c : Nat → Nat) (d : List (Nat × Nat)) (i : Nat) : Value := .slice (some ⟨rb, if c i = 0 then 0 else Cc.offs c i, none⟩) (Cc.cna d i) (c i)

/-- What firstUses leaves. -/
structure Fu (w w' : World) (ub : Nat) (l : List Tm) (uv : Nat → Value) (st : List (Nat × Obj)) : Prop where
  row : w'.rowIs ub 198 l.length uv
  sat : Sat st w'
  far : ∀ x ∈ st, w.heap.size ≤ x.1 ∧ x.1 ≠ ub
  uses : ∀ i, i < l.length → UseIs st (uv i) (Cc.usf (Cc.evs l 0) i)
  kept : Kept0 w w'
  ub : w.heap.size ≤ ub

theorem Fu.made {w w' : World} {rb : Nat} {l : List Tm} (h1 : w'.rowIs (rb + 1) 198 l.length (slD rb (Cc.cna (Cc.evs l 0)) (Cc.evs l 0))) (h2 : Rm w' rb (Cc.evs l 0).length l.length (Cc.cna (Cc.evs l 0)) (Cc.evs l 0)) (hall : Cc.offs (Cc.cna (Cc.evs l 0)) l.length = (Cc.evs l 0).length) (K : Kept0 w w') (hb : w.heap.size ≤ rb) :
    ∃ uv st2, Fu w w' (rb + 1) l uv st2 := by
  obtain ⟨g, ⟨C, q1, q2, q3⟩, hg⟩ := h2
  refine ⟨_, [(rb, .cells C 3 (0, 0))], ⟨h1, fun x hx => by simp at hx; subst hx; exact q1, fun x hx => by simp at hx; subst hx; exact ⟨hb, by show rb ≠ rb + 1; omega⟩, fun i hi => ?_, K, by omega⟩⟩
  refine ⟨_, Cc.cna (Cc.evs l 0) i, rfl, Nat.le_refl _, ?_⟩
  by_cases e : Cc.usf (Cc.evs l 0) i = []
  · exact .inl e
  · have hc : Cc.cna (Cc.evs l 0) i ≠ 0 := fun x => e (List.eq_nil_of_length_eq_zero x)
    refine .inr ⟨rb, Cc.offs (Cc.cna (Cc.evs l 0)) i, C, (0, 0), by rw [if_neg hc], by simp, fun j x hj => ?_⟩
    have hjl : j < Cc.cna (Cc.evs l 0) i := (List.getElem?_eq_some_iff.1 hj).1
    have := Cc.offs_mono (Cc.cna (Cc.evs l 0)) hi
    rw [q3 _ (by omega), hg i hi j x hj]

set_option maxHeartbeats 2000000 in
set_option maxRecDepth 100000 in
theorem first_in (w : World) (l : List Tm) (tb : Nat) (av : Nat → Value) (st : List (Nat × Obj)) (hR : w.rowIs tb 42 (l.length * 2) (termC l av)) (hS : Sat st w) (hA : ∀ (i : Nat) (t : Tm), l[i]? = some t → UseIs st (av i) t.args) (hb : Cc.Bd l) (hl : l.length ≤ 150) :
    Calls Try.prog 120 #[.slice (some ⟨tb, 0, none⟩) l.length l.length] w fun e w' => ∃ ub uv st2, e = .returned (.slice (some ⟨ub, 0, none⟩) l.length l.length) ∧ Fu w w' ub l uv st2 := by
  have M1 := make_ints w 40 Try.underlying40 l.length (by omega)
  have R1 := World.rowIs_made w (.int .i64 0) l.length 3
  have K1 : Kept0 w (w.alloc (.cells (madeCells #[.int .i64 0] l.length) 3)) := Kept.alloc (Kept.refl _ w) _
  go_enter Try.func120, Try.ntmps120
  go_wp2_with fail
  clear M1
  generalize w.alloc (.cells (madeCells #[.int .i64 0] l.length) 3) = w1 at *
  have h4 := hb.four
  have hcb : w.heap.size < w1.heap.size := R1.lt
  have htl := hR.lt
  generalize hcbe : w.heap.size = cb at *
  have T0 : ∀ W, Kept0 w W → ∀ (n : Nat) (t : Tm), l[n]? = some t → W.cell? ⟨tb, n * 2, none⟩ = some (.string t.name) ∧ W.cell? ⟨tb, n * 2 + 1, none⟩ = some (av n) := fun W K n t ht => by
    have hn := (List.getElem?_eq_some_iff.1 ht).1
    have R := World.rowIs.of_block hR (K.block tb (by omega) (fun e => e))
    refine ⟨?_, ?_⟩
    · rw [R.cell (i := n * 2) (by omega)]; simp [termC, ht]
    · rw [R.cell (i := n * 2 + 1) (by omega)]
      have h1 : (n * 2 + 1) % 2 = 1 := by omega
      have h2 : (n * 2 + 1) / 2 = n := by omega
      simp [termC, h1, h2]
  have T0h : Hid _ := T0
  clear T0
  have SS : ∀ W, Kept0 w W → Sat st W := fun W K x hx => (K.block x.1 (Array.getElem?_eq_some_iff.1 (hS x hx)).1 (fun e => e)).trans (hS x hx)
  go_loopw [4, 23] (fun t4 t23 W => ∃ n : Nat, n ≤ l.length ∧ t23 = .int .i64 (n : Int) ∧ t4 = .int .i64 ((Cc.evs (l.take n) 0).length : Int) ∧ W.rowIs cb 3 l.length (fun i => .int .i64 (Cc.cna (Cc.evs (l.take n) 0) i : Int)) ∧ Kept0 w W) (fun _ t23 _ => l.length - (intOf t23).toNat)
  case atStart => exact ⟨0, by omega, rfl, rfl, R1, K1⟩
  case round =>
    clear R1 K1
    obtain ⟨n, hn, rfl, rfl, R, K⟩ := hrel
    by_cases hn2 : n < l.length
    · have dn : decide ((n : Int) < (l.length : Int)) = true := decide_eq_true (by omega)
      have ht : l[n]? = some l[n] := List.getElem?_eq_getElem hn2
      generalize hln : l[n] = t at ht
      obtain ⟨t0, t1⟩ := T0h.out wr K n t ht
      obtain ⟨aa, ac, hav⟩ := (hA n t ht).form
      rw [hav] at t1
      have hU := hA n t ht
      rw [hav] at hU
      have K2 : Kept0 w (wr.alloc (.cells #[.string t.name, .slice aa t.args.length ac] 42)) := K.alloc _
      have R2 := R.alloc (.cells #[.string t.name, .slice aa t.args.length ac] 42)
      rw [← Cc.pre_zero l n t] at R2
      have e0 : (Cc.evs (l.take n) 0).length = (Cc.pre l n t 0).length := by rw [Cc.pre_zero]
      go_wp2_with fail
      rw [e0]
      generalize wr.alloc (.cells #[.string t.name, .slice aa t.args.length ac] 42) = w2 at *
      clear t0 t1 R K
      go_loopw [4, 30] (fun t4 t30 W => ∃ k : Nat, k ≤ t.args.length ∧ t30 = .int .i64 (k : Int) ∧ t4 = .int .i64 ((Cc.pre l n t k).length : Int) ∧ W.rowIs cb 3 l.length (fun i => .int .i64 (Cc.cna (Cc.pre l n t k) i : Int)) ∧ Kept0 w W) (fun _ t30 _ => t.args.length - (intOf t30).toNat)
      case atStart => exact ⟨0, by omega, rfl, rfl, R2, K2⟩
      case round =>
        clear R2 K2
        obtain ⟨k, hk, rfl, rfl, R, K⟩ := hrel
        by_cases hk2 : k < t.args.length
        · have dk : decide ((k : Int) < (t.args.length : Int)) = true := decide_eq_true (by omega)
          have hka : t.args[k]? = some t.args[k] := List.getElem?_eq_getElem hk2
          obtain ⟨b, off, cap, hv, _, hc⟩ := hU.cell (SS wr K) hka
          injection hv with e1 e2 e3
          clear e2
          subst e1 e3
          have ck := hc k _ hka
          clear hc
          have hlt := hb.args n t ht _ (List.getElem_mem hk2)
          have hpl := Cc.pre_len h4 ht k
          have hcl := Cc.cna_le (Cc.pre l n t k) t.args[k]
          have R' := World.rowIs.congr (R.set t.args[k] (.int .i64 ((Cc.cna (Cc.pre l n t k) t.args[k] : Int) + 1))) (g := fun i => .int .i64 (Cc.cna (Cc.pre l n t (k + 1)) i : Int)) (fun i hi => by
            rw [Cc.pre_step hka, Cc.cna_snoc]
            by_cases e : i = t.args[k]
            · rw [if_pos e, if_pos e, e]; simp
            · rw [if_neg e, if_neg e])
          have cc := R.cell (i := t.args[k]) hlt
          have fc := R.frozen t.args[k]
          have hpl' : (Cc.pre l n t (k + 1)).length = (Cc.pre l n t k).length + 1 := by rw [Cc.pre_step hka]; simp
          generalize t.args[k] = xa at *
          generalize Cc.cna (Cc.pre l n t k) xa = cn at *
          generalize (Cc.pre l n t k).length = pn at *
          have hk4 : t.args.length ≤ 4 := h4 t (List.mem_of_getElem? ht)
          have HF : Hid (_ ∧ _ ∧ _) := ⟨R', hpl', Kept.setNew (off := xa) K (Nat.le_of_eq hcbe) (.int .i64 ((cn : Int) + 1))⟩
          clear R R' hpl' K hU hka hav hA hR hS T0h SS hb h4 hln ht e0 hcb htl hcbe
          go_wp2_with fail
          obtain ⟨R', hpl', K'⟩ := HF.out
          refine ⟨⟨k + 1, hk2, ?_, ?_, R', K'⟩, ?_⟩
          · simp
          · rw [hpl']; simp
          · simp [intOf]; omega
        · have dk : decide ((k : Int) < (t.args.length : Int)) = false := decide_eq_false (by omega)
          obtain rfl : k = t.args.length := by omega
          rw [Cc.pre_all ht] at R ⊢
          go_wp2_with fail
          exact ⟨⟨n + 1, by omega, by simp, rfl, R, K⟩, by simp [intOf]; omega⟩
    · have dn : decide ((n : Int) < (l.length : Int)) = false := decide_eq_false (by omega)
      obtain rfl : n = l.length := by omega
      rw [Cc.evs_all] at R ⊢
      have htot : (Cc.evs l 0).length ≤ 4 * l.length := Cc.evs_len h4 0
      have hall : Cc.offs (Cc.cna (Cc.evs l 0)) l.length = (Cc.evs l 0).length := Cc.offs_all _ _ (Cc.evs_lt (fun t ht a ha => by
        obtain ⟨n, hn, rfl⟩ := List.mem_iff_getElem.1 ht
        exact hb.args n _ (List.getElem?_eq_getElem hn) a ha) 0)
      have M2 := make_ints wr 198 Try.underlying198 (Cc.evs l 0).length (by omega)
      have M3 := make_uses (wr.alloc (.cells (madeCells #[.int .i64 0] (Cc.evs l 0).length) 3)) l.length (by omega)
      have Rr := World.rowIs.alloc (World.rowIs_made wr (.int .i64 0) (Cc.evs l 0).length 3) (.cells (madeCells #[.slice none 0 0] l.length) 198)
      have Ra := World.rowIs_made (wr.alloc (.cells (madeCells #[.int .i64 0] (Cc.evs l 0).length) 3)) (.slice none 0 0) l.length 198
      have hs1 : (wr.alloc (.cells (madeCells #[.int .i64 0] (Cc.evs l 0).length) 3)).heap.size = wr.heap.size + 1 := by simp
      rw [hs1] at M3 Ra
      have Rc := (R.alloc (.cells (madeCells #[.int .i64 0] (Cc.evs l 0).length) 3)).alloc (.cells (madeCells #[.slice none 0 0] l.length) 198)
      have K5 := (K.alloc (.cells (madeCells #[.int .i64 0] (Cc.evs l 0).length) 3)).alloc (.cells (madeCells #[.slice none 0 0] l.length) 198)
      have hrb : cb < wr.heap.size := R.lt
      go_wp2_with fail
      clear M2 M3 R K hs1
      generalize (wr.alloc (.cells (madeCells #[.int .i64 0] (Cc.evs l 0).length) 3)).alloc (.cells (madeCells #[.slice none 0 0] l.length) 198) = w5 at *
      generalize wr.heap.size = rb at *
      generalize hE : Cc.evs l 0 = E at *
      have hEh : Hid (Cc.evs l 0 = E) := hE
      clear hE
      go_loopw [11, 51] (fun t11 t51 W => ∃ n : Nat, n ≤ l.length ∧ t51 = .int .i64 (n : Int) ∧ t11 = .int .i64 (Cc.offs (Cc.cna E) n : Int) ∧ W.rowIs (rb + 1) 198 l.length (fun i => if i < n then slD rb (Cc.cna E) [] i else .slice none 0 0) ∧ W.rowIs cb 3 l.length (fun i => .int .i64 (Cc.cna E i : Int)) ∧ W.rowIs rb 3 E.length (fun _ => .int .i64 0) ∧ Kept0 w W) (fun _ t51 _ => l.length - (intOf t51).toNat)
      case atStart => exact ⟨0, by omega, rfl, rfl, Ra.congr (fun i _ => by simp), Rc, Rr, K5⟩
      case round =>
        clear Ra Rc Rr K5
        obtain ⟨n, hn, rfl, rfl, Ra, Rc, Rr, K⟩ := hrel
        by_cases hn2 : n < l.length
        · have dn : decide ((n : Int) < (l.length : Int)) = true := decide_eq_true (by omega)
          have cc := Rc.cell (i := n) hn2
          have ca := Ra.cell (i := n) hn2
          rw [if_neg (Nat.lt_irrefl n)] at ca
          have fa := Ra.frozen n
          have hom := Cc.offs_mono (Cc.cna E) hn2
          rw [hall] at hom
          have hoff : Cc.offs (Cc.cna E) (n + 1) = Cc.offs (Cc.cna E) n + Cc.cna E n := rfl
          have SLD : Hid (slD rb (Cc.cna E) [] n = .slice (some ⟨rb, if Cc.cna E n = 0 then 0 else Cc.offs (Cc.cna E) n, none⟩) 0 (Cc.cna E n)) := rfl
          generalize hcn : Cc.cna E n = cn at *
          generalize hon : Cc.offs (Cc.cna E) n = on at *
          clear hA hR hS T0h SS hb h4 hall hcb htl
          have HH : Hid (_ ∧ _ ∧ _ ∧ _ ∧ _ ∧ _) := ⟨hcn, hon, Ra, Rc, Rr, K⟩
          clear hcn hon Ra Rc Rr K
          by_cases hc0 : cn = 0
          · subst hc0
            go_wp2_with fail
            obtain ⟨hcn, hon, Ra, Rc, Rr, K⟩ := HH.out
            have hv := SLD.out
            rw [if_pos rfl] at hv
            refine ⟨⟨n + 1, hn2, by simp, by rw [hoff]; rfl, (Ra.set n _).congr (fun i hi => ?_), Rc.setOther (show cb ≠ rb + 1 by omega) _, Rr.setOther (show rb ≠ rb + 1 by omega) _, Kept.setNew K (by omega) _⟩, by simp [intOf]; omega⟩
            by_cases e : i = n
            · rw [if_pos e, e, if_pos (Nat.lt_succ_self n), hv]
            · rw [if_neg e]
              by_cases e2 : i < n
              · rw [if_pos e2, if_pos (by omega)]
              · rw [if_neg e2, if_neg (by omega)]
          · go_wp2_with fail
            obtain ⟨hcn, hon, Ra, Rc, Rr, K⟩ := HH.out
            have hv := SLD.out
            rw [if_neg hc0] at hv
            refine ⟨⟨n + 1, hn2, by simp, by rw [hoff]; simp, (Ra.set n _).congr (fun i hi => ?_), Rc.setOther (show cb ≠ rb + 1 by omega) _, Rr.setOther (show rb ≠ rb + 1 by omega) _, Kept.setNew K (by omega) _⟩, by simp [intOf]; omega⟩
            by_cases e : i = n
            · rw [if_pos e, e, if_pos (Nat.lt_succ_self n), hv]
            · rw [if_neg e]
              by_cases e2 : i < n
              · rw [if_pos e2, if_pos (by omega)]
              · rw [if_neg e2, if_neg (by omega)]
        · have dn : decide ((n : Int) < (l.length : Int)) = false := decide_eq_false (by omega)
          obtain rfl : n = l.length := by omega
          have Ra0 : wr.rowIs (rb + 1) 198 l.length (slD rb (Cc.cna E) (Cc.evs (l.take 0) 0)) := Ra.congr (fun i hi => by rw [if_pos hi]; rfl)
          have Rm0 : Rm wr rb E.length l.length (Cc.cna E) (Cc.evs (l.take 0) 0) := ⟨_, Rr, fun i _ j x hj => by simp [Cc.evs, Cc.usf] at hj⟩
          have HC : Hid (cb < rb ∧ w.heap.size = cb) := ⟨hrb, hcbe⟩
          clear hrb hcbe hcb htl
          go_wp2_with fail
          clear Ra Rc Rr
          go_loopw [72] (fun t72 W => ∃ n : Nat, n ≤ l.length ∧ t72 = .int .i64 (n : Int) ∧ W.rowIs (rb + 1) 198 l.length (slD rb (Cc.cna E) (Cc.evs (l.take n) 0)) ∧ Rm W rb E.length l.length (Cc.cna E) (Cc.evs (l.take n) 0) ∧ Kept0 w W) (fun t72 _ => l.length - (intOf t72).toNat)
          case atStart => exact ⟨0, by omega, rfl, Ra0, Rm0, K⟩
          case round =>
            clear Ra0 Rm0 K
            obtain ⟨n, hn, rfl, Ra, Rm1, K⟩ := hrel
            by_cases hn2 : n < l.length
            · have dn : decide ((n : Int) < (l.length : Int)) = true := decide_eq_true (by omega)
              have ht : l[n]? = some l[n] := List.getElem?_eq_getElem hn2
              generalize hln : l[n] = t at ht
              clear hln
              obtain ⟨t0, t1⟩ := T0h.out wr K n t ht
              have hU := hA n t ht
              obtain ⟨aa, ac, hav⟩ := hU.form
              rw [hav] at t1 hU
              have K2 : Kept0 w (wr.alloc (.cells #[.string t.name, .slice aa t.args.length ac] 42)) := K.alloc _
              have R2 := Ra.alloc (.cells #[.string t.name, .slice aa t.args.length ac] 42)
              have Rm2 : Rm (wr.alloc (.cells #[.string t.name, .slice aa t.args.length ac] 42)) rb E.length l.length (Cc.cna E) (Cc.evs (l.take n) 0) := by
                obtain ⟨g, q1, q2⟩ := Rm1
                exact ⟨g, q1.alloc _, q2⟩
              rw [← Cc.pre_zero l n t] at R2 Rm2
              have HT : Hid (l[n]? = some t) := ht
              clear ht
              go_wp2_with fail
              have ht := HT.out
              clear HT
              generalize wr.alloc (.cells #[.string t.name, .slice aa t.args.length ac] 42) = w6 at *
              clear t0 t1 Ra Rm1 K hav
              go_loopw [80] (fun t80 W => ∃ k : Nat, k ≤ t.args.length ∧ t80 = .int .i64 (k : Int) ∧ W.rowIs (rb + 1) 198 l.length (slD rb (Cc.cna E) (Cc.pre l n t k)) ∧ Rm W rb E.length l.length (Cc.cna E) (Cc.pre l n t k) ∧ Kept0 w W) (fun t80 _ => t.args.length - (intOf t80).toNat)
              case atStart => exact ⟨0, by omega, rfl, R2, Rm2, K2⟩
              case round =>
                clear R2 Rm2 K2
                obtain ⟨k, hk, rfl, Ra, Rm1, K⟩ := hrel
                by_cases hk2 : k < t.args.length
                · have dk : decide ((k : Int) < (t.args.length : Int)) = true := decide_eq_true (by omega)
                  have hka : t.args[k]? = some t.args[k] := List.getElem?_eq_getElem hk2
                  obtain ⟨b, off, cap, hv, _, hc⟩ := hU.cell (SS wr K) hka
                  injection hv with e1 e2 e3
                  clear e2
                  subst e1 e3
                  have ck := hc k _ hka
                  clear hc
                  have hlt := hb.args n t ht _ (List.getElem_mem hk2)
                  have hk4 : t.args.length ≤ 4 := h4 t (List.mem_of_getElem? ht)
                  generalize t.args[k] = xa at *
                  have hle : ∀ i, Cc.cna (Cc.pre l n t k) i ≤ Cc.cna E i := fun i => by rw [← hEh.out]; exact Cc.pre_cna ht k i
                  have hlt2 : Cc.cna (Cc.pre l n t k) xa < Cc.cna E xa := by
                    have := Cc.pre_cna ht (k + 1) xa
                    rw [Cc.pre_step hka, Cc.cna_snoc, if_pos rfl, hEh.out] at this
                    omega
                  have hom := Cc.offs_mono (Cc.cna E) hlt
                  rw [hall] at hom
                  have Rm3 := Rm1.step (n := n) hlt2 hle
                  rw [← Cc.pre_step hka] at Rm3
                  have ca := Ra.cell (i := xa) hlt
                  have fa := Ra.frozen xa
                  have hsl : slD rb (Cc.cna E) (Cc.pre l n t k) xa = .slice (some ⟨rb, Cc.offs (Cc.cna E) xa, none⟩) (Cc.cna (Cc.pre l n t k) xa) (Cc.cna E xa) := by unfold slD; rw [if_neg (by omega)]
                  have hsl2 : slD rb (Cc.cna E) (Cc.pre l n t (k + 1)) xa = .slice (some ⟨rb, Cc.offs (Cc.cna E) xa, none⟩) (Cc.cna (Cc.pre l n t k) xa + 1) (Cc.cna E xa) := by unfold slD; rw [if_neg (by omega), Cc.pre_step hka, Cc.cna_snoc, if_pos rfl]
                  have hso : ∀ i, i ≠ xa → slD rb (Cc.cna E) (Cc.pre l n t (k + 1)) i = slD rb (Cc.cna E) (Cc.pre l n t k) i := fun i hi => by unfold slD; rw [Cc.pre_step hka, Cc.cna_snoc, if_neg hi]
                  rw [hsl] at ca
                  obtain ⟨g, Rg, hg⟩ := Rm1
                  have hxl : Cc.offs (Cc.cna E) xa + Cc.cna (Cc.pre l n t k) xa < E.length := by omega
                  have cr : ∀ O, (wr.alloc O).cell? ⟨rb, Cc.offs (Cc.cna E) xa + Cc.cna (Cc.pre l n t k) xa, none⟩ = some (g (Cc.offs (Cc.cna E) xa + Cc.cna (Cc.pre l n t k) xa)) ∧ (wr.alloc O).frozen? ⟨rb, Cc.offs (Cc.cna E) xa + Cc.cna (Cc.pre l n t k) xa, none⟩ = false := fun O => by
                    have := Rg.alloc O
                    exact ⟨this.cell hxl, this.frozen _⟩
                  have FIN : Hid (∀ O, ((((wr.alloc O).setCell ⟨rb, Cc.offs (Cc.cna E) xa + Cc.cna (Cc.pre l n t k) xa, none⟩ (.int .i64 (n : Int))).setCell ⟨rb + 1, xa, none⟩ (.slice (some ⟨rb, Cc.offs (Cc.cna E) xa, none⟩) (Cc.cna (Cc.pre l n t k) xa + 1) (Cc.cna E xa))).rowIs (rb + 1) 198 l.length (slD rb (Cc.cna E) (Cc.pre l n t (k + 1)))) ∧ Rm (((wr.alloc O).setCell ⟨rb, Cc.offs (Cc.cna E) xa + Cc.cna (Cc.pre l n t k) xa, none⟩ (.int .i64 (n : Int))).setCell ⟨rb + 1, xa, none⟩ (.slice (some ⟨rb, Cc.offs (Cc.cna E) xa, none⟩) (Cc.cna (Cc.pre l n t k) xa + 1) (Cc.cna E xa))) rb E.length l.length (Cc.cna E) (Cc.pre l n t (k + 1)) ∧ Kept0 w (((wr.alloc O).setCell ⟨rb, Cc.offs (Cc.cna E) xa + Cc.cna (Cc.pre l n t k) xa, none⟩ (.int .i64 (n : Int))).setCell ⟨rb + 1, xa, none⟩ (.slice (some ⟨rb, Cc.offs (Cc.cna E) xa, none⟩) (Cc.cna (Cc.pre l n t k) xa + 1) (Cc.cna E xa)))) := fun O => by
                    obtain ⟨h1, h2⟩ := HC.out
                    refine ⟨?_, ?_, ?_⟩
                    · refine (((Ra.alloc O).setOther (a := ⟨rb, Cc.offs (Cc.cna E) xa + Cc.cna (Cc.pre l n t k) xa, none⟩) (show rb + 1 ≠ rb by omega) (.int .i64 (n : Int))).set xa _).congr (fun i hi => ?_)
                      by_cases e : i = xa
                      · rw [if_pos e, e, hsl2]
                      · rw [if_neg e, hso i e]
                    · have := Rm.step (W := wr.alloc O) (n := n) (⟨g, Rg.alloc O, hg⟩ : Rm (wr.alloc O) rb E.length l.length (Cc.cna E) (Cc.pre l n t k)) hlt2 hle
                      rw [← Cc.pre_step hka] at this
                      obtain ⟨g', q1, q2⟩ := this
                      exact ⟨g', q1.setOther (a := ⟨rb + 1, xa, none⟩) (show rb ≠ rb + 1 by omega) _, q2⟩
                    · exact Kept.setNew (Kept.setNew (K.alloc O) (by omega) _) (by omega) _
                  have ca' : ∀ O, ((wr.alloc O).setCell ⟨rb, Cc.offs (Cc.cna E) xa + Cc.cna (Cc.pre l n t k) xa, none⟩ (.int .i64 (n : Int))).cell? ⟨rb + 1, xa, none⟩ = some (.slice (some ⟨rb, Cc.offs (Cc.cna E) xa, none⟩) (Cc.cna (Cc.pre l n t k) xa) (Cc.cna E xa)) ∧ ((wr.alloc O).setCell ⟨rb, Cc.offs (Cc.cna E) xa + Cc.cna (Cc.pre l n t k) xa, none⟩ (.int .i64 (n : Int))).frozen? ⟨rb + 1, xa, none⟩ = false := fun O => by
                    have q := (Ra.alloc O).setOther (a := ⟨rb, Cc.offs (Cc.cna E) xa + Cc.cna (Cc.pre l n t k) xa, none⟩) (show rb + 1 ≠ rb by omega) (.int .i64 (n : Int))
                    exact ⟨by rw [q.cell hlt, hsl], q.frozen _⟩
                  have HT : Hid (l[n]? = some t ∧ t.args[k]? = some xa) := ⟨ht, hka⟩
                  obtain ⟨i0, hi0, hz0, hz1, hz2⟩ := info_parts infoIntK
                  clear ht hka Ra Rg hg hsl hsl2 hso K Rm3 hle hU hA hS SS hR T0h hb hall h4
                  generalize Cc.cna E xa = cE at *
                  generalize Cc.offs (Cc.cna E) xa = oE at *
                  generalize Cc.cna (Cc.pre l n t k) xa = cd at *
                  obtain ⟨q1, q2⟩ := ca' (.cells #[.int .i64 (n : Int)] 3)
                  obtain ⟨q3, q4⟩ := cr (.cells #[.int .i64 (n : Int)] 3)
                  have hroom : cd + 1 ≤ cE := by omega
                  clear cr ca' hi0 hz0 hz1 hz2
                  go_wp2_with fail
                  obtain ⟨f1, f2, f3⟩ := FIN.out (.cells #[.int .i64 (n : Int)] 3)
                  exact ⟨⟨k + 1, hk2, by simp, f1, f2, f3⟩, by simp [intOf]; omega⟩
                · have dk : decide ((k : Int) < (t.args.length : Int)) = false := decide_eq_false (by omega)
                  obtain rfl : k = t.args.length := by omega
                  rw [Cc.pre_all ht] at Ra Rm1
                  have HT : Hid (l[n]? = some t) := ht
                  clear ht
                  go_wp2_with fail
                  exact ⟨⟨n + 1, by omega, by simp, Ra, Rm1, K⟩, by simp [intOf]; omega⟩
            · have dn : decide ((n : Int) < (l.length : Int)) = false := decide_eq_false (by omega)
              obtain rfl : n = l.length := by omega
              rw [Cc.evs_all] at Ra Rm1
              go_wp2_with fail
              go_ret
              obtain ⟨h1, h2⟩ := HC.out
              have hE := hEh.out
              rw [hE] at Ra Rm1
              rw [← hE] at Ra Rm1 hall
              obtain ⟨uv, st2, F⟩ := Fu.made Ra Rm1 hall K (by omega)
              exact ⟨_, uv, st2, rfl, F⟩

end Go.Proofs.Ytjfekcjhflcnaaa
