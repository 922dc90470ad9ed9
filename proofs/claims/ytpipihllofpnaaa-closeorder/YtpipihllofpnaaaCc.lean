/- The plain mathematics of package close: what follows from equalities, by a list of what is to do. No Go here. -/
import Derived.Test.YtpipihllofpnaaaTermC
namespace Go.Proofs.Ytpipihllofpnaaa.Cc

/-- What a bank's list keeps to. -/
structure Bd (l : List Tm) : Prop where
  args : ∀ (n : Nat) (t : Tm), l[n]? = some t → ∀ a ∈ t.args, a < l.length
  four : ∀ t ∈ l, t.args.length ≤ 4
  one : ∀ t ∈ l, ∀ u ∈ l, t.name = u.name → t.args.length = u.args.length
  nodup : l.Nodup

/-- The class of arg k, 0 behind the last. -/
def ar (lo : Nat → Nat) (t : Tm) (k : Nat) : Nat := match t.args[k]? with
  | some a => lo a
  | none => 0
/-- A term's signature. -/
def sg (lo : Nat → Nat) (t : Tm) : Tm := ⟨t.name, [ar lo t 0, ar lo t 1, ar lo t 2, ar lo t 3]⟩
theorem sg_arg (lo : Nat → Nat) (t : Tm) (k : Nat) (hk : k < 4) : (sg lo t).arg k = ar lo t k := by
  rcases (by omega : k = 0 ∨ k = 1 ∨ k = 2 ∨ k = 3) with rfl | rfl | rfl | rfl <;> rfl
theorem sg_congr {lo lo' : Nat → Nat} {t : Tm} (h : ∀ a ∈ t.args, lo a = lo' a) : sg lo t = sg lo' t := by
  have : ∀ k, ar lo t k = ar lo' t k := by
    intro k
    unfold ar
    cases e : t.args[k]? with
    | none => rfl
    | some a => exact h a (List.mem_of_getElem? e)
  simp [sg, this]

/-- The closure. -/
inductive Cg (l : List Tm) (P : List (Nat × Nat)) : Nat → Nat → Prop
  | told {a b : Nat} : (a, b) ∈ P → a < l.length → b < l.length → Cg l P a b
  | refl {a : Nat} : a < l.length → Cg l P a a
  | symm {a b : Nat} : Cg l P a b → Cg l P b a
  | trans {a b c : Nat} : Cg l P a b → Cg l P b c → Cg l P a c
  | cong {i j : Nat} {t u : Tm} : l[i]? = some t → l[j]? = some u → t.name = u.name → t.args.length = u.args.length → (∀ k a b : Nat, t.args[k]? = some a → u.args[k]? = some b → Cg l P a b) → Cg l P i j

theorem Cg.mono {l : List Tm} {P Q : List (Nat × Nat)} (h : ∀ a b, (a, b) ∈ P → a < l.length → b < l.length → Cg l Q a b) {i j : Nat} (hc : Cg l P i j) : Cg l Q i j := by
  induction hc with
  | told hm ha hb => exact h _ _ hm ha hb
  | refl ha => exact .refl ha
  | symm _ ih => exact .symm ih
  | trans _ _ i1 i2 => exact .trans i1 i2
  | cong h1 h2 h3 h4 _ ih => exact .cong h1 h2 h3 h4 ih

theorem Cg.lt {l : List Tm} {P : List (Nat × Nat)} {i j : Nat} (hc : Cg l P i j) : i < l.length ∧ j < l.length := by
  induction hc with
  | told _ ha hb => exact ⟨ha, hb⟩
  | refl ha => exact ⟨ha, ha⟩
  | symm _ ih => exact ⟨ih.2, ih.1⟩
  | trans _ _ i1 i2 => exact ⟨i1.1, i2.2⟩
  | cong h1 h2 _ _ _ _ => exact ⟨(List.getElem?_eq_some_iff.1 h1).1, (List.getElem?_eq_some_iff.1 h2).1⟩

/-- The same by the classes and what is to do. -/
inductive Ev (N : Nat) (lo : Nat → Nat) (todo : List (Nat × Nat)) : Nat → Nat → Prop
  | same {i j : Nat} : i < N → j < N → lo i = lo j → Ev N lo todo i j
  | todo {i j : Nat} : (i, j) ∈ todo → Ev N lo todo i j
  | symm {i j : Nat} : Ev N lo todo i j → Ev N lo todo j i
  | trans {i j k : Nat} : Ev N lo todo i j → Ev N lo todo j k → Ev N lo todo i k

theorem Ev.mono {N : Nat} {lo lo' : Nat → Nat} {td td' : List (Nat × Nat)} (h1 : ∀ i j, i < N → j < N → lo i = lo j → lo' i = lo' j) (h2 : ∀ i j, (i, j) ∈ td → Ev N lo' td' i j) {i j : Nat} (h : Ev N lo td i j) : Ev N lo' td' i j := by
  induction h with
  | same hi hj he => exact .same hi hj (h1 _ _ hi hj he)
  | todo hm => exact h2 _ _ hm
  | symm _ ih => exact .symm ih
  | trans _ _ i1 i2 => exact .trans i1 i2
theorem Ev.more {N : Nat} {lo : Nat → Nat} {td : List (Nat × Nat)} (ps : List (Nat × Nat)) {i j : Nat} (h : Ev N lo td i j) : Ev N lo (td ++ ps) i j :=
  h.mono (fun _ _ _ _ e => e) (fun _ _ hm => .todo (List.mem_append_left _ hm))
theorem Ev.done {N : Nat} {lo : Nat → Nat} {i j : Nat} (h : Ev N lo [] i j) : lo i = lo j := by
  induction h with
  | same _ _ he => exact he
  | todo hm => cases hm
  | symm _ ih => exact ih.symm
  | trans _ _ i1 i2 => exact i1.trans i2

/-- How often term n uses class r. -/
def uc (l : List Tm) (lo : Nat → Nat) (r n : Nat) : Nat := match l[n]? with
  | some t => t.args.countP (fun a => lo a == r)
  | none => 0

structure Inv (l : List Tm) (P : List (Nat × Nat)) (lo : Nat → Nat) (us : Nat → List Nat) (kn : Tm → Option Nat) (todo : List (Nat × Nat)) (pend : List Nat) : Prop where
  le : ∀ i, i < l.length → lo i ≤ i
  idem : ∀ i, i < l.length → lo (lo i) = lo i
  inr : ∀ p ∈ todo, p.1 < l.length ∧ p.2 < l.length
  pin : ∀ n ∈ pend, n < l.length
  uses : ∀ r, r < l.length → lo r = r → ∀ n, (us r).count n = uc l lo r n
  keys : ∀ (n : Nat) (t : Tm), l[n]? = some t → n ∉ pend → ∃ m, kn (sg lo t) = some m ∧ Ev l.length lo todo n m
  says : ∀ (s : Tm) (m : Nat), kn s = some m → ∃ u : Tm, l[m]? = some u ∧ u.name = s.name ∧ ∀ k, k < 4 → (∀ a, u.args[k]? = some a → s.arg k < l.length ∧ lo a = lo (s.arg k)) ∧ (u.args[k]? = none → s.arg k = 0)
  snd : ∀ i j, i < l.length → j < l.length → lo i = lo j → Cg l P i j
  tsnd : ∀ p ∈ todo, Cg l P p.1 p.2
  tld : ∀ p ∈ P, p.1 < l.length ∧ p.2 < l.length ∧ Ev l.length lo todo p.1 p.2

theorem Inv.used {l : List Tm} {P : List (Nat × Nat)} {lo : Nat → Nat} {us : Nat → List Nat} {kn : Tm → Option Nat} {todo : List (Nat × Nat)} {pend : List Nat} (h : Inv l P lo us kn todo pend) {n : Nat} {t : Tm} (ht : l[n]? = some t) {a : Nat} (ha : a ∈ t.args) {r : Nat} (hr : r < l.length) (hrr : lo r = r) (hl : lo a = r) : n ∈ us r := by
  have hc := h.uses r hr hrr n
  rw [uc, ht] at hc
  simp only at hc
  have : 0 < t.args.countP (fun a => lo a == r) := List.countP_pos_iff.2 ⟨a, ha, by simp [hl]⟩
  exact List.count_pos_iff.1 (by omega)

theorem uc_le {l : List Tm} (hb : Bd l) (lo : Nat → Nat) (r n : Nat) : uc l lo r n ≤ 4 := by
  unfold uc
  cases e : l[n]? with
  | none => simp
  | some t => exact Nat.le_trans List.countP_le_length (hb.four t (List.mem_of_getElem? e))

theorem length_count (N : Nat) : ∀ xs : List Nat, (∀ x ∈ xs, x < N) → (∀ n, xs.count n ≤ 4) → xs.length ≤ 4 * N := by
  induction N with
  | zero =>
    intro xs h _
    cases xs with
    | nil => simp
    | cons x xs => exact absurd (h x (by simp)) (by omega)
  | succ N ih =>
    intro xs h hc
    have h1 := ih (xs.filter (fun x => !(x == N))) (fun x hx => by
      obtain ⟨hm, hn⟩ := List.mem_filter.1 hx
      have := h x hm
      simp at hn
      omega) (fun n => Nat.le_trans (List.Sublist.count_le n (List.filter_sublist)) (hc n))
    have h2 : xs.length = (xs.filter (fun x => !(x == N))).length + xs.count N := by
      clear h hc h1 ih
      induction xs with
      | nil => rfl
      | cons x xs ih =>
        by_cases e : x = N
        · subst e; simp; omega
        · have e' : (x == N) = false := beq_eq_false_iff_ne.2 e
          simp [e', List.count_cons, ih]; omega
    have := hc N
    omega

theorem Inv.uin {l : List Tm} {P : List (Nat × Nat)} {lo : Nat → Nat} {us : Nat → List Nat} {kn : Tm → Option Nat} {todo : List (Nat × Nat)} {pend : List Nat} (h : Inv l P lo us kn todo pend) {r : Nat} (hr : r < l.length) (hrr : lo r = r) : ∀ n ∈ us r, n < l.length := by
  intro n hn
  have hc := h.uses r hr hrr n
  have hp := List.count_pos_iff.2 hn
  unfold uc at hc
  cases e : l[n]? with
  | none => rw [e] at hc; simp only at hc; omega
  | some t => exact (List.getElem?_eq_some_iff.1 e).1
theorem Inv.ulen {l : List Tm} (hb : Bd l) {P : List (Nat × Nat)} {lo : Nat → Nat} {us : Nat → List Nat} {kn : Tm → Option Nat} {todo : List (Nat × Nat)} {pend : List Nat} (h : Inv l P lo us kn todo pend) {r : Nat} (hr : r < l.length) (hrr : lo r = r) : (us r).length ≤ 4 * l.length :=
  length_count _ _ (h.uin hr hrr) (fun n => by rw [h.uses r hr hrr n]; exact uc_le hb _ _ _)

/-- What stands last is the same already. -/
theorem Inv.drop {l : List Tm} {P : List (Nat × Nat)} {lo : Nat → Nat} {us : Nat → List Nat} {kn : Tm → Option Nat} {todo : List (Nat × Nat)} {a b : Nat} (h : Inv l P lo us kn (todo ++ [(a, b)]) []) (he : lo a = lo b) : Inv l P lo us kn todo [] := by
  have hin := h.inr (a, b) (by simp)
  have E : ∀ {i j}, Ev l.length lo (todo ++ [(a, b)]) i j → Ev l.length lo todo i j := fun x => x.mono (fun _ _ _ _ e => e) (fun i j hm => by
    rcases List.mem_append.1 hm with hm | hm
    · exact .todo hm
    · simp at hm
      obtain ⟨rfl, rfl⟩ := hm
      exact .same hin.1 hin.2 he)
  exact ⟨h.le, h.idem, fun p hp => h.inr p (List.mem_append_left _ hp), h.pin, h.uses, fun n t ht hn => by obtain ⟨m, h1, h2⟩ := h.keys n t ht hn; exact ⟨m, h1, E h2⟩, h.says, h.snd, fun p hp => h.tsnd p (List.mem_append_left _ hp), fun p hp => ⟨(h.tld p hp).1, (h.tld p hp).2.1, E (h.tld p hp).2.2⟩⟩

/-- Two classes become one. -/
theorem Inv.join {l : List Tm} {P : List (Nat × Nat)} {lo lo' : Nat → Nat} {us us' : Nat → List Nat} {kn : Tm → Option Nat} {todo : List (Nat × Nat)} {p : Nat × Nat} (hb : Bd l) (h : Inv l P lo us kn (todo ++ [p]) []) {a b low high : Nat} (hp : p = (a, b) ∨ p = (b, a))
    (ha : lo a = low) (hbh : lo b = high) (hlt : low < high) (hlo : ∀ i, i < l.length → lo' i = if lo i = high then low else lo i) (hus : ∀ r, r < l.length → us' r = if r = low then us low ++ us high else us r) : Inv l P lo' us' kn todo (us high) := by
  have hin := h.inr p (by simp)
  have hab : a < l.length ∧ b < l.length := by rcases hp with rfl | rfl <;> exact ⟨by first | exact hin.1 | exact hin.2, by first | exact hin.2 | exact hin.1⟩
  have cab : Cg l P a b := by
    have := h.tsnd p (by simp)
    rcases hp with rfl | rfl
    · exact this
    · exact this.symm
  have llow : lo low = low := by rw [← ha]; exact h.idem a hab.1
  have lhigh : lo high = high := by rw [← hbh]; exact h.idem b hab.2
  have hhl : high < l.length := by have := h.le b hab.2; omega
  have hll : low < l.length := by omega
  have imp : ∀ i j, i < l.length → j < l.length → lo i = lo j → lo' i = lo' j := fun i j hi hj e => by rw [hlo i hi, hlo j hj, e]
  have lab : lo' a = lo' b := by rw [hlo a hab.1, hlo b hab.2, ha, hbh, if_pos rfl, if_neg (by omega)]
  have E : ∀ {i j}, Ev l.length lo (todo ++ [p]) i j → Ev l.length lo' todo i j := fun x => x.mono imp (fun i j hm => by
    rcases List.mem_append.1 hm with hm | hm
    · exact .todo hm
    · simp at hm
      rcases hp with rfl | rfl
      · obtain ⟨rfl, rfl⟩ := Prod.mk.inj hm; exact .same hab.1 hab.2 lab
      · obtain ⟨rfl, rfl⟩ := Prod.mk.inj hm; exact .same hab.2 hab.1 lab.symm)
  have alt : ∀ {n : Nat} {t : Tm}, l[n]? = some t → ∀ a ∈ t.args, a < l.length := fun ht => hb.args _ _ ht
  refine ⟨?_, ?_, fun p hp => h.inr p (List.mem_append_left _ hp), fun n hn => h.uin hhl lhigh n hn, ?_, ?_, ?_, ?_, fun p hp => h.tsnd p (List.mem_append_left _ hp), fun p hp => ⟨(h.tld p hp).1, (h.tld p hp).2.1, E (h.tld p hp).2.2⟩⟩
  · intro i hi
    rw [hlo i hi]
    have := h.le i hi
    split <;> omega
  · intro i hi
    have hi2 := h.le i hi
    rw [hlo i hi]
    split
    · rw [hlo low hll, llow, if_neg (by omega)]
    · next hne => rw [hlo (lo i) (by omega), h.idem i hi, if_neg hne]
  · intro r hr hrr n
    have hr0 := hlo r hr
    rw [hrr] at hr0
    by_cases e : r = low
    · subst e
      rw [hus r hr, if_pos rfl, List.count_append, h.uses r hll llow n, h.uses high hhl lhigh n]
      unfold uc
      cases ht : l[n]? with
      | none => rfl
      | some t =>
        have : ∀ xs : List Nat, (∀ a ∈ xs, a < l.length) → xs.countP (fun a => lo a == r) + xs.countP (fun a => lo a == high) = xs.countP (fun a => lo' a == r) := by
          intro xs
          induction xs with
          | nil => intro _; rfl
          | cons x xs ih =>
            intro hx
            have hi := ih (fun a ha => hx a (by simp [ha]))
            simp only [List.countP_cons]
            have h0 := hlo x (hx x (by simp))
            rw [h0]
            by_cases e1 : lo x = high
            · have e3 : ¬ high = r := by omega
              rw [if_pos e1, e1]
              simp only [beq_iff_eq, e3, if_false, if_true]
              omega
            · by_cases e2 : lo x = r
              · simp [e2, show ¬ r = high by omega]; omega
              · simp [e1, e2]; omega
        exact this t.args (alt ht)
    · have hne : lo r ≠ high := fun x => by rw [if_pos x] at hr0; exact e hr0
      rw [if_neg hne] at hr0
      rw [hus r hr, if_neg e, h.uses r hr hr0.symm n]
      unfold uc
      cases ht : l[n]? with
      | none => rfl
      | some t =>
        refine List.countP_congr (fun x hx => ?_)
        have h0 := hlo x (alt ht x hx)
        rw [h0]
        by_cases e1 : lo x = high
        · rw [if_pos e1]
          simp only [beq_iff_eq]
          constructor
          · intro x2; exact absurd (hr0.symm.trans (x2.symm.trans e1)) hne
          · intro x2; exact absurd x2.symm e
        · rw [if_neg e1]
  · intro n t ht hn
    obtain ⟨m, h1, h2⟩ := h.keys n t ht (by simp)
    have : sg lo' t = sg lo t := sg_congr (fun a ha => by
      rw [hlo a (alt ht a ha), if_neg (fun x => hn (h.used ht ha hhl lhigh x))])
    exact ⟨m, by rw [this]; exact h1, E h2⟩
  · intro s m hs
    obtain ⟨u, h1, h2, h3⟩ := h.says s m hs
    refine ⟨u, h1, h2, fun k hk => ⟨fun x hx => ?_, (h3 k hk).2⟩⟩
    obtain ⟨q1, q2⟩ := (h3 k hk).1 x hx
    exact ⟨q1, imp _ _ (alt h1 x (List.mem_of_getElem? hx)) q1 q2⟩
  · intro i j hi hj e
    rw [hlo i hi, hlo j hj] at e
    have toA : ∀ i, i < l.length → lo i = low → Cg l P i a := fun i hi x => h.snd i a hi hab.1 (by omega)
    have toB : ∀ i, i < l.length → lo i = high → Cg l P i a := fun i hi x => (h.snd i b hi hab.2 (by omega)).trans cab.symm
    by_cases e1 : lo i = high
    · by_cases e2 : lo j = high
      · exact (toB i hi e1).trans (toB j hj e2).symm
      · rw [if_pos e1, if_neg e2] at e
        exact (toB i hi e1).trans (toA j hj e.symm).symm
    · by_cases e2 : lo j = high
      · rw [if_neg e1, if_pos e2] at e
        exact (toA i hi e).trans (toB j hj e2).symm
      · rw [if_neg e1, if_neg e2] at e
        exact h.snd i j hi hj e

theorem ar_some {lo : Nat → Nat} {t : Tm} {k a : Nat} (h : t.args[k]? = some a) : ar lo t k = lo a := by simp [ar, h]

theorem getElem?_len {α β : Type} {xs : List α} {ys : List β} (h : xs.length = ys.length) {k : Nat} {a : α} (ha : xs[k]? = some a) : ∃ b, ys[k]? = some b := by
  have := (List.getElem?_eq_some_iff.1 ha).1
  exact ⟨ys[k]'(by omega), List.getElem?_eq_getElem (by omega)⟩

/-- A term that has a signature follows to be the same. -/
theorem Inv.alike {l : List Tm} {P : List (Nat × Nat)} {lo : Nat → Nat} {us : Nat → List Nat} {kn : Tm → Option Nat} {todo : List (Nat × Nat)} {pend : List Nat} (hb : Bd l) (h : Inv l P lo us kn todo pend) {n m : Nat} {t : Tm} (ht : l[n]? = some t) (hk : kn (sg lo t) = some m) : Cg l P n m := by
  obtain ⟨u, h1, h2, h3⟩ := h.says _ _ hk
  have hl := hb.one t (List.mem_of_getElem? ht) u (List.mem_of_getElem? h1) h2.symm
  refine .cong ht h1 h2.symm hl (fun k a b ha hb' => ?_)
  have hk4 : k < 4 := by
    have := (List.getElem?_eq_some_iff.1 ha).1
    have := hb.four t (List.mem_of_getElem? ht)
    omega
  obtain ⟨q1, q2⟩ := (h3 k hk4).1 b hb'
  have ha' := hb.args n t ht a (List.mem_of_getElem? ha)
  rw [sg_arg _ _ _ hk4, ar_some ha] at q1 q2
  rw [h.idem a ha'] at q2
  exact h.snd a b ha' (hb.args m u h1 b (List.mem_of_getElem? hb')) q2.symm

/-- One of those that are pending is looked up: there is one like it. -/
theorem Inv.old {l : List Tm} {P : List (Nat × Nat)} {lo : Nat → Nat} {us : Nat → List Nat} {kn : Tm → Option Nat} {todo : List (Nat × Nat)} {pend : List Nat} (hb : Bd l) {n m : Nat} (h : Inv l P lo us kn todo (n :: pend)) {t : Tm} (ht : l[n]? = some t) (hk : kn (sg lo t) = some m) : Inv l P lo us kn (todo ++ [(n, m)]) pend := by
  have hc := h.alike hb ht hk
  refine ⟨h.le, h.idem, ?_, fun x hx => h.pin x (by simp [hx]), h.uses, ?_, h.says, h.snd, ?_, fun p hp => ⟨(h.tld p hp).1, (h.tld p hp).2.1, (h.tld p hp).2.2.more _⟩⟩
  · intro p hp
    rcases List.mem_append.1 hp with hp | hp
    · exact h.inr p hp
    · simp at hp; subst hp; exact hc.lt
  · intro i u hu hi
    by_cases e : i = n
    · subst e
      rw [ht] at hu
      cases hu
      exact ⟨m, hk, .todo (by simp)⟩
    · obtain ⟨m', h1, h2⟩ := h.keys i u hu (by simp [e, hi])
      exact ⟨m', h1, h2.more _⟩
  · intro p hp
    rcases List.mem_append.1 hp with hp | hp
    · exact h.tsnd p hp
    · simp at hp; subst hp; exact hc

/-- .. there is none. -/
theorem Inv.new {l : List Tm} {P : List (Nat × Nat)} {lo : Nat → Nat} {us : Nat → List Nat} {kn kn' : Tm → Option Nat} {todo : List (Nat × Nat)} {pend : List Nat} (hb : Bd l) {n : Nat} (h : Inv l P lo us kn todo (n :: pend)) {t : Tm} (ht : l[n]? = some t) (hk : kn (sg lo t) = none) (hkn : ∀ s, kn' s = if s = sg lo t then some n else kn s) : Inv l P lo us kn' (todo ++ [(n, n)]) pend := by
  have hn : n < l.length := (List.getElem?_eq_some_iff.1 ht).1
  refine ⟨h.le, h.idem, ?_, fun x hx => h.pin x (by simp [hx]), h.uses, ?_, ?_, h.snd, ?_, fun p hp => ⟨(h.tld p hp).1, (h.tld p hp).2.1, (h.tld p hp).2.2.more _⟩⟩
  · intro p hp
    rcases List.mem_append.1 hp with hp | hp
    · exact h.inr p hp
    · simp at hp; subst hp; exact ⟨hn, hn⟩
  · intro i u hu hi
    by_cases e : i = n
    · subst e
      rw [ht] at hu
      cases hu
      exact ⟨i, by rw [hkn, if_pos rfl], .todo (by simp)⟩
    · obtain ⟨m', h1, h2⟩ := h.keys i u hu (by simp [e, hi])
      refine ⟨m', ?_, h2.more _⟩
      rw [hkn, if_neg (fun x => by rw [x, hk] at h1; cases h1)]
      exact h1
  · intro s m hs
    rw [hkn] at hs
    by_cases e : s = sg lo t
    · rw [if_pos e] at hs
      cases hs
      refine ⟨t, ht, by rw [e]; rfl, fun k hk => ?_⟩
      rw [e, sg_arg _ _ _ hk]
      refine ⟨fun a ha => ?_, fun hnone => by simp [ar, hnone]⟩
      rw [ar_some ha]
      have ha' := hb.args n t ht a (List.mem_of_getElem? ha)
      have := h.le a ha'
      exact ⟨by omega, (h.idem a ha').symm⟩
    · rw [if_neg e] at hs
      exact h.says s m hs
  · intro p hp
    rcases List.mem_append.1 hp with hp | hp
    · exact h.tsnd p hp
    · simp at hp; subst hp; exact .refl hn

/-- A pair is told. -/
theorem Inv.tell {l : List Tm} {P : List (Nat × Nat)} {lo : Nat → Nat} {us : Nat → List Nat} {kn : Tm → Option Nat} (h : Inv l P lo us kn [] []) {a b : Nat} (ha : a < l.length) (hb : b < l.length) : Inv l (P ++ [(a, b)]) lo us kn [(a, b)] [] := by
  have M : ∀ {i j}, Cg l P i j → Cg l (P ++ [(a, b)]) i j := fun x => x.mono (fun _ _ hm h1 h2 => .told (List.mem_append_left _ hm) h1 h2)
  refine ⟨h.le, h.idem, fun p hp => by simp at hp; subst hp; exact ⟨ha, hb⟩, h.pin, h.uses, fun n t ht hn => ?_, h.says, fun i j hi hj e => M (h.snd i j hi hj e), fun p hp => ?_, fun p hp => ?_⟩
  · obtain ⟨m, h1, h2⟩ := h.keys n t ht hn
    exact ⟨m, h1, h2.more [(a, b)]⟩
  · simp at hp; subst hp; exact .told (by simp) ha hb
  · rcases List.mem_append.1 hp with hp | hp
    · exact ⟨(h.tld p hp).1, (h.tld p hp).2.1, (h.tld p hp).2.2.more [(a, b)]⟩
    · simp at hp; subst hp; exact ⟨ha, hb, .todo (by simp)⟩

/-- When nothing is to do the classes are the closure's. -/
theorem Inv.fin {l : List Tm} {P : List (Nat × Nat)} {lo : Nat → Nat} {us : Nat → List Nat} {kn : Tm → Option Nat} (h : Inv l P lo us kn [] []) {i j : Nat} (hi : i < l.length) (hj : j < l.length) : lo i = lo j ↔ Cg l P i j := by
  refine ⟨h.snd i j hi hj, fun hc => ?_⟩
  clear hi hj
  induction hc with
  | told hm _ _ => exact (h.tld _ hm).2.2.done
  | refl _ => rfl
  | symm _ ih => exact ih.symm
  | trans _ _ i1 i2 => exact i1.trans i2
  | @cong i j t u h1 h2 h3 h4 _ ih =>
    have : sg lo t = sg lo u := by
      have : ∀ k, ar lo t k = ar lo u k := by
        intro k
        unfold ar
        cases e : t.args[k]? with
        | none =>
          have : u.args[k]? = none := by rw [List.getElem?_eq_none_iff] at e ⊢; omega
          rw [this]
        | some a =>
          obtain ⟨b, hb⟩ := getElem?_len h4 e
          rw [hb]
          exact ih k a b e hb
      simp [sg, h3, this]
    obtain ⟨m, k1, k2⟩ := h.keys i t h1 (by simp)
    obtain ⟨m', k3, k4⟩ := h.keys j u h2 (by simp)
    rw [this, k3] at k1
    cases k1
    exact k2.done.trans k4.done.symm

theorem Inv.low {l : List Tm} {P Q : List (Nat × Nat)} {lo lo' : Nat → Nat} {us us' : Nat → List Nat} {kn kn' : Tm → Option Nat} (h : Inv l P lo us kn [] []) (h' : Inv l Q lo' us' kn' [] []) (hPQ : ∀ i j, Cg l P i j → Cg l Q i j) {i : Nat} (hi : i < l.length) : lo' i = lo' (lo i) := by
  have h1 := h.le i hi
  have h2 := h.idem i hi
  exact (h'.fin hi (by omega)).2 (hPQ _ _ ((h.fin hi (by omega)).1 h2.symm))

/-- The same closure, the same least numbers. -/
theorem Inv.unique {l : List Tm} {P Q : List (Nat × Nat)} {lo lo' : Nat → Nat} {us us' : Nat → List Nat} {kn kn' : Tm → Option Nat} (h : Inv l P lo us kn [] []) (h' : Inv l Q lo' us' kn' [] []) (hPQ : ∀ i j, Cg l P i j → Cg l Q i j) (hQP : ∀ i j, Cg l Q i j → Cg l P i j) {i : Nat} (hi : i < l.length) : lo i = lo' i := by
  have a1 := h.low h' hPQ hi
  have a2 := h'.low h hQP hi
  have := h.le i hi
  have := h'.le i hi
  have b1 := h'.le (lo i) (by omega)
  have b2 := h.le (lo' i) (by omega)
  omega

/-- At the beginning. -/
theorem Inv.start {l : List Tm} {us : Nat → List Nat} {kn : Tm → Option Nat} (hb : Bd l) (hus : ∀ r, r < l.length → ∀ n, (us r).count n = uc l id r n) (hkn : ∀ s m, kn s = some m ↔ ∃ t, l[m]? = some t ∧ sg id t = s) : Inv l [] id us kn [] [] := by
  refine ⟨fun i _ => Nat.le_refl _, fun _ _ => rfl, by simp, by simp, fun r hr _ n => hus r hr n, ?_, ?_, ?_, by simp, by simp⟩
  · intro n t ht _
    exact ⟨n, (hkn _ _).2 ⟨t, ht, rfl⟩, .same (List.getElem?_eq_some_iff.1 ht).1 (List.getElem?_eq_some_iff.1 ht).1 rfl⟩
  · intro s m hs
    obtain ⟨t, ht, rfl⟩ := (hkn s m).1 hs
    refine ⟨t, ht, rfl, fun k hk => ?_⟩
    rw [sg_arg _ _ _ hk]
    refine ⟨fun a ha => ?_, fun hn => by simp [ar, hn]⟩
    rw [ar_some ha]
    exact ⟨hb.args m t ht a (List.mem_of_getElem? ha), rfl⟩
  · intro i j hi _ e
    have : i = j := e
    subst this
    exact .refl hi

/-- No two terms of a bank have one signature at the beginning. -/
theorem sg_inj {l : List Tm} (hb : Bd l) {i j : Nat} {t u : Tm} (ht : l[i]? = some t) (hu : l[j]? = some u) (he : sg id t = sg id u) : i = j := by
  have hn : t.name = u.name := by have := congrArg Tm.name he; exact this
  have hl := hb.one t (List.mem_of_getElem? ht) u (List.mem_of_getElem? hu) hn
  have h4 := hb.four t (List.mem_of_getElem? ht)
  have hk : ∀ k, k < 4 → ar id t k = ar id u k := fun k hk => by rw [← sg_arg id t k hk, ← sg_arg id u k hk, he]
  have ha : t.args = u.args := by
    apply List.ext_getElem hl
    intro k h1 h2
    have := hk k (by omega)
    rw [ar_some (List.getElem?_eq_getElem h1), ar_some (List.getElem?_eq_getElem h2)] at this
    exact this
  have : t = u := by cases t; cases u; simp_all
  subst this
  have h1 := (List.getElem?_eq_some_iff.1 ht)
  have h2 := (List.getElem?_eq_some_iff.1 hu)
  exact (List.getElem_inj hb.nodup).1 (h1.2.trans h2.2.symm)

end Go.Proofs.Ytpipihllofpnaaa.Cc
