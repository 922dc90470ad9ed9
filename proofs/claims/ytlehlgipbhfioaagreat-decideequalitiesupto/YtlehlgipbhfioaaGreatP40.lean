/- The document's search (chapter 6), plainly. LogicClauses, plainly: how many variables and clauses. LogicClauses: the literals along a formula's Forms. Package logic: what makes clauses: literal. The document's Eval, whole. The statements' Same: of a Form that is the document's. law05: Given. The document's Atoms. The document's search: size, holds. The document's search: forced. Package logic: Clauses. Package logic: fold over literals: what it goes round with. -/
import Derived.Test.YtlehlgipbhfioaaGreatP39
import Derived.Test.YtlehlgipbhfioaaGreatP36
import Derived.Test.YtlehlgipbhfioaaGreatP13
import Derived.Deep.RegionWith
import Derived.Test.YtlehlgipbhfioaaGreatP03
import Derived.Deep.CutRange
import Derived.Laws.Bits64
import Derived.Test.YtlehlgipbhfioaaGreatP27
import Derived.Maps.AppendAt
import Derived.Test.YtlehlgipbhfioaaGreatP32
import Derived.Test.YtlehlgipbhfioaaGreatP34
import Derived.Test.YtlehlgipbhfioaaGreatLoYb
import Derived.Test.YtlehlgipbhfioaaGreatLoR
namespace Go.Proofs.YtlehlgipbhfioaaGreat.Cn

/-- A literal's value: 0 none yet, 1 true, -1 false. -/
def hold (vs : List Int) (x : Int) : Int := if x < 0 then -(vs[x.natAbs]?.getD 0) else vs[x.natAbs]?.getD 0
/-- These values are kept to. -/
def Ext (vs : List Int) (σ : Nat → Bool) : Prop := ∀ v : Nat, (vs[v]?.getD 0 = 1 → σ v = true) ∧ (vs[v]?.getD 0 = -1 → σ v = false)
/-- Values are 0, 1, -1. -/
def Tri (vs : List Int) : Prop := ∀ v : Nat, vs[v]?.getD 0 = 0 ∨ vs[v]?.getD 0 = 1 ∨ vs[v]?.getD 0 = -1

theorem hold_tri {vs : List Int} (h : Tri vs) (x : Int) : hold vs x = 0 ∨ hold vs x = 1 ∨ hold vs x = -1 := by
  unfold hold
  have := h x.natAbs
  split <;> omega
theorem hold_true {vs : List Int} {σ : Nat → Bool} (h : Ext vs σ) {x : Int} (hx : hold vs x = 1) : lit σ x = true := by
  unfold hold at hx
  unfold lit
  split at hx
  · next h0 => rw [if_pos h0, (h x.natAbs).2 (by omega)]; rfl
  · next h0 => rw [if_neg h0, (h x.natAbs).1 hx]
theorem hold_false {vs : List Int} {σ : Nat → Bool} (h : Ext vs σ) {x : Int} (hx : hold vs x = -1) : lit σ x = false := by
  unfold hold at hx
  unfold lit
  split at hx
  · next h0 => rw [if_pos h0, (h x.natAbs).1 (by omega)]; rfl
  · next h0 => rw [if_neg h0, (h x.natAbs).2 hx]

/-- A clause is looked through: the open literal, how often it was another one, and whether one is true. -/
def scan (vs : List Int) : List Int → Int → Nat → Int × Nat × Bool
  | [], o, n => (o, n, false)
  | x :: xs, o, n => if hold vs x = 1 then (o, n, true) else if hold vs x = 0 ∧ x ≠ o then scan vs xs x (n + 1) else scan vs xs o n
def forc (vs : List Int) : List (List Int) → Int × Bool
  | [] => (0, true)
  | c :: cs => if (scan vs c 0 0).2.2 = false ∧ (scan vs c 0 0).2.1 = 0 then (0, false) else if (scan vs c 0 0).2.2 = false ∧ (scan vs c 0 0).2.1 = 1 then ((scan vs c 0 0).1, true) else forc vs cs

theorem scan_done {vs : List Int} : ∀ {c : List Int} {o : Int} {n : Nat}, (scan vs c o n).2.2 = true → ∃ x ∈ c, hold vs x = 1
  | [], o, n, h => by cases h
  | x :: xs, o, n, h => by
    rw [scan] at h
    split at h
    · next h1 => exact ⟨x, by simp, h1⟩
    · split at h
      · obtain ⟨y, hy, hy2⟩ := scan_done h
        exact ⟨y, by simp [hy], hy2⟩
      · obtain ⟨y, hy, hy2⟩ := scan_done h
        exact ⟨y, by simp [hy], hy2⟩
theorem scan_not {vs : List Int} : ∀ {c : List Int} {o : Int} {n : Nat}, (scan vs c o n).2.2 = false → (∀ x ∈ c, hold vs x ≠ 1) ∧ n ≤ (scan vs c o n).2.1 ∧
    ((scan vs c o n).2.1 = n → (scan vs c o n).1 = o ∧ ∀ x ∈ c, hold vs x = 0 → x = o) ∧
    ((scan vs c o n).2.1 = n + 1 → (scan vs c o n).1 ∈ c ∧ hold vs (scan vs c o n).1 = 0 ∧ ∀ x ∈ c, hold vs x = 0 → x = o ∨ x = (scan vs c o n).1)
  | [], o, n, h => by
    simp [scan]
  | x :: xs, o, n, h => by
    rw [scan] at h ⊢
    split at h
    · cases h
    · next h1 =>
      rw [if_neg h1]
      split at h
      · next h2 =>
        rw [if_pos h2]
        obtain ⟨a1, a2, a3, a4⟩ := scan_not h
        refine ⟨fun y hy => ?_, by omega, fun e => by omega, fun e => ?_⟩
        · rcases List.mem_cons.1 hy with rfl | hy
          · exact h1
          · exact a1 y hy
        · obtain ⟨b1, b2⟩ := a3 e
          rw [b1]
          refine ⟨by simp, h2.1, fun y hy hy0 => ?_⟩
          rcases List.mem_cons.1 hy with rfl | hy
          · exact Or.inr rfl
          · exact Or.inr (b2 y hy hy0)
      · next h2 =>
        rw [if_neg h2]
        obtain ⟨a1, a2, a3, a4⟩ := scan_not h
        have hx : hold vs x = 0 → x = o := fun h0 => Decidable.byContradiction fun hn => h2 ⟨h0, hn⟩
        refine ⟨fun y hy => ?_, a2, fun e => ?_, fun e => ?_⟩
        · rcases List.mem_cons.1 hy with rfl | hy
          · exact h1
          · exact a1 y hy
        · obtain ⟨b1, b2⟩ := a3 e
          refine ⟨b1, fun y hy hy0 => ?_⟩
          rcases List.mem_cons.1 hy with rfl | hy
          · exact hx hy0
          · exact b2 y hy hy0
        · obtain ⟨b1, b2, b3⟩ := a4 e
          refine ⟨by simp [b1], b2, fun y hy hy0 => ?_⟩
          rcases List.mem_cons.1 hy with rfl | hy
          · exact Or.inl (hx hy0)
          · exact b3 y hy hy0

theorem scan_shut {vs : List Int} : ∀ {c : List Int} {o : Int} {n : Nat}, (∀ x ∈ c, hold vs x ≠ 0) → (scan vs c o n).2.1 = n
  | [], o, n, h => rfl
  | x :: xs, o, n, h => by
    rw [scan]
    split
    · rfl
    · rw [if_neg (fun e => h x (by simp) e.1)]
      exact scan_shut (fun y hy => h y (by simp [hy]))

def Nz (cs : List (List Int)) : Prop := ∀ c ∈ cs, ∀ x ∈ c, x ≠ 0

/-- A clause is false. -/
theorem forc_no {vs : List Int} (hv : Tri vs) {cs : List (List Int)} (hz : Nz cs) {x : Int} (h : forc vs cs = (x, false)) (σ : Nat → Bool) (he : Ext vs σ) : ¬ Sat σ cs := by
  induction cs with
  | nil => cases h
  | cons c cs ih =>
    intro hs
    rw [forc] at h
    split at h
    · next h1 =>
      obtain ⟨a1, _, a3, _⟩ := scan_not h1.1
      obtain ⟨y, hy, hy2⟩ := hs c (by simp)
      rcases hold_tri hv y with e | e | e
      · exact hz c (by simp) y hy ((a3 h1.2).2 y hy e)
      · exact a1 y hy e
      · rw [hold_false he e] at hy2; cases hy2
    · split at h
      · cases h
      · exact ih (fun c hc => hz c (by simp [hc])) h (fun c hc => hs c (by simp [hc]))
/-- A literal is forced. -/
theorem forc_yes {vs : List Int} (hv : Tri vs) {cs : List (List Int)} (hz : Nz cs) {x : Int} (h0 : x ≠ 0) (h : forc vs cs = (x, true)) : (∃ c ∈ cs, x ∈ c) ∧ hold vs x = 0 ∧ ∀ σ, Ext vs σ → Sat σ cs → lit σ x = true := by
  induction cs with
  | nil => rw [forc] at h; injection h with h _; exact absurd h.symm h0
  | cons c cs ih =>
    rw [forc] at h
    split at h
    · injection h with _ h; cases h
    · split at h
      · next h1 =>
        injection h with h _
        subst h
        obtain ⟨a1, _, _, a4⟩ := scan_not h1.1
        obtain ⟨b1, b2, b3⟩ := a4 h1.2
        refine ⟨⟨c, by simp, b1⟩, b2, fun σ he hs => ?_⟩
        obtain ⟨y, hy, hy2⟩ := hs c (by simp)
        rcases hold_tri hv y with e | e | e
        · rcases b3 y hy e with e2 | e2
          · exact absurd e2 (hz c (by simp) y hy)
          · rw [← e2]; exact hy2
        · exact absurd e (a1 y hy)
        · rw [hold_false he e] at hy2; cases hy2
      · obtain ⟨⟨c', hc', hx⟩, b2, b3⟩ := ih (fun c hc => hz c (by simp [hc])) h
        exact ⟨⟨c', by simp [hc'], hx⟩, b2, fun σ he hs => b3 σ he (fun c hc => hs c (by simp [hc]))⟩
/-- None is forced, and all have values: all clauses are true. -/
theorem forc_all {vs : List Int} {cs : List (List Int)} (hz : Nz cs) (h : forc vs cs = (0, true)) (hf : ∀ c ∈ cs, ∀ x ∈ c, hold vs x ≠ 0) (σ : Nat → Bool) (he : Ext vs σ) : Sat σ cs := by
  induction cs with
  | nil => intro c hc; cases hc
  | cons c cs ih =>
    rw [forc] at h
    split at h
    · injection h with _ h; cases h
    · next h1 =>
      split at h
      · next h2 =>
        obtain ⟨a1, _, _, a4⟩ := scan_not h2.1
        obtain ⟨b1, b2, _⟩ := a4 h2.2
        exact absurd b2 (hf c (by simp) _ b1)
      · next h2 =>
        intro c' hc'
        rcases List.mem_cons.1 hc' with rfl | hc'
        · cases hd : (scan vs c' 0 0).2.2 with
          | true =>
            obtain ⟨x, hx, hx2⟩ := scan_done hd
            exact ⟨x, hx, hold_true he hx2⟩
          | false =>
            have hn : (scan vs c' 0 0).2.1 = 0 := scan_shut (fun x hx => hf c' (by simp) x hx)
            exact absurd ⟨hd, hn⟩ h1
        · exact ih (fun c hc => hz c (by simp [hc])) h (fun c hc => hf c (by simp [hc])) c' hc'

/-- A value is set. -/
theorem set_ext {vs : List Int} {v : Nat} (hv : v < vs.length) (h0 : vs[v]?.getD 0 = 0) (b : Bool) (σ : Nat → Bool) : Ext (vs.set v (if b then 1 else -1)) σ ↔ Ext vs σ ∧ σ v = b := by
  have hs : ∀ u : Nat, (vs.set v (if b then 1 else -1))[u]?.getD 0 = if u = v then (if b then 1 else -1) else vs[u]?.getD 0 := fun u => by
    by_cases e : u = v
    · subst e
      simp [hv]
    · rw [if_neg e, List.getElem?_set_ne (fun x => e x.symm)]
  constructor
  · intro h
    refine ⟨fun u => ?_, ?_⟩
    · by_cases e : u = v
      · subst e
        rw [h0]
        exact ⟨fun x => by omega, fun x => by omega⟩
      · have := h u
        rw [hs, if_neg e] at this
        exact this
    · have := h v
      rw [hs, if_pos rfl] at this
      cases b
      · exact this.2 rfl
      · exact this.1 rfl
  · rintro ⟨h, hb⟩ u
    rw [hs]
    by_cases e : u = v
    · subst e
      rw [if_pos rfl, hb]
      cases b <;> simp
    · rw [if_neg e]
      exact h u
theorem set_tri {vs : List Int} (h : Tri vs) (v : Nat) (b : Bool) : Tri (vs.set v (if b then 1 else -1)) := fun u => by
  by_cases e : v = u
  · subst e
    by_cases hl : v < vs.length
    · simp [hl]
    · rw [List.set_eq_of_length_le (by omega)]
      exact h v
  · rw [List.getElem?_set_ne e]
    exact h u

/-- How many have no value yet. -/
def zs (vs : List Int) : Nat := vs.count 0

theorem zs_set {vs : List Int} {v : Nat} (hv : v < vs.length) (h0 : vs[v]?.getD 0 = 0) (b : Bool) : zs (vs.set v (if b then 1 else -1)) + 1 = zs vs := by
  have h1 : vs[v] = 0 := by simpa [hv] using h0
  unfold zs
  rw [List.count_set hv]
  have h2 : 0 < vs.count 0 := List.count_pos_iff.2 (h1 ▸ List.getElem_mem hv)
  cases b <;> simp [h1] <;> omega

/-- Literals of the values' variables. -/
def InV (n : Nat) (cs : List (List Int)) : Prop := ∀ c ∈ cs, ∀ x ∈ c, x ≠ 0 ∧ x.natAbs < n

/-- What is forced is set, one by one. -/
def prop (cs : List (List Int)) : Nat → List Int → Option (List Int)
  | 0, _ => none
  | f + 1, vs => if (forc vs cs).2 = false then none else if (forc vs cs).1 = 0 then some vs else prop cs f (vs.set (forc vs cs).1.natAbs (if decide (0 < (forc vs cs).1) then 1 else -1))

theorem hold_zero {vs : List Int} {x : Int} (h : hold vs x = 0) : vs[x.natAbs]?.getD 0 = 0 := by
  unfold hold at h
  split at h <;> omega
theorem lit_is {σ : Nat → Bool} {x : Int} (h0 : x ≠ 0) : lit σ x = true ↔ σ x.natAbs = decide (0 < x) := by
  unfold lit
  by_cases h : x < 0
  · rw [if_pos h, decide_eq_false (by omega)]
    simp
  · rw [if_neg h, decide_eq_true (by omega)]

theorem prop_told {cs : List (List Int)} : ∀ (f : Nat) (vs : List Int), Tri vs → InV vs.length cs → zs vs < f → match prop cs f vs with
    | none => ∀ σ, Ext vs σ → ¬ Sat σ cs
    | some us => (∀ σ, Sat σ cs → (Ext vs σ ↔ Ext us σ)) ∧ forc us cs = (0, true) ∧ Tri us ∧ zs us ≤ zs vs ∧ us.length = vs.length
  | 0, _, _, _, h => absurd h (by omega)
  | f + 1, vs, ht, hi, hf => by
    have hz : Nz cs := fun c hc x hx => (hi c hc x hx).1
    rw [prop]
    cases hc : forc vs cs with
    | mk x b =>
      cases b with
      | false =>
        simp only [if_true]
        exact fun σ he => forc_no ht hz hc σ he
      | true =>
        simp only [Bool.true_eq_false, if_false]
        by_cases h0 : x = 0
        · subst h0
          rw [if_pos rfl]
          exact ⟨fun σ _ => Iff.rfl, hc, ht, Nat.le_refl _, rfl⟩
        · rw [if_neg h0]
          obtain ⟨⟨c, hcc, hxc⟩, h1, h2⟩ := forc_yes ht hz h0 hc
          have hl := (hi c hcc x hxc).2
          have hv0 := hold_zero h1
          have hzs := zs_set hl hv0 (decide (0 < x))
          have R := prop_told f (vs.set x.natAbs (if decide (0 < x) then 1 else -1)) (set_tri ht _ _) (by rw [List.length_set]; exact hi) (by omega)
          have hE := fun σ => set_ext hl hv0 (decide (0 < x)) σ
          revert R
          cases prop cs f (vs.set x.natAbs (if decide (0 < x) then 1 else -1)) with
          | none =>
            intro R σ he hs
            exact R σ ((hE σ).2 ⟨he, (lit_is h0).1 (h2 σ he hs)⟩) hs
          | some us =>
            rintro ⟨r1, r2, r3, r4, r5⟩
            refine ⟨fun σ hs => ?_, r2, r3, by omega, by rw [r5, List.length_set]⟩
            rw [← r1 σ hs, hE σ]
            exact ⟨fun he => ⟨he, (lit_is h0).1 (h2 σ he hs)⟩, fun h => h.1⟩

/-- The first that has no value, from v on. -/
def fst0 (vs : List Int) : Nat → Nat → Option Nat
  | 0, _ => none
  | f + 1, v => if v < vs.length then (if vs[v]?.getD 0 ≠ 0 then fst0 vs f (v + 1) else some v) else none
theorem fst0_some {vs : List Int} : ∀ {f v u : Nat}, fst0 vs f v = some u → v ≤ u ∧ u < vs.length ∧ vs[u]?.getD 0 = 0
  | 0, v, u, h => by cases h
  | f + 1, v, u, h => by
    rw [fst0] at h
    split at h
    · next h1 =>
      split at h
      · have := fst0_some h
        exact ⟨by omega, this.2⟩
      · next h2 =>
        injection h with h
        subst h
        exact ⟨Nat.le_refl _, h1, Decidable.not_not.1 h2⟩
    · cases h
theorem fst0_none {vs : List Int} : ∀ {f v : Nat}, vs.length ≤ v + f → fst0 vs f v = none → ∀ u, v ≤ u → u < vs.length → vs[u]?.getD 0 ≠ 0
  | 0, v, hf, h, u, h1, h2 => absurd h2 (by omega)
  | f + 1, v, hf, h, u, h1, h2 => by
    rw [fst0] at h
    rw [if_pos (by omega)] at h
    split at h
    · next h3 =>
      by_cases e : u = v
      · subst e; exact h3
      · exact fst0_none (by omega) h u (by omega) h2
    · cases h

/-- Search: can the values be filled up? -/
def srch (cs : List (List Int)) : Nat → List Int → Bool
  | 0, _ => false
  | f + 1, vs => match prop cs (zs vs + 1) vs with
    | none => false
    | some us => match fst0 us us.length 1 with
      | none => true
      | some v => srch cs f (us.set v 1) || srch cs f (us.set v (-1))

theorem hold_set {vs : List Int} {x : Int} (h : vs[x.natAbs]?.getD 0 ≠ 0) : hold vs x ≠ 0 := by
  unfold hold
  split <;> omega

theorem ext_any (vs : List Int) : ∃ σ, Ext vs σ := ⟨fun v => decide (vs[v]?.getD 0 = 1), fun v => ⟨fun h => decide_eq_true h, fun h => decide_eq_false (by omega)⟩⟩

theorem srch_told {cs : List (List Int)} : ∀ (f : Nat) (vs : List Int), Tri vs → InV vs.length cs → zs vs < f → (srch cs f vs = true ↔ ∃ σ, Ext vs σ ∧ Sat σ cs)
  | 0, _, _, _, h => absurd h (by omega)
  | f + 1, vs, ht, hi, hf => by
    have P := prop_told (cs := cs) (zs vs + 1) vs ht hi (by omega)
    rw [srch]
    revert P
    cases prop cs (zs vs + 1) vs with
    | none =>
      intro P
      simp only [Bool.false_eq_true, false_iff]
      rintro ⟨σ, h1, h2⟩
      exact P σ h1 h2
    | some us =>
      rintro ⟨r1, r2, r3, r4, r5⟩
      simp only
      cases hz : fst0 us us.length 1 with
      | none =>
        simp only [true_iff]
        have hall := fst0_none (by omega) hz
        obtain ⟨σ, hσ⟩ := ext_any us
        have hs : Sat σ cs := forc_all (fun c hc x hx => (hi c hc x hx).1) r2 (fun c hc x hx => hold_set (hall _ (by have := (hi c hc x hx).1; omega) (by rw [r5]; exact (hi c hc x hx).2))) σ hσ
        exact ⟨σ, (r1 σ hs).2 hσ, hs⟩
      | some v =>
        obtain ⟨h1, h2, h3⟩ := fst0_some hz
        have z1 := zs_set h2 h3 true
        have z2 := zs_set h2 h3 false
        have E1 := fun σ => set_ext h2 h3 true σ
        have E2 := fun σ => set_ext h2 h3 false σ
        have t1 := set_tri r3 v true
        have t2 := set_tri r3 v false
        simp only [if_true, Bool.false_eq_true, if_false] at z1 z2 E1 E2 t1 t2
        have R1 := srch_told f (us.set v 1) t1 (by rw [List.length_set, r5]; exact hi) (by omega)
        have R2 := srch_told f (us.set v (-1)) t2 (by rw [List.length_set, r5]; exact hi) (by omega)
        simp only [Bool.or_eq_true, R1, R2, E1, E2]
        constructor
        · rintro (⟨σ, ⟨a, _⟩, b⟩ | ⟨σ, ⟨a, _⟩, b⟩)
          · exact ⟨σ, (r1 σ b).2 a, b⟩
          · exact ⟨σ, (r1 σ b).2 a, b⟩
        · rintro ⟨σ, a, b⟩
          cases hb : σ v with
          | true => exact Or.inl ⟨σ, ⟨(r1 σ b).1 a, hb⟩, b⟩
          | false => exact Or.inr ⟨σ, ⟨(r1 σ b).1 a, hb⟩, b⟩

end Go.Proofs.YtlehlgipbhfioaaGreat.Cn

namespace Go.Proofs.YtlehlgipbhfioaaGreat.Cn

/-- Forms with two Kids. -/
def twos : Fo → Nat
  | .mk 0 _ _ _ => 0
  | .mk _ _ _ [k] => twos k
  | .mk _ _ _ [a, b] => twos a + twos b + 1
  | _ => 0
/-- Forms, and those that are no equality: the document's Count. -/
def cnt : Fo → Nat × Nat
  | .mk 0 _ _ _ => (1, 0)
  | .mk _ _ _ [k] => ((cnt k).1 + 1, (cnt k).2 + 1)
  | .mk _ _ _ [a, b] => ((cnt a).1 + (cnt b).1 + 1, (cnt a).2 + (cnt b).2 + 1)
  | _ => (1, 1)

theorem both_count (p q : Int) (st : Nat × List (List Int)) : (both p q st).2.1 = st.1 + 1 ∧ (both p q st).2.2.length = st.2.length + 3 := by simp [both]

theorem tse_count (an : Int × Int → Nat) {f : Fo} (hw : WfF f) : ∀ st : Nat × List (List Int), (tse an f st).2.1 = st.1 + twos f ∧ (tse an f st).2.2.length = st.2.length + 3 * twos f := by
  induction hw with
  | eq x y => intro st; simp [tse, twos]
  | neg f hf ih =>
    intro st
    have := ih st
    simp [tse, twos]
    exact this
  | two o f g ho hf hg ih1 ih2 =>
    intro st
    have a := ih1 st
    have b := ih2 (tse an f st).2
    have e : twos (.mk o 0 0 [f, g]) = twos f + twos g + 1 := by rcases ho with rfl | rfl | rfl <;> simp [twos]
    have key : ∀ p q, (both p q (tse an g (tse an f st).2).2).2.1 = st.1 + (twos f + twos g + 1) ∧ (both p q (tse an g (tse an f st).2).2).2.2.length = st.2.length + 3 * (twos f + twos g + 1) := fun p q => by
      obtain ⟨c1, c2⟩ := both_count p q (tse an g (tse an f st).2).2
      rw [c1, c2]
      omega
    rw [e]
    rcases ho with rfl | rfl | rfl
    · rw [show tse an (.mk 2 0 0 [f, g]) st = both (tse an f st).1 (tse an g (tse an f st).2).1 (tse an g (tse an f st).2).2 by rw [tse] <;> simp]
      exact key _ _
    · rw [show tse an (.mk 3 0 0 [f, g]) st = (-(both (-(tse an f st).1) (-(tse an g (tse an f st).2).1) (tse an g (tse an f st).2).2).1, (both (-(tse an f st).1) (-(tse an g (tse an f st).2).1) (tse an g (tse an f st).2).2).2) by rw [tse] <;> simp]
      exact key _ _
    · rw [show tse an (.mk 4 0 0 [f, g]) st = (-(both (tse an f st).1 (-(tse an g (tse an f st).2).1) (tse an g (tse an f st).2).2).1, (both (tse an f st).1 (-(tse an g (tse an f st).2).1) (tse an g (tse an f st).2).2).2) by rw [tse] <;> simp]
      exact key _ _

theorem cnt_told {f : Fo} (hw : WfF f) : (cnt f).1 = (eqF f).length + (cnt f).2 ∧ twos f ≤ (cnt f).2 := by
  induction hw with
  | eq x y => simp [cnt, eqF, twos]
  | neg f hf ih =>
    simp [cnt, eqF, twos]
    omega
  | two o f g ho hf hg ih1 ih2 =>
    rcases ho with rfl | rfl | rfl <;> simp [cnt, eqF, twos] <;> omega

end Go.Proofs.YtlehlgipbhfioaaGreat.Cn
namespace Go.Proofs.YtlehlgipbhfioaaGreat
theorem cnt_le {f : Fo} (h : WfF f) : (Cn.cnt f).1 ≤ szF f ∧ (Cn.cnt f).2 ≤ (Cn.cnt f).1 := by
  induction h with
  | eq x y => simp [Cn.cnt, szF]
  | neg f hf ih => simp [Cn.cnt, szF]; omega
  | two o f g ho hf hg ih1 ih2 => rcases ho with rfl | rfl | rfl <;> simp [Cn.cnt, szF] <;> omega
end Go.Proofs.YtlehlgipbhfioaaGreat

namespace Go.Proofs.YtlehlgipbhfioaaGreat
open Go.RowKit Go.Shelf

theorem es_leaf {t : Lf} (h0 : t.op = 0) : es t = [t] := by
  have hks : t.ks = [] := by simp [Lf.ks, h0]
  unfold es
  rw [wk_end (by rw [hks]; rfl)]
  simp [isEnd, hks]
theorem es_one {t k : Lf} (h0 : ¬ t.op = 0) (hk : t.kids = [k]) : es t = es k ++ [t] := by
  have hks : t.ks = [k] := by simp [Lf.ks, h0, hk]
  unfold es
  rw [wk_one h0 hk, List.filterMap_cons_none (by simp [isEnd, hks]), List.filterMap_append]
  simp [isEnd, hks]
theorem es_two {t a b : Lf} (h0 : ¬ t.op = 0) (hk : t.kids = [a, b]) : es t = es a ++ es b ++ [t] := by
  have hks : t.ks = [a, b] := by simp [Lf.ks, h0, hk]
  unfold es
  rw [wk_two h0 hk, List.filterMap_cons_none (by simp [isEnd, hks]), List.filterMap_append, List.filterMap_cons_none (by simp [isEnd, hks]), List.filterMap_append]
  simp [isEnd, hks]

/-- All Forms of a formula are formulas. -/
theorem es_wf {f : Fo} (hw : WfF f) : ∀ t : Lf, t.er = f → ∀ x ∈ es t, WfF x.er := by
  induction hw with
  | eq x y =>
    intro t ht z hz
    obtain ⟨h1, _, _, _⟩ := Lf.er_kids ht
    rw [es_leaf h1] at hz
    obtain rfl := List.mem_singleton.1 hz
    rw [ht]
    exact .eq x y
  | neg f hf ih =>
    intro t ht z hz
    obtain ⟨h1, _, _, h4⟩ := Lf.er_kids ht
    obtain ⟨k, hk, hke⟩ := map_one h4
    rw [es_one (by rw [h1]; decide) hk] at hz
    rcases List.mem_append.1 hz with hz | hz
    · exact ih k hke z hz
    · obtain rfl := List.mem_singleton.1 hz
      rw [ht]
      exact .neg f hf
  | two o f g ho hf hg ih1 ih2 =>
    intro t ht z hz
    obtain ⟨h1, _, _, h4⟩ := Lf.er_kids ht
    obtain ⟨a, b, hk, ha, hb⟩ := map_two h4
    rw [es_two (by rw [h1]; rcases ho with rfl | rfl | rfl <;> decide) hk] at hz
    rcases List.mem_append.1 hz with hz | hz
    · rcases List.mem_append.1 hz with hz | hz
      · exact ih1 a ha z hz
      · exact ih2 b hb z hz
    · obtain rfl := List.mem_singleton.1 hz
      rw [ht]
      exact .two o f g ho hf hg


/-- What literal answers, and what it leaves. -/
def litG (an : Int × Int → Nat) (x : Lf) (args : List Int) (st : Sc) : Int × Sc :=
  if x.op = 1 then (-(args[0]?.getD 0), st)
  else if x.op = 2 then Cn.both (args[0]?.getD 0) (args[1]?.getD 0) st
  else if x.op = 3 then (-(Cn.both (-(args[0]?.getD 0)) (-(args[1]?.getD 0)) st).1, (Cn.both (-(args[0]?.getD 0)) (-(args[1]?.getD 0)) st).2)
  else if x.op = 4 then (-(Cn.both (args[0]?.getD 0) (-(args[1]?.getD 0)) st).1, (Cn.both (args[0]?.getD 0) (-(args[1]?.getD 0)) st).2)
  else ((an (x.x, x.y) : Int), st)

/-- One Form further. -/
def stepL (an : Int × Int → Nat) (s : List Int × Sc) (x : Lf) : List Int × Sc :=
  (s.1.take (s.1.length - x.ks.length) ++ [(litG an x (s.1.drop (s.1.length - x.ks.length)) s.2).1], (litG an x (s.1.drop (s.1.length - x.ks.length)) s.2).2)

theorem stepL_app (an : Int × Int → Nat) (vs args : List Int) (st : Sc) (x : Lf) (h : args.length = x.ks.length) : stepL an (vs ++ args, st) x = (vs ++ [(litG an x args st).1], (litG an x args st).2) := by
  have e : (vs ++ args).length - x.ks.length = vs.length := by simp; omega
  unfold stepL
  simp only [e, List.take_left', List.drop_left']

theorem es_fold (an : Int × Int → Nat) {f : Fo} (hw : WfF f) : ∀ t : Lf, t.er = f → ∀ (vs : List Int) (st : Sc), (es t).foldl (stepL an) (vs, st) = (vs ++ [(Cn.tse an f st).1], (Cn.tse an f st).2) := by
  induction hw with
  | eq x y =>
    intro t ht vs st
    obtain ⟨h1, h2, h3, _⟩ := Lf.er_kids ht
    have hks : t.ks = [] := by simp [Lf.ks, h1]
    have := stepL_app an vs [] st t (by rw [hks]; rfl)
    rw [List.append_nil] at this
    rw [es_leaf h1, List.foldl_cons, List.foldl_nil, this]
    simp [litG, h1, h2, h3, Cn.tse]
  | neg f hf ih =>
    intro t ht vs st
    obtain ⟨h1, _, _, h4⟩ := Lf.er_kids ht
    obtain ⟨k, hk, hke⟩ := map_one h4
    have h0 : ¬ t.op = 0 := by rw [h1]; decide
    have hks : t.ks = [k] := by simp [Lf.ks, h0, hk]
    rw [es_one h0 hk, List.foldl_append, ih k hke, List.foldl_cons, List.foldl_nil, stepL_app an _ _ _ _ (by rw [hks]; rfl)]
    simp [litG, h1, Cn.tse]
  | two o f g ho hf hg ih1 ih2 =>
    intro t ht vs st
    obtain ⟨h1, _, _, h4⟩ := Lf.er_kids ht
    obtain ⟨a, b, hk, ha, hb⟩ := map_two h4
    have h0 : ¬ t.op = 0 := by rw [h1]; rcases ho with rfl | rfl | rfl <;> decide
    have hks : t.ks = [a, b] := by simp [Lf.ks, h0, hk]
    rw [es_two h0 hk, List.foldl_append, List.foldl_append, ih1 a ha, ih2 b hb, List.foldl_cons, List.foldl_nil, List.append_assoc, stepL_app an vs _ _ _ (by rw [hks]; rfl)]
    rcases ho with rfl | rfl | rfl
    · rw [Cn.tse] <;> simp [litG, h1]
    · rw [Cn.tse] <;> simp [litG, h1]
    · rw [Cn.tse] <;> simp [litG, h1]

/-- Behind the first i Forms. -/
def stC (an : Int × Int → Nat) (t : Lf) (n : Nat) (i : Nat) : List Int × Sc := ((es t).take i).foldl (stepL an) ([], (n, []))
theorem stC_step {an : Int × Int → Nat} {t x : Lf} {n i : Nat} (h : (es t)[i]? = some x) : stC an t n (i + 1) = stepL an (stC an t n i) x := by
  unfold stC
  rw [List.take_add_one, h]
  simp
theorem stC_all (an : Int × Int → Nat) {t : Lf} (hw : WfF t.er) (n : Nat) : stC an t n (es t).length = ([(Cn.tse an t.er (n, [])).1], (Cn.tse an t.er (n, [])).2) := by
  unfold stC
  rw [List.take_length, es_fold an hw t rfl]
  rfl
theorem stC_len (an : Int × Int → Nat) (t : Lf) (n : Nat) : ∀ i, (stC an t n i).1.length = (stV (fun _ _ => ()) t i).length
  | 0 => rfl
  | i + 1 => by
    have ih := stC_len an t n i
    cases h : (es t)[i]? with
    | none =>
      have e1 : stC an t n (i + 1) = stC an t n i := by unfold stC; rw [List.take_add_one, h]; simp
      have e2 : stV (fun _ _ => ()) t (i + 1) = stV (fun _ _ => ()) t i := by unfold stV; rw [List.take_add_one, h]; simp
      rw [e1, e2, ih]
    | some x =>
      rw [stC_step h, (stV_step h).1]
      simp [stepL, foS, ih]
theorem stC_enough {an : Int × Int → Nat} {t x : Lf} {n i : Nat} (h : (es t)[i]? = some x) : x.ks.length ≤ (stC an t n i).1.length := by
  rw [stC_len]
  exact (stV_step h).2

theorem litG_ok {an : Int × Int → Nat} {x : Lf} {args : List Int} {st : Sc} (ha : ∀ v ∈ args, v.natAbs ≤ st.1) (hx : x.op = 0 → an (x.x, x.y) ≤ st.1) (hop : x.op = 0 ∨ x.op = 1 ∨ x.op = 2 ∨ x.op = 3 ∨ x.op = 4) :
    (litG an x args st).1.natAbs ≤ (litG an x args st).2.1 ∧ st.1 ≤ (litG an x args st).2.1 ∧ (litG an x args st).2.1 ≤ st.1 + 1 ∧ (litG an x args st).2.2.length ≤ st.2.length + 3 := by
  have h0 : ∀ j : Nat, (args[j]?.getD 0).natAbs ≤ st.1 := fun j => by
    cases h : args[j]? with
    | none => simp
    | some v => exact ha v (List.mem_of_getElem? h)
  unfold litG
  rcases hop with h | h | h | h | h
  · have := hx h
    simp [h]
    omega
  · have := h0 0
    simp [h] at this ⊢
    omega
  · simp [h, Cn.both]
    omega
  · simp [h, Cn.both]
    omega
  · simp [h, Cn.both]
    omega

theorem wf_op {t : Lf} (h : WfF t.er) : t.op = 0 ∨ t.op = 1 ∨ t.op = 2 ∨ t.op = 3 ∨ t.op = 4 := by
  rw [← Lf.er_op]
  generalize t.er = f at h
  cases h with
  | eq => exact Or.inl rfl
  | neg => exact Or.inr (Or.inl rfl)
  | two o _ _ ho => rcases ho with rfl | rfl | rfl <;> simp [Fo.op]

theorem stC_ok (an : Int × Int → Nat) {t : Lf} (hw : WfF t.er) (n : Nat) (ha : ∀ p ∈ eqF t.er, an p ≤ n) : ∀ i, i ≤ (es t).length → (∀ v ∈ (stC an t n i).1, v.natAbs ≤ (stC an t n i).2.1) ∧ n ≤ (stC an t n i).2.1 ∧ (stC an t n i).2.1 ≤ n + i ∧ (stC an t n i).2.2.length ≤ 3 * i
  | 0, _ => by simp [stC]
  | i + 1, hi => by
    obtain ⟨h1, h2, h3, h4⟩ := stC_ok an hw n ha i (by omega)
    have hx : (es t)[i]? = some (es t)[i] := List.getElem?_eq_getElem (by omega)
    have hm := List.mem_of_getElem? hx
    rw [stC_step hx]
    generalize (es t)[i] = x at *
    have hwx := es_wf hw t rfl x hm
    have hq : x.op = 0 → an (x.x, x.y) ≤ (stC an t n i).2.1 := fun h0 => by
      refine Nat.le_trans (ha _ ?_) h2
      rw [← eqs_er]
      exact List.mem_filterMap.2 ⟨x, hm, by simp [isEq, h0]⟩
    obtain ⟨g1, g2, g3, g4⟩ := litG_ok (an := an) (args := (stC an t n i).1.drop ((stC an t n i).1.length - x.ks.length)) (st := (stC an t n i).2) (fun v hv => h1 v (List.mem_of_mem_drop hv)) hq (wf_op hwx)
    unfold stepL
    refine ⟨fun v hv => ?_, by dsimp only; omega, by dsimp only; omega, by dsimp only; omega⟩
    dsimp only at hv ⊢
    rcases List.mem_append.1 hv with hv | hv
    · have := h1 v (List.mem_of_mem_take hv)
      omega
    · obtain rfl := List.mem_singleton.1 hv
      exact g1

end Go.Proofs.YtlehlgipbhfioaaGreat

namespace Go.Proofs.YtlehlgipbhfioaaGreat
open Go.RowKit Go.Shelf

def IntsAt (W : World) (sv : Value) (args : List Int) : Prop := ∃ a cap, sv = .slice a args.length cap ∧ ClsAt W a args

theorem MadeX.none {S : Nat → Prop} {w w' : World} {mb ab : Nat} {ps : List (Int × Int)} {rv : Value} {st : Sc} (h : Mk S w mb ab ps rv st) (K : Kept0 w w') : MadeX S w rv S w' rv mb ab ps st :=
  ⟨h.keep K.size (fun k hk => K.block k (h.lt k hk) (fun e => e)), fun _ hk => Or.inl hk, Or.inl rfl, K.mono (fun _ _ e => e.elim)⟩
theorem ret_i {p q : Int} (h : p = q) : Ending.returned (.int .i64 p) = Ending.returned (.int .i64 q) := by rw [h]

theorem wrap_negN (x : Int) (n : Nat) (h : x = ((n + 1 : Nat) : Int)) (hn : n ≤ 1073741824) : IntKind.i64.wrap (-x) = -x := by
  subst h
  rw [IntKind.wrap_i64]
  omega

set_option maxRecDepth 100000 in
set_option maxHeartbeats 4000000 in
theorem literal_in (w : World) (S : Nat → Prop) (mb ab : Nat) (ps : List (Int × Int)) (rv : Value) (st : Sc) (h : Mk S w mb ab ps rv st) (hs : st.1 ≤ 1073741824) (hs2 : st.2.length ≤ 1073741824) (t : Lf) (ht : Here w t) (hw : whl t = true) (hx : P64 (t.x, t.y)) (sv : Value) (args : List Int) (hA : IntsAt w sv args) (hl : args.length = t.ks.length) (hb : ∀ v ∈ args, v.natAbs ≤ 1073741824) :
    Calls Tryz.prog 120 #[.pointer (some ⟨mb, 0, none⟩), .pointer (some ⟨t.b, t.o, none⟩), sv] w fun e w' => e = .returned (.int .i64 (litG (numP ps) t args st).1) ∧ Made S w w' mb ab ps rv (litG (numP ps) t args st).2 := by
  have WH := isWhole_in w t ht
  rw [hw] at WH
  have c0 := ht.cells.c0
  have cx := ht.cells.c1
  have cy := ht.cells.c2
  have BO : Hid (∀ (m : Nat) (p q : Int), p.natAbs ≤ 1099511627776 → q.natAbs ≤ 1099511627776 → Calls Tryz.prog 158 #[.pointer (some ⟨mb, 0, none⟩), .int .i64 p, .int .i64 q] (w.drewN m) fun e w' => e = .returned (.int .i64 (Cn.both p q st).1) ∧ Made S w w' mb ab ps rv (Cn.both p q st).2) := fun m p q hp hq => (both_in (w.drewN m) S mb ab ps rv st (h.keep (Nat.le_refl _) (fun _ _ => rfl)) (by omega) hs2 p q hp hq).mono (by
    rintro e w' ⟨rfl, S', rv', X⟩
    exact ⟨rfl, S', rv', (MadeX.none h ((Kept.refl _ w).drewN m)).trans X⟩)
  obtain ⟨sa, scap, rfl, hargs⟩ := hA
  have K0 : Kept0 w w := Kept.refl _ w
  have HE : Hid (litG (numP ps) t args st = _) := litG.eq_1 (numP ps) t args st
  have HB : Hid (∀ p q, (Cn.both p q st).1 = ((st.1 + 1 : Nat) : Int)) := fun p q => rfl
  have cm : w.cell? ⟨mb, 0, none⟩ = some (.map (some ab)) := h.cells.cell (i := 0) (by omega)
  have HM : Hid (∀ m, MadeX S w rv S (w.drewN m) rv mb ab ps st) := fun m => MadeX.none h ((Kept.refl _ w).drewN m)
  have LK : (Instr.lookup 113 (.map (some ab)) (pairV (t.x, t.y)) false).run Tryz.prog w.drew = .ok (.int .i64 (numP ps (t.x, t.y) : Int)) w.drew := (h.map.keep rfl : NumIs w.drew ab ps).look hx
  simp only [pairV] at LK
  have hcell : ∀ (j : Nat) (b : Int), args[j]? = some b → ∃ g off, sa = some ⟨g, off, none⟩ ∧ w.cell? ⟨g, off + j, none⟩ = some (.int .i64 b) := fun j b hj => by
    rcases hargs with e | ⟨g, off, e1, e2⟩
    · rw [e] at hj; simp at hj
    · exact ⟨g, off, e1, e2 j b hj⟩
  have hkl : t.op ≠ 0 → args.length = t.kids.length := fun h0 => by rw [hl]; simp [Lf.ks, h0]
  have hA1 : Hid (∀ p, args = [p] → (litG (numP ps) t args st) = (if t.op = 1 then (-p, st) else litG (numP ps) t args st)) := fun p hp => by
    split
    · next h1 => rw [litG, if_pos h1, hp]; rfl
    · rfl
  go_enter Tryz.func120, Tryz.ntmps120
  by_cases h1 : t.op = 1
  · have hk1 : t.kids.length = 1 := by simpa [whl, h1] using hw
    have hal := hkl (by omega)
    obtain ⟨p, rfl⟩ : ∃ p, args = [p] := List.length_eq_one_iff.1 (by omega)
    obtain ⟨g, off, rfl, hc⟩ := hcell 0 p rfl
    rw [h1] at c0
    have hc' : w.cell? ⟨g, off, none⟩ = some (.int .i64 p) := hc
    have hpb := hb p (by simp)
    have wp : IntKind.i64.wrap (-p) = -p := by rw [IntKind.wrap_i64]; omega
    have HE2 : Hid (litG (numP ps) t [p] st = (-p, st)) := by show _ = _; rw [HE.out, if_pos h1]; rfl
    clear hcell hkl hargs hc cx cy hl hal hk1 HE hA1 BO hb h LK cm
    go_wp2_with (first | (go_at_call 137; refine WH.mono ?_; rintro e w2 ⟨rfl, rfl⟩))
    go_ret
    rw [HE2.out]
    exact ⟨rfl, _, _, HM.out 0⟩
  · have d1 : (t.op == 1) = false := by simpa using h1
    by_cases h2 : t.op = 2
    · clear d1
      have hk2 : t.kids.length = 2 := by simpa [whl, h2] using hw
      have hal := hkl (by omega)
      obtain ⟨p, q, rfl⟩ : ∃ p q, args = [p, q] := by
        match args, (show args.length = 2 by omega) with
        | [p, q], _ => exact ⟨p, q, rfl⟩
      obtain ⟨g, off, rfl, hc⟩ := hcell 0 p rfl
      obtain ⟨g', off', e', hd⟩ := hcell 1 q rfl
      obtain ⟨rfl, rfl⟩ : g = g' ∧ off = off' := by simpa using e'
      rw [h2] at c0
      have hc' : w.cell? ⟨g, off, none⟩ = some (.int .i64 p) := hc
      have hpb := hb p (by simp)
      have hqb := hb q (by simp)
      have HE2 : Hid (litG (numP ps) t [p, q] st = Cn.both p q st) := by show _ = _; rw [HE.out, if_neg h1, if_pos h2]; rfl
      have BB := fun m => BO.out m p q (by omega) (by omega)
      clear hcell hkl hargs hc cx cy hl hal hk2 e' HE hA1 BO hb h LK cm
      go_wp2_with (first | (go_at_call 137; refine WH.mono ?_; rintro e w2 ⟨rfl, rfl⟩))
      go_region_with (go_at_call 158; refine (BB 1).mono ?_; rintro e w3 ⟨rfl, M3⟩)
      all_goals
        try simp only [Act.put, List.getElem_toArray, List.getElem_cons_succ, List.getElem_cons_zero, List.setIfInBounds_toArray, List.set_cons_succ, List.set_cons_zero]
        go_wp2_with fail
        go_ret
        rw [HE2.out]
        exact ⟨rfl, M3⟩
    · have d2 : (t.op == 2) = false := by simpa using h2
      by_cases h3 : t.op = 3
      · clear d1 d2
        have hk2 : t.kids.length = 2 := by simpa [whl, h3] using hw
        have hal := hkl (by omega)
        obtain ⟨p, q, rfl⟩ : ∃ p q, args = [p, q] := by
          match args, (show args.length = 2 by omega) with
          | [p, q], _ => exact ⟨p, q, rfl⟩
        obtain ⟨g, off, rfl, hc⟩ := hcell 0 p rfl
        obtain ⟨g', off', e', hd⟩ := hcell 1 q rfl
        obtain ⟨rfl, rfl⟩ : g = g' ∧ off = off' := by simpa using e'
        rw [h3] at c0
        have hc' : w.cell? ⟨g, off, none⟩ = some (.int .i64 p) := hc
        have hpb := hb p (by simp)
        have hqb := hb q (by simp)
        have wp : IntKind.i64.wrap (-p) = -p := by rw [IntKind.wrap_i64]; omega
        have wq : IntKind.i64.wrap (-q) = -q := by rw [IntKind.wrap_i64]; omega
        have BB := fun m => BO.out m (-p) (-q) (by omega) (by omega)
        have HE2 : Hid (litG (numP ps) t [p, q] st = (-(Cn.both (-p) (-q) st).1, (Cn.both (-p) (-q) st).2)) := by show _ = _; rw [HE.out, if_neg h1, if_neg h2, if_pos h3]; rfl
        have wx : IntKind.i64.wrap (-(Cn.both (-p) (-q) st).1) = -(Cn.both (-p) (-q) st).1 := wrap_negN _ _ (HB.out _ _) hs
        generalize (Cn.both (-p) (-q) st).1 = bx at *
        generalize (Cn.both (-p) (-q) st).2 = bst at *
        clear hcell hkl hargs hc cx cy hl hal hk2 e' HE hA1 BO hb h LK cm HB
        go_wp2_with (first | (go_at_call 137; refine WH.mono ?_; rintro e w2 ⟨rfl, rfl⟩))
        go_region_with (go_at_call 158; refine (BB 1).mono ?_; rintro e w3 ⟨rfl, M3⟩)
        all_goals
          try simp only [Act.put, List.getElem_toArray, List.getElem_cons_succ, List.getElem_cons_zero, List.setIfInBounds_toArray, List.set_cons_succ, List.set_cons_zero]
          go_wp2_with fail
          go_ret
          rw [HE2.out]
          exact ⟨rfl, M3⟩
      · have d3 : (t.op == 3) = false := by simpa using h3
        by_cases h4 : t.op = 4
        · clear d1 d2 d3
          have hk2 : t.kids.length = 2 := by simpa [whl, h4] using hw
          have hal := hkl (by omega)
          obtain ⟨p, q, rfl⟩ : ∃ p q, args = [p, q] := by
            match args, (show args.length = 2 by omega) with
            | [p, q], _ => exact ⟨p, q, rfl⟩
          obtain ⟨g, off, rfl, hc⟩ := hcell 0 p rfl
          obtain ⟨g', off', e', hd⟩ := hcell 1 q rfl
          obtain ⟨rfl, rfl⟩ : g = g' ∧ off = off' := by simpa using e'
          rw [h4] at c0
          have hc' : w.cell? ⟨g, off, none⟩ = some (.int .i64 p) := hc
          have hpb := hb p (by simp)
          have hqb := hb q (by simp)
          have wp : IntKind.i64.wrap (-p) = -p := by rw [IntKind.wrap_i64]; omega
          have wq : IntKind.i64.wrap (-q) = -q := by rw [IntKind.wrap_i64]; omega
          have BB := fun m => BO.out m (p) (-q) (by omega) (by omega)
          have HE2 : Hid (litG (numP ps) t [p, q] st = (-(Cn.both (p) (-q) st).1, (Cn.both (p) (-q) st).2)) := by show _ = _; rw [HE.out, if_neg h1, if_neg h2, if_neg h3, if_pos h4]; rfl
          have wx : IntKind.i64.wrap (-(Cn.both (p) (-q) st).1) = -(Cn.both (p) (-q) st).1 := wrap_negN _ _ (HB.out _ _) hs
          generalize (Cn.both (p) (-q) st).1 = bx at *
          generalize (Cn.both (p) (-q) st).2 = bst at *
          clear hcell hkl hargs hc cx cy hl hal hk2 e' HE hA1 BO hb h LK cm HB
          go_wp2_with (first | (go_at_call 137; refine WH.mono ?_; rintro e w2 ⟨rfl, rfl⟩))
          go_region_with (go_at_call 158; refine (BB 1).mono ?_; rintro e w3 ⟨rfl, M3⟩)
          all_goals
            try simp only [Act.put, List.getElem_toArray, List.getElem_cons_succ, List.getElem_cons_zero, List.setIfInBounds_toArray, List.set_cons_succ, List.set_cons_zero]
            go_wp2_with fail
            go_ret
            rw [HE2.out]
            exact ⟨rfl, M3⟩
        · have d4 : (t.op == 4) = false := by simpa using h4
          have HE2 : Hid (litG (numP ps) t args st = ((numP ps (t.x, t.y) : Int), st)) := by show _ = _; rw [HE.out, if_neg h1, if_neg h2, if_neg h3, if_neg h4]
          clear hcell hkl hargs hl HE hA1 BO hb h HB
          generalize numP ps (t.x, t.y) = np at *
          go_wp2_with (first | (go_at_call 137; refine WH.mono ?_; rintro e w2 ⟨rfl, rfl⟩))
          go_region_with fail
          all_goals
            try simp only [Act.put, List.getElem_toArray, List.getElem_cons_succ, List.getElem_cons_zero, List.setIfInBounds_toArray, List.set_cons_succ, List.set_cons_zero]
            go_wp2_with fail
            go_ret
            rw [HE2.out]
            exact ⟨rfl, _, _, HM.out 1⟩

end Go.Proofs.YtlehlgipbhfioaaGreat

namespace Go.Proofs.YtlehlgipbhfioaaGreat
open Go.RowKit

theorem kid_cells {w : World} {kids : List Lf} (hks : ∀ k ∈ kids, LayC w k) {kb ko : Nat} (hadr : ∀ (j : Nat) (t : Lf), kids[j]? = some t → t.b = kb ∧ t.o = ko + j * 4) (j : Nat) (k : Lf) (hj : kids[j]? = some k) (w2 : World) (hB : Below w.heap.size w w2) :
    w2.cell? ⟨kb, ko + j * 4, none⟩ = some (.int .i64 k.op) ∧ w2.cell? ⟨kb, ko + j * 4 + 1, none⟩ = some (.int .i64 k.x) ∧ w2.cell? ⟨kb, ko + j * 4 + 2, none⟩ = some (.int .i64 k.y) ∧ ∃ sa sn sc, k.kv = .slice sa sn sc ∧ w2.cell? ⟨kb, ko + j * 4 + 3, none⟩ = some (.slice sa sn sc) := by
  have hm := List.mem_of_getElem? hj
  have hl := (hks k hm).kept hB
  obtain ⟨a1, a2⟩ := hadr j k hj
  cases hl with
  | mk d0 d1 d2 d3 dk dh =>
    simp only [Lf.b, Lf.o] at a1 a2
    subst a1 a2
    obtain ⟨sa, sc, rfl, _⟩ := dk
    exact ⟨d0, d1, d2, sa, _, sc, rfl, d3⟩

end Go.Proofs.YtlehlgipbhfioaaGreat

namespace Go.Proofs.YtlehlgipbhfioaaGreat
open Go.RowKit

/-- No Form of it has too many Kids. -/
inductive Szd : Lf → Prop where
  | mk {b o : Nat} {op x y : Int} {kv : Value} {kids : List Lf} (hn : kids.length ≤ 140737488355328) (h : ∀ k ∈ kids, Szd k) : Szd (.mk b o op x y kv kids)

end Go.Proofs.YtlehlgipbhfioaaGreat

namespace Go.Proofs.YtlehlgipbhfioaaGreat
open Go.RowKit Go.Maps

/-- No Form has more Kids than that. -/
inductive Sml : Lf → Prop where
  | mk {b o : Nat} {op x y : Int} {kv : Value} {kids : List Lf} (hn : kids.length ≤ 1048576) (h : ∀ k ∈ kids, Sml k) : Sml (.mk b o op x y kv kids)
theorem Sml.szd {t : Lf} (h : Sml t) : Szd t := by
  induction h with
  | mk hn _ ih => exact .mk (by omega) ih

def formC (c : Lf) : List Value := [.int .i64 c.op, .int .i64 c.x, .int .i64 c.y, c.kv]
theorem formC_len (cs : List Lf) : (cs.flatMap formC).length = cs.length * 4 := by
  induction cs with
  | nil => rfl
  | cons c cs ih => simp [List.flatMap_cons, formC] at ih ⊢; omega
theorem formC_at (cs : List Lf) (i j : Nat) (hj : j < 4) : (cs.flatMap formC)[i * 4 + j]? = (cs[i]?).bind (fun t => (formC t)[j]?) := by
  induction cs generalizing i with
  | nil => simp
  | cons t l ih =>
    cases i with
    | zero => rcases (by omega : j = 0 ∨ j = 1 ∨ j = 2 ∨ j = 3) with rfl | rfl | rfl | rfl <;> simp [formC]
    | succ i =>
      have e : (i + 1) * 4 + j = 4 + (i * 4 + j) := by omega
      simp [List.flatMap_cons, e]
      rw [List.getElem?_append_right (by simp [formC])]
      simpa [formC] using ih i

/-- A row of Forms that is being made; their Kids lie elsewhere. -/
def KR (B : Nat) (W : World) (v : Value) (cs : List Lf) : Prop :=
  W.ownsRow B 36 4 v cs.length (cs.flatMap formC) ∧ ∀ c ∈ cs, KidsIn c.kv c.kids ∧ ∀ k ∈ c.kids, LayA (fun b => B ≤ b ∧ v.ownBlock ≠ some b) W k

theorem KR.nil (B : Nat) (W : World) : KR B W (.slice none 0 0) [] := ⟨World.ownsRow_nil _ _ _ _, by simp⟩
theorem row_formG {w : World} {base : Nat} {e : TypeId} {size : Nat} {v : Value} {n : Nat} {xs : List Value} (h : w.ownsRow base e size v n xs) : ∃ a c, v = .slice a n c := by
  rcases h.2 with ⟨rfl, h0⟩ | ⟨b, cap, cur, rfl, _⟩
  · rw [h0]; exact ⟨none, 0, rfl⟩
  · exact ⟨_, cap, rfl⟩
theorem row_blockG {W W' : World} {base size k : Nat} {ty : TypeId} {v : Value} {xs : List Value} (h : W.ownsRow base ty size v k xs) (hb : ∀ b, v.ownBlock = some b → W'.heap[b]? = W.heap[b]?) : W'.ownsRow base ty size v k xs := by
  refine ⟨h.1, ?_⟩
  rcases h.2 with e | ⟨g, cap, cur, e, e1, e2, e3⟩
  · exact Or.inl e
  · exact Or.inr ⟨g, cap, cur, e, e1, (hb g (by rw [e]; rfl)).trans e2, e3⟩
theorem KR.form {B : Nat} {W : World} {v : Value} {cs : List Lf} (h : KR B W v cs) : ∃ a c, v = .slice a cs.length c := row_formG h.1
theorem ownsRow_at {W : World} {base size k : Nat} {ty : TypeId} {v : Value} {xs : List Value} (h : W.ownsRow base ty size v k xs) {b : Nat} (hb : v.ownBlock = some b) : base ≤ b ∧ b < W.heap.size := by
  rcases h.2 with ⟨e, _⟩ | ⟨g, cap, cur, e, e1, e2, _⟩
  · rw [e] at hb; simp [Value.ownBlock] at hb
  · rw [e] at hb
    simp [Value.ownBlock] at hb
    subst hb
    exact ⟨e1, (Array.getElem?_eq_some_iff.1 e2).1⟩
theorem KR.below {B : Nat} {W W' : World} {v : Value} {cs : List Lf} (h : KR B W v cs) (hB : Below W.heap.size W W') : KR B W' v cs := by
  refine ⟨row_blockG h.1 (fun k hk => hB.block k (ownsRow_at h.1 hk).2), fun c hc => ⟨(h.2 c hc).1, fun k hk => ((h.2 c hc).2 k hk).keep (fun i _ _ _ hi => (hB.block i (Array.getElem?_eq_some_iff.1 hi).1).trans hi)⟩⟩

theorem KR.push {B : Nat} {W w7 w8 : World} {v v8 : Value} {cs : List Lf} {c : Lf} (h : KR B W v cs) (hBW : B ≤ W.heap.size) (hB : Below W.heap.size W w7) (hk : KidsIn c.kv c.kids) (hks : ∀ k ∈ c.kids, LayA (fun b => W.heap.size ≤ b) w7 k)
    (hown : w8.ownsRow B 36 4 v8 (cs.length + 1) (cs.flatMap formC ++ formC c)) (hgrow : w7.grownBy w8 v.ownBlock) (hat : v8.ownBlock = v.ownBlock ∨ v8.ownBlock = some w7.heap.size) : KR B w8 v8 (cs ++ [c]) := by
  have hv : ∀ b, v.ownBlock = some b → B ≤ b ∧ b < W.heap.size := fun b hb => ownsRow_at h.1 hb
  have K8 : FKeepA (fun b => v.ownBlock ≠ some b) w7 w8 := fun k c fz hk hc => (hgrow.block k (Array.getElem?_eq_some_iff.1 hc).1 (fun e => hk e.symm)).trans hc
  refine ⟨by simpa using hown, fun c' hc' => ?_⟩
  rcases List.mem_append.1 hc' with hc' | hc'
  · refine ⟨(h.2 c' hc').1, fun k hk => ?_⟩
    have h1 := ((h.2 c' hc').2 k hk).lt
    have h2 : LayA (fun b => (B ≤ b ∧ v.ownBlock ≠ some b) ∧ b < W.heap.size) w7 k := h1.keep (fun i _ _ _ hi => (hB.block i (Array.getElem?_eq_some_iff.1 hi).1).trans hi)
    refine (h2.keep (K8.mono (fun b hb => hb.1.2))).mono (fun b hb => ⟨hb.1.1, ?_⟩)
    rcases hat with e | e
    · rw [e]; exact hb.1.2
    · rw [e]
      have := hB.size
      intro e'
      cases e'
      omega
  · obtain rfl := List.mem_singleton.1 hc'
    refine ⟨hk, fun k hkk => ?_⟩
    have h1 := (hks k hkk).lt
    refine (h1.keep (K8.mono (fun b hb e => by have := (hv b e).2; omega))).mono (fun b hb => ⟨by omega, ?_⟩)
    rcases hat with e | e
    · rw [e]
      intro e'
      have := (hv b e').2
      omega
    · rw [e]
      intro e'
      cases e'
      omega

/-- When it is made, it is the Kids of a Form. -/
theorem KR.done {B : Nat} {W : World} {v : Value} {cs : List Lf} (h : KR B W v cs) (op x y : Int) : FVal B W (.agg #[.int .i64 op, .int .i64 x, .int .i64 y, v]) (.mk op x y (cs.map Lf.er)) := by
  obtain ⟨h1, h2⟩ := h
  rcases h1.2 with ⟨e, h0⟩ | ⟨g, cap, cur, e, e1, e2, e3, e4, e5, e6⟩
  · have : cs = [] := List.length_eq_zero_iff.1 h0
    subst this
    exact ⟨op, x, y, v, [], rfl, ⟨none, 0, e, Nat.le_refl _, Or.inl rfl⟩, by simp, rfl⟩
  · refine ⟨op, x, y, v, cs.mapIdx (fun j c => .mk g (j * 4) c.op c.x c.y c.kv c.kids), rfl, ⟨_, cap, by rw [List.length_mapIdx]; exact e, by rw [List.length_mapIdx]; exact e3, Or.inr ⟨g, 0, rfl, fun j t hj => ?_⟩⟩, fun k hk => ?_, ?_⟩
    · rw [List.getElem?_mapIdx] at hj
      obtain ⟨c, _, rfl⟩ := Option.map_eq_some_iff.1 hj
      simp [Lf.b, Lf.o]
    · obtain ⟨j, hj⟩ := List.getElem?_of_mem hk
      rw [List.getElem?_mapIdx] at hj
      obtain ⟨c, hc, rfl⟩ := Option.map_eq_some_iff.1 hj
      have hcm := List.mem_of_getElem? hc
      have hlt := (List.getElem?_eq_some_iff.1 hc).1
      have cell : ∀ i u, i < 4 → (formC c)[i]? = some u → cur[j * 4 + i]? = some u := fun i u hi hu => by
        have h3 : (cs.flatMap formC)[j * 4 + i]? = some u := by rw [formC_at cs j i hi, hc]; exact hu
        rw [← e6, List.getElem?_take] at h3
        split at h3
        · simpa using h3
        · cases h3
      exact .mk e1 ⟨cur, (0, 0), e2, cell 0 _ (by omega) rfl, cell 1 _ (by omega) rfl, cell 2 _ (by omega) rfl, cell 3 _ (by omega) rfl, rfl⟩ (h2 c hcm).1 (fun k hk => ((h2 c hcm).2 k hk).mono (fun b hb => hb.1))
    · congr 1
      apply List.ext_getElem?
      intro j
      simp only [List.getElem?_map, List.getElem?_mapIdx, Option.map_map]
      cases cs[j]? with
      | none => rfl
      | some c => simp [Lf.er]; cases c; simp [Lf.er, Lf.op, Lf.x, Lf.y, Lf.kids]

theorem infoForm : (Tryz.prog.info? 36).map (fun i => (i.zero, i.size, i.bytes)) = some (some (.agg #[.int .i64 0, .int .i64 0, .int .i64 0, .slice none 0 0]), 4, 48) := by kernel_rfl

end Go.Proofs.YtlehlgipbhfioaaGreat

namespace Go.Proofs.YtlehlgipbhfioaaGreat
open Go.RowKit Go.Maps

/-- Each once, behind some others. -/
def atsG (l0 l : List (Int × Int)) : List (Int × Int) := l.foldl (fun acc p => if p ∈ acc then acc else acc ++ [p]) l0
theorem atsG_nil (l : List (Int × Int)) : atsG [] l = ats l := rfl
theorem atsG_app (l0 a b : List (Int × Int)) : atsG l0 (a ++ b) = atsG (atsG l0 a) b := by simp [atsG, List.foldl_append]
theorem atsG_len (l : List (Int × Int)) : ∀ l0, (atsG l0 l).length ≤ l0.length + l.length := by
  induction l with
  | nil => intro l0; simp [atsG]
  | cons p l ih =>
    intro l0
    have h := ih (if p ∈ l0 then l0 else l0 ++ [p])
    have e : atsG l0 (p :: l) = atsG (if p ∈ l0 then l0 else l0 ++ [p]) l := rfl
    rw [e]
    refine Nat.le_trans h ?_
    split <;> simp <;> omega

theorem pairC_len (l : List (Int × Int)) : (pairC l).length = l.length * 2 := by
  induction l with
  | nil => rfl
  | cons c cs ih => simp [pairC, List.flatMap_cons] at ih ⊢; omega
theorem pairC_at (l : List (Int × Int)) (i : Nat) : (pairC l)[i * 2]? = (l[i]?).map (fun p => Value.int .i64 p.1) ∧ (pairC l)[i * 2 + 1]? = (l[i]?).map (fun p => Value.int .i64 p.2) := by
  induction l generalizing i with
  | nil => simp [pairC]
  | cons t l ih =>
    cases i with
    | zero => simp [pairC]
    | succ i =>
      have e : (i + 1) * 2 = (i * 2) + 1 + 1 := by omega
      have h := ih i
      unfold pairC at h ⊢
      rw [List.flatMap_cons, e]
      simpa using h

theorem row_cells {W : World} {base : Nat} {ty : TypeId} {v : Value} {l : List (Int × Int)} (h : W.ownsRow base ty 2 v l.length (pairC l)) {i : Nat} {p : Int × Int} (hi : l[i]? = some p) :
    ∃ g cap, v = .slice (some ⟨g, 0, none⟩) l.length cap ∧ base ≤ g ∧ l.length ≤ cap ∧ W.cell? ⟨g, i * 2, none⟩ = some (.int .i64 p.1) ∧ W.cell? ⟨g, i * 2 + 1, none⟩ = some (.int .i64 p.2) := by
  have hlt := (List.getElem?_eq_some_iff.1 hi).1
  rcases h.2 with ⟨e, h0⟩ | ⟨g, cap, cur, e, e1, e2, e3, e4, e5, e6⟩
  · omega
  · have get : ∀ j u, (pairC l)[j]? = some u → cur[j]? = some u := fun j u hu => by
      rw [← e6, List.getElem?_take] at hu
      split at hu
      · simpa using hu
      · cases hu
    obtain ⟨h1, h2⟩ := pairC_at l i
    rw [hi] at h1 h2
    refine ⟨g, cap, e, e1, e3, ?_, ?_⟩
    · simp only [World.cell?, e2]; exact get _ _ h1
    · simp only [World.cell?, e2]; exact get _ _ h2

theorem infoRP : (Tryz.prog.info? 32).map (fun i => (i.zero, i.size, i.bytes)) = some (some (.agg #[.int .i64 0, .int .i64 0]), 2, 16) := by kernel_rfl

end Go.Proofs.YtlehlgipbhfioaaGreat

namespace Go.Proofs.YtlehlgipbhfioaaGreat
open Go.RowKit

end Go.Proofs.YtlehlgipbhfioaaGreat

namespace Go.Proofs.YtlehlgipbhfioaaGreat
open Go.RowKit

/-- Clauses in memory. -/
def Cl2 (w : World) (ca : Option Addr) (cs : List (List Int)) : Prop :=
  cs = [] ∨ ∃ g off, ca = some ⟨g, off, none⟩ ∧ ∀ (i : Nat) (c : List Int), cs[i]? = some c → ∃ a cap, w.cell? ⟨g, off + i, none⟩ = some (.slice a c.length cap) ∧ ClsAt w a c

end Go.Proofs.YtlehlgipbhfioaaGreat

namespace Go.Proofs.YtlehlgipbhfioaaGreat
open Go.RowKit Go.Shelf

attribute [local go_sem] store_map store_func

/-- What Clauses makes first. -/
def clW (w : World) (op x y : Int) (kv : Value) : World :=
  ((w.alloc (.cells #[.int .i64 op, .int .i64 x, .int .i64 y, kv] 36)).alloc (.map #[] 0)).alloc (.cells #[.map (some (w.heap.size + 1)), .int .i64 0, .slice none 0 0] 226)

/-- What is known while the atoms get their numbers. -/
structure ClS (w W : World) (t : Lf) (u : Value) (ps : List (Int × Int)) (i : Nat) : Prop where
  below : Below w.heap.size w W
  here : Here W t
  maker : Mk (fun k => k = w.heap.size + 2 ∨ k = w.heap.size + 1) W (w.heap.size + 2) (w.heap.size + 1) (ps.take i) (.slice none 0 0) (i, [])
  row : W.ownsRow (w.heap.size + 3) 34 2 u ps.length (pairC ps)

theorem clW_at (w : World) (op x y : Int) (kv : Value) (kids : List Lf) (hk : KidsIn kv kids) (hks : ∀ k ∈ kids, Here w k) :
    Below w.heap.size w (clW w op x y kv) ∧ Here (clW w op x y kv) (.mk w.heap.size 0 op x y kv kids) ∧ (clW w op x y kv).heap.size = w.heap.size + 3 ∧
    Mk (fun k => k = w.heap.size + 2 ∨ k = w.heap.size + 1) (clW w op x y kv) (w.heap.size + 2) (w.heap.size + 1) [] (.slice none 0 0) (0, []) := by
  have hz1 : (w.alloc (.cells #[.int .i64 op, .int .i64 x, .int .i64 y, kv] 36)).heap.size = w.heap.size + 1 := by simp
  have hz2 : ((w.alloc (.cells #[.int .i64 op, .int .i64 x, .int .i64 y, kv] 36)).alloc (.map #[] 0)).heap.size = w.heap.size + 2 := by simp
  have hB : Below w.heap.size w (clW w op x y kv) := (((Below.refl _ w).alloc (Nat.le_refl _) _).alloc (by simp) _).alloc (by simp; omega) _
  have K : FKeepA (fun k => k < w.heap.size) w (clW w op x y kv) := fun k _ _ hlt hk => (hB.block k hlt).trans hk
  have hz3 : (clW w op x y kv).heap.size = w.heap.size + 3 := by simp [clW]
  refine ⟨hB, LayA.mk trivial ?_ hk (fun k hkk => ?_), hz3, fun k hk => by rw [hz3]; omega, Or.inl rfl, Or.inr rfl, by simp [Value.ownBlock], ?_, ?_, [], World.ownsRow_nil _ _ _ _, ⟨rfl, fun i j g n m c c' e => by simp at e⟩, by simp⟩
  · refine ⟨#[.int .i64 op, .int .i64 x, .int .i64 y, kv], (0, 0), ?_, rfl, rfl, rfl, rfl, rfl⟩
    unfold clW
    rw [Below.heap_alloc _ _ _ (by simp; omega), Below.heap_alloc _ _ _ (by simp)]
    exact World.alloc_heap_new w _
  · exact ((hks k hkk).lt.mono (fun _ h => h.2)).keep K |>.mono (fun _ _ => trivial)
  · have := made_row ((w.alloc (.cells #[.int .i64 op, .int .i64 x, .int .i64 y, kv] 36)).alloc (.map #[] 0)) #[.map (some (w.heap.size + 1)), .int .i64 0, .slice none 0 0] 226
    rw [hz2] at this
    refine World.rowIs.congr this (fun j hj => ?_)
    have : j = 0 ∨ j = 1 ∨ j = 2 := by omega
    rcases this with rfl | rfl | rfl <;> rfl
  · have := NumIs.new (w.alloc (.cells #[.int .i64 op, .int .i64 x, .int .i64 y, kv] 36))
    rw [hz1] at this
    refine this.keep ?_
    unfold clW
    rw [Below.heap_alloc _ _ _ (by simp)]

theorem whl_wf {t : Lf} (h : WfF t.er) : whl t = true := by
  cases t with
  | mk b o op x y kv kids =>
    rw [Lf.er] at h
    have hl : kids.length = (kids.map Lf.er).length := by simp
    unfold whl
    simp only [Lf.op, Lf.kids]
    rw [hl]
    generalize kids.map Lf.er = ks at h
    cases h with
    | eq => simp
    | neg => simp
    | two o f g ho => rcases ho with rfl | rfl | rfl <;> simp

theorem ClS.next {w W w5 w6 : World} {O : Obj} {t : Lf} {u : Value} {ps : List (Int × Int)} {i : Nat} {p : Int × Int} (h : ClS w W t u ps i) (hp : ps[i]? = some p) (m : Nat)
    (M5 : Mk (fun k => k = w.heap.size + 2 ∨ k = w.heap.size + 1) w5 (w.heap.size + 2) (w.heap.size + 1) (ps.take i) (.slice none 0 0) (i + 1, [])) (K5 : Kept (fun k => k = w.heap.size + 2) ((W.alloc O).drewN m) w5) (N6 : NumIs w6 (w.heap.size + 1) (ps.take i ++ [p])) (K6 : Kept1 (w.heap.size + 1) w5 w6) : ClS w w6 t u ps (i + 1) := by
  have htk : ps.take (i + 1) = ps.take i ++ [p] := by rw [List.take_add_one, hp]; rfl
  have KW : Kept (fun k => k = w.heap.size + 2) W w5 := (((Kept.refl _ W).alloc O).drewN m).trans K5
  have nb : ∀ k, k < W.heap.size → k ≠ w.heap.size + 2 → k ≠ w.heap.size + 1 → w6.heap[k]? = W.heap[k]? := fun k hk h1 h2 => (K6.block k (Nat.lt_of_lt_of_le hk KW.size) h2).trans (KW.block k hk h1)
  refine ⟨h.below.trans ⟨K6.os.trans KW.os, K6.tape.trans KW.tape, K6.output.trans KW.output, Nat.le_trans KW.size K6.size, fun k hk => nb k (Nat.lt_of_lt_of_le hk h.below.size) (by omega) (by omega)⟩, h.here.keep (fun k c fz _ hk => ?_), ?_, ownsRow_block h.row (fun b hb => ?_)⟩
  · refine (nb k (Array.getElem?_eq_some_iff.1 hk).1 ?_ ?_).trans hk
    · rintro rfl
      obtain ⟨c', hc, _⟩ := h.maker.cells
      rw [hk] at hc
      injection hc with hc
      injection hc with _ hc
      exact absurd hc (by decide)
    · rintro rfl
      obtain ⟨es, ck, e⟩ := h.maker.map.lt
      rw [e] at hk
      cases hk
  · rw [htk]
    have kb : w6.heap[w.heap.size + 2]? = w5.heap[w.heap.size + 2]? := K6.block _ (M5.lt _ M5.smb) (by omega)
    refine ⟨fun k hk => Nat.lt_of_lt_of_le (M5.lt k hk) K6.size, M5.smb, M5.sab, M5.srv, M5.cells.of_block kb, N6, [], World.ownsRow_nil _ _ _ _, ⟨rfl, fun i j g n m c c' e => by simp at e⟩, by simp⟩
  · rcases h.row.2 with ⟨e, _⟩ | ⟨g, cap, cur, e, e1, e2, _⟩
    · rw [e] at hb; simp [Value.ownBlock] at hb
    · rw [e] at hb
      simp [Value.ownBlock] at hb
      subst hb
      exact nb _ (Array.getElem?_eq_some_iff.1 e2).1 (by omega) (by omega)

theorem Mk.cl2 {S : Nat → Prop} {W : World} {mb ab : Nat} {ps : List (Int × Int)} {a : Option Addr} {len cap : Nat} {st : Sc} (h : Mk S W mb ab ps (.slice a len cap) st) : len = st.2.length ∧ Cl2 W a st.2 := by
  obtain ⟨rs, h1, h2, h3⟩ := h.rows
  rcases id h1.2 with ⟨e, h0⟩ | ⟨g, c, cur, e, _⟩
  · simp at e
    have h2 := h2.1
    have : st.2 = [] := List.length_eq_zero_iff.1 (by omega)
    exact ⟨by omega, Or.inl this⟩
  · simp at e
    obtain ⟨rfl, rfl, rfl⟩ := e
    refine ⟨h2.1, Or.inr ⟨g, 0, rfl, fun i c hi => ?_⟩⟩
    obtain ⟨g', cap', q1, _, q3⟩ := h3 i c hi
    have hlt := (List.getElem?_eq_some_iff.1 q1).1
    exact ⟨_, cap', by rw [Nat.zero_add, h1.cellAt i (by omega)]; exact q1, q3.cls⟩

/-- Clauses in rows of their own, from B on. -/
def ClOwn (B : Nat) (W : World) (v : Value) (cs : List (List Int)) : Prop := ∃ rs : List Value, W.ownsRow B 39 1 v rs.length rs ∧ (rs.length = cs.length ∧ RsDst rs) ∧ ∀ (i : Nat) (c : List Int), cs[i]? = some c → ∃ g cap, rs[i]? = some (.slice (some ⟨g, 0, none⟩) c.length cap) ∧ B ≤ g ∧ Rw W g c
theorem Mk.clOwn {S : Nat → Prop} {W : World} {mb ab B : Nat} {ps : List (Int × Int)} {rv : Value} {st : Sc} (h : Mk S W mb ab ps rv st) (hB : ∀ k, S k → B ≤ k) : ClOwn B W rv st.2 := by
  obtain ⟨rs, h1, h2, h3⟩ := h.rows
  refine ⟨rs, ⟨h1.1, ?_⟩, h2, fun i c hi => ?_⟩
  · rcases h1.2 with e | ⟨g, cap, cur, e, _, e2⟩
    · exact Or.inl e
    · exact Or.inr ⟨g, cap, cur, e, hB g (h.srv g (by rw [e]; rfl)), e2⟩
  · obtain ⟨g, cap, q1, q2, q3⟩ := h3 i c hi
    exact ⟨g, cap, q1, hB g q2, q3⟩

theorem ats_nodup (l : List (Int × Int)) : (ats l).Nodup := by
  refine snocInd (P := fun l => (ats l).Nodup) ?_ ?_ l
  · simp [ats]
  · intro l p ih
    show (ats (l ++ [p])).Nodup
    rw [ats_snoc]
    split
    · exact ih
    · next h =>
      rw [List.nodup_append]
      refine ⟨ih, by simp, fun a ha b hb => ?_⟩
      simp at hb
      subst hb
      rintro rfl
      exact h ha
theorem nodup_take {α : Type} {l : List α} (h : l.Nodup) {i : Nat} {p : α} (hi : l[i]? = some p) : p ∉ l.take i := by
  intro hm
  obtain ⟨j, hj⟩ := List.getElem?_of_mem hm
  have hjl := (List.getElem?_eq_some_iff.1 hj).1
  rw [List.length_take] at hjl
  rw [List.getElem?_take, if_pos (by omega)] at hj
  have h1 := (List.getElem?_eq_some_iff.1 hi)
  have h2 := (List.getElem?_eq_some_iff.1 hj)
  obtain ⟨a1, b1⟩ := h1
  obtain ⟨a2, b2⟩ := h2
  have := (List.getElem_inj h).1 (b1.trans b2.symm)
  omega

set_option maxRecDepth 100000 in
set_option maxHeartbeats 4000000 in
theorem clauses_w (w : World) (op x y : Int) (ka : Option Addr) (kn kc : Nat) (t : Lf) (f : Fo) (hte : t = .mk w.heap.size 0 op x y (.slice ka kn kc) t.kids) (he : t.er = f) (hv : FIs w (.agg #[.int .i64 op, .int .i64 x, .int .i64 y, .slice ka kn kc]) f) (hN : szF f ≤ 1048576) (hR : RF f) (hk : KidsIn (.slice ka kn kc) t.kids) (hks : ∀ k ∈ t.kids, Here w k) (ps : List (Int × Int)) (hps : ps = ats (eqF f)) (hpl : ps.length ≤ 1048576) (R : Int × Sc) (hR2 : R.2.2.length ≤ 1073741824)
    (FO : Hid (∀ (W : World) (u : Value), ClS w W t u ps ps.length → Calls Tryz.prog 119 #[.pointer (some ⟨w.heap.size, 0, none⟩), .func (.func 120) #[.pointer (some ⟨w.heap.size + 2, 0, none⟩)] #[]] W fun e w' => e = .returned (.int .i64 R.1) ∧ Made (fun k => k = w.heap.size + 2 ∨ k = w.heap.size + 1) W w' (w.heap.size + 2) (w.heap.size + 1) ps (.slice none 0 0) R.2)) :
    Calls Tryz.prog 77 #[.agg #[.int .i64 op, .int .i64 x, .int .i64 y, .slice ka kn kc]] w fun e w' => ∃ ca cc, e = .returned (.tuple #[.slice ca (R.2.2 ++ [[R.1]]).length cc, .int .i64 (R.2.1 : Int)]) ∧ Cl2 w' ca (R.2.2 ++ [[R.1]]) ∧ ClOwn w.heap.size w' (.slice ca (R.2.2 ++ [[R.1]]).length cc) (R.2.2 ++ [[R.1]]) ∧ Below w.heap.size w w' := by
  have hmm := @run_makeMap Tryz.prog
  obtain ⟨B3, H3, Z3, M3⟩ := clW_at w op x y (.slice ka kn kc) t.kids hk hks
  rw [← hte] at H3
  have AT := atomsF_in (clW w op x y (.slice ka kn kc)) _ f (hv.keep B3) (by omega) hR
  rw [← hps] at AT
  have hP64 : Hid (∀ p ∈ ps, P64 p) := fun p hp => by
    rw [hps, mem_ats, ← he, ← eqs_er] at hp
    exact eqs_R (by rw [he]; exact hR) p hp
  have hnd : Hid (∀ i p, ps[i]? = some p → p ∉ ps.take i) := fun i p hi => by
    have := ats_nodup (eqF f)
    rw [← hps] at this
    exact nodup_take this hi
  clear hv hN hR hk hks hps he hte
  unfold clW at *
  go_enter Tryz.func77, Tryz.ntmps77
  go_wp2_with (first | (go_at_call 78; refine AT.mono ?_; rintro e w4 ⟨u, rfl, R4, B4⟩; obtain ⟨ua, uc, hu⟩ := row_form R4; subst hu; refine Aside.out ?_))
  delta Aside
  generalize hw3 : ((w.alloc (.cells #[.int .i64 op, .int .i64 x, .int .i64 y, .slice ka kn kc] 36)).alloc (.map #[] 0)).alloc (.cells #[.map (some (w.heap.size + 1)), .int .i64 0, .slice none 0 0] 226) = w3 at *
  have S4 : ClS w w4 t (.slice ua ps.length uc) ps 0 := ⟨B3.trans (B4.mono B3.size), H3.keep (fun k _ _ _ hk => (B4.block k (Array.getElem?_eq_some_iff.1 hk).1).trans hk), M3.keep B4.size (fun k hk => B4.block k (M3.lt k hk)), Z3 ▸ R4⟩
  clear hw3 AT B3 H3 Z3 M3 R4 B4 hmm
  apply_assumption
  go_wp2_with fail
  rw [show w.heap.size + 1 + 1 = w.heap.size + 2 from rfl]
  go_loopw [12] (fun t12 W => ∃ i : Nat, i ≤ ps.length ∧ t12 = .int .i64 (i : Int) ∧ Hid (ClS w W t (.slice ua ps.length uc) ps i)) (fun t12 _ => ps.length - (intOf t12).toNat)
  case atStart => exact ⟨0, by omega, rfl, S4⟩
  case round =>
    obtain ⟨i, hi, rfl, HS⟩ := hrel
    clear S4
    by_cases hi2 : i < ps.length
    · have di : decide ((i : Int) < (ps.length : Int)) = true := decide_eq_true (by omega)
      have hpi : ps[i]? = some ps[i] := List.getElem?_eq_getElem hi2
      obtain ⟨g, gc, hv, hg1, _, q0, q1⟩ := row_cells HS.out.row hpi
      simp only [Value.slice.injEq, true_and] at hv
      obtain ⟨rfl, rfl⟩ := hv
      have hp6 := hP64.out _ (List.mem_of_getElem? hpi)
      have hpn := hnd.out i _ hpi
      have HN : Hid (∀ {w5 w6 : World} {O : Obj} (m : Nat), _ → _ → _ → _ → ClS w w6 t (.slice (some ⟨g, 0, none⟩) ps.length uc) ps (i + 1)) := fun {w5 w6 O} m => HS.out.next (w5 := w5) (w6 := w6) (O := O) hpi m
      generalize ps[i] = p at *
      obtain ⟨p1, p2⟩ := p
      simp only at q0 q1
      have V : ∀ (O : Obj) (m : Nat), Calls Tryz.prog 117 #[.pointer (some ⟨w.heap.size + 2, 0, none⟩)] ((wr.alloc O).drewN m) fun e w' => e = .returned (.int .i64 ((i + 1 : Nat) : Int)) ∧ Mk (fun k => k = w.heap.size + 2 ∨ k = w.heap.size + 1) w' (w.heap.size + 2) (w.heap.size + 1) (ps.take i) (.slice none 0 0) (i + 1, []) ∧ Kept (fun k => k = w.heap.size + 2) ((wr.alloc O).drewN m) w' := fun O m => variable_in _ _ _ _ _ _ (i, []) (HS.out.maker.keep (by simp) (fun k hk => Below.heap_alloc wr O k (HS.out.maker.lt k hk))) (by simp; omega)
      have cm : wr.cell? ⟨w.heap.size + 2, 0, none⟩ = some (.map (some (w.heap.size + 1))) := HS.out.maker.cells.cell (i := 0) (by omega)
      have hmb := HS.out.maker.cells.lt
      have hgl : g < wr.heap.size := World.block_lt_of_cell? wr _ q0
      have hlt : (ps.take i).length = i := by rw [List.length_take]; omega
      have ME : Hid (∀ w5 : World, Mk (fun k => k = w.heap.size + 2 ∨ k = w.heap.size + 1) w5 (w.heap.size + 2) (w.heap.size + 1) (ps.take i) (.slice none 0 0) (i + 1, []) → ∃ W2, (Instr.mapUpdate 113 (.map (some (w.heap.size + 1))) (.agg #[.int .i64 p1, .int .i64 p2]) (.int .i64 ((i : Int) + 1))).run Tryz.prog w5 = .ok () W2 ∧ NumIs W2 (w.heap.size + 1) (ps.take i ++ [(p1, p2)]) ∧ Kept1 (w.heap.size + 1) w5 W2 ∧ w5.cell? ⟨w.heap.size + 2, 0, none⟩ = some (.map (some (w.heap.size + 1)))) := fun w5 M5 => by
        obtain ⟨W2, h1, h2, h3⟩ := M5.map.store hp6 hpn (by rw [hlt]; omega)
        rw [hlt, show ((i + 1 : Nat) : Int) = (i : Int) + 1 by omega] at h1
        exact ⟨W2, h1, h2, h3, M5.cells.cell (i := 0) (by omega)⟩
      have CP : Hid (∀ (O : Obj) (m : Nat) (w5 : World) (a b : Value), O = .cells #[a, b] 34 → Kept (fun k => k = w.heap.size + 2) ((wr.alloc O).drewN m) w5 → w5.cell? ⟨wr.heap.size, 0, none⟩ = some a ∧ w5.cell? ⟨wr.heap.size, 1, none⟩ = some b) := fun O m w5 a b hO K => by
        have hb : w5.heap[wr.heap.size]? = (wr.alloc O).heap[wr.heap.size]? := K.block _ (by simp [World.drewN]) (by omega)
        have hn := made_row wr #[a, b] 34
        rw [hO] at hb
        exact ⟨(World.cell?_of_block (a := ⟨wr.heap.size, 0, none⟩) hb).trans (hn.cell (i := 0) (by simp)), (World.cell?_of_block (a := ⟨wr.heap.size, 1, none⟩) hb).trans (hn.cell (i := 1) (by simp))⟩
      clear HS hP64 hnd FO hp6 hpn hlt
      have V1 := V (.cells #[.int .i64 p1, .int .i64 p2] 34) 1
      have wrp : IntKind.i64.wrap ((i : Int) + 1) = (i : Int) + 1 := by rw [IntKind.wrap_i64]; omega
      clear V
      go_wp2_with fail
      go_region_with (go_at_call 117; refine V1.mono ?_; rintro e w5 ⟨rfl, M5, K5⟩; obtain ⟨w6, hU, hN6, K6, cm5⟩ := ME.out w5 M5; obtain ⟨e0, e1⟩ := CP.out _ 1 w5 _ _ rfl K5)
      all_goals
        try simp only [Act.put, List.getElem_toArray, List.getElem_cons_succ, List.getElem_cons_zero, List.setIfInBounds_toArray, List.set_cons_succ, List.set_cons_zero]
        go_wp2_with fail
        exact ⟨⟨i + 1, hi2, by simp, HN.out 1 M5 K5 hN6 K6⟩, by simp [intOf]; omega⟩
    · have di : decide ((i : Int) < (ps.length : Int)) = false := decide_eq_false (by omega)
      obtain rfl : i = ps.length := by omega
      have F1 := FO.out wr _ HS.out
      have HB : Hid (Below w.heap.size w wr ∧ _) := And.intro HS.out.below HS.out.maker
      clear HS hP64 hnd FO
      go_wp2_with (first | (go_at_call 119; refine F1.mono ?_; rintro e w5 ⟨rfl, M5⟩; refine Aside.out ?_))
      delta Aside
      obtain ⟨S5, rv5, X5⟩ := M5
      have Y5 := Made.say X5.is (by omega) 1 [R.1]
      have H5 : Hid (∀ k, rv5.ownBlock = some k → w.heap.size ≤ k) := fun k hk => by
        rcases X5.at_ with e | e
        · rw [e] at hk; simp [Value.ownBlock] at hk
        · exact Nat.le_trans HB.out.1.size (e k hk)
      apply_assumption
      go_wp2_with (first | (go_at_call 118; refine Y5.mono ?_; rintro e w6 ⟨rfl, M6⟩; refine Aside.out ?_))
      delta Aside
      obtain ⟨S6, rv6, X6⟩ := M6
      obtain ⟨rs6, r6, hX6⟩ := X6.is.rows
      obtain ⟨va, vc, hv6⟩ := row_formM r6
      subst hv6
      have c1 : w6.cell? ⟨w.heap.size + 2, 1, none⟩ = some (.int .i64 (R.2.1 : Int)) := X6.is.cells.cell (i := 1) (by omega)
      have c2 : w6.cell? ⟨w.heap.size + 2, 2, none⟩ = some (.slice va rs6.length vc) := X6.is.cells.cell (i := 2) (by omega)
      obtain ⟨hl6, hcl6⟩ := X6.is.cl2
      have own6 : ClOwn w.heap.size w6 (.slice va rs6.length vc) (R.2.2 ++ [[R.1]]) := X6.is.clOwn fun k hk => by
        have hwb := HB.out.1.size
        rcases X6.new k hk with e | e
        · rcases X5.new k e with e' | e'
          · rcases e' with rfl | rfl <;> omega
          · omega
        · have := X5.kept.size
          omega
      have HF : Hid (_ ∧ _ ∧ _ ∧ _ ∧ _) := And.intro hl6 (And.intro hcl6 (And.intro X5.kept (And.intro X6.kept own6)))
      clear X5 X6 r6 hl6 hcl6 Y5 F1 hX6 own6
      apply_assumption
      go_wp2_with fail
      go_quiet (fail)
      go_wp2_with fail
      obtain ⟨hl6, hcl6, K5, K6, own6⟩ := HF.out
      refine ⟨rfl, .tuple #[.slice va rs6.length vc, .int .i64 (R.2.1 : Int)], by simp [results, Tryz.results77], ?_⟩
      refine ⟨va, vc, by rw [hl6], ?_, ?_, ?_⟩
      · rcases hcl6 with e | ⟨g, off, h1, h2⟩
        · exact Or.inl e
        · exact Or.inr ⟨g, off, h1, h2⟩
      · rw [hl6] at own6
        exact own6
      · have B5 : Below w.heap.size w w5 := HB.out.1.trans ⟨K5.os, K5.tape, K5.output, K5.size, fun k hk => K5.block k (Nat.lt_of_lt_of_le hk HB.out.1.size) (by rintro (e | e); omega; simp [Value.ownBlock] at e)⟩
        refine (B5.trans ⟨K6.os, K6.tape, K6.output, K6.size, fun k hk => K6.block k (Nat.lt_of_lt_of_le hk B5.size) ?_⟩).trans ⟨rfl, rfl, rfl, Nat.le_refl _, fun _ _ => rfl⟩
        rintro (e | e)
        · omega
        · have := H5.out k e
          omega

end Go.Proofs.YtlehlgipbhfioaaGreat

namespace Go.Proofs.YtlehlgipbhfioaaGreat
open Go.RowKit Go.Shelf

def litC (l : List Int) : List Value := l.map fun c => Value.int .i64 c
theorem infoIntF : (Tryz.prog.info? 3).map (fun i => (i.zero, i.size, i.bytes)) = some (some (.int .i64 0), 1, 8) := by kernel_rfl

theorem Mk.ow {S : Nat → Prop} {W W' : World} {B mb ab : Nat} {ps : List (Int × Int)} {rv : Value} {st : Sc} (h : Mk S W mb ab ps rv st) (hO : Ow 335 B W W') (hab : ab < B) : Mk S W' mb ab ps rv st := by
  obtain ⟨rs, h1, h2, h3⟩ := h.rows
  refine ⟨fun k hk => Nat.lt_of_lt_of_le (h.lt k hk) hO.size, h.smb, h.sab, h.srv, hO.rowIs (by decide) h.cells, h.map.keep ?_, rs, hO.ownsRow (by decide) h1, h2, fun i c hi => ?_⟩
  · obtain ⟨es, ck, e⟩ := h.map.lt
    rw [e]
    exact hO.same _ _ e (Or.inl hab)
  · obtain ⟨g, cap, q1, q2, q3⟩ := h3 i c hi
    obtain ⟨N, F, r1, r2, r3⟩ := q3
    exact ⟨g, cap, q1, q2, N, F, r1, hO.rowIs (by decide) r2, r3⟩

/-- What fold goes round with. -/
structure FiAt (w W : World) (t : Lf) (fv v : Value) (mb ab : Nat) (ps : List (Int × Int)) (rv0 : Value) (S0 S : Nat → Prop) (rv : Value) (s : List Int × Sc) : Prop where
  made : MadeX S0 w rv0 S W rv mb ab ps s.2
  lo : mb < w.heap.size ∧ ab < w.heap.size
  here : Here W t
  fn : W.rowIs w.heap.size 229 1 (fun _ => fv)
  box : W.rowIs (w.heap.size + 1) 39 1 (fun _ => v)
  row : W.ownsRow w.heap.size 3 1 v s.1.length (litC s.1)
  sep : ∀ k, S k → k ≠ w.heap.size ∧ k ≠ w.heap.size + 1 ∧ v.ownBlock ≠ some k

theorem MadeX.ow {S S' : Nat → Prop} {w W W' : World} {B mb ab : Nat} {ps : List (Int × Int)} {rv rv' : Value} {st : Sc} (h : MadeX S w rv S' W rv' mb ab ps st) (hO : Ow 335 B W W') (hB : w.heap.size ≤ B) (hab : ab < w.heap.size) : MadeX S w rv S' W' rv' mb ab ps st := by
  refine ⟨h.is.ow hO (by omega), h.new, h.at_, ⟨hO.os.trans h.kept.os, hO.tape.trans h.kept.tape, hO.output.trans h.kept.output, Nat.le_trans h.kept.size hO.size, fun k hk hn => ?_⟩⟩
  have h1 := h.kept.block k hk hn
  rw [← h1]
  cases hh : W.heap[k]? with
  | none =>
    have h2 := Array.getElem?_eq_none_iff.1 hh
    have h3 := h.kept.size
    omega
  | some o => exact hO.same k o hh (Or.inl (by omega))

theorem FiAt.ow {w W W' : World} {B : Nat} {t : Lf} {fv v : Value} {mb ab : Nat} {ps : List (Int × Int)} {rv0 rv : Value} {S0 S : Nat → Prop} {s : List Int × Sc} (h : FiAt w W t fv v mb ab ps rv0 S0 S rv s) (hO : Ow 335 B W W') (hB : w.heap.size ≤ B) : FiAt w W' t fv v mb ab ps rv0 S0 S rv s :=
  ⟨h.made.ow hO hB h.lo.2, h.lo, h.here.keep (hO.fkeep.toA _), hO.rowIs (by decide) h.fn, hO.rowIs (by decide) h.box, hO.ownsRow (by decide) h.row, h.sep⟩

theorem intsAt_drop {W : World} {base : Nat} {g n c m : Nat} {vs : List Int} (h : W.ownsRow base 3 1 (.slice (some ⟨g, 0, none⟩) n c) n (litC vs)) (hn : n = vs.length) (cc : Nat) : IntsAt W (.slice (some ⟨g, m, none⟩) (n - m) cc) (vs.drop m) := by
  refine ⟨_, cc, by rw [List.length_drop, hn], Or.inr ⟨g, m, rfl, fun j b hj => ?_⟩⟩
  rw [List.getElem?_drop] at hj
  have hlt := (List.getElem?_eq_some_iff.1 hj).1
  have := h.cellAt (m + j) (by omega)
  rw [this]
  simp [litC, hj]

/-- One value more, behind some of them. -/
theorem FiAt.push {w W w7 w8 : World} {O : Obj} {t : Lf} {fv v v8 : Value} {mb ab : Nat} {ps : List (Int × Int)} {rv0 rv rv' : Value} {S0 S S' : Nat → Prop} {s : List Int × Sc} {st' : Sc} {m : Nat} {r : Int} (h : FiAt w W t fv v mb ab ps rv0 S0 S rv s) (X : MadeX S W rv S' w7 rv' mb ab ps st') (hm : m ≤ s.1.length) (hown : w8.ownsRow w.heap.size 3 1 v8 (m + 1) ((litC s.1).take m ++ [.int .i64 r])) (hgrow : (w7.alloc O).grownBy w8 v.ownBlock) (hloc : v8.ownBlock = v.ownBlock ∨ ∀ k, v8.ownBlock = some k → (w7.alloc O).heap.size ≤ k) (B : Nat) :
    FiAt w (w8.setCell ⟨w.heap.size + 1, 0, none⟩ v8) t fv v8 mb ab ps rv0 S0 S' rv' (s.1.take m ++ [r], st') ∧ Kr WTy B W (w8.setCell ⟨w.heap.size + 1, 0, none⟩ v8) := by
  have hbt : ∀ k, v.ownBlock = some k → w.heap.size ≤ k ∧ k < W.heap.size ∧ ∃ c, W.heap[k]? = some (Obj.cells c 3 (0, 0)) := fun k hk => by
    rcases h.row.2 with ⟨e, _⟩ | ⟨g, cap, cur, e, e1, e2, _⟩
    · rw [e] at hk; simp [Value.ownBlock] at hk
    · rw [e] at hk
      simp [Value.ownBlock] at hk
      subst hk
      exact ⟨e1, (Array.getElem?_eq_some_iff.1 e2).1, cur, e2⟩
  have hrt : ∀ k, rv.ownBlock = some k → S k ∧ ∃ c, W.heap[k]? = some (Obj.cells c 39 (0, 0)) := fun k hk => by
    refine ⟨h.made.is.srv k hk, ?_⟩
    obtain ⟨rs, h1, _⟩ := h.made.is.rows
    rcases h1.2 with ⟨e, _⟩ | ⟨g, cap, cur, e, e1, e2, _⟩
    · rw [e] at hk; simp [Value.ownBlock] at hk
    · rw [e] at hk
      simp [Value.ownBlock] at hk
      subst hk
      exact ⟨cur, e2⟩
  have hz7 : W.heap.size ≤ w7.heap.size := X.kept.size
  have hz8 : w7.heap.size < w8.heap.size := by have := hgrow.size; simp at this; omega
  have hsz : (w8.setCell ⟨w.heap.size + 1, 0, none⟩ v8).heap.size = w8.heap.size := by simp [World.setCell]
  -- blocks that stay
  have st7 : ∀ k, k < w7.heap.size → v.ownBlock ≠ some k → k ≠ w.heap.size + 1 → (w8.setCell ⟨w.heap.size + 1, 0, none⟩ v8).heap[k]? = w7.heap[k]? := fun k hk h1 h2 =>
    (Below.heap_setCell _ _ _ _ h2).trans ((hgrow.block k (by simp; omega) (fun e => h1 e.symm)).trans (Below.heap_alloc w7 O k hk))
  have st : ∀ k, k < W.heap.size → k ≠ mb → rv.ownBlock ≠ some k → v.ownBlock ≠ some k → k ≠ w.heap.size + 1 → (w8.setCell ⟨w.heap.size + 1, 0, none⟩ v8).heap[k]? = W.heap[k]? := fun k hk h1 h2 h3 h4 =>
    (st7 k (by omega) h3 h4).trans (X.kept.block k hk (by rintro (e | e); exact h1 e; exact h2 e))
  have smb := h.made.is.smb
  have tmb : ∃ c, W.heap[mb]? = some (Obj.cells c 226 (0, 0)) := by obtain ⟨c, hc, _⟩ := h.made.is.cells; exact ⟨c, hc⟩
  have tbx : ∃ c, W.heap[w.heap.size + 1]? = some (Obj.cells c 39 (0, 0)) := by obtain ⟨c, hc, _⟩ := h.box; exact ⟨c, hc⟩
  have nm : ∀ (k : Nat) (o : Obj), W.heap[k]? = some o → (o.isCells = false ∨ OfTy (fun t => t ≠ 3 ∧ t ≠ 39 ∧ t ≠ 226) o) → (w8.setCell ⟨w.heap.size + 1, 0, none⟩ v8).heap[k]? = some o := fun k o hk ho => by
    have no : ∀ {c : Array Value} {ty : TypeId} {fz : Nat × Nat}, W.heap[k]? = some (Obj.cells c ty fz) → (ty = 3 ∨ ty = 39 ∨ ty = 226) → False := fun {c ty fz} hc ht => by
      rw [hk] at hc
      cases hc
      rcases ho with ho | ⟨c', ty', fz', e, e1, e2, e3⟩
      · cases ho
      · cases e
        rcases ht with rfl | rfl | rfl
        · exact e1 rfl
        · exact e2 rfl
        · exact e3 rfl
    refine (st k (Array.getElem?_eq_some_iff.1 hk).1 ?_ ?_ ?_ ?_).trans hk
    · rintro rfl
      obtain ⟨c, hc⟩ := tmb
      exact no hc (Or.inr (Or.inr rfl))
    · intro e
      obtain ⟨_, c, hc⟩ := hrt k e
      exact no hc (Or.inr (Or.inl rfl))
    · intro e
      obtain ⟨_, _, c, hc⟩ := hbt k e
      exact no hc (Or.inl rfl)
    · rintro rfl
      obtain ⟨c, hc⟩ := tbx
      exact no hc (Or.inr (Or.inl rfl))
  have hne : v.ownBlock ≠ some (w.heap.size + 1) := rowIs_type h.box (by decide) h.row
  have hb7 : w7.rowIs (w.heap.size + 1) 39 1 (fun _ => v) := h.box.of_block (X.kept.block _ h.box.lt (by
    rintro (e | e)
    · exact (h.sep mb smb).2.1 e.symm
    · exact (h.sep _ (hrt _ e).1).2.1 rfl))
  have hb8 : w8.rowIs (w.heap.size + 1) 39 1 (fun _ => v) := hb7.of_block ((hgrow.block _ (by simp; have := hb7.lt; omega) (fun e => hne e.symm)).trans (Below.heap_alloc w7 O _ hb7.lt))
  have hne8 : v8.ownBlock ≠ some (w.heap.size + 1) := rowIs_type hb8 (by decide) hown
  have e1 : litC (s.1.take m ++ [r]) = (litC s.1).take m ++ [.int .i64 r] := by simp [litC, List.map_take]
  have e2 : (s.1.take m ++ [r]).length = m + 1 := by simp; omega
  have keepS : ∀ k, S' k → (w8.setCell ⟨w.heap.size + 1, 0, none⟩ v8).heap[k]? = w7.heap[k]? := fun k hk => by
    refine st7 k (X.is.lt k hk) ?_ ?_
    · rcases X.new k hk with e | e
      · exact (h.sep k e).2.2
      · intro e'
        have := (hbt k e').2.1
        omega
    · rcases X.new k hk with e | e
      · exact (h.sep k e).2.1
      · have := h.box.lt
        omega
  refine ⟨⟨⟨X.is.keep (by omega) keepS, fun k hk => ?_, ?_, ?_⟩, h.lo, ?_, ?_, ?_, ?_, fun k hk => ?_⟩, ⟨by omega, fun k o hk ho => nm k o hk (ho.imp (fun x => x.2) ?_)⟩⟩
  · rcases X.new k hk with e | e
    · exact h.made.new k e
    · exact Or.inr (by have := h.made.kept.size; omega)
  · rcases X.at_ with e | e
    · rw [e]; exact h.made.at_
    · exact Or.inr (fun k hk => by have := e k hk; have := h.made.kept.size; omega)
  · have K8 : (w8.setCell ⟨w.heap.size + 1, 0, none⟩ v8).os = w.os ∧ (w8.setCell ⟨w.heap.size + 1, 0, none⟩ v8).tape = w.tape ∧ (w8.setCell ⟨w.heap.size + 1, 0, none⟩ v8).output = w.output := ⟨hgrow.os.trans (X.kept.os.trans h.made.kept.os), hgrow.tape.trans (X.kept.tape.trans h.made.kept.tape), hgrow.output.trans (X.kept.output.trans h.made.kept.output)⟩
    refine ⟨K8.1, K8.2.1, K8.2.2, by have := h.made.kept.size; omega, fun k hk hn => ?_⟩
    have hkW : k < W.heap.size := Nat.lt_of_lt_of_le hk h.made.kept.size
    refine (st k hkW (fun e => hn (Or.inl e)) ?_ ?_ (by omega)).trans (h.made.kept.block k hk hn)
    · intro e
      rcases h.made.at_ with e' | e'
      · exact hn (Or.inr (by rw [← e']; exact e))
      · have := e' k e
        omega
    · intro e
      have := (hbt k e).1
      omega
  · exact h.here.keep (fun k c fz _ hk => nm k _ hk (Or.inr ⟨c, _, fz, rfl, by decide, by decide, by decide⟩))
  · obtain ⟨c, h1, h2⟩ := h.fn
    exact ⟨c, nm _ _ h1 (Or.inr ⟨c, _, _, rfl, by decide, by decide, by decide⟩), h2⟩
  · exact World.rowIs.congr (hb8.set 0 v8) (fun j hj => by
      have : j = 0 := by omega
      subst this; simp)
  · show (w8.setCell ⟨w.heap.size + 1, 0, none⟩ v8).ownsRow w.heap.size 3 1 v8 (s.1.take m ++ [r]).length (litC (s.1.take m ++ [r]))
    rw [e1, e2]
    exact ownsRow_setCell_other hown hne8 v8
  · have hk7 := X.is.lt k hk
    refine ⟨?_, ?_, ?_⟩
    · rcases X.new k hk with e | e
      · exact (h.sep k e).1
      · have := h.fn.lt
        omega
    · rcases X.new k hk with e | e
      · exact (h.sep k e).2.1
      · have := h.box.lt
        omega
    · rcases hloc with e | e
      · rw [e]
        rcases X.new k hk with e' | e'
        · exact (h.sep k e').2.2
        · intro e2
          have := (hbt k e2).2.1
          omega
      · intro e'
        have := e k e'
        simp at this
        omega
  · rintro ⟨c, ty, fz, e, hty⟩
    refine ⟨c, ty, fz, e, ?_⟩
    rcases hty with rfl | rfl | rfl | rfl | rfl <;> exact ⟨by decide, by decide, by decide⟩

end Go.Proofs.YtlehlgipbhfioaaGreat
