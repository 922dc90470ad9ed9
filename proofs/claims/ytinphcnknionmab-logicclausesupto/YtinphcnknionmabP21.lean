/- LogicClauses, plainly: what the clauses of a formula say. The document's search (chapter 6), plainly. LogicClauses, plainly: how many variables and clauses. -/
import Derived.Test.YtinphcnknionmabP20
namespace Go.Proofs.Ytinphcnknionmab.Cn

/-- A literal's value. -/
def lit (σ : Nat → Bool) (x : Int) : Bool := if x < 0 then !σ x.natAbs else σ x.natAbs
theorem lit_neg (σ : Nat → Bool) {x : Int} (h : x ≠ 0) : lit σ (-x) = !lit σ x := by
  unfold lit
  by_cases h1 : x < 0
  · rw [if_pos h1, if_neg (by omega)]
    simp
  · rw [if_neg h1, if_pos (by omega)]
    simp
def Tru (σ : Nat → Bool) (c : List Int) : Prop := ∃ x ∈ c, lit σ x = true
def Sat (σ : Nat → Bool) (cs : List (List Int)) : Prop := ∀ c ∈ cs, Tru σ c

/-- A formula's truth, by the values of its equalities. -/
def trF (τ : Int × Int → Bool) : Fo → Bool
  | .mk 0 x y _ => τ (x, y)
  | .mk _ _ _ [k] => !trF τ k
  | .mk o _ _ [a, b] => if o = 2 then trF τ a && trF τ b else if o = 3 then trF τ a || trF τ b else !trF τ a || trF τ b
  | _ => false

theorem trF_congr {τ τ' : Int × Int → Bool} {f : Fo} (hw : WfF f) : (∀ p ∈ eqF f, τ p = τ' p) → trF τ f = trF τ' f := by
  induction hw with
  | eq x y => intro h; simp only [trF]; exact h _ (by simp [eqF])
  | neg f hf ih =>
    intro h
    have := ih (fun p hp => h p (by simp [eqF]; exact hp))
    simp [trF, this]
  | two o f g ho hf hg ih1 ih2 =>
    intro h
    have h0 : ¬ o = 0 := by rcases ho with rfl | rfl | rfl <;> decide
    have e1 := ih1 (fun p hp => h p (by simp [eqF, h0]; exact Or.inl hp))
    have e2 := ih2 (fun p hp => h p (by simp [eqF, h0]; exact Or.inr hp))
    rcases ho with rfl | rfl | rfl <;> simp [trF, e1, e2]

/-- A variable for both. -/
def both (p q : Int) (st : Nat × List (List Int)) : Int × (Nat × List (List Int)) :=
  (((st.1 + 1 : Nat) : Int), (st.1 + 1, st.2 ++ [[-((st.1 + 1 : Nat) : Int), p], [-((st.1 + 1 : Nat) : Int), q], [((st.1 + 1 : Nat) : Int), -p, -q]]))
/-- The literal of a formula. -/
def tse (an : Int × Int → Nat) : Fo → Nat × List (List Int) → Int × (Nat × List (List Int))
  | .mk 0 x y _, st => ((an (x, y) : Int), st)
  | .mk _ _ _ [k], st => (-(tse an k st).1, (tse an k st).2)
  | .mk o _ _ [a, b], st =>
    if o = 2 then both (tse an a st).1 (tse an b (tse an a st).2).1 (tse an b (tse an a st).2).2
    else if o = 3 then (-(both (-(tse an a st).1) (-(tse an b (tse an a st).2).1) (tse an b (tse an a st).2).2).1, (both (-(tse an a st).1) (-(tse an b (tse an a st).2).1) (tse an b (tse an a st).2).2).2)
    else (-(both (tse an a st).1 (-(tse an b (tse an a st).2).1) (tse an b (tse an a st).2).2).1, (both (tse an a st).1 (-(tse an b (tse an a st).2).1) (tse an b (tse an a st).2).2).2)
  | _, st => (0, st)

/-- A literal of one of the first n variables. -/
def LitLe (n : Nat) (x : Int) : Prop := x ≠ 0 ∧ x.natAbs ≤ n
def Agree (n : Nat) (σ σ' : Nat → Bool) : Prop := ∀ v, v ≤ n → σ' v = σ v
theorem Agree.lit {n : Nat} {σ σ' : Nat → Bool} (h : Agree n σ σ') {x : Int} (hx : x.natAbs ≤ n) : lit σ' x = lit σ x := by
  unfold Cn.lit
  rw [h _ hx]

/-- What a literal and the clauses behind it keep to: news are the clauses that came. -/
structure Told (an : Int × Int → Nat) (f : Fo) (st : Nat × List (List Int)) (r : Int) (st' : Nat × List (List Int)) (news : List (List Int)) : Prop where
  cls : st'.2 = st.2 ++ news
  up : st.1 ≤ st'.1
  le : LitLe st'.1 r
  all : ∀ c ∈ news, ∀ x ∈ c, LitLe st'.1 x
  sound : ∀ σ, Sat σ news → lit σ r = trF (fun p => σ (an p)) f
  ex : ∀ σ, ∃ σ', Agree st.1 σ σ' ∧ Sat σ' news

theorem Sat.app {σ : Nat → Bool} {a b : List (List Int)} : Sat σ (a ++ b) ↔ Sat σ a ∧ Sat σ b := by
  unfold Sat
  constructor
  · intro h
    exact ⟨fun c hc => h c (by simp [hc]), fun c hc => h c (by simp [hc])⟩
  · rintro ⟨h1, h2⟩ c hc
    rcases List.mem_append.1 hc with hc | hc
    · exact h1 c hc
    · exact h2 c hc
theorem Sat.agree {n : Nat} {σ σ' : Nat → Bool} (h : Agree n σ σ') {cs : List (List Int)} (hl : ∀ c ∈ cs, ∀ x ∈ c, LitLe n x) (hs : Sat σ cs) : Sat σ' cs := by
  intro c hc
  obtain ⟨x, hx, hx2⟩ := hs c hc
  exact ⟨x, hx, by rw [h.lit (hl c hc x hx).2]; exact hx2⟩

theorem both_sat (n : Nat) (p q : Int) (hp : LitLe n p) (hq : LitLe n q) (σ : Nat → Bool) : Sat σ [[-((n + 1 : Nat) : Int), p], [-((n + 1 : Nat) : Int), q], [((n + 1 : Nat) : Int), -p, -q]] ↔ σ (n + 1) = (lit σ p && lit σ q) := by
  have e1 : lit σ ((n + 1 : Nat) : Int) = σ (n + 1) := by unfold lit; rw [if_neg (by omega)]; congr 1
  have e2 : lit σ (-((n + 1 : Nat) : Int)) = !σ (n + 1) := by rw [lit_neg σ (by omega), e1]
  have e3 := lit_neg σ hp.1
  have e4 := lit_neg σ hq.1
  simp only [Sat, Tru, List.mem_cons, List.not_mem_nil, or_false, forall_eq_or_imp, forall_eq, exists_eq_or_imp, exists_eq_left, e1, e2, e3, e4]
  cases σ (n + 1) <;> cases lit σ p <;> cases lit σ q <;> simp

/-- Two that are told, and both. -/
theorem Told.both {an : Int × Int → Nat} {f g : Fo} {st s1 s2 : Nat × List (List Int)} {r1 r2 : Int} {n1 n2 : List (List Int)} (h1 : Told an f st r1 s1 n1) (h2 : Told an g s1 r2 s2 n2) (e1 e2 : Bool) :
    let p := if e1 then -r1 else r1
    let q := if e2 then -r2 else r2
    ∃ news, (both p q s2).2.2 = st.2 ++ news ∧ st.1 ≤ (both p q s2).2.1 ∧ LitLe (both p q s2).2.1 (both p q s2).1 ∧ (∀ c ∈ news, ∀ x ∈ c, LitLe (both p q s2).2.1 x) ∧
      (∀ σ, Sat σ news → lit σ (both p q s2).1 = ((trF (fun p => σ (an p)) f != e1) && (trF (fun p => σ (an p)) g != e2))) ∧ (∀ σ, ∃ σ', Agree st.1 σ σ' ∧ Sat σ' news) := by
  intro p q
  have hp : LitLe s2.1 p := by
    have a := h1.le
    have b := h2.up
    show LitLe s2.1 (if e1 then -r1 else r1)
    cases e1 <;> simp [LitLe] <;> exact ⟨a.1, by have := a.2; omega⟩
  have hq : LitLe s2.1 q := by
    have a := h2.le
    show LitLe s2.1 (if e2 then -r2 else r2)
    cases e2 <;> simp [LitLe] <;> exact ⟨a.1, a.2⟩
  have lp : ∀ σ, lit σ p = (lit σ r1 != e1) := fun σ => by
    show lit σ (if e1 then -r1 else r1) = _
    cases e1
    · simp
    · simp [lit_neg σ h1.le.1]
  have lq : ∀ σ, lit σ q = (lit σ r2 != e2) := fun σ => by
    show lit σ (if e2 then -r2 else r2) = _
    cases e2
    · simp
    · simp [lit_neg σ h2.le.1]
  have hb : ∀ σ, lit σ (Cn.both p q s2).1 = σ (s2.1 + 1) := fun σ => by
    show lit σ ((s2.1 + 1 : Nat) : Int) = _
    unfold lit
    rw [if_neg (by omega)]
    congr 1
  refine ⟨n1 ++ n2 ++ [[-((s2.1 + 1 : Nat) : Int), p], [-((s2.1 + 1 : Nat) : Int), q], [((s2.1 + 1 : Nat) : Int), -p, -q]], ?_, ?_, ?_, ?_, ?_, ?_⟩
  · show s2.2 ++ _ = _
    rw [h2.cls, h1.cls]
    simp
  · show st.1 ≤ s2.1 + 1
    have := h1.up
    have := h2.up
    omega
  · show LitLe (s2.1 + 1) ((s2.1 + 1 : Nat) : Int)
    exact ⟨by omega, by omega⟩
  · show ∀ c ∈ _, ∀ x ∈ c, LitLe (s2.1 + 1) x
    have hu := h2.up
    intro c hc x hx
    rcases List.mem_append.1 hc with hc | hc
    · rcases List.mem_append.1 hc with hc | hc
      · have := h1.all c hc x hx
        exact ⟨this.1, by have := this.2; omega⟩
      · have := h2.all c hc x hx
        exact ⟨this.1, by have := this.2; omega⟩
    · have a := hp.1
      have b := hp.2
      have a' := hq.1
      have b' := hq.2
      simp at hc
      rcases hc with rfl | rfl | rfl <;> simp at hx
      · rcases hx with rfl | rfl
        · exact ⟨by omega, by omega⟩
        · exact ⟨a, by omega⟩
      · rcases hx with rfl | rfl
        · exact ⟨by omega, by omega⟩
        · exact ⟨a', by omega⟩
      · rcases hx with rfl | rfl | rfl
        · exact ⟨by omega, by omega⟩
        · exact ⟨by omega, by omega⟩
        · exact ⟨by omega, by omega⟩
  · intro σ hs
    obtain ⟨hs1, hs3⟩ := Sat.app.1 hs
    obtain ⟨hs1, hs2⟩ := Sat.app.1 hs1
    rw [hb, (both_sat s2.1 p q hp hq σ).1 hs3, lp, lq, h1.sound σ hs1, h2.sound σ hs2]
  · intro σ
    obtain ⟨σ1, a1, b1⟩ := h1.ex σ
    obtain ⟨σ2, a2, b2⟩ := h2.ex σ1
    refine ⟨fun v => if v = s2.1 + 1 then (lit σ2 p && lit σ2 q) else σ2 v, ?_, ?_⟩
    · intro v hv
      have := h1.up
      have := h2.up
      show (if v = s2.1 + 1 then (lit σ2 p && lit σ2 q) else σ2 v) = σ v
      rw [if_neg (by omega), a2 v (by omega), a1 v hv]
    · have ag : Agree s2.1 σ2 (fun v => if v = s2.1 + 1 then (lit σ2 p && lit σ2 q) else σ2 v) := fun v hv => if_neg (by omega)
      refine Sat.app.2 ⟨Sat.app.2 ⟨?_, Sat.agree ag h2.all b2⟩, ?_⟩
      · refine Sat.agree (n := s1.1) (fun v hv => ?_) h1.all b1
        have := h2.up
        show (if v = s2.1 + 1 then (lit σ2 p && lit σ2 q) else σ2 v) = σ1 v
        rw [if_neg (by omega), a2 v hv]
      · rw [both_sat s2.1 p q hp hq, ag.lit hp.2, ag.lit hq.2]
        simp

/-- Of every formula. -/
theorem tse_told (an : Int × Int → Nat) {f : Fo} (hw : WfF f) : ∀ st : Nat × List (List Int), (∀ p ∈ eqF f, 1 ≤ an p ∧ an p ≤ st.1) → ∃ news, Told an f st (tse an f st).1 (tse an f st).2 news := by
  induction hw with
  | eq x y =>
    intro st h
    obtain ⟨h1, h2⟩ := h (x, y) (by simp [eqF])
    refine ⟨[], ⟨by simp [tse], by simp [tse], ⟨by simp [tse]; omega, by simp [tse]; omega⟩, by simp, fun σ _ => ?_, fun σ => ⟨σ, fun _ _ => rfl, fun c hc => by cases hc⟩⟩⟩
    simp only [tse, trF, lit]
    rw [if_neg (by omega)]
    congr 1
  | neg f hf ih =>
    intro st h
    obtain ⟨news, T⟩ := ih st (fun p hp => h p (by simp [eqF]; exact hp))
    have e : tse an (.mk 1 0 0 [f]) st = (-(tse an f st).1, (tse an f st).2) := by rw [tse]; simp
    rw [e]
    refine ⟨news, ⟨T.cls, T.up, ⟨by have := T.le.1; simp; omega, by have := T.le.2; simp; omega⟩, T.all, fun σ hs => ?_, T.ex⟩⟩
    have e2 : trF (fun p => σ (an p)) (.mk 1 0 0 [f]) = !trF (fun p => σ (an p)) f := by rw [trF]; simp
    rw [e2, lit_neg σ T.le.1, T.sound σ hs]
  | two o f g ho hf hg ih1 ih2 =>
    intro st h
    have h0 : ¬ o = 0 := by rcases ho with rfl | rfl | rfl <;> decide
    have hf' : ∀ p ∈ eqF f, 1 ≤ an p ∧ an p ≤ st.1 := fun p hp => h p (by simp [eqF, h0]; exact Or.inl hp)
    obtain ⟨n1, T1⟩ := ih1 st hf'
    obtain ⟨n2, T2⟩ := ih2 (tse an f st).2 (fun p hp => by
      have := h p (by simp [eqF, h0]; exact Or.inr hp)
      have := T1.up
      omega)
    rcases ho with rfl | rfl | rfl
    · obtain ⟨news, b1, b2, b3, b4, b5, b6⟩ := Told.both T1 T2 false false
      simp only [Bool.false_eq_true, if_false] at b1 b2 b3 b4 b5
      have e : tse an (.mk 2 0 0 [f, g]) st = both (tse an f st).1 (tse an g (tse an f st).2).1 (tse an g (tse an f st).2).2 := by rw [tse] <;> simp
      rw [e]
      refine ⟨news, ⟨b1, b2, b3, b4, fun σ hs => ?_, b6⟩⟩
      rw [b5 σ hs, trF]
      · simp
      · intro x; cases x
    · obtain ⟨news, b1, b2, b3, b4, b5, b6⟩ := Told.both T1 T2 true true
      simp only [if_true] at b1 b2 b3 b4 b5
      have e : tse an (.mk 3 0 0 [f, g]) st = (-(both (-(tse an f st).1) (-(tse an g (tse an f st).2).1) (tse an g (tse an f st).2).2).1, (both (-(tse an f st).1) (-(tse an g (tse an f st).2).1) (tse an g (tse an f st).2).2).2) := by rw [tse] <;> simp
      rw [e]
      refine ⟨news, ⟨b1, b2, ⟨by have := b3.1; simp; omega, by have := b3.2; simp; omega⟩, b4, fun σ hs => ?_, b6⟩⟩
      rw [lit_neg σ b3.1, b5 σ hs, trF]
      · simp
      · intro x; cases x
    · obtain ⟨news, b1, b2, b3, b4, b5, b6⟩ := Told.both T1 T2 false true
      simp only [Bool.false_eq_true, if_false, if_true] at b1 b2 b3 b4 b5
      have e : tse an (.mk 4 0 0 [f, g]) st = (-(both (tse an f st).1 (-(tse an g (tse an f st).2).1) (tse an g (tse an f st).2).2).1, (both (tse an f st).1 (-(tse an g (tse an f st).2).1) (tse an g (tse an f st).2).2).2) := by rw [tse] <;> simp
      rw [e]
      refine ⟨news, ⟨b1, b2, ⟨by have := b3.1; simp; omega, by have := b3.2; simp; omega⟩, b4, fun σ hs => ?_, b6⟩⟩
      rw [lit_neg σ b3.1, b5 σ hs, trF]
      · simp
      · intro x; cases x

/-- The theorem of clauses: they can be true, with these values of the equalities, just if the formula is. -/
theorem tse_sat (an : Int × Int → Nat) {f : Fo} (hw : WfF f) (n : Nat) (h : ∀ p ∈ eqF f, 1 ≤ an p ∧ an p ≤ n) (τ : Nat → Bool) :
    (∃ σ, Agree n τ σ ∧ Sat σ ((tse an f (n, [])).2.2 ++ [[(tse an f (n, [])).1]])) ↔ trF (fun p => τ (an p)) f = true := by
  obtain ⟨news, T⟩ := tse_told an hw (n, []) h
  have hc : (tse an f (n, [])).2.2 = news := by rw [T.cls]; rfl
  have same : ∀ σ, Agree n τ σ → trF (fun p => σ (an p)) f = trF (fun p => τ (an p)) f := fun σ hA => trF_congr hw (fun p hp => hA _ (h p hp).2)
  rw [hc]
  constructor
  · rintro ⟨σ, hA, hs⟩
    obtain ⟨h1, h2⟩ := Sat.app.1 hs
    obtain ⟨x, hx, hx2⟩ := h2 _ (List.mem_singleton.2 rfl)
    obtain rfl := List.mem_singleton.1 hx
    rw [← same σ hA, ← T.sound σ h1]
    exact hx2
  · intro ht
    obtain ⟨σ, hA, hs⟩ := T.ex τ
    refine ⟨σ, hA, Sat.app.2 ⟨hs, fun c hc => ?_⟩⟩
    obtain rfl := List.mem_singleton.1 hc
    exact ⟨_, List.mem_singleton.2 rfl, by rw [T.sound σ hs, same σ hA]; exact ht⟩

end Go.Proofs.Ytinphcnknionmab.Cn

namespace Go.Proofs.Ytinphcnknionmab.Cn

/-- A literal's value: 0 none yet, 1 true, -1 false. -/
def hold (vs : List Int) (x : Int) : Int := if x < 0 then -(vs[x.natAbs]?.getD 0) else vs[x.natAbs]?.getD 0
/-- These values are kept to. -/
def Ext (vs : List Int) (σ : Nat → Bool) : Prop := ∀ v : Nat, (vs[v]?.getD 0 = 1 → σ v = true) ∧ (vs[v]?.getD 0 = -1 → σ v = false)
/-- Values are 0, 1, -1. -/
def Tri (vs : List Int) : Prop := ∀ v : Nat, vs[v]?.getD 0 = 0 ∨ vs[v]?.getD 0 = 1 ∨ vs[v]?.getD 0 = -1

theorem hold_tri {vs : List Int} (h : Tri vs) (x : Int) : hold vs x = 0 ∨ hold vs x = 1 ∨ hold vs x = -1 := by
  unfold hold
  have := h x.natAbs
  split <;> omega
theorem hold_true {vs : List Int} {σ : Nat → Bool} (h : Ext vs σ) {x : Int} (hx : hold vs x = 1) : lit σ x = true := by
  unfold hold at hx
  unfold lit
  split at hx
  · next h0 => rw [if_pos h0, (h x.natAbs).2 (by omega)]; rfl
  · next h0 => rw [if_neg h0, (h x.natAbs).1 hx]
theorem hold_false {vs : List Int} {σ : Nat → Bool} (h : Ext vs σ) {x : Int} (hx : hold vs x = -1) : lit σ x = false := by
  unfold hold at hx
  unfold lit
  split at hx
  · next h0 => rw [if_pos h0, (h x.natAbs).1 (by omega)]; rfl
  · next h0 => rw [if_neg h0, (h x.natAbs).2 hx]

/-- A clause is looked through: the open literal, how often it was another one, and whether one is true. -/
def scan (vs : List Int) : List Int → Int → Nat → Int × Nat × Bool
  | [], o, n => (o, n, false)
  | x :: xs, o, n => if hold vs x = 1 then (o, n, true) else if hold vs x = 0 ∧ x ≠ o then scan vs xs x (n + 1) else scan vs xs o n
def forc (vs : List Int) : List (List Int) → Int × Bool
  | [] => (0, true)
  | c :: cs => if (scan vs c 0 0).2.2 = false ∧ (scan vs c 0 0).2.1 = 0 then (0, false) else if (scan vs c 0 0).2.2 = false ∧ (scan vs c 0 0).2.1 = 1 then ((scan vs c 0 0).1, true) else forc vs cs

theorem scan_done {vs : List Int} : ∀ {c : List Int} {o : Int} {n : Nat}, (scan vs c o n).2.2 = true → ∃ x ∈ c, hold vs x = 1
  | [], o, n, h => by cases h
  | x :: xs, o, n, h => by
    rw [scan] at h
    split at h
    · next h1 => exact ⟨x, by simp, h1⟩
    · split at h
      · obtain ⟨y, hy, hy2⟩ := scan_done h
        exact ⟨y, by simp [hy], hy2⟩
      · obtain ⟨y, hy, hy2⟩ := scan_done h
        exact ⟨y, by simp [hy], hy2⟩
theorem scan_not {vs : List Int} : ∀ {c : List Int} {o : Int} {n : Nat}, (scan vs c o n).2.2 = false → (∀ x ∈ c, hold vs x ≠ 1) ∧ n ≤ (scan vs c o n).2.1 ∧
    ((scan vs c o n).2.1 = n → (scan vs c o n).1 = o ∧ ∀ x ∈ c, hold vs x = 0 → x = o) ∧
    ((scan vs c o n).2.1 = n + 1 → (scan vs c o n).1 ∈ c ∧ hold vs (scan vs c o n).1 = 0 ∧ ∀ x ∈ c, hold vs x = 0 → x = o ∨ x = (scan vs c o n).1)
  | [], o, n, h => by
    simp [scan]
  | x :: xs, o, n, h => by
    rw [scan] at h ⊢
    split at h
    · cases h
    · next h1 =>
      rw [if_neg h1]
      split at h
      · next h2 =>
        rw [if_pos h2]
        obtain ⟨a1, a2, a3, a4⟩ := scan_not h
        refine ⟨fun y hy => ?_, by omega, fun e => by omega, fun e => ?_⟩
        · rcases List.mem_cons.1 hy with rfl | hy
          · exact h1
          · exact a1 y hy
        · obtain ⟨b1, b2⟩ := a3 e
          rw [b1]
          refine ⟨by simp, h2.1, fun y hy hy0 => ?_⟩
          rcases List.mem_cons.1 hy with rfl | hy
          · exact Or.inr rfl
          · exact Or.inr (b2 y hy hy0)
      · next h2 =>
        rw [if_neg h2]
        obtain ⟨a1, a2, a3, a4⟩ := scan_not h
        have hx : hold vs x = 0 → x = o := fun h0 => Decidable.byContradiction fun hn => h2 ⟨h0, hn⟩
        refine ⟨fun y hy => ?_, a2, fun e => ?_, fun e => ?_⟩
        · rcases List.mem_cons.1 hy with rfl | hy
          · exact h1
          · exact a1 y hy
        · obtain ⟨b1, b2⟩ := a3 e
          refine ⟨b1, fun y hy hy0 => ?_⟩
          rcases List.mem_cons.1 hy with rfl | hy
          · exact hx hy0
          · exact b2 y hy hy0
        · obtain ⟨b1, b2, b3⟩ := a4 e
          refine ⟨by simp [b1], b2, fun y hy hy0 => ?_⟩
          rcases List.mem_cons.1 hy with rfl | hy
          · exact Or.inl (hx hy0)
          · exact b3 y hy hy0

theorem scan_shut {vs : List Int} : ∀ {c : List Int} {o : Int} {n : Nat}, (∀ x ∈ c, hold vs x ≠ 0) → (scan vs c o n).2.1 = n
  | [], o, n, h => rfl
  | x :: xs, o, n, h => by
    rw [scan]
    split
    · rfl
    · rw [if_neg (fun e => h x (by simp) e.1)]
      exact scan_shut (fun y hy => h y (by simp [hy]))

def Nz (cs : List (List Int)) : Prop := ∀ c ∈ cs, ∀ x ∈ c, x ≠ 0

/-- A clause is false. -/
theorem forc_no {vs : List Int} (hv : Tri vs) {cs : List (List Int)} (hz : Nz cs) {x : Int} (h : forc vs cs = (x, false)) (σ : Nat → Bool) (he : Ext vs σ) : ¬ Sat σ cs := by
  induction cs with
  | nil => cases h
  | cons c cs ih =>
    intro hs
    rw [forc] at h
    split at h
    · next h1 =>
      obtain ⟨a1, _, a3, _⟩ := scan_not h1.1
      obtain ⟨y, hy, hy2⟩ := hs c (by simp)
      rcases hold_tri hv y with e | e | e
      · exact hz c (by simp) y hy ((a3 h1.2).2 y hy e)
      · exact a1 y hy e
      · rw [hold_false he e] at hy2; cases hy2
    · split at h
      · cases h
      · exact ih (fun c hc => hz c (by simp [hc])) h (fun c hc => hs c (by simp [hc]))
/-- A literal is forced. -/
theorem forc_yes {vs : List Int} (hv : Tri vs) {cs : List (List Int)} (hz : Nz cs) {x : Int} (h0 : x ≠ 0) (h : forc vs cs = (x, true)) : (∃ c ∈ cs, x ∈ c) ∧ hold vs x = 0 ∧ ∀ σ, Ext vs σ → Sat σ cs → lit σ x = true := by
  induction cs with
  | nil => rw [forc] at h; injection h with h _; exact absurd h.symm h0
  | cons c cs ih =>
    rw [forc] at h
    split at h
    · injection h with _ h; cases h
    · split at h
      · next h1 =>
        injection h with h _
        subst h
        obtain ⟨a1, _, _, a4⟩ := scan_not h1.1
        obtain ⟨b1, b2, b3⟩ := a4 h1.2
        refine ⟨⟨c, by simp, b1⟩, b2, fun σ he hs => ?_⟩
        obtain ⟨y, hy, hy2⟩ := hs c (by simp)
        rcases hold_tri hv y with e | e | e
        · rcases b3 y hy e with e2 | e2
          · exact absurd e2 (hz c (by simp) y hy)
          · rw [← e2]; exact hy2
        · exact absurd e (a1 y hy)
        · rw [hold_false he e] at hy2; cases hy2
      · obtain ⟨⟨c', hc', hx⟩, b2, b3⟩ := ih (fun c hc => hz c (by simp [hc])) h
        exact ⟨⟨c', by simp [hc'], hx⟩, b2, fun σ he hs => b3 σ he (fun c hc => hs c (by simp [hc]))⟩
/-- None is forced, and all have values: all clauses are true. -/
theorem forc_all {vs : List Int} {cs : List (List Int)} (hz : Nz cs) (h : forc vs cs = (0, true)) (hf : ∀ c ∈ cs, ∀ x ∈ c, hold vs x ≠ 0) (σ : Nat → Bool) (he : Ext vs σ) : Sat σ cs := by
  induction cs with
  | nil => intro c hc; cases hc
  | cons c cs ih =>
    rw [forc] at h
    split at h
    · injection h with _ h; cases h
    · next h1 =>
      split at h
      · next h2 =>
        obtain ⟨a1, _, _, a4⟩ := scan_not h2.1
        obtain ⟨b1, b2, _⟩ := a4 h2.2
        exact absurd b2 (hf c (by simp) _ b1)
      · next h2 =>
        intro c' hc'
        rcases List.mem_cons.1 hc' with rfl | hc'
        · cases hd : (scan vs c' 0 0).2.2 with
          | true =>
            obtain ⟨x, hx, hx2⟩ := scan_done hd
            exact ⟨x, hx, hold_true he hx2⟩
          | false =>
            have hn : (scan vs c' 0 0).2.1 = 0 := scan_shut (fun x hx => hf c' (by simp) x hx)
            exact absurd ⟨hd, hn⟩ h1
        · exact ih (fun c hc => hz c (by simp [hc])) h (fun c hc => hf c (by simp [hc])) c' hc'

/-- A value is set. -/
theorem set_ext {vs : List Int} {v : Nat} (hv : v < vs.length) (h0 : vs[v]?.getD 0 = 0) (b : Bool) (σ : Nat → Bool) : Ext (vs.set v (if b then 1 else -1)) σ ↔ Ext vs σ ∧ σ v = b := by
  have hs : ∀ u : Nat, (vs.set v (if b then 1 else -1))[u]?.getD 0 = if u = v then (if b then 1 else -1) else vs[u]?.getD 0 := fun u => by
    by_cases e : u = v
    · subst e
      simp [hv]
    · rw [if_neg e, List.getElem?_set_ne (fun x => e x.symm)]
  constructor
  · intro h
    refine ⟨fun u => ?_, ?_⟩
    · by_cases e : u = v
      · subst e
        rw [h0]
        exact ⟨fun x => by omega, fun x => by omega⟩
      · have := h u
        rw [hs, if_neg e] at this
        exact this
    · have := h v
      rw [hs, if_pos rfl] at this
      cases b
      · exact this.2 rfl
      · exact this.1 rfl
  · rintro ⟨h, hb⟩ u
    rw [hs]
    by_cases e : u = v
    · subst e
      rw [if_pos rfl, hb]
      cases b <;> simp
    · rw [if_neg e]
      exact h u
theorem set_tri {vs : List Int} (h : Tri vs) (v : Nat) (b : Bool) : Tri (vs.set v (if b then 1 else -1)) := fun u => by
  by_cases e : v = u
  · subst e
    by_cases hl : v < vs.length
    · simp [hl]
    · rw [List.set_eq_of_length_le (by omega)]
      exact h v
  · rw [List.getElem?_set_ne e]
    exact h u

/-- How many have no value yet. -/
def zs (vs : List Int) : Nat := vs.count 0

theorem zs_set {vs : List Int} {v : Nat} (hv : v < vs.length) (h0 : vs[v]?.getD 0 = 0) (b : Bool) : zs (vs.set v (if b then 1 else -1)) + 1 = zs vs := by
  have h1 : vs[v] = 0 := by simpa [hv] using h0
  unfold zs
  rw [List.count_set hv]
  have h2 : 0 < vs.count 0 := List.count_pos_iff.2 (h1 ▸ List.getElem_mem hv)
  cases b <;> simp [h1] <;> omega

/-- Literals of the values' variables. -/
def InV (n : Nat) (cs : List (List Int)) : Prop := ∀ c ∈ cs, ∀ x ∈ c, x ≠ 0 ∧ x.natAbs < n

/-- What is forced is set, one by one. -/
def prop (cs : List (List Int)) : Nat → List Int → Option (List Int)
  | 0, _ => none
  | f + 1, vs => if (forc vs cs).2 = false then none else if (forc vs cs).1 = 0 then some vs else prop cs f (vs.set (forc vs cs).1.natAbs (if decide (0 < (forc vs cs).1) then 1 else -1))

theorem hold_zero {vs : List Int} {x : Int} (h : hold vs x = 0) : vs[x.natAbs]?.getD 0 = 0 := by
  unfold hold at h
  split at h <;> omega
theorem lit_is {σ : Nat → Bool} {x : Int} (h0 : x ≠ 0) : lit σ x = true ↔ σ x.natAbs = decide (0 < x) := by
  unfold lit
  by_cases h : x < 0
  · rw [if_pos h, decide_eq_false (by omega)]
    simp
  · rw [if_neg h, decide_eq_true (by omega)]

theorem prop_told {cs : List (List Int)} : ∀ (f : Nat) (vs : List Int), Tri vs → InV vs.length cs → zs vs < f → match prop cs f vs with
    | none => ∀ σ, Ext vs σ → ¬ Sat σ cs
    | some us => (∀ σ, Sat σ cs → (Ext vs σ ↔ Ext us σ)) ∧ forc us cs = (0, true) ∧ Tri us ∧ zs us ≤ zs vs ∧ us.length = vs.length
  | 0, _, _, _, h => absurd h (by omega)
  | f + 1, vs, ht, hi, hf => by
    have hz : Nz cs := fun c hc x hx => (hi c hc x hx).1
    rw [prop]
    cases hc : forc vs cs with
    | mk x b =>
      cases b with
      | false =>
        simp only [if_true]
        exact fun σ he => forc_no ht hz hc σ he
      | true =>
        simp only [Bool.true_eq_false, if_false]
        by_cases h0 : x = 0
        · subst h0
          rw [if_pos rfl]
          exact ⟨fun σ _ => Iff.rfl, hc, ht, Nat.le_refl _, rfl⟩
        · rw [if_neg h0]
          obtain ⟨⟨c, hcc, hxc⟩, h1, h2⟩ := forc_yes ht hz h0 hc
          have hl := (hi c hcc x hxc).2
          have hv0 := hold_zero h1
          have hzs := zs_set hl hv0 (decide (0 < x))
          have R := prop_told f (vs.set x.natAbs (if decide (0 < x) then 1 else -1)) (set_tri ht _ _) (by rw [List.length_set]; exact hi) (by omega)
          have hE := fun σ => set_ext hl hv0 (decide (0 < x)) σ
          revert R
          cases prop cs f (vs.set x.natAbs (if decide (0 < x) then 1 else -1)) with
          | none =>
            intro R σ he hs
            exact R σ ((hE σ).2 ⟨he, (lit_is h0).1 (h2 σ he hs)⟩) hs
          | some us =>
            rintro ⟨r1, r2, r3, r4, r5⟩
            refine ⟨fun σ hs => ?_, r2, r3, by omega, by rw [r5, List.length_set]⟩
            rw [← r1 σ hs, hE σ]
            exact ⟨fun he => ⟨he, (lit_is h0).1 (h2 σ he hs)⟩, fun h => h.1⟩

/-- The first that has no value, from v on. -/
def fst0 (vs : List Int) : Nat → Nat → Option Nat
  | 0, _ => none
  | f + 1, v => if v < vs.length then (if vs[v]?.getD 0 ≠ 0 then fst0 vs f (v + 1) else some v) else none
theorem fst0_some {vs : List Int} : ∀ {f v u : Nat}, fst0 vs f v = some u → v ≤ u ∧ u < vs.length ∧ vs[u]?.getD 0 = 0
  | 0, v, u, h => by cases h
  | f + 1, v, u, h => by
    rw [fst0] at h
    split at h
    · next h1 =>
      split at h
      · have := fst0_some h
        exact ⟨by omega, this.2⟩
      · next h2 =>
        injection h with h
        subst h
        exact ⟨Nat.le_refl _, h1, Decidable.not_not.1 h2⟩
    · cases h
theorem fst0_none {vs : List Int} : ∀ {f v : Nat}, vs.length ≤ v + f → fst0 vs f v = none → ∀ u, v ≤ u → u < vs.length → vs[u]?.getD 0 ≠ 0
  | 0, v, hf, h, u, h1, h2 => absurd h2 (by omega)
  | f + 1, v, hf, h, u, h1, h2 => by
    rw [fst0] at h
    rw [if_pos (by omega)] at h
    split at h
    · next h3 =>
      by_cases e : u = v
      · subst e; exact h3
      · exact fst0_none (by omega) h u (by omega) h2
    · cases h

/-- Search: can the values be filled up? -/
def srch (cs : List (List Int)) : Nat → List Int → Bool
  | 0, _ => false
  | f + 1, vs => match prop cs (zs vs + 1) vs with
    | none => false
    | some us => match fst0 us us.length 1 with
      | none => true
      | some v => srch cs f (us.set v 1) || srch cs f (us.set v (-1))

theorem hold_set {vs : List Int} {x : Int} (h : vs[x.natAbs]?.getD 0 ≠ 0) : hold vs x ≠ 0 := by
  unfold hold
  split <;> omega

theorem ext_any (vs : List Int) : ∃ σ, Ext vs σ := ⟨fun v => decide (vs[v]?.getD 0 = 1), fun v => ⟨fun h => decide_eq_true h, fun h => decide_eq_false (by omega)⟩⟩

theorem srch_told {cs : List (List Int)} : ∀ (f : Nat) (vs : List Int), Tri vs → InV vs.length cs → zs vs < f → (srch cs f vs = true ↔ ∃ σ, Ext vs σ ∧ Sat σ cs)
  | 0, _, _, _, h => absurd h (by omega)
  | f + 1, vs, ht, hi, hf => by
    have P := prop_told (cs := cs) (zs vs + 1) vs ht hi (by omega)
    rw [srch]
    revert P
    cases prop cs (zs vs + 1) vs with
    | none =>
      intro P
      simp only [Bool.false_eq_true, false_iff]
      rintro ⟨σ, h1, h2⟩
      exact P σ h1 h2
    | some us =>
      rintro ⟨r1, r2, r3, r4, r5⟩
      simp only
      cases hz : fst0 us us.length 1 with
      | none =>
        simp only [true_iff]
        have hall := fst0_none (by omega) hz
        obtain ⟨σ, hσ⟩ := ext_any us
        have hs : Sat σ cs := forc_all (fun c hc x hx => (hi c hc x hx).1) r2 (fun c hc x hx => hold_set (hall _ (by have := (hi c hc x hx).1; omega) (by rw [r5]; exact (hi c hc x hx).2))) σ hσ
        exact ⟨σ, (r1 σ hs).2 hσ, hs⟩
      | some v =>
        obtain ⟨h1, h2, h3⟩ := fst0_some hz
        have z1 := zs_set h2 h3 true
        have z2 := zs_set h2 h3 false
        have E1 := fun σ => set_ext h2 h3 true σ
        have E2 := fun σ => set_ext h2 h3 false σ
        have t1 := set_tri r3 v true
        have t2 := set_tri r3 v false
        simp only [if_true, Bool.false_eq_true, if_false] at z1 z2 E1 E2 t1 t2
        have R1 := srch_told f (us.set v 1) t1 (by rw [List.length_set, r5]; exact hi) (by omega)
        have R2 := srch_told f (us.set v (-1)) t2 (by rw [List.length_set, r5]; exact hi) (by omega)
        simp only [Bool.or_eq_true, R1, R2, E1, E2]
        constructor
        · rintro (⟨σ, ⟨a, _⟩, b⟩ | ⟨σ, ⟨a, _⟩, b⟩)
          · exact ⟨σ, (r1 σ b).2 a, b⟩
          · exact ⟨σ, (r1 σ b).2 a, b⟩
        · rintro ⟨σ, a, b⟩
          cases hb : σ v with
          | true => exact Or.inl ⟨σ, ⟨(r1 σ b).1 a, hb⟩, b⟩
          | false => exact Or.inr ⟨σ, ⟨(r1 σ b).1 a, hb⟩, b⟩

end Go.Proofs.Ytinphcnknionmab.Cn

namespace Go.Proofs.Ytinphcnknionmab.Cn

/-- Forms with two Kids. -/
def twos : Fo → Nat
  | .mk 0 _ _ _ => 0
  | .mk _ _ _ [k] => twos k
  | .mk _ _ _ [a, b] => twos a + twos b + 1
  | _ => 0
/-- Forms, and those that are no equality: the document's Count. -/
def cnt : Fo → Nat × Nat
  | .mk 0 _ _ _ => (1, 0)
  | .mk _ _ _ [k] => ((cnt k).1 + 1, (cnt k).2 + 1)
  | .mk _ _ _ [a, b] => ((cnt a).1 + (cnt b).1 + 1, (cnt a).2 + (cnt b).2 + 1)
  | _ => (1, 1)

theorem both_count (p q : Int) (st : Nat × List (List Int)) : (both p q st).2.1 = st.1 + 1 ∧ (both p q st).2.2.length = st.2.length + 3 := by simp [both]

theorem tse_count (an : Int × Int → Nat) {f : Fo} (hw : WfF f) : ∀ st : Nat × List (List Int), (tse an f st).2.1 = st.1 + twos f ∧ (tse an f st).2.2.length = st.2.length + 3 * twos f := by
  induction hw with
  | eq x y => intro st; simp [tse, twos]
  | neg f hf ih =>
    intro st
    have := ih st
    simp [tse, twos]
    exact this
  | two o f g ho hf hg ih1 ih2 =>
    intro st
    have a := ih1 st
    have b := ih2 (tse an f st).2
    have e : twos (.mk o 0 0 [f, g]) = twos f + twos g + 1 := by rcases ho with rfl | rfl | rfl <;> simp [twos]
    have key : ∀ p q, (both p q (tse an g (tse an f st).2).2).2.1 = st.1 + (twos f + twos g + 1) ∧ (both p q (tse an g (tse an f st).2).2).2.2.length = st.2.length + 3 * (twos f + twos g + 1) := fun p q => by
      obtain ⟨c1, c2⟩ := both_count p q (tse an g (tse an f st).2).2
      rw [c1, c2]
      omega
    rw [e]
    rcases ho with rfl | rfl | rfl
    · rw [show tse an (.mk 2 0 0 [f, g]) st = both (tse an f st).1 (tse an g (tse an f st).2).1 (tse an g (tse an f st).2).2 by rw [tse] <;> simp]
      exact key _ _
    · rw [show tse an (.mk 3 0 0 [f, g]) st = (-(both (-(tse an f st).1) (-(tse an g (tse an f st).2).1) (tse an g (tse an f st).2).2).1, (both (-(tse an f st).1) (-(tse an g (tse an f st).2).1) (tse an g (tse an f st).2).2).2) by rw [tse] <;> simp]
      exact key _ _
    · rw [show tse an (.mk 4 0 0 [f, g]) st = (-(both (tse an f st).1 (-(tse an g (tse an f st).2).1) (tse an g (tse an f st).2).2).1, (both (tse an f st).1 (-(tse an g (tse an f st).2).1) (tse an g (tse an f st).2).2).2) by rw [tse] <;> simp]
      exact key _ _

theorem cnt_told {f : Fo} (hw : WfF f) : (cnt f).1 = (eqF f).length + (cnt f).2 ∧ twos f ≤ (cnt f).2 := by
  induction hw with
  | eq x y => simp [cnt, eqF, twos]
  | neg f hf ih =>
    simp [cnt, eqF, twos]
    omega
  | two o f g ho hf hg ih1 ih2 =>
    rcases ho with rfl | rfl | rfl <;> simp [cnt, eqF, twos] <;> omega

end Go.Proofs.Ytinphcnknionmab.Cn
