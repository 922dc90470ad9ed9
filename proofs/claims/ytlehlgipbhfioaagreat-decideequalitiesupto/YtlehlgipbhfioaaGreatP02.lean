/- Package sat, plainly: following misses nothing. Package sat, plainly: clauses that are taken in; what Solve answers of units, and of clauses by which two opposites are forced. Package decide, plainly: links, and ways along them. Package decide, plainly: the steps of a proof force its goal. Package decide, plainly: path. Package decide, plainly: steps. -/
import Derived.Test.YtlehlgipbhfioaaGreatP01
namespace Go.Proofs.YtlehlgipbhfioaaGreat
open Go.RowKit Go.Maps

/-- What stays as it is, or grows, as values come. -/
structure Grow (s s' : Sv) : Prop where
  n : s'.n = s.n
  seen : s'.seen = s.seen
  starts : s'.starts = s.starts
  hp : s'.hp = s.hp
  fin : s'.fin = s.fin
  cl : s'.cl.length = s.cl.length
  lits : ∀ c x, x ∈ s'.lits c ↔ x ∈ s.lits c
  size : ∀ c, (s'.lits c).length = (s.lits c).length
  trail : ∃ t, s'.trail = s.trail ++ t
  yes : ∀ l, s.val l = 1 → s'.val l = 1
  no : ∀ l, s.val l = -1 → s'.val l = -1
theorem Grow.refl (s : Sv) : Grow s s := ⟨rfl, rfl, rfl, rfl, rfl, rfl, fun _ _ => Iff.rfl, fun _ => rfl, ⟨[], by simp⟩, fun _ h => h, fun _ h => h⟩
theorem Grow.trans {s s1 s2 : Sv} (h : Grow s s1) (k : Grow s1 s2) : Grow s s2 := by
  obtain ⟨t, ht⟩ := h.trail
  obtain ⟨u, hu⟩ := k.trail
  exact ⟨k.n.trans h.n, k.seen.trans h.seen, k.starts.trans h.starts, k.hp.trans h.hp, k.fin.trans h.fin, k.cl.trans h.cl, fun c x => (k.lits c x).trans (h.lits c x), fun c => (k.size c).trans (h.size c), ⟨t ++ u, by rw [hu, ht, List.append_assoc]⟩, fun l e => k.yes l (h.yes l e), fun l e => k.no l (h.no l e)⟩
theorem Grow.setW (s : Sv) (l : Nat) (X : List (Nat × Nat)) : Grow s (s.setW l X) := ⟨rfl, rfl, rfl, rfl, rfl, rfl, fun _ _ => Iff.rfl, fun _ => rfl, ⟨[], by simp [Sv.setW]⟩, fun _ h => h, fun _ h => h⟩
theorem Grow.ofSetW {s s' : Sv} {l : Nat} {X : List (Nat × Nat)} (h : Grow s (s'.setW l X)) : Grow s s' := ⟨h.n, h.seen, h.starts, h.hp, h.fin, h.cl, h.lits, h.size, h.trail, h.yes, h.no⟩
theorem Grow.assign {s : Sv} (h : Fit s) {l : Nat} (hl : l < 2 * s.n + 2) (h0 : s.val l = 0) : Grow s (s.assign l) := by
  have V := val_assign h hl
  have ho : s.val (opp l) = 0 := by rw [h.sgn l hl, h0]; rfl
  refine ⟨rfl, rfl, rfl, rfl, rfl, rfl, fun _ _ => Iff.rfl, fun _ => rfl, ⟨[l], rfl⟩, fun l' e => ?_, fun l' e => ?_⟩
  · rw [V]
    split
    · rfl
    · split
      · next e2 => rw [e2, ho] at e; cases e
      · exact e
  · rw [V]
    split
    · next e2 => rw [e2, h0] at e; cases e
    · split
      · rfl
      · exact e

/-- Each clause is watched by its first two literals; where one of these is false and was looked at (H), a literal is true. -/
structure Wi (s : Sv) (H : Nat → Nat → Prop) : Prop where
  wat : ∀ c a b rest, s.lits c = a :: b :: rest → (∃ o, (c, o) ∈ s.wat a) ∧ ∃ o, (c, o) ∈ s.wat b
  yes : ∀ c a b rest, s.lits c = a :: b :: rest → H c a ∨ H c b → ∃ l ∈ s.lits c, s.val l = 1

theorem Wi.mono {s : Sv} {H H' : Nat → Nat → Prop} (h : Wi s H) (hh : ∀ c l, H' c l → H c l) : Wi s H' :=
  ⟨h.wat, fun c a b rest e k => h.yes c a b rest e (k.imp (hh c a) (hh c b))⟩
theorem Wi.assign {s : Sv} {H : Nat → Nat → Prop} (h : Wi s H) (hF : Fit s) {l : Nat} (hl : l < 2 * s.n + 2) (h0 : s.val l = 0) : Wi (s.assign l) H :=
  ⟨h.wat, fun c a b rest e k => by
    obtain ⟨x, h1, h2⟩ := h.yes c a b rest e k
    exact ⟨x, h1, (Grow.assign hF hl h0).yes x h2⟩⟩

/-- One watch of a literal that is false is looked at. -/
theorem Wi.step {s : Sv} {gone c o : Nat} {stay rest : List (Nat × Nat)} {S : Nat → Prop} (hgw : gone < s.ws.length) (h : Fit (s.setW gone (stay ++ (c, o) :: rest))) (hg : s.val gone = -1)
    (hS : ∀ l, S l → s.val l = -1) (k : Wi (s.setW gone (stay ++ (c, o) :: rest)) (fun c' l => S l ∨ l = gone ∧ ∀ p ∈ (c, o) :: rest, p.1 ≠ c')) :
    Grow s (s.moves c gone).2 ∧ (∀ l, (s.moves c gone).2.val l = s.val l) ∧
    ((s.moves c gone).1 = true → Wi ((s.moves c gone).2.setW gone (stay ++ rest)) (fun c' l => S l ∨ l = gone ∧ ∀ p ∈ rest, p.1 ≠ c')) ∧
    ((s.moves c gone).1 = false → ∀ m0 r, (s.moves c gone).2.lits c = m0 :: r → Wi ((s.moves c gone).2.setW gone (stay ++ (c, m0) :: rest)) (fun c' l => c' ≠ c ∧ (S l ∨ l = gone ∧ ∀ p ∈ rest, p.1 ≠ c'))) := by
  have W := wat_setW hgw (stay ++ (c, o) :: rest)
  obtain ⟨hc, ho, a, b, r, hl, hgab⟩ := h.wat gone (c, o) (by rw [W, if_pos rfl]; simp)
  have hcn := h.cls c
  have hc : c < s.cl.length := hc
  have hl : s.lits c = a :: b :: r := hl
  have hcn : (s.lits c).Nodup ∧ ∀ l ∈ s.lits c, l < 2 * s.n + 2 := hcn
  rw [hl] at hcn
  have hkw := k.wat c a b r hl
  have hky := k.yes c a b r hl
  obtain ⟨m0, hm0, hcase⟩ := moves_cases hl hgab
  have hnd2 : (m0 :: gone :: r).Nodup := by
    rcases hm0 with ⟨rfl, rfl⟩ | ⟨rfl, rfl⟩
    · exact hcn.1
    · exact (List.Perm.swap _ _ _).nodup_iff.1 hcn.1
  have hmg : m0 ≠ gone := fun e => by simp [e] at hnd2
  have hperm : ∀ x, x ∈ m0 :: gone :: r ↔ x ∈ s.lits c := fun x => by
    rw [hl]
    rcases hm0 with ⟨rfl, rfl⟩ | ⟨rfl, rfl⟩
    · exact Iff.rfl
    · simp only [List.mem_cons]; exact ⟨fun h => by rcases h with h | h | h <;> simp [h], fun h => by rcases h with h | h | h <;> simp [h]⟩
  have hwm : ∃ o', (c, o') ∈ s.wat m0 := by
    have : ∃ o', (c, o') ∈ (s.setW gone (stay ++ (c, o) :: rest)).wat m0 := by
      rcases hm0 with ⟨rfl, _⟩ | ⟨rfl, _⟩
      · exact hkw.1
      · exact hkw.2
    rwa [W, if_neg hmg] at this
  have hym : S m0 → ∃ l ∈ s.lits c, s.val l = 1 := fun e => by
    rcases hm0 with ⟨rfl, _⟩ | ⟨rfl, _⟩
    · exact hky (Or.inl (Or.inl e))
    · exact hky (Or.inr (Or.inl e))
  have hoth : ∀ c' a', c' ≠ c → (∃ o', (c', o') ∈ (s.setW gone (stay ++ (c, o) :: rest)).wat a') → (a' = gone → ∃ o', (c', o') ∈ stay ++ rest) ∧ (a' ≠ gone → ∃ o', (c', o') ∈ s.wat a') := fun c' a' hne ⟨o', e⟩ => by
    rw [W] at e
    refine ⟨fun e2 => ⟨o', ?_⟩, fun e2 => ⟨o', by rwa [if_neg e2] at e⟩⟩
    rw [if_pos e2] at e
    rcases List.mem_append.1 e with e | e
    · simp [e]
    · rcases List.mem_cons.1 e with e | e
      · cases e; exact absurd rfl hne
      · simp [e]
  rcases hcase with ⟨hm, hv⟩ | ⟨j, li, hj, hli, hv, hm⟩
  · rw [hm]
    have L := lits_set hc (m0 :: gone :: r)
    have W2 := fun x => wat_setW (s := { s with cl := s.cl.set c (m0 :: gone :: r) }) hgw (stay ++ (c, x) :: rest)
    refine ⟨⟨rfl, rfl, rfl, rfl, rfl, by simp, fun c' x => ?_, fun c' => ?_, ⟨[], by simp⟩, fun _ h => h, fun _ h => h⟩, fun _ => rfl, fun e => (by cases e), fun _ m r' hmr => ?_⟩
    · show x ∈ ({ s with cl := s.cl.set c (m0 :: gone :: r) } : Sv).lits c' ↔ _
      rw [L]
      split
      · next e => rw [e]; exact hperm x
      · exact Iff.rfl
    · show (({ s with cl := s.cl.set c (m0 :: gone :: r) } : Sv).lits c').length = _
      rw [L]
      split
      · next e => rw [e, hl]; rfl
      · rfl
    · have hmr : ({ s with cl := s.cl.set c (m0 :: gone :: r) } : Sv).lits c = m :: r' := hmr
      rw [L, if_pos rfl] at hmr
      cases hmr
      refine ⟨fun c' a' b' r2 e => ?_, fun c' a' b' r2 e kk => ?_⟩
      · have e : ({ s with cl := s.cl.set c (m0 :: gone :: r) } : Sv).lits c' = a' :: b' :: r2 := e
        rw [L] at e
        rw [W2, W2]
        by_cases ec : c' = c
        · rw [if_pos ec] at e
          cases e
          subst ec
          rw [if_neg hmg, if_pos rfl]
          exact ⟨hwm, m0, by simp⟩
        · rw [if_neg ec] at e
          obtain ⟨h1, h2⟩ := k.wat c' a' b' r2 e
          constructor
          · obtain ⟨g1, g2⟩ := hoth c' a' ec h1
            split
            · next e2 => obtain ⟨o', x⟩ := g1 e2; exact ⟨o', by rcases List.mem_append.1 x with x | x <;> simp [x]⟩
            · next e2 => exact g2 e2
          · obtain ⟨g1, g2⟩ := hoth c' b' ec h2
            split
            · next e2 => obtain ⟨o', x⟩ := g1 e2; exact ⟨o', by rcases List.mem_append.1 x with x | x <;> simp [x]⟩
            · next e2 => exact g2 e2
      · have e : ({ s with cl := s.cl.set c (m0 :: gone :: r) } : Sv).lits c' = a' :: b' :: r2 := e
        have hne : c' ≠ c := by rcases kk with kk | kk <;> exact kk.1
        rw [L, if_neg hne] at e
        show ∃ l ∈ ({ s with cl := s.cl.set c (m0 :: gone :: r) } : Sv).lits c', _
        rw [L, if_neg hne]
        refine k.yes c' a' b' r2 e (kk.imp (fun kk => kk.2.imp (fun x => x) (fun x => ⟨x.1, fun p hp => ?_⟩)) (fun kk => kk.2.imp (fun x => x) (fun x => ⟨x.1, fun p hp => ?_⟩)))
        all_goals
          rcases List.mem_cons.1 hp with hp | hp
          · rw [hp]; exact fun e => hne e.symm
          · exact x.2 p hp
  · rw [hm]
    have hjr : li ∈ r := List.mem_of_getElem? hj
    obtain ⟨hjl, hje⟩ := List.getElem?_eq_some_iff.1 hj
    have hlg : li ≠ gone := fun e => hli (e ▸ hg)
    have hlm : li ≠ m0 := fun e => by subst e; simp [hjr] at hnd2
    have hlilt : li < 2 * s.n + 2 := hcn.2 li (by simp [hjr])
    have L := lits_set hc (m0 :: li :: r.set j gone)
    have hlw : li < s.ws.length := by have := h.lw; simp [Sv.setW] at this; omega
    have WA := wat_addW (s := { s with cl := s.cl.set c (m0 :: li :: r.set j gone) }) (c := c) (o := m0) hlw
    have W2 := wat_setW (s := Sv.addW { s with cl := s.cl.set c (m0 :: li :: r.set j gone) } li c m0) (l := gone) (by simpa [Sv.addW] using hgw) (stay ++ rest)
    have hperm2 : ∀ x, x ∈ m0 :: li :: r.set j gone ↔ x ∈ m0 :: gone :: r := fun x => by
      have h1 : r = r.take j ++ li :: r.drop (j + 1) := by
        conv => lhs; rw [← List.take_append_drop j r, List.drop_eq_getElem_cons hjl, hje]
      have h2 : r.set j gone = r.take j ++ gone :: r.drop (j + 1) := List.set_eq_take_append_cons_drop .. |>.trans (if_pos hjl)
      rw [h2]
      conv => rhs; rw [h1]
      simp only [List.mem_cons, List.mem_append]
      constructor
      · rintro (h | h | h | h | h) <;> simp [h]
      · rintro (h | h | h | h | h) <;> simp [h]
    refine ⟨⟨rfl, rfl, rfl, rfl, rfl, by simp [Sv.addW], fun c' x => ?_, fun c' => ?_, ⟨[], by simp [Sv.addW]⟩, fun _ h => h, fun _ h => h⟩, fun _ => rfl, fun _ => ⟨fun c' a' b' r2 e => ?_, fun c' a' b' r2 e kk => ?_⟩, fun e => (by cases e)⟩
    · show x ∈ ({ s with cl := s.cl.set c (m0 :: li :: r.set j gone) } : Sv).lits c' ↔ _
      rw [L]
      split
      · next e => rw [e]; exact (hperm2 x).trans (hperm x)
      · exact Iff.rfl
    · show (({ s with cl := s.cl.set c (m0 :: li :: r.set j gone) } : Sv).lits c').length = _
      rw [L]
      split
      · next e => rw [e, hl]; simp
      · rfl
    · have e : ({ s with cl := s.cl.set c (m0 :: li :: r.set j gone) } : Sv).lits c' = a' :: b' :: r2 := e
      rw [L] at e
      have key : ∀ x, (x = gone → ∃ o', (c', o') ∈ stay ++ rest) → (x ≠ gone → ∃ o', (c', o') ∈ s.wat x) → ∃ o', (c', o') ∈ ((Sv.addW { s with cl := s.cl.set c (m0 :: li :: r.set j gone) } li c m0).setW gone (stay ++ rest)).wat x := fun x h1 h2 => by
        rw [W2]
        split
        · next e2 => exact h1 e2
        · next e2 =>
          obtain ⟨o', h3⟩ := h2 e2
          refine ⟨o', ?_⟩
          rw [WA]
          split
          · next e3 => rw [e3] at h3; exact List.mem_append_left _ h3
          · exact h3
      by_cases ec : c' = c
      · rw [if_pos ec] at e
        cases e
        subst ec
        refine ⟨key m0 (fun x => absurd x hmg) (fun _ => hwm), m0, ?_⟩
        rw [W2, if_neg hlg, WA, if_pos rfl]
        simp
      · rw [if_neg ec] at e
        obtain ⟨h1, h2⟩ := k.wat c' a' b' r2 e
        exact ⟨key a' (hoth c' a' ec h1).1 (hoth c' a' ec h1).2, key b' (hoth c' b' ec h2).1 (hoth c' b' ec h2).2⟩
    · have e : ({ s with cl := s.cl.set c (m0 :: li :: r.set j gone) } : Sv).lits c' = a' :: b' :: r2 := e
      show ∃ l ∈ ({ s with cl := s.cl.set c (m0 :: li :: r.set j gone) } : Sv).lits c', s.val l = 1
      rw [L] at e ⊢
      by_cases ec : c' = c
      · rw [if_pos ec] at e ⊢
        cases e
        have hSm : S m0 := by
          rcases kk with (kk | kk) | (kk | kk)
          · exact kk
          · exact absurd kk.1 hmg
          · exact absurd (hS _ kk) hli
          · exact absurd kk.1 hlg
        obtain ⟨x, h1, h2⟩ := hym hSm
        exact ⟨x, (hperm2 x).2 ((hperm x).2 h1), h2⟩
      · rw [if_neg ec] at e ⊢
        refine k.yes c' a' b' r2 e (kk.imp (fun kk => kk.imp (fun x => x) (fun x => ⟨x.1, fun p hp => ?_⟩)) (fun kk => kk.imp (fun x => x) (fun x => ⟨x.1, fun p hp => ?_⟩)))
        all_goals
          rcases List.mem_cons.1 hp with hp | hp
          · rw [hp]; exact fun e => ec e.symm
          · exact x.2 p hp

/-- Going through the watches of a literal that is false. -/
theorem visitL_ok {gone : Nat} {S : Nat → Prop} : ∀ (rest stay : List (Nat × Nat)) (s : Sv), gone < s.ws.length → Fit (s.setW gone (stay ++ rest)) → s.val gone = -1 → (∀ l, S l → s.val l = -1) →
    Wi (s.setW gone (stay ++ rest)) (fun c' l => S l ∨ l = gone ∧ ∀ p ∈ rest, p.1 ≠ c') →
    Grow s (Sv.visitL gone rest stay s).2 ∧ Fit (Sv.visitL gone rest stay s).2 ∧ ((Sv.visitL gone rest stay s).1 = none → Wi (Sv.visitL gone rest stay s).2 (fun _ l => S l ∨ l = gone))
  | [], stay, s, _, hF, _, _, k => by
    simp only [List.append_nil] at hF k
    exact ⟨Grow.setW _ _ _, hF, fun _ => k.mono (fun c l h => h.imp (fun x => x) (fun x => ⟨x, by simp⟩))⟩
  | (c, o) :: rest, stay, s, hgw, hF, hg, hS, k => by
    have W := wat_setW hgw (stay ++ (c, o) :: rest)
    rw [Sv.visitL]
    by_cases ho : s.val o = 1
    · simp only [if_pos ho]
      have e : stay ++ (c, o) :: rest = stay ++ [(c, o)] ++ rest := by simp
      refine visitL_ok rest (stay ++ [(c, o)]) s hgw (e ▸ hF) hg hS ⟨e ▸ k.wat, fun c' a b r hl hh => ?_⟩
      by_cases ec : c' = c
      · obtain ⟨_, h2, _⟩ := hF.wat gone (c, o) (by rw [W, if_pos rfl]; simp)
        exact ⟨o, by rw [ec]; exact h2, ho⟩
      · refine k.yes c' a b r hl (hh.imp (fun kk => kk.imp (fun x => x) (fun x => ⟨x.1, fun p hp => ?_⟩)) (fun kk => kk.imp (fun x => x) (fun x => ⟨x.1, fun p hp => ?_⟩)))
        all_goals
          rcases List.mem_cons.1 hp with hp | hp
          · rw [hp]; exact fun e => ec e.symm
          · exact x.2 p hp
    · simp only [if_neg ho]
      obtain ⟨g1, g2, g3, g4⟩ := Wi.step hgw hF hg hS k
      obtain ⟨f1, f2, f3, f4, f5, f6, f7⟩ := Fit.moves hgw hF hg
      have hgw1 : gone < (s.moves c gone).2.ws.length := by rw [f5]; exact hgw
      have hS1 : ∀ l, S l → (s.moves c gone).2.val l = -1 := fun l hl => by rw [g2]; exact hS l hl
      have hg1 : (s.moves c gone).2.val gone = -1 := by rw [g2]; exact hg
      cases hm : (s.moves c gone).1 with
      | true =>
        simp only [if_true]
        obtain ⟨r1, r2, r3⟩ := visitL_ok rest stay _ hgw1 (f6 hm) hg1 hS1 (g3 hm)
        exact ⟨g1.trans r1, r2, r3⟩
      | false =>
        simp only [Bool.false_eq_true, if_false]
        obtain ⟨m0, r, hl, hmlt, hF1⟩ := f7 hm
        have k1 := g4 hm m0 r hl
        have hgd : ((s.moves c gone).2.lits c)[0]?.getD 0 = m0 := by rw [hl]; rfl
        rw [hgd]
        have e : ∀ x : Nat × Nat, stay ++ x :: rest = stay ++ [x] ++ rest := fun x => by simp
        have hmin : m0 ∈ (s.moves c gone).2.lits c := by rw [hl]; simp
        generalize (s.moves c gone).2 = s1 at *
        by_cases h0 : s1.val m0 = 0
        · simp only [if_pos h0]
          have hml1 : m0 < 2 * s1.n + 2 := by rw [f1]; exact hmlt
          have hFA : Fit ((s1.setW gone (stay ++ (c, m0) :: rest)).assign m0) := hF1.assign hml1 h0
          have kA := k1.assign hF1 hml1 h0
          have GA : Grow s1 (s1.assign m0) := (Grow.assign hF1 hml1 h0 : Grow (s1.setW gone (stay ++ (c, m0) :: rest)) ((s1.setW gone (stay ++ (c, m0) :: rest)).assign m0)) |> fun G => ⟨G.n, G.seen, G.starts, G.hp, G.fin, G.cl, G.lits, G.size, G.trail, G.yes, G.no⟩
          have V1 : (s1.assign m0).val m0 = 1 := (val_assign hF1 hml1 m0).trans (if_pos rfl)
          obtain ⟨r1, r2, r3⟩ := visitL_ok rest (stay ++ [(c, m0)]) (s1.assign m0) hgw1 (e (c, m0) ▸ hFA) (GA.no _ hg1) (fun l hl => GA.no _ (hS1 l hl)) ⟨e (c, m0) ▸ kA.wat, fun c' a b r' hl' hh => by
            by_cases ec : c' = c
            · rw [ec]; exact ⟨m0, hmin, V1⟩
            · exact kA.yes c' a b r' hl' (hh.imp (fun x => ⟨ec, x⟩) (fun x => ⟨ec, x⟩))⟩
          exact ⟨(g1.trans GA).trans r1, r2, r3⟩
        · simp only [if_neg h0]
          by_cases h1 : s1.val m0 = -1
          · simp only [if_pos h1]
            refine ⟨g1.trans (Grow.setW _ _ _), ?_, fun e => (by cases e)⟩
            have := hF1
            rw [e] at this
            exact this
          · simp only [if_neg h1]
            have V1 : s1.val m0 = 1 := by
              have t : s1.val m0 = -1 ∨ s1.val m0 = 0 ∨ s1.val m0 = 1 := hF1.tri m0
              rcases t with t | t | t
              · exact absurd t h1
              · exact absurd t h0
              · exact t
            obtain ⟨r1, r2, r3⟩ := visitL_ok rest (stay ++ [(c, m0)]) s1 hgw1 (e (c, m0) ▸ hF1) hg1 hS1 ⟨e (c, m0) ▸ k1.wat, fun c' a b r' hl' hh => by
              by_cases ec : c' = c
              · rw [ec]; exact ⟨m0, hmin, V1⟩
              · exact k1.yes c' a b r' hl' (hh.imp (fun x => ⟨ec, x⟩) (fun x => ⟨ec, x⟩))⟩
            exact ⟨g1.trans r1, r2, r3⟩

/-- Between two visits. -/
structure Fw (s : Sv) : Prop where
  fit : Fit s
  le : s.seen ≤ s.trail.length
  wi : Wi s (fun _ l => opp l ∈ s.trail.take s.seen)

theorem Fw.visit {s : Sv} (h : Fw s) {l : Nat} (hl : s.trail[s.seen]? = some l) :
    Grow { s with seen := s.seen + 1 } (Sv.visit { s with seen := s.seen + 1 } (opp l)).2 ∧ Fit (Sv.visit { s with seen := s.seen + 1 } (opp l)).2 ∧ ((Sv.visit { s with seen := s.seen + 1 } (opp l)).1 = none → Fw (Sv.visit { s with seen := s.seen + 1 } (opp l)).2) := by
  obtain ⟨hlt, he⟩ := List.getElem?_eq_some_iff.1 hl
  have hmem : l ∈ s.trail := List.mem_of_getElem? hl
  obtain ⟨hln, hlv⟩ := (h.fit.on l).1 hmem
  have hg : s.val (opp l) = -1 := by rw [h.fit.sgn l hln, hlv]
  have hgw : opp l < s.ws.length := by rw [h.fit.lw]; exact opp_lt hln
  have hF1 : Fit { s with seen := s.seen + 1 } := ⟨h.fit.lv, h.fit.lw, h.fit.sgn, h.fit.tri, h.fit.on, h.fit.nd, h.fit.cls, h.fit.wnd, h.fit.wat⟩
  have hself : ({ s with seen := s.seen + 1 } : Sv).setW (opp l) ([] ++ ({ s with seen := s.seen + 1 } : Sv).wat (opp l)) = { s with seen := s.seen + 1 } := setW_self hgw
  have hfalse : ∀ l', opp l' ∈ s.trail.take s.seen → s.val l' = -1 := fun l' h' => by
    obtain ⟨h1, h2⟩ := (h.fit.on _).1 (List.mem_of_mem_take h')
    have := h.fit.sgn _ h1
    rw [opp_opp] at this
    rw [this, h2]
  have k0 : Wi { s with seen := s.seen + 1 } (fun c' l' => opp l' ∈ s.trail.take s.seen ∨ l' = opp l ∧ ∀ p ∈ ({ s with seen := s.seen + 1 } : Sv).wat (opp l), p.1 ≠ c') := by
    refine ⟨h.wi.wat, fun c a b r e hh => ?_⟩
    obtain ⟨⟨o1, w1⟩, o2, w2⟩ := h.wi.wat c a b r e
    refine h.wi.yes c a b r e (hh.imp (fun x => x.resolve_right (fun x => ?_)) (fun x => x.resolve_right (fun x => ?_)))
    · exact x.2 _ (by rw [← x.1]; exact w1) rfl
    · exact x.2 _ (by rw [← x.1]; exact w2) rfl
  obtain ⟨r1, r2, r3⟩ := visitL_ok (S := fun l' => opp l' ∈ s.trail.take s.seen) (({ s with seen := s.seen + 1 } : Sv).wat (opp l)) [] { s with seen := s.seen + 1 } hgw (by rw [hself]; exact hF1) hg hfalse (by rw [hself]; exact k0)
  refine ⟨r1, r2, fun e => ⟨r2, ?_, (r3 e).mono (fun _ l' hh => ?_)⟩⟩
  · obtain ⟨t, ht⟩ := r1.trail
    show (Sv.visitL _ _ _ _).2.seen ≤ (Sv.visitL _ _ _ _).2.trail.length
    rw [r1.seen, ht]
    simp; omega
  · obtain ⟨t, ht⟩ := r1.trail
    have hh : opp l' ∈ (Sv.visitL (opp l) (({ s with seen := s.seen + 1 } : Sv).wat (opp l)) [] { s with seen := s.seen + 1 }).2.trail.take (Sv.visitL (opp l) (({ s with seen := s.seen + 1 } : Sv).wat (opp l)) [] { s with seen := s.seen + 1 }).2.seen := hh
    rw [r1.seen, ht] at hh
    have hh : opp l' ∈ (s.trail ++ t).take (s.seen + 1) := hh
    rw [List.take_append_of_le_length (by omega), List.take_add_one, hl] at hh
    simp only [Option.toList_some, List.mem_append, List.mem_singleton] at hh
    rcases hh with hh | hh
    · exact Or.inl hh
    · exact Or.inr (by rw [← hh, opp_opp])

theorem Grow.seen1 {s s' : Sv} (h : Grow { s with seen := s.seen + 1 } s') : s'.n = s.n ∧ s'.seen = s.seen + 1 ∧ s'.starts = s.starts ∧ s'.hp = s.hp ∧ s'.fin = s.fin ∧ s'.cl.length = s.cl.length ∧ (∀ c x, x ∈ s'.lits c ↔ x ∈ s.lits c) ∧ (∀ c, (s'.lits c).length = (s.lits c).length) ∧ (∃ t, s'.trail = s.trail ++ t) ∧ (∀ l, s.val l = 1 → s'.val l = 1) ∧ ∀ l, s.val l = -1 → s'.val l = -1 :=
  ⟨h.n, h.seen, h.starts, h.hp, h.fin, h.cl, h.lits, h.size, h.trail, h.yes, h.no⟩

/-- What follow leaves: as Grow, but for seen. -/
structure Went1 (s s' : Sv) : Prop where
  n : s'.n = s.n
  starts : s'.starts = s.starts
  hp : s'.hp = s.hp
  fin : s'.fin = s.fin
  cl : s'.cl.length = s.cl.length
  lits : ∀ c x, x ∈ s'.lits c ↔ x ∈ s.lits c
  size : ∀ c, (s'.lits c).length = (s.lits c).length
  yes : ∀ l, s.val l = 1 → s'.val l = 1
  no : ∀ l, s.val l = -1 → s'.val l = -1

/-- follow ends within the fuel; without a conflict, all that is false was looked at. -/
theorem follow_ok : ∀ (f : Nat) (s : Sv), Fw s → 2 * s.n + 3 ≤ f + s.seen → ∃ o s', Sv.follow f s = some (o, s') ∧ Went1 s s' ∧ Fit s' ∧ (o = none → Fw s' ∧ s'.seen = s'.trail.length)
  | 0, s, h, hf => by have := h.fit.trail_le; have := h.le; omega
  | f + 1, s, h, hf => by
    rw [Sv.follow]
    cases hl : s.trail[s.seen]? with
    | none =>
      have hge : s.trail.length ≤ s.seen := List.getElem?_eq_none_iff.1 hl
      have hle := h.le
      exact ⟨none, s, rfl, ⟨rfl, rfl, rfl, rfl, rfl, fun _ _ => Iff.rfl, fun _ => rfl, fun _ h => h, fun _ h => h⟩, h.fit, fun _ => ⟨h, by omega⟩⟩
    | some l =>
      obtain ⟨r1, r2, r3⟩ := h.visit hl
      obtain ⟨g1, g2, g3, g4, g5, g6, g7, g8, g9, g10, g11⟩ := r1.seen1
      simp only
      cases hv : Sv.visit { s with seen := s.seen + 1 } (opp l) with
      | mk o s1 =>
        rw [hv] at r1 r2 r3 g1 g2 g3 g4 g5 g6 g7 g8 g9 g10 g11
        simp only at r1 r2 r3 g1 g2 g3 g4 g5 g6 g7 g8 g9 g10 g11
        cases o with
        | some c => exact ⟨some c, s1, rfl, ⟨g1, g3, g4, g5, g6, g7, g8, g10, g11⟩, r2, fun e => (by cases e)⟩
        | none =>
          obtain ⟨o, s', h1, h2, h3, h4⟩ := follow_ok f s1 (r3 rfl) (by rw [g1, g2]; omega)
          exact ⟨o, s', h1, ⟨h2.n.trans g1, h2.starts.trans g3, h2.hp.trans g4, h2.fin.trans g5, h2.cl.trans g6, fun c x => (h2.lits c x).trans (g7 c x), fun c => (h2.size c).trans (g8 c), fun l e => h2.yes l (g10 l e), fun l e => h2.no l (g11 l e)⟩, h3, h4⟩

/-- So no clause is left with all but one literal false and none true. -/
theorem Fw.done {s : Sv} (h : Fw s) (hs : s.seen = s.trail.length) (c : Nat) (h2 : 2 ≤ (s.lits c).length) : (∃ l ∈ s.lits c, s.val l = 1) ∨ ∃ a b, a ≠ b ∧ a ∈ s.lits c ∧ b ∈ s.lits c ∧ s.val a ≠ -1 ∧ s.val b ≠ -1 := by
  obtain ⟨hn, hlt⟩ := h.fit.cls c
  match hl : s.lits c with
  | [] => rw [hl] at h2; simp at h2
  | [_] => rw [hl] at h2; simp at h2
  | a :: b :: r =>
    rw [hl] at hn hlt
    have hno : ∀ x, x ∈ a :: b :: r → s.val x = -1 → opp x ∈ s.trail.take s.seen := fun x hx hv => by
      rw [hs, List.take_length]
      have h1 := h.fit.sgn x (hlt x hx)
      exact (h.fit.on _).2 ⟨opp_lt (hlt x hx), by rw [h1, hv]; rfl⟩
    by_cases ha : s.val a = -1
    · have := h.wi.yes c a b r hl (Or.inl (hno a (by simp) ha))
      rw [hl] at this
      exact Or.inl this
    · by_cases hb : s.val b = -1
      · have := h.wi.yes c a b r hl (Or.inr (hno b (by simp) hb))
        rw [hl] at this
        exact Or.inl this
      · refine Or.inr ⟨a, b, fun e => ?_, by simp, by simp, ha, hb⟩
        simp [e] at hn

end Go.Proofs.YtlehlgipbhfioaaGreat

namespace Go.Proofs.YtlehlgipbhfioaaGreat
open Go.RowKit Go.Maps

theorem new_val (n l : Nat) : (Sv.new n).val l = 0 := by
  unfold Sv.new Sv.val
  simp only [List.getElem?_replicate]
  split <;> rfl
theorem new_wat (n l : Nat) : (Sv.new n).wat l = [] := by
  unfold Sv.new Sv.wat
  simp only [List.getElem?_replicate]
  split <;> rfl
theorem Fw.new (n : Nat) : Fw (Sv.new n) := by
  have hl : ∀ c, (Sv.new n).lits c = [] := fun c => by simp [Sv.new, Sv.lits]
  refine ⟨⟨by simp [Sv.new], by simp [Sv.new], fun l _ => by rw [new_val, new_val]; rfl, fun l => Or.inr (Or.inl (new_val n l)), fun l => ?_, by simp [Sv.new], fun c => by simp [hl], fun l => by simp [new_wat], fun l p hp => by simp [new_wat] at hp⟩, Nat.le_refl _, fun c a b r e => ?_, fun c a b r e => ?_⟩
  · rw [new_val]; simp [Sv.new]
  · rw [hl] at e; cases e
  · rw [hl] at e; cases e

/-- A clause more. -/
def Sv.more (s : Sv) (ls : List Nat) : Sv := { s with cl := s.cl ++ [ls] }
theorem lits_more (s : Sv) (ls : List Nat) (c : Nat) : (s.more ls).lits c = if c = s.cl.length then ls else s.lits c := by
  unfold Sv.more Sv.lits
  by_cases e : c = s.cl.length
  · subst e; simp
  · rw [if_neg e]
    simp only
    by_cases e2 : c < s.cl.length
    · rw [List.getElem?_append_left e2]
    · rw [List.getElem?_eq_none (by simp; omega), List.getElem?_eq_none (by omega)]
theorem lits_out {s : Sv} {c : Nat} (h : s.cl.length ≤ c) : s.lits c = [] := by unfold Sv.lits; rw [List.getElem?_eq_none h]; rfl
theorem Fit.more {s : Sv} (h : Fit s) {ls : List Nat} (hn : ls.Nodup) (hl : ∀ l ∈ ls, l < 2 * s.n + 2) : Fit (s.more ls) := by
  refine ⟨h.lv, h.lw, h.sgn, h.tri, h.on, h.nd, fun c => ?_, h.wnd, fun l p hp => ?_⟩
  · rw [lits_more]
    split
    · exact ⟨hn, hl⟩
    · exact h.cls c
  · obtain ⟨h1, h2, h3⟩ := h.wat l p hp
    rw [lits_more, if_neg (by omega)]
    exact ⟨by simp [Sv.more]; omega, h2, h3⟩

/-- What stands when clauses were taken in. -/
structure Taken (s : Sv) (n : Nat) (cs : List (List Nat)) : Prop where
  nn : s.n = n
  cl : s.cl = cs
  seen : s.seen = 0
  starts : s.starts = []
  hp : s.hp = List.range (n + 1)
  fo : Fw s
  unit : s.fin = false → ∀ l, [l] ∈ cs → s.val l = 1
  nil : s.fin = false → [] ∉ cs

theorem Fw.at0 {s : Sv} (hF : Fit s) (h0 : s.seen = 0) (hw : ∀ c a b rest, s.lits c = a :: b :: rest → (∃ o, (c, o) ∈ s.wat a) ∧ ∃ o, (c, o) ∈ s.wat b) : Fw s :=
  ⟨hF, by omega, hw, fun c a b r e hh => by rw [h0] at hh; simp at hh⟩

theorem Taken.new (n : Nat) : Taken (Sv.new n) n [] := ⟨rfl, rfl, rfl, rfl, rfl, Fw.new n, fun _ => by simp, fun _ => by simp⟩

theorem Taken.add {s : Sv} {n : Nat} {cs : List (List Nat)} (h : Taken s n cs) {ls : List Nat} (hn : ls.Nodup) (hl : ∀ l ∈ ls, l < 2 * n + 2) : Taken (s.add ls) n (cs ++ [ls]) := by
  have hl' : ∀ l ∈ ls, l < 2 * s.n + 2 := by rw [h.nn]; exact hl
  have hF := h.fo.fit.more hn hl'
  have hcl : (s.more ls).cl = cs ++ [ls] := by show s.cl ++ [ls] = _; rw [h.cl]
  have hwat : ∀ c, c ≠ s.cl.length → ∀ a b rest, (s.more ls).lits c = a :: b :: rest → (∃ o, (c, o) ∈ s.wat a) ∧ ∃ o, (c, o) ∈ s.wat b := fun c hc a b r e => by
    rw [lits_more, if_neg hc] at e
    exact h.fo.wi.wat c a b r e
  match ls, hn, hl, hl', hF, hcl, hwat with
  | [], _, _, _, hF, hcl, hwat =>
    refine ⟨h.nn, hcl, h.seen, h.starts, h.hp, Fw.at0 ⟨hF.lv, hF.lw, hF.sgn, hF.tri, hF.on, hF.nd, hF.cls, hF.wnd, hF.wat⟩ h.seen (fun c a b r e => ?_), fun e => (by cases e), fun e => (by cases e)⟩
    have e : (s.more []).lits c = a :: b :: r := e
    by_cases ec : c = s.cl.length
    · rw [lits_more, if_pos ec] at e; cases e
    · exact hwat c ec a b r e
  | [l], _, hl, hl', hF, hcl, hwat =>
    have hll : l < 2 * s.n + 2 := hl' l (by simp)
    have hfo : Fw (s.more [l]) := Fw.at0 hF h.seen (fun c a b r e => by
      by_cases ec : c = s.cl.length
      · rw [lits_more, if_pos ec] at e; cases e
      · exact hwat c ec a b r e)
    show Taken (Sv.addFact (s.more [l]) l) n _
    unfold Sv.addFact
    by_cases h1 : (s.more [l]).val l = -1
    · rw [if_pos h1]
      exact ⟨h.nn, hcl, h.seen, h.starts, h.hp, ⟨⟨hF.lv, hF.lw, hF.sgn, hF.tri, hF.on, hF.nd, hF.cls, hF.wnd, hF.wat⟩, hfo.le, hfo.wi.wat, hfo.wi.yes⟩, fun e => (by cases e), fun e => (by cases e)⟩
    · rw [if_neg h1]
      have hold : s.fin = false → ∀ l', [l'] ∈ cs ++ [[l]] → l' ≠ l → s.val l' = 1 := fun e l' hl' hne => by
        rcases List.mem_append.1 hl' with hl' | hl'
        · exact h.unit e l' hl'
        · simp at hl'; exact absurd hl' hne
      have hnil : s.fin = false → [] ∉ cs ++ [[l]] := fun e => by simpa using h.nil e
      by_cases h0 : (s.more [l]).val l = 0
      · rw [if_pos h0]
        have G := Grow.assign hF hll h0
        refine ⟨h.nn, hcl, h.seen, h.starts, h.hp, ⟨hF.assign hll h0, ?_, ?_⟩, fun e l' hl' => ?_, hnil⟩
        · show s.seen ≤ _
          rw [h.seen]; omega
        · have := hfo.wi.assign hF hll h0
          refine this.mono (fun c x hx => ?_)
          have hx : opp x ∈ (s.trail ++ [l]).take s.seen := hx
          rw [h.seen] at hx
          simp at hx
        · by_cases e2 : l' = l
          · subst e2
            exact (val_assign hF hll l').trans (if_pos rfl)
          · exact G.yes l' (hold e l' hl' e2)
      · rw [if_neg h0]
        refine ⟨h.nn, hcl, h.seen, h.starts, h.hp, hfo, fun e l' hl' => ?_, hnil⟩
        by_cases e2 : l' = l
        · subst e2
          rcases hF.tri l' with t | t | t
          · exact absurd t h1
          · exact absurd t h0
          · exact t
        · exact hold e l' hl' e2
  | a :: b :: r, hn, hl, hl', hF, hcl, hwat =>
    have hL : (s.more (a :: b :: r)).lits s.cl.length = a :: b :: r := by rw [lits_more, if_pos rfl]
    show Taken (Sv.watch (s.more (a :: b :: r)) s.cl.length) n _
    have hab : a ≠ b := fun e => by simp [e] at hn
    have ha : a < (s.more (a :: b :: r)).ws.length := by rw [hF.lw]; exact hl' a (by simp)
    have hb : b < ((s.more (a :: b :: r)).addW a s.cl.length b).ws.length := by simp only [Sv.addW, List.length_set]; rw [hF.lw]; exact hl' b (by simp)
    have e0 : Sv.watch (s.more (a :: b :: r)) s.cl.length = ((s.more (a :: b :: r)).addW a s.cl.length b).addW b s.cl.length a := by
      unfold Sv.watch; rw [hL]; rfl
    have W : ∀ l, (((s.more (a :: b :: r)).addW a s.cl.length b).addW b s.cl.length a).wat l = if l = a then s.wat a ++ [(s.cl.length, b)] else if l = b then s.wat b ++ [(s.cl.length, a)] else s.wat l := fun l => by
      have hwm : ∀ x, (s.more (a :: b :: r)).wat x = s.wat x := fun _ => rfl
      rw [wat_addW hb, wat_addW ha, wat_addW ha, hwm, hwm, hwm, if_neg (show ¬ b = a from fun e => hab e.symm)]
      by_cases e : l = a
      · subst e
        rw [if_pos rfl, if_pos rfl, if_neg hab]
      · rw [if_neg e, if_neg e]
    have hlits : ∀ c, (((s.more (a :: b :: r)).addW a s.cl.length b).addW b s.cl.length a).lits c = (s.more (a :: b :: r)).lits c := fun _ => rfl
    have hin : ∀ l p, p ∈ s.wat l → p ∈ (((s.more (a :: b :: r)).addW a s.cl.length b).addW b s.cl.length a).wat l := fun l p hp => by
      rw [W]
      split
      · next e => rw [e] at hp; simp [hp]
      · split
        · next e => rw [e] at hp; simp [hp]
        · exact hp
    rw [e0]
    refine ⟨h.nn, hcl, h.seen, h.starts, h.hp, Fw.at0 ⟨hF.lv, by simp only [Sv.addW, List.length_set]; exact hF.lw, hF.sgn, hF.tri, hF.on, hF.nd, hF.cls, fun l => ?_, fun l p hp => ?_⟩ h.seen (fun c a' b' r' e => ?_), fun e l' hl' => ?_, fun e => ?_⟩
    · have hw := h.fo.fit.wnd l
      have hnew : s.cl.length ∉ (s.wat l).map Prod.fst := fun hm => by
        obtain ⟨p, hp, he⟩ := List.mem_map.1 hm
        have := (h.fo.fit.wat l p hp).1
        omega
      rw [W]
      have key : ∀ x : Nat, ((s.wat l ++ [(s.cl.length, x)]).map Prod.fst).Nodup := fun x => by
        rw [List.map_append, List.nodup_append]
        refine ⟨hw, by simp, fun y hy z hz => ?_⟩
        simp at hz
        subst hz
        exact fun e => hnew (e ▸ hy)
      split
      · next e => rw [← e]; exact key b
      · split
        · next e => rw [← e]; exact key a
        · exact hw
    · rw [W] at hp
      have old : p ∈ s.wat l → p.1 < (s.more (a :: b :: r)).cl.length ∧ p.2 ∈ (s.more (a :: b :: r)).lits p.1 ∧ ∃ a' b' rest, (s.more (a :: b :: r)).lits p.1 = a' :: b' :: rest ∧ (l = a' ∨ l = b') := fun hp => hF.wat l p hp
      have fresh : ∀ x, x ∈ a :: b :: r → l = a ∨ l = b → s.cl.length < (s.more (a :: b :: r)).cl.length ∧ x ∈ (s.more (a :: b :: r)).lits s.cl.length ∧ ∃ a' b' rest, (s.more (a :: b :: r)).lits s.cl.length = a' :: b' :: rest ∧ (l = a' ∨ l = b') := fun x hx hlab => by
        rw [hL]
        exact ⟨by simp [Sv.more], hx, a, b, r, rfl, hlab⟩
      split at hp
      · next e =>
        rcases List.mem_append.1 hp with hp | hp
        · exact old (e ▸ hp)
        · simp at hp
          subst hp
          exact fresh b (by simp) (Or.inl e)
      · split at hp
        · next e =>
          rcases List.mem_append.1 hp with hp | hp
          · exact old (e ▸ hp)
          · simp at hp
            subst hp
            exact fresh a (by simp) (Or.inr e)
        · exact old hp
    · rw [hlits] at e
      by_cases ec : c = s.cl.length
      · subst ec
        rw [hL] at e
        cases e
        refine ⟨⟨b, ?_⟩, a, ?_⟩
        · rw [W, if_pos rfl]; simp
        · rw [W, if_neg (fun e => hab e.symm), if_pos rfl]; simp
      · obtain ⟨⟨o1, w1⟩, o2, w2⟩ := hwat c ec a' b' r' e
        exact ⟨⟨o1, hin _ _ w1⟩, o2, hin _ _ w2⟩
    · rcases List.mem_append.1 hl' with hl' | hl'
      · exact h.unit e l' hl'
      · simp at hl'
    · have := h.nil e
      simp [this]

theorem Taken.all {n : Nat} : ∀ (ds : List (List Nat)) (s : Sv) (cs : List (List Nat)), Taken s n cs → (∀ d ∈ ds, d.Nodup ∧ ∀ l ∈ d, l < 2 * n + 2) → Taken (ds.foldl (fun s c => s.add c) s) n (cs ++ ds)
  | [], s, cs, h, _ => by simpa using h
  | d :: ds, s, cs, h, hd => by
    have := Taken.all ds (s.add d) (cs ++ [d]) (h.add (hd d (by simp)).1 (hd d (by simp)).2) (fun d' h' => hd d' (by simp [h']))
    simpa using this

/-- What must be true by the clauses, one after the other. -/
inductive Forced (cs : List (List Nat)) : Nat → Prop
  | by_ {c : List Nat} {l : Nat} : c ∈ cs → l ∈ c → (∀ x ∈ c, x ≠ l → Forced cs (opp x)) → Forced cs l

/-- If two opposites are forced, the search says no. -/
theorem Taken.no {s : Sv} {n : Nat} {cs : List (List Nat)} (h : Taken s n cs) (hc : ∀ d ∈ cs, d.Nodup ∧ ∀ l ∈ d, l < 2 * n + 2) {l : Nat} (h1 : Forced cs l) (h2 : Forced cs (opp l)) (f : Nat) : ∃ s', Sv.run (f + 2) s = some (false, s') := by
  rw [Sv.run]
  cases hfin : s.fin with
  | true => exact ⟨s, rfl⟩
  | false =>
    simp only [Bool.false_eq_true, if_false]
    obtain ⟨o, s', e1, e2, e3, e4⟩ := follow_ok (2 * s.n + 3) s h.fo (by omega)
    rw [e1]
    cases o with
    | some c =>
      simp only
      rw [e2.starts, h.starts]
      simp only [List.length_nil, if_true, Sv.run]
      exact ⟨_, rfl⟩
    | none =>
      exfalso
      obtain ⟨hfo, hseen⟩ := e4 rfl
      have lt : ∀ l, Forced cs l → l < 2 * s'.n + 2 := fun l hf => by
        cases hf with
        | by_ hc' hl _ => rw [e2.n, h.nn]; exact (hc _ hc').2 l hl
      have key : ∀ l, Forced cs l → s'.val l = 1 := fun l hf => by
        induction hf with
        | @by_ c l hc' hl hx ih =>
          have no : ∀ x ∈ c, x ≠ l → s'.val x = -1 := fun x hxc hne => by
            have h3 := ih x hxc hne
            have h4 := e3.sgn x (by rw [e2.n, h.nn]; exact (hc c hc').2 x hxc)
            rw [h3] at h4
            omega
          obtain ⟨i, hi, he⟩ := List.mem_iff_getElem.1 hc'
          have hlc : s.lits i = c := by
            unfold Sv.lits
            rw [h.cl, List.getElem?_eq_getElem hi, he]; rfl
          by_cases h2 : 2 ≤ c.length
          · rcases hfo.done hseen i (by rw [e2.size, hlc]; exact h2) with ⟨x, x1, x2⟩ | ⟨a, b, hab, ha, hb, va, vb⟩
            · rw [e2.lits, hlc] at x1
              by_cases ex : x = l
              · rw [← ex]; exact x2
              · have := no x x1 ex
                omega
            · rw [e2.lits, hlc] at ha hb
              by_cases ea : a = l
              · exact absurd (no b hb (fun eb => hab (ea.trans eb.symm))) vb
              · exact absurd (no a ha ea) va
          · have : c = [l] := by
              match c, hl, h2 with
              | [x], hl, _ => simp at hl; rw [hl]
              | _ :: _ :: _, _, h2 => simp at h2
            exact e2.yes l (h.unit hfin l (this ▸ hc'))
      have k1 := key l h1
      have k2 := key _ h2
      have k3 := e3.sgn l (lt l h1)
      omega

theorem visit_nil {s : Sv} {g : Nat} (h : s.wat g = []) : s.visit g = (none, s.setW g []) := by unfold Sv.visit; rw [h]; rfl
theorem wat_nil {s : Sv} (h : ∀ l, s.wat l = []) (g : Nat) (l : Nat) : (s.setW g []).wat l = [] := by
  by_cases hg : g < s.ws.length
  · rw [wat_setW hg]; split
    · rfl
    · exact h l
  · unfold Sv.setW
    rw [List.set_eq_of_length_le (by omega)]
    exact h l
theorem follow_nil : ∀ (f : Nat) (s : Sv) (o : Option Nat) (s' : Sv), (∀ l, s.wat l = []) → Sv.follow f s = some (o, s') → o = none ∧ ∀ l, s'.wat l = []
  | 0, _, _, _, _, h => by cases h
  | f + 1, s, o, s', hw, h => by
    rw [Sv.follow] at h
    cases hl : s.trail[s.seen]? with
    | none => rw [hl] at h; cases h; exact ⟨rfl, hw⟩
    | some l =>
      rw [hl] at h
      simp only [visit_nil (s := { s with seen := s.seen + 1 }) (g := opp l) (hw _)] at h
      exact follow_nil f _ o s' (wat_nil (s := { s with seen := s.seen + 1 }) hw _) h

theorem pop_mem {s s' : Sv} {o : Option Nat} (h : s.pop = (o, s')) (hhp : ∀ v ∈ s.hp, v ≤ s.n) : (s' = { s with hp := s'.hp }) ∧ (∀ v ∈ s'.hp, v ≤ s.n) ∧ (∀ v, o = some v → v ≤ s.n ∧ s'.hp.length + 1 = s.hp.length) := by
  unfold Sv.pop at h
  split at h
  · cases h
    exact ⟨rfl, hhp, fun v e => (by cases e)⟩
  · next hlt =>
    have hl1 : 1 < s.hp.length := by omega
    have hl2 : s.hp.length - 1 < s.hp.length := by omega
    have h1 := hhp _ (List.getElem_mem hl1)
    have h2 := hhp _ (List.getElem_mem hl2)
    simp only [List.getElem?_eq_getElem hl1, List.getElem?_eq_getElem hl2, Option.getD_some] at h
    cases h
    refine ⟨rfl, fun v hv => ?_, fun v e => ?_⟩
    · have hv := List.mem_of_mem_take hv
      rcases List.mem_or_eq_of_mem_set hv with hv | hv
      · exact hhp v hv
      · rw [hv]; exact h2
    · cases e
      refine ⟨h1, ?_⟩
      simp; omega

/-- What try leaves, where nothing is watched. -/
theorem try_ok : ∀ (f : Nat) (s : Sv), s.hp.length + 1 ≤ f → Fw s → (∀ l, s.wat l = []) → (∀ v ∈ s.hp, v ≤ s.n) →
    ∃ b s', Sv.tryN f s = some (b, s') ∧ Fw s' ∧ (∀ l, s'.wat l = []) ∧ s'.n = s.n ∧ s'.fin = s.fin ∧ (∀ v ∈ s'.hp, v ≤ s.n) ∧ (∀ l, s.val l = 1 → s'.val l = 1) ∧ (b = true → s'.hp.length < s.hp.length)
  | 0, _, h, _, _, _ => by omega
  | f + 1, s, hf, hfo, hw, hhp => by
    rw [Sv.tryN]
    cases hp : s.pop with
    | mk o s1 =>
      obtain ⟨e1, e2, e3⟩ := pop_mem hp hhp
      have hfo1 : Fw s1 := by
        rw [e1]
        exact ⟨⟨hfo.fit.lv, hfo.fit.lw, hfo.fit.sgn, hfo.fit.tri, hfo.fit.on, hfo.fit.nd, hfo.fit.cls, hfo.fit.wnd, hfo.fit.wat⟩, hfo.le, hfo.wi.wat, hfo.wi.yes⟩
      have hw1 : ∀ l, s1.wat l = [] := fun l => by rw [e1]; exact hw l
      have hn1 : s1.n = s.n := by rw [e1]
      have hv1 : ∀ l, s1.val l = s.val l := fun l => by rw [e1]; rfl
      have hf1 : s1.fin = s.fin := by rw [e1]
      cases o with
      | none => exact ⟨false, s1, rfl, hfo1, hw1, hn1, hf1, e2, fun l e => by rw [hv1]; exact e, fun e => (by cases e)⟩
      | some v =>
        obtain ⟨hv, hlen⟩ := e3 v rfl
        simp only
        by_cases h0 : s1.val (2 * v + 1) = 0
        · rw [if_pos h0]
          have hlt : 2 * v + 1 < 2 * s1.n + 2 := by omega
          have hF2 : Fit { s1 with starts := s1.starts ++ [s1.trail.length] } := ⟨hfo1.fit.lv, hfo1.fit.lw, hfo1.fit.sgn, hfo1.fit.tri, hfo1.fit.on, hfo1.fit.nd, hfo1.fit.cls, hfo1.fit.wnd, hfo1.fit.wat⟩
          have hW2 : Wi { s1 with starts := s1.starts ++ [s1.trail.length] } (fun _ l => opp l ∈ s1.trail.take s1.seen) := ⟨hfo1.wi.wat, hfo1.wi.yes⟩
          refine ⟨true, _, rfl, ⟨hF2.assign hlt h0, ?_, ?_⟩, hw1, hn1, hf1, e2, fun l e => (Grow.assign hF2 hlt h0).yes l (by show s1.val l = 1; rw [hv1]; exact e), fun _ => ?_⟩
          · show s1.seen ≤ (s1.trail ++ [2 * v + 1]).length
            have := hfo1.le
            simp; omega
          · refine (hW2.assign hF2 hlt h0).mono (fun _ l hl => ?_)
            have hl : opp l ∈ (s1.trail ++ [2 * v + 1]).take s1.seen := hl
            rwa [List.take_append_of_le_length hfo1.le] at hl
          · show s1.hp.length < _
            omega
        · rw [if_neg h0]
          obtain ⟨b, s', g1, g2, g3, g4, g5, g6, g7, g8⟩ := try_ok f s1 (by omega) hfo1 hw1 (by rw [hn1]; exact e2)
          exact ⟨b, s', g1, g2, g3, g4.trans hn1, g5.trans hf1, by rw [← hn1]; exact g6, fun l e => g7 l (by rw [hv1]; exact e), fun e => by have := g8 e; omega⟩

/-- The search says yes, where nothing is watched. -/
theorem run_yes : ∀ (f : Nat) (s : Sv), s.hp.length + 1 ≤ f → Fw s → (∀ l, s.wat l = []) → (∀ v ∈ s.hp, v ≤ s.n) → s.fin = false →
    ∃ s', Sv.run f s = some (true, s') ∧ Fit s' ∧ s'.n = s.n ∧ ∀ l, s.val l = 1 → s'.val l = 1
  | 0, _, h, _, _, _, _ => by omega
  | f + 1, s, hf, hfo, hw, hhp, hfin => by
    rw [Sv.run, hfin]
    simp only [Bool.false_eq_true, if_false]
    obtain ⟨o, s1, e1, e2, e3, e4⟩ := follow_ok (2 * s.n + 3) s hfo (by omega)
    obtain ⟨rfl, hw1⟩ := follow_nil _ _ _ _ hw e1
    rw [e1]
    simp only
    obtain ⟨hfo1, _⟩ := e4 rfl
    obtain ⟨b, s2, g1, g2, g3, g4, g5, g6, g7, g8⟩ := try_ok (s1.hp.length + 1) s1 (Nat.le_refl _) hfo1 hw1 (by rw [e2.hp, e2.n]; exact hhp)
    rw [g1]
    cases b with
    | false => exact ⟨s2, rfl, g2.fit, g4.trans e2.n, fun l e => g7 l (e2.yes l e)⟩
    | true =>
      have hlt := g8 rfl
      rw [e2.hp] at hlt
      obtain ⟨s', k1, k2, k3, k4⟩ := run_yes f s2 (by omega) g2 g3 (by rw [g4]; exact g6) (by rw [g5, e2.fin]; exact hfin)
      exact ⟨s', k1, k2, k3.trans (g4.trans e2.n), fun l e => k4 l (g7 l (e2.yes l e))⟩

/-- Units that go together. -/
theorem Taken.units {n : Nat} {M : Nat → Prop} (hM : ∀ l, M l → ¬ M (opp l)) : ∀ (ds : List (List Nat)) (s : Sv) (cs : List (List Nat)), Taken s n cs → (∀ l, s.wat l = []) → s.fin = false → (∀ l, s.val l = 1 → M l) → (∀ d ∈ ds, ∃ l, d = [l] ∧ M l ∧ l < 2 * n + 2) →
    (∀ l, (ds.foldl (fun s c => s.add c) s).wat l = []) ∧ (ds.foldl (fun s c => s.add c) s).fin = false
  | [], s, _, _, hw, hf, _, _ => ⟨hw, hf⟩
  | d :: ds, s, cs, h, hw, hf, hv, hd => by
    obtain ⟨l, rfl, hMl, hlt⟩ := hd d (by simp)
    have hT := h.add (ls := [l]) (by simp) (by simpa using hlt)
    have hF := h.fo.fit.more (ls := [l]) (by simp) (by rw [h.nn]; simpa using hlt)
    have hlt' : l < 2 * (s.more [l]).n + 2 := by show l < 2 * s.n + 2; rw [h.nn]; exact hlt
    have key : (∀ l', (s.add [l]).wat l' = []) ∧ (s.add [l]).fin = false ∧ ∀ l', (s.add [l]).val l' = 1 → M l' := by
      show (∀ l', (Sv.addFact (s.more [l]) l).wat l' = []) ∧ (Sv.addFact (s.more [l]) l).fin = false ∧ ∀ l', (Sv.addFact (s.more [l]) l).val l' = 1 → M l'
      unfold Sv.addFact
      by_cases h1 : (s.more [l]).val l = -1
      · exfalso
        have h2 := hF.sgn l hlt'
        rw [h1] at h2
        exact hM l hMl (hv _ h2)
      · rw [if_neg h1]
        by_cases h0 : (s.more [l]).val l = 0
        · rw [if_pos h0]
          refine ⟨hw, hf, fun l' e => ?_⟩
          rw [val_assign hF hlt'] at e
          split at e
          · next e2 => rw [e2]; exact hMl
          · split at e
            · cases e
            · exact hv l' e
        · rw [if_neg h0]
          exact ⟨hw, hf, hv⟩
    exact Taken.units hM ds (s.add [l]) (cs ++ [[l]]) hT key.1 key.2.1 key.2.2 (fun d' h' => hd d' (by simp [h']))

theorem mem_insS (x y : Nat) : ∀ l : List Nat, y ∈ insS x l ↔ y = x ∨ y ∈ l
  | [] => by simp [insS]
  | z :: l => by
    rw [insS]
    split
    · simp
    · split
      · next e => subst e; simp
      · simp only [List.mem_cons, mem_insS x y l]
        constructor
        · rintro (h | h | h) <;> simp [h]
        · rintro (h | h | h) <;> simp [h]
theorem insS_sorted (x : Nat) : ∀ l : List Nat, l.Pairwise (· < ·) → (insS x l).Pairwise (· < ·)
  | [], _ => by simp [insS]
  | z :: l, h => by
    rw [insS]
    have hz := List.pairwise_cons.1 h
    split
    · next e =>
      refine List.pairwise_cons.2 ⟨fun y hy => ?_, h⟩
      rcases List.mem_cons.1 hy with rfl | hy
      · exact e
      · exact Nat.lt_trans e (hz.1 y hy)
    · split
      · exact h
      · refine List.pairwise_cons.2 ⟨fun y hy => ?_, insS_sorted x l hz.2⟩
        rcases (mem_insS x y l).1 hy with rfl | hy
        · omega
        · exact hz.1 y hy
theorem litsN_go : ∀ (c : List Int) (acc : List Nat), acc.Pairwise (· < ·) → (c.foldl (fun acc x => insS (litN x) acc) acc).Pairwise (· < ·) ∧ ∀ y, y ∈ c.foldl (fun acc x => insS (litN x) acc) acc ↔ (∃ x ∈ c, litN x = y) ∨ y ∈ acc
  | [], acc, h => ⟨h, by simp⟩
  | x :: c, acc, h => by
    obtain ⟨h1, h2⟩ := litsN_go c (insS (litN x) acc) (insS_sorted _ _ h)
    refine ⟨h1, fun y => (h2 y).trans ?_⟩
    rw [mem_insS]
    constructor
    · rintro (⟨z, hz, e⟩ | h | h)
      · exact Or.inl ⟨z, by simp [hz], e⟩
      · exact Or.inl ⟨x, by simp, h.symm⟩
      · exact Or.inr h
    · rintro (⟨z, hz, e⟩ | h)
      · rcases List.mem_cons.1 hz with rfl | hz
        · exact Or.inr (Or.inl e.symm)
        · exact Or.inl ⟨z, hz, e⟩
      · exact Or.inr (Or.inr h)
theorem mem_litsN (c : List Int) (y : Nat) : y ∈ litsN c ↔ ∃ x ∈ c, litN x = y := by
  have := (litsN_go c [] List.Pairwise.nil).2 y
  simpa [litsN] using this
theorem litsN_sorted (c : List Int) : (litsN c).Pairwise (· < ·) := (litsN_go c [] List.Pairwise.nil).1
theorem litsN_nodup (c : List Int) : (litsN c).Nodup := (litsN_sorted c).imp (fun h => Nat.ne_of_lt h)
theorem opp_litN {x : Int} (h : x ≠ 0) : opp (litN x) = litN (-x) := by
  unfold opp litN
  rw [Int.natAbs_neg]
  split <;> split <;> split <;> omega
theorem litN_lt {x : Int} {n : Nat} (h : x.natAbs ≤ n) : litN x < 2 * n + 2 := by unfold litN; split <;> omega
theorem litsN_lt {c : List Int} {n : Nat} (h : ∀ x ∈ c, x.natAbs ≤ n) : ∀ l ∈ litsN c, l < 2 * n + 2 := fun l hl => by
  obtain ⟨x, hx, rfl⟩ := (mem_litsN c l).1 hl
  exact litN_lt (h x hx)

/-- Solve says no, if two opposites are forced. -/
theorem solve_no {n : Nat} {cs : List (List Int)} (hc : ∀ c ∈ cs, ∀ x ∈ c, x.natAbs ≤ n) {l : Nat} (h1 : Forced (cs.map litsN) l) (h2 : Forced (cs.map litsN) (opp l)) : solveN n cs = some none := by
  have hd : ∀ d ∈ cs.map litsN, d.Nodup ∧ ∀ l ∈ d, l < 2 * n + 2 := fun d hd => by
    obtain ⟨c, hcc, rfl⟩ := List.mem_map.1 hd
    exact ⟨litsN_nodup c, litsN_lt (hc c hcc)⟩
  have T := Taken.all (cs.map litsN) (Sv.new n) [] (Taken.new n) hd
  obtain ⟨s', e⟩ := T.no (by simpa using hd) h1 h2 n
  unfold solveN
  rw [List.foldl_map] at e
  rw [e]

/-- Solve of units that go together. -/
theorem solve_units {n : Nat} {cs : List (List Int)} (hc : ∀ c ∈ cs, ∃ x, c = [x] ∧ x ≠ 0 ∧ x.natAbs ≤ n) (hM : ∀ x, [x] ∈ cs → [-x] ∉ cs) :
    ∃ vs, solveN n cs = some (some vs) ∧ vs.length = n ∧ ∀ v : Nat, ([(v + 1 : Int)] ∈ cs → vs[v]? = some true) ∧ ([-(v + 1 : Int)] ∈ cs → vs[v]? = some false) := by
  have h1 : ∀ x : Int, litsN [x] = [litN x] := fun x => by simp [litsN, insS]
  have hd : ∀ d ∈ cs.map litsN, d.Nodup ∧ ∀ l ∈ d, l < 2 * n + 2 := fun d hd => by
    obtain ⟨c, hcc, rfl⟩ := List.mem_map.1 hd
    obtain ⟨x, rfl, _, hx⟩ := hc c hcc
    exact ⟨litsN_nodup _, litsN_lt (by simpa using hx)⟩
  have T := Taken.all (cs.map litsN) (Sv.new n) [] (Taken.new n) hd
  have U := Taken.units (M := fun l => ∃ x, [x] ∈ cs ∧ litN x = l) (n := n) (fun l ⟨x, h2, h3⟩ ⟨y, h4, h5⟩ => by
    obtain ⟨_, e, hx0, _⟩ := hc _ h2
    cases e
    obtain ⟨_, e, hy0, _⟩ := hc _ h4
    cases e
    rw [← h3, opp_litN hx0] at h5
    have : y = -x := by unfold litN at h5; split at h5 <;> split at h5 <;> omega
    exact hM x h2 (this ▸ h4)) (cs.map litsN) (Sv.new n) [] (Taken.new n) (new_wat n) rfl (fun l e => by rw [new_val] at e; cases e) (fun d hd => by
    obtain ⟨c, hcc, rfl⟩ := List.mem_map.1 hd
    obtain ⟨x, rfl, _, hx⟩ := hc c hcc
    exact ⟨litN x, h1 x, ⟨x, hcc, rfl⟩, litN_lt hx⟩)
  obtain ⟨s', e1, e2, e3, e4⟩ := run_yes (n + 2) _ (by rw [T.hp]; simp) T.fo U.1 (by rw [T.hp, T.nn]; intro v hv; simp at hv; omega) U.2
  have hn : s'.n = n := e3.trans T.nn
  have yes : ∀ x, [x] ∈ cs → s'.val (litN x) = 1 := fun x hx => e4 _ (T.unit U.2 _ (by
    rw [List.nil_append, ← h1 x]
    exact List.mem_map_of_mem hx))
  refine ⟨_, by unfold solveN; rw [List.foldl_map] at e1; rw [e1], by simp, fun v => ⟨fun hx => ?_, fun hx => ?_⟩⟩
  · obtain ⟨_, e, _, hxn⟩ := hc _ hx
    cases e
    have := yes _ hx
    have e5 : litN (v + 1 : Int) = 2 * (v + 1) := by unfold litN; split <;> omega
    rw [e5] at this
    have hvn : v < n := by omega
    simp [hvn, this]
  · obtain ⟨_, e, _, hxn⟩ := hc _ hx
    cases e
    have := yes _ hx
    have e5 : litN (-(v + 1 : Int)) = opp (2 * (v + 1)) := by unfold litN opp; split <;> split <;> omega
    have hvn : v < n := by omega
    have h6 := e2.sgn (2 * (v + 1)) (by omega)
    rw [← e5, this] at h6
    have h7 : s'.val (2 * (v + 1)) = -1 := by omega
    simp [hvn, h7]

end Go.Proofs.YtlehlgipbhfioaaGreat

namespace Go.Proofs.YtlehlgipbhfioaaGreat
open Go.RowKit Go.Maps

abbrev Edges := List (Nat × Nat)
def AdjE (E : Edges) (a b : Nat) : Prop := (a, b) ∈ E ∨ (b, a) ∈ E
inductive Conn (E : Edges) : Nat → Nat → Prop
  | refl (a : Nat) : Conn E a a
  | step {a b c : Nat} : Conn E a b → AdjE E b c → Conn E a c
theorem AdjE.symm {E : Edges} {a b : Nat} (h : AdjE E a b) : AdjE E b a := Or.symm h
theorem Conn.trans {E : Edges} {a b c : Nat} (h : Conn E a b) (k : Conn E b c) : Conn E a c := by
  induction k with
  | refl => exact h
  | step _ e ih => exact .step ih e
theorem Conn.symm {E : Edges} {a b : Nat} (h : Conn E a b) : Conn E b a := by
  induction h with
  | refl => exact .refl _
  | step _ e ih => exact (Conn.step (.refl _) e.symm).trans ih
theorem Conn.mono {E F : Edges} (hs : ∀ e ∈ E, e ∈ F) {a b : Nat} (h : Conn E a b) : Conn F a b := by
  induction h with
  | refl => exact .refl _
  | step _ e ih => exact .step ih (e.imp (hs _) (hs _))
theorem Conn.one {E : Edges} {a b : Nat} (h : AdjE E a b) : Conn E a b := .step (.refl _) h

/-- A way: each is linked with the next. -/
def Pth (E : Edges) : List Nat → Prop
  | a :: b :: r => AdjE E a b ∧ Pth E (b :: r)
  | _ => True
theorem Pth.conn {E : Edges} : ∀ {p : List Nat} {a b : Nat}, Pth E (a :: p) → (a :: p).getLast? = some b → Conn E a b
  | [], a, b, _, hl => by simp at hl; rw [hl]; exact .refl _
  | c :: p, a, b, h, hl => by
    have hl2 : (c :: p).getLast? = some b := by simpa using hl
    exact (Conn.one h.1).trans (Pth.conn h.2 hl2)
theorem AdjE.cut {E : Edges} {u v a b : Nat} (h : AdjE (E ++ [(u, v)]) a b) : AdjE E a b ∨ a = u ∧ b = v ∨ a = v ∧ b = u := by
  unfold AdjE at h ⊢
  simp only [List.mem_append, List.mem_singleton, Prod.mk.injEq] at h
  rcases h with (h | h) | (h | h)
  · exact Or.inl (Or.inl h)
  · exact Or.inr (Or.inl h)
  · exact Or.inl (Or.inr h)
  · exact Or.inr (Or.inr ⟨h.2, h.1⟩)
theorem Pth.without {E : Edges} {u v : Nat} : ∀ {p : List Nat}, Pth (E ++ [(u, v)]) p → (u ∉ p ∨ v ∉ p) → Pth E p
  | [], _, _ => trivial
  | [_], _, _ => trivial
  | a :: b :: r, h, hn => by
    refine ⟨?_, Pth.without h.2 (hn.imp (fun x y => x (List.mem_cons_of_mem _ y)) (fun x y => x (List.mem_cons_of_mem _ y)))⟩
    rcases h.1.cut with e | ⟨e1, e2⟩ | ⟨e1, e2⟩
    · exact e
    · subst e1; subst e2; exfalso; rcases hn with x | x <;> simp at x
    · subst e1; subst e2; exfalso; rcases hn with x | x <;> simp at x
/-- The last link is on no simple way between two that were linked before. -/
theorem Pth.split {E : Edges} {u v : Nat} : ∀ {p : List Nat} {a b : Nat}, Pth (E ++ [(u, v)]) (a :: p) → (a :: p).Nodup → (a :: p).getLast? = some b → Pth E (a :: p) ∨ Conn E a u ∧ Conn E v b ∨ Conn E a v ∧ Conn E u b
  | [], a, b, _, _, _ => Or.inl trivial
  | c :: p, a, b, h, hn, hl => by
    have hl2 : (c :: p).getLast? = some b := by simpa using hl
    have hn2 := List.nodup_cons.1 hn
    rcases h.1.cut with e | ⟨rfl, rfl⟩ | ⟨rfl, rfl⟩
    · rcases Pth.split h.2 hn2.2 hl2 with k | ⟨k1, k2⟩ | ⟨k1, k2⟩
      · exact Or.inl ⟨e, k⟩
      · exact Or.inr (Or.inl ⟨(Conn.one e).trans k1, k2⟩)
      · exact Or.inr (Or.inr ⟨(Conn.one e).trans k1, k2⟩)
    · exact Or.inr (Or.inl ⟨.refl _, (Pth.without h.2 (Or.inl hn2.1)).conn hl2⟩)
    · exact Or.inr (Or.inr ⟨.refl _, (Pth.without h.2 (Or.inr hn2.1)).conn hl2⟩)
/-- Links that came one after the other, each between two that were apart. -/
def Grew1 (E : Edges) : Prop := ∀ t (h : t < E.length), ¬ Conn (E.take t) (E[t]).1 (E[t]).2
theorem Grew1.path {E : Edges} (hE : Grew1 E) {p : List Nat} {a b : Nat} (hn : (a :: p).Nodup) (hl : (a :: p).getLast? = some b) (t : Nat) (hc : Conn (E.take t) a b) : ∀ k, Pth (E.take (t + k)) (a :: p) → Pth (E.take t) (a :: p)
  | 0, h => h
  | k + 1, h => by
    by_cases hk : t + k < E.length
    · have e : E.take (t + (k + 1)) = E.take (t + k) ++ [((E[t + k]).1, (E[t + k]).2)] := by
        rw [← Nat.add_assoc, List.take_add_one, List.getElem?_eq_getElem hk]; rfl
      rw [e] at h
      have hc2 : Conn (E.take (t + k)) a b := hc.mono (fun x hx => List.take_subset_take_left E (by omega) hx)
      refine Grew1.path hE hn hl t hc k ?_
      rcases Pth.split h hn hl with k1 | ⟨k1, k2⟩ | ⟨k1, k2⟩
      · exact k1
      · exact absurd (k1.symm.trans (hc2.trans k2.symm)) (hE _ hk)
      · exact absurd ((k2.trans (hc2.symm)).trans k1) (hE _ hk)
    · have e : E.take (t + (k + 1)) = E.take (t + k) := by rw [List.take_of_length_le (by omega), List.take_of_length_le (by omega)]
      rw [e] at h
      exact Grew1.path hE hn hl t hc k h
theorem Grew1.way {E : Edges} (hE : Grew1 E) {p : List Nat} {a b : Nat} (hn : (a :: p).Nodup) (hl : (a :: p).getLast? = some b) (hp : Pth E (a :: p)) (t : Nat) (hc : Conn (E.take t) a b) : Pth (E.take t) (a :: p) := by
  refine hE.path hn hl t hc E.length ?_
  rw [List.take_of_length_le (by omega)]
  exact hp

end Go.Proofs.YtlehlgipbhfioaaGreat

namespace Go.Proofs.YtlehlgipbhfioaaGreat
open Go.RowKit Go.Maps

abbrev Pr := Nat × Nat
def ordP (a b : Nat) : Pr := (min a b, max a b)
theorem ordP_comm (a b : Nat) : ordP a b = ordP b a := by unfold ordP; rw [Nat.min_comm, Nat.max_comm]
theorem ordP_self {p : Pr} (h : p.1 ≤ p.2) : ordP p.1 p.2 = p := by unfold ordP; rw [Nat.min_eq_left h, Nat.max_eq_right h]

/-- For a goal, the way to it and its steps are there. -/
structure WayIs (E : Edges) (told goals : List Pr) (steps : List (Pr × List Pr)) (argp : Pr → List Pr) (g : Pr) (p : List Nat) : Prop where
  nd : (g.1 :: p).Nodup
  last : (g.1 :: p).getLast? = some g.2
  pth : Pth E (g.1 :: p)
  link : ∀ k x y : Nat, (g.1 :: p)[k]? = some x → (g.1 :: p)[k + 1]? = some y → ordP x y ∈ told ∨ ((ordP x y, argp (ordP x y)) ∈ steps ∧ ∀ q ∈ argp (ordP x y), q ∈ goals)
  pre : ∀ k x y : Nat, 1 ≤ k → (g.1 :: p)[k]? = some x → (g.1 :: p)[k + 1]? = some y → (ordP g.1 y, [ordP g.1 x, ordP x y]) ∈ steps

theorem Pth.at {E : Edges} : ∀ {p : List Nat} {k x y : Nat}, Pth E p → p[k]? = some x → p[k + 1]? = some y → AdjE E x y
  | [], _, _, _, _, h, _ => by simp at h
  | [_], k, _, _, _, _, h => by simp at h
  | a :: b :: r, 0, x, y, h, h1, h2 => by simp at h1 h2; subst h1; subst h2; exact h.1
  | a :: b :: r, k + 1, x, y, h, h1, h2 => Pth.at (p := b :: r) (k := k) h.2 (by simpa using h1) (by simpa using h2)

theorem steps_force {E : Edges} (hE : Grew1 E) {told goals : List Pr} {steps : List (Pr × List Pr)} {argp : Pr → List Pr} {F : Pr → Prop} (hr : ∀ a, F (a, a)) (ht : ∀ p ∈ told, F p)
    (hs : ∀ st ∈ steps, (∀ q ∈ st.2, F q) → F st.1) (ho : ∀ p, ∀ q ∈ argp p, q.1 ≤ q.2)
    (he : ∀ s (h : s < E.length), ordP (E[s]).1 (E[s]).2 ∈ told ∨ ∀ q ∈ argp (ordP (E[s]).1 (E[s]).2), Conn (E.take s) q.1 q.2)
    (hg : ∀ g ∈ goals, ∃ p, WayIs E told goals steps argp g p) (t : Nat) : ∀ g ∈ goals, Conn (E.take t) g.1 g.2 → F (ordP g.1 g.2) := by
  induction t using Nat.strongRecOn with
  | ind t ih =>
    intro g hgg hc
    obtain ⟨p, hp⟩ := hg g hgg
    have hway := hE.way hp.nd hp.last hp.pth t hc
    have edge : ∀ k x y : Nat, (g.1 :: p)[k]? = some x → (g.1 :: p)[k + 1]? = some y → F (ordP x y) := fun k x y h1 h2 => by
      rcases hp.link k x y h1 h2 with h | ⟨h, h3⟩
      · exact ht _ h
      · have hadj := hway.at h1 h2
        have hidx : ∃ s, s < t ∧ ∃ hs : s < E.length, ordP (E[s]).1 (E[s]).2 = ordP x y := by
          have fin : ∀ e, e ∈ E.take t → ∃ s, s < t ∧ ∃ hs : s < E.length, E[s] = e := fun e hm => by
            obtain ⟨s, hs1, hs2⟩ := List.mem_iff_getElem.1 hm
            have h5 : s < t ∧ s < E.length := by simpa [List.length_take, Nat.lt_min] using hs1
            exact ⟨s, h5.1, h5.2, by simpa using hs2⟩
          rcases hadj with h | h
          · obtain ⟨s, h1, h2, h3⟩ := fin _ h
            exact ⟨s, h1, h2, by rw [h3]⟩
          · obtain ⟨s, h1, h2, h3⟩ := fin _ h
            exact ⟨s, h1, h2, by rw [h3]; exact ordP_comm _ _⟩
        obtain ⟨s, hst, hsE, hse⟩ := hidx
        have := he s hsE
        rw [hse] at this
        rcases this with h5 | h5
        · exact ht _ h5
        · refine hs _ h (fun q hq => ?_)
          have h6 := ih s hst q (h3 q hq) (h5 q hq)
          rwa [ordP_self (ho _ q hq)] at h6
    have pre : ∀ k x : Nat, (g.1 :: p)[k]? = some x → F (ordP g.1 x) := by
      intro k
      induction k with
      | zero =>
        intro x hx
        simp at hx
        subst hx
        unfold ordP
        rw [Nat.min_self, Nat.max_self]
        exact hr _
      | succ k ih2 =>
        intro y hy
        have hk : k < (g.1 :: p).length := by
          have := (List.getElem?_eq_some_iff.1 hy).1
          omega
        have hx := List.getElem?_eq_getElem hk
        by_cases hk0 : k = 0
        · subst hk0
          have := edge 0 _ y hx hy
          simpa using this
        · refine hs _ (hp.pre k _ y (by omega) hx hy) (fun q hq => ?_)
          simp at hq
          rcases hq with rfl | rfl
          · exact ih2 _ hx
          · exact edge k _ y hx hy
    have hl := hp.last
    rw [List.getLast?_eq_getElem?] at hl
    exact pre _ _ hl

end Go.Proofs.YtlehlgipbhfioaaGreat

namespace Go.Proofs.YtlehlgipbhfioaaGreat
open Go.RowKit Go.Maps

/-- The neighbours of one term are come to. -/
def bfsIn (t : Nat) : List Nat → List Nat → List Nat → List Nat × List Nat
  | [], nx, td => (nx, td)
  | n :: ns, nx, td => if nx[n]?.getD 0 = 0 then bfsIn t ns (nx.set n (t + 1)) (td ++ [n]) else bfsIn t ns nx td
def bfs (L : List (List Nat)) (a : Nat) : Nat → List Nat → List Nat → Option (List Nat)
  | 0, _, _ => none
  | f + 1, nx, td => if nx[a]?.getD 0 ≠ 0 then some nx else match td with
    | [] => none
    | t :: r => bfs L a f (bfsIn t (L[t]?.getD []) nx (t :: r)).1 (bfsIn t (L[t]?.getD []) nx (t :: r)).2.tail
def wayTo (nx : List Nat) (b : Nat) : Nat → Nat → Option (List Nat)
  | 0, _ => none
  | f + 1, n => if n = b then some [] else (wayTo nx b f (nx[n]?.getD 0 - 1)).map ((nx[n]?.getD 0 - 1) :: ·)
def pathN (L : List (List Nat)) (a b : Nat) : Option (List Nat) :=
  match bfs L a (L.length + 2) ((List.replicate L.length 0).set b (b + 1)) [b] with
  | none => none
  | some nx => (wayTo nx b (L.length + 1) a).map (a :: ·)

structure Bf (L : List (List Nat)) (b : Nat) (nx td done : List Nat) : Prop where
  len : nx.length = L.length
  nd : (done ++ td).Nodup
  mem : ∀ x, x ∈ done ++ td ↔ (x < L.length ∧ nx[x]?.getD 0 ≠ 0)
  root : nx[b]?.getD 0 = b + 1
  par : ∀ i x : Nat, (done ++ td)[i]? = some x → x ≠ b → ∃ j y : Nat, j < i ∧ (done ++ td)[j]? = some y ∧ nx[x]?.getD 0 = y + 1 ∧ x ∈ L[y]?.getD []
  clos : ∀ x ∈ done, ∀ y ∈ L[x]?.getD [], y ∈ done ++ td

theorem Bf.inn {L : List (List Nat)} {b t : Nat} {r done : List Nat} : ∀ (ns nx td : List Nat), (∀ n ∈ ns, n < L.length ∧ n ∈ L[t]?.getD []) → Bf L b nx td done → t ∈ done ++ td → (∃ u, td = t :: r ++ u) →
    Bf L b (bfsIn t ns nx td).1 (bfsIn t ns nx td).2 done ∧ (∃ u, (bfsIn t ns nx td).2 = t :: r ++ u) ∧ (∀ x, x ∈ td → x ∈ (bfsIn t ns nx td).2) ∧ ∀ n ∈ ns, n ∈ done ++ (bfsIn t ns nx td).2
  | [], nx, td, _, h, _, hu => ⟨h, hu, fun _ h => h, by simp⟩
  | n :: ns, nx, td, hn, h, ht, hu => by
    obtain ⟨hnl, hnt⟩ := hn n (by simp)
    rw [bfsIn]
    by_cases h0 : nx[n]?.getD 0 = 0
    · rw [if_pos h0]
      have hnew : n ∉ done ++ td := fun hm => ((h.mem n).1 hm).2 h0
      have hS : ∀ x, (nx.set n (t + 1))[x]?.getD 0 = if x = n then t + 1 else nx[x]?.getD 0 := fun x => by
        by_cases e : x = n
        · subst e; rw [if_pos rfl, List.getElem?_set_self (by rw [h.len]; exact hnl)]; rfl
        · rw [if_neg e, List.getElem?_set_ne (fun e2 => e e2.symm)]
      have hbn : b ≠ n := fun e => by have := h.root; rw [e, h0] at this; omega
      have e1 : done ++ (td ++ [n]) = (done ++ td) ++ [n] := by simp
      obtain ⟨u, hu⟩ := hu
      have h' : Bf L b (nx.set n (t + 1)) (td ++ [n]) done := by
        refine ⟨by rw [List.length_set, h.len], ?_, fun x => ?_, ?_, fun i x hx hxb => ?_, fun x hx y hy => ?_⟩
        · rw [e1, List.nodup_append]
          refine ⟨h.nd, by simp, fun x hx y hy => ?_⟩
          simp at hy
          subst hy
          exact fun e => hnew (e ▸ hx)
        · rw [e1, hS, List.mem_append, h.mem, List.mem_singleton]
          by_cases e : x = n
          · subst e; simp [hnl]
          · simp [e]
        · rw [hS, if_neg hbn]; exact h.root
        · rw [e1] at hx ⊢
          obtain ⟨ti, ht1, ht2⟩ := List.mem_iff_getElem.1 ht
          by_cases hi : i < (done ++ td).length
          · rw [List.getElem?_append_left hi] at hx
            obtain ⟨j, y, h1, h2, h3, h4⟩ := h.par i x hx hxb
            have hxn : x ≠ n := fun e => hnew (e ▸ List.mem_of_getElem? hx)
            refine ⟨j, y, h1, ?_, ?_, h4⟩
            · rw [List.getElem?_append_left (by omega)]; exact h2
            · rw [hS, if_neg hxn]; exact h3
          · have hi2 : i = (done ++ td).length := by
              have := (List.getElem?_eq_some_iff.1 hx).1
              simp at this hi ⊢; omega
            rw [hi2, List.getElem?_append_right (Nat.le_refl _)] at hx
            simp at hx
            subst hx
            refine ⟨ti, t, by rw [hi2]; exact ht1, ?_, ?_, hnt⟩
            · rw [List.getElem?_append_left ht1, List.getElem?_eq_getElem ht1, ht2]
            · rw [hS, if_pos rfl]
        · rw [e1]
          exact List.mem_append_left _ (h.clos x hx y hy)
      obtain ⟨r1, r2, r3, r4⟩ := Bf.inn (r := r) ns _ _ (fun m hm => hn m (by simp [hm])) h' (by rw [e1]; exact List.mem_append_left _ ht) ⟨u ++ [n], by rw [hu]; simp⟩
      refine ⟨r1, r2, fun x hx => r3 x (by simp [hx]), fun m hm => ?_⟩
      rcases List.mem_cons.1 hm with rfl | hm
      · exact List.mem_append_right _ (r3 _ (by simp))
      · exact r4 m hm
    · rw [if_neg h0]
      obtain ⟨r1, r2, r3, r4⟩ := Bf.inn ns nx td (fun m hm => hn m (by simp [hm])) h ht hu
      refine ⟨r1, r2, r3, fun m hm => ?_⟩
      rcases List.mem_cons.1 hm with rfl | hm
      · rcases List.mem_append.1 ((h.mem _).2 ⟨hnl, h0⟩) with h5 | h5
        · exact List.mem_append_left _ h5
        · exact List.mem_append_right _ (r3 _ h5)
      · exact r4 m hm

theorem nodup_le {l : List Nat} {n : Nat} (hn : l.Nodup) (hl : ∀ x ∈ l, x < n) : l.length ≤ n := by
  have h := List.Nodup.length_le_of_subset hn (l₂ := List.range n) (fun x hx => List.mem_range.2 (hl x hx))
  simpa using h

/-- The links as lists say what the links are. -/
structure LnkIs (L : List (List Nat)) (E : Edges) : Prop where
  adj : ∀ x y : Nat, y ∈ L[x]?.getD [] ↔ AdjE E x y
  lt : ∀ x y : Nat, y ∈ L[x]?.getD [] → y < L.length

theorem bfs_ok {L : List (List Nat)} {E : Edges} (hL : LnkIs L E) {a b : Nat} (hab : Conn E b a) (ha : a < L.length) : ∀ (f : Nat) (nx td done : List Nat), Bf L b nx td done → b ∈ done ++ td → L.length + 1 ≤ f + done.length →
    ∃ nx' td' done', bfs L a f nx td = some nx' ∧ Bf L b nx' td' done' ∧ nx'[a]?.getD 0 ≠ 0
  | 0, nx, td, done, h, _, hf => by
    have := nodup_le (l := done) (h.nd.sublist (List.sublist_append_left _ _)) (fun x hx => ((h.mem x).1 (List.mem_append_left _ hx)).1)
    omega
  | f + 1, nx, td, done, h, hb, hf => by
    rw [bfs.eq_def]
    simp only
    by_cases h0 : nx[a]?.getD 0 ≠ 0
    · rw [if_pos h0]
      exact ⟨nx, td, done, rfl, h, h0⟩
    · rw [if_neg h0]
      match td, h, hb with
      | [], h, hb =>
        exfalso
        rw [List.append_nil] at hb
        have key : ∀ y, Conn E b y → y ∈ done := fun y hy => by
          induction hy with
          | refl => exact hb
          | step _ e ih => simpa using h.clos _ ih _ ((hL.adj _ _).2 e)
        exact h0 ((h.mem a).1 (List.mem_append_left _ (key a hab))).2
      | t :: r, h, hb =>
        have ht : t ∈ done ++ t :: r := by simp
        have htl : t < L.length := ((h.mem t).1 ht).1
        obtain ⟨r1, ⟨u, hu⟩, r3, r4⟩ := Bf.inn (r := r) (L[t]?.getD []) nx (t :: r) (fun n hn => ⟨hL.lt t n hn, hn⟩) h ht ⟨[], by simp⟩
        simp only
        have e : done ++ (bfsIn t (L[t]?.getD []) nx (t :: r)).2 = (done ++ [t]) ++ (bfsIn t (L[t]?.getD []) nx (t :: r)).2.tail := by rw [hu]; simp
        refine bfs_ok hL hab ha f _ _ (done ++ [t]) ⟨r1.len, e ▸ r1.nd, e ▸ r1.mem, r1.root, e ▸ r1.par, fun x hx y hy => ?_⟩ ?_ (by simp; omega)
        · rw [← e]
          rcases List.mem_append.1 hx with hx | hx
          · exact r1.clos x hx y hy
          · simp at hx
            subst hx
            exact r4 y hy
        · rw [← e]
          rcases List.mem_append.1 hb with hb | hb
          · exact List.mem_append_left _ hb
          · exact List.mem_append_right _ (r3 _ hb)

theorem wayTo_ok {L : List (List Nat)} {b : Nat} {nx td done : List Nat} (h : Bf L b nx td done) : ∀ (f i x : Nat), (done ++ td)[i]? = some x → i < f →
    ∃ p, wayTo nx b f x = some p ∧ (x :: p).getLast? = some b ∧ (∀ z ∈ p, ∃ j : Nat, j < i ∧ (done ++ td)[j]? = some z) ∧ (x :: p).Nodup ∧ ∀ k u v : Nat, (x :: p)[k]? = some u → (x :: p)[k + 1]? = some v → u ∈ L[v]?.getD []
  | 0, _, _, _, h => by omega
  | f + 1, i, x, hx, hf => by
    rw [wayTo]
    by_cases e : x = b
    · rw [if_pos e]
      exact ⟨[], rfl, by simp [e], by simp, by simp, fun k u v h1 h2 => by simp at h2⟩
    · rw [if_neg e]
      obtain ⟨j, y, h1, h2, h3, h4⟩ := h.par i x hx e
      obtain ⟨p, g1, g2, g3, g4, g5⟩ := wayTo_ok h f j y h2 (by omega)
      rw [h3, Nat.add_sub_cancel, g1]
      have hidx : ∀ z ∈ y :: p, ∃ j : Nat, j < i ∧ (done ++ td)[j]? = some z := fun z hz => by
        rcases List.mem_cons.1 hz with rfl | hz
        · exact ⟨j, h1, h2⟩
        · obtain ⟨j', h5, h6⟩ := g3 z hz
          exact ⟨j', by omega, h6⟩
      refine ⟨y :: p, rfl, by rw [List.getLast?_cons_cons]; exact g2, hidx, List.nodup_cons.2 ⟨fun hm => ?_, g4⟩, fun k u v hk hk2 => ?_⟩
      · obtain ⟨j', h5, h6⟩ := hidx x hm
        have hi : i < (done ++ td).length := (List.getElem?_eq_some_iff.1 hx).1
        have e1 := (List.getElem?_eq_some_iff.1 h6).2
        have e2 := (List.getElem?_eq_some_iff.1 hx).2
        have h7 := List.pairwise_iff_getElem.1 h.nd j' i (by omega) hi h5
        exact h7 (e1.trans e2.symm)
      · cases k with
        | zero => simp at hk hk2; subst hk; subst hk2; exact h4
        | succ k => exact g5 k u v (by simpa using hk) (by simpa using hk2)

theorem Pth.of {E : Edges} : ∀ {p : List Nat}, (∀ k u v : Nat, p[k]? = some u → p[k + 1]? = some v → AdjE E u v) → Pth E p
  | [], _ => trivial
  | [_], _ => trivial
  | a :: b :: r, h => ⟨h 0 a b rfl rfl, Pth.of (p := b :: r) (fun k u v h1 h2 => h (k + 1) u v (by simpa using h1) (by simpa using h2))⟩

/-- path answers a simple way. -/
theorem path_ok {L : List (List Nat)} {E : Edges} (hL : LnkIs L E) {a b : Nat} (hab : Conn E a b) (ha : a < L.length) (hb : b < L.length) :
    ∃ p, pathN L a b = some (a :: p) ∧ (a :: p).Nodup ∧ (a :: p).getLast? = some b ∧ Pth E (a :: p) ∧ ∀ x ∈ a :: p, x < L.length := by
  have hS : ∀ x, ((List.replicate L.length 0).set b (b + 1))[x]?.getD 0 = if x = b then b + 1 else 0 := fun x => by
    by_cases e : x = b
    · subst e; rw [if_pos rfl, List.getElem?_set_self (by simpa using hb)]; rfl
    · rw [if_neg e, List.getElem?_set_ne (fun e2 => e e2.symm), List.getElem?_replicate]
      split <;> rfl
  have h0 : Bf L b ((List.replicate L.length 0).set b (b + 1)) [b] [] := by
    refine ⟨by simp, by simp, fun x => ?_, by rw [hS, if_pos rfl], fun i x hx hxb => ?_, by simp⟩
    · rw [hS]
      by_cases e : x = b
      · subst e; simp [hb]
      · simp [e]
    · exfalso
      have := List.mem_of_getElem? hx
      simp at this
      exact hxb this
  obtain ⟨nx, td, done, e1, e2, e3⟩ := bfs_ok hL hab.symm ha (L.length + 2) _ [b] [] h0 (by simp) (by simp)
  obtain ⟨i, hi, he⟩ := List.mem_iff_getElem.1 ((e2.mem a).2 ⟨ha, e3⟩)
  have hlen := nodup_le e2.nd (fun x hx => ((e2.mem x).1 hx).1)
  obtain ⟨p, g1, g2, g3, g4, g5⟩ := wayTo_ok e2 (L.length + 1) i a (by rw [List.getElem?_eq_getElem hi, he]) (by omega)
  refine ⟨p, by unfold pathN; rw [e1]; simp only; rw [g1]; rfl, g4, g2, Pth.of (fun k u v h1 h2 => ((hL.adj v u).1 (g5 k u v h1 h2)).symm), fun x hx => ?_⟩
  rcases List.mem_cons.1 hx with rfl | hx
  · exact ha
  · obtain ⟨j, _, hj⟩ := g3 x hx
    exact ((e2.mem x).1 (List.mem_of_getElem? hj)).1

end Go.Proofs.YtlehlgipbhfioaaGreat

namespace Go.Proofs.YtlehlgipbhfioaaGreat
open Go.RowKit Go.Maps

def addP (l : List Pr) : List Pr → List Pr
  | [] => l
  | a :: r => addP (if a ∈ l then l else l ++ [a]) r
abbrev Stq := Pr × List Pr
/-- The steps along a way; t: whether it is the first link. -/
def stepsK (told : List Pr) (argp : Pr → List Pr) (a : Nat) : Bool → List Nat → List Stq → List Pr → List Stq × List Pr
  | t, x :: y :: r, S, G =>
    stepsK told argp a false (y :: r)
      ((if ordP x y ∈ told then S else S ++ [(ordP x y, argp (ordP x y))]) ++ (if t then [] else [(ordP a y, [ordP a x, ordP x y])]))
      (if ordP x y ∈ told then G else addP G (argp (ordP x y)))
  | _, _, S, G => (S, G)
def stepsI (L : List (List Nat)) (told : List Pr) (argp : Pr → List Pr) : Nat → Nat → List Stq → List Pr → Option (List Stq)
  | 0, _, _, _ => none
  | f + 1, i, S, G => match G[i]? with
    | none => some S
    | some g => match pathN L g.1 g.2 with
      | none => none
      | some p => stepsI L told argp f (i + 1) (stepsK told argp g.1 true p S G).1 (stepsK told argp g.1 true p S G).2
def stepsN (L : List (List Nat)) (told : List Pr) (argp : Pr → List Pr) (g : Pr) : Option (List Stq) := stepsI L told argp (L.length * L.length + 2) 0 [] [g]

theorem addP_ok (Q : Pr → Prop) : ∀ (r l : List Pr), l.Nodup → (∀ q ∈ l, Q q) → (∀ q ∈ r, Q q) → (addP l r).Nodup ∧ (∀ q ∈ addP l r, Q q) ∧ (∃ u, addP l r = l ++ u) ∧ ∀ q ∈ r, q ∈ addP l r
  | [], l, h, h1, _ => ⟨h, h1, ⟨[], by simp [addP]⟩, by simp⟩
  | a :: r, l, h, h1, h2 => by
    rw [addP]
    by_cases e : a ∈ l
    · rw [if_pos e]
      obtain ⟨r1, r2, ⟨u, r3⟩, r4⟩ := addP_ok Q r l h h1 (fun q hq => h2 q (by simp [hq]))
      refine ⟨r1, r2, ⟨u, r3⟩, fun q hq => ?_⟩
      rcases List.mem_cons.1 hq with rfl | hq
      · rw [r3]; exact List.mem_append_left _ e
      · exact r4 q hq
    · rw [if_neg e]
      obtain ⟨r1, r2, ⟨u, r3⟩, r4⟩ := addP_ok Q r (l ++ [a]) (by
        rw [List.nodup_append]
        refine ⟨h, by simp, fun x hx y hy => ?_⟩
        simp at hy; subst hy
        exact fun e2 => e (e2 ▸ hx)) (fun q hq => by
        rcases List.mem_append.1 hq with hq | hq
        · exact h1 q hq
        · simp at hq; subst hq; exact h2 _ (by simp)) (fun q hq => h2 q (by simp [hq]))
      refine ⟨r1, r2, ⟨[a] ++ u, by rw [r3]; simp⟩, fun q hq => ?_⟩
      rcases List.mem_cons.1 hq with rfl | hq
      · rw [r3]; simp
      · exact r4 q hq

theorem WayIs.mono {E : Edges} {told G G' : List Pr} {S S' : List Stq} {argp : Pr → List Pr} {g : Pr} {p : List Nat} (h : WayIs E told G S argp g p) (hG : ∀ q ∈ G, q ∈ G') (hS : ∀ q ∈ S, q ∈ S') : WayIs E told G' S' argp g p :=
  ⟨h.nd, h.last, h.pth, fun k x y h1 h2 => (h.link k x y h1 h2).imp (fun x => x) (fun z => ⟨hS _ z.1, fun q hq => hG q (z.2 q hq)⟩), fun k x y h0 h1 h2 => hS _ (h.pre k x y h0 h1 h2)⟩

theorem stepsK_ok {E : Edges} {told : List Pr} {argp : Pr → List Pr} {Q : Pr → Prop} (hQ : ∀ x y, AdjE E x y → ordP x y ∉ told → ∀ q ∈ argp (ordP x y), Q q) (a : Nat) : ∀ (p : List Nat) (t : Bool) (S : List Stq) (G : List Pr), Pth E p → G.Nodup → (∀ q ∈ G, Q q) →
    (stepsK told argp a t p S G).2.Nodup ∧ (∀ q ∈ (stepsK told argp a t p S G).2, Q q) ∧ (∃ u, (stepsK told argp a t p S G).2 = G ++ u) ∧ (∀ q ∈ S, q ∈ (stepsK told argp a t p S G).1) ∧
    (∀ k x y : Nat, p[k]? = some x → p[k + 1]? = some y → ordP x y ∈ told ∨ ((ordP x y, argp (ordP x y)) ∈ (stepsK told argp a t p S G).1 ∧ ∀ q ∈ argp (ordP x y), q ∈ (stepsK told argp a t p S G).2)) ∧
    (∀ k x y : Nat, (1 ≤ k ∨ t = false) → p[k]? = some x → p[k + 1]? = some y → (ordP a y, [ordP a x, ordP x y]) ∈ (stepsK told argp a t p S G).1)
  | [], t, S, G, _, h, h1 => ⟨h, h1, ⟨[], by simp [stepsK]⟩, fun _ h => h, fun k x y e => by simp at e, fun k x y _ e => by simp at e⟩
  | [z], t, S, G, _, h, h1 => ⟨h, h1, ⟨[], by simp [stepsK]⟩, fun _ h => h, fun k x y _ e => by simp at e, fun k x y _ _ e => by simp at e⟩
  | x :: y :: r, t, S, G, hp, h, h1 => by
    rw [stepsK]
    have hG1 : (if ordP x y ∈ told then G else addP G (argp (ordP x y))).Nodup ∧ (∀ q ∈ (if ordP x y ∈ told then G else addP G (argp (ordP x y))), Q q) ∧ (∃ u, (if ordP x y ∈ told then G else addP G (argp (ordP x y))) = G ++ u) ∧ (ordP x y ∉ told → ∀ q ∈ argp (ordP x y), q ∈ (if ordP x y ∈ told then G else addP G (argp (ordP x y)))) := by
      by_cases e : ordP x y ∈ told
      · simp only [if_pos e]
        exact ⟨h, h1, ⟨[], by simp⟩, fun x => absurd e x⟩
      · simp only [if_neg e]
        obtain ⟨r1, r2, r3, r4⟩ := addP_ok Q (argp (ordP x y)) G h h1 (hQ x y hp.1 e)
        exact ⟨r1, r2, r3, fun _ => r4⟩
    obtain ⟨g1, g2, ⟨u, g3⟩, g4⟩ := hG1
    have hS1 : ∀ q ∈ S, q ∈ (if ordP x y ∈ told then S else S ++ [(ordP x y, argp (ordP x y))]) ++ (if t then [] else [(ordP a y, [ordP a x, ordP x y])]) := fun q hq => by
      refine List.mem_append_left _ ?_
      split
      · exact hq
      · simp [hq]
    have hS2 : ordP x y ∉ told → (ordP x y, argp (ordP x y)) ∈ (if ordP x y ∈ told then S else S ++ [(ordP x y, argp (ordP x y))]) ++ (if t then [] else [(ordP a y, [ordP a x, ordP x y])]) := fun e => by
      rw [if_neg e]; simp
    have hS3 : t = false → (ordP a y, [ordP a x, ordP x y]) ∈ (if ordP x y ∈ told then S else S ++ [(ordP x y, argp (ordP x y))]) ++ (if t then [] else [(ordP a y, [ordP a x, ordP x y])]) := fun e => by
      subst e; simp
    generalize (if ordP x y ∈ told then S else S ++ [(ordP x y, argp (ordP x y))]) ++ (if t then [] else [(ordP a y, [ordP a x, ordP x y])]) = S1 at *
    generalize (if ordP x y ∈ told then G else addP G (argp (ordP x y))) = G1 at *
    obtain ⟨r1, r2, ⟨u2, r3⟩, r4, r5, r6⟩ := stepsK_ok hQ a (y :: r) false S1 G1 hp.2 g1 g2
    refine ⟨r1, r2, ⟨u ++ u2, by rw [r3, g3]; simp⟩, fun q hq => r4 q (hS1 q hq), fun k x' y' e1 e2 => ?_, fun k x' y' hk e1 e2 => ?_⟩
    · cases k with
      | zero =>
        simp at e1 e2
        subst e1; subst e2
        by_cases e : ordP x y ∈ told
        · exact Or.inl e
        · exact Or.inr ⟨r4 _ (hS2 e), fun q hq => by rw [r3]; exact List.mem_append_left _ (g4 e q hq)⟩
      | succ k => exact r5 k x' y' (by simpa using e1) (by simpa using e2)
    · cases k with
      | zero =>
        simp at e1 e2
        subst e1; subst e2
        refine r4 _ (hS3 ?_)
        rcases hk with hk | hk
        · omega
        · exact hk
      | succ k => exact r6 k x' y' (Or.inr rfl) (by simpa using e1) (by simpa using e2)

theorem pairs_le {l : List Pr} {n : Nat} (hn : l.Nodup) (hl : ∀ q ∈ l, q.1 < n ∧ q.2 < n) : l.length ≤ n * n := by
  have h := List.Nodup.length_le_of_subset hn (l₂ := (List.range n).flatMap fun a => (List.range n).map fun b => (a, b)) (fun q hq => by
    obtain ⟨h1, h2⟩ := hl q hq
    exact List.mem_flatMap.2 ⟨q.1, List.mem_range.2 h1, List.mem_map.2 ⟨q.2, List.mem_range.2 h2, rfl⟩⟩)
  have e : ((List.range n).flatMap fun a => (List.range n).map fun b => (a, b)).length = n * n := by
    rw [List.length_flatMap]
    simp only [List.length_map, List.length_range]
    have : ∀ (l : List Nat), (l.map fun _ => n).sum = l.length * n := fun l => by
      induction l with
      | nil => simp
      | cons x l ih => simp only [List.map_cons, List.sum_cons, ih, List.length_cons, Nat.succ_mul]; omega
    rw [this, List.length_range]
  omega

/-- The steps are told, and there are ways for all goals. -/
theorem stepsI_ok {L : List (List Nat)} {E : Edges} (hL : LnkIs L E) {told : List Pr} {argp : Pr → List Pr} (hQ : ∀ x y, AdjE E x y → ordP x y ∉ told → ∀ q ∈ argp (ordP x y), Conn E q.1 q.2 ∧ q.1 < L.length ∧ q.2 < L.length) : ∀ (f i : Nat) (S : List Stq) (G : List Pr), G.Nodup → (∀ q ∈ G, Conn E q.1 q.2 ∧ q.1 < L.length ∧ q.2 < L.length) →
    (∀ j g, j < i → G[j]? = some g → ∃ p, WayIs E told G S argp g p) → L.length * L.length + 2 ≤ f + i → i ≤ G.length →
    ∃ S' G', stepsI L told argp f i S G = some S' ∧ (∃ u, G' = G ++ u) ∧ (∀ q ∈ S, q ∈ S') ∧ (∀ q ∈ G', Conn E q.1 q.2 ∧ q.1 < L.length ∧ q.2 < L.length) ∧ ∀ g ∈ G', ∃ p, WayIs E told G' S' argp g p
  | 0, i, S, G, hn, hc, _, hf, hi => by
    have := pairs_le hn (fun q hq => (hc q hq).2)
    omega
  | f + 1, i, S, G, hn, hc, hw, hf, hi => by
    rw [stepsI]
    cases hg : G[i]? with
    | none =>
      have hge := List.getElem?_eq_none_iff.1 hg
      refine ⟨S, G, rfl, ⟨[], by simp⟩, fun _ h => h, hc, fun g hgm => ?_⟩
      obtain ⟨j, hj, he⟩ := List.mem_iff_getElem.1 hgm
      exact hw j g (by omega) (by rw [List.getElem?_eq_getElem hj, he])
    | some g =>
      have hgm := List.mem_of_getElem? hg
      have hlt := (List.getElem?_eq_some_iff.1 hg).1
      obtain ⟨hcg, hg1, hg2⟩ := hc g hgm
      obtain ⟨p, e1, e2, e3, e4, e5⟩ := path_ok hL hcg hg1 hg2
      simp only [e1]
      obtain ⟨r1, r2, ⟨u, r3⟩, r4, r5, r6⟩ := stepsK_ok (Q := fun q => Conn E q.1 q.2 ∧ q.1 < L.length ∧ q.2 < L.length) hQ g.1 (g.1 :: p) true S G e4 hn hc
      generalize stepsK told argp g.1 true (g.1 :: p) S G = SG at *
      obtain ⟨S1, G1⟩ := SG
      simp only at r1 r2 r3 r4 r5 r6
      obtain ⟨S', G', k1, ⟨u2, k2⟩, k3, k4, k5⟩ := stepsI_ok hL hQ f (i + 1) S1 G1 r1 r2 (fun j g' hj he => by
        rw [r3, List.getElem?_append_left (by omega)] at he
        by_cases hji : j = i
        · subst hji
          rw [hg] at he
          cases he
          exact ⟨p, e2, e3, e4, r5, fun k x y hk h1 h2 => r6 k x y (Or.inl hk) h1 h2⟩
        · obtain ⟨p', hp'⟩ := hw j g' (by omega) he
          exact ⟨p', hp'.mono (fun q hq => by rw [r3]; exact List.mem_append_left _ hq) r4⟩) (by omega) (by rw [r3]; simp; omega)
      exact ⟨S', G', k1, ⟨u ++ u2, by rw [k2, r3]; simp⟩, fun q hq => k3 q (r4 q hq), k4, k5⟩

/-- A goal that follows is forced by its steps. -/
theorem stepsN_ok {L : List (List Nat)} {E : Edges} (hL : LnkIs L E) (hE : Grew1 E) {told : List Pr} {argp : Pr → List Pr} (ho : ∀ p, ∀ q ∈ argp p, q.1 ≤ q.2 ∧ q.1 < L.length ∧ q.2 < L.length)
    (he : ∀ s (h : s < E.length), ordP (E[s]).1 (E[s]).2 ∈ told ∨ ∀ q ∈ argp (ordP (E[s]).1 (E[s]).2), Conn (E.take s) q.1 q.2) {g : Pr} (hg : Conn E g.1 g.2) (hg1 : g.1 < L.length) (hg2 : g.2 < L.length) :
    ∃ S, stepsN L told argp g = some S ∧ ∀ F : Pr → Prop, (∀ a, F (a, a)) → (∀ p ∈ told, F p) → (∀ st ∈ S, (∀ q ∈ st.2, F q) → F st.1) → F (ordP g.1 g.2) := by
  have hQ : ∀ x y, AdjE E x y → ordP x y ∉ told → ∀ q ∈ argp (ordP x y), Conn E q.1 q.2 ∧ q.1 < L.length ∧ q.2 < L.length := fun x y hxy hn q hq => by
    have hidx : ∃ s, ∃ hs : s < E.length, ordP (E[s]).1 (E[s]).2 = ordP x y := by
      rcases hxy with h | h
      · obtain ⟨s, hs, e⟩ := List.mem_iff_getElem.1 h
        exact ⟨s, hs, by rw [e]⟩
      · obtain ⟨s, hs, e⟩ := List.mem_iff_getElem.1 h
        exact ⟨s, hs, by rw [e]; exact ordP_comm _ _⟩
    obtain ⟨s, hs, e⟩ := hidx
    have := he s hs
    rw [e] at this
    rcases this with h | h
    · exact absurd h hn
    · exact ⟨(h q hq).mono (fun x hx => List.mem_of_mem_take hx), (ho _ q hq).2⟩
  obtain ⟨S, G, k1, ⟨u, k2⟩, _, k4, k5⟩ := stepsI_ok hL hQ (L.length * L.length + 2) 0 [] [g] (by simp) (by simp only [List.mem_singleton, forall_eq]; exact ⟨hg, hg1, hg2⟩) (fun j g' hj => by omega) (by omega) (by omega)
  refine ⟨S, k1, fun F h1 h2 h3 => ?_⟩
  exact steps_force hE h1 h2 h3 (fun p q hq => (ho p q hq).1) he k5 E.length g (by rw [k2]; simp) (by rw [List.take_length]; exact hg)

end Go.Proofs.YtlehlgipbhfioaaGreat
